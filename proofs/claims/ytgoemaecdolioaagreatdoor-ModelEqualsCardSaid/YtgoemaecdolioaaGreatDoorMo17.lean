/-
  Texts TfC to TfC, as one.
-/
import Derived.Test.YtgoemaecdolioaaGreatDoorMo16
import Derived.LaidEqlPtr
/-
  tree: Move, what is done. Written by gen_tfc.py.
-/
namespace Go.Proofs.YtgoemaecdolioaaGreatDoor
open Go.RowKit Go.Shelf
attribute [local go_sem] Oper.semAt_some

theorem info_node : ∃ j, Tryz.prog.info? 108 = some j ∧ j.size ≠ 0 := by
  have h : (Tryz.prog.info? 108).map (·.size) = some 4 := by kernel_rfl
  cases hj : Tryz.prog.info? 108 with
  | none => rw [hj] at h; cases h
  | some j =>
    rw [hj] at h
    simp only [Option.map_some, Option.some.injEq] at h
    exact ⟨j, rfl, by omega⟩
theorem eql_node_same (n : Nat) (w : World) : (binOp .eql 103 (.pointer (some ⟨n, 0, none⟩)) (.pointer (some ⟨n, 0, none⟩))).run Tryz.prog w = .ok (.bool true) w := by
  obtain ⟨j, hj, -⟩ := info_node
  exact run_eql_ptr_same w ⟨n, 0, none⟩ Tryz.underlying103 hj
theorem eql_node_other {w : World} {b c : Nat} {x y : TN} (hb : NodeAt w b x) (hc : NodeAt w c y) (h : b ≠ c) : (binOp .eql 103 (.pointer (some ⟨b, 0, none⟩)) (.pointer (some ⟨c, 0, none⟩))).run Tryz.prog w = .ok (.bool false) w := by
  obtain ⟨j, hj, hz⟩ := info_node
  exact run_eql_ptr_other w Tryz.underlying103 hj hz (fun e => h (by cases e; rfl)) hb.blk hc.blk
theorem eql_node_none (n : Nat) (w : World) : (binOp .eql 103 (.pointer none) (.pointer (some ⟨n, 0, none⟩))).run Tryz.prog w = .ok (.bool false) w := by
  have h : ∀ d : Nat, (Op.equalIn (d + 1) 103 (.pointer none) (.pointer (some ⟨n, 0, none⟩))).run Tryz.prog w = .ok false w := fun d => by
    simp [Op.equalIn, run_underlying Tryz.underlying103]
  simp only [binOp]
  simp [Op.equal, Op.maxDepth, h 9999]
/-- What Move leaves, or why it is refused. -/
def moveT (G : Gr) (r : Nat) (f s : List UInt8) (n : Nat) (y : TN) (d2 : Nat) (x2 : TN) : Except Int (Nat → Gr → Prop) := match lookNm x2.nm (lastN (splitE s).1) with
  | none => .ok fun _ G' => ∃ d1 x1, MoveAt G r (splitE f).1 d1 n d2 (lastN (splitE s).1) x1 y x2 ∧ G' = movedG G d1 x1 (lastN (splitE f).1) n y d2 x2 (lastN (splitE s).1)
  | some c => if c = n then .ok fun _ G' => G' = G else match G c with
    | none => .error 0
    | some z => if giveN z y ≠ 0 then .error (giveN z y) else .ok fun _ G' => ∃ d1 x1 y' x2', MoveAt (lessG G d2 x2 (lastN (splitE s).1) c z) r (splitE f).1 d1 n d2 (lastN (splitE s).1) x1 y' x2' ∧ G' = movedG (lessG G d2 x2 (lastN (splitE s).1) c z) d1 x1 (lastN (splitE f).1) n y' d2 x2' (lastN (splitE s).1)
def moveQ (G : Gr) (r : Nat) (f s : List UInt8) : Except Int (Nat → Gr → Prop) := if (splitE f).2 ≠ 0 then .error (splitE f).2 else if (splitE s).2 ≠ 0 then .error (splitE s).2 else if (splitE f).1 = [] ∨ (splitE s).1 = [] then .error 200 else match walkN G r (splitE f).1 with
  | .error c => .error c
  | .ok n => match G n with
    | none => .error 0
    | some y => if (y.isDir && (withinE s f).1) = true then .error 206 else match spotN G r (splitE s).1 with
      | .error c => .error c
      | .ok d2 => match G d2 with
        | none => .error 0
        | some x2 => moveT G r f s n y d2 x2
/-- What must be known of the tree: nothing moves into itself, and the first spot stands when the second one was cleared. -/
def MoveFine (G : Gr) (r : Nat) (f s : List UInt8) : Prop := (splitE f).2 = 0 → (splitE s).2 = 0 → (splitE f).1 ≠ [] → (splitE s).1 ≠ [] → ∀ n y d2 x2, walkN G r (splitE f).1 = .ok n → G n = some y → (y.isDir && (withinE s f).1) = false → spotN G r (splitE s).1 = .ok d2 → G d2 = some x2 →
  (lookNm x2.nm (lastN (splitE s).1) = none → ∃ d1 x1, MoveAt G r (splitE f).1 d1 n d2 (lastN (splitE s).1) x1 y x2) ∧
  (∀ c z, lookNm x2.nm (lastN (splitE s).1) = some c → c ≠ n → G c = some z → giveN z y = 0 → ∃ d1 x1 y' x2', MoveAt (lessG G d2 x2 (lastN (splitE s).1) c z) r (splitE f).1 d1 n d2 (lastN (splitE s).1) x1 y' x2')
def NoStr (W : World) (k : Nat) : Prop := ∀ off z, W.cell? ⟨k, off, none⟩ ≠ some (.string z)
theorem txs_turn {W W' : World} {v : Value} {l : List (List UInt8)} {q : Nat → Prop} (h : TxS W v l) (ht : Turn q W W') (hq : ∀ j, q j → j < W.heap.size → NoStr W j) : TxS W' v l := by
  obtain ⟨hl, a, cap, hv, hlc, hc⟩ := h
  refine ⟨hl, a, cap, hv, hlc, fun h0 => ?_⟩
  obtain ⟨b, off, h1, h2, h3⟩ := hc h0
  have hl0 : 0 < (l.map encStr).length := by rw [List.length_map]; exact h0
  have hne : ¬ q b := fun hqb => by
    have := h3 0 _ (List.getElem?_eq_getElem hl0)
    rw [List.getElem_map] at this
    exact hq b hqb h2 _ _ this
  exact ⟨b, off, h1, Nat.lt_of_lt_of_le h2 ht.size, fun j y hj => (World.cell?_of_block (a := ⟨b, off + j, none⟩) (ht.block b h2 hne)).trans (h3 j y hj)⟩
theorem Foot.noStr {W : World} {G : Gr} (hG : GraphAt W G) {j : Nat} (h : Foot G j) : NoStr W j := by
  obtain ⟨b, x, hx, rfl | rfl⟩ := h
  · intro off z e
    have := cell_of_row W j off _ 108 (0, 0) (hG _ x hx).blk
    rw [this] at e
    obtain ⟨a, c, hv, -⟩ := (hG _ x hx).fb.form
    unfold TN.cells at e
    rw [hv] at e
    rcases off with _ | _ | _ | _ | off <;> simp at e
  · intro off z e
    obtain ⟨es, clock, hm, -⟩ := (hG b x hx).names
    simp [World.cell?, hm] at e
theorem boxed_turn {W W' : World} {B : Nat} {t : TypeId} {v : Value} {G : Gr} (hG : GraphAt W G) (h : Boxed W B t v) (ht : Turn (fun j => Foot G j ∨ W.heap.size ≤ j) W W') : Boxed W' B t v :=
  (ht.block B h.lt (by
    rintro (e | e)
    · exact boxed_not_foot hG h e
    · have := h.lt; omega)).trans h
theorem spot_not_foot {W : World} {G : Gr} (hG : GraphAt W G) {E : Nat} {a b : Value} (hE : Blk W E 139 #[a, b]) : ¬ Foot G E := by
  rintro ⟨c, x, hx, rfl | rfl⟩
  · have h1 := (hG _ x hx).blk
    unfold Blk at h1 hE
    rw [h1] at hE
    simp [TN.cells] at hE
  · obtain ⟨es, clock, hm, -⟩ := (hG c x hx).names
    unfold Blk at hE
    rw [hm] at hE
    cases hE
theorem spot_turn {W W' : World} {E : Nat} {a b : Value} {G : Gr} (hG : GraphAt W G) (h : Blk W E 139 #[a, b]) (ht : Turn (fun j => Foot G j ∨ W.heap.size ≤ j) W W') : Blk W' E 139 #[a, b] :=
  h.turn ht (by
    rintro (e | e)
    · exact spot_not_foot hG h e
    · have := h.lt; omega)
/-- The second spot is cleared. -/
theorem move_give {G : Gr} {T r m d2 c n : Nat} {x2 z y : TN} {l2 : List UInt8} {W : World} (hT : TreeG W T r G m) (hL : Links10 G) (hx2 : G d2 = some x2) (hl : lookNm x2.nm l2 = some c) (hz : G c = some z) (hy : G n = some y) (hg : giveN z y = 0) (hs : l2.length ≤ 1000) :
    Calls Tryz.prog 167 #[.agg #[.pointer (some ⟨d2, 0, none⟩), encStr l2], .pointer (some ⟨n, 0, none⟩)] W fun e w' => (∃ u, e = .returned u) ∧ TreeG w' T r (lessG G d2 x2 l2 c z) m ∧ Turn (fun j => Foot G j ∨ W.heap.size ≤ j) W w' := by
  obtain ⟨h1, h2, h3⟩ := hL d2 x2 l2 c z hx2 hl hz
  refine (giveWay10_some (hT.nodes d2 x2 hx2) (hT.nodes c z hz) (hT.nodes n y hy) h1 l2 hs hl ⟨h2, by omega⟩ (fun e => h1 (hT.apart d2 c x2 z hx2 hz e))).mono fun e w' h => ?_
  rcases h with ⟨g, -, -⟩ | ⟨-, g1, g2, g3, g4⟩
  · exact absurd hg g
  · obtain ⟨f1, f2⟩ := hT.left0 hx2 hz h1 g2 g3 g4
    exact ⟨g1, f1, f2⟩
set_option maxRecDepth 100000 in
set_option maxHeartbeats 16000000 in
theorem moveClos_any {G : Gr} {V : World} {T r m bf bp bt : Nat} (hT : TreeG V T r G m) (hL : Links10 G) (hm : m < 90000) (hmx : MaxC V) (f s : List UInt8) (hf : f.length ≤ 1000000) (hs : s.length ≤ 1000000) (hMV : MoveFine G r f s) (b2 : Boxed V bf 9 (encStr f)) (b0 : Boxed V bp 9 (encStr s)) (b1 : Boxed V bt 52 (.pointer (some ⟨T, 0, none⟩))) :
    Calls Tryz.prog 165 #[.pointer (some ⟨bf, 0, none⟩), .pointer (some ⟨bp, 0, none⟩), .pointer (some ⟨bt, 0, none⟩)] V (ClosEnd T r m G (moveQ G r f s) V) := by
  obtain ⟨xr, hxr, hdir⟩ := hT.root
  have HRR := Lib.hid (fun W (hW : Below V.heap.size V W) => (boxed_low b1 hW).cell)
  have HM := Lib.hid (fun b w => mustBe10_any b 200 (by decide) w)
  have HM6 := Lib.hid (fun b w => mustBe10_any b 206 (by decide) w)
  obtain ⟨tf, htf⟩ : ∃ t, encStr f = t := ⟨_, rfl⟩
  obtain ⟨t, ht⟩ : ∃ t, encStr s = t := ⟨_, rfl⟩
  have HWI := Lib.hid (fun W (hW : Below V.heap.size V W) => isWithin_any s f hs hf W (hmx.below hW hmx.room))
  rw [ht, htf] at HWI
  rw [htf] at b2
  rw [ht] at b0
  have HR0 : Hid (∀ W, Below V.heap.size V W → (fun W : World => W.cell? ⟨bf, 0, none⟩ = some tf ∧ W.cell? ⟨bp, 0, none⟩ = some t ∧ Below V.heap.size V W) W) := show ∀ W, _ from fun W hW => ⟨(boxed_low b2 hW).cell, (boxed_low b0 hW).cell, hW⟩
  by_cases h1 : (splitE f).2 = 0
  · have HS1 := Lib.hid (fun W (hW : Below V.heap.size V W) => split10_ok f hf W (hmx.below hW hmx.room) h1)
    rw [htf] at HS1
    by_cases h2 : (splitE s).2 = 0
    · have HS2 := Lib.hid (fun W (hW : Below V.heap.size V W) => split10_ok s hs W (hmx.below hW hmx.room) h2)
      rw [ht] at HS2
      have hsl := splitE_len f
      have hsr := splitE_right f
      have hsl2 := splitE_len s
      have hsr2 := splitE_right s
      obtain ⟨names1, hnm1⟩ : ∃ names, (splitE f).1 = names := ⟨_, rfl⟩
      obtain ⟨names2, hnm2⟩ : ∃ names, (splitE s).1 = names := ⟨_, rfl⟩
      have hE := (if_neg (by simpa using h1)).trans (if_neg (by simpa using h2)) |> fun e : moveQ G r f s = _ => e
      by_cases h3 : (splitE f).1 = [] ∨ (splitE s).1 = []
      · rw [if_pos h3] at hE
        rw [hE]
        have hq := hE
        rw [hnm1, hnm2] at h3
        rw [hnm1] at HS1
        rw [hnm2] at HS2
        by_cases h4 : names1 = []
        · have hl1 : ¬ ((0 : Int) < ((names1.length : Nat) : Int)) := by rw [h4]; decide
          clear h4
          clear hT hL hm hmx hf hs hMV b0 b1 b2 hxr hdir h1 ht htf hq hsl hsr hsl2 hsr2 hnm1 hnm2 h2 h3 hE
          go_enter Tryz.func165, Tryz.ntmps165
          go_wp2_with fail
          have hR := HR0.out _ (Below.refl _ V).drew
          refine wp_region_M 5 (fun W : World => W.cell? ⟨bf, 0, none⟩ = some tf ∧ W.cell? ⟨bp, 0, none⟩ = some t ∧ Below V.heap.size V W) (by kernel_rfl) ?_
          (refine wpAnyM_take2 8 (i := 0) (v := ?_) rfl (by kernel_rfl) (by kernel_rfl) (fun _ _ _ h => h) (Or.inl ⟨by rfl, ?_⟩) hR ?_; rotate_left; (focus (intro w hSw; (try dsimp only at hSw); go_simp; (try with_reducible rfl))); (try simp only [put_laws])); (refine wpAnyM_take2 8 (i := 2) (v := ?_) rfl (by kernel_rfl) (by kernel_rfl) (fun _ _ _ h => h) (Or.inl ⟨by rfl, ?_⟩) hR ?_; rotate_left; (focus (intro w hSw; (try dsimp only at hSw); go_simp; (try with_reducible rfl))); (try simp only [put_laws]))
          (refine wpAnyM_one (i := 1) rfl (by kernel_rfl) (fun K hK => ?_); rw [if_pos (by rfl)]; (try simp only [elem_laws]))
          go_simp
          refine (HS1.out _ hR.2.2).mono ?_
          rintro e w1 ⟨u, rfl, ho1, hb⟩
          have hR' := HR0.out _ (hR.2.2.trans (hb.mono hR.2.2.size))
          refine hK _ _ (fun _ => hR') ?_
          clear hK K hR hb
          have hR := hR'
          clear hR'
          (try simp only [put_laws])
          (refine wpAnyM_one (i := 3) rfl (by kernel_rfl) (fun K hK => ?_); rw [if_pos (by rfl)]; (try simp only [elem_laws]))
          go_simp
          refine (HS2.out _ hR.2.2).mono ?_
          rintro e w2 ⟨u2, rfl, ho2, hb⟩
          have HO1 : Hid (TxS w2 u names1) := show TxS _ _ _ from ho1.txs.below hb
          have HO2 : Hid (TxS w2 u2 names2) := show TxS _ _ _ from ho2.txs
          have hR' := HR0.out _ (hR.2.2.trans (hb.mono hR.2.2.size))
          refine hK _ _ (fun _ => hR') ?_
          clear hK K hR hb ho1 ho2
          have hR := hR'
          clear hR'
          (try simp only [put_laws])
          (refine wpAnyM_take2 8 (i := 4) (v := ?_) rfl (by kernel_rfl) (by kernel_rfl) (fun _ _ _ h => h) (Or.inl ⟨by rfl, ?_⟩) hR ?_; rotate_left; (focus (intro w hSw; (try dsimp only at hSw); go_simp; (try with_reducible rfl))); (try simp only [put_laws]))
          (refine wpAnyM_last rfl (by kernel_rfl) (fun K hK => ?_); rw [if_pos (by rfl)]; (try simp only [elem_laws]))
          go_simp
          have HB2 := Lib.hid hR.2.2
          refine hK _ _ ?_
          clear hK K hR
          (try simp only [put_laws])
          refine wpAnyM_done (by kernel_rfl) ?_ _
          obtain ⟨a1, k1, -, -, hue1, -⟩ := HO1.out.cell
          obtain ⟨a2, k2, -, -, hue2, -⟩ := HO2.out.cell
          subst hue1
          subst hue2
          go_wp2_with fail
          refine (HM.out _ _).mono ?_
          rintro e w3 (⟨hg, ⟨u3, rfl⟩, rfl⟩ | ⟨hg, rfl, rfl⟩)
          · exfalso
            first
            | cases hg
            | (have := of_decide_eq_true hg; omega)
            | (have := of_decide_eq_false hg; omega)
          · exact ⟨rfl, (show _ ∧ _ ∧ _ from ⟨by decide, rfl, HB2.out⟩)⟩
        · have h5 : names2 = [] := by rcases h3 with h3 | h3; exact absurd h3 h4; exact h3
          have hl1 : (0 : Int) < ((names1.length : Nat) : Int) := by have := List.length_pos_iff.2 h4; omega
          have hl2 : ¬ ((0 : Int) < ((names2.length : Nat) : Int)) := by rw [h5]; decide
          clear h4 h5
          clear hT hL hm hmx hf hs hMV b0 b1 b2 hxr hdir h1 ht htf hq hsl hsr hsl2 hsr2 hnm1 hnm2 h2 h3 hE
          go_enter Tryz.func165, Tryz.ntmps165
          go_wp2_with fail
          have hR := HR0.out _ (Below.refl _ V).drew
          refine wp_region_M 5 (fun W : World => W.cell? ⟨bf, 0, none⟩ = some tf ∧ W.cell? ⟨bp, 0, none⟩ = some t ∧ Below V.heap.size V W) (by kernel_rfl) ?_
          (refine wpAnyM_take2 8 (i := 0) (v := ?_) rfl (by kernel_rfl) (by kernel_rfl) (fun _ _ _ h => h) (Or.inl ⟨by rfl, ?_⟩) hR ?_; rotate_left; (focus (intro w hSw; (try dsimp only at hSw); go_simp; (try with_reducible rfl))); (try simp only [put_laws])); (refine wpAnyM_take2 8 (i := 2) (v := ?_) rfl (by kernel_rfl) (by kernel_rfl) (fun _ _ _ h => h) (Or.inl ⟨by rfl, ?_⟩) hR ?_; rotate_left; (focus (intro w hSw; (try dsimp only at hSw); go_simp; (try with_reducible rfl))); (try simp only [put_laws]))
          (refine wpAnyM_one (i := 1) rfl (by kernel_rfl) (fun K hK => ?_); rw [if_pos (by rfl)]; (try simp only [elem_laws]))
          go_simp
          refine (HS1.out _ hR.2.2).mono ?_
          rintro e w1 ⟨u, rfl, ho1, hb⟩
          have hR' := HR0.out _ (hR.2.2.trans (hb.mono hR.2.2.size))
          refine hK _ _ (fun _ => hR') ?_
          clear hK K hR hb
          have hR := hR'
          clear hR'
          (try simp only [put_laws])
          (refine wpAnyM_one (i := 3) rfl (by kernel_rfl) (fun K hK => ?_); rw [if_pos (by rfl)]; (try simp only [elem_laws]))
          go_simp
          refine (HS2.out _ hR.2.2).mono ?_
          rintro e w2 ⟨u2, rfl, ho2, hb⟩
          have HO1 : Hid (TxS w2 u names1) := show TxS _ _ _ from ho1.txs.below hb
          have HO2 : Hid (TxS w2 u2 names2) := show TxS _ _ _ from ho2.txs
          have hR' := HR0.out _ (hR.2.2.trans (hb.mono hR.2.2.size))
          refine hK _ _ (fun _ => hR') ?_
          clear hK K hR hb ho1 ho2
          have hR := hR'
          clear hR'
          (try simp only [put_laws])
          (refine wpAnyM_take2 8 (i := 4) (v := ?_) rfl (by kernel_rfl) (by kernel_rfl) (fun _ _ _ h => h) (Or.inl ⟨by rfl, ?_⟩) hR ?_; rotate_left; (focus (intro w hSw; (try dsimp only at hSw); go_simp; (try with_reducible rfl))); (try simp only [put_laws]))
          (refine wpAnyM_last rfl (by kernel_rfl) (fun K hK => ?_); rw [if_pos (by rfl)]; (try simp only [elem_laws]))
          go_simp
          have HB2 := Lib.hid hR.2.2
          refine hK _ _ ?_
          clear hK K hR
          (try simp only [put_laws])
          refine wpAnyM_done (by kernel_rfl) ?_ _
          obtain ⟨a1, k1, -, -, hue1, -⟩ := HO1.out.cell
          obtain ⟨a2, k2, -, -, hue2, -⟩ := HO2.out.cell
          subst hue1
          subst hue2
          go_wp2_with fail
          refine (HM.out _ _).mono ?_
          rintro e w3 (⟨hg, ⟨u3, rfl⟩, rfl⟩ | ⟨hg, rfl, rfl⟩)
          · exfalso
            first
            | cases hg
            | (have := of_decide_eq_true hg; omega)
            | (have := of_decide_eq_false hg; omega)
          · exact ⟨rfl, (show _ ∧ _ ∧ _ from ⟨by decide, rfl, HB2.out⟩)⟩
      · rw [if_neg h3] at hE
        have g1 : (splitE f).1 ≠ [] := fun e => h3 (.inl e)
        have g2 : (splitE s).1 ≠ [] := fun e => h3 (.inr e)
        have hl1 : (0 : Int) < ((names1.length : Nat) : Int) := by have := List.length_pos_iff.2 g1; rw [hnm1] at this; omega
        have hl2 : (0 : Int) < ((names2.length : Nat) : Int) := by have := List.length_pos_iff.2 g2; rw [hnm2] at this; omega

        have HAT := Lib.hid (fun W v (hW : Below V.heap.size V W) (hv : TxS W v (splitE f).1) => at10_any (hT.below hW).nodes hT.leads (hT.below hW).at_ hxr (names := (splitE f).1) (by omega) (rightN_short hsr) hv)
        rw [hnm1] at HS1
        rw [hnm2] at HS2
        cases hw : walkN G r (splitE f).1 with
        | error c =>
          have hc : c ≠ 0 := by rcases walkN_err hT.leads _ _ _ _ hxr hw with rfl | rfl <;> decide
          rw [hw] at hE HAT
          rw [hE]
          have hq := hE
          have HC := Lib.hid hc
          rw [hnm1] at HAT
          clear hT hL hm hmx hf hs hMV b0 b1 b2 hxr hdir h1 ht htf hq hsl hsr hsl2 hsr2 hnm1 hnm2 h2 h3 hE g1 g2 hw hc
          go_enter Tryz.func165, Tryz.ntmps165
          go_wp2_with fail
          have hR := HR0.out _ (Below.refl _ V).drew
          refine wp_region_M 5 (fun W : World => W.cell? ⟨bf, 0, none⟩ = some tf ∧ W.cell? ⟨bp, 0, none⟩ = some t ∧ Below V.heap.size V W) (by kernel_rfl) ?_
          (refine wpAnyM_take2 8 (i := 0) (v := ?_) rfl (by kernel_rfl) (by kernel_rfl) (fun _ _ _ h => h) (Or.inl ⟨by rfl, ?_⟩) hR ?_; rotate_left; (focus (intro w hSw; (try dsimp only at hSw); go_simp; (try with_reducible rfl))); (try simp only [put_laws])); (refine wpAnyM_take2 8 (i := 2) (v := ?_) rfl (by kernel_rfl) (by kernel_rfl) (fun _ _ _ h => h) (Or.inl ⟨by rfl, ?_⟩) hR ?_; rotate_left; (focus (intro w hSw; (try dsimp only at hSw); go_simp; (try with_reducible rfl))); (try simp only [put_laws]))
          (refine wpAnyM_one (i := 1) rfl (by kernel_rfl) (fun K hK => ?_); rw [if_pos (by rfl)]; (try simp only [elem_laws]))
          go_simp
          refine (HS1.out _ hR.2.2).mono ?_
          rintro e w1 ⟨u, rfl, ho1, hb⟩
          have hR' := HR0.out _ (hR.2.2.trans (hb.mono hR.2.2.size))
          refine hK _ _ (fun _ => hR') ?_
          clear hK K hR hb
          have hR := hR'
          clear hR'
          (try simp only [put_laws])
          (refine wpAnyM_one (i := 3) rfl (by kernel_rfl) (fun K hK => ?_); rw [if_pos (by rfl)]; (try simp only [elem_laws]))
          go_simp
          refine (HS2.out _ hR.2.2).mono ?_
          rintro e w2 ⟨u2, rfl, ho2, hb⟩
          have HO1 : Hid (TxS w2 u names1) := show TxS _ _ _ from ho1.txs.below hb
          have HO2 : Hid (TxS w2 u2 names2) := show TxS _ _ _ from ho2.txs
          have hR' := HR0.out _ (hR.2.2.trans (hb.mono hR.2.2.size))
          refine hK _ _ (fun _ => hR') ?_
          clear hK K hR hb ho1 ho2
          have hR := hR'
          clear hR'
          (try simp only [put_laws])
          (refine wpAnyM_take2 8 (i := 4) (v := ?_) rfl (by kernel_rfl) (by kernel_rfl) (fun _ _ _ h => h) (Or.inl ⟨by rfl, ?_⟩) hR ?_; rotate_left; (focus (intro w hSw; (try dsimp only at hSw); go_simp; (try with_reducible rfl))); (try simp only [put_laws]))
          (refine wpAnyM_last rfl (by kernel_rfl) (fun K hK => ?_); rw [if_pos (by rfl)]; (try simp only [elem_laws]))
          go_simp
          have HB2 := Lib.hid hR.2.2
          refine hK _ _ ?_
          clear hK K hR
          (try simp only [put_laws])
          refine wpAnyM_done (by kernel_rfl) ?_ _
          obtain ⟨a1, k1, -, -, hue1, -⟩ := HO1.out.cell
          obtain ⟨a2, k2, -, -, hue2, -⟩ := HO2.out.cell
          subst hue1
          subst hue2
          go_wp2_with fail
          refine (HM.out _ _).mono ?_
          rintro e w3 (⟨hg, ⟨u3, rfl⟩, rfl⟩ | ⟨hg, rfl, rfl⟩)
          · clear hg
            have c3 := HRR.out _ HB2.out
            go_wp2_with fail
            refine (HAT.out _ _ HB2.out HO1.out).mono ?_
            rintro e w4 ⟨hb, rfl⟩
            exact ⟨rfl, (show _ ∧ _ ∧ _ from ⟨HC.out, rfl, HB2.out.trans (hb.mono HB2.out.size)⟩)⟩
          · exfalso
            first
            | cases hg
            | (have := of_decide_eq_true hg; omega)
            | (have := of_decide_eq_false hg; omega)
        | ok n =>
          obtain ⟨y, hy⟩ := walkN_leads hT.leads _ _ _ _ hxr hw
          rw [hw] at hE HAT
          simp only [hy] at hE
          have HID := Lib.hid (fun W (hW : Below V.heap.size V W) => isDir_any ((hT.below hW).nodes n y hy))
          obtain ⟨yd, hyd⟩ : ∃ b, y.isDir = b := ⟨_, rfl⟩
          obtain ⟨wi, hwi⟩ : ∃ b, (withinE s f).1 = b := ⟨_, rfl⟩
          rw [hyd] at HID
          rw [hwi] at HWI
          by_cases hin : (yd && wi) = true
          · obtain ⟨rfl, rfl⟩ : yd = true ∧ wi = true := by simpa using hin
            rw [hyd, hwi, if_pos (by rfl)] at hE
            rw [hE]
            have hq := hE
            rw [hnm1] at HAT
            clear hT hL hm hmx hf hs hMV b0 b1 b2 hxr hdir h1 ht htf hq hsl hsr hsl2 hsr2 hnm1 hnm2 h2 h3 hE g1 g2 hw hy hyd hwi hin
            go_enter Tryz.func165, Tryz.ntmps165
            go_wp2_with fail
            have hR := HR0.out _ (Below.refl _ V).drew
            refine wp_region_M 5 (fun W : World => W.cell? ⟨bf, 0, none⟩ = some tf ∧ W.cell? ⟨bp, 0, none⟩ = some t ∧ Below V.heap.size V W) (by kernel_rfl) ?_
            (refine wpAnyM_take2 8 (i := 0) (v := ?_) rfl (by kernel_rfl) (by kernel_rfl) (fun _ _ _ h => h) (Or.inl ⟨by rfl, ?_⟩) hR ?_; rotate_left; (focus (intro w hSw; (try dsimp only at hSw); go_simp; (try with_reducible rfl))); (try simp only [put_laws])); (refine wpAnyM_take2 8 (i := 2) (v := ?_) rfl (by kernel_rfl) (by kernel_rfl) (fun _ _ _ h => h) (Or.inl ⟨by rfl, ?_⟩) hR ?_; rotate_left; (focus (intro w hSw; (try dsimp only at hSw); go_simp; (try with_reducible rfl))); (try simp only [put_laws]))
            (refine wpAnyM_one (i := 1) rfl (by kernel_rfl) (fun K hK => ?_); rw [if_pos (by rfl)]; (try simp only [elem_laws]))
            go_simp
            refine (HS1.out _ hR.2.2).mono ?_
            rintro e w1 ⟨u, rfl, ho1, hb⟩
            have hR' := HR0.out _ (hR.2.2.trans (hb.mono hR.2.2.size))
            refine hK _ _ (fun _ => hR') ?_
            clear hK K hR hb
            have hR := hR'
            clear hR'
            (try simp only [put_laws])
            (refine wpAnyM_one (i := 3) rfl (by kernel_rfl) (fun K hK => ?_); rw [if_pos (by rfl)]; (try simp only [elem_laws]))
            go_simp
            refine (HS2.out _ hR.2.2).mono ?_
            rintro e w2 ⟨u2, rfl, ho2, hb⟩
            have HO1 : Hid (TxS w2 u names1) := show TxS _ _ _ from ho1.txs.below hb
            have HO2 : Hid (TxS w2 u2 names2) := show TxS _ _ _ from ho2.txs
            have hR' := HR0.out _ (hR.2.2.trans (hb.mono hR.2.2.size))
            refine hK _ _ (fun _ => hR') ?_
            clear hK K hR hb ho1 ho2
            have hR := hR'
            clear hR'
            (try simp only [put_laws])
            (refine wpAnyM_take2 8 (i := 4) (v := ?_) rfl (by kernel_rfl) (by kernel_rfl) (fun _ _ _ h => h) (Or.inl ⟨by rfl, ?_⟩) hR ?_; rotate_left; (focus (intro w hSw; (try dsimp only at hSw); go_simp; (try with_reducible rfl))); (try simp only [put_laws]))
            (refine wpAnyM_last rfl (by kernel_rfl) (fun K hK => ?_); rw [if_pos (by rfl)]; (try simp only [elem_laws]))
            go_simp
            have HB2 := Lib.hid hR.2.2
            refine hK _ _ ?_
            clear hK K hR
            (try simp only [put_laws])
            refine wpAnyM_done (by kernel_rfl) ?_ _
            obtain ⟨a1, k1, -, -, hue1, -⟩ := HO1.out.cell
            obtain ⟨a2, k2, -, -, hue2, -⟩ := HO2.out.cell
            subst hue1
            subst hue2
            go_wp2_with fail
            refine (HM.out _ _).mono ?_
            rintro e w3 (⟨hg, ⟨u3, rfl⟩, rfl⟩ | ⟨hg, rfl, rfl⟩)
            · clear hg
              have c3 := HRR.out _ HB2.out
              go_wp2_with fail
              refine (HAT.out _ _ HB2.out HO1.out).mono ?_
              rintro e w4 ⟨hb, rfl⟩
              have HB4 := Lib.hid (HB2.out.trans (hb.mono HB2.out.size))
              have HO14 : Hid (TxS w4 (.slice a1 names1.length k1) names1) := show TxS _ _ _ from HO1.out.below hb
              have HO24 : Hid (TxS w4 (.slice a2 names2.length k2) names2) := show TxS _ _ _ from HO2.out.below hb
              obtain ⟨q41, q42, -⟩ := HR0.out _ HB4.out
              clear hb
              go_wp2_with fail
              refine (HID.out _ HB4.out).mono ?_
              rintro e w5 ⟨rfl, rfl⟩
              go_wp2_with fail
              refine (HWI.out _ HB4.out).mono ?_
              rintro e w6 ⟨rfl, hb⟩
              have HB6 := Lib.hid (HB4.out.trans (hb.mono HB4.out.size))
              clear hb
              go_wp2_with fail
              refine (HM6.out _ _).mono ?_
              rintro e w7 (⟨hg, ⟨u7, rfl⟩, rfl⟩ | ⟨hg, rfl, rfl⟩)
              · cases hg
              · exact ⟨rfl, (show _ ∧ _ ∧ _ from ⟨by decide, rfl, HB6.out⟩)⟩
            · exfalso
              first
              | cases hg
              | (have := of_decide_eq_true hg; omega)
              | (have := of_decide_eq_false hg; omega)
          · have hin' : (yd && wi) = false := by simpa using hin
            rw [hyd, hwi, if_neg (by rw [hin']; decide)] at hE
            have HSP0 := Lib.hid (fun W v (hW : Below V.heap.size V W) (hv : TxS W v (splitE s).1) => spot10_any (hT.below hW).nodes hT.leads (hT.below hW).at_ hxr (List.length_pos_iff.2 g2) (by omega) (rightN_short hsr2) hv)
            rw [hnm1] at HAT
            cases hsp : spotN G r (splitE s).1 with
            | error c =>
              have hc : c ≠ 0 := by rcases spotN_err hT.leads hxr hsp with rfl | rfl <;> decide
              rw [hsp] at hE HSP0
              rw [hE]
              have hq := hE
              have HC := Lib.hid hc
              rw [hnm2] at HSP0
              clear hT hL hm hmx hf hs hMV b0 b1 b2 hxr hdir h1 ht htf hq hsl hsr hsl2 hsr2 hnm1 hnm2 h2 h3 hE g1 g2 hw hy hyd hwi hin hsp hc
              cases yd
              · go_enter Tryz.func165, Tryz.ntmps165
                go_wp2_with fail
                have hR := HR0.out _ (Below.refl _ V).drew
                refine wp_region_M 5 (fun W : World => W.cell? ⟨bf, 0, none⟩ = some tf ∧ W.cell? ⟨bp, 0, none⟩ = some t ∧ Below V.heap.size V W) (by kernel_rfl) ?_
                (refine wpAnyM_take2 8 (i := 0) (v := ?_) rfl (by kernel_rfl) (by kernel_rfl) (fun _ _ _ h => h) (Or.inl ⟨by rfl, ?_⟩) hR ?_; rotate_left; (focus (intro w hSw; (try dsimp only at hSw); go_simp; (try with_reducible rfl))); (try simp only [put_laws])); (refine wpAnyM_take2 8 (i := 2) (v := ?_) rfl (by kernel_rfl) (by kernel_rfl) (fun _ _ _ h => h) (Or.inl ⟨by rfl, ?_⟩) hR ?_; rotate_left; (focus (intro w hSw; (try dsimp only at hSw); go_simp; (try with_reducible rfl))); (try simp only [put_laws]))
                (refine wpAnyM_one (i := 1) rfl (by kernel_rfl) (fun K hK => ?_); rw [if_pos (by rfl)]; (try simp only [elem_laws]))
                go_simp
                refine (HS1.out _ hR.2.2).mono ?_
                rintro e w1 ⟨u, rfl, ho1, hb⟩
                have hR' := HR0.out _ (hR.2.2.trans (hb.mono hR.2.2.size))
                refine hK _ _ (fun _ => hR') ?_
                clear hK K hR hb
                have hR := hR'
                clear hR'
                (try simp only [put_laws])
                (refine wpAnyM_one (i := 3) rfl (by kernel_rfl) (fun K hK => ?_); rw [if_pos (by rfl)]; (try simp only [elem_laws]))
                go_simp
                refine (HS2.out _ hR.2.2).mono ?_
                rintro e w2 ⟨u2, rfl, ho2, hb⟩
                have HO1 : Hid (TxS w2 u names1) := show TxS _ _ _ from ho1.txs.below hb
                have HO2 : Hid (TxS w2 u2 names2) := show TxS _ _ _ from ho2.txs
                have hR' := HR0.out _ (hR.2.2.trans (hb.mono hR.2.2.size))
                refine hK _ _ (fun _ => hR') ?_
                clear hK K hR hb ho1 ho2
                have hR := hR'
                clear hR'
                (try simp only [put_laws])
                (refine wpAnyM_take2 8 (i := 4) (v := ?_) rfl (by kernel_rfl) (by kernel_rfl) (fun _ _ _ h => h) (Or.inl ⟨by rfl, ?_⟩) hR ?_; rotate_left; (focus (intro w hSw; (try dsimp only at hSw); go_simp; (try with_reducible rfl))); (try simp only [put_laws]))
                (refine wpAnyM_last rfl (by kernel_rfl) (fun K hK => ?_); rw [if_pos (by rfl)]; (try simp only [elem_laws]))
                go_simp
                have HB2 := Lib.hid hR.2.2
                refine hK _ _ ?_
                clear hK K hR
                (try simp only [put_laws])
                refine wpAnyM_done (by kernel_rfl) ?_ _
                obtain ⟨a1, k1, -, -, hue1, -⟩ := HO1.out.cell
                obtain ⟨a2, k2, -, -, hue2, -⟩ := HO2.out.cell
                subst hue1
                subst hue2
                go_wp2_with fail
                refine (HM.out _ _).mono ?_
                rintro e w3 (⟨hg, ⟨u3, rfl⟩, rfl⟩ | ⟨hg, rfl, rfl⟩)
                · clear hg
                  have c3 := HRR.out _ HB2.out
                  go_wp2_with fail
                  refine (HAT.out _ _ HB2.out HO1.out).mono ?_
                  rintro e w4 ⟨hb, rfl⟩
                  have HB4 := Lib.hid (HB2.out.trans (hb.mono HB2.out.size))
                  have HO14 : Hid (TxS w4 (.slice a1 names1.length k1) names1) := show TxS _ _ _ from HO1.out.below hb
                  have HO24 : Hid (TxS w4 (.slice a2 names2.length k2) names2) := show TxS _ _ _ from HO2.out.below hb
                  obtain ⟨q41, q42, -⟩ := HR0.out _ HB4.out
                  clear hb
                  go_wp2_with fail
                  refine (HID.out _ HB4.out).mono ?_
                  rintro e w5 ⟨rfl, rfl⟩
                  have HB6 := HB4
                  have HO16 := HO14
                  have HO26 := HO24
                  go_wp2_with fail
                  refine (HM6.out _ _).mono ?_
                  rintro e w7 (⟨hg, ⟨u7, rfl⟩, rfl⟩ | ⟨hg, rfl, rfl⟩)
                  · clear hg
                    have c7 := HRR.out _ HB6.out
                    go_wp2_with fail
                    refine (HSP0.out _ _ HB6.out HO26.out).mono ?_
                    rintro e w8 ⟨hb, rfl⟩
                    exact ⟨rfl, (show _ ∧ _ ∧ _ from ⟨HC.out, rfl, HB6.out.trans (hb.mono HB6.out.size)⟩)⟩
                  · cases hg
                · exfalso
                  first
                  | cases hg
                  | (have := of_decide_eq_true hg; omega)
                  | (have := of_decide_eq_false hg; omega)
              · go_enter Tryz.func165, Tryz.ntmps165
                go_wp2_with fail
                have hR := HR0.out _ (Below.refl _ V).drew
                refine wp_region_M 5 (fun W : World => W.cell? ⟨bf, 0, none⟩ = some tf ∧ W.cell? ⟨bp, 0, none⟩ = some t ∧ Below V.heap.size V W) (by kernel_rfl) ?_
                (refine wpAnyM_take2 8 (i := 0) (v := ?_) rfl (by kernel_rfl) (by kernel_rfl) (fun _ _ _ h => h) (Or.inl ⟨by rfl, ?_⟩) hR ?_; rotate_left; (focus (intro w hSw; (try dsimp only at hSw); go_simp; (try with_reducible rfl))); (try simp only [put_laws])); (refine wpAnyM_take2 8 (i := 2) (v := ?_) rfl (by kernel_rfl) (by kernel_rfl) (fun _ _ _ h => h) (Or.inl ⟨by rfl, ?_⟩) hR ?_; rotate_left; (focus (intro w hSw; (try dsimp only at hSw); go_simp; (try with_reducible rfl))); (try simp only [put_laws]))
                (refine wpAnyM_one (i := 1) rfl (by kernel_rfl) (fun K hK => ?_); rw [if_pos (by rfl)]; (try simp only [elem_laws]))
                go_simp
                refine (HS1.out _ hR.2.2).mono ?_
                rintro e w1 ⟨u, rfl, ho1, hb⟩
                have hR' := HR0.out _ (hR.2.2.trans (hb.mono hR.2.2.size))
                refine hK _ _ (fun _ => hR') ?_
                clear hK K hR hb
                have hR := hR'
                clear hR'
                (try simp only [put_laws])
                (refine wpAnyM_one (i := 3) rfl (by kernel_rfl) (fun K hK => ?_); rw [if_pos (by rfl)]; (try simp only [elem_laws]))
                go_simp
                refine (HS2.out _ hR.2.2).mono ?_
                rintro e w2 ⟨u2, rfl, ho2, hb⟩
                have HO1 : Hid (TxS w2 u names1) := show TxS _ _ _ from ho1.txs.below hb
                have HO2 : Hid (TxS w2 u2 names2) := show TxS _ _ _ from ho2.txs
                have hR' := HR0.out _ (hR.2.2.trans (hb.mono hR.2.2.size))
                refine hK _ _ (fun _ => hR') ?_
                clear hK K hR hb ho1 ho2
                have hR := hR'
                clear hR'
                (try simp only [put_laws])
                (refine wpAnyM_take2 8 (i := 4) (v := ?_) rfl (by kernel_rfl) (by kernel_rfl) (fun _ _ _ h => h) (Or.inl ⟨by rfl, ?_⟩) hR ?_; rotate_left; (focus (intro w hSw; (try dsimp only at hSw); go_simp; (try with_reducible rfl))); (try simp only [put_laws]))
                (refine wpAnyM_last rfl (by kernel_rfl) (fun K hK => ?_); rw [if_pos (by rfl)]; (try simp only [elem_laws]))
                go_simp
                have HB2 := Lib.hid hR.2.2
                refine hK _ _ ?_
                clear hK K hR
                (try simp only [put_laws])
                refine wpAnyM_done (by kernel_rfl) ?_ _
                obtain ⟨a1, k1, -, -, hue1, -⟩ := HO1.out.cell
                obtain ⟨a2, k2, -, -, hue2, -⟩ := HO2.out.cell
                subst hue1
                subst hue2
                go_wp2_with fail
                refine (HM.out _ _).mono ?_
                rintro e w3 (⟨hg, ⟨u3, rfl⟩, rfl⟩ | ⟨hg, rfl, rfl⟩)
                · clear hg
                  have c3 := HRR.out _ HB2.out
                  go_wp2_with fail
                  refine (HAT.out _ _ HB2.out HO1.out).mono ?_
                  rintro e w4 ⟨hb, rfl⟩
                  have HB4 := Lib.hid (HB2.out.trans (hb.mono HB2.out.size))
                  have HO14 : Hid (TxS w4 (.slice a1 names1.length k1) names1) := show TxS _ _ _ from HO1.out.below hb
                  have HO24 : Hid (TxS w4 (.slice a2 names2.length k2) names2) := show TxS _ _ _ from HO2.out.below hb
                  obtain ⟨q41, q42, -⟩ := HR0.out _ HB4.out
                  clear hb
                  go_wp2_with fail
                  refine (HID.out _ HB4.out).mono ?_
                  rintro e w5 ⟨rfl, rfl⟩
                  obtain rfl : wi = false := by simpa using hin'
                  go_wp2_with fail
                  refine (HWI.out _ HB4.out).mono ?_
                  rintro e w6 ⟨rfl, hb⟩
                  have HB6 := Lib.hid (HB4.out.trans (hb.mono HB4.out.size))
                  have HO16 : Hid (TxS w6 (.slice a1 names1.length k1) names1) := show TxS _ _ _ from HO14.out.below hb
                  have HO26 : Hid (TxS w6 (.slice a2 names2.length k2) names2) := show TxS _ _ _ from HO24.out.below hb
                  clear hb
                  go_wp2_with fail
                  refine (HM6.out _ _).mono ?_
                  rintro e w7 (⟨hg, ⟨u7, rfl⟩, rfl⟩ | ⟨hg, rfl, rfl⟩)
                  · clear hg
                    have c7 := HRR.out _ HB6.out
                    go_wp2_with fail
                    refine (HSP0.out _ _ HB6.out HO26.out).mono ?_
                    rintro e w8 ⟨hb, rfl⟩
                    exact ⟨rfl, (show _ ∧ _ ∧ _ from ⟨HC.out, rfl, HB6.out.trans (hb.mono HB6.out.size)⟩)⟩
                  · cases hg
                · exfalso
                  first
                  | cases hg
                  | (have := of_decide_eq_true hg; omega)
                  | (have := of_decide_eq_false hg; omega)
            | ok d2 =>
              obtain ⟨x2, hx2, -, -⟩ := spotN_some hsp
              rw [hsp] at hE HSP0
              simp only [hx2] at hE
              obtain ⟨t2, ht2⟩ : ∃ t, encStr (lastN (splitE s).1) = .string t := ⟨_, rfl⟩
              have hls2 := rightN_short hsr2 _ (lastN_mem g2)
              have hls1 := rightN_short hsr _ (lastN_mem g1)
              have HSPT : Hid (∀ W v, Below V.heap.size V W → TxS W v (splitE s).1 → Calls Tryz.prog 161 #[.pointer (some ⟨T, 0, none⟩), v] W fun e w' => e = .returned (.agg #[.pointer (some ⟨d2, 0, none⟩), .string t2]) ∧ Below W.heap.size W w') := show ∀ W v, _ from fun W v hW hv => by
                refine (HSP0.out W v hW hv).mono fun e w' h => ⟨?_, h.1⟩
                have := h.2
                unfold SpotEnd at this
                rw [ht2] at this
                exact this
              have HH : Hid (∀ W, Below V.heap.size V W → Calls Tryz.prog 85 #[.agg #[.pointer (some ⟨d2, 0, none⟩), .string t2]] W fun e w' => e = .returned (ptrV (lookNm x2.nm (lastN (splitE s).1))) ∧ Below W.heap.size W w') := show ∀ W, _ from fun W hW => by
                rw [← ht2]
                exact held10_any ((hT.below hW).nodes d2 x2 hx2) _ hls2
              have hMV2 := hMV h1 h2 g1 g2 n y d2 x2 hw hy (by rw [hyd, hwi]; exact hin') hsp hx2
              have HGR : Hid (∀ W, Below V.heap.size V W → TreeG W T r G m) := show ∀ W, _ from fun W hW => hT.below hW
              clear HSP0
              by_cases hsame : lookNm x2.nm (lastN (splitE s).1) = some n
              · have hq : moveQ G r f s = .ok fun _ G' => G' = G := by
                  rw [hE]
                  unfold moveT
                  rw [hsame]
                  simp
                rw [hq]
                rw [hsame] at HH
                rw [hnm2] at HSPT
                clear hT hL hm hmx hf hs hMV b0 b1 b2 hxr hdir h1 ht htf hq hsl hsr hsl2 hsr2 hnm1 hnm2 h2 h3 hE g1 g2 hw hy hyd hwi hin hsp hx2 ht2 hls2 hls1 hMV2 hsame
                cases yd
                · go_enter Tryz.func165, Tryz.ntmps165
                  go_wp2_with fail
                  have hR := HR0.out _ (Below.refl _ V).drew
                  refine wp_region_M 5 (fun W : World => W.cell? ⟨bf, 0, none⟩ = some tf ∧ W.cell? ⟨bp, 0, none⟩ = some t ∧ Below V.heap.size V W) (by kernel_rfl) ?_
                  (refine wpAnyM_take2 8 (i := 0) (v := ?_) rfl (by kernel_rfl) (by kernel_rfl) (fun _ _ _ h => h) (Or.inl ⟨by rfl, ?_⟩) hR ?_; rotate_left; (focus (intro w hSw; (try dsimp only at hSw); go_simp; (try with_reducible rfl))); (try simp only [put_laws])); (refine wpAnyM_take2 8 (i := 2) (v := ?_) rfl (by kernel_rfl) (by kernel_rfl) (fun _ _ _ h => h) (Or.inl ⟨by rfl, ?_⟩) hR ?_; rotate_left; (focus (intro w hSw; (try dsimp only at hSw); go_simp; (try with_reducible rfl))); (try simp only [put_laws]))
                  (refine wpAnyM_one (i := 1) rfl (by kernel_rfl) (fun K hK => ?_); rw [if_pos (by rfl)]; (try simp only [elem_laws]))
                  go_simp
                  refine (HS1.out _ hR.2.2).mono ?_
                  rintro e w1 ⟨u, rfl, ho1, hb⟩
                  have hR' := HR0.out _ (hR.2.2.trans (hb.mono hR.2.2.size))
                  refine hK _ _ (fun _ => hR') ?_
                  clear hK K hR hb
                  have hR := hR'
                  clear hR'
                  (try simp only [put_laws])
                  (refine wpAnyM_one (i := 3) rfl (by kernel_rfl) (fun K hK => ?_); rw [if_pos (by rfl)]; (try simp only [elem_laws]))
                  go_simp
                  refine (HS2.out _ hR.2.2).mono ?_
                  rintro e w2 ⟨u2, rfl, ho2, hb⟩
                  have HO1 : Hid (TxS w2 u names1) := show TxS _ _ _ from ho1.txs.below hb
                  have HO2 : Hid (TxS w2 u2 names2) := show TxS _ _ _ from ho2.txs
                  have hR' := HR0.out _ (hR.2.2.trans (hb.mono hR.2.2.size))
                  refine hK _ _ (fun _ => hR') ?_
                  clear hK K hR hb ho1 ho2
                  have hR := hR'
                  clear hR'
                  (try simp only [put_laws])
                  (refine wpAnyM_take2 8 (i := 4) (v := ?_) rfl (by kernel_rfl) (by kernel_rfl) (fun _ _ _ h => h) (Or.inl ⟨by rfl, ?_⟩) hR ?_; rotate_left; (focus (intro w hSw; (try dsimp only at hSw); go_simp; (try with_reducible rfl))); (try simp only [put_laws]))
                  (refine wpAnyM_last rfl (by kernel_rfl) (fun K hK => ?_); rw [if_pos (by rfl)]; (try simp only [elem_laws]))
                  go_simp
                  have HB2 := Lib.hid hR.2.2
                  refine hK _ _ ?_
                  clear hK K hR
                  (try simp only [put_laws])
                  refine wpAnyM_done (by kernel_rfl) ?_ _
                  obtain ⟨a1, k1, -, -, hue1, -⟩ := HO1.out.cell
                  obtain ⟨a2, k2, -, -, hue2, -⟩ := HO2.out.cell
                  subst hue1
                  subst hue2
                  go_wp2_with fail
                  refine (HM.out _ _).mono ?_
                  rintro e w3 (⟨hg, ⟨u3, rfl⟩, rfl⟩ | ⟨hg, rfl, rfl⟩)
                  · clear hg
                    have c3 := HRR.out _ HB2.out
                    go_wp2_with fail
                    refine (HAT.out _ _ HB2.out HO1.out).mono ?_
                    rintro e w4 ⟨hb, rfl⟩
                    have HB4 := Lib.hid (HB2.out.trans (hb.mono HB2.out.size))
                    have HO14 : Hid (TxS w4 (.slice a1 names1.length k1) names1) := show TxS _ _ _ from HO1.out.below hb
                    have HO24 : Hid (TxS w4 (.slice a2 names2.length k2) names2) := show TxS _ _ _ from HO2.out.below hb
                    obtain ⟨q41, q42, -⟩ := HR0.out _ HB4.out
                    clear hb
                    go_wp2_with fail
                    refine (HID.out _ HB4.out).mono ?_
                    rintro e w5 ⟨rfl, rfl⟩
                    have HB6 := HB4
                    have HO16 := HO14
                    have HO26 := HO24
                    go_wp2_with fail
                    refine (HM6.out _ _).mono ?_
                    rintro e w7 (⟨hg, ⟨u7, rfl⟩, rfl⟩ | ⟨hg, rfl, rfl⟩)
                    · clear hg
                      have c7 := HRR.out _ HB6.out
                      go_wp2_with fail
                      refine (HSPT.out _ _ HB6.out HO26.out).mono ?_
                      rintro e w8 ⟨rfl, hb⟩
                      have HB8 := Lib.hid (HB6.out.trans (hb.mono HB6.out.size))
                      have HO18 : Hid (TxS w8 (.slice a1 names1.length k1) names1) := show TxS _ _ _ from HO16.out.below hb
                      clear hb
                      go_wp2_with fail
                      obtain ⟨W9, hW9⟩ : ∃ W9, w8.alloc (.cells #[.pointer (some ⟨d2, 0, none⟩), .string t2] 139) = W9 := ⟨_, rfl⟩
                      rw [hW9]
                      have h89 : Below w8.heap.size w8 W9 := by rw [← hW9]; exact (Below.refl _ _).alloc (Nat.le_refl _) _
                      have HB9 := Lib.hid (HB8.out.trans (h89.mono HB8.out.size))
                      have HO19 : Hid (TxS W9 (.slice a1 names1.length k1) names1) := show TxS _ _ _ from HO18.out.below h89
                      have HBX9 : Hid (Blk W9 w8.heap.size 139 #[.pointer (some ⟨d2, 0, none⟩), .string t2]) := show Blk _ _ _ _ by rw [← hW9]; exact Blk.new _ _ _
                      clear h89 hW9
                      refine (HH.out _ HB9.out).mono ?_
                      rintro e w10 ⟨rfl, hb⟩
                      have HB10 := Lib.hid (HB9.out.trans (hb.mono HB9.out.size))
                      have HO10 : Hid (TxS w10 (.slice a1 names1.length k1) names1) := show TxS _ _ _ from HO19.out.below hb
                      have HBX10 := Lib.hid (HBX9.out.below hb HBX9.out.lt)
                      clear hb
                      simp only [ptrV]
                      have hpe := eql_node_same n w10
                      go_wp2_with fail
                      first
                      | go_end0
                      | refine bodyPost_ret (results_none rfl _ _ _) rfl ?_
                      exact (show _ ∧ _ from ⟨⟨_, rfl⟩, G, (HGR.out _ HB10.out).mono (Nat.le_succ _), Turn.of_below HB10.out (Nat.le_refl _), rfl⟩)
                    · cases hg
                  · exfalso
                    first
                    | cases hg
                    | (have := of_decide_eq_true hg; omega)
                    | (have := of_decide_eq_false hg; omega)
                · go_enter Tryz.func165, Tryz.ntmps165
                  go_wp2_with fail
                  have hR := HR0.out _ (Below.refl _ V).drew
                  refine wp_region_M 5 (fun W : World => W.cell? ⟨bf, 0, none⟩ = some tf ∧ W.cell? ⟨bp, 0, none⟩ = some t ∧ Below V.heap.size V W) (by kernel_rfl) ?_
                  (refine wpAnyM_take2 8 (i := 0) (v := ?_) rfl (by kernel_rfl) (by kernel_rfl) (fun _ _ _ h => h) (Or.inl ⟨by rfl, ?_⟩) hR ?_; rotate_left; (focus (intro w hSw; (try dsimp only at hSw); go_simp; (try with_reducible rfl))); (try simp only [put_laws])); (refine wpAnyM_take2 8 (i := 2) (v := ?_) rfl (by kernel_rfl) (by kernel_rfl) (fun _ _ _ h => h) (Or.inl ⟨by rfl, ?_⟩) hR ?_; rotate_left; (focus (intro w hSw; (try dsimp only at hSw); go_simp; (try with_reducible rfl))); (try simp only [put_laws]))
                  (refine wpAnyM_one (i := 1) rfl (by kernel_rfl) (fun K hK => ?_); rw [if_pos (by rfl)]; (try simp only [elem_laws]))
                  go_simp
                  refine (HS1.out _ hR.2.2).mono ?_
                  rintro e w1 ⟨u, rfl, ho1, hb⟩
                  have hR' := HR0.out _ (hR.2.2.trans (hb.mono hR.2.2.size))
                  refine hK _ _ (fun _ => hR') ?_
                  clear hK K hR hb
                  have hR := hR'
                  clear hR'
                  (try simp only [put_laws])
                  (refine wpAnyM_one (i := 3) rfl (by kernel_rfl) (fun K hK => ?_); rw [if_pos (by rfl)]; (try simp only [elem_laws]))
                  go_simp
                  refine (HS2.out _ hR.2.2).mono ?_
                  rintro e w2 ⟨u2, rfl, ho2, hb⟩
                  have HO1 : Hid (TxS w2 u names1) := show TxS _ _ _ from ho1.txs.below hb
                  have HO2 : Hid (TxS w2 u2 names2) := show TxS _ _ _ from ho2.txs
                  have hR' := HR0.out _ (hR.2.2.trans (hb.mono hR.2.2.size))
                  refine hK _ _ (fun _ => hR') ?_
                  clear hK K hR hb ho1 ho2
                  have hR := hR'
                  clear hR'
                  (try simp only [put_laws])
                  (refine wpAnyM_take2 8 (i := 4) (v := ?_) rfl (by kernel_rfl) (by kernel_rfl) (fun _ _ _ h => h) (Or.inl ⟨by rfl, ?_⟩) hR ?_; rotate_left; (focus (intro w hSw; (try dsimp only at hSw); go_simp; (try with_reducible rfl))); (try simp only [put_laws]))
                  (refine wpAnyM_last rfl (by kernel_rfl) (fun K hK => ?_); rw [if_pos (by rfl)]; (try simp only [elem_laws]))
                  go_simp
                  have HB2 := Lib.hid hR.2.2
                  refine hK _ _ ?_
                  clear hK K hR
                  (try simp only [put_laws])
                  refine wpAnyM_done (by kernel_rfl) ?_ _
                  obtain ⟨a1, k1, -, -, hue1, -⟩ := HO1.out.cell
                  obtain ⟨a2, k2, -, -, hue2, -⟩ := HO2.out.cell
                  subst hue1
                  subst hue2
                  go_wp2_with fail
                  refine (HM.out _ _).mono ?_
                  rintro e w3 (⟨hg, ⟨u3, rfl⟩, rfl⟩ | ⟨hg, rfl, rfl⟩)
                  · clear hg
                    have c3 := HRR.out _ HB2.out
                    go_wp2_with fail
                    refine (HAT.out _ _ HB2.out HO1.out).mono ?_
                    rintro e w4 ⟨hb, rfl⟩
                    have HB4 := Lib.hid (HB2.out.trans (hb.mono HB2.out.size))
                    have HO14 : Hid (TxS w4 (.slice a1 names1.length k1) names1) := show TxS _ _ _ from HO1.out.below hb
                    have HO24 : Hid (TxS w4 (.slice a2 names2.length k2) names2) := show TxS _ _ _ from HO2.out.below hb
                    obtain ⟨q41, q42, -⟩ := HR0.out _ HB4.out
                    clear hb
                    go_wp2_with fail
                    refine (HID.out _ HB4.out).mono ?_
                    rintro e w5 ⟨rfl, rfl⟩
                    obtain rfl : wi = false := by simpa using hin'
                    go_wp2_with fail
                    refine (HWI.out _ HB4.out).mono ?_
                    rintro e w6 ⟨rfl, hb⟩
                    have HB6 := Lib.hid (HB4.out.trans (hb.mono HB4.out.size))
                    have HO16 : Hid (TxS w6 (.slice a1 names1.length k1) names1) := show TxS _ _ _ from HO14.out.below hb
                    have HO26 : Hid (TxS w6 (.slice a2 names2.length k2) names2) := show TxS _ _ _ from HO24.out.below hb
                    clear hb
                    go_wp2_with fail
                    refine (HM6.out _ _).mono ?_
                    rintro e w7 (⟨hg, ⟨u7, rfl⟩, rfl⟩ | ⟨hg, rfl, rfl⟩)
                    · clear hg
                      have c7 := HRR.out _ HB6.out
                      go_wp2_with fail
                      refine (HSPT.out _ _ HB6.out HO26.out).mono ?_
                      rintro e w8 ⟨rfl, hb⟩
                      have HB8 := Lib.hid (HB6.out.trans (hb.mono HB6.out.size))
                      have HO18 : Hid (TxS w8 (.slice a1 names1.length k1) names1) := show TxS _ _ _ from HO16.out.below hb
                      clear hb
                      go_wp2_with fail
                      obtain ⟨W9, hW9⟩ : ∃ W9, w8.alloc (.cells #[.pointer (some ⟨d2, 0, none⟩), .string t2] 139) = W9 := ⟨_, rfl⟩
                      rw [hW9]
                      have h89 : Below w8.heap.size w8 W9 := by rw [← hW9]; exact (Below.refl _ _).alloc (Nat.le_refl _) _
                      have HB9 := Lib.hid (HB8.out.trans (h89.mono HB8.out.size))
                      have HO19 : Hid (TxS W9 (.slice a1 names1.length k1) names1) := show TxS _ _ _ from HO18.out.below h89
                      have HBX9 : Hid (Blk W9 w8.heap.size 139 #[.pointer (some ⟨d2, 0, none⟩), .string t2]) := show Blk _ _ _ _ by rw [← hW9]; exact Blk.new _ _ _
                      clear h89 hW9
                      refine (HH.out _ HB9.out).mono ?_
                      rintro e w10 ⟨rfl, hb⟩
                      have HB10 := Lib.hid (HB9.out.trans (hb.mono HB9.out.size))
                      have HO10 : Hid (TxS w10 (.slice a1 names1.length k1) names1) := show TxS _ _ _ from HO19.out.below hb
                      have HBX10 := Lib.hid (HBX9.out.below hb HBX9.out.lt)
                      clear hb
                      simp only [ptrV]
                      have hpe := eql_node_same n w10
                      go_wp2_with fail
                      first
                      | go_end0
                      | refine bodyPost_ret (results_none rfl _ _ _) rfl ?_
                      exact (show _ ∧ _ from ⟨⟨_, rfl⟩, G, (HGR.out _ HB10.out).mono (Nat.le_succ _), Turn.of_below HB10.out (Nat.le_refl _), rfl⟩)
                    · cases hg
                  · exfalso
                    first
                    | cases hg
                    | (have := of_decide_eq_true hg; omega)
                    | (have := of_decide_eq_false hg; omega)
              · have HEQ : Hid (∀ W, Below V.heap.size V W → (binOp .eql 103 (ptrV (lookNm x2.nm (lastN (splitE s).1))) (.pointer (some ⟨n, 0, none⟩))).run Tryz.prog W = .ok (.bool false) W) := show ∀ W, _ → _ = _ from fun W hW => by
                  cases ho : lookNm x2.nm (lastN (splitE s).1) with
                  | none => exact eql_node_none n W
                  | some c =>
                    obtain ⟨z, hz⟩ := hT.leads d2 x2 _ c hx2 ho
                    exact eql_node_other ((hT.below hW).nodes c z hz) ((hT.below hW).nodes n y hy) (fun e => hsame (by rw [ho, e]))
                have hcase : (∃ k, k ≠ 0 ∧ moveQ G r f s = .error k ∧ ∀ W, Below V.heap.size V W → Calls Tryz.prog 167 #[.agg #[.pointer (some ⟨d2, 0, none⟩), .string t2], .pointer (some ⟨n, 0, none⟩)] W fun e w' => e = .panicked (refuse k) ∧ Below W.heap.size W w') ∨
                    (∃ G1 d1 x1 y1 x2' Rl, moveQ G r f s = .ok Rl ∧ MoveAt G1 r (splitE f).1 d1 n d2 (lastN (splitE s).1) x1 y1 x2' ∧ (∀ N, Rl N (movedG G1 d1 x1 (lastN (splitE f).1) n y1 d2 x2' (lastN (splitE s).1))) ∧ (∀ j, Foot G1 j → Foot G j) ∧
                      ∀ W, Below V.heap.size V W → Calls Tryz.prog 167 #[.agg #[.pointer (some ⟨d2, 0, none⟩), .string t2], .pointer (some ⟨n, 0, none⟩)] W fun e w' => (∃ u, e = .returned u) ∧ TreeG w' T r G1 m ∧ Turn (fun j => Foot G j ∨ W.heap.size ≤ j) W w') := by
                  rw [← ht2, hE]
                  unfold moveT
                  cases ho : lookNm x2.nm (lastN (splitE s).1) with
                  | none =>
                    obtain ⟨d1, x1, hma⟩ := hMV2.1 ho
                    refine .inr ⟨G, d1, x1, y, x2, _, rfl, hma, fun N => ⟨d1, x1, hma, rfl⟩, fun j hj => hj, fun W hW => ?_⟩
                    exact (giveWay10_none ((hT.below hW).nodes d2 x2 hx2) _ hls2 ho).mono fun e w' h => ⟨h.1, (hT.below hW).below h.2, Turn.of_below h.2 (Nat.le_refl _)⟩
                  | some c =>
                    have hcn : c ≠ n := fun e => hsame (by rw [ho, e])
                    obtain ⟨z, hz⟩ := hT.leads d2 x2 _ c hx2 ho
                    by_cases hgz : giveN z y = 0
                    · obtain ⟨d1, x1, y', x2', hma⟩ := hMV2.2 c z ho hcn hz hgz
                      refine .inr ⟨_, d1, x1, y', x2', fun _ G' => ∃ d1 x1 y' x2', MoveAt (lessG G d2 x2 (lastN (splitE s).1) c z) r (splitE f).1 d1 n d2 (lastN (splitE s).1) x1 y' x2' ∧ G' = movedG (lessG G d2 x2 (lastN (splitE s).1) c z) d1 x1 (lastN (splitE f).1) n y' d2 x2' (lastN (splitE s).1), by simp [hcn, hz, hgz], hma, fun N => ⟨d1, x1, y', x2', hma, rfl⟩, fun j hj => lessG_foot hx2 hz hj, fun W hW => ?_⟩
                      exact move_give (hT.below hW) hL hx2 ho hz hy hgz hls2
                    · refine .inl ⟨giveN z y, hgz, by simp [hcn, hz, hgz], fun W hW => ?_⟩
                      obtain ⟨e1, e2, e3⟩ := hL d2 x2 _ c z hx2 ho hz
                      have hTW := hT.below hW
                      refine (giveWay10_some (hTW.nodes d2 x2 hx2) (hTW.nodes c z hz) (hTW.nodes n y hy) e1 _ hls2 ho ⟨e2, by omega⟩ (fun e => e1 (hTW.apart d2 c x2 z hx2 hz e))).mono fun e w' h => ?_
                      rcases h with ⟨-, q1, q2⟩ | ⟨q0, -⟩
                      · exact ⟨q1, q2⟩
                      · exact absurd q0 hgz
                rw [hnm2] at HSPT
                rcases hcase with ⟨k, hk, hq, hgw⟩ | ⟨G1, d1, x1, y1, x2', Rl, hq, hma, hRl, hft, hgw⟩
                · rw [hq]
                  have HK := Lib.hid hk
                  have HGW := Lib.hid hgw
                  cases hlv : lookNm x2.nm (lastN (splitE s).1)
                  · rw [hlv] at HH HEQ
                    simp only [ptrV] at HH HEQ
                    clear hT hL hm hmx hf hs hMV b0 b1 b2 hxr hdir h1 ht htf hq hsl hsr hsl2 hsr2 hnm1 hnm2 h2 h3 hE g1 g2 hw hy hyd hwi hin hsp hx2 ht2 hls2 hls1 hMV2 hsame hk hgw hlv
                    cases yd
                    · go_enter Tryz.func165, Tryz.ntmps165
                      go_wp2_with fail
                      have hR := HR0.out _ (Below.refl _ V).drew
                      refine wp_region_M 5 (fun W : World => W.cell? ⟨bf, 0, none⟩ = some tf ∧ W.cell? ⟨bp, 0, none⟩ = some t ∧ Below V.heap.size V W) (by kernel_rfl) ?_
                      (refine wpAnyM_take2 8 (i := 0) (v := ?_) rfl (by kernel_rfl) (by kernel_rfl) (fun _ _ _ h => h) (Or.inl ⟨by rfl, ?_⟩) hR ?_; rotate_left; (focus (intro w hSw; (try dsimp only at hSw); go_simp; (try with_reducible rfl))); (try simp only [put_laws])); (refine wpAnyM_take2 8 (i := 2) (v := ?_) rfl (by kernel_rfl) (by kernel_rfl) (fun _ _ _ h => h) (Or.inl ⟨by rfl, ?_⟩) hR ?_; rotate_left; (focus (intro w hSw; (try dsimp only at hSw); go_simp; (try with_reducible rfl))); (try simp only [put_laws]))
                      (refine wpAnyM_one (i := 1) rfl (by kernel_rfl) (fun K hK => ?_); rw [if_pos (by rfl)]; (try simp only [elem_laws]))
                      go_simp
                      refine (HS1.out _ hR.2.2).mono ?_
                      rintro e w1 ⟨u, rfl, ho1, hb⟩
                      have hR' := HR0.out _ (hR.2.2.trans (hb.mono hR.2.2.size))
                      refine hK _ _ (fun _ => hR') ?_
                      clear hK K hR hb
                      have hR := hR'
                      clear hR'
                      (try simp only [put_laws])
                      (refine wpAnyM_one (i := 3) rfl (by kernel_rfl) (fun K hK => ?_); rw [if_pos (by rfl)]; (try simp only [elem_laws]))
                      go_simp
                      refine (HS2.out _ hR.2.2).mono ?_
                      rintro e w2 ⟨u2, rfl, ho2, hb⟩
                      have HO1 : Hid (TxS w2 u names1) := show TxS _ _ _ from ho1.txs.below hb
                      have HO2 : Hid (TxS w2 u2 names2) := show TxS _ _ _ from ho2.txs
                      have hR' := HR0.out _ (hR.2.2.trans (hb.mono hR.2.2.size))
                      refine hK _ _ (fun _ => hR') ?_
                      clear hK K hR hb ho1 ho2
                      have hR := hR'
                      clear hR'
                      (try simp only [put_laws])
                      (refine wpAnyM_take2 8 (i := 4) (v := ?_) rfl (by kernel_rfl) (by kernel_rfl) (fun _ _ _ h => h) (Or.inl ⟨by rfl, ?_⟩) hR ?_; rotate_left; (focus (intro w hSw; (try dsimp only at hSw); go_simp; (try with_reducible rfl))); (try simp only [put_laws]))
                      (refine wpAnyM_last rfl (by kernel_rfl) (fun K hK => ?_); rw [if_pos (by rfl)]; (try simp only [elem_laws]))
                      go_simp
                      have HB2 := Lib.hid hR.2.2
                      refine hK _ _ ?_
                      clear hK K hR
                      (try simp only [put_laws])
                      refine wpAnyM_done (by kernel_rfl) ?_ _
                      obtain ⟨a1, k1, -, -, hue1, -⟩ := HO1.out.cell
                      obtain ⟨a2, k2, -, -, hue2, -⟩ := HO2.out.cell
                      subst hue1
                      subst hue2
                      go_wp2_with fail
                      refine (HM.out _ _).mono ?_
                      rintro e w3 (⟨hg, ⟨u3, rfl⟩, rfl⟩ | ⟨hg, rfl, rfl⟩)
                      · clear hg
                        have c3 := HRR.out _ HB2.out
                        go_wp2_with fail
                        refine (HAT.out _ _ HB2.out HO1.out).mono ?_
                        rintro e w4 ⟨hb, rfl⟩
                        have HB4 := Lib.hid (HB2.out.trans (hb.mono HB2.out.size))
                        have HO14 : Hid (TxS w4 (.slice a1 names1.length k1) names1) := show TxS _ _ _ from HO1.out.below hb
                        have HO24 : Hid (TxS w4 (.slice a2 names2.length k2) names2) := show TxS _ _ _ from HO2.out.below hb
                        obtain ⟨q41, q42, -⟩ := HR0.out _ HB4.out
                        clear hb
                        go_wp2_with fail
                        refine (HID.out _ HB4.out).mono ?_
                        rintro e w5 ⟨rfl, rfl⟩
                        have HB6 := HB4
                        have HO16 := HO14
                        have HO26 := HO24
                        go_wp2_with fail
                        refine (HM6.out _ _).mono ?_
                        rintro e w7 (⟨hg, ⟨u7, rfl⟩, rfl⟩ | ⟨hg, rfl, rfl⟩)
                        · clear hg
                          have c7 := HRR.out _ HB6.out
                          go_wp2_with fail
                          refine (HSPT.out _ _ HB6.out HO26.out).mono ?_
                          rintro e w8 ⟨rfl, hb⟩
                          have HB8 := Lib.hid (HB6.out.trans (hb.mono HB6.out.size))
                          have HO18 : Hid (TxS w8 (.slice a1 names1.length k1) names1) := show TxS _ _ _ from HO16.out.below hb
                          clear hb
                          go_wp2_with fail
                          obtain ⟨W9, hW9⟩ : ∃ W9, w8.alloc (.cells #[.pointer (some ⟨d2, 0, none⟩), .string t2] 139) = W9 := ⟨_, rfl⟩
                          rw [hW9]
                          have h89 : Below w8.heap.size w8 W9 := by rw [← hW9]; exact (Below.refl _ _).alloc (Nat.le_refl _) _
                          have HB9 := Lib.hid (HB8.out.trans (h89.mono HB8.out.size))
                          have HO19 : Hid (TxS W9 (.slice a1 names1.length k1) names1) := show TxS _ _ _ from HO18.out.below h89
                          have HBX9 : Hid (Blk W9 w8.heap.size 139 #[.pointer (some ⟨d2, 0, none⟩), .string t2]) := show Blk _ _ _ _ by rw [← hW9]; exact Blk.new _ _ _
                          clear h89 hW9
                          refine (HH.out _ HB9.out).mono ?_
                          rintro e w10 ⟨rfl, hb⟩
                          have HB10 := Lib.hid (HB9.out.trans (hb.mono HB9.out.size))
                          have HO10 : Hid (TxS w10 (.slice a1 names1.length k1) names1) := show TxS _ _ _ from HO19.out.below hb
                          have HBX10 := Lib.hid (HBX9.out.below hb HBX9.out.lt)
                          clear hb
                          have hpe := HEQ.out w10 HB10.out
                          have k0 := HBX10.out.cell (j := 0) (v := .pointer (some ⟨d2, 0, none⟩)) rfl
                          have k1 := HBX10.out.cell (j := 1) (v := .string t2) rfl
                          go_wp2_with fail
                          refine (HGW.out _ HB10.out).mono ?_
                          rintro e w11 ⟨rfl, hb⟩
                          exact ⟨rfl, (show _ ∧ _ ∧ _ from ⟨HK.out, rfl, HB10.out.trans (hb.mono HB10.out.size)⟩)⟩
                        · cases hg
                      · exfalso
                        first
                        | cases hg
                        | (have := of_decide_eq_true hg; omega)
                        | (have := of_decide_eq_false hg; omega)
                    · go_enter Tryz.func165, Tryz.ntmps165
                      go_wp2_with fail
                      have hR := HR0.out _ (Below.refl _ V).drew
                      refine wp_region_M 5 (fun W : World => W.cell? ⟨bf, 0, none⟩ = some tf ∧ W.cell? ⟨bp, 0, none⟩ = some t ∧ Below V.heap.size V W) (by kernel_rfl) ?_
                      (refine wpAnyM_take2 8 (i := 0) (v := ?_) rfl (by kernel_rfl) (by kernel_rfl) (fun _ _ _ h => h) (Or.inl ⟨by rfl, ?_⟩) hR ?_; rotate_left; (focus (intro w hSw; (try dsimp only at hSw); go_simp; (try with_reducible rfl))); (try simp only [put_laws])); (refine wpAnyM_take2 8 (i := 2) (v := ?_) rfl (by kernel_rfl) (by kernel_rfl) (fun _ _ _ h => h) (Or.inl ⟨by rfl, ?_⟩) hR ?_; rotate_left; (focus (intro w hSw; (try dsimp only at hSw); go_simp; (try with_reducible rfl))); (try simp only [put_laws]))
                      (refine wpAnyM_one (i := 1) rfl (by kernel_rfl) (fun K hK => ?_); rw [if_pos (by rfl)]; (try simp only [elem_laws]))
                      go_simp
                      refine (HS1.out _ hR.2.2).mono ?_
                      rintro e w1 ⟨u, rfl, ho1, hb⟩
                      have hR' := HR0.out _ (hR.2.2.trans (hb.mono hR.2.2.size))
                      refine hK _ _ (fun _ => hR') ?_
                      clear hK K hR hb
                      have hR := hR'
                      clear hR'
                      (try simp only [put_laws])
                      (refine wpAnyM_one (i := 3) rfl (by kernel_rfl) (fun K hK => ?_); rw [if_pos (by rfl)]; (try simp only [elem_laws]))
                      go_simp
                      refine (HS2.out _ hR.2.2).mono ?_
                      rintro e w2 ⟨u2, rfl, ho2, hb⟩
                      have HO1 : Hid (TxS w2 u names1) := show TxS _ _ _ from ho1.txs.below hb
                      have HO2 : Hid (TxS w2 u2 names2) := show TxS _ _ _ from ho2.txs
                      have hR' := HR0.out _ (hR.2.2.trans (hb.mono hR.2.2.size))
                      refine hK _ _ (fun _ => hR') ?_
                      clear hK K hR hb ho1 ho2
                      have hR := hR'
                      clear hR'
                      (try simp only [put_laws])
                      (refine wpAnyM_take2 8 (i := 4) (v := ?_) rfl (by kernel_rfl) (by kernel_rfl) (fun _ _ _ h => h) (Or.inl ⟨by rfl, ?_⟩) hR ?_; rotate_left; (focus (intro w hSw; (try dsimp only at hSw); go_simp; (try with_reducible rfl))); (try simp only [put_laws]))
                      (refine wpAnyM_last rfl (by kernel_rfl) (fun K hK => ?_); rw [if_pos (by rfl)]; (try simp only [elem_laws]))
                      go_simp
                      have HB2 := Lib.hid hR.2.2
                      refine hK _ _ ?_
                      clear hK K hR
                      (try simp only [put_laws])
                      refine wpAnyM_done (by kernel_rfl) ?_ _
                      obtain ⟨a1, k1, -, -, hue1, -⟩ := HO1.out.cell
                      obtain ⟨a2, k2, -, -, hue2, -⟩ := HO2.out.cell
                      subst hue1
                      subst hue2
                      go_wp2_with fail
                      refine (HM.out _ _).mono ?_
                      rintro e w3 (⟨hg, ⟨u3, rfl⟩, rfl⟩ | ⟨hg, rfl, rfl⟩)
                      · clear hg
                        have c3 := HRR.out _ HB2.out
                        go_wp2_with fail
                        refine (HAT.out _ _ HB2.out HO1.out).mono ?_
                        rintro e w4 ⟨hb, rfl⟩
                        have HB4 := Lib.hid (HB2.out.trans (hb.mono HB2.out.size))
                        have HO14 : Hid (TxS w4 (.slice a1 names1.length k1) names1) := show TxS _ _ _ from HO1.out.below hb
                        have HO24 : Hid (TxS w4 (.slice a2 names2.length k2) names2) := show TxS _ _ _ from HO2.out.below hb
                        obtain ⟨q41, q42, -⟩ := HR0.out _ HB4.out
                        clear hb
                        go_wp2_with fail
                        refine (HID.out _ HB4.out).mono ?_
                        rintro e w5 ⟨rfl, rfl⟩
                        obtain rfl : wi = false := by simpa using hin'
                        go_wp2_with fail
                        refine (HWI.out _ HB4.out).mono ?_
                        rintro e w6 ⟨rfl, hb⟩
                        have HB6 := Lib.hid (HB4.out.trans (hb.mono HB4.out.size))
                        have HO16 : Hid (TxS w6 (.slice a1 names1.length k1) names1) := show TxS _ _ _ from HO14.out.below hb
                        have HO26 : Hid (TxS w6 (.slice a2 names2.length k2) names2) := show TxS _ _ _ from HO24.out.below hb
                        clear hb
                        go_wp2_with fail
                        refine (HM6.out _ _).mono ?_
                        rintro e w7 (⟨hg, ⟨u7, rfl⟩, rfl⟩ | ⟨hg, rfl, rfl⟩)
                        · clear hg
                          have c7 := HRR.out _ HB6.out
                          go_wp2_with fail
                          refine (HSPT.out _ _ HB6.out HO26.out).mono ?_
                          rintro e w8 ⟨rfl, hb⟩
                          have HB8 := Lib.hid (HB6.out.trans (hb.mono HB6.out.size))
                          have HO18 : Hid (TxS w8 (.slice a1 names1.length k1) names1) := show TxS _ _ _ from HO16.out.below hb
                          clear hb
                          go_wp2_with fail
                          obtain ⟨W9, hW9⟩ : ∃ W9, w8.alloc (.cells #[.pointer (some ⟨d2, 0, none⟩), .string t2] 139) = W9 := ⟨_, rfl⟩
                          rw [hW9]
                          have h89 : Below w8.heap.size w8 W9 := by rw [← hW9]; exact (Below.refl _ _).alloc (Nat.le_refl _) _
                          have HB9 := Lib.hid (HB8.out.trans (h89.mono HB8.out.size))
                          have HO19 : Hid (TxS W9 (.slice a1 names1.length k1) names1) := show TxS _ _ _ from HO18.out.below h89
                          have HBX9 : Hid (Blk W9 w8.heap.size 139 #[.pointer (some ⟨d2, 0, none⟩), .string t2]) := show Blk _ _ _ _ by rw [← hW9]; exact Blk.new _ _ _
                          clear h89 hW9
                          refine (HH.out _ HB9.out).mono ?_
                          rintro e w10 ⟨rfl, hb⟩
                          have HB10 := Lib.hid (HB9.out.trans (hb.mono HB9.out.size))
                          have HO10 : Hid (TxS w10 (.slice a1 names1.length k1) names1) := show TxS _ _ _ from HO19.out.below hb
                          have HBX10 := Lib.hid (HBX9.out.below hb HBX9.out.lt)
                          clear hb
                          have hpe := HEQ.out w10 HB10.out
                          have k0 := HBX10.out.cell (j := 0) (v := .pointer (some ⟨d2, 0, none⟩)) rfl
                          have k1 := HBX10.out.cell (j := 1) (v := .string t2) rfl
                          go_wp2_with fail
                          refine (HGW.out _ HB10.out).mono ?_
                          rintro e w11 ⟨rfl, hb⟩
                          exact ⟨rfl, (show _ ∧ _ ∧ _ from ⟨HK.out, rfl, HB10.out.trans (hb.mono HB10.out.size)⟩)⟩
                        · cases hg
                      · exfalso
                        first
                        | cases hg
                        | (have := of_decide_eq_true hg; omega)
                        | (have := of_decide_eq_false hg; omega)
                  · rw [hlv] at HH HEQ
                    simp only [ptrV] at HH HEQ
                    clear hT hL hm hmx hf hs hMV b0 b1 b2 hxr hdir h1 ht htf hq hsl hsr hsl2 hsr2 hnm1 hnm2 h2 h3 hE g1 g2 hw hy hyd hwi hin hsp hx2 ht2 hls2 hls1 hMV2 hsame hk hgw hlv
                    cases yd
                    · go_enter Tryz.func165, Tryz.ntmps165
                      go_wp2_with fail
                      have hR := HR0.out _ (Below.refl _ V).drew
                      refine wp_region_M 5 (fun W : World => W.cell? ⟨bf, 0, none⟩ = some tf ∧ W.cell? ⟨bp, 0, none⟩ = some t ∧ Below V.heap.size V W) (by kernel_rfl) ?_
                      (refine wpAnyM_take2 8 (i := 0) (v := ?_) rfl (by kernel_rfl) (by kernel_rfl) (fun _ _ _ h => h) (Or.inl ⟨by rfl, ?_⟩) hR ?_; rotate_left; (focus (intro w hSw; (try dsimp only at hSw); go_simp; (try with_reducible rfl))); (try simp only [put_laws])); (refine wpAnyM_take2 8 (i := 2) (v := ?_) rfl (by kernel_rfl) (by kernel_rfl) (fun _ _ _ h => h) (Or.inl ⟨by rfl, ?_⟩) hR ?_; rotate_left; (focus (intro w hSw; (try dsimp only at hSw); go_simp; (try with_reducible rfl))); (try simp only [put_laws]))
                      (refine wpAnyM_one (i := 1) rfl (by kernel_rfl) (fun K hK => ?_); rw [if_pos (by rfl)]; (try simp only [elem_laws]))
                      go_simp
                      refine (HS1.out _ hR.2.2).mono ?_
                      rintro e w1 ⟨u, rfl, ho1, hb⟩
                      have hR' := HR0.out _ (hR.2.2.trans (hb.mono hR.2.2.size))
                      refine hK _ _ (fun _ => hR') ?_
                      clear hK K hR hb
                      have hR := hR'
                      clear hR'
                      (try simp only [put_laws])
                      (refine wpAnyM_one (i := 3) rfl (by kernel_rfl) (fun K hK => ?_); rw [if_pos (by rfl)]; (try simp only [elem_laws]))
                      go_simp
                      refine (HS2.out _ hR.2.2).mono ?_
                      rintro e w2 ⟨u2, rfl, ho2, hb⟩
                      have HO1 : Hid (TxS w2 u names1) := show TxS _ _ _ from ho1.txs.below hb
                      have HO2 : Hid (TxS w2 u2 names2) := show TxS _ _ _ from ho2.txs
                      have hR' := HR0.out _ (hR.2.2.trans (hb.mono hR.2.2.size))
                      refine hK _ _ (fun _ => hR') ?_
                      clear hK K hR hb ho1 ho2
                      have hR := hR'
                      clear hR'
                      (try simp only [put_laws])
                      (refine wpAnyM_take2 8 (i := 4) (v := ?_) rfl (by kernel_rfl) (by kernel_rfl) (fun _ _ _ h => h) (Or.inl ⟨by rfl, ?_⟩) hR ?_; rotate_left; (focus (intro w hSw; (try dsimp only at hSw); go_simp; (try with_reducible rfl))); (try simp only [put_laws]))
                      (refine wpAnyM_last rfl (by kernel_rfl) (fun K hK => ?_); rw [if_pos (by rfl)]; (try simp only [elem_laws]))
                      go_simp
                      have HB2 := Lib.hid hR.2.2
                      refine hK _ _ ?_
                      clear hK K hR
                      (try simp only [put_laws])
                      refine wpAnyM_done (by kernel_rfl) ?_ _
                      obtain ⟨a1, k1, -, -, hue1, -⟩ := HO1.out.cell
                      obtain ⟨a2, k2, -, -, hue2, -⟩ := HO2.out.cell
                      subst hue1
                      subst hue2
                      go_wp2_with fail
                      refine (HM.out _ _).mono ?_
                      rintro e w3 (⟨hg, ⟨u3, rfl⟩, rfl⟩ | ⟨hg, rfl, rfl⟩)
                      · clear hg
                        have c3 := HRR.out _ HB2.out
                        go_wp2_with fail
                        refine (HAT.out _ _ HB2.out HO1.out).mono ?_
                        rintro e w4 ⟨hb, rfl⟩
                        have HB4 := Lib.hid (HB2.out.trans (hb.mono HB2.out.size))
                        have HO14 : Hid (TxS w4 (.slice a1 names1.length k1) names1) := show TxS _ _ _ from HO1.out.below hb
                        have HO24 : Hid (TxS w4 (.slice a2 names2.length k2) names2) := show TxS _ _ _ from HO2.out.below hb
                        obtain ⟨q41, q42, -⟩ := HR0.out _ HB4.out
                        clear hb
                        go_wp2_with fail
                        refine (HID.out _ HB4.out).mono ?_
                        rintro e w5 ⟨rfl, rfl⟩
                        have HB6 := HB4
                        have HO16 := HO14
                        have HO26 := HO24
                        go_wp2_with fail
                        refine (HM6.out _ _).mono ?_
                        rintro e w7 (⟨hg, ⟨u7, rfl⟩, rfl⟩ | ⟨hg, rfl, rfl⟩)
                        · clear hg
                          have c7 := HRR.out _ HB6.out
                          go_wp2_with fail
                          refine (HSPT.out _ _ HB6.out HO26.out).mono ?_
                          rintro e w8 ⟨rfl, hb⟩
                          have HB8 := Lib.hid (HB6.out.trans (hb.mono HB6.out.size))
                          have HO18 : Hid (TxS w8 (.slice a1 names1.length k1) names1) := show TxS _ _ _ from HO16.out.below hb
                          clear hb
                          go_wp2_with fail
                          obtain ⟨W9, hW9⟩ : ∃ W9, w8.alloc (.cells #[.pointer (some ⟨d2, 0, none⟩), .string t2] 139) = W9 := ⟨_, rfl⟩
                          rw [hW9]
                          have h89 : Below w8.heap.size w8 W9 := by rw [← hW9]; exact (Below.refl _ _).alloc (Nat.le_refl _) _
                          have HB9 := Lib.hid (HB8.out.trans (h89.mono HB8.out.size))
                          have HO19 : Hid (TxS W9 (.slice a1 names1.length k1) names1) := show TxS _ _ _ from HO18.out.below h89
                          have HBX9 : Hid (Blk W9 w8.heap.size 139 #[.pointer (some ⟨d2, 0, none⟩), .string t2]) := show Blk _ _ _ _ by rw [← hW9]; exact Blk.new _ _ _
                          clear h89 hW9
                          refine (HH.out _ HB9.out).mono ?_
                          rintro e w10 ⟨rfl, hb⟩
                          have HB10 := Lib.hid (HB9.out.trans (hb.mono HB9.out.size))
                          have HO10 : Hid (TxS w10 (.slice a1 names1.length k1) names1) := show TxS _ _ _ from HO19.out.below hb
                          have HBX10 := Lib.hid (HBX9.out.below hb HBX9.out.lt)
                          clear hb
                          have hpe := HEQ.out w10 HB10.out
                          have k0 := HBX10.out.cell (j := 0) (v := .pointer (some ⟨d2, 0, none⟩)) rfl
                          have k1 := HBX10.out.cell (j := 1) (v := .string t2) rfl
                          go_wp2_with fail
                          refine (HGW.out _ HB10.out).mono ?_
                          rintro e w11 ⟨rfl, hb⟩
                          exact ⟨rfl, (show _ ∧ _ ∧ _ from ⟨HK.out, rfl, HB10.out.trans (hb.mono HB10.out.size)⟩)⟩
                        · cases hg
                      · exfalso
                        first
                        | cases hg
                        | (have := of_decide_eq_true hg; omega)
                        | (have := of_decide_eq_false hg; omega)
                    · go_enter Tryz.func165, Tryz.ntmps165
                      go_wp2_with fail
                      have hR := HR0.out _ (Below.refl _ V).drew
                      refine wp_region_M 5 (fun W : World => W.cell? ⟨bf, 0, none⟩ = some tf ∧ W.cell? ⟨bp, 0, none⟩ = some t ∧ Below V.heap.size V W) (by kernel_rfl) ?_
                      (refine wpAnyM_take2 8 (i := 0) (v := ?_) rfl (by kernel_rfl) (by kernel_rfl) (fun _ _ _ h => h) (Or.inl ⟨by rfl, ?_⟩) hR ?_; rotate_left; (focus (intro w hSw; (try dsimp only at hSw); go_simp; (try with_reducible rfl))); (try simp only [put_laws])); (refine wpAnyM_take2 8 (i := 2) (v := ?_) rfl (by kernel_rfl) (by kernel_rfl) (fun _ _ _ h => h) (Or.inl ⟨by rfl, ?_⟩) hR ?_; rotate_left; (focus (intro w hSw; (try dsimp only at hSw); go_simp; (try with_reducible rfl))); (try simp only [put_laws]))
                      (refine wpAnyM_one (i := 1) rfl (by kernel_rfl) (fun K hK => ?_); rw [if_pos (by rfl)]; (try simp only [elem_laws]))
                      go_simp
                      refine (HS1.out _ hR.2.2).mono ?_
                      rintro e w1 ⟨u, rfl, ho1, hb⟩
                      have hR' := HR0.out _ (hR.2.2.trans (hb.mono hR.2.2.size))
                      refine hK _ _ (fun _ => hR') ?_
                      clear hK K hR hb
                      have hR := hR'
                      clear hR'
                      (try simp only [put_laws])
                      (refine wpAnyM_one (i := 3) rfl (by kernel_rfl) (fun K hK => ?_); rw [if_pos (by rfl)]; (try simp only [elem_laws]))
                      go_simp
                      refine (HS2.out _ hR.2.2).mono ?_
                      rintro e w2 ⟨u2, rfl, ho2, hb⟩
                      have HO1 : Hid (TxS w2 u names1) := show TxS _ _ _ from ho1.txs.below hb
                      have HO2 : Hid (TxS w2 u2 names2) := show TxS _ _ _ from ho2.txs
                      have hR' := HR0.out _ (hR.2.2.trans (hb.mono hR.2.2.size))
                      refine hK _ _ (fun _ => hR') ?_
                      clear hK K hR hb ho1 ho2
                      have hR := hR'
                      clear hR'
                      (try simp only [put_laws])
                      (refine wpAnyM_take2 8 (i := 4) (v := ?_) rfl (by kernel_rfl) (by kernel_rfl) (fun _ _ _ h => h) (Or.inl ⟨by rfl, ?_⟩) hR ?_; rotate_left; (focus (intro w hSw; (try dsimp only at hSw); go_simp; (try with_reducible rfl))); (try simp only [put_laws]))
                      (refine wpAnyM_last rfl (by kernel_rfl) (fun K hK => ?_); rw [if_pos (by rfl)]; (try simp only [elem_laws]))
                      go_simp
                      have HB2 := Lib.hid hR.2.2
                      refine hK _ _ ?_
                      clear hK K hR
                      (try simp only [put_laws])
                      refine wpAnyM_done (by kernel_rfl) ?_ _
                      obtain ⟨a1, k1, -, -, hue1, -⟩ := HO1.out.cell
                      obtain ⟨a2, k2, -, -, hue2, -⟩ := HO2.out.cell
                      subst hue1
                      subst hue2
                      go_wp2_with fail
                      refine (HM.out _ _).mono ?_
                      rintro e w3 (⟨hg, ⟨u3, rfl⟩, rfl⟩ | ⟨hg, rfl, rfl⟩)
                      · clear hg
                        have c3 := HRR.out _ HB2.out
                        go_wp2_with fail
                        refine (HAT.out _ _ HB2.out HO1.out).mono ?_
                        rintro e w4 ⟨hb, rfl⟩
                        have HB4 := Lib.hid (HB2.out.trans (hb.mono HB2.out.size))
                        have HO14 : Hid (TxS w4 (.slice a1 names1.length k1) names1) := show TxS _ _ _ from HO1.out.below hb
                        have HO24 : Hid (TxS w4 (.slice a2 names2.length k2) names2) := show TxS _ _ _ from HO2.out.below hb
                        obtain ⟨q41, q42, -⟩ := HR0.out _ HB4.out
                        clear hb
                        go_wp2_with fail
                        refine (HID.out _ HB4.out).mono ?_
                        rintro e w5 ⟨rfl, rfl⟩
                        obtain rfl : wi = false := by simpa using hin'
                        go_wp2_with fail
                        refine (HWI.out _ HB4.out).mono ?_
                        rintro e w6 ⟨rfl, hb⟩
                        have HB6 := Lib.hid (HB4.out.trans (hb.mono HB4.out.size))
                        have HO16 : Hid (TxS w6 (.slice a1 names1.length k1) names1) := show TxS _ _ _ from HO14.out.below hb
                        have HO26 : Hid (TxS w6 (.slice a2 names2.length k2) names2) := show TxS _ _ _ from HO24.out.below hb
                        clear hb
                        go_wp2_with fail
                        refine (HM6.out _ _).mono ?_
                        rintro e w7 (⟨hg, ⟨u7, rfl⟩, rfl⟩ | ⟨hg, rfl, rfl⟩)
                        · clear hg
                          have c7 := HRR.out _ HB6.out
                          go_wp2_with fail
                          refine (HSPT.out _ _ HB6.out HO26.out).mono ?_
                          rintro e w8 ⟨rfl, hb⟩
                          have HB8 := Lib.hid (HB6.out.trans (hb.mono HB6.out.size))
                          have HO18 : Hid (TxS w8 (.slice a1 names1.length k1) names1) := show TxS _ _ _ from HO16.out.below hb
                          clear hb
                          go_wp2_with fail
                          obtain ⟨W9, hW9⟩ : ∃ W9, w8.alloc (.cells #[.pointer (some ⟨d2, 0, none⟩), .string t2] 139) = W9 := ⟨_, rfl⟩
                          rw [hW9]
                          have h89 : Below w8.heap.size w8 W9 := by rw [← hW9]; exact (Below.refl _ _).alloc (Nat.le_refl _) _
                          have HB9 := Lib.hid (HB8.out.trans (h89.mono HB8.out.size))
                          have HO19 : Hid (TxS W9 (.slice a1 names1.length k1) names1) := show TxS _ _ _ from HO18.out.below h89
                          have HBX9 : Hid (Blk W9 w8.heap.size 139 #[.pointer (some ⟨d2, 0, none⟩), .string t2]) := show Blk _ _ _ _ by rw [← hW9]; exact Blk.new _ _ _
                          clear h89 hW9
                          refine (HH.out _ HB9.out).mono ?_
                          rintro e w10 ⟨rfl, hb⟩
                          have HB10 := Lib.hid (HB9.out.trans (hb.mono HB9.out.size))
                          have HO10 : Hid (TxS w10 (.slice a1 names1.length k1) names1) := show TxS _ _ _ from HO19.out.below hb
                          have HBX10 := Lib.hid (HBX9.out.below hb HBX9.out.lt)
                          clear hb
                          have hpe := HEQ.out w10 HB10.out
                          have k0 := HBX10.out.cell (j := 0) (v := .pointer (some ⟨d2, 0, none⟩)) rfl
                          have k1 := HBX10.out.cell (j := 1) (v := .string t2) rfl
                          go_wp2_with fail
                          refine (HGW.out _ HB10.out).mono ?_
                          rintro e w11 ⟨rfl, hb⟩
                          exact ⟨rfl, (show _ ∧ _ ∧ _ from ⟨HK.out, rfl, HB10.out.trans (hb.mono HB10.out.size)⟩)⟩
                        · cases hg
                      · exfalso
                        first
                        | cases hg
                        | (have := of_decide_eq_true hg; omega)
                        | (have := of_decide_eq_false hg; omega)
                · rw [hq]
                  have HGW := Lib.hid hgw
                  have HRL := Lib.hid hRl
                  have HFT := Lib.hid hft
                  have HBT : Hid (∀ W, Below V.heap.size V W → Boxed W bt 52 (.pointer (some ⟨T, 0, none⟩))) := show ∀ W, _ from fun W hW => boxed_low b1 hW
                  obtain ⟨t1, ht1⟩ : ∃ t, encStr (lastN (splitE f).1) = .string t := ⟨_, rfl⟩
                  have HSF : Hid (∀ W v, TreeG W T r G1 m → TxS W v (splitE f).1 → Calls Tryz.prog 161 #[.pointer (some ⟨T, 0, none⟩), v] W fun e w' => e = .returned (.agg #[.pointer (some ⟨d1, 0, none⟩), .string t1]) ∧ Below W.heap.size W w') := show ∀ W v, _ from fun W v hTW hv => by
                    obtain ⟨xr1, hr1, -⟩ := hTW.root
                    refine (spot10_any hTW.nodes hTW.leads hTW.at_ hr1 (List.length_pos_iff.2 g1) (by omega) (rightN_short hsr) hv).mono fun e w' h => ⟨?_, h.1⟩
                    have := h.2
                    rw [hma.sp] at this
                    unfold SpotEnd at this
                    rw [ht1] at this
                    exact this
                  have HLV : Hid (∀ W, TreeG W T r G1 m → Calls Tryz.prog 162 #[.agg #[.pointer (some ⟨d1, 0, none⟩), .string t1]] W fun e w' => (∃ u, e = .returned u) ∧ TreeG w' T r (lessG G1 d1 x1 (lastN (splitE f).1) n y1) m ∧ Turn (fun j => Foot G1 j ∨ W.heap.size ≤ j) W w') := show ∀ W, _ from fun W hTW => by
                    have := move_leave hma hls1 W hTW
                    rw [ht1] at this
                    exact this
                  have HTK : Hid (∀ W, TreeG W T r (lessG G1 d1 x1 (lastN (splitE f).1) n y1) m → Calls Tryz.prog 83 #[.agg #[.pointer (some ⟨d2, 0, none⟩), .string t2], .pointer (some ⟨n, 0, none⟩)] W fun e w' => (∃ u, e = .returned u) ∧ TreeG w' T r (movedG G1 d1 x1 (lastN (splitE f).1) n y1 d2 x2' (lastN (splitE s).1)) (m + 1) ∧ Turn (fun j => Foot G1 j ∨ W.heap.size ≤ j) W w') := show ∀ W, _ from fun W hTW => by
                    have := move_take hma hm hls2 W hTW
                    rw [ht2] at this
                    exact this
                  obtain ⟨G3, hG3⟩ : ∃ G3, movedG G1 d1 x1 (lastN (splitE f).1) n y1 d2 x2' (lastN (splitE s).1) = G3 := ⟨_, rfl⟩
                  obtain ⟨G2, hG2⟩ : ∃ G2, lessG G1 d1 x1 (lastN (splitE f).1) n y1 = G2 := ⟨_, rfl⟩
                  rw [hG3] at HRL HTK
                  rw [hG2] at HLV HTK
                  rw [hnm1] at HSF
                  cases hlv : lookNm x2.nm (lastN (splitE s).1)
                  · rw [hlv] at HH HEQ
                    simp only [ptrV] at HH HEQ
                    clear hT hL hm hmx hf hs hMV b0 b1 b2 hxr hdir h1 ht htf hq hsl hsr hsl2 hsr2 hnm1 hnm2 h2 h3 hE g1 g2 hw hy hyd hwi hin hsp hx2 ht2 hls2 hls1 hMV2 hsame hgw hRl hft hma ht1 hG3 hG2 hlv
                    cases yd
                    · go_enter Tryz.func165, Tryz.ntmps165
                      go_wp2_with fail
                      have hR := HR0.out _ (Below.refl _ V).drew
                      refine wp_region_M 5 (fun W : World => W.cell? ⟨bf, 0, none⟩ = some tf ∧ W.cell? ⟨bp, 0, none⟩ = some t ∧ Below V.heap.size V W) (by kernel_rfl) ?_
                      (refine wpAnyM_take2 8 (i := 0) (v := ?_) rfl (by kernel_rfl) (by kernel_rfl) (fun _ _ _ h => h) (Or.inl ⟨by rfl, ?_⟩) hR ?_; rotate_left; (focus (intro w hSw; (try dsimp only at hSw); go_simp; (try with_reducible rfl))); (try simp only [put_laws])); (refine wpAnyM_take2 8 (i := 2) (v := ?_) rfl (by kernel_rfl) (by kernel_rfl) (fun _ _ _ h => h) (Or.inl ⟨by rfl, ?_⟩) hR ?_; rotate_left; (focus (intro w hSw; (try dsimp only at hSw); go_simp; (try with_reducible rfl))); (try simp only [put_laws]))
                      (refine wpAnyM_one (i := 1) rfl (by kernel_rfl) (fun K hK => ?_); rw [if_pos (by rfl)]; (try simp only [elem_laws]))
                      go_simp
                      refine (HS1.out _ hR.2.2).mono ?_
                      rintro e w1 ⟨u, rfl, ho1, hb⟩
                      have hR' := HR0.out _ (hR.2.2.trans (hb.mono hR.2.2.size))
                      refine hK _ _ (fun _ => hR') ?_
                      clear hK K hR hb
                      have hR := hR'
                      clear hR'
                      (try simp only [put_laws])
                      (refine wpAnyM_one (i := 3) rfl (by kernel_rfl) (fun K hK => ?_); rw [if_pos (by rfl)]; (try simp only [elem_laws]))
                      go_simp
                      refine (HS2.out _ hR.2.2).mono ?_
                      rintro e w2 ⟨u2, rfl, ho2, hb⟩
                      have HO1 : Hid (TxS w2 u names1) := show TxS _ _ _ from ho1.txs.below hb
                      have HO2 : Hid (TxS w2 u2 names2) := show TxS _ _ _ from ho2.txs
                      have hR' := HR0.out _ (hR.2.2.trans (hb.mono hR.2.2.size))
                      refine hK _ _ (fun _ => hR') ?_
                      clear hK K hR hb ho1 ho2
                      have hR := hR'
                      clear hR'
                      (try simp only [put_laws])
                      (refine wpAnyM_take2 8 (i := 4) (v := ?_) rfl (by kernel_rfl) (by kernel_rfl) (fun _ _ _ h => h) (Or.inl ⟨by rfl, ?_⟩) hR ?_; rotate_left; (focus (intro w hSw; (try dsimp only at hSw); go_simp; (try with_reducible rfl))); (try simp only [put_laws]))
                      (refine wpAnyM_last rfl (by kernel_rfl) (fun K hK => ?_); rw [if_pos (by rfl)]; (try simp only [elem_laws]))
                      go_simp
                      have HB2 := Lib.hid hR.2.2
                      refine hK _ _ ?_
                      clear hK K hR
                      (try simp only [put_laws])
                      refine wpAnyM_done (by kernel_rfl) ?_ _
                      obtain ⟨a1, k1, -, -, hue1, -⟩ := HO1.out.cell
                      obtain ⟨a2, k2, -, -, hue2, -⟩ := HO2.out.cell
                      subst hue1
                      subst hue2
                      go_wp2_with fail
                      refine (HM.out _ _).mono ?_
                      rintro e w3 (⟨hg, ⟨u3, rfl⟩, rfl⟩ | ⟨hg, rfl, rfl⟩)
                      · clear hg
                        have c3 := HRR.out _ HB2.out
                        go_wp2_with fail
                        refine (HAT.out _ _ HB2.out HO1.out).mono ?_
                        rintro e w4 ⟨hb, rfl⟩
                        have HB4 := Lib.hid (HB2.out.trans (hb.mono HB2.out.size))
                        have HO14 : Hid (TxS w4 (.slice a1 names1.length k1) names1) := show TxS _ _ _ from HO1.out.below hb
                        have HO24 : Hid (TxS w4 (.slice a2 names2.length k2) names2) := show TxS _ _ _ from HO2.out.below hb
                        obtain ⟨q41, q42, -⟩ := HR0.out _ HB4.out
                        clear hb
                        go_wp2_with fail
                        refine (HID.out _ HB4.out).mono ?_
                        rintro e w5 ⟨rfl, rfl⟩
                        have HB6 := HB4
                        have HO16 := HO14
                        have HO26 := HO24
                        go_wp2_with fail
                        refine (HM6.out _ _).mono ?_
                        rintro e w7 (⟨hg, ⟨u7, rfl⟩, rfl⟩ | ⟨hg, rfl, rfl⟩)
                        · clear hg
                          have c7 := HRR.out _ HB6.out
                          go_wp2_with fail
                          refine (HSPT.out _ _ HB6.out HO26.out).mono ?_
                          rintro e w8 ⟨rfl, hb⟩
                          have HB8 := Lib.hid (HB6.out.trans (hb.mono HB6.out.size))
                          have HO18 : Hid (TxS w8 (.slice a1 names1.length k1) names1) := show TxS _ _ _ from HO16.out.below hb
                          clear hb
                          go_wp2_with fail
                          obtain ⟨W9, hW9⟩ : ∃ W9, w8.alloc (.cells #[.pointer (some ⟨d2, 0, none⟩), .string t2] 139) = W9 := ⟨_, rfl⟩
                          rw [hW9]
                          have h89 : Below w8.heap.size w8 W9 := by rw [← hW9]; exact (Below.refl _ _).alloc (Nat.le_refl _) _
                          have HB9 := Lib.hid (HB8.out.trans (h89.mono HB8.out.size))
                          have HO19 : Hid (TxS W9 (.slice a1 names1.length k1) names1) := show TxS _ _ _ from HO18.out.below h89
                          have HBX9 : Hid (Blk W9 w8.heap.size 139 #[.pointer (some ⟨d2, 0, none⟩), .string t2]) := show Blk _ _ _ _ by rw [← hW9]; exact Blk.new _ _ _
                          clear h89 hW9
                          refine (HH.out _ HB9.out).mono ?_
                          rintro e w10 ⟨rfl, hb⟩
                          have HB10 := Lib.hid (HB9.out.trans (hb.mono HB9.out.size))
                          have HO10 : Hid (TxS w10 (.slice a1 names1.length k1) names1) := show TxS _ _ _ from HO19.out.below hb
                          have HBX10 := Lib.hid (HBX9.out.below hb HBX9.out.lt)
                          clear hb
                          have hpe := HEQ.out w10 HB10.out
                          have k0 := HBX10.out.cell (j := 0) (v := .pointer (some ⟨d2, 0, none⟩)) rfl
                          have k1 := HBX10.out.cell (j := 1) (v := .string t2) rfl
                          go_wp2_with fail
                          refine (HGW.out _ HB10.out).mono ?_
                          rintro e w11 ⟨⟨u11, rfl⟩, ht11, htn11⟩
                          have hg10 := HGR.out _ HB10.out
                          have b11 := boxed_turn hg10.nodes (HBT.out _ HB10.out) htn11
                          have HB11 := Lib.hid b11
                          have c11 := b11.cell
                          have HX11 := Lib.hid (spot_turn hg10.nodes HBX10.out htn11)
                          have HO11 := Lib.hid (txs_turn HO10.out htn11 (fun j hj hl => by
                            rcases hj with hj | hj
                            · exact Foot.noStr hg10.nodes hj
                            · omega))
                          have HT11 := Lib.hid ht11
                          have HN11 := Lib.hid htn11
                          clear hpe k0 k1 hg10 b11 ht11 htn11
                          go_wp2_with fail
                          refine (HSF.out _ _ HT11.out HO11.out).mono ?_
                          rintro e w12 ⟨rfl, hb⟩
                          have HT12 := Lib.hid (HT11.out.below hb)
                          have HX12 := Lib.hid (HX11.out.below hb HX11.out.lt)
                          have HN12 : Hid (Below w11.heap.size w11 w12) := show Below _ _ _ from hb
                          clear hb
                          go_wp2_with fail
                          refine (HLV.out _ HT12.out).mono ?_
                          rintro e w13 ⟨⟨u13, rfl⟩, ht13, htn13⟩
                          have hx13 := spot_turn HT12.out.nodes HX12.out htn13
                          have k0 := hx13.cell (j := 0) (v := .pointer (some ⟨d2, 0, none⟩)) rfl
                          have k1 := hx13.cell (j := 1) (v := .string t2) rfl
                          have HT13 := Lib.hid ht13
                          have HN13 := Lib.hid htn13
                          clear ht13 htn13 hx13
                          go_wp2_with fail
                          refine (HTK.out _ HT13.out).mono ?_
                          rintro e w14 ⟨⟨u14, rfl⟩, ht14, htn14⟩
                          have HT14 := Lib.hid ht14
                          have HN14 := Lib.hid htn14
                          clear ht14 htn14 k0 k1
                          go_wp2_with fail
                          first
                          | go_end0
                          | refine bodyPost_ret (results_none rfl _ _ _) rfl ?_
                          have s10 := HB10.out.size
                          have s11 := HN11.out.size
                          have s12 := HN12.out.size
                          have s13 := HN13.out.size
                          refine (show _ ∧ _ from ⟨⟨_, rfl⟩, G3, HT14.out, ?_, HRL.out _⟩)
                          refine ((((Turn.of_below HB10.out (Nat.le_refl _)).trans (HN11.out.mono fun j hj => ?_)).trans (Turn.of_below HN12.out (Nat.le_refl _))).trans (HN13.out.mono fun j hj => ?_)).trans (HN14.out.mono fun j hj => ?_)
                          · rcases hj with hj | hj
                            · exact .inl hj
                            · exact .inr (by omega)
                          · rcases hj with hj | hj
                            · exact .inl (HFT.out j hj)
                            · exact .inr (by omega)
                          · rcases hj with hj | hj
                            · exact .inl (HFT.out j hj)
                            · exact .inr (by omega)
                        · cases hg
                      · exfalso
                        first
                        | cases hg
                        | (have := of_decide_eq_true hg; omega)
                        | (have := of_decide_eq_false hg; omega)
                    · go_enter Tryz.func165, Tryz.ntmps165
                      go_wp2_with fail
                      have hR := HR0.out _ (Below.refl _ V).drew
                      refine wp_region_M 5 (fun W : World => W.cell? ⟨bf, 0, none⟩ = some tf ∧ W.cell? ⟨bp, 0, none⟩ = some t ∧ Below V.heap.size V W) (by kernel_rfl) ?_
                      (refine wpAnyM_take2 8 (i := 0) (v := ?_) rfl (by kernel_rfl) (by kernel_rfl) (fun _ _ _ h => h) (Or.inl ⟨by rfl, ?_⟩) hR ?_; rotate_left; (focus (intro w hSw; (try dsimp only at hSw); go_simp; (try with_reducible rfl))); (try simp only [put_laws])); (refine wpAnyM_take2 8 (i := 2) (v := ?_) rfl (by kernel_rfl) (by kernel_rfl) (fun _ _ _ h => h) (Or.inl ⟨by rfl, ?_⟩) hR ?_; rotate_left; (focus (intro w hSw; (try dsimp only at hSw); go_simp; (try with_reducible rfl))); (try simp only [put_laws]))
                      (refine wpAnyM_one (i := 1) rfl (by kernel_rfl) (fun K hK => ?_); rw [if_pos (by rfl)]; (try simp only [elem_laws]))
                      go_simp
                      refine (HS1.out _ hR.2.2).mono ?_
                      rintro e w1 ⟨u, rfl, ho1, hb⟩
                      have hR' := HR0.out _ (hR.2.2.trans (hb.mono hR.2.2.size))
                      refine hK _ _ (fun _ => hR') ?_
                      clear hK K hR hb
                      have hR := hR'
                      clear hR'
                      (try simp only [put_laws])
                      (refine wpAnyM_one (i := 3) rfl (by kernel_rfl) (fun K hK => ?_); rw [if_pos (by rfl)]; (try simp only [elem_laws]))
                      go_simp
                      refine (HS2.out _ hR.2.2).mono ?_
                      rintro e w2 ⟨u2, rfl, ho2, hb⟩
                      have HO1 : Hid (TxS w2 u names1) := show TxS _ _ _ from ho1.txs.below hb
                      have HO2 : Hid (TxS w2 u2 names2) := show TxS _ _ _ from ho2.txs
                      have hR' := HR0.out _ (hR.2.2.trans (hb.mono hR.2.2.size))
                      refine hK _ _ (fun _ => hR') ?_
                      clear hK K hR hb ho1 ho2
                      have hR := hR'
                      clear hR'
                      (try simp only [put_laws])
                      (refine wpAnyM_take2 8 (i := 4) (v := ?_) rfl (by kernel_rfl) (by kernel_rfl) (fun _ _ _ h => h) (Or.inl ⟨by rfl, ?_⟩) hR ?_; rotate_left; (focus (intro w hSw; (try dsimp only at hSw); go_simp; (try with_reducible rfl))); (try simp only [put_laws]))
                      (refine wpAnyM_last rfl (by kernel_rfl) (fun K hK => ?_); rw [if_pos (by rfl)]; (try simp only [elem_laws]))
                      go_simp
                      have HB2 := Lib.hid hR.2.2
                      refine hK _ _ ?_
                      clear hK K hR
                      (try simp only [put_laws])
                      refine wpAnyM_done (by kernel_rfl) ?_ _
                      obtain ⟨a1, k1, -, -, hue1, -⟩ := HO1.out.cell
                      obtain ⟨a2, k2, -, -, hue2, -⟩ := HO2.out.cell
                      subst hue1
                      subst hue2
                      go_wp2_with fail
                      refine (HM.out _ _).mono ?_
                      rintro e w3 (⟨hg, ⟨u3, rfl⟩, rfl⟩ | ⟨hg, rfl, rfl⟩)
                      · clear hg
                        have c3 := HRR.out _ HB2.out
                        go_wp2_with fail
                        refine (HAT.out _ _ HB2.out HO1.out).mono ?_
                        rintro e w4 ⟨hb, rfl⟩
                        have HB4 := Lib.hid (HB2.out.trans (hb.mono HB2.out.size))
                        have HO14 : Hid (TxS w4 (.slice a1 names1.length k1) names1) := show TxS _ _ _ from HO1.out.below hb
                        have HO24 : Hid (TxS w4 (.slice a2 names2.length k2) names2) := show TxS _ _ _ from HO2.out.below hb
                        obtain ⟨q41, q42, -⟩ := HR0.out _ HB4.out
                        clear hb
                        go_wp2_with fail
                        refine (HID.out _ HB4.out).mono ?_
                        rintro e w5 ⟨rfl, rfl⟩
                        obtain rfl : wi = false := by simpa using hin'
                        go_wp2_with fail
                        refine (HWI.out _ HB4.out).mono ?_
                        rintro e w6 ⟨rfl, hb⟩
                        have HB6 := Lib.hid (HB4.out.trans (hb.mono HB4.out.size))
                        have HO16 : Hid (TxS w6 (.slice a1 names1.length k1) names1) := show TxS _ _ _ from HO14.out.below hb
                        have HO26 : Hid (TxS w6 (.slice a2 names2.length k2) names2) := show TxS _ _ _ from HO24.out.below hb
                        clear hb
                        go_wp2_with fail
                        refine (HM6.out _ _).mono ?_
                        rintro e w7 (⟨hg, ⟨u7, rfl⟩, rfl⟩ | ⟨hg, rfl, rfl⟩)
                        · clear hg
                          have c7 := HRR.out _ HB6.out
                          go_wp2_with fail
                          refine (HSPT.out _ _ HB6.out HO26.out).mono ?_
                          rintro e w8 ⟨rfl, hb⟩
                          have HB8 := Lib.hid (HB6.out.trans (hb.mono HB6.out.size))
                          have HO18 : Hid (TxS w8 (.slice a1 names1.length k1) names1) := show TxS _ _ _ from HO16.out.below hb
                          clear hb
                          go_wp2_with fail
                          obtain ⟨W9, hW9⟩ : ∃ W9, w8.alloc (.cells #[.pointer (some ⟨d2, 0, none⟩), .string t2] 139) = W9 := ⟨_, rfl⟩
                          rw [hW9]
                          have h89 : Below w8.heap.size w8 W9 := by rw [← hW9]; exact (Below.refl _ _).alloc (Nat.le_refl _) _
                          have HB9 := Lib.hid (HB8.out.trans (h89.mono HB8.out.size))
                          have HO19 : Hid (TxS W9 (.slice a1 names1.length k1) names1) := show TxS _ _ _ from HO18.out.below h89
                          have HBX9 : Hid (Blk W9 w8.heap.size 139 #[.pointer (some ⟨d2, 0, none⟩), .string t2]) := show Blk _ _ _ _ by rw [← hW9]; exact Blk.new _ _ _
                          clear h89 hW9
                          refine (HH.out _ HB9.out).mono ?_
                          rintro e w10 ⟨rfl, hb⟩
                          have HB10 := Lib.hid (HB9.out.trans (hb.mono HB9.out.size))
                          have HO10 : Hid (TxS w10 (.slice a1 names1.length k1) names1) := show TxS _ _ _ from HO19.out.below hb
                          have HBX10 := Lib.hid (HBX9.out.below hb HBX9.out.lt)
                          clear hb
                          have hpe := HEQ.out w10 HB10.out
                          have k0 := HBX10.out.cell (j := 0) (v := .pointer (some ⟨d2, 0, none⟩)) rfl
                          have k1 := HBX10.out.cell (j := 1) (v := .string t2) rfl
                          go_wp2_with fail
                          refine (HGW.out _ HB10.out).mono ?_
                          rintro e w11 ⟨⟨u11, rfl⟩, ht11, htn11⟩
                          have hg10 := HGR.out _ HB10.out
                          have b11 := boxed_turn hg10.nodes (HBT.out _ HB10.out) htn11
                          have HB11 := Lib.hid b11
                          have c11 := b11.cell
                          have HX11 := Lib.hid (spot_turn hg10.nodes HBX10.out htn11)
                          have HO11 := Lib.hid (txs_turn HO10.out htn11 (fun j hj hl => by
                            rcases hj with hj | hj
                            · exact Foot.noStr hg10.nodes hj
                            · omega))
                          have HT11 := Lib.hid ht11
                          have HN11 := Lib.hid htn11
                          clear hpe k0 k1 hg10 b11 ht11 htn11
                          go_wp2_with fail
                          refine (HSF.out _ _ HT11.out HO11.out).mono ?_
                          rintro e w12 ⟨rfl, hb⟩
                          have HT12 := Lib.hid (HT11.out.below hb)
                          have HX12 := Lib.hid (HX11.out.below hb HX11.out.lt)
                          have HN12 : Hid (Below w11.heap.size w11 w12) := show Below _ _ _ from hb
                          clear hb
                          go_wp2_with fail
                          refine (HLV.out _ HT12.out).mono ?_
                          rintro e w13 ⟨⟨u13, rfl⟩, ht13, htn13⟩
                          have hx13 := spot_turn HT12.out.nodes HX12.out htn13
                          have k0 := hx13.cell (j := 0) (v := .pointer (some ⟨d2, 0, none⟩)) rfl
                          have k1 := hx13.cell (j := 1) (v := .string t2) rfl
                          have HT13 := Lib.hid ht13
                          have HN13 := Lib.hid htn13
                          clear ht13 htn13 hx13
                          go_wp2_with fail
                          refine (HTK.out _ HT13.out).mono ?_
                          rintro e w14 ⟨⟨u14, rfl⟩, ht14, htn14⟩
                          have HT14 := Lib.hid ht14
                          have HN14 := Lib.hid htn14
                          clear ht14 htn14 k0 k1
                          go_wp2_with fail
                          first
                          | go_end0
                          | refine bodyPost_ret (results_none rfl _ _ _) rfl ?_
                          have s10 := HB10.out.size
                          have s11 := HN11.out.size
                          have s12 := HN12.out.size
                          have s13 := HN13.out.size
                          refine (show _ ∧ _ from ⟨⟨_, rfl⟩, G3, HT14.out, ?_, HRL.out _⟩)
                          refine ((((Turn.of_below HB10.out (Nat.le_refl _)).trans (HN11.out.mono fun j hj => ?_)).trans (Turn.of_below HN12.out (Nat.le_refl _))).trans (HN13.out.mono fun j hj => ?_)).trans (HN14.out.mono fun j hj => ?_)
                          · rcases hj with hj | hj
                            · exact .inl hj
                            · exact .inr (by omega)
                          · rcases hj with hj | hj
                            · exact .inl (HFT.out j hj)
                            · exact .inr (by omega)
                          · rcases hj with hj | hj
                            · exact .inl (HFT.out j hj)
                            · exact .inr (by omega)
                        · cases hg
                      · exfalso
                        first
                        | cases hg
                        | (have := of_decide_eq_true hg; omega)
                        | (have := of_decide_eq_false hg; omega)
                  · rw [hlv] at HH HEQ
                    simp only [ptrV] at HH HEQ
                    clear hT hL hm hmx hf hs hMV b0 b1 b2 hxr hdir h1 ht htf hq hsl hsr hsl2 hsr2 hnm1 hnm2 h2 h3 hE g1 g2 hw hy hyd hwi hin hsp hx2 ht2 hls2 hls1 hMV2 hsame hgw hRl hft hma ht1 hG3 hG2 hlv
                    cases yd
                    · go_enter Tryz.func165, Tryz.ntmps165
                      go_wp2_with fail
                      have hR := HR0.out _ (Below.refl _ V).drew
                      refine wp_region_M 5 (fun W : World => W.cell? ⟨bf, 0, none⟩ = some tf ∧ W.cell? ⟨bp, 0, none⟩ = some t ∧ Below V.heap.size V W) (by kernel_rfl) ?_
                      (refine wpAnyM_take2 8 (i := 0) (v := ?_) rfl (by kernel_rfl) (by kernel_rfl) (fun _ _ _ h => h) (Or.inl ⟨by rfl, ?_⟩) hR ?_; rotate_left; (focus (intro w hSw; (try dsimp only at hSw); go_simp; (try with_reducible rfl))); (try simp only [put_laws])); (refine wpAnyM_take2 8 (i := 2) (v := ?_) rfl (by kernel_rfl) (by kernel_rfl) (fun _ _ _ h => h) (Or.inl ⟨by rfl, ?_⟩) hR ?_; rotate_left; (focus (intro w hSw; (try dsimp only at hSw); go_simp; (try with_reducible rfl))); (try simp only [put_laws]))
                      (refine wpAnyM_one (i := 1) rfl (by kernel_rfl) (fun K hK => ?_); rw [if_pos (by rfl)]; (try simp only [elem_laws]))
                      go_simp
                      refine (HS1.out _ hR.2.2).mono ?_
                      rintro e w1 ⟨u, rfl, ho1, hb⟩
                      have hR' := HR0.out _ (hR.2.2.trans (hb.mono hR.2.2.size))
                      refine hK _ _ (fun _ => hR') ?_
                      clear hK K hR hb
                      have hR := hR'
                      clear hR'
                      (try simp only [put_laws])
                      (refine wpAnyM_one (i := 3) rfl (by kernel_rfl) (fun K hK => ?_); rw [if_pos (by rfl)]; (try simp only [elem_laws]))
                      go_simp
                      refine (HS2.out _ hR.2.2).mono ?_
                      rintro e w2 ⟨u2, rfl, ho2, hb⟩
                      have HO1 : Hid (TxS w2 u names1) := show TxS _ _ _ from ho1.txs.below hb
                      have HO2 : Hid (TxS w2 u2 names2) := show TxS _ _ _ from ho2.txs
                      have hR' := HR0.out _ (hR.2.2.trans (hb.mono hR.2.2.size))
                      refine hK _ _ (fun _ => hR') ?_
                      clear hK K hR hb ho1 ho2
                      have hR := hR'
                      clear hR'
                      (try simp only [put_laws])
                      (refine wpAnyM_take2 8 (i := 4) (v := ?_) rfl (by kernel_rfl) (by kernel_rfl) (fun _ _ _ h => h) (Or.inl ⟨by rfl, ?_⟩) hR ?_; rotate_left; (focus (intro w hSw; (try dsimp only at hSw); go_simp; (try with_reducible rfl))); (try simp only [put_laws]))
                      (refine wpAnyM_last rfl (by kernel_rfl) (fun K hK => ?_); rw [if_pos (by rfl)]; (try simp only [elem_laws]))
                      go_simp
                      have HB2 := Lib.hid hR.2.2
                      refine hK _ _ ?_
                      clear hK K hR
                      (try simp only [put_laws])
                      refine wpAnyM_done (by kernel_rfl) ?_ _
                      obtain ⟨a1, k1, -, -, hue1, -⟩ := HO1.out.cell
                      obtain ⟨a2, k2, -, -, hue2, -⟩ := HO2.out.cell
                      subst hue1
                      subst hue2
                      go_wp2_with fail
                      refine (HM.out _ _).mono ?_
                      rintro e w3 (⟨hg, ⟨u3, rfl⟩, rfl⟩ | ⟨hg, rfl, rfl⟩)
                      · clear hg
                        have c3 := HRR.out _ HB2.out
                        go_wp2_with fail
                        refine (HAT.out _ _ HB2.out HO1.out).mono ?_
                        rintro e w4 ⟨hb, rfl⟩
                        have HB4 := Lib.hid (HB2.out.trans (hb.mono HB2.out.size))
                        have HO14 : Hid (TxS w4 (.slice a1 names1.length k1) names1) := show TxS _ _ _ from HO1.out.below hb
                        have HO24 : Hid (TxS w4 (.slice a2 names2.length k2) names2) := show TxS _ _ _ from HO2.out.below hb
                        obtain ⟨q41, q42, -⟩ := HR0.out _ HB4.out
                        clear hb
                        go_wp2_with fail
                        refine (HID.out _ HB4.out).mono ?_
                        rintro e w5 ⟨rfl, rfl⟩
                        have HB6 := HB4
                        have HO16 := HO14
                        have HO26 := HO24
                        go_wp2_with fail
                        refine (HM6.out _ _).mono ?_
                        rintro e w7 (⟨hg, ⟨u7, rfl⟩, rfl⟩ | ⟨hg, rfl, rfl⟩)
                        · clear hg
                          have c7 := HRR.out _ HB6.out
                          go_wp2_with fail
                          refine (HSPT.out _ _ HB6.out HO26.out).mono ?_
                          rintro e w8 ⟨rfl, hb⟩
                          have HB8 := Lib.hid (HB6.out.trans (hb.mono HB6.out.size))
                          have HO18 : Hid (TxS w8 (.slice a1 names1.length k1) names1) := show TxS _ _ _ from HO16.out.below hb
                          clear hb
                          go_wp2_with fail
                          obtain ⟨W9, hW9⟩ : ∃ W9, w8.alloc (.cells #[.pointer (some ⟨d2, 0, none⟩), .string t2] 139) = W9 := ⟨_, rfl⟩
                          rw [hW9]
                          have h89 : Below w8.heap.size w8 W9 := by rw [← hW9]; exact (Below.refl _ _).alloc (Nat.le_refl _) _
                          have HB9 := Lib.hid (HB8.out.trans (h89.mono HB8.out.size))
                          have HO19 : Hid (TxS W9 (.slice a1 names1.length k1) names1) := show TxS _ _ _ from HO18.out.below h89
                          have HBX9 : Hid (Blk W9 w8.heap.size 139 #[.pointer (some ⟨d2, 0, none⟩), .string t2]) := show Blk _ _ _ _ by rw [← hW9]; exact Blk.new _ _ _
                          clear h89 hW9
                          refine (HH.out _ HB9.out).mono ?_
                          rintro e w10 ⟨rfl, hb⟩
                          have HB10 := Lib.hid (HB9.out.trans (hb.mono HB9.out.size))
                          have HO10 : Hid (TxS w10 (.slice a1 names1.length k1) names1) := show TxS _ _ _ from HO19.out.below hb
                          have HBX10 := Lib.hid (HBX9.out.below hb HBX9.out.lt)
                          clear hb
                          have hpe := HEQ.out w10 HB10.out
                          have k0 := HBX10.out.cell (j := 0) (v := .pointer (some ⟨d2, 0, none⟩)) rfl
                          have k1 := HBX10.out.cell (j := 1) (v := .string t2) rfl
                          go_wp2_with fail
                          refine (HGW.out _ HB10.out).mono ?_
                          rintro e w11 ⟨⟨u11, rfl⟩, ht11, htn11⟩
                          have hg10 := HGR.out _ HB10.out
                          have b11 := boxed_turn hg10.nodes (HBT.out _ HB10.out) htn11
                          have HB11 := Lib.hid b11
                          have c11 := b11.cell
                          have HX11 := Lib.hid (spot_turn hg10.nodes HBX10.out htn11)
                          have HO11 := Lib.hid (txs_turn HO10.out htn11 (fun j hj hl => by
                            rcases hj with hj | hj
                            · exact Foot.noStr hg10.nodes hj
                            · omega))
                          have HT11 := Lib.hid ht11
                          have HN11 := Lib.hid htn11
                          clear hpe k0 k1 hg10 b11 ht11 htn11
                          go_wp2_with fail
                          refine (HSF.out _ _ HT11.out HO11.out).mono ?_
                          rintro e w12 ⟨rfl, hb⟩
                          have HT12 := Lib.hid (HT11.out.below hb)
                          have HX12 := Lib.hid (HX11.out.below hb HX11.out.lt)
                          have HN12 : Hid (Below w11.heap.size w11 w12) := show Below _ _ _ from hb
                          clear hb
                          go_wp2_with fail
                          refine (HLV.out _ HT12.out).mono ?_
                          rintro e w13 ⟨⟨u13, rfl⟩, ht13, htn13⟩
                          have hx13 := spot_turn HT12.out.nodes HX12.out htn13
                          have k0 := hx13.cell (j := 0) (v := .pointer (some ⟨d2, 0, none⟩)) rfl
                          have k1 := hx13.cell (j := 1) (v := .string t2) rfl
                          have HT13 := Lib.hid ht13
                          have HN13 := Lib.hid htn13
                          clear ht13 htn13 hx13
                          go_wp2_with fail
                          refine (HTK.out _ HT13.out).mono ?_
                          rintro e w14 ⟨⟨u14, rfl⟩, ht14, htn14⟩
                          have HT14 := Lib.hid ht14
                          have HN14 := Lib.hid htn14
                          clear ht14 htn14 k0 k1
                          go_wp2_with fail
                          first
                          | go_end0
                          | refine bodyPost_ret (results_none rfl _ _ _) rfl ?_
                          have s10 := HB10.out.size
                          have s11 := HN11.out.size
                          have s12 := HN12.out.size
                          have s13 := HN13.out.size
                          refine (show _ ∧ _ from ⟨⟨_, rfl⟩, G3, HT14.out, ?_, HRL.out _⟩)
                          refine ((((Turn.of_below HB10.out (Nat.le_refl _)).trans (HN11.out.mono fun j hj => ?_)).trans (Turn.of_below HN12.out (Nat.le_refl _))).trans (HN13.out.mono fun j hj => ?_)).trans (HN14.out.mono fun j hj => ?_)
                          · rcases hj with hj | hj
                            · exact .inl hj
                            · exact .inr (by omega)
                          · rcases hj with hj | hj
                            · exact .inl (HFT.out j hj)
                            · exact .inr (by omega)
                          · rcases hj with hj | hj
                            · exact .inl (HFT.out j hj)
                            · exact .inr (by omega)
                        · cases hg
                      · exfalso
                        first
                        | cases hg
                        | (have := of_decide_eq_true hg; omega)
                        | (have := of_decide_eq_false hg; omega)
                    · go_enter Tryz.func165, Tryz.ntmps165
                      go_wp2_with fail
                      have hR := HR0.out _ (Below.refl _ V).drew
                      refine wp_region_M 5 (fun W : World => W.cell? ⟨bf, 0, none⟩ = some tf ∧ W.cell? ⟨bp, 0, none⟩ = some t ∧ Below V.heap.size V W) (by kernel_rfl) ?_
                      (refine wpAnyM_take2 8 (i := 0) (v := ?_) rfl (by kernel_rfl) (by kernel_rfl) (fun _ _ _ h => h) (Or.inl ⟨by rfl, ?_⟩) hR ?_; rotate_left; (focus (intro w hSw; (try dsimp only at hSw); go_simp; (try with_reducible rfl))); (try simp only [put_laws])); (refine wpAnyM_take2 8 (i := 2) (v := ?_) rfl (by kernel_rfl) (by kernel_rfl) (fun _ _ _ h => h) (Or.inl ⟨by rfl, ?_⟩) hR ?_; rotate_left; (focus (intro w hSw; (try dsimp only at hSw); go_simp; (try with_reducible rfl))); (try simp only [put_laws]))
                      (refine wpAnyM_one (i := 1) rfl (by kernel_rfl) (fun K hK => ?_); rw [if_pos (by rfl)]; (try simp only [elem_laws]))
                      go_simp
                      refine (HS1.out _ hR.2.2).mono ?_
                      rintro e w1 ⟨u, rfl, ho1, hb⟩
                      have hR' := HR0.out _ (hR.2.2.trans (hb.mono hR.2.2.size))
                      refine hK _ _ (fun _ => hR') ?_
                      clear hK K hR hb
                      have hR := hR'
                      clear hR'
                      (try simp only [put_laws])
                      (refine wpAnyM_one (i := 3) rfl (by kernel_rfl) (fun K hK => ?_); rw [if_pos (by rfl)]; (try simp only [elem_laws]))
                      go_simp
                      refine (HS2.out _ hR.2.2).mono ?_
                      rintro e w2 ⟨u2, rfl, ho2, hb⟩
                      have HO1 : Hid (TxS w2 u names1) := show TxS _ _ _ from ho1.txs.below hb
                      have HO2 : Hid (TxS w2 u2 names2) := show TxS _ _ _ from ho2.txs
                      have hR' := HR0.out _ (hR.2.2.trans (hb.mono hR.2.2.size))
                      refine hK _ _ (fun _ => hR') ?_
                      clear hK K hR hb ho1 ho2
                      have hR := hR'
                      clear hR'
                      (try simp only [put_laws])
                      (refine wpAnyM_take2 8 (i := 4) (v := ?_) rfl (by kernel_rfl) (by kernel_rfl) (fun _ _ _ h => h) (Or.inl ⟨by rfl, ?_⟩) hR ?_; rotate_left; (focus (intro w hSw; (try dsimp only at hSw); go_simp; (try with_reducible rfl))); (try simp only [put_laws]))
                      (refine wpAnyM_last rfl (by kernel_rfl) (fun K hK => ?_); rw [if_pos (by rfl)]; (try simp only [elem_laws]))
                      go_simp
                      have HB2 := Lib.hid hR.2.2
                      refine hK _ _ ?_
                      clear hK K hR
                      (try simp only [put_laws])
                      refine wpAnyM_done (by kernel_rfl) ?_ _
                      obtain ⟨a1, k1, -, -, hue1, -⟩ := HO1.out.cell
                      obtain ⟨a2, k2, -, -, hue2, -⟩ := HO2.out.cell
                      subst hue1
                      subst hue2
                      go_wp2_with fail
                      refine (HM.out _ _).mono ?_
                      rintro e w3 (⟨hg, ⟨u3, rfl⟩, rfl⟩ | ⟨hg, rfl, rfl⟩)
                      · clear hg
                        have c3 := HRR.out _ HB2.out
                        go_wp2_with fail
                        refine (HAT.out _ _ HB2.out HO1.out).mono ?_
                        rintro e w4 ⟨hb, rfl⟩
                        have HB4 := Lib.hid (HB2.out.trans (hb.mono HB2.out.size))
                        have HO14 : Hid (TxS w4 (.slice a1 names1.length k1) names1) := show TxS _ _ _ from HO1.out.below hb
                        have HO24 : Hid (TxS w4 (.slice a2 names2.length k2) names2) := show TxS _ _ _ from HO2.out.below hb
                        obtain ⟨q41, q42, -⟩ := HR0.out _ HB4.out
                        clear hb
                        go_wp2_with fail
                        refine (HID.out _ HB4.out).mono ?_
                        rintro e w5 ⟨rfl, rfl⟩
                        obtain rfl : wi = false := by simpa using hin'
                        go_wp2_with fail
                        refine (HWI.out _ HB4.out).mono ?_
                        rintro e w6 ⟨rfl, hb⟩
                        have HB6 := Lib.hid (HB4.out.trans (hb.mono HB4.out.size))
                        have HO16 : Hid (TxS w6 (.slice a1 names1.length k1) names1) := show TxS _ _ _ from HO14.out.below hb
                        have HO26 : Hid (TxS w6 (.slice a2 names2.length k2) names2) := show TxS _ _ _ from HO24.out.below hb
                        clear hb
                        go_wp2_with fail
                        refine (HM6.out _ _).mono ?_
                        rintro e w7 (⟨hg, ⟨u7, rfl⟩, rfl⟩ | ⟨hg, rfl, rfl⟩)
                        · clear hg
                          have c7 := HRR.out _ HB6.out
                          go_wp2_with fail
                          refine (HSPT.out _ _ HB6.out HO26.out).mono ?_
                          rintro e w8 ⟨rfl, hb⟩
                          have HB8 := Lib.hid (HB6.out.trans (hb.mono HB6.out.size))
                          have HO18 : Hid (TxS w8 (.slice a1 names1.length k1) names1) := show TxS _ _ _ from HO16.out.below hb
                          clear hb
                          go_wp2_with fail
                          obtain ⟨W9, hW9⟩ : ∃ W9, w8.alloc (.cells #[.pointer (some ⟨d2, 0, none⟩), .string t2] 139) = W9 := ⟨_, rfl⟩
                          rw [hW9]
                          have h89 : Below w8.heap.size w8 W9 := by rw [← hW9]; exact (Below.refl _ _).alloc (Nat.le_refl _) _
                          have HB9 := Lib.hid (HB8.out.trans (h89.mono HB8.out.size))
                          have HO19 : Hid (TxS W9 (.slice a1 names1.length k1) names1) := show TxS _ _ _ from HO18.out.below h89
                          have HBX9 : Hid (Blk W9 w8.heap.size 139 #[.pointer (some ⟨d2, 0, none⟩), .string t2]) := show Blk _ _ _ _ by rw [← hW9]; exact Blk.new _ _ _
                          clear h89 hW9
                          refine (HH.out _ HB9.out).mono ?_
                          rintro e w10 ⟨rfl, hb⟩
                          have HB10 := Lib.hid (HB9.out.trans (hb.mono HB9.out.size))
                          have HO10 : Hid (TxS w10 (.slice a1 names1.length k1) names1) := show TxS _ _ _ from HO19.out.below hb
                          have HBX10 := Lib.hid (HBX9.out.below hb HBX9.out.lt)
                          clear hb
                          have hpe := HEQ.out w10 HB10.out
                          have k0 := HBX10.out.cell (j := 0) (v := .pointer (some ⟨d2, 0, none⟩)) rfl
                          have k1 := HBX10.out.cell (j := 1) (v := .string t2) rfl
                          go_wp2_with fail
                          refine (HGW.out _ HB10.out).mono ?_
                          rintro e w11 ⟨⟨u11, rfl⟩, ht11, htn11⟩
                          have hg10 := HGR.out _ HB10.out
                          have b11 := boxed_turn hg10.nodes (HBT.out _ HB10.out) htn11
                          have HB11 := Lib.hid b11
                          have c11 := b11.cell
                          have HX11 := Lib.hid (spot_turn hg10.nodes HBX10.out htn11)
                          have HO11 := Lib.hid (txs_turn HO10.out htn11 (fun j hj hl => by
                            rcases hj with hj | hj
                            · exact Foot.noStr hg10.nodes hj
                            · omega))
                          have HT11 := Lib.hid ht11
                          have HN11 := Lib.hid htn11
                          clear hpe k0 k1 hg10 b11 ht11 htn11
                          go_wp2_with fail
                          refine (HSF.out _ _ HT11.out HO11.out).mono ?_
                          rintro e w12 ⟨rfl, hb⟩
                          have HT12 := Lib.hid (HT11.out.below hb)
                          have HX12 := Lib.hid (HX11.out.below hb HX11.out.lt)
                          have HN12 : Hid (Below w11.heap.size w11 w12) := show Below _ _ _ from hb
                          clear hb
                          go_wp2_with fail
                          refine (HLV.out _ HT12.out).mono ?_
                          rintro e w13 ⟨⟨u13, rfl⟩, ht13, htn13⟩
                          have hx13 := spot_turn HT12.out.nodes HX12.out htn13
                          have k0 := hx13.cell (j := 0) (v := .pointer (some ⟨d2, 0, none⟩)) rfl
                          have k1 := hx13.cell (j := 1) (v := .string t2) rfl
                          have HT13 := Lib.hid ht13
                          have HN13 := Lib.hid htn13
                          clear ht13 htn13 hx13
                          go_wp2_with fail
                          refine (HTK.out _ HT13.out).mono ?_
                          rintro e w14 ⟨⟨u14, rfl⟩, ht14, htn14⟩
                          have HT14 := Lib.hid ht14
                          have HN14 := Lib.hid htn14
                          clear ht14 htn14 k0 k1
                          go_wp2_with fail
                          first
                          | go_end0
                          | refine bodyPost_ret (results_none rfl _ _ _) rfl ?_
                          have s10 := HB10.out.size
                          have s11 := HN11.out.size
                          have s12 := HN12.out.size
                          have s13 := HN13.out.size
                          refine (show _ ∧ _ from ⟨⟨_, rfl⟩, G3, HT14.out, ?_, HRL.out _⟩)
                          refine ((((Turn.of_below HB10.out (Nat.le_refl _)).trans (HN11.out.mono fun j hj => ?_)).trans (Turn.of_below HN12.out (Nat.le_refl _))).trans (HN13.out.mono fun j hj => ?_)).trans (HN14.out.mono fun j hj => ?_)
                          · rcases hj with hj | hj
                            · exact .inl hj
                            · exact .inr (by omega)
                          · rcases hj with hj | hj
                            · exact .inl (HFT.out j hj)
                            · exact .inr (by omega)
                          · rcases hj with hj | hj
                            · exact .inl (HFT.out j hj)
                            · exact .inr (by omega)
                        · cases hg
                      · exfalso
                        first
                        | cases hg
                        | (have := of_decide_eq_true hg; omega)
                        | (have := of_decide_eq_false hg; omega)
    · have HS2 := Lib.hid (fun W (hW : Below V.heap.size V W) => split10_no s hs W (hmx.below hW hmx.room) h2)
      rw [ht] at HS2
      have hq : moveQ G r f s = .error (splitE s).2 := by unfold moveQ; rw [if_neg (by simpa using h1), if_pos h2]
      rw [hq]
      have H2 := Lib.hid h2
      clear hT hL hm hmx hf hs hMV b0 b1 b2 hxr hdir h1 ht htf hq h2
      go_enter Tryz.func165, Tryz.ntmps165
      go_wp2_with fail
      have hR := HR0.out _ (Below.refl _ V).drew
      refine wp_region_M 5 (fun W : World => W.cell? ⟨bf, 0, none⟩ = some tf ∧ W.cell? ⟨bp, 0, none⟩ = some t ∧ Below V.heap.size V W) (by kernel_rfl) ?_
      (refine wpAnyM_take2 8 (i := 0) (v := ?_) rfl (by kernel_rfl) (by kernel_rfl) (fun _ _ _ h => h) (Or.inl ⟨by rfl, ?_⟩) hR ?_; rotate_left; (focus (intro w hSw; (try dsimp only at hSw); go_simp; (try with_reducible rfl))); (try simp only [put_laws])); (refine wpAnyM_take2 8 (i := 2) (v := ?_) rfl (by kernel_rfl) (by kernel_rfl) (fun _ _ _ h => h) (Or.inl ⟨by rfl, ?_⟩) hR ?_; rotate_left; (focus (intro w hSw; (try dsimp only at hSw); go_simp; (try with_reducible rfl))); (try simp only [put_laws]))
      (refine wpAnyM_one (i := 1) rfl (by kernel_rfl) (fun K hK => ?_); rw [if_pos (by rfl)]; (try simp only [elem_laws]))
      go_simp
      refine (HS1.out _ hR.2.2).mono ?_
      rintro e w1 ⟨u, rfl, ho1, hb⟩
      have hR' := HR0.out _ (hR.2.2.trans (hb.mono hR.2.2.size))
      refine hK _ _ (fun _ => hR') ?_
      clear hK K hR hb
      have hR := hR'
      clear hR'
      (try simp only [put_laws])
      (refine wpAnyM_one (i := 3) rfl (by kernel_rfl) (fun K hK => ?_); rw [if_pos (by rfl)]; (try simp only [elem_laws]))
      go_simp
      refine (HS2.out _ hR.2.2).mono ?_
      rintro e w2 ⟨rfl, hb⟩
      exact ⟨rfl, (show _ ∧ _ ∧ _ from ⟨H2.out, rfl, hR.2.2.trans (hb.mono hR.2.2.size)⟩)⟩
  · have HS1 := Lib.hid (fun W (hW : Below V.heap.size V W) => split10_no f hf W (hmx.below hW hmx.room) h1)
    rw [htf] at HS1
    have hq : moveQ G r f s = .error (splitE f).2 := by unfold moveQ; rw [if_pos h1]
    rw [hq]
    have H1 := Lib.hid h1
    clear hT hL hm hmx hf hs hMV b0 b1 b2 hxr hdir h1 ht htf hq
    go_enter Tryz.func165, Tryz.ntmps165
    go_wp2_with fail
    have hR := HR0.out _ (Below.refl _ V).drew
    refine wp_region_M 5 (fun W : World => W.cell? ⟨bf, 0, none⟩ = some tf ∧ W.cell? ⟨bp, 0, none⟩ = some t ∧ Below V.heap.size V W) (by kernel_rfl) ?_
    (refine wpAnyM_take2 8 (i := 0) (v := ?_) rfl (by kernel_rfl) (by kernel_rfl) (fun _ _ _ h => h) (Or.inl ⟨by rfl, ?_⟩) hR ?_; rotate_left; (focus (intro w hSw; (try dsimp only at hSw); go_simp; (try with_reducible rfl))); (try simp only [put_laws])); (refine wpAnyM_take2 8 (i := 2) (v := ?_) rfl (by kernel_rfl) (by kernel_rfl) (fun _ _ _ h => h) (Or.inl ⟨by rfl, ?_⟩) hR ?_; rotate_left; (focus (intro w hSw; (try dsimp only at hSw); go_simp; (try with_reducible rfl))); (try simp only [put_laws]))
    (refine wpAnyM_one (i := 1) rfl (by kernel_rfl) (fun K hK => ?_); rw [if_pos (by rfl)]; (try simp only [elem_laws]))
    go_simp
    refine (HS1.out _ hR.2.2).mono ?_
    rintro e w1 ⟨rfl, hb⟩
    exact ⟨rfl, (show _ ∧ _ ∧ _ from ⟨H1.out, rfl, hR.2.2.trans (hb.mono hR.2.2.size)⟩)⟩
end Go.Proofs.YtgoemaecdolioaaGreatDoor
