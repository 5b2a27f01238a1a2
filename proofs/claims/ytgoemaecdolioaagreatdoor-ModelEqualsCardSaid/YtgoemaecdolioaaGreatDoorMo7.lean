/-
  Texts TeD to TeH, as one.
-/
import Derived.Test.YtgoemaecdolioaaGreatDoorMo2
import Derived.Test.YtgoemaecdolioaaGreatDoorMo4
import Derived.Test.YtgoemaecdolioaaGreatDoorMo6
import Derived.Shelf.Pu.Clone
/-
  tree: spots: held, take, leave.
-/
namespace Go.Proofs.YtgoemaecdolioaaGreatDoor
open Go.RowKit Go.Shelf
attribute [local go_sem] Oper.semAt_some

/-- Where the last name of a path stands. -/
def spotN (G : Gr) (r : Nat) (names : List (List UInt8)) : Except Int Nat := match walkN G r names.dropLast with
  | .error k => .error k
  | .ok d => match G d with
    | none => .error 0
    | some x => if x.isDir = true then .ok d else .error 201
def lastN (names : List (List UInt8)) : List UInt8 := names.getLast?.getD []
def SpotEnd (r : Except Int Nat) (s : List UInt8) (e : Ending) : Prop := match r with
  | .ok d => e = .returned (.agg #[.pointer (some ⟨d, 0, none⟩), encStr s])
  | .error k => e = .panicked (refuse k)
set_option maxHeartbeats 4000000 in
theorem walkN_leads {G : Gr} (hS : Leads G) : ∀ (l : List (List UInt8)) (b c : Nat) (x : TN), G b = some x → walkN G b l = .ok c → ∃ y, G c = some y
  | [], b, c, x, hx, h => by
    simp only [walkN, Except.ok.injEq] at h
    exact ⟨x, by rw [← h]; exact hx⟩
  | s :: r, b, c, x, hx, h => by
    simp only [walkN, hx] at h
    cases hn : nextN x s with
    | error k => rw [hn] at h; cases h
    | ok d =>
      rw [hn] at h
      obtain ⟨y, hy⟩ := nextN_leads hS hx hn
      exact walkN_leads hS r d c y hy h
theorem txs_take {W : World} {a : Option Addr} {n cap : Nat} {l : List (List UInt8)} (h : TxS W (.slice a n cap) l) (k : Nat) (hk : k ≤ l.length) : TxS W (.slice a k cap) (l.take k) := by
  obtain ⟨hl, a', c', e', hl', hc⟩ := h
  simp only [Value.slice.injEq] at e'
  obtain ⟨rfl, rfl, rfl⟩ := e'
  have e : (l.take k).length = k := by rw [List.length_take]; omega
  refine ⟨by rw [List.length_map]; omega, a, cap, by rw [e], by omega, fun h0 => ?_⟩
  obtain ⟨b, off, h1, h2, h3⟩ := hc (by omega)
  refine ⟨b, off, h1, h2, fun j y hj => h3 j y ?_⟩
  rw [List.map_take] at hj
  have hjk : j < k := by
    have := (List.getElem?_eq_some_iff.1 hj).1
    rw [List.length_take] at this; omega
  rwa [List.getElem?_take_of_lt hjk] at hj
set_option maxRecDepth 100000 in
set_option maxHeartbeats 4000000 in
theorem spot10_any {G : Gr} {w : World} (hG : GraphAt w G) (hS : Leads G) {T r : Nat} (hT : TreeAt w T r) {x : TN} (hx : G r = some x) {v : Value} {names : List (List UInt8)} (h0 : 0 < names.length) (hn : names.length ≤ 1000) (hs : ∀ s ∈ names, s.length ≤ 1000) (hv : TxS w v names) :
    Calls Tryz.prog 161 #[.pointer (some ⟨T, 0, none⟩), v] w fun e w' => Below w.heap.size w w' ∧ SpotEnd (spotN G r names) (lastN names) e := by
  obtain ⟨k, hk⟩ : ∃ k, names.length = k + 1 := ⟨names.length - 1, by omega⟩
  have hdl : names.dropLast = names.take k := by rw [List.dropLast_eq_take, hk, Nat.add_sub_cancel]
  have hlast : names[k]?.getD [] = lastN names := by
    unfold lastN
    rw [List.getLast?_eq_getElem?, hk, Nat.add_sub_cancel]
  obtain ⟨a, cap, vb, off, rfl, hcap, ha, hc⟩ := hv.cell
  obtain rfl := ha h0
  obtain ⟨hvl, hcell⟩ := hc h0
  have hv2 : ∀ W, Below w.heap.size w W → TxS W (.slice (some ⟨vb, off, none⟩) k cap) names.dropLast := fun W hW => by
    rw [hdl]
    exact txs_take (hv.below hW) k (by omega)
  have HA := Lib.hid (fun W (hW : Below w.heap.size w W) => at10_any (hG.below hW) hS ((hW.block T hT.lt).trans hT) hx (by rw [List.length_dropLast]; omega) (fun s h => hs s (List.dropLast_subset _ h)) (hv2 W hW))
  have HCL : Hid (∀ W, Below w.heap.size w W → W.cell? ⟨vb, off + k, none⟩ = some (encStr (lastN names))) := show ∀ W, _ from fun W hW => by
    rw [← hlast, ← hcell k (by omega)]
    exact hW.cell hvl
  have HDD : Hid (∀ W d, Below w.heap.size w W → walkN G r names.dropLast = .ok d → ∃ y, G d = some y ∧ NodeAt W d y) := show ∀ W d, _ from fun W d hW h => by
    obtain ⟨y, hy⟩ := walkN_leads hS _ _ _ _ hx h
    exact ⟨y, hy, (hG d y hy).below hW⟩
  have HSP : Hid (spotN G r names = match walkN G r names.dropLast with
    | .error k => .error k
    | .ok d => match G d with
      | none => .error 0
      | some x => if x.isDir = true then .ok d else .error 201) := show _ = _ from rfl
  obtain ⟨o, ho⟩ : ∃ o, walkN G r names.dropLast = o := ⟨_, rfl⟩
  rw [ho] at HA HDD HSP
  obtain ⟨t, ht⟩ : ∃ t, encStr (lastN names) = .string t := ⟨_, rfl⟩
  rw [ht] at HCL
  have HT := Lib.hid ht
  obtain ⟨N, hN⟩ : ∃ N, names.length = N := ⟨_, rfl⟩
  rw [hN] at hk hcap h0 hn ⊢
  have hm : ((N : Nat) : Int) - 1 = (k : Nat) := by omega
  have hkN : ((k : Nat) : Int) < (N : Nat) := by omega
  clear hv hv2 hG hS hT hx hs hcell hdl hlast ho ht hN hc ha
  go_enter Tryz.func161, Tryz.ntmps161
  go_wp2_with fail
  refine (HA.out _ (by repeat (first | exact Below.refl _ _ | assumption | refine Below.drew ?_ | refine below_drewN ?_ _ | refine Below.alloc ?_ (by (try simp) <;> omega) _ | refine Below.setCell ?_ (by (try simp) <;> omega) _ | refine Below.trans ?_ (Below.mono (by assumption) (by (try simp) <;> omega))))).mono ?_
  cases o with
  | error q =>
    rintro e w' ⟨hb, rfl⟩
    refine ⟨rfl, ?_, ?_⟩
    · exact Below.trans (by repeat (first | exact Below.refl _ _ | assumption | refine Below.drew ?_ | refine below_drewN ?_ _ | refine Below.alloc ?_ (by (try simp) <;> omega) _ | refine Below.setCell ?_ (by (try simp) <;> omega) _ | refine Below.trans ?_ (Below.mono (by assumption) (by (try simp) <;> omega)))) (hb.mono (by simp))
    · rw [HSP.out]
      exact (rfl : Ending.panicked (refuse q) = .panicked (refuse q))
  | ok d =>
    rintro e w' ⟨hb, rfl⟩
    have hbb : Below w.heap.size w w' := Below.trans (b := w.alloc (.cells #[.pointer none, .string ⟨#[]⟩] 139)) (by repeat (first | exact Below.refl _ _ | assumption | refine Below.drew ?_ | refine below_drewN ?_ _ | refine Below.alloc ?_ (by (try simp) <;> omega) _ | refine Below.setCell ?_ (by (try simp) <;> omega) _ | refine Below.trans ?_ (Below.mono (by assumption) (by (try simp) <;> omega)))) (hb.mono (by simp))
    obtain ⟨y, hy, hno⟩ := HDD.out w' d hbb rfl
    have HMD := Lib.hid (mustBeDir_any hno)
    have HY := Lib.hid hy
    have HBB := Lib.hid hbb
    have cs := HCL.out w' hbb
    have hz : Blk w' w.heap.size 139 #[.pointer none, .string ⟨#[]⟩] := (Blk.new w _ _).below hb (by simp)
    have HZ := Lib.hid hz
    obtain ⟨dd, hdd⟩ : ∃ q, y.isDir = q := ⟨_, rfl⟩
    rw [hdd] at HMD
    have HD := Lib.hid hdd
    clear hb hbb hy hno hz hdd
    go_wp2_with fail
    refine HMD.out.mono ?_
    rintro e w2 (⟨rfl, ⟨u, rfl⟩, rfl⟩ | ⟨rfl, rfl, rfl⟩)
    · have z0 : w2.cell? ⟨w.heap.size, 0, none⟩ = some (.pointer none) := HZ.out.cell rfl
      have z1 : w2.cell? ⟨w.heap.size, 1, none⟩ = some (.string ⟨#[]⟩) := HZ.out.cell rfl
      have y0 := HZ.out.frozen 0
      have y1 := HZ.out.frozen 1
      have hx5 := (HZ.out.set 0 (.pointer (some ⟨d, 0, none⟩))).set 1 (.string t)
      have HX5 := Lib.hid hx5
      have hb5 : Below w.heap.size w ((w2.setCell ⟨w.heap.size, 0, none⟩ (.pointer (some ⟨d, 0, none⟩))).setCell ⟨w.heap.size, 1, none⟩ (.string t)) := (HBB.out.setCell (p := ⟨w.heap.size, 0, none⟩) (Nat.le_refl _) _).setCell (p := ⟨w.heap.size, 1, none⟩) (Nat.le_refl _) _
      have HB5 := Lib.hid hb5
      clear hx5 hb5
      go_wp2_with fail
      have HF : SpotEnd (spotN G r names) (lastN names) (.returned (.agg #[.pointer (some ⟨d, 0, none⟩), .string t])) := by
        rw [HSP.out, HY.out]
        show SpotEnd (if y.isDir = true then .ok d else .error 201) _ _
        rw [if_pos HD.out]
        show _ = Ending.returned (.agg #[_, encStr (lastN names)])
        rw [HT.out]
      exact bodyPost_ret (results_cell (fn := Tryz.f161) rfl rfl (HX5.out.loadVar (tt := 139) Tryz.underlying139 rfl (by kernel_rfl))) rfl ⟨HB5.out, HF⟩
    · refine ⟨rfl, HBB.out, ?_⟩
      rw [HSP.out, HY.out]
      show SpotEnd (if y.isDir = true then .ok d else .error 201) _ _
      rw [if_neg (by rw [HD.out]; decide)]
      exact (rfl : Ending.panicked (refuse 201) = .panicked (refuse 201))
end Go.Proofs.YtgoemaecdolioaaGreatDoor

/-
  tree: spots: held, take, leave.
-/
namespace Go.Proofs.YtgoemaecdolioaaGreatDoor
open Go.RowKit Go.Shelf
attribute [local go_sem] Oper.semAt_some

set_option maxRecDepth 100000 in
set_option maxHeartbeats 4000000 in
theorem held10_any {w : World} {d : Nat} {x : TN} (h : NodeAt w d x) (s : List UInt8) (hs : s.length ≤ 1000) :
    Calls Tryz.prog 85 #[.agg #[.pointer (some ⟨d, 0, none⟩), encStr s]] w fun e w' => e = .returned (ptrV (lookNm x.nm s)) ∧ Below w.heap.size w w' := by
  obtain ⟨o, ho⟩ : ∃ o, ptrV (lookNm x.nm s) = o := ⟨_, rfl⟩
  obtain ⟨t, ht⟩ : ∃ t, encStr s = .string t := ⟨_, rfl⟩
  obtain ⟨W1, hW1⟩ : ∃ W1, w.alloc (.cells #[.pointer (some ⟨d, 0, none⟩), .string t] 139) = W1 := ⟨_, rfl⟩
  have hb1 : Below w.heap.size w W1 := by rw [← hW1]; exact (by repeat (first | exact Below.refl _ _ | assumption | refine Below.drew ?_ | refine below_drewN ?_ _ | refine Below.alloc ?_ (by (try simp) <;> omega) _ | refine Below.setCell ?_ (by (try simp) <;> omega) _ | refine Below.trans ?_ (Below.mono (by assumption) (by (try simp) <;> omega))))
  have hn1 := h.below hb1
  have hbx : Blk W1 w.heap.size 139 #[.pointer (some ⟨d, 0, none⟩), .string t] := by rw [← hW1]; exact Blk.new _ _ _
  have HB1 := Lib.hid hb1
  have hR : (fun V : World => V.cell? ⟨w.heap.size, 0, none⟩ = some (.pointer (some ⟨d, 0, none⟩)) ∧ V.cell? ⟨w.heap.size, 1, none⟩ = some (.string t) ∧ V.cell? ⟨d, 0, none⟩ = some (.map (some x.map)) ∧ (Instr.lookup 106 (.map (some x.map)) (.string t) false).run Tryz.prog V = .ok o V) W1.drew :=
    ⟨hbx.cell rfl, hbx.cell rfl, hn1.blk.cell rfl, by
      have := (hn1.names.below (B := W1.heap.size) (Below.refl _ _).drew hn1.names.lt).look s hs
      rw [ho, ht] at this
      exact this⟩
  rw [ho, ht]
  clear h ho ht hs hb1 hn1 hbx
  go_enter Tryz.func85, Tryz.ntmps85
  go_wp2_with fail
  refine wp_region_M 8 (fun V : World => V.cell? ⟨w.heap.size, 0, none⟩ = some (.pointer (some ⟨d, 0, none⟩)) ∧ V.cell? ⟨w.heap.size, 1, none⟩ = some (.string t) ∧ V.cell? ⟨d, 0, none⟩ = some (.map (some x.map)) ∧ (Instr.lookup 106 (.map (some x.map)) (.string t) false).run Tryz.prog V = .ok o V) (by kernel_rfl) ?_
  (refine wpAnyM_take2 8 (i := 0) (v := ?_) rfl (by kernel_rfl) (by kernel_rfl) (fun _ _ _ h => h) (Or.inl ⟨by rfl, ?_⟩) hR ?_; rotate_left; (focus (intro w hSw; (try dsimp only at hSw); go_simp; (try with_reducible rfl))); (try simp only [put_laws])); (refine wpAnyM_take2 8 (i := 5) (v := ?_) rfl (by kernel_rfl) (by kernel_rfl) (fun _ _ _ h => h) (Or.inl ⟨by rfl, ?_⟩) hR ?_; rotate_left; (focus (intro w hSw; (try dsimp only at hSw); go_simp; (try with_reducible rfl))); (try simp only [put_laws])); (refine wpAnyM_take2 8 (i := 1) (v := ?_) rfl (by kernel_rfl) (by kernel_rfl) (fun _ _ _ h => h) (Or.inl ⟨by rfl, ?_⟩) hR ?_; rotate_left; (focus (intro w hSw; (try dsimp only at hSw); go_simp; (try with_reducible rfl))); (try simp only [put_laws])); (refine wpAnyM_take2 8 (i := 6) (v := ?_) rfl (by kernel_rfl) (by kernel_rfl) (fun _ _ _ h => h) (Or.inl ⟨by rfl, ?_⟩) hR ?_; rotate_left; (focus (intro w hSw; (try dsimp only at hSw); go_simp; (try with_reducible rfl))); (try simp only [put_laws])); (refine wpAnyM_take2 8 (i := 2) (v := ?_) rfl (by kernel_rfl) (by kernel_rfl) (fun _ _ _ h => h) (Or.inl ⟨by rfl, ?_⟩) hR ?_; rotate_left; (focus (intro w hSw; (try dsimp only at hSw); go_simp; (try with_reducible rfl))); (try simp only [put_laws])); (refine wpAnyM_take2 8 (i := 3) (v := ?_) rfl (by kernel_rfl) (by kernel_rfl) (fun _ _ _ h => h) (Or.inl ⟨by rfl, ?_⟩) hR ?_; rotate_left; (focus (intro w hSw; (try dsimp only at hSw); go_simp; (try with_reducible rfl))); (try simp only [put_laws])); (refine wpAnyM_take2 8 (i := 4) (v := ?_) rfl (by kernel_rfl) (by kernel_rfl) (fun _ _ _ h => h) (Or.inl ⟨by rfl, ?_⟩) hR ?_; rotate_left; (focus (intro w hSw; (try dsimp only at hSw); go_simp; (try with_reducible rfl))); (try simp only [put_laws])); (refine wpAnyM_take2 8 (i := 7) (v := ?_) rfl (by kernel_rfl) (by kernel_rfl) (fun _ _ _ h => h) (Or.inl ⟨by rfl, ?_⟩) hR ?_; rotate_left; (focus (intro w hSw; (try dsimp only at hSw); go_simp; (try with_reducible rfl))); (try simp only [put_laws]))
  (refine wpAnyM_last rfl (by kernel_rfl) (fun K hK => ?_); rw [if_pos (by rfl)]; (try simp only [elem_laws]))
  go_simp
  refine hK _ _ ?_
  clear hK K hR
  (try simp only [put_laws])
  refine wpAnyM_done (by kernel_rfl) ?_ _
  go_wp2_with fail
  go_ret
  exact ⟨rfl, HB1.out.drew⟩
end Go.Proofs.YtgoemaecdolioaaGreatDoor

/-
  tree: strings.Clone, laid at this program.
-/
namespace Go.Proofs.YtgoemaecdolioaaGreatDoor
open Go.RowKit Go.Shelf
attribute [local go_sem] Oper.semAt_some

def lay_cloneT_ren : Go.Shelf.Ren := ⟨fun | 25 => 143 | _ => 0, fun | 0 => 0 | 3 => 3 | 4 => 4 | 5 => 5 | 9 => 9 | 37 => 23 | 47 => 220 | _ => 0, fun _ => 0⟩
theorem lay_cloneT : LaysPu.n25 Tryz.prog lay_cloneT_ren :=
  { mixed := by kernel_rfl
    f25 := Tryz.func143.trans (congrArg some (by kernel_rfl))
    t0 := by kernel_rfl, a0 := fun w => by kernel_rfl, z0 := fun w => by kernel_rfl, v0 := fun w => by kernel_rfl, i0 := by kernel_rfl
    t3 := by kernel_rfl, a3 := fun w => by kernel_rfl, z3 := fun w => by kernel_rfl, v3 := fun w => by kernel_rfl, i3 := by kernel_rfl
    t4 := by kernel_rfl, a4 := fun w => by kernel_rfl, z4 := fun w => by kernel_rfl, v4 := fun w => by kernel_rfl, i4 := by kernel_rfl
    t5 := by kernel_rfl, a5 := fun w => by kernel_rfl, z5 := fun w => by kernel_rfl, v5 := fun w => by kernel_rfl, i5 := by kernel_rfl
    t9 := by kernel_rfl, a9 := fun w => by kernel_rfl, z9 := fun w => by kernel_rfl, v9 := fun w => by kernel_rfl, i9 := by kernel_rfl
    t37 := by kernel_rfl, a37 := fun w => by kernel_rfl, z37 := fun w => by kernel_rfl, v37 := fun w => by kernel_rfl, i37 := by kernel_rfl
    t47 := by kernel_rfl, a47 := fun w => by kernel_rfl, z47 := fun w => by kernel_rfl, v47 := fun w => by kernel_rfl, i47 := by kernel_rfl }
theorem cloneStr_any (s : List UInt8) (hs : s.length ≤ 1000000) (w : World) : Calls Tryz.prog 114 #[encStr s] w fun e w' => e = .returned (encStr s) ∧ Below w.heap.size w w' := by
  have h : ∀ W, Calls Tryz.prog 143 #[encStr s] W fun e w' => e = .returned (encStr s) ∧ Below W.heap.size W w' := fun W => AnyPu.stringslite_Clone lay_cloneT ⟨s.toArray⟩ W (by show s.toArray.size ≤ _; simp; omega)
  have H := Lib.hid h
  clear h
  obtain ⟨t, ht⟩ : ∃ t, encStr s = t := ⟨_, rfl⟩
  rw [ht] at H ⊢
  clear ht
  go_enter Tryz.func114, Tryz.ntmps114
  go_wp2_with (go_at_call 143; refine (H.out _).mono ?_; rintro e w' ⟨rfl, hb⟩)
  go_ret
  exact ⟨rfl, hb⟩
end Go.Proofs.YtgoemaecdolioaaGreatDoor

/-
  tree: spots: take.
-/
namespace Go.Proofs.YtgoemaecdolioaaGreatDoor
open Go.RowKit Go.Shelf
attribute [local go_sem] Oper.semAt_some

/-- What turns in blocks without bytes leaves bytes. -/
def NoU8 (W : World) (k : Nat) : Prop := ∀ off z, W.cell? ⟨k, off, none⟩ ≠ some (.int .u8 z)
theorem Sl.turn8 {W W' : World} {v : Value} {xs : List Nat} {q : Nat → Prop} (h : Sl W .u8 v xs) (ht : Turn q W W') (hq : ∀ k, q k → k < W.heap.size → NoU8 W k) : Sl W' .u8 v xs := by
  obtain ⟨ad, cap, hv, hl, hc⟩ := h
  refine ⟨ad, cap, hv, hl, fun h0 => ?_⟩
  obtain ⟨b, off, ha, hlt, hj⟩ := hc h0
  have hne : ¬ q b := fun hqb => hq b hqb hlt _ _ (hj 0 h0)
  exact ⟨b, off, ha, Nat.lt_of_lt_of_le hlt ht.size, fun j hjl => (World.cell?_of_block (a := ⟨b, off + j, none⟩) (ht.block b hlt hne)).trans (hj j hjl)⟩
theorem FB.turn8 {W W' : World} {v : Value} {xs : List Nat} {q : Nat → Prop} (h : FB W v xs) (ht : Turn q W W') (hq : ∀ k, q k → k < W.heap.size → NoU8 W k) : FB W' v xs := ⟨h.sl.turn8 ht hq, h.all, h.cap⟩
theorem FB.noInt {W : World} {v : Value} {xs : List Nat} (h : FB W v xs) : ∀ z, v ≠ .int .u8 z := by
  obtain ⟨a, c, hv, -⟩ := h.form
  intro z e
  rw [hv] at e
  cases e
theorem NodeAt.noU8 {W : World} {b : Nat} {x : TN} (h : NodeAt W b x) : NoU8 W b := fun off z e => by
  have := cell_of_row W b off _ 108 (0, 0) h.blk
  rw [this] at e
  unfold TN.cells at e
  rcases off with _ | _ | _ | _ | off <;> simp at e
  exact h.fb.noInt z e
theorem NodeAt.mapU8 {W : World} {b : Nat} {x : TN} (h : NodeAt W b x) : NoU8 W x.map := fun off z e => by
  obtain ⟨es, clock, hm, -⟩ := h.names
  simp [World.cell?, hm] at e
theorem NodeAt.ne_map {W : World} {b c : Nat} {x y : TN} (h : NodeAt W b x) (k : NodeAt W c y) : b ≠ y.map := fun e => by
  obtain ⟨es, clock, hm, -⟩ := k.names
  have := h.blk
  unfold Blk at this
  rw [e, hm] at this
  cases this
theorem NodeAt.turn {W W' : World} {b : Nat} {x : TN} {q : Nat → Prop} (h : NodeAt W b x) (ht : Turn q W W') (hq : ∀ k, q k → k < W.heap.size → NoU8 W k) (h1 : ¬ q b) (h2 : ¬ q x.map) : NodeAt W' b x := ⟨h.blk.turn ht h1, h.names.turn ht h2, h.fb.turn8 ht hq⟩
set_option maxRecDepth 100000 in
set_option maxHeartbeats 4000000 in
theorem take10_there {w : World} {d c : Nat} {x : TN} (h : NodeAt w d x) (s : List UInt8) (hs : s.length ≤ 1000) (p : Nat) (hp : lookNm x.nm s = some p) :
    Calls Tryz.prog 83 #[.agg #[.pointer (some ⟨d, 0, none⟩), encStr s], .pointer (some ⟨c, 0, none⟩)] w fun e w' => e = .panicked (refuse 203) ∧ Below w.heap.size w w' := by
  obtain ⟨t, ht⟩ : ∃ t, encStr s = .string t := ⟨_, rfl⟩
  obtain ⟨W1, hW1⟩ : ∃ W1, w.alloc (.cells #[.pointer (some ⟨d, 0, none⟩), .string t] 139) = W1 := ⟨_, rfl⟩
  have hb1 : Below w.heap.size w W1 := by rw [← hW1]; exact (by repeat (first | exact Below.refl _ _ | assumption | refine Below.drew ?_ | refine below_drewN ?_ _ | refine Below.alloc ?_ (by (try simp) <;> omega) _ | refine Below.setCell ?_ (by (try simp) <;> omega) _ | refine Below.trans ?_ (Below.mono (by assumption) (by (try simp) <;> omega))))
  have k0 : W1.cell? ⟨w.heap.size, 0, none⟩ = some (.pointer (some ⟨d, 0, none⟩)) := by rw [← hW1]; exact (Blk.new w 139 #[.pointer (some ⟨d, 0, none⟩), .string t]).cell rfl
  have k1 : W1.cell? ⟨w.heap.size, 1, none⟩ = some (.string t) := by rw [← hW1]; exact (Blk.new w 139 #[.pointer (some ⟨d, 0, none⟩), .string t]).cell rfl
  have hh := held10_any (h.below hb1) s hs
  rw [hp, ht] at hh
  have HH : Hid (Calls Tryz.prog 85 #[.agg #[.pointer (some ⟨d, 0, none⟩), .string t]] W1 fun e w' => e = .returned (.pointer (some ⟨p, 0, none⟩)) ∧ Below W1.heap.size W1 w') := show Calls _ _ _ _ _ from hh
  have HM := Lib.hid (fun b w => mustBe10_any b 203 (by decide) w)
  have HB1 := Lib.hid hb1
  rw [ht]
  clear h ht hs hp hb1 hh
  go_enter Tryz.func83, Tryz.ntmps83
  go_wp2_with fail
  refine HH.out.mono ?_
  rintro e w' ⟨rfl, hb⟩
  have HB2 := Lib.hid (HB1.out.trans (hb.mono HB1.out.size))
  clear hb
  go_wp2_with fail
  refine (HM.out _ _).mono ?_
  rintro e w2 (⟨hg, ⟨u, rfl⟩, rfl⟩ | ⟨hg, rfl, rfl⟩)
  · cases hg
  · exact ⟨rfl, rfl, HB2.out⟩
set_option maxRecDepth 100000 in
set_option maxHeartbeats 4000000 in
theorem take10_full {w : World} {d c : Nat} {x y : TN} (h : NodeAt w d x) (hc : NodeAt w c y) (s : List UInt8) (hs : s.length ≤ 1000) (hp : lookNm x.nm s = none) (hl : ¬ y.links < 200) :
    Calls Tryz.prog 83 #[.agg #[.pointer (some ⟨d, 0, none⟩), encStr s], .pointer (some ⟨c, 0, none⟩)] w fun e w' => e = .panicked (refuse 207) ∧ Below w.heap.size w w' := by
  obtain ⟨t, ht⟩ : ∃ t, encStr s = .string t := ⟨_, rfl⟩
  obtain ⟨W1, hW1⟩ : ∃ W1, w.alloc (.cells #[.pointer (some ⟨d, 0, none⟩), .string t] 139) = W1 := ⟨_, rfl⟩
  have hb1 : Below w.heap.size w W1 := by rw [← hW1]; exact (by repeat (first | exact Below.refl _ _ | assumption | refine Below.drew ?_ | refine below_drewN ?_ _ | refine Below.alloc ?_ (by (try simp) <;> omega) _ | refine Below.setCell ?_ (by (try simp) <;> omega) _ | refine Below.trans ?_ (Below.mono (by assumption) (by (try simp) <;> omega))))
  have k0 : W1.cell? ⟨w.heap.size, 0, none⟩ = some (.pointer (some ⟨d, 0, none⟩)) := by rw [← hW1]; exact (Blk.new w 139 #[.pointer (some ⟨d, 0, none⟩), .string t]).cell rfl
  have k1 : W1.cell? ⟨w.heap.size, 1, none⟩ = some (.string t) := by rw [← hW1]; exact (Blk.new w 139 #[.pointer (some ⟨d, 0, none⟩), .string t]).cell rfl
  have hh := held10_any (h.below hb1) s hs
  rw [hp, ht] at hh
  have HH : Hid (Calls Tryz.prog 85 #[.agg #[.pointer (some ⟨d, 0, none⟩), .string t]] W1 fun e w' => e = .returned (.pointer none) ∧ Below W1.heap.size W1 w') := show Calls _ _ _ _ _ from hh
  have HM := Lib.hid (fun b w => mustBe10_any b 203 (by decide) w)
  have HM7 := Lib.hid (fun b w => mustBe10_any b 207 (by decide) w)
  have HB1 := Lib.hid hb1
  have HC := Lib.hid hc
  have hl2 : ¬ ((y.links : Nat) : Int) < 200 := by omega
  rw [ht]
  clear h ht hs hp hb1 hh hc hl
  go_enter Tryz.func83, Tryz.ntmps83
  go_wp2_with fail
  refine HH.out.mono ?_
  rintro e w' ⟨rfl, hb⟩
  have HB2 := Lib.hid (HB1.out.trans (hb.mono HB1.out.size))
  clear hb
  go_wp2_with fail
  refine (HM.out _ _).mono ?_
  rintro e w2 (⟨hg, ⟨u, rfl⟩, rfl⟩ | ⟨hg, rfl, rfl⟩)
  · have c2 : w2.cell? ⟨c, 2, none⟩ = some (.int .i64 (y.links : Nat)) := (HC.out.below HB2.out).blk.cell rfl
    clear hg
    go_wp2_with fail
    refine (HM7.out _ _).mono ?_
    rintro e w3 (⟨hg, ⟨u, rfl⟩, rfl⟩ | ⟨hg, rfl, rfl⟩)
    · exfalso
      first
      | cases hg
      | (have := of_decide_eq_true hg; omega)
    · exact ⟨rfl, rfl, HB2.out⟩
  · cases hg
set_option maxRecDepth 100000 in
set_option maxHeartbeats 8000000 in
theorem take10_ok {w : World} {d c : Nat} {x y : TN} (h : NodeAt w d x) (hc : NodeAt w c y) (hdc : d ≠ c) (s : List UInt8) (hs : s.length ≤ 1000) (hp : lookNm x.nm s = none) (hl : y.links < 200) (hcnt : x.cnt < 100000) (hmm : x.map ≠ y.map) :
    Calls Tryz.prog 83 #[.agg #[.pointer (some ⟨d, 0, none⟩), encStr s], .pointer (some ⟨c, 0, none⟩)] w fun e w' => (∃ u, e = .returned u) ∧
      NodeAt w' d { x with nm := putNm x.nm s c, cnt := x.cnt + 1 } ∧ NodeAt w' c { y with links := y.links + 1 } ∧ Turn (fun k => k = x.map ∨ k = c) w w' := by
  obtain ⟨t, ht⟩ : ∃ t, encStr s = .string t := ⟨_, rfl⟩
  obtain ⟨W1, hW1⟩ : ∃ W1, w.alloc (.cells #[.pointer (some ⟨d, 0, none⟩), .string t] 139) = W1 := ⟨_, rfl⟩
  have hb1 : Below w.heap.size w W1 := by rw [← hW1]; exact (by repeat (first | exact Below.refl _ _ | assumption | refine Below.drew ?_ | refine below_drewN ?_ _ | refine Below.alloc ?_ (by (try simp) <;> omega) _ | refine Below.setCell ?_ (by (try simp) <;> omega) _ | refine Below.trans ?_ (Below.mono (by assumption) (by (try simp) <;> omega))))
  have k0 : W1.cell? ⟨w.heap.size, 0, none⟩ = some (.pointer (some ⟨d, 0, none⟩)) := by rw [← hW1]; exact (Blk.new w 139 #[.pointer (some ⟨d, 0, none⟩), .string t]).cell rfl
  have k1 : W1.cell? ⟨w.heap.size, 1, none⟩ = some (.string t) := by rw [← hW1]; exact (Blk.new w 139 #[.pointer (some ⟨d, 0, none⟩), .string t]).cell rfl
  have hh := held10_any (h.below hb1) s hs
  rw [hp, ht] at hh
  have HH : Hid (Calls Tryz.prog 85 #[.agg #[.pointer (some ⟨d, 0, none⟩), .string t]] W1 fun e w' => e = .returned (.pointer none) ∧ Below W1.heap.size W1 w') := show Calls _ _ _ _ _ from hh
  have HM := Lib.hid (fun b w => mustBe10_any b 203 (by decide) w)
  have HM7 := Lib.hid (fun b w => mustBe10_any b 207 (by decide) w)
  have HCL : Hid (∀ W, Calls Tryz.prog 114 #[.string t] W fun e w' => e = .returned (.string t) ∧ Below W.heap.size W w') := show ∀ W, _ from fun W => by
    have := cloneStr_any s (by omega) W
    rw [ht] at this
    exact this
  have HB1 := Lib.hid hb1
  have HC := Lib.hid hc
  have HX := Lib.hid h
  have HDC := Lib.hid hdc
  have HMM := Lib.hid hmm
  have HSX : Hid (w.heap.size < W1.heap.size) := show _ < _ by rw [← hW1]; simp
  have hbx : Blk W1 w.heap.size 139 #[.pointer (some ⟨d, 0, none⟩), .string t] := by rw [← hW1]; exact Blk.new _ _ _
  have HBX := Lib.hid hbx
  have HST : Hid (∀ V, Below w.heap.size w V → ∃ W', (Instr.mapUpdate 106 (.map (some x.map)) (.string t) (.pointer (some ⟨c, 0, none⟩))).run Tryz.prog V = .ok () W' ∧ NameMap W' x.map (x.cnt + 1) (putNm x.nm s c) ∧ Turn (fun k => k = x.map) V W') := show ∀ V, _ from fun V hV => by
    have := ((h.below hV).names).store (by omega) s hs c
    rw [ht] at this
    exact this
  have hl2 : ((y.links : Nat) : Int) < 200 := by omega
  have hw : wrap64 (((y.links : Nat) : Int) + 1) = ((y.links : Nat) : Int) + 1 := by unfold wrap64; omega
  rw [ht]
  clear h ht hs hp hb1 hh hc hl hdc hmm hbx hcnt
  go_enter Tryz.func83, Tryz.ntmps83
  go_wp2_with fail
  refine HH.out.mono ?_
  rintro e w' ⟨rfl, hb⟩
  have HB2 := Lib.hid (HB1.out.trans (hb.mono HB1.out.size))
  have HBX2 := Lib.hid (HBX.out.below hb HSX.out)
  clear hb
  go_wp2_with fail
  refine (HM.out _ _).mono ?_
  rintro e w2 (⟨hg, ⟨u, rfl⟩, rfl⟩ | ⟨hg, rfl, rfl⟩)
  · have c2 : w2.cell? ⟨c, 2, none⟩ = some (.int .i64 (y.links : Nat)) := (HC.out.below HB2.out).blk.cell rfl
    clear hg
    go_wp2_with fail
    refine (HM7.out _ _).mono ?_
    rintro e w3 (⟨hg, ⟨u, rfl⟩, rfl⟩ | ⟨hg, rfl, rfl⟩)
    · clear hg c2
      have HRR : Hid (∀ V, Below w3.heap.size w3 V → V.cell? ⟨w.heap.size, 0, none⟩ = some (.pointer (some ⟨d, 0, none⟩)) ∧ V.cell? ⟨w.heap.size, 1, none⟩ = some (.string t) ∧ V.cell? ⟨d, 0, none⟩ = some (.map (some x.map)) ∧ Below w3.heap.size w3 V) := show ∀ V, _ from fun V hV =>
        ⟨(HBX2.out.below hV HBX2.out.lt).cell rfl, (HBX2.out.below hV HBX2.out.lt).cell rfl, (HX.out.below (HB2.out.trans (hV.mono HB2.out.size))).blk.cell rfl, hV⟩
      go_wp2_with fail
      have hR := HRR.out _ (Below.refl _ _).drew
      refine wp_region_M 9 (fun V : World => V.cell? ⟨w.heap.size, 0, none⟩ = some (.pointer (some ⟨d, 0, none⟩)) ∧ V.cell? ⟨w.heap.size, 1, none⟩ = some (.string t) ∧ V.cell? ⟨d, 0, none⟩ = some (.map (some x.map)) ∧ Below w3.heap.size w3 V) (by kernel_rfl) ?_
      (refine wpAnyM_take2 8 (i := 0) (v := ?_) rfl (by kernel_rfl) (by kernel_rfl) (fun _ _ _ h => h) (Or.inl ⟨by rfl, ?_⟩) hR ?_; rotate_left; (focus (intro w hSw; (try dsimp only at hSw); go_simp; (try with_reducible rfl))); (try simp only [put_laws])); (refine wpAnyM_take2 8 (i := 5) (v := ?_) rfl (by kernel_rfl) (by kernel_rfl) (fun _ _ _ h => h) (Or.inl ⟨by rfl, ?_⟩) hR ?_; rotate_left; (focus (intro w hSw; (try dsimp only at hSw); go_simp; (try with_reducible rfl))); (try simp only [put_laws])); (refine wpAnyM_take2 8 (i := 1) (v := ?_) rfl (by kernel_rfl) (by kernel_rfl) (fun _ _ _ h => h) (Or.inl ⟨by rfl, ?_⟩) hR ?_; rotate_left; (focus (intro w hSw; (try dsimp only at hSw); go_simp; (try with_reducible rfl))); (try simp only [put_laws])); (refine wpAnyM_take2 8 (i := 6) (v := ?_) rfl (by kernel_rfl) (by kernel_rfl) (fun _ _ _ h => h) (Or.inl ⟨by rfl, ?_⟩) hR ?_; rotate_left; (focus (intro w hSw; (try dsimp only at hSw); go_simp; (try with_reducible rfl))); (try simp only [put_laws])); (refine wpAnyM_take2 8 (i := 2) (v := ?_) rfl (by kernel_rfl) (by kernel_rfl) (fun _ _ _ h => h) (Or.inl ⟨by rfl, ?_⟩) hR ?_; rotate_left; (focus (intro w hSw; (try dsimp only at hSw); go_simp; (try with_reducible rfl))); (try simp only [put_laws])); (refine wpAnyM_take2 8 (i := 3) (v := ?_) rfl (by kernel_rfl) (by kernel_rfl) (fun _ _ _ h => h) (Or.inl ⟨by rfl, ?_⟩) hR ?_; rotate_left; (focus (intro w hSw; (try dsimp only at hSw); go_simp; (try with_reducible rfl))); (try simp only [put_laws])); (refine wpAnyM_take2 8 (i := 4) (v := ?_) rfl (by kernel_rfl) (by kernel_rfl) (fun _ _ _ h => h) (Or.inl ⟨by rfl, ?_⟩) hR ?_; rotate_left; (focus (intro w hSw; (try dsimp only at hSw); go_simp; (try with_reducible rfl))); (try simp only [put_laws])); (refine wpAnyM_take2 8 (i := 8) (v := ?_) rfl (by kernel_rfl) (by kernel_rfl) (fun _ _ _ h => h) (Or.inl ⟨by rfl, ?_⟩) hR ?_; rotate_left; (focus (intro w hSw; (try dsimp only at hSw); go_simp; (try with_reducible rfl))); (try simp only [put_laws]))
      (refine wpAnyM_one (i := 7) rfl (by kernel_rfl) (fun K hK => ?_); rw [if_pos (by rfl)]; (try simp only [elem_laws]))
      go_simp
      refine (HCL.out _).mono ?_
      rintro e w4 ⟨rfl, hb⟩
      have hR' := HRR.out _ (hR.2.2.2.trans (hb.mono hR.2.2.2.size))
      refine hK _ _ (fun _ => hR') ?_
      clear hK K hR hb
      have hR := hR'
      clear hR'
      (try simp only [put_laws])
      obtain ⟨W5, hst, hnm, htn⟩ := HST.out w4 (HB2.out.trans (hR.2.2.2.mono HB2.out.size))
      have HNM := Lib.hid hnm
      have HT4 : Hid (Below w.heap.size w w4) := show Below _ _ _ from HB2.out.trans (hR.2.2.2.mono HB2.out.size)
      have HTN := Lib.hid htn
      clear hnm htn
      (refine wpAnyM_last rfl (by kernel_rfl) (fun K hK => ?_); rw [if_pos (by rfl)]; (try simp only [elem_laws]))
      go_simp
      refine hK _ _ ?_
      clear hK K hR hst
      (try simp only [put_laws])
      refine wpAnyM_done (by kernel_rfl) ?_ _
      have hd4 := HX.out.below HT4.out
      have hc4 := HC.out.below HT4.out
      have hno : ∀ k, (fun k => k = x.map) k → k < w4.heap.size → NoU8 w4 k := fun k hk _ => by
        subst hk
        exact hd4.mapU8
      have hc5 : NodeAt W5 c y := hc4.turn HTN.out hno (hc4.ne_map hd4) (fun e => HMM.out e.symm)
      have hdb5 : Blk W5 d 108 x.cells := hd4.blk.turn HTN.out (hd4.ne_map hd4)
      have hdf5 : FB W5 x.cont x.bytes := hd4.fb.turn8 HTN.out hno
      have cc2 : W5.cell? ⟨c, 2, none⟩ = some (.int .i64 (y.links : Nat)) := hc5.blk.cell rfl
      have ff2 := hc5.blk.frozen 2
      have hcm : c ≠ x.map := hc4.ne_map hd4
      have HEND : Hid (NodeAt (W5.setCell ⟨c, 2, none⟩ (.int .i64 ((y.links : Nat) + 1))) d { x with nm := putNm x.nm s c, cnt := x.cnt + 1 } ∧ NodeAt (W5.setCell ⟨c, 2, none⟩ (.int .i64 ((y.links : Nat) + 1))) c { y with links := y.links + 1 } ∧ Turn (fun k => k = x.map ∨ k = c) w (W5.setCell ⟨c, 2, none⟩ (.int .i64 ((y.links : Nat) + 1)))) := show _ ∧ _ from by
        have ht : Turn (fun k => k = c) W5 (W5.setCell ⟨c, 2, none⟩ (.int .i64 ((y.links : Nat) + 1))) := Turn.setCell _ _ rfl
        have hno5 : ∀ k, (fun k => k = c) k → k < W5.heap.size → NoU8 W5 k := fun k hk _ => by
          subst hk
          exact hc5.noU8
        refine ⟨⟨hdb5.turn ht HDC.out, HNM.out.turn ht (fun e => hcm e.symm), hdf5.turn8 ht hno5⟩, ⟨?_, hc5.names.turn ht (fun e => hc5.ne_map hc5 e.symm), hc5.fb.turn8 ht hno5⟩, ?_⟩
        · exact hc5.blk.set 2 (.int .i64 ((y.links : Nat) + 1))
        · exact ((Turn.of_below HT4.out (Nat.le_refl _)).trans (HTN.out.mono fun k h => .inl h)).trans (ht.mono fun k h => .inr h)
      clear hd4 hc4 hno hc5 hdb5 hdf5 hcm
      go_wp2_with fail
      first
      | go_end0
      | refine bodyPost_ret (results_none rfl _ _ _) rfl ?_
      exact ⟨⟨_, rfl⟩, HEND.out⟩
    · exfalso
      first
      | cases hg
      | (have := of_decide_eq_false hg; omega)
  · cases hg
end Go.Proofs.YtgoemaecdolioaaGreatDoor

/-
  tree: spots: leave, giveWay; fill.
-/
namespace Go.Proofs.YtgoemaecdolioaaGreatDoor
open Go.RowKit Go.Shelf
attribute [local go_sem] Oper.semAt_some

set_option maxRecDepth 100000 in
set_option maxHeartbeats 8000000 in
theorem leave10_any {w : World} {d c : Nat} {x y : TN} (h : NodeAt w d x) (hc : NodeAt w c y) (hdc : d ≠ c) (s : List UInt8) (hs : s.length ≤ 1000) (hp : lookNm x.nm s = some c) (hl : 0 < y.links ∧ y.links ≤ 1000) (hmm : x.map ≠ y.map) :
    Calls Tryz.prog 162 #[.agg #[.pointer (some ⟨d, 0, none⟩), encStr s]] w fun e w' => (∃ u, e = .returned u) ∧
      NodeAt w' d { x with nm := delNm x.nm s } ∧ NodeAt w' c { y with links := y.links - 1 } ∧ Turn (fun k => k = x.map ∨ k = c) w w' := by
  obtain ⟨t, ht⟩ : ∃ t, encStr s = .string t := ⟨_, rfl⟩
  obtain ⟨W1, hW1⟩ : ∃ W1, w.alloc (.cells #[.pointer (some ⟨d, 0, none⟩), .string t] 139) = W1 := ⟨_, rfl⟩
  have hb1 : Below w.heap.size w W1 := by rw [← hW1]; exact (by repeat (first | exact Below.refl _ _ | assumption | refine Below.drew ?_ | refine below_drewN ?_ _ | refine Below.alloc ?_ (by (try simp) <;> omega) _ | refine Below.setCell ?_ (by (try simp) <;> omega) _ | refine Below.trans ?_ (Below.mono (by assumption) (by (try simp) <;> omega))))
  have k0 : W1.cell? ⟨w.heap.size, 0, none⟩ = some (.pointer (some ⟨d, 0, none⟩)) := by rw [← hW1]; exact (Blk.new w 139 #[.pointer (some ⟨d, 0, none⟩), .string t]).cell rfl
  have k1 : W1.cell? ⟨w.heap.size, 1, none⟩ = some (.string t) := by rw [← hW1]; exact (Blk.new w 139 #[.pointer (some ⟨d, 0, none⟩), .string t]).cell rfl
  have hh := held10_any (h.below hb1) s hs
  rw [hp, ht] at hh
  have HH : Hid (Calls Tryz.prog 85 #[.agg #[.pointer (some ⟨d, 0, none⟩), .string t]] W1 fun e w' => e = .returned (.pointer (some ⟨c, 0, none⟩)) ∧ Below W1.heap.size W1 w') := show Calls _ _ _ _ _ from hh
  have HB1 := Lib.hid hb1
  have HC := Lib.hid hc
  have HX := Lib.hid h
  have HDC := Lib.hid hdc
  have HMM := Lib.hid hmm
  have HSX : Hid (w.heap.size < W1.heap.size) := show _ < _ by rw [← hW1]; simp
  have HBX : Hid (Blk W1 w.heap.size 139 #[.pointer (some ⟨d, 0, none⟩), .string t]) := show Blk _ _ _ _ by rw [← hW1]; exact Blk.new _ _ _
  have HST : Hid (∀ V, Below w.heap.size w V → NodeAt V d x) := show ∀ V, _ from fun V hV => h.below hV
  obtain ⟨L, hL⟩ : ∃ L, y.links = L + 1 := ⟨y.links - 1, by omega⟩
  have hw : wrap64 (((y.links : Nat) : Int) - 1) = (L : Nat) := by unfold wrap64; omega
  have hL1 : y.links - 1 = L := by omega
  have HDR : Hid (∀ V, NameMap V x.map x.cnt x.nm → ∃ W', (Builtin.delete_ #[106, 9] 0 #[.map (some x.map), .string t]).run Tryz.prog V = .ok (.tuple #[]) W' ∧ NameMap W' x.map x.cnt (delNm x.nm s) ∧ Turn (fun k => k = x.map) V W') := show ∀ V, _ from fun V hV => by
    have := hV.drop s hs 0
    rw [ht] at this
    exact this
  rw [ht, hL1]
  clear h ht hs hp hb1 hh hc hl hdc hmm hL hL1
  go_enter Tryz.func162, Tryz.ntmps162
  go_wp2_with fail
  refine HH.out.mono ?_
  rintro e w' ⟨rfl, hb⟩
  have HB2 := Lib.hid (HB1.out.trans (hb.mono HB1.out.size))
  have HBX2 := Lib.hid (HBX.out.below hb HSX.out)
  clear hb
  have cc2 : w'.cell? ⟨c, 2, none⟩ = some (.int .i64 (y.links : Nat)) := (HC.out.below HB2.out).blk.cell rfl
  have ff2 := (HC.out.below HB2.out).blk.frozen 2
  have hne : w.heap.size ≠ c := fun e => by have := HC.out.blk.lt; omega
  have HNE := Lib.hid hne
  clear hne
  go_wp2_with fail
  obtain ⟨W3, hW3⟩ : ∃ W3, w'.setCell ⟨c, 2, none⟩ (.int .i64 (L : Nat)) = W3 := ⟨_, rfl⟩
  rw [hW3]
  have HBX3 : Hid (Blk W3 w.heap.size 139 #[.pointer (some ⟨d, 0, none⟩), .string t]) := show Blk _ _ _ _ by rw [← hW3]; exact HBX2.out.setOther _ HNE.out
  have ht3 : Turn (fun k => k = c) w' W3 := by rw [← hW3]; exact Turn.setCell _ _ rfl
  have hno : ∀ k, (fun k => k = c) k → k < w'.heap.size → NoU8 w' k := fun k hk _ => by
    subst hk
    exact (HC.out.below HB2.out).noU8
  have hd3 : NodeAt W3 d x := (HX.out.below HB2.out).turn ht3 hno HDC.out (fun e => (HC.out.below HB2.out).ne_map (HX.out.below HB2.out) e.symm)
  have hc2 := HC.out.below HB2.out
  have hc3 : NodeAt W3 c { y with links := L } := ⟨by rw [← hW3]; exact hc2.blk.set 2 (.int .i64 (L : Nat)), hc2.names.turn ht3 (fun e => hc2.ne_map hc2 e.symm), hc2.fb.turn8 ht3 hno⟩
  have HD3 := Lib.hid hd3
  have HC3 := Lib.hid hc3
  have HT3 : Hid (Turn (fun k => k = x.map ∨ k = c) w W3) := show Turn _ _ _ from (Turn.of_below HB2.out (Nat.le_refl _)).trans (ht3.mono fun k h => .inr h)
  clear hW3 ht3 hno hd3 hc3 hc2 cc2 ff2
  have HRR : Hid (W3.drew.cell? ⟨w.heap.size, 0, none⟩ = some (.pointer (some ⟨d, 0, none⟩)) ∧ W3.drew.cell? ⟨w.heap.size, 1, none⟩ = some (.string t) ∧ W3.drew.cell? ⟨d, 0, none⟩ = some (.map (some x.map))) := show _ ∧ _ from
    ⟨HBX3.out.cell rfl, HBX3.out.cell rfl, HD3.out.blk.cell rfl⟩
  have hR := HRR.out
  refine wp_region_M 7 (fun V : World => V.cell? ⟨w.heap.size, 0, none⟩ = some (.pointer (some ⟨d, 0, none⟩)) ∧ V.cell? ⟨w.heap.size, 1, none⟩ = some (.string t) ∧ V.cell? ⟨d, 0, none⟩ = some (.map (some x.map))) (by kernel_rfl) ?_
  (refine wpAnyM_take2 8 (i := 0) (v := ?_) rfl (by kernel_rfl) (by kernel_rfl) (fun _ _ _ h => h) (Or.inl ⟨by rfl, ?_⟩) hR ?_; rotate_left; (focus (intro w hSw; (try dsimp only at hSw); go_simp; (try with_reducible rfl))); (try simp only [put_laws])); (refine wpAnyM_take2 8 (i := 5) (v := ?_) rfl (by kernel_rfl) (by kernel_rfl) (fun _ _ _ h => h) (Or.inl ⟨by rfl, ?_⟩) hR ?_; rotate_left; (focus (intro w hSw; (try dsimp only at hSw); go_simp; (try with_reducible rfl))); (try simp only [put_laws])); (refine wpAnyM_take2 8 (i := 1) (v := ?_) rfl (by kernel_rfl) (by kernel_rfl) (fun _ _ _ h => h) (Or.inl ⟨by rfl, ?_⟩) hR ?_; rotate_left; (focus (intro w hSw; (try dsimp only at hSw); go_simp; (try with_reducible rfl))); (try simp only [put_laws])); (refine wpAnyM_take2 8 (i := 6) (v := ?_) rfl (by kernel_rfl) (by kernel_rfl) (fun _ _ _ h => h) (Or.inl ⟨by rfl, ?_⟩) hR ?_; rotate_left; (focus (intro w hSw; (try dsimp only at hSw); go_simp; (try with_reducible rfl))); (try simp only [put_laws])); (refine wpAnyM_take2 8 (i := 2) (v := ?_) rfl (by kernel_rfl) (by kernel_rfl) (fun _ _ _ h => h) (Or.inl ⟨by rfl, ?_⟩) hR ?_; rotate_left; (focus (intro w hSw; (try dsimp only at hSw); go_simp; (try with_reducible rfl))); (try simp only [put_laws])); (refine wpAnyM_take2 8 (i := 3) (v := ?_) rfl (by kernel_rfl) (by kernel_rfl) (fun _ _ _ h => h) (Or.inl ⟨by rfl, ?_⟩) hR ?_; rotate_left; (focus (intro w hSw; (try dsimp only at hSw); go_simp; (try with_reducible rfl))); (try simp only [put_laws])); (refine wpAnyM_take2 8 (i := 4) (v := ?_) rfl (by kernel_rfl) (by kernel_rfl) (fun _ _ _ h => h) (Or.inl ⟨by rfl, ?_⟩) hR ?_; rotate_left; (focus (intro w hSw; (try dsimp only at hSw); go_simp; (try with_reducible rfl))); (try simp only [put_laws]))
  obtain ⟨W5, hst, hnm, htn⟩ := HDR.out W3.drew (HD3.out.names.below (B := W3.heap.size) (Below.refl _ _).drew HD3.out.names.lt)
  have HNM := Lib.hid hnm
  have HTN := Lib.hid htn
  clear hnm htn
  (refine wpAnyM_last rfl (by kernel_rfl) (fun K hK => ?_); rw [if_pos (by rfl)]; (try simp only [elem_laws]))
  go_simp
  refine hK _ _ ?_
  clear hK K hR hst
  (try simp only [put_laws])
  refine wpAnyM_done (by kernel_rfl) ?_ _
  have hdr : Turn (fun k => k = x.map) W3 W5 := (Turn.of_below (Below.refl _ W3).drew (Nat.le_refl _)).trans HTN.out
  have hno : ∀ k, (fun k => k = x.map) k → k < W3.heap.size → NoU8 W3 k := fun k hk _ => by
    subst hk
    exact HD3.out.mapU8
  have HEND : Hid (NodeAt W5 d { x with nm := delNm x.nm s } ∧ NodeAt W5 c { y with links := L } ∧ Turn (fun k => k = x.map ∨ k = c) w W5) := show _ ∧ _ from
    ⟨⟨HD3.out.blk.turn hdr (HD3.out.ne_map HD3.out), HNM.out, HD3.out.fb.turn8 hdr hno⟩, HC3.out.turn hdr hno (HC3.out.ne_map HD3.out) (fun e => HMM.out e.symm), HT3.out.trans (hdr.mono fun k h => .inl h)⟩
  clear hdr hno
  go_wp2_with fail
  first
  | go_end0
  | refine bodyPost_ret (results_none rfl _ _ _) rfl ?_
  exact ⟨⟨_, rfl⟩, HEND.out⟩
end Go.Proofs.YtgoemaecdolioaaGreatDoor
