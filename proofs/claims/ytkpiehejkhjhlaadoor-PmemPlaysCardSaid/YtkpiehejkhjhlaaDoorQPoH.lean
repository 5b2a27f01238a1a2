/-
  The walk of the law PmemPlays (written by gen_plays.py).
-/
import Derived.Test.YtkpiehejkhjhlaaDoorQPoD
import Derived.Test.YtkpiehejkhjhlaaDoorQPoG
namespace Go.Proofs.YtkpiehejkhjhlaaDoor
open Go.RowKit Go.Shelf
attribute [local go_sem] Oper.semAt_some

/-- A block of another type than a device's rows is none of them. -/
theorem own_ne {W : World} {e t : TypeId} {size S c n b : Nat} {xs : List Value} {cs : Array Value} {fr : Nat × Nat} (h : W.ownsRow 0 e size (.slice (some ⟨S, 0, none⟩) n c) n xs) (hb : W.heap[b]? = some (.cells cs t fr)) (hte : t ≠ e) : S ≠ b := by
  rintro rfl
  rcases h.2 with ⟨e0, _⟩ | ⟨g, cap, cur, e0, _, hg, _⟩
  · cases e0
  · simp only [Value.slice.injEq, Option.some.injEq, Addr.mk.injEq, and_true, true_and] at e0
    obtain ⟨rfl, rfl⟩ := e0
    rw [hb] at hg
    simp only [Option.some.injEq, Obj.cells.injEq] at hg
    exact hte hg.2.1
theorem grow_ne {W : World} {e t : TypeId} {size n b : Nat} {v : Value} {xs : List Value} {cs : Array Value} {fr : Nat × Nat} (h : GrowV W e size v n xs) (hb : W.heap[b]? = some (.cells cs t fr)) (hte : t ≠ e) : OwnIn (fun k => k ≠ b) v := by
  rcases h with ⟨_, _, ad, rfl⟩ | h
  · exact .inl ⟨ad, rfl⟩
  · refine .inr fun g hg => ?_
    rintro rfl
    rcases h.2 with ⟨rfl, _⟩ | ⟨g', cap, cur, rfl, _, hg', _⟩
    · cases hg
    · obtain rfl : g' = g := by simpa [Value.ownBlock] using hg
      rw [hb] at hg'
      simp only [Option.some.injEq, Obj.cells.injEq] at hg'
      exact hte hg'.2.1
/-- The document's device does not mind a box that is written. -/
theorem RefV.box {W W' : World} {F : Nat → Prop} {S T n cS cT b : Nat} {q : Value} {d : Dv} {cs : Array Value} {fr : Nat × Nat} (h : RefV W F S T n cS cT q d) (hb : W.heap[b]? = some (.cells cs 36 fr)) (hk : ∀ k, k ≠ b → W'.heap[k]? = W.heap[k]?) : RefV W' F S T n cS cT q d :=
  ⟨h.ok, h.pos, h.most, own_keeps h.seen (fun _ => hk S (own_ne h.seen hb (by decide))), own_keeps h.stays (fun _ => hk T (own_ne h.stays hb (by decide))), h.waits.keeps (grow_ne h.waits hb (by decide)) (fun k hk' _ => hk k hk'), h.outS, h.outT, h.outQ⟩
/-- Both devices in the rounds of a law that plays calls; the document's lies in block b. -/
structure BothI (w : World) (n b r B : Nat) (wr : World) : Prop where
  ex : ∃ F S T cS cT q S' T' cS' cT' q' d, DevB wr F B S T n cS cT q d ∧ RefV wr F S' T' n cS' cT' q' d ∧ (∀ k, F k → w.heap.size ≤ k) ∧ ¬ F b ∧ ¬ F r ∧ Box3 wr b 36 (.slice (some ⟨S', 0, none⟩) n cS') (.slice (some ⟨T', 0, none⟩) n cT') q'
  res : Boxed wr r 4 (.bool false)
  below : Below w.heap.size w wr
/-- Behind a call by both: the answer's device lies in block x, not yet in block b. -/
structure Behind (w : World) (n b r x B : Nat) (wr : World) : Prop where
  ex : ∃ F S T cS cT q S' T' cS' cT' q' d y0 y1 y2, DevB wr F B S T n cS cT q d ∧ RefV wr F S' T' n cS' cT' q' d ∧ (∀ k, F k → w.heap.size ≤ k) ∧ ¬ F b ∧ ¬ F r ∧ Box3 wr x 36 (.slice (some ⟨S', 0, none⟩) n cS') (.slice (some ⟨T', 0, none⟩) n cT') q' ∧ Box3 wr b 36 y0 y1 y2
  res : Boxed wr r 4 (.bool false)
  below : Below w.heap.size w wr
  ne : b ≠ r
  low : w.heap.size ≤ b
theorem BothI.drew {w wr : World} {n b r B : Nat} (h : BothI w n b r B wr) : BothI w n b r B wr.drew := by
  obtain ⟨F, S, T, cS, cT, q, S', T', cS', cT', q', d, h1, h2, h3, h4, h5, h6⟩ := h.ex
  have hb : Below wr.heap.size wr wr.drew := Below.drew (Below.refl _ _)
  exact ⟨⟨F, S, T, cS, cT, q, S', T', cS', cT', q', d, h1.below hb, h2.below hb, h3, h4, h5, h6.below hb h6.lt⟩, (hb.block _ h.res.lt).trans h.res, h.below.trans (hb.mono h.below.size)⟩
theorem Behind.set {w wr : World} {n b r x B : Nat} {x0 x1 x2 : Value} (h : Behind w n b r x B wr) (hx : Box3 wr x 36 x0 x1 x2) : BothI w n b r B (((wr.setCell ⟨b, 0, none⟩ x0).setCell ⟨b, 1, none⟩ x1).setCell ⟨b, 2, none⟩ x2) := by
  obtain ⟨F, S, T, cS, cT, q, S', T', cS', cT', q', d, y0, y1, y2, h1, h2, h3, h4, h5, h6, h7⟩ := h.ex
  have e := hx.symm.trans h6
  simp only [Option.some.injEq, Obj.cells.injEq, Array.mk.injEq, List.cons.injEq, and_true] at e
  obtain ⟨rfl, rfl, rfl⟩ := e
  refine ⟨⟨F, S, T, cS, cT, q, S', T', cS', cT', x2, d, h1.keeps (fun k hk _ => heap_set3 _ b k (fun e => h4 (by rw [← e]; exact hk)) _ _ _) (by simp [World.setCell]), h2.box h7 (fun k hk => heap_set3 _ _ k hk _ _ _), h3, h4, h5, ((h7.set0 _).set1 _).set2 _⟩, (heap_set3 _ _ r (fun e => h.ne e.symm) _ _ _).trans h.res, ?_⟩
  exact below_set3 h.below h.low _ _ _
theorem RefV.cell {W : World} {F : Nat → Prop} {S T n cS cT b : Nat} {q u : Value} {d : Dv} (h : RefV W F S T n cS cT q d) (hb : ∃ v, Boxed W b 4 v) : RefV (W.setCell ⟨b, 0, none⟩ u) F S T n cS cT q d := by
  obtain ⟨v, hb⟩ := hb
  have hk : ∀ k, k ≠ b → (W.setCell ⟨b, 0, none⟩ u).heap[k]? = W.heap[k]? := fun k hk => Below.heap_setCell _ _ _ k hk
  exact ⟨h.ok, h.pos, h.most, own_keeps h.seen (fun _ => hk S (own_ne h.seen hb (by decide))), own_keeps h.stays (fun _ => hk T (own_ne h.stays hb (by decide))), h.waits.keeps (grow_ne h.waits hb (by decide)) (fun k hk' _ => hk k hk'), h.outS, h.outT, h.outQ⟩
theorem NoDev.cell {W : World} {b : Nat} {v u : Value} (h : NoDev W v) (hb : ∃ v, Boxed W b 4 v) : NoDev (W.setCell ⟨b, 0, none⟩ u) v := by
  obtain ⟨v', hb⟩ := hb
  rcases h with rfl | ⟨B, rfl, hB⟩
  · exact .inl rfl
  · refine .inr ⟨B, rfl, (Below.heap_setCell _ _ _ B (fun e => ?_)).trans hB⟩
    rw [e] at hB
    have := hb.symm.trans hB
    simp at this

set_option maxRecDepth 100000 in
set_option maxHeartbeats 16000000 in
theorem plays4_main {v : Value} {xs : List Ask} (n : Nat) (h1 : 0 < n) (h12 : n ≤ 12) (w : World) (hen : Ends w) (hl : xs.length ≤ 9223372036854775807) (hx : ∀ y ∈ xs, -9223372036854775808 ≤ y.at_ ∧ y.at_ ≤ 9223372036854775807) (hs : SlA w (fun k => w.heap.size ≤ k) v xs) (hf : fewA xs 40 = true) :
    Calls Tryd.prog 3 #[.int .i64 n, v] w fun e w' => e = .returned (.bool true) ∧ Below w.heap.size w w' := by
  obtain ⟨a, cap, rfl, -⟩ := id hs
  obtain ⟨N, hN⟩ : ∃ N, xs.length = N := ⟨_, rfl⟩
  have HS := Lib.hid hs
  have HMK : Hid (∀ y ∈ xs, y.marks.length ≤ 60) := show ∀ _, _ from fun y hy => few_marks hf hy
  have HX := Lib.hid hx
  have HE := Lib.hid hen
  rw [hN] at hs hl ⊢
  have HAK := Lib.hid (ask_at hN hs)
  have HW4 := Lib.hid (fun W (hb : Below w.heap.size w W) => works4_any W (hen.below hb hen.room))
  have hn1 : ¬ (n : Int) < 1 := by omega
  have hn2 : ¬ 1024 < (n : Int) := by omega
  have hn3 : ¬ 12 < (n : Int) := by omega
  obtain ⟨W0, hW0⟩ : ∃ W0, w.alloc (.cells #[.bool false] 4) = W0 := ⟨_, rfl⟩
  have b0 : Below w.heap.size w W0 := by rw [← hW0]; exact (Below.refl _ _).alloc (Nat.le_refl _) _
  have z0 : W0.heap.size = w.heap.size + 1 := by rw [← hW0]; simp
  have hY : Boxed W0 w.heap.size 4 (.bool false) := by rw [← hW0]; exact Boxed.new w 4 _
  have HNW := Lib.hid (new_any n h1 (by omega) W0 (hen.below b0 hen.room).room)
  have HB0 := Lib.hid b0
  have HY := Lib.hid hY
  have HZ0 := Lib.hid z0
  have HWE := Lib.hid hW0
  have HFW := Lib.hid (fun W (hb : Below w.heap.size w W) => few_any 40 W (by rw [hN]; exact hl) (HS.out.low hb))
  rw [hf, hN] at HFW
  clear hen hx hs hN hf hW0 b0 hY z0
  refine (callsIn_wide (n := 9)).1 ?_
  refine callsIn_of_wp_marks Tryd.func3 rfl trivial ?_ rfl
  simp only [Tryd.ntmps3, List.size_toArray, List.length_cons, List.length_nil, Nat.reduceAdd, Nat.reduceSub, Array.replicate_succ, Array.replicate_zero, List.push_toArray, List.append_toArray, List.nil_append, List.cons_append]
  gi_wp2_with fail
  rw [HWE.out]
  refine ⟨trivial, ?_⟩
  refine (callsIn_wide.2 HNW.out).mono ?_
  rintro e w1 ⟨B, rfl, hb1, S, T, cS, cT, q, hd1⟩
  have HD1 := Lib.hid hd1
  have HB1' := Lib.hid hb1
  have HB1 : Hid (Below w.heap.size w w1) := show Below _ _ _ from HB0.out.trans (hb1.mono HB0.out.size)
  clear hb1 hd1
  gi_wp2_with fail
  refine ⟨trivial, ?_⟩
  refine (callsIn_wide.2 (HFW.out _ HB1.out)).mono ?_
  rintro e w2 ⟨rfl, hw2⟩
  rw [hw2]
  clear hw2 w2
  have HRN := Lib.hid (refNew_any n h1 (by omega) w1 HD1.out.live)
  gi_wp2_with fail
  refine ⟨trivial, ?_⟩
  refine (callsIn_wide.2 HRN.out).mono ?_
  rintro e w2 ⟨hb2, S', T', cS', cT', q', rfl, hv2⟩
  have hb3 : Below w2.heap.size w2 (w2.alloc (.cells (refA S' T' n cS' cT' q') 36)) := (Below.refl _ _).alloc (Nat.le_refl _) _
  have hz0 := HZ0.out
  have hz1 := HB1'.out.size
  have hz2 := hb2.size
  have HI0 : Hid (BothI w n w2.heap.size w.heap.size B (w2.alloc (.cells (refA S' T' n cS' cT' q') 36))) := show BothI _ _ _ _ _ _ from
    ⟨⟨_, S, T, cS, cT, q, S', T', cS', cT', q', _, (HD1.out.below hb2).below hb3, hv2.below hb3, fun k hk => by have := HB0.out.size; omega, fun hk => by omega, fun hk => by omega, Box3.new w2 _ _ _ _⟩, (hb3.block _ (by omega)).trans ((hb2.block _ (by omega)).trans ((HB1'.out.block _ (by omega)).trans HY.out)), (HB1.out.trans (hb2.mono HB1.out.size)).trans (hb3.mono (by omega))⟩
  have hq' : ∃ a c, q' = .slice a (Dv.new n).waits.length c := hv2.waits.slice_n
  obtain ⟨qa, qc, rfl⟩ := hq'
  have HLW : Hid (w.heap.size < w2.heap.size) := show _ < _ by omega
  clear hv2 hb2 hb3
  gi_wp2_with fail
  obtain ⟨b7, hb7⟩ : ∃ b7, w2.heap.size = b7 := ⟨_, rfl⟩
  rw [hb7] at HI0 HLW ⊢
  clear hb7
  gi_loopw [5, 8] (fun dv i wr => ∃ (k B : Nat), k ≤ N ∧ dv = .pointer (some ⟨B, 0, none⟩) ∧ i = .int .i64 (k : Nat) ∧ Hid (BothI w n b7 w.heap.size B wr)) (fun _ i _ => N - (intOf i).toNat)
  case atStart => exact ⟨0, B, by omega, rfl, rfl, HI0⟩
  case round =>
    obtain ⟨k, B1, hk, rfl, rfl, HI⟩ := hrel
    by_cases hlt : k < N
    · obtain ⟨b, off, m, y, hy, rfl, hat⟩ := HAK.out k hlt
      obtain ⟨F, S, T, cS, cT, q, S', T', cS', cT', q', d, hd, hv, hF, hFb, hFr, hbx⟩ := HI.out.ex
      obtain ⟨qa, qc, rfl⟩ := hv.waits.slice_n
      obtain ⟨ql, hql⟩ : ∃ ql, d.waits.length = ql := ⟨_, rfl⟩
      rw [hql] at hv hbx
      have HY := Lib.hid (HX.out y hy)
      have HY6 := Lib.hid (HMK.out y hy)
      have HAT := Lib.hid hat
      have hbl := HI.out.below
      have k2 : (k : Int) < (N : Int) := by omega
      have hdr : Below wr.heap.size wr wr.drew := Below.drew (Below.refl _ _)
      have HB : Hid (Below w.heap.size w wr.drew) := show Below _ _ _ from hbl.trans (hdr.mono hbl.size)
      have HD := Lib.hid (hd.below hdr)
      have HV := Lib.hid (hv.below hdr)
      have HB7 := Lib.hid (hbx.below hdr hbx.lt)
      have HRS : Hid (Boxed wr.drew w.heap.size 4 (.bool false)) := show Boxed _ _ _ _ from (hdr.block _ HI.out.res.lt).trans HI.out.res
      have HF := Lib.hid hF
      have HFb := Lib.hid hFb
      have HFr := Lib.hid hFr
      obtain ⟨c0, c1, c2, -⟩ := HB7.out.cells
      have hR : (fun W : World => W.cell? ⟨b7, 0, none⟩ = some (.slice (some ⟨S', 0, none⟩) n cS') ∧ W.cell? ⟨b7, 1, none⟩ = some (.slice (some ⟨T', 0, none⟩) n cT') ∧ W.cell? ⟨b7, 2, none⟩ = some (.slice qa ql qc) ∧ W.rangeAt b (off + k * 6) (askA y m).toList) wr.drew := ⟨c0, c1, c2, (hat _ HB.out).1⟩
      obtain ⟨X, hX⟩ : ∃ X, Value.agg (askA y m) = X := ⟨_, rfl⟩
      have HLR := Lib.hid (fun (W : World) (h : W.cell? ⟨b7, 0, none⟩ = some (.slice (some ⟨S', 0, none⟩) n cS') ∧ W.cell? ⟨b7, 1, none⟩ = some (.slice (some ⟨T', 0, none⟩) n cT') ∧ W.cell? ⟨b7, 2, none⟩ = some (.slice qa ql qc) ∧ W.rangeAt b (off + k * 6) (askA y m).toList) => (load_ask h.2.2.2).trans (by rw [hX]))
      have HA := Lib.hid (fun W (hb : Below wr.drew.heap.size wr.drew W) => act_any y HY.out.1 HY.out.2 (by have := HY6.out; omega) W (HE.out.below (HB.out.trans (hb.mono HB.out.size)) HE.out.room) (HD.out.below hb) (HV.out.below hb) ((HAT.out W (HB.out.trans (hb.mono HB.out.size))).2.mono HF.out))
      rw [hX] at HA
      have HLB := Lib.hid (show w.heap.size < b7 from HLW.out)
      clear hd hv hF hFb hFr hbx hbl hdr hat hX hy hql c0 c1 c2 HI0
      gi_wp2_with fail
      refine wpIn_normal ?_
      refine wpIn_region_N 14 (fun W : World => W.cell? ⟨b7, 0, none⟩ = some (.slice (some ⟨S', 0, none⟩) n cS') ∧ W.cell? ⟨b7, 1, none⟩ = some (.slice (some ⟨T', 0, none⟩) n cT') ∧ W.cell? ⟨b7, 2, none⟩ = some (.slice qa ql qc) ∧ W.rangeAt b (off + k * 6) (askA y m).toList) (by kernel_rfl) ?_
      (refine wpAnyN_take (i := 0) (v := ?_) (noDefers_of (by kernel_rfl)) rfl (by kernel_rfl) (by kernel_rfl) (fun _ _ _ h => by first | exact h | cases h.1) (fun _ => by first | rfl | simp [Oper.about]) (Or.inl ⟨by rfl, ?_⟩) hR ?_; rotate_left; (focus (intro w hSw; (try dsimp only at hSw); go_simp; (try with_reducible rfl))); (try simp only [put_laws])); (refine wpAnyN_take (i := 1) (v := ?_) (noDefers_of (by kernel_rfl)) rfl (by kernel_rfl) (by kernel_rfl) (fun _ _ _ h => by first | exact h | cases h.1) (fun _ => by first | rfl | simp [Oper.about]) (Or.inl ⟨by rfl, ?_⟩) hR ?_; rotate_left; (focus (intro w hSw; (try dsimp only at hSw); go_simp; (try with_reducible rfl))); (try simp only [put_laws])); (refine wpAnyN_take (i := 2) (v := ?_) (noDefers_of (by kernel_rfl)) rfl (by kernel_rfl) (by kernel_rfl) (fun _ _ _ h => by first | exact h | cases h.1) (fun _ => by first | rfl | simp [Oper.about]) (Or.inl ⟨by rfl, ?_⟩) hR ?_; rotate_left; (focus (intro w hSw; (try dsimp only at hSw); go_simp; (try with_reducible rfl))); (try simp only [put_laws])); (refine wpAnyN_take (i := 3) (v := ?_) (noDefers_of (by kernel_rfl)) rfl (by kernel_rfl) (by kernel_rfl) (fun _ _ _ h => by first | exact h | cases h.1) (fun _ => by first | rfl | simp [Oper.about]) (Or.inl ⟨by rfl, ?_⟩) hR ?_; rotate_left; (focus (intro w hSw; (try dsimp only at hSw); go_simp; (try with_reducible rfl))); (try simp only [put_laws])); (refine wpAnyN_take (i := 4) (v := ?_) (noDefers_of (by kernel_rfl)) rfl (by kernel_rfl) (by kernel_rfl) (fun _ _ _ h => by first | exact h | cases h.1) (fun _ => by first | rfl | simp [Oper.about]) (Or.inl ⟨by rfl, ?_⟩) hR ?_; rotate_left; (focus (intro w hSw; (try dsimp only at hSw); go_simp; (try with_reducible rfl))); (try simp only [put_laws]))
      (refine wpAnyN_take (i := 5) (v := _) (noDefers_of (by kernel_rfl)) rfl (by kernel_rfl) (by kernel_rfl) (fun _ _ _ h => by first | exact h | cases h.1) (fun _ => by first | rfl | simp [Oper.about]) (Or.inl ⟨by rfl, fun w hSw => exec_load_eq rfl rfl (HLR.out w hSw)⟩) hR ?_; (try simp only [put_laws]))
      refine wpAnyN_two (i := 6) (j := 11) rfl rfl (by kernel_rfl) (by rfl) (by rfl) (fun K hK => ?_) (fun K hK => ?_)
      · try simp only [elem_laws]
        go_simp
        refine ⟨trivial, ?_⟩
        refine (callsIn_wide.2 (HA.out _ (Below.refl _ _))).mono ?_
        rintro e w6 ⟨F', B2, S2, T2, cS2, cT2, q2, S3, T3, cS3, cT3, q3, bb, rfl, hg, hd', hv', ht, hF'⟩
        obtain rfl := hg (by first | rfl | trivial)
        obtain ⟨qa3, qc3, rfl⟩ := hv'.waits.slice_n
        obtain ⟨ql3, hql3⟩ : ∃ ql3, (d.step n y).waits.length = ql3 := ⟨_, rfl⟩
        rw [hql3] at hv' ⊢
        clear hql3 hg
        have hsz := HB7.out.lt
        have hsz2 := HRS.out.lt
        have hsz3 := ht.size
        have hlb := HLB.out
        have hdl := HD.out.live
        have HF2 : Hid (∀ k, F' k → w.heap.size ≤ k) := show ∀ k, _ from fun k hk => (hF' k hk).elim (HF.out k) fun h => by have := HB.out.size; omega
        have HFb2 : Hid (¬ F' b7) := show ¬ _ from fun h => (hF' _ h).elim HFb.out fun h => by omega
        have HFr2 : Hid (¬ F' w.heap.size) := show ¬ _ from fun h => (hF' _ h).elim HFr.out fun h => by omega
        have HDE := Lib.hid hd'
        have HVE := Lib.hid hv'
        have HB6 : Hid (Below w.heap.size w w6) := show Below _ _ _ from HB.out.trans (ht.below HF.out HB.out.size)
        have HB76 : Hid (Box3 w6 b7 36 (.slice (some ⟨S', 0, none⟩) n cS') (.slice (some ⟨T', 0, none⟩) n cT') (.slice qa ql qc)) := show Box3 _ _ _ _ _ _ from (ht.block b7 HB7.out.lt HFb.out).trans HB7.out
        have HR6 : Hid (Boxed w6 w.heap.size 4 (.bool false)) := show Boxed _ _ _ _ from (ht.block _ HRS.out.lt HFr.out).trans HRS.out

        obtain ⟨i0, i1, i2, -⟩ := HB76.out.cells
        refine hK _ _ (fun _ => ⟨i0, i1, i2, (HAT.out _ HB6.out).1⟩) ?_
        clear hK K hR hd' hv' hF' hsz hsz2 hlb hdl
        have hR : (fun W : World => W.cell? ⟨b7, 0, none⟩ = some (.slice (some ⟨S', 0, none⟩) n cS') ∧ W.cell? ⟨b7, 1, none⟩ = some (.slice (some ⟨T', 0, none⟩) n cT') ∧ W.cell? ⟨b7, 2, none⟩ = some (.slice qa ql qc) ∧ W.rangeAt b (off + k * 6) (askA y m).toList) w6 := ⟨i0, i1, i2, (HAT.out _ HB6.out).1⟩
        clear i0 i1 i2
        (try simp only [put_laws])
        (refine wpAnyN_take (i := 7) (v := ?_) (noDefers_of (by kernel_rfl)) rfl (by kernel_rfl) (by kernel_rfl) (fun _ _ _ h => by first | exact h | cases h.1) (fun _ => by first | rfl | simp [Oper.about]) (Or.inl ⟨by rfl, ?_⟩) hR ?_; rotate_left; (focus (intro w hSw; (try dsimp only at hSw); go_simp; (try with_reducible rfl))); (try simp only [put_laws])); (refine wpAnyN_take (i := 8) (v := ?_) (noDefers_of (by kernel_rfl)) rfl (by kernel_rfl) (by kernel_rfl) (fun _ _ _ h => by first | exact h | cases h.1) (fun _ => by first | rfl | simp [Oper.about]) (Or.inl ⟨by rfl, ?_⟩) hR ?_; rotate_left; (focus (intro w hSw; (try dsimp only at hSw); go_simp; (try with_reducible rfl))); (try simp only [put_laws])); (refine wpAnyN_take (i := 9) (v := ?_) (noDefers_of (by kernel_rfl)) rfl (by kernel_rfl) (by kernel_rfl) (fun _ _ _ h => by first | exact h | cases h.1) (fun _ => by first | rfl | simp [Oper.about]) (Or.inl ⟨by rfl, ?_⟩) hR ?_; rotate_left; (focus (intro w hSw; (try dsimp only at hSw); go_simp; (try with_reducible rfl))); (try simp only [put_laws])); (refine wpAnyN_take (i := 10) (v := ?_) (noDefers_of (by kernel_rfl)) rfl (by kernel_rfl) (by kernel_rfl) (fun _ _ _ h => by first | exact h | cases h.1) (fun _ => by first | rfl | simp [Oper.about]) (Or.inl ⟨by rfl, ?_⟩) hR ?_; rotate_left; (focus (intro w hSw; (try dsimp only at hSw); go_simp; (try with_reducible rfl))); (try simp only [put_laws]))
        have hal : Below w6.heap.size w6 (w6.alloc (.cells #[.slice none 0 0, .slice none 0 0, .slice none 0 0] 36)) := (Below.refl _ _).alloc (Nat.le_refl _) _
        have HRN : (fun W : World => W.cell? ⟨b7, 0, none⟩ = some (.slice (some ⟨S', 0, none⟩) n cS') ∧ W.cell? ⟨b7, 1, none⟩ = some (.slice (some ⟨T', 0, none⟩) n cT') ∧ W.cell? ⟨b7, 2, none⟩ = some (.slice qa ql qc) ∧ W.rangeAt b (off + k * 6) (askA y m).toList) (w6.alloc (.cells #[.slice none 0 0, .slice none 0 0, .slice none 0 0] 36)) := by
          obtain ⟨i0, i1, i2, -⟩ := (HB76.out.below hal HB76.out.lt).cells
          exact ⟨i0, i1, i2, (HAT.out _ (HB6.out.trans (hal.mono HB6.out.size))).1⟩
        clear hal
        (refine wpAnyN_one (i := 11) rfl (by kernel_rfl) (by rfl) (fun K hK => ?_); (try simp only [elem_laws]))

        go_simp
        refine hK _ _ (fun _ => HRN) ?_
        clear hK K hR
        have hR : (fun W : World => W.cell? ⟨b7, 0, none⟩ = some (.slice (some ⟨S', 0, none⟩) n cS') ∧ W.cell? ⟨b7, 1, none⟩ = some (.slice (some ⟨T', 0, none⟩) n cT') ∧ W.cell? ⟨b7, 2, none⟩ = some (.slice qa ql qc) ∧ W.rangeAt b (off + k * 6) (askA y m).toList) (w6.alloc (.cells #[.slice none 0 0, .slice none 0 0, .slice none 0 0] 36)) := HRN

        clear HRN
        (try simp only [put_laws])
        (refine wpAnyN_take (i := 12) (v := ?_) (noDefers_of (by kernel_rfl)) rfl (by kernel_rfl) (by kernel_rfl) (fun _ _ _ h => by first | exact h | cases h.1) (fun _ => by first | rfl | simp [Oper.about]) (Or.inl ⟨by rfl, ?_⟩) hR ?_; rotate_left; (focus (intro w hSw; (try dsimp only at hSw); go_simp; (try with_reducible rfl))); (try simp only [put_laws]))
        have hal : Below w6.heap.size w6 (w6.alloc (.cells #[.slice (some ⟨S3, 0, none⟩) n cS3, .slice (some ⟨T3, 0, none⟩) n cT3, .slice qa3 ql3 qc3] 36)) := (Below.refl _ _).alloc (Nat.le_refl _) _
        have HB77 := Lib.hid (HB76.out.below hal HB76.out.lt)
        have HBN : Hid (Below w.heap.size w (w6.alloc (.cells #[.slice (some ⟨S3, 0, none⟩) n cS3, .slice (some ⟨T3, 0, none⟩) n cT3, .slice qa3 ql3 qc3] 36))) := show Below _ _ _ from HB6.out.trans (hal.mono HB6.out.size)
        have HRNEW : Hid (Boxed (w6.alloc (.cells #[.slice (some ⟨S3, 0, none⟩) n cS3, .slice (some ⟨T3, 0, none⟩) n cT3, .slice qa3 ql3 qc3] 36)) w.heap.size 4 (.bool false)) := show Boxed _ _ _ _ from (hal.block _ HR6.out.lt).trans HR6.out
        have HDX := Lib.hid (HDE.out.below hal)
        have HVX := Lib.hid (HVE.out.below hal)
        have HBX := Lib.hid (Box3.new w6 36 (.slice (some ⟨S3, 0, none⟩) n cS3) (.slice (some ⟨T3, 0, none⟩) n cT3) (.slice qa3 ql3 qc3))
        have HRN : (fun W : World => W.cell? ⟨b7, 0, none⟩ = some (.slice (some ⟨S', 0, none⟩) n cS') ∧ W.cell? ⟨b7, 1, none⟩ = some (.slice (some ⟨T', 0, none⟩) n cT') ∧ W.cell? ⟨b7, 2, none⟩ = some (.slice qa ql qc) ∧ W.rangeAt b (off + k * 6) (askA y m).toList) (w6.alloc (.cells #[.slice (some ⟨S3, 0, none⟩) n cS3, .slice (some ⟨T3, 0, none⟩) n cT3, .slice qa3 ql3 qc3] 36)) := by
          obtain ⟨i0, i1, i2, -⟩ := HB77.out.cells
          exact ⟨i0, i1, i2, (HAT.out _ HBN.out).1⟩
        clear hal
        (refine wpAnyN_one (i := 13) rfl (by kernel_rfl) (by rfl) (fun K hK => ?_); (try simp only [elem_laws]))
        go_simp
        refine hK _ _ (fun _ => HRN) ?_
        clear hK K hR
        have hR : (fun W : World => W.cell? ⟨b7, 0, none⟩ = some (.slice (some ⟨S', 0, none⟩) n cS') ∧ W.cell? ⟨b7, 1, none⟩ = some (.slice (some ⟨T', 0, none⟩) n cT') ∧ W.cell? ⟨b7, 2, none⟩ = some (.slice qa ql qc) ∧ W.rangeAt b (off + k * 6) (askA y m).toList) (w6.alloc (.cells #[.slice (some ⟨S3, 0, none⟩) n cS3, .slice (some ⟨T3, 0, none⟩) n cT3, .slice qa3 ql3 qc3] 36)) := HRN
        (try simp only [put_laws])
        (refine wpAnyN_last rfl (by kernel_rfl) (by rfl) (fun K hK => ?_); (try simp only [elem_laws]))
        clear hR HRN
        go_simp
        refine hK _ _ ?_
        clear hK K
        have HBH : Hid (Behind w n b7 w.heap.size w6.heap.size B2 (w6.alloc (.cells #[.slice (some ⟨S3, 0, none⟩) n cS3, .slice (some ⟨T3, 0, none⟩) n cT3, .slice qa3 ql3 qc3] 36))) := show Behind _ _ _ _ _ _ _ from
          ⟨⟨F', S2, T2, cS2, cT2, q2, S3, T3, cS3, cT3, _, _, _, _, _, HDX.out, HVX.out, HF2.out, HFb2.out, HFr2.out, HBX.out, HB77.out⟩, HRNEW.out, HBN.out, by have := HLB.out; omega, by have := HLB.out; omega⟩
        have HBY : Hid (∃ y0 y1 y2, Box3 (w6.alloc (.cells #[.slice (some ⟨S3, 0, none⟩) n cS3, .slice (some ⟨T3, 0, none⟩) n cT3, .slice qa3 ql3 qc3] 36)) b7 36 y0 y1 y2) := show ∃ _, _ from ⟨_, _, _, HB77.out⟩
        have HEND := Lib.hid (HBH.out.set HBX.out)
        (try simp only [put_laws])
        refine wpAnyN_done (by kernel_rfl) ?_ _
        refine ⟨rfl, ?_⟩
        obtain ⟨e0, e1, e2, -⟩ := HBX.out.cells
        obtain ⟨yy0, yy1, yy2, hby⟩ := HBY.out
        obtain ⟨d0, d1, d2, f0, f1, f2⟩ := hby.cells
        clear hby
        gi_wp2_with fail
        refine wpIn_normal ?_
        refine wpIn_region_N 3 (fun W : World => W.cell? ⟨w6.heap.size, 0, none⟩ = some (.slice (some ⟨S3, 0, none⟩) n cS3) ∧ W.cell? ⟨w6.heap.size, 1, none⟩ = some (.slice (some ⟨T3, 0, none⟩) n cT3) ∧ W.cell? ⟨w6.heap.size, 2, none⟩ = some (.slice qa3 ql3 qc3)) (by kernel_rfl) ?_
        have hR : (fun W : World => W.cell? ⟨w6.heap.size, 0, none⟩ = some (.slice (some ⟨S3, 0, none⟩) n cS3) ∧ W.cell? ⟨w6.heap.size, 1, none⟩ = some (.slice (some ⟨T3, 0, none⟩) n cT3) ∧ W.cell? ⟨w6.heap.size, 2, none⟩ = some (.slice qa3 ql3 qc3)) (w6.alloc (.cells #[.slice (some ⟨S3, 0, none⟩) n cS3, .slice (some ⟨T3, 0, none⟩) n cT3, .slice qa3 ql3 qc3] 36)).drew := ⟨e0, e1, e2⟩
        (refine wpAnyN_take (i := 0) (v := ?_) (noDefers_of (by kernel_rfl)) rfl (by kernel_rfl) (by kernel_rfl) (fun _ _ _ h => by first | exact h | cases h.1) (fun _ => by first | rfl | simp [Oper.about]) (Or.inl ⟨by rfl, ?_⟩) hR ?_; rotate_left; (focus (intro w hSw; (try dsimp only at hSw); go_simp; (try with_reducible rfl))); (try simp only [put_laws])); (refine wpAnyN_take (i := 1) (v := ?_) (noDefers_of (by kernel_rfl)) rfl (by kernel_rfl) (by kernel_rfl) (fun _ _ _ h => by first | exact h | cases h.1) (fun _ => by first | rfl | simp [Oper.about]) (Or.inl ⟨by rfl, ?_⟩) hR ?_; rotate_left; (focus (intro w hSw; (try dsimp only at hSw); go_simp; (try with_reducible rfl))); (try simp only [put_laws])); (refine wpAnyN_take (i := 2) (v := ?_) (noDefers_of (by kernel_rfl)) rfl (by kernel_rfl) (by kernel_rfl) (fun _ _ _ h => by first | exact h | cases h.1) (fun _ => by first | rfl | simp [Oper.about]) (Or.inl ⟨by rfl, ?_⟩) hR ?_; rotate_left; (focus (intro w hSw; (try dsimp only at hSw); go_simp; (try with_reducible rfl))); (try simp only [put_laws]))
        (refine wpAnyN_last rfl (by kernel_rfl) (by rfl) (fun K hK => ?_); (try simp only [elem_laws]))
        clear hR
        go_simp
        refine hK _ _ ?_
        clear hK K
        (try simp only [put_laws])
        refine wpAnyN_done (by kernel_rfl) ?_ _
        refine ⟨rfl, ?_⟩
        gi_wp2_with fail
        go_roundw
        case rel => exact ⟨k + 1, B2, by omega, rfl, by go_num, Lib.hid HEND.out.drew⟩
        case measure => simp [intOf]; omega
      · try simp only [elem_laws]
        have hdz : wr.drew.heap.size = wr.heap.size := rfl
        have hal : Below wr.drew.heap.size wr.drew (wr.drew.alloc (.cells #[.slice none 0 0, .slice none 0 0, .slice none 0 0] 36)) := (Below.refl _ _).alloc (Nat.le_refl _) _
        have HNEW0 : Hid (Box3 (wr.drew.alloc (.cells #[.slice none 0 0, .slice none 0 0, .slice none 0 0] 36)) wr.heap.size 36 (.slice none 0 0) (.slice none 0 0) (.slice none 0 0)) := show Box3 _ _ _ _ _ _ from Box3.new wr.drew _ _ _ _
        have HB7N := Lib.hid (HB7.out.below hal HB7.out.lt)
        have HBN0 : Hid (Below w.heap.size w (wr.drew.alloc (.cells #[.slice none 0 0, .slice none 0 0, .slice none 0 0] 36))) := show Below _ _ _ from HB.out.trans (hal.mono HB.out.size)
        have HRN0 : Hid (Boxed (wr.drew.alloc (.cells #[.slice none 0 0, .slice none 0 0, .slice none 0 0] 36)) w.heap.size 4 (.bool false)) := show Boxed _ _ _ _ from (hal.block _ HRS.out.lt).trans HRS.out
        have HSZA : Hid ((wr.drew.alloc (.cells #[.slice none 0 0, .slice none 0 0, .slice none 0 0] 36)).heap.size = wr.heap.size + 1) := show _ = _ by simp
        have HRN : (fun W : World => W.cell? ⟨b7, 0, none⟩ = some (.slice (some ⟨S', 0, none⟩) n cS') ∧ W.cell? ⟨b7, 1, none⟩ = some (.slice (some ⟨T', 0, none⟩) n cT') ∧ W.cell? ⟨b7, 2, none⟩ = some (.slice qa ql qc) ∧ W.rangeAt b (off + k * 6) (askA y m).toList) (wr.drew.alloc (.cells #[.slice none 0 0, .slice none 0 0, .slice none 0 0] 36)) := by
          obtain ⟨i0, i1, i2, -⟩ := HB7N.out.cells
          exact ⟨i0, i1, i2, (HAT.out _ HBN0.out).1⟩
        have HAL := Lib.hid hal
        clear hal

        go_simp
        refine hK _ _ (fun _ => HRN) ?_
        clear hK K hR
        have hR : (fun W : World => W.cell? ⟨b7, 0, none⟩ = some (.slice (some ⟨S', 0, none⟩) n cS') ∧ W.cell? ⟨b7, 1, none⟩ = some (.slice (some ⟨T', 0, none⟩) n cT') ∧ W.cell? ⟨b7, 2, none⟩ = some (.slice qa ql qc) ∧ W.rangeAt b (off + k * 6) (askA y m).toList) (wr.drew.alloc (.cells #[.slice none 0 0, .slice none 0 0, .slice none 0 0] 36)) := HRN

        clear HRN
        (try simp only [put_laws])
        (refine wpAnyN_one (i := 6) rfl (by kernel_rfl) (by rfl) (fun K hK => ?_); (try simp only [elem_laws]))

        go_simp
        refine ⟨trivial, ?_⟩
        refine (callsIn_wide.2 (HA.out _ HAL.out)).mono ?_
        rintro e w6 ⟨F', B2, S2, T2, cS2, cT2, q2, S3, T3, cS3, cT3, q3, bb, rfl, hg, hd', hv', ht, hF'⟩
        obtain rfl := hg (by first | rfl | trivial)
        obtain ⟨qa3, qc3, rfl⟩ := hv'.waits.slice_n
        obtain ⟨ql3, hql3⟩ : ∃ ql3, (d.step n y).waits.length = ql3 := ⟨_, rfl⟩
        rw [hql3] at hv' ⊢
        clear hql3 hg
        have hsz := HB7.out.lt
        have hsz2 := HRS.out.lt
        have hsz3 := ht.size
        have hlb := HLB.out
        have hdl := HD.out.live
        have HF2 : Hid (∀ k, F' k → w.heap.size ≤ k) := show ∀ k, _ from fun k hk => (hF' k hk).elim (HF.out k) fun h => by have := HB.out.size; have := HSZA.out; omega
        have HFb2 : Hid (¬ F' b7) := show ¬ _ from fun h => (hF' _ h).elim HFb.out fun h => by have := HSZA.out; omega
        have HFr2 : Hid (¬ F' w.heap.size) := show ¬ _ from fun h => (hF' _ h).elim HFr.out fun h => by have := HSZA.out; omega
        have HDE := Lib.hid hd'
        have HVE := Lib.hid hv'
        have HB6 : Hid (Below w.heap.size w w6) := show Below _ _ _ from HBN0.out.trans (ht.below HF.out HBN0.out.size)
        have HB76 : Hid (Box3 w6 b7 36 (.slice (some ⟨S', 0, none⟩) n cS') (.slice (some ⟨T', 0, none⟩) n cT') (.slice qa ql qc)) := show Box3 _ _ _ _ _ _ from (ht.block b7 HB7N.out.lt HFb.out).trans HB7N.out
        have HR6 : Hid (Boxed w6 w.heap.size 4 (.bool false)) := show Boxed _ _ _ _ from (ht.block _ HRN0.out.lt HFr.out).trans HRN0.out

        have HNEW : Hid (Box3 w6 wr.heap.size 36 (.slice none 0 0) (.slice none 0 0) (.slice none 0 0)) := show Box3 _ _ _ _ _ _ from (ht.block _ HNEW0.out.lt (fun h => by have := HD.out.live _ h; omega)).trans HNEW0.out
        have HNF : Hid (¬ F' wr.heap.size) := show ¬ _ from fun h => (hF' _ h).elim (fun h => by have := HD.out.live _ h; omega) fun h => by have := HSZA.out; omega
        obtain ⟨i0, i1, i2, -⟩ := HB76.out.cells
        refine hK _ _ (fun _ => ⟨i0, i1, i2, (HAT.out _ HB6.out).1⟩) ?_
        clear hK K hR hd' hv' hF' hsz hsz2 hlb hdl
        have hR : (fun W : World => W.cell? ⟨b7, 0, none⟩ = some (.slice (some ⟨S', 0, none⟩) n cS') ∧ W.cell? ⟨b7, 1, none⟩ = some (.slice (some ⟨T', 0, none⟩) n cT') ∧ W.cell? ⟨b7, 2, none⟩ = some (.slice qa ql qc) ∧ W.rangeAt b (off + k * 6) (askA y m).toList) w6 := ⟨i0, i1, i2, (HAT.out _ HB6.out).1⟩
        clear i0 i1 i2
        (try simp only [put_laws])
        (refine wpAnyN_take (i := 7) (v := ?_) (noDefers_of (by kernel_rfl)) rfl (by kernel_rfl) (by kernel_rfl) (fun _ _ _ h => by first | exact h | cases h.1) (fun _ => by first | rfl | simp [Oper.about]) (Or.inl ⟨by rfl, ?_⟩) hR ?_; rotate_left; (focus (intro w hSw; (try dsimp only at hSw); go_simp; (try with_reducible rfl))); (try simp only [put_laws])); (refine wpAnyN_take (i := 8) (v := ?_) (noDefers_of (by kernel_rfl)) rfl (by kernel_rfl) (by kernel_rfl) (fun _ _ _ h => by first | exact h | cases h.1) (fun _ => by first | rfl | simp [Oper.about]) (Or.inl ⟨by rfl, ?_⟩) hR ?_; rotate_left; (focus (intro w hSw; (try dsimp only at hSw); go_simp; (try with_reducible rfl))); (try simp only [put_laws])); (refine wpAnyN_take (i := 9) (v := ?_) (noDefers_of (by kernel_rfl)) rfl (by kernel_rfl) (by kernel_rfl) (fun _ _ _ h => by first | exact h | cases h.1) (fun _ => by first | rfl | simp [Oper.about]) (Or.inl ⟨by rfl, ?_⟩) hR ?_; rotate_left; (focus (intro w hSw; (try dsimp only at hSw); go_simp; (try with_reducible rfl))); (try simp only [put_laws])); (refine wpAnyN_take (i := 10) (v := ?_) (noDefers_of (by kernel_rfl)) rfl (by kernel_rfl) (by kernel_rfl) (fun _ _ _ h => by first | exact h | cases h.1) (fun _ => by first | rfl | simp [Oper.about]) (Or.inl ⟨by rfl, ?_⟩) hR ?_; rotate_left; (focus (intro w hSw; (try dsimp only at hSw); go_simp; (try with_reducible rfl))); (try simp only [put_laws]))
        have HB77 := HB76
        have HBN := HB6
        have HRNEW := HR6.out

        (refine wpAnyN_take (i := 12) (v := ?_) (noDefers_of (by kernel_rfl)) rfl (by kernel_rfl) (by kernel_rfl) (fun _ _ _ h => by first | exact h | cases h.1) (fun _ => by first | rfl | simp [Oper.about]) (Or.inl ⟨by rfl, ?_⟩) hR ?_; rotate_left; (focus (intro w hSw; (try dsimp only at hSw); go_simp; (try with_reducible rfl))); (try simp only [put_laws]))
        obtain ⟨z0, z1, z2, g0, g1, g2⟩ := HNEW.out.cells
        (refine wpAnyN_one (i := 13) rfl (by kernel_rfl) (by rfl) (fun K hK => ?_); (try simp only [elem_laws]))
        go_simp
        have hne7 : b7 ≠ wr.heap.size := by have := HB7.out.lt; omega
        have HRN : (fun W : World => W.cell? ⟨b7, 0, none⟩ = some (.slice (some ⟨S', 0, none⟩) n cS') ∧ W.cell? ⟨b7, 1, none⟩ = some (.slice (some ⟨T', 0, none⟩) n cT') ∧ W.cell? ⟨b7, 2, none⟩ = some (.slice qa ql qc) ∧ W.rangeAt b (off + k * 6) (askA y m).toList) (((w6.setCell ⟨wr.heap.size, 0, none⟩ (.slice (some ⟨S3, 0, none⟩) n cS3)).setCell ⟨wr.heap.size, 1, none⟩ (.slice (some ⟨T3, 0, none⟩) n cT3)).setCell ⟨wr.heap.size, 2, none⟩ (.slice qa3 ql3 qc3)) := by
          have h := (heap_set3 w6 wr.heap.size b7 hne7 (.slice (some ⟨S3, 0, none⟩) n cS3) (.slice (some ⟨T3, 0, none⟩) n cT3) (.slice qa3 ql3 qc3)).trans HB77.out
          obtain ⟨i0, i1, i2, -⟩ := Box3.cells h
          exact ⟨i0, i1, i2, (HAT.out _ (below_set3 HBN.out (by have := HB.out.size; omega) _ _ _)).1⟩
        refine hK _ _ (fun _ => HRN) ?_
        clear hK K hR z0 z1 z2 g0 g1 g2
        have hR : (fun W : World => W.cell? ⟨b7, 0, none⟩ = some (.slice (some ⟨S', 0, none⟩) n cS') ∧ W.cell? ⟨b7, 1, none⟩ = some (.slice (some ⟨T', 0, none⟩) n cT') ∧ W.cell? ⟨b7, 2, none⟩ = some (.slice qa ql qc) ∧ W.rangeAt b (off + k * 6) (askA y m).toList) (((w6.setCell ⟨wr.heap.size, 0, none⟩ (.slice (some ⟨S3, 0, none⟩) n cS3)).setCell ⟨wr.heap.size, 1, none⟩ (.slice (some ⟨T3, 0, none⟩) n cT3)).setCell ⟨wr.heap.size, 2, none⟩ (.slice qa3 ql3 qc3)) := HRN
        (try simp only [put_laws])
        (refine wpAnyN_last rfl (by kernel_rfl) (by rfl) (fun K hK => ?_); (try simp only [elem_laws]))
        clear hR HRN
        go_simp
        refine hK _ _ ?_
        clear hK K
        have HBX := Lib.hid (((HNEW.out.set0 (.slice (some ⟨S3, 0, none⟩) n cS3)).set1 (.slice (some ⟨T3, 0, none⟩) n cT3)).set2 (.slice qa3 ql3 qc3))
        have hb7x : Box3 (((w6.setCell ⟨wr.heap.size, 0, none⟩ (.slice (some ⟨S3, 0, none⟩) n cS3)).setCell ⟨wr.heap.size, 1, none⟩ (.slice (some ⟨T3, 0, none⟩) n cT3)).setCell ⟨wr.heap.size, 2, none⟩ (.slice qa3 ql3 qc3)) b7 36 (.slice (some ⟨S', 0, none⟩) n cS') (.slice (some ⟨T', 0, none⟩) n cT') (.slice qa ql qc) := (heap_set3 w6 wr.heap.size b7 hne7 _ _ _).trans HB77.out
        have HBH : Hid (Behind w n b7 w.heap.size wr.heap.size B2 (((w6.setCell ⟨wr.heap.size, 0, none⟩ (.slice (some ⟨S3, 0, none⟩) n cS3)).setCell ⟨wr.heap.size, 1, none⟩ (.slice (some ⟨T3, 0, none⟩) n cT3)).setCell ⟨wr.heap.size, 2, none⟩ (.slice qa3 ql3 qc3))) := show Behind _ _ _ _ _ _ _ from
          ⟨⟨F', S2, T2, cS2, cT2, q2, S3, T3, cS3, cT3, _, _, _, _, _, HDE.out.keeps (fun k hk _ => heap_set3 _ wr.heap.size k (fun e => HNF.out (by rw [← e]; exact hk)) _ _ _) (by simp [World.setCell]), HVE.out.box HNEW.out (fun k hk => heap_set3 _ wr.heap.size k hk _ _ _), HF2.out, HFb2.out, HFr2.out, HBX.out, hb7x⟩, (heap_set3 _ wr.heap.size w.heap.size (by have := HRS.out.lt; omega) _ _ _).trans HRNEW, below_set3 HBN.out (by have := HB.out.size; omega) _ _ _, by have := HLB.out; omega, by have := HLB.out; omega⟩
        have HBY : Hid (∃ y0 y1 y2, Box3 (((w6.setCell ⟨wr.heap.size, 0, none⟩ (.slice (some ⟨S3, 0, none⟩) n cS3)).setCell ⟨wr.heap.size, 1, none⟩ (.slice (some ⟨T3, 0, none⟩) n cT3)).setCell ⟨wr.heap.size, 2, none⟩ (.slice qa3 ql3 qc3)) b7 36 y0 y1 y2) := show ∃ _, _ from ⟨_, _, _, hb7x⟩
        have HEND := Lib.hid (HBH.out.set HBX.out)
        clear hne7 hb7x
        (try simp only [put_laws])
        refine wpAnyN_done (by kernel_rfl) ?_ _
        refine ⟨rfl, ?_⟩
        obtain ⟨e0, e1, e2, -⟩ := HBX.out.cells
        obtain ⟨yy0, yy1, yy2, hby⟩ := HBY.out
        obtain ⟨d0, d1, d2, f0, f1, f2⟩ := hby.cells
        clear hby
        gi_wp2_with fail
        refine wpIn_normal ?_
        refine wpIn_region_N 3 (fun W : World => W.cell? ⟨wr.heap.size, 0, none⟩ = some (.slice (some ⟨S3, 0, none⟩) n cS3) ∧ W.cell? ⟨wr.heap.size, 1, none⟩ = some (.slice (some ⟨T3, 0, none⟩) n cT3) ∧ W.cell? ⟨wr.heap.size, 2, none⟩ = some (.slice qa3 ql3 qc3)) (by kernel_rfl) ?_
        have hR : (fun W : World => W.cell? ⟨wr.heap.size, 0, none⟩ = some (.slice (some ⟨S3, 0, none⟩) n cS3) ∧ W.cell? ⟨wr.heap.size, 1, none⟩ = some (.slice (some ⟨T3, 0, none⟩) n cT3) ∧ W.cell? ⟨wr.heap.size, 2, none⟩ = some (.slice qa3 ql3 qc3)) (((w6.setCell ⟨wr.heap.size, 0, none⟩ (.slice (some ⟨S3, 0, none⟩) n cS3)).setCell ⟨wr.heap.size, 1, none⟩ (.slice (some ⟨T3, 0, none⟩) n cT3)).setCell ⟨wr.heap.size, 2, none⟩ (.slice qa3 ql3 qc3)).drew := ⟨e0, e1, e2⟩
        (refine wpAnyN_take (i := 0) (v := ?_) (noDefers_of (by kernel_rfl)) rfl (by kernel_rfl) (by kernel_rfl) (fun _ _ _ h => by first | exact h | cases h.1) (fun _ => by first | rfl | simp [Oper.about]) (Or.inl ⟨by rfl, ?_⟩) hR ?_; rotate_left; (focus (intro w hSw; (try dsimp only at hSw); go_simp; (try with_reducible rfl))); (try simp only [put_laws])); (refine wpAnyN_take (i := 1) (v := ?_) (noDefers_of (by kernel_rfl)) rfl (by kernel_rfl) (by kernel_rfl) (fun _ _ _ h => by first | exact h | cases h.1) (fun _ => by first | rfl | simp [Oper.about]) (Or.inl ⟨by rfl, ?_⟩) hR ?_; rotate_left; (focus (intro w hSw; (try dsimp only at hSw); go_simp; (try with_reducible rfl))); (try simp only [put_laws])); (refine wpAnyN_take (i := 2) (v := ?_) (noDefers_of (by kernel_rfl)) rfl (by kernel_rfl) (by kernel_rfl) (fun _ _ _ h => by first | exact h | cases h.1) (fun _ => by first | rfl | simp [Oper.about]) (Or.inl ⟨by rfl, ?_⟩) hR ?_; rotate_left; (focus (intro w hSw; (try dsimp only at hSw); go_simp; (try with_reducible rfl))); (try simp only [put_laws]))
        (refine wpAnyN_last rfl (by kernel_rfl) (by rfl) (fun K hK => ?_); (try simp only [elem_laws]))
        clear hR
        go_simp
        refine hK _ _ ?_
        clear hK K
        (try simp only [put_laws])
        refine wpAnyN_done (by kernel_rfl) ?_ _
        refine ⟨rfl, ?_⟩
        gi_wp2_with fail
        go_roundw
        case rel => exact ⟨k + 1, B2, by omega, rfl, by go_num, Lib.hid HEND.out.drew⟩
        case measure => simp [intOf]; omega
    · have k2 : ¬ (k : Int) < (N : Int) := by omega
      obtain ⟨F, S, T, cS, cT, q, S', T', cS', cT', q', d, hd, hv, hF, hFb, hFr, hbx⟩ := HI.out.ex
      obtain ⟨qa, qc, rfl⟩ := hv.waits.slice_n
      obtain ⟨ql, hql⟩ : ∃ ql, d.waits.length = ql := ⟨_, rfl⟩
      rw [hql] at hv hbx
      have HFr := Lib.hid hFr
      have HD := Lib.hid hd
      have HV := Lib.hid hv
      have HX7 := Lib.hid hbx
      have HRW : Hid (Boxed wr w.heap.size 4 (.bool false)) := show Boxed _ _ _ _ from HI.out.res
      have HBR := Lib.hid HI.out.below
      have HLB : Hid (w.heap.size < b7) := show _ < _ from HLW.out
      have HQN := Lib.hid (show ∀ (P0 : Nat) (W : World), (binOp .eql 56 (.func (.func 43) #[] #[.pointer (some ⟨P0, 0, none⟩)]) .nilFunc).run Tryd.prog W = .ok (.bool false) W from fun _ _ => by kernel_rfl)
      have hq9 : (N : Int).tmod 2 = (N : Int) % 2 := Int.tmod_eq_emod_of_nonneg (by omega)
      have hq2 : IntKind.i64.wrap ((N : Int) % 2) = (N : Int) % 2 := IntWalk.i64_in _ (by omega)
      have hem : ∀ W, (binOp .eql 31 (.agg #[.int .i64 0, .int .i64 0, .int .i64 0]) (.agg #[.int .i64 0, .int .i64 0, .int .i64 0])).run Tryd.prog W = .ok (.bool true) W := fun W => by rw [eql_media]; rfl
      clear hd hv hF hFb hFr hbx hql
      by_cases hpar : N % 2 = 1
      · have hpa : ((N : Int) % 2 == 1) = true := by simp; omega
        have hal : Below wr.heap.size wr (wr.alloc (.cells #[.slice none 0 0, .slice none 0 0, .slice none 0 0] 50)) := (Below.refl _ _).alloc (Nat.le_refl _) _
        have HDN := Lib.hid (HD.out.below hal)
        have HVN := Lib.hid (HV.out.below hal)
        have HXN := Lib.hid (HX7.out.below hal HX7.out.lt)
        have HRN : Hid (Boxed (wr.alloc (.cells #[.slice none 0 0, .slice none 0 0, .slice none 0 0] 50)) w.heap.size 4 (.bool false)) := show Boxed _ _ _ _ from (hal.block _ HRW.out.lt).trans HRW.out
        have HBWN : Hid (Below w.heap.size w (wr.alloc (.cells #[.slice none 0 0, .slice none 0 0, .slice none 0 0] 50))) := show Below _ _ _ from HBR.out.trans (hal.mono HBR.out.size)
        clear hal
        have HND : Hid (NoDev (wr.alloc (.cells #[.slice none 0 0, .slice none 0 0, .slice none 0 0] 50)) (.pointer (some ⟨wr.heap.size, 0, none⟩))) := show NoDev _ _ from .inr ⟨_, rfl, World.alloc_heap_new _ _⟩
        have HTA : Hid (Below (wr.alloc (.cells #[.slice none 0 0, .slice none 0 0, .slice none 0 0] 50)).heap.size (wr.alloc (.cells #[.slice none 0 0, .slice none 0 0, .slice none 0 0] 50)) (wr.alloc (.cells #[.slice none 0 0, .slice none 0 0, .slice none 0 0] 50))) := show Below _ _ _ from Below.refl _ _
        gi_wp2_with fail
        refine ⟨trivial, ?_⟩
        refine (callsIn_wide.2 (load_no 0 _ (HND.out.below HTA.out))).mono ?_
        rintro e vB ⟨rfl, hb⟩
        have HTB : Hid (Below (wr.alloc (.cells #[.slice none 0 0, .slice none 0 0, .slice none 0 0] 50)).heap.size (wr.alloc (.cells #[.slice none 0 0, .slice none 0 0, .slice none 0 0] 50)) vB) := show Below _ _ _ from HTA.out.trans (hb.mono HTA.out.size)
        clear hb
        gi_wp2_with fail
        refine ⟨trivial, ?_⟩
        refine (callsIn_wide.2 (swap_no 0 0 0 _ (HND.out.below HTB.out))).mono ?_
        rintro e vC ⟨rfl, hb⟩
        have HTC : Hid (Below (wr.alloc (.cells #[.slice none 0 0, .slice none 0 0, .slice none 0 0] 50)).heap.size (wr.alloc (.cells #[.slice none 0 0, .slice none 0 0, .slice none 0 0] 50)) vC) := show Below _ _ _ from HTB.out.trans (hb.mono HTB.out.size)
        clear hb
        gi_wp2_with fail
        refine ⟨trivial, ?_⟩
        refine (callsIn_wide.2 (stays_no 0 _ (HND.out.below HTC.out))).mono ?_
        rintro e vD ⟨rfl, hb⟩
        have HTD : Hid (Below (wr.alloc (.cells #[.slice none 0 0, .slice none 0 0, .slice none 0 0] 50)).heap.size (wr.alloc (.cells #[.slice none 0 0, .slice none 0 0, .slice none 0 0] 50)) vD) := show Below _ _ _ from HTC.out.trans (hb.mono HTC.out.size)
        clear hb
        gi_wp2_with fail
        refine ⟨trivial, ?_⟩
        refine (callsIn_wide.2 (waits_none _ (HND.out.below HTD.out))).mono ?_
        rintro e vE ⟨P1, u1, rfl, -, -, -, hb⟩
        have HTE : Hid (Below (wr.alloc (.cells #[.slice none 0 0, .slice none 0 0, .slice none 0 0] 50)).heap.size (wr.alloc (.cells #[.slice none 0 0, .slice none 0 0, .slice none 0 0] 50)) vE) := show Below _ _ _ from HTD.out.trans (hb.mono HTD.out.size)
        have hqn1 := HQN.out P1
        clear hb
        gi_wp2_with fail
        refine ⟨trivial, ?_⟩
        refine (callsIn_wide.2 (waits_none _ (HND.out.below HTE.out))).mono ?_
        rintro e vF ⟨P2, u2, rfl, hP2, hB2, hQ2, hb⟩
        have HTF : Hid (Below (wr.alloc (.cells #[.slice none 0 0, .slice none 0 0, .slice none 0 0] 50)).heap.size (wr.alloc (.cells #[.slice none 0 0, .slice none 0 0, .slice none 0 0] 50)) vF) := show Below _ _ _ from HTE.out.trans (hb.mono HTE.out.size)
        obtain ⟨ua, uc, rfl⟩ := own_slice (show QueAt vF vE.heap.size u2 ([] : List Nat) from hQ2)
        clear hqn1
        gi_wp2_with fail
        obtain ⟨g, hgl, hgA, hga⟩ := que_block (ls := []) hB2.lt hQ2
        have hsq := waits_seq 8 (by decide) P2 g uc _ ua [] (by simp) vF hga hB2 hgl
        have HSQ := Lib.hid hsq
        have HG8 : Hid (∀ k, k = g → k < vF.heap.size) := show ∀ _, _ from fun k hk => by rw [hk]; exact hgl
        have HI0 : Hid (BelowF (wr.alloc (.cells #[.slice none 0 0, .slice none 0 0, .slice none 0 0] 50)).heap.size (wr.alloc (.cells #[.slice none 0 0, .slice none 0 0, .slice none 0 0] 50)) (fun _ => False) vF) := show BelowF _ _ _ _ from ⟨HTF.out, HTF.out.size, fun _ h => h.elim⟩
        clear hsq hgl hgA hga hQ2 hB2 hP2 hb
        generalize hA : ({ tmps := _, defers := _ } : Act) = A0
        refine wpIn_range_F (n := 9) (by decide) (gf := 43) (lb := #[.pointer (some ⟨P2, 0, none⟩)]) (by rw [← hA]; rfl) (enters_of Tryd.func43 (by kernel_rfl) rfl) HSQ.out HG8.out (Below.refl _ _) (fun _ => rfl)
          (fun _ q W => BelowF (wr.alloc (.cells #[.slice none 0 0, .slice none 0 0, .slice none 0 0] 50)).heap.size (wr.alloc (.cells #[.slice none 0 0, .slice none 0 0, .slice none 0 0] 50)) q W) (fun _ _ _ _ => False) (Abides.below _ _) (fun _ _ _ _ _ _ h _ _ => h) HI0.out
          (fun _ _ _ => True) (fun _ _ _ _ _ => trivial) ?assign ?body ?done ?stop
        case assign =>
          rintro l2 x W2 K hsz hK
          subst hA
          unfold encI
          dsimp only
          gi_wp2_with fail
          all_goals exact hK _ _ trivial (Below.refl _ _)
        case body =>
          rintro l2 pre x a' q2 W2 - - - hsp -
          have := hsp.length_le
          simp at this
        case stop =>
          rintro D cd pre W2 hD hpre h hK'
          exact h.elim
        case done =>
          rintro D ys W2 hD rfl ⟨hT2, hs2, -⟩ hK'
          subst hA
          have hr2 : Boxed W2 w.heap.size 4 (.bool false) := (hT2.block _ HRN.out.lt).trans HRN.out
          have HBW2 : Hid (Below w.heap.size w W2) := show Below _ _ _ from HBWN.out.trans (hT2.mono HBWN.out.size)
          have hDr : D ≠ w.heap.size := fun h => by
            rw [h] at hK'
            have := hr2.symm.trans hK'
            cases this
          have cr := Boxed.cell hr2
          have fr := Boxed.frozen hr2
          have lr := Boxed.lt hr2
          have HD3 : Hid (DevB W2 F B1 S T n cS cT q d) := show DevB _ _ _ _ _ _ _ _ _ _ from HDN.out.below hT2
          have HV3 : Hid (RefV W2 F S' T' n cS' cT' (.slice qa ql qc) d) := show RefV _ _ _ _ _ _ _ _ _ from HVN.out.below hT2
          have HN3 : Hid (NoDev W2 (.pointer (some ⟨wr.heap.size, 0, none⟩))) := show NoDev _ _ from HND.out.below hT2
          have HX3 : Hid (Box3 W2 b7 36 (.slice (some ⟨S', 0, none⟩) n cS') (.slice (some ⟨T', 0, none⟩) n cT') (.slice qa ql qc)) := show Box3 _ _ _ _ _ _ from (hT2.block _ HXN.out.lt).trans HXN.out
          have HR3 : Hid (Boxed W2 w.heap.size 4 (.bool false)) := show Boxed _ _ _ _ from hr2
          have HB3 : Hid (Below w.heap.size w W2) := show Below _ _ _ from HBW2.out
          have HK3 : Hid (W2.heap[D]? = some (.deferred (some []))) := show _ = _ from hK'
          have HDr := Lib.hid hDr
          have HDD : Hid (w.heap.size ≤ D) := show _ ≤ _ from Nat.le_trans HBWN.out.size (Nat.le_trans HTF.out.size hD)
          clear hT2 hs2 hr2 hK' hD hDr
          obtain ⟨x0, x1, x2, -⟩ := HX3.out.cells
          have HP0 : Hid (Below W2.heap.size W2 W2) := show Below _ _ _ from Below.refl _ _
          have HNUM := Lib.hid num4_any
          gi_wp2_with fail
          clear x0 x1 x2 cr fr lr
          refine ⟨trivial, ?_⟩
          refine (callsIn_wide.2 (is_any _ (HE.out.below (HB3.out.trans (HP0.out.mono HB3.out.size)) HE.out.room) (HD3.out.below HP0.out) (HV3.out.below HP0.out))).mono ?_
          rintro e vP1 ⟨rfl, hb⟩
          have HP1 : Hid (Below W2.heap.size W2 vP1) := show Below _ _ _ from HP0.out.trans (hb.mono HP0.out.size)
          clear hb
          gi_wp2_with fail
          refine ⟨trivial, ?_⟩
          refine (callsIn_wide.2 (HNUM.out 0 _)).mono ?_
          rintro e vP2 ⟨rfl, hv⟩
          rw [hv]
          clear hv vP2
          gi_wp2_with fail
          refine ⟨trivial, ?_⟩
          refine (callsIn_wide.2 (HNUM.out 1 _)).mono ?_
          rintro e vP3 ⟨rfl, hv⟩
          rw [hv]
          clear hv vP3
          gi_wp2_with fail
          refine ⟨trivial, ?_⟩
          refine (callsIn_wide.2 (store_no 0 1 _ (HN3.out.below HP1.out))).mono ?_
          rintro e vP4 ⟨rfl, hb⟩
          have HP4 : Hid (Below W2.heap.size W2 vP4) := show Below _ _ _ from HP1.out.trans (hb.mono HP1.out.size)
          clear hb
          gi_wp2_with fail
          refine ⟨trivial, ?_⟩
          refine (callsIn_wide.2 (HNUM.out 1 _)).mono ?_
          rintro e vP5 ⟨rfl, hv⟩
          rw [hv]
          clear hv vP5
          gi_wp2_with fail
          refine ⟨trivial, ?_⟩
          refine (callsIn_wide.2 (HNUM.out 1 _)).mono ?_
          rintro e vP6 ⟨rfl, hv⟩
          rw [hv]
          clear hv vP6
          gi_wp2_with fail
          refine ⟨trivial, ?_⟩
          refine (callsIn_wide.2 (flush_no 0 _ (HN3.out.below HP4.out))).mono ?_
          rintro e vP7 ⟨rfl, hb⟩
          have HP7 : Hid (Below W2.heap.size W2 vP7) := show Below _ _ _ from HP4.out.trans (hb.mono HP4.out.size)
          clear hb
          gi_wp2_with fail
          refine ⟨trivial, ?_⟩
          refine (callsIn_wide.2 (HNUM.out 1 _)).mono ?_
          rintro e vP8 ⟨rfl, hv⟩
          rw [hv]
          clear hv vP8
          gi_wp2_with fail
          refine ⟨trivial, ?_⟩
          refine (callsIn_wide.2 (fence_no _ (HN3.out.below HP7.out))).mono ?_
          rintro e vP9 ⟨rfl, hb⟩
          have HP9 : Hid (Below W2.heap.size W2 vP9) := show Below _ _ _ from HP7.out.trans (hb.mono HP7.out.size)
          clear hb
          gi_wp2_with fail
          refine ⟨trivial, ?_⟩
          refine (callsIn_wide.2 (HNUM.out 1 _)).mono ?_
          rintro e vP10 ⟨rfl, hv⟩
          rw [hv]
          clear hv vP10
          gi_wp2_with fail
          refine ⟨trivial, ?_⟩
          refine (callsIn_wide.2 (evict_no 0 _ (HN3.out.below HP9.out))).mono ?_
          rintro e vP11 ⟨rfl, hb⟩
          have HP11 : Hid (Below W2.heap.size W2 vP11) := show Below _ _ _ from HP9.out.trans (hb.mono HP9.out.size)
          clear hb
          gi_wp2_with fail
          refine ⟨trivial, ?_⟩
          refine (callsIn_wide.2 (HNUM.out 1 _)).mono ?_
          rintro e vP12 ⟨rfl, hv⟩
          rw [hv]
          clear hv vP12
          gi_wp2_with fail
          refine ⟨trivial, ?_⟩
          refine (callsIn_wide.2 (crash_no none 0 0 _ (HN3.out.below HP11.out))).mono ?_
          rintro e vP13 ⟨rfl, hb⟩
          have HP13 : Hid (Below W2.heap.size W2 vP13) := show Below _ _ _ from HP11.out.trans (hb.mono HP11.out.size)
          clear hb
          gi_wp2_with fail
          refine ⟨trivial, ?_⟩
          refine (callsIn_wide.2 (HNUM.out 1 _)).mono ?_
          rintro e vP14 ⟨rfl, hv⟩
          rw [hv]
          clear hv vP14
          gi_wp2_with fail
          refine ⟨trivial, ?_⟩
          refine (callsIn_wide.2 (HNUM.out 1 _)).mono ?_
          rintro e vP15 ⟨rfl, hv⟩
          rw [hv]
          clear hv vP15
          gi_wp2_with fail
          refine ⟨trivial, ?_⟩
          refine (callsIn_wide.2 (state_no _ (HN3.out.below HP13.out))).mono ?_
          rintro e vP16 ⟨rfl, hb⟩
          have HP16 : Hid (Below W2.heap.size W2 vP16) := show Below _ _ _ from HP13.out.trans (hb.mono HP13.out.size)
          clear hb
          gi_wp2_with fail
          refine ⟨trivial, ?_⟩
          refine (callsIn_wide.2 (copy_no _ (HN3.out.below HP16.out))).mono ?_
          rintro e vP17 ⟨rfl, hb⟩
          have HP17 : Hid (Below W2.heap.size W2 vP17) := show Below _ _ _ from HP16.out.trans (hb.mono HP16.out.size)
          clear hb
          gi_wp2_with fail
          refine ⟨trivial, ?_⟩
          refine (callsIn_wide.2 (same_none_nil _ (HN3.out.below HP17.out))).mono ?_
          rintro e vP18 ⟨rfl, hv⟩
          rw [hv]
          clear hv vP18
          gi_wp2_with fail
          refine ⟨trivial, ?_⟩
          refine (callsIn_wide.2 (same_left _ (HD3.out.below HP17.out) (HN3.out.below HP17.out))).mono ?_
          rintro e vP19 ⟨rfl, hv⟩
          rw [hv]
          clear hv vP19
          gi_wp2_with fail
          refine ⟨trivial, ?_⟩
          refine (callsIn_wide.2 (same_right _ (HD3.out.below HP17.out) (HN3.out.below HP17.out))).mono ?_
          rintro e vP20 ⟨rfl, hv⟩
          rw [hv]
          clear hv vP20
          gi_wp2_with fail
          refine ⟨trivial, ?_⟩
          refine (callsIn_wide.2 (HW4.out _ (HB3.out.trans (HP17.out.mono HB3.out.size)))).mono ?_
          rintro e vZ ⟨rfl, hb⟩
          have HPZ : Hid (Below W2.heap.size W2 vZ) := show Below _ _ _ from HP17.out.trans (hb.mono HP17.out.size)
          have hrZ : Boxed vZ w.heap.size 4 (.bool false) := (HPZ.out.block _ HR3.out.lt).trans HR3.out
          have cr := Boxed.cell hrZ
          have fr := Boxed.frozen hrZ
          have lr := Boxed.lt hrZ
          have HRZ := Lib.hid hrZ
          clear hb hrZ
          gi_wp2_with fail
          refine leaves_one (D := D) ((Below.heap_setCell _ _ _ D HDr.out).trans ((HPZ.out.block D (Array.getElem?_eq_some_iff.1 HK3.out).1).trans HK3.out)) fun W' ht hc => ⟨.bool true, ?_, rfl, ?_⟩
          · have hc4 : Boxed W' w.heap.size 4 (.bool true) := (ht.block w.heap.size (by simp [World.setCell]; exact lr) (fun h => HDr.out h.symm)).trans (HRZ.out.set (.bool true))
            simp [results, Tryd.results3, go_sem, hc4.cell]
          · exact ((HB3.out.trans (HPZ.out.mono HB3.out.size)).setCell (p := ⟨w.heap.size, 0, none⟩) (Nat.le_refl _) _).trans (ht.below (B := w.heap.size) (fun k h => by rw [h]; exact HDD.out) (by simp [World.setCell]; exact Nat.le_of_lt lr))

      · have hpa : ((N : Int) % 2 == 1) = false := by
          have : ¬ (N : Int) % 2 = 1 := by omega
          simp [this]
        have HDN := HD
        have HVN := HV
        have HXN := HX7
        have HRN := HRW
        have HBWN := HBR
        have HND : Hid (NoDev wr (.pointer none)) := show NoDev _ _ from .inl rfl
        have HTA : Hid (Below wr.heap.size wr wr) := show Below _ _ _ from Below.refl _ _
        gi_wp2_with fail
        refine ⟨trivial, ?_⟩
        refine (callsIn_wide.2 (load_no 0 _ (HND.out.below HTA.out))).mono ?_
        rintro e vB ⟨rfl, hb⟩
        have HTB : Hid (Below wr.heap.size wr vB) := show Below _ _ _ from HTA.out.trans (hb.mono HTA.out.size)
        clear hb
        gi_wp2_with fail
        refine ⟨trivial, ?_⟩
        refine (callsIn_wide.2 (swap_no 0 0 0 _ (HND.out.below HTB.out))).mono ?_
        rintro e vC ⟨rfl, hb⟩
        have HTC : Hid (Below wr.heap.size wr vC) := show Below _ _ _ from HTB.out.trans (hb.mono HTB.out.size)
        clear hb
        gi_wp2_with fail
        refine ⟨trivial, ?_⟩
        refine (callsIn_wide.2 (stays_no 0 _ (HND.out.below HTC.out))).mono ?_
        rintro e vD ⟨rfl, hb⟩
        have HTD : Hid (Below wr.heap.size wr vD) := show Below _ _ _ from HTC.out.trans (hb.mono HTC.out.size)
        clear hb
        gi_wp2_with fail
        refine ⟨trivial, ?_⟩
        refine (callsIn_wide.2 (waits_none _ (HND.out.below HTD.out))).mono ?_
        rintro e vE ⟨P1, u1, rfl, -, -, -, hb⟩
        have HTE : Hid (Below wr.heap.size wr vE) := show Below _ _ _ from HTD.out.trans (hb.mono HTD.out.size)
        have hqn1 := HQN.out P1
        clear hb
        gi_wp2_with fail
        refine ⟨trivial, ?_⟩
        refine (callsIn_wide.2 (waits_none _ (HND.out.below HTE.out))).mono ?_
        rintro e vF ⟨P2, u2, rfl, hP2, hB2, hQ2, hb⟩
        have HTF : Hid (Below wr.heap.size wr vF) := show Below _ _ _ from HTE.out.trans (hb.mono HTE.out.size)
        obtain ⟨ua, uc, rfl⟩ := own_slice (show QueAt vF vE.heap.size u2 ([] : List Nat) from hQ2)
        clear hqn1
        gi_wp2_with fail
        obtain ⟨g, hgl, hgA, hga⟩ := que_block (ls := []) hB2.lt hQ2
        have hsq := waits_seq 8 (by decide) P2 g uc _ ua [] (by simp) vF hga hB2 hgl
        have HSQ := Lib.hid hsq
        have HG8 : Hid (∀ k, k = g → k < vF.heap.size) := show ∀ _, _ from fun k hk => by rw [hk]; exact hgl
        have HI0 : Hid (BelowF wr.heap.size wr (fun _ => False) vF) := show BelowF _ _ _ _ from ⟨HTF.out, HTF.out.size, fun _ h => h.elim⟩
        clear hsq hgl hgA hga hQ2 hB2 hP2 hb
        generalize hA : ({ tmps := _, defers := _ } : Act) = A0
        refine wpIn_range_F (n := 9) (by decide) (gf := 43) (lb := #[.pointer (some ⟨P2, 0, none⟩)]) (by rw [← hA]; rfl) (enters_of Tryd.func43 (by kernel_rfl) rfl) HSQ.out HG8.out (Below.refl _ _) (fun _ => rfl)
          (fun _ q W => BelowF wr.heap.size wr q W) (fun _ _ _ _ => False) (Abides.below _ _) (fun _ _ _ _ _ _ h _ _ => h) HI0.out
          (fun _ _ _ => True) (fun _ _ _ _ _ => trivial) ?assign ?body ?done ?stop
        case assign =>
          rintro l2 x W2 K hsz hK
          subst hA
          unfold encI
          dsimp only
          gi_wp2_with fail
          all_goals exact hK _ _ trivial (Below.refl _ _)
        case body =>
          rintro l2 pre x a' q2 W2 - - - hsp -
          have := hsp.length_le
          simp at this
        case stop =>
          rintro D cd pre W2 hD hpre h hK'
          exact h.elim
        case done =>
          rintro D ys W2 hD rfl ⟨hT2, hs2, -⟩ hK'
          subst hA
          have hr2 : Boxed W2 w.heap.size 4 (.bool false) := (hT2.block _ HRN.out.lt).trans HRN.out
          have HBW2 : Hid (Below w.heap.size w W2) := show Below _ _ _ from HBWN.out.trans (hT2.mono HBWN.out.size)
          have hDr : D ≠ w.heap.size := fun h => by
            rw [h] at hK'
            have := hr2.symm.trans hK'
            cases this
          have cr := Boxed.cell hr2
          have fr := Boxed.frozen hr2
          have lr := Boxed.lt hr2
          have HD3 : Hid (DevB W2 F B1 S T n cS cT q d) := show DevB _ _ _ _ _ _ _ _ _ _ from HDN.out.below hT2
          have HV3 : Hid (RefV W2 F S' T' n cS' cT' (.slice qa ql qc) d) := show RefV _ _ _ _ _ _ _ _ _ from HVN.out.below hT2
          have HN3 : Hid (NoDev W2 (.pointer none)) := show NoDev _ _ from HND.out.below hT2
          have HX3 : Hid (Box3 W2 b7 36 (.slice (some ⟨S', 0, none⟩) n cS') (.slice (some ⟨T', 0, none⟩) n cT') (.slice qa ql qc)) := show Box3 _ _ _ _ _ _ from (hT2.block _ HXN.out.lt).trans HXN.out
          have HR3 : Hid (Boxed W2 w.heap.size 4 (.bool false)) := show Boxed _ _ _ _ from hr2
          have HB3 : Hid (Below w.heap.size w W2) := show Below _ _ _ from HBW2.out
          have HK3 : Hid (W2.heap[D]? = some (.deferred (some []))) := show _ = _ from hK'
          have HDr := Lib.hid hDr
          have HDD : Hid (w.heap.size ≤ D) := show _ ≤ _ from Nat.le_trans HBWN.out.size (Nat.le_trans HTF.out.size hD)
          clear hT2 hs2 hr2 hK' hD hDr
          obtain ⟨x0, x1, x2, -⟩ := HX3.out.cells
          have HP0 : Hid (Below W2.heap.size W2 W2) := show Below _ _ _ from Below.refl _ _
          have HNUM := Lib.hid num4_any
          gi_wp2_with fail
          clear x0 x1 x2 cr fr lr
          refine ⟨trivial, ?_⟩
          refine (callsIn_wide.2 (is_any _ (HE.out.below (HB3.out.trans (HP0.out.mono HB3.out.size)) HE.out.room) (HD3.out.below HP0.out) (HV3.out.below HP0.out))).mono ?_
          rintro e vP1 ⟨rfl, hb⟩
          have HP1 : Hid (Below W2.heap.size W2 vP1) := show Below _ _ _ from HP0.out.trans (hb.mono HP0.out.size)
          clear hb
          gi_wp2_with fail
          refine ⟨trivial, ?_⟩
          refine (callsIn_wide.2 (HNUM.out 0 _)).mono ?_
          rintro e vP2 ⟨rfl, hv⟩
          rw [hv]
          clear hv vP2
          gi_wp2_with fail
          refine ⟨trivial, ?_⟩
          refine (callsIn_wide.2 (HNUM.out 1 _)).mono ?_
          rintro e vP3 ⟨rfl, hv⟩
          rw [hv]
          clear hv vP3
          gi_wp2_with fail
          refine ⟨trivial, ?_⟩
          refine (callsIn_wide.2 (store_no 0 1 _ (HN3.out.below HP1.out))).mono ?_
          rintro e vP4 ⟨rfl, hb⟩
          have HP4 : Hid (Below W2.heap.size W2 vP4) := show Below _ _ _ from HP1.out.trans (hb.mono HP1.out.size)
          clear hb
          gi_wp2_with fail
          refine ⟨trivial, ?_⟩
          refine (callsIn_wide.2 (HNUM.out 1 _)).mono ?_
          rintro e vP5 ⟨rfl, hv⟩
          rw [hv]
          clear hv vP5
          gi_wp2_with fail
          refine ⟨trivial, ?_⟩
          refine (callsIn_wide.2 (HNUM.out 1 _)).mono ?_
          rintro e vP6 ⟨rfl, hv⟩
          rw [hv]
          clear hv vP6
          gi_wp2_with fail
          refine ⟨trivial, ?_⟩
          refine (callsIn_wide.2 (flush_no 0 _ (HN3.out.below HP4.out))).mono ?_
          rintro e vP7 ⟨rfl, hb⟩
          have HP7 : Hid (Below W2.heap.size W2 vP7) := show Below _ _ _ from HP4.out.trans (hb.mono HP4.out.size)
          clear hb
          gi_wp2_with fail
          refine ⟨trivial, ?_⟩
          refine (callsIn_wide.2 (HNUM.out 1 _)).mono ?_
          rintro e vP8 ⟨rfl, hv⟩
          rw [hv]
          clear hv vP8
          gi_wp2_with fail
          refine ⟨trivial, ?_⟩
          refine (callsIn_wide.2 (fence_no _ (HN3.out.below HP7.out))).mono ?_
          rintro e vP9 ⟨rfl, hb⟩
          have HP9 : Hid (Below W2.heap.size W2 vP9) := show Below _ _ _ from HP7.out.trans (hb.mono HP7.out.size)
          clear hb
          gi_wp2_with fail
          refine ⟨trivial, ?_⟩
          refine (callsIn_wide.2 (HNUM.out 1 _)).mono ?_
          rintro e vP10 ⟨rfl, hv⟩
          rw [hv]
          clear hv vP10
          gi_wp2_with fail
          refine ⟨trivial, ?_⟩
          refine (callsIn_wide.2 (evict_no 0 _ (HN3.out.below HP9.out))).mono ?_
          rintro e vP11 ⟨rfl, hb⟩
          have HP11 : Hid (Below W2.heap.size W2 vP11) := show Below _ _ _ from HP9.out.trans (hb.mono HP9.out.size)
          clear hb
          gi_wp2_with fail
          refine ⟨trivial, ?_⟩
          refine (callsIn_wide.2 (HNUM.out 1 _)).mono ?_
          rintro e vP12 ⟨rfl, hv⟩
          rw [hv]
          clear hv vP12
          gi_wp2_with fail
          refine ⟨trivial, ?_⟩
          refine (callsIn_wide.2 (crash_no none 0 0 _ (HN3.out.below HP11.out))).mono ?_
          rintro e vP13 ⟨rfl, hb⟩
          have HP13 : Hid (Below W2.heap.size W2 vP13) := show Below _ _ _ from HP11.out.trans (hb.mono HP11.out.size)
          clear hb
          gi_wp2_with fail
          refine ⟨trivial, ?_⟩
          refine (callsIn_wide.2 (HNUM.out 1 _)).mono ?_
          rintro e vP14 ⟨rfl, hv⟩
          rw [hv]
          clear hv vP14
          gi_wp2_with fail
          refine ⟨trivial, ?_⟩
          refine (callsIn_wide.2 (HNUM.out 1 _)).mono ?_
          rintro e vP15 ⟨rfl, hv⟩
          rw [hv]
          clear hv vP15
          gi_wp2_with fail
          refine ⟨trivial, ?_⟩
          refine (callsIn_wide.2 (state_no _ (HN3.out.below HP13.out))).mono ?_
          rintro e vP16 ⟨rfl, hb⟩
          have HP16 : Hid (Below W2.heap.size W2 vP16) := show Below _ _ _ from HP13.out.trans (hb.mono HP13.out.size)
          clear hb
          gi_wp2_with fail
          refine ⟨trivial, ?_⟩
          refine (callsIn_wide.2 (copy_no _ (HN3.out.below HP16.out))).mono ?_
          rintro e vP17 ⟨rfl, hb⟩
          have HP17 : Hid (Below W2.heap.size W2 vP17) := show Below _ _ _ from HP16.out.trans (hb.mono HP16.out.size)
          clear hb
          gi_wp2_with fail
          refine ⟨trivial, ?_⟩
          refine (callsIn_wide.2 (same_none_nil _ (HN3.out.below HP17.out))).mono ?_
          rintro e vP18 ⟨rfl, hv⟩
          rw [hv]
          clear hv vP18
          gi_wp2_with fail
          refine ⟨trivial, ?_⟩
          refine (callsIn_wide.2 (same_left _ (HD3.out.below HP17.out) (HN3.out.below HP17.out))).mono ?_
          rintro e vP19 ⟨rfl, hv⟩
          rw [hv]
          clear hv vP19
          gi_wp2_with fail
          refine ⟨trivial, ?_⟩
          refine (callsIn_wide.2 (same_right _ (HD3.out.below HP17.out) (HN3.out.below HP17.out))).mono ?_
          rintro e vP20 ⟨rfl, hv⟩
          rw [hv]
          clear hv vP20
          gi_wp2_with fail
          refine ⟨trivial, ?_⟩
          refine (callsIn_wide.2 (HW4.out _ (HB3.out.trans (HP17.out.mono HB3.out.size)))).mono ?_
          rintro e vZ ⟨rfl, hb⟩
          have HPZ : Hid (Below W2.heap.size W2 vZ) := show Below _ _ _ from HP17.out.trans (hb.mono HP17.out.size)
          have hrZ : Boxed vZ w.heap.size 4 (.bool false) := (HPZ.out.block _ HR3.out.lt).trans HR3.out
          have cr := Boxed.cell hrZ
          have fr := Boxed.frozen hrZ
          have lr := Boxed.lt hrZ
          have HRZ := Lib.hid hrZ
          clear hb hrZ
          gi_wp2_with fail
          refine leaves_one (D := D) ((Below.heap_setCell _ _ _ D HDr.out).trans ((HPZ.out.block D (Array.getElem?_eq_some_iff.1 HK3.out).1).trans HK3.out)) fun W' ht hc => ⟨.bool true, ?_, rfl, ?_⟩
          · have hc4 : Boxed W' w.heap.size 4 (.bool true) := (ht.block w.heap.size (by simp [World.setCell]; exact lr) (fun h => HDr.out h.symm)).trans (HRZ.out.set (.bool true))
            simp [results, Tryd.results3, go_sem, hc4.cell]
          · exact ((HB3.out.trans (HPZ.out.mono HB3.out.size)).setCell (p := ⟨w.heap.size, 0, none⟩) (Nat.le_refl _) _).trans (ht.below (B := w.heap.size) (fun k h => by rw [h]; exact HDD.out) (by simp [World.setCell]; exact Nat.le_of_lt lr))
end Go.Proofs.YtkpiehejkhjhlaaDoor
