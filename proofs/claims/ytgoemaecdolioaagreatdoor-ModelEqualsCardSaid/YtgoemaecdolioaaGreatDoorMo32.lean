/-
  Texts MdO to MeC, as one.
-/
import Derived.Test.YtgoemaecdolioaaGreatDoorMo31
/-
  model: Do. (gen_mdo.py)
-/
namespace Go.Proofs.YtgoemaecdolioaaGreatDoor
open Go.RowKit Go.Shelf
attribute [local go_sem] Oper.semAt_some

theorem isThere11_any {w : World} {B T : Nat} (hB : Boxed w B 60 (.pointer (some ⟨T, 0, none⟩))) : Calls Tryz.prog 38 #[.pointer (some ⟨B, 0, none⟩)] w fun e w' => e = .returned (.bool true) ∧ w' = w := by
  have c0 := hB.cell
  clear hB
  go_enter Tryz.func38, Tryz.ntmps38
  go_wp2
  go_ret
  exact ⟨rfl, rfl⟩
/-- What is wrong with an operation, or what doing it tells; the tree behind it; the result. -/
def doE (t : RT) (x : OpX) : Int := if rightC x ≠ 0 then rightC x else (doneR t x).2
def doT (t : RT) (x : OpX) : RT := if rightC x ≠ 0 then t else (doneR t x).1
def doQ (t : RT) (x : OpX) (X : Array Value) (W : World) : Prop := if doE t x ≠ 0 then X = resE (doE t x) else resQ t x X W
/-- The closure's end: the tree; the result where Rb is. -/
def DoC (lo T r m : Nat) (G : Gr) (t : RT) (x : OpX) (Rb : Nat) (w : World) (e : Ending) (w' : World) : Prop :=
  (∃ G', TreeR lo w' T r G' (m + 1) (doT t x) ∧ Turn (fun j => Foot G j ∨ j = Rb ∨ w.heap.size ≤ j) w w' ∧ ∀ j, Foot G' j → Foot G j ∨ w.heap.size ≤ j) ∧
  ((∃ X u, e = .returned u ∧ Blk w' Rb 44 X ∧ (∃ e k l n a1 n1 c1 a2 n2 c2, X = resA e k l n a1 n1 c1 a2 n2 c2) ∧ doQ t x X w') ∨ (doE t x ≠ 0 ∧ e = .panicked (refuseM (doE t x))))
theorem resQ_err {t : RT} {x : OpX} {X : Array Value} {W : World} (h : resQ t x X W) (hc : (doneR t x).2 ≠ 0) : X = resE (doneR t x).2 := by
  unfold resQ at h
  split at h
  · exact absurd h.1 hc
  split at h
  · exact absurd h.1 hc
  split at h
  · exact absurd h.1 hc
  · exact h
set_option maxRecDepth 100000 in
set_option maxHeartbeats 8000000 in
theorem doClos_any {lo T r m : Nat} {G : Gr} {t : RT} {w : World} (h : TreeR lo w T r G m t) (hm : m ≤ 1000) {x : OpX} (hx : OpOk w x) {B b0 b1 Rb : Nat} (hB : Boxed w B 60 (.pointer (some ⟨T, 0, none⟩)))
    (h0 : Boxed w b0 35 (.pointer (some ⟨B, 0, none⟩))) (h1 : Blk w b1 25 (opA x)) (hr : Blk w Rb 44 zeroRes) (n3 : ¬ Foot G Rb) (nT : Rb ≠ T) (hl : lo ≤ Rb) :
    Calls Tryz.prog 36 #[.pointer (some ⟨b0, 0, none⟩), .pointer (some ⟨b1, 0, none⟩), .pointer (some ⟨Rb, 0, none⟩)] w (DoC lo T r m G t x Rb w) := by
  have HIT := Lib.hid (fun W (hW : Below w.heap.size w W) => isThere11_any (boxed_low hB hW))
  have HM := Lib.hid mustBe11_true
  have HRT := Lib.hid (right11_any x hx.path hx.other w h.max hx.fb)
  have HDN := Lib.hid (fun W (hW : Below w.heap.size w W) (hk : 1 ≤ x.kind ∧ x.kind ≤ 11) => done11_any (h.below hW) hm (hx.below hW) hk)
  have HTG := Lib.hid h
  have HRB : Hid (Blk w Rb 44 zeroRes ∧ ¬ Foot G Rb ∧ Rb ≠ T ∧ lo ≤ Rb) := show _ ∧ _ from ⟨hr, n3, nT, hl⟩
  have HKD : Hid (rightC x = 0 → 1 ≤ x.kind ∧ x.kind ≤ 11) := show _ → _ from fun hc => by
    unfold rightC at hc
    by_cases hk : 1 ≤ x.kind ∧ x.kind ≤ 11
    · exact hk
    · rw [if_pos hk] at hc
      cases hc
  obtain ⟨ua, uc, hu, -⟩ := hx.fb.form
  have HA : Hid (∀ W, Below w.heap.size w W → W.cell? ⟨b0, 0, none⟩ = some (.pointer (some ⟨B, 0, none⟩)) ∧ W.cell? ⟨B, 0, none⟩ = some (.pointer (some ⟨T, 0, none⟩)) ∧ W.cell? ⟨b1, 0, none⟩ = some (.int .i64 x.kind) ∧ W.cell? ⟨b1, 1, none⟩ = some (encStr x.path) ∧ W.cell? ⟨b1, 2, none⟩ = some (encStr x.other) ∧ W.cell? ⟨b1, 3, none⟩ = some (.int .i64 x.place) ∧ W.cell? ⟨b1, 4, none⟩ = some (.int .i64 x.many) ∧ W.cell? ⟨b1, 5, none⟩ = some x.ub ∧ Below w.heap.size w W) := show ∀ W, _ from fun W hW => by
    have g := h1.below hW h1.lt
    exact ⟨(boxed_low h0 hW).cell, (boxed_low hB hW).cell, g.cell rfl, g.cell rfl, g.cell rfl, g.cell rfl, g.cell rfl, g.cell rfl, hW⟩
  obtain ⟨p, hp2⟩ : ∃ p, encStr x.path = p := ⟨_, rfl⟩
  obtain ⟨q, hq⟩ : ∃ p, encStr x.other = p := ⟨_, rfl⟩
  obtain ⟨pl, hpl⟩ : ∃ y, x.place = y := ⟨_, rfl⟩
  obtain ⟨mn, hmn⟩ : ∃ y, x.many = y := ⟨_, rfl⟩
  obtain ⟨un, hun⟩ : ∃ y, (bytesN x.bytes).length = y := ⟨_, rfl⟩
  have hkd : ∃ y, x.kind = y := ⟨_, rfl⟩
  unfold opA at HRT HDN
  rw [hu, hp2, hq, hpl, hmn, hun] at HRT HDN HA
  obtain ⟨c0, kB, c1, c2, c3, c4, c5, c6, -⟩ := HA.out w (Below.refl _ w)
  clear h hm hx hB h0 h1 hr n3 nT hl hu hp2 hq hpl hmn hun hkd
  go_enter Tryz.func36, Tryz.ntmps36
  go_wp2_with fail
  refine (HIT.out w (Below.refl _ w)).mono ?_
  rintro e w1 ⟨rfl, rfl⟩
  go_wp2_with fail
  refine (HM.out _ _).mono ?_
  rintro e w2 ⟨⟨u, rfl⟩, rfl⟩
  go_wp2_with fail
  refine HRT.out.mono ?_
  rintro e w3 ⟨hb3, ⟨hc, u3, rfl⟩ | ⟨hc, rfl⟩⟩
  rotate_left
  · have e1 : doE t x = rightC x := if_pos hc
    have e2 : doT t x = t := if_pos hc
    refine ⟨rfl, ⟨G, by rw [e2]; exact (HTG.out.below hb3).mono (Nat.le_succ m), Turn.of_below hb3 (Nat.le_refl _), fun j hj => .inl hj⟩, .inr ⟨by rw [e1]; exact hc, by rw [e1]⟩⟩
  have e1 : Hid (doE t x = (doneR t x).2) := show _ = _ from if_neg (fun h => h hc)
  have e2 : Hid (doT t x = (doneR t x).1) := show _ = _ from if_neg (fun h => h hc)
  have HK := Lib.hid (HKD.out hc)
  have HB3 := Lib.hid hb3
  clear hb3 hc c0 kB c1 c2 c3 c4 c5 c6
  go_wp2_with fail
  have hR := HA.out _ HB3.out.drew
  refine wp_region_M 5 (fun V : World => V.cell? ⟨b0, 0, none⟩ = some (.pointer (some ⟨B, 0, none⟩)) ∧ V.cell? ⟨B, 0, none⟩ = some (.pointer (some ⟨T, 0, none⟩)) ∧ V.cell? ⟨b1, 0, none⟩ = some (.int .i64 x.kind) ∧ V.cell? ⟨b1, 1, none⟩ = some p ∧ V.cell? ⟨b1, 2, none⟩ = some q ∧ V.cell? ⟨b1, 3, none⟩ = some (.int .i64 pl) ∧ V.cell? ⟨b1, 4, none⟩ = some (.int .i64 mn) ∧ V.cell? ⟨b1, 5, none⟩ = some (.slice ua un uc) ∧ Below w2.heap.size w2 V) (by kernel_rfl) ?_
  (refine wpAnyM_take2 8 (i := 0) (v := ?_) rfl (by kernel_rfl) (by kernel_rfl) (fun _ _ _ h => h) (Or.inl ⟨by rfl, ?_⟩) hR ?_; rotate_left; (focus (intro w hSw; (try dsimp only at hSw); go_simp; (try with_reducible rfl))); (try simp only [put_laws])); (refine wpAnyM_take2 8 (i := 4) (v := ?_) rfl (by kernel_rfl) (by kernel_rfl) (fun _ _ _ h => h) (Or.inl ⟨by rfl, ?_⟩) hR ?_; rotate_left; (focus (intro w hSw; (try dsimp only at hSw); go_simp; (try with_reducible rfl))); (try simp only [put_laws])); (refine wpAnyM_take2 8 (i := 1) (v := ?_) rfl (by kernel_rfl) (by kernel_rfl) (fun _ _ _ h => h) (Or.inl ⟨by rfl, ?_⟩) hR ?_; rotate_left; (focus (intro w hSw; (try dsimp only at hSw); go_simp; (try with_reducible rfl))); (try simp only [put_laws])); (refine wpAnyM_take2 8 (i := 2) (v := ?_) rfl (by kernel_rfl) (by kernel_rfl) (fun _ _ _ h => h) (Or.inl ⟨by rfl, ?_⟩) hR ?_; rotate_left; (focus (intro w hSw; (try dsimp only at hSw); go_simp; (try with_reducible rfl))); (try simp only [put_laws])); (refine wpAnyM_take2 8 (i := 3) (v := ?_) rfl (by kernel_rfl) (by kernel_rfl) (fun _ _ _ h => h) (Or.inl ⟨by rfl, ?_⟩) hR ?_; rotate_left; (focus (intro w hSw; (try dsimp only at hSw); go_simp; (try with_reducible rfl))); (try simp only [put_laws]))
  (refine wpAnyM_one (i := 5) rfl (by kernel_rfl) (fun K hK => ?_); rw [if_pos (by rfl)]; (try simp only [elem_laws]))
  go_simp
  refine (HDN.out _ hR.2.2.2.2.2.2.2.2 HK.out).mono ?_
  have hbV := hR.2.2.2.2.2.2.2.2
  rintro e w5 ⟨⟨G', g1, g2, g3⟩, ⟨X, rfl, hq⟩ | ⟨hc, rfl⟩⟩
  rotate_left
  · exact ⟨rfl, ⟨G', by rw [e2.out]; exact g1, (turn_behind hbV g2).mono (fun j hj => hj.elim .inl fun h => .inr (.inr h)), foot_behind hbV g3⟩, .inr ⟨by rw [e1.out]; exact hc, by rw [e1.out]⟩⟩
  obtain ⟨hr0, n3, nT, hl⟩ := HRB.out
  have ht1 := turn_behind hbV g2
  have hr1 : Blk w5 Rb 44 zeroRes := hr0.turn ht1 (fun h => h.elim n3 fun h => by have := hr0.lt; omega)
  have nf1 : ¬ Foot G' Rb := fun h => (foot_behind hbV g3 Rb h).elim n3 fun h => by have := hr0.lt; omega
  have hdq : doQ t x X w5 := by
    unfold doQ
    by_cases hc : doE t x ≠ 0
    · rw [if_pos hc]
      rw [e1.out] at hc ⊢
      exact resQ_err hq hc
    · rw [if_neg hc]
      exact hq
  obtain ⟨ee, k1, l1, n1, a1, m1, c1, a2, m2, c2, rfl⟩ := resQ_form hq
  have st : ∀ (W : World) (k : Nat) (v : Value), Turn (fun j => j = Rb) W (W.setCell ⟨Rb, k, none⟩ v) := fun W k v => Turn.setCell W v rfl
  have ht : Turn (fun j => j = Rb) w5 ((((((w5.setCell ⟨Rb, 0, none⟩ (.int .i64 ee)).setCell ⟨Rb, 1, none⟩ (.int .i64 k1)).setCell ⟨Rb, 2, none⟩ (.int .i64 l1)).setCell ⟨Rb, 3, none⟩ (.int .i64 n1)).setCell ⟨Rb, 4, none⟩ (.slice a1 m1 c1)).setCell ⟨Rb, 5, none⟩ (.slice a2 m2 c2)) :=
    (((((st _ _ _).trans (st _ _ _)).trans (st _ _ _)).trans (st _ _ _)).trans (st _ _ _)).trans (st _ _ _)
  have hbx : Blk ((((((w5.setCell ⟨Rb, 0, none⟩ (.int .i64 ee)).setCell ⟨Rb, 1, none⟩ (.int .i64 k1)).setCell ⟨Rb, 2, none⟩ (.int .i64 l1)).setCell ⟨Rb, 3, none⟩ (.int .i64 n1)).setCell ⟨Rb, 4, none⟩ (.slice a1 m1 c1)).setCell ⟨Rb, 5, none⟩ (.slice a2 m2 c2)) Rb 44 (resA ee k1 l1 n1 a1 m1 c1 a2 m2 c2) := (((((hr1.set 0 _).set 1 _).set 2 _).set 3 _).set 4 _).set 5 _
  have g5 := g1.turn ht (fun j hj _ => by rw [hj]; exact zeroRes_noU8 hr1) (fun j hj => by rw [hj]; exact nf1) (fun e => nT e.symm) (fun j hj => by rw [hj]; exact hl)
  have hdq2 : doQ t x (resA ee k1 l1 n1 a1 m1 c1 a2 m2 c2) ((((((w5.setCell ⟨Rb, 0, none⟩ (.int .i64 ee)).setCell ⟨Rb, 1, none⟩ (.int .i64 k1)).setCell ⟨Rb, 2, none⟩ (.int .i64 l1)).setCell ⟨Rb, 3, none⟩ (.int .i64 n1)).setCell ⟨Rb, 4, none⟩ (.slice a1 m1 c1)).setCell ⟨Rb, 5, none⟩ (.slice a2 m2 c2)) := by
    unfold doQ at hdq ⊢
    by_cases hc : doE t x ≠ 0
    · rw [if_pos hc] at hdq ⊢
      exact hdq
    · rw [if_neg hc] at hdq ⊢
      exact resQ_turn hdq ht (fun j hj _ => by rw [hj]; exact zeroRes_noStr hr1) (fun j hj _ => by rw [hj]; exact zeroRes_noU8 hr1)
  have ht5 : Turn (fun j => Foot G j ∨ j = Rb ∨ w2.heap.size ≤ j) w2 _ := (ht1.mono fun j hj => hj.elim .inl fun h => .inr (.inr h)).trans (ht.mono fun j hj => .inr (.inl hj))
  have HG : Hid ((∃ G', TreeR lo _ T r G' (m + 1) (doT t x) ∧ Turn (fun j => Foot G j ∨ j = Rb ∨ w2.heap.size ≤ j) w2 _ ∧ ∀ j, Foot G' j → Foot G j ∨ w2.heap.size ≤ j) ∧ doQ t x (resA ee k1 l1 n1 a1 m1 c1 a2 m2 c2) _) := show _ ∧ _ from ⟨⟨G', by rw [e2.out]; exact g5, ht5, foot_behind hbV g3⟩, hdq2⟩
  have HBX := Lib.hid hbx
  have HR1 := Lib.hid hr1
  refine hK _ _ (fun h => by cases h) ?_
  clear hK K hR hbV g1 g2 g3 hq hr0 n3 nT hl ht1 hr1 nf1 hdq st ht hbx g5 hdq2 ht5
  (try simp only [put_laws])
  (refine wpAnyM_one (i := 6) rfl (by kernel_rfl) (fun K hK => ?_); rw [if_pos (by rfl)]; (try simp only [elem_laws]))
  have z0 := HR1.out.cell (j := 0) rfl
  have z1 := HR1.out.cell (j := 1) rfl
  have z2 := HR1.out.cell (j := 2) rfl
  have z3 := HR1.out.cell (j := 3) rfl
  have z4 := HR1.out.cell (j := 4) rfl
  have z5 := HR1.out.cell (j := 5) rfl
  have f0 := HR1.out.frozen 0
  have f1 := HR1.out.frozen 1
  have f2 := HR1.out.frozen 2
  have f3 := HR1.out.frozen 3
  have f4 := HR1.out.frozen 4
  have f5 := HR1.out.frozen 5
  unfold resA
  go_simp
  refine hK _ _ (fun h => by cases h) ?_
  clear hK K z0 z1 z2 z3 z4 z5 f0 f1 f2 f3 f4 f5
  (try simp only [put_laws])
  refine wpAnyM_done (by kernel_rfl) ?_ _
  go_wp2_with fail
  first
  | go_end0
  | refine bodyPost_ret (results_none rfl _ _ _) rfl ?_
  exact ⟨HG.out.1, .inl ⟨_, _, rfl, HBX.out, ⟨_, _, _, _, _, _, _, _, _, _, rfl⟩, HG.out.2⟩⟩
end Go.Proofs.YtgoemaecdolioaaGreatDoor

/-
  model: Do, tried.
-/
namespace Go.Proofs.YtgoemaecdolioaaGreatDoor
open Go.RowKit Go.Shelf
attribute [local go_sem] Oper.semAt_some

/-- What the closure of Do leaves, tried. -/
def DoP (lo T r m : Nat) (G : Gr) (t : RT) (x : OpX) (Ra Rb : Nat) (w : World) (c : Int) (w' : World) : Prop :=
  (∃ G', TreeR lo w' T r G' (m + 1) (doT t x) ∧ Turn (fun j => Foot G j ∨ w.heap.size ≤ j) w w' ∧ ∀ j, Foot G' j → Foot G j ∨ w.heap.size ≤ j) ∧
  Blk w' Ra 44 zeroRes ∧ (c = 0 → ∃ X, Blk w' Rb 44 X ∧ (∃ e k l n a1 n1 c1 a2 n2 c2, X = resA e k l n a1 n1 c1 a2 n2 c2) ∧ doQ t x X w') ∧ (c ≠ 0 → c = doE t x)
set_option maxHeartbeats 4000000 in
theorem doTried_any {lo T r m : Nat} {G : Gr} {t : RT} {w : World} (h : TreeR lo w T r G m t) (hm : m ≤ 1000) {x : OpX} (hx : OpOk w x) {B : Nat} (hB : Boxed w B 60 (.pointer (some ⟨T, 0, none⟩))) {W4 : World} {b0 b1 Ra Rb : Nat} (hb : Below w.heap.size w W4)
    (h0 : Boxed W4 b0 35 (.pointer (some ⟨B, 0, none⟩))) (h1 : Blk W4 b1 25 (opA x)) (ha : Blk W4 Ra 44 zeroRes) (hr : Blk W4 Rb 44 zeroRes) (la : w.heap.size ≤ Ra) (lb : w.heap.size ≤ Rb) (hab : Ra ≠ Rb) :
    Calls Tryz.prog 30 #[.func (.func 36) #[] #[.pointer (some ⟨b0, 0, none⟩), .pointer (some ⟨b1, 0, none⟩), .pointer (some ⟨Rb, 0, none⟩)]] W4 fun e w' => ∃ c, e = .returned (.int .i64 c) ∧ DoP lo T r m G t x Ra Rb w c w' := by
  have hft : ∀ j, Foot G j → j < w.heap.size := by
    rintro j ⟨c, y, hy, hj⟩
    rcases hj with rfl | rfl
    · exact (h.tree.nodes _ _ hy).blk.lt
    · exact (h.tree.nodes _ _ hy).names.lt
  have hT := h.tree.at_.lt
  have hlo := h.lowT
  have hs := hb.size
  have hb5 : Below W4.heap.size W4 (W4.alloc (.cells #[.int .i64 0] 30)) := (Below.refl _ W4).alloc (Nat.le_refl _) _
  have he5 : Boxed (W4.alloc (.cells #[.int .i64 0] 30)) W4.heap.size 30 (.int .i64 0) := Boxed.new _ _ _
  refine (tried11_any (f := 36) (enters_of Tryz.func36 (by kernel_rfl) rfl) #[.pointer (some ⟨b0, 0, none⟩), .pointer (some ⟨b1, 0, none⟩), .pointer (some ⟨Rb, 0, none⟩)] W4 (fun c w1 => Boxed w1 W4.heap.size 30 (.int .i64 0) ∧ (∃ G', TreeR lo w1 T r G' (m + 1) (doT t x) ∧ Turn (fun j => Foot G j ∨ w.heap.size ≤ j) w w1 ∧ (∀ j, Foot G' j → Foot G j ∨ w.heap.size ≤ j) ∧ ¬ Foot G' W4.heap.size) ∧ Blk w1 Ra 44 zeroRes ∧ (c = 0 → ∃ X, Blk w1 Rb 44 X ∧ (∃ e k l n a1 n1 c1 a2 n2 c2, X = resA e k l n a1 n1 c1 a2 n2 c2) ∧ doQ t x X w1) ∧ (c ≠ 0 → c = doE t x)) ?_).mono ?_
  · obtain ⟨W5, hW5⟩ : ∃ W5, W4.alloc (.cells #[.int .i64 0] 30) = W5 := ⟨_, rfl⟩
    rw [hW5] at hb5 he5 ⊢
    have hb05 := hb.trans (hb5.mono hs)
    have s5 := he5.lt
    refine (doClos_any (h.below hb05) hm (hx.below hb05) (boxed_low hB hb05) (boxed_low h0 hb5) (h1.below hb5 h1.lt) (hr.below hb5 hr.lt) (fun hf => by have := hft _ hf; omega) (by omega) (by omega)).mono ?_
    rintro e w1 ⟨⟨G', g1, g2, g3⟩, g4⟩
    have htw : Turn (fun j => Foot G j ∨ w.heap.size ≤ j) w w1 := (Turn.of_below hb05 (Nat.le_refl _)).trans (g2.mono fun j hj => by
      rcases hj with hj | hj | hj
      · exact .inl hj
      · exact .inr (by omega)
      · exact .inr (by have := hb05.size; omega))
    have hgf : ∀ j, Foot G' j → Foot G j ∨ w.heap.size ≤ j := fun j hj => (g3 j hj).imp id fun h => by have := hb05.size; omega
    have lra := ha.lt
    have hng : ¬ Foot G' W4.heap.size := fun hh => by
      rcases g3 _ hh with hh | hh
      · have := hft _ hh; omega
      · omega
    have hrb := hr.lt
    have hbe : Boxed w1 W4.heap.size 30 (.int .i64 0) := (g2.block _ s5 (fun hh => by
      rcases hh with hh | hh | hh
      · have := hft _ hh; omega
      · omega
      · omega)).trans he5
    have hba : Blk w1 Ra 44 zeroRes := (ha.below hb5 ha.lt).turn g2 (fun hh => by
      rcases hh with hh | hh | hh
      · have := hft _ hh; omega
      · exact hab hh
      · omega)
    rcases g4 with ⟨X, u, rfl, hX, hXf, hq⟩ | ⟨hc, rfl⟩
    · exact ⟨0, hbe, ⟨hbe, ⟨G', g1, htw, hgf, hng⟩, hba, fun _ => ⟨X, hX, hXf, hq⟩, fun h => absurd rfl h⟩, .inl ⟨rfl, u, rfl⟩⟩
    · exact ⟨doE t x, hbe, ⟨hbe, ⟨G', g1, htw, hgf, hng⟩, hba, fun h => absurd h hc, fun _ => rfl⟩, .inr ⟨hc, rfl⟩⟩
  · rintro e w' ⟨c, w1, h2, ⟨hbe, ⟨G', g1, g2, g3, g4⟩, hba, k1, k2⟩, h5⟩
    have lra := ha.lt
    have hrb := hr.lt
    have nu : ∀ j, j = W4.heap.size → j < w1.heap.size → NoU8 w1 j := fun j hj _ off z e => by
      have hc := cell_of_row w1 j off _ 30 (0, 0) (by rw [hj]; exact hbe)
      rw [hc] at e
      rcases off with _ | off <;> simp at e
    have ns : ∀ j, j = W4.heap.size → j < w1.heap.size → NoStr w1 j := fun j hj _ off z e => by
      have hc := cell_of_row w1 j off _ 30 (0, 0) (by rw [hj]; exact hbe)
      rw [hc] at e
      rcases off with _ | off <;> simp at e
    refine ⟨c, h2, ⟨G', g1.turn h5 nu (fun j hj => by rw [hj]; exact g4) (by omega) (fun j hj => by omega), g2.trans (h5.mono fun j hj => .inr (by omega)), g3⟩, hba.turn h5 (by omega), fun h => ?_, k2⟩
    obtain ⟨X, hX, hXf, hq⟩ := k1 h
    refine ⟨X, hX.turn h5 (by omega), hXf, ?_⟩
    unfold doQ at hq ⊢
    by_cases hc : doE t x ≠ 0
    · rw [if_pos hc] at hq ⊢
      exact hq
    · rw [if_neg hc] at hq ⊢
      exact resQ_turn hq h5 ns nu
end Go.Proofs.YtgoemaecdolioaaGreatDoor

/-
  model: Do.
-/
namespace Go.Proofs.YtgoemaecdolioaaGreatDoor
open Go.RowKit Go.Shelf
attribute [local go_sem] Oper.semAt_some

/-- What Do leaves and tells. -/
def DoM (lo T r m : Nat) (G : Gr) (t : RT) (x : OpX) (w : World) (e : Ending) (w' : World) : Prop :=
  (∃ G', TreeR lo w' T r G' (m + 1) (doT t x) ∧ Turn (fun j => Foot G j ∨ w.heap.size ≤ j) w w' ∧ ∀ j, Foot G' j → Foot G j ∨ w.heap.size ≤ j) ∧
  ∃ X, e = .returned (.agg X) ∧ (∃ e k l n a1 n1 c1 a2 n2 c2, X = resA e k l n a1 n1 c1 a2 n2 c2) ∧ doQ t x X w'
theorem DoP.put {lo T r m : Nat} {G : Gr} {t : RT} {x : OpX} {Ra Rb : Nat} {w w1 w' : World} {c : Int} (h : DoP lo T r m G t x Ra Rb w c w1) (hft : ∀ j, Foot G j → j < w.heap.size) (hT : T < w.heap.size) (hlo : lo ≤ T) (la : w.heap.size ≤ Ra) (ng : ∀ G', (∀ j, Foot G' j → Foot G j ∨ w.heap.size ≤ j) → TreeR lo w1 T r G' (m + 1) (doT t x) → ¬ Foot G' Ra) (ht : Turn (fun j => j = Ra) w1 w') :
    (∃ G', TreeR lo w' T r G' (m + 1) (doT t x) ∧ Turn (fun j => Foot G j ∨ w.heap.size ≤ j) w w' ∧ ∀ j, Foot G' j → Foot G j ∨ w.heap.size ≤ j) ∧ ∀ X, doQ t x X w1 → doQ t x X w' := by
  obtain ⟨⟨G', g1, g2, g3⟩, ha, -, -⟩ := h
  have n := ng G' g3 g1
  refine ⟨⟨G', g1.turn ht (fun j hj _ => by rw [hj]; exact zeroRes_noU8 ha) (fun j hj => by rw [hj]; exact n) (by omega) (fun j hj => by omega), g2.trans (ht.mono fun j hj => .inr (by omega)), g3⟩, fun X hq => ?_⟩
  unfold doQ at hq ⊢
  by_cases hc : doE t x ≠ 0
  · rw [if_pos hc] at hq ⊢
    exact hq
  · rw [if_neg hc] at hq ⊢
    exact resQ_turn hq ht (fun j hj _ => by rw [hj]; exact zeroRes_noStr ha) (fun j hj _ => by rw [hj]; exact zeroRes_noU8 ha)
/-- A block of a result is no node's. -/
theorem res_not_foot {lo T r m : Nat} {G' : Gr} {t : RT} {w : World} {Ra : Nat} (h : TreeR lo w T r G' m t) (ha : Blk w Ra 44 zeroRes) : ¬ Foot G' Ra := by
  rintro ⟨c, y, hy, hj⟩
  have hn := h.tree.nodes c y hy
  rcases hj with rfl | rfl
  · have h1 := hn.blk
    have h2 : (Obj.cells y.cells 108 : Obj) = Obj.cells zeroRes 44 := Option.some.inj (h1.symm.trans ha)
    cases h2
  · obtain ⟨es, clock, hm, -⟩ := hn.names
    have h2 := hm.symm.trans ha
    cases h2
set_option maxRecDepth 100000 in
set_option maxHeartbeats 8000000 in
theorem do11_any {lo T r m : Nat} {G : Gr} {t : RT} {w : World} (h : TreeR lo w T r G m t) (hm : m ≤ 1000) {x : OpX} (hx : OpOk w x) {B : Nat} (hB : Boxed w B 60 (.pointer (some ⟨T, 0, none⟩))) :
    Calls Tryz.prog 17 #[.pointer (some ⟨B, 0, none⟩), .agg (opA x)] w (DoM lo T r m G t x w) := by
  have hb1 : Below w.heap.size w (w.alloc (.cells #[.pointer (some ⟨B, 0, none⟩)] 35)) := (Below.refl _ w).alloc (Nat.le_refl _) _
  have h0 : Boxed (w.alloc (.cells #[.pointer (some ⟨B, 0, none⟩)] 35)) w.heap.size 35 (.pointer (some ⟨B, 0, none⟩)) := Boxed.new _ _ _
  obtain ⟨W1, hW1⟩ : ∃ W1, w.alloc (.cells #[.pointer (some ⟨B, 0, none⟩)] 35) = W1 := ⟨_, rfl⟩
  rw [hW1] at hb1 h0
  have hb2 : Below W1.heap.size W1 (W1.alloc (.cells (opA x) 25)) := (Below.refl _ W1).alloc (Nat.le_refl _) _
  have h1 : Blk (W1.alloc (.cells (opA x) 25)) W1.heap.size 25 (opA x) := Blk.new _ _ _
  obtain ⟨W2, hW2⟩ : ∃ W2, W1.alloc (.cells (opA x) 25) = W2 := ⟨_, rfl⟩
  rw [hW2] at hb2 h1
  have hb3 : Below W2.heap.size W2 (W2.alloc (.cells zeroRes 44)) := (Below.refl _ W2).alloc (Nat.le_refl _) _
  have h3 : Blk (W2.alloc (.cells zeroRes 44)) W2.heap.size 44 zeroRes := Blk.new _ _ _
  obtain ⟨W3, hW3⟩ : ∃ W3, W2.alloc (.cells zeroRes 44) = W3 := ⟨_, rfl⟩
  rw [hW3] at hb3 h3
  have hb4 : Below W3.heap.size W3 (W3.alloc (.cells zeroRes 44)) := (Below.refl _ W3).alloc (Nat.le_refl _) _
  have h4 : Blk (W3.alloc (.cells zeroRes 44)) W3.heap.size 44 zeroRes := Blk.new _ _ _
  obtain ⟨W4, hW4⟩ : ∃ W4, W3.alloc (.cells zeroRes 44) = W4 := ⟨_, rfl⟩
  rw [hW4] at hb4 h4
  have s1 := h0.lt
  have s2 := h1.lt
  have s3 := h3.lt
  have s4 := h4.lt
  have g34 := hb4
  have g24 := hb3.trans (hb4.mono hb3.size)
  have g14 := hb2.trans (g24.mono hb2.size)
  have g04 := hb1.trans (g14.mono hb1.size)
  have hft : ∀ j, Foot G j → j < w.heap.size := by
    rintro j ⟨c, y, hy, hj⟩
    rcases hj with rfl | rfl
    · exact (h.tree.nodes _ _ hy).blk.lt
    · exact (h.tree.nodes _ _ hy).names.lt
  have hT := h.tree.at_.lt
  have hlo := h.lowT
  have HDT := Lib.hid (doTried_any h hm hx hB g04 (boxed_low h0 g14) (h1.below g24 s2) (h3.below g34 s3) h4 (by omega) (by omega) (by omega))
  have HN : Hid ((∀ j, Foot G j → j < w.heap.size) ∧ T < w.heap.size ∧ lo ≤ T ∧ w.heap.size ≤ W2.heap.size ∧ W2.heap.size ≠ W3.heap.size) := show _ ∧ _ from ⟨hft, hT, hlo, by omega, by omega⟩
  have hmf : ∀ (fn : Fn) (first cap : Array Value) (w : World), (Instr.makeFunc fn first cap).run Tryz.prog w = .ok (.func fn first cap) w := fun _ _ _ _ => rfl
  obtain ⟨v, hv⟩ : ∃ v, opA x = v := ⟨_, rfl⟩
  rw [hv] at hW2 ⊢
  clear h hm hx hB hb1 h0 hb2 h1 hb3 h3 hb4 h4 s1 s2 s3 s4 g34 g24 g14 g04 hft hT hlo hv
  unfold zeroRes at hW3 hW4
  go_enter Tryz.func17, Tryz.ntmps17
  go_wp2_with fail
  refine HDT.out.mono ?_
  rintro e w6 ⟨c, rfl, hP⟩
  clear hW1 hW2 hW3 hW4
  obtain ⟨hft, hT, hlo, la, hab⟩ := HN.out
  have hz := hP.2.1
  have ng : ∀ G', (∀ j, Foot G' j → Foot G j ∨ w.heap.size ≤ j) → TreeR lo w6 T r G' (m + 1) (doT t x) → ¬ Foot G' W2.heap.size := fun G' _ g => res_not_foot g hz
  have st : ∀ (W : World) (k : Nat) (v : Value), Turn (fun j => j = W2.heap.size) W (W.setCell ⟨W2.heap.size, k, none⟩ v) := fun W k v => Turn.setCell W v rfl
  by_cases hc : c = 0
  · subst hc
    obtain ⟨X, hX, ⟨ee, k1, l1, n1, a1, m1, c1, a2, m2, c2, rfl⟩, hq⟩ := hP.2.2.1 rfl
    have ht : Turn (fun j => j = W2.heap.size) w6 ((((((w6.setCell ⟨W2.heap.size, 0, none⟩ (.int .i64 ee)).setCell ⟨W2.heap.size, 1, none⟩ (.int .i64 k1)).setCell ⟨W2.heap.size, 2, none⟩ (.int .i64 l1)).setCell ⟨W2.heap.size, 3, none⟩ (.int .i64 n1)).setCell ⟨W2.heap.size, 4, none⟩ (.slice a1 m1 c1)).setCell ⟨W2.heap.size, 5, none⟩ (.slice a2 m2 c2)) := (((((st _ _ _).trans (st _ _ _)).trans (st _ _ _)).trans (st _ _ _)).trans (st _ _ _)).trans (st _ _ _)
    have hbx : Blk ((((((w6.setCell ⟨W2.heap.size, 0, none⟩ (.int .i64 ee)).setCell ⟨W2.heap.size, 1, none⟩ (.int .i64 k1)).setCell ⟨W2.heap.size, 2, none⟩ (.int .i64 l1)).setCell ⟨W2.heap.size, 3, none⟩ (.int .i64 n1)).setCell ⟨W2.heap.size, 4, none⟩ (.slice a1 m1 c1)).setCell ⟨W2.heap.size, 5, none⟩ (.slice a2 m2 c2)) W2.heap.size 44 (resA ee k1 l1 n1 a1 m1 c1 a2 m2 c2) := (((((hz.set 0 _).set 1 _).set 2 _).set 3 _).set 4 _).set 5 _
    have hg := hP.put hft hT hlo la ng ht
    have HG := Lib.hid hg.1
    have HQ := Lib.hid (hg.2 _ hq)
    have HBX := Lib.hid hbx
    have hX2 : Blk w6 W3.heap.size 44 #[.int .i64 ee, .int .i64 k1, .int .i64 l1, .int .i64 n1, .slice a1 m1 c1, .slice a2 m2 c2] := hX
    have y0 := hX2.cell (j := 0) rfl
    have y1 := hX2.cell (j := 1) rfl
    have y2 := hX2.cell (j := 2) rfl
    have y3 := hX2.cell (j := 3) rfl
    have y4 := hX2.cell (j := 4) rfl
    have y5 := hX2.cell (j := 5) rfl
    have z0 := hz.cell (j := 0) rfl
    have z1 := hz.cell (j := 1) rfl
    have z2 := hz.cell (j := 2) rfl
    have z3 := hz.cell (j := 3) rfl
    have z4 := hz.cell (j := 4) rfl
    have z5 := hz.cell (j := 5) rfl
    have f0 := hz.frozen 0
    have f1 := hz.frozen 1
    have f2 := hz.frozen 2
    have f3 := hz.frozen 3
    have f4 := hz.frozen 4
    have f5 := hz.frozen 5
    clear hX hX2 hz hP hq ng st ht hbx hg hft hT hlo la
    go_wp2_with fail
    exact bodyPost_ret (results_cell (fn := Tryz.f17) rfl rfl (HBX.out.loadVar (tt := 44) Tryz.underlying44 rfl (by kernel_rfl))) rfl ⟨HG.out, _, rfl, ⟨_, _, _, _, _, _, _, _, _, _, rfl⟩, HQ.out⟩
  · have hce := hP.2.2.2 hc
    have hnb : (c != 0) = true := by simpa using hc
    have ht : Turn (fun j => j = W2.heap.size) w6 ((((((w6.setCell ⟨W2.heap.size, 0, none⟩ (.int .i64 c)).setCell ⟨W2.heap.size, 1, none⟩ (.int .i64 0)).setCell ⟨W2.heap.size, 2, none⟩ (.int .i64 0)).setCell ⟨W2.heap.size, 3, none⟩ (.int .i64 0)).setCell ⟨W2.heap.size, 4, none⟩ (.slice none 0 0)).setCell ⟨W2.heap.size, 5, none⟩ (.slice none 0 0)) := (((((st _ _ _).trans (st _ _ _)).trans (st _ _ _)).trans (st _ _ _)).trans (st _ _ _)).trans (st _ _ _)
    have hbx : Blk ((((((w6.setCell ⟨W2.heap.size, 0, none⟩ (.int .i64 c)).setCell ⟨W2.heap.size, 1, none⟩ (.int .i64 0)).setCell ⟨W2.heap.size, 2, none⟩ (.int .i64 0)).setCell ⟨W2.heap.size, 3, none⟩ (.int .i64 0)).setCell ⟨W2.heap.size, 4, none⟩ (.slice none 0 0)).setCell ⟨W2.heap.size, 5, none⟩ (.slice none 0 0)) W2.heap.size 44 (resE c) := (((((hz.set 0 _).set 1 _).set 2 _).set 3 _).set 4 _).set 5 _
    have hg := hP.put hft hT hlo la ng ht
    have HG := Lib.hid hg.1
    have HQ : Hid (doQ t x (resE c) ((((((w6.setCell ⟨W2.heap.size, 0, none⟩ (.int .i64 c)).setCell ⟨W2.heap.size, 1, none⟩ (.int .i64 0)).setCell ⟨W2.heap.size, 2, none⟩ (.int .i64 0)).setCell ⟨W2.heap.size, 3, none⟩ (.int .i64 0)).setCell ⟨W2.heap.size, 4, none⟩ (.slice none 0 0)).setCell ⟨W2.heap.size, 5, none⟩ (.slice none 0 0))) := show doQ _ _ _ _ from by
      unfold doQ
      rw [if_pos (by rw [← hce]; exact hc), ← hce]
    have HBX := Lib.hid hbx
    have z0 := hz.cell (j := 0) rfl
    have z1 := hz.cell (j := 1) rfl
    have z2 := hz.cell (j := 2) rfl
    have z3 := hz.cell (j := 3) rfl
    have z4 := hz.cell (j := 4) rfl
    have z5 := hz.cell (j := 5) rfl
    have f0 := hz.frozen 0
    have f1 := hz.frozen 1
    have f2 := hz.frozen 2
    have f3 := hz.frozen 3
    have f4 := hz.frozen 4
    have f5 := hz.frozen 5
    clear hz hP ng st ht hbx hg hft hT hlo la hce hc
    go_wp2_with fail
    exact bodyPost_ret (results_cell (fn := Tryz.f17) rfl rfl (HBX.out.loadVar (tt := 44) Tryz.underlying44 rfl (by kernel_rfl))) rfl ⟨HG.out, _, rfl, ⟨_, _, _, _, _, _, _, _, _, _, rfl⟩, HQ.out⟩
end Go.Proofs.YtgoemaecdolioaaGreatDoor

/-
  model: New.
-/
namespace Go.Proofs.YtgoemaecdolioaaGreatDoor
open Go.RowKit Go.Shelf
attribute [local go_sem] Oper.semAt_some

/-- A model in memory: where it lies, and its tree. -/
structure ModR (lo : Nat) (W : World) (B T r : Nat) (G : Gr) (m : Nat) (t : RT) : Prop where
  box : Boxed W B 60 (.pointer (some ⟨T, 0, none⟩))
  tree : TreeR lo W T r G m t
  low : lo ≤ B
theorem newM_any (w : World) (hm : MaxC w) : Calls Tryz.prog 16 #[] w fun e w' => ∃ B T r G, e = .returned (.pointer (some ⟨B, 0, none⟩)) ∧ ModR w.heap.size w' B T r G 0 ⟨[], []⟩ ∧ Below w.heap.size w w' := by
  have HN := Lib.hid (new_spec w hm)
  clear hm
  go_enter Tryz.func16, Tryz.ntmps16
  go_wp2_with fail
  refine HN.out.mono ?_
  rintro e w1 ⟨T, r, G, rfl, hT, -, -, -, hb⟩
  have hb1 : Below w1.heap.size w1 (w1.alloc (.cells #[.pointer (some ⟨T, 0, none⟩)] 60)) := (Below.refl _ w1).alloc (Nat.le_refl _) _
  have hx : Boxed (w1.alloc (.cells #[.pointer (some ⟨T, 0, none⟩)] 60)) w1.heap.size 60 (.pointer (some ⟨T, 0, none⟩)) := Boxed.new _ _ _
  have HM : Hid (ModR w.heap.size (w1.alloc (.cells #[.pointer (some ⟨T, 0, none⟩)] 60)) w1.heap.size T r G 0 ⟨[], []⟩ ∧ Below w.heap.size w (w1.alloc (.cells #[.pointer (some ⟨T, 0, none⟩)] 60))) := show _ ∧ _ from ⟨⟨hx, hT.below hb1, hb.size⟩, hb.trans (hb1.mono hb.size)⟩
  clear hT hb hb1 hx
  go_wp2_with fail
  go_ret
  exact ⟨_, T, r, G, rfl, HM.out.1, HM.out.2⟩
/-- A model's box is no node's. -/
theorem mod_not_foot {lo T r m : Nat} {G : Gr} {t : RT} {w : World} {B : Nat} {v : Value} (h : TreeR lo w T r G m t) (hB : Boxed w B 60 v) : ¬ Foot G B := by
  rintro ⟨c, y, hy, hj⟩
  have hn := h.tree.nodes c y hy
  rcases hj with rfl | rfl
  · have h1 := hn.blk
    have h2 : (Obj.cells y.cells 108 : Obj) = Obj.cells #[v] 60 := Option.some.inj (h1.symm.trans hB)
    cases h2
  · obtain ⟨es, clock, hm, -⟩ := hn.names
    have h2 := hm.symm.trans hB
    cases h2
end Go.Proofs.YtgoemaecdolioaaGreatDoor

/-
  model: what the chapter's rows tell, as plain facts. (gen_mec.py)
-/
namespace Go.Proofs.YtgoemaecdolioaaGreatDoor
open Go.RowKit Go.Shelf

/-- What is told by what does not ask. -/
theorem doQ_plain {t : RT} {x : OpX} {X : Array Value} {W : World} (h : doQ t x X W) (h1 : x.kind ≠ 1) (h2 : x.kind ≠ 2) (h3 : x.kind ≠ 3) : X = resE (doE t x) := by
  unfold doQ at h
  split at h
  · exact h
  · rename_i hc
    have hz : doE t x = 0 := Classical.byContradiction hc
    unfold resQ at h
    rw [if_neg h1, if_neg h2, if_neg h3] at h
    have : doE t x = (doneR t x).2 := by
      unfold doE at hz ⊢
      split
      · rename_i h4
        rw [if_pos h4] at hz
        exact absurd hz h4
      · rfl
    rw [this]
    exact h
theorem doQ_err {t : RT} {x : OpX} {X : Array Value} {W : World} (h : doQ t x X W) (hc : doE t x ≠ 0) : X = resE (doE t x) := by
  unfold doQ at h
  rwa [if_pos hc] at h
theorem doQ_asks {t : RT} {x : OpX} {X : Array Value} {W : World} (h : doQ t x X W) (hc : doE t x = 0) : resQ t x X W := by
  unfold doQ at h
  rwa [if_neg (fun h => h hc)] at h
/-- A result with an error as it lies. -/
theorem resE_form (c : Int) : resE c = resA c 0 0 0 none 0 0 none 0 0 := by
  unfold resE resA
  first | rfl | (unfold zeroRes; rfl)
def tr11_0 : RT := ⟨[], []⟩
def tr11_1 : RT := ⟨[([47, 102], 0)], [(1, [])]⟩
def tr11_2 : RT := ⟨[([47, 102], 0)], [(1, [0, 0, 104, 105])]⟩
def tr11_3 : RT := ⟨[([47, 102], 0)], [(1, [0])]⟩
def tr11_4 : RT := ⟨[([47, 102], 0), ([47, 103], 0)], [(1, [0])]⟩
def op11_1 (u : Value) : OpX := ⟨4, [47, 102], [], 0, 0, u, []⟩
theorem do11_e1 (u : Value) : doE tr11_0 (op11_1 u) = 0 := by kernel_rfl
theorem do11_t1 (u : Value) : doT tr11_0 (op11_1 u) = tr11_1 := by kernel_rfl
theorem do11_q1 {u : Value} {X : Array Value} {W : World} (h : doQ tr11_0 (op11_1 u) X W) : X = resA 0 0 0 0 none 0 0 none 0 0 := by
  rw [← resE_form, ← do11_e1 u]
  exact doQ_plain h (by show (4 : Int) ≠ 1; decide) (by show (4 : Int) ≠ 2; decide) (by show (4 : Int) ≠ 3; decide)
def op11_2 (u : Value) : OpX := ⟨10, [47, 102], [], 2, 0, u, [104, 105]⟩
theorem do11_e2 (u : Value) : doE tr11_1 (op11_2 u) = 0 := by kernel_rfl
theorem do11_t2 (u : Value) : doT tr11_1 (op11_2 u) = tr11_2 := by kernel_rfl
theorem do11_q2 {u : Value} {X : Array Value} {W : World} (h : doQ tr11_1 (op11_2 u) X W) : X = resA 0 0 0 0 none 0 0 none 0 0 := by
  rw [← resE_form, ← do11_e2 u]
  exact doQ_plain h (by show (10 : Int) ≠ 1; decide) (by show (10 : Int) ≠ 2; decide) (by show (10 : Int) ≠ 3; decide)
def op11_3 (u : Value) : OpX := ⟨3, [47, 102], [], 0, 9, u, []⟩
theorem do11_e3 (u : Value) : doE tr11_2 (op11_3 u) = 0 := by kernel_rfl
theorem do11_t3 (u : Value) : doT tr11_2 (op11_3 u) = tr11_2 := by kernel_rfl
theorem do11_q3 {u : Value} {X : Array Value} {W : World} (h : doQ tr11_2 (op11_3 u) X W) : ∃ a c, X = resA 0 0 0 0 none 0 0 a 4 c ∧ FB W (.slice a 4 c) [0, 0, 104, 105] := by
  obtain ⟨-, v, hX, hv⟩ : (doneR tr11_2 (op11_3 u)).2 = 0 ∧ ∃ v, X = zeroRes.setIfInBounds 5 v ∧ FB W v (outR (xsR tr11_2 (op11_3 u).path) (op11_3 u).place (op11_3 u).many) := doQ_asks h (do11_e3 u)
  rw [show outR (xsR tr11_2 (op11_3 u).path) (op11_3 u).place (op11_3 u).many = [0, 0, 104, 105] by kernel_rfl] at hv
  obtain ⟨a, c, rfl, -⟩ := hv.form
  exact ⟨a, c, hX, hv⟩
def op11_4 (u : Value) : OpX := ⟨1, [47, 102], [], 0, 0, u, []⟩
theorem do11_e4 (u : Value) : doE tr11_2 (op11_4 u) = 0 := by kernel_rfl
theorem do11_t4 (u : Value) : doT tr11_2 (op11_4 u) = tr11_2 := by kernel_rfl
theorem do11_q4 {u : Value} {X : Array Value} {W : World} (h : doQ tr11_2 (op11_4 u) X W) : X = resA 0 1 1 4 none 0 0 none 0 0 := by
  obtain ⟨-, hX⟩ : (doneR tr11_2 (op11_4 u)).2 = 0 ∧ X = #[.int .i64 0, .int .i64 (kindR tr11_2 (askR tr11_2 (op11_4 u).path).2), .int .i64 (linksR tr11_2 (askR tr11_2 (op11_4 u).path).2 : Nat), .int .i64 (statN tr11_2 (op11_4 u).path : Nat), .slice none 0 0, .slice none 0 0] := doQ_asks h (do11_e4 u)
  rw [hX, show kindR tr11_2 (askR tr11_2 (op11_4 u).path).2 = 1 by kernel_rfl, show linksR tr11_2 (askR tr11_2 (op11_4 u).path).2 = 1 by kernel_rfl, show statN tr11_2 (op11_4 u).path = 4 by kernel_rfl]
  rfl
def op11_5 (u : Value) : OpX := ⟨2, [47], [], 0, 0, u, []⟩
theorem do11_e5 (u : Value) : doE tr11_2 (op11_5 u) = 0 := by kernel_rfl
theorem do11_t5 (u : Value) : doT tr11_2 (op11_5 u) = tr11_2 := by kernel_rfl
theorem do11_q5 {u : Value} {X : Array Value} {W : World} (h : doQ tr11_2 (op11_5 u) X W) : ∃ a c, X = resA 0 0 0 0 a 1 c none 0 0 ∧ TxS W (.slice a 1 c) [[102]] := by
  obtain ⟨-, v, hX, hv⟩ : (doneR tr11_2 (op11_5 u)).2 = 0 ∧ ∃ v, X = zeroRes.setIfInBounds 4 v ∧ TxS W v (namesR tr11_2 (op11_5 u).path) := doQ_asks h (do11_e5 u)
  rw [show namesR tr11_2 (op11_5 u).path = [[102]] by kernel_rfl] at hv
  obtain ⟨a, c, rfl⟩ := hv.form
  exact ⟨a, c, hX, hv⟩
def op11_6 (u : Value) : OpX := ⟨1, [47], [], 0, 0, u, []⟩
theorem do11_e6 (u : Value) : doE tr11_2 (op11_6 u) = 0 := by kernel_rfl
theorem do11_t6 (u : Value) : doT tr11_2 (op11_6 u) = tr11_2 := by kernel_rfl
theorem do11_q6 {u : Value} {X : Array Value} {W : World} (h : doQ tr11_2 (op11_6 u) X W) : X = resA 0 2 1 1 none 0 0 none 0 0 := by
  obtain ⟨-, hX⟩ : (doneR tr11_2 (op11_6 u)).2 = 0 ∧ X = #[.int .i64 0, .int .i64 (kindR tr11_2 (askR tr11_2 (op11_6 u).path).2), .int .i64 (linksR tr11_2 (askR tr11_2 (op11_6 u).path).2 : Nat), .int .i64 (statN tr11_2 (op11_6 u).path : Nat), .slice none 0 0, .slice none 0 0] := doQ_asks h (do11_e6 u)
  rw [hX, show kindR tr11_2 (askR tr11_2 (op11_6 u).path).2 = 2 by kernel_rfl, show linksR tr11_2 (askR tr11_2 (op11_6 u).path).2 = 1 by kernel_rfl, show statN tr11_2 (op11_6 u).path = 1 by kernel_rfl]
  rfl
def op11_7 (u : Value) : OpX := ⟨11, [47, 102], [], 0, 1, u, []⟩
theorem do11_e7 (u : Value) : doE tr11_2 (op11_7 u) = 0 := by kernel_rfl
theorem do11_t7 (u : Value) : doT tr11_2 (op11_7 u) = tr11_3 := by kernel_rfl
theorem do11_q7 {u : Value} {X : Array Value} {W : World} (h : doQ tr11_2 (op11_7 u) X W) : X = resA 0 0 0 0 none 0 0 none 0 0 := by
  rw [← resE_form, ← do11_e7 u]
  exact doQ_plain h (by show (11 : Int) ≠ 1; decide) (by show (11 : Int) ≠ 2; decide) (by show (11 : Int) ≠ 3; decide)
def op11_8 (u : Value) : OpX := ⟨10, [47, 102], [], -1, 0, u, []⟩
theorem do11_e8 (u : Value) : doE tr11_3 (op11_8 u) = 2 := by kernel_rfl
theorem do11_t8 (u : Value) : doT tr11_3 (op11_8 u) = tr11_3 := by kernel_rfl
theorem do11_q8 {u : Value} {X : Array Value} {W : World} (h : doQ tr11_3 (op11_8 u) X W) : X = resA 2 0 0 0 none 0 0 none 0 0 := by
  rw [← resE_form, ← do11_e8 u]
  exact doQ_err h (by rw [do11_e8]; decide)
def op11_9 (u : Value) : OpX := ⟨3, [47, 120], [], 0, 1, u, []⟩
theorem do11_e9 (u : Value) : doE tr11_3 (op11_9 u) = 202 := by kernel_rfl
theorem do11_t9 (u : Value) : doT tr11_3 (op11_9 u) = tr11_3 := by kernel_rfl
theorem do11_q9 {u : Value} {X : Array Value} {W : World} (h : doQ tr11_3 (op11_9 u) X W) : X = resA 202 0 0 0 none 0 0 none 0 0 := by
  rw [← resE_form, ← do11_e9 u]
  exact doQ_err h (by rw [do11_e9]; decide)
def op11_10 (u : Value) : OpX := ⟨11, [47, 102], [], 0, 449, u, []⟩
theorem do11_e10 (u : Value) : doE tr11_3 (op11_10 u) = 190 := by kernel_rfl
theorem do11_t10 (u : Value) : doT tr11_3 (op11_10 u) = tr11_3 := by kernel_rfl
theorem do11_q10 {u : Value} {X : Array Value} {W : World} (h : doQ tr11_3 (op11_10 u) X W) : X = resA 190 0 0 0 none 0 0 none 0 0 := by
  rw [← resE_form, ← do11_e10 u]
  exact doQ_err h (by rw [do11_e10]; decide)
def op11_11 (u : Value) : OpX := ⟨0, [47, 102], [], 0, 0, u, []⟩
theorem do11_e11 (u : Value) : doE tr11_3 (op11_11 u) = 2 := by kernel_rfl
theorem do11_t11 (u : Value) : doT tr11_3 (op11_11 u) = tr11_3 := by kernel_rfl
theorem do11_q11 {u : Value} {X : Array Value} {W : World} (h : doQ tr11_3 (op11_11 u) X W) : X = resA 2 0 0 0 none 0 0 none 0 0 := by
  rw [← resE_form, ← do11_e11 u]
  exact doQ_err h (by rw [do11_e11]; decide)
def op11_12 (u : Value) : OpX := ⟨9, [47, 102], [47, 103], 0, 0, u, []⟩
theorem do11_e12 (u : Value) : doE tr11_3 (op11_12 u) = 0 := by kernel_rfl
theorem do11_t12 (u : Value) : doT tr11_3 (op11_12 u) = tr11_4 := by kernel_rfl
theorem do11_q12 {u : Value} {X : Array Value} {W : World} (h : doQ tr11_3 (op11_12 u) X W) : X = resA 0 0 0 0 none 0 0 none 0 0 := by
  rw [← resE_form, ← do11_e12 u]
  exact doQ_plain h (by show (9 : Int) ≠ 1; decide) (by show (9 : Int) ≠ 2; decide) (by show (9 : Int) ≠ 3; decide)
def op11_13 (u : Value) : OpX := ⟨1, [47, 103], [], 0, 0, u, []⟩
theorem do11_e13 (u : Value) : doE tr11_4 (op11_13 u) = 0 := by kernel_rfl
theorem do11_t13 (u : Value) : doT tr11_4 (op11_13 u) = tr11_4 := by kernel_rfl
theorem do11_q13 {u : Value} {X : Array Value} {W : World} (h : doQ tr11_4 (op11_13 u) X W) : X = resA 0 1 2 1 none 0 0 none 0 0 := by
  obtain ⟨-, hX⟩ : (doneR tr11_4 (op11_13 u)).2 = 0 ∧ X = #[.int .i64 0, .int .i64 (kindR tr11_4 (askR tr11_4 (op11_13 u).path).2), .int .i64 (linksR tr11_4 (askR tr11_4 (op11_13 u).path).2 : Nat), .int .i64 (statN tr11_4 (op11_13 u).path : Nat), .slice none 0 0, .slice none 0 0] := doQ_asks h (do11_e13 u)
  rw [hX, show kindR tr11_4 (askR tr11_4 (op11_13 u).path).2 = 1 by kernel_rfl, show linksR tr11_4 (askR tr11_4 (op11_13 u).path).2 = 2 by kernel_rfl, show statN tr11_4 (op11_13 u).path = 1 by kernel_rfl]
  rfl
end Go.Proofs.YtgoemaecdolioaaGreatDoor
