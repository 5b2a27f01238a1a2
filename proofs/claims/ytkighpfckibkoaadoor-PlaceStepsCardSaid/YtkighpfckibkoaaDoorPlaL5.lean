/-
  The walk of the law PlaceSteps.
-/
import Derived.Test.YtkighpfckibkoaaDoorPlaL2
namespace Go.Proofs.YtkighpfckibkoaaDoor
open Go.RowKit Go.Shelf

theorem moveL_ok {l v b : Int} (h : moveOk l v b = true) : moveL l v b = (8 * l + v + b) / 8 := by unfold moveL; rw [h]; rfl
theorem moveV_ok {l v b : Int} (h : moveOk l v b = true) : moveV l v b = (8 * l + v + b) % 8 := by unfold moveV; rw [h]; rfl
/-- Moved twice is moved once by both. -/
theorem move_twice (l v a b : Int) (h1 : moveE l v a = 0) (h2 : moveE (moveL l v a) (moveV l v a) b = 0) : moveE l v (a + b) = 0 ∧ moveL l v (a + b) = moveL (moveL l v a) (moveV l v a) b ∧ moveV l v (a + b) = moveV (moveL l v a) (moveV l v a) b := by
  have k1 : okP l v = true ∧ moveOk l v a = true := by
    unfold moveE at h1
    cases h : okP l v <;> cases h' : moveOk l v a <;> simp [h, h'] at h1 ⊢
  have e1 : moveL l v a = (8 * l + v + a) / 8 := by unfold moveL; rw [k1.2]; rfl
  have e2 : moveV l v a = (8 * l + v + a) % 8 := by unfold moveV; rw [k1.2]; rfl
  have k2 : moveOk (moveL l v a) (moveV l v a) b = true := by
    unfold moveE at h2
    cases h : okP (moveL l v a) (moveV l v a) <;> cases h' : moveOk (moveL l v a) (moveV l v a) b <;> simp [h, h'] at h2 ⊢
  have e3 : 8 * moveL l v a + moveV l v a = 8 * l + v + a := by rw [e1, e2]; omega
  have k3 : 0 ≤ 8 * l + v + a + b ∧ 8 * l + v + a + b < 8192 := by
    unfold moveOk at k2
    rw [Bool.and_eq_true] at k2
    have := of_decide_eq_true k2.2
    rw [e3] at this
    exact this
  have k4 : moveOk l v (a + b) = true := by
    unfold moveOk
    rw [k1.1, decide_eq_true (by omega)]; rfl
  refine ⟨?_, ?_, ?_⟩
  · unfold moveE; rw [k1.1, k4]; rfl
  · rw [moveL_ok k4, moveL_ok k2, e3]; congr 1; omega
  · rw [moveV_ok k4, moveV_ok k2, e3]; congr 1; omega
theorem steps3_skip0 (l v a b : Int) (k0 : a < -10000) (w : World) (ht : Ends w) :
    Calls Tryd.prog 7 #[.agg #[.int .i64 l, .int .i64 v], .int .i64 a, .int .i64 b] w fun e w' => e = .returned (.bool true) ∧ Below w.heap.size w w' := by
  have hz := ht.room
  have HT := Lib.hid ht; clear ht
  go_enter Tryd.func7, Tryd.ntmps7
  go_wp2_with fail
  refine (works3_any _ (HT.out.below (B := w.heap.size) (by repeat (first | exact Below.refl _ _ | assumption | refine Below.drew ?_ | refine below_drewN ?_ _ | refine Below.alloc ?_ (by (try simp) <;> omega) _ | refine Below.setCell ?_ (by (try simp) <;> omega) _ | refine Below.trans ?_ (Below.mono (by assumption) (by (try simp) <;> omega)))) hz)).mono ?_
  rintro e w1 ⟨rfl, hb1⟩
  go_wp2_with fail
  go_ret
  exact ⟨rfl, (by repeat (first | exact Below.refl _ _ | assumption | refine Below.drew ?_ | refine below_drewN ?_ _ | refine Below.alloc ?_ (by (try simp) <;> omega) _ | refine Below.setCell ?_ (by (try simp) <;> omega) _ | refine Below.trans ?_ (Below.mono (by assumption) (by (try simp) <;> omega))))⟩
theorem steps3_skip1 (l v a b : Int) (k0 : 10000 < a) (w : World) (ht : Ends w) :
    Calls Tryd.prog 7 #[.agg #[.int .i64 l, .int .i64 v], .int .i64 a, .int .i64 b] w fun e w' => e = .returned (.bool true) ∧ Below w.heap.size w w' := by
  have hz := ht.room
  have HT := Lib.hid ht; clear ht
  have k9 : ¬ a < -10000 := by omega
  go_enter Tryd.func7, Tryd.ntmps7
  go_wp2_with fail
  refine (works3_any _ (HT.out.below (B := w.heap.size) (by repeat (first | exact Below.refl _ _ | assumption | refine Below.drew ?_ | refine below_drewN ?_ _ | refine Below.alloc ?_ (by (try simp) <;> omega) _ | refine Below.setCell ?_ (by (try simp) <;> omega) _ | refine Below.trans ?_ (Below.mono (by assumption) (by (try simp) <;> omega)))) hz)).mono ?_
  rintro e w1 ⟨rfl, hb1⟩
  go_wp2_with fail
  go_ret
  exact ⟨rfl, (by repeat (first | exact Below.refl _ _ | assumption | refine Below.drew ?_ | refine below_drewN ?_ _ | refine Below.alloc ?_ (by (try simp) <;> omega) _ | refine Below.setCell ?_ (by (try simp) <;> omega) _ | refine Below.trans ?_ (Below.mono (by assumption) (by (try simp) <;> omega))))⟩
theorem steps3_skip2 (l v a b : Int) (k0 : ¬ a < -10000) (k1 : ¬ 10000 < a) (k2 : b < -10000) (w : World) (ht : Ends w) :
    Calls Tryd.prog 7 #[.agg #[.int .i64 l, .int .i64 v], .int .i64 a, .int .i64 b] w fun e w' => e = .returned (.bool true) ∧ Below w.heap.size w w' := by
  have hz := ht.room
  have HT := Lib.hid ht; clear ht
  go_enter Tryd.func7, Tryd.ntmps7
  go_wp2_with fail
  refine (works3_any _ (HT.out.below (B := w.heap.size) (by repeat (first | exact Below.refl _ _ | assumption | refine Below.drew ?_ | refine below_drewN ?_ _ | refine Below.alloc ?_ (by (try simp) <;> omega) _ | refine Below.setCell ?_ (by (try simp) <;> omega) _ | refine Below.trans ?_ (Below.mono (by assumption) (by (try simp) <;> omega)))) hz)).mono ?_
  rintro e w1 ⟨rfl, hb1⟩
  go_wp2_with fail
  go_ret
  exact ⟨rfl, (by repeat (first | exact Below.refl _ _ | assumption | refine Below.drew ?_ | refine below_drewN ?_ _ | refine Below.alloc ?_ (by (try simp) <;> omega) _ | refine Below.setCell ?_ (by (try simp) <;> omega) _ | refine Below.trans ?_ (Below.mono (by assumption) (by (try simp) <;> omega))))⟩
theorem steps3_skip3 (l v a b : Int) (k0 : ¬ a < -10000) (k1 : ¬ 10000 < a) (k2 : 10000 < b) (w : World) (ht : Ends w) :
    Calls Tryd.prog 7 #[.agg #[.int .i64 l, .int .i64 v], .int .i64 a, .int .i64 b] w fun e w' => e = .returned (.bool true) ∧ Below w.heap.size w w' := by
  have hz := ht.room
  have HT := Lib.hid ht; clear ht
  have k9 : ¬ b < -10000 := by omega
  go_enter Tryd.func7, Tryd.ntmps7
  go_wp2_with fail
  refine (works3_any _ (HT.out.below (B := w.heap.size) (by repeat (first | exact Below.refl _ _ | assumption | refine Below.drew ?_ | refine below_drewN ?_ _ | refine Below.alloc ?_ (by (try simp) <;> omega) _ | refine Below.setCell ?_ (by (try simp) <;> omega) _ | refine Below.trans ?_ (Below.mono (by assumption) (by (try simp) <;> omega)))) hz)).mono ?_
  rintro e w1 ⟨rfl, hb1⟩
  go_wp2_with fail
  go_ret
  exact ⟨rfl, (by repeat (first | exact Below.refl _ _ | assumption | refine Below.drew ?_ | refine below_drewN ?_ _ | refine Below.alloc ?_ (by (try simp) <;> omega) _ | refine Below.setCell ?_ (by (try simp) <;> omega) _ | refine Below.trans ?_ (Below.mono (by assumption) (by (try simp) <;> omega))))⟩
set_option maxHeartbeats 4000000 in
theorem steps3_some (l v a b : Int) (k0 : -10000 ≤ a) (k1 : a ≤ 10000) (k2 : -10000 ≤ b) (k3 : b ≤ 10000) (w : World) (ht : Ends w) :
    Calls Tryd.prog 7 #[.agg #[.int .i64 l, .int .i64 v], .int .i64 a, .int .i64 b] w fun e w' => e = .returned (.bool true) ∧ Below w.heap.size w w' := by
  have hz := ht.room
  have HT := Lib.hid ht; clear ht
  have HM := Lib.hid (fun (l v n : Int) W (hb : Below w.heap.size w W) => move_any l v n W (HT.out.below hb hz))
  have H1 := Lib.hid (show moveOut l v a = .tuple #[.agg #[.int .i64 (moveL l v a), .int .i64 (moveV l v a)], .int .i64 (moveE l v a)] from rfl)
  have H2 := Lib.hid (show moveOut (moveL l v a) (moveV l v a) b = .tuple #[.agg #[.int .i64 (moveL (moveL l v a) (moveV l v a) b), .int .i64 (moveV (moveL l v a) (moveV l v a) b)], .int .i64 (moveE (moveL l v a) (moveV l v a) b)] from rfl)
  have H3 := Lib.hid (show moveOut l v (a + b) = .tuple #[.agg #[.int .i64 (moveL l v (a + b)), .int .i64 (moveV l v (a + b))], .int .i64 (moveE l v (a + b))] from rfl)
  have HTW := Lib.hid (move_twice l v a b)
  generalize moveL (moveL l v a) (moveV l v a) b = y1 at *
  generalize moveV (moveL l v a) (moveV l v a) b = y2 at *
  generalize moveE (moveL l v a) (moveV l v a) b = y3 at *
  generalize moveL l v a = x1 at *
  generalize moveV l v a = x2 at *
  generalize moveE l v a = x3 at *
  generalize moveL l v (a + b) = u1 at *
  generalize moveV l v (a + b) = u2 at *
  generalize moveE l v (a + b) = u3 at *
  go_enter Tryd.func7, Tryd.ntmps7
  go_wp2_with fail
  refine (HM.out _ _ _ _ (by repeat (first | exact Below.refl _ _ | assumption | refine Below.drew ?_ | refine below_drewN ?_ _ | refine Below.alloc ?_ (by (try simp) <;> omega) _ | refine Below.setCell ?_ (by (try simp) <;> omega) _ | refine Below.trans ?_ (Below.mono (by assumption) (by (try simp) <;> omega))))).mono ?_
  rintro e w1 ⟨rfl, hb1⟩
  rw [H1.out]
  have z1 := hb1.size; try simp at z1
  have jP1 : Box2 w1 w.heap.size 23 l v := (Box2.new w 23 l v).below hb1 (by simp)
  have b1 : Below w.heap.size w w1 := (by repeat (first | exact Below.refl _ _ | assumption | refine Below.drew ?_ | refine below_drewN ?_ _ | refine Below.alloc ?_ (by (try simp) <;> omega) _ | refine Below.setCell ?_ (by (try simp) <;> omega) _ | refine Below.trans ?_ (Below.mono (by assumption) (by (try simp) <;> omega))))
  clear hb1
  have l1 := jP1.lt
  go_wp2_with fail
  refine (HM.out _ _ _ _ (by repeat (first | exact Below.refl _ _ | assumption | refine Below.drew ?_ | refine below_drewN ?_ _ | refine Below.alloc ?_ (by (try simp) <;> omega) _ | refine Below.setCell ?_ (by (try simp) <;> omega) _ | refine Below.trans ?_ (Below.mono (by assumption) (by (try simp) <;> omega))))).mono ?_
  rintro e w2 ⟨rfl, hb2⟩
  rw [H2.out]
  have z2 := hb2.size; try simp at z2
  have jP2 := (jP1.alloc (.cells #[.int .i64 x1, .int .i64 x2] 23)).below hb2 (by simp; omega)
  have b2 : Below w.heap.size w w2 := (by repeat (first | exact Below.refl _ _ | assumption | refine Below.drew ?_ | refine below_drewN ?_ _ | refine Below.alloc ?_ (by (try simp) <;> omega) _ | refine Below.setCell ?_ (by (try simp) <;> omega) _ | refine Below.trans ?_ (Below.mono (by assumption) (by (try simp) <;> omega))))
  clear hb2 jP1 b1
  have c1 := jP2.cell0
  have c2 := jP2.cell1
  have l2 := jP2.lt
  by_cases h1 : x3 = 0
  · by_cases h2 : y3 = 0
    · obtain ⟨rfl, rfl, rfl⟩ := HTW.out h1 h2
      subst h1 h2
      have heq := eql_same u1 u2
      go_wp2_with (go_at_call 12; refine (num3_any _ _).mono ?_; rintro e w' ⟨rfl, rfl⟩)
      refine (HM.out _ _ _ _ (by repeat (first | exact Below.refl _ _ | assumption | refine Below.drew ?_ | refine below_drewN ?_ _ | refine Below.alloc ?_ (by (try simp) <;> omega) _ | refine Below.setCell ?_ (by (try simp) <;> omega) _ | refine Below.trans ?_ (Below.mono (by assumption) (by (try simp) <;> omega))))).mono ?_
      rintro e w3 ⟨rfl, hb3⟩
      rw [H3.out]
      have z3 := hb3.size; try simp at z3
      have jY3 : Box2 w3 w2.heap.size 23 u1 u2 := (Box2.new w2 23 u1 u2).below hb3 (by simp)
      have b3 : Below w.heap.size w w3 := (by repeat (first | exact Below.refl _ _ | assumption | refine Below.drew ?_ | refine below_drewN ?_ _ | refine Below.alloc ?_ (by (try simp) <;> omega) _ | refine Below.setCell ?_ (by (try simp) <;> omega) _ | refine Below.trans ?_ (Below.mono (by assumption) (by (try simp) <;> omega))))
      clear hb3 jP2 b2 c1 c2
      have d1 := jY3.cell0
      have d2 := jY3.cell1
      have l3 := jY3.lt
      go_wp2_with (go_at_call 12; refine (num3_any _ _).mono ?_; rintro e w' ⟨rfl, rfl⟩)
      refine (works3_any _ (HT.out.below (B := w.heap.size) (by repeat (first | exact Below.refl _ _ | assumption | refine Below.drew ?_ | refine below_drewN ?_ _ | refine Below.alloc ?_ (by (try simp) <;> omega) _ | refine Below.setCell ?_ (by (try simp) <;> omega) _ | refine Below.trans ?_ (Below.mono (by assumption) (by (try simp) <;> omega)))) hz)).mono ?_
      rintro e w4 ⟨rfl, hb4⟩
      go_wp2_with fail
      go_ret
      exact ⟨rfl, (by repeat (first | exact Below.refl _ _ | assumption | refine Below.drew ?_ | refine below_drewN ?_ _ | refine Below.alloc ?_ (by (try simp) <;> omega) _ | refine Below.setCell ?_ (by (try simp) <;> omega) _ | refine Below.trans ?_ (Below.mono (by assumption) (by (try simp) <;> omega))))⟩
    · subst h1
      have hy : (y3 != 0) = true := bne_iff_ne.2 h2
      go_wp2_with (go_at_call 12; refine (num3_any _ _).mono ?_; rintro e w' ⟨rfl, rfl⟩)
      refine (works3_any _ (HT.out.below (B := w.heap.size) (by repeat (first | exact Below.refl _ _ | assumption | refine Below.drew ?_ | refine below_drewN ?_ _ | refine Below.alloc ?_ (by (try simp) <;> omega) _ | refine Below.setCell ?_ (by (try simp) <;> omega) _ | refine Below.trans ?_ (Below.mono (by assumption) (by (try simp) <;> omega)))) hz)).mono ?_
      rintro e w4 ⟨rfl, hb4⟩
      go_wp2_with fail
      go_ret
      exact ⟨rfl, (by repeat (first | exact Below.refl _ _ | assumption | refine Below.drew ?_ | refine below_drewN ?_ _ | refine Below.alloc ?_ (by (try simp) <;> omega) _ | refine Below.setCell ?_ (by (try simp) <;> omega) _ | refine Below.trans ?_ (Below.mono (by assumption) (by (try simp) <;> omega))))⟩
  · have hx : (x3 != 0) = true := bne_iff_ne.2 h1
    go_wp2_with (go_at_call 12; refine (num3_any _ _).mono ?_; rintro e w' ⟨rfl, rfl⟩)
    refine (works3_any _ (HT.out.below (B := w.heap.size) (by repeat (first | exact Below.refl _ _ | assumption | refine Below.drew ?_ | refine below_drewN ?_ _ | refine Below.alloc ?_ (by (try simp) <;> omega) _ | refine Below.setCell ?_ (by (try simp) <;> omega) _ | refine Below.trans ?_ (Below.mono (by assumption) (by (try simp) <;> omega)))) hz)).mono ?_
    rintro e w4 ⟨rfl, hb4⟩
    go_wp2_with fail
    go_ret
    exact ⟨rfl, (by repeat (first | exact Below.refl _ _ | assumption | refine Below.drew ?_ | refine below_drewN ?_ _ | refine Below.alloc ?_ (by (try simp) <;> omega) _ | refine Below.setCell ?_ (by (try simp) <;> omega) _ | refine Below.trans ?_ (Below.mono (by assumption) (by (try simp) <;> omega))))⟩
theorem steps3_any (l v a b : Int) (w : World) (ht : Ends w) :
    Calls Tryd.prog 7 #[.agg #[.int .i64 l, .int .i64 v], .int .i64 a, .int .i64 b] w fun e w' => e = .returned (.bool true) ∧ Below w.heap.size w w' := by
  by_cases h0 : a < -10000
  · exact steps3_skip0 l v a b h0 w ht
  · by_cases h1 : 10000 < a
    · exact steps3_skip1 l v a b h1 w ht
    · by_cases h2 : b < -10000
      · exact steps3_skip2 l v a b h0 h1 h2 w ht
      · by_cases h3 : 10000 < b
        · exact steps3_skip3 l v a b h0 h1 h3 w ht
        · exact steps3_some l v a b (by omega) (by omega) (by omega) (by omega) w ht
end Go.Proofs.YtkighpfckibkoaaDoor
