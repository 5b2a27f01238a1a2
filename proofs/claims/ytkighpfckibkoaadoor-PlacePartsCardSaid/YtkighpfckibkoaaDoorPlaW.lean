/-
  The chapter's rows (waterlinelaw03.works) come out true.
-/
import Derived.Test.YtkighpfckibkoaaDoorPlaT
namespace Go.Proofs.YtkighpfckibkoaaDoor
open Go.RowKit Go.Shelf

theorem eql_place (x y a b : Int) (W : World) : (binOp .eql 23 (.agg #[.int .i64 x, .int .i64 y]) (.agg #[.int .i64 a, .int .i64 b])).run Tryd.prog W = .ok (.bool ((x == a) && (y == b))) W := by
  have h := neq_place x y a b W
  rw [run_neq_struct] at h
  rw [run_eql_struct]
  cases hr : (Op.equalIn 10000 23 (.agg #[.int .i64 x, .int .i64 y]) (.agg #[.int .i64 a, .int .i64 b])).run Tryd.prog W with
  | ok r w' =>
    rw [hr] at h
    simp only [Result.andThen_ok, Result.ok.injEq, Value.bool.injEq] at h
    obtain ⟨h1, rfl⟩ := h
    simp only [Result.andThen_ok]
    rw [show r = ((x == a) && (y == b)) by revert h1; cases r <;> cases ((x == a) && (y == b)) <;> simp]
  | halt x w' => rw [hr] at h; cases h
theorem four_new (w : World) : SlP (w.alloc (.cells #[.int .i64 0, .int .i64 6, .int .i64 0, .int .i64 7, .int .i64 1, .int .i64 0, .int .i64 1, .int .i64 1] 23)) (.slice (some ⟨w.heap.size, 0, none⟩) 4 4) [(0, 6), (0, 7), (1, 0), (1, 1)] := by
  refine ⟨_, 4, rfl, Nat.le_refl _, fun _ => ⟨w.heap.size, 0, rfl, by simp, fun j hj => ?_⟩⟩
  have hj9 : j < 4 := hj
  have : j = 0 ∨ j = 1 ∨ j = 2 ∨ j = 3 := by omega
  rcases this with rfl | rfl | rfl | rfl <;> simp [go_sem]
theorem zeroone (w : World) : Sl (w.alloc (.cells #[.int .i64 0, .int .i64 1] 3)) .i64 (.slice (some ⟨w.heap.size, 0, none⟩) 2 2) [0, 1] := by
  refine ⟨_, 2, rfl, Nat.le_refl _, fun _ => ⟨w.heap.size, 0, rfl, by simp, fun j hj => ?_⟩⟩
  have hj9 : j < 2 := hj
  have : j = 0 ∨ j = 1 := by omega
  rcases this with rfl | rfl <;> simp [go_sem]
theorem prow1 : distOut 0 0 2 3 = .tuple #[.int .i64 19, .int .i64 0] := by rfl
theorem prow2 : moveOut 0 0 19 = .tuple #[.agg #[.int .i64 2, .int .i64 3], .int .i64 0] := by rfl
theorem prow3 : moveOut 2 3 (-20) = .tuple #[.agg #[.int .i64 0, .int .i64 0], .int .i64 4] := by rfl
theorem prow4 : moveOut 1023 7 1 = .tuple #[.agg #[.int .i64 0, .int .i64 0], .int .i64 4] := by rfl
theorem prow5 : distOut 2 3 0 0 = .tuple #[.int .i64 (-19), .int .i64 0] := by rfl
theorem prow6 : lns (8 * (0 : Int) + 6).toNat (4 : Int).toNat = [0, 1] := by decide
theorem prow7 : lns (8 * (0 : Int) + 0).toNat (0 : Int).toNat = [] := by decide
theorem prow8 : (runP 0 6 4).take (9 : Int).toNat = [(0, 6), (0, 7), (1, 0), (1, 1)] := by decide +kernel
set_option maxRecDepth 100000 in
set_option maxHeartbeats 4000000 in
theorem works3_any (w : World) (ht : Ends w) :
    Calls Tryd.prog 15 #[] w fun e w' => e = .returned (.bool true) ∧ Below w.heap.size w w' := by
  have hz := ht.room
  have HT := Lib.hid ht; clear ht
  go_enter Tryd.func15, Tryd.ntmps15
  go_wp2_with fail
  refine (address_any 2 3 _ (HT.out.below (B := w.heap.size) (by repeat (first | exact Below.refl _ _ | assumption | refine Below.drew ?_ | refine below_drewN ?_ _ | refine Below.alloc ?_ (by (try simp) <;> omega) _ | refine Below.setCell ?_ (by (try simp) <;> omega) _ | refine Below.trans ?_ (Below.mono (by assumption) (by (try simp) <;> omega)))) hz)).mono ?_
  rintro e w1 ⟨rfl, hb1⟩
  rw [prow1]
  have z1 := hb1.size; try simp at z1
  have jP1 : Box2 w1 w.heap.size 23 2 3 := (Box2.new w 23 2 3).below hb1 (by simp)
  have b1 : Below w.heap.size w w1 := (by repeat (first | exact Below.refl _ _ | assumption | refine Below.drew ?_ | refine below_drewN ?_ _ | refine Below.alloc ?_ (by (try simp) <;> omega) _ | refine Below.setCell ?_ (by (try simp) <;> omega) _ | refine Below.trans ?_ (Below.mono (by assumption) (by (try simp) <;> omega))))
  clear hb1
  go_wp2_with fail
  refine (at_any 19 _ (HT.out.below (B := w.heap.size) (by repeat (first | exact Below.refl _ _ | assumption | refine Below.drew ?_ | refine below_drewN ?_ _ | refine Below.alloc ?_ (by (try simp) <;> omega) _ | refine Below.setCell ?_ (by (try simp) <;> omega) _ | refine Below.trans ?_ (Below.mono (by assumption) (by (try simp) <;> omega)))) hz)).mono ?_
  rintro e w2 ⟨rfl, hb2⟩
  rw [prow2]
  have z2 := hb2.size
  have jP2 := jP1.below hb2 jP1.lt
  have b2 : Below w.heap.size w w2 := (by repeat (first | exact Below.refl _ _ | assumption | refine Below.drew ?_ | refine below_drewN ?_ _ | refine Below.alloc ?_ (by (try simp) <;> omega) _ | refine Below.setCell ?_ (by (try simp) <;> omega) _ | refine Below.trans ?_ (Below.mono (by assumption) (by (try simp) <;> omega))))
  clear hb2 jP1 b1
  have c21 := jP2.cell0
  have c22 := jP2.cell1
  have l2 := jP2.lt
  go_wp2_with fail
  refine (move_any 2 3 (-20) _ (HT.out.below (B := w.heap.size) (by repeat (first | exact Below.refl _ _ | assumption | refine Below.drew ?_ | refine below_drewN ?_ _ | refine Below.alloc ?_ (by (try simp) <;> omega) _ | refine Below.setCell ?_ (by (try simp) <;> omega) _ | refine Below.trans ?_ (Below.mono (by assumption) (by (try simp) <;> omega)))) hz)).mono ?_
  rintro e w3 ⟨rfl, hb3⟩
  rw [prow3]
  have z3 := hb3.size; try simp at z3
  have jB3 : Box2 w3 w2.heap.size 23 2 3 := (Box2.new w2 23 2 3).below hb3 (by simp)
  have jP3 := (jP2.alloc (.cells #[.int .i64 2, .int .i64 3] 23)).below hb3 (by simp; omega)
  have b3 : Below w.heap.size w w3 := (by repeat (first | exact Below.refl _ _ | assumption | refine Below.drew ?_ | refine below_drewN ?_ _ | refine Below.alloc ?_ (by (try simp) <;> omega) _ | refine Below.setCell ?_ (by (try simp) <;> omega) _ | refine Below.trans ?_ (Below.mono (by assumption) (by (try simp) <;> omega))))
  clear hb3 jP2 b2 c21 c22
  go_wp2_with fail
  refine (move_any 1023 7 1 _ (HT.out.below (B := w.heap.size) (by repeat (first | exact Below.refl _ _ | assumption | refine Below.drew ?_ | refine below_drewN ?_ _ | refine Below.alloc ?_ (by (try simp) <;> omega) _ | refine Below.setCell ?_ (by (try simp) <;> omega) _ | refine Below.trans ?_ (Below.mono (by assumption) (by (try simp) <;> omega)))) hz)).mono ?_
  rintro e w4 ⟨rfl, hb4⟩
  rw [prow4]
  have z4 := hb4.size; try simp at z4
  have jB4 := (jB3.alloc (.cells #[.int .i64 0, .int .i64 0] 23)).below hb4 (by simp; omega)
  have jP4 := (jP3.alloc (.cells #[.int .i64 0, .int .i64 0] 23)).below hb4 (by simp; omega)
  have b4 : Below w.heap.size w w4 := (by repeat (first | exact Below.refl _ _ | assumption | refine Below.drew ?_ | refine below_drewN ?_ _ | refine Below.alloc ?_ (by (try simp) <;> omega) _ | refine Below.setCell ?_ (by (try simp) <;> omega) _ | refine Below.trans ?_ (Below.mono (by assumption) (by (try simp) <;> omega))))
  clear hb4 jB3 jP3 b3
  have c41 := jP4.cell0
  have c42 := jP4.cell1
  have l4 := jP4.lt
  go_wp2_with fail
  refine (distance_any 2 3 0 0 _ (HT.out.below (B := w.heap.size) (by repeat (first | exact Below.refl _ _ | assumption | refine Below.drew ?_ | refine below_drewN ?_ _ | refine Below.alloc ?_ (by (try simp) <;> omega) _ | refine Below.setCell ?_ (by (try simp) <;> omega) _ | refine Below.trans ?_ (Below.mono (by assumption) (by (try simp) <;> omega)))) hz)).mono ?_
  rintro e w5 ⟨rfl, hb5⟩
  rw [prow5]
  have z5 := hb5.size; try simp at z5
  have jB5 := (jB4.alloc (.cells #[.int .i64 0, .int .i64 0] 23)).below hb5 (by simp; omega)
  have jP5 := (jP4.alloc (.cells #[.int .i64 0, .int .i64 0] 23)).below hb5 (by simp; omega)
  have b5 : Below w.heap.size w w5 := (by repeat (first | exact Below.refl _ _ | assumption | refine Below.drew ?_ | refine below_drewN ?_ _ | refine Below.alloc ?_ (by (try simp) <;> omega) _ | refine Below.setCell ?_ (by (try simp) <;> omega) _ | refine Below.trans ?_ (Below.mono (by assumption) (by (try simp) <;> omega))))
  clear hb5 jB4 jP4 b4 c41 c42
  go_wp2_with fail
  refine (lines_yes 0 6 4 (by decide) (by decide) (by decide) _ (HT.out.below (B := w.heap.size) (by repeat (first | exact Below.refl _ _ | assumption | refine Below.drew ?_ | refine below_drewN ?_ _ | refine Below.alloc ?_ (by (try simp) <;> omega) _ | refine Below.setCell ?_ (by (try simp) <;> omega) _ | refine Below.trans ?_ (Below.mono (by assumption) (by (try simp) <;> omega)))) hz)).mono ?_
  rintro e w6 ⟨r, rfl, own6, hb6⟩
  rw [prow6] at own6
  have s6 := own_sl own6
  clear own6
  have z6 := hb6.size; try simp at z6
  have jB6 := (jB5.alloc (.cells #[.int .i64 0, .int .i64 6] 23)).below hb6 (by simp; omega)
  have jP6 := (jP5.alloc (.cells #[.int .i64 0, .int .i64 6] 23)).below hb6 (by simp; omega)
  have jQ6 : Box2 w6 w5.heap.size 23 0 6 := (Box2.new w5 23 0 6).below hb6 (by simp)
  have b6 : Below w.heap.size w w6 := (by repeat (first | exact Below.refl _ _ | assumption | refine Below.drew ?_ | refine below_drewN ?_ _ | refine Below.alloc ?_ (by (try simp) <;> omega) _ | refine Below.setCell ?_ (by (try simp) <;> omega) _ | refine Below.trans ?_ (Below.mono (by assumption) (by (try simp) <;> omega))))
  clear hb6 jB5 jP5 b5
  go_wp2_with fail
  refine (lines_yes 0 0 0 (by decide) (by decide) (by decide) _ (HT.out.below (B := w.heap.size) (by repeat (first | exact Below.refl _ _ | assumption | refine Below.drew ?_ | refine below_drewN ?_ _ | refine Below.alloc ?_ (by (try simp) <;> omega) _ | refine Below.setCell ?_ (by (try simp) <;> omega) _ | refine Below.trans ?_ (Below.mono (by assumption) (by (try simp) <;> omega)))) hz)).mono ?_
  rintro e w7 ⟨r7, rfl, own7, hb7⟩
  rw [prow7] at own7
  obtain ⟨a7, c7, rfl⟩ := own_slice own7
  clear own7
  have z7 := hb7.size
  have s7 := s6.below hb7
  have jB7 := jB6.below hb7 (by omega)
  have jP7 := jP6.below hb7 (by omega)
  have jQ7 := jQ6.below hb7 (by omega)
  have b7 : Below w.heap.size w w7 := (by repeat (first | exact Below.refl _ _ | assumption | refine Below.drew ?_ | refine below_drewN ?_ _ | refine Below.alloc ?_ (by (try simp) <;> omega) _ | refine Below.setCell ?_ (by (try simp) <;> omega) _ | refine Below.trans ?_ (Below.mono (by assumption) (by (try simp) <;> omega))))
  clear hb7 jB6 jP6 jQ6 b6 s6
  have c71 := jP7.cell0
  have c72 := jP7.cell1
  have c73 := jB7.cell0
  have c74 := jB7.cell1
  have l7 := jQ7.lt
  have hq := eql_place 2 3 2 3
  go_wp2_with (go_at_call 12; refine (num3_any _ _).mono ?_; rintro e w' ⟨rfl, rfl⟩)
  refine (ints3_any _ _ [0, 1] [0, 1] (by decide) (by decide) _ (s7.below ((Below.refl _ _).alloc (Nat.le_refl _) _)) (zeroone w7)).mono ?_
  rintro e w8 ⟨rfl, hb8⟩
  rw [show decide (([0, 1] : List Nat) = [0, 1]) = true by decide]
  have z8 := hb8.size; try simp at z8
  have jQ8 := (jQ7.alloc (.cells #[.int .i64 0, .int .i64 1] 3)).below hb8 (by simp; omega)
  have b8 : Below w.heap.size w w8 := (by repeat (first | exact Below.refl _ _ | assumption | refine Below.drew ?_ | refine below_drewN ?_ _ | refine Below.alloc ?_ (by (try simp) <;> omega) _ | refine Below.setCell ?_ (by (try simp) <;> omega) _ | refine Below.trans ?_ (Below.mono (by assumption) (by (try simp) <;> omega))))
  clear hb8 jB7 jP7 jQ7 b7 c71 c72 c73 c74 s7
  have c81 := jQ8.cell0
  have c82 := jQ8.cell1
  go_wp2_with fail
  refine (runL_any 0 6 4 9 (by decide) (by decide) (by decide) (by decide) _ (HT.out.below (B := w.heap.size) (by repeat (first | exact Below.refl _ _ | assumption | refine Below.drew ?_ | refine below_drewN ?_ _ | refine Below.alloc ?_ (by (try simp) <;> omega) _ | refine Below.setCell ?_ (by (try simp) <;> omega) _ | refine Below.trans ?_ (Below.mono (by assumption) (by (try simp) <;> omega)))) hz)).mono ?_
  rintro e w9 ⟨r9, rfl, own9, hb9⟩
  rw [prow8] at own9
  have z9 := hb9.size
  have s9 := slP_of_own own9
  have b9 : Below w.heap.size w w9 := (by repeat (first | exact Below.refl _ _ | assumption | refine Below.drew ?_ | refine below_drewN ?_ _ | refine Below.alloc ?_ (by (try simp) <;> omega) _ | refine Below.setCell ?_ (by (try simp) <;> omega) _ | refine Below.trans ?_ (Below.mono (by assumption) (by (try simp) <;> omega))))
  clear hb9 own9 jQ8 b8 c81 c82
  go_wp2_with fail
  refine (same3_any _ _ [(0, 6), (0, 7), (1, 0), (1, 1)] [(0, 6), (0, 7), (1, 0), (1, 1)] (by decide) (by decide) _ (s9.below ((Below.refl _ _).alloc (Nat.le_refl _) _)) (four_new w9)).mono ?_
  rintro e w10 ⟨rfl, hb10⟩
  rw [show decide (([(0, 6), (0, 7), (1, 0), (1, 1)] : List (Int × Int)) = [(0, 6), (0, 7), (1, 0), (1, 1)]) = true by decide]
  go_wp2_with fail
  go_ret
  exact ⟨rfl, (by repeat (first | exact Below.refl _ _ | assumption | refine Below.drew ?_ | refine below_drewN ?_ _ | refine Below.alloc ?_ (by (try simp) <;> omega) _ | refine Below.setCell ?_ (by (try simp) <;> omega) _ | refine Below.trans ?_ (Below.mono (by assumption) (by (try simp) <;> omega))))⟩
end Go.Proofs.YtkighpfckibkoaaDoor
