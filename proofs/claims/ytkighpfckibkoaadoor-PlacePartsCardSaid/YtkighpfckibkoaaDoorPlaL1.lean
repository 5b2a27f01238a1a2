/-
  The walk of the law PlaceAddresses.
-/
import Derived.Test.YtkighpfckibkoaaDoorPlaW
import Derived.Deep.RegionHeld3
namespace Go.Proofs.YtkighpfckibkoaaDoor
open Go.RowKit Go.Shelf

theorem eql_same (x y : Int) (W : World) : (binOp .eql 23 (.agg #[.int .i64 x, .int .i64 y]) (.agg #[.int .i64 x, .int .i64 y])).run Tryd.prog W = .ok (.bool true) W := by
  rw [eql_place]; simp
theorem dist_ok {l v : Int} (h : okP l v = true) : distOut 0 0 l v = .tuple #[.int .i64 (8 * l + v), .int .i64 0] := by
  unfold distOut distN distE; rw [h]; simp [show okP 0 0 = true from rfl]
theorem dist_no {l v : Int} (h : okP l v = false) : distOut 0 0 l v = .tuple #[.int .i64 0, .int .i64 2] := by
  unfold distOut distN distE; rw [h]; simp
theorem at_ok {n : Int} (h : 0 ≤ n ∧ n < 8192) : moveOut 0 0 n = .tuple #[.agg #[.int .i64 (n / 8), .int .i64 (n % 8)], .int .i64 0] := by
  have h1 : moveOk 0 0 n = true := by unfold moveOk; rw [show okP 0 0 = true from rfl, decide_eq_true (by omega)]; rfl
  unfold moveOut moveL moveV moveE; rw [h1, show okP 0 0 = true from rfl]; simp
theorem at_no {n : Int} (h : ¬ (0 ≤ n ∧ n < 8192)) : moveOut 0 0 n = .tuple #[.agg #[.int .i64 0, .int .i64 0], .int .i64 4] := by
  have h1 : moveOk 0 0 n = false := by unfold moveOk; rw [decide_eq_false (by omega)]; simp
  unfold moveOut moveL moveV moveE; rw [h1, show okP 0 0 = true from rfl]; simp
set_option maxHeartbeats 4000000 in
theorem addresses_yy (l v n : Int) (hok : okP l v = true) (hth : 0 ≤ n ∧ n < 8192) (w : World) (ht : Ends w) :
    Calls Tryd.prog 3 #[.agg #[.int .i64 l, .int .i64 v], .int .i64 n] w fun e w' => e = .returned (.bool true) ∧ Below w.heap.size w w' := by
  have hz := ht.room
  have HT := Lib.hid ht; clear ht
  have HA := Lib.hid (fun W (hb : Below w.heap.size w W) => address_any l v W (HT.out.below hb hz))
  have HB := Lib.hid (fun W (hb : Below w.heap.size w W) => at_any n W (HT.out.below hb hz))
  rw [dist_ok hok] at HA
  rw [at_ok hth] at HB
  have HR := Lib.hid (right3_any l v)
  rw [hok] at HR
  have HTH := Lib.hid (there3_any n)
  rw [decide_eq_true hth] at HTH
  have HAD := Lib.hid (address3_any l v hok)
  have hA : ∃ A : Int, 8 * l + v = A := ⟨_, rfl⟩
  obtain ⟨A, hA⟩ := hA
  rw [hA] at HA HAD
  clear hA
  have HAT := Lib.hid (at3_any n hth)
  have heq := eql_same (n / 8) (n % 8)
  generalize n / 8 = x at *
  generalize n % 8 = y at *
  clear hok hth
  go_enter Tryd.func3, Tryd.ntmps3
  go_wp2_with fail
  refine (HA.out _ (by repeat (first | exact Below.refl _ _ | assumption | refine Below.drew ?_ | refine below_drewN ?_ _ | refine Below.alloc ?_ (by (try simp) <;> omega) _ | refine Below.setCell ?_ (by (try simp) <;> omega) _ | refine Below.trans ?_ (Below.mono (by assumption) (by (try simp) <;> omega))))).mono ?_
  rintro e w1 ⟨rfl, hb1⟩
  have z1 := hb1.size; try simp at z1
  have jP1 : Box2 w1 w.heap.size 23 l v := (Box2.new w 23 l v).below hb1 (by simp)
  have b1 : Below w.heap.size w w1 := (by repeat (first | exact Below.refl _ _ | assumption | refine Below.drew ?_ | refine below_drewN ?_ _ | refine Below.alloc ?_ (by (try simp) <;> omega) _ | refine Below.setCell ?_ (by (try simp) <;> omega) _ | refine Below.trans ?_ (Below.mono (by assumption) (by (try simp) <;> omega))))
  clear hb1
  go_wp2_with fail
  refine (HB.out _ (by repeat (first | exact Below.refl _ _ | assumption | refine Below.drew ?_ | refine below_drewN ?_ _ | refine Below.alloc ?_ (by (try simp) <;> omega) _ | refine Below.setCell ?_ (by (try simp) <;> omega) _ | refine Below.trans ?_ (Below.mono (by assumption) (by (try simp) <;> omega))))).mono ?_
  rintro e w2 ⟨rfl, hb2⟩
  have z2 := hb2.size
  have jP2 := jP1.below hb2 jP1.lt
  have b2 : Below w.heap.size w w2 := (by repeat (first | exact Below.refl _ _ | assumption | refine Below.drew ?_ | refine below_drewN ?_ _ | refine Below.alloc ?_ (by (try simp) <;> omega) _ | refine Below.setCell ?_ (by (try simp) <;> omega) _ | refine Below.trans ?_ (Below.mono (by assumption) (by (try simp) <;> omega))))
  clear hb2 jP1 b1
  have c1 := jP2.cell0
  have c2 := jP2.cell1
  have l2 := jP2.lt
  go_wp2_with fail
  refine (HR.out _).mono ?_
  rintro e w3 ⟨rfl, hb3⟩
  have z3 := hb3.size; try simp at z3
  have jQ3 : Box2 w3 w2.heap.size 23 x y := (Box2.new w2 23 x y).below hb3 (by simp)
  have jP3 := (jP2.alloc (.cells #[.int .i64 x, .int .i64 y] 23)).below hb3 (by simp; omega)
  have b3 : Below w.heap.size w w3 := (by repeat (first | exact Below.refl _ _ | assumption | refine Below.drew ?_ | refine below_drewN ?_ _ | refine Below.alloc ?_ (by (try simp) <;> omega) _ | refine Below.setCell ?_ (by (try simp) <;> omega) _ | refine Below.trans ?_ (Below.mono (by assumption) (by (try simp) <;> omega))))
  clear hb3 jP2 b2 c1 c2
  have c1 := jP3.cell0
  have c2 := jP3.cell1
  go_wp2_with fail
  refine (HAD.out _).mono ?_
  rintro e w4 ⟨rfl, hb4⟩
  have z4 := hb4.size; try simp at z4
  have jQ4 := jQ3.below hb4 jQ3.lt
  have b4 : Below w.heap.size w w4 := (by repeat (first | exact Below.refl _ _ | assumption | refine Below.drew ?_ | refine below_drewN ?_ _ | refine Below.alloc ?_ (by (try simp) <;> omega) _ | refine Below.setCell ?_ (by (try simp) <;> omega) _ | refine Below.trans ?_ (Below.mono (by assumption) (by (try simp) <;> omega))))
  clear hb4 jQ3 jP3 b3 c1 c2
  have d1 := jQ4.cell0
  have d2 := jQ4.cell1
  have l4 := jQ4.lt
  go_wp2_with (go_at_call 12; refine (num3_any _ _).mono ?_; rintro e w' ⟨rfl, rfl⟩)
  refine (HTH.out _).mono ?_
  rintro e w5 ⟨rfl, rfl⟩
  go_wp2_with fail
  go_region_held3 (fun w' => w'.cell? ⟨w2.heap.size, 0, none⟩ = some (.int .i64 x) ∧ w'.cell? ⟨w2.heap.size, 1, none⟩ = some (.int .i64 y) ∧ w2.heap.size < w'.heap.size) (first | exact ⟨d1, d2, l4⟩ | exact ⟨(hc6 _ _ l4).trans d1, (hc6 _ _ l4).trans d2, Nat.lt_of_lt_of_le l4 z6⟩ | exact ⟨(hc7 _ _ (Nat.lt_of_lt_of_le l4 z6)).trans ((hc6 _ _ l4).trans d1), (hc7 _ _ (Nat.lt_of_lt_of_le l4 z6)).trans ((hc6 _ _ l4).trans d2), Nat.lt_of_lt_of_le (Nat.lt_of_lt_of_le l4 z6) z7⟩)
    (first | (go_at_call 16; refine (HAT.out _).mono ?_; rintro e w6 ⟨rfl, hb6⟩; obtain ⟨hc6, hf6⟩ := bcell hb6; have z6 := hb6.size; try simp at z6) | (go_at_call 12; refine (num3_any _ _).mono ?_; rintro e w' ⟨rfl, rfl⟩) | (go_at_call 15; refine (works3_any _ (HT.out.below (B := w.heap.size) (by repeat (first | exact Below.refl _ _ | assumption | refine Below.drew ?_ | refine below_drewN ?_ _ | refine Below.alloc ?_ (by (try simp) <;> omega) _ | refine Below.setCell ?_ (by (try simp) <;> omega) _ | refine Below.trans ?_ (Below.mono (by assumption) (by (try simp) <;> omega)))) hz)).mono ?_; rintro e w7 ⟨rfl, hb7⟩; obtain ⟨hc7, hf7⟩ := bcell hb7; have z7 := hb7.size; try simp at z7))
  all_goals go_wp2_with fail
  all_goals go_ret
  all_goals exact ⟨rfl, (by repeat (first | exact Below.refl _ _ | assumption | refine Below.drew ?_ | refine below_drewN ?_ _ | refine Below.alloc ?_ (by (try simp) <;> omega) _ | refine Below.setCell ?_ (by (try simp) <;> omega) _ | refine Below.trans ?_ (Below.mono (by assumption) (by (try simp) <;> omega))))⟩
set_option maxHeartbeats 4000000 in
theorem addresses_yn (l v n : Int) (hok : okP l v = true) (hth : ¬ (0 ≤ n ∧ n < 8192)) (w : World) (ht : Ends w) :
    Calls Tryd.prog 3 #[.agg #[.int .i64 l, .int .i64 v], .int .i64 n] w fun e w' => e = .returned (.bool true) ∧ Below w.heap.size w w' := by
  have hz := ht.room
  have HT := Lib.hid ht; clear ht
  have HA := Lib.hid (fun W (hb : Below w.heap.size w W) => address_any l v W (HT.out.below hb hz))
  have HB := Lib.hid (fun W (hb : Below w.heap.size w W) => at_any n W (HT.out.below hb hz))
  rw [dist_ok hok] at HA
  rw [at_no hth] at HB
  have HR := Lib.hid (right3_any l v)
  rw [hok] at HR
  have HTH := Lib.hid (there3_any n)
  rw [decide_eq_false hth] at HTH
  have HAD := Lib.hid (address3_any l v hok)
  have hA : ∃ A : Int, 8 * l + v = A := ⟨_, rfl⟩
  obtain ⟨A, hA⟩ := hA
  rw [hA] at HA HAD
  clear hA
  have heq := eql_same 0 0
  clear hok hth
  go_enter Tryd.func3, Tryd.ntmps3
  go_wp2_with fail
  refine (HA.out _ (by repeat (first | exact Below.refl _ _ | assumption | refine Below.drew ?_ | refine below_drewN ?_ _ | refine Below.alloc ?_ (by (try simp) <;> omega) _ | refine Below.setCell ?_ (by (try simp) <;> omega) _ | refine Below.trans ?_ (Below.mono (by assumption) (by (try simp) <;> omega))))).mono ?_
  rintro e w1 ⟨rfl, hb1⟩
  have z1 := hb1.size; try simp at z1
  have jP1 : Box2 w1 w.heap.size 23 l v := (Box2.new w 23 l v).below hb1 (by simp)
  have b1 : Below w.heap.size w w1 := (by repeat (first | exact Below.refl _ _ | assumption | refine Below.drew ?_ | refine below_drewN ?_ _ | refine Below.alloc ?_ (by (try simp) <;> omega) _ | refine Below.setCell ?_ (by (try simp) <;> omega) _ | refine Below.trans ?_ (Below.mono (by assumption) (by (try simp) <;> omega))))
  clear hb1
  go_wp2_with fail
  refine (HB.out _ (by repeat (first | exact Below.refl _ _ | assumption | refine Below.drew ?_ | refine below_drewN ?_ _ | refine Below.alloc ?_ (by (try simp) <;> omega) _ | refine Below.setCell ?_ (by (try simp) <;> omega) _ | refine Below.trans ?_ (Below.mono (by assumption) (by (try simp) <;> omega))))).mono ?_
  rintro e w2 ⟨rfl, hb2⟩
  have z2 := hb2.size
  have jP2 := jP1.below hb2 jP1.lt
  have b2 : Below w.heap.size w w2 := (by repeat (first | exact Below.refl _ _ | assumption | refine Below.drew ?_ | refine below_drewN ?_ _ | refine Below.alloc ?_ (by (try simp) <;> omega) _ | refine Below.setCell ?_ (by (try simp) <;> omega) _ | refine Below.trans ?_ (Below.mono (by assumption) (by (try simp) <;> omega))))
  clear hb2 jP1 b1
  have c1 := jP2.cell0
  have c2 := jP2.cell1
  have l2 := jP2.lt
  go_wp2_with fail
  refine (HR.out _).mono ?_
  rintro e w3 ⟨rfl, hb3⟩
  have z3 := hb3.size; try simp at z3
  have jQ3 : Box2 w3 w2.heap.size 23 0 0 := (Box2.new w2 23 0 0).below hb3 (by simp)
  have jP3 := (jP2.alloc (.cells #[.int .i64 0, .int .i64 0] 23)).below hb3 (by simp; omega)
  have b3 : Below w.heap.size w w3 := (by repeat (first | exact Below.refl _ _ | assumption | refine Below.drew ?_ | refine below_drewN ?_ _ | refine Below.alloc ?_ (by (try simp) <;> omega) _ | refine Below.setCell ?_ (by (try simp) <;> omega) _ | refine Below.trans ?_ (Below.mono (by assumption) (by (try simp) <;> omega))))
  clear hb3 jP2 b2 c1 c2
  have c1 := jP3.cell0
  have c2 := jP3.cell1
  go_wp2_with fail
  refine (HAD.out _).mono ?_
  rintro e w4 ⟨rfl, hb4⟩
  have z4 := hb4.size; try simp at z4
  have jQ4 := jQ3.below hb4 jQ3.lt
  have b4 : Below w.heap.size w w4 := (by repeat (first | exact Below.refl _ _ | assumption | refine Below.drew ?_ | refine below_drewN ?_ _ | refine Below.alloc ?_ (by (try simp) <;> omega) _ | refine Below.setCell ?_ (by (try simp) <;> omega) _ | refine Below.trans ?_ (Below.mono (by assumption) (by (try simp) <;> omega))))
  clear hb4 jQ3 jP3 b3 c1 c2
  have d1 := jQ4.cell0
  have d2 := jQ4.cell1
  have l4 := jQ4.lt
  go_wp2_with (go_at_call 12; refine (num3_any _ _).mono ?_; rintro e w' ⟨rfl, rfl⟩)
  refine (HTH.out _).mono ?_
  rintro e w5 ⟨rfl, rfl⟩
  go_wp2_with (go_at_call 12; refine (num3_any _ _).mono ?_; rintro e w' ⟨rfl, rfl⟩)
  refine (works3_any _ (HT.out.below b4 hz)).mono ?_
  rintro e w6 ⟨rfl, hb6⟩
  go_wp2_with fail
  go_ret
  exact ⟨rfl, b4.trans (hb6.mono b4.size)⟩
set_option maxHeartbeats 4000000 in
theorem addresses_ny (l v n : Int) (hok : okP l v = false) (hth : 0 ≤ n ∧ n < 8192) (w : World) (ht : Ends w) :
    Calls Tryd.prog 3 #[.agg #[.int .i64 l, .int .i64 v], .int .i64 n] w fun e w' => e = .returned (.bool true) ∧ Below w.heap.size w w' := by
  have hz := ht.room
  have HT := Lib.hid ht; clear ht
  have HA := Lib.hid (fun W (hb : Below w.heap.size w W) => address_any l v W (HT.out.below hb hz))
  have HB := Lib.hid (fun W (hb : Below w.heap.size w W) => at_any n W (HT.out.below hb hz))
  rw [dist_no hok] at HA
  rw [at_ok hth] at HB
  have HR := Lib.hid (right3_any l v)
  rw [hok] at HR
  have HTH := Lib.hid (there3_any n)
  rw [decide_eq_true hth] at HTH
  have HAT := Lib.hid (at3_any n hth)
  have heq := eql_same (n / 8) (n % 8)
  generalize n / 8 = x at *
  generalize n % 8 = y at *
  clear hok hth
  go_enter Tryd.func3, Tryd.ntmps3
  go_wp2_with fail
  refine (HA.out _ (by repeat (first | exact Below.refl _ _ | assumption | refine Below.drew ?_ | refine below_drewN ?_ _ | refine Below.alloc ?_ (by (try simp) <;> omega) _ | refine Below.setCell ?_ (by (try simp) <;> omega) _ | refine Below.trans ?_ (Below.mono (by assumption) (by (try simp) <;> omega))))).mono ?_
  rintro e w1 ⟨rfl, hb1⟩
  have z1 := hb1.size; try simp at z1
  have jP1 : Box2 w1 w.heap.size 23 l v := (Box2.new w 23 l v).below hb1 (by simp)
  have b1 : Below w.heap.size w w1 := (by repeat (first | exact Below.refl _ _ | assumption | refine Below.drew ?_ | refine below_drewN ?_ _ | refine Below.alloc ?_ (by (try simp) <;> omega) _ | refine Below.setCell ?_ (by (try simp) <;> omega) _ | refine Below.trans ?_ (Below.mono (by assumption) (by (try simp) <;> omega))))
  clear hb1
  go_wp2_with fail
  refine (HB.out _ (by repeat (first | exact Below.refl _ _ | assumption | refine Below.drew ?_ | refine below_drewN ?_ _ | refine Below.alloc ?_ (by (try simp) <;> omega) _ | refine Below.setCell ?_ (by (try simp) <;> omega) _ | refine Below.trans ?_ (Below.mono (by assumption) (by (try simp) <;> omega))))).mono ?_
  rintro e w2 ⟨rfl, hb2⟩
  have z2 := hb2.size
  have jP2 := jP1.below hb2 jP1.lt
  have b2 : Below w.heap.size w w2 := (by repeat (first | exact Below.refl _ _ | assumption | refine Below.drew ?_ | refine below_drewN ?_ _ | refine Below.alloc ?_ (by (try simp) <;> omega) _ | refine Below.setCell ?_ (by (try simp) <;> omega) _ | refine Below.trans ?_ (Below.mono (by assumption) (by (try simp) <;> omega))))
  clear hb2 jP1 b1
  have c1 := jP2.cell0
  have c2 := jP2.cell1
  have l2 := jP2.lt
  go_wp2_with fail
  refine (HR.out _).mono ?_
  rintro e w3 ⟨rfl, hb3⟩
  have z3 := hb3.size; try simp at z3
  have jQ3 : Box2 w3 w2.heap.size 23 x y := (Box2.new w2 23 x y).below hb3 (by simp)
  have jP3 := (jP2.alloc (.cells #[.int .i64 x, .int .i64 y] 23)).below hb3 (by simp; omega)
  have b3 : Below w.heap.size w w3 := (by repeat (first | exact Below.refl _ _ | assumption | refine Below.drew ?_ | refine below_drewN ?_ _ | refine Below.alloc ?_ (by (try simp) <;> omega) _ | refine Below.setCell ?_ (by (try simp) <;> omega) _ | refine Below.trans ?_ (Below.mono (by assumption) (by (try simp) <;> omega))))
  clear hb3 jP2 b2 c1 c2
  have c1 := jP3.cell0
  have c2 := jP3.cell1
  have z4 := z3
  have jQ4 := jQ3
  have b4 := b3
  clear jQ3 jP3 b3 c1 c2
  have d1 := jQ4.cell0
  have d2 := jQ4.cell1
  have l4 := jQ4.lt
  go_wp2_with (go_at_call 12; refine (num3_any _ _).mono ?_; rintro e w' ⟨rfl, rfl⟩)
  refine (HTH.out _).mono ?_
  rintro e w5 ⟨rfl, rfl⟩
  go_wp2_with fail
  go_region_held3 (fun w' => w'.cell? ⟨w2.heap.size, 0, none⟩ = some (.int .i64 x) ∧ w'.cell? ⟨w2.heap.size, 1, none⟩ = some (.int .i64 y) ∧ w2.heap.size < w'.heap.size) (first | exact ⟨d1, d2, l4⟩ | exact ⟨(hc6 _ _ l4).trans d1, (hc6 _ _ l4).trans d2, Nat.lt_of_lt_of_le l4 z6⟩ | exact ⟨(hc7 _ _ (Nat.lt_of_lt_of_le l4 z6)).trans ((hc6 _ _ l4).trans d1), (hc7 _ _ (Nat.lt_of_lt_of_le l4 z6)).trans ((hc6 _ _ l4).trans d2), Nat.lt_of_lt_of_le (Nat.lt_of_lt_of_le l4 z6) z7⟩)
    (first | (go_at_call 16; refine (HAT.out _).mono ?_; rintro e w6 ⟨rfl, hb6⟩; obtain ⟨hc6, hf6⟩ := bcell hb6; have z6 := hb6.size; try simp at z6) | (go_at_call 12; refine (num3_any _ _).mono ?_; rintro e w' ⟨rfl, rfl⟩) | (go_at_call 15; refine (works3_any _ (HT.out.below (B := w.heap.size) (by repeat (first | exact Below.refl _ _ | assumption | refine Below.drew ?_ | refine below_drewN ?_ _ | refine Below.alloc ?_ (by (try simp) <;> omega) _ | refine Below.setCell ?_ (by (try simp) <;> omega) _ | refine Below.trans ?_ (Below.mono (by assumption) (by (try simp) <;> omega)))) hz)).mono ?_; rintro e w7 ⟨rfl, hb7⟩; obtain ⟨hc7, hf7⟩ := bcell hb7; have z7 := hb7.size; try simp at z7))
  all_goals go_wp2_with fail
  all_goals go_ret
  all_goals exact ⟨rfl, (by repeat (first | exact Below.refl _ _ | assumption | refine Below.drew ?_ | refine below_drewN ?_ _ | refine Below.alloc ?_ (by (try simp) <;> omega) _ | refine Below.setCell ?_ (by (try simp) <;> omega) _ | refine Below.trans ?_ (Below.mono (by assumption) (by (try simp) <;> omega))))⟩
set_option maxHeartbeats 4000000 in
theorem addresses_nn (l v n : Int) (hok : okP l v = false) (hth : ¬ (0 ≤ n ∧ n < 8192)) (w : World) (ht : Ends w) :
    Calls Tryd.prog 3 #[.agg #[.int .i64 l, .int .i64 v], .int .i64 n] w fun e w' => e = .returned (.bool true) ∧ Below w.heap.size w w' := by
  have hz := ht.room
  have HT := Lib.hid ht; clear ht
  have HA := Lib.hid (fun W (hb : Below w.heap.size w W) => address_any l v W (HT.out.below hb hz))
  have HB := Lib.hid (fun W (hb : Below w.heap.size w W) => at_any n W (HT.out.below hb hz))
  rw [dist_no hok] at HA
  rw [at_no hth] at HB
  have HR := Lib.hid (right3_any l v)
  rw [hok] at HR
  have HTH := Lib.hid (there3_any n)
  rw [decide_eq_false hth] at HTH
  have heq := eql_same 0 0
  clear hok hth
  go_enter Tryd.func3, Tryd.ntmps3
  go_wp2_with fail
  refine (HA.out _ (by repeat (first | exact Below.refl _ _ | assumption | refine Below.drew ?_ | refine below_drewN ?_ _ | refine Below.alloc ?_ (by (try simp) <;> omega) _ | refine Below.setCell ?_ (by (try simp) <;> omega) _ | refine Below.trans ?_ (Below.mono (by assumption) (by (try simp) <;> omega))))).mono ?_
  rintro e w1 ⟨rfl, hb1⟩
  have z1 := hb1.size; try simp at z1
  have jP1 : Box2 w1 w.heap.size 23 l v := (Box2.new w 23 l v).below hb1 (by simp)
  have b1 : Below w.heap.size w w1 := (by repeat (first | exact Below.refl _ _ | assumption | refine Below.drew ?_ | refine below_drewN ?_ _ | refine Below.alloc ?_ (by (try simp) <;> omega) _ | refine Below.setCell ?_ (by (try simp) <;> omega) _ | refine Below.trans ?_ (Below.mono (by assumption) (by (try simp) <;> omega))))
  clear hb1
  go_wp2_with fail
  refine (HB.out _ (by repeat (first | exact Below.refl _ _ | assumption | refine Below.drew ?_ | refine below_drewN ?_ _ | refine Below.alloc ?_ (by (try simp) <;> omega) _ | refine Below.setCell ?_ (by (try simp) <;> omega) _ | refine Below.trans ?_ (Below.mono (by assumption) (by (try simp) <;> omega))))).mono ?_
  rintro e w2 ⟨rfl, hb2⟩
  have z2 := hb2.size
  have jP2 := jP1.below hb2 jP1.lt
  have b2 : Below w.heap.size w w2 := (by repeat (first | exact Below.refl _ _ | assumption | refine Below.drew ?_ | refine below_drewN ?_ _ | refine Below.alloc ?_ (by (try simp) <;> omega) _ | refine Below.setCell ?_ (by (try simp) <;> omega) _ | refine Below.trans ?_ (Below.mono (by assumption) (by (try simp) <;> omega))))
  clear hb2 jP1 b1
  have c1 := jP2.cell0
  have c2 := jP2.cell1
  have l2 := jP2.lt
  go_wp2_with fail
  refine (HR.out _).mono ?_
  rintro e w3 ⟨rfl, hb3⟩
  have z3 := hb3.size; try simp at z3
  have jQ3 : Box2 w3 w2.heap.size 23 0 0 := (Box2.new w2 23 0 0).below hb3 (by simp)
  have jP3 := (jP2.alloc (.cells #[.int .i64 0, .int .i64 0] 23)).below hb3 (by simp; omega)
  have b3 : Below w.heap.size w w3 := (by repeat (first | exact Below.refl _ _ | assumption | refine Below.drew ?_ | refine below_drewN ?_ _ | refine Below.alloc ?_ (by (try simp) <;> omega) _ | refine Below.setCell ?_ (by (try simp) <;> omega) _ | refine Below.trans ?_ (Below.mono (by assumption) (by (try simp) <;> omega))))
  clear hb3 jP2 b2 c1 c2
  have c1 := jP3.cell0
  have c2 := jP3.cell1
  have z4 := z3
  have jQ4 := jQ3
  have b4 := b3
  clear jQ3 jP3 b3 c1 c2
  have d1 := jQ4.cell0
  have d2 := jQ4.cell1
  have l4 := jQ4.lt
  go_wp2_with (go_at_call 12; refine (num3_any _ _).mono ?_; rintro e w' ⟨rfl, rfl⟩)
  refine (HTH.out _).mono ?_
  rintro e w5 ⟨rfl, rfl⟩
  go_wp2_with (go_at_call 12; refine (num3_any _ _).mono ?_; rintro e w' ⟨rfl, rfl⟩)
  refine (works3_any _ (HT.out.below b4 hz)).mono ?_
  rintro e w6 ⟨rfl, hb6⟩
  go_wp2_with fail
  go_ret
  exact ⟨rfl, b4.trans (hb6.mono b4.size)⟩
theorem addresses_any (l v n : Int) (w : World) (ht : Ends w) :
    Calls Tryd.prog 3 #[.agg #[.int .i64 l, .int .i64 v], .int .i64 n] w fun e w' => e = .returned (.bool true) ∧ Below w.heap.size w w' := by
  cases hok : okP l v with
  | true =>
    by_cases hth : 0 ≤ n ∧ n < 8192
    · exact addresses_yy l v n hok hth w ht
    · exact addresses_yn l v n hok hth w ht
  | false =>
    by_cases hth : 0 ≤ n ∧ n < 8192
    · exact addresses_ny l v n hok hth w ht
    · exact addresses_nn l v n hok hth w ht
end Go.Proofs.YtkighpfckibkoaaDoor
