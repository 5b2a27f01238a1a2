/-
  The walk of the law PlaceMoves.
-/
import Derived.Test.YtkighpfckibkoaaDoorPlaL1
import Derived.Deep.RegionHeld3
namespace Go.Proofs.YtkighpfckibkoaaDoor
open Go.RowKit Go.Shelf

theorem neq_same (x y : Int) (W : World) : (binOp .neq 23 (.agg #[.int .i64 x, .int .i64 y]) (.agg #[.int .i64 x, .int .i64 y])).run Tryd.prog W = .ok (.bool false) W := by
  rw [neq_place]; simp
theorem move_out_no {l v b : Int} (h : okP l v = false) : moveOut l v b = .tuple #[.agg #[.int .i64 0, .int .i64 0], .int .i64 2] := by
  have h1 : moveOk l v b = false := by unfold moveOk; rw [h]; rfl
  unfold moveOut moveL moveV moveE; rw [h1, h]; simp
theorem move_out_far {l v b : Int} (h : okP l v = true) (hb : ¬ (0 ≤ 8 * l + v + b ∧ 8 * l + v + b < 8192)) : moveOut l v b = .tuple #[.agg #[.int .i64 0, .int .i64 0], .int .i64 4] := by
  have h1 : moveOk l v b = false := by unfold moveOk; rw [decide_eq_false hb]; simp
  unfold moveOut moveL moveV moveE; rw [h1, h]; simp
theorem move_out_ok {l v b : Int} (h : okP l v = true) (hb : 0 ≤ 8 * l + v + b ∧ 8 * l + v + b < 8192) : moveOut l v b = .tuple #[.agg #[.int .i64 ((8 * l + v + b) / 8), .int .i64 ((8 * l + v + b) % 8)], .int .i64 0] := by
  have h1 : moveOk l v b = true := by unfold moveOk; rw [h, decide_eq_true hb]; rfl
  unfold moveOut moveL moveV moveE; rw [h1, h]; simp
theorem dist_out_ok {l v l2 v2 : Int} (h : okP l v = true) (h2 : okP l2 v2 = true) : distOut l v l2 v2 = .tuple #[.int .i64 ((8 * l2 + v2) - (8 * l + v)), .int .i64 0] := by
  unfold distOut distN distE; rw [h, h2]; simp
theorem dist_out_no1 {l v l2 v2 : Int} (h : okP l v = false) : distOut l v l2 v2 = .tuple #[.int .i64 0, .int .i64 2] := by
  unfold distOut distN distE; rw [h]; simp
theorem dist_out_no2 {l v l2 v2 : Int} (h : okP l2 v2 = false) : distOut l v l2 v2 = .tuple #[.int .i64 0, .int .i64 2] := by
  unfold distOut distN distE; rw [h]; simp
set_option maxHeartbeats 4000000 in
theorem moves_n (l v l2 v2 n : Int) (_hn1 : -9223372036854775808 ≤ n) (_hn2 : n ≤ 9223372036854775807) (ha : okP l v = false) (w : World) (ht : Ends w) :
    Calls Tryd.prog 4 #[.agg #[.int .i64 l, .int .i64 v], .agg #[.int .i64 l2, .int .i64 v2], .int .i64 n] w fun e w' => e = .returned (.bool true) ∧ Below w.heap.size w w' := by
  have hz := ht.room
  have HT := Lib.hid ht; clear ht
  have HM := Lib.hid (fun W (hb : Below w.heap.size w W) => move_any l v n W (HT.out.below hb hz))
  have HD := Lib.hid (fun W (hb : Below w.heap.size w W) => distance_any l v l2 v2 W (HT.out.below hb hz))
  have HR := Lib.hid (right3_any l v)
  rw [ha] at HR
  rw [move_out_no ha] at HM
  rw [dist_out_no1 ha] at HD
  have heq := eql_same 0 0
  clear ha
  go_enter Tryd.func4, Tryd.ntmps4
  go_wp2_with fail
  refine (HM.out _ (by repeat (first | exact Below.refl _ _ | assumption | refine Below.drew ?_ | refine below_drewN ?_ _ | refine Below.alloc ?_ (by (try simp) <;> omega) _ | refine Below.setCell ?_ (by (try simp) <;> omega) _ | refine Below.trans ?_ (Below.mono (by assumption) (by (try simp) <;> omega))))).mono ?_
  rintro e w1 ⟨rfl, hb1⟩
  have z1 := hb1.size; try simp at z1
  have jP1 : Box2 w1 w.heap.size 23 l v := ((Box2.new w 23 l v).alloc (.cells #[.int .i64 l2, .int .i64 v2] 23)).below hb1 (by simp; omega)
  have jB1 : Box2 w1 (w.heap.size + 1) 23 l2 v2 := by
    have h := Box2.new (w.alloc (.cells #[.int .i64 l, .int .i64 v] 23)) 23 l2 v2
    rw [World.size_alloc] at h
    exact h.below hb1 (by simp)
  have b1 : Below w.heap.size w w1 := (by repeat (first | exact Below.refl _ _ | assumption | refine Below.drew ?_ | refine below_drewN ?_ _ | refine Below.alloc ?_ (by (try simp) <;> omega) _ | refine Below.setCell ?_ (by (try simp) <;> omega) _ | refine Below.trans ?_ (Below.mono (by assumption) (by (try simp) <;> omega))))
  clear hb1
  have c1 := jP1.cell0
  have c2 := jP1.cell1
  have c3 := jB1.cell0
  have c4 := jB1.cell1
  have l1 := jB1.lt
  have l0 := jP1.lt
  go_wp2_with fail
  refine (HD.out _ (by repeat (first | exact Below.refl _ _ | assumption | refine Below.drew ?_ | refine below_drewN ?_ _ | refine Below.alloc ?_ (by (try simp) <;> omega) _ | refine Below.setCell ?_ (by (try simp) <;> omega) _ | refine Below.trans ?_ (Below.mono (by assumption) (by (try simp) <;> omega))))).mono ?_
  rintro e w2 ⟨rfl, hb2⟩
  have z2 := hb2.size; try simp at z2
  have jQ2 : Box2 w2 w1.heap.size 23 0 0 := (Box2.new w1 23 0 0).below hb2 (by simp)
  have jP2 := (jP1.alloc (.cells #[.int .i64 0, .int .i64 0] 23)).below hb2 (by simp; omega)
  have jB2 := (jB1.alloc (.cells #[.int .i64 0, .int .i64 0] 23)).below hb2 (by simp; omega)
  have b2 : Below w.heap.size w w2 := (by repeat (first | exact Below.refl _ _ | assumption | refine Below.drew ?_ | refine below_drewN ?_ _ | refine Below.alloc ?_ (by (try simp) <;> omega) _ | refine Below.setCell ?_ (by (try simp) <;> omega) _ | refine Below.trans ?_ (Below.mono (by assumption) (by (try simp) <;> omega))))
  clear hb2 jP1 jB1 b1 c1 c2 c3 c4
  have c1 := jP2.cell0
  have c2 := jP2.cell1
  go_wp2_with fail
  refine (HR.out _).mono ?_
  rintro e w3 ⟨rfl, hb3⟩
  have z3 := hb3.size
  have jQ3 := jQ2.below hb3 jQ2.lt
  have jP3 := jP2.below hb3 jP2.lt
  have jB3 := jB2.below hb3 jB2.lt
  have b3 : Below w.heap.size w w3 := (by repeat (first | exact Below.refl _ _ | assumption | refine Below.drew ?_ | refine below_drewN ?_ _ | refine Below.alloc ?_ (by (try simp) <;> omega) _ | refine Below.setCell ?_ (by (try simp) <;> omega) _ | refine Below.trans ?_ (Below.mono (by assumption) (by (try simp) <;> omega))))
  clear hb3 jP2 jB2 jQ2 b2 c1 c2
  have d1 := jQ3.cell0
  have d2 := jQ3.cell1
  go_wp2_with (go_at_call 12; refine (num3_any _ _).mono ?_; rintro e w' ⟨rfl, rfl⟩)
  refine (works3_any _ (HT.out.below b3 hz)).mono ?_
  rintro e w6 ⟨rfl, hb6⟩
  go_wp2_with fail
  go_ret
  exact ⟨rfl, b3.trans (hb6.mono b3.size)⟩
set_option maxHeartbeats 4000000 in
theorem moves_yoy (l v l2 v2 n : Int) (_hn1 : -9223372036854775808 ≤ n) (_hn2 : n ≤ 9223372036854775807) (ha : okP l v = true) (hr : ¬ (0 ≤ 8 * l + v + n ∧ 8 * l + v + n < 8192)) (hb : okP l2 v2 = true) (w : World) (ht : Ends w) :
    Calls Tryd.prog 4 #[.agg #[.int .i64 l, .int .i64 v], .agg #[.int .i64 l2, .int .i64 v2], .int .i64 n] w fun e w' => e = .returned (.bool true) ∧ Below w.heap.size w w' := by
  have hz := ht.room
  have HT := Lib.hid ht; clear ht
  have HM := Lib.hid (fun W (hb : Below w.heap.size w W) => move_any l v n W (HT.out.below hb hz))
  have HD := Lib.hid (fun W (hb : Below w.heap.size w W) => distance_any l v l2 v2 W (HT.out.below hb hz))
  have HR := Lib.hid (right3_any l v)
  rw [ha] at HR
  have HR2 := Lib.hid (right3_any l2 v2)
  rw [hb] at HR2
  have HAD := Lib.hid (address3_any l v ha)
  have oa := okP_iff.1 ha
  rw [move_out_far ha hr] at HM
  rw [dist_out_ok ha hb] at HD
  have HAD2 := Lib.hid (address3_any l2 v2 hb)
  have ob := okP_iff.1 hb
  obtain ⟨B, hB⟩ : ∃ B : Int, 8 * l2 + v2 = B := ⟨_, rfl⟩
  have hB2 : 0 ≤ B ∧ B < 8192 := by omega
  rw [hB] at HD HAD2
  clear hB ob
  obtain ⟨A, hA⟩ : ∃ A : Int, 8 * l + v = A := ⟨_, rfl⟩
  have hA2 : 0 ≤ A ∧ A < 8192 := by omega
  rw [hA] at hr HAD HD
  clear hA oa
  have hr1 : n < -A ∨ 8191 - A < n := by omega
  have heq := neq_same 0 0
  clear ha hb
  go_enter Tryd.func4, Tryd.ntmps4
  go_wp2_with fail
  refine (HM.out _ (by repeat (first | exact Below.refl _ _ | assumption | refine Below.drew ?_ | refine below_drewN ?_ _ | refine Below.alloc ?_ (by (try simp) <;> omega) _ | refine Below.setCell ?_ (by (try simp) <;> omega) _ | refine Below.trans ?_ (Below.mono (by assumption) (by (try simp) <;> omega))))).mono ?_
  rintro e w1 ⟨rfl, hb1⟩
  have z1 := hb1.size; try simp at z1
  have jP1 : Box2 w1 w.heap.size 23 l v := ((Box2.new w 23 l v).alloc (.cells #[.int .i64 l2, .int .i64 v2] 23)).below hb1 (by simp; omega)
  have jB1 : Box2 w1 (w.heap.size + 1) 23 l2 v2 := by
    have h := Box2.new (w.alloc (.cells #[.int .i64 l, .int .i64 v] 23)) 23 l2 v2
    rw [World.size_alloc] at h
    exact h.below hb1 (by simp)
  have b1 : Below w.heap.size w w1 := (by repeat (first | exact Below.refl _ _ | assumption | refine Below.drew ?_ | refine below_drewN ?_ _ | refine Below.alloc ?_ (by (try simp) <;> omega) _ | refine Below.setCell ?_ (by (try simp) <;> omega) _ | refine Below.trans ?_ (Below.mono (by assumption) (by (try simp) <;> omega))))
  clear hb1
  have c1 := jP1.cell0
  have c2 := jP1.cell1
  have c3 := jB1.cell0
  have c4 := jB1.cell1
  have l1 := jB1.lt
  have l0 := jP1.lt
  go_wp2_with fail
  refine (HD.out _ (by repeat (first | exact Below.refl _ _ | assumption | refine Below.drew ?_ | refine below_drewN ?_ _ | refine Below.alloc ?_ (by (try simp) <;> omega) _ | refine Below.setCell ?_ (by (try simp) <;> omega) _ | refine Below.trans ?_ (Below.mono (by assumption) (by (try simp) <;> omega))))).mono ?_
  rintro e w2 ⟨rfl, hb2⟩
  have z2 := hb2.size; try simp at z2
  have jQ2 : Box2 w2 w1.heap.size 23 0 0 := (Box2.new w1 23 0 0).below hb2 (by simp)
  have jP2 := (jP1.alloc (.cells #[.int .i64 0, .int .i64 0] 23)).below hb2 (by simp; omega)
  have jB2 := (jB1.alloc (.cells #[.int .i64 0, .int .i64 0] 23)).below hb2 (by simp; omega)
  have b2 : Below w.heap.size w w2 := (by repeat (first | exact Below.refl _ _ | assumption | refine Below.drew ?_ | refine below_drewN ?_ _ | refine Below.alloc ?_ (by (try simp) <;> omega) _ | refine Below.setCell ?_ (by (try simp) <;> omega) _ | refine Below.trans ?_ (Below.mono (by assumption) (by (try simp) <;> omega))))
  clear hb2 jP1 jB1 b1 c1 c2 c3 c4
  have c1 := jP2.cell0
  have c2 := jP2.cell1
  go_wp2_with fail
  refine (HR.out _).mono ?_
  rintro e w3 ⟨rfl, hb3⟩
  have z3 := hb3.size
  have jQ3 := jQ2.below hb3 jQ2.lt
  have jP3 := jP2.below hb3 jP2.lt
  have jB3 := jB2.below hb3 jB2.lt
  have b3 : Below w.heap.size w w3 := (by repeat (first | exact Below.refl _ _ | assumption | refine Below.drew ?_ | refine below_drewN ?_ _ | refine Below.alloc ?_ (by (try simp) <;> omega) _ | refine Below.setCell ?_ (by (try simp) <;> omega) _ | refine Below.trans ?_ (Below.mono (by assumption) (by (try simp) <;> omega))))
  clear hb3 jP2 jB2 jQ2 b2 c1 c2
  have c1 := jP3.cell0
  have c2 := jP3.cell1
  go_wp2_with fail
  refine (HAD.out _).mono ?_
  rintro e w4 ⟨rfl, hb4⟩
  have z4 := hb4.size
  have jQ4 := jQ3.below hb4 jQ3.lt
  have jB4 := jB3.below hb4 jB3.lt
  have b4 : Below w.heap.size w w4 := (by repeat (first | exact Below.refl _ _ | assumption | refine Below.drew ?_ | refine below_drewN ?_ _ | refine Below.alloc ?_ (by (try simp) <;> omega) _ | refine Below.setCell ?_ (by (try simp) <;> omega) _ | refine Below.trans ?_ (Below.mono (by assumption) (by (try simp) <;> omega))))
  clear hb4 jQ3 jP3 jB3 b3 c1 c2
  have d1 := jQ4.cell0
  have d2 := jQ4.cell1
  have l4 := jQ4.lt
  have d3 := jB4.cell0
  have d4 := jB4.cell1
  have l5 := jB4.lt
  have hd0 : (decide (n < -A) || decide (8191 - A < n)) = true := by rcases hr1 with h | h <;> simp [h]
  rcases hr1 with hr1 | hr1
  · go_wp2_with (go_at_call 12; refine (num3_any _ _).mono ?_; rintro e w' ⟨rfl, rfl⟩)
    refine (HR2.out _).mono ?_
    rintro e w5 ⟨rfl, hb5⟩
    have z5 := hb5.size
    have b5 : Below w.heap.size w w5 := (by repeat (first | exact Below.refl _ _ | assumption | refine Below.drew ?_ | refine below_drewN ?_ _ | refine Below.alloc ?_ (by (try simp) <;> omega) _ | refine Below.setCell ?_ (by (try simp) <;> omega) _ | refine Below.trans ?_ (Below.mono (by assumption) (by (try simp) <;> omega))))
    obtain ⟨hc5, hf5⟩ := bcell hb5
    have f1 : w5.cell? ⟨w.heap.size + 1, 0, none⟩ = some (.int .i64 l2) := (hc5 _ _ l5).trans d3
    have f2 : w5.cell? ⟨w.heap.size + 1, 1, none⟩ = some (.int .i64 v2) := (hc5 _ _ l5).trans d4
    clear hc5 hf5
    clear hb5
    go_wp2_with fail
    refine (HAD2.out _).mono ?_
    rintro e w6 ⟨rfl, hb6⟩
    have b6 : Below w.heap.size w w6 := (by repeat (first | exact Below.refl _ _ | assumption | refine Below.drew ?_ | refine below_drewN ?_ _ | refine Below.alloc ?_ (by (try simp) <;> omega) _ | refine Below.setCell ?_ (by (try simp) <;> omega) _ | refine Below.trans ?_ (Below.mono (by assumption) (by (try simp) <;> omega))))
    have z6 := b6.size
    clear hb6
    go_wp2_with (go_at_call 12; refine (num3_any _ _).mono ?_; rintro e w' ⟨rfl, rfl⟩)
    refine (works3_any _ (HT.out.below b6 hz)).mono ?_
    rintro e w7 ⟨rfl, hb7⟩
    go_wp2_with fail
    go_ret
    exact ⟨rfl, b6.trans (hb7.mono z6)⟩
  · have hr2 : ¬ n < -A := by omega
    go_wp2_with (go_at_call 12; refine (num3_any _ _).mono ?_; rintro e w' ⟨rfl, rfl⟩)
    refine (HR2.out _).mono ?_
    rintro e w5 ⟨rfl, hb5⟩
    have z5 := hb5.size
    have b5 : Below w.heap.size w w5 := (by repeat (first | exact Below.refl _ _ | assumption | refine Below.drew ?_ | refine below_drewN ?_ _ | refine Below.alloc ?_ (by (try simp) <;> omega) _ | refine Below.setCell ?_ (by (try simp) <;> omega) _ | refine Below.trans ?_ (Below.mono (by assumption) (by (try simp) <;> omega))))
    obtain ⟨hc5, hf5⟩ := bcell hb5
    have f1 : w5.cell? ⟨w.heap.size + 1, 0, none⟩ = some (.int .i64 l2) := (hc5 _ _ l5).trans d3
    have f2 : w5.cell? ⟨w.heap.size + 1, 1, none⟩ = some (.int .i64 v2) := (hc5 _ _ l5).trans d4
    clear hc5 hf5
    clear hb5
    go_wp2_with fail
    refine (HAD2.out _).mono ?_
    rintro e w6 ⟨rfl, hb6⟩
    have b6 : Below w.heap.size w w6 := (by repeat (first | exact Below.refl _ _ | assumption | refine Below.drew ?_ | refine below_drewN ?_ _ | refine Below.alloc ?_ (by (try simp) <;> omega) _ | refine Below.setCell ?_ (by (try simp) <;> omega) _ | refine Below.trans ?_ (Below.mono (by assumption) (by (try simp) <;> omega))))
    have z6 := b6.size
    clear hb6
    go_wp2_with (go_at_call 12; refine (num3_any _ _).mono ?_; rintro e w' ⟨rfl, rfl⟩)
    refine (works3_any _ (HT.out.below b6 hz)).mono ?_
    rintro e w7 ⟨rfl, hb7⟩
    go_wp2_with fail
    go_ret
    exact ⟨rfl, b6.trans (hb7.mono z6)⟩
set_option maxHeartbeats 4000000 in
theorem moves_yon (l v l2 v2 n : Int) (_hn1 : -9223372036854775808 ≤ n) (_hn2 : n ≤ 9223372036854775807) (ha : okP l v = true) (hr : ¬ (0 ≤ 8 * l + v + n ∧ 8 * l + v + n < 8192)) (hb : okP l2 v2 = false) (w : World) (ht : Ends w) :
    Calls Tryd.prog 4 #[.agg #[.int .i64 l, .int .i64 v], .agg #[.int .i64 l2, .int .i64 v2], .int .i64 n] w fun e w' => e = .returned (.bool true) ∧ Below w.heap.size w w' := by
  have hz := ht.room
  have HT := Lib.hid ht; clear ht
  have HM := Lib.hid (fun W (hb : Below w.heap.size w W) => move_any l v n W (HT.out.below hb hz))
  have HD := Lib.hid (fun W (hb : Below w.heap.size w W) => distance_any l v l2 v2 W (HT.out.below hb hz))
  have HR := Lib.hid (right3_any l v)
  rw [ha] at HR
  have HR2 := Lib.hid (right3_any l2 v2)
  rw [hb] at HR2
  have HAD := Lib.hid (address3_any l v ha)
  have oa := okP_iff.1 ha
  rw [move_out_far ha hr] at HM
  rw [dist_out_no2 hb] at HD
  obtain ⟨A, hA⟩ : ∃ A : Int, 8 * l + v = A := ⟨_, rfl⟩
  have hA2 : 0 ≤ A ∧ A < 8192 := by omega
  rw [hA] at hr HAD
  clear hA oa
  have hr1 : n < -A ∨ 8191 - A < n := by omega
  have heq := neq_same 0 0
  clear ha hb
  go_enter Tryd.func4, Tryd.ntmps4
  go_wp2_with fail
  refine (HM.out _ (by repeat (first | exact Below.refl _ _ | assumption | refine Below.drew ?_ | refine below_drewN ?_ _ | refine Below.alloc ?_ (by (try simp) <;> omega) _ | refine Below.setCell ?_ (by (try simp) <;> omega) _ | refine Below.trans ?_ (Below.mono (by assumption) (by (try simp) <;> omega))))).mono ?_
  rintro e w1 ⟨rfl, hb1⟩
  have z1 := hb1.size; try simp at z1
  have jP1 : Box2 w1 w.heap.size 23 l v := ((Box2.new w 23 l v).alloc (.cells #[.int .i64 l2, .int .i64 v2] 23)).below hb1 (by simp; omega)
  have jB1 : Box2 w1 (w.heap.size + 1) 23 l2 v2 := by
    have h := Box2.new (w.alloc (.cells #[.int .i64 l, .int .i64 v] 23)) 23 l2 v2
    rw [World.size_alloc] at h
    exact h.below hb1 (by simp)
  have b1 : Below w.heap.size w w1 := (by repeat (first | exact Below.refl _ _ | assumption | refine Below.drew ?_ | refine below_drewN ?_ _ | refine Below.alloc ?_ (by (try simp) <;> omega) _ | refine Below.setCell ?_ (by (try simp) <;> omega) _ | refine Below.trans ?_ (Below.mono (by assumption) (by (try simp) <;> omega))))
  clear hb1
  have c1 := jP1.cell0
  have c2 := jP1.cell1
  have c3 := jB1.cell0
  have c4 := jB1.cell1
  have l1 := jB1.lt
  have l0 := jP1.lt
  go_wp2_with fail
  refine (HD.out _ (by repeat (first | exact Below.refl _ _ | assumption | refine Below.drew ?_ | refine below_drewN ?_ _ | refine Below.alloc ?_ (by (try simp) <;> omega) _ | refine Below.setCell ?_ (by (try simp) <;> omega) _ | refine Below.trans ?_ (Below.mono (by assumption) (by (try simp) <;> omega))))).mono ?_
  rintro e w2 ⟨rfl, hb2⟩
  have z2 := hb2.size; try simp at z2
  have jQ2 : Box2 w2 w1.heap.size 23 0 0 := (Box2.new w1 23 0 0).below hb2 (by simp)
  have jP2 := (jP1.alloc (.cells #[.int .i64 0, .int .i64 0] 23)).below hb2 (by simp; omega)
  have jB2 := (jB1.alloc (.cells #[.int .i64 0, .int .i64 0] 23)).below hb2 (by simp; omega)
  have b2 : Below w.heap.size w w2 := (by repeat (first | exact Below.refl _ _ | assumption | refine Below.drew ?_ | refine below_drewN ?_ _ | refine Below.alloc ?_ (by (try simp) <;> omega) _ | refine Below.setCell ?_ (by (try simp) <;> omega) _ | refine Below.trans ?_ (Below.mono (by assumption) (by (try simp) <;> omega))))
  clear hb2 jP1 jB1 b1 c1 c2 c3 c4
  have c1 := jP2.cell0
  have c2 := jP2.cell1
  go_wp2_with fail
  refine (HR.out _).mono ?_
  rintro e w3 ⟨rfl, hb3⟩
  have z3 := hb3.size
  have jQ3 := jQ2.below hb3 jQ2.lt
  have jP3 := jP2.below hb3 jP2.lt
  have jB3 := jB2.below hb3 jB2.lt
  have b3 : Below w.heap.size w w3 := (by repeat (first | exact Below.refl _ _ | assumption | refine Below.drew ?_ | refine below_drewN ?_ _ | refine Below.alloc ?_ (by (try simp) <;> omega) _ | refine Below.setCell ?_ (by (try simp) <;> omega) _ | refine Below.trans ?_ (Below.mono (by assumption) (by (try simp) <;> omega))))
  clear hb3 jP2 jB2 jQ2 b2 c1 c2
  have c1 := jP3.cell0
  have c2 := jP3.cell1
  go_wp2_with fail
  refine (HAD.out _).mono ?_
  rintro e w4 ⟨rfl, hb4⟩
  have z4 := hb4.size
  have jQ4 := jQ3.below hb4 jQ3.lt
  have jB4 := jB3.below hb4 jB3.lt
  have b4 : Below w.heap.size w w4 := (by repeat (first | exact Below.refl _ _ | assumption | refine Below.drew ?_ | refine below_drewN ?_ _ | refine Below.alloc ?_ (by (try simp) <;> omega) _ | refine Below.setCell ?_ (by (try simp) <;> omega) _ | refine Below.trans ?_ (Below.mono (by assumption) (by (try simp) <;> omega))))
  clear hb4 jQ3 jP3 jB3 b3 c1 c2
  have d1 := jQ4.cell0
  have d2 := jQ4.cell1
  have l4 := jQ4.lt
  have d3 := jB4.cell0
  have d4 := jB4.cell1
  have l5 := jB4.lt
  have hd0 : (decide (n < -A) || decide (8191 - A < n)) = true := by rcases hr1 with h | h <;> simp [h]
  rcases hr1 with hr1 | hr1
  · go_wp2_with (go_at_call 12; refine (num3_any _ _).mono ?_; rintro e w' ⟨rfl, rfl⟩)
    refine (HR2.out _).mono ?_
    rintro e w5 ⟨rfl, hb5⟩
    have z5 := hb5.size
    have b5 : Below w.heap.size w w5 := (by repeat (first | exact Below.refl _ _ | assumption | refine Below.drew ?_ | refine below_drewN ?_ _ | refine Below.alloc ?_ (by (try simp) <;> omega) _ | refine Below.setCell ?_ (by (try simp) <;> omega) _ | refine Below.trans ?_ (Below.mono (by assumption) (by (try simp) <;> omega))))
    clear hb5
    go_wp2_with (go_at_call 12; refine (num3_any _ _).mono ?_; rintro e w' ⟨rfl, rfl⟩)
    refine (works3_any _ (HT.out.below b5 hz)).mono ?_
    rintro e w7 ⟨rfl, hb7⟩
    go_wp2_with fail
    go_ret
    exact ⟨rfl, b5.trans (hb7.mono b5.size)⟩
  · have hr2 : ¬ n < -A := by omega
    go_wp2_with (go_at_call 12; refine (num3_any _ _).mono ?_; rintro e w' ⟨rfl, rfl⟩)
    refine (HR2.out _).mono ?_
    rintro e w5 ⟨rfl, hb5⟩
    have z5 := hb5.size
    have b5 : Below w.heap.size w w5 := (by repeat (first | exact Below.refl _ _ | assumption | refine Below.drew ?_ | refine below_drewN ?_ _ | refine Below.alloc ?_ (by (try simp) <;> omega) _ | refine Below.setCell ?_ (by (try simp) <;> omega) _ | refine Below.trans ?_ (Below.mono (by assumption) (by (try simp) <;> omega))))
    clear hb5
    go_wp2_with (go_at_call 12; refine (num3_any _ _).mono ?_; rintro e w' ⟨rfl, rfl⟩)
    refine (works3_any _ (HT.out.below b5 hz)).mono ?_
    rintro e w7 ⟨rfl, hb7⟩
    go_wp2_with fail
    go_ret
    exact ⟨rfl, b5.trans (hb7.mono b5.size)⟩
set_option maxHeartbeats 4000000 in
theorem moves_yiy (l v l2 v2 n : Int) (hn1 : -9223372036854775808 ≤ n) (hn2 : n ≤ 9223372036854775807) (ha : okP l v = true) (hr : (0 ≤ 8 * l + v + n ∧ 8 * l + v + n < 8192)) (hb : okP l2 v2 = true) (w : World) (ht : Ends w) :
    Calls Tryd.prog 4 #[.agg #[.int .i64 l, .int .i64 v], .agg #[.int .i64 l2, .int .i64 v2], .int .i64 n] w fun e w' => e = .returned (.bool true) ∧ Below w.heap.size w w' := by
  have hz := ht.room
  have HT := Lib.hid ht; clear ht
  have HM := Lib.hid (fun W (hb : Below w.heap.size w W) => move_any l v n W (HT.out.below hb hz))
  have HD := Lib.hid (fun W (hb : Below w.heap.size w W) => distance_any l v l2 v2 W (HT.out.below hb hz))
  have HR := Lib.hid (right3_any l v)
  rw [ha] at HR
  have HR2 := Lib.hid (right3_any l2 v2)
  rw [hb] at HR2
  have HAD := Lib.hid (address3_any l v ha)
  have oa := okP_iff.1 ha
  rw [move_out_ok ha hr] at HM
  have HAT := Lib.hid (at3_any (8 * l + v + n) hr)
  rw [dist_out_ok ha hb] at HD
  have HAD2 := Lib.hid (address3_any l2 v2 hb)
  have ob := okP_iff.1 hb
  obtain ⟨B, hB⟩ : ∃ B : Int, 8 * l2 + v2 = B := ⟨_, rfl⟩
  have hB2 : 0 ≤ B ∧ B < 8192 := by omega
  rw [hB] at HD HAD2
  clear hB ob
  obtain ⟨A, hA⟩ : ∃ A : Int, 8 * l + v = A := ⟨_, rfl⟩
  have hA2 : 0 ≤ A ∧ A < 8192 := by omega
  rw [hA] at hr HM HAT HAD HD
  clear hA oa
  have hr1 : ¬ n < -A := by omega
  have hr2 : ¬ 8191 - A < n := by omega
  have hwr : IntKind.i64.wrap (A + n) = A + n := IntWalk.i64_in _ (by omega)
  have heq := neq_same ((A + n) / 8) ((A + n) % 8)
  generalize hx : (A + n) / 8 = x at *
  generalize hy : (A + n) % 8 = y at *
  clear hx hy
  clear ha hb
  go_enter Tryd.func4, Tryd.ntmps4
  go_wp2_with fail
  refine (HM.out _ (by repeat (first | exact Below.refl _ _ | assumption | refine Below.drew ?_ | refine below_drewN ?_ _ | refine Below.alloc ?_ (by (try simp) <;> omega) _ | refine Below.setCell ?_ (by (try simp) <;> omega) _ | refine Below.trans ?_ (Below.mono (by assumption) (by (try simp) <;> omega))))).mono ?_
  rintro e w1 ⟨rfl, hb1⟩
  have z1 := hb1.size; try simp at z1
  have jP1 : Box2 w1 w.heap.size 23 l v := ((Box2.new w 23 l v).alloc (.cells #[.int .i64 l2, .int .i64 v2] 23)).below hb1 (by simp; omega)
  have jB1 : Box2 w1 (w.heap.size + 1) 23 l2 v2 := by
    have h := Box2.new (w.alloc (.cells #[.int .i64 l, .int .i64 v] 23)) 23 l2 v2
    rw [World.size_alloc] at h
    exact h.below hb1 (by simp)
  have b1 : Below w.heap.size w w1 := (by repeat (first | exact Below.refl _ _ | assumption | refine Below.drew ?_ | refine below_drewN ?_ _ | refine Below.alloc ?_ (by (try simp) <;> omega) _ | refine Below.setCell ?_ (by (try simp) <;> omega) _ | refine Below.trans ?_ (Below.mono (by assumption) (by (try simp) <;> omega))))
  clear hb1
  have c1 := jP1.cell0
  have c2 := jP1.cell1
  have c3 := jB1.cell0
  have c4 := jB1.cell1
  have l1 := jB1.lt
  have l0 := jP1.lt
  go_wp2_with fail
  refine (HD.out _ (by repeat (first | exact Below.refl _ _ | assumption | refine Below.drew ?_ | refine below_drewN ?_ _ | refine Below.alloc ?_ (by (try simp) <;> omega) _ | refine Below.setCell ?_ (by (try simp) <;> omega) _ | refine Below.trans ?_ (Below.mono (by assumption) (by (try simp) <;> omega))))).mono ?_
  rintro e w2 ⟨rfl, hb2⟩
  have z2 := hb2.size; try simp at z2
  have jQ2 : Box2 w2 w1.heap.size 23 x y := (Box2.new w1 23 x y).below hb2 (by simp)
  have jP2 := (jP1.alloc (.cells #[.int .i64 x, .int .i64 y] 23)).below hb2 (by simp; omega)
  have jB2 := (jB1.alloc (.cells #[.int .i64 x, .int .i64 y] 23)).below hb2 (by simp; omega)
  have b2 : Below w.heap.size w w2 := (by repeat (first | exact Below.refl _ _ | assumption | refine Below.drew ?_ | refine below_drewN ?_ _ | refine Below.alloc ?_ (by (try simp) <;> omega) _ | refine Below.setCell ?_ (by (try simp) <;> omega) _ | refine Below.trans ?_ (Below.mono (by assumption) (by (try simp) <;> omega))))
  clear hb2 jP1 jB1 b1 c1 c2 c3 c4
  have c1 := jP2.cell0
  have c2 := jP2.cell1
  go_wp2_with fail
  refine (HR.out _).mono ?_
  rintro e w3 ⟨rfl, hb3⟩
  have z3 := hb3.size
  have jQ3 := jQ2.below hb3 jQ2.lt
  have jP3 := jP2.below hb3 jP2.lt
  have jB3 := jB2.below hb3 jB2.lt
  have b3 : Below w.heap.size w w3 := (by repeat (first | exact Below.refl _ _ | assumption | refine Below.drew ?_ | refine below_drewN ?_ _ | refine Below.alloc ?_ (by (try simp) <;> omega) _ | refine Below.setCell ?_ (by (try simp) <;> omega) _ | refine Below.trans ?_ (Below.mono (by assumption) (by (try simp) <;> omega))))
  clear hb3 jP2 jB2 jQ2 b2 c1 c2
  have c1 := jP3.cell0
  have c2 := jP3.cell1
  go_wp2_with fail
  refine (HAD.out _).mono ?_
  rintro e w4 ⟨rfl, hb4⟩
  have z4 := hb4.size
  have jQ4 := jQ3.below hb4 jQ3.lt
  have jB4 := jB3.below hb4 jB3.lt
  have b4 : Below w.heap.size w w4 := (by repeat (first | exact Below.refl _ _ | assumption | refine Below.drew ?_ | refine below_drewN ?_ _ | refine Below.alloc ?_ (by (try simp) <;> omega) _ | refine Below.setCell ?_ (by (try simp) <;> omega) _ | refine Below.trans ?_ (Below.mono (by assumption) (by (try simp) <;> omega))))
  clear hb4 jQ3 jP3 jB3 b3 c1 c2
  have d1 := jQ4.cell0
  have d2 := jQ4.cell1
  have l4 := jQ4.lt
  have d3 := jB4.cell0
  have d4 := jB4.cell1
  have l5 := jB4.lt
  go_wp2_with fail
  go_region_held3 (fun w' => w'.cell? ⟨w1.heap.size, 0, none⟩ = some (.int .i64 x) ∧ w'.cell? ⟨w1.heap.size, 1, none⟩ = some (.int .i64 y) ∧ w1.heap.size < w'.heap.size) (first | exact ⟨d1, d2, l4⟩ | exact ⟨(hcA _ _ l4).trans d1, (hcA _ _ l4).trans d2, Nat.lt_of_lt_of_le l4 zA⟩)
    (first | (go_at_call 16; refine (HAT.out _).mono ?_; rintro e wA ⟨rfl, hbA⟩; obtain ⟨hcA, hfA⟩ := bcell hbA; have zA := hbA.size; try simp at zA) | (go_at_call 12; refine (num3_any _ _).mono ?_; rintro e w' ⟨rfl, rfl⟩))
  all_goals have g3 : wA.cell? ⟨w.heap.size + 1, 0, none⟩ = some (.int .i64 l2) := (hcA _ _ l5).trans d3
  all_goals have g4 : wA.cell? ⟨w.heap.size + 1, 1, none⟩ = some (.int .i64 v2) := (hcA _ _ l5).trans d4
  all_goals have l6 : w.heap.size + 1 < wA.heap.size := Nat.lt_of_lt_of_le l5 zA
  all_goals have bA : Below w.heap.size w wA := (by repeat (first | exact Below.refl _ _ | assumption | refine Below.drew ?_ | refine below_drewN ?_ _ | refine Below.alloc ?_ (by (try simp) <;> omega) _ | refine Below.setCell ?_ (by (try simp) <;> omega) _ | refine Below.trans ?_ (Below.mono (by assumption) (by (try simp) <;> omega))))
  all_goals go_wp2_with fail
  all_goals
    refine (HR2.out _).mono ?_
    rintro e w5 ⟨rfl, hb5⟩
    have z5 := hb5.size
    have b5 : Below w.heap.size w w5 := (by repeat (first | exact Below.refl _ _ | assumption | refine Below.drew ?_ | refine below_drewN ?_ _ | refine Below.alloc ?_ (by (try simp) <;> omega) _ | refine Below.setCell ?_ (by (try simp) <;> omega) _ | refine Below.trans ?_ (Below.mono (by assumption) (by (try simp) <;> omega))))
    obtain ⟨hc5, hf5⟩ := bcell hb5
    have f1 : w5.cell? ⟨w.heap.size + 1, 0, none⟩ = some (.int .i64 l2) := (hc5 _ _ l6).trans g3
    have f2 : w5.cell? ⟨w.heap.size + 1, 1, none⟩ = some (.int .i64 v2) := (hc5 _ _ l6).trans g4
    clear hc5 hf5
    clear hb5
    go_wp2_with fail
    refine (HAD2.out _).mono ?_
    rintro e w6 ⟨rfl, hb6⟩
    have b6 : Below w.heap.size w w6 := (by repeat (first | exact Below.refl _ _ | assumption | refine Below.drew ?_ | refine below_drewN ?_ _ | refine Below.alloc ?_ (by (try simp) <;> omega) _ | refine Below.setCell ?_ (by (try simp) <;> omega) _ | refine Below.trans ?_ (Below.mono (by assumption) (by (try simp) <;> omega))))
    have z6 := b6.size
    clear hb6
    go_wp2_with (go_at_call 12; refine (num3_any _ _).mono ?_; rintro e w' ⟨rfl, rfl⟩)
    refine (works3_any _ (HT.out.below b6 hz)).mono ?_
    rintro e w7 ⟨rfl, hb7⟩
    go_wp2_with fail
    go_ret
    exact ⟨rfl, b6.trans (hb7.mono z6)⟩
set_option maxHeartbeats 4000000 in
theorem moves_yin (l v l2 v2 n : Int) (hn1 : -9223372036854775808 ≤ n) (hn2 : n ≤ 9223372036854775807) (ha : okP l v = true) (hr : (0 ≤ 8 * l + v + n ∧ 8 * l + v + n < 8192)) (hb : okP l2 v2 = false) (w : World) (ht : Ends w) :
    Calls Tryd.prog 4 #[.agg #[.int .i64 l, .int .i64 v], .agg #[.int .i64 l2, .int .i64 v2], .int .i64 n] w fun e w' => e = .returned (.bool true) ∧ Below w.heap.size w w' := by
  have hz := ht.room
  have HT := Lib.hid ht; clear ht
  have HM := Lib.hid (fun W (hb : Below w.heap.size w W) => move_any l v n W (HT.out.below hb hz))
  have HD := Lib.hid (fun W (hb : Below w.heap.size w W) => distance_any l v l2 v2 W (HT.out.below hb hz))
  have HR := Lib.hid (right3_any l v)
  rw [ha] at HR
  have HR2 := Lib.hid (right3_any l2 v2)
  rw [hb] at HR2
  have HAD := Lib.hid (address3_any l v ha)
  have oa := okP_iff.1 ha
  rw [move_out_ok ha hr] at HM
  have HAT := Lib.hid (at3_any (8 * l + v + n) hr)
  rw [dist_out_no2 hb] at HD
  obtain ⟨A, hA⟩ : ∃ A : Int, 8 * l + v = A := ⟨_, rfl⟩
  have hA2 : 0 ≤ A ∧ A < 8192 := by omega
  rw [hA] at hr HM HAT HAD
  clear hA oa
  have hr1 : ¬ n < -A := by omega
  have hr2 : ¬ 8191 - A < n := by omega
  have hwr : IntKind.i64.wrap (A + n) = A + n := IntWalk.i64_in _ (by omega)
  have heq := neq_same ((A + n) / 8) ((A + n) % 8)
  generalize hx : (A + n) / 8 = x at *
  generalize hy : (A + n) % 8 = y at *
  clear hx hy
  clear ha hb
  go_enter Tryd.func4, Tryd.ntmps4
  go_wp2_with fail
  refine (HM.out _ (by repeat (first | exact Below.refl _ _ | assumption | refine Below.drew ?_ | refine below_drewN ?_ _ | refine Below.alloc ?_ (by (try simp) <;> omega) _ | refine Below.setCell ?_ (by (try simp) <;> omega) _ | refine Below.trans ?_ (Below.mono (by assumption) (by (try simp) <;> omega))))).mono ?_
  rintro e w1 ⟨rfl, hb1⟩
  have z1 := hb1.size; try simp at z1
  have jP1 : Box2 w1 w.heap.size 23 l v := ((Box2.new w 23 l v).alloc (.cells #[.int .i64 l2, .int .i64 v2] 23)).below hb1 (by simp; omega)
  have jB1 : Box2 w1 (w.heap.size + 1) 23 l2 v2 := by
    have h := Box2.new (w.alloc (.cells #[.int .i64 l, .int .i64 v] 23)) 23 l2 v2
    rw [World.size_alloc] at h
    exact h.below hb1 (by simp)
  have b1 : Below w.heap.size w w1 := (by repeat (first | exact Below.refl _ _ | assumption | refine Below.drew ?_ | refine below_drewN ?_ _ | refine Below.alloc ?_ (by (try simp) <;> omega) _ | refine Below.setCell ?_ (by (try simp) <;> omega) _ | refine Below.trans ?_ (Below.mono (by assumption) (by (try simp) <;> omega))))
  clear hb1
  have c1 := jP1.cell0
  have c2 := jP1.cell1
  have c3 := jB1.cell0
  have c4 := jB1.cell1
  have l1 := jB1.lt
  have l0 := jP1.lt
  go_wp2_with fail
  refine (HD.out _ (by repeat (first | exact Below.refl _ _ | assumption | refine Below.drew ?_ | refine below_drewN ?_ _ | refine Below.alloc ?_ (by (try simp) <;> omega) _ | refine Below.setCell ?_ (by (try simp) <;> omega) _ | refine Below.trans ?_ (Below.mono (by assumption) (by (try simp) <;> omega))))).mono ?_
  rintro e w2 ⟨rfl, hb2⟩
  have z2 := hb2.size; try simp at z2
  have jQ2 : Box2 w2 w1.heap.size 23 x y := (Box2.new w1 23 x y).below hb2 (by simp)
  have jP2 := (jP1.alloc (.cells #[.int .i64 x, .int .i64 y] 23)).below hb2 (by simp; omega)
  have jB2 := (jB1.alloc (.cells #[.int .i64 x, .int .i64 y] 23)).below hb2 (by simp; omega)
  have b2 : Below w.heap.size w w2 := (by repeat (first | exact Below.refl _ _ | assumption | refine Below.drew ?_ | refine below_drewN ?_ _ | refine Below.alloc ?_ (by (try simp) <;> omega) _ | refine Below.setCell ?_ (by (try simp) <;> omega) _ | refine Below.trans ?_ (Below.mono (by assumption) (by (try simp) <;> omega))))
  clear hb2 jP1 jB1 b1 c1 c2 c3 c4
  have c1 := jP2.cell0
  have c2 := jP2.cell1
  go_wp2_with fail
  refine (HR.out _).mono ?_
  rintro e w3 ⟨rfl, hb3⟩
  have z3 := hb3.size
  have jQ3 := jQ2.below hb3 jQ2.lt
  have jP3 := jP2.below hb3 jP2.lt
  have jB3 := jB2.below hb3 jB2.lt
  have b3 : Below w.heap.size w w3 := (by repeat (first | exact Below.refl _ _ | assumption | refine Below.drew ?_ | refine below_drewN ?_ _ | refine Below.alloc ?_ (by (try simp) <;> omega) _ | refine Below.setCell ?_ (by (try simp) <;> omega) _ | refine Below.trans ?_ (Below.mono (by assumption) (by (try simp) <;> omega))))
  clear hb3 jP2 jB2 jQ2 b2 c1 c2
  have c1 := jP3.cell0
  have c2 := jP3.cell1
  go_wp2_with fail
  refine (HAD.out _).mono ?_
  rintro e w4 ⟨rfl, hb4⟩
  have z4 := hb4.size
  have jQ4 := jQ3.below hb4 jQ3.lt
  have jB4 := jB3.below hb4 jB3.lt
  have b4 : Below w.heap.size w w4 := (by repeat (first | exact Below.refl _ _ | assumption | refine Below.drew ?_ | refine below_drewN ?_ _ | refine Below.alloc ?_ (by (try simp) <;> omega) _ | refine Below.setCell ?_ (by (try simp) <;> omega) _ | refine Below.trans ?_ (Below.mono (by assumption) (by (try simp) <;> omega))))
  clear hb4 jQ3 jP3 jB3 b3 c1 c2
  have d1 := jQ4.cell0
  have d2 := jQ4.cell1
  have l4 := jQ4.lt
  have d3 := jB4.cell0
  have d4 := jB4.cell1
  have l5 := jB4.lt
  go_wp2_with fail
  go_region_held3 (fun w' => w'.cell? ⟨w1.heap.size, 0, none⟩ = some (.int .i64 x) ∧ w'.cell? ⟨w1.heap.size, 1, none⟩ = some (.int .i64 y) ∧ w1.heap.size < w'.heap.size) (first | exact ⟨d1, d2, l4⟩ | exact ⟨(hcA _ _ l4).trans d1, (hcA _ _ l4).trans d2, Nat.lt_of_lt_of_le l4 zA⟩)
    (first | (go_at_call 16; refine (HAT.out _).mono ?_; rintro e wA ⟨rfl, hbA⟩; obtain ⟨hcA, hfA⟩ := bcell hbA; have zA := hbA.size; try simp at zA) | (go_at_call 12; refine (num3_any _ _).mono ?_; rintro e w' ⟨rfl, rfl⟩))
  all_goals have g3 : wA.cell? ⟨w.heap.size + 1, 0, none⟩ = some (.int .i64 l2) := (hcA _ _ l5).trans d3
  all_goals have g4 : wA.cell? ⟨w.heap.size + 1, 1, none⟩ = some (.int .i64 v2) := (hcA _ _ l5).trans d4
  all_goals have l6 : w.heap.size + 1 < wA.heap.size := Nat.lt_of_lt_of_le l5 zA
  all_goals have bA : Below w.heap.size w wA := (by repeat (first | exact Below.refl _ _ | assumption | refine Below.drew ?_ | refine below_drewN ?_ _ | refine Below.alloc ?_ (by (try simp) <;> omega) _ | refine Below.setCell ?_ (by (try simp) <;> omega) _ | refine Below.trans ?_ (Below.mono (by assumption) (by (try simp) <;> omega))))
  all_goals go_wp2_with fail
  all_goals
    refine (HR2.out _).mono ?_
    rintro e w5 ⟨rfl, hb5⟩
    have z5 := hb5.size
    have b5 : Below w.heap.size w w5 := (by repeat (first | exact Below.refl _ _ | assumption | refine Below.drew ?_ | refine below_drewN ?_ _ | refine Below.alloc ?_ (by (try simp) <;> omega) _ | refine Below.setCell ?_ (by (try simp) <;> omega) _ | refine Below.trans ?_ (Below.mono (by assumption) (by (try simp) <;> omega))))
    clear hb5
    go_wp2_with (go_at_call 12; refine (num3_any _ _).mono ?_; rintro e w' ⟨rfl, rfl⟩)
    refine (works3_any _ (HT.out.below b5 hz)).mono ?_
    rintro e w7 ⟨rfl, hb7⟩
    go_wp2_with fail
    go_ret
    exact ⟨rfl, b5.trans (hb7.mono b5.size)⟩
theorem moves_any (l v l2 v2 n : Int) (hn1 : -9223372036854775808 ≤ n) (hn2 : n ≤ 9223372036854775807) (w : World) (ht : Ends w) :
    Calls Tryd.prog 4 #[.agg #[.int .i64 l, .int .i64 v], .agg #[.int .i64 l2, .int .i64 v2], .int .i64 n] w fun e w' => e = .returned (.bool true) ∧ Below w.heap.size w w' := by
  cases ha : okP l v with
  | false => exact moves_n l v l2 v2 n hn1 hn2 ha w ht
  | true =>
    by_cases hr : 0 ≤ 8 * l + v + n ∧ 8 * l + v + n < 8192
    · cases hb : okP l2 v2 with
      | true => exact moves_yiy l v l2 v2 n hn1 hn2 ha hr hb w ht
      | false => exact moves_yin l v l2 v2 n hn1 hn2 ha hr hb w ht
    · cases hb : okP l2 v2 with
      | true => exact moves_yoy l v l2 v2 n hn1 hn2 ha hr hb w ht
      | false => exact moves_yon l v l2 v2 n hn1 hn2 ha hr hb w ht
end Go.Proofs.YtkighpfckibkoaaDoor
