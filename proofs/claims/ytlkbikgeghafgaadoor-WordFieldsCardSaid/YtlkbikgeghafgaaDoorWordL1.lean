/-
  The walk of the law WordFields.
-/
import Derived.Test.YtlkbikgeghafgaaDoorWordK
namespace Go.Proofs.YtlkbikgeghafgaaDoor
open Go.RowKit Go.Shelf

theorem okF_nat (f v : Int) (h : WM.okF f v = true) : ∃ a b : Nat, f = a ∧ v = b ∧ a + b ≤ 64 ∧ a < 64 ∧ 1 ≤ b := by
  have := of_decide_eq_true h
  exact ⟨f.toNat, v.toNat, by omega, by omega, by omega, by omega, by omega⟩
set_option maxHeartbeats 1000000 in
theorem fields_no (x m : Nat) (f v : Int) (h : WM.okF f v = false) (hf : -9223372036854775808 ≤ f) (w : World) (ht : Tabs w) :
    Calls Tryd.prog 3 #[.int .u64 x, .agg #[.int .i64 f, .int .i64 v], .int .u64 m] w fun e w' => e = .returned (.bool true) ∧ Below w.heap.size w w' := by
  have z0 := ht.room
  have H := Lib.hid h; clear h
  go_enter Tryd.func3, Tryd.ntmps3
  go_wp2_with fail
  refine (get_no f v x H.out hf _).mono ?_
  rintro e w1 ⟨rfl, hb1⟩
  have z1 := hb1.size; try simp at z1
  obtain ⟨hc1, hf1⟩ := bcell hb1
  go_wp2_with fail
  refine (put_no f v x m H.out hf _).mono ?_
  rintro e w2 ⟨rfl, hb2⟩
  have z2 := hb2.size; try simp at z2
  obtain ⟨hc2, hf2⟩ := bcell hb2
  have l1 : w.heap.size < w1.heap.size := by omega
  go_wp2_with fail
  refine (right_any f v hf _).mono ?_
  rintro e w3 ⟨rfl, hb3⟩
  have z3 := hb3.size; try simp at z3
  rw [H.out]
  go_wp2_with (go_at_call 13; refine (num_any _ _).mono ?_; rintro e w' ⟨rfl, rfl⟩)
  refine (works_any _ (by exact ht.below (by repeat (first | exact Below.refl _ _ | assumption | refine Below.drew ?_ | refine below_drewN ?_ _ | refine Below.alloc ?_ (by (try simp) <;> omega) _ | refine Below.setCell ?_ (by (try simp) <;> omega) _ | refine Below.trans ?_ (Below.mono (by assumption) (by (try simp) <;> omega)))) ht.room)).mono ?_
  rintro e w4 ⟨rfl, hb4⟩
  go_wp2_with (go_at_call 13; refine (num_any _ _).mono ?_; rintro e w' ⟨rfl, rfl⟩)
  go_ret
  exact ⟨rfl, (by repeat (first | exact Below.refl _ _ | assumption | refine Below.drew ?_ | refine below_drewN ?_ _ | refine Below.alloc ?_ (by (try simp) <;> omega) _ | refine Below.setCell ?_ (by (try simp) <;> omega) _ | refine Below.trans ?_ (Below.mono (by assumption) (by (try simp) <;> omega))))⟩
set_option maxHeartbeats 1000000 in
theorem fields_big (x m f v : Nat) (h : f + v ≤ 64) (hf : f < 64) (hv : 1 ≤ v) (hx : x < 18446744073709551616) (hm : m < 18446744073709551616) (hbig : ¬ m < 2 ^ v) (w : World) (ht : Tabs w) :
    Calls Tryd.prog 3 #[.int .u64 x, .agg #[.int .i64 f, .int .i64 v], .int .u64 m] w fun e w' => e = .returned (.bool true) ∧ Below w.heap.size w w' := by
  have z0 := ht.room
  have H := Lib.hid (show WM.okF f v = true from decide_eq_true ⟨by omega, by omega, by omega, by omega⟩)
  have HB := Lib.hid hbig; clear hbig
  go_enter Tryd.func3, Tryd.ntmps3
  go_wp2_with fail
  refine (get_yes f v x h hf hv hx _ (by exact ht.below (by repeat (first | exact Below.refl _ _ | assumption | refine Below.drew ?_ | refine below_drewN ?_ _ | refine Below.alloc ?_ (by (try simp) <;> omega) _ | refine Below.setCell ?_ (by (try simp) <;> omega) _ | refine Below.trans ?_ (Below.mono (by assumption) (by (try simp) <;> omega)))) ht.room)).mono ?_
  rintro e w1 ⟨rfl, hb1⟩
  have z1 := hb1.size; try simp at z1
  obtain ⟨hc1, hf1⟩ := bcell hb1
  have t1 : Tabs w1 := (by exact ht.below (by repeat (first | exact Below.refl _ _ | assumption | refine Below.drew ?_ | refine below_drewN ?_ _ | refine Below.alloc ?_ (by (try simp) <;> omega) _ | refine Below.setCell ?_ (by (try simp) <;> omega) _ | refine Below.trans ?_ (Below.mono (by assumption) (by (try simp) <;> omega)))) ht.room)
  go_wp2_with fail
  refine (put_big f v x m h hf hv hm HB.out _ t1).mono ?_
  rintro e w2 ⟨rfl, hb2⟩
  have z2 := hb2.size; try simp at z2
  obtain ⟨hc2, hf2⟩ := bcell hb2
  have l1 : w.heap.size < w1.heap.size := by omega
  have l2 : w.heap.size < w2.heap.size := by omega
  go_wp2_with fail
  refine (right_any f v (by omega) _).mono ?_
  rintro e w3 ⟨rfl, hb3⟩
  have z3 := hb3.size; try simp at z3
  obtain ⟨hc3, hf3⟩ := bcell hb3
  have l3 : w.heap.size < w3.heap.size := by omega
  rw [H.out]
  go_wp2_with fail
  refine (refPut_any x f v m h hm hx _).mono ?_
  rintro e w4 ⟨he, hb4⟩
  have z4 := hb4.size; try simp at z4
  obtain ⟨hc4, hf4⟩ := bcell hb4
  unfold PutOut at he
  rw [if_neg HB.out] at he
  subst he
  go_wp2_with fail
  refine (refGet_any x f v h hx _).mono ?_
  rintro e w5 ⟨rfl, hb5⟩
  have z5 := hb5.size; try simp at z5
  go_wp2_with (go_at_call 13; refine (num_any _ _).mono ?_; rintro e w' ⟨rfl, rfl⟩)
  refine (works_any _ (by exact ht.below (by repeat (first | exact Below.refl _ _ | assumption | refine Below.drew ?_ | refine below_drewN ?_ _ | refine Below.alloc ?_ (by (try simp) <;> omega) _ | refine Below.setCell ?_ (by (try simp) <;> omega) _ | refine Below.trans ?_ (Below.mono (by assumption) (by (try simp) <;> omega)))) ht.room)).mono ?_
  rintro e w6 ⟨rfl, hb6⟩
  go_wp2_with (go_at_call 13; refine (num_any _ _).mono ?_; rintro e w' ⟨rfl, rfl⟩)
  go_ret
  exact ⟨rfl, (by repeat (first | exact Below.refl _ _ | assumption | refine Below.drew ?_ | refine below_drewN ?_ _ | refine Below.alloc ?_ (by (try simp) <;> omega) _ | refine Below.setCell ?_ (by (try simp) <;> omega) _ | refine Below.trans ?_ (Below.mono (by assumption) (by (try simp) <;> omega))))⟩
set_option maxHeartbeats 1000000 in
theorem fields_yes (x m f v : Nat) (h : f + v ≤ 64) (hf : f < 64) (hv : 1 ≤ v) (hx : x < 18446744073709551616) (hm : m < 18446744073709551616) (hsm : m < 2 ^ v) (w : World) (ht : Tabs w) :
    Calls Tryd.prog 3 #[.int .u64 x, .agg #[.int .i64 f, .int .i64 v], .int .u64 m] w fun e w' => e = .returned (.bool true) ∧ Below w.heap.size w w' := by
  have z0 := ht.room
  have H := Lib.hid (show WM.okF f v = true from decide_eq_true ⟨by omega, by omega, by omega, by omega⟩)
  have HB := Lib.hid hsm; clear hsm
  go_enter Tryd.func3, Tryd.ntmps3
  go_wp2_with fail
  refine (get_yes f v x h hf hv hx _ (by exact ht.below (by repeat (first | exact Below.refl _ _ | assumption | refine Below.drew ?_ | refine below_drewN ?_ _ | refine Below.alloc ?_ (by (try simp) <;> omega) _ | refine Below.setCell ?_ (by (try simp) <;> omega) _ | refine Below.trans ?_ (Below.mono (by assumption) (by (try simp) <;> omega)))) ht.room)).mono ?_
  rintro e w1 ⟨rfl, hb1⟩
  have z1 := hb1.size; try simp at z1
  obtain ⟨hc1, hf1⟩ := bcell hb1
  have t1 : Tabs w1 := (by exact ht.below (by repeat (first | exact Below.refl _ _ | assumption | refine Below.drew ?_ | refine below_drewN ?_ _ | refine Below.alloc ?_ (by (try simp) <;> omega) _ | refine Below.setCell ?_ (by (try simp) <;> omega) _ | refine Below.trans ?_ (Below.mono (by assumption) (by (try simp) <;> omega)))) ht.room)
  go_wp2_with fail
  refine (put_yes f v x m h hf hv hx HB.out _ t1).mono ?_
  rintro e w2 ⟨rfl, hb2⟩
  have z2 := hb2.size; try simp at z2
  obtain ⟨hc2, hf2⟩ := bcell hb2
  have l1 : w.heap.size < w1.heap.size := by omega
  have l2 : w.heap.size < w2.heap.size := by omega
  go_wp2_with fail
  refine (right_any f v (by omega) _).mono ?_
  rintro e w3 ⟨rfl, hb3⟩
  have z3 := hb3.size; try simp at z3
  obtain ⟨hc3, hf3⟩ := bcell hb3
  have l3 : w.heap.size < w3.heap.size := by omega
  rw [H.out]
  go_wp2_with fail
  refine (refPut_any x f v m h hm hx _).mono ?_
  rintro e w4 ⟨he, hb4⟩
  have z4 := hb4.size; try simp at z4
  obtain ⟨hc4, hf4⟩ := bcell hb4
  unfold PutOut at he
  rw [if_pos HB.out] at he
  subst he
  go_wp2_with fail
  refine (refGet_any x f v h hx _).mono ?_
  rintro e w5 ⟨rfl, hb5⟩
  have z5 := hb5.size; try simp at z5
  go_wp2_with (go_at_call 13; refine (num_any _ _).mono ?_; rintro e w' ⟨rfl, rfl⟩)
  refine (works_any _ (by exact ht.below (by repeat (first | exact Below.refl _ _ | assumption | refine Below.drew ?_ | refine below_drewN ?_ _ | refine Below.alloc ?_ (by (try simp) <;> omega) _ | refine Below.setCell ?_ (by (try simp) <;> omega) _ | refine Below.trans ?_ (Below.mono (by assumption) (by (try simp) <;> omega)))) ht.room)).mono ?_
  rintro e w6 ⟨rfl, hb6⟩
  go_wp2_with (go_at_call 13; refine (num_any _ _).mono ?_; rintro e w' ⟨rfl, rfl⟩)
  go_ret
  exact ⟨rfl, (by repeat (first | exact Below.refl _ _ | assumption | refine Below.drew ?_ | refine below_drewN ?_ _ | refine Below.alloc ?_ (by (try simp) <;> omega) _ | refine Below.setCell ?_ (by (try simp) <;> omega) _ | refine Below.trans ?_ (Below.mono (by assumption) (by (try simp) <;> omega))))⟩
theorem fields_any (x m : Nat) (f v : Int) (hx : x < 18446744073709551616) (hm : m < 18446744073709551616) (hf : -9223372036854775808 ≤ f) (w : World) (ht : Tabs w) :
    Calls Tryd.prog 3 #[.int .u64 x, .agg #[.int .i64 f, .int .i64 v], .int .u64 m] w fun e w' => e = .returned (.bool true) ∧ Below w.heap.size w w' := by
  cases h : WM.okF f v with
  | false => exact fields_no x m f v h hf w ht
  | true =>
    obtain ⟨a, b, rfl, rfl, h1, h2, h3⟩ := okF_nat f v h
    by_cases hs : m < 2 ^ b
    · exact fields_yes x m a b h1 h2 h3 hx hm hs w ht
    · exact fields_big x m a b h1 h2 h3 hx hm hs w ht
end Go.Proofs.YtlkbikgeghafgaaDoor
