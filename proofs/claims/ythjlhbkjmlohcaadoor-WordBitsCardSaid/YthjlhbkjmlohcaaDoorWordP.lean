/-
  The contract of word.Put.
-/
import Derived.Test.YthjlhbkjmlohcaaDoorWordA
namespace Go.Proofs.YthjlhbkjmlohcaaDoor
open Go.RowKit
theorem put_no (f v : Int) (n m : Int) (h : WM.okF f v = false) (hf : -9223372036854775808 ≤ f) (w : World) :
    Calls Tryd.prog 11 #[.int .u64 n, .agg #[.int .i64 f, .int .i64 v], .int .u64 m] w fun e w' => e = .returned (.tuple #[.int .u64 0, .int .i64 2]) ∧ Below w.heap.size w w' := by
  have H := Lib.hid h
  clear h
  go_enter Tryd.func11, Tryd.ntmps11
  go_wp2_with fail
  refine (spanOf_any f v _).mono ?_
  rintro e w1 ⟨rfl, hb1⟩
  have z1 := hb1.size; try simp at z1
  go_wp2_with fail
  refine (mayBe_any f v hf _).mono ?_
  rintro e w2 ⟨rfl, hb2⟩
  rw [H.out]
  go_wp2_with fail
  go_ret2
  exact ⟨rfl, (by repeat (first | exact Below.refl _ _ | assumption | refine Below.drew ?_ | refine below_drewN ?_ _ | refine Below.alloc ?_ (by (try simp) <;> omega) _ | refine Below.setCell ?_ (by (try simp) <;> omega) _ | refine Below.trans ?_ (Below.mono (by assumption) (by (try simp) <;> omega))))⟩
theorem put_big (f v n m : Nat) (h : f + v ≤ 64) (hf : f < 64) (hv : 1 ≤ v) (hm : m < 18446744073709551616) (hbig : ¬ m < 2 ^ v) (w : World) (ht : Tabs w) :
    Calls Tryd.prog 11 #[.int .u64 n, .agg #[.int .i64 f, .int .i64 v], .int .u64 m] w fun e w' => e = .returned (.tuple #[.int .u64 0, .int .i64 2]) ∧ Below w.heap.size w w' := by
  have H := Lib.hid (show WM.okF f v = true from decide_eq_true ⟨by omega, by omega, by omega, by omega⟩)
  have H2 := Lib.hid (show decide (m < 2 ^ v) = false from decide_eq_false hbig)
  clear hbig
  go_enter Tryd.func11, Tryd.ntmps11
  go_wp2_with fail
  refine (spanOf_any f v _).mono ?_
  rintro e w1 ⟨rfl, hb1⟩
  have z1 := hb1.size; try simp at z1
  go_wp2_with fail
  refine (mayBe_any f v (by omega) _).mono ?_
  rintro e w2 ⟨rfl, hb2⟩
  rw [H.out]
  have z2 := hb2.size; try simp at z2
  obtain ⟨hc2, hf2⟩ := bcell hb2
  go_wp2_with fail
  refine (holds_any f v m (by omega) hm _ (by exact ht.below (by repeat (first | exact Below.refl _ _ | assumption | refine Below.drew ?_ | refine below_drewN ?_ _ | refine Below.alloc ?_ (by (try simp) <;> omega) _ | refine Below.setCell ?_ (by (try simp) <;> omega) _ | refine Below.trans ?_ (Below.mono (by assumption) (by (try simp) <;> omega)))) ht.room)).mono ?_
  rintro e w3 ⟨rfl, hb3⟩
  rw [H2.out]
  go_wp2_with fail
  go_ret2
  exact ⟨rfl, (by repeat (first | exact Below.refl _ _ | assumption | refine Below.drew ?_ | refine below_drewN ?_ _ | refine Below.alloc ?_ (by (try simp) <;> omega) _ | refine Below.setCell ?_ (by (try simp) <;> omega) _ | refine Below.trans ?_ (Below.mono (by assumption) (by (try simp) <;> omega))))⟩
theorem put_yes (f v n m : Nat) (h : f + v ≤ 64) (hf : f < 64) (hv : 1 ≤ v) (hn : n < 18446744073709551616) (hsm : m < 2 ^ v) (w : World) (ht : Tabs w) :
    Calls Tryd.prog 11 #[.int .u64 n, .agg #[.int .i64 f, .int .i64 v], .int .u64 m] w fun e w' => e = .returned (.tuple #[.int .u64 (WM.putN n f v m : Nat), .int .i64 0]) ∧ Below w.heap.size w w' := by
  have H := Lib.hid (show WM.okF f v = true from decide_eq_true ⟨by omega, by omega, by omega, by omega⟩)
  have H2 := Lib.hid (show decide (m < 2 ^ v) = true from decide_eq_true hsm)
  have hm : m < 18446744073709551616 := Nat.lt_of_lt_of_le hsm (WM.pow_le64 v (by omega))
  have HS := Lib.hid hsm
  clear hsm
  go_enter Tryd.func11, Tryd.ntmps11
  go_wp2_with fail
  refine (spanOf_any f v _).mono ?_
  rintro e w1 ⟨rfl, hb1⟩
  have z1 := hb1.size; try simp at z1
  go_wp2_with fail
  refine (mayBe_any f v (by omega) _).mono ?_
  rintro e w2 ⟨rfl, hb2⟩
  rw [H.out]
  have z2 := hb2.size; try simp at z2
  obtain ⟨hc2, hf2⟩ := bcell hb2
  go_wp2_with fail
  refine (holds_any f v m (by omega) hm _ (by exact ht.below (by repeat (first | exact Below.refl _ _ | assumption | refine Below.drew ?_ | refine below_drewN ?_ _ | refine Below.alloc ?_ (by (try simp) <;> omega) _ | refine Below.setCell ?_ (by (try simp) <;> omega) _ | refine Below.trans ?_ (Below.mono (by assumption) (by (try simp) <;> omega)))) ht.room)).mono ?_
  rintro e w3 ⟨rfl, hb3⟩
  rw [H2.out]
  have z3 := hb3.size; try simp at z3
  obtain ⟨hc3, hf3⟩ := bcell hb3
  have hlt : w1.heap.size < w2.heap.size := by omega
  go_wp2_with fail
  refine (with_any f v n m h hf hn HS.out _ (by exact ht.below (by repeat (first | exact Below.refl _ _ | assumption | refine Below.drew ?_ | refine below_drewN ?_ _ | refine Below.alloc ?_ (by (try simp) <;> omega) _ | refine Below.setCell ?_ (by (try simp) <;> omega) _ | refine Below.trans ?_ (Below.mono (by assumption) (by (try simp) <;> omega)))) ht.room)).mono ?_
  rintro e w4 ⟨rfl, hb4⟩
  go_wp2_with fail
  go_ret2
  exact ⟨rfl, (by repeat (first | exact Below.refl _ _ | assumption | refine Below.drew ?_ | refine below_drewN ?_ _ | refine Below.alloc ?_ (by (try simp) <;> omega) _ | refine Below.setCell ?_ (by (try simp) <;> omega) _ | refine Below.trans ?_ (Below.mono (by assumption) (by (try simp) <;> omega))))⟩
end Go.Proofs.YthjlhbkjmlohcaaDoor
