/-
  Contracts of package word's functions on fields (no loop): spanOf, mayBe, mask, number, holds, with, Get, Put.
-/
import Derived.Test.YthjlhbkjmlohcaaDoorWordM
import Derived.Test.YthjlhbkjmlohcaaDoorRows
import Derived.WalkKit
import Derived.ProofKit
import Derived.Below
import Derived.Deep.QuietTactic
import Derived.BigQuiet
import Derived.Lib.Hide
import Derived.IntWalk
import Derived.Outline
import Derived.Shelf.Spec.TrailingZeros
import Derived.Deep.RegionHeld3
namespace Go.Proofs.YthjlhbkjmlohcaaDoor
open Go.RowKit

theorem ret_bool {a b : Bool} (h : a = b) : Ending.returned (.bool a) = .returned (.bool b) := by rw [h]
theorem ret_int {k : IntKind} {a b : Int} (h : a = b) : Ending.returned (.int k a) = .returned (.int k b) := by rw [h]
theorem bcell {W w1 : World} (hb : Below W.heap.size W w1) : (∀ b o, b < W.heap.size → w1.cell? ⟨b, o, none⟩ = W.cell? ⟨b, o, none⟩) ∧ (∀ b o, b < W.heap.size → w1.frozen? ⟨b, o, none⟩ = W.frozen? ⟨b, o, none⟩) :=
  ⟨fun b o h => hb.cell (p := ⟨b, o, none⟩) h, fun b o h => hb.frozen (p := ⟨b, o, none⟩) h⟩
theorem below_drewN {B : Nat} {a w : World} (h : Below B a w) (n : Nat) : Below B a (w.drewN n) := ⟨h.os, h.tape, h.output, h.size, h.block⟩
/-- What the two package-level tables hold. -/
structure Tabs (w : World) : Prop where
  masks : ∀ v : Nat, v ≤ 64 → w.cell? ⟨1, v, none⟩ = some (.int .u64 ((2 ^ v - 1 : Nat) : Int))
  bruijn : TabAt 0 Lib.deBruijn64tab w
  room : 2 ≤ w.heap.size
theorem Tabs.below {B : Nat} {w w' : World} (h : Tabs w) (hb : Below B w w') (hB : 2 ≤ B) : Tabs w' :=
  ⟨fun v hv => (hb.cell (p := ⟨1, v, none⟩) (show 1 < B by omega)).trans (h.masks v hv), fun j hj => (hb.cell (p := ⟨0, j, none⟩) (show 0 < B by omega)).trans (h.bruijn j hj), Nat.le_trans h.room hb.size⟩

theorem spanOf_any (f v : Int) (w : World) :
    Calls Tryd.prog 20 #[.agg #[.int .i64 f, .int .i64 v]] w fun e w' => e = .returned (.agg #[.int .i64 f, .int .i64 v]) ∧ Below w.heap.size w w' := by
  go_enter Tryd.func20, Tryd.ntmps20
  go_wp2
  refine bodyPost_ret (v := .agg #[.int .i64 f, .int .i64 v]) (by simp [results, Tryd.results20, go_sem]) rfl ⟨rfl, ?_⟩
  exact (((Below.refl _ _).alloc (Nat.le_refl _) _).alloc (by simp) _)
theorem mayBe_any (f v : Int) (hf : -9223372036854775808 ≤ f) (w : World) :
    Calls Tryd.prog 21 #[.agg #[.int .i64 f, .int .i64 v]] w fun e w' => e = .returned (.bool (WM.okF f v)) ∧ Below w.heap.size w w' := by
  go_enter Tryd.func21, Tryd.ntmps21
  go_wp2
  all_goals go_ret
  all_goals exact ⟨ret_bool (by unfold WM.okF; first | (rw [eq_comm, decide_eq_false_iff_not]; omega) | (apply decide_eq_decide.2; omega)), (Below.refl _ _).alloc (Nat.le_refl _) _⟩
theorem mask_any (f v : Nat) (h : f + v ≤ 64) (hf : f < 64) (w : World) (ht : Tabs w) :
    Calls Tryd.prog 22 #[.agg #[.int .i64 f, .int .i64 v]] w fun e w' => e = .returned (.int .u64 (WM.maskN f v : Nat)) ∧ Below w.heap.size w w' := by
  have h0 : (v : Int) < 65 := by omega
  have h1 : (f : Int) < 64 := by omega
  have hz : 1 < w.heap.size := by have := ht.room; omega
  have hc := ht.masks v (by omega)
  clear ht
  go_enter Tryd.func22, Tryd.ntmps22
  go_wp2
  go_quiet (fail)
  go_wp2
  go_ret
  exact ⟨ret_int (WM.shl_int _ _), below_drewN ((Below.refl _ _).alloc (Nat.le_refl _) _) _⟩
theorem holds_any (f : Int) (v n : Nat) (hv : v ≤ 64) (hn : n < 18446744073709551616) (w : World) (ht : Tabs w) :
    Calls Tryd.prog 24 #[.agg #[.int .i64 f, .int .i64 v], .int .u64 n] w fun e w' => e = .returned (.bool (decide (n < 2 ^ v))) ∧ Below w.heap.size w w' := by
  have h0 : (v : Int) < 65 := by omega
  have hz : 1 < w.heap.size := by have := ht.room; omega
  have hc := ht.masks v (by omega)
  have hm : 2 ^ v - 1 < 18446744073709551616 := by have := WM.pow_le64 v hv; have := Nat.two_pow_pos v; omega
  clear ht
  go_enter Tryd.func24, Tryd.ntmps24
  go_wp2
  all_goals go_ret
  exact ⟨ret_bool (by
    rw [Bool.eq_iff_iff, decide_eq_true_iff, ← WM.holds_iff n v hn hv]
    rw [u64_andNot_nat _ _ hn hm, beq_iff_eq]; exact Int.natCast_eq_zero), (Below.refl _ _).alloc (Nat.le_refl _) _⟩
theorem number_any (f v n : Nat) (h : f + v ≤ 64) (hf : f < 64) (hn : n < 18446744073709551616) (w : World) (ht : Tabs w) :
    Calls Tryd.prog 26 #[.agg #[.int .i64 f, .int .i64 v, .int .u64 n]] w fun e w' => e = .returned (.int .u64 (WM.getN n f v : Nat)) ∧ Below w.heap.size w w' := by
  have h1 : (f : Int) < 64 := by omega
  have e := Lib.hid (WM.number_int n f v h)
  have hm := WM.maskN_lt f v
  go_enter Tryd.func26, Tryd.ntmps26
  go_wp2
  go_region_held3 (fun w' => w'.cell? ⟨w.heap.size, 0, none⟩ = some (.int .i64 f) ∧ w'.cell? ⟨w.heap.size, 1, none⟩ = some (.int .i64 v) ∧ w'.cell? ⟨w.heap.size, 2, none⟩ = some (.int .u64 n)) (simp [*, go_sem])
    (first | (go_at_call 22; refine (mask_any f v h hf _ (by exact ht.below ((Below.refl _ _).alloc (Nat.le_refl _) _).drew ht.room)).mono ?_; rintro e w2 ⟨rfl, hb2⟩; obtain ⟨hc2, hf2⟩ := bcell hb2))
  go_wp2
  go_ret
  exact ⟨ret_int (by rw [u64_and_nat _ _ hn hm]; exact e.out), ((Below.refl _ _).alloc (Nat.le_refl _) _).drew.trans (hb2.mono (by simp))⟩
theorem with_any (f v n m : Nat) (h : f + v ≤ 64) (hf : f < 64) (hn : n < 18446744073709551616) (hm : m < 2 ^ v) (w : World) (ht : Tabs w) :
    Calls Tryd.prog 25 #[.agg #[.int .i64 f, .int .i64 v, .int .u64 n], .int .u64 m] w fun e w' => e = .returned (.int .u64 (WM.putN n f v m : Nat)) ∧ Below w.heap.size w w' := by
  have h1 : (f : Int) < 64 := by omega
  have e := Lib.hid (WM.with_int n f v m h hm hn)
  go_enter Tryd.func25, Tryd.ntmps25
  go_wp2
  go_region_held3 (fun w' => w'.cell? ⟨w.heap.size, 0, none⟩ = some (.int .i64 f) ∧ w'.cell? ⟨w.heap.size, 1, none⟩ = some (.int .i64 v) ∧ w'.cell? ⟨w.heap.size, 2, none⟩ = some (.int .u64 n)) (simp [*, go_sem])
    (first | (go_at_call 22; refine (mask_any f v h hf _ (by exact ht.below ((Below.refl _ _).alloc (Nat.le_refl _) _).drew ht.room)).mono ?_; rintro e w2 ⟨rfl, hb2⟩; obtain ⟨hc2, hf2⟩ := bcell hb2))
  go_wp2
  go_ret
  exact ⟨ret_int e.out, ((Below.refl _ _).alloc (Nat.le_refl _) _).drew.trans (hb2.mono (by simp))⟩
theorem get_no (f v : Int) (n : Int) (h : WM.okF f v = false) (hf : -9223372036854775808 ≤ f) (w : World) :
    Calls Tryd.prog 13 #[.int .u64 n, .agg #[.int .i64 f, .int .i64 v]] w fun e w' => e = .returned (.tuple #[.int .u64 0, .int .i64 2]) ∧ Below w.heap.size w w' := by
  have H := Lib.hid h
  clear h
  go_enter Tryd.func13, Tryd.ntmps13
  go_wp2_with fail
  refine (spanOf_any f v _).mono ?_
  rintro e w1 ⟨rfl, hb1⟩
  have z1 := hb1.size; try simp at z1
  go_wp2_with fail
  refine (mayBe_any f v hf _).mono ?_
  rintro e w2 ⟨rfl, hb2⟩
  rw [H.out]
  go_wp2_with fail
  go_ret2
  exact ⟨rfl, (by repeat (first | exact Below.refl _ _ | assumption | refine Below.drew ?_ | refine below_drewN ?_ _ | refine Below.alloc ?_ (by (try simp) <;> omega) _ | refine Below.setCell ?_ (by (try simp) <;> omega) _ | refine Below.trans ?_ (Below.mono (by assumption) (by (try simp) <;> omega))))⟩
theorem get_yes (f v n : Nat) (h : f + v ≤ 64) (hf : f < 64) (hv : 1 ≤ v) (hn : n < 18446744073709551616) (w : World) (ht : Tabs w) :
    Calls Tryd.prog 13 #[.int .u64 n, .agg #[.int .i64 f, .int .i64 v]] w fun e w' => e = .returned (.tuple #[.int .u64 (WM.getN n f v : Nat), .int .i64 0]) ∧ Below w.heap.size w w' := by
  have H := Lib.hid (show WM.okF f v = true from decide_eq_true ⟨by omega, by omega, by omega, by omega⟩)
  go_enter Tryd.func13, Tryd.ntmps13
  go_wp2_with fail
  refine (spanOf_any f v _).mono ?_
  rintro e w1 ⟨rfl, hb1⟩
  have z1 := hb1.size; try simp at z1
  go_wp2_with fail
  refine (mayBe_any f v (by omega) _).mono ?_
  rintro e w2 ⟨rfl, hb2⟩
  rw [H.out]
  have z2 := hb2.size; try simp at z2
  obtain ⟨hc2, hf2⟩ := bcell hb2
  go_wp2_with fail
  refine (number_any f v n h hf hn _ (by exact ht.below (by repeat (first | exact Below.refl _ _ | assumption | refine Below.drew ?_ | refine below_drewN ?_ _ | refine Below.alloc ?_ (by (try simp) <;> omega) _ | refine Below.setCell ?_ (by (try simp) <;> omega) _ | refine Below.trans ?_ (Below.mono (by assumption) (by (try simp) <;> omega)))) ht.room)).mono ?_
  rintro e w3 ⟨rfl, hb3⟩
  go_wp2_with fail
  go_ret2
  exact ⟨rfl, (by repeat (first | exact Below.refl _ _ | assumption | refine Below.drew ?_ | refine below_drewN ?_ _ | refine Below.alloc ?_ (by (try simp) <;> omega) _ | refine Below.setCell ?_ (by (try simp) <;> omega) _ | refine Below.trans ?_ (Below.mono (by assumption) (by (try simp) <;> omega))))⟩
end Go.Proofs.YthjlhbkjmlohcaaDoor
