/-
  Contracts of the document's answers for fields (waterlineref01: Bit, With, Right, Get, Put), and num.
-/
import Derived.Test.YthjlhbkjmlohcaaDoorWordA
namespace Go.Proofs.YthjlhbkjmlohcaaDoor
open Go.RowKit

theorem num_any (n : Int) (w : World) : Calls Tryd.prog 12 #[.int .i64 n] w fun e w' => e = .returned (.int .i64 n) ∧ w = w' := by
  go_enter Tryd.func12, Tryd.ntmps12
  go_wp2
  go_ret
  exact ⟨rfl, rfl⟩
theorem bit_any (n i : Nat) (hi : i < 64) (w : World) : Calls Tryd.prog 19 #[.int .u64 n, .int .i64 i] w fun e w' => e = .returned (.bool (n.testBit i)) ∧ w = w' := by
  have h1 : (i : Int) < 64 := by omega
  go_enter Tryd.func19, Tryd.ntmps19
  go_wp2
  go_ret
  exact ⟨ret_bool (WM.bit_int n i), rfl⟩
theorem with_any' (n i : Nat) (b : Bool) (hi : i < 64) (hn : n < 18446744073709551616) (w : World) : Calls Tryd.prog 8 #[.int .u64 n, .int .i64 i, .bool b] w fun e w' => e = .returned (.int .u64 (WM.withN n i b : Nat)) ∧ w = w' := by
  have h1 : (i : Int) < 64 := by omega
  by_cases hb : n.testBit i = b
  · have H : Hid (WM.withN n i b = n) := if_pos hb
    go_enter Tryd.func8, Tryd.ntmps8
    go_wp2_with fail
    refine (bit_any n i hi _).mono ?_
    rintro e w1 ⟨rfl, rfl⟩
    go_wp2_with fail
    go_ret
    exact ⟨ret_int (by rw [H.out]), rfl⟩
  · have H : Hid (WM.withN n i b = n ^^^ 2 ^ i) := if_neg hb
    have hb' : (n.testBit i == b) = false := by simpa using hb
    go_enter Tryd.func8, Tryd.ntmps8
    go_wp2_with fail
    refine (bit_any n i hi _).mono ?_
    rintro e w1 ⟨rfl, rfl⟩
    go_wp2_with fail
    go_ret
    refine ⟨ret_int ?_, rfl⟩
    rw [H.out, WM.pow_int i hi, u64_xor_nat _ _ hn (WM.pow_lt64 i hi)]
theorem right_any (f v : Int) (hf : -9223372036854775808 ≤ f) (w : World) :
    Calls Tryd.prog 23 #[.agg #[.int .i64 f, .int .i64 v]] w fun e w' => e = .returned (.bool (WM.okF f v)) ∧ Below w.heap.size w w' := by
  go_enter Tryd.func23, Tryd.ntmps23
  go_wp2
  all_goals go_ret
  all_goals exact ⟨ret_bool (by unfold WM.okF; first | (rw [eq_comm, decide_eq_false_iff_not]; omega) | (apply decide_eq_decide.2; omega)), (Below.refl _ _).alloc (Nat.le_refl _) _⟩
theorem quiet_add_left {P : Program} {f : FuncId} {args : Array Value} {w : World} {a n : Nat} {v : Value}
    (h : Calls P f args (w.drewN (a + n)) fun e w' => e = .returned v ∧ w.drewN (a + n) = w') :
    Calls P f args (w.drewN (a + n)) fun e w'' => e = .returned v ∧ ∃ m, w'' = w.drewN (a + m) :=
  h.mono fun _ _ ⟨he, hm⟩ => ⟨he, n, hm.symm⟩
theorem quiet_left {P : Program} {f : FuncId} {args : Array Value} {w : World} {n : Nat} {v : Value}
    (h : Calls P f args (w.drewN n) fun e w' => e = .returned v ∧ w.drewN n = w') : Calls P f args (w.drewN n) fun e w'' => e = .returned v ∧ ∃ m, w'' = w.drewN m :=
  h.mono fun _ _ ⟨he, hm⟩ => ⟨he, n, hm.symm⟩
/-- What the document's Put answers. -/
def PutOut (n f v m : Nat) (e : Ending) : Prop := if m < 2 ^ v then e = .returned (.tuple #[.int .u64 (WM.putN n f v m : Nat), .bool true]) else e = .returned (.tuple #[.int .u64 0, .bool false])
end Go.Proofs.YthjlhbkjmlohcaaDoor
