/-
  Contracts of the document's answers for fields (waterlineref01: Bit, With, Right, Get, Put), and num.
-/
import Derived.Test.YtoaloeipgadkjaaWordA
namespace Go.Proofs.Ytoaloeipgadkjaa
open Go.RowKit

theorem bit_any (n i : Nat) (hi : i < 64) (w : World) : Calls Try.prog 38 #[.int .u64 n, .int .i64 i] w fun e w' => e = .returned (.bool (n.testBit i)) ∧ w = w' := by
  have h1 : (i : Int) < 64 := by omega
  go_enter Try.func38, Try.ntmps38
  go_wp2
  go_ret
  exact ⟨ret_bool (WM.bit_int n i), rfl⟩
theorem with_any' (n i : Nat) (b : Bool) (hi : i < 64) (hn : n < 18446744073709551616) (w : World) : Calls Try.prog 37 #[.int .u64 n, .int .i64 i, .bool b] w fun e w' => e = .returned (.int .u64 (WM.withN n i b : Nat)) ∧ w = w' := by
  have h1 : (i : Int) < 64 := by omega
  by_cases hb : n.testBit i = b
  · have H : Hid (WM.withN n i b = n) := if_pos hb
    go_enter Try.func37, Try.ntmps37
    go_wp2_with fail
    refine (bit_any n i hi _).mono ?_
    rintro e w1 ⟨rfl, rfl⟩
    go_wp2_with fail
    go_ret
    exact ⟨ret_int (by rw [H.out]), rfl⟩
  · have H : Hid (WM.withN n i b = n ^^^ 2 ^ i) := if_neg hb
    have hb' : (n.testBit i == b) = false := by simpa using hb
    go_enter Try.func37, Try.ntmps37
    go_wp2_with fail
    refine (bit_any n i hi _).mono ?_
    rintro e w1 ⟨rfl, rfl⟩
    go_wp2_with fail
    go_ret
    refine ⟨ret_int ?_, rfl⟩
    rw [H.out, WM.pow_int i hi, u64_xor_nat _ _ hn (WM.pow_lt64 i hi)]
/-- The document's Get. -/
theorem refGet_any (n f v : Nat) (h : f + v ≤ 64) (_ : n < 18446744073709551616) (w : World) :
    Calls Try.prog 40 #[.int .u64 n, .agg #[.int .i64 f, .int .i64 v]] w fun e w' => e = .returned (.int .u64 (WM.getN n f v : Nat)) ∧ Below w.heap.size w w' := by
  go_enter Try.func40, Try.ntmps40
  go_wp2
  go_loop [5, 6] (fun t i => ∃ k : Nat, k ≤ v ∧ i = .int .i64 k ∧ t = .int .u64 (WM.getTo n f k : Nat)) (fun _ i => v - (intOf i).toNat)
  case atStart => exact ⟨0, Nat.zero_le _, rfl, by unfold WM.getTo WM.getN; simp [Nat.mod_one]⟩
  case round =>
    obtain ⟨k, hk, rfl, rfl⟩ := hrel
    have hlt64 : WM.getTo n f k < 18446744073709551616 := WM.getN_lt64 n f k (by omega)
    by_cases hlt : k < v
    · have H := Lib.hid (WM.getTo_succ n f k)
      have e1 : (f : Int) + (k : Int) = ((f + k : Nat) : Int) := by omega
      have H1 := Lib.hid e1; clear e1
      go_wp2_with fail
      rw [H1.out]
      refine (bit_any n (f + k) (by omega) _).mono ?_
      rintro e w1 ⟨rfl, rfl⟩
      go_wp2_with fail
      refine (with_any' (WM.getTo n f k) k _ (by omega) hlt64 _).mono ?_
      rintro e w1 ⟨rfl, rfl⟩
      go_wp2_with fail
      go_round
      case rel => exact ⟨k + 1, by omega, by go_num, by rw [H.out]⟩
      case measure => simp [intOf]; omega
    · go_wp2
      go_ret
      obtain rfl : k = v := by omega
      exact ⟨rfl, (by repeat (first | exact Below.refl _ _ | assumption | refine Below.drew ?_ | refine below_drewN ?_ _ | refine Below.alloc ?_ (by (try simp) <;> omega) _ | refine Below.setCell ?_ (by (try simp) <;> omega) _ | refine Below.trans ?_ (Below.mono (by assumption) (by (try simp) <;> omega))))⟩
theorem quiet_add_left {P : Program} {f : FuncId} {args : Array Value} {w : World} {a n : Nat} {v : Value}
    (h : Calls P f args (w.drewN (a + n)) fun e w' => e = .returned v ∧ w.drewN (a + n) = w') :
    Calls P f args (w.drewN (a + n)) fun e w'' => e = .returned v ∧ ∃ m, w'' = w.drewN (a + m) :=
  h.mono fun _ _ ⟨he, hm⟩ => ⟨he, n, hm.symm⟩
theorem quiet_left {P : Program} {f : FuncId} {args : Array Value} {w : World} {n : Nat} {v : Value}
    (h : Calls P f args (w.drewN n) fun e w' => e = .returned v ∧ w.drewN n = w') : Calls P f args (w.drewN n) fun e w'' => e = .returned v ∧ ∃ m, w'' = w.drewN m :=
  h.mono fun _ _ ⟨he, hm⟩ => ⟨he, n, hm.symm⟩
/-- What the document's Put answers. -/
def PutOut (n f v m : Nat) (e : Ending) : Prop := if m < 2 ^ v then e = .returned (.tuple #[.int .u64 (WM.putN n f v m : Nat), .bool true]) else e = .returned (.tuple #[.int .u64 0, .bool false])
end Go.Proofs.Ytoaloeipgadkjaa
