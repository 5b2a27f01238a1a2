/-
  Contracts of the document's answers for fields (waterlineref01: Bit, With, Right, Get, Put), and num.
-/
import Derived.Test.YtlkbikgeghafgaaDoorWordA
namespace Go.Proofs.YtlkbikgeghafgaaDoor
open Go.RowKit

theorem num_any (n : Int) (w : World) : Calls Tryd.prog 13 #[.int .i64 n] w fun e w' => e = .returned (.int .i64 n) ∧ w = w' := by
  go_enter Tryd.func13, Tryd.ntmps13
  go_wp2
  go_ret
  exact ⟨rfl, rfl⟩
theorem bit_any (n i : Nat) (hi : i < 64) (w : World) : Calls Tryd.prog 31 #[.int .u64 n, .int .i64 i] w fun e w' => e = .returned (.bool (n.testBit i)) ∧ w = w' := by
  have h1 : (i : Int) < 64 := by omega
  go_enter Tryd.func31, Tryd.ntmps31
  go_wp2
  go_ret
  exact ⟨ret_bool (WM.bit_int n i), rfl⟩
theorem with_any' (n i : Nat) (b : Bool) (hi : i < 64) (hn : n < 18446744073709551616) (w : World) : Calls Tryd.prog 23 #[.int .u64 n, .int .i64 i, .bool b] w fun e w' => e = .returned (.int .u64 (WM.withN n i b : Nat)) ∧ w = w' := by
  have h1 : (i : Int) < 64 := by omega
  by_cases hb : n.testBit i = b
  · have H : Hid (WM.withN n i b = n) := if_pos hb
    go_enter Tryd.func23, Tryd.ntmps23
    go_wp2_with fail
    refine (bit_any n i hi _).mono ?_
    rintro e w1 ⟨rfl, rfl⟩
    go_wp2_with fail
    go_ret
    exact ⟨ret_int (by rw [H.out]), rfl⟩
  · have H : Hid (WM.withN n i b = n ^^^ 2 ^ i) := if_neg hb
    have hb' : (n.testBit i == b) = false := by simpa using hb
    go_enter Tryd.func23, Tryd.ntmps23
    go_wp2_with fail
    refine (bit_any n i hi _).mono ?_
    rintro e w1 ⟨rfl, rfl⟩
    go_wp2_with fail
    go_ret
    refine ⟨ret_int ?_, rfl⟩
    rw [H.out, WM.pow_int i hi, u64_xor_nat _ _ hn (WM.pow_lt64 i hi)]
theorem right_any (f v : Int) (hf : -9223372036854775808 ≤ f) (w : World) :
    Calls Tryd.prog 12 #[.agg #[.int .i64 f, .int .i64 v]] w fun e w' => e = .returned (.bool (WM.okF f v)) ∧ Below w.heap.size w w' := by
  go_enter Tryd.func12, Tryd.ntmps12
  go_wp2
  all_goals go_ret
  all_goals exact ⟨ret_bool (by unfold WM.okF; first | (rw [eq_comm, decide_eq_false_iff_not]; omega) | (apply decide_eq_decide.2; omega)), (Below.refl _ _).alloc (Nat.le_refl _) _⟩
/-- The document's Get. -/
theorem refGet_any (n f v : Nat) (h : f + v ≤ 64) (_ : n < 18446744073709551616) (w : World) :
    Calls Tryd.prog 16 #[.int .u64 n, .agg #[.int .i64 f, .int .i64 v]] w fun e w' => e = .returned (.int .u64 (WM.getN n f v : Nat)) ∧ Below w.heap.size w w' := by
  go_enter Tryd.func16, Tryd.ntmps16
  go_wp2
  go_loop [5, 6] (fun t i => ∃ k : Nat, k ≤ v ∧ i = .int .i64 k ∧ t = .int .u64 (WM.getTo n f k : Nat)) (fun _ i => v - (intOf i).toNat)
  case atStart => exact ⟨0, Nat.zero_le _, rfl, by unfold WM.getTo WM.getN; simp [Nat.mod_one]⟩
  case round =>
    obtain ⟨k, hk, rfl, rfl⟩ := hrel
    have hlt64 : WM.getTo n f k < 18446744073709551616 := WM.getN_lt64 n f k (by omega)
    by_cases hlt : k < v
    · have H := Lib.hid (WM.getTo_succ n f k)
      have e1 : (f : Int) + (k : Int) = ((f + k : Nat) : Int) := by omega
      have H1 := Lib.hid e1; clear e1
      go_wp2_with fail
      rw [H1.out]
      refine (bit_any n (f + k) (by omega) _).mono ?_
      rintro e w1 ⟨rfl, rfl⟩
      go_wp2_with fail
      refine (with_any' (WM.getTo n f k) k _ (by omega) hlt64 _).mono ?_
      rintro e w1 ⟨rfl, rfl⟩
      go_wp2_with fail
      go_round
      case rel => exact ⟨k + 1, by omega, by go_num, by rw [H.out]⟩
      case measure => simp [intOf]; omega
    · go_wp2
      go_ret
      obtain rfl : k = v := by omega
      exact ⟨rfl, (by repeat (first | exact Below.refl _ _ | assumption | refine Below.drew ?_ | refine below_drewN ?_ _ | refine Below.alloc ?_ (by (try simp) <;> omega) _ | refine Below.setCell ?_ (by (try simp) <;> omega) _ | refine Below.trans ?_ (Below.mono (by assumption) (by (try simp) <;> omega))))⟩
theorem quiet_add_left {P : Program} {f : FuncId} {args : Array Value} {w : World} {a n : Nat} {v : Value}
    (h : Calls P f args (w.drewN (a + n)) fun e w' => e = .returned v ∧ w.drewN (a + n) = w') :
    Calls P f args (w.drewN (a + n)) fun e w'' => e = .returned v ∧ ∃ m, w'' = w.drewN (a + m) :=
  h.mono fun _ _ ⟨he, hm⟩ => ⟨he, n, hm.symm⟩
theorem quiet_left {P : Program} {f : FuncId} {args : Array Value} {w : World} {n : Nat} {v : Value}
    (h : Calls P f args (w.drewN n) fun e w' => e = .returned v ∧ w.drewN n = w') : Calls P f args (w.drewN n) fun e w'' => e = .returned v ∧ ∃ m, w'' = w.drewN m :=
  h.mono fun _ _ ⟨he, hm⟩ => ⟨he, n, hm.symm⟩
/-- What the document's Put answers. -/
def PutOut (n f v m : Nat) (e : Ending) : Prop := if m < 2 ^ v then e = .returned (.tuple #[.int .u64 (WM.putN n f v m : Nat), .bool true]) else e = .returned (.tuple #[.int .u64 0, .bool false])
/-- The document's Put. -/
theorem refPut_any (n f v m : Nat) (h : f + v ≤ 64) (hm : m < 18446744073709551616) (hn : n < 18446744073709551616) (w : World) :
    Calls Tryd.prog 15 #[.int .u64 n, .agg #[.int .i64 f, .int .i64 v], .int .u64 m] w fun e w' => PutOut n f v m e ∧ Below w.heap.size w w' := by
  go_enter Tryd.func15, Tryd.ntmps15
  go_wp2
  go_loopw [0, 8] (fun t i wr => ∃ k : Nat, k ≤ 64 ∧ (∀ j, v ≤ j → j < k → m.testBit j = false) ∧ i = .int .i64 k ∧ t = .int .u64 (WM.putC n f m v k : Nat) ∧ Below (w.heap.size + 1) (w.alloc (.cells #[.int .i64 f, .int .i64 v] 24)) wr) (fun _ i _ => 64 - (intOf i).toNat)
  case atStart => exact ⟨0, Nat.zero_le _, fun j h1 h2 => by omega, rfl, by rw [WM.putC_zero], Below.refl _ _⟩
  case round =>
    obtain ⟨k, hk, hno, rfl, rfl, hb⟩ := hrel
    have HN := Lib.hid hno; clear hno
    have z := hb.size; simp at z
    have c0 : wr.cell? ⟨w.heap.size, 0, none⟩ = some (.int .i64 f) := (hb.cell (p := ⟨w.heap.size, 0, none⟩) (by simp)).trans (by simp [go_sem])
    have c1 : wr.cell? ⟨w.heap.size, 1, none⟩ = some (.int .i64 v) := (hb.cell (p := ⟨w.heap.size, 1, none⟩) (by simp)).trans (by simp [go_sem])
    have hlt64 := WM.putC_lt n f m v k h hn
    have hbw : Below w.heap.size w wr := ((Below.refl _ _).alloc (Nat.le_refl _) _).trans (hb.mono (by omega))
    by_cases hlt : k < 64
    · by_cases hkv : k < v
      · have e1 : (f : Int) + (k : Int) = ((f + k : Nat) : Int) := by omega
        have H1 := Lib.hid e1; clear e1
        have H2 := Lib.hid (WM.putC_step n f m v k hkv)
        have ew : IntKind.i64.wrap ((f : Int) + (k : Int)) = (f : Int) + (k : Int) := IntWalk.i64_in _ (by omega)
        go_wp2
        go_quiet ((first | (go_at_call 31; exact quiet_left (bit_any m k hlt _)) | (go_at_call 23; rw [H1.out]; exact quiet_left (with_any' (WM.putC n f m v k) (f + k) _ (by omega) hlt64 _))))
        go_wp2
        go_roundw
        case rel => exact ⟨k + 1, by omega, fun j h1 h2 => by omega, by go_num, by rw [H2.out], below_drewN hb _⟩
        case measure => simp [intOf]; omega
      · have H2 := Lib.hid (WM.putC_stay n f m v k (by omega))
        by_cases hb1 : m.testBit k = true
        · have hbig : ¬ m < 2 ^ v := fun hlt' => by have := WM.lt_bit m v k hlt' (by omega); simp [this] at hb1
          have HB := Lib.hid hb1; clear hb1
          go_wp2_with fail
          refine (bit_any m k hlt _).mono ?_
          rintro e w1 ⟨rfl, rfl⟩
          rw [HB.out]
          go_wp2_with fail
          go_ret2
          exact ⟨by unfold PutOut; rw [if_neg hbig]; rfl, hbw⟩
        · have HB := Lib.hid (show m.testBit k = false by simpa using hb1); clear hb1
          go_wp2_with fail
          refine (bit_any m k hlt _).mono ?_
          rintro e w1 ⟨rfl, rfl⟩
          rw [HB.out]
          go_wp2_with fail
          go_roundw
          case rel => exact ⟨k + 1, by omega, fun j h1 h2 => by
            by_cases hj : j = k
            · rw [hj]; exact HB.out
            · exact HN.out j h1 (by omega), by go_num, by rw [H2.out], hb⟩
          case measure => simp [intOf]; omega
    · have hsm : m < 2 ^ v := WM.lt_of_bits m v hm fun i h1 h2 => HN.out i h1 (by omega)
      have H2 := Lib.hid (WM.putC_end n f m v k (by omega) h hsm hn)
      go_wp2
      go_ret2
      exact ⟨by unfold PutOut; rw [if_pos hsm, ← H2.out]; rfl, hbw⟩
end Go.Proofs.YtlkbikgeghafgaaDoor
