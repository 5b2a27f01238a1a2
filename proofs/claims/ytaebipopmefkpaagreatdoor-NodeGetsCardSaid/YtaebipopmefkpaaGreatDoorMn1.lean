/-
  Texts WordM to Mark, as one.
-/
import Derived.Laws.BitsAllLaws
import Derived.Test.YtaebipopmefkpaaGreatDoorRows
import Derived.WalkKit
import Derived.ProofKit
import Derived.Below
import Derived.Deep.QuietTactic
import Derived.BigQuiet
import Derived.Lib.Hide
import Derived.IntWalk
import Derived.Outline
import Derived.Shelf.Spec.TrailingZeros
import Derived.Deep.RegionHeld3
import Derived.RangeFuncNested
import Derived.RangeFuncBound
import Derived.RangeFuncCalls
import Derived.RangeFuncLeaves
import Derived.Shelf.Abstract
import Derived.Shelf.RegionOpen
import Derived.OwnWalkIn
import Derived.TacticsInMore
import Derived.LoopNIn
import Derived.LoopIn
import Derived.RangeFuncWrites
import Derived.Scope
import Derived.ControlIn
import Derived.WalkMore
/-
  Plain arithmetic of fields of bits: no Go in sight.
-/
namespace Go.Proofs.YtaebipopmefkpaaGreatDoor
namespace WM
/-- The number that a field has. -/
def getN (w f v : Nat) : Nat := w / 2 ^ f % 2 ^ v
/-- The word in which a field has another number. -/
def putN (w f v n : Nat) : Nat := (w &&& (18446744073709551615 - (2 ^ v - 1) * 2 ^ f % 18446744073709551616)) ||| (n * 2 ^ f % 18446744073709551616)
def maskN (f v : Nat) : Nat := (2 ^ v - 1) * 2 ^ f % 18446744073709551616
theorem maskN_lt (f v : Nat) : maskN f v < 18446744073709551616 := Nat.mod_lt _ (by decide)
def okF (f v : Int) : Bool := decide (0 ≤ f ∧ f < 64 ∧ 1 ≤ v ∧ v ≤ 64 - f)

theorem getN_bit (w f v i : Nat) : (getN w f v).testBit i = (decide (i < v) && w.testBit (f + i)) := by
  unfold getN
  rw [Nat.testBit_mod_two_pow, Nat.testBit_div_two_pow, Nat.add_comm]
theorem mask_lt (f v : Nat) (h : f + v ≤ 64) : (2 ^ v - 1) * 2 ^ f < 18446744073709551616 := by
  have h1 : 2 ^ v * 2 ^ f ≤ 2 ^ 64 := by rw [← Nat.pow_add]; exact Nat.pow_le_pow_right (by decide) (by omega)
  have h2 : (2 ^ v - 1) * 2 ^ f = 2 ^ v * 2 ^ f - 2 ^ f := by rw [Nat.sub_mul, Nat.one_mul]
  have h3 : 0 < 2 ^ f := Nat.two_pow_pos f
  have h4 : 0 < 2 ^ v * 2 ^ f := Nat.mul_pos (Nat.two_pow_pos v) h3
  rw [h2]; omega
theorem num_lt (f v n : Nat) (h : f + v ≤ 64) (hn : n < 2 ^ v) : n * 2 ^ f < 18446744073709551616 := by
  have h1 : (2 ^ v - 1) * 2 ^ f < 18446744073709551616 := mask_lt f v h
  have : n * 2 ^ f ≤ (2 ^ v - 1) * 2 ^ f := Nat.mul_le_mul_right _ (by omega)
  omega
theorem mask_bit (f v i : Nat) : ((2 ^ v - 1) * 2 ^ f).testBit i = (decide (f ≤ i) && decide (i < f + v)) := by
  rw [Nat.testBit_mul_two_pow, Nat.testBit_two_pow_sub_one]
  by_cases h : f ≤ i
  · simp [h]; omega
  · simp [h]
theorem num_bit (f n i : Nat) : (n * 2 ^ f).testBit i = (decide (f ≤ i) && n.testBit (i - f)) := Nat.testBit_mul_two_pow ..
theorem compl_bit (m i : Nat) (hm : m < 18446744073709551616) : (18446744073709551615 - m).testBit i = (decide (i < 64) && !m.testBit i) := by
  have := Nat.testBit_two_pow_sub_succ (n := 64) hm i
  rw [← this]; congr 1; omega
theorem lt_bit (n v i : Nat) (h : n < 2 ^ v) (hi : v ≤ i) : n.testBit i = false := Nat.testBit_lt_two_pow (Nat.lt_of_lt_of_le h (Nat.pow_le_pow_right (by decide) hi))
theorem putN_bit (w f v n i : Nat) (h : f + v ≤ 64) (hn : n < 2 ^ v) (hw : w < 18446744073709551616) :
    (putN w f v n).testBit i = if f ≤ i ∧ i < f + v then n.testBit (i - f) else w.testBit i := by
  unfold putN
  rw [Nat.mod_eq_of_lt (mask_lt f v h), Nat.mod_eq_of_lt (num_lt f v n h hn), Nat.testBit_or, Nat.testBit_and, compl_bit _ _ (mask_lt f v h), mask_bit, num_bit]
  by_cases h1 : f ≤ i <;> by_cases h2 : i < f + v
  · have h3 : i < 64 := by omega
    simp [h1, h2]
  · have e : n.testBit (i - f) = false := lt_bit n v _ hn (by omega)
    by_cases h3 : i < 64
    · simp [h1, h2, e, h3]
    · have e2 : w.testBit i = false := lt_bit w 64 _ hw (by omega)
      simp [h1, h2, e, h3, e2]
  · by_cases h3 : i < 64
    · simp [h1, h3]
    · omega
  · omega
theorem putN_lt (w f v n : Nat) (_ : w < 18446744073709551616) : putN w f v n < 18446744073709551616 := by
  unfold putN
  exact Nat.or_lt_two_pow (n := 64) (Nat.and_lt_two_pow _ (by omega)) (by omega)
theorem getN_lt (w f v : Nat) : getN w f v < 2 ^ v := Nat.mod_lt _ (Nat.two_pow_pos v)
theorem pow_le64 (v : Nat) (h : v ≤ 64) : 2 ^ v ≤ 18446744073709551616 := Nat.pow_le_pow_right (n := 2) (by decide) h
theorem getN_lt64 (w f v : Nat) (h : v ≤ 64) : getN w f v < 18446744073709551616 := Nat.lt_of_lt_of_le (getN_lt w f v) (pow_le64 v h)
/-- What the program reckons. -/
theorem number_eq (w f v : Nat) (h : f + v ≤ 64) : (w &&& ((2 ^ v - 1) * 2 ^ f % 18446744073709551616)) / 2 ^ f = getN w f v := by
  rw [Nat.mod_eq_of_lt (mask_lt f v h)]
  apply Nat.eq_of_testBit_eq
  intro i
  rw [Nat.testBit_div_two_pow, Nat.testBit_and, mask_bit, getN_bit, Nat.add_comm i f]
  simp
  rw [Bool.and_comm]
theorem shl_int (n f : Nat) : IntKind.u64.wrap ((n : Int) * 2 ^ f) = ((n * 2 ^ f % 18446744073709551616 : Nat) : Int) := by
  rw [IntKind.wrap_u64, Int.natCast_emod, Int.natCast_mul, Int.natCast_pow]; rfl
theorem number_int (w f v : Nat) (h : f + v ≤ 64) : (((w &&& maskN f v : Nat) : Int)) / 2 ^ f = (getN w f v : Nat) := by
  rw [← number_eq w f v h, Int.natCast_ediv, Int.natCast_pow]
  rfl
theorem with_int (w f v n : Nat) (_ : f + v ≤ 64) (_ : n < 2 ^ v) (hw : w < 18446744073709551616) :
    bits .or .u64 (bits .andNot .u64 (w : Int) (maskN f v : Nat)) (IntKind.u64.wrap ((n : Int) * 2 ^ f)) = (putN w f v n : Nat) := by
  rw [u64_andNot_nat _ _ hw (maskN_lt f v), shl_int, u64_or_nat _ _ (Nat.and_lt_two_pow (n := 64) _ (by omega)) (Nat.mod_lt _ (by decide))]
  rfl
theorem holds_iff (n v : Nat) (hn : n < 18446744073709551616) (hv : v ≤ 64) : (n &&& (18446744073709551615 - (2 ^ v - 1))) = 0 ↔ n < 2 ^ v := by
  have hm : 2 ^ v - 1 < 18446744073709551616 := by have := pow_le64 v hv; have := Nat.two_pow_pos v; omega
  constructor
  · intro h
    apply Nat.lt_pow_two_of_testBit
    intro i hi
    by_cases h3 : i < 64
    · have e := congrArg (fun x => Nat.testBit x i) h
      simp only [Nat.testBit_and, compl_bit _ _ hm, Nat.testBit_two_pow_sub_one, Nat.zero_testBit] at e
      simpa [h3, show ¬ i < v from by omega] using e
    · exact lt_bit n 64 i hn (by omega)
  · intro h
    apply Nat.eq_of_testBit_eq
    intro i
    rw [Nat.testBit_and, compl_bit _ _ hm, Nat.testBit_two_pow_sub_one, Nat.zero_testBit]
    by_cases h1 : i < v
    · simp [h1]
    · simp [lt_bit n v i h (by omega)]
/-- A word with a bit. -/
def withN (w i : Nat) (b : Bool) : Nat := if w.testBit i = b then w else w ^^^ 2 ^ i
theorem withN_bit (w i : Nat) (b : Bool) (j : Nat) : (withN w i b).testBit j = if j = i then b else w.testBit j := by
  unfold withN
  by_cases h : w.testBit i = b
  · rw [if_pos h]
    by_cases hj : j = i
    · rw [if_pos hj, hj, h]
    · rw [if_neg hj]
  · rw [if_neg h, Nat.testBit_xor, Nat.testBit_two_pow]
    by_cases hj : j = i
    · subst hj; cases b <;> simp_all
    · rw [if_neg hj]; simp [show ¬ i = j from fun e => hj e.symm]
theorem withN_lt (w i : Nat) (b : Bool) (hw : w < 18446744073709551616) (hi : i < 64) : withN w i b < 18446744073709551616 := by
  unfold withN
  split
  · exact hw
  · exact Nat.xor_lt_two_pow (n := 64) hw (Nat.pow_lt_pow_right (a := 2) (by decide) hi)
/-- The field's number, its first k bits. -/
def getTo (w f k : Nat) : Nat := getN w f k
theorem getTo_succ (w f k : Nat) : withN (getTo w f k) k (w.testBit (f + k)) = getTo w f (k + 1) := by
  apply Nat.eq_of_testBit_eq
  intro j
  rw [withN_bit]
  unfold getTo
  rw [getN_bit, getN_bit]
  by_cases h : j = k
  · subst h; simp
  · rw [if_neg h]; congr 1; apply decide_eq_decide.2; omega
/-- The word in which the first k bits of a field are those of n. -/
def putTo (w f n : Nat) : Nat → Nat
  | 0 => w
  | k + 1 => withN (putTo w f n k) (f + k) (n.testBit k)
theorem putTo_bit (w f n : Nat) : ∀ k i, (putTo w f n k).testBit i = if f ≤ i ∧ i < f + k then n.testBit (i - f) else w.testBit i
  | 0, i => by rw [putTo, if_neg (by omega)]
  | k + 1, i => by
    rw [putTo, withN_bit, putTo_bit w f n k i]
    by_cases h : i = f + k
    · rw [if_pos h, if_pos (by omega), h]; congr 1; omega
    · rw [if_neg h]
      by_cases h2 : f ≤ i ∧ i < f + k
      · rw [if_pos h2, if_pos (by omega)]
      · rw [if_neg h2, if_neg (by omega)]
theorem putTo_lt (w f n : Nat) (hw : w < 18446744073709551616) : ∀ k, f + k ≤ 64 → putTo w f n k < 18446744073709551616
  | 0, _ => hw
  | k + 1, h => withN_lt _ _ _ (putTo_lt w f n hw k (by omega)) (by omega)
theorem putTo_eq (w f v n : Nat) (h : f + v ≤ 64) (hn : n < 2 ^ v) (hw : w < 18446744073709551616) : putTo w f n v = putN w f v n := by
  apply Nat.eq_of_testBit_eq
  intro i
  rw [putTo_bit, putN_bit w f v n i h hn hw]
theorem lt_of_bits (n v : Nat) (hn : n < 18446744073709551616) (h : ∀ i, v ≤ i → i < 64 → n.testBit i = false) : n < 2 ^ v := by
  apply Nat.lt_pow_two_of_testBit
  intro i hi
  by_cases h3 : i < 64
  · exact h i hi h3
  · exact lt_bit n 64 i hn (by omega)
theorem bit_int (n i : Nat) : ((n : Int) / 2 ^ i % 2 == 1) = n.testBit i := by
  rw [Nat.testBit_eq_decide_div_mod_eq]
  rw [Bool.eq_iff_iff, beq_iff_eq, decide_eq_true_iff]
  have : (n : Int) / 2 ^ i = ((n / 2 ^ i : Nat) : Int) := by rw [Int.natCast_ediv, Int.natCast_pow]; rfl
  rw [this]; omega
theorem pow_int (i : Nat) (hi : i < 64) : IntKind.u64.wrap (2 ^ i) = ((2 ^ i : Nat) : Int) := by
  have h : (2 : Nat) ^ i < 18446744073709551616 := Nat.pow_lt_pow_right (a := 2) (m := i) (n := 64) (by decide) hi
  have e2 : ((2 : Int) ^ i) = ((2 ^ i : Nat) : Int) := by rw [Int.natCast_pow]; rfl
  rw [IntKind.wrap_u64, e2]
  generalize (2 ^ i : Nat) = x at *
  omega
theorem pow_lt64 (i : Nat) (hi : i < 64) : (2 : Nat) ^ i < 18446744073709551616 := Nat.pow_lt_pow_right (a := 2) (m := i) (n := 64) (by decide) hi
/-- The word of the first k bits, but no more than the field has. -/
def putC (w f n v k : Nat) : Nat := putTo w f n (min k v)
theorem putC_zero (w f n v : Nat) : putC w f n v 0 = w := by unfold putC; rw [Nat.zero_min]; rfl
theorem putC_step (w f n v k : Nat) (h : k < v) : withN (putC w f n v k) (f + k) (n.testBit k) = putC w f n v (k + 1) := by
  unfold putC
  rw [Nat.min_eq_left (Nat.le_of_lt h), Nat.min_eq_left (show k + 1 ≤ v from h)]
  rfl
theorem putC_stay (w f n v k : Nat) (h : v ≤ k) : putC w f n v (k + 1) = putC w f n v k := by
  unfold putC
  rw [Nat.min_eq_right h, Nat.min_eq_right (by omega)]
theorem putC_end (w f n v k : Nat) (hk : v ≤ k) (h : f + v ≤ 64) (hn : n < 2 ^ v) (hw : w < 18446744073709551616) : putC w f n v k = putN w f v n := by
  unfold putC
  rw [Nat.min_eq_right hk, putTo_eq w f v n h hn hw]
theorem putC_lt (w f n v k : Nat) (h : f + v ≤ 64) (hw : w < 18446744073709551616) : putC w f n v k < 18446744073709551616 := putTo_lt w f n hw _ (by omega)
end WM
end Go.Proofs.YtaebipopmefkpaaGreatDoor

/-
  Contracts of package word's functions on fields (no loop): spanOf, mayBe, mask, number, holds, with, Get, Put.
-/
namespace Go.Proofs.YtaebipopmefkpaaGreatDoor
open Go.RowKit

theorem ret_bool {a b : Bool} (h : a = b) : Ending.returned (.bool a) = .returned (.bool b) := by rw [h]
theorem ret_int {k : IntKind} {a b : Int} (h : a = b) : Ending.returned (.int k a) = .returned (.int k b) := by rw [h]
theorem bcell {W w1 : World} (hb : Below W.heap.size W w1) : (∀ b o, b < W.heap.size → w1.cell? ⟨b, o, none⟩ = W.cell? ⟨b, o, none⟩) ∧ (∀ b o, b < W.heap.size → w1.frozen? ⟨b, o, none⟩ = W.frozen? ⟨b, o, none⟩) :=
  ⟨fun b o h => hb.cell (p := ⟨b, o, none⟩) h, fun b o h => hb.frozen (p := ⟨b, o, none⟩) h⟩
theorem below_drewN {B : Nat} {a w : World} (h : Below B a w) (n : Nat) : Below B a (w.drewN n) := ⟨h.os, h.tape, h.output, h.size, h.block⟩
/-- What the package-level table holds. -/
structure Tabs (w : World) : Prop where
  masks : ∀ v : Nat, v ≤ 64 → w.cell? ⟨0, v, none⟩ = some (.int .u64 ((2 ^ v - 1 : Nat) : Int))
  room : 0 + 1 ≤ w.heap.size
theorem Tabs.below {B : Nat} {w w' : World} (h : Tabs w) (hb : Below B w w') (hB : 0 + 1 ≤ B) : Tabs w' :=
  ⟨fun v hv => (hb.cell (p := ⟨0, v, none⟩) (show 0 < B by omega)).trans (h.masks v hv), Nat.le_trans h.room hb.size⟩
theorem spanOf_any (f v : Int) (w : World) :
    Calls Tryz.prog 127 #[.agg #[.int .i64 f, .int .i64 v]] w fun e w' => e = .returned (.agg #[.int .i64 f, .int .i64 v]) ∧ Below w.heap.size w w' := by
  go_enter Tryz.func127, Tryz.ntmps127
  go_wp2
  refine bodyPost_ret (v := .agg #[.int .i64 f, .int .i64 v]) (by simp [results, Tryz.results127, go_sem]) rfl ⟨rfl, ?_⟩
  exact (((Below.refl _ _).alloc (Nat.le_refl _) _).alloc (by simp) _)
theorem mayBe_any (f v : Int) (hf : -9223372036854775808 ≤ f) (w : World) :
    Calls Tryz.prog 128 #[.agg #[.int .i64 f, .int .i64 v]] w fun e w' => e = .returned (.bool (WM.okF f v)) ∧ Below w.heap.size w w' := by
  go_enter Tryz.func128, Tryz.ntmps128
  go_wp2
  all_goals go_ret
  all_goals exact ⟨ret_bool (by unfold WM.okF; first | (rw [eq_comm, decide_eq_false_iff_not]; omega) | (apply decide_eq_decide.2; omega)), (Below.refl _ _).alloc (Nat.le_refl _) _⟩
theorem mask_any (f v : Nat) (h : f + v ≤ 64) (hf : f < 64) (w : World) (ht : Tabs w) :
    Calls Tryz.prog 144 #[.agg #[.int .i64 f, .int .i64 v]] w fun e w' => e = .returned (.int .u64 (WM.maskN f v : Nat)) ∧ Below w.heap.size w w' := by
  have h0 : (v : Int) < 65 := by omega
  have h1 : (f : Int) < 64 := by omega
  have hz : 0 < w.heap.size := by have := ht.room; omega
  have hc := ht.masks v (by omega)
  clear ht
  go_enter Tryz.func144, Tryz.ntmps144
  go_wp2
  go_quiet (fail)
  go_wp2
  go_ret
  exact ⟨ret_int (WM.shl_int _ _), below_drewN ((Below.refl _ _).alloc (Nat.le_refl _) _) _⟩
theorem holds_any (f : Int) (v n : Nat) (hv : v ≤ 64) (hn : n < 18446744073709551616) (w : World) (ht : Tabs w) :
    Calls Tryz.prog 129 #[.agg #[.int .i64 f, .int .i64 v], .int .u64 n] w fun e w' => e = .returned (.bool (decide (n < 2 ^ v))) ∧ Below w.heap.size w w' := by
  have h0 : (v : Int) < 65 := by omega
  have hz : 0 < w.heap.size := by have := ht.room; omega
  have hc := ht.masks v (by omega)
  have hm : 2 ^ v - 1 < 18446744073709551616 := by have := WM.pow_le64 v hv; have := Nat.two_pow_pos v; omega
  clear ht
  go_enter Tryz.func129, Tryz.ntmps129
  go_wp2
  all_goals go_ret
  exact ⟨ret_bool (by
    rw [Bool.eq_iff_iff, decide_eq_true_iff, ← WM.holds_iff n v hn hv]
    rw [u64_andNot_nat _ _ hn hm, beq_iff_eq]; exact Int.natCast_eq_zero), (Below.refl _ _).alloc (Nat.le_refl _) _⟩
theorem number_any (f v n : Nat) (h : f + v ≤ 64) (hf : f < 64) (hn : n < 18446744073709551616) (w : World) (ht : Tabs w) :
    Calls Tryz.prog 131 #[.agg #[.int .i64 f, .int .i64 v, .int .u64 n]] w fun e w' => e = .returned (.int .u64 (WM.getN n f v : Nat)) ∧ Below w.heap.size w w' := by
  have h1 : (f : Int) < 64 := by omega
  have e := Lib.hid (WM.number_int n f v h)
  have hm := WM.maskN_lt f v
  go_enter Tryz.func131, Tryz.ntmps131
  go_wp2
  go_region_held3 (fun w' => w'.cell? ⟨w.heap.size, 0, none⟩ = some (.int .i64 f) ∧ w'.cell? ⟨w.heap.size, 1, none⟩ = some (.int .i64 v) ∧ w'.cell? ⟨w.heap.size, 2, none⟩ = some (.int .u64 n)) (simp [*, go_sem])
    (first | (go_at_call 144; refine (mask_any f v h hf _ (by exact ht.below ((Below.refl _ _).alloc (Nat.le_refl _) _).drew ht.room)).mono ?_; rintro e w2 ⟨rfl, hb2⟩; obtain ⟨hc2, hf2⟩ := bcell hb2))
  go_wp2
  go_ret
  exact ⟨ret_int (by rw [u64_and_nat _ _ hn hm]; exact e.out), ((Below.refl _ _).alloc (Nat.le_refl _) _).drew.trans (hb2.mono (by simp))⟩
theorem with_any (f v n m : Nat) (h : f + v ≤ 64) (hf : f < 64) (hn : n < 18446744073709551616) (hm : m < 2 ^ v) (w : World) (ht : Tabs w) :
    Calls Tryz.prog 130 #[.agg #[.int .i64 f, .int .i64 v, .int .u64 n], .int .u64 m] w fun e w' => e = .returned (.int .u64 (WM.putN n f v m : Nat)) ∧ Below w.heap.size w w' := by
  have h1 : (f : Int) < 64 := by omega
  have e := Lib.hid (WM.with_int n f v m h hm hn)
  go_enter Tryz.func130, Tryz.ntmps130
  go_wp2
  go_region_held3 (fun w' => w'.cell? ⟨w.heap.size, 0, none⟩ = some (.int .i64 f) ∧ w'.cell? ⟨w.heap.size, 1, none⟩ = some (.int .i64 v) ∧ w'.cell? ⟨w.heap.size, 2, none⟩ = some (.int .u64 n)) (simp [*, go_sem])
    (first | (go_at_call 144; refine (mask_any f v h hf _ (by exact ht.below ((Below.refl _ _).alloc (Nat.le_refl _) _).drew ht.room)).mono ?_; rintro e w2 ⟨rfl, hb2⟩; obtain ⟨hc2, hf2⟩ := bcell hb2))
  go_wp2
  go_ret
  exact ⟨ret_int e.out, ((Below.refl _ _).alloc (Nat.le_refl _) _).drew.trans (hb2.mono (by simp))⟩
theorem get_no (f v : Int) (n : Int) (h : WM.okF f v = false) (hf : -9223372036854775808 ≤ f) (w : World) :
    Calls Tryz.prog 95 #[.int .u64 n, .agg #[.int .i64 f, .int .i64 v]] w fun e w' => e = .returned (.tuple #[.int .u64 0, .int .i64 2]) ∧ Below w.heap.size w w' := by
  have H := Lib.hid h
  clear h
  go_enter Tryz.func95, Tryz.ntmps95
  go_wp2_with fail
  refine (spanOf_any f v _).mono ?_
  rintro e w1 ⟨rfl, hb1⟩
  have z1 := hb1.size; try simp at z1
  go_wp2_with fail
  refine (mayBe_any f v hf _).mono ?_
  rintro e w2 ⟨rfl, hb2⟩
  rw [H.out]
  go_wp2_with fail
  go_ret2
  exact ⟨rfl, (by repeat (first | exact Below.refl _ _ | assumption | refine Below.drew ?_ | refine below_drewN ?_ _ | refine Below.alloc ?_ (by (try simp) <;> omega) _ | refine Below.setCell ?_ (by (try simp) <;> omega) _ | refine Below.trans ?_ (Below.mono (by assumption) (by (try simp) <;> omega))))⟩
theorem get_yes (f v n : Nat) (h : f + v ≤ 64) (hf : f < 64) (hv : 1 ≤ v) (hn : n < 18446744073709551616) (w : World) (ht : Tabs w) :
    Calls Tryz.prog 95 #[.int .u64 n, .agg #[.int .i64 f, .int .i64 v]] w fun e w' => e = .returned (.tuple #[.int .u64 (WM.getN n f v : Nat), .int .i64 0]) ∧ Below w.heap.size w w' := by
  have H := Lib.hid (show WM.okF f v = true from decide_eq_true ⟨by omega, by omega, by omega, by omega⟩)
  go_enter Tryz.func95, Tryz.ntmps95
  go_wp2_with fail
  refine (spanOf_any f v _).mono ?_
  rintro e w1 ⟨rfl, hb1⟩
  have z1 := hb1.size; try simp at z1
  go_wp2_with fail
  refine (mayBe_any f v (by omega) _).mono ?_
  rintro e w2 ⟨rfl, hb2⟩
  rw [H.out]
  have z2 := hb2.size; try simp at z2
  obtain ⟨hc2, hf2⟩ := bcell hb2
  go_wp2_with fail
  refine (number_any f v n h hf hn _ (by exact ht.below (by repeat (first | exact Below.refl _ _ | assumption | refine Below.drew ?_ | refine below_drewN ?_ _ | refine Below.alloc ?_ (by (try simp) <;> omega) _ | refine Below.setCell ?_ (by (try simp) <;> omega) _ | refine Below.trans ?_ (Below.mono (by assumption) (by (try simp) <;> omega)))) ht.room)).mono ?_
  rintro e w3 ⟨rfl, hb3⟩
  go_wp2_with fail
  go_ret2
  exact ⟨rfl, (by repeat (first | exact Below.refl _ _ | assumption | refine Below.drew ?_ | refine below_drewN ?_ _ | refine Below.alloc ?_ (by (try simp) <;> omega) _ | refine Below.setCell ?_ (by (try simp) <;> omega) _ | refine Below.trans ?_ (Below.mono (by assumption) (by (try simp) <;> omega))))⟩
end Go.Proofs.YtaebipopmefkpaaGreatDoor

/-
  Contracts of math/bits.TrailingZeros64 and of word.Bits (an iterator).
-/
namespace Go.Proofs.YtaebipopmefkpaaGreatDoor
open Go.RowKit Go.Shelf
attribute [local go_sem] Oper.semAt_some
namespace WM
/-- The bits that are 1, rising. -/
def bitsOf (x : Nat) : List Nat := (List.range 64).filter (fun i => x.testBit i)
theorem bitsOf_zero : bitsOf 0 = [] := by unfold bitsOf; simp
theorem low_split (x : Nat) (h0 : x ≠ 0) (h : x < 18446744073709551616) : ∃ m, x = 2 ^ (Lib.ctz 64 x + 1) * m + 2 ^ Lib.ctz 64 x ∧ Lib.ctz 64 x < 64 := by
  obtain ⟨m, hm, hk⟩ := Lib.ctzFrom_spec 64 x (by omega) h
  have e : Lib.ctz 64 x = Lib.ctzFrom 64 x := by simp [Lib.ctz, h0]
  rw [e]
  refine ⟨m, ?_, hk⟩
  rw [Nat.pow_succ, Nat.mul_assoc]
  generalize 2 ^ Lib.ctzFrom 64 x = p at *
  rw [hm, Nat.mul_add, Nat.mul_one]
theorem and_pred_bit (k m j : Nat) : ((2 ^ (k + 1) * m + 2 ^ k) &&& (2 ^ (k + 1) * m + 2 ^ k - 1)).testBit j = if j < k + 1 then false else m.testBit (j - (k + 1)) := by
  have hp := Nat.two_pow_pos k
  have hs : 2 ^ (k + 1) = 2 * 2 ^ k := by rw [Nat.pow_succ, Nat.mul_comm]
  have e : 2 ^ (k + 1) * m + 2 ^ k - 1 = 2 ^ (k + 1) * m + (2 ^ k - 1) := by omega
  rw [e, Nat.testBit_and, Nat.testBit_two_pow_mul_add _ (by omega), Nat.testBit_two_pow_mul_add _ (by omega)]
  by_cases h : j < k + 1
  · rw [if_pos h, if_pos h, if_pos h, Nat.testBit_two_pow, Nat.testBit_two_pow_sub_one]
    by_cases hj : k = j
    · simp [hj]
    · simp [hj]
  · rw [if_neg h, if_neg h, if_neg h, Bool.and_self]
theorem bitsOf_cons (x : Nat) (h0 : x ≠ 0) (h : x < 18446744073709551616) : bitsOf x = Lib.ctz 64 x :: bitsOf (x &&& (x - 1)) := by
  obtain ⟨m, hm, hk⟩ := low_split x h0 h
  generalize Lib.ctz 64 x = k at *
  subst hm
  have hs : 2 ^ (k + 1) = 2 * 2 ^ k := by rw [Nat.pow_succ, Nat.mul_comm]
  have hp := Nat.two_pow_pos k
  have e : List.range 64 = List.range k ++ (k :: List.range' (k + 1) (63 - k)) := by
    rw [List.range_eq_range', List.range_eq_range', ← List.range'_succ]
    have : 63 - k + 1 = 64 - k := by omega
    rw [this]
    have := List.range'_append_1 (s := 0) (m := k) (n := 64 - k)
    rw [Nat.zero_add] at this
    rw [this]; congr 1; omega
  unfold bitsOf
  rw [e, List.filter_append, List.filter_append, List.filter_cons, List.filter_cons]
  have a1 : (List.range k).filter (fun i => (2 ^ (k + 1) * m + 2 ^ k).testBit i) = [] := by
    rw [List.filter_eq_nil_iff]
    intro i hi
    have hi' : i < k := List.mem_range.1 hi
    rw [Nat.testBit_two_pow_mul_add _ (by omega), if_pos (by omega), Nat.testBit_two_pow]
    simp; omega
  have a2 : (List.range k).filter (fun i => ((2 ^ (k + 1) * m + 2 ^ k) &&& (2 ^ (k + 1) * m + 2 ^ k - 1)).testBit i) = [] := by
    rw [List.filter_eq_nil_iff]
    intro i hi
    have hi' : i < k := List.mem_range.1 hi
    rw [and_pred_bit, if_pos (by omega)]; simp
  have b1 : (2 ^ (k + 1) * m + 2 ^ k).testBit k = true := by
    rw [Nat.testBit_two_pow_mul_add _ (by omega), if_pos (by omega), Nat.testBit_two_pow]; simp
  have b2 : ((2 ^ (k + 1) * m + 2 ^ k) &&& (2 ^ (k + 1) * m + 2 ^ k - 1)).testBit k = false := by rw [and_pred_bit, if_pos (by omega)]
  rw [a1, a2, b1, b2]
  simp only [List.nil_append, if_true, Bool.false_eq_true, if_false]
  congr 1
  apply List.filter_congr
  intro i hi
  have hi' : k + 1 ≤ i := (List.mem_range'_1.1 hi).1
  rw [and_pred_bit, if_neg (by omega), Nat.testBit_two_pow_mul_add _ (by omega), if_neg (by omega)]
theorem bitsOf_len (x : Nat) : (bitsOf x).length ≤ 64 := by
  unfold bitsOf
  exact Nat.le_trans (List.length_filter_le _ _) (by simp)
theorem ctz_lt (x : Nat) (h0 : x ≠ 0) (h : x < 18446744073709551616) : Lib.ctz 64 x < 64 := (low_split x h0 h).choose_spec.2
theorem dec_int (x : Nat) (h0 : x ≠ 0) (h : x < 18446744073709551616) : bits .and .u64 (x : Int) ((x : Int) - 1) = ((x &&& (x - 1) : Nat) : Int) := by
  have e : (x : Int) - 1 = ((x - 1 : Nat) : Int) := by omega
  rw [e, u64_and_nat _ _ h (by omega)]
end WM

/-- The blocks p are as they were. -/
def Keeps (p : Nat → Prop) (W W' : World) : Prop := W.heap.size ≤ W'.heap.size ∧ ∀ k, p k → k < W.heap.size → W'.heap[k]? = W.heap[k]?
theorem Keeps.refl (p : Nat → Prop) (W : World) : Keeps p W W := ⟨Nat.le_refl _, fun _ _ _ => rfl⟩
theorem Keeps.trans {p : Nat → Prop} {A B C : World} (h : Keeps p A B) (k : Keeps p B C) : Keeps p A C :=
  ⟨Nat.le_trans h.1 k.1, fun i hi hl => (k.2 i hi (Nat.lt_of_lt_of_le hl h.1)).trans (h.2 i hi hl)⟩
theorem Keeps.cell {p : Nat → Prop} {A B : World} (h : Keeps p A B) {q : Addr} (hp : p q.block) {v : Value} (hc : A.cell? q = some v) : B.cell? q = some v := by
  have hl : q.block < A.heap.size := by
    rcases Nat.lt_or_ge q.block A.heap.size with h1 | h1
    · exact h1
    · unfold World.cell? at hc; rw [Array.getElem?_eq_none h1] at hc; cases hc
  exact (World.cell?_of_block (w := A) (h.2 q.block hp hl)).trans hc
theorem Keeps.drewN {p : Nat → Prop} {A B : World} (h : Keeps p A B) (n : Nat) : Keeps p A (B.drewN n) := h
theorem Keeps.of_below {p : Nat → Prop} {n₀ : Nat} {A B : World} (h : Below n₀ A B) (hp : ∀ k, p k → k < n₀) : Keeps p A B := ⟨h.size, fun k hk _ => h.block k (hp k hk)⟩
theorem Keeps.of_grown {p : Nat → Prop} {A B : World} {row : Option Nat} (h : A.grownBy B row) (hp : ∀ k, row = some k → ¬ p k) : Keeps p A B :=
  ⟨h.size, fun k hk hl => h.block k hl (fun e => hp k e.symm hk)⟩
theorem Keeps.set {p : Nat → Prop} (A : World) {b o : Nat} (v : Value) (hp : ¬ p b) : Keeps p A (A.setCell ⟨b, o, none⟩ v) :=
  ⟨by simp [World.setCell], fun k hk _ => Below.heap_setCell _ _ _ _ (fun e => hp (by rw [e] at hk; exact hk))⟩
theorem keeps_b {p : Nat → Prop} {w : World} (hp : ∀ k, p k → k < w.heap.size) (W : World) (l : Nat) (o o' : Obj) (hl : w.heap.size ≤ l) (_ : W.heap[l]? = some o) (_ : o.isCells = false) (_ : o.isWalk = false) : Keeps p W (W.putObj l o') :=
  Keeps.of_grown (grownBy_putObj' W l o') (fun k e hk => by cases e; have := hp l hk; omega)
/-- What an iterator over a word's bits needs: its box, and the tables. -/
def BitsBlocks (Bs : Nat) (k : Nat) : Prop := k = Bs ∨ k < 2
end Go.Proofs.YtaebipopmefkpaaGreatDoor

/-
  A range over an iterator that has cells, and loops, of its own. The iterator may turn whatever lies from its call on; the body of the loop keeps all of that, and what the iterator names below it.
-/
namespace Go.Proofs.YtaebipopmefkpaaGreatDoor
open Go.RowKit Go.Shelf

/-- J does not mind what turns from block B on. -/
def Under {β : Type} (B : Nat) (J : β → World → Prop) : Prop := ∀ s W W', J s W → Below B W W' → J s W'
theorem Under.and {β : Type} {B : Nat} {I J : β → World → Prop} (h : Under B I) (k : Under B J) : Under B (fun s W => I s W ∧ J s W) := fun s W W' hs hb => ⟨h s W W' hs.1 hb, k s W W' hs.2 hb⟩
theorem Under.mono {β : Type} {B B' : Nat} {J : β → World → Prop} (h : Under B J) (hB : B ≤ B') : Under B' J := fun s W W' hs hb => h s W W' hs (hb.mono hB)
theorem Under.pure {β : Type} (B : Nat) (p : β → Prop) : Under B (fun s (_ : World) => p s) := fun _ _ _ hs _ => hs
theorem Under.imp {β : Type} {B : Nat} {I : β → World → Prop} (c : Prop) (h : Under B I) : Under B (fun s W => c → I s W) := fun s W W' hs hb hc => h s W W' (hs hc) hb
theorem Under.box {β : Type} {B A : Nat} {t : TypeId} (f : β → Value) (hA : A < B) : Under B (fun s W => Boxed W A t (f s)) := fun _ _ _ hs hb => (hb.block A hA).trans hs
theorem Under.below {β : Type} {B n₀ : Nat} {w₀ : World} (h : n₀ ≤ B) : Under B (fun (_ : β) W => Below n₀ w₀ W) := fun _ _ _ hs hb => hs.trans (hb.mono h)
theorem Keeps.weaken {p q : Nat → Prop} {A B : World} (h : Keeps p A B) (hq : ∀ k, q k → p k) : Keeps q A B := ⟨h.1, fun k hk hl => h.2 k (hq k hk) hl⟩
theorem keeps_putObj {q : Nat → Prop} (W : World) (l : Nat) (o : Obj) (hq : ¬ q l) : Keeps q W (W.putObj l o) := Keeps.of_grown (grownBy_putObj' W l o) (fun k e => by cases e; exact hq)
theorem below_putObj {B : Nat} (W : World) {l : Nat} (o : Obj) (hB : B ≤ l) (hl : l < W.heap.size) : Below B W (W.putObj l o) := (Below.refl _ _).grown (grownBy_putObj' W l o) (by omega) (fun k e => by cases e; exact hB)
/-- What an iterator promises: all of the elements come, or those up to the one at which it was told to stop. -/
def SeqP {α : Type} (p : Nat → Prop) (n : Nat) (P : Program) (g : Nat) (lb : Array Value) (encs : α → Array Value) (S Sp : List α → Prop) (w : World) : Prop :=
  ∀ (l : Nat) (J Jx : List α → World → Prop) (W : World), Below w.heap.size w W → Under W.heap.size J → Under W.heap.size Jx →
    (∀ pre x W1, J pre W1 → W.heap.size ≤ W1.heap.size → Sp (pre ++ [x]) → YieldAt Fence.wide (n - 1) P l (encs x) W1 fun e W' =>
      Keeps (fun k => p k ∨ W.heap.size ≤ k) W1 W' ∧ ((e = .returned (.bool true) ∧ J (pre ++ [x]) W') ∨ (e = .returned (.bool false) ∧ Jx (pre ++ [x]) W'))) →
    J [] W →
    CallsIn Fence.wide n P g (#[.func (.yield l) #[] #[]] ++ lb) W fun e W' => (∃ v, e = .returned v) ∧ ((∃ xs, S xs ∧ J xs W') ∨ (∃ pre, Sp pre ∧ Jx pre W'))
/-- How a round may end. -/
def postP {α : Type} (p : Nat → Prop) (B : Nat) (I : List α → World → Prop) (Ix : Code → List α → World → Prop) (xs : List α) (W : World) : Exit → Act → World → Prop
  | .normal, _, W' => Keeps (fun k => p k ∨ B ≤ k) W W' ∧ I xs W'
  | .ret, _, W' => Keeps (fun k => p k ∨ B ≤ k) W W' ∧ Ix .ret xs W'
  | .exit id, _, W' => Keeps (fun k => p k ∨ B ≤ k) W W' ∧ Ix (.exit id) xs W'
  | _, _, _ => False
theorem wpIn_range_P {α : Type} {n : Nat} {P : Program} {g : Operand} {ps : Array Tmp} {assign body : Code} {Q : Exit → Act → World → Prop} {a : Act} {w : World}
    (h1 : 1 ≤ n) {gf : Nat} {lb : Array Value} (hg : a.eval g = .func (.func gf) #[] lb) (eg : ∀ args w, (callFunc gf args).run P w = .ok (.enter gf args) w)
    {encs : α → Array Value} {p : Nat → Prop} {S Sp : List α → Prop} {w0 : World} (hseq : SeqP p (n - 1) P gf lb encs S Sp w0) (hp : ∀ k, p k → k < w.heap.size) (hb0 : Below w0.heap.size w0 w) (hps : ∀ x, (encs x).size = ps.size)
    (I : List α → World → Prop) (Ix : Code → List α → World → Prop) (hI : Under w.heap.size I) (hIx : ∀ c, Under w.heap.size (Ix c)) (h0 : I [] w) (a₁ : α → Act)
    (hassign : ∀ (l : Nat) (x : α) (W : World) (K : Act → World → Prop), K (a₁ x) W →
      assign.wpIn (Fence.wide.inRound l) (n - 1 - 1) P (Exit.then K (fun _ _ _ => False)) { tmps := (ps.zip (encs x)).foldl (fun t (p, v) => t.setIfInBounds p v) a.tmps, defers := [] } W)
    (hbody : ∀ (l : Nat) (pre : List α) (x : α) (W : World), I pre W → w.heap.size ≤ W.heap.size → Sp (pre ++ [x]) → body.wpIn (Fence.wide.inRound l) (n - 1 - 1) P (postP p w.heap.size I Ix (pre ++ [x]) W) (a₁ x) W)
    (hdone : ∀ (D : Nat) (xs : List α) (W : World), w.heap.size ≤ D → S xs → I xs W → W.heap[D]? = some (.deferred (some [])) → Q .normal { a with defers := { target := .collected D, args := #[] } :: a.defers } W)
    (hstop : ∀ (D : Nat) (c : Code) (pre : List α) (W : World), w.heap.size ≤ D → Sp pre → Ix c pre W → W.heap[D]? = some (.deferred (some [])) → c.wpIn Fence.wide n P Q { a with defers := { target := .collected D, args := #[] } :: a.defers } W) :
    (Code.rangeFunc g ps assign body).wpIn Fence.wide n P Q a w := by
  refine wpIn_rangeFunc fun fn hfn => ?_
  obtain ⟨rec, hrec⟩ : ∃ rec : LoopState → Option Code → Loop, rec = fun st pe => { state := st, pending := pe, fn, tmps := a.tmps, params := ps, assign, body, defers := w.heap.size } := ⟨_, rfl⟩
  have hst : ∀ st pe, (rec st pe).state = st := fun st pe => by rw [hrec]
  have hpen : ∀ st pe, (rec st pe).pending = pe := fun st pe => by rw [hrec]
  have hbusy : ∀ st pe, { rec st pe with state := .busy } = rec .busy pe := fun st pe => by rw [hrec]
  obtain ⟨W1, hW1⟩ : ∃ W1, (w.alloc (.deferred (some []))).alloc (.loop (rec .ready none)) = W1 := ⟨_, rfl⟩
  have hsz : W1.heap.size = w.heap.size + 2 := by rw [← hW1]; simp
  have hL1 : W1.heap[w.heap.size + 1]? = some (.loop (rec .ready none)) := by
    rw [← hW1]; have := World.alloc_heap_new (w.alloc (.deferred (some []))) (.loop (rec .ready none)); rwa [World.size_alloc] at this
  have hK1 : W1.heap[w.heap.size]? = some (.deferred (some [])) := by
    rw [← hW1]; exact (Below.heap_alloc _ _ _ (by simp)).trans (World.alloc_heap_new w _)
  have bW1 : Below w.heap.size w W1 := by rw [← hW1]; exact ((Below.refl _ _).alloc (Nat.le_refl _) _).alloc (by simp) _
  refine ⟨w.heap.size + 1, [{ target := .collected w.heap.size, args := #[] }], W1, { target := .fn (.func gf) lb, args := #[.func (.yield (w.heap.size + 1)) #[] #[]] }, W1, gf,
    #[.func (.yield (w.heap.size + 1)) #[] #[]] ++ lb, W1, ?_, ?_, fun _ _ => trivial, ?_, fun _ => h1, ?_⟩
  · rw [← hW1, hrec]; exact run_enterLoop_outer _ _ _ _ _
  · simp only [resolve, hg]
    simp [go_sem]
  · simp [invoke, go_sem, eg]
  · refine (hseq (w.heap.size + 1)
      (fun pre W => I pre W ∧ W.heap[w.heap.size + 1]? = some (.loop (rec .ready none)) ∧ W.heap[w.heap.size]? = some (.deferred (some [])))
      (fun pre W => ∃ c, Ix c pre W ∧ W.heap[w.heap.size + 1]? = some (.loop (rec .done (some c))) ∧ W.heap[w.heap.size]? = some (.deferred (some [])))
      W1 (hb0.trans (bW1.mono hb0.size))
      (fun s A C hs hb => ⟨hI s A C hs.1 (hb.mono (by omega)), (hb.block _ (by omega)).trans hs.2.1, (hb.block _ (by omega)).trans hs.2.2⟩)
      (fun s A C ⟨c, hc, hl, hk⟩ hb => ⟨c, hIx c s A C hc (hb.mono (by omega)), (hb.block _ (by omega)).trans hl, (hb.block _ (by omega)).trans hk⟩)
      ?_ ⟨hI [] w W1 h0 bW1, hL1, hK1⟩).mono ?_
    · rintro pre x W ⟨hi, hl, hk⟩ - hlen
      have hlt : w.heap.size + 1 < W.heap.size := (Array.getElem?_eq_some_iff.1 hl).1
      have hy := run_yield (P := P) (args := encs x) hl (by rw [hrec]; exact hps x)
      rw [hrec] at hy
      have hbr := run_beginRound (P := P) hl (hst _ _)
      rw [hbusy] at hbr
      obtain ⟨W2, hW2⟩ : ∃ W2, W.putObj (w.heap.size + 1) (.loop (rec .busy none)) = W2 := ⟨_, rfl⟩
      rw [hW2] at hbr
      have b2 : Below w.heap.size W W2 := by rw [← hW2]; exact below_putObj W _ (by omega) hlt
      have k2 : Keeps (fun k => p k ∨ W1.heap.size ≤ k) W W2 := by
        rw [← hW2]
        exact keeps_putObj W _ _ (fun h => h.elim (fun h => by have := hp _ h; omega) (fun h => by omega))
      have l2 : W2.heap[w.heap.size + 1]? = some (.loop (rec .busy none)) := by rw [← hW2]; exact World.putObj_heap_same hlt
      have d2 : W2.heap[w.heap.size]? = some (.deferred (some [])) := by rw [← hW2]; exact (World.putObj_heap_other (by omega)).trans hk
      refine ⟨fn, _, assign, body, hy, roundIn_of_wpIn hfn (hassign _ x W _ ⟨_, hbr, ?_⟩)⟩
      have hs2 : w.heap.size ≤ W2.heap.size := Nat.le_trans (by omega) b2.size
      refine wpIn_mono (hbody _ pre x W2 (hI pre W W2 hi b2) hs2 hlen) ?_
      have fin : ∀ (jump : Option Code) (W3 : World), Keeps (fun k => p k ∨ w.heap.size ≤ k) W2 W3 → ∃ W4,
          (Instr.endRound (w.heap.size + 1) jump).run P W3 = .ok (.bool jump.isNone) W4 ∧ Below w.heap.size W3 W4 ∧ Keeps (fun k => p k ∨ W1.heap.size ≤ k) W W4 ∧
          W4.heap[w.heap.size + 1]? = some (.loop (rec (if jump.isNone then .ready else .done) jump)) ∧ W4.heap[w.heap.size]? = some (.deferred (some [])) := fun jump W3 k3 => by
        have l3 : W3.heap[w.heap.size + 1]? = some (.loop (rec .busy none)) := (k3.2 _ (.inr (by omega)) (Array.getElem?_eq_some_iff.1 l2).1).trans l2
        have d3 : W3.heap[w.heap.size]? = some (.deferred (some [])) := (k3.2 _ (.inr (by omega)) (Array.getElem?_eq_some_iff.1 d2).1).trans d2
        have hl3 := (Array.getElem?_eq_some_iff.1 l3).1
        have he := run_endRound (P := P) jump l3
        rw [hrec] at he
        refine ⟨W3.putObj (w.heap.size + 1) (.loop (rec (if jump.isNone then .ready else .done) jump)), ?_, below_putObj W3 _ (by omega) hl3, ?_, World.putObj_heap_same hl3, (World.putObj_heap_other (by omega)).trans d3⟩
        · rw [hrec]; exact he
        · exact (k2.trans (k3.weaken fun k h => h.imp id fun h => by omega)).trans (keeps_putObj W3 _ _ (fun h => h.elim (fun h => by have := hp _ h; omega) (fun h => by omega)))
      rintro e a3 W3 hpost
      cases e with
      | normal =>
        obtain ⟨k3, hi3⟩ := hpost
        obtain ⟨W4, hr, b4, k4, l4, d4⟩ := fin none W3 k3
        exact ⟨_, _, hr, k4, .inl ⟨rfl, ⟨hI _ _ _ hi3 b4, l4, d4⟩⟩⟩
      | ret =>
        obtain ⟨k3, hi3⟩ := hpost
        obtain ⟨W4, hr, b4, k4, l4, d4⟩ := fin (some .ret) W3 k3
        exact ⟨_, _, hr, k4, .inr ⟨rfl, .ret, hIx _ _ _ _ hi3 b4, l4, d4⟩⟩
      | exit id =>
        obtain ⟨k3, hi3⟩ := hpost
        obtain ⟨W4, hr, b4, k4, l4, d4⟩ := fin (some (.exit id)) W3 k3
        exact ⟨_, _, hr, k4, .inr ⟨rfl, .exit id, hIx _ _ _ _ hi3 b4, l4, d4⟩⟩
      | goto t => exact hpost.elim
      | panic ch => exact hpost.elim
      | outgrown => exact hpost.elim
    · rintro e W2 ⟨⟨v, rfl⟩, (⟨xs, hS, hi, hl, hk⟩ | ⟨pre, hSp, c, hi, hl, hk⟩)⟩
      · have hlt := (Array.getElem?_eq_some_iff.1 hl).1
        have he := run_endLoop (P := P) hl (by rw [hst]; simp)
        rw [hpen] at he
        refine ⟨none, _, he, hdone _ xs _ (Nat.le_refl _) hS (hI _ _ _ hi (below_putObj W2 _ (by omega) hlt)) ((World.putObj_heap_other (by omega)).trans hk)⟩
      · have hlt := (Array.getElem?_eq_some_iff.1 hl).1
        have he := run_endLoop (P := P) hl (by rw [hst]; simp)
        rw [hpen] at he
        refine ⟨some c, _, he, hstop _ c pre _ (Nat.le_refl _) hSp (hIx c _ _ _ hi (below_putObj W2 _ (by omega) hlt)) ((World.putObj_heap_other (by omega)).trans hk)⟩
theorem keeps_box {p : Nat → Prop} {A : Nat} {t : TypeId} {v : Value} {W W' : World} (h : Boxed W A t v) (hk : Keeps p W W') (hA : p A) : Boxed W' A t v := (hk.2 A hA h.lt).trans h
theorem fin_prefix {m : Nat} {pre : List (Fin m)} {x : Fin m} (h : pre ++ [x] <+: List.finRange m) : x.1 = pre.length := by
  have h1 := h.getElem (i := pre.length) (by simp)
  simp at h1
  rw [h1]
theorem fin_all {m : Nat} : (List.finRange m).length = m := by simp
end Go.Proofs.YtaebipopmefkpaaGreatDoor

/-
  A function that ranges over functions in a loop leaves with a list of marks among its deferred calls: they are taken one by one.
-/
namespace Go.Proofs.YtaebipopmefkpaaGreatDoor
open Go.RowKit Go.Shelf

/-- Nothing but blocks of book-keeping from B on has turned. -/
def Shut (B : Nat) (W W' : World) : Prop := Below B W W' ∧ ∀ (k : Nat) c t f, W.heap[k]? = some (Obj.cells c t f) → W'.heap[k]? = some (Obj.cells c t f)
theorem Shut.refl (B : Nat) (W : World) : Shut B W W := ⟨Below.refl _ _, fun _ _ _ _ h => h⟩
theorem Shut.trans {B : Nat} {A C D : World} (h : Shut B A C) (k : Shut B C D) : Shut B A D := ⟨h.1.trans k.1, fun i c t f hi => k.2 i c t f (h.2 i c t f hi)⟩
theorem Shut.putObj {B : Nat} (W : World) {D : Nat} {o o' : Obj} (hB : B ≤ D) (h : W.heap[D]? = some o) (hc : o.isCells = false) (hw : o.isWalk = false) : Shut B W (W.putObj D o') := by
  refine ⟨(Below.refl _ _).grown (grownBy_putObj' W D o') ?_ (fun k e => by cases e; exact hB), fun k c t f hk => ?_⟩
  · have := (Array.getElem?_eq_some_iff.1 h).1; omega
  · have hne : D ≠ k := fun e => by
      subst e
      rw [h] at hk
      simp only [Option.some.injEq] at hk
      subst hk
      simp [Obj.isCells] at hc
    rw [World.putObj_heap_other (Ne.symm hne), hk]
/-- Marks: each is a block from B on, below U, of its own, that holds no call. -/
def Marks (B U : Nat) : List Deferred → World → Prop
  | [], _ => True
  | d :: ds, W => ∃ D, d = { target := .collected D, args := #[] } ∧ B ≤ D ∧ D < U ∧ W.heap[D]? = some (.deferred (some [])) ∧ Marks B D ds W
theorem Marks.keep {B U : Nat} : ∀ {ds : List Deferred} {W W' : World}, Marks B U ds W → (∀ k, k < U → W.heap[k]? = some (.deferred (some [])) → W'.heap[k]? = some (.deferred (some []))) → Marks B U ds W'
  | [], _, _, _, _ => trivial
  | _ :: _, _, _, ⟨D, h1, h2, h3, h4, h5⟩, hk => ⟨D, h1, h2, h3, hk D h3 h4, h5.keep fun k hlt => hk k (Nat.lt_trans hlt h3)⟩
theorem Marks.more {B U U' : Nat} : ∀ {ds : List Deferred} {W : World}, Marks B U ds W → U ≤ U' → Marks B U' ds W
  | [], _, _, _ => trivial
  | _ :: _, _, ⟨D, h1, h2, h3, h4, h5⟩, hU => ⟨D, h1, h2, Nat.lt_of_lt_of_le h3 hU, h4, h5⟩
theorem Marks.own {B U n : Nat} {α : Type} (ds : List Deferred) (hU : U ≤ n) : OwnFrom n (fun (_ : α) W => Marks B U ds W) := fun s A C row hs hg hr =>
  hs.keep fun k hk hd => by
    refine (hg.block k (Array.getElem?_eq_some_iff.1 hd).1 (fun e => ?_)).trans hd
    have := (hr k e.symm).1
    omega
theorem Marks.below {B U : Nat} {ds : List Deferred} {W W' : World} (h : Marks B U ds W) (hb : Below U W W') : Marks B U ds W' := h.keep fun k hk hd => (hb.block k hk).trans hd
theorem Marks.set {B U A : Nat} {ds : List Deferred} {W : World} {t : TypeId} {v : Value} (h : Marks B U ds W) (hx : Boxed W A t v) (u : Value) : Marks B U ds (W.setCell ⟨A, 0, none⟩ u) := h.keep fun k _ hd => by
  have hne : k ≠ A := fun e => by
    subst e
    rw [show W.heap[k]? = _ from hx] at hd
    cases hd
  exact (Below.heap_setCell _ _ _ _ hne).trans hd
theorem leaves_marks {F : Fence} {n : Nat} {P : Program} {fn : Func} {tmps : Array Value} {R : Ending → World → Prop} {B : Nat} : ∀ (ds : List Deferred) (U : Nat) (W : World), Marks B U ds W → (∀ W', Shut B W W' → LeavesIn F n P fn tmps R [] .returning W') → LeavesInM F n P fn tmps R ds .returning W
  | [], _, W, _, h => h W (Shut.refl _ _)
  | d :: ds, U, W, ⟨D, h1, h2, h3, h4, h5⟩, h => by
    subst h1
    refine ⟨by simp, .inl ⟨_, _, rfl, run_takeDeferred h4, ?_⟩⟩
    refine leaves_marks ds D _ (h5.keep fun k hk hd => ?_) fun W' hs => h W' ((Shut.putObj W h2 h4 rfl rfl).trans hs)
    rw [World.putObj_heap_other (by omega), hd]
section
variable {F : Fence} {n : Nat} {P : Program} {Q : Exit → Act → World → Prop} {a : Act} {w : World}
/-- A scope without a jump, inside a fence. -/
theorem wpIn_scope_straight {c : Code} (h : c.wpIn F n P (Exit.noGoto Q) a w) : (Code.scope c).wpIn F n P Q a w := by
  intro b k cs hro hb hr
  have s0 : step P (lone (b.atR a (.code (.scope c) :: k)) cs w) = .next (lone (b.atR a (.code c :: .inScope c :: k)) cs w) := step_lone_go (by simp [stepG, stepG.exec, Frame.atR])
  have s1 : ∀ a w, step P (lone (b.atR a (.inScope c :: k)) cs w) = .next (lone (b.atR a k) cs w) := fun a w => step_lone_go (by simp [stepG, stepG.exec, Frame.atR])
  obtain ⟨e, a₁, w₁, hq, harr⟩ := h b (.inScope c :: k) cs hro hb hr
  cases e with
  | normal => exact ⟨.normal, a₁, w₁, hq, .of_steps (.one (fenced_calm hb hr rfl) s0) (StepsIn.trans harr (.one (fenced_calm hb hr rfl) (s1 _ _)))⟩
  | exit id => exact ⟨.exit id, a₁, w₁, hq, .of_steps (.one (fenced_calm hb hr rfl) s0) ⟨fun k' hk => harr.1 k' (by simp [exitTo, hk]), fun hr hk => harr.2 hr (by simp [exitTo, hk])⟩⟩
  | goto l => exact hq.elim
  | ret => exact ⟨_, a₁, w₁, hq, .of_steps (.one (fenced_calm hb hr rfl) s0) harr⟩
  | panic ch => exact ⟨_, a₁, w₁, hq, .of_steps (.one (fenced_calm hb hr rfl) s0) harr⟩
  | outgrown => exact ⟨_, a₁, w₁, hq, .of_steps (.one (fenced_calm hb hr rfl) s0) harr⟩
end
end Go.Proofs.YtaebipopmefkpaaGreatDoor
