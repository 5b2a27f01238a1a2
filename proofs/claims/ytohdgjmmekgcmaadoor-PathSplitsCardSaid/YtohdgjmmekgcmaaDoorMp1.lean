/-
  Texts WordM to PthA, as one.
-/
import Derived.Laws.BitsAllLaws
import Derived.Test.YtohdgjmmekgcmaaDoorRows
import Derived.WalkKit
import Derived.ProofKit
import Derived.Below
import Derived.Deep.QuietTactic
import Derived.BigQuiet
import Derived.Lib.Hide
import Derived.IntWalk
import Derived.Outline
import Derived.Shelf.Spec.TrailingZeros
import Derived.Deep.RegionHeld3
import Derived.RangeFuncNested
import Derived.RangeFuncBound
import Derived.RangeFuncCalls
import Derived.RangeFuncLeaves
import Derived.Shelf.Abstract
import Derived.Shelf.RegionOpen
import Derived.OwnWalkIn
import Derived.TacticsInMore
import Derived.LoopNIn
import Derived.LoopIn
import Derived.WalkLawsBesides
import Derived.Sort.QuietIn
import Derived.Maps.AppendAt
import Derived.Scope
import Derived.Sort.EncStr
import Derived.Lib.OthersKept
import Derived.Lib.Strings
/-
  Plain arithmetic of fields of bits: no Go in sight.
-/
namespace Go.Proofs.YtohdgjmmekgcmaaDoor
namespace WM
/-- The number that a field has. -/
def getN (w f v : Nat) : Nat := w / 2 ^ f % 2 ^ v
/-- The word in which a field has another number. -/
def putN (w f v n : Nat) : Nat := (w &&& (18446744073709551615 - (2 ^ v - 1) * 2 ^ f % 18446744073709551616)) ||| (n * 2 ^ f % 18446744073709551616)
def maskN (f v : Nat) : Nat := (2 ^ v - 1) * 2 ^ f % 18446744073709551616
theorem maskN_lt (f v : Nat) : maskN f v < 18446744073709551616 := Nat.mod_lt _ (by decide)
def okF (f v : Int) : Bool := decide (0 ≤ f ∧ f < 64 ∧ 1 ≤ v ∧ v ≤ 64 - f)

theorem getN_bit (w f v i : Nat) : (getN w f v).testBit i = (decide (i < v) && w.testBit (f + i)) := by
  unfold getN
  rw [Nat.testBit_mod_two_pow, Nat.testBit_div_two_pow, Nat.add_comm]
theorem mask_lt (f v : Nat) (h : f + v ≤ 64) : (2 ^ v - 1) * 2 ^ f < 18446744073709551616 := by
  have h1 : 2 ^ v * 2 ^ f ≤ 2 ^ 64 := by rw [← Nat.pow_add]; exact Nat.pow_le_pow_right (by decide) (by omega)
  have h2 : (2 ^ v - 1) * 2 ^ f = 2 ^ v * 2 ^ f - 2 ^ f := by rw [Nat.sub_mul, Nat.one_mul]
  have h3 : 0 < 2 ^ f := Nat.two_pow_pos f
  have h4 : 0 < 2 ^ v * 2 ^ f := Nat.mul_pos (Nat.two_pow_pos v) h3
  rw [h2]; omega
theorem num_lt (f v n : Nat) (h : f + v ≤ 64) (hn : n < 2 ^ v) : n * 2 ^ f < 18446744073709551616 := by
  have h1 : (2 ^ v - 1) * 2 ^ f < 18446744073709551616 := mask_lt f v h
  have : n * 2 ^ f ≤ (2 ^ v - 1) * 2 ^ f := Nat.mul_le_mul_right _ (by omega)
  omega
theorem mask_bit (f v i : Nat) : ((2 ^ v - 1) * 2 ^ f).testBit i = (decide (f ≤ i) && decide (i < f + v)) := by
  rw [Nat.testBit_mul_two_pow, Nat.testBit_two_pow_sub_one]
  by_cases h : f ≤ i
  · simp [h]; omega
  · simp [h]
theorem num_bit (f n i : Nat) : (n * 2 ^ f).testBit i = (decide (f ≤ i) && n.testBit (i - f)) := Nat.testBit_mul_two_pow ..
theorem compl_bit (m i : Nat) (hm : m < 18446744073709551616) : (18446744073709551615 - m).testBit i = (decide (i < 64) && !m.testBit i) := by
  have := Nat.testBit_two_pow_sub_succ (n := 64) hm i
  rw [← this]; congr 1; omega
theorem lt_bit (n v i : Nat) (h : n < 2 ^ v) (hi : v ≤ i) : n.testBit i = false := Nat.testBit_lt_two_pow (Nat.lt_of_lt_of_le h (Nat.pow_le_pow_right (by decide) hi))
theorem putN_bit (w f v n i : Nat) (h : f + v ≤ 64) (hn : n < 2 ^ v) (hw : w < 18446744073709551616) :
    (putN w f v n).testBit i = if f ≤ i ∧ i < f + v then n.testBit (i - f) else w.testBit i := by
  unfold putN
  rw [Nat.mod_eq_of_lt (mask_lt f v h), Nat.mod_eq_of_lt (num_lt f v n h hn), Nat.testBit_or, Nat.testBit_and, compl_bit _ _ (mask_lt f v h), mask_bit, num_bit]
  by_cases h1 : f ≤ i <;> by_cases h2 : i < f + v
  · have h3 : i < 64 := by omega
    simp [h1, h2]
  · have e : n.testBit (i - f) = false := lt_bit n v _ hn (by omega)
    by_cases h3 : i < 64
    · simp [h1, h2, e, h3]
    · have e2 : w.testBit i = false := lt_bit w 64 _ hw (by omega)
      simp [h1, h2, e, h3, e2]
  · by_cases h3 : i < 64
    · simp [h1, h3]
    · omega
  · omega
theorem putN_lt (w f v n : Nat) (_ : w < 18446744073709551616) : putN w f v n < 18446744073709551616 := by
  unfold putN
  exact Nat.or_lt_two_pow (n := 64) (Nat.and_lt_two_pow _ (by omega)) (by omega)
theorem getN_lt (w f v : Nat) : getN w f v < 2 ^ v := Nat.mod_lt _ (Nat.two_pow_pos v)
theorem pow_le64 (v : Nat) (h : v ≤ 64) : 2 ^ v ≤ 18446744073709551616 := Nat.pow_le_pow_right (n := 2) (by decide) h
theorem getN_lt64 (w f v : Nat) (h : v ≤ 64) : getN w f v < 18446744073709551616 := Nat.lt_of_lt_of_le (getN_lt w f v) (pow_le64 v h)
/-- What the program reckons. -/
theorem number_eq (w f v : Nat) (h : f + v ≤ 64) : (w &&& ((2 ^ v - 1) * 2 ^ f % 18446744073709551616)) / 2 ^ f = getN w f v := by
  rw [Nat.mod_eq_of_lt (mask_lt f v h)]
  apply Nat.eq_of_testBit_eq
  intro i
  rw [Nat.testBit_div_two_pow, Nat.testBit_and, mask_bit, getN_bit, Nat.add_comm i f]
  simp
  rw [Bool.and_comm]
theorem shl_int (n f : Nat) : IntKind.u64.wrap ((n : Int) * 2 ^ f) = ((n * 2 ^ f % 18446744073709551616 : Nat) : Int) := by
  rw [IntKind.wrap_u64, Int.natCast_emod, Int.natCast_mul, Int.natCast_pow]; rfl
theorem number_int (w f v : Nat) (h : f + v ≤ 64) : (((w &&& maskN f v : Nat) : Int)) / 2 ^ f = (getN w f v : Nat) := by
  rw [← number_eq w f v h, Int.natCast_ediv, Int.natCast_pow]
  rfl
theorem with_int (w f v n : Nat) (_ : f + v ≤ 64) (_ : n < 2 ^ v) (hw : w < 18446744073709551616) :
    bits .or .u64 (bits .andNot .u64 (w : Int) (maskN f v : Nat)) (IntKind.u64.wrap ((n : Int) * 2 ^ f)) = (putN w f v n : Nat) := by
  rw [u64_andNot_nat _ _ hw (maskN_lt f v), shl_int, u64_or_nat _ _ (Nat.and_lt_two_pow (n := 64) _ (by omega)) (Nat.mod_lt _ (by decide))]
  rfl
theorem holds_iff (n v : Nat) (hn : n < 18446744073709551616) (hv : v ≤ 64) : (n &&& (18446744073709551615 - (2 ^ v - 1))) = 0 ↔ n < 2 ^ v := by
  have hm : 2 ^ v - 1 < 18446744073709551616 := by have := pow_le64 v hv; have := Nat.two_pow_pos v; omega
  constructor
  · intro h
    apply Nat.lt_pow_two_of_testBit
    intro i hi
    by_cases h3 : i < 64
    · have e := congrArg (fun x => Nat.testBit x i) h
      simp only [Nat.testBit_and, compl_bit _ _ hm, Nat.testBit_two_pow_sub_one, Nat.zero_testBit] at e
      simpa [h3, show ¬ i < v from by omega] using e
    · exact lt_bit n 64 i hn (by omega)
  · intro h
    apply Nat.eq_of_testBit_eq
    intro i
    rw [Nat.testBit_and, compl_bit _ _ hm, Nat.testBit_two_pow_sub_one, Nat.zero_testBit]
    by_cases h1 : i < v
    · simp [h1]
    · simp [lt_bit n v i h (by omega)]
/-- A word with a bit. -/
def withN (w i : Nat) (b : Bool) : Nat := if w.testBit i = b then w else w ^^^ 2 ^ i
theorem withN_bit (w i : Nat) (b : Bool) (j : Nat) : (withN w i b).testBit j = if j = i then b else w.testBit j := by
  unfold withN
  by_cases h : w.testBit i = b
  · rw [if_pos h]
    by_cases hj : j = i
    · rw [if_pos hj, hj, h]
    · rw [if_neg hj]
  · rw [if_neg h, Nat.testBit_xor, Nat.testBit_two_pow]
    by_cases hj : j = i
    · subst hj; cases b <;> simp_all
    · rw [if_neg hj]; simp [show ¬ i = j from fun e => hj e.symm]
theorem withN_lt (w i : Nat) (b : Bool) (hw : w < 18446744073709551616) (hi : i < 64) : withN w i b < 18446744073709551616 := by
  unfold withN
  split
  · exact hw
  · exact Nat.xor_lt_two_pow (n := 64) hw (Nat.pow_lt_pow_right (a := 2) (by decide) hi)
/-- The field's number, its first k bits. -/
def getTo (w f k : Nat) : Nat := getN w f k
theorem getTo_succ (w f k : Nat) : withN (getTo w f k) k (w.testBit (f + k)) = getTo w f (k + 1) := by
  apply Nat.eq_of_testBit_eq
  intro j
  rw [withN_bit]
  unfold getTo
  rw [getN_bit, getN_bit]
  by_cases h : j = k
  · subst h; simp
  · rw [if_neg h]; congr 1; apply decide_eq_decide.2; omega
/-- The word in which the first k bits of a field are those of n. -/
def putTo (w f n : Nat) : Nat → Nat
  | 0 => w
  | k + 1 => withN (putTo w f n k) (f + k) (n.testBit k)
theorem putTo_bit (w f n : Nat) : ∀ k i, (putTo w f n k).testBit i = if f ≤ i ∧ i < f + k then n.testBit (i - f) else w.testBit i
  | 0, i => by rw [putTo, if_neg (by omega)]
  | k + 1, i => by
    rw [putTo, withN_bit, putTo_bit w f n k i]
    by_cases h : i = f + k
    · rw [if_pos h, if_pos (by omega), h]; congr 1; omega
    · rw [if_neg h]
      by_cases h2 : f ≤ i ∧ i < f + k
      · rw [if_pos h2, if_pos (by omega)]
      · rw [if_neg h2, if_neg (by omega)]
theorem putTo_lt (w f n : Nat) (hw : w < 18446744073709551616) : ∀ k, f + k ≤ 64 → putTo w f n k < 18446744073709551616
  | 0, _ => hw
  | k + 1, h => withN_lt _ _ _ (putTo_lt w f n hw k (by omega)) (by omega)
theorem putTo_eq (w f v n : Nat) (h : f + v ≤ 64) (hn : n < 2 ^ v) (hw : w < 18446744073709551616) : putTo w f n v = putN w f v n := by
  apply Nat.eq_of_testBit_eq
  intro i
  rw [putTo_bit, putN_bit w f v n i h hn hw]
theorem lt_of_bits (n v : Nat) (hn : n < 18446744073709551616) (h : ∀ i, v ≤ i → i < 64 → n.testBit i = false) : n < 2 ^ v := by
  apply Nat.lt_pow_two_of_testBit
  intro i hi
  by_cases h3 : i < 64
  · exact h i hi h3
  · exact lt_bit n 64 i hn (by omega)
theorem bit_int (n i : Nat) : ((n : Int) / 2 ^ i % 2 == 1) = n.testBit i := by
  rw [Nat.testBit_eq_decide_div_mod_eq]
  rw [Bool.eq_iff_iff, beq_iff_eq, decide_eq_true_iff]
  have : (n : Int) / 2 ^ i = ((n / 2 ^ i : Nat) : Int) := by rw [Int.natCast_ediv, Int.natCast_pow]; rfl
  rw [this]; omega
theorem pow_int (i : Nat) (hi : i < 64) : IntKind.u64.wrap (2 ^ i) = ((2 ^ i : Nat) : Int) := by
  have h : (2 : Nat) ^ i < 18446744073709551616 := Nat.pow_lt_pow_right (a := 2) (m := i) (n := 64) (by decide) hi
  have e2 : ((2 : Int) ^ i) = ((2 ^ i : Nat) : Int) := by rw [Int.natCast_pow]; rfl
  rw [IntKind.wrap_u64, e2]
  generalize (2 ^ i : Nat) = x at *
  omega
theorem pow_lt64 (i : Nat) (hi : i < 64) : (2 : Nat) ^ i < 18446744073709551616 := Nat.pow_lt_pow_right (a := 2) (m := i) (n := 64) (by decide) hi
/-- The word of the first k bits, but no more than the field has. -/
def putC (w f n v k : Nat) : Nat := putTo w f n (min k v)
theorem putC_zero (w f n v : Nat) : putC w f n v 0 = w := by unfold putC; rw [Nat.zero_min]; rfl
theorem putC_step (w f n v k : Nat) (h : k < v) : withN (putC w f n v k) (f + k) (n.testBit k) = putC w f n v (k + 1) := by
  unfold putC
  rw [Nat.min_eq_left (Nat.le_of_lt h), Nat.min_eq_left (show k + 1 ≤ v from h)]
  rfl
theorem putC_stay (w f n v k : Nat) (h : v ≤ k) : putC w f n v (k + 1) = putC w f n v k := by
  unfold putC
  rw [Nat.min_eq_right h, Nat.min_eq_right (by omega)]
theorem putC_end (w f n v k : Nat) (hk : v ≤ k) (h : f + v ≤ 64) (hn : n < 2 ^ v) (hw : w < 18446744073709551616) : putC w f n v k = putN w f v n := by
  unfold putC
  rw [Nat.min_eq_right hk, putTo_eq w f v n h hn hw]
theorem putC_lt (w f n v k : Nat) (h : f + v ≤ 64) (hw : w < 18446744073709551616) : putC w f n v k < 18446744073709551616 := putTo_lt w f n hw _ (by omega)
end WM
end Go.Proofs.YtohdgjmmekgcmaaDoor

/-
  Contracts of package word's functions on fields (no loop): spanOf, mayBe, mask, number, holds, with, Get, Put.
-/
namespace Go.Proofs.YtohdgjmmekgcmaaDoor
open Go.RowKit

theorem ret_bool {a b : Bool} (h : a = b) : Ending.returned (.bool a) = .returned (.bool b) := by rw [h]
theorem ret_int {k : IntKind} {a b : Int} (h : a = b) : Ending.returned (.int k a) = .returned (.int k b) := by rw [h]
theorem bcell {W w1 : World} (hb : Below W.heap.size W w1) : (∀ b o, b < W.heap.size → w1.cell? ⟨b, o, none⟩ = W.cell? ⟨b, o, none⟩) ∧ (∀ b o, b < W.heap.size → w1.frozen? ⟨b, o, none⟩ = W.frozen? ⟨b, o, none⟩) :=
  ⟨fun b o h => hb.cell (p := ⟨b, o, none⟩) h, fun b o h => hb.frozen (p := ⟨b, o, none⟩) h⟩
theorem below_drewN {B : Nat} {a w : World} (h : Below B a w) (n : Nat) : Below B a (w.drewN n) := ⟨h.os, h.tape, h.output, h.size, h.block⟩
end Go.Proofs.YtohdgjmmekgcmaaDoor

/-
  Contracts of math/bits.TrailingZeros64 and of word.Bits (an iterator).
-/
namespace Go.Proofs.YtohdgjmmekgcmaaDoor
open Go.RowKit Go.Shelf
attribute [local go_sem] Oper.semAt_some
namespace WM
/-- The bits that are 1, rising. -/
def bitsOf (x : Nat) : List Nat := (List.range 64).filter (fun i => x.testBit i)
theorem bitsOf_zero : bitsOf 0 = [] := by unfold bitsOf; simp
theorem low_split (x : Nat) (h0 : x ≠ 0) (h : x < 18446744073709551616) : ∃ m, x = 2 ^ (Lib.ctz 64 x + 1) * m + 2 ^ Lib.ctz 64 x ∧ Lib.ctz 64 x < 64 := by
  obtain ⟨m, hm, hk⟩ := Lib.ctzFrom_spec 64 x (by omega) h
  have e : Lib.ctz 64 x = Lib.ctzFrom 64 x := by simp [Lib.ctz, h0]
  rw [e]
  refine ⟨m, ?_, hk⟩
  rw [Nat.pow_succ, Nat.mul_assoc]
  generalize 2 ^ Lib.ctzFrom 64 x = p at *
  rw [hm, Nat.mul_add, Nat.mul_one]
theorem and_pred_bit (k m j : Nat) : ((2 ^ (k + 1) * m + 2 ^ k) &&& (2 ^ (k + 1) * m + 2 ^ k - 1)).testBit j = if j < k + 1 then false else m.testBit (j - (k + 1)) := by
  have hp := Nat.two_pow_pos k
  have hs : 2 ^ (k + 1) = 2 * 2 ^ k := by rw [Nat.pow_succ, Nat.mul_comm]
  have e : 2 ^ (k + 1) * m + 2 ^ k - 1 = 2 ^ (k + 1) * m + (2 ^ k - 1) := by omega
  rw [e, Nat.testBit_and, Nat.testBit_two_pow_mul_add _ (by omega), Nat.testBit_two_pow_mul_add _ (by omega)]
  by_cases h : j < k + 1
  · rw [if_pos h, if_pos h, if_pos h, Nat.testBit_two_pow, Nat.testBit_two_pow_sub_one]
    by_cases hj : k = j
    · simp [hj]
    · simp [hj]
  · rw [if_neg h, if_neg h, if_neg h, Bool.and_self]
theorem bitsOf_cons (x : Nat) (h0 : x ≠ 0) (h : x < 18446744073709551616) : bitsOf x = Lib.ctz 64 x :: bitsOf (x &&& (x - 1)) := by
  obtain ⟨m, hm, hk⟩ := low_split x h0 h
  generalize Lib.ctz 64 x = k at *
  subst hm
  have hs : 2 ^ (k + 1) = 2 * 2 ^ k := by rw [Nat.pow_succ, Nat.mul_comm]
  have hp := Nat.two_pow_pos k
  have e : List.range 64 = List.range k ++ (k :: List.range' (k + 1) (63 - k)) := by
    rw [List.range_eq_range', List.range_eq_range', ← List.range'_succ]
    have : 63 - k + 1 = 64 - k := by omega
    rw [this]
    have := List.range'_append_1 (s := 0) (m := k) (n := 64 - k)
    rw [Nat.zero_add] at this
    rw [this]; congr 1; omega
  unfold bitsOf
  rw [e, List.filter_append, List.filter_append, List.filter_cons, List.filter_cons]
  have a1 : (List.range k).filter (fun i => (2 ^ (k + 1) * m + 2 ^ k).testBit i) = [] := by
    rw [List.filter_eq_nil_iff]
    intro i hi
    have hi' : i < k := List.mem_range.1 hi
    rw [Nat.testBit_two_pow_mul_add _ (by omega), if_pos (by omega), Nat.testBit_two_pow]
    simp; omega
  have a2 : (List.range k).filter (fun i => ((2 ^ (k + 1) * m + 2 ^ k) &&& (2 ^ (k + 1) * m + 2 ^ k - 1)).testBit i) = [] := by
    rw [List.filter_eq_nil_iff]
    intro i hi
    have hi' : i < k := List.mem_range.1 hi
    rw [and_pred_bit, if_pos (by omega)]; simp
  have b1 : (2 ^ (k + 1) * m + 2 ^ k).testBit k = true := by
    rw [Nat.testBit_two_pow_mul_add _ (by omega), if_pos (by omega), Nat.testBit_two_pow]; simp
  have b2 : ((2 ^ (k + 1) * m + 2 ^ k) &&& (2 ^ (k + 1) * m + 2 ^ k - 1)).testBit k = false := by rw [and_pred_bit, if_pos (by omega)]
  rw [a1, a2, b1, b2]
  simp only [List.nil_append, if_true, Bool.false_eq_true, if_false]
  congr 1
  apply List.filter_congr
  intro i hi
  have hi' : k + 1 ≤ i := (List.mem_range'_1.1 hi).1
  rw [and_pred_bit, if_neg (by omega), Nat.testBit_two_pow_mul_add _ (by omega), if_neg (by omega)]
theorem bitsOf_len (x : Nat) : (bitsOf x).length ≤ 64 := by
  unfold bitsOf
  exact Nat.le_trans (List.length_filter_le _ _) (by simp)
theorem ctz_lt (x : Nat) (h0 : x ≠ 0) (h : x < 18446744073709551616) : Lib.ctz 64 x < 64 := (low_split x h0 h).choose_spec.2
theorem dec_int (x : Nat) (h0 : x ≠ 0) (h : x < 18446744073709551616) : bits .and .u64 (x : Int) ((x : Int) - 1) = ((x &&& (x - 1) : Nat) : Int) := by
  have e : (x : Int) - 1 = ((x - 1 : Nat) : Int) := by omega
  rw [e, u64_and_nat _ _ h (by omega)]
end WM

/-- The blocks p are as they were. -/
def Keeps (p : Nat → Prop) (W W' : World) : Prop := W.heap.size ≤ W'.heap.size ∧ ∀ k, p k → k < W.heap.size → W'.heap[k]? = W.heap[k]?
theorem Keeps.refl (p : Nat → Prop) (W : World) : Keeps p W W := ⟨Nat.le_refl _, fun _ _ _ => rfl⟩
theorem Keeps.trans {p : Nat → Prop} {A B C : World} (h : Keeps p A B) (k : Keeps p B C) : Keeps p A C :=
  ⟨Nat.le_trans h.1 k.1, fun i hi hl => (k.2 i hi (Nat.lt_of_lt_of_le hl h.1)).trans (h.2 i hi hl)⟩
theorem Keeps.cell {p : Nat → Prop} {A B : World} (h : Keeps p A B) {q : Addr} (hp : p q.block) {v : Value} (hc : A.cell? q = some v) : B.cell? q = some v := by
  have hl : q.block < A.heap.size := by
    rcases Nat.lt_or_ge q.block A.heap.size with h1 | h1
    · exact h1
    · unfold World.cell? at hc; rw [Array.getElem?_eq_none h1] at hc; cases hc
  exact (World.cell?_of_block (w := A) (h.2 q.block hp hl)).trans hc
theorem Keeps.drewN {p : Nat → Prop} {A B : World} (h : Keeps p A B) (n : Nat) : Keeps p A (B.drewN n) := h
theorem Keeps.of_below {p : Nat → Prop} {n₀ : Nat} {A B : World} (h : Below n₀ A B) (hp : ∀ k, p k → k < n₀) : Keeps p A B := ⟨h.size, fun k hk _ => h.block k (hp k hk)⟩
theorem Keeps.of_grown {p : Nat → Prop} {A B : World} {row : Option Nat} (h : A.grownBy B row) (hp : ∀ k, row = some k → ¬ p k) : Keeps p A B :=
  ⟨h.size, fun k hk hl => h.block k hl (fun e => hp k e.symm hk)⟩
theorem Keeps.set {p : Nat → Prop} (A : World) {b o : Nat} (v : Value) (hp : ¬ p b) : Keeps p A (A.setCell ⟨b, o, none⟩ v) :=
  ⟨by simp [World.setCell], fun k hk _ => Below.heap_setCell _ _ _ _ (fun e => hp (by rw [e] at hk; exact hk))⟩
theorem keeps_b {p : Nat → Prop} {w : World} (hp : ∀ k, p k → k < w.heap.size) (W : World) (l : Nat) (o o' : Obj) (hl : w.heap.size ≤ l) (_ : W.heap[l]? = some o) (_ : o.isCells = false) (_ : o.isWalk = false) : Keeps p W (W.putObj l o') :=
  Keeps.of_grown (grownBy_putObj' W l o') (fun k e hk => by cases e; have := hp l hk; omega)
/-- What an iterator over a word's bits needs: its box, and the tables. -/
def BitsBlocks (Bs : Nat) (k : Nat) : Prop := k = Bs ∨ k < 2
end Go.Proofs.YtohdgjmmekgcmaaDoor

/-
  Plain arithmetic of words of bytes: no Go in sight.
-/
namespace Go.Proofs.YtohdgjmmekgcmaaDoor
namespace WM
/-- Element i of a list of numbers, 0 behind its end (the walk's own spelling). -/
abbrev at' (l : List Nat) (i : Nat) : Nat := l[i]?.getD 0
/-- What the first k bytes are as a word. -/
def joinTo (bs : List Nat) : Nat → Nat
  | 0 => 0
  | k + 1 => joinTo bs k ||| (at' bs k * 2 ^ (8 * k) % 18446744073709551616)
def Bytes256 (bs : List Nat) : Prop := ∀ i, at' bs i < 256
theorem joinTo_bit (bs : List Nat) (hb : Bytes256 bs) : ∀ k, k ≤ 8 → ∀ j, (joinTo bs k).testBit j = (decide (j < 8 * k) && (at' bs (j / 8)).testBit (j % 8))
  | 0, _, j => by simp [joinTo]
  | k + 1, hk, j => by
    have hx := hb k
    have hlt : at' bs k * 2 ^ (8 * k) < 18446744073709551616 := by
      have h1 : at' bs k * 2 ^ (8 * k) < 256 * 2 ^ (8 * k) := Nat.mul_lt_mul_of_pos_right hx (Nat.two_pow_pos _)
      have h2 : 256 * 2 ^ (8 * k) = 2 ^ (8 + 8 * k) := by rw [Nat.pow_add]
      have h3 : 2 ^ (8 + 8 * k) ≤ 2 ^ 64 := Nat.pow_le_pow_right (by decide) (by omega)
      have h4 : (2 : Nat) ^ 64 = 18446744073709551616 := rfl
      omega
    rw [joinTo, Nat.mod_eq_of_lt hlt, Nat.testBit_or, joinTo_bit bs hb k (by omega) j, Nat.testBit_mul_two_pow]
    by_cases h1 : j < 8 * k
    · simp [h1, show ¬ 8 * k ≤ j by omega, show j < 8 * (k + 1) by omega]
    · by_cases h2 : j < 8 * (k + 1)
      · have e1 : j / 8 = k := by omega
        have e2 : j - 8 * k = j % 8 := by omega
        simp [h1, h2, e1, e2, show 8 * k ≤ j by omega]
      · have : (at' bs k).testBit (j - 8 * k) = false := lt_bit _ 8 _ (by simpa using hx) (by omega)
        simp [h1, h2, this]
theorem joinTo_lt (bs : List Nat) : ∀ k, joinTo bs k < 18446744073709551616
  | 0 => by simp [joinTo]
  | k + 1 => Nat.or_lt_two_pow (n := 64) (joinTo_lt bs k) (Nat.mod_lt _ (by decide))
theorem joinTo_take (bs : List Nat) (n : Nat) : ∀ k, k ≤ n → joinTo (bs.take n) k = joinTo bs k
  | 0, _ => rfl
  | k + 1, h => by
    rw [joinTo, joinTo, joinTo_take bs n k (by omega)]
    have : at' (bs.take n) k = at' bs k := by show (bs.take n)[k]?.getD 0 = _; rw [List.getElem?_take_of_lt (by omega)]
    rw [this]
/-- How many words so many bytes have. -/
def need (n : Nat) : Nat := (n + 7) / 8
/-- Word i of bytes. -/
def wordAt (bs : List Nat) (i : Nat) : Nat := joinTo (bs.drop (8 * i)) (min 8 (bs.length - 8 * i))
def wordsOf (bs : List Nat) : List Nat := (List.range (need bs.length)).map (wordAt bs)
theorem wordAt_bit (bs : List Nat) (hb : Bytes256 bs) (i j : Nat) : (wordAt bs i).testBit j = (decide (j < 64) && (at' bs (8 * i + j / 8)).testBit (j % 8)) := by
  have hd : Bytes256 (bs.drop (8 * i)) := fun k => by show (bs.drop (8 * i))[k]?.getD 0 < 256; rw [List.getElem?_drop]; exact hb _
  have ha : ∀ k, at' (bs.drop (8 * i)) k = at' bs (8 * i + k) := fun k => by show (bs.drop (8 * i))[k]?.getD 0 = _; rw [List.getElem?_drop]
  unfold wordAt
  rw [joinTo_bit _ hd _ (by omega), ha]
  by_cases h : j < 64
  · by_cases h2 : j < 8 * min 8 (bs.length - 8 * i)
    · simp [h, h2]
    · have : at' bs (8 * i + j / 8) = 0 := by
        show bs[8 * i + j / 8]?.getD 0 = 0
        rw [List.getElem?_eq_none (by omega)]; rfl
      simp [this]
  · simp [h, show ¬ j < 8 * min 8 (bs.length - 8 * i) by omega]
theorem wordAt_lt (bs : List Nat) (i : Nat) : wordAt bs i < 18446744073709551616 := joinTo_lt _ _
theorem wordsOf_length (bs : List Nat) : (wordsOf bs).length = need bs.length := by simp [wordsOf]
theorem at_map_range (n : Nat) (f : Nat → Nat) (i : Nat) : at' ((List.range n).map f) i = if i < n then f i else 0 := by
  show ((List.range n).map f)[i]?.getD 0 = _
  by_cases h : i < n
  · rw [if_pos h, List.getElem?_map, List.getElem?_range h]; rfl
  · rw [if_neg h, List.getElem?_eq_none (by simp; omega)]; rfl
theorem wordsOf_at (bs : List Nat) (i : Nat) : at' (wordsOf bs) i = if i < need bs.length then wordAt bs i else 0 := at_map_range _ _ _
/-- Byte i of words. -/
def byteAt (l : List Nat) (i : Nat) : Nat := getN (at' l (i / 8)) (8 * (i % 8)) 8
def bytesOf (l : List Nat) : List Nat := (List.range (8 * l.length)).map (byteAt l)
theorem byteAt_lt (l : List Nat) (i : Nat) : byteAt l i < 256 := getN_lt _ _ 8
theorem at_none (l : List Nat) (i : Nat) (h : l.length ≤ i) : at' l i = 0 := by
  show l[i]?.getD 0 = 0
  rw [List.getElem?_eq_none h]; rfl
theorem bytesOf_at (l : List Nat) (i : Nat) (h : i < 8 * l.length) : at' (bytesOf l) i = byteAt l i := by
  unfold bytesOf
  rw [at_map_range, if_pos h]
theorem byteAt_none (l : List Nat) (i : Nat) (h : 8 * l.length ≤ i) : byteAt l i = 0 := by
  unfold byteAt
  rw [at_none l _ (by omega)]
  unfold getN; simp
theorem byte_word (bs : List Nat) (hb : Bytes256 bs) (i : Nat) : byteAt (wordsOf bs) i = at' bs i := by
  unfold byteAt
  by_cases h : i / 8 < need bs.length
  · rw [wordsOf_at, if_pos h]
    apply Nat.eq_of_testBit_eq
    intro j
    rw [getN_bit, wordAt_bit bs hb]
    by_cases hj : j < 8
    · have e1 : 8 * (i / 8) + (8 * (i % 8) + j) / 8 = i := by omega
      have e2 : (8 * (i % 8) + j) % 8 = j := by omega
      rw [e1, e2]
      simp [hj, show 8 * (i % 8) + j < 64 by omega]
    · simp [hj, lt_bit (at' bs i) 8 j (by simpa using hb i) (by omega)]
  · rw [wordsOf_at, if_neg h]
    have : bs.length ≤ i := by unfold need at h; omega
    rw [at_none bs i this]
    unfold getN; simp
theorem list_ext (a b : List Nat) (hl : a.length = b.length) (h : ∀ i, i < a.length → at' a i = at' b i) : a = b := by
  apply List.ext_getElem hl
  intro i h1 h2
  have e := h i h1
  rw [show at' a i = a[i]?.getD 0 from rfl, show at' b i = b[i]?.getD 0 from rfl, List.getElem?_eq_getElem h1, List.getElem?_eq_getElem h2] at e
  exact e
theorem bytesOf_length (l : List Nat) : (bytesOf l).length = 8 * l.length := by simp [bytesOf]
theorem at_take (l : List Nat) (n i : Nat) (h : i < n) : at' (l.take n) i = at' l i := by
  show (l.take n)[i]?.getD 0 = _
  rw [List.getElem?_take_of_lt h]
theorem at_drop (l : List Nat) (n i : Nat) : at' (l.drop n) i = at' l (n + i) := by
  show (l.drop n)[i]?.getD 0 = _
  rw [List.getElem?_drop]
theorem need_ge (n : Nat) : n ≤ 8 * need n := by unfold need; omega
/-- Bytes of Words are the bytes. -/
theorem bytes_words (bs : List Nat) (hb : Bytes256 bs) : (bytesOf (wordsOf bs)).take bs.length = bs := by
  have hg := need_ge bs.length
  apply list_ext
  · rw [List.length_take, bytesOf_length, wordsOf_length]; omega
  · intro i hi
    rw [List.length_take, bytesOf_length, wordsOf_length] at hi
    rw [at_take _ _ _ (by omega), bytesOf_at _ _ (by rw [wordsOf_length]; omega), byte_word bs hb]
theorem bytes_behind (bs : List Nat) (hb : Bytes256 bs) (i : Nat) (hi : bs.length ≤ i) : byteAt (wordsOf bs) i = 0 := by
  rw [byte_word bs hb, at_none bs i hi]
/-- Chunk i of bytes. -/
def chunkOf (bs : List Nat) (i : Nat) : List Nat := (bs.drop (8 * i)).take 8
theorem chunkOf_length (bs : List Nat) (i : Nat) : (chunkOf bs i).length = min 8 (bs.length - 8 * i) := by simp [chunkOf]
theorem chunkOf_at (bs : List Nat) (i j : Nat) (h : j < 8) : at' (chunkOf bs i) j = at' bs (8 * i + j) := by
  unfold chunkOf; rw [at_take _ _ _ h, at_drop]
theorem chunkOf_256 (bs : List Nat) (hb : Bytes256 bs) (i : Nat) : Bytes256 (chunkOf bs i) := fun j => by
  by_cases h : j < 8
  · rw [chunkOf_at _ _ _ h]; exact hb _
  · rw [at_none _ _ (by rw [chunkOf_length]; omega)]; decide
theorem chunkOf_word (bs : List Nat) (i : Nat) : joinTo (chunkOf bs i) (chunkOf bs i).length = wordAt bs i := by
  rw [chunkOf_length]
  unfold chunkOf wordAt
  exact joinTo_take _ _ _ (by omega)
/-- What Bytes says: an error. -/
def bytesErr (l : List Nat) (many : Int) : Int :=
  if many < 0 then 2 else if 4096 < many ∨ 4096 < l.length then 3 else if 8 * (l.length : Int) < many then 4 else if need many.toNat < l.length then 110
  else if ((bytesOf l).drop many.toNat).any (· != 0) then 110 else 0
end WM
end Go.Proofs.YtohdgjmmekgcmaaDoor

/-
  Contracts of slices.Chunk at bytes.
-/
namespace Go.Proofs.YtohdgjmmekgcmaaDoor
open Go.RowKit Go.Shelf
attribute [local go_sem] Oper.semAt_some
/-- The slice value v holds the numbers xs of kind k. -/
def Sl (W : World) (k : IntKind) (v : Value) (xs : List Nat) : Prop :=
  ∃ (a : Option Addr) (cap : Nat), v = .slice a xs.length cap ∧ xs.length ≤ cap ∧ (0 < xs.length → ∃ b off, a = some ⟨b, off, none⟩ ∧ b < W.heap.size ∧ ∀ j, j < xs.length → W.cell? ⟨b, off + j, none⟩ = some (.int k ((xs[j]?.getD 0 : Nat) : Int)))
theorem Sl.below {W W' : World} {k : IntKind} {v : Value} {xs : List Nat} (h : Sl W k v xs) (hb : Below W.heap.size W W') : Sl W' k v xs := by
  obtain ⟨a, cap, hv, hl, hc⟩ := h
  refine ⟨a, cap, hv, hl, fun h0 => ?_⟩
  obtain ⟨b, off, ha, hlt, hj⟩ := hc h0
  exact ⟨b, off, ha, Nat.lt_of_lt_of_le hlt hb.size, fun j hl => (hb.cell (p := ⟨b, off + j, none⟩) hlt).trans (hj j hl)⟩
/-- What an iterator over chunks needs: its two boxes. -/
def ChunkBlocks (Bs : Nat) (k : Nat) : Prop := k = Bs ∨ k = Bs + 1
theorem grownBy_drewN (W : World) (n : Nat) : W.grownBy (W.drewN n) none := ⟨rfl, rfl, rfl, Nat.le_refl _, fun _ _ _ => rfl⟩
theorem take_finRange (m k : Nat) (h : k < m) : (List.finRange m).take k ++ [⟨k, h⟩] = (List.finRange m).take (k + 1) := by
  rw [List.take_succ_eq_append_getElem (by simpa using h)]; simp
end Go.Proofs.YtohdgjmmekgcmaaDoor

/-
  Contracts of word's joined and of the fold over bytes.
-/
namespace Go.Proofs.YtohdgjmmekgcmaaDoor
open Go.RowKit Go.Shelf

theorem or_int (x a k : Nat) (hx : x < 18446744073709551616) : bits .or .u64 (x : Int) (IntKind.u64.wrap ((a : Int) * 2 ^ k)) = ((x ||| (a * 2 ^ k % 18446744073709551616) : Nat) : Int) := by
  rw [WM.shl_int, u64_or_nat _ _ hx (Nat.mod_lt _ (by decide))]
end Go.Proofs.YtohdgjmmekgcmaaDoor

/-
  The contract of word.Words.
-/
namespace Go.Proofs.YtohdgjmmekgcmaaDoor
open Go.RowKit Go.Shelf
attribute [local go_sem] Oper.semAt_some

theorem stepIn_append_own {F : Fence} {fn : Nat} {P : Program} (w : World) {ops : Array Oper} {o : Oper} {a : Act} {K : Act → World → Prop} {Q : Exit → Act → World → Prop} {E : Prop}
    (hg : o.guard = none) (s x : Operand) (t : TypeId) (hop : o.op = Op.call { callee := Callee.builtin Builtin.append, args := #[s, x], argTypes := #[t, t] })
    (base : Nat) (e : TypeId) (i : TypeInfo) (z : Value) (size bytes : Nat) (h1 : P.underlying t = some (.slice e)) (h2 : P.info? e = some i) (h3 : i.zero = some z) (h4 : i.size = size) (h5 : i.bytes = bytes) (h6 : z.cells.size = size) (h7 : 0 < size)
    (v : Value) (k : Nat) (xs : List Value) (hs : a.eval s = v) (hown : w.ownsRow base e size v k xs) (ad : Addr) (m c : Nat) (news : List Value) (hx : a.eval x = .slice (some ad) m c) (hn : news.length = m * size)
    (hc : ∀ j u, news[j]? = some u → w.cell? (ad.add j) = some u) (h1c : ∀ u ∈ news, u.oneCell' = true) (b1 : k + m ≤ maxLen) (b2 : (k + m) * bytes ≤ 140737488355328) (b3 : base ≤ w.heap.size)
    (hK : ∀ v' w', w'.ownsRow base e size v' (k + m) (xs ++ news) → w.grownBy w' v.ownBlock → (v' = .slice none 0 0 ↔ v = .slice none 0 0 ∧ m = 0) → K (a.put o.dst v') w') :
    if Region.wanted o (yielded ops a.tmps) = true then Oper.wpIn F fn P o a w K Q else E := by
  have hw : Region.wanted o (yielded ops a.tmps) = true := by simp [Region.wanted, hg]
  rw [if_pos hw]
  obtain ⟨v', w', hrun, r1, r2, r3⟩ := run_append_own (P := P) w base t o.type e i z size bytes h1 h2 h3 h4 h5 h6 h7 v k xs hown ad m c news hn hc h1c b1 b2 b3
  unfold Oper.wpIn
  refine ⟨?_, ?_⟩
  · simp [Oper.about, hop, resolve, Target.leads, Sem.run_pure]
  · rw [Oper.semAt_plain F _ _ (by rw [hop]; intro c hc'; cases hc')]
    simp [execOp, hop, resolve, invoke, builtin, hs, hx, hrun, Result.andThen]
    exact hK v' w' r1 r2 r3

theorem infoU64 : (Tryd.prog.info? 23).map (fun i => (i.zero, i.size, i.bytes)) = some (some (.int .u64 0), 1, 8) := by kernel_rfl
theorem finRange_map (n : Nat) (f : Nat → Value) : (List.finRange n).map (fun y => f y.1) = (List.range n).map f := by
  apply List.ext_getElem
  · simp
  · intro i h1 h2; simp
theorem keepsOthers_of_below {W W' : World} (h : Below W.heap.size W W') : KeepsOthers W W' :=
  ⟨h.size, fun k _ hk _ => (h.block k (Array.getElem?_eq_some_iff.1 hk).1).trans hk⟩
theorem boxed_below {W W' : World} {B n₀ : Nat} {t : TypeId} {v : Value} (h : Boxed W B t v) (hb : Below n₀ W W') (hB : B < n₀) : Boxed W' B t v := (hb.block B hB).trans h
theorem ownsRow_below {W W' : World} {base : Nat} {e : TypeId} {size : Nat} {v : Value} {n : Nat} {xs : List Value} (h : W.ownsRow base e size v n xs) (hb : Below W.heap.size W W') : W'.ownsRow base e size v n xs :=
  h.kept (row := none) ⟨hb.os, hb.tape, hb.output, hb.size, fun k hk _ => hb.block k hk⟩ (by
    rcases h.2 with ⟨rfl, _⟩ | ⟨g, cap, cur, rfl, _⟩
    · exact .inl rfl
    · exact .inr (by simp [Value.ownBlock]))
/-- A box of another type is not touched by an append and the store of the new slice. -/
theorem boxTail {W w4 w5 : World} {B B' n₀ : Nat} {t' e : TypeId} {size k : Nat} {v v' u' : Value} {xs : List Value} {tmp : Obj} (_ : Below W.heap.size W w4) (hr : w4.ownsRow n₀ e size v k xs) (hg : (w4.alloc tmp).grownBy w5 v.ownBlock)
    (hS : Boxed w4 B' t' u') (hte : t' ≠ e) (hne : B' ≠ B) : Boxed (w5.setCell ⟨B, 0, none⟩ v') B' t' u' := by
  have h1 : Boxed w5 B' t' u' := (hS.alloc tmp).kept hg (hS.not_row hte hr)
  exact h1.other hne v'
theorem keepsTail {W w4 w5 : World} {B Bs n₀ : Nat} {t1 t2 e : TypeId} {size k : Nat} {v v' u1 u2 : Value} {xs : List Value} {tmp : Obj} (hb : Below W.heap.size W w4) (hr : w4.ownsRow n₀ e size v k xs) (hg : (w4.alloc tmp).grownBy w5 v.ownBlock)
    (h1 : Boxed w4 Bs t1 u1) (h2 : Boxed w4 (Bs + 1) t2 u2) (he1 : t1 ≠ e) (he2 : t2 ≠ e) (hn1 : Bs ≠ B) (hn2 : Bs + 1 ≠ B) : Keeps (ChunkBlocks Bs) W (w5.setCell ⟨B, 0, none⟩ v') := by
  have s1 : w4.heap.size ≤ w5.heap.size := by have := hg.size; simp at this; omega
  have s2 : (w5.setCell ⟨B, 0, none⟩ v').heap.size = w5.heap.size := by simp [World.setCell]
  refine ⟨by have := hb.size; omega, fun j hj hl => ?_⟩
  rw [← hb.block j hl]
  rcases hj with rfl | rfl
  · exact (boxTail hb hr hg h1 he1 hn1).trans h1.symm
  · exact (boxTail hb hr hg h2 he2 hn2).trans h2.symm
end Go.Proofs.YtohdgjmmekgcmaaDoor

/-
  Contracts of waterlineref01.Same, and of what owns a row as a slice of numbers.
-/
namespace Go.Proofs.YtohdgjmmekgcmaaDoor
open Go.RowKit Go.Shelf

theorem sl_of_owns {W : World} {base : Nat} {e : TypeId} {v : Value} {xs : List Nat} {k : IntKind} (h : W.ownsRow base e 1 v xs.length (xs.map fun y : Nat => Value.int k (y : Nat))) : Sl W k v xs := by
  rcases h.2 with ⟨rfl, h0⟩ | ⟨g, cap, cur, rfl, hb, hg, hc, _⟩
  · exact ⟨none, 0, by rw [h0], by omega, fun h1 => by omega⟩
  · refine ⟨some ⟨g, 0, none⟩, cap, rfl, hc, fun _ => ⟨g, 0, rfl, (Array.getElem?_eq_some_iff.1 hg).1, fun j hj => ?_⟩⟩
    rw [Nat.zero_add, World.ownsRow.cellAt h j (by omega), List.getElem?_map, List.getElem?_eq_getElem hj]
    rfl
theorem Sl.cell {W : World} {k : IntKind} {v : Value} {xs : List Nat} (h : Sl W k v xs) : ∃ (a : Option Addr) (cap b off : Nat), v = .slice a xs.length cap ∧ xs.length ≤ cap ∧ (0 < xs.length → a = some ⟨b, off, none⟩) ∧ (0 < xs.length → b < W.heap.size ∧ ∀ j, j < xs.length → W.cell? ⟨b, off + j, none⟩ = some (.int k ((xs[j]?.getD 0 : Nat) : Int))) := by
  obtain ⟨a, cap, hv, hl, hc⟩ := h
  rcases Nat.eq_zero_or_pos xs.length with h0 | h0
  · exact ⟨a, cap, 0, 0, hv, hl, fun h => by omega, fun h => by omega⟩
  · obtain ⟨b, off, h1, h2, h3⟩ := hc h0
    exact ⟨a, cap, b, off, hv, hl, fun _ => h1, fun _ => ⟨h2, h3⟩⟩
theorem ne_of_at (xs ys : List Nat) (k : Nat) (h : xs[k]?.getD 0 ≠ ys[k]?.getD 0) : decide (xs = ys) = false := decide_eq_false fun e => h (by rw [e])
theorem eq_of_at (xs ys : List Nat) (hl : xs.length = ys.length) (h : ∀ j, j < xs.length → xs[j]?.getD 0 = ys[j]?.getD 0) : decide (xs = ys) = true := decide_eq_true (WM.list_ext xs ys hl h)
end Go.Proofs.YtohdgjmmekgcmaaDoor

/-
  A scope with one label, to which the run jumps forward.
-/
namespace Go.Proofs.YtohdgjmmekgcmaaDoor
open Go.RowKit

section
variable {P : Program} {a : Act} {w : World} {Q : Exit → Act → World → Prop}
theorem Exit.jump_normal {l : Nat} {J : Act → World → Prop} : Exit.jump l J Q .normal a w = Q .normal a w := rfl
theorem Exit.jump_ret {l : Nat} {J : Act → World → Prop} : Exit.jump l J Q .ret a w = Q .ret a w := rfl
/-- A scope with one label, to which the run jumps forward. -/
theorem wp_scope_forward {c rest : Code} (l : Nat) (hf : findLabel c l = some rest)
    (first : c.wp P (Exit.jump l (fun a w => rest.wp P (Exit.jump l (fun _ _ => False) Q) a w) Q) a w) : (Code.scope c).wp P Q a w :=
  wp_scope_jumps l (fun a w => rest.wp P (Exit.jump l (fun _ _ => False) Q) a w) (fun _ _ => 0) hf first
    fun a w h => wp_mono h fun e a' w' h' => by
      cases e <;> first | exact h' | exact h'.2.elim
end
end Go.Proofs.YtohdgjmmekgcmaaDoor

/-
  label: names, as bytes; named, Check.
-/
namespace Go.Proofs.YtohdgjmmekgcmaaDoor
open Go.RowKit Go.Shelf Go.Sort

/-- May a byte be in a name? -/
def byteN (b : UInt8) : Bool := decide (33 ≤ b.toNat) && decide (b.toNat ≤ 126) && decide (b.toNat ≠ 47)
/-- Is a text a name? -/
def rightN (s : List UInt8) : Bool := decide (1 ≤ s.length) && decide (s.length ≤ 40) && !(s == [46]) && !(s == [46, 46]) && s.all byteN
def errN (s : List UInt8) : Int := if rightN s then 0 else 160
def nameN (s : List UInt8) : List UInt8 := if rightN s then s else []
abbrev namV (s : List UInt8) : Value := .agg #[encStr s]
theorem str_eql {_P : Program} (t : TypeId) (a b : List UInt8) : binOp .eql t (encStr a) (encStr b) = (pure (.bool (a == b)) : Sem Value) := by
  rw [binOp_string_eql, Lib.toList_data, Lib.toList_data]
theorem rightN_iff (s : List UInt8) : rightN s = true ↔ 1 ≤ s.length ∧ s.length ≤ 40 ∧ ¬ s = [46] ∧ ¬ s = [46, 46] ∧ s.all byteN = true := by
  unfold rightN
  simp [and_assoc]
theorem named_early (s : List UInt8) (w : World) (h : s.length < 1 ∨ 40 < s.length ∨ s = [46] ∨ s = [46, 46]) :
    Calls Tryd.prog 119 #[encStr s] w fun e w' => e = .returned (.tuple #[namV [], .int .i64 160]) ∧ Below w.heap.size w w' := by
  by_cases k1 : (s.length : Int) < 1
  · go_enter Tryd.func119, Tryd.ntmps119
    go_wp2
    refine wp_scope_forward 0 rfl ?_
    go_wp2
    go_step3
    refine ⟨rfl, ?_⟩
    go_wp2
    rw [Exit.jump_ret]
    refine bodyPost_ret (v := .tuple #[namV [], .int .i64 160]) (by simp [results, Tryd.results119, go_sem]) rfl ⟨rfl, (by repeat (first | exact Below.refl _ _ | assumption | refine Below.drew ?_ | refine below_drewN ?_ _ | refine Below.alloc ?_ (by (try simp) <;> omega) _ | refine Below.setCell ?_ (by (try simp) <;> omega) _ | refine Below.trans ?_ (Below.mono (by assumption) (by (try simp) <;> omega))))⟩
  by_cases k2 : 40 < (s.length : Int)
  · go_enter Tryd.func119, Tryd.ntmps119
    go_wp2
    refine wp_scope_forward 0 rfl ?_
    go_wp2
    go_step3
    refine ⟨rfl, ?_⟩
    go_wp2
    rw [Exit.jump_ret]
    refine bodyPost_ret (v := .tuple #[namV [], .int .i64 160]) (by simp [results, Tryd.results119, go_sem]) rfl ⟨rfl, (by repeat (first | exact Below.refl _ _ | assumption | refine Below.drew ?_ | refine below_drewN ?_ _ | refine Below.alloc ?_ (by (try simp) <;> omega) _ | refine Below.setCell ?_ (by (try simp) <;> omega) _ | refine Below.trans ?_ (Below.mono (by assumption) (by (try simp) <;> omega))))⟩
  have h' : s = [46] ∨ s = [46, 46] := by
    rcases h with h | h | h
    · omega
    · omega
    · exact h
  rcases h' with rfl | rfl
  · go_enter Tryd.func119, Tryd.ntmps119
    go_wp2
    refine wp_scope_forward 0 rfl ?_
    go_wp2
    go_step3
    refine ⟨rfl, ?_⟩
    go_wp2
    rw [Exit.jump_ret]
    refine bodyPost_ret (v := .tuple #[namV [], .int .i64 160]) (by simp [results, Tryd.results119, go_sem]) rfl ⟨rfl, (by repeat (first | exact Below.refl _ _ | assumption | refine Below.drew ?_ | refine below_drewN ?_ _ | refine Below.alloc ?_ (by (try simp) <;> omega) _ | refine Below.setCell ?_ (by (try simp) <;> omega) _ | refine Below.trans ?_ (Below.mono (by assumption) (by (try simp) <;> omega))))⟩
  · go_enter Tryd.func119, Tryd.ntmps119
    go_wp2
    refine wp_scope_forward 0 rfl ?_
    go_wp2
    go_step3
    refine ⟨rfl, ?_⟩
    go_wp2
    rw [Exit.jump_ret]
    refine bodyPost_ret (v := .tuple #[namV [], .int .i64 160]) (by simp [results, Tryd.results119, go_sem]) rfl ⟨rfl, (by repeat (first | exact Below.refl _ _ | assumption | refine Below.drew ?_ | refine below_drewN ?_ _ | refine Below.alloc ?_ (by (try simp) <;> omega) _ | refine Below.setCell ?_ (by (try simp) <;> omega) _ | refine Below.trans ?_ (Below.mono (by assumption) (by (try simp) <;> omega))))⟩
/-- What a range over a text tells of the byte at a place. -/
theorem letter_at (s : List UInt8) (pos : Nat) (h : pos < s.length) :
    ((33 ≤ (Utf8.decode ⟨s.toArray⟩ pos).1 ∧ (Utf8.decode ⟨s.toArray⟩ pos).1 ≤ 126 ∧ (Utf8.decode ⟨s.toArray⟩ pos).1 ≠ 47) ↔ byteN s[pos] = true) ∧
    (byteN s[pos] = true → (Utf8.decode ⟨s.toArray⟩ pos).2 = 1) := by
  have hs : pos < (⟨s.toArray⟩ : ByteArray).size := by simpa [ByteArray.size] using h
  have hg : ((⟨s.toArray⟩ : ByteArray)[pos]'hs) = s[pos] := by rfl
  unfold byteN
  simp only [Bool.and_eq_true, decide_eq_true_eq]
  by_cases ha : (s[pos]).toNat < 128
  · rw [decode_ascii ⟨s.toArray⟩ pos hs (by rw [hg]; exact ha), hg]
    exact ⟨by constructor <;> (intro h; omega), fun _ => rfl⟩
  · have hd := decode_high ⟨s.toArray⟩ pos hs (by rw [hg]; omega)
    refine ⟨by constructor <;> (intro h; omega), fun h => by omega⟩
set_option maxRecDepth 100000 in
set_option maxHeartbeats 2000000 in
theorem named_late (s : List UInt8) (w : World) (k1 : 1 ≤ s.length) (k2 : s.length ≤ 40) (k3 : ¬ s = [46]) (k4 : ¬ s = [46, 46]) :
    Calls Tryd.prog 119 #[encStr s] w fun e w' => e = .returned (.tuple #[namV (if s.all byteN then s else []), .int .i64 (if s.all byteN then 0 else 160)]) ∧ Below w.heap.size w w' := by
  have q1 : ¬ (s.length : Int) < 1 := by omega
  have q2 : ¬ (40 : Int) < (s.length : Int) := by omega
  have q3 : (s == [46]) = false := by simp [k3]
  have q4 : (s == [46, 46]) = false := by simp [k4]
  have HL := Lib.hid (letter_at s)
  clear k3 k4
  go_enter Tryd.func119, Tryd.ntmps119
  go_wp2
  refine wp_scope_forward 0 rfl ?_
  go_wp2
  go_loopw [] (fun wr => ∃ pos : Nat, pos ≤ s.length ∧ wr.heap[w.heap.size + 1]? = some (.stringIter ⟨s.toArray⟩ pos) ∧ Boxed wr w.heap.size 184 (encStr []) ∧ Below w.heap.size w wr ∧ Hid ((s.take pos).all byteN = true)) (fun wr => s.length - wr.iterPos (w.heap.size + 1))
  case atStart =>
    refine ⟨0, Nat.zero_le _, ?_, (Boxed.new w 184 (encStr [])).alloc _, (by repeat (first | exact Below.refl _ _ | assumption | refine Below.drew ?_ | refine below_drewN ?_ _ | refine Below.alloc ?_ (by (try simp) <;> omega) _ | refine Below.setCell ?_ (by (try simp) <;> omega) _ | refine Below.trans ?_ (Below.mono (by assumption) (by (try simp) <;> omega)))), Lib.hid rfl⟩
    have := World.iter_heap (w.alloc (.cells #[encStr []] 184)) ⟨s.toArray⟩ 0
    simpa using this
  case round =>
    obtain ⟨pos, hpl, hit, hbx, hbw, HA⟩ := hrel
    by_cases hp : pos < s.length
    · have hps : pos < (⟨s.toArray⟩ : ByteArray).size := by simpa [ByteArray.size] using hp
      have hnx : ∀ ty, (Instr.next (.pointer (some ⟨w.heap.size + 1, 0, none⟩)) true ty).run Tryd.prog wr = _ := fun ty => Lib.run_next_any_at wr (w.heap.size + 1) ⟨s.toArray⟩ pos ty hit hps
      obtain ⟨h1, h2⟩ := HL.out pos hp
      have hmx := decode_le ⟨s.toArray⟩ pos
      have hi2 := Lib.iterAt_heap wr (w.heap.size + 1) ⟨s.toArray⟩ pos (pos + (Utf8.decode ⟨s.toArray⟩ pos).2) hit
      have hb2 := Lib.below_iterAt hbw (k := w.heap.size + 1) (by omega) ⟨s.toArray⟩ (pos + (Utf8.decode ⟨s.toArray⟩ pos).2)
      have hx2 : Boxed (wr.iterAt (w.heap.size + 1) ⟨s.toArray⟩ (pos + (Utf8.decode ⟨s.toArray⟩ pos).2)) w.heap.size 184 (encStr []) := (Lib.iterAt_other wr (w.heap.size + 1) w.heap.size ⟨s.toArray⟩ _ (by omega)).trans hbx
      obtain ⟨rr, hrr⟩ : ∃ rr, (Utf8.decode ⟨s.toArray⟩ pos).1 = rr := ⟨_, rfl⟩
      obtain ⟨ww, hww⟩ : ∃ ww, (Utf8.decode ⟨s.toArray⟩ pos).2 = ww := ⟨_, rfl⟩
      rw [hrr, hww] at hnx
      rw [hww] at hi2 hb2 hx2 h2
      rw [hrr] at h1 hmx
      clear hrr hww
      obtain ⟨W2, hW2⟩ : ∃ W2, wr.iterAt (w.heap.size + 1) ⟨s.toArray⟩ (pos + ww) = W2 := ⟨_, rfl⟩
      rw [hW2] at hnx hi2 hb2 hx2
      have HIT := Lib.hid hit
      have HI2 := Lib.hid hi2
      have HB2 := Lib.hid hb2
      have HX2 := Lib.hid hx2
      have cb := hx2.cell
      have cf := hx2.frozen
      have cl := hx2.lt
      clear hW2 hit hbx hbw hi2 hb2 hx2 hps
      by_cases hg : byteN s[pos] = true
      · obtain ⟨g1, g2, g3⟩ := h1.2 hg
        obtain rfl := h2 hg
        have e1 : ¬ ((rr : Int) < 33) := by omega
        have e2 : ¬ ((126 : Int) < rr) := by omega
        have e3 : ((rr : Int) == 47) = false := by simp; omega
        have HG := Lib.hid hg
        clear hg h1 h2 g1 g2 g3
        go_wp2
        go_roundw
        case rel =>
          refine ⟨pos + 1, by omega, HI2.out, HX2.out, HB2.out, ?_⟩
          exact Lib.hid (by rw [List.take_succ_eq_append_getElem hp, List.all_append, HA.out]; simp [HG.out])
        case measure =>
          simp only [World.iterPos, HI2.out, HIT.out]
          omega
      · have hn : ((decide ((rr : Int) < 33) || decide ((126 : Int) < rr) || ((rr : Int) == 47))) = true := by
          have : ¬ (33 ≤ rr ∧ rr ≤ 126 ∧ rr ≠ 47) := fun h => hg (h1.1 h)
          simp only [Bool.or_eq_true, decide_eq_true_eq, beq_iff_eq]
          omega
        have HN : Hid (s.all byteN = false) := show _ = _ from List.all_eq_false.2 ⟨s[pos], List.getElem_mem hp, by simpa using hg⟩
        clear hg h1 h2
        go_wp2
        all_goals
          go_step3
          refine ⟨rfl, ?_⟩
          go_wp2
          rw [Exit.jump_ret]
          exact bodyPost_ret (v := .tuple #[namV [], .int .i64 160]) (by simp [results, Tryd.results119, go_sem, (HX2.out.set (encStr [])).cell]) rfl ⟨by rw [HN.out]; rfl, HB2.out.setCell (p := ⟨w.heap.size, 0, none⟩) (Nat.le_refl _) _⟩
    · have hps : ¬ pos < (⟨s.toArray⟩ : ByteArray).size := by simpa [ByteArray.size] using hp
      have hnx : ∀ ty, (Instr.next (.pointer (some ⟨w.heap.size + 1, 0, none⟩)) true ty).run Tryd.prog wr = _ := fun ty => Lib.run_next_end_at wr (w.heap.size + 1) ⟨s.toArray⟩ pos ty hit hps
      have cb := hbx.cell
      have cf := hbx.frozen
      have cl := hbx.lt
      have hall : s.all byteN = true := by rw [List.take_of_length_le (by omega)] at HA; exact HA.out
      have HB := Lib.hid hbw
      have HX := Lib.hid hbx
      clear HA hbx hbw hit
      go_wp2
      rw [Exit.jump_ret]
      refine bodyPost_ret (v := .tuple #[namV s, .int .i64 0]) (by simp [results, Tryd.results119, go_sem, (HX.out.set (encStr s)).cell]) rfl ⟨by rw [hall]; rfl, HB.out.setCell (p := ⟨w.heap.size, 0, none⟩) (Nat.le_refl _) _⟩
theorem named_any (s : List UInt8) (w : World) :
    Calls Tryd.prog 119 #[encStr s] w fun e w' => e = .returned (.tuple #[namV (nameN s), .int .i64 (errN s)]) ∧ Below w.heap.size w w' := by
  by_cases h : s.length < 1 ∨ 40 < s.length ∨ s = [46] ∨ s = [46, 46]
  · have hr : rightN s = false := by
      cases hr : rightN s with
      | false => rfl
      | true =>
        obtain ⟨h1, h2, h3, h4, -⟩ := (rightN_iff s).1 hr
        rcases h with h | h | h | h
        · omega
        · omega
        · exact absurd h h3
        · exact absurd h h4
    refine (named_early s w h).mono fun e w' h => ?_
    unfold nameN errN
    rw [hr]
    exact h
  · have h1 : 1 ≤ s.length := by
      rcases Nat.lt_or_ge s.length 1 with k | k
      · exact absurd (.inl k) h
      · exact k
    have h2 : s.length ≤ 40 := by
      rcases Nat.lt_or_ge 40 s.length with k | k
      · exact absurd (.inr (.inl k)) h
      · exact k
    have h3 : ¬ s = [46] := fun k => h (.inr (.inr (.inl k)))
    have h4 : ¬ s = [46, 46] := fun k => h (.inr (.inr (.inr k)))
    have hr : rightN s = s.all byteN := by
      unfold rightN
      simp [h1, h2, h3, h4]
    refine (named_late s w h1 h2 h3 h4).mono fun e w' h => ?_
    unfold nameN errN
    rw [hr]
    exact h
end Go.Proofs.YtohdgjmmekgcmaaDoor

/-
  path: texts cut at their slashes; what a path is, in plain words.
-/
namespace Go.Proofs.YtohdgjmmekgcmaaDoor
open Go.RowKit Go.Shelf Go.Sort

/-- The parts of a text between its slashes. -/
def partsP : List UInt8 → List (List UInt8)
  | [] => [[]]
  | c :: s => if c = 47 then [] :: partsP s else (c :: (partsP s).headD []) :: (partsP s).tail
/-- Names, each behind a slash. -/
def flatP (l : List (List UInt8)) : List UInt8 := (l.map (47 :: ·)).flatten
/-- The path of names. -/
def pathOf (l : List (List UInt8)) : List UInt8 := if l = [] then [47] else flatP l
theorem partsP_cons (s : List UInt8) : ∃ h t, partsP s = h :: t := by
  cases s with
  | nil => exact ⟨[], [], rfl⟩
  | cons c s =>
    unfold partsP
    split
    · exact ⟨_, _, rfl⟩
    · exact ⟨_, _, rfl⟩
theorem partsP_slash (s : List UInt8) : partsP (47 :: s) = [] :: partsP s := by simp [partsP]
theorem partsP_other (c : UInt8) (s h : List UInt8) (t : List (List UInt8)) (hc : c ≠ 47) (he : partsP s = h :: t) : partsP (c :: s) = (c :: h) :: t := by
  rw [partsP, if_neg hc, he]
  rfl
theorem partsP_app : ∀ (a s : List UInt8), partsP (a ++ 47 :: s) = partsP a ++ partsP s
  | [], s => by rw [List.nil_append, partsP_slash]; rfl
  | c :: a, s => by
    have ih := partsP_app a s
    obtain ⟨h, t, e⟩ := partsP_cons a
    by_cases hc : c = 47
    · subst hc
      rw [List.cons_append, partsP_slash, partsP_slash, ih]
      rfl
    · rw [List.cons_append, partsP_other c a h t hc e, partsP_other c (a ++ 47 :: s) h (t ++ partsP s) hc (by rw [ih, e]; rfl)]
      rfl
theorem partsP_no : ∀ (a : List UInt8), 47 ∉ a → partsP a = [a]
  | [], _ => rfl
  | c :: a, h => by
    have hc : c ≠ 47 := fun e => h (by rw [e]; exact List.mem_cons_self)
    exact partsP_other c a a [] hc (partsP_no a fun k => h (List.mem_cons_of_mem _ k))
theorem partsP_flat : ∀ (s : List UInt8), flatP (partsP s) = 47 :: s
  | [] => rfl
  | c :: s => by
    have ih := partsP_flat s
    obtain ⟨h, t, e⟩ := partsP_cons s
    rw [e] at ih
    by_cases hc : c = 47
    · subst hc
      rw [partsP_slash, e]
      unfold flatP at ih ⊢
      rw [List.map_cons, List.flatten_cons, ih]
      rfl
    · rw [partsP_other c s h t hc e]
      unfold flatP at ih ⊢
      rw [List.map_cons, List.flatten_cons] at ih ⊢
      simp only [List.cons_append, List.cons.injEq, true_and] at ih ⊢
      exact ih
theorem partsP_names : ∀ (l : List (List UInt8)) (x : List UInt8), (∀ y ∈ x :: l, (47 : UInt8) ∉ y) → partsP (x ++ flatP l) = x :: l
  | [], x, h => by
    rw [show x ++ flatP [] = x from List.append_nil x]
    exact partsP_no x (h x List.mem_cons_self)
  | y :: l, x, h => by
    have ih := partsP_names l y fun z hz => h z (List.mem_cons_of_mem _ hz)
    rw [show x ++ flatP (y :: l) = x ++ 47 :: (y ++ flatP l) from rfl, partsP_app, ih, partsP_no x (h x List.mem_cons_self)]
    rfl
theorem partsP_length (s : List UInt8) : (partsP s).length ≤ s.length + 1 := by
  induction s with
  | nil => exact Nat.le_refl _
  | cons c s ih =>
    obtain ⟨h, t, e⟩ := partsP_cons s
    by_cases hc : c = 47
    · subst hc; rw [partsP_slash, List.length_cons, List.length_cons]; omega
    · rw [partsP_other c s h t hc e, List.length_cons, List.length_cons]
      rw [e, List.length_cons] at ih
      omega
/-- What Split tells of a text: names, an error. -/
def underE (l : List (List UInt8)) : List (List UInt8) × Int := if 16 < l.length then ([], 170) else if l.all rightN then (l, 0) else ([], 160)
def splitE (s : List UInt8) : List (List UInt8) × Int :=
  if s = [47] then ([], 0) else if s.head? = some 47 ∧ [] ∉ partsP s.tail then underE (partsP s.tail) else ([], 170)
theorem rightN_noSlash {x : List UInt8} (h : rightN x = true) : (47 : UInt8) ∉ x := fun hm => by
  have := List.all_eq_true.1 ((rightN_iff x).1 h).2.2.2.2 47 hm
  exact absurd this (by decide)
theorem rightN_nonempty {x : List UInt8} (h : rightN x = true) : x ≠ [] := fun e => by
  subst e
  exact absurd h (by decide)
theorem underE_cases (l : List (List UInt8)) : (l.length ≤ 16 ∧ l.all rightN = true ∧ underE l = (l, 0)) ∨ (16 < l.length ∧ underE l = ([], 170)) ∨ (l.length ≤ 16 ∧ l.all rightN = false ∧ underE l = ([], 160)) := by
  unfold underE
  by_cases h : 16 < l.length
  · exact .inr (.inl ⟨h, if_pos h⟩)
  · rw [if_neg h]
    cases ha : l.all rightN with
    | true => exact .inl ⟨by omega, rfl, if_pos rfl⟩
    | false => exact .inr (.inr ⟨by omega, rfl, if_neg (by simp)⟩)
/-- Either a text is the path of right names, or an error is told, and no names. -/
theorem splitE_cases (s : List UInt8) : (∃ l : List (List UInt8), l.length ≤ 16 ∧ l.all rightN = true ∧ s = pathOf l ∧ splitE s = (l, 0)) ∨ splitE s = ([], 170) ∨ splitE s = ([], 160) := by
  unfold splitE
  by_cases h : s = [47]
  · rw [if_pos h]
    exact .inl ⟨[], by decide, rfl, h, rfl⟩
  · rw [if_neg h]
    by_cases h2 : s.head? = some 47 ∧ [] ∉ partsP s.tail
    · rw [if_pos h2]
      rcases underE_cases (partsP s.tail) with ⟨a, b, c⟩ | ⟨a, c⟩ | ⟨a, b, c⟩
      · refine .inl ⟨partsP s.tail, a, b, ?_, c⟩
        obtain ⟨x, t, e⟩ := partsP_cons s.tail
        unfold pathOf
        rw [if_neg (by rw [e]; exact List.cons_ne_nil _ _), partsP_flat]
        cases s with
        | nil => cases h2.1
        | cons c s => simp at h2 ⊢; exact h2.1
      · exact .inr (.inl c)
      · exact .inr (.inr c)
    · rw [if_neg h2]
      exact .inr (.inl rfl)
/-- Split of Join. -/
theorem splitE_path (l : List (List UInt8)) (h1 : l.length ≤ 16) (h2 : l.all rightN = true) : splitE (pathOf l) = (l, 0) := by
  cases l with
  | nil => rfl
  | cons x l =>
    have hn : ∀ y ∈ x :: l, (47 : UInt8) ∉ y := fun y hy => rightN_noSlash (List.all_eq_true.1 h2 y hy)
    have hp := partsP_names l x hn
    have hx : x ≠ [] := rightN_nonempty (List.all_eq_true.1 h2 x List.mem_cons_self)
    have e : pathOf (x :: l) = 47 :: (x ++ flatP l) := rfl
    unfold splitE
    rw [e, if_neg (by cases x with
      | nil => exact absurd rfl hx
      | cons c x => simp), List.head?_cons, List.tail_cons, hp, if_pos ⟨rfl, fun hm => rightN_nonempty (List.all_eq_true.1 h2 _ hm) rfl⟩]
    unfold underE
    rw [if_neg (by omega), if_pos h2]
theorem splitE_err (s : List UInt8) (h : (splitE s).2 ≠ 0) : (splitE s).1 = [] := by
  rcases splitE_cases s with ⟨l, -, -, -, e⟩ | e | e
  · rw [e] at h; exact absurd rfl h
  · rw [e]
  · rw [e]
theorem splitE_len (s : List UInt8) : (splitE s).1.length ≤ 16 := by
  rcases splitE_cases s with ⟨l, h, -, -, e⟩ | e | e
  · rw [e]; exact h
  · rw [e]; decide
  · rw [e]; decide
theorem splitE_right (s : List UInt8) : (splitE s).1.all rightN = true := by
  rcases splitE_cases s with ⟨l, -, h, -, e⟩ | e | e
  · rw [e]; exact h
  · rw [e]; rfl
  · rw [e]; rfl
theorem splitE_back (s : List UInt8) (h : (splitE s).2 = 0) : s = pathOf (splitE s).1 := by
  rcases splitE_cases s with ⟨l, -, -, e, k⟩ | e | e
  · rw [k]; exact e
  · rw [e] at h; cases h
  · rw [e] at h; cases h
end Go.Proofs.YtohdgjmmekgcmaaDoor
