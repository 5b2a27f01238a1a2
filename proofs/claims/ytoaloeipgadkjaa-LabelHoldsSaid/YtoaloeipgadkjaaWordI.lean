/-
  Contracts of math/bits.TrailingZeros64 and of word.Bits (an iterator).
-/
import Derived.Test.YtoaloeipgadkjaaWordA
import Derived.RangeFuncNested
import Derived.RangeFuncBound
import Derived.RangeFuncCalls
import Derived.RangeFuncLeaves
import Derived.Shelf.Abstract
import Derived.Shelf.RegionOpen
import Derived.OwnWalkIn
import Derived.TacticsInMore
import Derived.LoopNIn
import Derived.LoopIn
namespace Go.Proofs.Ytoaloeipgadkjaa
open Go.RowKit Go.Shelf
attribute [local go_sem] Oper.semAt_some
namespace WM
/-- The bits that are 1, rising. -/
def bitsOf (x : Nat) : List Nat := (List.range 64).filter (fun i => x.testBit i)
theorem bitsOf_zero : bitsOf 0 = [] := by unfold bitsOf; simp
theorem low_split (x : Nat) (h0 : x ≠ 0) (h : x < 18446744073709551616) : ∃ m, x = 2 ^ (Lib.ctz 64 x + 1) * m + 2 ^ Lib.ctz 64 x ∧ Lib.ctz 64 x < 64 := by
  obtain ⟨m, hm, hk⟩ := Lib.ctzFrom_spec 64 x (by omega) h
  have e : Lib.ctz 64 x = Lib.ctzFrom 64 x := by simp [Lib.ctz, h0]
  rw [e]
  refine ⟨m, ?_, hk⟩
  rw [Nat.pow_succ, Nat.mul_assoc]
  generalize 2 ^ Lib.ctzFrom 64 x = p at *
  rw [hm, Nat.mul_add, Nat.mul_one]
theorem and_pred_bit (k m j : Nat) : ((2 ^ (k + 1) * m + 2 ^ k) &&& (2 ^ (k + 1) * m + 2 ^ k - 1)).testBit j = if j < k + 1 then false else m.testBit (j - (k + 1)) := by
  have hp := Nat.two_pow_pos k
  have hs : 2 ^ (k + 1) = 2 * 2 ^ k := by rw [Nat.pow_succ, Nat.mul_comm]
  have e : 2 ^ (k + 1) * m + 2 ^ k - 1 = 2 ^ (k + 1) * m + (2 ^ k - 1) := by omega
  rw [e, Nat.testBit_and, Nat.testBit_two_pow_mul_add _ (by omega), Nat.testBit_two_pow_mul_add _ (by omega)]
  by_cases h : j < k + 1
  · rw [if_pos h, if_pos h, if_pos h, Nat.testBit_two_pow, Nat.testBit_two_pow_sub_one]
    by_cases hj : k = j
    · simp [hj]
    · simp [hj]
  · rw [if_neg h, if_neg h, if_neg h, Bool.and_self]
theorem bitsOf_cons (x : Nat) (h0 : x ≠ 0) (h : x < 18446744073709551616) : bitsOf x = Lib.ctz 64 x :: bitsOf (x &&& (x - 1)) := by
  obtain ⟨m, hm, hk⟩ := low_split x h0 h
  generalize Lib.ctz 64 x = k at *
  subst hm
  have hs : 2 ^ (k + 1) = 2 * 2 ^ k := by rw [Nat.pow_succ, Nat.mul_comm]
  have hp := Nat.two_pow_pos k
  have e : List.range 64 = List.range k ++ (k :: List.range' (k + 1) (63 - k)) := by
    rw [List.range_eq_range', List.range_eq_range', ← List.range'_succ]
    have : 63 - k + 1 = 64 - k := by omega
    rw [this]
    have := List.range'_append_1 (s := 0) (m := k) (n := 64 - k)
    rw [Nat.zero_add] at this
    rw [this]; congr 1; omega
  unfold bitsOf
  rw [e, List.filter_append, List.filter_append, List.filter_cons, List.filter_cons]
  have a1 : (List.range k).filter (fun i => (2 ^ (k + 1) * m + 2 ^ k).testBit i) = [] := by
    rw [List.filter_eq_nil_iff]
    intro i hi
    have hi' : i < k := List.mem_range.1 hi
    rw [Nat.testBit_two_pow_mul_add _ (by omega), if_pos (by omega), Nat.testBit_two_pow]
    simp; omega
  have a2 : (List.range k).filter (fun i => ((2 ^ (k + 1) * m + 2 ^ k) &&& (2 ^ (k + 1) * m + 2 ^ k - 1)).testBit i) = [] := by
    rw [List.filter_eq_nil_iff]
    intro i hi
    have hi' : i < k := List.mem_range.1 hi
    rw [and_pred_bit, if_pos (by omega)]; simp
  have b1 : (2 ^ (k + 1) * m + 2 ^ k).testBit k = true := by
    rw [Nat.testBit_two_pow_mul_add _ (by omega), if_pos (by omega), Nat.testBit_two_pow]; simp
  have b2 : ((2 ^ (k + 1) * m + 2 ^ k) &&& (2 ^ (k + 1) * m + 2 ^ k - 1)).testBit k = false := by rw [and_pred_bit, if_pos (by omega)]
  rw [a1, a2, b1, b2]
  simp only [List.nil_append, if_true, Bool.false_eq_true, if_false]
  congr 1
  apply List.filter_congr
  intro i hi
  have hi' : k + 1 ≤ i := (List.mem_range'_1.1 hi).1
  rw [and_pred_bit, if_neg (by omega), Nat.testBit_two_pow_mul_add _ (by omega), if_neg (by omega)]
theorem bitsOf_len (x : Nat) : (bitsOf x).length ≤ 64 := by
  unfold bitsOf
  exact Nat.le_trans (List.length_filter_le _ _) (by simp)
theorem ctz_lt (x : Nat) (h0 : x ≠ 0) (h : x < 18446744073709551616) : Lib.ctz 64 x < 64 := (low_split x h0 h).choose_spec.2
theorem dec_int (x : Nat) (h0 : x ≠ 0) (h : x < 18446744073709551616) : bits .and .u64 (x : Int) ((x : Int) - 1) = ((x &&& (x - 1) : Nat) : Int) := by
  have e : (x : Int) - 1 = ((x - 1 : Nat) : Int) := by omega
  rw [e, u64_and_nat _ _ h (by omega)]
end WM

/-- The blocks p are as they were. -/
def Keeps (p : Nat → Prop) (W W' : World) : Prop := W.heap.size ≤ W'.heap.size ∧ ∀ k, p k → k < W.heap.size → W'.heap[k]? = W.heap[k]?
theorem Keeps.refl (p : Nat → Prop) (W : World) : Keeps p W W := ⟨Nat.le_refl _, fun _ _ _ => rfl⟩
theorem Keeps.trans {p : Nat → Prop} {A B C : World} (h : Keeps p A B) (k : Keeps p B C) : Keeps p A C :=
  ⟨Nat.le_trans h.1 k.1, fun i hi hl => (k.2 i hi (Nat.lt_of_lt_of_le hl h.1)).trans (h.2 i hi hl)⟩
theorem Keeps.cell {p : Nat → Prop} {A B : World} (h : Keeps p A B) {q : Addr} (hp : p q.block) {v : Value} (hc : A.cell? q = some v) : B.cell? q = some v := by
  have hl : q.block < A.heap.size := by
    rcases Nat.lt_or_ge q.block A.heap.size with h1 | h1
    · exact h1
    · unfold World.cell? at hc; rw [Array.getElem?_eq_none h1] at hc; cases hc
  exact (World.cell?_of_block (w := A) (h.2 q.block hp hl)).trans hc
theorem Keeps.drewN {p : Nat → Prop} {A B : World} (h : Keeps p A B) (n : Nat) : Keeps p A (B.drewN n) := h
theorem Keeps.of_below {p : Nat → Prop} {n₀ : Nat} {A B : World} (h : Below n₀ A B) (hp : ∀ k, p k → k < n₀) : Keeps p A B := ⟨h.size, fun k hk _ => h.block k (hp k hk)⟩
theorem Keeps.of_grown {p : Nat → Prop} {A B : World} {row : Option Nat} (h : A.grownBy B row) (hp : ∀ k, row = some k → ¬ p k) : Keeps p A B :=
  ⟨h.size, fun k hk hl => h.block k hl (fun e => hp k e.symm hk)⟩
theorem Keeps.set {p : Nat → Prop} (A : World) {b o : Nat} (v : Value) (hp : ¬ p b) : Keeps p A (A.setCell ⟨b, o, none⟩ v) :=
  ⟨by simp [World.setCell], fun k hk _ => Below.heap_setCell _ _ _ _ (fun e => hp (by rw [e] at hk; exact hk))⟩
theorem keeps_b {p : Nat → Prop} {w : World} (hp : ∀ k, p k → k < w.heap.size) (W : World) (l : Nat) (o o' : Obj) (hl : w.heap.size ≤ l) (_ : W.heap[l]? = some o) (_ : o.isCells = false) (_ : o.isWalk = false) : Keeps p W (W.putObj l o') :=
  Keeps.of_grown (grownBy_putObj' W l o') (fun k e hk => by cases e; have := hp l hk; omega)
/-- What an iterator over a word's bits needs: its box, and the tables. -/
def BitsBlocks (Bs : Nat) (k : Nat) : Prop := k = Bs ∨ k < 2
end Go.Proofs.Ytoaloeipgadkjaa
