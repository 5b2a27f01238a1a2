/-
  Plain arithmetic of fields of bits: no Go in sight.
-/
import Derived.Laws.BitsAllLaws
namespace Go.Proofs.Ytoaloeipgadkjaa
namespace WM
/-- The number that a field has. -/
def getN (w f v : Nat) : Nat := w / 2 ^ f % 2 ^ v
/-- The word in which a field has another number. -/
def putN (w f v n : Nat) : Nat := (w &&& (18446744073709551615 - (2 ^ v - 1) * 2 ^ f % 18446744073709551616)) ||| (n * 2 ^ f % 18446744073709551616)
def maskN (f v : Nat) : Nat := (2 ^ v - 1) * 2 ^ f % 18446744073709551616
theorem maskN_lt (f v : Nat) : maskN f v < 18446744073709551616 := Nat.mod_lt _ (by decide)
def okF (f v : Int) : Bool := decide (0 ≤ f ∧ f < 64 ∧ 1 ≤ v ∧ v ≤ 64 - f)

theorem getN_bit (w f v i : Nat) : (getN w f v).testBit i = (decide (i < v) && w.testBit (f + i)) := by
  unfold getN
  rw [Nat.testBit_mod_two_pow, Nat.testBit_div_two_pow, Nat.add_comm]
theorem mask_lt (f v : Nat) (h : f + v ≤ 64) : (2 ^ v - 1) * 2 ^ f < 18446744073709551616 := by
  have h1 : 2 ^ v * 2 ^ f ≤ 2 ^ 64 := by rw [← Nat.pow_add]; exact Nat.pow_le_pow_right (by decide) (by omega)
  have h2 : (2 ^ v - 1) * 2 ^ f = 2 ^ v * 2 ^ f - 2 ^ f := by rw [Nat.sub_mul, Nat.one_mul]
  have h3 : 0 < 2 ^ f := Nat.two_pow_pos f
  have h4 : 0 < 2 ^ v * 2 ^ f := Nat.mul_pos (Nat.two_pow_pos v) h3
  rw [h2]; omega
theorem num_lt (f v n : Nat) (h : f + v ≤ 64) (hn : n < 2 ^ v) : n * 2 ^ f < 18446744073709551616 := by
  have h1 : (2 ^ v - 1) * 2 ^ f < 18446744073709551616 := mask_lt f v h
  have : n * 2 ^ f ≤ (2 ^ v - 1) * 2 ^ f := Nat.mul_le_mul_right _ (by omega)
  omega
theorem mask_bit (f v i : Nat) : ((2 ^ v - 1) * 2 ^ f).testBit i = (decide (f ≤ i) && decide (i < f + v)) := by
  rw [Nat.testBit_mul_two_pow, Nat.testBit_two_pow_sub_one]
  by_cases h : f ≤ i
  · simp [h]; omega
  · simp [h]
theorem num_bit (f n i : Nat) : (n * 2 ^ f).testBit i = (decide (f ≤ i) && n.testBit (i - f)) := Nat.testBit_mul_two_pow ..
theorem compl_bit (m i : Nat) (hm : m < 18446744073709551616) : (18446744073709551615 - m).testBit i = (decide (i < 64) && !m.testBit i) := by
  have := Nat.testBit_two_pow_sub_succ (n := 64) hm i
  rw [← this]; congr 1; omega
theorem lt_bit (n v i : Nat) (h : n < 2 ^ v) (hi : v ≤ i) : n.testBit i = false := Nat.testBit_lt_two_pow (Nat.lt_of_lt_of_le h (Nat.pow_le_pow_right (by decide) hi))
theorem putN_bit (w f v n i : Nat) (h : f + v ≤ 64) (hn : n < 2 ^ v) (hw : w < 18446744073709551616) :
    (putN w f v n).testBit i = if f ≤ i ∧ i < f + v then n.testBit (i - f) else w.testBit i := by
  unfold putN
  rw [Nat.mod_eq_of_lt (mask_lt f v h), Nat.mod_eq_of_lt (num_lt f v n h hn), Nat.testBit_or, Nat.testBit_and, compl_bit _ _ (mask_lt f v h), mask_bit, num_bit]
  by_cases h1 : f ≤ i <;> by_cases h2 : i < f + v
  · have h3 : i < 64 := by omega
    simp [h1, h2]
  · have e : n.testBit (i - f) = false := lt_bit n v _ hn (by omega)
    by_cases h3 : i < 64
    · simp [h1, h2, e, h3]
    · have e2 : w.testBit i = false := lt_bit w 64 _ hw (by omega)
      simp [h1, h2, e, h3, e2]
  · by_cases h3 : i < 64
    · simp [h1, h3]
    · omega
  · omega
theorem putN_lt (w f v n : Nat) (_ : w < 18446744073709551616) : putN w f v n < 18446744073709551616 := by
  unfold putN
  exact Nat.or_lt_two_pow (n := 64) (Nat.and_lt_two_pow _ (by omega)) (by omega)
theorem getN_lt (w f v : Nat) : getN w f v < 2 ^ v := Nat.mod_lt _ (Nat.two_pow_pos v)
theorem pow_le64 (v : Nat) (h : v ≤ 64) : 2 ^ v ≤ 18446744073709551616 := Nat.pow_le_pow_right (n := 2) (by decide) h
theorem getN_lt64 (w f v : Nat) (h : v ≤ 64) : getN w f v < 18446744073709551616 := Nat.lt_of_lt_of_le (getN_lt w f v) (pow_le64 v h)
/-- What the program reckons. -/
theorem number_eq (w f v : Nat) (h : f + v ≤ 64) : (w &&& ((2 ^ v - 1) * 2 ^ f % 18446744073709551616)) / 2 ^ f = getN w f v := by
  rw [Nat.mod_eq_of_lt (mask_lt f v h)]
  apply Nat.eq_of_testBit_eq
  intro i
  rw [Nat.testBit_div_two_pow, Nat.testBit_and, mask_bit, getN_bit, Nat.add_comm i f]
  simp
  rw [Bool.and_comm]
theorem shl_int (n f : Nat) : IntKind.u64.wrap ((n : Int) * 2 ^ f) = ((n * 2 ^ f % 18446744073709551616 : Nat) : Int) := by
  rw [IntKind.wrap_u64, Int.natCast_emod, Int.natCast_mul, Int.natCast_pow]; rfl
theorem number_int (w f v : Nat) (h : f + v ≤ 64) : (((w &&& maskN f v : Nat) : Int)) / 2 ^ f = (getN w f v : Nat) := by
  rw [← number_eq w f v h, Int.natCast_ediv, Int.natCast_pow]
  rfl
theorem with_int (w f v n : Nat) (_ : f + v ≤ 64) (_ : n < 2 ^ v) (hw : w < 18446744073709551616) :
    bits .or .u64 (bits .andNot .u64 (w : Int) (maskN f v : Nat)) (IntKind.u64.wrap ((n : Int) * 2 ^ f)) = (putN w f v n : Nat) := by
  rw [u64_andNot_nat _ _ hw (maskN_lt f v), shl_int, u64_or_nat _ _ (Nat.and_lt_two_pow (n := 64) _ (by omega)) (Nat.mod_lt _ (by decide))]
  rfl
theorem holds_iff (n v : Nat) (hn : n < 18446744073709551616) (hv : v ≤ 64) : (n &&& (18446744073709551615 - (2 ^ v - 1))) = 0 ↔ n < 2 ^ v := by
  have hm : 2 ^ v - 1 < 18446744073709551616 := by have := pow_le64 v hv; have := Nat.two_pow_pos v; omega
  constructor
  · intro h
    apply Nat.lt_pow_two_of_testBit
    intro i hi
    by_cases h3 : i < 64
    · have e := congrArg (fun x => Nat.testBit x i) h
      simp only [Nat.testBit_and, compl_bit _ _ hm, Nat.testBit_two_pow_sub_one, Nat.zero_testBit] at e
      simpa [h3, show ¬ i < v from by omega] using e
    · exact lt_bit n 64 i hn (by omega)
  · intro h
    apply Nat.eq_of_testBit_eq
    intro i
    rw [Nat.testBit_and, compl_bit _ _ hm, Nat.testBit_two_pow_sub_one, Nat.zero_testBit]
    by_cases h1 : i < v
    · simp [h1]
    · simp [lt_bit n v i h (by omega)]
/-- A word with a bit. -/
def withN (w i : Nat) (b : Bool) : Nat := if w.testBit i = b then w else w ^^^ 2 ^ i
theorem withN_bit (w i : Nat) (b : Bool) (j : Nat) : (withN w i b).testBit j = if j = i then b else w.testBit j := by
  unfold withN
  by_cases h : w.testBit i = b
  · rw [if_pos h]
    by_cases hj : j = i
    · rw [if_pos hj, hj, h]
    · rw [if_neg hj]
  · rw [if_neg h, Nat.testBit_xor, Nat.testBit_two_pow]
    by_cases hj : j = i
    · subst hj; cases b <;> simp_all
    · rw [if_neg hj]; simp [show ¬ i = j from fun e => hj e.symm]
theorem withN_lt (w i : Nat) (b : Bool) (hw : w < 18446744073709551616) (hi : i < 64) : withN w i b < 18446744073709551616 := by
  unfold withN
  split
  · exact hw
  · exact Nat.xor_lt_two_pow (n := 64) hw (Nat.pow_lt_pow_right (a := 2) (by decide) hi)
/-- The field's number, its first k bits. -/
def getTo (w f k : Nat) : Nat := getN w f k
theorem getTo_succ (w f k : Nat) : withN (getTo w f k) k (w.testBit (f + k)) = getTo w f (k + 1) := by
  apply Nat.eq_of_testBit_eq
  intro j
  rw [withN_bit]
  unfold getTo
  rw [getN_bit, getN_bit]
  by_cases h : j = k
  · subst h; simp
  · rw [if_neg h]; congr 1; apply decide_eq_decide.2; omega
/-- The word in which the first k bits of a field are those of n. -/
def putTo (w f n : Nat) : Nat → Nat
  | 0 => w
  | k + 1 => withN (putTo w f n k) (f + k) (n.testBit k)
theorem putTo_bit (w f n : Nat) : ∀ k i, (putTo w f n k).testBit i = if f ≤ i ∧ i < f + k then n.testBit (i - f) else w.testBit i
  | 0, i => by rw [putTo, if_neg (by omega)]
  | k + 1, i => by
    rw [putTo, withN_bit, putTo_bit w f n k i]
    by_cases h : i = f + k
    · rw [if_pos h, if_pos (by omega), h]; congr 1; omega
    · rw [if_neg h]
      by_cases h2 : f ≤ i ∧ i < f + k
      · rw [if_pos h2, if_pos (by omega)]
      · rw [if_neg h2, if_neg (by omega)]
theorem putTo_lt (w f n : Nat) (hw : w < 18446744073709551616) : ∀ k, f + k ≤ 64 → putTo w f n k < 18446744073709551616
  | 0, _ => hw
  | k + 1, h => withN_lt _ _ _ (putTo_lt w f n hw k (by omega)) (by omega)
theorem putTo_eq (w f v n : Nat) (h : f + v ≤ 64) (hn : n < 2 ^ v) (hw : w < 18446744073709551616) : putTo w f n v = putN w f v n := by
  apply Nat.eq_of_testBit_eq
  intro i
  rw [putTo_bit, putN_bit w f v n i h hn hw]
theorem lt_of_bits (n v : Nat) (hn : n < 18446744073709551616) (h : ∀ i, v ≤ i → i < 64 → n.testBit i = false) : n < 2 ^ v := by
  apply Nat.lt_pow_two_of_testBit
  intro i hi
  by_cases h3 : i < 64
  · exact h i hi h3
  · exact lt_bit n 64 i hn (by omega)
theorem bit_int (n i : Nat) : ((n : Int) / 2 ^ i % 2 == 1) = n.testBit i := by
  rw [Nat.testBit_eq_decide_div_mod_eq]
  rw [Bool.eq_iff_iff, beq_iff_eq, decide_eq_true_iff]
  have : (n : Int) / 2 ^ i = ((n / 2 ^ i : Nat) : Int) := by rw [Int.natCast_ediv, Int.natCast_pow]; rfl
  rw [this]; omega
theorem pow_int (i : Nat) (hi : i < 64) : IntKind.u64.wrap (2 ^ i) = ((2 ^ i : Nat) : Int) := by
  have h : (2 : Nat) ^ i < 18446744073709551616 := Nat.pow_lt_pow_right (a := 2) (m := i) (n := 64) (by decide) hi
  have e2 : ((2 : Int) ^ i) = ((2 ^ i : Nat) : Int) := by rw [Int.natCast_pow]; rfl
  rw [IntKind.wrap_u64, e2]
  generalize (2 ^ i : Nat) = x at *
  omega
theorem pow_lt64 (i : Nat) (hi : i < 64) : (2 : Nat) ^ i < 18446744073709551616 := Nat.pow_lt_pow_right (a := 2) (m := i) (n := 64) (by decide) hi
/-- The word of the first k bits, but no more than the field has. -/
def putC (w f n v k : Nat) : Nat := putTo w f n (min k v)
theorem putC_zero (w f n v : Nat) : putC w f n v 0 = w := by unfold putC; rw [Nat.zero_min]; rfl
theorem putC_step (w f n v k : Nat) (h : k < v) : withN (putC w f n v k) (f + k) (n.testBit k) = putC w f n v (k + 1) := by
  unfold putC
  rw [Nat.min_eq_left (Nat.le_of_lt h), Nat.min_eq_left (show k + 1 ≤ v from h)]
  rfl
theorem putC_stay (w f n v k : Nat) (h : v ≤ k) : putC w f n v (k + 1) = putC w f n v k := by
  unfold putC
  rw [Nat.min_eq_right h, Nat.min_eq_right (by omega)]
theorem putC_end (w f n v k : Nat) (hk : v ≤ k) (h : f + v ≤ 64) (hn : n < 2 ^ v) (hw : w < 18446744073709551616) : putC w f n v k = putN w f v n := by
  unfold putC
  rw [Nat.min_eq_right hk, putTo_eq w f v n h hn hw]
theorem putC_lt (w f n v k : Nat) (h : f + v ≤ 64) (hw : w < 18446744073709551616) : putC w f n v k < 18446744073709551616 := putTo_lt w f n hw _ (by omega)
end WM
end Go.Proofs.Ytoaloeipgadkjaa
