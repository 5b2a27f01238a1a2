/-
  Which fields are apart, and what is put into fields that are apart. Plain arithmetic.
-/
import Derived.Test.YthjlhbkjmlohcaaDoorWordI
namespace Go.Proofs.YthjlhbkjmlohcaaDoor
namespace WM
theorem mem_bitsOf (x i : Nat) (h : x < 18446744073709551616) : i ∈ bitsOf x ↔ x.testBit i = true := by
  unfold bitsOf
  rw [List.mem_filter, List.mem_range]
  constructor
  · exact fun h => h.2
  · intro hb
    refine ⟨?_, hb⟩
    rcases Nat.lt_or_ge i 64 with h1 | h1
    · exact h1
    · rw [lt_bit x 64 i (by simpa using h) h1] at hb
      cases hb
theorem bitsOf_nodup (x : Nat) : (bitsOf x).Nodup := List.Nodup.sublist List.filter_sublist List.nodup_range
/-- A word with these bits besides. -/
def orBits (t : Nat) (l : List Nat) : Nat := l.foldl (fun t i => t ||| 2 ^ i) t
theorem orBits_bit (l : List Nat) : ∀ (t j : Nat), (orBits t l).testBit j = (t.testBit j || decide (j ∈ l)) := by
  induction l with
  | nil => intro t j; simp [orBits]
  | cons a r ih =>
    intro t j
    show (orBits (t ||| 2 ^ a) r).testBit j = _
    rw [ih, Nat.testBit_or, Nat.testBit_two_pow]
    by_cases h : a = j
    · subst h; simp
    · have h' : ¬ j = a := fun e => h e.symm
      simp [h, h']
theorem orBits_more (t : Nat) (l : List Nat) (i : Nat) : orBits t (l ++ [i]) = orBits t l ||| 2 ^ i := by
  unfold orBits
  rw [List.foldl_append]; rfl
theorem orBits_all (t m : Nat) (h : m < 18446744073709551616) : orBits t (bitsOf m) = t ||| m := by
  apply Nat.eq_of_testBit_eq
  intro j
  rw [orBits_bit, Nat.testBit_or]
  congr 1
  rw [Bool.eq_iff_iff, decide_eq_true_iff]
  exact mem_bitsOf m j h
/-- On the way over a word's bits, the next one is taken only if it was so at the start. -/
theorem orBits_next (t m : Nat) (pre : List Nat) (y : Nat) (h : pre ++ [y] <+: bitsOf m) : (orBits t pre).testBit y = t.testBit y := by
  have hn : (pre ++ [y]).Nodup := List.Nodup.sublist h.sublist (bitsOf_nodup m)
  have hy : y ∉ pre := fun hm => by
    have := (List.nodup_append.1 hn).2.2
    exact this y hm y (by simp) rfl
  rw [orBits_bit]
  simp [hy]
/-- These fields may be, and none has a bit that is taken or that another has. -/
def apartFrom (t : Nat) : List (Int × Int) → Bool
  | [] => true
  | (f, v) :: r => okF f v && decide (t &&& maskN f.toNat v.toNat = 0) && apartFrom (t ||| maskN f.toNat v.toNat) r
theorem and_zero (t m : Nat) : t &&& m = 0 ↔ ∀ j, m.testBit j = true → t.testBit j = false := by
  constructor
  · intro h j hj
    have := congrArg (fun x => x.testBit j) h
    simpa [hj] using this
  · intro h
    apply Nat.eq_of_testBit_eq
    intro j
    rw [Nat.testBit_and, Nat.zero_testBit]
    cases hm : m.testBit j with
    | true => rw [h j hm]; rfl
    | false => simp
theorem maskN_bit (f v j : Nat) (h : f + v ≤ 64) : (maskN f v).testBit j = (decide (f ≤ j) && decide (j < f + v)) := by
  unfold maskN
  rw [show (18446744073709551616 : Nat) = 2 ^ 64 from rfl, Nat.testBit_mod_two_pow, Nat.testBit_mul_two_pow, Nat.testBit_two_pow_sub_one]
  by_cases h1 : f ≤ j
  · by_cases h2 : j < f + v
    · simp [h1, h2, show j < 64 by omega, show j - f < v by omega]
    · simp [h1, h2, show ¬ j - f < v by omega]
  · simp [h1]
/-- Two fields that are apart have no bit in common. -/
theorem apart_two (f v g u : Nat) (h : f + v ≤ 64) (k : g + u ≤ 64) (ha : apartFrom 0 [((f : Int), (v : Int)), ((g : Int), (u : Int))] = true) (j : Nat) : ¬ (f ≤ j ∧ j < f + v ∧ g ≤ j ∧ j < g + u) := fun ⟨h1, h2, h3, h4⟩ => by
  simp only [apartFrom, Bool.and_eq_true, decide_eq_true_eq, Int.toNat_natCast, Nat.zero_or, and_true] at ha
  have := (and_zero _ _).1 ha.2.2 j (by rw [maskN_bit g u j k]; simp [h3, h4])
  rw [maskN_bit f v j h] at this
  simp [h1, h2] at this
/-- Into fields that are apart one may put in either order. -/
theorem putN_swap (w f v n g u m : Nat) (h : f + v ≤ 64) (k : g + u ≤ 64) (hn : n < 2 ^ v) (hm : m < 2 ^ u) (hw : w < 18446744073709551616) (ha : ∀ j, ¬ (f ≤ j ∧ j < f + v ∧ g ≤ j ∧ j < g + u)) :
    putN (putN w f v n) g u m = putN (putN w g u m) f v n := by
  apply Nat.eq_of_testBit_eq
  intro i
  rw [putN_bit _ g u m i k hm (putN_lt _ _ _ _ hw), putN_bit _ f v n i h hn hw, putN_bit _ f v n i h hn (putN_lt _ _ _ _ hw), putN_bit _ g u m i k hm hw]
  have := ha i
  by_cases h1 : f ≤ i ∧ i < f + v
  · by_cases h2 : g ≤ i ∧ i < g + u
    · exact absurd ⟨h1.1, h1.2, h2.1, h2.2⟩ this
    · simp [h1, h2]
  · simp [h1]
theorem get_put (w f v n : Nat) (h : f + v ≤ 64) (hn : n < 2 ^ v) (hw : w < 18446744073709551616) : getN (putN w f v n) f v = n := by
  apply Nat.eq_of_testBit_eq
  intro i
  rw [getN_bit, putN_bit w f v n _ h hn hw]
  by_cases h1 : i < v
  · rw [if_pos ⟨by omega, by omega⟩, show f + i - f = i by omega]; simp [h1]
  · rw [lt_bit n v i hn (by omega)]; simp [h1]
theorem put_get (w f v : Nat) (h : f + v ≤ 64) (hw : w < 18446744073709551616) : putN w f v (getN w f v) = w := by
  apply Nat.eq_of_testBit_eq
  intro i
  rw [putN_bit w f v _ i h (getN_lt w f v) hw, getN_bit]
  by_cases h1 : f ≤ i ∧ i < f + v
  · rw [if_pos h1, show f + (i - f) = i by omega]; simp [show i - f < v by omega]
  · rw [if_neg h1]
theorem put_put (w f v n m : Nat) (h : f + v ≤ 64) (hn : n < 2 ^ v) (hm : m < 2 ^ v) (hw : w < 18446744073709551616) : putN (putN w f v n) f v m = putN w f v m := by
  apply Nat.eq_of_testBit_eq
  intro i
  rw [putN_bit _ f v m i h hm (putN_lt _ _ _ _ hw), putN_bit _ f v n i h hn hw, putN_bit _ f v m i h hm hw]
  by_cases h1 : f ≤ i ∧ i < f + v
  · simp [h1]
  · simp [h1]
theorem get_other (w f v n g u : Nat) (h : f + v ≤ 64) (hn : n < 2 ^ v) (hw : w < 18446744073709551616) (ha : ∀ j, ¬ (f ≤ j ∧ j < f + v ∧ g ≤ j ∧ j < g + u)) : getN (putN w f v n) g u = getN w g u := by
  apply Nat.eq_of_testBit_eq
  intro i
  rw [getN_bit, getN_bit, putN_bit w f v n _ h hn hw]
  by_cases h1 : i < u
  · rw [if_neg (fun h2 => ha (g + i) ⟨h2.1, h2.2, by omega, by omega⟩)]
  · simp [h1]
theorem okF_parts (f v : Int) (h : okF f v = true) : ∃ a b : Nat, f = a ∧ v = b ∧ a + b ≤ 64 ∧ a < 64 ∧ 1 ≤ b := by
  have := of_decide_eq_true h
  exact ⟨f.toNat, v.toNat, by omega, by omega, by omega, by omega, by omega⟩
/-- On the way over these bits none was taken twice. -/
def Free (t : Nat) (l : List Nat) : Prop := ∀ p y, p ++ [y] <+: l → (orBits t p).testBit y = false
theorem free_nil (t : Nat) : Free t [] := fun p y h => by simp at h
theorem free_snoc {t : Nat} {l : List Nat} {y : Nat} (h : Free t l) (hy : (orBits t l).testBit y = false) : Free t (l ++ [y]) := fun p x hp => by
  rcases List.prefix_concat_iff.1 hp with e | hp
  · have e1 := List.append_inj_left' e rfl
    have e2 := List.append_inj_right' e rfl
    simp only [List.cons.injEq, and_true] at e2
    rw [e1, e2]; exact hy
  · exact h p x hp
theorem free_all {t m : Nat} (hm : m < 18446744073709551616) (h : Free t (bitsOf m)) : t &&& m = 0 := (and_zero t m).2 fun j hj => by
  have hmem := (mem_bitsOf m j hm).2 hj
  obtain ⟨p, s, e⟩ := List.append_of_mem hmem
  have hp : p ++ [j] <+: bitsOf m := ⟨s, by rw [e]; simp⟩
  rw [← orBits_next t m p j hp]
  exact h p j hp
theorem not_free {t m y : Nat} {p : List Nat} (hm : m < 18446744073709551616) (hp : p ++ [y] <+: bitsOf m) (hy : (orBits t p).testBit y = true) : ¬ t &&& m = 0 := fun h => by
  rw [orBits_next t m p y hp] at hy
  have hmem : y ∈ bitsOf m := hp.subset (by simp)
  have := (and_zero t m).1 h y ((mem_bitsOf m y hm).1 hmem)
  rw [this] at hy; cases hy
theorem orBits_lt (l : List Nat) : ∀ t, t < 18446744073709551616 → (∀ y ∈ l, y < 64) → orBits t l < 18446744073709551616 := by
  induction l with
  | nil => exact fun t h _ => h
  | cons a r ih => exact fun t h hl => ih _ (Nat.or_lt_two_pow (n := 64) h (pow_lt64 a (hl a (List.mem_cons_self ..)))) fun y hy => hl y (List.mem_cons_of_mem _ hy)
theorem shr_one (o y : Nat) (ho : o < 18446744073709551616) : (bits .and .u64 ((o : Int) / 2 ^ y) 1 == 1) = o.testBit y := by
  have e : (o : Int) / 2 ^ y = ((o / 2 ^ y : Nat) : Int) := by rw [Int.natCast_ediv]; simp
  have h1 := u64_and_nat (o / 2 ^ y) 1 (Nat.lt_of_le_of_lt (Nat.div_le_self _ _) ho) (by decide)
  rw [e, show (1 : Int) = ((1 : Nat) : Int) from rfl, h1, Nat.and_one_is_mod, Nat.testBit_eq_decide_div_mod_eq, Bool.eq_iff_iff, beq_iff_eq, decide_eq_true_iff]
  omega
theorem or_shl (o y : Nat) (ho : o < 18446744073709551616) (hy : y < 64) : bits .or .u64 (o : Int) (IntKind.u64.wrap (2 ^ y)) = ((o ||| 2 ^ y : Nat) : Int) := by
  rw [pow_int y hy, u64_or_nat _ _ ho (pow_lt64 y hy)]
end WM
end Go.Proofs.YthjlhbkjmlohcaaDoor
