/-
  The document's Words, bit by bit: what its list holds on the way. Plain arithmetic.
-/
import Derived.Test.YtoaloeipgadkjaaWordN
namespace Go.Proofs.Ytoaloeipgadkjaa
namespace WM
/-- The first n words when m bits have gone in. -/
def upTo (bs : List Nat) (n m : Nat) : List Nat := (List.range n).map fun j => wordAt bs j % 2 ^ (m - 64 * j)
theorem upTo_length (bs : List Nat) (n m : Nat) : (upTo bs n m).length = n := by simp [upTo]
theorem upTo_at (bs : List Nat) (n m j : Nat) (h : j < n) : at' (upTo bs n m) j = wordAt bs j % 2 ^ (m - 64 * j) := by
  unfold upTo
  rw [at_map_range, if_pos h]
theorem upTo_more (bs : List Nat) (n : Nat) : upTo bs (n + 1) (64 * n) = upTo bs n (64 * n) ++ [0] := by
  unfold upTo
  rw [List.range_succ, List.map_append]
  simp [Nat.mod_one]
theorem mod_bit (x k j : Nat) : (x % 2 ^ k).testBit j = (decide (j < k) && x.testBit j) := Nat.testBit_mod_two_pow ..
theorem upTo_step (bs : List Nat) (hb : Bytes256 bs) (i k : Nat) (hk : k < 8) :
    upTo bs (i / 8 + 1) (8 * i + k + 1) = (upTo bs (i / 8 + 1) (8 * i + k)).set (i / 8) (withN (wordAt bs (i / 8) % 2 ^ (8 * (i % 8) + k)) (8 * (i % 8) + k) ((at' bs i).testBit k)) := by
  apply list_ext
  · rw [List.length_set, upTo_length, upTo_length]
  · intro j hj
    rw [upTo_length] at hj
    rw [upTo_at _ _ _ _ hj]
    show _ = ((upTo bs (i / 8 + 1) (8 * i + k)).set (i / 8) _)[j]?.getD 0
    by_cases hji : j = i / 8
    · subst hji
      rw [List.getElem?_set_self (by rw [upTo_length]; omega)]
      show _ = withN _ _ _
      rw [show 8 * i + k + 1 - 64 * (i / 8) = 8 * (i % 8) + k + 1 by omega]
      apply Nat.eq_of_testBit_eq
      intro t
      rw [withN_bit, mod_bit, mod_bit, wordAt_bit bs hb]
      by_cases h1 : t = 8 * (i % 8) + k
      · subst h1
        rw [if_pos rfl, show 8 * (i / 8) + (8 * (i % 8) + k) / 8 = i by omega, show (8 * (i % 8) + k) % 8 = k by omega]
        simp [show 8 * (i % 8) + k < 64 by omega]
      · rw [if_neg h1]
        by_cases h2 : t < 8 * (i % 8) + k
        · simp [h2, show t < 8 * (i % 8) + k + 1 by omega]
        · simp [h2, show ¬ t < 8 * (i % 8) + k + 1 by omega]
    · rw [List.getElem?_set_ne (by omega)]
      show _ = at' (upTo bs (i / 8 + 1) (8 * i + k)) j
      rw [upTo_at _ _ _ _ hj]
      have h64 : ∀ m, 64 ≤ m → wordAt bs j % 2 ^ m = wordAt bs j := fun m hm =>
        Nat.mod_eq_of_lt (Nat.lt_of_lt_of_le (wordAt_lt bs j) (Nat.le_trans (by decide : 18446744073709551616 ≤ 2 ^ 64) (Nat.pow_le_pow_right (by decide) hm)))
      rw [h64 _ (by omega), h64 _ (by omega)]
theorem upTo_end (bs : List Nat) (hb : Bytes256 bs) : upTo bs (need bs.length) (8 * bs.length) = wordsOf bs := by
  apply list_ext
  · rw [upTo_length, wordsOf_length]
  · intro j hj
    rw [upTo_length] at hj
    rw [upTo_at _ _ _ _ hj, wordsOf_at, if_pos hj]
    apply Nat.eq_of_testBit_eq
    intro t
    rw [mod_bit, wordAt_bit bs hb]
    by_cases h : t < 8 * bs.length - 64 * j
    · simp [h]
    · have e : at' bs (8 * j + t / 8) = 0 := at_none _ _ (by omega)
      simp [h, e]
theorem upTo_lt (bs : List Nat) (j m : Nat) : wordAt bs j % 2 ^ m < 18446744073709551616 := Nat.lt_of_le_of_lt (Nat.mod_le _ _) (wordAt_lt bs j)
end WM
end Go.Proofs.Ytoaloeipgadkjaa
