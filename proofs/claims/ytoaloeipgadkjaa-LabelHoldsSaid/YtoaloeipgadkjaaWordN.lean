/-
  Plain arithmetic of words of bytes: no Go in sight.
-/
import Derived.Test.YtoaloeipgadkjaaWordM
namespace Go.Proofs.Ytoaloeipgadkjaa
namespace WM
/-- Element i of a list of numbers, 0 behind its end (the walk's own spelling). -/
abbrev at' (l : List Nat) (i : Nat) : Nat := l[i]?.getD 0
/-- What the first k bytes are as a word. -/
def joinTo (bs : List Nat) : Nat → Nat
  | 0 => 0
  | k + 1 => joinTo bs k ||| (at' bs k * 2 ^ (8 * k) % 18446744073709551616)
def Bytes256 (bs : List Nat) : Prop := ∀ i, at' bs i < 256
theorem joinTo_bit (bs : List Nat) (hb : Bytes256 bs) : ∀ k, k ≤ 8 → ∀ j, (joinTo bs k).testBit j = (decide (j < 8 * k) && (at' bs (j / 8)).testBit (j % 8))
  | 0, _, j => by simp [joinTo]
  | k + 1, hk, j => by
    have hx := hb k
    have hlt : at' bs k * 2 ^ (8 * k) < 18446744073709551616 := by
      have h1 : at' bs k * 2 ^ (8 * k) < 256 * 2 ^ (8 * k) := Nat.mul_lt_mul_of_pos_right hx (Nat.two_pow_pos _)
      have h2 : 256 * 2 ^ (8 * k) = 2 ^ (8 + 8 * k) := by rw [Nat.pow_add]
      have h3 : 2 ^ (8 + 8 * k) ≤ 2 ^ 64 := Nat.pow_le_pow_right (by decide) (by omega)
      have h4 : (2 : Nat) ^ 64 = 18446744073709551616 := rfl
      omega
    rw [joinTo, Nat.mod_eq_of_lt hlt, Nat.testBit_or, joinTo_bit bs hb k (by omega) j, Nat.testBit_mul_two_pow]
    by_cases h1 : j < 8 * k
    · simp [h1, show ¬ 8 * k ≤ j by omega, show j < 8 * (k + 1) by omega]
    · by_cases h2 : j < 8 * (k + 1)
      · have e1 : j / 8 = k := by omega
        have e2 : j - 8 * k = j % 8 := by omega
        simp [h1, h2, e1, e2, show 8 * k ≤ j by omega]
      · have : (at' bs k).testBit (j - 8 * k) = false := lt_bit _ 8 _ (by simpa using hx) (by omega)
        simp [h1, h2, this]
theorem joinTo_lt (bs : List Nat) : ∀ k, joinTo bs k < 18446744073709551616
  | 0 => by simp [joinTo]
  | k + 1 => Nat.or_lt_two_pow (n := 64) (joinTo_lt bs k) (Nat.mod_lt _ (by decide))
theorem joinTo_take (bs : List Nat) (n : Nat) : ∀ k, k ≤ n → joinTo (bs.take n) k = joinTo bs k
  | 0, _ => rfl
  | k + 1, h => by
    rw [joinTo, joinTo, joinTo_take bs n k (by omega)]
    have : at' (bs.take n) k = at' bs k := by show (bs.take n)[k]?.getD 0 = _; rw [List.getElem?_take_of_lt (by omega)]
    rw [this]
/-- How many words so many bytes have. -/
def need (n : Nat) : Nat := (n + 7) / 8
/-- Word i of bytes. -/
def wordAt (bs : List Nat) (i : Nat) : Nat := joinTo (bs.drop (8 * i)) (min 8 (bs.length - 8 * i))
def wordsOf (bs : List Nat) : List Nat := (List.range (need bs.length)).map (wordAt bs)
theorem wordAt_bit (bs : List Nat) (hb : Bytes256 bs) (i j : Nat) : (wordAt bs i).testBit j = (decide (j < 64) && (at' bs (8 * i + j / 8)).testBit (j % 8)) := by
  have hd : Bytes256 (bs.drop (8 * i)) := fun k => by show (bs.drop (8 * i))[k]?.getD 0 < 256; rw [List.getElem?_drop]; exact hb _
  have ha : ∀ k, at' (bs.drop (8 * i)) k = at' bs (8 * i + k) := fun k => by show (bs.drop (8 * i))[k]?.getD 0 = _; rw [List.getElem?_drop]
  unfold wordAt
  rw [joinTo_bit _ hd _ (by omega), ha]
  by_cases h : j < 64
  · by_cases h2 : j < 8 * min 8 (bs.length - 8 * i)
    · simp [h, h2]
    · have : at' bs (8 * i + j / 8) = 0 := by
        show bs[8 * i + j / 8]?.getD 0 = 0
        rw [List.getElem?_eq_none (by omega)]; rfl
      simp [this]
  · simp [h, show ¬ j < 8 * min 8 (bs.length - 8 * i) by omega]
theorem wordAt_lt (bs : List Nat) (i : Nat) : wordAt bs i < 18446744073709551616 := joinTo_lt _ _
theorem wordsOf_length (bs : List Nat) : (wordsOf bs).length = need bs.length := by simp [wordsOf]
theorem at_map_range (n : Nat) (f : Nat → Nat) (i : Nat) : at' ((List.range n).map f) i = if i < n then f i else 0 := by
  show ((List.range n).map f)[i]?.getD 0 = _
  by_cases h : i < n
  · rw [if_pos h, List.getElem?_map, List.getElem?_range h]; rfl
  · rw [if_neg h, List.getElem?_eq_none (by simp; omega)]; rfl
theorem wordsOf_at (bs : List Nat) (i : Nat) : at' (wordsOf bs) i = if i < need bs.length then wordAt bs i else 0 := at_map_range _ _ _
/-- Byte i of words. -/
def byteAt (l : List Nat) (i : Nat) : Nat := getN (at' l (i / 8)) (8 * (i % 8)) 8
def bytesOf (l : List Nat) : List Nat := (List.range (8 * l.length)).map (byteAt l)
theorem byteAt_lt (l : List Nat) (i : Nat) : byteAt l i < 256 := getN_lt _ _ 8
theorem at_none (l : List Nat) (i : Nat) (h : l.length ≤ i) : at' l i = 0 := by
  show l[i]?.getD 0 = 0
  rw [List.getElem?_eq_none h]; rfl
theorem bytesOf_at (l : List Nat) (i : Nat) (h : i < 8 * l.length) : at' (bytesOf l) i = byteAt l i := by
  unfold bytesOf
  rw [at_map_range, if_pos h]
theorem byteAt_none (l : List Nat) (i : Nat) (h : 8 * l.length ≤ i) : byteAt l i = 0 := by
  unfold byteAt
  rw [at_none l _ (by omega)]
  unfold getN; simp
theorem byte_word (bs : List Nat) (hb : Bytes256 bs) (i : Nat) : byteAt (wordsOf bs) i = at' bs i := by
  unfold byteAt
  by_cases h : i / 8 < need bs.length
  · rw [wordsOf_at, if_pos h]
    apply Nat.eq_of_testBit_eq
    intro j
    rw [getN_bit, wordAt_bit bs hb]
    by_cases hj : j < 8
    · have e1 : 8 * (i / 8) + (8 * (i % 8) + j) / 8 = i := by omega
      have e2 : (8 * (i % 8) + j) % 8 = j := by omega
      rw [e1, e2]
      simp [hj, show 8 * (i % 8) + j < 64 by omega]
    · simp [hj, lt_bit (at' bs i) 8 j (by simpa using hb i) (by omega)]
  · rw [wordsOf_at, if_neg h]
    have : bs.length ≤ i := by unfold need at h; omega
    rw [at_none bs i this]
    unfold getN; simp
theorem list_ext (a b : List Nat) (hl : a.length = b.length) (h : ∀ i, i < a.length → at' a i = at' b i) : a = b := by
  apply List.ext_getElem hl
  intro i h1 h2
  have e := h i h1
  rw [show at' a i = a[i]?.getD 0 from rfl, show at' b i = b[i]?.getD 0 from rfl, List.getElem?_eq_getElem h1, List.getElem?_eq_getElem h2] at e
  exact e
theorem bytesOf_length (l : List Nat) : (bytesOf l).length = 8 * l.length := by simp [bytesOf]
theorem at_take (l : List Nat) (n i : Nat) (h : i < n) : at' (l.take n) i = at' l i := by
  show (l.take n)[i]?.getD 0 = _
  rw [List.getElem?_take_of_lt h]
theorem at_drop (l : List Nat) (n i : Nat) : at' (l.drop n) i = at' l (n + i) := by
  show (l.drop n)[i]?.getD 0 = _
  rw [List.getElem?_drop]
theorem need_ge (n : Nat) : n ≤ 8 * need n := by unfold need; omega
/-- Bytes of Words are the bytes. -/
theorem bytes_words (bs : List Nat) (hb : Bytes256 bs) : (bytesOf (wordsOf bs)).take bs.length = bs := by
  have hg := need_ge bs.length
  apply list_ext
  · rw [List.length_take, bytesOf_length, wordsOf_length]; omega
  · intro i hi
    rw [List.length_take, bytesOf_length, wordsOf_length] at hi
    rw [at_take _ _ _ (by omega), bytesOf_at _ _ (by rw [wordsOf_length]; omega), byte_word bs hb]
theorem bytes_behind (bs : List Nat) (hb : Bytes256 bs) (i : Nat) (hi : bs.length ≤ i) : byteAt (wordsOf bs) i = 0 := by
  rw [byte_word bs hb, at_none bs i hi]
/-- Chunk i of bytes. -/
def chunkOf (bs : List Nat) (i : Nat) : List Nat := (bs.drop (8 * i)).take 8
theorem chunkOf_length (bs : List Nat) (i : Nat) : (chunkOf bs i).length = min 8 (bs.length - 8 * i) := by simp [chunkOf]
theorem chunkOf_at (bs : List Nat) (i j : Nat) (h : j < 8) : at' (chunkOf bs i) j = at' bs (8 * i + j) := by
  unfold chunkOf; rw [at_take _ _ _ h, at_drop]
theorem chunkOf_256 (bs : List Nat) (hb : Bytes256 bs) (i : Nat) : Bytes256 (chunkOf bs i) := fun j => by
  by_cases h : j < 8
  · rw [chunkOf_at _ _ _ h]; exact hb _
  · rw [at_none _ _ (by rw [chunkOf_length]; omega)]; decide
theorem chunkOf_word (bs : List Nat) (i : Nat) : joinTo (chunkOf bs i) (chunkOf bs i).length = wordAt bs i := by
  rw [chunkOf_length]
  unfold chunkOf wordAt
  exact joinTo_take _ _ _ (by omega)
/-- What Bytes says: an error. -/
def bytesErr (l : List Nat) (many : Int) : Int :=
  if many < 0 then 2 else if 4096 < many ∨ 4096 < l.length then 3 else if 8 * (l.length : Int) < many then 4 else if need many.toNat < l.length then 110
  else if ((bytesOf l).drop many.toNat).any (· != 0) then 110 else 0
end WM
end Go.Proofs.Ytoaloeipgadkjaa
