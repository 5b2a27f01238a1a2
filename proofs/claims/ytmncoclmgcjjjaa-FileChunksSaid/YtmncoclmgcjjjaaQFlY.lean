/-
  file: which bytes have which chunks, in plain terms.
-/
import Derived.Test.YtmncoclmgcjjjaaMf11
import Derived.Test.YtmncoclmgcjjjaaQFlX
namespace Go.Proofs.Ytmncoclmgcjjjaa

/-- Eight words, all right. -/
def Line8N (l : List Int) : Prop := l.length = 8 ∧ ∀ x ∈ l, 0 ≤ x ∧ x < 18446744073709551616
def natL (l : List Int) : List Nat := l.map Int.toNat
theorem natL_length (l : List Int) : (natL l).length = l.length := by simp [natL]
theorem natL_at (l : List Int) (hl : ∀ x ∈ l, 0 ≤ x) (j : Nat) : (((natL l)[j]?.getD 0 : Nat) : Int) = l[j]?.getD 0 := by
  unfold natL
  by_cases h : j < l.length
  · have := hl _ (List.getElem_mem h)
    simp [List.getElem?_eq_getElem h]
    omega
  · simp [List.getElem?_eq_none (show l.length ≤ j by omega)]
/-- The words of chunks. -/
def flatN (L : List (List Int)) : List Nat := L.flatMap natL
theorem flatN_length : ∀ (L : List (List Int)), (∀ l ∈ L, l.length = 8) → (flatN L).length = 8 * L.length
  | [], _ => rfl
  | l :: L, h => by
    have ih := flatN_length L fun x hx => h x (List.mem_cons_of_mem _ hx)
    unfold flatN at ih ⊢
    rw [List.flatMap_cons, List.length_append, ih, natL_length, h l (List.mem_cons_self), List.length_cons]
    omega
theorem flatN_append (L M : List (List Int)) : flatN (L ++ M) = flatN L ++ flatN M := by simp [flatN, List.flatMap_append]
theorem flatN_at : ∀ (L : List (List Int)), (∀ l ∈ L, l.length = 8) → ∀ k j, k < L.length → j < 8 → (flatN L)[8 * k + j]?.getD 0 = (natL (L[k]?.getD []))[j]?.getD 0
  | [], _, k, _, hk, _ => absurd hk (by simp)
  | l :: L, h, 0, j, _, hj => by
    have h8 := h l (List.mem_cons_self)
    unfold flatN
    rw [List.flatMap_cons, List.getElem?_append_left (by rw [natL_length]; omega)]
    simp
  | l :: L, h, k + 1, j, hk, hj => by
    have ih := flatN_at L (fun x hx => h x (List.mem_cons_of_mem _ hx)) k j (by simpa using hk) hj
    have h8 := h l (List.mem_cons_self)
    unfold flatN at ih ⊢
    rw [List.flatMap_cons, List.getElem?_append_right (by rw [natL_length]; omega), natL_length, h8, show 8 * (k + 1) + j - 8 = 8 * k + j by omega, ih]
    simp
theorem flatN_64 (L : List (List Int)) (h : ∀ l ∈ L, Line8N l) : ∀ i : Nat, (flatN L)[i]?.getD 0 < 18446744073709551616 := fun i => by
  by_cases hi : i < (flatN L).length
  · rw [List.getElem?_eq_getElem hi, Option.getD_some]
    obtain ⟨l, hl, hx⟩ := List.mem_flatMap.1 (List.getElem_mem hi)
    obtain ⟨y, hy, he⟩ := List.mem_map.1 hx
    have := (h l hl).2 y hy
    omega
  · rw [List.getElem?_eq_none (by omega)]; decide
theorem words_at (xs : List Nat) (hx : WM.Bytes256 xs) (i : Nat) : WM.at' (WM.wordsOf xs) i = WM.wordAt xs i := by
  rw [WM.wordsOf_at]
  by_cases h : i < WM.need xs.length
  · rw [if_pos h]
  · rw [if_neg h]
    apply Nat.eq_of_testBit_eq
    intro t
    rw [WM.wordAt_bit _ hx, Nat.zero_testBit]
    by_cases ht : t < 64
    · rw [WM.at_none xs _ (by unfold WM.need at h; omega)]; simp
    · simp [ht]
theorem chF_word (xs : List Nat) (hx : WM.Bytes256 xs) (k j : Nat) (hk : k < chN xs.length) (hj : j < 8) : ((chF xs)[k]?.getD [])[j]?.getD 0 = ((WM.wordAt xs (8 * k + j) : Nat) : Int) := by
  unfold chF
  rw [List.getElem?_map, List.getElem?_range hk, Option.map_some, Option.getD_some, padL_at _ _ hj, ← words_at xs hx]
  unfold fewN WM.at'
  rw [List.getElem?_take_of_lt hj, List.getElem?_drop]
theorem wordAt_of (ws : List Nat) (h64 : ∀ i : Nat, ws[i]?.getD 0 < 18446744073709551616) (hb : WM.Bytes256 (WM.bytesOf ws)) (i : Nat) : WM.wordAt (WM.bytesOf ws) i = ws[i]?.getD 0 := by
  apply Nat.eq_of_testBit_eq
  intro t
  rw [WM.wordAt_bit _ hb]
  by_cases ht : t < 64
  · rw [decide_eq_true ht, Bool.true_and]
    by_cases hi : 8 * i + t / 8 < 8 * ws.length
    · rw [WM.bytesOf_at _ _ hi]
      unfold WM.byteAt
      rw [WM.getN_bit, decide_eq_true (by omega), Bool.true_and, show (8 * i + t / 8) / 8 = i by omega, show 8 * ((8 * i + t / 8) % 8) + t % 8 = t by omega]
    · rw [WM.at_none _ _ (by rw [WM.bytesOf_length]; omega), Nat.zero_testBit, List.getElem?_eq_none (by omega), Option.getD_none, Nat.zero_testBit]
  · rw [decide_eq_false ht, Bool.false_and]
    exact (Nat.testBit_lt_two_pow (Nat.lt_of_lt_of_le (h64 i) (show (18446744073709551616 : Nat) ≤ 2 ^ t from Nat.le_trans (by decide : (18446744073709551616 : Nat) ≤ 2 ^ 64) (Nat.pow_le_pow_right (by decide) (by omega))))).symm
theorem bytesOf_256 (ws : List Nat) : WM.Bytes256 (WM.bytesOf ws) := fun i => by
  by_cases h : i < 8 * ws.length
  · rw [WM.bytesOf_at _ _ h]; exact WM.byteAt_lt _ _
  · rw [WM.at_none _ _ (by rw [WM.bytesOf_length]; omega)]; decide
theorem at_of_words {xs ys : List Nat} (hx : WM.Bytes256 xs) (hy : WM.Bytes256 ys) (j : Nat) (h : WM.wordAt xs (j / 8) = WM.wordAt ys (j / 8)) : WM.at' xs j = WM.at' ys j := by
  have key : ∀ (zs : List Nat), WM.Bytes256 zs → ∀ t, t < 8 → (WM.at' zs j).testBit t = (WM.wordAt zs (j / 8)).testBit (8 * (j % 8) + t) := fun zs hz t ht => by
    rw [WM.wordAt_bit _ hz, decide_eq_true (by omega), Bool.true_and, show 8 * (j / 8) + (8 * (j % 8) + t) / 8 = j by omega, show (8 * (j % 8) + t) % 8 = t by omega]
  have lt : ∀ (zs : List Nat), WM.Bytes256 zs → ∀ t, 8 ≤ t → (WM.at' zs j).testBit t = false := fun zs hz t ht => Nat.testBit_lt_two_pow (Nat.lt_of_lt_of_le (hz j) (show 256 ≤ 2 ^ t from Nat.le_trans (by decide : 256 ≤ 2 ^ 8) (Nat.pow_le_pow_right (by decide) ht)))
  apply Nat.eq_of_testBit_eq
  intro t
  by_cases ht : t < 8
  · rw [key xs hx t ht, key ys hy t ht, h]
  · rw [lt xs hx t (by omega), lt ys hy t (by omega)]
theorem words_of_at {xs ys : List Nat} (hx : WM.Bytes256 xs) (hy : WM.Bytes256 ys) (h : ∀ i, WM.at' xs i = WM.at' ys i) (i : Nat) : WM.wordAt xs i = WM.wordAt ys i := by
  apply Nat.eq_of_testBit_eq
  intro t
  rw [WM.wordAt_bit _ hx, WM.wordAt_bit _ hy, h]
/-- Which chunks a size's bytes have: those, just where what lies behind the size is nought. -/
theorem join_iff (L : List (List Int)) (hL : ∀ l ∈ L, Line8N l) (s : Nat) (hs : L.length = chN s) :
    chF (cutF (WM.bytesOf (flatN L)) s) = L ↔ ∀ i, s ≤ i → i < 64 * L.length → WM.byteAt (flatN L) i = 0 := by
  have h8 : ∀ l ∈ L, l.length = 8 := fun l hl => (hL l hl).1
  have hfl := flatN_length L h8
  have hB := bytesOf_256 (flatN L)
  have hBl : (WM.bytesOf (flatN L)).length = 64 * L.length := by rw [WM.bytesOf_length, hfl]; omega
  have hX := cutF_256 hB s
  have hXl := cutF_length (WM.bytesOf (flatN L)) s
  have hsl : s ≤ 64 * L.length := by rw [hs]; unfold chN; omega
  obtain ⟨B, hBe⟩ : ∃ B, WM.bytesOf (flatN L) = B := ⟨_, rfl⟩
  have hW : ∀ i, WM.wordAt B i = (flatN L)[i]?.getD 0 := fun i => by rw [← hBe]; exact wordAt_of _ (flatN_64 L hL) hB i
  have hBy : ∀ i, i < 64 * L.length → WM.at' B i = WM.byteAt (flatN L) i := fun i hi => by rw [← hBe]; exact WM.bytesOf_at _ _ (by rw [hfl]; omega)
  rw [hBe] at hB hBl hX hXl ⊢
  have hat : ∀ i, WM.at' (cutF B s) i = if i < s then WM.at' B i else 0 := fun i => cutF_at B s i
  constructor
  · intro h i h1 h2
    have hw : WM.wordAt (cutF B s) (i / 8) = WM.wordAt B (i / 8) := by
      have e1 := chF_word (cutF B s) hX (i / 64) (i / 8 % 8) (by rw [hXl, ← hs]; omega) (by omega)
      rw [h, show 8 * (i / 64) + i / 8 % 8 = i / 8 by omega] at e1
      have e2 := flatN_at L h8 (i / 64) (i / 8 % 8) (by omega) (by omega)
      rw [show 8 * (i / 64) + i / 8 % 8 = i / 8 by omega, ← hW] at e2
      have hk : i / 64 < L.length := by omega
      have hm : L[i / 64]?.getD [] ∈ L := by rw [List.getElem?_eq_getElem hk]; exact List.getElem_mem hk
      have e3 := natL_at (L[i / 64]?.getD []) (fun x hx => ((hL _ hm).2 x hx).1) (i / 8 % 8)
      rw [← e2, e1] at e3
      omega
    have e := at_of_words hX hB i hw
    rw [hat, if_neg (by omega), hBy i h2] at e
    exact e.symm
  · intro h
    have hall : ∀ i, WM.at' (cutF B s) i = WM.at' B i := fun i => by
      rw [hat]
      by_cases h1 : i < s
      · rw [if_pos h1]
      · rw [if_neg h1]
        by_cases h2 : i < 64 * L.length
        · rw [hBy i h2, h i (by omega) h2]
        · rw [WM.at_none B i (by omega)]
    have hlen : (chF (cutF B s)).length = L.length := by rw [chF_length, hXl, hs]
    apply List.ext_getElem hlen
    intro k hk hk'
    have c8 : (chF (cutF B s))[k].length = 8 := chF_8 _ _ (List.getElem_mem hk)
    have l8 : L[k].length = 8 := h8 _ (List.getElem_mem hk')
    apply List.ext_getElem (by rw [c8, l8])
    intro j hj hj'
    have e1 := chF_word (cutF B s) hX k j (by rw [hXl, ← hs]; exact hk') (by omega)
    rw [words_of_at hX hB hall, hW, flatN_at L h8 k j hk' (by omega)] at e1
    rw [List.getElem?_eq_getElem hk, Option.getD_some, List.getElem?_eq_getElem hj, Option.getD_some] at e1
    rw [e1]
    have e3 := natL_at (L[k]?.getD []) (fun x hx => by
      rw [List.getElem?_eq_getElem hk', Option.getD_some] at hx
      exact ((hL _ (List.getElem_mem hk')).2 x hx).1) j
    rw [List.getElem?_eq_getElem hk', Option.getD_some] at e3 ⊢
    rw [e3, List.getElem?_eq_getElem hj', Option.getD_some]
theorem byte_chunk (L : List (List Int)) (h8 : ∀ l ∈ L, l.length = 8) (i : Nat) (hi : i < 64 * L.length) : WM.byteAt (natL (L[i / 64]?.getD [])) (i % 64) = WM.byteAt (flatN L) i := by
  unfold WM.byteAt WM.at'
  have e := flatN_at L h8 (i / 64) (i / 8 % 8) (by omega) (by omega)
  rw [show 8 * (i / 64) + i / 8 % 8 = i / 8 by omega] at e
  rw [e, show i % 64 / 8 = i / 8 % 8 by omega, show i % 64 % 8 = i % 8 by omega]
end Go.Proofs.Ytmncoclmgcjjjaa
