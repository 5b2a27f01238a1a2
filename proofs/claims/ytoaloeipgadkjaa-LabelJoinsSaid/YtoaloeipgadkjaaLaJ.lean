/-
  label: texts in order, each once; plain Lean.
-/
import Derived.Lib.SlicesCompact
import Derived.Sort.KeysCollected
import Derived.Test.YtoaloeipgadkjaaChecked
namespace Go.Proofs.Ytoaloeipgadkjaa

/-- Texts that rise, none twice. -/
def Rising (l : List (List UInt8)) : Prop := l.Pairwise (fun x y => x < y)
theorem rising_ext : ∀ {a b : List (List UInt8)}, Rising a → Rising b → (∀ x, x ∈ a ↔ x ∈ b) → a = b
  | [], [], _, _, _ => rfl
  | [], y :: b, _, _, h => by simpa using (h y).2 (by simp)
  | x :: a, [], _, _, h => by simpa using (h x).1 (by simp)
  | x :: a, y :: b, ha, hb, h => by
    obtain ⟨hx, ha'⟩ := List.pairwise_cons.1 ha
    obtain ⟨hy, hb'⟩ := List.pairwise_cons.1 hb
    have hxy : x = y := by
      rcases List.mem_cons.1 ((h x).1 (by simp)) with e | e
      · exact e
      · rcases List.mem_cons.1 ((h y).2 (by simp)) with e2 | e2
        · exact e2.symm
        · exact absurd (hx y e2) (List.lt_asymm (hy x e))
    subst hxy
    rw [rising_ext ha' hb' fun z => ?_]
    constructor
    · intro hz
      rcases List.mem_cons.1 ((h z).1 (List.mem_cons_of_mem _ hz)) with e | e
      · exact absurd (hx z hz) (by rw [e]; exact List.lt_irrefl _)
      · exact e
    · intro hz
      rcases List.mem_cons.1 ((h z).2 (List.mem_cons_of_mem _ hz)) with e | e
      · exact absurd (hy z hz) (by rw [e]; exact List.lt_irrefl _)
      · exact e
/-- Texts sorted, each once. -/
def sortU (l : List (List UInt8)) : List (List UInt8) := Lib.compact (l.mergeSort fun x y => decide (x ≤ y))
theorem mem_compact (zs : List (List UInt8)) (x : List UInt8) : x ∈ Lib.compact zs ↔ x ∈ zs := by
  unfold Lib.compact Lib.compactUpTo
  constructor
  · intro h
    obtain ⟨j, hj, rfl⟩ := List.mem_map.1 h
    have hl := List.mem_range.1 (List.mem_filter.1 hj).1
    simp [hl]
  · intro h
    obtain ⟨j, hj, rfl⟩ := List.mem_iff_getElem.1 h
    have key : ∀ (n j : Nat) (hj : j < zs.length), j ≤ n → ∃ i, i < zs.length ∧ Lib.keeps zs.toArray i = true ∧ zs.toArray[i]! = zs[j] := by
      intro n
      induction n with
      | zero =>
        intro j hj h0
        obtain rfl : j = 0 := by omega
        exact ⟨0, hj, Lib.keeps_lt_one _ 0 (by omega), by simp [hj]⟩
      | succ n ih =>
        intro j hj hn
        by_cases hk : Lib.keeps zs.toArray j = true
        · exact ⟨j, hj, hk, by simp [hj]⟩
        · unfold Lib.keeps at hk
          simp only [decide_eq_true_eq, not_or, Decidable.not_not] at hk
          obtain ⟨i, h1, h2, h3⟩ := ih (j - 1) (by omega) (by omega)
          refine ⟨i, h1, h2, h3.trans ?_⟩
          have e := hk.2
          simp [hj, show j - 1 < zs.length by omega] at e
          exact e.symm
    obtain ⟨i, h1, h2, h3⟩ := key j j hj (Nat.le_refl _)
    exact List.mem_map.2 ⟨i, List.mem_filter.2 ⟨List.mem_range.2 h1, h2⟩, h3⟩
theorem compact_rising (zs : List (List UInt8)) (h : zs.Pairwise (fun x y => x ≤ y)) : Rising (Lib.compact zs) := by
  unfold Rising Lib.compact Lib.compactUpTo
  rw [List.pairwise_map, List.pairwise_filter]
  refine List.Pairwise.imp_of_mem ?_ List.pairwise_lt_range
  intro i j hi hj hij _ hk
  have hi' := List.mem_range.1 hi
  have hj' := List.mem_range.1 hj
  unfold Lib.keeps at hk
  simp only [decide_eq_true_eq] at hk
  have hne : zs.toArray[j]! ≠ zs.toArray[j - 1]! := hk.resolve_left (by omega)
  have hp := List.pairwise_iff_getElem.1 h
  have hget : ∀ (m : Nat) (h : m < zs.length), zs.toArray[m]! = zs[m] := fun m h => by simp [h]
  rw [hget j hj', hget (j - 1) (by omega)] at hne
  rw [hget i hi', hget j hj']
  have h1 : zs[j - 1] < zs[j] := by
    refine List.not_le.1 fun hle => hne ?_
    exact List.le_antisymm hle (hp (j - 1) j (by omega) hj' (by omega))
  by_cases e : i = j - 1
  · subst e; exact h1
  · exact List.lt_of_le_of_lt (hp i (j - 1) hi' (by omega) (by omega)) h1
theorem sorted_le (l : List (List UInt8)) : (l.mergeSort fun x y => decide (x ≤ y)).Pairwise (fun x y => x ≤ y) := by
  have := List.pairwise_mergeSort (le := fun x y : List UInt8 => decide (x ≤ y)) (fun a b c h1 h2 => by simp only [decide_eq_true_eq] at *; exact List.le_trans h1 h2)
    (fun a b => by simp only [Bool.or_eq_true, decide_eq_true_eq]; exact List.le_total a b) l
  exact this.imp fun h => by simpa using h
theorem sortU_rising (l : List (List UInt8)) : Rising (sortU l) := compact_rising _ (sorted_le l)
theorem mem_sortU (l : List (List UInt8)) (x : List UInt8) : x ∈ sortU l ↔ x ∈ l := by
  unfold sortU
  rw [mem_compact]
  exact (List.mergeSort_perm l _).mem_iff
theorem sortU_ext {a b : List (List UInt8)} (h : ∀ x, x ∈ a ↔ x ∈ b) : sortU a = sortU b :=
  rising_ext (sortU_rising a) (sortU_rising b) fun x => by rw [mem_sortU, mem_sortU]; exact h x
theorem sortU_of_rising {l : List (List UInt8)} (h : Rising l) : sortU l = l := rising_ext (sortU_rising l) h fun x => mem_sortU l x
theorem sortU_twice (l : List (List UInt8)) : sortU (sortU l) = sortU l := sortU_of_rising (sortU_rising l)
theorem sortU_length (l : List (List UInt8)) : (sortU l).length ≤ l.length := by
  unfold sortU Lib.compact Lib.compactUpTo
  rw [List.length_map]
  refine Nat.le_trans (List.length_filter_le _ _) ?_
  simp
/-- One more text, put where it belongs. -/
def insAt (o : List (List UInt8)) (k : Nat) (x : List UInt8) : List (List UInt8) := if (o.take k).any (· == x) then o else o.take k ++ [x] ++ o.drop k
theorem insAt_rising {o : List (List UInt8)} {k : Nat} {x : List UInt8} (ho : Rising o) (h1 : ∀ y ∈ o.take k, y ≤ x) (h2 : ∀ y ∈ o.drop k, x < y) : Rising (insAt o k x) ∧ ∀ y, y ∈ insAt o k x ↔ y = x ∨ y ∈ o := by
  unfold insAt
  by_cases hx : (o.take k).any (· == x) = true
  · rw [if_pos hx]
    obtain ⟨y, hy, he⟩ := List.any_eq_true.1 hx
    have : x ∈ o := by rw [← (beq_iff_eq.1 he)]; exact List.mem_of_mem_take hy
    exact ⟨ho, fun y => ⟨.inr, fun h => h.elim (fun e => e ▸ this) id⟩⟩
  · rw [if_neg hx]
    have hne : ∀ y ∈ o.take k, y < x := fun y hy => by
      refine List.not_le.1 fun hle => hx (List.any_eq_true.2 ⟨y, hy, beq_iff_eq.2 (List.le_antisymm (h1 y hy) hle)⟩)
    have ho' : Rising (o.take k ++ o.drop k) := by rw [List.take_append_drop]; exact ho
    obtain ⟨p1, p2, p3⟩ := List.pairwise_append.1 ho'
    refine ⟨?_, fun y => ?_⟩
    · refine List.pairwise_append.2 ⟨List.pairwise_append.2 ⟨p1, List.pairwise_singleton _ _, fun a ha b hb => by rw [List.mem_singleton.1 hb]; exact hne a ha⟩, p2, fun a ha b hb => ?_⟩
      rcases List.mem_append.1 ha with h | h
      · exact p3 a h b hb
      · rw [List.mem_singleton.1 h]; exact h2 b hb
    · rw [List.mem_append, List.mem_append, List.mem_singleton]
      constructor
      · rintro ((h | h) | h)
        · exact .inr (List.mem_of_mem_take h)
        · exact .inl h
        · exact .inr (List.mem_of_mem_drop h)
      · rintro (h | h)
        · exact .inl (.inr h)
        · rw [← List.take_append_drop k o, List.mem_append] at h
          exact h.elim (fun h => .inl (.inl h)) .inr
end Go.Proofs.Ytoaloeipgadkjaa
