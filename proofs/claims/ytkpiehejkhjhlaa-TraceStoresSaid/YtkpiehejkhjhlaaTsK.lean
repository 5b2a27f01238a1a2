/-
  trace: lists one behind the other.
-/
import Derived.Test.YtkpiehejkhjhlaaTsJ
namespace Go.Proofs.Ytkpiehejkhjhlaa
open Go.RowKit Go.Shelf Go.Maps

def sureF (L s : Int) (ts : List Tch) : Int := ts.foldl (sureStep L) s
theorem sureAt_fold (L : Int) (ts : List Tch) : ∀ k, sureAt L ts k = sureF L 0 (ts.take k)
  | 0 => rfl
  | k + 1 => by
    have ih := sureAt_fold L ts k
    by_cases h : k < ts.length
    · rw [sureAt_succ (List.getElem?_eq_getElem h), ih, List.take_succ_eq_append_getElem h]
      unfold sureF
      rw [List.foldl_append]
      rfl
    · have e : sureAt L ts (k + 1) = sureAt L ts k := by
        show (match ts[k]? with | some t => sureStep L (sureAt L ts k) t | none => sureAt L ts k) = _
        rw [List.getElem?_eq_none (by omega)]
      rw [e, ih, List.take_of_length_le (by omega), List.take_of_length_le (by omega)]
theorem sureV_fold (L : Int) (ts : List Tch) : sureV ts L = (sureF L 0 ts == 0 || sureF L 0 ts == 3) := by
  unfold sureV
  rw [sureAt_fold, List.take_length]
def stF (f : Int → Option Int) (ts : List Tch) : Int → Option Int := ts.foldl stStep f
theorem stAt_fold (ts : List Tch) : ∀ k, stAt ts k = stF (fun _ => none) (ts.take k)
  | 0 => rfl
  | k + 1 => by
    have ih := stAt_fold ts k
    by_cases h : k < ts.length
    · rw [stAt_succ (List.getElem?_eq_getElem h), ih, List.take_succ_eq_append_getElem h]
      unfold stF
      rw [List.foldl_append]
      rfl
    · have e : stAt ts (k + 1) = stAt ts k := by
        show (match ts[k]? with | some t => stStep (stAt ts k) t | none => stAt ts k) = _
        rw [List.getElem?_eq_none (by omega)]
      rw [e, ih, List.take_of_length_le (by omega), List.take_of_length_le (by omega)]
theorem stAt_all (ts : List Tch) : stAt ts ts.length = stF (fun _ => none) ts := by rw [stAt_fold, List.take_length]
/-- What is stored last counts. -/
theorem stF_or : ∀ (ts : List Tch) (f : Int → Option Int) (x : Int), stF f ts x = (stF (fun _ => none) ts x).or (f x)
  | [], f, x => by show f x = _; simp [stF]
  | t :: ts, f, x => by
    have e1 : stF f (t :: ts) = stF (stStep f t) ts := rfl
    have e2 : stF (fun _ => none) (t :: ts) = stF (stStep (fun _ => none) t) ts := rfl
    rw [e1, e2, stF_or ts (stStep f t) x, stF_or ts (stStep (fun _ => none) t) x]
    cases stF (fun _ => none) ts x with
    | some y => rfl
    | none =>
      simp only [Option.none_or]
      unfold stStep upd
      by_cases hs : storesL t = true
      · rw [if_pos hs, if_pos hs]
        by_cases hx : x = t.at_
        · simp [hx]
        · simp [hx]
      · rw [if_neg hs, if_neg hs]
        rfl
theorem stF_append (a b : List Tch) : stF (fun _ => none) (a ++ b) = stF (stF (fun _ => none) a) b := by unfold stF; rw [List.foldl_append]
theorem stF_none : ∀ (ts : List Tch) (f : Int → Option Int), (∀ t ∈ ts, storesL t = false) → stF f ts = f
  | [], _, _ => rfl
  | t :: ts, f, h => by
    have e : stF f (t :: ts) = stF (stStep f t) ts := rfl
    have e2 : stStep f t = f := by unfold stStep; rw [h t (by simp)]; rfl
    rw [e, e2]
    exact stF_none ts f fun u hu => h u (by simp [hu])
theorem closeV_quiet (ts : List Tch) : ∀ t ∈ closeV ts, storesL t = false := fun t ht => by
  unfold closeV at ht
  rcases List.mem_append.1 ht with h | h
  · obtain ⟨k, _, rfl⟩ := List.mem_map.1 h
    rfl
  · rw [List.mem_singleton.1 h]; rfl
theorem lineR_store {t : Tch} (h : t.kind = 2) : lineR t = lineT t := by unfold lineR lineT; rw [if_neg (by omega), if_neg (by omega), if_neg (by omega)]
theorem sureStep_zero {L s : Int} {t : Tch} (h : sureStep L s t = 0) : s = 0 ∧ ¬ (t.kind = 2 ∧ lineR t = L) := by
  unfold sureStep at h
  by_cases h1 : t.kind = 2 ∧ lineR t = L
  · rw [if_pos h1] at h; omega
  · rw [if_neg h1] at h
    by_cases h2 : t.kind = 3 ∧ t.at_ = L ∧ s = 1
    · rw [if_pos h2] at h; omega
    · rw [if_neg h2] at h
      by_cases h3 : t.kind = 4 ∧ s = 2
      · rw [if_pos h3] at h; omega
      · rw [if_neg h3] at h
        exact ⟨h, h1⟩
theorem sureF_zero {L : Int} : ∀ (ts : List Tch) (s : Int), sureF L s ts = 0 → s = 0 ∧ anyL storesL ts L = false
  | [], s, h => ⟨h, rfl⟩
  | t :: ts, s, h => by
    obtain ⟨h1, h2⟩ := sureF_zero ts (sureStep L s t) h
    obtain ⟨h3, h4⟩ := sureStep_zero h1
    refine ⟨h3, ?_⟩
    unfold anyL at h2 ⊢
    rw [List.any_cons, h2, Bool.or_false]
    unfold storesL
    by_cases hk : t.kind = 2
    · rw [lineR_store hk] at h4
      simp [hk]
      exact fun e => h4 ⟨hk, e⟩
    · simp [hk]
theorem sureF_quiet {L : Int} : ∀ (ts : List Tch), anyL storesL ts L = false → sureF L 0 ts = 0
  | [], _ => rfl
  | t :: ts, h => by
    unfold anyL at h
    rw [List.any_cons, Bool.or_eq_false_iff] at h
    have e : sureStep L 0 t = 0 := by
      unfold sureStep
      rw [if_neg, if_neg (by omega), if_neg (by omega)]
      rintro ⟨h1, h2⟩
      rw [lineR_store h1] at h2
      have := h.1
      unfold storesL at this
      simp [h1, h2] at this
    show sureF L (sureStep L 0 t) ts = 0
    rw [e]
    exact sureF_quiet ts h.2
theorem sureF_range {L : Int} : ∀ (ts : List Tch) (s : Int), (s = 0 ∨ s = 1 ∨ s = 2 ∨ s = 3) → sureF L s ts = 0 ∨ sureF L s ts = 1 ∨ sureF L s ts = 2 ∨ sureF L s ts = 3
  | [], _, h => h
  | t :: ts, s, h => by
    refine sureF_range ts (sureStep L s t) ?_
    unfold sureStep
    split
    · omega
    · split
      · omega
      · split
        · omega
        · exact h
/-- From sure, or from the beginning: it makes no difference. -/
theorem sureF_alike {L : Int} : ∀ (ts : List Tch) (s s' : Int), ((s = 3 ∧ s' = 0) ∨ s = s') → (sureF L s ts = 3 ∧ sureF L s' ts = 0) ∨ sureF L s ts = sureF L s' ts
  | [], _, _, h => h
  | t :: ts, s, s', h => by
    refine sureF_alike ts (sureStep L s t) (sureStep L s' t) ?_
    rcases h with ⟨rfl, rfl⟩ | rfl
    · unfold sureStep
      by_cases h1 : t.kind = 2 ∧ lineR t = L
      · rw [if_pos h1, if_pos h1]; exact .inr rfl
      · rw [if_neg h1, if_neg h1, if_neg (by omega), if_neg (by omega), if_neg (by omega), if_neg (by omega)]
        exact .inl ⟨rfl, rfl⟩
    · exact .inr rfl
theorem sureF_append (L s : Int) (a b : List Tch) : sureF L s (a ++ b) = sureF L (sureF L s a) b := by unfold sureF; rw [List.foldl_append]
theorem mem_stored {ts : List Tch} {k : Nat} : k ∈ linesV storesL ts ↔ k < 1024 ∧ anyL storesL ts (k : Int) = true := by
  unfold linesV
  rw [List.mem_filter, List.mem_range]
/-- Behind an orderly list each line is sure, or nothing is stored there. -/
theorem order_state {ts : List Tch} (h : orderR ts = true) {k : Nat} (hk : k < 1024) : sureF (k : Int) 0 ts = 0 ∨ sureF (k : Int) 0 ts = 3 := by
  cases ha : anyL storesL ts (k : Int) with
  | false => exact .inl (sureF_quiet ts ha)
  | true =>
    have := List.all_eq_true.1 h k (mem_stored.2 ⟨hk, ha⟩)
    rw [sureV_fold, Bool.or_eq_true, beq_iff_eq, beq_iff_eq] at this
    exact this
theorem order_append {a b : List Tch} (ha : orderR a = true) (hb : orderR b = true) : orderR (a ++ b) = true := by
  refine List.all_eq_true.2 fun k hk => ?_
  obtain ⟨hk1, _⟩ := mem_stored.1 hk
  have h1 := order_state ha hk1
  have h2 := order_state hb hk1
  rw [sureV_fold, sureF_append, Bool.or_eq_true, beq_iff_eq, beq_iff_eq]
  rcases h1 with h1 | h1
  · rw [h1]; exact h2
  · rw [h1]
    rcases sureF_alike b 3 0 (.inl ⟨rfl, rfl⟩) with h | h
    · exact .inr h.1
    · rw [h]; exact h2
theorem sureF_flushes {L : Int} : ∀ (F : List Tch) (s : Int), (∀ t ∈ F, t.kind = 3) → (s = 2 ∨ s = 3) → sureF L s F = s
  | [], _, _, _ => rfl
  | t :: F, s, h, hs => by
    have hk := h t (by simp)
    have e : sureStep L s t = s := by unfold sureStep; rw [if_neg (by omega), if_neg (by omega), if_neg (by omega)]
    show sureF L (sureStep L s t) F = s
    rw [e]
    exact sureF_flushes F s (fun u hu => h u (by simp [hu])) hs
theorem sureF_flush {L : Int} : ∀ (F : List Tch), (∀ t ∈ F, t.kind = 3) → (∃ t ∈ F, t.at_ = L) → sureF L 1 F = 2
  | [], _, h => by obtain ⟨t, ht, _⟩ := h; cases ht
  | t :: F, h, hx => by
    have hk := h t (by simp)
    by_cases hL : t.at_ = L
    · have e : sureStep L 1 t = 2 := by unfold sureStep; rw [if_neg (by omega), if_pos ⟨hk, hL, rfl⟩]
      show sureF L (sureStep L 1 t) F = 2
      rw [e]
      exact sureF_flushes F 2 (fun u hu => h u (by simp [hu])) (.inl rfl)
    · have e : sureStep L 1 t = 1 := by unfold sureStep; rw [if_neg (by omega), if_neg (fun h => hL h.2.1), if_neg (by omega)]
      show sureF L (sureStep L 1 t) F = 2
      rw [e]
      refine sureF_flush F (fun u hu => h u (by simp [hu])) ?_
      obtain ⟨u, hu, hul⟩ := hx
      rcases List.mem_cons.1 hu with rfl | hu
      · exact absurd hul hL
      · exact ⟨u, hu, hul⟩
theorem stored_close (ts : List Tch) (x : Int) : anyL storesL (ts ++ closeV ts) x = anyL storesL ts x := by
  unfold anyL
  rw [List.any_append]
  have : ((closeV ts).any fun t => storesL t && (lineT t == x)) = false := List.any_eq_false.2 fun t ht => by rw [closeV_quiet ts t ht]; simp
  rw [this, Bool.or_false]
theorem order_close (ts : List Tch) : orderR (ts ++ closeV ts) = true := by
  refine List.all_eq_true.2 fun k hk => ?_
  obtain ⟨hk1, hk2⟩ := mem_stored.1 hk
  rw [stored_close] at hk2
  have hmem := mem_stored.2 ⟨hk1, hk2⟩
  rw [sureV_fold, sureF_append, Bool.or_eq_true, beq_iff_eq, beq_iff_eq]
  refine .inr ?_
  have hr := sureF_range (L := (k : Int)) ts 0 (.inl rfl)
  have hn : sureF (k : Int) 0 ts ≠ 0 := fun h => by
    have := (sureF_zero ts 0 h).2
    rw [hk2] at this
    cases this
  have hF : ∀ t ∈ (linesV storesL ts).map (fun k : Nat => (⟨3, k, 0⟩ : Tch)), t.kind = 3 := fun t ht => by
    obtain ⟨j, _, rfl⟩ := List.mem_map.1 ht
    rfl
  unfold closeV
  rw [sureF_append]
  have h23 : sureF (k : Int) (sureF (k : Int) 0 ts) ((linesV storesL ts).map (fun k : Nat => (⟨3, k, 0⟩ : Tch))) = 2 ∨ sureF (k : Int) (sureF (k : Int) 0 ts) ((linesV storesL ts).map (fun k : Nat => (⟨3, k, 0⟩ : Tch))) = 3 := by
    rcases hr with h | h | h | h
    · exact absurd h hn
    · rw [h]; exact .inl (sureF_flush _ hF ⟨⟨3, k, 0⟩, List.mem_map.2 ⟨k, hmem, rfl⟩, rfl⟩)
    · rw [h, sureF_flushes _ 2 hF (.inl rfl)]; exact .inl rfl
    · rw [h, sureF_flushes _ 3 hF (.inr rfl)]; exact .inr rfl
  rcases h23 with h | h
  · rw [h]; rfl
  · rw [h]; rfl
/-- What Closed makes. -/
theorem shut_order {ts : List Tch} (hc : checkT ts = 0) : orderR (shutV ts) = true := by
  unfold shutV
  rw [order_same hc]
  by_cases h : orderR ts = true
  · rw [if_pos h]; exact h
  · rw [if_neg h]; exact order_close ts
theorem shut_right {ts : List Tch} (hc : checkT ts = 0) : (shutV ts).all rightT = true := by
  unfold shutV
  split
  · exact (check_right hc).1
  · rw [List.all_append, (check_right hc).1, closeV_right]; rfl
theorem shut_length (ts : List Tch) : ts.length ≤ (shutV ts).length ∧ (shutV ts).length ≤ ts.length + 1025 ∧ (shutV ts).take ts.length = ts := by
  unfold shutV
  have := closeV_short ts
  split
  · exact ⟨Nat.le_refl _, by omega, List.take_length⟩
  · refine ⟨by rw [List.length_append]; omega, by rw [List.length_append]; omega, ?_⟩
    rw [List.take_left]
theorem check_of {ts : List Tch} (hr : ts.all rightT = true) (hl : ts.length ≤ 4096) : checkT ts = 0 := by
  unfold checkT
  rw [if_pos hr, if_neg (by omega)]
theorem stored_shut {ts : List Tch} : stAt (shutV ts) (shutV ts).length = stAt ts ts.length := by
  rw [stAt_all, stAt_all]
  unfold shutV
  split
  · rfl
  · rw [stF_append, stF_none _ _ (closeV_quiet ts)]
theorem puts_of {a b : List Tch} (ha : checkT a = 0) (hb : checkT b = 0) (h : stAt a a.length = stAt b b.length) : putsV a = putsV b := by
  have e : wordsV a = wordsV b := by unfold wordsV; rw [if_pos ha, if_pos hb, h]
  unfold putsV addrsV
  rw [e]
theorem stores_fewer (ts : List Tch) : (linesV storesL ts).length ≤ ts.length := lines_few storesL ts
theorem shut_short (ts : List Tch) : (shutV ts).length ≤ ts.length + ts.length + 1 := by
  unfold shutV
  split
  · omega
  · rw [List.length_append]
    unfold closeV
    rw [List.length_append, List.length_map]
    have := stores_fewer ts
    simp
    omega
theorem okT_right {t : Tch} (h : rightT t = true) (hw : 0 ≤ t.word ∧ t.word ≤ 18446744073709551615) : okT t := by
  refine ⟨?_, hw⟩
  unfold in64
  unfold rightT at h
  split at h
  · have := of_decide_eq_true h; omega
  · split at h
    · have := of_decide_eq_true h; omega
    · have := of_decide_eq_true h; omega
theorem okT_shut {ts : List Tch} (hok : ∀ t ∈ ts, okT t) : ∀ t ∈ shutV ts, okT t := fun t ht => by
  unfold shutV at ht
  split at ht
  · exact hok t ht
  · rcases List.mem_append.1 ht with h | h
    · exact hok t h
    · unfold closeV at h
      rcases List.mem_append.1 h with h | h
      · obtain ⟨k, hk, rfl⟩ := List.mem_map.1 h
        have := (mem_stored.1 hk).1
        exact ⟨⟨by show -9223372036854775808 ≤ ((k : Nat) : Int); omega, by show ((k : Nat) : Int) ≤ _; omega⟩, by show (0 : Int) ≤ 0; omega, by show (0 : Int) ≤ _; omega⟩
      · rw [List.mem_singleton.1 h]
        exact ⟨⟨by show (-9223372036854775808 : Int) ≤ 0; omega, by show (0 : Int) ≤ _; omega⟩, by show (0 : Int) ≤ 0; omega, by show (0 : Int) ≤ _; omega⟩
end Go.Proofs.Ytkpiehejkhjhlaa
