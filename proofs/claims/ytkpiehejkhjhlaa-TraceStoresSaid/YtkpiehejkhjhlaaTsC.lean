/-
  trace: both answers are the same.
-/
import Derived.Test.YtkpiehejkhjhlaaTsB
namespace Go.Proofs.Ytkpiehejkhjhlaa
open Go.RowKit Go.Shelf Go.Maps

/-! ### what is stored -/
theorem st_some {ts : List Tch} : ∀ (k : Nat) (x : Int), (stAt ts k x).isSome = true → ∃ t ∈ ts, t.kind = 2 ∧ t.at_ = x
  | 0, _, h => by cases h
  | k + 1, x, h => by
    cases ht : ts[k]? with
    | none =>
      have e : stAt ts (k + 1) = stAt ts k := by
        show (match ts[k]? with | some t => stStep (stAt ts k) t | none => stAt ts k) = _
        rw [ht]
      rw [e] at h
      exact st_some k x h
    | some t =>
      by_cases hh : t.kind = 2 ∧ t.at_ = x
      · exact ⟨t, List.mem_of_getElem? ht, hh.1, hh.2⟩
      · rw [stAt_miss ht hh] at h
        exact st_some k x h
/-- Address by address. -/
def putAt (ts : List Tch) (a : Nat) : Option (Nat × Int) := (stAt ts ts.length (a : Nat)).map fun x => (a, x)
def eight (L : Nat) : List Nat := (List.range 8).map fun j => 8 * L + j
theorem adr_lines (X : List Nat) : ∀ n, n ≤ X.length → (List.range (8 * n)).map (adr X) = (X.take n).flatMap eight
  | 0, _ => rfl
  | n + 1, h => by
    rw [show 8 * (n + 1) = 8 * n + 8 by omega, List.range_add, List.map_append, adr_lines X n (by omega), List.take_succ_eq_append_getElem (by omega), List.flatMap_append]
    congr 1
    rw [List.flatMap_cons, List.flatMap_nil, List.append_nil]
    unfold eight
    rw [List.map_map]
    refine List.map_congr_left fun j hj => ?_
    have hj8 := List.mem_range.1 hj
    show adr X (8 * n + j) = _
    unfold adr
    rw [show (8 * n + j) / 8 = n by omega, show (8 * n + j) % 8 = j by omega, List.getElem?_eq_getElem (by omega)]
    rfl
theorem range_lines : List.range 8192 = (List.range 1024).flatMap eight := by
  have h := adr_lines (List.range 1024) 1024 (by simp)
  rw [List.take_of_length_le (by simp)] at h
  rw [← h]
  refine (List.map_id' _).symm.trans (List.map_congr_left fun k hk => ?_)
  have hk := List.mem_range.1 hk
  unfold adr
  rw [List.getElem?_range (by omega)]
  show k = 8 * (k / 8) + k % 8
  omega
theorem filterMap_part {α β γ : Type} (F : α → List β) (g : β → Option γ) (p : α → Bool) : ∀ l : List α, (∀ x ∈ l, p x = false → (F x).filterMap g = []) → (l.flatMap F).filterMap g = ((l.filter p).flatMap F).filterMap g
  | [], _ => rfl
  | x :: l, h => by
    have ih := filterMap_part F g p l fun y hy => h y (List.mem_cons_of_mem _ hy)
    rw [List.flatMap_cons, List.filterMap_append, ih]
    cases hp : p x with
    | true => rw [List.filter_cons_of_pos hp, List.flatMap_cons, List.filterMap_append]
    | false => rw [List.filter_cons_of_neg (by rw [hp]; simp), h x List.mem_cons_self hp]; rfl
theorem filter_map_some {α : Type} (f : Nat → Option α) (d : α) : ∀ l : List Nat, (l.filter fun k => (f k).isSome).map (fun k => (k, (f k).getD d)) = l.filterMap fun k => (f k).map fun x => (k, x)
  | [] => rfl
  | k :: l => by
    have ih := filter_map_some f d l
    cases h : f k with
    | none => rw [List.filter_cons_of_neg (by rw [h]; simp), List.filterMap_cons_none (by rw [h]; rfl), ih]
    | some x => rw [List.filter_cons_of_pos (by rw [h]; rfl), List.filterMap_cons_some (b := (k, x)) (by rw [h]; rfl), List.map_cons, ih, h]; rfl
theorem puts_same {ts : List Tch} (hc : checkT ts = 0) : putsV ts = refPuts ts (linesV storesL ts) (8 * (linesV storesL ts).length) := by
  have hr := (check_right hc).1
  have hw : wordsV ts = stAt ts ts.length := by unfold wordsV; rw [if_pos hc]
  have e1 : putsV ts = (List.range 8192).filterMap (putAt ts) := by
    unfold putsV addrsV putAt
    rw [hw]
    exact filter_map_some (fun k : Nat => stAt ts ts.length (k : Int)) 0 (List.range 8192)
  have e2 : refPuts ts (linesV storesL ts) (8 * (linesV storesL ts).length) = ((List.range (8 * (linesV storesL ts).length)).map (adr (linesV storesL ts))).filterMap (putAt ts) := by
    rw [List.filterMap_map]
    rfl
  rw [e1, e2, adr_lines _ _ (Nat.le_refl _), List.take_length, range_lines]
  refine filterMap_part eight (putAt ts) (fun k => anyL storesL ts (k : Int)) (List.range 1024) fun L _ hL => ?_
  refine List.filterMap_eq_nil_iff.2 fun a ha => ?_
  unfold eight at ha
  obtain ⟨j, hj, rfl⟩ := List.mem_map.1 ha
  have hj8 := List.mem_range.1 hj
  unfold putAt
  cases hs : stAt ts ts.length ((8 * L + j : Nat) : Int) with
  | none => rfl
  | some x =>
    obtain ⟨t, ht, h2, hx⟩ := st_some (ts := ts) _ _ (by rw [hs]; rfl)
    have : anyL storesL ts (L : Int) = true := by
      refine List.any_eq_true.2 ⟨t, ht, ?_⟩
      unfold storesL lineT
      rw [hx, if_neg (by omega), Int.tdiv_eq_ediv_of_nonneg (by omega)]
      simp [h2]
      omega
    rw [this] at hL
    cases hL
/-! ### what is orderly -/
/-- How unkept's state and a line's are. -/
def Alike (N k : Nat) (L : Int) (u : Uk) (s : Int) (ts : List Tch) : Prop :=
  (-1 ≤ u.fence ∧ u.fence < k) ∧ ((s = 0 ∧ u.fl L = none ∧ anyL storesL (ts.take k) L = false) ∨ (s = 1 ∧ u.fl L = some (N : Int)) ∨ (s = 2 ∧ ∃ a : Nat, u.fl L = some (a : Int) ∧ a < k ∧ u.fence < a) ∨ (s = 3 ∧ ∃ a : Nat, u.fl L = some (a : Int) ∧ a < k ∧ (a : Int) < u.fence))
theorem alike {ts : List Tch} {N : Nat} (hN : ts.length = N) (L : Int) : ∀ k, k ≤ N → Alike N k L (ukAt N ts k) (sureAt L ts k) ts
  | 0, _ => ⟨⟨by show (-1 : Int) ≤ -1; omega, by show (-1 : Int) < 0; omega⟩, .inl ⟨rfl, rfl, rfl⟩⟩
  | k + 1, hk => by
    obtain ⟨⟨f1, f2⟩, hS⟩ := alike hN L k (by omega)
    have hkl : k < ts.length := by omega
    have ht : ts[k]? = some ts[k] := List.getElem?_eq_getElem hkl
    rw [ukAt_succ ht, sureAt_succ ht]
    have hta := anyL_take (p := storesL) ht L
    generalize ts[k] = t at hta ⊢
    generalize ukAt N ts k = u at *
    generalize sureAt L ts k = s at *
    obtain ⟨fl, fe⟩ := u
    simp only at f1 f2 hS
    have hlift : ∀ {s : Int} {fl' : Int → Option Int}, fl' L = fl L → (storesL t && (lineT t == L)) = false →
        ((s = 0 ∧ fl L = none ∧ anyL storesL (ts.take k) L = false) ∨ (s = 1 ∧ fl L = some (N : Int)) ∨ (s = 2 ∧ ∃ a : Nat, fl L = some (a : Int) ∧ a < k ∧ fe < a) ∨ (s = 3 ∧ ∃ a : Nat, fl L = some (a : Int) ∧ a < k ∧ (a : Int) < fe)) →
        Alike N (k + 1) L ⟨fl', fe⟩ s ts := fun {s fl'} e hst h => by
      refine ⟨⟨f1, by show fe < _; omega⟩, ?_⟩
      show (s = 0 ∧ fl' L = none ∧ _) ∨ (s = 1 ∧ fl' L = _) ∨ (s = 2 ∧ ∃ a : Nat, fl' L = some (a : Int) ∧ a < k + 1 ∧ fe < a) ∨ (s = 3 ∧ ∃ a : Nat, fl' L = some (a : Int) ∧ a < k + 1 ∧ (a : Int) < fe)
      rw [e]
      rcases h with ⟨h1, h2, h3⟩ | h | ⟨h1, a, h2, h3, h4⟩ | ⟨h1, a, h2, h3, h4⟩
      · exact .inl ⟨h1, h2, by rw [hta, h3, hst]; rfl⟩
      · exact .inr (.inl h)
      · exact .inr (.inr (.inl ⟨h1, a, h2, by omega, h4⟩))
      · exact .inr (.inr (.inr ⟨h1, a, h2, by omega, h4⟩))
    by_cases h2 : t.kind = 2
    · rw [ukStep_2 _ _ _ h2]
      have hlr : lineR t = lineT t := by unfold lineR lineT; rw [if_neg (by omega), if_neg (by omega), if_neg (by omega)]
      by_cases hL : lineT t = L
      · have : sureStep L s t = 1 := by unfold sureStep; rw [if_pos ⟨h2, by rw [hlr]; exact hL⟩]
        rw [this]
        refine ⟨⟨f1, by show fe < _; omega⟩, .inr (.inl ⟨rfl, ?_⟩)⟩
        show upd fl (lineT t) N L = _
        unfold upd
        rw [if_pos hL.symm]
      · have : sureStep L s t = s := by unfold sureStep; rw [if_neg (fun h => hL (by rw [← hlr]; exact h.2)), if_neg (by omega), if_neg (by omega)]
        rw [this]
        refine hlift ?_ ?_ hS
        · unfold upd; rw [if_neg (fun e => hL e.symm)]
        · simp [hL]
    have hst : (storesL t && (lineT t == L)) = false := by unfold storesL; simp [h2]
    by_cases h3 : t.kind = 3
    · have hlt : lineT t = t.at_ := by unfold lineT; rw [if_pos h3]
      by_cases hL : t.at_ = L
      · by_cases h1 : s = 1
        · have hs2 : sureStep L s t = 2 := by unfold sureStep; rw [if_neg (by omega), if_pos ⟨h3, hL, h1⟩]
          have hfl : fl L = some (N : Int) := by
            rcases hS with ⟨h, _⟩ | ⟨_, h⟩ | ⟨h, _⟩ | ⟨h, _⟩
            · omega
            · exact h
            · omega
            · omega
          rw [hs2, ukStep_3n _ _ _ h3 (by show (fl (lineT t)).getD 0 = _; rw [hlt, hL, hfl]; rfl)]
          refine ⟨⟨f1, by show fe < _; omega⟩, .inr (.inr (.inl ⟨rfl, k, ?_, by omega, by show fe < _; omega⟩))⟩
          show upd fl (lineT t) k L = _
          unfold upd
          rw [if_pos (by rw [hlt, hL])]
        · have hs2 : sureStep L s t = s := by unfold sureStep; rw [if_neg (by omega), if_neg (fun h => h1 h.2.2), if_neg (by omega)]
          have hfl : ¬ (fl (lineT t)).getD 0 = (N : Int) := by
            rw [hlt, hL]
            rcases hS with ⟨_, h, _⟩ | ⟨h, _⟩ | ⟨_, a, h, h', _⟩ | ⟨_, a, h, h', _⟩
            · rw [h]; simp; omega
            · exact absurd h h1
            · rw [h]; simp; omega
            · rw [h]; simp; omega
          rw [hs2, ukStep_3o _ _ _ h3 hfl]
          exact hlift rfl hst hS
      · have hs2 : sureStep L s t = s := by unfold sureStep; rw [if_neg (by omega), if_neg (fun h => hL h.2.1), if_neg (by omega)]
        rw [hs2]
        by_cases hf : (fl (lineT t)).getD 0 = (N : Int)
        · rw [ukStep_3n _ _ _ h3 hf]
          refine hlift ?_ hst hS
          unfold upd
          rw [if_neg (fun e => hL (by rw [← hlt]; exact e.symm))]
        · rw [ukStep_3o _ _ _ h3 hf]
          exact hlift rfl hst hS
    by_cases h4 : t.kind = 4
    · rw [ukStep_4 _ _ _ h4]
      have hta' : anyL storesL (ts.take (k + 1)) L = anyL storesL (ts.take k) L := by rw [hta, hst, Bool.or_false]
      by_cases h1 : s = 2
      · have hs2 : sureStep L s t = 3 := by unfold sureStep; rw [if_neg (by omega), if_neg (by omega), if_pos ⟨h4, h1⟩]
        rw [hs2]
        obtain ⟨a, ha, hak, _⟩ : ∃ a : Nat, fl L = some (a : Int) ∧ a < k ∧ fe < a := by
          rcases hS with ⟨h, _⟩ | ⟨h, _⟩ | ⟨_, h⟩ | ⟨h, _⟩
          · omega
          · omega
          · exact h
          · omega
        exact ⟨⟨by show (-1 : Int) ≤ (k : Int); omega, by show (k : Int) < _; omega⟩, .inr (.inr (.inr ⟨rfl, a, ha, by omega, by show (a : Int) < (k : Int); omega⟩))⟩
      · have hs2 : sureStep L s t = s := by unfold sureStep; rw [if_neg (by omega), if_neg (by omega), if_neg (fun h => h1 h.2)]
        rw [hs2]
        refine ⟨⟨by show (-1 : Int) ≤ (k : Int); omega, by show (k : Int) < _; omega⟩, ?_⟩
        rcases hS with ⟨g1, g2, g3⟩ | h | ⟨h, _⟩ | ⟨g1, a, g2, g3, g4⟩
        · exact .inl ⟨g1, g2, by rw [hta', g3]⟩
        · exact .inr (.inl h)
        · exact absurd h h1
        · exact .inr (.inr (.inr ⟨g1, a, g2, by omega, by show (a : Int) < (k : Int); omega⟩))
    · have hs2 : sureStep L s t = s := by unfold sureStep; rw [if_neg (fun h => h2 h.1), if_neg (fun h => h3 h.1), if_neg (fun h => h4 h.1)]
      rw [hs2, ukStep_o _ _ _ h2 h3 h4]
      exact hlift rfl hst hS
/-- Of a line that is stored to, the closure tells whether it is not sure. -/
theorem unk_sure {ts : List Tch} {L : Int} (h : anyL storesL ts L = true) : unkV (ukAt ts.length ts ts.length) L = !sureV ts L := by
  obtain ⟨⟨f1, f2⟩, hS⟩ := alike (ts := ts) rfl L ts.length (Nat.le_refl _)
  unfold unkV sureV
  rw [List.take_length] at hS
  generalize ukAt ts.length ts ts.length = u at *
  generalize sureAt L ts ts.length = s at *
  rcases hS with ⟨_, _, h3⟩ | ⟨rfl, h2⟩ | ⟨rfl, a, h2, h3, h4⟩ | ⟨rfl, a, h2, h3, h4⟩
  · rw [h] at h3; cases h3
  · rw [h2]; simp; omega
  · rw [h2]; simp; omega
  · rw [h2]; simp; omega
theorem order_same {ts : List Tch} (hc : checkT ts = 0) : orderC ts = orderR ts := by
  have hr := (check_right hc).1
  have hw : wordsV ts = stAt ts ts.length := by unfold wordsV; rw [if_pos hc]
  unfold orderC orderR
  rw [hc, show ((0 : Int) == 0) = true from rfl, Bool.true_and]
  refine Bool.eq_iff_iff.2 ?_
  rw [List.all_eq_true, List.all_eq_true]
  constructor
  · intro h L hL
    unfold linesV at hL
    obtain ⟨_, ha⟩ := List.mem_filter.1 hL
    obtain ⟨t, ht, h2⟩ := List.any_eq_true.1 (show (ts.any fun t => storesL t && (lineT t == (L : Int))) = true from ha)
    rw [Bool.and_eq_true, beq_iff_eq] at h2
    have hk : t.kind = 2 := of_decide_eq_true h2.1
    have hrt := List.all_eq_true.1 hr t ht
    unfold rightT at hrt
    rw [if_pos (.inr hk)] at hrt
    have hrt := of_decide_eq_true hrt
    have hsome : (stAt ts ts.length t.at_).isSome = true := by
      obtain ⟨k, hk', e⟩ := List.getElem_of_mem ht
      have hx : ∀ n, k < n → (stAt ts n t.at_).isSome = true := fun n => by
        induction n with
        | zero => intro h; omega
        | succ n ih =>
          intro hn
          cases hu : ts[n]? with
          | none =>
            have e : stAt ts (n + 1) = stAt ts n := by
              show (match ts[n]? with | some t => stStep (stAt ts n) t | none => stAt ts n) = _
              rw [hu]
            rcases Nat.lt_or_ge k n with h | h
            · rw [e]; exact ih h
            · have : k = n := by omega
              subst this
              rw [List.getElem?_eq_getElem hk'] at hu
              cases hu
          | some u =>
            by_cases hh : u.kind = 2 ∧ u.at_ = t.at_
            · rw [← hh.2, stAt_hit hu hh.1]; rfl
            · rw [stAt_miss hu hh]
              rcases Nat.lt_or_ge k n with h | h
              · exact ih h
              · have : k = n := by omega
                subst this
                rw [List.getElem?_eq_getElem hk', e] at hu
                cases hu
                exact absurd ⟨hk, rfl⟩ hh
      exact hx _ hk'
    have hmem : (t.at_.toNat, (wordsV ts t.at_).getD 0) ∈ putsV ts := by
      unfold putsV
      refine List.mem_map.2 ⟨t.at_.toNat, List.mem_filter.2 ⟨List.mem_range.2 (by omega), ?_⟩, ?_⟩
      · rw [show ((t.at_.toNat : Nat) : Int) = t.at_ by omega, hw]; exact hsome
      · rw [show ((t.at_.toNat : Nat) : Int) = t.at_ by omega]
    have := h _ hmem
    have hl : (((t.at_.toNat, (wordsV ts t.at_).getD 0) : Nat × Int).1 : Int).tdiv 8 = (L : Int) := by
      show ((t.at_.toNat : Nat) : Int).tdiv 8 = _
      rw [show ((t.at_.toNat : Nat) : Int) = t.at_ by omega, ← h2.2]
      unfold lineT
      rw [if_neg (by omega)]
    rw [hl, unk_sure ha] at this
    simpa using this
  · intro h x hx
    unfold putsV at hx
    obtain ⟨k, hk, rfl⟩ := List.mem_map.1 hx
    unfold addrsV at hk
    obtain ⟨hk1, hk2⟩ := List.mem_filter.1 hk
    rw [hw] at hk2
    obtain ⟨t, ht, h2, hx⟩ := st_some _ _ hk2
    have hk3 := List.mem_range.1 hk1
    have ha : anyL storesL ts ((k / 8 : Nat) : Int) = true := by
      refine List.any_eq_true.2 ⟨t, ht, ?_⟩
      unfold storesL lineT
      rw [hx, if_neg (by omega), Int.tdiv_eq_ediv_of_nonneg (by omega)]
      simp [h2]
    have hL := h (k / 8) (by unfold linesV; exact List.mem_filter.2 ⟨List.mem_range.2 (by omega), ha⟩)
    show (!unkV _ ((k : Int).tdiv 8)) = true
    rw [Int.tdiv_eq_ediv_of_nonneg (by omega), show (k : Int) / 8 = ((k / 8 : Nat) : Int) by omega, unk_sure ha, hL]
    rfl
/-! ### what is closed -/
theorem closeV_right (ts : List Tch) : (closeV ts).all rightT = true := by
  unfold closeV
  rw [List.all_append, Bool.and_eq_true]
  refine ⟨List.all_eq_true.2 fun t ht => ?_, by decide⟩
  obtain ⟨k, hk, rfl⟩ := List.mem_map.1 ht
  unfold linesV at hk
  have := List.mem_range.1 (List.mem_filter.1 hk).1
  rw [rightT_3]
  simp
  omega
theorem closed_same {ts : List Tch} (hc : checkT ts = 0) : closedE ts = closedRE ts ∧ closedV ts = closedR ts := by
  have hr := check_right hc
  have e : closedE ts = closedRE ts := by
    unfold closedE closedRE shutV
    rw [if_pos hc, order_same hc]
    by_cases ho : orderR ts = true
    · rw [if_pos ho, if_pos ho, hc]
    · rw [if_neg ho, if_neg ho]
      unfold checkT
      rw [if_pos (by rw [List.all_append, hr.1, closeV_right]; rfl)]
  refine ⟨e, ?_⟩
  unfold closedV closedR shutV
  rw [e, order_same hc]
  unfold closedRE
  by_cases ho : orderR ts = true
  · rw [if_pos ho, if_pos ho, if_pos ho]; rfl
  · rw [if_neg ho, if_neg ho, if_neg ho]
    by_cases h4 : 4096 < (ts ++ closeV ts).length
    · rw [if_pos h4, if_pos h4]; rfl
    · rw [if_neg h4, if_neg h4]; rfl
end Go.Proofs.Ytkpiehejkhjhlaa
