/-
  As in HeldIn: the operation that comes last need not wait for each one itself.
-/
import Derived.Test.YtoaloeipgadkjaaHeldIn
namespace Go.Proofs.Ytoaloeipgadkjaa
open Go.RowKit Go.Shelf

section
variable {Fc : Fence} {n : Nat} {P : Program} {md : Region.Mode} {ops : Array Oper} {Q : Exit → Act → World → Prop} {m : Nat} {R : World → Prop}
/-- What the listed ones wait for is listed. -/
def Closed (md : Region.Mode) (ops : Array Oper) (l : Array Bool) : Prop := ∀ j oj, ops[j]? = some oj → l.getD j false = true → ∀ e ∈ oj.after, Region.binds md e = true → l.getD e.on false = true
def closedB (md : Region.Mode) (ops : Array Oper) (l : Array Bool) : Bool := (List.range ops.size).all fun j => match ops[j]? with
  | some oj => !(l.getD j false) || oj.after.all fun e => !(Region.binds md e) || l.getD e.on false
  | none => true
theorem closedB_spec {l : Array Bool} (h : closedB md ops l = true) : Closed md ops l := fun j oj hj hl e he hb => by
  have h1 := List.all_eq_true.1 h j (List.mem_range.2 (Array.getElem?_eq_some_iff.1 hj).1)
  simp only [hj, hl, Bool.not_true, Bool.false_or] at h1
  have h2 := Array.all_eq_true_iff_forall_mem.1 h1 e he
  simpa [hb] using h2
theorem Closed.set {l : Array Bool} {i : Nat} (h : Closed md ops l) (hi : i ∈ Region.ready md ops l) : Closed md ops (l.setIfInBounds i true) := fun j oj hj hl e he hb => by
  obtain ⟨_, oi, hoi, hall⟩ := mem_ready.1 hi
  by_cases hij : i = j
  · subst hij
    have : oj = oi := Option.some.inj (hj.symm.trans hoi)
    subst this
    exact Go.getD_set_true (hall e he hb)
  · rw [getD_set_ne false hij] at hl
    exact Go.getD_set_true (h j oj hj hl e he hb)
/-- m comes after i. -/
def late (md : Region.Mode) (ops : Array Oper) (i : Nat) : Nat → Nat → Bool
  | 0, m => Region.waitsFor md ops m i
  | f + 1, m => Region.waitsFor md ops m i || (List.range ops.size).any fun j => Region.waitsFor md ops m j && late md ops i f j
theorem late_spec {l : Array Bool} {i : Nat} (h : Closed md ops l) (hi : l.getD i true = false) : ∀ (f m : Nat), late md ops i f m = true → ∃ om, ops[m]? = some om ∧ ∃ e ∈ om.after, Region.binds md e = true ∧ l.getD e.on false = false
  | 0, m, hm => by
    obtain ⟨om, h1, e, h2, h3, h4⟩ := Region.waitsFor_spec hm
    exact ⟨om, h1, e, h2, h3, by rw [h4]; exact getD_both hi⟩
  | f + 1, m, hm => by
    unfold late at hm
    rcases Bool.or_eq_true_iff.1 hm with hm | hm
    · obtain ⟨om, h1, e, h2, h3, h4⟩ := Region.waitsFor_spec hm
      exact ⟨om, h1, e, h2, h3, by rw [h4]; exact getD_both hi⟩
    · obtain ⟨j, -, hj⟩ := List.any_eq_true.1 hm
      rw [Bool.and_eq_true] at hj
      obtain ⟨om, h1, e, h2, h3, h4⟩ := Region.waitsFor_spec hj.1
      obtain ⟨oj, k1, e', k2, k3, k4⟩ := late_spec h hi f j hj.2
      refine ⟨om, h1, e, h2, h3, ?_⟩
      rw [h4]
      cases hl : l.getD j false with
      | false => rfl
      | true => rw [h j oj k1 hl e' k2 k3] at k4; cases k4
theorem late_not {l : Array Bool} {i f : Nat} (h : Closed md ops l) (hi : l.getD i true = false) (hm : late md ops i f m = true) : m ∉ Region.ready md ops l := fun hr => by
  obtain ⟨om, h1, e, h2, h3, h4⟩ := late_spec h hi f m hm
  obtain ⟨_, om', h1', hall⟩ := mem_ready.1 hr
  have : om = om' := Option.some.inj (h1.symm.trans h1')
  subst this
  rw [hall e h2 h3] at h4
  cases h4
theorem wpAnyN_first2 {i k : Nat} {oi : Oper} {v : Value} (hd : NoDefers ops) (hi : ops[i]? = some oi) (hsel : ∀ (j : Nat) (o : Oper) cs b, ops[j]? = some o → o.op ≠ .select cs b)
    (hQ : ∀ c a w, Q (.panic c) (a.put oi.dst v) w → Q (.panic c) a w) (hmi : m ≠ i) (hmw : late md ops i k m = true) : ∀ (f : Nat) (l : Array Bool) (a : Act) (w : World),
      (∀ j oj, ops[j]? = some oj → j ≠ i → j ≠ m → l.getD j true = false → (∀ e ∈ oj.after, Region.binds md e = true → e.on ≠ i) → oi.apart ops oj = true) →
      i ∈ Region.ready md ops l → l.getD m true = false → Closed md ops l → ReadsIf P ops R oi v a → R w →
      wpAnyN Fc n P md ops Q m R f (l.setIfInBounds i true) (a.put oi.dst v) w → wpAnyN Fc n P md ops Q m R (f + 1) l a w
  | f, l, a, w, hfree, hr, hml, hcl, hy, hw, H => by
    have hil := (mem_ready.1 hr).1
    refine ⟨fun h => (by rw [h] at hr; cases hr), fun j hj => ?_⟩
    by_cases hji : j = i
    · subst hji
      exact hy.wpOpIn hd hi hw ⟨fun _ => hw, H⟩
    · have hrj := ready_mono hj hji
      cases f with
      | zero =>
        have h0 := H.1
        rw [h0] at hrj
        cases hrj
      | succ f =>
        obtain ⟨hjun, oj, hoj, -⟩ := mem_ready.1 hj
        have hnot := unlisted_not hj hoj hil
        have hjm : j ≠ m := by
          rintro rfl
          exact late_not hcl hil hmw hj
        have h2 := wpOpIn_read hd hoj (hfree j oj hoj hji hjm hjun hnot) (fun cs b => hsel i oi cs b hi) (fun cs b => hsel j oj cs b hoj) hQ hy (H.2 j hrj)
        refine wpOpIn_mono (fun a' w' h3 => ?_) h2
        obtain ⟨hya, hTa, hMa⟩ := h3
        have hml2 : (l.setIfInBounds j true).getD m true = false := by rw [getD_set_ne true hjm]; exact hml
        have hw2 : R w' := hTa (by rw [getD_set_ne true hjm, getD_set_ne true (Ne.symm hmi)]; exact hml)
        refine ⟨fun _ => hw2, wpAnyN_first2 hd hi hsel hQ hmi hmw f (l.setIfInBounds j true) a' w' (fun k ok hk hki hkm hku hno => ?_) (ready_mono hr (Ne.symm hji)) hml2 (hcl.set hj) hya hw2 ?_⟩
        · exact hfree k ok hk hki hkm (getD_set_true hku) hno
        · rw [Array.setIfInBounds_comm _ _ hji]; exact hMa
/-- free, m aside. -/
def freeM (md : Region.Mode) (ops : Array Oper) (l : Array Bool) (m i : Nat) : Bool :=
  match ops[i]? with
  | none => false
  | some oi => (List.range ops.size).all fun j => j == i || j == m || l.getD j true || match ops[j]? with
      | some oj => oj.after.any (fun e => Region.binds md e && e.on == i) || oi.apart ops oj
      | none => true
theorem freeM_spec {i : Nat} {oi : Oper} {l : Array Bool} (hi : ops[i]? = some oi) (h : freeM md ops l m i = true) (j : Nat) (oj : Oper)
    (hj : ops[j]? = some oj) (hne : j ≠ i) (hnm : j ≠ m) (hun : l.getD j true = false) (hno : ∀ e ∈ oj.after, Region.binds md e = true → e.on ≠ i) : oi.apart ops oj = true := by
  simp only [freeM, hi, List.all_eq_true, List.mem_range] at h
  have h1 := h j (Array.getElem?_eq_some_iff.1 hj).1
  simp only [hj, hun, Bool.or_false, Bool.or_eq_true, beq_iff_eq, hne, hnm, false_or] at h1
  rcases h1 with h1 | h1
  · obtain ⟨e, he, hb⟩ := Array.any_eq_true'.1 h1
    simp only [Bool.and_eq_true, beq_iff_eq] at hb
    exact absurd hb.2 (hno e he hb.1)
  · exact h1
theorem wpAnyN_take2 {i : Nat} {oi : Oper} {v : Value} {f : Nat} {l : Array Bool} {a : Act} {w : World} (k : Nat) (hd : NoDefers ops) (hi : ops[i]? = some oi) (hs : Region.noSelect ops = true)
    (hc : (freeM md ops l m i && (Region.ready md ops l).contains i && (m != i) && late md ops i k m && !(l.getD m true) && closedB md ops l) = true)
    (hQ : ∀ c a w, Q (.panic c) (a.put oi.dst v) w → Q (.panic c) a w) (hb : ∀ w, oi.about P w a.eval = none) (hy : YieldsIf P ops R oi v a) (hw : R w)
    (h : wpAnyN Fc n P md ops Q m R f (l.setIfInBounds i true) (a.put oi.dst v) w) : wpAnyN Fc n P md ops Q m R (f + 1) l a w := by
  simp only [Bool.and_eq_true, bne_iff_ne, ne_eq, Bool.not_eq_true'] at hc
  obtain ⟨⟨⟨⟨⟨h1, h2⟩, h3⟩, h4⟩, h5⟩, h6⟩ := hc
  exact wpAnyN_first2 hd hi (Region.noSelect_spec hs) hQ h3 h4 f l a w (freeM_spec hi h1) (by simpa using h2) h5 (closedB_spec h6) ⟨hy, hb⟩ hw h
end
end Go.Proofs.Ytoaloeipgadkjaa
