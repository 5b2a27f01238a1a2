/-
  As in HeldFar, outside of a fence.
-/
import Derived.Test.YtoaloeipgadkjaaHeldFar
namespace Go.Proofs.Ytoaloeipgadkjaa
open Go.RowKit Go.Shelf

section
variable {P : Program} {md : Region.Mode} {ops : Array Oper} {Q : Exit → Act → World → Prop} {m : Nat} {R : World → Prop}
theorem wpAnyM_first2 {i k : Nat} {oi : Oper} {v : Value} (hi : ops[i]? = some oi) (hsel : ∀ (j : Nat) (o : Oper) cs b, ops[j]? = some o → o.op ≠ .select cs b)
    (hQ : ∀ c a w, Q (.panic c) (a.put oi.dst v) w → Q (.panic c) a w) (hmi : m ≠ i) (hmw : late md ops i k m = true) : ∀ (f : Nat) (l : Array Bool) (a : Act) (w : World),
      (∀ j oj, ops[j]? = some oj → j ≠ i → j ≠ m → l.getD j true = false → (∀ e ∈ oj.after, Region.binds md e = true → e.on ≠ i) → oi.apart ops oj = true) →
      i ∈ Region.ready md ops l → l.getD m true = false → Closed md ops l → YieldsIf P ops R oi v a → R w →
      wpAnyM P md ops Q m R f (l.setIfInBounds i true) (a.put oi.dst v) w → wpAnyM P md ops Q m R (f + 1) l a w
  | f, l, a, w, hfree, hr, hml, hcl, hy, hw, H => by
    have hil := (mem_ready.1 hr).1
    refine ⟨fun h => (by rw [h] at hr; cases hr), fun j hj => ?_⟩
    by_cases hji : j = i
    · subst hji
      exact hy.wpOp hi hw ⟨fun _ => hw, H⟩
    · have hrj := ready_mono hj hji
      cases f with
      | zero =>
        have h0 := H.1
        rw [h0] at hrj
        cases hrj
      | succ f =>
        obtain ⟨hjun, oj, hoj, -⟩ := mem_ready.1 hj
        have hnot := unlisted_not hj hoj hil
        have hjm : j ≠ m := by
          rintro rfl
          exact late_not hcl hil hmw hj
        have h2 := wpOp_putIf hoj (hfree j oj hoj hji hjm hjun hnot) (fun cs b => hsel i oi cs b hi) (fun cs b => hsel j oj cs b hoj) hQ hy (H.2 j hrj)
        refine wpOp_mono (fun a' w' h3 => ?_) h2
        obtain ⟨hya, hTa, hMa⟩ := h3
        have hml2 : (l.setIfInBounds j true).getD m true = false := by rw [getD_set_ne true hjm]; exact hml
        have hw2 : R w' := hTa (by rw [getD_set_ne true hjm, getD_set_ne true (Ne.symm hmi)]; exact hml)
        refine ⟨fun _ => hw2, wpAnyM_first2 hi hsel hQ hmi hmw f (l.setIfInBounds j true) a' w' (fun k ok hk hki hkm hku hno => ?_) (ready_mono hr (Ne.symm hji)) hml2 (hcl.set hj) hya hw2 ?_⟩
        · exact hfree k ok hk hki hkm (getD_set_true hku) hno
        · rw [Array.setIfInBounds_comm _ _ hji]; exact hMa
theorem wpAnyM_take2 {i : Nat} {oi : Oper} {v : Value} {f : Nat} {l : Array Bool} {a : Act} {w : World} (k : Nat) (hi : ops[i]? = some oi) (hs : Region.noSelect ops = true)
    (hc : (freeM md ops l m i && (Region.ready md ops l).contains i && (m != i) && late md ops i k m && !(l.getD m true) && closedB md ops l) = true)
    (hQ : ∀ c a w, Q (.panic c) (a.put oi.dst v) w → Q (.panic c) a w) (hy : YieldsIf P ops R oi v a) (hw : R w)
    (h : wpAnyM P md ops Q m R f (l.setIfInBounds i true) (a.put oi.dst v) w) : wpAnyM P md ops Q m R (f + 1) l a w := by
  simp only [Bool.and_eq_true, bne_iff_ne, ne_eq, Bool.not_eq_true'] at hc
  obtain ⟨⟨⟨⟨⟨h1, h2⟩, h3⟩, h4⟩, h5⟩, h6⟩ := hc
  exact wpAnyM_first2 hi (Region.noSelect_spec hs) hQ h3 h4 f l a w (freeM_spec hi h1) (by simpa using h2) h5 (closedB_spec h6) hy hw h
end
end Go.Proofs.Ytoaloeipgadkjaa
