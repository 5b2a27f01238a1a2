/-
  Texts Held to WordK, as one.
-/
import Derived.Test.YtgoemaecdolioaaGreatDoorMo1
import Derived.OrdersHeld
import Derived.StillTail
import Derived.Deep.MidRow
import Derived.Laws.StructEq
import Derived.Laws.EntriesVeiled
import Derived.OwnWalkIn
import Derived.Maps.AppendAt
import Derived.Deep.DeepMust
import Derived.ScopeJumps
import Derived.WalkMore
import Derived.Laws.BytesArg
/-
  A region that draws its order: what only reads comes first, as long as a condition on the world holds, which the operation that waits for all others need not keep.
-/
namespace Go.Proofs.YtgoemaecdolioaaGreatDoor
open Go.RowKit Go.Shelf

/-- What a slot written, a list's element are. -/
theorem elem_laws : (∀ {α : Type} (l : List α) (i : Nat) (h : i < l.toArray.size), l.toArray[i]'h = l[i]'(by simpa using h)) ∧ (∀ {α : Type} (x : α) (l : List α) (h : 0 < (x :: l).length), (x :: l)[0]'h = x) ∧ (∀ {α : Type} (x : α) (l : List α) (i : Nat) (h : i + 1 < (x :: l).length), (x :: l)[i + 1]'h = l[i]'(Nat.lt_of_succ_lt_succ h)) :=
  ⟨fun _ _ _ => rfl, fun _ _ _ => rfl, fun _ _ _ _ => rfl⟩
theorem put_laws : (∀ (a : Act) (d : Tmp) (v : Value), a.put (some d) v = { a with tmps := a.tmps.setIfInBounds d v }) ∧ (∀ (a : Act) (v : Value), a.put none v = a) ∧
    (∀ {α : Type} (l : List α) (i : Nat) (x : α), l.toArray.setIfInBounds i x = (l.set i x).toArray) ∧ (∀ {α : Type} (x y : α) (l : List α), (x :: l).set 0 y = y :: l) ∧ (∀ {α : Type} (x y : α) (l : List α) (i : Nat), (x :: l).set (i + 1) y = x :: l.set i y) ∧
    (∀ {α : Type} (l : List α) (i : Nat) (h : i < l.toArray.size), l.toArray[i]'h = l[i]'(by simpa using h)) ∧ (∀ {α : Type} (x : α) (l : List α) (h : 0 < (x :: l).length), (x :: l)[0]'h = x) ∧ (∀ {α : Type} (x : α) (l : List α) (i : Nat) (h : i + 1 < (x :: l).length), (x :: l)[i + 1]'h = l[i]'(Nat.lt_of_succ_lt_succ h)) :=
  ⟨fun _ _ _ => rfl, fun _ _ => rfl, fun _ _ _ => by simp, fun _ _ _ => rfl, fun _ _ _ _ => rfl, elem_laws⟩
section
variable {P : Program} {md : Region.Mode} {ops : Array Oper} {Q : Exit → Act → World → Prop} {m : Nat} {R : World → Prop}
/-- Till operation m has come up, R holds. -/
def Till (m : Nat) (R : World → Prop) (l : Array Bool) (w : World) : Prop := l.getD m true = false → R w
/-- Whatever order is drawn from here on; R holds till m has come up. -/
def wpAnyM (P : Program) (md : Region.Mode) (ops : Array Oper) (Q : Exit → Act → World → Prop) (m : Nat) (R : World → Prop) : Nat → Array Bool → Act → World → Prop
  | 0, l, a, w => wpAny P md ops Q 0 l a w
  | f + 1, l, a, w => (Region.ready md ops l = [] → Q .normal a w) ∧ ∀ i ∈ Region.ready md ops l, wpOp P ops Q i (fun a' w' => Till m R (l.setIfInBounds i true) w' ∧ wpAnyM P md ops Q m R f (l.setIfInBounds i true) a' w') a w
theorem wpAny_of_M : ∀ (f : Nat) (l : Array Bool) (a : Act) (w : World), wpAnyM P md ops Q m R f l a w → wpAny P md ops Q f l a w
  | 0, _, _, _, h => h
  | f + 1, _, _, _, h => ⟨h.1, fun i hi => wpOp_mono (fun a' w' h' => wpAny_of_M f _ a' w' h'.2) (h.2 i hi)⟩
theorem getD_set_true {l : Array Bool} {i j : Nat} (h : (l.setIfInBounds i true).getD j true = false) : l.getD j true = false := by
  by_cases e : i = j
  · subst e
    rcases Nat.lt_or_ge i l.size with h' | h'
    · simp [h'] at h
    · rw [Array.getD_eq_getD_getElem?, Array.getElem?_eq_none (by simpa using h')] at h
      cases h
  · rwa [getD_set_ne true e] at h
theorem Till.set {l : Array Bool} {w : World} (h : Till m R l w) (i : Nat) : Till m R (l.setIfInBounds i true) w := fun hl => h (getD_set_true hl)
theorem unlisted_not {l : Array Bool} {i j : Nat} {oj : Oper} (hj : j ∈ Region.ready md ops l) (hoj : ops[j]? = some oj) (hi : l.getD i true = false) : ∀ e ∈ oj.after, Region.binds md e = true → e.on ≠ i := fun e he hb heq => by
  obtain ⟨_, oj', hoj', hall⟩ := mem_ready.1 hj
  rw [hoj] at hoj'
  obtain rfl := Option.some.inj hoj'
  have h1 := hall e he hb
  rw [heq] at h1
  rcases Nat.lt_or_ge i l.size with h' | h'
  · simp [h'] at hi h1; rw [hi] at h1; cases h1
  · simp [Array.getElem?_eq_none h'] at h1
theorem wpAnyM_first {i : Nat} {oi : Oper} {v : Value} (hi : ops[i]? = some oi) (hsel : ∀ (j : Nat) (o : Oper) cs b, ops[j]? = some o → o.op ≠ .select cs b)
    (hQ : ∀ c a w, Q (.panic c) (a.put oi.dst v) w → Q (.panic c) a w) (hmi : m ≠ i) (hmw : Region.waitsFor md ops m i = true) : ∀ (f : Nat) (l : Array Bool) (a : Act) (w : World),
      (∀ j oj, ops[j]? = some oj → j ≠ i → l.getD j true = false → (∀ e ∈ oj.after, Region.binds md e = true → e.on ≠ i) → oi.apart ops oj = true) →
      i ∈ Region.ready md ops l → l.getD m true = false → YieldsIf P ops R oi v a → R w →
      wpAnyM P md ops Q m R f (l.setIfInBounds i true) (a.put oi.dst v) w → wpAnyM P md ops Q m R (f + 1) l a w
  | f, l, a, w, hfree, hr, hml, hy, hw, H => by
    have hil := (mem_ready.1 hr).1
    refine ⟨fun h => (by rw [h] at hr; cases hr), fun j hj => ?_⟩
    by_cases hji : j = i
    · subst hji
      exact hy.wpOp hi hw ⟨fun _ => hw, H⟩
    · have hrj := ready_mono hj hji
      cases f with
      | zero =>
        have h0 := H.1
        rw [h0] at hrj
        cases hrj
      | succ f =>
        obtain ⟨hjun, oj, hoj, -⟩ := mem_ready.1 hj
        have hnot := unlisted_not hj hoj hil
        have hjm : j ≠ m := by
          rintro rfl
          obtain ⟨om, hom, e, he, hb, hon⟩ := Region.waitsFor_spec hmw
          exact unlisted_not hj hom hil e he hb hon
        have h2 := wpOp_putIf hoj (hfree j oj hoj hji hjun hnot) (fun cs b => hsel i oi cs b hi) (fun cs b => hsel j oj cs b hoj) hQ hy (H.2 j hrj)
        refine wpOp_mono (fun a' w' h3 => ?_) h2
        obtain ⟨hya, hTa, hMa⟩ := h3
        have hml2 : (l.setIfInBounds j true).getD m true = false := by rw [getD_set_ne true hjm]; exact hml
        have hw2 : R w' := hTa (by rw [getD_set_ne true hjm, getD_set_ne true (Ne.symm hmi)]; exact hml)
        refine ⟨fun _ => hw2, wpAnyM_first hi hsel hQ hmi hmw f (l.setIfInBounds j true) a' w' (fun k ok hk hki hku hno => ?_) (ready_mono hr (Ne.symm hji)) hml2 hya hw2 ?_⟩
        · exact hfree k ok hk hki (getD_set_true hku) hno
        · rw [Array.setIfInBounds_comm _ _ hji]; exact hMa
/-- Number i comes first. -/
theorem wpAnyM_take {i : Nat} {oi : Oper} {v : Value} {f : Nat} {l : Array Bool} {a : Act} {w : World} (hi : ops[i]? = some oi) (hs : Region.noSelect ops = true)
    (hc : (Region.free md ops l i && (Region.ready md ops l).contains i && (m != i) && Region.waitsFor md ops m i && !(l.getD m true)) = true)
    (hQ : ∀ c a w, Q (.panic c) (a.put oi.dst v) w → Q (.panic c) a w) (hy : YieldsIf P ops R oi v a) (hw : R w)
    (h : wpAnyM P md ops Q m R f (l.setIfInBounds i true) (a.put oi.dst v) w) : wpAnyM P md ops Q m R (f + 1) l a w := by
  simp only [Bool.and_eq_true, bne_iff_ne, ne_eq, Bool.not_eq_true'] at hc
  obtain ⟨⟨⟨⟨h1, h2⟩, h3⟩, h4⟩, h5⟩ := hc
  exact wpAnyM_first hi (Region.noSelect_spec hs) hQ h3 h4 f l a w (Region.free_spec hi h1) (by simpa using h2) h5 hy hw h
/-- One alone may come up. -/
theorem wpAnyM_one {i : Nat} {oi : Oper} {f : Nat} {l : Array Bool} {a : Act} {w : World} (hi : ops[i]? = some oi) (hr : Region.ready md ops l = [i])
    (h : ∀ K : Act → World → Prop, (∀ a' w', ((l.setIfInBounds i true).getD m true = false → R w') → wpAnyM P md ops Q m R f (l.setIfInBounds i true) a' w' → K a' w') →
      if Region.wanted oi (yielded ops a.tmps) = true then Oper.wp P oi a w K Q else K (a.put oi.dst undef) w) : wpAnyM P md ops Q m R (f + 1) l a w := by
  refine ⟨fun h0 => (by rw [h0] at hr; cases hr), fun j hj => ?_⟩
  rw [hr] at hj
  obtain rfl : j = i := by simpa using hj
  unfold wpOp
  simp only [hi]
  have hh := h (fun a' w' => Till m R (l.setIfInBounds j true) w' ∧ wpAnyM P md ops Q m R f (l.setIfInBounds j true) a' w') fun a' w' h1 h2 => ⟨h1, h2⟩
  by_cases hwt : Region.wanted oi (yielded ops a.tmps) = true
  · rw [if_pos hwt] at hh ⊢; exact .inl hh
  · rw [if_neg hwt] at hh ⊢; exact hh
theorem wpAnyM_two {i j : Nat} {oi oj : Oper} {f : Nat} {l : Array Bool} {a : Act} {w : World} (hi : ops[i]? = some oi) (hj : ops[j]? = some oj) (hr : Region.ready md ops l = [i, j])
    (h : ∀ K : Act → World → Prop, (∀ a' w', ((l.setIfInBounds i true).getD m true = false → R w') → wpAnyM P md ops Q m R f (l.setIfInBounds i true) a' w' → K a' w') →
      if Region.wanted oi (yielded ops a.tmps) = true then Oper.wp P oi a w K Q else K (a.put oi.dst undef) w)
    (h' : ∀ K : Act → World → Prop, (∀ a' w', ((l.setIfInBounds j true).getD m true = false → R w') → wpAnyM P md ops Q m R f (l.setIfInBounds j true) a' w' → K a' w') →
      if Region.wanted oj (yielded ops a.tmps) = true then Oper.wp P oj a w K Q else K (a.put oj.dst undef) w) : wpAnyM P md ops Q m R (f + 1) l a w := by
  refine ⟨fun h0 => (by rw [h0] at hr; cases hr), fun k hk => ?_⟩
  rw [hr] at hk
  rcases (by simpa using hk : k = i ∨ k = j) with rfl | rfl
  · unfold wpOp
    simp only [hi]
    have hh := h (fun a' w' => Till m R (l.setIfInBounds k true) w' ∧ wpAnyM P md ops Q m R f (l.setIfInBounds k true) a' w') fun a' w' h1 h2 => ⟨h1, h2⟩
    by_cases hwt : Region.wanted oi (yielded ops a.tmps) = true
    · rw [if_pos hwt] at hh ⊢; exact .inl hh
    · rw [if_neg hwt] at hh ⊢; exact hh
  · unfold wpOp
    simp only [hj]
    have hh := h' (fun a' w' => Till m R (l.setIfInBounds k true) w' ∧ wpAnyM P md ops Q m R f (l.setIfInBounds k true) a' w') fun a' w' h1 h2 => ⟨h1, h2⟩
    by_cases hwt : Region.wanted oj (yielded ops a.tmps) = true
    · rw [if_pos hwt] at hh ⊢; exact .inl hh
    · rw [if_neg hwt] at hh ⊢; exact hh
/-- The one that waits for all. -/
theorem wpAnyM_last {om : Oper} {f : Nat} {l : Array Bool} {a : Act} {w : World} (hi : ops[m]? = some om) (hr : Region.ready md ops l = [m])
    (h : ∀ K : Act → World → Prop, (∀ a' w', wpAnyM P md ops Q m R f (l.setIfInBounds m true) a' w' → K a' w') →
      if Region.wanted om (yielded ops a.tmps) = true then Oper.wp P om a w K Q else K (a.put om.dst undef) w) : wpAnyM P md ops Q m R (f + 1) l a w :=
  wpAnyM_one hi hr fun K hK => h K fun a' w' hM => hK a' w' (fun h0 => by
    rcases Nat.lt_or_ge m l.size with h' | h'
    · simp [h'] at h0
    · rw [Array.getD_eq_getD_getElem?, Array.getElem?_eq_none (by simpa using h')] at h0
      cases h0) hM
/-- All have come up. -/
theorem wpAnyM_done {l : Array Bool} {a : Act} {w : World} (hr : Region.ready md ops l = []) (h : Q .normal a w) : ∀ f, wpAnyM P md ops Q m R f l a w
  | 0 => ⟨hr, h⟩
  | _ + 1 => ⟨fun _ => h, by rw [hr]; simp⟩
/-- The beginning. -/
theorem wp_region_M {id : Nat} {a : Act} {w : World} (m : Nat) (R : World → Prop) (hm : P.follows .mixedOrders = true)
    (h : wpAnyM P .any ops Q m R ops.size (Array.replicate ops.size false) a w.drew) : (Code.region id ops true).wp P Q a w :=
  wp_region_any hm (wpAny_of_M _ _ _ _ h)
end
end Go.Proofs.YtgoemaecdolioaaGreatDoor

/-
  A region that draws its order, inside a fence, in a round too: what only reads comes first, as long as a condition on the world holds, which the operation that waits for all others need not keep.
-/
namespace Go.Proofs.YtgoemaecdolioaaGreatDoor
open Go.RowKit Go.Shelf

section
variable {Fc : Fence} {n : Nat} {P : Program} {md : Region.Mode} {ops : Array Oper} {Q : Exit → Act → World → Prop} {m : Nat} {R : World → Prop}
end
end Go.Proofs.YtgoemaecdolioaaGreatDoor

/-
  As in HeldIn: the operation that comes last need not wait for each one itself.
-/
namespace Go.Proofs.YtgoemaecdolioaaGreatDoor
open Go.RowKit Go.Shelf

section
variable {Fc : Fence} {n : Nat} {P : Program} {md : Region.Mode} {ops : Array Oper} {Q : Exit → Act → World → Prop} {m : Nat} {R : World → Prop}
/-- What the listed ones wait for is listed. -/
def Closed (md : Region.Mode) (ops : Array Oper) (l : Array Bool) : Prop := ∀ j oj, ops[j]? = some oj → l.getD j false = true → ∀ e ∈ oj.after, Region.binds md e = true → l.getD e.on false = true
def closedB (md : Region.Mode) (ops : Array Oper) (l : Array Bool) : Bool := (List.range ops.size).all fun j => match ops[j]? with
  | some oj => !(l.getD j false) || oj.after.all fun e => !(Region.binds md e) || l.getD e.on false
  | none => true
theorem closedB_spec {l : Array Bool} (h : closedB md ops l = true) : Closed md ops l := fun j oj hj hl e he hb => by
  have h1 := List.all_eq_true.1 h j (List.mem_range.2 (Array.getElem?_eq_some_iff.1 hj).1)
  simp only [hj, hl, Bool.not_true, Bool.false_or] at h1
  have h2 := Array.all_eq_true_iff_forall_mem.1 h1 e he
  simpa [hb] using h2
theorem Closed.set {l : Array Bool} {i : Nat} (h : Closed md ops l) (hi : i ∈ Region.ready md ops l) : Closed md ops (l.setIfInBounds i true) := fun j oj hj hl e he hb => by
  obtain ⟨_, oi, hoi, hall⟩ := mem_ready.1 hi
  by_cases hij : i = j
  · subst hij
    have : oj = oi := Option.some.inj (hj.symm.trans hoi)
    subst this
    exact Go.getD_set_true (hall e he hb)
  · rw [getD_set_ne false hij] at hl
    exact Go.getD_set_true (h j oj hj hl e he hb)
/-- m comes after i. -/
def late (md : Region.Mode) (ops : Array Oper) (i : Nat) : Nat → Nat → Bool
  | 0, m => Region.waitsFor md ops m i
  | f + 1, m => Region.waitsFor md ops m i || (List.range ops.size).any fun j => Region.waitsFor md ops m j && late md ops i f j
theorem late_spec {l : Array Bool} {i : Nat} (h : Closed md ops l) (hi : l.getD i true = false) : ∀ (f m : Nat), late md ops i f m = true → ∃ om, ops[m]? = some om ∧ ∃ e ∈ om.after, Region.binds md e = true ∧ l.getD e.on false = false
  | 0, m, hm => by
    obtain ⟨om, h1, e, h2, h3, h4⟩ := Region.waitsFor_spec hm
    exact ⟨om, h1, e, h2, h3, by rw [h4]; exact getD_both hi⟩
  | f + 1, m, hm => by
    unfold late at hm
    rcases Bool.or_eq_true_iff.1 hm with hm | hm
    · obtain ⟨om, h1, e, h2, h3, h4⟩ := Region.waitsFor_spec hm
      exact ⟨om, h1, e, h2, h3, by rw [h4]; exact getD_both hi⟩
    · obtain ⟨j, -, hj⟩ := List.any_eq_true.1 hm
      rw [Bool.and_eq_true] at hj
      obtain ⟨om, h1, e, h2, h3, h4⟩ := Region.waitsFor_spec hj.1
      obtain ⟨oj, k1, e', k2, k3, k4⟩ := late_spec h hi f j hj.2
      refine ⟨om, h1, e, h2, h3, ?_⟩
      rw [h4]
      cases hl : l.getD j false with
      | false => rfl
      | true => rw [h j oj k1 hl e' k2 k3] at k4; cases k4
theorem late_not {l : Array Bool} {i f : Nat} (h : Closed md ops l) (hi : l.getD i true = false) (hm : late md ops i f m = true) : m ∉ Region.ready md ops l := fun hr => by
  obtain ⟨om, h1, e, h2, h3, h4⟩ := late_spec h hi f m hm
  obtain ⟨_, om', h1', hall⟩ := mem_ready.1 hr
  have : om = om' := Option.some.inj (h1.symm.trans h1')
  subst this
  rw [hall e h2 h3] at h4
  cases h4
/-- free, m aside. -/
def freeM (md : Region.Mode) (ops : Array Oper) (l : Array Bool) (m i : Nat) : Bool :=
  match ops[i]? with
  | none => false
  | some oi => (List.range ops.size).all fun j => j == i || j == m || l.getD j true || match ops[j]? with
      | some oj => oj.after.any (fun e => Region.binds md e && e.on == i) || oi.apart ops oj
      | none => true
theorem freeM_spec {i : Nat} {oi : Oper} {l : Array Bool} (hi : ops[i]? = some oi) (h : freeM md ops l m i = true) (j : Nat) (oj : Oper)
    (hj : ops[j]? = some oj) (hne : j ≠ i) (hnm : j ≠ m) (hun : l.getD j true = false) (hno : ∀ e ∈ oj.after, Region.binds md e = true → e.on ≠ i) : oi.apart ops oj = true := by
  simp only [freeM, hi, List.all_eq_true, List.mem_range] at h
  have h1 := h j (Array.getElem?_eq_some_iff.1 hj).1
  simp only [hj, hun, Bool.or_false, Bool.or_eq_true, beq_iff_eq, hne, hnm, false_or] at h1
  rcases h1 with h1 | h1
  · obtain ⟨e, he, hb⟩ := Array.any_eq_true'.1 h1
    simp only [Bool.and_eq_true, beq_iff_eq] at hb
    exact absurd hb.2 (hno e he hb.1)
  · exact h1
end
end Go.Proofs.YtgoemaecdolioaaGreatDoor

/-
  As in HeldFar, outside of a fence.
-/
namespace Go.Proofs.YtgoemaecdolioaaGreatDoor
open Go.RowKit Go.Shelf

section
variable {P : Program} {md : Region.Mode} {ops : Array Oper} {Q : Exit → Act → World → Prop} {m : Nat} {R : World → Prop}
theorem wpAnyM_first2 {i k : Nat} {oi : Oper} {v : Value} (hi : ops[i]? = some oi) (hsel : ∀ (j : Nat) (o : Oper) cs b, ops[j]? = some o → o.op ≠ .select cs b)
    (hQ : ∀ c a w, Q (.panic c) (a.put oi.dst v) w → Q (.panic c) a w) (hmi : m ≠ i) (hmw : late md ops i k m = true) : ∀ (f : Nat) (l : Array Bool) (a : Act) (w : World),
      (∀ j oj, ops[j]? = some oj → j ≠ i → j ≠ m → l.getD j true = false → (∀ e ∈ oj.after, Region.binds md e = true → e.on ≠ i) → oi.apart ops oj = true) →
      i ∈ Region.ready md ops l → l.getD m true = false → Closed md ops l → YieldsIf P ops R oi v a → R w →
      wpAnyM P md ops Q m R f (l.setIfInBounds i true) (a.put oi.dst v) w → wpAnyM P md ops Q m R (f + 1) l a w
  | f, l, a, w, hfree, hr, hml, hcl, hy, hw, H => by
    have hil := (mem_ready.1 hr).1
    refine ⟨fun h => (by rw [h] at hr; cases hr), fun j hj => ?_⟩
    by_cases hji : j = i
    · subst hji
      exact hy.wpOp hi hw ⟨fun _ => hw, H⟩
    · have hrj := ready_mono hj hji
      cases f with
      | zero =>
        have h0 := H.1
        rw [h0] at hrj
        cases hrj
      | succ f =>
        obtain ⟨hjun, oj, hoj, -⟩ := mem_ready.1 hj
        have hnot := unlisted_not hj hoj hil
        have hjm : j ≠ m := by
          rintro rfl
          exact late_not hcl hil hmw hj
        have h2 := wpOp_putIf hoj (hfree j oj hoj hji hjm hjun hnot) (fun cs b => hsel i oi cs b hi) (fun cs b => hsel j oj cs b hoj) hQ hy (H.2 j hrj)
        refine wpOp_mono (fun a' w' h3 => ?_) h2
        obtain ⟨hya, hTa, hMa⟩ := h3
        have hml2 : (l.setIfInBounds j true).getD m true = false := by rw [getD_set_ne true hjm]; exact hml
        have hw2 : R w' := hTa (by rw [getD_set_ne true hjm, getD_set_ne true (Ne.symm hmi)]; exact hml)
        refine ⟨fun _ => hw2, wpAnyM_first2 hi hsel hQ hmi hmw f (l.setIfInBounds j true) a' w' (fun k ok hk hki hkm hku hno => ?_) (ready_mono hr (Ne.symm hji)) hml2 (hcl.set hj) hya hw2 ?_⟩
        · exact hfree k ok hk hki hkm (getD_set_true hku) hno
        · rw [Array.setIfInBounds_comm _ _ hji]; exact hMa
theorem wpAnyM_take2 {i : Nat} {oi : Oper} {v : Value} {f : Nat} {l : Array Bool} {a : Act} {w : World} (k : Nat) (hi : ops[i]? = some oi) (hs : Region.noSelect ops = true)
    (hc : (freeM md ops l m i && (Region.ready md ops l).contains i && (m != i) && late md ops i k m && !(l.getD m true) && closedB md ops l) = true)
    (hQ : ∀ c a w, Q (.panic c) (a.put oi.dst v) w → Q (.panic c) a w) (hy : YieldsIf P ops R oi v a) (hw : R w)
    (h : wpAnyM P md ops Q m R f (l.setIfInBounds i true) (a.put oi.dst v) w) : wpAnyM P md ops Q m R (f + 1) l a w := by
  simp only [Bool.and_eq_true, bne_iff_ne, ne_eq, Bool.not_eq_true'] at hc
  obtain ⟨⟨⟨⟨⟨h1, h2⟩, h3⟩, h4⟩, h5⟩, h6⟩ := hc
  exact wpAnyM_first2 hi (Region.noSelect_spec hs) hQ h3 h4 f l a w (freeM_spec hi h1) (by simpa using h2) h5 (closedB_spec h6) hy hw h
end
end Go.Proofs.YtgoemaecdolioaaGreatDoor

/-
  node: blocks of cells as one value; parts of a line; what a kind of line is.
-/
namespace Go.Proofs.YtgoemaecdolioaaGreatDoor
open Go.RowKit Go.Shelf

/-- A block that holds these cells. -/
def Blk (W : World) (b : Nat) (t : TypeId) (X : Array Value) : Prop := W.heap[b]? = some (.cells X t)
section
variable {W W' : World} {b : Nat} {t : TypeId} {X Y : Array Value}
theorem Blk.lt (h : Blk W b t X) : b < W.heap.size := (Array.getElem?_eq_some_iff.1 h).1
theorem Blk.new (W : World) (t : TypeId) (X : Array Value) : Blk (W.alloc (.cells X t)) W.heap.size t X := World.alloc_heap_new W _
theorem Blk.below {n : Nat} (h : Blk W b t X) (hb : Below n W W') (hl : b < n) : Blk W' b t X := (hb.block b hl).trans h
theorem Blk.turn {q : Nat → Prop} (h : Blk W b t X) (ht : Turn q W W') (hq : ¬ q b) : Blk W' b t X := (ht.block b h.lt hq).trans h
theorem Blk.keeps {p : Nat → Prop} (h : Blk W b t X) (hk : Keeps p W W') (hp : p b) : Blk W' b t X := (hk.2 b hp h.lt).trans h
theorem Blk.cell (h : Blk W b t X) {j : Nat} {v : Value} (hv : X[j]? = some v) : W.cell? ⟨b, j, none⟩ = some v := by
  rw [cell_of_row W b j X t _ h]; exact hv
theorem Blk.frozen (h : Blk W b t X) (j : Nat) : W.frozen? ⟨b, j, none⟩ = false := by
  unfold Blk at h
  simp [World.frozen?, h]
theorem Blk.set (h : Blk W b t X) (k : Nat) (v : Value) : Blk (W.setCell ⟨b, k, none⟩ v) b t (X.setIfInBounds k v) := by
  unfold Blk
  rw [setCell_eq_setRow W b k X t _ v h]
  exact setRow_heap W b _ _ _ _ h
theorem Blk.setOther (h : Blk W b t X) {c k : Nat} (v : Value) (hc : b ≠ c) : Blk (W.setCell ⟨c, k, none⟩ v) b t X := (Below.heap_setCell _ _ _ _ hc).trans h
variable {P : Program} {tt : TypeId} {dd : TypeDesc}
theorem Blk.loadVar (h : Blk W b t X) (hu : P.underlying tt = some dd) (hd : dd.isRow = true) (hi : (P.info? tt).map (·.size) = some X.size) : (loadVar tt ⟨b, 0, none⟩).run P W = .ok (.agg X) W := by
  have hr := World.rangeAt_of_block h 0 X.size
  rw [Nat.zero_add, Array.extract_size] at hr
  have := run_loadVar_mid (P := P) W b 0 tt X.toList dd hr hu hd (by rw [hi]; simp)
  simpa using this
theorem Blk.load (h : Blk W b t X) (hu : P.underlying tt = some dd) (hd : dd.isRow = true) (hi : (P.info? tt).map (·.size) = some X.size) : (Instr.loadAt tt (.pointer (some ⟨b, 0, none⟩))).run P W = .ok (.agg X) W := by
  simp only [Instr.loadAt, Instr.sureAddr, Sem.run_bind, Sem.run_pure, Result.andThen_ok, h.loadVar hu hd hi]
theorem setCells_blk : ∀ (vs : List Value) (o : Nat) (W : World) (X : Array Value), Blk W b t X → o + vs.length ≤ X.size → Blk (W.setCells b o vs) b t (X.toList.take o ++ vs ++ X.toList.drop (o + vs.length)).toArray ∧ Turn (fun k => k = b) W (W.setCells b o vs)
  | [], o, W, X, h, _ => ⟨by simpa [World.setCells] using h, Turn.refl _ _⟩
  | v :: r, o, W, X, h, ho => by
    rw [List.length_cons] at ho
    obtain ⟨h1, h2⟩ := setCells_blk r (o + 1) _ _ (h.set o v) (by rw [Array.size_setIfInBounds]; omega)
    refine ⟨?_, (Turn.setCell (q := fun k => k = b) W v rfl).trans h2⟩
    rw [World.setCells]
    have e : (X.setIfInBounds o v).toList.take (o + 1) ++ r ++ (X.setIfInBounds o v).toList.drop (o + 1 + r.length) = X.toList.take o ++ v :: r ++ X.toList.drop (o + (v :: r).length) := by
      rw [Array.toList_setIfInBounds, List.take_add_one, List.take_set_of_le (Nat.le_refl o), List.getElem?_set_self (by rw [Array.length_toList]; omega), List.drop_set_of_lt (by omega), List.length_cons, Nat.add_assoc, Nat.add_comm 1]
      simp
    rwa [e] at h1
theorem Blk.store (h : Blk W b t X) (hi : (P.info? tt).map (·.size) = some Y.size) (hs : Y.size = X.size) (h1 : Y.all (·.oneCell') = true) :
    ∃ W', (Instr.storeAt tt (.pointer (some ⟨b, 0, none⟩)) (.agg Y)).run P W = .ok () W' ∧ Blk W' b t Y ∧ Turn (fun k => k = b) W W' := by
  obtain ⟨h2, h3⟩ := setCells_blk Y.toList 0 W X h (by rw [Array.length_toList]; omega)
  refine ⟨_, run_storeAt_mid W b 0 tt Y (fun j hj => ?_) hi h1, ?_, h3⟩
  · rw [Nat.zero_add]
    refine ⟨?_, h.frozen j⟩
    rw [h.cell (v := X[j]'(by omega)) (Array.getElem?_eq_getElem _)]
    rfl
  · have e : (X.toList.take 0 ++ Y.toList ++ X.toList.drop (0 + Y.toList.length)).toArray = Y := by
      rw [List.take_zero, List.nil_append, List.drop_of_length_le (by simp; omega), List.append_nil]
    rwa [e] at h2
end
theorem results_cell_tmp {P : Program} {fn : Func} {tmps : Array Value} {w : World} {a t s b : Nat} {X v : Value} (hr : fn.results = #[.cell a t, .tmp s]) (ha : tmps.getD a undef = .pointer (some ⟨b, 0, none⟩)) (hl : (loadVar t ⟨b, 0, none⟩).run P w = .ok X w) (hs : tmps.getD s undef = v) : (results fn tmps).run P w = .ok (.tuple #[X, v]) w := by
  unfold results
  rw [hr]
  rw [Array.getD_eq_getD_getElem?] at ha hs
  simp [ha, hs, hl, asAddr]
theorem results_cell {P : Program} {fn : Func} {tmps : Array Value} {w : World} {a t b : Nat} {X : Value} (hr : fn.results = #[.cell a t]) (ha : tmps.getD a undef = .pointer (some ⟨b, 0, none⟩)) (hl : (loadVar t ⟨b, 0, none⟩).run P w = .ok X w) : (results fn tmps).run P w = .ok X w := by
  unfold results
  rw [hr]
  rw [Array.getD_eq_getD_getElem?] at ha
  simp [ha, hl, asAddr]
/-- What a part of a line does. -/
structure NdS where
  ok : Array Value → Bool
  wr : Array Value → List Int → List Int
  rd : List Int → Array Value → Option (Array Value)
/-- Eight words. -/
def Line8 (l : List Int) : Prop := l.length = 8 ∧ ∀ x ∈ l, 0 ≤ x ∧ x < 18446744073709551616
theorem Line8.set {l : List Int} (h : Line8 l) (k : Nat) {x : Int} (h0 : 0 ≤ x) (h1 : x < 18446744073709551616) : Line8 (l.set k x) :=
  ⟨by rw [List.length_set]; exact h.1, fun y hy => (List.mem_or_eq_of_mem_set hy).elim (h.2 y) fun e => by subst e; exact ⟨h0, h1⟩⟩
theorem nd_info {o : Option TypeInfo} {z : Option Value} {s b : Nat} (h : o.map (fun i => (i.zero, i.size, i.bytes)) = some (z, s, b)) : ∃ i, o = some i ∧ i.zero = z ∧ i.size = s ∧ i.bytes = b := by
  cases o with
  | none => cases h
  | some i =>
    simp only [Option.map_some, Option.some.injEq, Prod.mk.injEq] at h
    exact ⟨i, rfl, h.1, h.2.1, h.2.2⟩
/-- A part: three closures, and what they do. -/
structure PartV where
  f0 : FuncId
  l0 : Array Value
  f1 : FuncId
  l1 : Array Value
  f2 : FuncId
  l2 : Array Value
  S : NdS
abbrev PartV.v0 (p : PartV) : Value := .func (.func p.f0) #[] p.l0
abbrev PartV.v1 (p : PartV) : Value := .func (.func p.f1) #[] p.l1
abbrev PartV.v2 (p : PartV) : Value := .func (.func p.f2) #[] p.l2
end Go.Proofs.YtgoemaecdolioaaGreatDoor

/-
  append of a slice of numbers, nil or not, to a row of the call's own.
-/
namespace Go.Proofs.YtgoemaecdolioaaGreatDoor
open Go.RowKit

/-- Numbers as values. -/
def valsOf (k : IntKind) (l : List Nat) : List Value := l.map fun y : Nat => Value.int k (y : Nat)
theorem valsOf_length (k : IntKind) (l : List Nat) : (valsOf k l).length = l.length := by simp [valsOf]
theorem valsOf_append (k : IntKind) (a b : List Nat) : valsOf k (a ++ b) = valsOf k a ++ valsOf k b := by simp [valsOf]
theorem valsOf_one (k : IntKind) (l : List Nat) : ∀ u ∈ valsOf k l, u.oneCell' = true := by simp [valsOf, Value.oneCell']
theorem wpList_append_sl {P : Program} (w : World) {ops : Array Oper} {rest : List Oper} {o : Oper} {a : Act} {Q : Exit → Act → World → Prop}
    (hw : Region.wanted o (yielded ops a.tmps) = true) (s x : Operand) (t : TypeId) (hop : o.op = Op.call { callee := Callee.builtin Builtin.append, args := #[s, x], argTypes := #[t, t] })
    (base : Nat) (e : TypeId) (i : TypeInfo) (z : Value) (bytes : Nat) (k : IntKind) (h1 : P.underlying t = some (.slice e)) (h2 : P.info? e = some i) (h3 : i.zero = some z) (h4 : i.size = 1) (h5 : i.bytes = bytes) (h6 : z.cells.size = 1)
    (v : Value) (ys : List Nat) (hs : a.eval s = v) (hown : w.ownsRow base e 1 v ys.length (valsOf k ys)) (u : Value) (xs : List Nat) (hx : a.eval x = u) (hsl : Sl w k u xs)
    (b1 : ys.length + xs.length ≤ maxLen) (b2 : (ys.length + xs.length) * bytes ≤ 140737488355328) (b3 : base ≤ w.heap.size)
    (hK : ∀ v' w', w'.ownsRow base e 1 v' (ys ++ xs).length (valsOf k (ys ++ xs)) → w.grownBy w' v.ownBlock → (v'.ownBlock = v.ownBlock ∨ v'.ownBlock = some w.heap.size) → wpList P ops Q rest (a.put o.dst v') w') :
    wpList P ops Q (o :: rest) a w := by
  obtain ⟨ad, cap, rfl, hlc, hc⟩ := hsl
  refine BigFrame.wpList_want hw fun K hK' => ?_
  unfold Oper.wp execOp
  simp only [hop, resolve, invoke, builtin, Sem.run_bind, Sem.run_pure, Result.andThen_ok, List.map_toArray, List.map_cons, List.map_nil, hs, hx]
  rcases ad with _ | ad
  · have h0 : xs = [] := by
      rcases Nat.eq_zero_or_pos xs.length with h | h
      · exact List.eq_nil_of_length_eq_zero h
      · obtain ⟨b, off, hh, _⟩ := hc h
        cases hh
    subst h0
    have hrun : (Builtin.append_ #[t, t] o.type #[v, .slice none 0 cap]).run P w = .ok v w := by
      rcases hown.2 with ⟨rfl, e0⟩ | ⟨g, c, cur, rfl, _, _, hnc, _⟩
      · simp [Builtin.append_, run_underlying h1, sizeOf, typeInfo, h2, Builtin.lenOf, Builtin.firstCells]
      · simp [Builtin.append_, run_underlying h1, sizeOf, typeInfo, h2, Builtin.lenOf, Builtin.firstCells, hnc, storeCells]
    rw [show (([] : List Nat).length) = 0 from rfl, hrun]
    exact hK' _ _ (hK v w (by simpa using hown) (World.grownBy.refl w _) (.inl rfl))
  · have hcells : ∀ j y, (valsOf k xs)[j]? = some y → w.cell? (ad.add j) = some y := fun j y hy => by
      have hj : j < xs.length := by
        have := (List.getElem?_eq_some_iff.1 hy).1
        rwa [valsOf_length] at this
      obtain ⟨b, off, hh, _, hcell⟩ := hc (by omega)
      simp only [Option.some.injEq] at hh
      subst hh
      have e1 : (⟨b, off, none⟩ : Addr).add j = ⟨b, off + j, none⟩ := by
        unfold Addr.add; split <;> simp_all
      rw [e1, hcell j hj, ← hy]
      simp [valsOf, hj]
    obtain ⟨v', w', hrun, r1, r2, _, r3⟩ := run_append_own_at (P := P) w base t o.type e i z 1 bytes h1 h2 h3 h4 h5 h6 (by decide) v ys.length (valsOf k ys) hown ad xs.length cap (valsOf k xs) (by rw [valsOf_length, Nat.mul_one]) hcells (valsOf_one k xs) b1 b2 b3
    rw [hrun]
    exact hK' _ _ (hK v' w' (by rw [List.length_append, valsOf_append]; exact r1) r2 r3)
theorem own_sl {w : World} {base : Nat} {e : TypeId} {v : Value} {k : IntKind} {xs : List Nat} (h : w.ownsRow base e 1 v xs.length (valsOf k xs)) : Sl w k v xs := sl_of_owns h
end Go.Proofs.YtgoemaecdolioaaGreatDoor

/-
  Slices of numbers, cut: s[:k] and s[k:], nil let in, as one value of which is known what it holds.
-/
namespace Go.Proofs.YtgoemaecdolioaaGreatDoor
open Go.RowKit

theorem cut_from {P : Program} {t e : TypeId} {i : TypeInfo} (h1 : P.underlying t = some (.slice e)) (h2 : P.info? e = some i) (h3 : i.size = 1) {W : World} {kk : IntKind} {v : Value} {xs : List Nat} (hs : Sl W kk v xs) (k : Nat) (hk : k ≤ xs.length) :
    ∃ r, (∀ w, (Instr.sliceAt t v (some (.int .i64 k)) none none).run P w = .ok r w) ∧ (∀ W', Sl W' kk v xs → Sl W' kk r (xs.drop k)) := by
  obtain ⟨a, cap, rfl, hlc, -⟩ := hs
  have he : P.elem t = e := by simp [Program.elem, h1]
  have ht : P.underlying t = some (.slice (P.elem t)) := by rw [he]; exact h1
  refine ⟨.slice (if cap = k then a else a.map (·.add (k * 1))) (xs.length - k) (cap - k), fun w => ?_, fun W' hs' => ?_⟩
  · rw [run_sliceAt_slice w t _ _ _ _ ht, run_slice_l w t a xs.length cap ht .i64 (k : Int) (by omega) (by omega), he]
    simp [sizeOf, typeInfo, h2, h3, sliced, Result.andThen]
  · obtain ⟨a', c', e', hl', hc⟩ := hs'
    simp only [Value.slice.injEq] at e'
    obtain ⟨rfl, _, rfl⟩ := e'
    have hlen : (xs.drop k).length = xs.length - k := by rw [List.length_drop]
    refine ⟨_, cap - k, by rw [hlen], by omega, fun h0 => ?_⟩
    obtain ⟨b, off, rfl, h2, h3⟩ := hc (by omega)
    refine ⟨b, off + k, ?_, h2, fun j hj => ?_⟩
    · rw [if_neg (by omega)]
      simp only [Option.map_some, Addr.add, Nat.mul_one]
      split <;> simp_all
    · rw [Nat.add_assoc, h3 (k + j) (by omega)]
      simp
end Go.Proofs.YtgoemaecdolioaaGreatDoor

/-
  Contracts of the document's answers for fields (waterlineref01: Bit, With, Right, Get, Put), and num.
-/
namespace Go.Proofs.YtgoemaecdolioaaGreatDoor
open Go.RowKit

theorem quiet_left {P : Program} {f : FuncId} {args : Array Value} {w : World} {n : Nat} {v : Value}
    (h : Calls P f args (w.drewN n) fun e w' => e = .returned v ∧ w.drewN n = w') : Calls P f args (w.drewN n) fun e w'' => e = .returned v ∧ ∃ m, w'' = w.drewN m :=
  h.mono fun _ _ ⟨he, hm⟩ => ⟨he, n, hm.symm⟩
end Go.Proofs.YtgoemaecdolioaaGreatDoor

/-
  The contract of word.Put.
-/
namespace Go.Proofs.YtgoemaecdolioaaGreatDoor
open Go.RowKit
end Go.Proofs.YtgoemaecdolioaaGreatDoor

/-
  Contracts of word's split (words into bytes) and of slices.ContainsFunc at its predicate.
-/
namespace Go.Proofs.YtgoemaecdolioaaGreatDoor
open Go.RowKit Go.Shelf

theorem infoU8 : (Tryz.prog.info? 5).map (fun i => (i.zero, i.size, i.bytes)) = some (some (.int .u8 0), 1, 1) := by kernel_rfl
end Go.Proofs.YtgoemaecdolioaaGreatDoor

/-
  Contracts of slices.ContainsFunc at word's predicate, and of word.Bytes.
-/
namespace Go.Proofs.YtgoemaecdolioaaGreatDoor
open Go.RowKit Go.Shelf

end Go.Proofs.YtgoemaecdolioaaGreatDoor

/-
  The chapter's rows (waterlinelaw01.works) come out true.
-/
namespace Go.Proofs.YtgoemaecdolioaaGreatDoor
open Go.RowKit Go.Shelf
attribute [local go_sem] Oper.semAt_some

/-- The bytes as a string. -/
def strOf (xs : List Nat) : ByteArray := strOfNums (xs.map Int.ofNat)
theorem conv_sl {W : World} {v : Value} {xs : List Nat} (h : Sl W .u8 v xs) : (convert 23 9 v).run Tryz.prog W = .ok (.string (strOf xs)) W := by
  obtain ⟨a, cap, b, off, rfl, hlc, ha, hc⟩ := h.cell
  rcases Nat.eq_zero_or_pos xs.length with h0 | h0
  · obtain rfl := List.eq_nil_of_length_eq_zero h0
    rcases a with _ | a
    · exact run_convert_bytes_nil W 23 5 Tryz.underlying23 Tryz.underlying5 _ _ 9 Tryz.underlying9
    · rw [run_convert_bytes_string W 23 9 5 _ _ cap Tryz.underlying23 Tryz.underlying5 Tryz.underlying9]
      rw [run_bytesToString W a _ cap [] (by simp [loadCells, loadCellsFrom])]
      rfl
  · obtain rfl := ha h0
    exact run_convert_bytes_arg W 23 5 Tryz.underlying23 Tryz.underlying5 b off xs.length cap (xs.map Int.ofNat) (by simp) (fun i hi => by
      rw [(hc h0).2 i hi]
      simp [List.getElem?_eq_getElem hi]) 9 Tryz.underlying9
end Go.Proofs.YtgoemaecdolioaaGreatDoor
