/-
  Texts Held to Tri, as one.
-/
import Derived.Test.YtaebipopmefkpaaGreatDoorMn3
import Derived.OrdersHeld
import Derived.StillTail
import Derived.Deep.MidRow
import Derived.Laws.StructEq
import Derived.Laws.EntriesVeiled
import Derived.OwnWalkIn
/-
  A region that draws its order: what only reads comes first, as long as a condition on the world holds, which the operation that waits for all others need not keep.
-/
namespace Go.Proofs.YtaebipopmefkpaaGreatDoor
open Go.RowKit Go.Shelf

/-- What a slot written, a list's element are. -/
theorem elem_laws : (∀ {α : Type} (l : List α) (i : Nat) (h : i < l.toArray.size), l.toArray[i]'h = l[i]'(by simpa using h)) ∧ (∀ {α : Type} (x : α) (l : List α) (h : 0 < (x :: l).length), (x :: l)[0]'h = x) ∧ (∀ {α : Type} (x : α) (l : List α) (i : Nat) (h : i + 1 < (x :: l).length), (x :: l)[i + 1]'h = l[i]'(Nat.lt_of_succ_lt_succ h)) :=
  ⟨fun _ _ _ => rfl, fun _ _ _ => rfl, fun _ _ _ _ => rfl⟩
theorem put_laws : (∀ (a : Act) (d : Tmp) (v : Value), a.put (some d) v = { a with tmps := a.tmps.setIfInBounds d v }) ∧ (∀ (a : Act) (v : Value), a.put none v = a) ∧
    (∀ {α : Type} (l : List α) (i : Nat) (x : α), l.toArray.setIfInBounds i x = (l.set i x).toArray) ∧ (∀ {α : Type} (x y : α) (l : List α), (x :: l).set 0 y = y :: l) ∧ (∀ {α : Type} (x y : α) (l : List α) (i : Nat), (x :: l).set (i + 1) y = x :: l.set i y) ∧
    (∀ {α : Type} (l : List α) (i : Nat) (h : i < l.toArray.size), l.toArray[i]'h = l[i]'(by simpa using h)) ∧ (∀ {α : Type} (x : α) (l : List α) (h : 0 < (x :: l).length), (x :: l)[0]'h = x) ∧ (∀ {α : Type} (x : α) (l : List α) (i : Nat) (h : i + 1 < (x :: l).length), (x :: l)[i + 1]'h = l[i]'(Nat.lt_of_succ_lt_succ h)) :=
  ⟨fun _ _ _ => rfl, fun _ _ => rfl, fun _ _ _ => by simp, fun _ _ _ => rfl, fun _ _ _ _ => rfl, elem_laws⟩
section
variable {P : Program} {md : Region.Mode} {ops : Array Oper} {Q : Exit → Act → World → Prop} {m : Nat} {R : World → Prop}
/-- Till operation m has come up, R holds. -/
def Till (m : Nat) (R : World → Prop) (l : Array Bool) (w : World) : Prop := l.getD m true = false → R w
/-- Whatever order is drawn from here on; R holds till m has come up. -/
def wpAnyM (P : Program) (md : Region.Mode) (ops : Array Oper) (Q : Exit → Act → World → Prop) (m : Nat) (R : World → Prop) : Nat → Array Bool → Act → World → Prop
  | 0, l, a, w => wpAny P md ops Q 0 l a w
  | f + 1, l, a, w => (Region.ready md ops l = [] → Q .normal a w) ∧ ∀ i ∈ Region.ready md ops l, wpOp P ops Q i (fun a' w' => Till m R (l.setIfInBounds i true) w' ∧ wpAnyM P md ops Q m R f (l.setIfInBounds i true) a' w') a w
theorem wpAny_of_M : ∀ (f : Nat) (l : Array Bool) (a : Act) (w : World), wpAnyM P md ops Q m R f l a w → wpAny P md ops Q f l a w
  | 0, _, _, _, h => h
  | f + 1, _, _, _, h => ⟨h.1, fun i hi => wpOp_mono (fun a' w' h' => wpAny_of_M f _ a' w' h'.2) (h.2 i hi)⟩
theorem getD_set_true {l : Array Bool} {i j : Nat} (h : (l.setIfInBounds i true).getD j true = false) : l.getD j true = false := by
  by_cases e : i = j
  · subst e
    rcases Nat.lt_or_ge i l.size with h' | h'
    · simp [h'] at h
    · rw [Array.getD_eq_getD_getElem?, Array.getElem?_eq_none (by simpa using h')] at h
      cases h
  · rwa [getD_set_ne true e] at h
theorem Till.set {l : Array Bool} {w : World} (h : Till m R l w) (i : Nat) : Till m R (l.setIfInBounds i true) w := fun hl => h (getD_set_true hl)
theorem unlisted_not {l : Array Bool} {i j : Nat} {oj : Oper} (hj : j ∈ Region.ready md ops l) (hoj : ops[j]? = some oj) (hi : l.getD i true = false) : ∀ e ∈ oj.after, Region.binds md e = true → e.on ≠ i := fun e he hb heq => by
  obtain ⟨_, oj', hoj', hall⟩ := mem_ready.1 hj
  rw [hoj] at hoj'
  obtain rfl := Option.some.inj hoj'
  have h1 := hall e he hb
  rw [heq] at h1
  rcases Nat.lt_or_ge i l.size with h' | h'
  · simp [h'] at hi h1; rw [hi] at h1; cases h1
  · simp [Array.getElem?_eq_none h'] at h1
theorem wpAnyM_first {i : Nat} {oi : Oper} {v : Value} (hi : ops[i]? = some oi) (hsel : ∀ (j : Nat) (o : Oper) cs b, ops[j]? = some o → o.op ≠ .select cs b)
    (hQ : ∀ c a w, Q (.panic c) (a.put oi.dst v) w → Q (.panic c) a w) (hmi : m ≠ i) (hmw : Region.waitsFor md ops m i = true) : ∀ (f : Nat) (l : Array Bool) (a : Act) (w : World),
      (∀ j oj, ops[j]? = some oj → j ≠ i → l.getD j true = false → (∀ e ∈ oj.after, Region.binds md e = true → e.on ≠ i) → oi.apart ops oj = true) →
      i ∈ Region.ready md ops l → l.getD m true = false → YieldsIf P ops R oi v a → R w →
      wpAnyM P md ops Q m R f (l.setIfInBounds i true) (a.put oi.dst v) w → wpAnyM P md ops Q m R (f + 1) l a w
  | f, l, a, w, hfree, hr, hml, hy, hw, H => by
    have hil := (mem_ready.1 hr).1
    refine ⟨fun h => (by rw [h] at hr; cases hr), fun j hj => ?_⟩
    by_cases hji : j = i
    · subst hji
      exact hy.wpOp hi hw ⟨fun _ => hw, H⟩
    · have hrj := ready_mono hj hji
      cases f with
      | zero =>
        have h0 := H.1
        rw [h0] at hrj
        cases hrj
      | succ f =>
        obtain ⟨hjun, oj, hoj, -⟩ := mem_ready.1 hj
        have hnot := unlisted_not hj hoj hil
        have hjm : j ≠ m := by
          rintro rfl
          obtain ⟨om, hom, e, he, hb, hon⟩ := Region.waitsFor_spec hmw
          exact unlisted_not hj hom hil e he hb hon
        have h2 := wpOp_putIf hoj (hfree j oj hoj hji hjun hnot) (fun cs b => hsel i oi cs b hi) (fun cs b => hsel j oj cs b hoj) hQ hy (H.2 j hrj)
        refine wpOp_mono (fun a' w' h3 => ?_) h2
        obtain ⟨hya, hTa, hMa⟩ := h3
        have hml2 : (l.setIfInBounds j true).getD m true = false := by rw [getD_set_ne true hjm]; exact hml
        have hw2 : R w' := hTa (by rw [getD_set_ne true hjm, getD_set_ne true (Ne.symm hmi)]; exact hml)
        refine ⟨fun _ => hw2, wpAnyM_first hi hsel hQ hmi hmw f (l.setIfInBounds j true) a' w' (fun k ok hk hki hku hno => ?_) (ready_mono hr (Ne.symm hji)) hml2 hya hw2 ?_⟩
        · exact hfree k ok hk hki (getD_set_true hku) hno
        · rw [Array.setIfInBounds_comm _ _ hji]; exact hMa
/-- Number i comes first. -/
theorem wpAnyM_take {i : Nat} {oi : Oper} {v : Value} {f : Nat} {l : Array Bool} {a : Act} {w : World} (hi : ops[i]? = some oi) (hs : Region.noSelect ops = true)
    (hc : (Region.free md ops l i && (Region.ready md ops l).contains i && (m != i) && Region.waitsFor md ops m i && !(l.getD m true)) = true)
    (hQ : ∀ c a w, Q (.panic c) (a.put oi.dst v) w → Q (.panic c) a w) (hy : YieldsIf P ops R oi v a) (hw : R w)
    (h : wpAnyM P md ops Q m R f (l.setIfInBounds i true) (a.put oi.dst v) w) : wpAnyM P md ops Q m R (f + 1) l a w := by
  simp only [Bool.and_eq_true, bne_iff_ne, ne_eq, Bool.not_eq_true'] at hc
  obtain ⟨⟨⟨⟨h1, h2⟩, h3⟩, h4⟩, h5⟩ := hc
  exact wpAnyM_first hi (Region.noSelect_spec hs) hQ h3 h4 f l a w (Region.free_spec hi h1) (by simpa using h2) h5 hy hw h
/-- One alone may come up. -/
theorem wpAnyM_one {i : Nat} {oi : Oper} {f : Nat} {l : Array Bool} {a : Act} {w : World} (hi : ops[i]? = some oi) (hr : Region.ready md ops l = [i])
    (h : ∀ K : Act → World → Prop, (∀ a' w', ((l.setIfInBounds i true).getD m true = false → R w') → wpAnyM P md ops Q m R f (l.setIfInBounds i true) a' w' → K a' w') →
      if Region.wanted oi (yielded ops a.tmps) = true then Oper.wp P oi a w K Q else K (a.put oi.dst undef) w) : wpAnyM P md ops Q m R (f + 1) l a w := by
  refine ⟨fun h0 => (by rw [h0] at hr; cases hr), fun j hj => ?_⟩
  rw [hr] at hj
  obtain rfl : j = i := by simpa using hj
  unfold wpOp
  simp only [hi]
  have hh := h (fun a' w' => Till m R (l.setIfInBounds j true) w' ∧ wpAnyM P md ops Q m R f (l.setIfInBounds j true) a' w') fun a' w' h1 h2 => ⟨h1, h2⟩
  by_cases hwt : Region.wanted oi (yielded ops a.tmps) = true
  · rw [if_pos hwt] at hh ⊢; exact .inl hh
  · rw [if_neg hwt] at hh ⊢; exact hh
theorem wpAnyM_two {i j : Nat} {oi oj : Oper} {f : Nat} {l : Array Bool} {a : Act} {w : World} (hi : ops[i]? = some oi) (hj : ops[j]? = some oj) (hr : Region.ready md ops l = [i, j])
    (h : ∀ K : Act → World → Prop, (∀ a' w', ((l.setIfInBounds i true).getD m true = false → R w') → wpAnyM P md ops Q m R f (l.setIfInBounds i true) a' w' → K a' w') →
      if Region.wanted oi (yielded ops a.tmps) = true then Oper.wp P oi a w K Q else K (a.put oi.dst undef) w)
    (h' : ∀ K : Act → World → Prop, (∀ a' w', ((l.setIfInBounds j true).getD m true = false → R w') → wpAnyM P md ops Q m R f (l.setIfInBounds j true) a' w' → K a' w') →
      if Region.wanted oj (yielded ops a.tmps) = true then Oper.wp P oj a w K Q else K (a.put oj.dst undef) w) : wpAnyM P md ops Q m R (f + 1) l a w := by
  refine ⟨fun h0 => (by rw [h0] at hr; cases hr), fun k hk => ?_⟩
  rw [hr] at hk
  rcases (by simpa using hk : k = i ∨ k = j) with rfl | rfl
  · unfold wpOp
    simp only [hi]
    have hh := h (fun a' w' => Till m R (l.setIfInBounds k true) w' ∧ wpAnyM P md ops Q m R f (l.setIfInBounds k true) a' w') fun a' w' h1 h2 => ⟨h1, h2⟩
    by_cases hwt : Region.wanted oi (yielded ops a.tmps) = true
    · rw [if_pos hwt] at hh ⊢; exact .inl hh
    · rw [if_neg hwt] at hh ⊢; exact hh
  · unfold wpOp
    simp only [hj]
    have hh := h' (fun a' w' => Till m R (l.setIfInBounds k true) w' ∧ wpAnyM P md ops Q m R f (l.setIfInBounds k true) a' w') fun a' w' h1 h2 => ⟨h1, h2⟩
    by_cases hwt : Region.wanted oj (yielded ops a.tmps) = true
    · rw [if_pos hwt] at hh ⊢; exact .inl hh
    · rw [if_neg hwt] at hh ⊢; exact hh
/-- The one that waits for all. -/
theorem wpAnyM_last {om : Oper} {f : Nat} {l : Array Bool} {a : Act} {w : World} (hi : ops[m]? = some om) (hr : Region.ready md ops l = [m])
    (h : ∀ K : Act → World → Prop, (∀ a' w', wpAnyM P md ops Q m R f (l.setIfInBounds m true) a' w' → K a' w') →
      if Region.wanted om (yielded ops a.tmps) = true then Oper.wp P om a w K Q else K (a.put om.dst undef) w) : wpAnyM P md ops Q m R (f + 1) l a w :=
  wpAnyM_one hi hr fun K hK => h K fun a' w' hM => hK a' w' (fun h0 => by
    rcases Nat.lt_or_ge m l.size with h' | h'
    · simp [h'] at h0
    · rw [Array.getD_eq_getD_getElem?, Array.getElem?_eq_none (by simpa using h')] at h0
      cases h0) hM
/-- All have come up. -/
theorem wpAnyM_done {l : Array Bool} {a : Act} {w : World} (hr : Region.ready md ops l = []) (h : Q .normal a w) : ∀ f, wpAnyM P md ops Q m R f l a w
  | 0 => ⟨hr, h⟩
  | _ + 1 => ⟨fun _ => h, by rw [hr]; simp⟩
/-- The beginning. -/
theorem wp_region_M {id : Nat} {a : Act} {w : World} (m : Nat) (R : World → Prop) (hm : P.follows .mixedOrders = true)
    (h : wpAnyM P .any ops Q m R ops.size (Array.replicate ops.size false) a w.drew) : (Code.region id ops true).wp P Q a w :=
  wp_region_any hm (wpAny_of_M _ _ _ _ h)
end
end Go.Proofs.YtaebipopmefkpaaGreatDoor

/-
  A region that draws its order, inside a fence, in a round too: what only reads comes first, as long as a condition on the world holds, which the operation that waits for all others need not keep.
-/
namespace Go.Proofs.YtaebipopmefkpaaGreatDoor
open Go.RowKit Go.Shelf

section
variable {Fc : Fence} {n : Nat} {P : Program} {md : Region.Mode} {ops : Array Oper} {Q : Exit → Act → World → Prop} {m : Nat} {R : World → Prop}
/-- It only reads, and calls nothing. -/
def ReadsIf (P : Program) (ops : Array Oper) (R : World → Prop) (o : Oper) (v : Value) (a : Act) : Prop := YieldsIf P ops R o v a ∧ ∀ w, o.about P w a.eval = none
def NoDefers (ops : Array Oper) : Prop := ∀ (j : Nat) o, ops[j]? = some o → ∀ c, o.op ≠ .defer c
theorem noDefers_of {l : List Oper} (h : l.all noDefer = true) : NoDefers l.toArray := fun j o ho => noDefer_spec ((List.all_eq_true.1 h) o (List.mem_of_getElem? (by simpa using ho)))
theorem ReadsIf.wpOpIn {i : Nat} {o : Oper} {v : Value} {a : Act} (hd : NoDefers ops) (hi : ops[i]? = some o) (hy : ReadsIf P ops R o v a) {K : Act → World → Prop} {w : World} (hw : R w) (h : K (a.put o.dst v) w) : wpOpIn Fc n P ops Q i K a w := by
  have hab : ∀ f, o.about P w a.eval = some f → Fc.fn f := fun f hf => by rw [hy.2 w] at hf; cases hf
  unfold Go.wpOpIn
  simp only [hi]
  rcases hy.1 with ⟨h1, h2⟩ | ⟨h1, rfl⟩
  · rw [if_pos h1]
    unfold Oper.wpIn
    rw [Oper.semAt_plain _ _ _ (hd i o hi), h2 w hw]
    exact ⟨hab, h⟩
  · rw [if_neg (by rw [h1]; decide)]
    exact ⟨hab, h⟩
theorem wpOpIn_read {j : Nat} {oi oj : Oper} {v : Value} (hd : NoDefers ops) (hj : ops[j]? = some oj) (hap : oi.apart ops oj = true) (hsi : ∀ cs b, oi.op ≠ .select cs b) (hsj : ∀ cs b, oj.op ≠ .select cs b)
    (hQ : ∀ c a w, Q (.panic c) (a.put oi.dst v) w → Q (.panic c) a w) {K : Act → World → Prop} {a : Act} {w : World} (hy : ReadsIf P ops R oi v a) (h : wpOpIn Fc n P ops Q j K (a.put oi.dst v) w) :
    wpOpIn Fc n P ops Q j (fun a' w' => ReadsIf P ops R oi v a' ∧ K (a'.put oi.dst v) w') a w := by
  obtain ⟨h1, h2, h3⟩ := Oper.apart_spec hap
  have same : ∀ u, ReadsIf P ops R oi v (a.put oj.dst u) := fun u => ⟨hy.1.of_same (execOp_put oi hsi a oj.dst u h3) (wanted_put oi a oj.dst u h3), fun w => by rw [about_put oi w a oj.dst u h3]; exact hy.2 w⟩
  have turn : ∀ u w', K ((a.put oi.dst v).put oj.dst u) w' → ReadsIf P ops R oi v (a.put oj.dst u) ∧ K ((a.put oj.dst u).put oi.dst v) w' := fun u w' hk => ⟨same u, by rw [← Act.put_comm a v u h2]; exact hk⟩
  have hnd := hd j oj hj
  unfold Go.wpOpIn at h ⊢
  simp only [hj] at h ⊢
  rw [wanted_put oj a oi.dst v h1, about_put oj w a oi.dst v h1] at h
  by_cases hw : Region.wanted oj (yielded ops a.tmps) = true
  · rw [if_pos hw] at h ⊢
    unfold Oper.wpIn at h ⊢
    rw [about_put oj w a oi.dst v h1, Oper.semAt_plain _ _ _ hnd, execOp_put oj hsj a oi.dst v h1] at h
    rw [Oper.semAt_plain _ _ _ hnd]
    refine ⟨h.1, ?_⟩
    have h4 := h.2
    generalize hr : (execOp a.eval oj).run P w = r at *
    cases r with
    | halt x w' =>
      cases x <;> simp only [Oper.uponIn] at h4 ⊢
      case panic u => exact hQ _ _ _ h4
    | ok x w' =>
      cases x <;> simp only [Oper.uponIn] at h4 ⊢
      case value u => exact turn u w' h4
      case skip => exact turn _ w' h4
      case defer d =>
        have hyD : ReadsIf P ops R oi v { a with defers := d :: a.defers } := ⟨hy.1.of_same rfl rfl, fun w => hy.2 w⟩
        refine ⟨⟨hyD.1.of_same (execOp_put oi hsi _ oj.dst undef h3) (wanted_put oi _ oj.dst undef h3), fun w => by rw [about_put oi w _ oj.dst undef h3]; exact hyD.2 w⟩, ?_⟩
        rw [← Act.put_comm _ v undef h2, ← Act.put_defers]
        exact h4
      case enter f args =>
        refine ⟨h4.1, CallsIn.mono h4.2 fun e w'' he => ?_⟩
        cases e with
        | returned u => exact turn u w'' he
        | panicked c => exact hQ _ _ _ he
        | outgrown => exact he
      case row row args => exact ⟨h4.1, RowsIn.mono h4.2 fun u w'' he => turn u w'' he⟩
      case round l f tmps assign body =>
        refine ⟨h4.1, RoundIn.mono h4.2 fun e w'' he => ?_⟩
        cases e with
        | returned u => exact turn u w'' he
        | panicked c => exact hQ _ _ _ he
        | outgrown => exact he
  · rw [if_neg hw] at h ⊢
    exact ⟨h.1, turn _ w h.2⟩
def wpAnyN (Fc : Fence) (n : Nat) (P : Program) (md : Region.Mode) (ops : Array Oper) (Q : Exit → Act → World → Prop) (m : Nat) (R : World → Prop) : Nat → Array Bool → Act → World → Prop
  | 0, l, a, w => wpAnyIn Fc n P md ops Q 0 l a w
  | f + 1, l, a, w => (Region.ready md ops l = [] → Q .normal a w) ∧ ∀ i ∈ Region.ready md ops l, wpOpIn Fc n P ops Q i (fun a' w' => Till m R (l.setIfInBounds i true) w' ∧ wpAnyN Fc n P md ops Q m R f (l.setIfInBounds i true) a' w') a w
theorem wpAnyIn_of_N : ∀ (f : Nat) (l : Array Bool) (a : Act) (w : World), wpAnyN Fc n P md ops Q m R f l a w → wpAnyIn Fc n P md ops Q f l a w
  | 0, _, _, _, h => h
  | f + 1, _, _, _, h => ⟨h.1, fun i hi => wpOpIn_mono (fun a' w' h' => wpAnyIn_of_N f _ a' w' h'.2) (h.2 i hi)⟩
theorem wpAnyN_first {i : Nat} {oi : Oper} {v : Value} (hd : NoDefers ops) (hi : ops[i]? = some oi) (hsel : ∀ (j : Nat) (o : Oper) cs b, ops[j]? = some o → o.op ≠ .select cs b)
    (hQ : ∀ c a w, Q (.panic c) (a.put oi.dst v) w → Q (.panic c) a w) (hmi : m ≠ i) (hmw : Region.waitsFor md ops m i = true) : ∀ (f : Nat) (l : Array Bool) (a : Act) (w : World),
      (∀ j oj, ops[j]? = some oj → j ≠ i → l.getD j true = false → (∀ e ∈ oj.after, Region.binds md e = true → e.on ≠ i) → oi.apart ops oj = true) →
      i ∈ Region.ready md ops l → l.getD m true = false → ReadsIf P ops R oi v a → R w →
      wpAnyN Fc n P md ops Q m R f (l.setIfInBounds i true) (a.put oi.dst v) w → wpAnyN Fc n P md ops Q m R (f + 1) l a w
  | f, l, a, w, hfree, hr, hml, hy, hw, H => by
    have hil := (mem_ready.1 hr).1
    refine ⟨fun h => (by rw [h] at hr; cases hr), fun j hj => ?_⟩
    by_cases hji : j = i
    · subst hji
      exact hy.wpOpIn hd hi hw ⟨fun _ => hw, H⟩
    · have hrj := ready_mono hj hji
      cases f with
      | zero =>
        have h0 := H.1
        rw [h0] at hrj
        cases hrj
      | succ f =>
        obtain ⟨hjun, oj, hoj, -⟩ := mem_ready.1 hj
        have hnot := unlisted_not hj hoj hil
        have hjm : j ≠ m := by
          rintro rfl
          obtain ⟨om, hom, e, he, hb, hon⟩ := Region.waitsFor_spec hmw
          exact unlisted_not hj hom hil e he hb hon
        have h2 := wpOpIn_read hd hoj (hfree j oj hoj hji hjun hnot) (fun cs b => hsel i oi cs b hi) (fun cs b => hsel j oj cs b hoj) hQ hy (H.2 j hrj)
        refine wpOpIn_mono (fun a' w' h3 => ?_) h2
        obtain ⟨hya, hTa, hMa⟩ := h3
        have hml2 : (l.setIfInBounds j true).getD m true = false := by rw [getD_set_ne true hjm]; exact hml
        have hw2 : R w' := hTa (by rw [getD_set_ne true hjm, getD_set_ne true (Ne.symm hmi)]; exact hml)
        refine ⟨fun _ => hw2, wpAnyN_first hd hi hsel hQ hmi hmw f (l.setIfInBounds j true) a' w' (fun k ok hk hki hku hno => ?_) (ready_mono hr (Ne.symm hji)) hml2 hya hw2 ?_⟩
        · exact hfree k ok hk hki (getD_set_true hku) hno
        · rw [Array.setIfInBounds_comm _ _ hji]; exact hMa
theorem wpAnyN_take {i : Nat} {oi : Oper} {v : Value} {f : Nat} {l : Array Bool} {a : Act} {w : World} (hd : NoDefers ops) (hi : ops[i]? = some oi) (hs : Region.noSelect ops = true)
    (hc : (Region.free md ops l i && (Region.ready md ops l).contains i && (m != i) && Region.waitsFor md ops m i && !(l.getD m true)) = true)
    (hQ : ∀ c a w, Q (.panic c) (a.put oi.dst v) w → Q (.panic c) a w) (hb : ∀ w, oi.about P w a.eval = none) (hy : YieldsIf P ops R oi v a) (hw : R w)
    (h : wpAnyN Fc n P md ops Q m R f (l.setIfInBounds i true) (a.put oi.dst v) w) : wpAnyN Fc n P md ops Q m R (f + 1) l a w := by
  simp only [Bool.and_eq_true, bne_iff_ne, ne_eq, Bool.not_eq_true'] at hc
  obtain ⟨⟨⟨⟨h1, h2⟩, h3⟩, h4⟩, h5⟩ := hc
  exact wpAnyN_first hd hi (Region.noSelect_spec hs) hQ h3 h4 f l a w (Region.free_spec hi h1) (by simpa using h2) h5 ⟨hy, hb⟩ hw h
theorem wpAnyN_one {i : Nat} {oi : Oper} {f : Nat} {l : Array Bool} {a : Act} {w : World} (hi : ops[i]? = some oi) (hr : Region.ready md ops l = [i]) (hg : Region.wanted oi (yielded ops a.tmps) = true)
    (h : ∀ K : Act → World → Prop, (∀ a' w', ((l.setIfInBounds i true).getD m true = false → R w') → wpAnyN Fc n P md ops Q m R f (l.setIfInBounds i true) a' w' → K a' w') → Oper.wpIn Fc n P oi a w K Q) : wpAnyN Fc n P md ops Q m R (f + 1) l a w := by
  refine ⟨fun h0 => (by rw [h0] at hr; cases hr), fun j hj => ?_⟩
  rw [hr] at hj
  obtain rfl : j = i := by simpa using hj
  unfold wpOpIn
  simp only [hi]
  rw [if_pos hg]
  exact h _ fun a' w' h1 h2 => ⟨h1, h2⟩
theorem wpAnyN_last {om : Oper} {f : Nat} {l : Array Bool} {a : Act} {w : World} (hi : ops[m]? = some om) (hr : Region.ready md ops l = [m]) (hg : Region.wanted om (yielded ops a.tmps) = true)
    (h : ∀ K : Act → World → Prop, (∀ a' w', wpAnyN Fc n P md ops Q m R f (l.setIfInBounds m true) a' w' → K a' w') → Oper.wpIn Fc n P om a w K Q) : wpAnyN Fc n P md ops Q m R (f + 1) l a w :=
  wpAnyN_one hi hr hg fun K hK => h K fun a' w' hM => hK a' w' (fun h0 => by
    rcases Nat.lt_or_ge m l.size with h' | h'
    · simp [h'] at h0
    · rw [Array.getD_eq_getD_getElem?, Array.getElem?_eq_none (by simpa using h')] at h0
      cases h0) hM
theorem wpAnyN_done {l : Array Bool} {a : Act} {w : World} (hr : Region.ready md ops l = []) (h : Q .normal a w) : ∀ f, wpAnyN Fc n P md ops Q m R f l a w
  | 0 => ⟨hr, h⟩
  | _ + 1 => ⟨fun _ => h, by rw [hr]; simp⟩
theorem wpIn_region_N {id : Nat} {a : Act} {w : World} (m : Nat) (R : World → Prop) (hm : P.follows .mixedOrders = true)
    (h : wpAnyN Fc n P .any ops Q m R ops.size (Array.replicate ops.size false) a w.drew) : (Code.region id ops true).wpIn Fc n P Q a w :=
  wpIn_region_any hm (wpAnyIn_of_N _ _ _ _ h)
/-- A load of which the run is known. -/
theorem wpIn_load_eq {w : World} {a : Act} {o : Oper} {K : Act → World → Prop} (ty : TypeId) (x : Operand) (ho : o.op = .load ty x) (p v : Value) (hx : a.eval x = p) (hr : (Instr.loadAt ty p).run P w = .ok v w) (h : K (a.put o.dst v) w) : o.wpIn Fc n P a w K Q := by
  unfold Oper.wpIn
  refine ⟨by simp [Oper.about, ho], ?_⟩
  rw [Oper.semAt_plain Fc _ _ (by rw [ho]; intro c hc; cases hc)]
  unfold execOp
  simp only [ho, hx, hr, Sem.run_bind, Result.andThen_ok]
  exact h
theorem wpIn_store_eq {w w' : World} {a : Act} {o : Oper} {K : Act → World → Prop} (ty : TypeId) (x y : Operand) (ho : o.op = .store ty x y) (p v : Value) (hx : a.eval x = p) (hy : a.eval y = v) (hr : (Instr.storeAt ty p v).run P w = .ok () w') (h : K (a.put o.dst undef) w') : o.wpIn Fc n P a w K Q := by
  unfold Oper.wpIn
  refine ⟨by simp [Oper.about, ho], ?_⟩
  rw [Oper.semAt_plain Fc _ _ (by rw [ho]; intro c hc; cases hc)]
  unfold execOp
  simp only [ho, hx, hy, hr, Sem.run_bind, Result.andThen_ok]
  exact h
theorem wpListIn_load_eq {w : World} {a : Act} {o : Oper} {rest : List Oper} (hgd : o.guard = none) (ty : TypeId) (x : Operand) (ho : o.op = .load ty x) (p v : Value) (hx : a.eval x = p) (hr : (Instr.loadAt ty p).run P w = .ok v w) (h : wpListIn Fc n P ops Q rest (a.put o.dst v) w) : wpListIn Fc n P ops Q (o :: rest) a w :=
  wpListIn_plain hgd fun _ hK => wpIn_load_eq ty x ho p v hx hr (hK _ _ h)
theorem wpListIn_store_eq {w w' : World} {a : Act} {o : Oper} {rest : List Oper} (hgd : o.guard = none) (ty : TypeId) (x y : Operand) (ho : o.op = .store ty x y) (p v : Value) (hx : a.eval x = p) (hy : a.eval y = v) (hr : (Instr.storeAt ty p v).run P w = .ok () w') (h : wpListIn Fc n P ops Q rest (a.put o.dst undef) w') : wpListIn Fc n P ops Q (o :: rest) a w :=
  wpListIn_plain hgd fun _ hK => wpIn_store_eq ty x y ho p v hx hy hr (hK _ _ h)
end
end Go.Proofs.YtaebipopmefkpaaGreatDoor

/-
  As in HeldIn: the operation that comes last need not wait for each one itself.
-/
namespace Go.Proofs.YtaebipopmefkpaaGreatDoor
open Go.RowKit Go.Shelf

section
variable {Fc : Fence} {n : Nat} {P : Program} {md : Region.Mode} {ops : Array Oper} {Q : Exit → Act → World → Prop} {m : Nat} {R : World → Prop}
/-- What the listed ones wait for is listed. -/
def Closed (md : Region.Mode) (ops : Array Oper) (l : Array Bool) : Prop := ∀ j oj, ops[j]? = some oj → l.getD j false = true → ∀ e ∈ oj.after, Region.binds md e = true → l.getD e.on false = true
def closedB (md : Region.Mode) (ops : Array Oper) (l : Array Bool) : Bool := (List.range ops.size).all fun j => match ops[j]? with
  | some oj => !(l.getD j false) || oj.after.all fun e => !(Region.binds md e) || l.getD e.on false
  | none => true
theorem closedB_spec {l : Array Bool} (h : closedB md ops l = true) : Closed md ops l := fun j oj hj hl e he hb => by
  have h1 := List.all_eq_true.1 h j (List.mem_range.2 (Array.getElem?_eq_some_iff.1 hj).1)
  simp only [hj, hl, Bool.not_true, Bool.false_or] at h1
  have h2 := Array.all_eq_true_iff_forall_mem.1 h1 e he
  simpa [hb] using h2
theorem Closed.set {l : Array Bool} {i : Nat} (h : Closed md ops l) (hi : i ∈ Region.ready md ops l) : Closed md ops (l.setIfInBounds i true) := fun j oj hj hl e he hb => by
  obtain ⟨_, oi, hoi, hall⟩ := mem_ready.1 hi
  by_cases hij : i = j
  · subst hij
    have : oj = oi := Option.some.inj (hj.symm.trans hoi)
    subst this
    exact Go.getD_set_true (hall e he hb)
  · rw [getD_set_ne false hij] at hl
    exact Go.getD_set_true (h j oj hj hl e he hb)
/-- m comes after i. -/
def late (md : Region.Mode) (ops : Array Oper) (i : Nat) : Nat → Nat → Bool
  | 0, m => Region.waitsFor md ops m i
  | f + 1, m => Region.waitsFor md ops m i || (List.range ops.size).any fun j => Region.waitsFor md ops m j && late md ops i f j
theorem late_spec {l : Array Bool} {i : Nat} (h : Closed md ops l) (hi : l.getD i true = false) : ∀ (f m : Nat), late md ops i f m = true → ∃ om, ops[m]? = some om ∧ ∃ e ∈ om.after, Region.binds md e = true ∧ l.getD e.on false = false
  | 0, m, hm => by
    obtain ⟨om, h1, e, h2, h3, h4⟩ := Region.waitsFor_spec hm
    exact ⟨om, h1, e, h2, h3, by rw [h4]; exact getD_both hi⟩
  | f + 1, m, hm => by
    unfold late at hm
    rcases Bool.or_eq_true_iff.1 hm with hm | hm
    · obtain ⟨om, h1, e, h2, h3, h4⟩ := Region.waitsFor_spec hm
      exact ⟨om, h1, e, h2, h3, by rw [h4]; exact getD_both hi⟩
    · obtain ⟨j, -, hj⟩ := List.any_eq_true.1 hm
      rw [Bool.and_eq_true] at hj
      obtain ⟨om, h1, e, h2, h3, h4⟩ := Region.waitsFor_spec hj.1
      obtain ⟨oj, k1, e', k2, k3, k4⟩ := late_spec h hi f j hj.2
      refine ⟨om, h1, e, h2, h3, ?_⟩
      rw [h4]
      cases hl : l.getD j false with
      | false => rfl
      | true => rw [h j oj k1 hl e' k2 k3] at k4; cases k4
theorem late_not {l : Array Bool} {i f : Nat} (h : Closed md ops l) (hi : l.getD i true = false) (hm : late md ops i f m = true) : m ∉ Region.ready md ops l := fun hr => by
  obtain ⟨om, h1, e, h2, h3, h4⟩ := late_spec h hi f m hm
  obtain ⟨_, om', h1', hall⟩ := mem_ready.1 hr
  have : om = om' := Option.some.inj (h1.symm.trans h1')
  subst this
  rw [hall e h2 h3] at h4
  cases h4
theorem wpAnyN_first2 {i k : Nat} {oi : Oper} {v : Value} (hd : NoDefers ops) (hi : ops[i]? = some oi) (hsel : ∀ (j : Nat) (o : Oper) cs b, ops[j]? = some o → o.op ≠ .select cs b)
    (hQ : ∀ c a w, Q (.panic c) (a.put oi.dst v) w → Q (.panic c) a w) (hmi : m ≠ i) (hmw : late md ops i k m = true) : ∀ (f : Nat) (l : Array Bool) (a : Act) (w : World),
      (∀ j oj, ops[j]? = some oj → j ≠ i → j ≠ m → l.getD j true = false → (∀ e ∈ oj.after, Region.binds md e = true → e.on ≠ i) → oi.apart ops oj = true) →
      i ∈ Region.ready md ops l → l.getD m true = false → Closed md ops l → ReadsIf P ops R oi v a → R w →
      wpAnyN Fc n P md ops Q m R f (l.setIfInBounds i true) (a.put oi.dst v) w → wpAnyN Fc n P md ops Q m R (f + 1) l a w
  | f, l, a, w, hfree, hr, hml, hcl, hy, hw, H => by
    have hil := (mem_ready.1 hr).1
    refine ⟨fun h => (by rw [h] at hr; cases hr), fun j hj => ?_⟩
    by_cases hji : j = i
    · subst hji
      exact hy.wpOpIn hd hi hw ⟨fun _ => hw, H⟩
    · have hrj := ready_mono hj hji
      cases f with
      | zero =>
        have h0 := H.1
        rw [h0] at hrj
        cases hrj
      | succ f =>
        obtain ⟨hjun, oj, hoj, -⟩ := mem_ready.1 hj
        have hnot := unlisted_not hj hoj hil
        have hjm : j ≠ m := by
          rintro rfl
          exact late_not hcl hil hmw hj
        have h2 := wpOpIn_read hd hoj (hfree j oj hoj hji hjm hjun hnot) (fun cs b => hsel i oi cs b hi) (fun cs b => hsel j oj cs b hoj) hQ hy (H.2 j hrj)
        refine wpOpIn_mono (fun a' w' h3 => ?_) h2
        obtain ⟨hya, hTa, hMa⟩ := h3
        have hml2 : (l.setIfInBounds j true).getD m true = false := by rw [getD_set_ne true hjm]; exact hml
        have hw2 : R w' := hTa (by rw [getD_set_ne true hjm, getD_set_ne true (Ne.symm hmi)]; exact hml)
        refine ⟨fun _ => hw2, wpAnyN_first2 hd hi hsel hQ hmi hmw f (l.setIfInBounds j true) a' w' (fun k ok hk hki hkm hku hno => ?_) (ready_mono hr (Ne.symm hji)) hml2 (hcl.set hj) hya hw2 ?_⟩
        · exact hfree k ok hk hki hkm (getD_set_true hku) hno
        · rw [Array.setIfInBounds_comm _ _ hji]; exact hMa
/-- free, m aside. -/
def freeM (md : Region.Mode) (ops : Array Oper) (l : Array Bool) (m i : Nat) : Bool :=
  match ops[i]? with
  | none => false
  | some oi => (List.range ops.size).all fun j => j == i || j == m || l.getD j true || match ops[j]? with
      | some oj => oj.after.any (fun e => Region.binds md e && e.on == i) || oi.apart ops oj
      | none => true
theorem freeM_spec {i : Nat} {oi : Oper} {l : Array Bool} (hi : ops[i]? = some oi) (h : freeM md ops l m i = true) (j : Nat) (oj : Oper)
    (hj : ops[j]? = some oj) (hne : j ≠ i) (hnm : j ≠ m) (hun : l.getD j true = false) (hno : ∀ e ∈ oj.after, Region.binds md e = true → e.on ≠ i) : oi.apart ops oj = true := by
  simp only [freeM, hi, List.all_eq_true, List.mem_range] at h
  have h1 := h j (Array.getElem?_eq_some_iff.1 hj).1
  simp only [hj, hun, Bool.or_false, Bool.or_eq_true, beq_iff_eq, hne, hnm, false_or] at h1
  rcases h1 with h1 | h1
  · obtain ⟨e, he, hb⟩ := Array.any_eq_true'.1 h1
    simp only [Bool.and_eq_true, beq_iff_eq] at hb
    exact absurd hb.2 (hno e he hb.1)
  · exact h1
theorem wpAnyN_take2 {i : Nat} {oi : Oper} {v : Value} {f : Nat} {l : Array Bool} {a : Act} {w : World} (k : Nat) (hd : NoDefers ops) (hi : ops[i]? = some oi) (hs : Region.noSelect ops = true)
    (hc : (freeM md ops l m i && (Region.ready md ops l).contains i && (m != i) && late md ops i k m && !(l.getD m true) && closedB md ops l) = true)
    (hQ : ∀ c a w, Q (.panic c) (a.put oi.dst v) w → Q (.panic c) a w) (hb : ∀ w, oi.about P w a.eval = none) (hy : YieldsIf P ops R oi v a) (hw : R w)
    (h : wpAnyN Fc n P md ops Q m R f (l.setIfInBounds i true) (a.put oi.dst v) w) : wpAnyN Fc n P md ops Q m R (f + 1) l a w := by
  simp only [Bool.and_eq_true, bne_iff_ne, ne_eq, Bool.not_eq_true'] at hc
  obtain ⟨⟨⟨⟨⟨h1, h2⟩, h3⟩, h4⟩, h5⟩, h6⟩ := hc
  exact wpAnyN_first2 hd hi (Region.noSelect_spec hs) hQ h3 h4 f l a w (freeM_spec hi h1) (by simpa using h2) h5 (closedB_spec h6) ⟨hy, hb⟩ hw h
end
end Go.Proofs.YtaebipopmefkpaaGreatDoor

/-
  As in HeldFar, outside of a fence.
-/
namespace Go.Proofs.YtaebipopmefkpaaGreatDoor
open Go.RowKit Go.Shelf

section
variable {P : Program} {md : Region.Mode} {ops : Array Oper} {Q : Exit → Act → World → Prop} {m : Nat} {R : World → Prop}
theorem wpAnyM_first2 {i k : Nat} {oi : Oper} {v : Value} (hi : ops[i]? = some oi) (hsel : ∀ (j : Nat) (o : Oper) cs b, ops[j]? = some o → o.op ≠ .select cs b)
    (hQ : ∀ c a w, Q (.panic c) (a.put oi.dst v) w → Q (.panic c) a w) (hmi : m ≠ i) (hmw : late md ops i k m = true) : ∀ (f : Nat) (l : Array Bool) (a : Act) (w : World),
      (∀ j oj, ops[j]? = some oj → j ≠ i → j ≠ m → l.getD j true = false → (∀ e ∈ oj.after, Region.binds md e = true → e.on ≠ i) → oi.apart ops oj = true) →
      i ∈ Region.ready md ops l → l.getD m true = false → Closed md ops l → YieldsIf P ops R oi v a → R w →
      wpAnyM P md ops Q m R f (l.setIfInBounds i true) (a.put oi.dst v) w → wpAnyM P md ops Q m R (f + 1) l a w
  | f, l, a, w, hfree, hr, hml, hcl, hy, hw, H => by
    have hil := (mem_ready.1 hr).1
    refine ⟨fun h => (by rw [h] at hr; cases hr), fun j hj => ?_⟩
    by_cases hji : j = i
    · subst hji
      exact hy.wpOp hi hw ⟨fun _ => hw, H⟩
    · have hrj := ready_mono hj hji
      cases f with
      | zero =>
        have h0 := H.1
        rw [h0] at hrj
        cases hrj
      | succ f =>
        obtain ⟨hjun, oj, hoj, -⟩ := mem_ready.1 hj
        have hnot := unlisted_not hj hoj hil
        have hjm : j ≠ m := by
          rintro rfl
          exact late_not hcl hil hmw hj
        have h2 := wpOp_putIf hoj (hfree j oj hoj hji hjm hjun hnot) (fun cs b => hsel i oi cs b hi) (fun cs b => hsel j oj cs b hoj) hQ hy (H.2 j hrj)
        refine wpOp_mono (fun a' w' h3 => ?_) h2
        obtain ⟨hya, hTa, hMa⟩ := h3
        have hml2 : (l.setIfInBounds j true).getD m true = false := by rw [getD_set_ne true hjm]; exact hml
        have hw2 : R w' := hTa (by rw [getD_set_ne true hjm, getD_set_ne true (Ne.symm hmi)]; exact hml)
        refine ⟨fun _ => hw2, wpAnyM_first2 hi hsel hQ hmi hmw f (l.setIfInBounds j true) a' w' (fun k ok hk hki hkm hku hno => ?_) (ready_mono hr (Ne.symm hji)) hml2 (hcl.set hj) hya hw2 ?_⟩
        · exact hfree k ok hk hki hkm (getD_set_true hku) hno
        · rw [Array.setIfInBounds_comm _ _ hji]; exact hMa
theorem wpAnyM_take2 {i : Nat} {oi : Oper} {v : Value} {f : Nat} {l : Array Bool} {a : Act} {w : World} (k : Nat) (hi : ops[i]? = some oi) (hs : Region.noSelect ops = true)
    (hc : (freeM md ops l m i && (Region.ready md ops l).contains i && (m != i) && late md ops i k m && !(l.getD m true) && closedB md ops l) = true)
    (hQ : ∀ c a w, Q (.panic c) (a.put oi.dst v) w → Q (.panic c) a w) (hy : YieldsIf P ops R oi v a) (hw : R w)
    (h : wpAnyM P md ops Q m R f (l.setIfInBounds i true) (a.put oi.dst v) w) : wpAnyM P md ops Q m R (f + 1) l a w := by
  simp only [Bool.and_eq_true, bne_iff_ne, ne_eq, Bool.not_eq_true'] at hc
  obtain ⟨⟨⟨⟨⟨h1, h2⟩, h3⟩, h4⟩, h5⟩, h6⟩ := hc
  exact wpAnyM_first2 hi (Region.noSelect_spec hs) hQ h3 h4 f l a w (freeM_spec hi h1) (by simpa using h2) h5 (closedB_spec h6) hy hw h
end
end Go.Proofs.YtaebipopmefkpaaGreatDoor

/-
  node: blocks of cells as one value; parts of a line; what a kind of line is.
-/
namespace Go.Proofs.YtaebipopmefkpaaGreatDoor
open Go.RowKit Go.Shelf

/-- A block that holds these cells. -/
def Blk (W : World) (b : Nat) (t : TypeId) (X : Array Value) : Prop := W.heap[b]? = some (.cells X t)
section
variable {W W' : World} {b : Nat} {t : TypeId} {X Y : Array Value}
theorem Blk.lt (h : Blk W b t X) : b < W.heap.size := (Array.getElem?_eq_some_iff.1 h).1
theorem Blk.new (W : World) (t : TypeId) (X : Array Value) : Blk (W.alloc (.cells X t)) W.heap.size t X := World.alloc_heap_new W _
theorem Blk.below {n : Nat} (h : Blk W b t X) (hb : Below n W W') (hl : b < n) : Blk W' b t X := (hb.block b hl).trans h
theorem Blk.turn {q : Nat → Prop} (h : Blk W b t X) (ht : Turn q W W') (hq : ¬ q b) : Blk W' b t X := (ht.block b h.lt hq).trans h
theorem Blk.keeps {p : Nat → Prop} (h : Blk W b t X) (hk : Keeps p W W') (hp : p b) : Blk W' b t X := (hk.2 b hp h.lt).trans h
theorem Blk.cell (h : Blk W b t X) {j : Nat} {v : Value} (hv : X[j]? = some v) : W.cell? ⟨b, j, none⟩ = some v := by
  rw [cell_of_row W b j X t _ h]; exact hv
theorem Blk.frozen (h : Blk W b t X) (j : Nat) : W.frozen? ⟨b, j, none⟩ = false := by
  unfold Blk at h
  simp [World.frozen?, h]
theorem Blk.set (h : Blk W b t X) (k : Nat) (v : Value) : Blk (W.setCell ⟨b, k, none⟩ v) b t (X.setIfInBounds k v) := by
  unfold Blk
  rw [setCell_eq_setRow W b k X t _ v h]
  exact setRow_heap W b _ _ _ _ h
theorem Blk.setOther (h : Blk W b t X) {c k : Nat} (v : Value) (hc : b ≠ c) : Blk (W.setCell ⟨c, k, none⟩ v) b t X := (Below.heap_setCell _ _ _ _ hc).trans h
variable {P : Program} {tt : TypeId} {dd : TypeDesc}
theorem Blk.loadVar (h : Blk W b t X) (hu : P.underlying tt = some dd) (hd : dd.isRow = true) (hi : (P.info? tt).map (·.size) = some X.size) : (loadVar tt ⟨b, 0, none⟩).run P W = .ok (.agg X) W := by
  have hr := World.rangeAt_of_block h 0 X.size
  rw [Nat.zero_add, Array.extract_size] at hr
  have := run_loadVar_mid (P := P) W b 0 tt X.toList dd hr hu hd (by rw [hi]; simp)
  simpa using this
theorem Blk.load (h : Blk W b t X) (hu : P.underlying tt = some dd) (hd : dd.isRow = true) (hi : (P.info? tt).map (·.size) = some X.size) : (Instr.loadAt tt (.pointer (some ⟨b, 0, none⟩))).run P W = .ok (.agg X) W := by
  simp only [Instr.loadAt, Instr.sureAddr, Sem.run_bind, Sem.run_pure, Result.andThen_ok, h.loadVar hu hd hi]
theorem setCells_blk : ∀ (vs : List Value) (o : Nat) (W : World) (X : Array Value), Blk W b t X → o + vs.length ≤ X.size → Blk (W.setCells b o vs) b t (X.toList.take o ++ vs ++ X.toList.drop (o + vs.length)).toArray ∧ Turn (fun k => k = b) W (W.setCells b o vs)
  | [], o, W, X, h, _ => ⟨by simpa [World.setCells] using h, Turn.refl _ _⟩
  | v :: r, o, W, X, h, ho => by
    rw [List.length_cons] at ho
    obtain ⟨h1, h2⟩ := setCells_blk r (o + 1) _ _ (h.set o v) (by rw [Array.size_setIfInBounds]; omega)
    refine ⟨?_, (Turn.setCell (q := fun k => k = b) W v rfl).trans h2⟩
    rw [World.setCells]
    have e : (X.setIfInBounds o v).toList.take (o + 1) ++ r ++ (X.setIfInBounds o v).toList.drop (o + 1 + r.length) = X.toList.take o ++ v :: r ++ X.toList.drop (o + (v :: r).length) := by
      rw [Array.toList_setIfInBounds, List.take_add_one, List.take_set_of_le (Nat.le_refl o), List.getElem?_set_self (by rw [Array.length_toList]; omega), List.drop_set_of_lt (by omega), List.length_cons, Nat.add_assoc, Nat.add_comm 1]
      simp
    rwa [e] at h1
theorem Blk.store (h : Blk W b t X) (hi : (P.info? tt).map (·.size) = some Y.size) (hs : Y.size = X.size) (h1 : Y.all (·.oneCell') = true) :
    ∃ W', (Instr.storeAt tt (.pointer (some ⟨b, 0, none⟩)) (.agg Y)).run P W = .ok () W' ∧ Blk W' b t Y ∧ Turn (fun k => k = b) W W' := by
  obtain ⟨h2, h3⟩ := setCells_blk Y.toList 0 W X h (by rw [Array.length_toList]; omega)
  refine ⟨_, run_storeAt_mid W b 0 tt Y (fun j hj => ?_) hi h1, ?_, h3⟩
  · rw [Nat.zero_add]
    refine ⟨?_, h.frozen j⟩
    rw [h.cell (v := X[j]'(by omega)) (Array.getElem?_eq_getElem _)]
    rfl
  · have e : (X.toList.take 0 ++ Y.toList ++ X.toList.drop (0 + Y.toList.length)).toArray = Y := by
      rw [List.take_zero, List.nil_append, List.drop_of_length_le (by simp; omega), List.append_nil]
    rwa [e] at h2
end
theorem results_cell_tmp {P : Program} {fn : Func} {tmps : Array Value} {w : World} {a t s b : Nat} {X v : Value} (hr : fn.results = #[.cell a t, .tmp s]) (ha : tmps.getD a undef = .pointer (some ⟨b, 0, none⟩)) (hl : (loadVar t ⟨b, 0, none⟩).run P w = .ok X w) (hs : tmps.getD s undef = v) : (results fn tmps).run P w = .ok (.tuple #[X, v]) w := by
  unfold results
  rw [hr]
  rw [Array.getD_eq_getD_getElem?] at ha hs
  simp [ha, hs, hl, asAddr]
theorem results_cell_cell {P : Program} {fn : Func} {tmps : Array Value} {w : World} {a t s u b c : Nat} {X Y : Value} (hr : fn.results = #[.cell a t, .cell s u]) (ha : tmps.getD a undef = .pointer (some ⟨b, 0, none⟩)) (hl : (loadVar t ⟨b, 0, none⟩).run P w = .ok X w) (hs : tmps.getD s undef = .pointer (some ⟨c, 0, none⟩)) (hm : (loadVar u ⟨c, 0, none⟩).run P w = .ok Y w) : (results fn tmps).run P w = .ok (.tuple #[X, Y]) w := by
  unfold results
  rw [hr]
  rw [Array.getD_eq_getD_getElem?] at ha hs
  simp [ha, hs, hl, hm, asAddr]
theorem results_cell {P : Program} {fn : Func} {tmps : Array Value} {w : World} {a t b : Nat} {X : Value} (hr : fn.results = #[.cell a t]) (ha : tmps.getD a undef = .pointer (some ⟨b, 0, none⟩)) (hl : (loadVar t ⟨b, 0, none⟩).run P w = .ok X w) : (results fn tmps).run P w = .ok X w := by
  unfold results
  rw [hr]
  rw [Array.getD_eq_getD_getElem?] at ha
  simp [ha, hl, asAddr]
/-- What a part of a line does. -/
structure NdS where
  ok : Array Value → Bool
  wr : Array Value → List Int → List Int
  rd : List Int → Array Value → Option (Array Value)
/-- Eight words. -/
def Line8 (l : List Int) : Prop := l.length = 8 ∧ ∀ x ∈ l, 0 ≤ x ∧ x < 18446744073709551616
/-- Their cells. -/
def lnA (l : List Int) : Array Value := (l.map (Value.int .u64)).toArray
theorem lnA_size (l : List Int) : (lnA l).size = l.length := by simp [lnA]
theorem lnA_one (l : List Int) : (lnA l).all (·.oneCell') = true := by
  refine Array.all_eq_true_iff_forall_mem.2 fun v hv => ?_
  simp only [lnA, List.mem_toArray, List.mem_map] at hv
  obtain ⟨x, -, rfl⟩ := hv
  rfl
theorem lnA_at (l : List Int) (k : Nat) (h : k < l.length) : (lnA l)[k]? = some (.int .u64 (l[k]?.getD 0)) := by
  simp [lnA, List.getElem?_eq_getElem h]
theorem lnA_set (l : List Int) (k : Nat) (x : Int) : (lnA l).setIfInBounds k (.int .u64 x) = lnA (l.set k x) := by
  simp [lnA, List.map_set]
theorem Line8.set {l : List Int} (h : Line8 l) (k : Nat) {x : Int} (h0 : 0 ≤ x) (h1 : x < 18446744073709551616) : Line8 (l.set k x) :=
  ⟨by rw [List.length_set]; exact h.1, fun y hy => (List.mem_or_eq_of_mem_set hy).elim (h.2 y) fun e => by subst e; exact ⟨h0, h1⟩⟩
def zeros8 : List Int := [0, 0, 0, 0, 0, 0, 0, 0]
theorem zeros8_line : Line8 zeros8 := ⟨rfl, fun x hx => by simp [zeros8] at hx; omega⟩
/-- What reading gives up with. -/
def noLine : List PanicEntry := [{ v := .iface 115 (.agg #[]), recovered := false }]
theorem infoNL : (Tryz.prog.info? 115).map (fun i => (i.zero, i.size, i.bytes)) = some (some (.agg #[]), 0, 0) := by kernel_rfl
theorem nd_info {o : Option TypeInfo} {z : Option Value} {s b : Nat} (h : o.map (fun i => (i.zero, i.size, i.bytes)) = some (z, s, b)) : ∃ i, o = some i ∧ i.zero = z ∧ i.size = s ∧ i.bytes = b := by
  cases o with
  | none => cases h
  | some i =>
    simp only [Option.map_some, Option.some.injEq, Prod.mk.injEq] at h
    exact ⟨i, rfl, h.1, h.2.1, h.2.2⟩
theorem ta_nil (W : World) : (Instr.typeAssert .nilIface 20 115 true).run Tryz.prog W = .ok (.tuple #[.agg #[], .bool false]) W := by
  obtain ⟨i, hi, hz, -, -⟩ := nd_info infoNL
  simp [Instr.typeAssert, run_underlying Tryz.underlying115, zeroValue, typeInfo, hi, hz]
theorem ta_line (W : World) : (Instr.typeAssert (.iface 115 (.agg #[])) 20 115 true).run Tryz.prog W = .ok (.tuple #[.agg #[], .bool true]) W := by
  simp [Instr.typeAssert, run_underlying Tryz.underlying115]
theorem ndAll_range : ∀ (xs ys : List Int), xs.length = ys.length → ((List.range xs.length).all fun i => xs.getD i 0 == ys.getD i 0) = (xs == ys)
  | [], [], _ => rfl
  | x :: xs, y :: ys, h => by
    have ih := ndAll_range xs ys (by simpa using h)
    rw [List.length_cons, List.range_succ_eq_map, List.all_cons, List.all_map]
    simp only [List.getD_cons_zero, Function.comp_def, List.getD_cons_succ, ih]
    simp [List.cons_beq_cons]
  | [], _ :: _, h => by simp at h
  | _ :: _, [], h => by simp at h
theorem ndEq_items {P : Program} {k : IntKind} (d : Nat) (e : TypeId) (he : P.underlying e = some (.int k)) (xs ys : List Int) (w : World) :
    ∀ l : List Nat, (∀ i ∈ l, i < xs.length ∧ i < ys.length) → (Op.eqItems (d + 1) e 1 (xs.map (Value.int k)).toArray (ys.map (Value.int k)).toArray l).run P w = .ok (l.all fun i => xs.getD i 0 == ys.getD i 0) w
  | [], _ => by simp [Op.eqItems]
  | i :: l, h => by
    obtain ⟨hx, hy⟩ := h i (by simp)
    have px : (part e (xs.map (Value.int k)).toArray (i * 1)).run P w = .ok (.int k (xs.getD i 0)) w := by
      simp [part, isAgg, run_underlying he, List.getD, List.getElem?_eq_getElem hx]
    have py : (part e (ys.map (Value.int k)).toArray (i * 1)).run P w = .ok (.int k (ys.getD i 0)) w := by
      simp [part, isAgg, run_underlying he, List.getD, List.getElem?_eq_getElem hy]
    have ih := ndEq_items d e he xs ys w l (fun j hj => h j (by simp [hj]))
    simp only [Op.eqItems, Sem.run_bind, px, py, Result.andThen_ok, run_equalIn_int w d e k k _ _ he, List.all_cons]
    cases hb : (xs.getD i 0 == ys.getD i 0)
    · simp
    · simpa using ih
theorem ndEqual {k : IntKind} {e t : TypeId} {n : Nat} (he : Tryz.prog.underlying e = some (.int k)) (hc : Tryz.prog.cellsOf e = 1) (hie : (Tryz.prog.info? e).isSome = true) (ht : Tryz.prog.underlying t = some (.array n e)) (d : Nat) (L M : List Int) (hL : L.length = n) (hM : M.length = n) (w : World) :
    (Op.equalIn (d + 2) t (.agg (L.map (Value.int k)).toArray) (.agg (M.map (Value.int k)).toArray)).run Tryz.prog w = .ok (L == M) w := by
  obtain ⟨i, hi⟩ := Option.isSome_iff_exists.1 hie
  rw [run_equalIn_array (w := w) (d + 1) _ _ ht hi, hc, ndEq_items d e he L M w _ (fun i hi => by rw [List.mem_range] at hi; omega), ← ndAll_range L M (by omega), hL]
theorem eql_line {t : TypeId} (ht : Tryz.prog.underlying t = some (.array 8 22)) (l m : List Int) (hl : l.length = 8) (hm : m.length = 8) (W : World) : (Op.equalIn 10000 t (.agg (lnA l)) (.agg (lnA m))).run Tryz.prog W = .ok (l == m) W :=
  ndEqual Tryz.underlying22 (by kernel_rfl) (by kernel_rfl) ht 9998 l m hl hm W
theorem wpListIn_load_eqW {Fc : Fence} {n : Nat} {P : Program} {ops : Array Oper} {Q : Exit → Act → World → Prop} {w : World} {a : Act} {o : Oper} {rest : List Oper} (hwt : Region.wanted o (yielded ops a.tmps) = true) (ty : TypeId) (x : Operand) (ho : o.op = .load ty x) (p v : Value) (hx : a.eval x = p) (hr : (Instr.loadAt ty p).run P w = .ok v w) (h : wpListIn Fc n P ops Q rest (a.put o.dst v) w) : wpListIn Fc n P ops Q (o :: rest) a w :=
  BigFrame.wpListIn_want hwt fun _ hK => wpIn_load_eq ty x ho p v hx hr (hK _ _ h)
theorem mustBe_any (b : Bool) (w : World) : Calls Tryz.prog 48 #[.bool b] w fun e w' => (b = true ∧ (∃ u, e = .returned u) ∧ w' = w) ∨ (b = false ∧ e = .panicked noLine ∧ w' = w) := by
  cases b
  · go_enter Tryz.func48, Tryz.ntmps48
    go_wp2
    exact ⟨rfl, .inr ⟨by first | trivial | rfl, rfl, rfl⟩⟩
  · go_enter Tryz.func48, Tryz.ntmps48
    go_wp2
    first
    | go_end0
    | refine bodyPost_ret (results_none rfl _ _ _) rfl ?_
    exact .inl ⟨by first | trivial | rfl, ⟨_, rfl⟩, rfl⟩
theorem loadErr {W : World} {E : Nat} {v : Value} (h : Boxed W E 26 v) : (loadVar 26 ⟨E, 0, none⟩).run Tryz.prog W = .ok v W := by
  simp [go_sem, h.cell]
/-- A part: three closures, and what they do. -/
structure PartV where
  f0 : FuncId
  l0 : Array Value
  f1 : FuncId
  l1 : Array Value
  f2 : FuncId
  l2 : Array Value
  S : NdS
/-- A part's closures do what is told, of values of cells that are Good. -/
structure NdPart (Good : Array Value → Prop) (t : TypeId) (w : World) (p : PartV) : Prop where
  e0 : Enters Tryz.prog p.f0
  mayBe : ∀ x W, Good x → Below w.heap.size w W → Calls Tryz.prog p.f0 (#[.agg x] ++ p.l0) W fun e w' => e = .returned (.bool (p.S.ok x)) ∧ Below W.heap.size W w'
  e1 : Enters Tryz.prog p.f1
  write : ∀ x l b W, Good x → p.S.ok x = true → Line8 l → Below w.heap.size w W → w.heap.size ≤ b → Blk W b 113 (lnA l) →
    Calls Tryz.prog p.f1 (#[.agg x, .pointer (some ⟨b, 0, none⟩)] ++ p.l1) W fun e w' => (∃ u, e = .returned u) ∧ Blk w' b 113 (lnA (p.S.wr x l)) ∧ Turn (fun k => k = b) W w'
  e2 : Enters Tryz.prog p.f2
  read : ∀ x l b W, Good x → Line8 l → Below w.heap.size w W → w.heap.size ≤ b → Blk W b t x →
    Calls Tryz.prog p.f2 (#[.agg (lnA l), .pointer (some ⟨b, 0, none⟩)] ++ p.l2) W fun e w' => Turn (fun k => k = b) W w' ∧ ((∃ u y, e = .returned u ∧ p.S.rd l x = some y ∧ Blk w' b t y) ∨ (e = .panicked noLine ∧ p.S.rd l x = none ∧ Blk w' b t x))
  wrLine : ∀ x l, Good x → p.S.ok x = true → Line8 l → Line8 (p.S.wr x l)
  rdGood : ∀ x l y, Good x → Line8 l → p.S.rd l x = some y → Good y
theorem NdPart.below {Good : Array Value → Prop} {t : TypeId} {w w1 : World} {p : PartV} (h : NdPart Good t w p) (hb : Below w.heap.size w w1) : NdPart Good t w1 p :=
  ⟨h.e0, fun x W hg hW => h.mayBe x W hg (hb.trans (hW.mono hb.size)), h.e1, fun x l b W hg ho hl hW hwb => h.write x l b W hg ho hl (hb.trans (hW.mono hb.size)) (Nat.le_trans hb.size hwb),
    h.e2, fun x l b W hg hl hW hwb => h.read x l b W hg hl (hb.trans (hW.mono hb.size)) (Nat.le_trans hb.size hwb), h.wrLine, h.rdGood⟩
abbrev PartV.v0 (p : PartV) : Value := .func (.func p.f0) #[] p.l0
abbrev PartV.v1 (p : PartV) : Value := .func (.func p.f1) #[] p.l1
abbrev PartV.v2 (p : PartV) : Value := .func (.func p.f2) #[] p.l2
def encPart (p : PartV) : Array Value := #[.agg #[p.v0, p.v1, p.v2]]
def partC (p : PartV) : List Value := [p.v0, p.v1, p.v2]
/-- All may be. -/
def okAll (ps : List PartV) (x : Array Value) : Bool := ps.all fun p => p.S.ok x
/-- All are written. -/
def wrAll (ps : List PartV) (x : Array Value) (l : List Int) : List Int := ps.foldl (fun l p => p.S.wr x l) l
/-- All are read. -/
def rdAll (l : List Int) : List PartV → Array Value → Option (Array Value)
  | [], x => some x
  | p :: ps, x => (p.S.rd l x).bind (rdAll l ps)
theorem rdAll_append (l : List Int) : ∀ (ps qs : List PartV) (x : Array Value), rdAll l (ps ++ qs) x = (rdAll l ps x).bind (rdAll l qs)
  | [], _, _ => rfl
  | p :: ps, qs, x => by
    simp only [List.cons_append, rdAll]
    cases p.S.rd l x with
    | none => rfl
    | some y => exact rdAll_append l ps qs y
theorem wrAll_append (ps qs : List PartV) (x : Array Value) (l : List Int) : wrAll (ps ++ qs) x l = wrAll qs x (wrAll ps x l) := List.foldl_append
theorem wrAll_line {Good : Array Value → Prop} {t : TypeId} {w : World} {x : Array Value} (hx : Good x) : ∀ (ps : List PartV) (l : List Int), (∀ p ∈ ps, NdPart Good t w p) → okAll ps x = true → Line8 l → Line8 (wrAll ps x l)
  | [], _, _, _, h => h
  | p :: ps, l, hp, ho, h => by
    simp only [okAll, List.all_cons, Bool.and_eq_true] at ho
    exact wrAll_line hx ps _ (fun q hq => hp q (List.mem_cons_of_mem _ hq)) ho.2 ((hp p List.mem_cons_self).wrLine x l hx ho.1 h)
theorem rdAll_good {Good : Array Value → Prop} {t : TypeId} {w : World} {l : List Int} (hl : Line8 l) : ∀ (ps : List PartV) (x y : Array Value), (∀ p ∈ ps, NdPart Good t w p) → Good x → rdAll l ps x = some y → Good y
  | [], x, y, _, h, e => by cases e; exact h
  | p :: ps, x, y, hp, h, e => by
    simp only [rdAll] at e
    cases hr : p.S.rd l x with
    | none => rw [hr] at e; cases e
    | some z =>
      rw [hr] at e
      exact rdAll_good hl ps z y (fun q hq => hp q (List.mem_cons_of_mem _ hq)) ((hp p List.mem_cons_self).rdGood x l z h hl hr) e
theorem abides_blk {β : Type} (A : Nat) (t : TypeId) (X : Array Value) : Abides (fun (_ : β) q W => Blk W A t X ∧ ¬ q A) := fun _ q q' W W' hs ht hq => ⟨(ht.block A hs.1.lt hs.2).trans hs.1, fun h => (hq A h).elim hs.2 fun h2 => by have := hs.1.lt; omega⟩
theorem abides_blkF {β : Type} (A : Nat) (t : TypeId) (f : β → Array Value) : Abides (fun (s : β) q W => Blk W A t (f s) ∧ ¬ q A) := fun _ q q' W W' hs ht hq => ⟨(ht.block A hs.1.lt hs.2).trans hs.1, fun h => (hq A h).elim hs.2 fun h2 => by have := hs.1.lt; omega⟩
/-- The words that are told. -/
def putOut (ps : List PartV) (x : Array Value) : List Int := if okAll ps x then wrAll ps x zeros8 else zeros8
def putErr (ps : List PartV) (x : Array Value) : Int := if okAll ps x then 0 else 2
/-- What is read. -/
def getM (ps : List PartV) (l : List Int) (z : Array Value) : Option (Array Value) := (rdAll l ps z).bind fun y => if okAll ps y = true ∧ putOut ps y = l then some y else none
def getErr (o : Option (Array Value)) : Int := if o.isSome then 0 else 180
theorem putOut_len {Good : Array Value → Prop} {t : TypeId} {w : World} {x : Array Value} (hx : Good x) (ps : List PartV) (hp : ∀ p ∈ ps, NdPart Good t w p) : Line8 (putOut ps x) := by
  unfold putOut
  split
  · rename_i h; exact wrAll_line hx ps zeros8 hp h zeros8_line
  · exact zeros8_line
end Go.Proofs.YtaebipopmefkpaaGreatDoor

/-
  A block of three cells.
-/
namespace Go.Proofs.YtaebipopmefkpaaGreatDoor
open Go.RowKit Go.Shelf

/-- A block of three cells. -/
def Tri (W : World) (B : Nat) (t : TypeId) (x y z : Value) : Prop := W.heap[B]? = some (.cells #[x, y, z] t (0, 0))
section
variable {W W' : World} {B : Nat} {t : TypeId} {x y z : Value}
theorem Tri.lt (h : Tri W B t x y z) : B < W.heap.size := (Array.getElem?_eq_some_iff.1 h).1
theorem Tri.cells (h : Tri W B t x y z) : W.cell? ⟨B, 0, none⟩ = some x ∧ W.cell? ⟨B, 1, none⟩ = some y ∧ W.cell? ⟨B, 2, none⟩ = some z ∧ W.frozen? ⟨B, 0, none⟩ = false ∧ W.frozen? ⟨B, 1, none⟩ = false ∧ W.frozen? ⟨B, 2, none⟩ = false := by
  unfold Tri at h
  simp [World.cell?, World.frozen?, h]
theorem Tri.new (W : World) (t : TypeId) (x y z : Value) : Tri (W.alloc (.cells #[x, y, z] t)) W.heap.size t x y z := World.alloc_heap_new W _
theorem Tri.below {n : Nat} (h : Tri W B t x y z) (hb : Below n W W') (hl : B < n) : Tri W' B t x y z := (hb.block B hl).trans h
end
/-- A block of two cells. -/
def Duo (W : World) (B : Nat) (t : TypeId) (x y : Value) : Prop := W.heap[B]? = some (.cells #[x, y] t (0, 0))
section
variable {W W' : World} {B : Nat} {t : TypeId} {x y : Value}
theorem Duo.lt (h : Duo W B t x y) : B < W.heap.size := (Array.getElem?_eq_some_iff.1 h).1
theorem Duo.cells (h : Duo W B t x y) : W.cell? ⟨B, 0, none⟩ = some x ∧ W.cell? ⟨B, 1, none⟩ = some y ∧ W.frozen? ⟨B, 0, none⟩ = false ∧ W.frozen? ⟨B, 1, none⟩ = false := by
  unfold Duo at h
  simp [World.cell?, World.frozen?, h]
theorem Duo.new (W : World) (t : TypeId) (x y : Value) : Duo (W.alloc (.cells #[x, y] t)) W.heap.size t x y := World.alloc_heap_new W _
theorem Duo.below {n : Nat} (h : Duo W B t x y) (hb : Below n W W') (hl : B < n) : Duo W' B t x y := (hb.block B hl).trans h
theorem Duo.set1 (h : Duo W B t x y) (u : Value) : Duo (W.setCell ⟨B, 1, none⟩ u) B t x u := by
  unfold Duo at h ⊢
  simp [World.setCell, Array.getElem?_modify, h]
theorem Duo.set0 (h : Duo W B t x y) (u : Value) : Duo (W.setCell ⟨B, 0, none⟩ u) B t u y := by
  unfold Duo at h ⊢
  simp [World.setCell, Array.getElem?_modify, h]
end
end Go.Proofs.YtaebipopmefkpaaGreatDoor
