/-
  A function that ranges over functions in a loop leaves with a list of marks among its deferred calls: they are taken one by one.
-/
import Derived.Test.YtoaloeipgadkjaaRange
import Derived.RangeFuncLeaves
import Derived.Scope
import Derived.ControlIn
import Derived.WalkMore
namespace Go.Proofs.Ytoaloeipgadkjaa
open Go.RowKit Go.Shelf

/-- Nothing but blocks of book-keeping from B on has turned. -/
def Shut (B : Nat) (W W' : World) : Prop := Below B W W' ∧ ∀ (k : Nat) c t f, W.heap[k]? = some (Obj.cells c t f) → W'.heap[k]? = some (Obj.cells c t f)
theorem Shut.refl (B : Nat) (W : World) : Shut B W W := ⟨Below.refl _ _, fun _ _ _ _ h => h⟩
theorem Shut.trans {B : Nat} {A C D : World} (h : Shut B A C) (k : Shut B C D) : Shut B A D := ⟨h.1.trans k.1, fun i c t f hi => k.2 i c t f (h.2 i c t f hi)⟩
theorem Shut.putObj {B : Nat} (W : World) {D : Nat} {o o' : Obj} (hB : B ≤ D) (h : W.heap[D]? = some o) (hc : o.isCells = false) (hw : o.isWalk = false) : Shut B W (W.putObj D o') := by
  refine ⟨(Below.refl _ _).grown (grownBy_putObj' W D o') ?_ (fun k e => by cases e; exact hB), fun k c t f hk => ?_⟩
  · have := (Array.getElem?_eq_some_iff.1 h).1; omega
  · have hne : D ≠ k := fun e => by
      subst e
      rw [h] at hk
      simp only [Option.some.injEq] at hk
      subst hk
      simp [Obj.isCells] at hc
    rw [World.putObj_heap_other (Ne.symm hne), hk]
/-- Marks: each is a block from B on, below U, of its own, that holds no call. -/
def Marks (B U : Nat) : List Deferred → World → Prop
  | [], _ => True
  | d :: ds, W => ∃ D, d = { target := .collected D, args := #[] } ∧ B ≤ D ∧ D < U ∧ W.heap[D]? = some (.deferred (some [])) ∧ Marks B D ds W
theorem Marks.keep {B U : Nat} : ∀ {ds : List Deferred} {W W' : World}, Marks B U ds W → (∀ k, k < U → W.heap[k]? = some (.deferred (some [])) → W'.heap[k]? = some (.deferred (some []))) → Marks B U ds W'
  | [], _, _, _, _ => trivial
  | _ :: _, _, _, ⟨D, h1, h2, h3, h4, h5⟩, hk => ⟨D, h1, h2, h3, hk D h3 h4, h5.keep fun k hlt => hk k (Nat.lt_trans hlt h3)⟩
theorem Marks.more {B U U' : Nat} : ∀ {ds : List Deferred} {W : World}, Marks B U ds W → U ≤ U' → Marks B U' ds W
  | [], _, _, _ => trivial
  | _ :: _, _, ⟨D, h1, h2, h3, h4, h5⟩, hU => ⟨D, h1, h2, Nat.lt_of_lt_of_le h3 hU, h4, h5⟩
theorem Marks.own {B U n : Nat} {α : Type} (ds : List Deferred) (hU : U ≤ n) : OwnFrom n (fun (_ : α) W => Marks B U ds W) := fun s A C row hs hg hr =>
  hs.keep fun k hk hd => by
    refine (hg.block k (Array.getElem?_eq_some_iff.1 hd).1 (fun e => ?_)).trans hd
    have := (hr k e.symm).1
    omega
theorem Marks.below {B U : Nat} {ds : List Deferred} {W W' : World} (h : Marks B U ds W) (hb : Below U W W') : Marks B U ds W' := h.keep fun k hk hd => (hb.block k hk).trans hd
theorem Marks.set {B U A : Nat} {ds : List Deferred} {W : World} {t : TypeId} {v : Value} (h : Marks B U ds W) (hx : Boxed W A t v) (u : Value) : Marks B U ds (W.setCell ⟨A, 0, none⟩ u) := h.keep fun k _ hd => by
  have hne : k ≠ A := fun e => by
    subst e
    rw [show W.heap[k]? = _ from hx] at hd
    cases hd
  exact (Below.heap_setCell _ _ _ _ hne).trans hd
theorem leaves_marks {F : Fence} {n : Nat} {P : Program} {fn : Func} {tmps : Array Value} {R : Ending → World → Prop} {B : Nat} : ∀ (ds : List Deferred) (U : Nat) (W : World), Marks B U ds W → (∀ W', Shut B W W' → LeavesIn F n P fn tmps R [] .returning W') → LeavesInM F n P fn tmps R ds .returning W
  | [], _, W, _, h => h W (Shut.refl _ _)
  | d :: ds, U, W, ⟨D, h1, h2, h3, h4, h5⟩, h => by
    subst h1
    refine ⟨by simp, .inl ⟨_, _, rfl, run_takeDeferred h4, ?_⟩⟩
    refine leaves_marks ds D _ (h5.keep fun k hk hd => ?_) fun W' hs => h W' ((Shut.putObj W h2 h4 rfl rfl).trans hs)
    rw [World.putObj_heap_other (by omega), hd]
section
variable {F : Fence} {n : Nat} {P : Program} {Q : Exit → Act → World → Prop} {a : Act} {w : World}
/-- A scope without a jump, inside a fence. -/
theorem wpIn_scope_straight {c : Code} (h : c.wpIn F n P (Exit.noGoto Q) a w) : (Code.scope c).wpIn F n P Q a w := by
  intro b k cs hro hb hr
  have s0 : step P (lone (b.atR a (.code (.scope c) :: k)) cs w) = .next (lone (b.atR a (.code c :: .inScope c :: k)) cs w) := step_lone_go (by simp [stepG, stepG.exec, Frame.atR])
  have s1 : ∀ a w, step P (lone (b.atR a (.inScope c :: k)) cs w) = .next (lone (b.atR a k) cs w) := fun a w => step_lone_go (by simp [stepG, stepG.exec, Frame.atR])
  obtain ⟨e, a₁, w₁, hq, harr⟩ := h b (.inScope c :: k) cs hro hb hr
  cases e with
  | normal => exact ⟨.normal, a₁, w₁, hq, .of_steps (.one (fenced_calm hb hr rfl) s0) (StepsIn.trans harr (.one (fenced_calm hb hr rfl) (s1 _ _)))⟩
  | exit id => exact ⟨.exit id, a₁, w₁, hq, .of_steps (.one (fenced_calm hb hr rfl) s0) ⟨fun k' hk => harr.1 k' (by simp [exitTo, hk]), fun hr hk => harr.2 hr (by simp [exitTo, hk])⟩⟩
  | goto l => exact hq.elim
  | ret => exact ⟨_, a₁, w₁, hq, .of_steps (.one (fenced_calm hb hr rfl) s0) harr⟩
  | panic ch => exact ⟨_, a₁, w₁, hq, .of_steps (.one (fenced_calm hb hr rfl) s0) harr⟩
  | outgrown => exact ⟨_, a₁, w₁, hq, .of_steps (.one (fenced_calm hb hr rfl) s0) harr⟩
end
end Go.Proofs.Ytoaloeipgadkjaa
