/-
  Texts WordM to NdA, as one.
-/
import Derived.Laws.BitsAllLaws
import Derived.Test.YtgoemaecdolioaaGreatDoorRows
import Derived.WalkKit
import Derived.ProofKit
import Derived.Below
import Derived.Deep.QuietTactic
import Derived.BigQuiet
import Derived.Lib.Hide
import Derived.IntWalk
import Derived.Outline
import Derived.Shelf.Spec.TrailingZeros
import Derived.Deep.RegionHeld3
import Derived.RangeFuncNested
import Derived.RangeFuncBound
import Derived.RangeFuncCalls
import Derived.RangeFuncLeaves
import Derived.Shelf.Abstract
import Derived.Shelf.RegionOpen
import Derived.OwnWalkIn
import Derived.TacticsInMore
import Derived.LoopNIn
import Derived.LoopIn
import Derived.RangeFuncWrites
import Derived.Scope
import Derived.ControlIn
import Derived.WalkMore
import Derived.Sort.QuietIn
import Derived.WalkLawsBesides
import Derived.Maps.AppendAt
/-
  Plain arithmetic of fields of bits: no Go in sight.
-/
namespace Go.Proofs.YtgoemaecdolioaaGreatDoor
namespace WM
end WM
end Go.Proofs.YtgoemaecdolioaaGreatDoor

/-
  Contracts of package word's functions on fields (no loop): spanOf, mayBe, mask, number, holds, with, Get, Put.
-/
namespace Go.Proofs.YtgoemaecdolioaaGreatDoor
open Go.RowKit

theorem ret_bool {a b : Bool} (h : a = b) : Ending.returned (.bool a) = .returned (.bool b) := by rw [h]
theorem below_drewN {B : Nat} {a w : World} (h : Below B a w) (n : Nat) : Below B a (w.drewN n) := ⟨h.os, h.tape, h.output, h.size, h.block⟩
end Go.Proofs.YtgoemaecdolioaaGreatDoor

/-
  Contracts of math/bits.TrailingZeros64 and of word.Bits (an iterator).
-/
namespace Go.Proofs.YtgoemaecdolioaaGreatDoor
open Go.RowKit Go.Shelf
attribute [local go_sem] Oper.semAt_some
namespace WM
end WM

/-- The blocks p are as they were. -/
def Keeps (p : Nat → Prop) (W W' : World) : Prop := W.heap.size ≤ W'.heap.size ∧ ∀ k, p k → k < W.heap.size → W'.heap[k]? = W.heap[k]?
theorem Keeps.refl (p : Nat → Prop) (W : World) : Keeps p W W := ⟨Nat.le_refl _, fun _ _ _ => rfl⟩
theorem Keeps.trans {p : Nat → Prop} {A B C : World} (h : Keeps p A B) (k : Keeps p B C) : Keeps p A C :=
  ⟨Nat.le_trans h.1 k.1, fun i hi hl => (k.2 i hi (Nat.lt_of_lt_of_le hl h.1)).trans (h.2 i hi hl)⟩
theorem Keeps.cell {p : Nat → Prop} {A B : World} (h : Keeps p A B) {q : Addr} (hp : p q.block) {v : Value} (hc : A.cell? q = some v) : B.cell? q = some v := by
  have hl : q.block < A.heap.size := by
    rcases Nat.lt_or_ge q.block A.heap.size with h1 | h1
    · exact h1
    · unfold World.cell? at hc; rw [Array.getElem?_eq_none h1] at hc; cases hc
  exact (World.cell?_of_block (w := A) (h.2 q.block hp hl)).trans hc
theorem Keeps.drewN {p : Nat → Prop} {A B : World} (h : Keeps p A B) (n : Nat) : Keeps p A (B.drewN n) := h
theorem Keeps.of_below {p : Nat → Prop} {n₀ : Nat} {A B : World} (h : Below n₀ A B) (hp : ∀ k, p k → k < n₀) : Keeps p A B := ⟨h.size, fun k hk _ => h.block k (hp k hk)⟩
theorem Keeps.of_grown {p : Nat → Prop} {A B : World} {row : Option Nat} (h : A.grownBy B row) (hp : ∀ k, row = some k → ¬ p k) : Keeps p A B :=
  ⟨h.size, fun k hk hl => h.block k hl (fun e => hp k e.symm hk)⟩
theorem Keeps.set {p : Nat → Prop} (A : World) {b o : Nat} (v : Value) (hp : ¬ p b) : Keeps p A (A.setCell ⟨b, o, none⟩ v) :=
  ⟨by simp [World.setCell], fun k hk _ => Below.heap_setCell _ _ _ _ (fun e => hp (by rw [e] at hk; exact hk))⟩
end Go.Proofs.YtgoemaecdolioaaGreatDoor

/-
  A range over an iterator that has cells, and loops, of its own. The iterator may turn whatever lies from its call on; the body of the loop keeps all of that, and what the iterator names below it.
-/
namespace Go.Proofs.YtgoemaecdolioaaGreatDoor
open Go.RowKit Go.Shelf

/-- J does not mind what turns from block B on. -/
def Under {β : Type} (B : Nat) (J : β → World → Prop) : Prop := ∀ s W W', J s W → Below B W W' → J s W'
theorem Under.and {β : Type} {B : Nat} {I J : β → World → Prop} (h : Under B I) (k : Under B J) : Under B (fun s W => I s W ∧ J s W) := fun s W W' hs hb => ⟨h s W W' hs.1 hb, k s W W' hs.2 hb⟩
theorem Under.mono {β : Type} {B B' : Nat} {J : β → World → Prop} (h : Under B J) (hB : B ≤ B') : Under B' J := fun s W W' hs hb => h s W W' hs (hb.mono hB)
theorem Under.pure {β : Type} (B : Nat) (p : β → Prop) : Under B (fun s (_ : World) => p s) := fun _ _ _ hs _ => hs
theorem Under.imp {β : Type} {B : Nat} {I : β → World → Prop} (c : Prop) (h : Under B I) : Under B (fun s W => c → I s W) := fun s W W' hs hb hc => h s W W' (hs hc) hb
theorem Under.box {β : Type} {B A : Nat} {t : TypeId} (f : β → Value) (hA : A < B) : Under B (fun s W => Boxed W A t (f s)) := fun _ _ _ hs hb => (hb.block A hA).trans hs
theorem Under.below {β : Type} {B n₀ : Nat} {w₀ : World} (h : n₀ ≤ B) : Under B (fun (_ : β) W => Below n₀ w₀ W) := fun _ _ _ hs hb => hs.trans (hb.mono h)
theorem Keeps.weaken {p q : Nat → Prop} {A B : World} (h : Keeps p A B) (hq : ∀ k, q k → p k) : Keeps q A B := ⟨h.1, fun k hk hl => h.2 k (hq k hk) hl⟩
theorem keeps_putObj {q : Nat → Prop} (W : World) (l : Nat) (o : Obj) (hq : ¬ q l) : Keeps q W (W.putObj l o) := Keeps.of_grown (grownBy_putObj' W l o) (fun k e => by cases e; exact hq)
theorem below_putObj {B : Nat} (W : World) {l : Nat} (o : Obj) (hB : B ≤ l) (hl : l < W.heap.size) : Below B W (W.putObj l o) := (Below.refl _ _).grown (grownBy_putObj' W l o) (by omega) (fun k e => by cases e; exact hB)
end Go.Proofs.YtgoemaecdolioaaGreatDoor

/-
  A function that ranges over functions in a loop leaves with a list of marks among its deferred calls: they are taken one by one.
-/
namespace Go.Proofs.YtgoemaecdolioaaGreatDoor
open Go.RowKit Go.Shelf

/-- Nothing but blocks of book-keeping from B on has turned. -/
def Shut (B : Nat) (W W' : World) : Prop := Below B W W' ∧ ∀ (k : Nat) c t f, W.heap[k]? = some (Obj.cells c t f) → W'.heap[k]? = some (Obj.cells c t f)
theorem Shut.refl (B : Nat) (W : World) : Shut B W W := ⟨Below.refl _ _, fun _ _ _ _ h => h⟩
theorem Shut.trans {B : Nat} {A C D : World} (h : Shut B A C) (k : Shut B C D) : Shut B A D := ⟨h.1.trans k.1, fun i c t f hi => k.2 i c t f (h.2 i c t f hi)⟩
theorem Shut.putObj {B : Nat} (W : World) {D : Nat} {o o' : Obj} (hB : B ≤ D) (h : W.heap[D]? = some o) (hc : o.isCells = false) (hw : o.isWalk = false) : Shut B W (W.putObj D o') := by
  refine ⟨(Below.refl _ _).grown (grownBy_putObj' W D o') ?_ (fun k e => by cases e; exact hB), fun k c t f hk => ?_⟩
  · have := (Array.getElem?_eq_some_iff.1 h).1; omega
  · have hne : D ≠ k := fun e => by
      subst e
      rw [h] at hk
      simp only [Option.some.injEq] at hk
      subst hk
      simp [Obj.isCells] at hc
    rw [World.putObj_heap_other (Ne.symm hne), hk]
/-- Marks: each is a block from B on, below U, of its own, that holds no call. -/
def Marks (B U : Nat) : List Deferred → World → Prop
  | [], _ => True
  | d :: ds, W => ∃ D, d = { target := .collected D, args := #[] } ∧ B ≤ D ∧ D < U ∧ W.heap[D]? = some (.deferred (some [])) ∧ Marks B D ds W
theorem Marks.keep {B U : Nat} : ∀ {ds : List Deferred} {W W' : World}, Marks B U ds W → (∀ k, k < U → W.heap[k]? = some (.deferred (some [])) → W'.heap[k]? = some (.deferred (some []))) → Marks B U ds W'
  | [], _, _, _, _ => trivial
  | _ :: _, _, _, ⟨D, h1, h2, h3, h4, h5⟩, hk => ⟨D, h1, h2, h3, hk D h3 h4, h5.keep fun k hlt => hk k (Nat.lt_trans hlt h3)⟩
theorem Marks.more {B U U' : Nat} : ∀ {ds : List Deferred} {W : World}, Marks B U ds W → U ≤ U' → Marks B U' ds W
  | [], _, _, _ => trivial
  | _ :: _, _, ⟨D, h1, h2, h3, h4, h5⟩, hU => ⟨D, h1, h2, Nat.lt_of_lt_of_le h3 hU, h4, h5⟩
theorem Marks.own {B U n : Nat} {α : Type} (ds : List Deferred) (hU : U ≤ n) : OwnFrom n (fun (_ : α) W => Marks B U ds W) := fun s A C row hs hg hr =>
  hs.keep fun k hk hd => by
    refine (hg.block k (Array.getElem?_eq_some_iff.1 hd).1 (fun e => ?_)).trans hd
    have := (hr k e.symm).1
    omega
theorem Marks.below {B U : Nat} {ds : List Deferred} {W W' : World} (h : Marks B U ds W) (hb : Below U W W') : Marks B U ds W' := h.keep fun k hk hd => (hb.block k hk).trans hd
theorem Marks.set {B U A : Nat} {ds : List Deferred} {W : World} {t : TypeId} {v : Value} (h : Marks B U ds W) (hx : Boxed W A t v) (u : Value) : Marks B U ds (W.setCell ⟨A, 0, none⟩ u) := h.keep fun k _ hd => by
  have hne : k ≠ A := fun e => by
    subst e
    rw [show W.heap[k]? = _ from hx] at hd
    cases hd
  exact (Below.heap_setCell _ _ _ _ hne).trans hd
section
variable {F : Fence} {n : Nat} {P : Program} {Q : Exit → Act → World → Prop} {a : Act} {w : World}
/-- A scope without a jump, inside a fence. -/
theorem wpIn_scope_straight {c : Code} (h : c.wpIn F n P (Exit.noGoto Q) a w) : (Code.scope c).wpIn F n P Q a w := by
  intro b k cs hro hb hr
  have s0 : step P (lone (b.atR a (.code (.scope c) :: k)) cs w) = .next (lone (b.atR a (.code c :: .inScope c :: k)) cs w) := step_lone_go (by simp [stepG, stepG.exec, Frame.atR])
  have s1 : ∀ a w, step P (lone (b.atR a (.inScope c :: k)) cs w) = .next (lone (b.atR a k) cs w) := fun a w => step_lone_go (by simp [stepG, stepG.exec, Frame.atR])
  obtain ⟨e, a₁, w₁, hq, harr⟩ := h b (.inScope c :: k) cs hro hb hr
  cases e with
  | normal => exact ⟨.normal, a₁, w₁, hq, .of_steps (.one (fenced_calm hb hr rfl) s0) (StepsIn.trans harr (.one (fenced_calm hb hr rfl) (s1 _ _)))⟩
  | exit id => exact ⟨.exit id, a₁, w₁, hq, .of_steps (.one (fenced_calm hb hr rfl) s0) ⟨fun k' hk => harr.1 k' (by simp [exitTo, hk]), fun hr hk => harr.2 hr (by simp [exitTo, hk])⟩⟩
  | goto l => exact hq.elim
  | ret => exact ⟨_, a₁, w₁, hq, .of_steps (.one (fenced_calm hb hr rfl) s0) harr⟩
  | panic ch => exact ⟨_, a₁, w₁, hq, .of_steps (.one (fenced_calm hb hr rfl) s0) harr⟩
  | outgrown => exact ⟨_, a₁, w₁, hq, .of_steps (.one (fenced_calm hb hr rfl) s0) harr⟩
end
end Go.Proofs.YtgoemaecdolioaaGreatDoor

/-
  A range over an iterator that has cells and loops of its own, where the loop's variable is boxed.
-/
namespace Go.Proofs.YtgoemaecdolioaaGreatDoor
open Go.RowKit Go.Shelf

section
variable {F : Fence} {n : Nat} {P : Program} {ops : Array Oper} {md : Region.Mode} {C : World → Prop}
end
/-- A goal put aside: the walk stands still at it. -/
def Park (p : Prop) : Prop := p
theorem park {p : Prop} (h : Park p) : p := h
/-- Nothing that lay has turned, but for the blocks of q. -/
structure Turn (q : Nat → Prop) (W W' : World) : Prop where
  os : W'.os = W.os
  tape : W'.tape = W.tape
  output : W'.output = W.output
  size : W.heap.size ≤ W'.heap.size
  block : ∀ k, k < W.heap.size → ¬ q k → W'.heap[k]? = W.heap[k]?
theorem Turn.of_below {q : Nat → Prop} {B : Nat} {W W' : World} (h : Below B W W') (hB : W.heap.size ≤ B) : Turn q W W' := ⟨h.os, h.tape, h.output, h.size, fun k hk _ => h.block k (Nat.lt_of_lt_of_le hk hB)⟩
theorem Turn.refl (q : Nat → Prop) (W : World) : Turn q W W := ⟨rfl, rfl, rfl, Nat.le_refl _, fun _ _ _ => rfl⟩
theorem Turn.trans {q : Nat → Prop} {A B C : World} (h : Turn q A B) (k : Turn q B C) : Turn q A C := ⟨k.os.trans h.os, k.tape.trans h.tape, k.output.trans h.output, Nat.le_trans h.size k.size, fun i hi hq => (k.block i (Nat.lt_of_lt_of_le hi h.size) hq).trans (h.block i hi hq)⟩
theorem Turn.mono {q q' : Nat → Prop} {A B : World} (h : Turn q A B) (hq : ∀ k, q k → q' k) : Turn q' A B := ⟨h.os, h.tape, h.output, h.size, fun i hi hn => h.block i hi fun hk => hn (hq i hk)⟩
theorem Turn.below {q : Nat → Prop} {B : Nat} {A C : World} (h : Turn q A C) (hq : ∀ k, q k → B ≤ k) (hB : B ≤ A.heap.size) : Below B A C := ⟨h.os, h.tape, h.output, h.size, fun k hk => h.block k (Nat.lt_of_lt_of_le hk hB) fun hn => absurd (hq k hn) (by omega)⟩
theorem Turn.putObj {q : Nat → Prop} {W : World} {l : Nat} (o : Obj) (hl : q l) (hlt : l < W.heap.size) : Turn q W (W.putObj l o) :=
  have h := below_putObj W o (Nat.le_refl l) hlt
  ⟨h.os, h.tape, h.output, h.size, fun k _ hq => World.putObj_heap_other (fun e => hq (by rw [e]; exact hl))⟩
theorem Turn.setCell {q : Nat → Prop} (W : World) {b o : Nat} (v : Value) (hb : q b) : Turn q W (W.setCell ⟨b, o, none⟩ v) :=
  have h := (Below.refl b W).setCell (p := ⟨b, o, none⟩) (Nat.le_refl _) v
  ⟨h.os, h.tape, h.output, h.size, fun k _ hq => Below.heap_setCell _ _ _ k (fun e => hq (by rw [e]; exact hb))⟩
/-- J, of which the blocks of q are no part, does not mind what turns in q; new blocks may come to q. -/
def Abides {β : Type} (J : β → (Nat → Prop) → World → Prop) : Prop := ∀ s (q q' : Nat → Prop) W W', J s q W → Turn q W W' → (∀ k, q' k → q k ∨ W.heap.size ≤ k) → J s q' W'
theorem Abides.and {β : Type} {I J : β → (Nat → Prop) → World → Prop} (h : Abides I) (k : Abides J) : Abides (fun s q W => I s q W ∧ J s q W) := fun s q q' W W' hs ht hq => ⟨h s q q' W W' hs.1 ht hq, k s q q' W W' hs.2 ht hq⟩
theorem Abides.pure {β : Type} (f : β → Prop) : Abides (fun s _ (_ : World) => f s) := fun _ _ _ _ _ hs _ _ => hs
/-- A box that is no part of q. -/
def BoxF (A : Nat) (t : TypeId) (v : Value) (q : Nat → Prop) (W : World) : Prop := Boxed W A t v ∧ ¬ q A
theorem Abides.box {β : Type} (A : Nat) (t : TypeId) (f : β → Value) : Abides (fun s q W => BoxF A t (f s) q W) := fun s q q' W W' hs ht hq => ⟨(ht.block A hs.1.lt hs.2).trans hs.1, fun h => (hq A h).elim hs.2 fun h2 => by have := hs.1.lt; omega⟩
theorem Abides.size {β : Type} (m : Nat) : Abides (fun (_ : β) _ W => m ≤ W.heap.size) := fun _ _ _ _ _ hs ht _ => Nat.le_trans hs ht.size
/-- What lies below B has not turned since w, and is no part of q. -/
def BelowF (B : Nat) (w : World) (q : Nat → Prop) (W : World) : Prop := Below B w W ∧ B ≤ W.heap.size ∧ ∀ k, q k → B ≤ k
theorem Abides.below {β : Type} (B : Nat) (w : World) : Abides (fun (_ : β) q W => BelowF B w q W) := fun _ _ _ _ _ hs ht hq => ⟨hs.1.trans (ht.below hs.2.2 hs.2.1), Nat.le_trans hs.2.1 ht.size, fun k hk => (hq k hk).elim (hs.2.2 k) fun h => by have := hs.2.1; omega⟩
theorem Abides.weaken {β : Type} {J : β → (Nat → Prop) → World → Prop} (h : Abides J) {s : β} {q q' : Nat → Prop} {W : World} (hs : J s q W) (hq : ∀ k, q' k → q k ∨ W.heap.size ≤ k) : J s q' W := h s q q' W W hs (Turn.refl _ _) hq
/-- What an iterator promises: all of the elements come, or those up to the one at which it was told to stop. q: the blocks of its own. -/
def SeqF {α : Type} (p : Nat → Prop) (n : Nat) (P : Program) (g : Nat) (lb : Array Value) (encs : α → Array Value) (S Sp : List α → Prop) (w : World) : Prop :=
  ∀ (l : Nat) (J Jx : List α → (Nat → Prop) → World → Prop) (W : World), Below w.heap.size w W → Abides J → Abides Jx →
    (∀ pre x q W1, J pre q W1 → W.heap.size ≤ W1.heap.size → (∀ k, q k → W.heap.size ≤ k ∧ k < W1.heap.size) → Sp (pre ++ [x]) → YieldAt Fence.wide (n - 1) P l (encs x) W1 fun e W' =>
      Keeps (fun k => p k ∨ q k) W1 W' ∧ ((e = .returned (.bool true) ∧ J (pre ++ [x]) q W') ∨ (e = .returned (.bool false) ∧ Jx (pre ++ [x]) q W'))) →
    J [] (fun _ => False) W →
    CallsIn Fence.wide n P g (#[.func (.yield l) #[] #[]] ++ lb) W fun e W' => (∃ v, e = .returned v) ∧ ((∃ xs, S xs ∧ J xs (fun _ => False) W') ∨ (∃ pre, Sp pre ∧ Jx pre (fun _ => False) W'))
/-- How a round may end. -/
def postF {α : Type} (p q : Nat → Prop) (I : List α → (Nat → Prop) → World → Prop) (Ix : Code → List α → (Nat → Prop) → World → Prop) (xs : List α) (W : World) : Exit → Act → World → Prop
  | .normal, _, W' => Keeps (fun k => p k ∨ q k) W W' ∧ I xs q W'
  | .ret, _, W' => Keeps (fun k => p k ∨ q k) W W' ∧ Ix .ret xs q W'
  | .exit id, _, W' => Keeps (fun k => p k ∨ q k) W W' ∧ Ix (.exit id) xs q W'
  | _, _, _ => False
/-- A range over an iterator that has blocks of its own; the assignment may lay a block in each round. -/
theorem wpIn_range_F {α : Type} {n : Nat} {P : Program} {g : Operand} {ps : Array Tmp} {assign body : Code} {Q : Exit → Act → World → Prop} {a : Act} {w : World}
    (h1 : 1 ≤ n) {gf : Nat} {lb : Array Value} (hg : a.eval g = .func (.func gf) #[] lb) (eg : ∀ args w, (callFunc gf args).run P w = .ok (.enter gf args) w)
    {encs : α → Array Value} {p : Nat → Prop} {S Sp : List α → Prop} {w0 : World} (hseq : SeqF p (n - 1) P gf lb encs S Sp w0) (hp : ∀ k, p k → k < w.heap.size) (hb0 : Below w0.heap.size w0 w) (hps : ∀ x, (encs x).size = ps.size)
    (I : List α → (Nat → Prop) → World → Prop) (Ix : Code → List α → (Nat → Prop) → World → Prop) (hI : Abides I) (hIx : ∀ c, Abides (Ix c)) (h0 : I [] (fun _ => False) w) (Ax : α → Act → World → Prop)
    (hAx : ∀ (x : α) (a' : Act) (W : World) (o : Obj), Ax x a' W → Ax x a' (W.putObj (w.heap.size + 1) o))
    (hassign : ∀ (l : Nat) (x : α) (W : World) (K : Act → World → Prop), w.heap.size + 2 ≤ W.heap.size → (∀ a' W', Ax x a' W' → Below W.heap.size W W' → K a' W') →
      assign.wpIn (Fence.wide.inRound l) (n - 1 - 1) P (Exit.then K (fun _ _ _ => False)) { tmps := (ps.zip (encs x)).foldl (fun t (p, v) => t.setIfInBounds p v) a.tmps, defers := [] } W)
    (hbody : ∀ (l : Nat) (pre : List α) (x : α) (a' : Act) (q : Nat → Prop) (W : World), I pre q W → w.heap.size + 2 ≤ W.heap.size → (∀ k, q k → w.heap.size ≤ k ∧ k < W.heap.size) → Sp (pre ++ [x]) → Ax x a' W → body.wpIn (Fence.wide.inRound l) (n - 1 - 1) P (postF p q I Ix (pre ++ [x]) W) a' W)
    (hdone : ∀ (D : Nat) (xs : List α) (W : World), w.heap.size ≤ D → S xs → I xs (fun k => k = D) W → W.heap[D]? = some (.deferred (some [])) → Q .normal { a with defers := { target := .collected D, args := #[] } :: a.defers } W)
    (hstop : ∀ (D : Nat) (c : Code) (pre : List α) (W : World), w.heap.size ≤ D → Sp pre → Ix c pre (fun k => k = D) W → W.heap[D]? = some (.deferred (some [])) → c.wpIn Fence.wide n P Q { a with defers := { target := .collected D, args := #[] } :: a.defers } W) :
    (Code.rangeFunc g ps assign body).wpIn Fence.wide n P Q a w := by
  refine wpIn_rangeFunc fun fn hfn => ?_
  obtain ⟨rec, hrec⟩ : ∃ rec : LoopState → Option Code → Loop, rec = fun st pe => { state := st, pending := pe, fn, tmps := a.tmps, params := ps, assign, body, defers := w.heap.size } := ⟨_, rfl⟩
  have hst : ∀ st pe, (rec st pe).state = st := fun st pe => by rw [hrec]
  have hpen : ∀ st pe, (rec st pe).pending = pe := fun st pe => by rw [hrec]
  have hbusy : ∀ st pe, { rec st pe with state := .busy } = rec .busy pe := fun st pe => by rw [hrec]
  obtain ⟨W1, hW1⟩ : ∃ W1, (w.alloc (.deferred (some []))).alloc (.loop (rec .ready none)) = W1 := ⟨_, rfl⟩
  have hsz : W1.heap.size = w.heap.size + 2 := by rw [← hW1]; simp
  have hL1 : W1.heap[w.heap.size + 1]? = some (.loop (rec .ready none)) := by
    rw [← hW1]; have := World.alloc_heap_new (w.alloc (.deferred (some []))) (.loop (rec .ready none)); rwa [World.size_alloc] at this
  have hK1 : W1.heap[w.heap.size]? = some (.deferred (some [])) := by
    rw [← hW1]; exact (Below.heap_alloc _ _ _ (by simp)).trans (World.alloc_heap_new w _)
  have bW1 : Below w.heap.size w W1 := by rw [← hW1]; exact ((Below.refl _ _).alloc (Nat.le_refl _) _).alloc (by simp) _
  refine ⟨w.heap.size + 1, [{ target := .collected w.heap.size, args := #[] }], W1, { target := .fn (.func gf) lb, args := #[.func (.yield (w.heap.size + 1)) #[] #[]] }, W1, gf,
    #[.func (.yield (w.heap.size + 1)) #[] #[]] ++ lb, W1, ?_, ?_, fun _ _ => trivial, ?_, fun _ => h1, ?_⟩
  · rw [← hW1, hrec]; exact run_enterLoop_outer _ _ _ _ _
  · simp only [resolve, hg]
    simp [go_sem]
  · simp [invoke, go_sem, eg]
  · refine (hseq (w.heap.size + 1)
      (fun pre q W => I pre (fun k => q k ∨ k = w.heap.size ∨ k = w.heap.size + 1) W ∧ W.heap[w.heap.size + 1]? = some (.loop (rec .ready none)) ∧ W.heap[w.heap.size]? = some (.deferred (some [])) ∧ ¬ q (w.heap.size + 1) ∧ ¬ q w.heap.size)
      (fun pre q W => ∃ c, Ix c pre (fun k => q k ∨ k = w.heap.size ∨ k = w.heap.size + 1) W ∧ W.heap[w.heap.size + 1]? = some (.loop (rec .done (some c))) ∧ W.heap[w.heap.size]? = some (.deferred (some [])) ∧ ¬ q (w.heap.size + 1) ∧ ¬ q w.heap.size)
      W1 (hb0.trans (bW1.mono hb0.size))
      (fun s q q' A C ⟨hi, hl, hk, hq1, hq2⟩ ht hq => by
        have l1 := (Array.getElem?_eq_some_iff.1 hl).1
        refine ⟨hI s _ _ A C hi (ht.mono fun k h => .inl h) (fun k h => ?_), (ht.block _ l1 hq1).trans hl, (ht.block _ (by omega) hq2).trans hk, fun h => ?_, fun h => ?_⟩
        · rcases h with h | h
          · exact (hq k h).imp .inl id
          · exact .inl (.inr h)
        · exact (hq _ h).elim hq1 fun h => by omega
        · exact (hq _ h).elim hq2 fun h => by omega)
      (fun s q q' A C ⟨c, hi, hl, hk, hq1, hq2⟩ ht hq => by
        have l1 := (Array.getElem?_eq_some_iff.1 hl).1
        refine ⟨c, hIx c s _ _ A C hi (ht.mono fun k h => .inl h) (fun k h => ?_), (ht.block _ l1 hq1).trans hl, (ht.block _ (by omega) hq2).trans hk, fun h => ?_, fun h => ?_⟩
        · rcases h with h | h
          · exact (hq k h).imp .inl id
          · exact .inl (.inr h)
        · exact (hq _ h).elim hq1 fun h => by omega
        · exact (hq _ h).elim hq2 fun h => by omega)
      ?_ ⟨hI [] _ _ w W1 h0 (Turn.of_below bW1 (Nat.le_refl _)) (fun k h => .inr (by rcases h with h | h | h <;> first | exact h.elim | omega)), hL1, hK1, id, id⟩).mono ?_
    · rintro pre x q W ⟨hi, hl, hk, hq1, hq2⟩ - hqb hlen
      have hlt : w.heap.size + 1 < W.heap.size := (Array.getElem?_eq_some_iff.1 hl).1
      have hy := run_yield (P := P) (args := encs x) hl (by rw [hrec]; exact hps x)
      rw [hrec] at hy
      refine ⟨fn, _, assign, body, hy, roundIn_of_wpIn hfn (hassign _ x W _ (by omega) fun a' Wa hax bA => ?_)⟩
      have la : Wa.heap[w.heap.size + 1]? = some (.loop (rec .ready none)) := (bA.block _ hlt).trans hl
      have da : Wa.heap[w.heap.size]? = some (.deferred (some [])) := (bA.block _ (by omega)).trans hk
      have hlta : w.heap.size + 1 < Wa.heap.size := Nat.lt_of_lt_of_le hlt bA.size
      have hbr := run_beginRound (P := P) la (hst _ _)
      rw [hbusy] at hbr
      obtain ⟨W2, hW2⟩ : ∃ W2, Wa.putObj (w.heap.size + 1) (.loop (rec .busy none)) = W2 := ⟨_, rfl⟩
      rw [hW2] at hbr
      refine ⟨_, hbr, ?_⟩
      have t2 : Turn (fun k => q k ∨ k = w.heap.size ∨ k = w.heap.size + 1) W W2 := by rw [← hW2]; exact (Turn.of_below bA (Nat.le_refl _)).trans (Turn.putObj _ (.inr (.inr rfl)) hlta)
      have k2 : Keeps (fun k => p k ∨ q k) W W2 := by
        rw [← hW2]
        exact Keeps.trans ⟨bA.size, fun k _ hl => bA.block k hl⟩ (keeps_putObj Wa _ _ (fun h => h.elim (fun h => by have := hp _ h; omega) hq1))
      have l2 : W2.heap[w.heap.size + 1]? = some (.loop (rec .busy none)) := by rw [← hW2]; exact World.putObj_heap_same hlta
      have d2 : W2.heap[w.heap.size]? = some (.deferred (some [])) := by rw [← hW2]; exact (World.putObj_heap_other (by omega)).trans da
      have hs2 : w.heap.size + 2 ≤ W2.heap.size := Nat.le_trans (by omega) t2.size
      have ax2 : Ax x a' W2 := by rw [← hW2]; exact hAx _ _ _ _ hax
      refine wpIn_mono (hbody _ pre x a' (fun k => q k ∨ k = w.heap.size ∨ k = w.heap.size + 1) W2 (hI pre _ _ W W2 hi t2 (fun k h => .inl h)) hs2 (fun k h => ?_) hlen ax2) ?_
      · have := t2.size
        rcases h with h | h | h
        · have := hqb k h; omega
        · omega
        · omega
      have fin : ∀ (jump : Option Code) (W3 : World), Keeps (fun k => p k ∨ (q k ∨ k = w.heap.size ∨ k = w.heap.size + 1)) W2 W3 → ∃ W4,
          (Instr.endRound (w.heap.size + 1) jump).run P W3 = .ok (.bool jump.isNone) W4 ∧ Turn (fun k => q k ∨ k = w.heap.size ∨ k = w.heap.size + 1) W3 W4 ∧ Keeps (fun k => p k ∨ q k) W W4 ∧
          W4.heap[w.heap.size + 1]? = some (.loop (rec (if jump.isNone then .ready else .done) jump)) ∧ W4.heap[w.heap.size]? = some (.deferred (some [])) := fun jump W3 k3 => by
        have l3 : W3.heap[w.heap.size + 1]? = some (.loop (rec .busy none)) := (k3.2 _ (.inr (.inr (.inr rfl))) (Array.getElem?_eq_some_iff.1 l2).1).trans l2
        have d3 : W3.heap[w.heap.size]? = some (.deferred (some [])) := (k3.2 _ (.inr (.inr (.inl rfl))) (Array.getElem?_eq_some_iff.1 d2).1).trans d2
        have hl3 := (Array.getElem?_eq_some_iff.1 l3).1
        have he := run_endRound (P := P) jump l3
        rw [hrec] at he
        refine ⟨W3.putObj (w.heap.size + 1) (.loop (rec (if jump.isNone then .ready else .done) jump)), ?_, Turn.putObj _ (.inr (.inr rfl)) hl3, ?_, World.putObj_heap_same hl3, (World.putObj_heap_other (by omega)).trans d3⟩
        · rw [hrec]; exact he
        · exact (k2.trans (k3.weaken fun k h => h.imp id .inl)).trans (keeps_putObj W3 _ _ (fun h => h.elim (fun h => by have := hp _ h; omega) hq1))
      rintro e a3 W3 hpost
      cases e with
      | normal =>
        obtain ⟨k3, hi3⟩ := hpost
        obtain ⟨W4, hr, b4, k4, l4, d4⟩ := fin none W3 k3
        exact ⟨_, _, hr, k4, .inl ⟨rfl, ⟨hI _ _ _ _ _ hi3 b4 (fun k h => .inl h), l4, d4, hq1, hq2⟩⟩⟩
      | ret =>
        obtain ⟨k3, hi3⟩ := hpost
        obtain ⟨W4, hr, b4, k4, l4, d4⟩ := fin (some .ret) W3 k3
        exact ⟨_, _, hr, k4, .inr ⟨rfl, .ret, hIx _ _ _ _ _ _ hi3 b4 (fun k h => .inl h), l4, d4, hq1, hq2⟩⟩
      | exit id =>
        obtain ⟨k3, hi3⟩ := hpost
        obtain ⟨W4, hr, b4, k4, l4, d4⟩ := fin (some (.exit id)) W3 k3
        exact ⟨_, _, hr, k4, .inr ⟨rfl, .exit id, hIx _ _ _ _ _ _ hi3 b4 (fun k h => .inl h), l4, d4, hq1, hq2⟩⟩
      | goto t => exact hpost.elim
      | panic ch => exact hpost.elim
      | outgrown => exact hpost.elim
    · rintro e W2 ⟨⟨v, rfl⟩, (⟨xs, hS, hi, hl, hk, -, -⟩ | ⟨pre, hSp, c, hi, hl, hk, -, -⟩)⟩
      · have hlt := (Array.getElem?_eq_some_iff.1 hl).1
        have he := run_endLoop (P := P) hl (by rw [hst]; simp)
        rw [hpen] at he
        refine ⟨none, _, he, hdone _ xs _ (Nat.le_refl _) hS (hI _ _ _ _ _ hi (Turn.putObj _ (.inr (.inr rfl)) hlt) (fun k h => .inl (.inr (.inl h)))) ((World.putObj_heap_other (by omega)).trans hk)⟩
      · have hlt := (Array.getElem?_eq_some_iff.1 hl).1
        have he := run_endLoop (P := P) hl (by rw [hst]; simp)
        rw [hpen] at he
        refine ⟨some c, _, he, hstop _ c pre _ (Nat.le_refl _) hSp (hIx c _ _ _ _ _ hi (Turn.putObj _ (.inr (.inr rfl)) hlt) (fun k h => .inl (.inr (.inl h)))) ((World.putObj_heap_other (by omega)).trans hk)⟩
/-- A function that ranges over one function leaves: its mark is taken. -/
theorem leaves_one {F : Fence} {n : Nat} {P : Program} {fn : Func} {tmps : Array Value} {R : Ending → World → Prop} {D : Nat} {W : World} (hK : W.heap[D]? = some (.deferred (some [])))
    (h : ∀ W', Turn (fun k => k = D) W W' → (∀ (k : Nat) c t f, W.heap[k]? = some (Obj.cells c t f) → W'.heap[k]? = some (Obj.cells c t f)) → LeavesIn F n P fn tmps R [] .returning W') : LeavesInM F n P fn tmps R [{ target := .collected D, args := #[] }] .returning W :=
  ⟨by simp, .inl ⟨_, _, rfl, run_takeDeferred hK, h _ (Turn.putObj _ rfl (Array.getElem?_eq_some_iff.1 hK).1) ((Shut.putObj W (Nat.le_refl D) hK rfl rfl).2)⟩⟩
theorem heap_at (W : World) (o : Obj) (k : Nat) : (W.alloc o).heap[k]? = if k = W.heap.size then some o else W.heap[k]? := by
  by_cases h : k = W.heap.size
  · subst h; rw [if_pos rfl]; exact World.alloc_heap_new W o
  · rw [if_neg h]
    by_cases hk : k < W.heap.size
    · exact Below.heap_alloc _ _ _ hk
    · rw [show (W.alloc o).heap[k]? = none from Array.getElem?_eq_none (by rw [World.size_alloc]; omega), show W.heap[k]? = none from Array.getElem?_eq_none (by omega)]
/-- A block that holds two numbers. -/
def Box2 (W : World) (B : Nat) (t : TypeId) (l v : Int) : Prop := W.heap[B]? = some (.cells #[.int .i64 l, .int .i64 v] t (0, 0))
section
variable {W W' : World} {B : Nat} {t : TypeId} {l v : Int}
theorem Box2.lt (h : Box2 W B t l v) : B < W.heap.size := (Array.getElem?_eq_some_iff.1 h).1
theorem Box2.cell0 (h : Box2 W B t l v) : W.cell? ⟨B, 0, none⟩ = some (.int .i64 l) := by simp [World.cell?, show W.heap[B]? = _ from h]
theorem Box2.cell1 (h : Box2 W B t l v) : W.cell? ⟨B, 1, none⟩ = some (.int .i64 v) := by simp [World.cell?, show W.heap[B]? = _ from h]
theorem Box2.new (W : World) (t : TypeId) (l v : Int) : Box2 (W.alloc (.cells #[.int .i64 l, .int .i64 v] t)) W.heap.size t l v := World.alloc_heap_new W _
theorem Box2.kept {row : Option Nat} (h : Box2 W B t l v) (hg : W.grownBy W' row) (hne : some B ≠ row) : Box2 W' B t l v := (hg.block B h.lt hne).trans h
theorem Box2.alloc (h : Box2 W B t l v) (o : Obj) : Box2 (W.alloc o) B t l v := h.kept (World.grownBy_alloc W o none) (by simp)
theorem Box2.below {n : Nat} (h : Box2 W B t l v) (hb : Below n W W') (hB : B < n) : Box2 W' B t l v := (hb.block B hB).trans h
theorem Box2.keeps {p : Nat → Prop} (h : Box2 W B t l v) (hk : Keeps p W W') (hB : p B) : Box2 W' B t l v := (hk.2 B hB h.lt).trans h
theorem Box2.put (h : Box2 W B t l v) (k : Nat) (o : Obj) (hk : B ≠ k) : Box2 (W.putObj k o) B t l v := (World.putObj_heap_other hk).trans h
theorem heap_set {c : Array Value} {f : Nat × Nat} (o : Nat) (u : Value) (h : W.heap[B]? = some (.cells c t f)) : (W.setCell ⟨B, o, none⟩ u).heap[B]? = some (.cells (c.setIfInBounds o u) t f) := by
  obtain ⟨hlt, hk⟩ := Array.getElem?_eq_some_iff.1 h
  show (W.heap.modify B _)[B]? = _
  rw [Array.getElem?_eq_getElem (by rw [Array.size_modify]; exact hlt), Array.getElem_modify_self, hk]
  rfl
theorem Box2.set (x y : Int) (h : Box2 W B t l v) : Box2 ((W.setCell ⟨B, 0, none⟩ (.int .i64 x)).setCell ⟨B, 1, none⟩ (.int .i64 y)) B t x y := heap_set 1 _ (heap_set 0 _ h)
end
end Go.Proofs.YtgoemaecdolioaaGreatDoor

/-
  Plain arithmetic of words of bytes: no Go in sight.
-/
namespace Go.Proofs.YtgoemaecdolioaaGreatDoor
namespace WM
/-- Element i of a list of numbers, 0 behind its end (the walk's own spelling). -/
abbrev at' (l : List Nat) (i : Nat) : Nat := l[i]?.getD 0
def Bytes256 (bs : List Nat) : Prop := ∀ i, at' bs i < 256
/-- How many words so many bytes have. -/
def need (n : Nat) : Nat := (n + 7) / 8
theorem at_none (l : List Nat) (i : Nat) (h : l.length ≤ i) : at' l i = 0 := by
  show l[i]?.getD 0 = 0
  rw [List.getElem?_eq_none h]; rfl
theorem list_ext (a b : List Nat) (hl : a.length = b.length) (h : ∀ i, i < a.length → at' a i = at' b i) : a = b := by
  apply List.ext_getElem hl
  intro i h1 h2
  have e := h i h1
  rw [show at' a i = a[i]?.getD 0 from rfl, show at' b i = b[i]?.getD 0 from rfl, List.getElem?_eq_getElem h1, List.getElem?_eq_getElem h2] at e
  exact e
end WM
end Go.Proofs.YtgoemaecdolioaaGreatDoor

/-
  Contracts of slices.Chunk at bytes.
-/
namespace Go.Proofs.YtgoemaecdolioaaGreatDoor
open Go.RowKit Go.Shelf
attribute [local go_sem] Oper.semAt_some
/-- The slice value v holds the numbers xs of kind k. -/
def Sl (W : World) (k : IntKind) (v : Value) (xs : List Nat) : Prop :=
  ∃ (a : Option Addr) (cap : Nat), v = .slice a xs.length cap ∧ xs.length ≤ cap ∧ (0 < xs.length → ∃ b off, a = some ⟨b, off, none⟩ ∧ b < W.heap.size ∧ ∀ j, j < xs.length → W.cell? ⟨b, off + j, none⟩ = some (.int k ((xs[j]?.getD 0 : Nat) : Int)))
theorem Sl.below {W W' : World} {k : IntKind} {v : Value} {xs : List Nat} (h : Sl W k v xs) (hb : Below W.heap.size W W') : Sl W' k v xs := by
  obtain ⟨a, cap, hv, hl, hc⟩ := h
  refine ⟨a, cap, hv, hl, fun h0 => ?_⟩
  obtain ⟨b, off, ha, hlt, hj⟩ := hc h0
  exact ⟨b, off, ha, Nat.lt_of_lt_of_le hlt hb.size, fun j hl => (hb.cell (p := ⟨b, off + j, none⟩) hlt).trans (hj j hl)⟩
end Go.Proofs.YtgoemaecdolioaaGreatDoor

/-
  Contracts of word's joined and of the fold over bytes.
-/
namespace Go.Proofs.YtgoemaecdolioaaGreatDoor
open Go.RowKit Go.Shelf

end Go.Proofs.YtgoemaecdolioaaGreatDoor

/-
  The contract of word.Words.
-/
namespace Go.Proofs.YtgoemaecdolioaaGreatDoor
open Go.RowKit Go.Shelf
attribute [local go_sem] Oper.semAt_some

theorem ownsRow_below {W W' : World} {base : Nat} {e : TypeId} {size : Nat} {v : Value} {n : Nat} {xs : List Value} (h : W.ownsRow base e size v n xs) (hb : Below W.heap.size W W') : W'.ownsRow base e size v n xs :=
  h.kept (row := none) ⟨hb.os, hb.tape, hb.output, hb.size, fun k hk _ => hb.block k hk⟩ (by
    rcases h.2 with ⟨rfl, _⟩ | ⟨g, cap, cur, rfl, _⟩
    · exact .inl rfl
    · exact .inr (by simp [Value.ownBlock]))
end Go.Proofs.YtgoemaecdolioaaGreatDoor

/-
  Contracts of waterlineref01.Same, and of what owns a row as a slice of numbers.
-/
namespace Go.Proofs.YtgoemaecdolioaaGreatDoor
open Go.RowKit Go.Shelf

theorem sl_of_owns {W : World} {base : Nat} {e : TypeId} {v : Value} {xs : List Nat} {k : IntKind} (h : W.ownsRow base e 1 v xs.length (xs.map fun y : Nat => Value.int k (y : Nat))) : Sl W k v xs := by
  rcases h.2 with ⟨rfl, h0⟩ | ⟨g, cap, cur, rfl, hb, hg, hc, _⟩
  · exact ⟨none, 0, by rw [h0], by omega, fun h1 => by omega⟩
  · refine ⟨some ⟨g, 0, none⟩, cap, rfl, hc, fun _ => ⟨g, 0, rfl, (Array.getElem?_eq_some_iff.1 hg).1, fun j hj => ?_⟩⟩
    rw [Nat.zero_add, World.ownsRow.cellAt h j (by omega), List.getElem?_map, List.getElem?_eq_getElem hj]
    rfl
theorem Sl.cell {W : World} {k : IntKind} {v : Value} {xs : List Nat} (h : Sl W k v xs) : ∃ (a : Option Addr) (cap b off : Nat), v = .slice a xs.length cap ∧ xs.length ≤ cap ∧ (0 < xs.length → a = some ⟨b, off, none⟩) ∧ (0 < xs.length → b < W.heap.size ∧ ∀ j, j < xs.length → W.cell? ⟨b, off + j, none⟩ = some (.int k ((xs[j]?.getD 0 : Nat) : Int))) := by
  obtain ⟨a, cap, hv, hl, hc⟩ := h
  rcases Nat.eq_zero_or_pos xs.length with h0 | h0
  · exact ⟨a, cap, 0, 0, hv, hl, fun h => by omega, fun h => by omega⟩
  · obtain ⟨b, off, h1, h2, h3⟩ := hc h0
    exact ⟨a, cap, b, off, hv, hl, fun _ => h1, fun _ => ⟨h2, h3⟩⟩
end Go.Proofs.YtgoemaecdolioaaGreatDoor

/-
  A scope with one label, to which the run jumps forward.
-/
namespace Go.Proofs.YtgoemaecdolioaaGreatDoor
open Go.RowKit

section
variable {P : Program} {a : Act} {w : World} {Q : Exit → Act → World → Prop}
theorem Exit.jump_ret {l : Nat} {J : Act → World → Prop} : Exit.jump l J Q .ret a w = Q .ret a w := rfl
/-- A scope with one label, to which the run jumps forward. -/
theorem wp_scope_forward {c rest : Code} (l : Nat) (hf : findLabel c l = some rest)
    (first : c.wp P (Exit.jump l (fun a w => rest.wp P (Exit.jump l (fun _ _ => False) Q) a w) Q) a w) : (Code.scope c).wp P Q a w :=
  wp_scope_jumps l (fun a w => rest.wp P (Exit.jump l (fun _ _ => False) Q) a w) (fun _ _ => 0) hf first
    fun a w h => wp_mono h fun e a' w' h' => by
      cases e <;> first | exact h' | exact h'.2.elim
end
end Go.Proofs.YtgoemaecdolioaaGreatDoor

/-
  A range over a function whose rounds may panic.
-/
namespace Go.Proofs.YtgoemaecdolioaaGreatDoor
open Go.RowKit Go.Shelf

section
variable {f : FuncId} {n : Nat} {P : Program} {Q : Exit → Act → World → Prop} {a : Act} {w : World}
end
end Go.Proofs.YtgoemaecdolioaaGreatDoor
