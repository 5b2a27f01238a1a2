/-
  A range over an iterator that has cells, and loops, of its own. The iterator may turn whatever lies from its call on; the body of the loop keeps all of that, and what the iterator names below it.
-/
import Derived.Test.YtoaloeipgadkjaaWordI
import Derived.RangeFuncWrites
import Derived.RangeFuncNested
namespace Go.Proofs.Ytoaloeipgadkjaa
open Go.RowKit Go.Shelf

/-- J does not mind what turns from block B on. -/
def Under {β : Type} (B : Nat) (J : β → World → Prop) : Prop := ∀ s W W', J s W → Below B W W' → J s W'
theorem Under.and {β : Type} {B : Nat} {I J : β → World → Prop} (h : Under B I) (k : Under B J) : Under B (fun s W => I s W ∧ J s W) := fun s W W' hs hb => ⟨h s W W' hs.1 hb, k s W W' hs.2 hb⟩
theorem Under.mono {β : Type} {B B' : Nat} {J : β → World → Prop} (h : Under B J) (hB : B ≤ B') : Under B' J := fun s W W' hs hb => h s W W' hs (hb.mono hB)
theorem Under.pure {β : Type} (B : Nat) (p : β → Prop) : Under B (fun s (_ : World) => p s) := fun _ _ _ hs _ => hs
theorem Under.imp {β : Type} {B : Nat} {I : β → World → Prop} (c : Prop) (h : Under B I) : Under B (fun s W => c → I s W) := fun s W W' hs hb hc => h s W W' (hs hc) hb
theorem Under.box {β : Type} {B A : Nat} {t : TypeId} (f : β → Value) (hA : A < B) : Under B (fun s W => Boxed W A t (f s)) := fun _ _ _ hs hb => (hb.block A hA).trans hs
theorem Under.below {β : Type} {B n₀ : Nat} {w₀ : World} (h : n₀ ≤ B) : Under B (fun (_ : β) W => Below n₀ w₀ W) := fun _ _ _ hs hb => hs.trans (hb.mono h)
theorem Keeps.weaken {p q : Nat → Prop} {A B : World} (h : Keeps p A B) (hq : ∀ k, q k → p k) : Keeps q A B := ⟨h.1, fun k hk hl => h.2 k (hq k hk) hl⟩
theorem keeps_putObj {q : Nat → Prop} (W : World) (l : Nat) (o : Obj) (hq : ¬ q l) : Keeps q W (W.putObj l o) := Keeps.of_grown (grownBy_putObj' W l o) (fun k e => by cases e; exact hq)
theorem below_putObj {B : Nat} (W : World) {l : Nat} (o : Obj) (hB : B ≤ l) (hl : l < W.heap.size) : Below B W (W.putObj l o) := (Below.refl _ _).grown (grownBy_putObj' W l o) (by omega) (fun k e => by cases e; exact hB)
/-- What an iterator promises: all of the elements come, or those up to the one at which it was told to stop. -/
def SeqP {α : Type} (p : Nat → Prop) (n : Nat) (P : Program) (g : Nat) (lb : Array Value) (encs : α → Array Value) (S Sp : List α → Prop) (w : World) : Prop :=
  ∀ (l : Nat) (J Jx : List α → World → Prop) (W : World), Below w.heap.size w W → Under W.heap.size J → Under W.heap.size Jx →
    (∀ pre x W1, J pre W1 → W.heap.size ≤ W1.heap.size → Sp (pre ++ [x]) → YieldAt Fence.wide (n - 1) P l (encs x) W1 fun e W' =>
      Keeps (fun k => p k ∨ W.heap.size ≤ k) W1 W' ∧ ((e = .returned (.bool true) ∧ J (pre ++ [x]) W') ∨ (e = .returned (.bool false) ∧ Jx (pre ++ [x]) W'))) →
    J [] W →
    CallsIn Fence.wide n P g (#[.func (.yield l) #[] #[]] ++ lb) W fun e W' => (∃ v, e = .returned v) ∧ ((∃ xs, S xs ∧ J xs W') ∨ (∃ pre, Sp pre ∧ Jx pre W'))
/-- How a round may end. -/
def postP {α : Type} (p : Nat → Prop) (B : Nat) (I : List α → World → Prop) (Ix : Code → List α → World → Prop) (xs : List α) (W : World) : Exit → Act → World → Prop
  | .normal, _, W' => Keeps (fun k => p k ∨ B ≤ k) W W' ∧ I xs W'
  | .ret, _, W' => Keeps (fun k => p k ∨ B ≤ k) W W' ∧ Ix .ret xs W'
  | .exit id, _, W' => Keeps (fun k => p k ∨ B ≤ k) W W' ∧ Ix (.exit id) xs W'
  | _, _, _ => False
theorem wpIn_range_P {α : Type} {n : Nat} {P : Program} {g : Operand} {ps : Array Tmp} {assign body : Code} {Q : Exit → Act → World → Prop} {a : Act} {w : World}
    (h1 : 1 ≤ n) {gf : Nat} {lb : Array Value} (hg : a.eval g = .func (.func gf) #[] lb) (eg : ∀ args w, (callFunc gf args).run P w = .ok (.enter gf args) w)
    {encs : α → Array Value} {p : Nat → Prop} {S Sp : List α → Prop} {w0 : World} (hseq : SeqP p (n - 1) P gf lb encs S Sp w0) (hp : ∀ k, p k → k < w.heap.size) (hb0 : Below w0.heap.size w0 w) (hps : ∀ x, (encs x).size = ps.size)
    (I : List α → World → Prop) (Ix : Code → List α → World → Prop) (hI : Under w.heap.size I) (hIx : ∀ c, Under w.heap.size (Ix c)) (h0 : I [] w) (a₁ : α → Act)
    (hassign : ∀ (l : Nat) (x : α) (W : World) (K : Act → World → Prop), K (a₁ x) W →
      assign.wpIn (Fence.wide.inRound l) (n - 1 - 1) P (Exit.then K (fun _ _ _ => False)) { tmps := (ps.zip (encs x)).foldl (fun t (p, v) => t.setIfInBounds p v) a.tmps, defers := [] } W)
    (hbody : ∀ (l : Nat) (pre : List α) (x : α) (W : World), I pre W → w.heap.size ≤ W.heap.size → Sp (pre ++ [x]) → body.wpIn (Fence.wide.inRound l) (n - 1 - 1) P (postP p w.heap.size I Ix (pre ++ [x]) W) (a₁ x) W)
    (hdone : ∀ (D : Nat) (xs : List α) (W : World), w.heap.size ≤ D → S xs → I xs W → W.heap[D]? = some (.deferred (some [])) → Q .normal { a with defers := { target := .collected D, args := #[] } :: a.defers } W)
    (hstop : ∀ (D : Nat) (c : Code) (pre : List α) (W : World), w.heap.size ≤ D → Sp pre → Ix c pre W → W.heap[D]? = some (.deferred (some [])) → c.wpIn Fence.wide n P Q { a with defers := { target := .collected D, args := #[] } :: a.defers } W) :
    (Code.rangeFunc g ps assign body).wpIn Fence.wide n P Q a w := by
  refine wpIn_rangeFunc fun fn hfn => ?_
  obtain ⟨rec, hrec⟩ : ∃ rec : LoopState → Option Code → Loop, rec = fun st pe => { state := st, pending := pe, fn, tmps := a.tmps, params := ps, assign, body, defers := w.heap.size } := ⟨_, rfl⟩
  have hst : ∀ st pe, (rec st pe).state = st := fun st pe => by rw [hrec]
  have hpen : ∀ st pe, (rec st pe).pending = pe := fun st pe => by rw [hrec]
  have hbusy : ∀ st pe, { rec st pe with state := .busy } = rec .busy pe := fun st pe => by rw [hrec]
  obtain ⟨W1, hW1⟩ : ∃ W1, (w.alloc (.deferred (some []))).alloc (.loop (rec .ready none)) = W1 := ⟨_, rfl⟩
  have hsz : W1.heap.size = w.heap.size + 2 := by rw [← hW1]; simp
  have hL1 : W1.heap[w.heap.size + 1]? = some (.loop (rec .ready none)) := by
    rw [← hW1]; have := World.alloc_heap_new (w.alloc (.deferred (some []))) (.loop (rec .ready none)); rwa [World.size_alloc] at this
  have hK1 : W1.heap[w.heap.size]? = some (.deferred (some [])) := by
    rw [← hW1]; exact (Below.heap_alloc _ _ _ (by simp)).trans (World.alloc_heap_new w _)
  have bW1 : Below w.heap.size w W1 := by rw [← hW1]; exact ((Below.refl _ _).alloc (Nat.le_refl _) _).alloc (by simp) _
  refine ⟨w.heap.size + 1, [{ target := .collected w.heap.size, args := #[] }], W1, { target := .fn (.func gf) lb, args := #[.func (.yield (w.heap.size + 1)) #[] #[]] }, W1, gf,
    #[.func (.yield (w.heap.size + 1)) #[] #[]] ++ lb, W1, ?_, ?_, fun _ _ => trivial, ?_, fun _ => h1, ?_⟩
  · rw [← hW1, hrec]; exact run_enterLoop_outer _ _ _ _ _
  · simp only [resolve, hg]
    simp [go_sem]
  · simp [invoke, go_sem, eg]
  · refine (hseq (w.heap.size + 1)
      (fun pre W => I pre W ∧ W.heap[w.heap.size + 1]? = some (.loop (rec .ready none)) ∧ W.heap[w.heap.size]? = some (.deferred (some [])))
      (fun pre W => ∃ c, Ix c pre W ∧ W.heap[w.heap.size + 1]? = some (.loop (rec .done (some c))) ∧ W.heap[w.heap.size]? = some (.deferred (some [])))
      W1 (hb0.trans (bW1.mono hb0.size))
      (fun s A C hs hb => ⟨hI s A C hs.1 (hb.mono (by omega)), (hb.block _ (by omega)).trans hs.2.1, (hb.block _ (by omega)).trans hs.2.2⟩)
      (fun s A C ⟨c, hc, hl, hk⟩ hb => ⟨c, hIx c s A C hc (hb.mono (by omega)), (hb.block _ (by omega)).trans hl, (hb.block _ (by omega)).trans hk⟩)
      ?_ ⟨hI [] w W1 h0 bW1, hL1, hK1⟩).mono ?_
    · rintro pre x W ⟨hi, hl, hk⟩ - hlen
      have hlt : w.heap.size + 1 < W.heap.size := (Array.getElem?_eq_some_iff.1 hl).1
      have hy := run_yield (P := P) (args := encs x) hl (by rw [hrec]; exact hps x)
      rw [hrec] at hy
      have hbr := run_beginRound (P := P) hl (hst _ _)
      rw [hbusy] at hbr
      obtain ⟨W2, hW2⟩ : ∃ W2, W.putObj (w.heap.size + 1) (.loop (rec .busy none)) = W2 := ⟨_, rfl⟩
      rw [hW2] at hbr
      have b2 : Below w.heap.size W W2 := by rw [← hW2]; exact below_putObj W _ (by omega) hlt
      have k2 : Keeps (fun k => p k ∨ W1.heap.size ≤ k) W W2 := by
        rw [← hW2]
        exact keeps_putObj W _ _ (fun h => h.elim (fun h => by have := hp _ h; omega) (fun h => by omega))
      have l2 : W2.heap[w.heap.size + 1]? = some (.loop (rec .busy none)) := by rw [← hW2]; exact World.putObj_heap_same hlt
      have d2 : W2.heap[w.heap.size]? = some (.deferred (some [])) := by rw [← hW2]; exact (World.putObj_heap_other (by omega)).trans hk
      refine ⟨fn, _, assign, body, hy, roundIn_of_wpIn hfn (hassign _ x W _ ⟨_, hbr, ?_⟩)⟩
      have hs2 : w.heap.size ≤ W2.heap.size := Nat.le_trans (by omega) b2.size
      refine wpIn_mono (hbody _ pre x W2 (hI pre W W2 hi b2) hs2 hlen) ?_
      have fin : ∀ (jump : Option Code) (W3 : World), Keeps (fun k => p k ∨ w.heap.size ≤ k) W2 W3 → ∃ W4,
          (Instr.endRound (w.heap.size + 1) jump).run P W3 = .ok (.bool jump.isNone) W4 ∧ Below w.heap.size W3 W4 ∧ Keeps (fun k => p k ∨ W1.heap.size ≤ k) W W4 ∧
          W4.heap[w.heap.size + 1]? = some (.loop (rec (if jump.isNone then .ready else .done) jump)) ∧ W4.heap[w.heap.size]? = some (.deferred (some [])) := fun jump W3 k3 => by
        have l3 : W3.heap[w.heap.size + 1]? = some (.loop (rec .busy none)) := (k3.2 _ (.inr (by omega)) (Array.getElem?_eq_some_iff.1 l2).1).trans l2
        have d3 : W3.heap[w.heap.size]? = some (.deferred (some [])) := (k3.2 _ (.inr (by omega)) (Array.getElem?_eq_some_iff.1 d2).1).trans d2
        have hl3 := (Array.getElem?_eq_some_iff.1 l3).1
        have he := run_endRound (P := P) jump l3
        rw [hrec] at he
        refine ⟨W3.putObj (w.heap.size + 1) (.loop (rec (if jump.isNone then .ready else .done) jump)), ?_, below_putObj W3 _ (by omega) hl3, ?_, World.putObj_heap_same hl3, (World.putObj_heap_other (by omega)).trans d3⟩
        · rw [hrec]; exact he
        · exact (k2.trans (k3.weaken fun k h => h.imp id fun h => by omega)).trans (keeps_putObj W3 _ _ (fun h => h.elim (fun h => by have := hp _ h; omega) (fun h => by omega)))
      rintro e a3 W3 hpost
      cases e with
      | normal =>
        obtain ⟨k3, hi3⟩ := hpost
        obtain ⟨W4, hr, b4, k4, l4, d4⟩ := fin none W3 k3
        exact ⟨_, _, hr, k4, .inl ⟨rfl, ⟨hI _ _ _ hi3 b4, l4, d4⟩⟩⟩
      | ret =>
        obtain ⟨k3, hi3⟩ := hpost
        obtain ⟨W4, hr, b4, k4, l4, d4⟩ := fin (some .ret) W3 k3
        exact ⟨_, _, hr, k4, .inr ⟨rfl, .ret, hIx _ _ _ _ hi3 b4, l4, d4⟩⟩
      | exit id =>
        obtain ⟨k3, hi3⟩ := hpost
        obtain ⟨W4, hr, b4, k4, l4, d4⟩ := fin (some (.exit id)) W3 k3
        exact ⟨_, _, hr, k4, .inr ⟨rfl, .exit id, hIx _ _ _ _ hi3 b4, l4, d4⟩⟩
      | goto t => exact hpost.elim
      | panic ch => exact hpost.elim
      | outgrown => exact hpost.elim
    · rintro e W2 ⟨⟨v, rfl⟩, (⟨xs, hS, hi, hl, hk⟩ | ⟨pre, hSp, c, hi, hl, hk⟩)⟩
      · have hlt := (Array.getElem?_eq_some_iff.1 hl).1
        have he := run_endLoop (P := P) hl (by rw [hst]; simp)
        rw [hpen] at he
        refine ⟨none, _, he, hdone _ xs _ (Nat.le_refl _) hS (hI _ _ _ hi (below_putObj W2 _ (by omega) hlt)) ((World.putObj_heap_other (by omega)).trans hk)⟩
      · have hlt := (Array.getElem?_eq_some_iff.1 hl).1
        have he := run_endLoop (P := P) hl (by rw [hst]; simp)
        rw [hpen] at he
        refine ⟨some c, _, he, hstop _ c pre _ (Nat.le_refl _) hSp (hIx c _ _ _ hi (below_putObj W2 _ (by omega) hlt)) ((World.putObj_heap_other (by omega)).trans hk)⟩
theorem keeps_box {p : Nat → Prop} {A : Nat} {t : TypeId} {v : Value} {W W' : World} (h : Boxed W A t v) (hk : Keeps p W W') (hA : p A) : Boxed W' A t v := (hk.2 A hA h.lt).trans h
theorem fin_prefix {m : Nat} {pre : List (Fin m)} {x : Fin m} (h : pre ++ [x] <+: List.finRange m) : x.1 = pre.length := by
  have h1 := h.getElem (i := pre.length) (by simp)
  simp at h1
  rw [h1]
theorem fin_all {m : Nat} : (List.finRange m).length = m := by simp
end Go.Proofs.Ytoaloeipgadkjaa
