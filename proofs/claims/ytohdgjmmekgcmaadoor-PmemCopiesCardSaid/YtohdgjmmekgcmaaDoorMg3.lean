/-
  Texts RangeQ to PmM, as one.
-/
import Derived.Test.YtohdgjmmekgcmaaDoorMg2
import Derived.Sort.QuietIn
import Derived.Maps.AppendAt
import Derived.Deep.DeepMust
import Derived.Maps.OwnIn
import Derived.Deep.MidRow
import Derived.Deep.WholeRow
/-
  A range over an iterator that has cells and loops of its own, where the loop's variable is boxed.
-/
namespace Go.Proofs.YtohdgjmmekgcmaaDoor
open Go.RowKit Go.Shelf

/-- Not a deferred call. -/
def noDefer (o : Oper) : Bool := match o.op with
  | .defer _ => false
  | _ => true
theorem noDefer_spec {o : Oper} (h : noDefer o = true) : ∀ c, o.op ≠ .defer c := fun c e => by unfold noDefer at h; rw [e] at h; cases h
section
variable {F : Fence} {n : Nat} {P : Program} {ops : Array Oper} {md : Region.Mode} {C : World → Prop}
/-- A quiet operation, in a round. -/
theorem wpIn_of_quiet_r {o : Oper} {a : Act} {K : Act → Prop} {K' : Act → World → Prop} {Q' : Exit → Act → World → Prop} {w : World} (hd : ∀ c, o.op ≠ .defer c) (hw : C w) (h : ∀ a w', C w' → K a → K' a w')
    (ha : o.askedIn F P a C) (hh : o.quietIn F n P a C K) : o.wpIn F n P a w K' Q' := by
  obtain ⟨v, h1, h2⟩ := hh
  have h3 := h1 w hw
  unfold Oper.quietAtIn at h3
  unfold Oper.wpIn
  refine ⟨ha w hw, ?_⟩
  rw [Oper.semAt_plain F _ _ hd]
  generalize (execOp a.eval o).run P w = r at *
  cases r with
  | ok x w' =>
    cases x <;> simp only [Oper.quietUponIn] at h3 <;> simp only [Oper.uponIn]
    case value u =>
      obtain ⟨e1, e2⟩ := h3
      rw [e1, e2]
      exact h _ _ hw h2
    case skip =>
      obtain ⟨e1, e2⟩ := h3
      rw [e1, ← e2]
      exact h _ _ hw h2
    case enter f args =>
      obtain ⟨e1, hd, hc⟩ := h3
      rw [e1]
      exact ⟨hd, hc.mono fun e w'' ⟨he, hw''⟩ => by subst he; exact h _ _ hw'' h2⟩
  | halt x w' => simp only [Oper.quietUponIn] at h3
theorem wpOpIn_of_qOpIn_r {i : Nat} {a : Act} {K : Act → Prop} {K' : Act → World → Prop} {Q' : Exit → Act → World → Prop} {w : World} (hd : ∀ (j : Nat) o, ops[j]? = some o → ∀ c, o.op ≠ .defer c) (hC : C w) (h : ∀ a w', C w' → K a → K' a w')
    (hh : qOpIn F n P ops C i K a) : wpOpIn F n P ops Q' i K' a w := by
  unfold qOpIn at hh
  unfold wpOpIn
  split
  · rename_i ho; simp only [ho] at hh; exact h _ _ hC hh
  · rename_i o ho
    simp only [ho] at hh
    obtain ⟨ha, hh⟩ := hh
    split
    · rename_i hw; simp only [hw, if_true] at hh; exact wpIn_of_quiet_r (hd _ _ ho) hC h ha hh
    · rename_i hw; simp only [hw] at hh; exact ⟨ha w hC, h _ _ hC hh⟩
theorem wpAnyIn_of_quiet_r {Q : Act → Prop} {Q' : Exit → Act → World → Prop} (hd : ∀ (j : Nat) o, ops[j]? = some o → ∀ c, o.op ≠ .defer c) (hQ : ∀ a w, C w → Q a → Q' .normal a w) : ∀ (fuel : Nat) (listed : Array Bool) (a : Act) (w : World), C w →
    wpAnyQIn F n P md ops C Q fuel listed a → wpAnyIn F n P md ops Q' fuel listed a w
  | 0, _, _, _, hw, h => ⟨h.1, hQ _ _ hw h.2⟩
  | fuel + 1, _, _, _, hw, h => ⟨fun h0 => hQ _ _ hw (h.1 h0), fun i hi => wpOpIn_of_qOpIn_r hd hw (fun a' w' hw' => wpAnyIn_of_quiet_r hd hQ fuel _ a' w' hw') (h.2 i hi)⟩
/-- A region that draws its order and only reads, in a round: one walk of its text serves. -/
theorem wpIn_region_quiet_r {id : Nat} {Q : Exit → Act → World → Prop} {a : Act} {w : World} {l : List Oper} (hd : l.all noDefer = true) (hm : P.follows .mixedOrders = true) (hB : Region.lexB .any l.toArray = true)
    (h : wpQuietIn F n P l.toArray (fun w' => ∃ n, w' = w.drewN n) (fun a' => ∀ w', (∃ n, w' = w.drewN n) → Q .normal a' w') l a) : (Code.region id l.toArray true).wpIn F n P Q a w := by
  simp only [Region.lexB, Bool.and_eq_true] at hB
  refine wpIn_region_any hm (wpAnyIn_of_quiet_r (C := fun w' => ∃ n, w' = w.drewN n) (Q := fun a' => ∀ w', (∃ n, w' = w.drewN n) → Q .normal a' w') (fun j o ho => noDefer_spec ((List.all_eq_true.1 hd) o (List.mem_of_getElem? (by simpa using ho)))) (fun _ w' hw' h => h w' hw') _ _ _ _ ⟨1, rfl⟩ ?_)
  have := wpAnyQIn_lex (F := F) (n := n) (C := fun w' => ∃ n, w' = w.drewN n) (md := .any) hB.1 l 0 (Array.replicate l.toArray.size false) a (by simp) (by simpa using hB.2) h
  simpa using this
end
/-- A goal put aside: the walk stands still at it. -/
def Park (p : Prop) : Prop := p
theorem park {p : Prop} (h : Park p) : p := h
/-- Nothing that lay has turned, but for the blocks of q. -/
structure Turn (q : Nat → Prop) (W W' : World) : Prop where
  os : W'.os = W.os
  tape : W'.tape = W.tape
  output : W'.output = W.output
  size : W.heap.size ≤ W'.heap.size
  block : ∀ k, k < W.heap.size → ¬ q k → W'.heap[k]? = W.heap[k]?
theorem Turn.of_below {q : Nat → Prop} {B : Nat} {W W' : World} (h : Below B W W') (hB : W.heap.size ≤ B) : Turn q W W' := ⟨h.os, h.tape, h.output, h.size, fun k hk _ => h.block k (Nat.lt_of_lt_of_le hk hB)⟩
theorem Turn.refl (q : Nat → Prop) (W : World) : Turn q W W := ⟨rfl, rfl, rfl, Nat.le_refl _, fun _ _ _ => rfl⟩
theorem Turn.trans {q : Nat → Prop} {A B C : World} (h : Turn q A B) (k : Turn q B C) : Turn q A C := ⟨k.os.trans h.os, k.tape.trans h.tape, k.output.trans h.output, Nat.le_trans h.size k.size, fun i hi hq => (k.block i (Nat.lt_of_lt_of_le hi h.size) hq).trans (h.block i hi hq)⟩
theorem Turn.mono {q q' : Nat → Prop} {A B : World} (h : Turn q A B) (hq : ∀ k, q k → q' k) : Turn q' A B := ⟨h.os, h.tape, h.output, h.size, fun i hi hn => h.block i hi fun hk => hn (hq i hk)⟩
theorem Turn.below {q : Nat → Prop} {B : Nat} {A C : World} (h : Turn q A C) (hq : ∀ k, q k → B ≤ k) (hB : B ≤ A.heap.size) : Below B A C := ⟨h.os, h.tape, h.output, h.size, fun k hk => h.block k (Nat.lt_of_lt_of_le hk hB) fun hn => absurd (hq k hn) (by omega)⟩
theorem Turn.putObj {q : Nat → Prop} {W : World} {l : Nat} (o : Obj) (hl : q l) (hlt : l < W.heap.size) : Turn q W (W.putObj l o) :=
  have h := below_putObj W o (Nat.le_refl l) hlt
  ⟨h.os, h.tape, h.output, h.size, fun k _ hq => World.putObj_heap_other (fun e => hq (by rw [e]; exact hl))⟩
theorem Turn.setCell {q : Nat → Prop} (W : World) {b o : Nat} (v : Value) (hb : q b) : Turn q W (W.setCell ⟨b, o, none⟩ v) :=
  have h := (Below.refl b W).setCell (p := ⟨b, o, none⟩) (Nat.le_refl _) v
  ⟨h.os, h.tape, h.output, h.size, fun k _ hq => Below.heap_setCell _ _ _ k (fun e => hq (by rw [e]; exact hb))⟩
/-- J, of which the blocks of q are no part, does not mind what turns in q; new blocks may come to q. -/
def Abides {β : Type} (J : β → (Nat → Prop) → World → Prop) : Prop := ∀ s (q q' : Nat → Prop) W W', J s q W → Turn q W W' → (∀ k, q' k → q k ∨ W.heap.size ≤ k) → J s q' W'
theorem Abides.and {β : Type} {I J : β → (Nat → Prop) → World → Prop} (h : Abides I) (k : Abides J) : Abides (fun s q W => I s q W ∧ J s q W) := fun s q q' W W' hs ht hq => ⟨h s q q' W W' hs.1 ht hq, k s q q' W W' hs.2 ht hq⟩
theorem Abides.pure {β : Type} (f : β → Prop) : Abides (fun s _ (_ : World) => f s) := fun _ _ _ _ _ hs _ _ => hs
/-- A box that is no part of q. -/
def BoxF (A : Nat) (t : TypeId) (v : Value) (q : Nat → Prop) (W : World) : Prop := Boxed W A t v ∧ ¬ q A
theorem Abides.box {β : Type} (A : Nat) (t : TypeId) (f : β → Value) : Abides (fun s q W => BoxF A t (f s) q W) := fun s q q' W W' hs ht hq => ⟨(ht.block A hs.1.lt hs.2).trans hs.1, fun h => (hq A h).elim hs.2 fun h2 => by have := hs.1.lt; omega⟩
theorem Abides.size {β : Type} (m : Nat) : Abides (fun (_ : β) _ W => m ≤ W.heap.size) := fun _ _ _ _ _ hs ht _ => Nat.le_trans hs ht.size
/-- What lies below B has not turned since w, and is no part of q. -/
def BelowF (B : Nat) (w : World) (q : Nat → Prop) (W : World) : Prop := Below B w W ∧ B ≤ W.heap.size ∧ ∀ k, q k → B ≤ k
theorem Abides.below {β : Type} (B : Nat) (w : World) : Abides (fun (_ : β) q W => BelowF B w q W) := fun _ _ _ _ _ hs ht hq => ⟨hs.1.trans (ht.below hs.2.2 hs.2.1), Nat.le_trans hs.2.1 ht.size, fun k hk => (hq k hk).elim (hs.2.2 k) fun h => by have := hs.2.1; omega⟩
theorem Abides.weaken {β : Type} {J : β → (Nat → Prop) → World → Prop} (h : Abides J) {s : β} {q q' : Nat → Prop} {W : World} (hs : J s q W) (hq : ∀ k, q' k → q k ∨ W.heap.size ≤ k) : J s q' W := h s q q' W W hs (Turn.refl _ _) hq
/-- What an iterator promises: all of the elements come, or those up to the one at which it was told to stop. q: the blocks of its own. -/
def SeqF {α : Type} (p : Nat → Prop) (n : Nat) (P : Program) (g : Nat) (lb : Array Value) (encs : α → Array Value) (S Sp : List α → Prop) (w : World) : Prop :=
  ∀ (l : Nat) (J Jx : List α → (Nat → Prop) → World → Prop) (W : World), Below w.heap.size w W → Abides J → Abides Jx →
    (∀ pre x q W1, J pre q W1 → W.heap.size ≤ W1.heap.size → (∀ k, q k → W.heap.size ≤ k ∧ k < W1.heap.size) → Sp (pre ++ [x]) → YieldAt Fence.wide (n - 1) P l (encs x) W1 fun e W' =>
      Keeps (fun k => p k ∨ q k) W1 W' ∧ ((e = .returned (.bool true) ∧ J (pre ++ [x]) q W') ∨ (e = .returned (.bool false) ∧ Jx (pre ++ [x]) q W'))) →
    J [] (fun _ => False) W →
    CallsIn Fence.wide n P g (#[.func (.yield l) #[] #[]] ++ lb) W fun e W' => (∃ v, e = .returned v) ∧ ((∃ xs, S xs ∧ J xs (fun _ => False) W') ∨ (∃ pre, Sp pre ∧ Jx pre (fun _ => False) W'))
/-- How a round may end. -/
def postF {α : Type} (p q : Nat → Prop) (I : List α → (Nat → Prop) → World → Prop) (Ix : Code → List α → (Nat → Prop) → World → Prop) (xs : List α) (W : World) : Exit → Act → World → Prop
  | .normal, _, W' => Keeps (fun k => p k ∨ q k) W W' ∧ I xs q W'
  | .ret, _, W' => Keeps (fun k => p k ∨ q k) W W' ∧ Ix .ret xs q W'
  | .exit id, _, W' => Keeps (fun k => p k ∨ q k) W W' ∧ Ix (.exit id) xs q W'
  | _, _, _ => False
/-- A range over an iterator that has blocks of its own; the assignment may lay a block in each round. -/
theorem wpIn_range_F {α : Type} {n : Nat} {P : Program} {g : Operand} {ps : Array Tmp} {assign body : Code} {Q : Exit → Act → World → Prop} {a : Act} {w : World}
    (h1 : 1 ≤ n) {gf : Nat} {lb : Array Value} (hg : a.eval g = .func (.func gf) #[] lb) (eg : ∀ args w, (callFunc gf args).run P w = .ok (.enter gf args) w)
    {encs : α → Array Value} {p : Nat → Prop} {S Sp : List α → Prop} {w0 : World} (hseq : SeqF p (n - 1) P gf lb encs S Sp w0) (hp : ∀ k, p k → k < w.heap.size) (hb0 : Below w0.heap.size w0 w) (hps : ∀ x, (encs x).size = ps.size)
    (I : List α → (Nat → Prop) → World → Prop) (Ix : Code → List α → (Nat → Prop) → World → Prop) (hI : Abides I) (hIx : ∀ c, Abides (Ix c)) (h0 : I [] (fun _ => False) w) (Ax : α → Act → World → Prop)
    (hAx : ∀ (x : α) (a' : Act) (W : World) (o : Obj), Ax x a' W → Ax x a' (W.putObj (w.heap.size + 1) o))
    (hassign : ∀ (l : Nat) (x : α) (W : World) (K : Act → World → Prop), w.heap.size + 2 ≤ W.heap.size → (∀ a' W', Ax x a' W' → Below W.heap.size W W' → K a' W') →
      assign.wpIn (Fence.wide.inRound l) (n - 1 - 1) P (Exit.then K (fun _ _ _ => False)) { tmps := (ps.zip (encs x)).foldl (fun t (p, v) => t.setIfInBounds p v) a.tmps, defers := [] } W)
    (hbody : ∀ (l : Nat) (pre : List α) (x : α) (a' : Act) (q : Nat → Prop) (W : World), I pre q W → w.heap.size + 2 ≤ W.heap.size → (∀ k, q k → w.heap.size ≤ k ∧ k < W.heap.size) → Sp (pre ++ [x]) → Ax x a' W → body.wpIn (Fence.wide.inRound l) (n - 1 - 1) P (postF p q I Ix (pre ++ [x]) W) a' W)
    (hdone : ∀ (D : Nat) (xs : List α) (W : World), w.heap.size ≤ D → S xs → I xs (fun k => k = D) W → W.heap[D]? = some (.deferred (some [])) → Q .normal { a with defers := { target := .collected D, args := #[] } :: a.defers } W)
    (hstop : ∀ (D : Nat) (c : Code) (pre : List α) (W : World), w.heap.size ≤ D → Sp pre → Ix c pre (fun k => k = D) W → W.heap[D]? = some (.deferred (some [])) → c.wpIn Fence.wide n P Q { a with defers := { target := .collected D, args := #[] } :: a.defers } W) :
    (Code.rangeFunc g ps assign body).wpIn Fence.wide n P Q a w := by
  refine wpIn_rangeFunc fun fn hfn => ?_
  obtain ⟨rec, hrec⟩ : ∃ rec : LoopState → Option Code → Loop, rec = fun st pe => { state := st, pending := pe, fn, tmps := a.tmps, params := ps, assign, body, defers := w.heap.size } := ⟨_, rfl⟩
  have hst : ∀ st pe, (rec st pe).state = st := fun st pe => by rw [hrec]
  have hpen : ∀ st pe, (rec st pe).pending = pe := fun st pe => by rw [hrec]
  have hbusy : ∀ st pe, { rec st pe with state := .busy } = rec .busy pe := fun st pe => by rw [hrec]
  obtain ⟨W1, hW1⟩ : ∃ W1, (w.alloc (.deferred (some []))).alloc (.loop (rec .ready none)) = W1 := ⟨_, rfl⟩
  have hsz : W1.heap.size = w.heap.size + 2 := by rw [← hW1]; simp
  have hL1 : W1.heap[w.heap.size + 1]? = some (.loop (rec .ready none)) := by
    rw [← hW1]; have := World.alloc_heap_new (w.alloc (.deferred (some []))) (.loop (rec .ready none)); rwa [World.size_alloc] at this
  have hK1 : W1.heap[w.heap.size]? = some (.deferred (some [])) := by
    rw [← hW1]; exact (Below.heap_alloc _ _ _ (by simp)).trans (World.alloc_heap_new w _)
  have bW1 : Below w.heap.size w W1 := by rw [← hW1]; exact ((Below.refl _ _).alloc (Nat.le_refl _) _).alloc (by simp) _
  refine ⟨w.heap.size + 1, [{ target := .collected w.heap.size, args := #[] }], W1, { target := .fn (.func gf) lb, args := #[.func (.yield (w.heap.size + 1)) #[] #[]] }, W1, gf,
    #[.func (.yield (w.heap.size + 1)) #[] #[]] ++ lb, W1, ?_, ?_, fun _ _ => trivial, ?_, fun _ => h1, ?_⟩
  · rw [← hW1, hrec]; exact run_enterLoop_outer _ _ _ _ _
  · simp only [resolve, hg]
    simp [go_sem]
  · simp [invoke, go_sem, eg]
  · refine (hseq (w.heap.size + 1)
      (fun pre q W => I pre (fun k => q k ∨ k = w.heap.size ∨ k = w.heap.size + 1) W ∧ W.heap[w.heap.size + 1]? = some (.loop (rec .ready none)) ∧ W.heap[w.heap.size]? = some (.deferred (some [])) ∧ ¬ q (w.heap.size + 1) ∧ ¬ q w.heap.size)
      (fun pre q W => ∃ c, Ix c pre (fun k => q k ∨ k = w.heap.size ∨ k = w.heap.size + 1) W ∧ W.heap[w.heap.size + 1]? = some (.loop (rec .done (some c))) ∧ W.heap[w.heap.size]? = some (.deferred (some [])) ∧ ¬ q (w.heap.size + 1) ∧ ¬ q w.heap.size)
      W1 (hb0.trans (bW1.mono hb0.size))
      (fun s q q' A C ⟨hi, hl, hk, hq1, hq2⟩ ht hq => by
        have l1 := (Array.getElem?_eq_some_iff.1 hl).1
        refine ⟨hI s _ _ A C hi (ht.mono fun k h => .inl h) (fun k h => ?_), (ht.block _ l1 hq1).trans hl, (ht.block _ (by omega) hq2).trans hk, fun h => ?_, fun h => ?_⟩
        · rcases h with h | h
          · exact (hq k h).imp .inl id
          · exact .inl (.inr h)
        · exact (hq _ h).elim hq1 fun h => by omega
        · exact (hq _ h).elim hq2 fun h => by omega)
      (fun s q q' A C ⟨c, hi, hl, hk, hq1, hq2⟩ ht hq => by
        have l1 := (Array.getElem?_eq_some_iff.1 hl).1
        refine ⟨c, hIx c s _ _ A C hi (ht.mono fun k h => .inl h) (fun k h => ?_), (ht.block _ l1 hq1).trans hl, (ht.block _ (by omega) hq2).trans hk, fun h => ?_, fun h => ?_⟩
        · rcases h with h | h
          · exact (hq k h).imp .inl id
          · exact .inl (.inr h)
        · exact (hq _ h).elim hq1 fun h => by omega
        · exact (hq _ h).elim hq2 fun h => by omega)
      ?_ ⟨hI [] _ _ w W1 h0 (Turn.of_below bW1 (Nat.le_refl _)) (fun k h => .inr (by rcases h with h | h | h <;> first | exact h.elim | omega)), hL1, hK1, id, id⟩).mono ?_
    · rintro pre x q W ⟨hi, hl, hk, hq1, hq2⟩ - hqb hlen
      have hlt : w.heap.size + 1 < W.heap.size := (Array.getElem?_eq_some_iff.1 hl).1
      have hy := run_yield (P := P) (args := encs x) hl (by rw [hrec]; exact hps x)
      rw [hrec] at hy
      refine ⟨fn, _, assign, body, hy, roundIn_of_wpIn hfn (hassign _ x W _ (by omega) fun a' Wa hax bA => ?_)⟩
      have la : Wa.heap[w.heap.size + 1]? = some (.loop (rec .ready none)) := (bA.block _ hlt).trans hl
      have da : Wa.heap[w.heap.size]? = some (.deferred (some [])) := (bA.block _ (by omega)).trans hk
      have hlta : w.heap.size + 1 < Wa.heap.size := Nat.lt_of_lt_of_le hlt bA.size
      have hbr := run_beginRound (P := P) la (hst _ _)
      rw [hbusy] at hbr
      obtain ⟨W2, hW2⟩ : ∃ W2, Wa.putObj (w.heap.size + 1) (.loop (rec .busy none)) = W2 := ⟨_, rfl⟩
      rw [hW2] at hbr
      refine ⟨_, hbr, ?_⟩
      have t2 : Turn (fun k => q k ∨ k = w.heap.size ∨ k = w.heap.size + 1) W W2 := by rw [← hW2]; exact (Turn.of_below bA (Nat.le_refl _)).trans (Turn.putObj _ (.inr (.inr rfl)) hlta)
      have k2 : Keeps (fun k => p k ∨ q k) W W2 := by
        rw [← hW2]
        exact Keeps.trans ⟨bA.size, fun k _ hl => bA.block k hl⟩ (keeps_putObj Wa _ _ (fun h => h.elim (fun h => by have := hp _ h; omega) hq1))
      have l2 : W2.heap[w.heap.size + 1]? = some (.loop (rec .busy none)) := by rw [← hW2]; exact World.putObj_heap_same hlta
      have d2 : W2.heap[w.heap.size]? = some (.deferred (some [])) := by rw [← hW2]; exact (World.putObj_heap_other (by omega)).trans da
      have hs2 : w.heap.size + 2 ≤ W2.heap.size := Nat.le_trans (by omega) t2.size
      have ax2 : Ax x a' W2 := by rw [← hW2]; exact hAx _ _ _ _ hax
      refine wpIn_mono (hbody _ pre x a' (fun k => q k ∨ k = w.heap.size ∨ k = w.heap.size + 1) W2 (hI pre _ _ W W2 hi t2 (fun k h => .inl h)) hs2 (fun k h => ?_) hlen ax2) ?_
      · have := t2.size
        rcases h with h | h | h
        · have := hqb k h; omega
        · omega
        · omega
      have fin : ∀ (jump : Option Code) (W3 : World), Keeps (fun k => p k ∨ (q k ∨ k = w.heap.size ∨ k = w.heap.size + 1)) W2 W3 → ∃ W4,
          (Instr.endRound (w.heap.size + 1) jump).run P W3 = .ok (.bool jump.isNone) W4 ∧ Turn (fun k => q k ∨ k = w.heap.size ∨ k = w.heap.size + 1) W3 W4 ∧ Keeps (fun k => p k ∨ q k) W W4 ∧
          W4.heap[w.heap.size + 1]? = some (.loop (rec (if jump.isNone then .ready else .done) jump)) ∧ W4.heap[w.heap.size]? = some (.deferred (some [])) := fun jump W3 k3 => by
        have l3 : W3.heap[w.heap.size + 1]? = some (.loop (rec .busy none)) := (k3.2 _ (.inr (.inr (.inr rfl))) (Array.getElem?_eq_some_iff.1 l2).1).trans l2
        have d3 : W3.heap[w.heap.size]? = some (.deferred (some [])) := (k3.2 _ (.inr (.inr (.inl rfl))) (Array.getElem?_eq_some_iff.1 d2).1).trans d2
        have hl3 := (Array.getElem?_eq_some_iff.1 l3).1
        have he := run_endRound (P := P) jump l3
        rw [hrec] at he
        refine ⟨W3.putObj (w.heap.size + 1) (.loop (rec (if jump.isNone then .ready else .done) jump)), ?_, Turn.putObj _ (.inr (.inr rfl)) hl3, ?_, World.putObj_heap_same hl3, (World.putObj_heap_other (by omega)).trans d3⟩
        · rw [hrec]; exact he
        · exact (k2.trans (k3.weaken fun k h => h.imp id .inl)).trans (keeps_putObj W3 _ _ (fun h => h.elim (fun h => by have := hp _ h; omega) hq1))
      rintro e a3 W3 hpost
      cases e with
      | normal =>
        obtain ⟨k3, hi3⟩ := hpost
        obtain ⟨W4, hr, b4, k4, l4, d4⟩ := fin none W3 k3
        exact ⟨_, _, hr, k4, .inl ⟨rfl, ⟨hI _ _ _ _ _ hi3 b4 (fun k h => .inl h), l4, d4, hq1, hq2⟩⟩⟩
      | ret =>
        obtain ⟨k3, hi3⟩ := hpost
        obtain ⟨W4, hr, b4, k4, l4, d4⟩ := fin (some .ret) W3 k3
        exact ⟨_, _, hr, k4, .inr ⟨rfl, .ret, hIx _ _ _ _ _ _ hi3 b4 (fun k h => .inl h), l4, d4, hq1, hq2⟩⟩
      | exit id =>
        obtain ⟨k3, hi3⟩ := hpost
        obtain ⟨W4, hr, b4, k4, l4, d4⟩ := fin (some (.exit id)) W3 k3
        exact ⟨_, _, hr, k4, .inr ⟨rfl, .exit id, hIx _ _ _ _ _ _ hi3 b4 (fun k h => .inl h), l4, d4, hq1, hq2⟩⟩
      | goto t => exact hpost.elim
      | panic ch => exact hpost.elim
      | outgrown => exact hpost.elim
    · rintro e W2 ⟨⟨v, rfl⟩, (⟨xs, hS, hi, hl, hk, -, -⟩ | ⟨pre, hSp, c, hi, hl, hk, -, -⟩)⟩
      · have hlt := (Array.getElem?_eq_some_iff.1 hl).1
        have he := run_endLoop (P := P) hl (by rw [hst]; simp)
        rw [hpen] at he
        refine ⟨none, _, he, hdone _ xs _ (Nat.le_refl _) hS (hI _ _ _ _ _ hi (Turn.putObj _ (.inr (.inr rfl)) hlt) (fun k h => .inl (.inr (.inl h)))) ((World.putObj_heap_other (by omega)).trans hk)⟩
      · have hlt := (Array.getElem?_eq_some_iff.1 hl).1
        have he := run_endLoop (P := P) hl (by rw [hst]; simp)
        rw [hpen] at he
        refine ⟨some c, _, he, hstop _ c pre _ (Nat.le_refl _) hSp (hIx c _ _ _ _ _ hi (Turn.putObj _ (.inr (.inr rfl)) hlt) (fun k h => .inl (.inr (.inl h)))) ((World.putObj_heap_other (by omega)).trans hk)⟩
/-- A function that ranges over one function leaves: its mark is taken. -/
theorem leaves_one {F : Fence} {n : Nat} {P : Program} {fn : Func} {tmps : Array Value} {R : Ending → World → Prop} {D : Nat} {W : World} (hK : W.heap[D]? = some (.deferred (some [])))
    (h : ∀ W', Turn (fun k => k = D) W W' → (∀ (k : Nat) c t f, W.heap[k]? = some (Obj.cells c t f) → W'.heap[k]? = some (Obj.cells c t f)) → LeavesIn F n P fn tmps R [] .returning W') : LeavesInM F n P fn tmps R [{ target := .collected D, args := #[] }] .returning W :=
  ⟨by simp, .inl ⟨_, _, rfl, run_takeDeferred hK, h _ (Turn.putObj _ rfl (Array.getElem?_eq_some_iff.1 hK).1) ((Shut.putObj W (Nat.le_refl D) hK rfl rfl).2)⟩⟩
theorem heap_at (W : World) (o : Obj) (k : Nat) : (W.alloc o).heap[k]? = if k = W.heap.size then some o else W.heap[k]? := by
  by_cases h : k = W.heap.size
  · subst h; rw [if_pos rfl]; exact World.alloc_heap_new W o
  · rw [if_neg h]
    by_cases hk : k < W.heap.size
    · exact Below.heap_alloc _ _ _ hk
    · rw [show (W.alloc o).heap[k]? = none from Array.getElem?_eq_none (by rw [World.size_alloc]; omega), show W.heap[k]? = none from Array.getElem?_eq_none (by omega)]
/-- A block that holds two numbers. -/
def Box2 (W : World) (B : Nat) (t : TypeId) (l v : Int) : Prop := W.heap[B]? = some (.cells #[.int .i64 l, .int .i64 v] t (0, 0))
section
variable {W W' : World} {B : Nat} {t : TypeId} {l v : Int}
theorem Box2.lt (h : Box2 W B t l v) : B < W.heap.size := (Array.getElem?_eq_some_iff.1 h).1
theorem Box2.cell0 (h : Box2 W B t l v) : W.cell? ⟨B, 0, none⟩ = some (.int .i64 l) := by simp [World.cell?, show W.heap[B]? = _ from h]
theorem Box2.cell1 (h : Box2 W B t l v) : W.cell? ⟨B, 1, none⟩ = some (.int .i64 v) := by simp [World.cell?, show W.heap[B]? = _ from h]
theorem Box2.frozen0 (h : Box2 W B t l v) : W.frozen? ⟨B, 0, none⟩ = false := by simp [World.frozen?, show W.heap[B]? = _ from h]
theorem Box2.frozen1 (h : Box2 W B t l v) : W.frozen? ⟨B, 1, none⟩ = false := by simp [World.frozen?, show W.heap[B]? = _ from h]
theorem Box2.new (W : World) (t : TypeId) (l v : Int) : Box2 (W.alloc (.cells #[.int .i64 l, .int .i64 v] t)) W.heap.size t l v := World.alloc_heap_new W _
theorem Box2.kept {row : Option Nat} (h : Box2 W B t l v) (hg : W.grownBy W' row) (hne : some B ≠ row) : Box2 W' B t l v := (hg.block B h.lt hne).trans h
theorem Box2.alloc (h : Box2 W B t l v) (o : Obj) : Box2 (W.alloc o) B t l v := h.kept (World.grownBy_alloc W o none) (by simp)
theorem Box2.below {n : Nat} (h : Box2 W B t l v) (hb : Below n W W') (hB : B < n) : Box2 W' B t l v := (hb.block B hB).trans h
theorem Box2.keeps {p : Nat → Prop} (h : Box2 W B t l v) (hk : Keeps p W W') (hB : p B) : Box2 W' B t l v := (hk.2 B hB h.lt).trans h
theorem Box2.put (h : Box2 W B t l v) (k : Nat) (o : Obj) (hk : B ≠ k) : Box2 (W.putObj k o) B t l v := (World.putObj_heap_other hk).trans h
theorem heap_set {c : Array Value} {f : Nat × Nat} (o : Nat) (u : Value) (h : W.heap[B]? = some (.cells c t f)) : (W.setCell ⟨B, o, none⟩ u).heap[B]? = some (.cells (c.setIfInBounds o u) t f) := by
  obtain ⟨hlt, hk⟩ := Array.getElem?_eq_some_iff.1 h
  show (W.heap.modify B _)[B]? = _
  rw [Array.getElem?_eq_getElem (by rw [Array.size_modify]; exact hlt), Array.getElem_modify_self, hk]
  rfl
theorem Box2.set (x y : Int) (h : Box2 W B t l v) : Box2 ((W.setCell ⟨B, 0, none⟩ (.int .i64 x)).setCell ⟨B, 1, none⟩ (.int .i64 y)) B t x y := heap_set 1 _ (heap_set 0 _ h)
end
theorem round_in {m m' : Nat} {l l2 fn : Nat} {P : Program} {tmps : Array Value} {assign body : Code} {W : World} {R : Ending → World → Prop} (h : RoundIn Fence.wide m P l fn tmps assign body W R) : RoundIn (Fence.wide.inRound l2) m' P l fn tmps assign body W R := ⟨trivial, fun c cs _ => h.2 c cs (by simp [Fence.room, Fence.wide])⟩
/-- Two numbers in a box that is no part of q. -/
theorem Abides.box2 {β : Type} (A : Nat) (t : TypeId) (f g : β → Int) : Abides (fun s q W => Box2 W A t (f s) (g s) ∧ ¬ q A) := fun s q q' W W' hs ht hq => ⟨(ht.block A hs.1.lt hs.2).trans hs.1, fun h => (hq A h).elim hs.2 fun h2 => by have := hs.1.lt; omega⟩
theorem Under.box2 {β : Type} {B A : Nat} {t : TypeId} (f g : β → Int) (hA : A < B) : Under B (fun s W => Box2 W A t (f s) (g s)) := fun _ _ _ hs hb => (hb.block A hA).trans hs
end Go.Proofs.YtohdgjmmekgcmaaDoor

/-
  place's iterators: onward, Run.
-/
namespace Go.Proofs.YtohdgjmmekgcmaaDoor
open Go.RowKit Go.Shelf
attribute [local go_sem] Oper.semAt_some

/-- The place so many behind one; how many there are from it on; all of them. -/
def cur (l v : Int) (k : Nat) : Int × Int := if okP l v then ((8 * l + v + k) / 8, (8 * l + v + k) % 8) else (l, v)
def roomN (l v : Int) : Nat := if okP l v then (8192 - (8 * l + v)).toNat else 0
def places (l v : Int) : List (Int × Int) := (List.range (roomN l v)).map (cur l v)
theorem roomN_le (l v : Int) : roomN l v ≤ 8192 := by
  unfold roomN
  cases h : okP l v with
  | false => simp
  | true =>
    have := okP_iff.1 h
    simp only [if_true]
    omega
theorem cur_zero (l v : Int) : cur l v 0 = (l, v) := by
  unfold cur
  cases h : okP l v with
  | false => rfl
  | true =>
    have := okP_iff.1 h
    show ((8 * l + v + (0 : Nat)) / 8, (8 * l + v + (0 : Nat)) % 8) = _
    congr 1 <;> omega
theorem cur_ok (l v : Int) (k : Nat) (hk : k ≤ roomN l v) : okP (cur l v k).1 (cur l v k).2 = decide (k < roomN l v) := by
  unfold cur roomN at *
  cases h : okP l v with
  | false => rw [h] at hk; simp at hk; subst hk; simpa using h
  | true =>
    rw [h] at hk
    have := okP_iff.1 h
    simp only [if_true] at hk ⊢
    unfold okP
    rw [decide_eq_decide]
    omega
theorem cur_step (l v : Int) (k : Nat) (hk : k < roomN l v) : (8 * (cur l v k).1 + (cur l v k).2 + 1) / 8 = (cur l v (k + 1)).1 ∧ (8 * (cur l v k).1 + (cur l v k).2 + 1) % 8 = (cur l v (k + 1)).2 := by
  unfold cur roomN at *
  cases h : okP l v with
  | false => rw [h] at hk; simp at hk
  | true =>
    have := okP_iff.1 h
    simp only [if_true]
    omega
theorem cur_addr (l v : Int) (k : Nat) (hk : k < roomN l v) : 8 * (cur l v k).1 + (cur l v k).2 = 8 * l + v + k ∧ 0 ≤ 8 * l + v ∧ 8 * l + v + k < 8192 := by
  unfold cur roomN at *
  cases h : okP l v with
  | false => rw [h] at hk; simp at hk
  | true =>
    have := okP_iff.1 h
    rw [h] at hk
    simp only [if_true] at hk ⊢
    omega
theorem places_take (l v : Int) (k : Nat) (hk : k < roomN l v) : (places l v).take k ++ [cur l v k] = (places l v).take (k + 1) := by
  have hl : k < (places l v).length := by simpa [places] using hk
  rw [List.take_succ_eq_append_getElem hl]
  simp [places]
theorem places_len (l v : Int) : (places l v).length = roomN l v := by simp [places]
/-- The address in a box. -/
def addrAt (p : Value) (W : World) : Int := match p with
  | .pointer (some a) => 8 * intOf ((W.cell? ⟨a.block, 0, none⟩).getD undef) + intOf ((W.cell? ⟨a.block, 1, none⟩).getD undef)
  | _ => 0
theorem addrAt_eq {W : World} {B : Nat} {t : TypeId} {l v : Int} (h : Box2 W B t l v) : addrAt (.pointer (some ⟨B, 0, none⟩)) W = 8 * l + v := by
  unfold addrAt
  simp only [h.cell0, h.cell1]
  rfl
/-- What an iterator over places hands out. -/
def encP (x : Int × Int) : Array Value := #[.agg #[.int .i64 x.1, .int .i64 x.2]]
end Go.Proofs.YtohdgjmmekgcmaaDoor

/-
  place's iterator Run.
-/
namespace Go.Proofs.YtohdgjmmekgcmaaDoor
open Go.RowKit Go.Shelf
attribute [local go_sem] Oper.semAt_some

/-- The places of a run. -/
def runP (l v many : Int) : List (Int × Int) := (places l v).take many.toNat
theorem prefix_take {pre L : List (Int × Int)} {n : Nat} (h : pre <+: L) (hl : pre.length ≤ n) : pre <+: L.take n := by
  obtain ⟨r, rfl⟩ := h
  rw [List.take_append, List.take_of_length_le hl]
  exact List.prefix_append _ _
theorem prefix_eq_take {pre L : List (Int × Int)} (h : pre <+: L) : pre = L.take pre.length := by
  obtain ⟨r, rfl⟩ := h
  simp
/-- Where the rounds are left. -/
def RunX (J Jx : List (Int × Int) → (Nat → Prop) → World → Prop) (s : Nat) (many : Int) (cd : Code) (pre : List (Int × Int)) (q : Nat → Prop) (W' : World) : Prop :=
  cd = .exit 0 ∧ ((Jx pre (fun k => q k ∨ k = s ∨ k = s + 1) W' ∧ pre.length ≤ many.toNat) ∨ (∃ p0 x, pre = p0 ++ [x] ∧ J p0 (fun k => q k ∨ k = s ∨ k = s + 1) W' ∧ p0.length = many.toNat))
theorem abides_more {J : List (Int × Int) → (Nat → Prop) → World → Prop} (h : Abides J) (r : Nat → Prop) : Abides (fun pre q W => J pre (fun k => q k ∨ r k) W) := fun s _q _q' W W' hs ht hq => h s _ _ W W' hs (ht.mono fun _ h => .inl h) fun k hk => hk.elim (fun h => (hq k h).imp .inl id) fun h => .inl (.inr h)
theorem abides_runX {J Jx : List (Int × Int) → (Nat → Prop) → World → Prop} (h : Abides J) (hx : Abides Jx) (s : Nat) (many : Int) (cd : Code) : Abides (RunX J Jx s many cd) := fun pre q q' W W' ⟨h1, h2⟩ ht hq =>
  ⟨h1, h2.imp (fun g => ⟨abides_more hx (fun k => k = s ∨ k = s + 1) pre q q' W W' g.1 ht hq, g.2⟩) (fun ⟨p0, x, e, hj, hl⟩ => ⟨p0, x, e, abides_more h (fun k => k = s ∨ k = s + 1) p0 q q' W W' hj ht hq, hl⟩)⟩
end Go.Proofs.YtohdgjmmekgcmaaDoor

/-
  append of a slice of numbers, nil or not, to a row of the call's own.
-/
namespace Go.Proofs.YtohdgjmmekgcmaaDoor
open Go.RowKit

/-- Numbers as values. -/
def valsOf (k : IntKind) (l : List Nat) : List Value := l.map fun y : Nat => Value.int k (y : Nat)
theorem valsOf_length (k : IntKind) (l : List Nat) : (valsOf k l).length = l.length := by simp [valsOf]
theorem valsOf_append (k : IntKind) (a b : List Nat) : valsOf k (a ++ b) = valsOf k a ++ valsOf k b := by simp [valsOf]
theorem valsOf_one (k : IntKind) (l : List Nat) : ∀ u ∈ valsOf k l, u.oneCell' = true := by simp [valsOf, Value.oneCell']
theorem valsOf_set (k : IntKind) (l : List Nat) (i x : Nat) : valsOf k (l.set i x) = (valsOf k l).set i (.int k (x : Nat)) := by simp [valsOf, List.map_set]
theorem wpList_append_sl {P : Program} (w : World) {ops : Array Oper} {rest : List Oper} {o : Oper} {a : Act} {Q : Exit → Act → World → Prop}
    (hw : Region.wanted o (yielded ops a.tmps) = true) (s x : Operand) (t : TypeId) (hop : o.op = Op.call { callee := Callee.builtin Builtin.append, args := #[s, x], argTypes := #[t, t] })
    (base : Nat) (e : TypeId) (i : TypeInfo) (z : Value) (bytes : Nat) (k : IntKind) (h1 : P.underlying t = some (.slice e)) (h2 : P.info? e = some i) (h3 : i.zero = some z) (h4 : i.size = 1) (h5 : i.bytes = bytes) (h6 : z.cells.size = 1)
    (v : Value) (ys : List Nat) (hs : a.eval s = v) (hown : w.ownsRow base e 1 v ys.length (valsOf k ys)) (u : Value) (xs : List Nat) (hx : a.eval x = u) (hsl : Sl w k u xs)
    (b1 : ys.length + xs.length ≤ maxLen) (b2 : (ys.length + xs.length) * bytes ≤ 140737488355328) (b3 : base ≤ w.heap.size)
    (hK : ∀ v' w', w'.ownsRow base e 1 v' (ys ++ xs).length (valsOf k (ys ++ xs)) → w.grownBy w' v.ownBlock → (v'.ownBlock = v.ownBlock ∨ v'.ownBlock = some w.heap.size) → wpList P ops Q rest (a.put o.dst v') w') :
    wpList P ops Q (o :: rest) a w := by
  obtain ⟨ad, cap, rfl, hlc, hc⟩ := hsl
  refine BigFrame.wpList_want hw fun K hK' => ?_
  unfold Oper.wp execOp
  simp only [hop, resolve, invoke, builtin, Sem.run_bind, Sem.run_pure, Result.andThen_ok, List.map_toArray, List.map_cons, List.map_nil, hs, hx]
  rcases ad with _ | ad
  · have h0 : xs = [] := by
      rcases Nat.eq_zero_or_pos xs.length with h | h
      · exact List.eq_nil_of_length_eq_zero h
      · obtain ⟨b, off, hh, _⟩ := hc h
        cases hh
    subst h0
    have hrun : (Builtin.append_ #[t, t] o.type #[v, .slice none 0 cap]).run P w = .ok v w := by
      rcases hown.2 with ⟨rfl, e0⟩ | ⟨g, c, cur, rfl, _, _, hnc, _⟩
      · simp [Builtin.append_, run_underlying h1, sizeOf, typeInfo, h2, Builtin.lenOf, Builtin.firstCells]
      · simp [Builtin.append_, run_underlying h1, sizeOf, typeInfo, h2, Builtin.lenOf, Builtin.firstCells, hnc, storeCells]
    rw [show (([] : List Nat).length) = 0 from rfl, hrun]
    exact hK' _ _ (hK v w (by simpa using hown) (World.grownBy.refl w _) (.inl rfl))
  · have hcells : ∀ j y, (valsOf k xs)[j]? = some y → w.cell? (ad.add j) = some y := fun j y hy => by
      have hj : j < xs.length := by
        have := (List.getElem?_eq_some_iff.1 hy).1
        rwa [valsOf_length] at this
      obtain ⟨b, off, hh, _, hcell⟩ := hc (by omega)
      simp only [Option.some.injEq] at hh
      subst hh
      have e1 : (⟨b, off, none⟩ : Addr).add j = ⟨b, off + j, none⟩ := by
        unfold Addr.add; split <;> simp_all
      rw [e1, hcell j hj, ← hy]
      simp [valsOf, hj]
    obtain ⟨v', w', hrun, r1, r2, _, r3⟩ := run_append_own_at (P := P) w base t o.type e i z 1 bytes h1 h2 h3 h4 h5 h6 (by decide) v ys.length (valsOf k ys) hown ad xs.length cap (valsOf k xs) (by rw [valsOf_length, Nat.mul_one]) hcells (valsOf_one k xs) b1 b2 b3
    rw [hrun]
    exact hK' _ _ (hK v' w' (by rw [List.length_append, valsOf_append]; exact r1) r2 r3)
theorem ownsRow_set {w : World} {base g n cap j : Nat} {e : TypeId} {xs : List Value} (h : w.ownsRow base e 1 (.slice (some ⟨g, 0, none⟩) n cap) n xs) (u : Value) :
    (w.setCell ⟨g, j, none⟩ u).ownsRow base e 1 (.slice (some ⟨g, 0, none⟩) n cap) n (xs.set j u) := by
  obtain ⟨hl, h⟩ := h
  rcases h with ⟨e0, _⟩ | ⟨g', cap', cur, e0, hb, hg, hn, hm, hs, ht⟩
  · cases e0
  · injection e0 with e1 _ e3
    injection e1 with e1
    injection e1 with e1
    subst e1; subst e3
    refine ⟨by simpa using hl, .inr ⟨g, cap, cur.setIfInBounds j u, rfl, hb, ?_, hn, hm, by simpa using hs, ?_⟩⟩
    · simp [World.setCell, Array.getElem?_modify, hg]
    · rw [← ht, Array.toList_setIfInBounds, List.take_set]
theorem ownsRow_lt {w : World} {base g n cap : Nat} {e : TypeId} {xs : List Value} (h : w.ownsRow base e 1 (.slice (some ⟨g, 0, none⟩) n cap) n xs) : base ≤ g ∧ g < w.heap.size := h.lt g rfl
/-- What a value that owns numbers looks like. -/
theorem own_form {w : World} {base : Nat} {e : TypeId} {v : Value} {k : IntKind} {xs : List Nat} (h : w.ownsRow base e 1 v xs.length (valsOf k xs)) (hn : 0 < xs.length) : ∃ g cap, v = .slice (some ⟨g, 0, none⟩) xs.length cap ∧ base ≤ g ∧ g < w.heap.size ∧ xs.length ≤ cap := by
  rcases h.2 with ⟨_, h0⟩ | ⟨g, cap, cur, rfl, hb, hg, hc, _⟩
  · omega
  · exact ⟨g, cap, rfl, hb, (Array.getElem?_eq_some_iff.1 hg).1, hc⟩
theorem own_cell {w : World} {base g cap : Nat} {e : TypeId} {k : IntKind} {xs : List Nat} (h : w.ownsRow base e 1 (.slice (some ⟨g, 0, none⟩) xs.length cap) xs.length (valsOf k xs)) (j : Nat) (hj : j < xs.length) : w.cell? ⟨g, j, none⟩ = some (.int k (xs[j]?.getD 0 : Nat)) := by
  rw [World.ownsRow.cellAt h j (by omega)]
  simp [valsOf, hj]
theorem own_set {w : World} {base g cap : Nat} {e : TypeId} {k : IntKind} {xs : List Nat} (h : w.ownsRow base e 1 (.slice (some ⟨g, 0, none⟩) xs.length cap) xs.length (valsOf k xs)) (j z : Nat) :
    (w.setCell ⟨g, j, none⟩ (.int k (z : Nat))).ownsRow base e 1 (.slice (some ⟨g, 0, none⟩) (xs.set j z).length cap) (xs.set j z).length (valsOf k (xs.set j z)) := by
  rw [valsOf_set, List.length_set]
  exact ownsRow_set h _
theorem own_sl {w : World} {base : Nat} {e : TypeId} {v : Value} {k : IntKind} {xs : List Nat} (h : w.ownsRow base e 1 v xs.length (valsOf k xs)) : Sl w k v xs := sl_of_owns h
end Go.Proofs.YtohdgjmmekgcmaaDoor

/-
  Slices of places; rows of them that a call owns.
-/
namespace Go.Proofs.YtohdgjmmekgcmaaDoor
open Go.RowKit Go.Shelf

/-- The slice value v holds these places. -/
def SlP (W : World) (v : Value) (fs : List (Int × Int)) : Prop :=
  ∃ (a : Option Addr) (cap : Nat), v = .slice a fs.length cap ∧ fs.length ≤ cap ∧ (0 < fs.length → ∃ b off, a = some ⟨b, off, none⟩ ∧ b < W.heap.size ∧ ∀ j, j < fs.length → W.cell? ⟨b, off + j * 2, none⟩ = some (.int .i64 (fs[j]?.getD (0, 0)).1) ∧ W.cell? ⟨b, off + j * 2 + 1, none⟩ = some (.int .i64 (fs[j]?.getD (0, 0)).2))
theorem SlP.below {W W' : World} {v : Value} {fs : List (Int × Int)} (h : SlP W v fs) (hb : Below W.heap.size W W') : SlP W' v fs := by
  obtain ⟨a, cap, hv, hl, hc⟩ := h
  refine ⟨a, cap, hv, hl, fun h0 => ?_⟩
  obtain ⟨b, off, ha, hlt, hj⟩ := hc h0
  exact ⟨b, off, ha, Nat.lt_of_lt_of_le hlt hb.size, fun j hl => ⟨(hb.cell (p := ⟨b, off + j * 2, none⟩) hlt).trans (hj j hl).1, (hb.cell (p := ⟨b, off + j * 2 + 1, none⟩) hlt).trans (hj j hl).2⟩⟩
theorem SlP.cell {W : World} {v : Value} {fs : List (Int × Int)} (h : SlP W v fs) : ∃ (a : Option Addr) (cap b off : Nat), v = .slice a fs.length cap ∧ fs.length ≤ cap ∧ (0 < fs.length → a = some ⟨b, off, none⟩) ∧ (0 < fs.length → b < W.heap.size ∧ ∀ j, j < fs.length → W.cell? ⟨b, off + j * 2, none⟩ = some (.int .i64 (fs[j]?.getD (0, 0)).1) ∧ W.cell? ⟨b, off + j * 2 + 1, none⟩ = some (.int .i64 (fs[j]?.getD (0, 0)).2)) := by
  obtain ⟨a, cap, hv, hl, hc⟩ := h
  rcases Nat.eq_zero_or_pos fs.length with h0 | h0
  · exact ⟨a, cap, 0, 0, hv, hl, fun h => by omega, fun h => by omega⟩
  · obtain ⟨b, off, h1, h2, h3⟩ := hc h0
    exact ⟨a, cap, b, off, hv, hl, fun _ => h1, fun _ => ⟨h2, h3⟩⟩
/-- The cells of places. -/
def cellsP : List (Int × Int) → List Value
  | [] => []
  | p :: r => .int .i64 p.1 :: .int .i64 p.2 :: cellsP r
theorem cellsP_length : ∀ l : List (Int × Int), (cellsP l).length = l.length * 2
  | [] => rfl
  | p :: r => by
    show (cellsP r).length + 1 + 1 = _
    rw [cellsP_length r, List.length_cons]; omega
theorem cellsP_append : ∀ a b : List (Int × Int), cellsP (a ++ b) = cellsP a ++ cellsP b
  | [], _ => rfl
  | p :: r, b => by show _ :: _ :: cellsP (r ++ b) = _; rw [cellsP_append r b]; rfl
theorem cellsP_at : ∀ (l : List (Int × Int)) (j : Nat), j < l.length → (cellsP l)[j * 2]? = some (.int .i64 (l[j]?.getD (0, 0)).1) ∧ (cellsP l)[j * 2 + 1]? = some (.int .i64 (l[j]?.getD (0, 0)).2)
  | p :: r, 0, _ => ⟨rfl, rfl⟩
  | p :: r, j + 1, h => by
    have := cellsP_at r j (by simpa using h)
    rw [show (j + 1) * 2 = j * 2 + 1 + 1 by omega]
    exact this
theorem slP_of_own {w : World} {base : Nat} {e : TypeId} {v : Value} {l : List (Int × Int)} (h : w.ownsRow base e 2 v l.length (cellsP l)) : SlP w v l := by
  rcases h.2 with ⟨rfl, h0⟩ | ⟨g, cap, cur, rfl, hb, hg, hc, hm, hs, ht⟩
  · exact ⟨none, 0, by rw [h0], by omega, fun h => by omega⟩
  · refine ⟨_, cap, rfl, hc, fun _ => ⟨g, 0, rfl, (Array.getElem?_eq_some_iff.1 hg).1, fun j hj => ?_⟩⟩
    obtain ⟨h1, h2⟩ := cellsP_at l j hj
    have e1 := World.ownsRow.cellAt h (j * 2) (by omega)
    have e2 := World.ownsRow.cellAt h (j * 2 + 1) (by omega)
    rw [Nat.zero_add]
    exact ⟨e1.trans h1, e2.trans h2⟩
/-- A row whose block has not turned. -/
theorem ownsRow_block {W W' : World} {base : Nat} {e : TypeId} {size : Nat} {v : Value} {n : Nat} {xs : List Value} (h : W.ownsRow base e size v n xs) (hk : ∀ g, v.ownBlock = some g → g < W.heap.size → W'.heap[g]? = W.heap[g]?) : W'.ownsRow base e size v n xs := by
  obtain ⟨hl, h⟩ := h
  refine ⟨hl, h.imp id fun ⟨g, cap, cur, hv, hb, hg, hr⟩ => ⟨g, cap, cur, hv, hb, ?_, hr⟩⟩
  rw [hk g (by rw [hv]; rfl) (Array.getElem?_eq_some_iff.1 hg).1]; exact hg
theorem own_lt {W : World} {base : Nat} {e : TypeId} {size : Nat} {v : Value} {n : Nat} {xs : List Value} (h : W.ownsRow base e size v n xs) {g : Nat} (hg : v.ownBlock = some g) : base ≤ g ∧ g < W.heap.size := h.lt g hg
theorem own_slice {W : World} {base : Nat} {e : TypeId} {size : Nat} {v : Value} {n : Nat} {xs : List Value} (h : W.ownsRow base e size v n xs) : ∃ a cap, v = .slice a n cap := by
  rcases h.2 with ⟨rfl, rfl⟩ | ⟨g, cap, cur, rfl, _⟩
  · exact ⟨_, _, rfl⟩
  · exact ⟨_, _, rfl⟩
theorem ownsRow_base {W : World} {base base' : Nat} {e : TypeId} {size : Nat} {v : Value} {n : Nat} {xs : List Value} (h : W.ownsRow base e size v n xs) (hb : base' ≤ base) : W.ownsRow base' e size v n xs :=
  ⟨h.1, h.2.imp id fun ⟨g, cap, cur, h1, h2, h3⟩ => ⟨g, cap, cur, h1, Nat.le_trans hb h2, h3⟩⟩
/-- A box that holds a row; neither is part of q. -/
def RowF (n₀ B : Nat) (t e : TypeId) (size n : Nat) (xs : List Value) (q : Nat → Prop) (W : World) : Prop :=
  ∃ v, Boxed W B t v ∧ W.ownsRow n₀ e size v n xs ∧ ¬ q B ∧ ∀ g, v.ownBlock = some g → ¬ q g
theorem abides_row {β : Type} (n₀ B : Nat) (t e : TypeId) (size : Nat) (k : β → Nat) (f : β → List Value) : Abides (fun s q W => RowF n₀ B t e size (k s) (f s) q W) := fun s q q' W W' ⟨v, hv, hr, hB, hg⟩ ht hq =>
  ⟨v, (ht.block B hv.lt hB).trans hv, ownsRow_block hr (fun g e hl => ht.block g hl (hg g e)), fun h => (hq B h).elim hB fun h2 => by have := hv.lt; omega, fun g e h => (hq g h).elim (hg g e) fun h2 => by have := (own_lt hr e).2; omega⟩
/-- An append in a round, and the store of the new slice into its box: all that the round owes. -/
theorem row_appended {W w2 w : World} {n₀ B : Nat} {t e : TypeId} {size n m : Nat} {v v' : Value} {xs ys : List Value} {tmp : Obj} {p q : Nat → Prop}
    (hv : Boxed W B t v) (hte : t ≠ e) (hrow : W.ownsRow n₀ e size v n xs) (hqB : ¬ q B) (hqg : ∀ g, v.ownBlock = some g → ¬ q g) (hB : BelowF n₀ w q W) (hnB : n₀ ≤ B) (hq : ∀ k, q k → k < W.heap.size) (hp : ∀ k, p k → k < n₀)
    (own2 : w2.ownsRow n₀ e size v' m ys) (grow2 : (W.alloc tmp).grownBy w2 v.ownBlock) (at2 : v'.ownBlock = v.ownBlock ∨ v'.ownBlock = some (W.alloc tmp).heap.size) :
    Boxed w2 B t v ∧ Boxed (w2.setCell ⟨B, 0, none⟩ v') B t v' ∧ Keeps (fun k => p k ∨ q k) W (w2.setCell ⟨B, 0, none⟩ v') ∧ RowF n₀ B t e size m ys q (w2.setCell ⟨B, 0, none⟩ v') ∧ BelowF n₀ w q (w2.setCell ⟨B, 0, none⟩ v') := by
  obtain ⟨hv1, hv2, hr2, hk2, hb2⟩ := hv.appended hte hrow hB.2.1 hnB own2 grow2
  refine ⟨hv1, hv2, ?_, ⟨v', hv2, hr2, hqB, fun g e hg => ?_⟩, ⟨hB.1.trans hb2, Nat.le_trans hB.2.1 hb2.size, hB.2.2⟩⟩
  · refine (Keeps.trans (B := W.alloc tmp) ⟨by simp, fun k _ hl => Below.heap_alloc _ _ _ hl⟩ (Keeps.of_grown grow2 (fun k e => ?_))).trans (Keeps.set w2 (b := B) (o := 0) _ ?_)
    · have := (own_lt hrow e).1
      rintro (h | h)
      · have := hp k h; omega
      · exact hqg k e h
    · rintro (h | h)
      · have := hp B h; omega
      · exact hqB h
  · rcases at2 with h | h
    · exact hqg g (by rw [← h]; exact e) hg
    · rw [h] at e
      simp only [Option.some.injEq] at e
      have := hq g hg
      simp at e
      omega
theorem cell_two_new (w : World) (x y : Value) (t : TypeId) : ∀ j u, [x, y][j]? = some u → (w.alloc (.cells #[x, y] t)).cell? ((⟨w.heap.size, 0, none⟩ : Addr).add j) = some u := by
  intro j u hj
  match j, hj with
  | 0, hj => simp at hj; subst hj; simp [go_sem, Addr.add]
  | 1, hj => simp at hj; subst hj; simp [go_sem, Addr.add]
theorem infoP : (Tryd.prog.info? 121).map (fun i => (i.zero, i.size, i.bytes)) = some (some (.agg #[.int .i64 0, .int .i64 0]), 2, 16) := by kernel_rfl
theorem infoI : (Tryd.prog.info? 3).map (fun i => (i.zero, i.size, i.bytes)) = some (some (.int .i64 0), 1, 8) := by kernel_rfl
end Go.Proofs.YtohdgjmmekgcmaaDoor

/-
  pmem: a device by its words (no program).
-/
namespace Go.Proofs.YtohdgjmmekgcmaaDoor
open Go.RowKit Go.Shelf

/-- Words as values. -/
def vals (l : List Int) : List Value := l.map (.int .u64)
theorem vals_length (l : List Int) : (vals l).length = l.length := by simp [vals]
theorem vals_append (a b : List Int) : vals (a ++ b) = vals a ++ vals b := by simp [vals]
theorem vals_take (a : List Int) (k : Nat) : vals (a.take k) = (vals a).take k := by simp [vals, List.map_take]
theorem vals_drop (a : List Int) (k : Nat) : vals (a.drop k) = (vals a).drop k := by simp [vals, List.map_drop]
theorem vals_set (a : List Int) (k : Nat) (x : Int) : vals (a.set k x) = (vals a).set k (.int .u64 x) := by simp [vals, List.map_set]
theorem vals_at (a : List Int) (k : Nat) (h : k < a.length) : (vals a)[k]? = some (.int .u64 (a[k]?.getD 0)) := by simp [vals, h]
theorem vals_one (l : List Int) : ∀ u ∈ vals l, u.oneCell' = true := by simp [vals, Value.oneCell']
/-- A line's words; a line put there. -/
def lineAt (ws : List Int) (j : Nat) : List Int := (ws.drop (j * 8)).take 8
def putLine (ws : List Int) (j : Nat) (l : List Int) : List Int := ws.take (j * 8) ++ l ++ ws.drop (j * 8 + 8)
theorem lineAt_length {ws : List Int} {n j : Nat} (h : ws.length = n * 8) (hj : j < n) : (lineAt ws j).length = 8 := by
  simp [lineAt]; omega
theorem putLine_length {ws l : List Int} {n j : Nat} (h : ws.length = n * 8) (hj : j < n) (hl : l.length = 8) : (putLine ws j l).length = n * 8 := by
  simp [putLine, hl]; omega
/-- A device: what is seen, what stays, what waits. -/
structure Dv where
  seen : List Int
  stays : List Int
  waits : List (Nat × List Int)
deriving DecidableEq
/-- A device of n lines. -/
structure Dv.Ok (n : Nat) (d : Dv) : Prop where
  seen : d.seen.length = n * 8
  stays : d.stays.length = n * 8
  waits : ∀ x ∈ d.waits, x.1 < n ∧ x.2.length = 8
  apart : (d.waits.map (·.1)).Nodup
theorem nodup_lt_length : ∀ (n : Nat) (l : List Nat), l.Nodup → (∀ x ∈ l, x < n) → l.length ≤ n
  | 0, l, _, h => by
    cases l with
    | nil => simp
    | cons a r => exact absurd (h a (by simp)) (by omega)
  | n + 1, l, hn, h => by
    have h1 := nodup_lt_length n (l.erase n) (hn.erase n) fun x hx => by
      have h2 := (hn.mem_erase_iff).1 hx
      have := h x h2.2
      omega
    have h3 : l.length ≤ (l.erase n).length + 1 := by rw [List.length_erase]; split <;> omega
    omega
theorem Dv.Ok.few {n : Nat} {d : Dv} (h : d.Ok n) : d.waits.length ≤ n := by
  have := nodup_lt_length n (d.waits.map (·.1)) h.apart (fun x hx => by
    obtain ⟨y, hy, rfl⟩ := List.mem_map.1 hx
    exact (h.waits y hy).1)
  simpa using this
def Dv.new (n : Nat) : Dv := ⟨List.replicate (n * 8) 0, List.replicate (n * 8) 0, []⟩
theorem Dv.ok_new (n : Nat) : (Dv.new n).Ok n := ⟨by simp [Dv.new], by simp [Dv.new], by simp [Dv.new], by simp [Dv.new]⟩
def inR (n : Nat) (i : Int) : Bool := decide (0 ≤ i ∧ i < n)
def Dv.lines (d : Dv) : Nat := d.seen.length / 8
def Dv.store (d : Dv) (n : Nat) (i : Int) (w : Int) : Dv := if inR (n * 8) i then { d with seen := d.seen.set i.toNat w } else d
def Dv.load (d : Dv) (n : Nat) (i : Int) : Int := if inR (n * 8) i then d.seen[i.toNat]?.getD 0 else 0
def Dv.stay (d : Dv) (n : Nat) (i : Int) : Int := if inR (n * 8) i then d.stays[i.toNat]?.getD 0 else 0
def errR (b : Bool) : Int := if b then 0 else 4
def Dv.forget (d : Dv) (i : Int) : Dv := { d with waits := d.waits.filter fun x => !decide ((x.1 : Int) = i) }
def Dv.flush (d : Dv) (n : Nat) (i : Int) : Dv := if inR n i then { d with waits := (d.forget i).waits ++ [(i.toNat, lineAt d.seen i.toNat)] } else d
def putAll (s : List Int) (l : List (Nat × List Int)) : List Int := l.foldl (fun s x => putLine s x.1 x.2) s
def Dv.fence (d : Dv) : Dv := ⟨d.seen, putAll d.stays d.waits, []⟩
def Dv.evict (d : Dv) (n : Nat) (i : Int) : Dv := if inR n i then ⟨d.seen, putLine d.stays i.toNat (lineAt d.seen i.toNat), (d.forget i).waits⟩ else d
/-- What stays behind a crash, of so many that wait. -/
def putSome (marks : List Bool) (s : List Int) (l : List (Nat × List Int)) : List Int := (l.foldl (fun (s, k) x => (if marks[k]?.getD false then putLine s x.1 x.2 else s, k + 1)) (s, 0)).1
def Dv.crash (d : Dv) (marks : List Bool) : Dv := ⟨putSome marks d.stays d.waits, putSome marks d.stays d.waits, []⟩
def dirty (a b : List Int) (n : Nat) : Nat := (List.range n).countP fun j => lineAt a j != lineAt b j
theorem inR_iff {n : Nat} {i : Int} : inR n i = true ↔ 0 ≤ i ∧ i < n := decide_eq_true_iff
section
variable {n : Nat} {d : Dv}
theorem Dv.Ok.store (h : d.Ok n) (i w : Int) : (d.store n i w).Ok n := by
  unfold Dv.store
  split
  · exact ⟨by simpa using h.seen, h.stays, h.waits, h.apart⟩
  · exact h
theorem Dv.Ok.forget (h : d.Ok n) (i : Int) : (d.forget i).Ok n :=
  ⟨h.seen, h.stays, fun x hx => h.waits x ((List.mem_filter.1 hx).1), (List.filter_sublist.map _).nodup h.apart⟩
theorem Dv.Ok.flush (h : d.Ok n) (i : Int) : (d.flush n i).Ok n := by
  unfold Dv.flush
  split
  · rename_i hi
    rw [inR_iff] at hi
    have hf := h.forget i
    refine ⟨h.seen, h.stays, fun x hx => ?_, ?_⟩
    · simp only [List.mem_append, List.mem_singleton] at hx
      rcases hx with hx | rfl
      · exact hf.waits x hx
      · exact ⟨by show i.toNat < n; omega, lineAt_length h.seen (by omega)⟩
    · rw [List.map_append]
      refine List.nodup_append.2 ⟨hf.apart, by simp, ?_⟩
      intro a ha b hb e
      simp only [List.map_cons, List.map_nil, List.mem_singleton] at hb
      obtain ⟨y, hy, rfl⟩ := List.mem_map.1 ha
      have := (List.mem_filter.1 hy).2
      simp at this
      omega
  · exact h
theorem putAll_length : ∀ (l : List (Nat × List Int)) (s : List Int), s.length = n * 8 → (∀ x ∈ l, x.1 < n ∧ x.2.length = 8) → (putAll s l).length = n * 8
  | [], _, hs, _ => hs
  | x :: r, s, hs, hl => putAll_length r (putLine s x.1 x.2) (putLine_length hs (hl x (by simp)).1 (hl x (by simp)).2) fun y hy => hl y (by simp [hy])
theorem Dv.Ok.fence (h : d.Ok n) : d.fence.Ok n := ⟨h.seen, putAll_length _ _ h.stays h.waits, by simp [Dv.fence], by simp [Dv.fence]⟩
theorem Dv.Ok.evict (h : d.Ok n) (i : Int) : (d.evict n i).Ok n := by
  unfold Dv.evict
  split
  · rename_i hi
    rw [inR_iff] at hi
    have hf := h.forget i
    exact ⟨h.seen, putLine_length h.stays (by omega) (lineAt_length h.seen (by omega)), hf.waits, hf.apart⟩
  · exact h
theorem putSome_aux (marks : List Bool) : ∀ (l : List (Nat × List Int)) (s : List Int) (k : Nat), s.length = n * 8 → (∀ x ∈ l, x.1 < n ∧ x.2.length = 8) →
    (l.foldl (fun (s, k) x => (if marks[k]?.getD false then putLine s x.1 x.2 else s, k + 1)) (s, k)).1.length = n * 8
  | [], _, _, hs, _ => hs
  | x :: r, s, k, hs, hl => putSome_aux marks r _ (k + 1) (by split; exact putLine_length hs (hl x (by simp)).1 (hl x (by simp)).2; exact hs) fun y hy => hl y (by simp [hy])
theorem putSome_length (marks : List Bool) (l : List (Nat × List Int)) (s : List Int) (hs : s.length = n * 8) (hl : ∀ x ∈ l, x.1 < n ∧ x.2.length = 8) : (putSome marks s l).length = n * 8 := putSome_aux marks l s 0 hs hl
theorem Dv.Ok.crash (h : d.Ok n) (marks : List Bool) : (d.crash marks).Ok n :=
  ⟨putSome_length _ _ _ h.stays h.waits, putSome_length _ _ _ h.stays h.waits, by simp [Dv.crash], by simp [Dv.crash]⟩
end
theorem putAll_snoc (s : List Int) (l : List (Nat × List Int)) (x : Nat × List Int) : putAll s (l ++ [x]) = putLine (putAll s l) x.1 x.2 := by simp [putAll, List.foldl_append]
theorem putSome_count (marks : List Bool) : ∀ (l : List (Nat × List Int)) (s : List Int) (k : Nat),
    (l.foldl (fun (s, k) x => (if marks[k]?.getD false then putLine s x.1 x.2 else s, k + 1)) (s, k)).2 = k + l.length
  | [], _, _ => rfl
  | x :: r, s, k => by rw [List.foldl_cons, putSome_count marks r, List.length_cons]; omega
theorem putSome_snoc (marks : List Bool) (s : List Int) (l : List (Nat × List Int)) (x : Nat × List Int) : putSome marks s (l ++ [x]) = if marks[l.length]?.getD false then putLine (putSome marks s l) x.1 x.2 else putSome marks s l := by
  have h := putSome_count marks l s 0
  unfold putSome
  rw [List.foldl_append, List.foldl_cons, List.foldl_nil]
  generalize l.foldl (fun (s, k) x => (if marks[k]?.getD false then putLine s x.1 x.2 else s, k + 1)) (s, 0) = q at *
  obtain ⟨q1, q2⟩ := q
  simp only [Nat.zero_add] at h
  subst h
  rfl
/-- The cells of what waits. -/
def cellsW (l : List (Nat × List Int)) : List Value := l.flatMap fun x => .int .i64 x.1 :: vals x.2
theorem cellsW_append (a b : List (Nat × List Int)) : cellsW (a ++ b) = cellsW a ++ cellsW b := by simp [cellsW]
theorem cellsW_length : ∀ l : List (Nat × List Int), (∀ x ∈ l, x.2.length = 8) → (cellsW l).length = l.length * 9
  | [], _ => rfl
  | x :: r, h => by
    rw [show x :: r = [x] ++ r from rfl, cellsW_append, List.length_append, cellsW_length r fun y hy => h y (by simp [hy]), List.length_append]
    have := h x (by simp)
    simp [cellsW, vals_length, this]
    omega
theorem cellsW_one (l : List (Nat × List Int)) : ∀ u ∈ cellsW l, u.oneCell' = true := by
  intro u hu
  simp only [cellsW, List.mem_flatMap, List.mem_cons] at hu
  obtain ⟨x, _, rfl | h⟩ := hu
  · rfl
  · exact vals_one _ u h
/-- The cells of the j-th that waits. -/
theorem cellsW_cut (l : List (Nat × List Int)) (h : ∀ x ∈ l, x.2.length = 8) (j : Nat) (hj : j < l.length) : ((cellsW l).drop (j * 9)).take 9 = .int .i64 (l[j]?.getD (0, [])).1 :: vals (l[j]?.getD (0, [])).2 := by
  have e : l = l.take j ++ l[j] :: l.drop (j + 1) := by rw [← List.drop_eq_getElem_cons hj, List.take_append_drop]
  have h1 : (cellsW (l.take j)).length = j * 9 := by
    rw [cellsW_length _ fun x hx => h x (List.mem_of_mem_take hx), List.length_take]; rw [Nat.min_eq_left (by omega)]
  have h2 : (vals (l[j]).2).length = 8 := by rw [vals_length]; exact h _ (List.getElem_mem hj)
  rw [List.getElem?_eq_getElem hj]
  simp only [Option.getD_some]
  have e2 : cellsW l = cellsW (l.take j) ++ ((.int .i64 (l[j].1 : Nat) :: vals l[j].2) ++ cellsW (l.drop (j + 1))) := by
    conv => lhs; rw [e]
    rw [cellsW_append, show l[j] :: l.drop (j + 1) = [l[j]] ++ l.drop (j + 1) from rfl, cellsW_append]
    simp [cellsW]
  rw [e2, ← h1, List.drop_left, List.take_append_of_le_length (by simp [h2])]
  rw [List.take_of_length_le (by simp [h2])]
end Go.Proofs.YtohdgjmmekgcmaaDoor
