/-
  Texts RangeQ to WordJ, as one.
-/
import Derived.Test.YtaebipopmefkpaaGreatDoorMn1
import Derived.Sort.QuietIn
import Derived.WalkLawsBesides
/-
  A range over an iterator that has cells and loops of its own, where the loop's variable is boxed.
-/
namespace Go.Proofs.YtaebipopmefkpaaGreatDoor
open Go.RowKit Go.Shelf

/-- Not a deferred call. -/
def noDefer (o : Oper) : Bool := match o.op with
  | .defer _ => false
  | _ => true
theorem noDefer_spec {o : Oper} (h : noDefer o = true) : ∀ c, o.op ≠ .defer c := fun c e => by unfold noDefer at h; rw [e] at h; cases h
section
variable {F : Fence} {n : Nat} {P : Program} {ops : Array Oper} {md : Region.Mode} {C : World → Prop}
/-- A quiet operation, in a round. -/
theorem wpIn_of_quiet_r {o : Oper} {a : Act} {K : Act → Prop} {K' : Act → World → Prop} {Q' : Exit → Act → World → Prop} {w : World} (hd : ∀ c, o.op ≠ .defer c) (hw : C w) (h : ∀ a w', C w' → K a → K' a w')
    (ha : o.askedIn F P a C) (hh : o.quietIn F n P a C K) : o.wpIn F n P a w K' Q' := by
  obtain ⟨v, h1, h2⟩ := hh
  have h3 := h1 w hw
  unfold Oper.quietAtIn at h3
  unfold Oper.wpIn
  refine ⟨ha w hw, ?_⟩
  rw [Oper.semAt_plain F _ _ hd]
  generalize (execOp a.eval o).run P w = r at *
  cases r with
  | ok x w' =>
    cases x <;> simp only [Oper.quietUponIn] at h3 <;> simp only [Oper.uponIn]
    case value u =>
      obtain ⟨e1, e2⟩ := h3
      rw [e1, e2]
      exact h _ _ hw h2
    case skip =>
      obtain ⟨e1, e2⟩ := h3
      rw [e1, ← e2]
      exact h _ _ hw h2
    case enter f args =>
      obtain ⟨e1, hd, hc⟩ := h3
      rw [e1]
      exact ⟨hd, hc.mono fun e w'' ⟨he, hw''⟩ => by subst he; exact h _ _ hw'' h2⟩
  | halt x w' => simp only [Oper.quietUponIn] at h3
theorem wpOpIn_of_qOpIn_r {i : Nat} {a : Act} {K : Act → Prop} {K' : Act → World → Prop} {Q' : Exit → Act → World → Prop} {w : World} (hd : ∀ (j : Nat) o, ops[j]? = some o → ∀ c, o.op ≠ .defer c) (hC : C w) (h : ∀ a w', C w' → K a → K' a w')
    (hh : qOpIn F n P ops C i K a) : wpOpIn F n P ops Q' i K' a w := by
  unfold qOpIn at hh
  unfold wpOpIn
  split
  · rename_i ho; simp only [ho] at hh; exact h _ _ hC hh
  · rename_i o ho
    simp only [ho] at hh
    obtain ⟨ha, hh⟩ := hh
    split
    · rename_i hw; simp only [hw, if_true] at hh; exact wpIn_of_quiet_r (hd _ _ ho) hC h ha hh
    · rename_i hw; simp only [hw] at hh; exact ⟨ha w hC, h _ _ hC hh⟩
theorem wpAnyIn_of_quiet_r {Q : Act → Prop} {Q' : Exit → Act → World → Prop} (hd : ∀ (j : Nat) o, ops[j]? = some o → ∀ c, o.op ≠ .defer c) (hQ : ∀ a w, C w → Q a → Q' .normal a w) : ∀ (fuel : Nat) (listed : Array Bool) (a : Act) (w : World), C w →
    wpAnyQIn F n P md ops C Q fuel listed a → wpAnyIn F n P md ops Q' fuel listed a w
  | 0, _, _, _, hw, h => ⟨h.1, hQ _ _ hw h.2⟩
  | fuel + 1, _, _, _, hw, h => ⟨fun h0 => hQ _ _ hw (h.1 h0), fun i hi => wpOpIn_of_qOpIn_r hd hw (fun a' w' hw' => wpAnyIn_of_quiet_r hd hQ fuel _ a' w' hw') (h.2 i hi)⟩
/-- A region that draws its order and only reads, in a round: one walk of its text serves. -/
theorem wpIn_region_quiet_r {id : Nat} {Q : Exit → Act → World → Prop} {a : Act} {w : World} {l : List Oper} (hd : l.all noDefer = true) (hm : P.follows .mixedOrders = true) (hB : Region.lexB .any l.toArray = true)
    (h : wpQuietIn F n P l.toArray (fun w' => ∃ n, w' = w.drewN n) (fun a' => ∀ w', (∃ n, w' = w.drewN n) → Q .normal a' w') l a) : (Code.region id l.toArray true).wpIn F n P Q a w := by
  simp only [Region.lexB, Bool.and_eq_true] at hB
  refine wpIn_region_any hm (wpAnyIn_of_quiet_r (C := fun w' => ∃ n, w' = w.drewN n) (Q := fun a' => ∀ w', (∃ n, w' = w.drewN n) → Q .normal a' w') (fun j o ho => noDefer_spec ((List.all_eq_true.1 hd) o (List.mem_of_getElem? (by simpa using ho)))) (fun _ w' hw' h => h w' hw') _ _ _ _ ⟨1, rfl⟩ ?_)
  have := wpAnyQIn_lex (F := F) (n := n) (C := fun w' => ∃ n, w' = w.drewN n) (md := .any) hB.1 l 0 (Array.replicate l.toArray.size false) a (by simp) (by simpa using hB.2) h
  simpa using this
end
/-- A goal put aside: the walk stands still at it. -/
def Park (p : Prop) : Prop := p
theorem park {p : Prop} (h : Park p) : p := h
/-- Nothing that lay has turned, but for the blocks of q. -/
structure Turn (q : Nat → Prop) (W W' : World) : Prop where
  os : W'.os = W.os
  tape : W'.tape = W.tape
  output : W'.output = W.output
  size : W.heap.size ≤ W'.heap.size
  block : ∀ k, k < W.heap.size → ¬ q k → W'.heap[k]? = W.heap[k]?
theorem Turn.of_below {q : Nat → Prop} {B : Nat} {W W' : World} (h : Below B W W') (hB : W.heap.size ≤ B) : Turn q W W' := ⟨h.os, h.tape, h.output, h.size, fun k hk _ => h.block k (Nat.lt_of_lt_of_le hk hB)⟩
theorem Turn.refl (q : Nat → Prop) (W : World) : Turn q W W := ⟨rfl, rfl, rfl, Nat.le_refl _, fun _ _ _ => rfl⟩
theorem Turn.trans {q : Nat → Prop} {A B C : World} (h : Turn q A B) (k : Turn q B C) : Turn q A C := ⟨k.os.trans h.os, k.tape.trans h.tape, k.output.trans h.output, Nat.le_trans h.size k.size, fun i hi hq => (k.block i (Nat.lt_of_lt_of_le hi h.size) hq).trans (h.block i hi hq)⟩
theorem Turn.mono {q q' : Nat → Prop} {A B : World} (h : Turn q A B) (hq : ∀ k, q k → q' k) : Turn q' A B := ⟨h.os, h.tape, h.output, h.size, fun i hi hn => h.block i hi fun hk => hn (hq i hk)⟩
theorem Turn.below {q : Nat → Prop} {B : Nat} {A C : World} (h : Turn q A C) (hq : ∀ k, q k → B ≤ k) (hB : B ≤ A.heap.size) : Below B A C := ⟨h.os, h.tape, h.output, h.size, fun k hk => h.block k (Nat.lt_of_lt_of_le hk hB) fun hn => absurd (hq k hn) (by omega)⟩
theorem Turn.putObj {q : Nat → Prop} {W : World} {l : Nat} (o : Obj) (hl : q l) (hlt : l < W.heap.size) : Turn q W (W.putObj l o) :=
  have h := below_putObj W o (Nat.le_refl l) hlt
  ⟨h.os, h.tape, h.output, h.size, fun k _ hq => World.putObj_heap_other (fun e => hq (by rw [e]; exact hl))⟩
theorem Turn.setCell {q : Nat → Prop} (W : World) {b o : Nat} (v : Value) (hb : q b) : Turn q W (W.setCell ⟨b, o, none⟩ v) :=
  have h := (Below.refl b W).setCell (p := ⟨b, o, none⟩) (Nat.le_refl _) v
  ⟨h.os, h.tape, h.output, h.size, fun k _ hq => Below.heap_setCell _ _ _ k (fun e => hq (by rw [e]; exact hb))⟩
/-- J, of which the blocks of q are no part, does not mind what turns in q; new blocks may come to q. -/
def Abides {β : Type} (J : β → (Nat → Prop) → World → Prop) : Prop := ∀ s (q q' : Nat → Prop) W W', J s q W → Turn q W W' → (∀ k, q' k → q k ∨ W.heap.size ≤ k) → J s q' W'
theorem Abides.and {β : Type} {I J : β → (Nat → Prop) → World → Prop} (h : Abides I) (k : Abides J) : Abides (fun s q W => I s q W ∧ J s q W) := fun s q q' W W' hs ht hq => ⟨h s q q' W W' hs.1 ht hq, k s q q' W W' hs.2 ht hq⟩
theorem Abides.pure {β : Type} (f : β → Prop) : Abides (fun s _ (_ : World) => f s) := fun _ _ _ _ _ hs _ _ => hs
/-- A box that is no part of q. -/
def BoxF (A : Nat) (t : TypeId) (v : Value) (q : Nat → Prop) (W : World) : Prop := Boxed W A t v ∧ ¬ q A
theorem Abides.box {β : Type} (A : Nat) (t : TypeId) (f : β → Value) : Abides (fun s q W => BoxF A t (f s) q W) := fun s q q' W W' hs ht hq => ⟨(ht.block A hs.1.lt hs.2).trans hs.1, fun h => (hq A h).elim hs.2 fun h2 => by have := hs.1.lt; omega⟩
theorem Abides.size {β : Type} (m : Nat) : Abides (fun (_ : β) _ W => m ≤ W.heap.size) := fun _ _ _ _ _ hs ht _ => Nat.le_trans hs ht.size
/-- What lies below B has not turned since w, and is no part of q. -/
def BelowF (B : Nat) (w : World) (q : Nat → Prop) (W : World) : Prop := Below B w W ∧ B ≤ W.heap.size ∧ ∀ k, q k → B ≤ k
theorem Abides.below {β : Type} (B : Nat) (w : World) : Abides (fun (_ : β) q W => BelowF B w q W) := fun _ _ _ _ _ hs ht hq => ⟨hs.1.trans (ht.below hs.2.2 hs.2.1), Nat.le_trans hs.2.1 ht.size, fun k hk => (hq k hk).elim (hs.2.2 k) fun h => by have := hs.2.1; omega⟩
theorem Abides.weaken {β : Type} {J : β → (Nat → Prop) → World → Prop} (h : Abides J) {s : β} {q q' : Nat → Prop} {W : World} (hs : J s q W) (hq : ∀ k, q' k → q k ∨ W.heap.size ≤ k) : J s q' W := h s q q' W W hs (Turn.refl _ _) hq
/-- What an iterator promises: all of the elements come, or those up to the one at which it was told to stop. q: the blocks of its own. -/
def SeqF {α : Type} (p : Nat → Prop) (n : Nat) (P : Program) (g : Nat) (lb : Array Value) (encs : α → Array Value) (S Sp : List α → Prop) (w : World) : Prop :=
  ∀ (l : Nat) (J Jx : List α → (Nat → Prop) → World → Prop) (W : World), Below w.heap.size w W → Abides J → Abides Jx →
    (∀ pre x q W1, J pre q W1 → W.heap.size ≤ W1.heap.size → (∀ k, q k → W.heap.size ≤ k ∧ k < W1.heap.size) → Sp (pre ++ [x]) → YieldAt Fence.wide (n - 1) P l (encs x) W1 fun e W' =>
      Keeps (fun k => p k ∨ q k) W1 W' ∧ ((e = .returned (.bool true) ∧ J (pre ++ [x]) q W') ∨ (e = .returned (.bool false) ∧ Jx (pre ++ [x]) q W'))) →
    J [] (fun _ => False) W →
    CallsIn Fence.wide n P g (#[.func (.yield l) #[] #[]] ++ lb) W fun e W' => (∃ v, e = .returned v) ∧ ((∃ xs, S xs ∧ J xs (fun _ => False) W') ∨ (∃ pre, Sp pre ∧ Jx pre (fun _ => False) W'))
/-- How a round may end. -/
def postF {α : Type} (p q : Nat → Prop) (I : List α → (Nat → Prop) → World → Prop) (Ix : Code → List α → (Nat → Prop) → World → Prop) (xs : List α) (W : World) : Exit → Act → World → Prop
  | .normal, _, W' => Keeps (fun k => p k ∨ q k) W W' ∧ I xs q W'
  | .ret, _, W' => Keeps (fun k => p k ∨ q k) W W' ∧ Ix .ret xs q W'
  | .exit id, _, W' => Keeps (fun k => p k ∨ q k) W W' ∧ Ix (.exit id) xs q W'
  | _, _, _ => False
/-- A range over an iterator that has blocks of its own; the assignment may lay a block in each round. -/
theorem wpIn_range_F {α : Type} {n : Nat} {P : Program} {g : Operand} {ps : Array Tmp} {assign body : Code} {Q : Exit → Act → World → Prop} {a : Act} {w : World}
    (h1 : 1 ≤ n) {gf : Nat} {lb : Array Value} (hg : a.eval g = .func (.func gf) #[] lb) (eg : ∀ args w, (callFunc gf args).run P w = .ok (.enter gf args) w)
    {encs : α → Array Value} {p : Nat → Prop} {S Sp : List α → Prop} {w0 : World} (hseq : SeqF p (n - 1) P gf lb encs S Sp w0) (hp : ∀ k, p k → k < w.heap.size) (hb0 : Below w0.heap.size w0 w) (hps : ∀ x, (encs x).size = ps.size)
    (I : List α → (Nat → Prop) → World → Prop) (Ix : Code → List α → (Nat → Prop) → World → Prop) (hI : Abides I) (hIx : ∀ c, Abides (Ix c)) (h0 : I [] (fun _ => False) w) (Ax : α → Act → World → Prop)
    (hAx : ∀ (x : α) (a' : Act) (W : World) (o : Obj), Ax x a' W → Ax x a' (W.putObj (w.heap.size + 1) o))
    (hassign : ∀ (l : Nat) (x : α) (W : World) (K : Act → World → Prop), w.heap.size + 2 ≤ W.heap.size → (∀ a' W', Ax x a' W' → Below W.heap.size W W' → K a' W') →
      assign.wpIn (Fence.wide.inRound l) (n - 1 - 1) P (Exit.then K (fun _ _ _ => False)) { tmps := (ps.zip (encs x)).foldl (fun t (p, v) => t.setIfInBounds p v) a.tmps, defers := [] } W)
    (hbody : ∀ (l : Nat) (pre : List α) (x : α) (a' : Act) (q : Nat → Prop) (W : World), I pre q W → w.heap.size + 2 ≤ W.heap.size → (∀ k, q k → w.heap.size ≤ k ∧ k < W.heap.size) → Sp (pre ++ [x]) → Ax x a' W → body.wpIn (Fence.wide.inRound l) (n - 1 - 1) P (postF p q I Ix (pre ++ [x]) W) a' W)
    (hdone : ∀ (D : Nat) (xs : List α) (W : World), w.heap.size ≤ D → S xs → I xs (fun k => k = D) W → W.heap[D]? = some (.deferred (some [])) → Q .normal { a with defers := { target := .collected D, args := #[] } :: a.defers } W)
    (hstop : ∀ (D : Nat) (c : Code) (pre : List α) (W : World), w.heap.size ≤ D → Sp pre → Ix c pre (fun k => k = D) W → W.heap[D]? = some (.deferred (some [])) → c.wpIn Fence.wide n P Q { a with defers := { target := .collected D, args := #[] } :: a.defers } W) :
    (Code.rangeFunc g ps assign body).wpIn Fence.wide n P Q a w := by
  refine wpIn_rangeFunc fun fn hfn => ?_
  obtain ⟨rec, hrec⟩ : ∃ rec : LoopState → Option Code → Loop, rec = fun st pe => { state := st, pending := pe, fn, tmps := a.tmps, params := ps, assign, body, defers := w.heap.size } := ⟨_, rfl⟩
  have hst : ∀ st pe, (rec st pe).state = st := fun st pe => by rw [hrec]
  have hpen : ∀ st pe, (rec st pe).pending = pe := fun st pe => by rw [hrec]
  have hbusy : ∀ st pe, { rec st pe with state := .busy } = rec .busy pe := fun st pe => by rw [hrec]
  obtain ⟨W1, hW1⟩ : ∃ W1, (w.alloc (.deferred (some []))).alloc (.loop (rec .ready none)) = W1 := ⟨_, rfl⟩
  have hsz : W1.heap.size = w.heap.size + 2 := by rw [← hW1]; simp
  have hL1 : W1.heap[w.heap.size + 1]? = some (.loop (rec .ready none)) := by
    rw [← hW1]; have := World.alloc_heap_new (w.alloc (.deferred (some []))) (.loop (rec .ready none)); rwa [World.size_alloc] at this
  have hK1 : W1.heap[w.heap.size]? = some (.deferred (some [])) := by
    rw [← hW1]; exact (Below.heap_alloc _ _ _ (by simp)).trans (World.alloc_heap_new w _)
  have bW1 : Below w.heap.size w W1 := by rw [← hW1]; exact ((Below.refl _ _).alloc (Nat.le_refl _) _).alloc (by simp) _
  refine ⟨w.heap.size + 1, [{ target := .collected w.heap.size, args := #[] }], W1, { target := .fn (.func gf) lb, args := #[.func (.yield (w.heap.size + 1)) #[] #[]] }, W1, gf,
    #[.func (.yield (w.heap.size + 1)) #[] #[]] ++ lb, W1, ?_, ?_, fun _ _ => trivial, ?_, fun _ => h1, ?_⟩
  · rw [← hW1, hrec]; exact run_enterLoop_outer _ _ _ _ _
  · simp only [resolve, hg]
    simp [go_sem]
  · simp [invoke, go_sem, eg]
  · refine (hseq (w.heap.size + 1)
      (fun pre q W => I pre (fun k => q k ∨ k = w.heap.size ∨ k = w.heap.size + 1) W ∧ W.heap[w.heap.size + 1]? = some (.loop (rec .ready none)) ∧ W.heap[w.heap.size]? = some (.deferred (some [])) ∧ ¬ q (w.heap.size + 1) ∧ ¬ q w.heap.size)
      (fun pre q W => ∃ c, Ix c pre (fun k => q k ∨ k = w.heap.size ∨ k = w.heap.size + 1) W ∧ W.heap[w.heap.size + 1]? = some (.loop (rec .done (some c))) ∧ W.heap[w.heap.size]? = some (.deferred (some [])) ∧ ¬ q (w.heap.size + 1) ∧ ¬ q w.heap.size)
      W1 (hb0.trans (bW1.mono hb0.size))
      (fun s q q' A C ⟨hi, hl, hk, hq1, hq2⟩ ht hq => by
        have l1 := (Array.getElem?_eq_some_iff.1 hl).1
        refine ⟨hI s _ _ A C hi (ht.mono fun k h => .inl h) (fun k h => ?_), (ht.block _ l1 hq1).trans hl, (ht.block _ (by omega) hq2).trans hk, fun h => ?_, fun h => ?_⟩
        · rcases h with h | h
          · exact (hq k h).imp .inl id
          · exact .inl (.inr h)
        · exact (hq _ h).elim hq1 fun h => by omega
        · exact (hq _ h).elim hq2 fun h => by omega)
      (fun s q q' A C ⟨c, hi, hl, hk, hq1, hq2⟩ ht hq => by
        have l1 := (Array.getElem?_eq_some_iff.1 hl).1
        refine ⟨c, hIx c s _ _ A C hi (ht.mono fun k h => .inl h) (fun k h => ?_), (ht.block _ l1 hq1).trans hl, (ht.block _ (by omega) hq2).trans hk, fun h => ?_, fun h => ?_⟩
        · rcases h with h | h
          · exact (hq k h).imp .inl id
          · exact .inl (.inr h)
        · exact (hq _ h).elim hq1 fun h => by omega
        · exact (hq _ h).elim hq2 fun h => by omega)
      ?_ ⟨hI [] _ _ w W1 h0 (Turn.of_below bW1 (Nat.le_refl _)) (fun k h => .inr (by rcases h with h | h | h <;> first | exact h.elim | omega)), hL1, hK1, id, id⟩).mono ?_
    · rintro pre x q W ⟨hi, hl, hk, hq1, hq2⟩ - hqb hlen
      have hlt : w.heap.size + 1 < W.heap.size := (Array.getElem?_eq_some_iff.1 hl).1
      have hy := run_yield (P := P) (args := encs x) hl (by rw [hrec]; exact hps x)
      rw [hrec] at hy
      refine ⟨fn, _, assign, body, hy, roundIn_of_wpIn hfn (hassign _ x W _ (by omega) fun a' Wa hax bA => ?_)⟩
      have la : Wa.heap[w.heap.size + 1]? = some (.loop (rec .ready none)) := (bA.block _ hlt).trans hl
      have da : Wa.heap[w.heap.size]? = some (.deferred (some [])) := (bA.block _ (by omega)).trans hk
      have hlta : w.heap.size + 1 < Wa.heap.size := Nat.lt_of_lt_of_le hlt bA.size
      have hbr := run_beginRound (P := P) la (hst _ _)
      rw [hbusy] at hbr
      obtain ⟨W2, hW2⟩ : ∃ W2, Wa.putObj (w.heap.size + 1) (.loop (rec .busy none)) = W2 := ⟨_, rfl⟩
      rw [hW2] at hbr
      refine ⟨_, hbr, ?_⟩
      have t2 : Turn (fun k => q k ∨ k = w.heap.size ∨ k = w.heap.size + 1) W W2 := by rw [← hW2]; exact (Turn.of_below bA (Nat.le_refl _)).trans (Turn.putObj _ (.inr (.inr rfl)) hlta)
      have k2 : Keeps (fun k => p k ∨ q k) W W2 := by
        rw [← hW2]
        exact Keeps.trans ⟨bA.size, fun k _ hl => bA.block k hl⟩ (keeps_putObj Wa _ _ (fun h => h.elim (fun h => by have := hp _ h; omega) hq1))
      have l2 : W2.heap[w.heap.size + 1]? = some (.loop (rec .busy none)) := by rw [← hW2]; exact World.putObj_heap_same hlta
      have d2 : W2.heap[w.heap.size]? = some (.deferred (some [])) := by rw [← hW2]; exact (World.putObj_heap_other (by omega)).trans da
      have hs2 : w.heap.size + 2 ≤ W2.heap.size := Nat.le_trans (by omega) t2.size
      have ax2 : Ax x a' W2 := by rw [← hW2]; exact hAx _ _ _ _ hax
      refine wpIn_mono (hbody _ pre x a' (fun k => q k ∨ k = w.heap.size ∨ k = w.heap.size + 1) W2 (hI pre _ _ W W2 hi t2 (fun k h => .inl h)) hs2 (fun k h => ?_) hlen ax2) ?_
      · have := t2.size
        rcases h with h | h | h
        · have := hqb k h; omega
        · omega
        · omega
      have fin : ∀ (jump : Option Code) (W3 : World), Keeps (fun k => p k ∨ (q k ∨ k = w.heap.size ∨ k = w.heap.size + 1)) W2 W3 → ∃ W4,
          (Instr.endRound (w.heap.size + 1) jump).run P W3 = .ok (.bool jump.isNone) W4 ∧ Turn (fun k => q k ∨ k = w.heap.size ∨ k = w.heap.size + 1) W3 W4 ∧ Keeps (fun k => p k ∨ q k) W W4 ∧
          W4.heap[w.heap.size + 1]? = some (.loop (rec (if jump.isNone then .ready else .done) jump)) ∧ W4.heap[w.heap.size]? = some (.deferred (some [])) := fun jump W3 k3 => by
        have l3 : W3.heap[w.heap.size + 1]? = some (.loop (rec .busy none)) := (k3.2 _ (.inr (.inr (.inr rfl))) (Array.getElem?_eq_some_iff.1 l2).1).trans l2
        have d3 : W3.heap[w.heap.size]? = some (.deferred (some [])) := (k3.2 _ (.inr (.inr (.inl rfl))) (Array.getElem?_eq_some_iff.1 d2).1).trans d2
        have hl3 := (Array.getElem?_eq_some_iff.1 l3).1
        have he := run_endRound (P := P) jump l3
        rw [hrec] at he
        refine ⟨W3.putObj (w.heap.size + 1) (.loop (rec (if jump.isNone then .ready else .done) jump)), ?_, Turn.putObj _ (.inr (.inr rfl)) hl3, ?_, World.putObj_heap_same hl3, (World.putObj_heap_other (by omega)).trans d3⟩
        · rw [hrec]; exact he
        · exact (k2.trans (k3.weaken fun k h => h.imp id .inl)).trans (keeps_putObj W3 _ _ (fun h => h.elim (fun h => by have := hp _ h; omega) hq1))
      rintro e a3 W3 hpost
      cases e with
      | normal =>
        obtain ⟨k3, hi3⟩ := hpost
        obtain ⟨W4, hr, b4, k4, l4, d4⟩ := fin none W3 k3
        exact ⟨_, _, hr, k4, .inl ⟨rfl, ⟨hI _ _ _ _ _ hi3 b4 (fun k h => .inl h), l4, d4, hq1, hq2⟩⟩⟩
      | ret =>
        obtain ⟨k3, hi3⟩ := hpost
        obtain ⟨W4, hr, b4, k4, l4, d4⟩ := fin (some .ret) W3 k3
        exact ⟨_, _, hr, k4, .inr ⟨rfl, .ret, hIx _ _ _ _ _ _ hi3 b4 (fun k h => .inl h), l4, d4, hq1, hq2⟩⟩
      | exit id =>
        obtain ⟨k3, hi3⟩ := hpost
        obtain ⟨W4, hr, b4, k4, l4, d4⟩ := fin (some (.exit id)) W3 k3
        exact ⟨_, _, hr, k4, .inr ⟨rfl, .exit id, hIx _ _ _ _ _ _ hi3 b4 (fun k h => .inl h), l4, d4, hq1, hq2⟩⟩
      | goto t => exact hpost.elim
      | panic ch => exact hpost.elim
      | outgrown => exact hpost.elim
    · rintro e W2 ⟨⟨v, rfl⟩, (⟨xs, hS, hi, hl, hk, -, -⟩ | ⟨pre, hSp, c, hi, hl, hk, -, -⟩)⟩
      · have hlt := (Array.getElem?_eq_some_iff.1 hl).1
        have he := run_endLoop (P := P) hl (by rw [hst]; simp)
        rw [hpen] at he
        refine ⟨none, _, he, hdone _ xs _ (Nat.le_refl _) hS (hI _ _ _ _ _ hi (Turn.putObj _ (.inr (.inr rfl)) hlt) (fun k h => .inl (.inr (.inl h)))) ((World.putObj_heap_other (by omega)).trans hk)⟩
      · have hlt := (Array.getElem?_eq_some_iff.1 hl).1
        have he := run_endLoop (P := P) hl (by rw [hst]; simp)
        rw [hpen] at he
        refine ⟨some c, _, he, hstop _ c pre _ (Nat.le_refl _) hSp (hIx c _ _ _ _ _ hi (Turn.putObj _ (.inr (.inr rfl)) hlt) (fun k h => .inl (.inr (.inl h)))) ((World.putObj_heap_other (by omega)).trans hk)⟩
/-- A function that ranges over one function leaves: its mark is taken. -/
theorem leaves_one {F : Fence} {n : Nat} {P : Program} {fn : Func} {tmps : Array Value} {R : Ending → World → Prop} {D : Nat} {W : World} (hK : W.heap[D]? = some (.deferred (some [])))
    (h : ∀ W', Turn (fun k => k = D) W W' → (∀ (k : Nat) c t f, W.heap[k]? = some (Obj.cells c t f) → W'.heap[k]? = some (Obj.cells c t f)) → LeavesIn F n P fn tmps R [] .returning W') : LeavesInM F n P fn tmps R [{ target := .collected D, args := #[] }] .returning W :=
  ⟨by simp, .inl ⟨_, _, rfl, run_takeDeferred hK, h _ (Turn.putObj _ rfl (Array.getElem?_eq_some_iff.1 hK).1) ((Shut.putObj W (Nat.le_refl D) hK rfl rfl).2)⟩⟩
theorem heap_at (W : World) (o : Obj) (k : Nat) : (W.alloc o).heap[k]? = if k = W.heap.size then some o else W.heap[k]? := by
  by_cases h : k = W.heap.size
  · subst h; rw [if_pos rfl]; exact World.alloc_heap_new W o
  · rw [if_neg h]
    by_cases hk : k < W.heap.size
    · exact Below.heap_alloc _ _ _ hk
    · rw [show (W.alloc o).heap[k]? = none from Array.getElem?_eq_none (by rw [World.size_alloc]; omega), show W.heap[k]? = none from Array.getElem?_eq_none (by omega)]
/-- A block that holds two numbers. -/
def Box2 (W : World) (B : Nat) (t : TypeId) (l v : Int) : Prop := W.heap[B]? = some (.cells #[.int .i64 l, .int .i64 v] t (0, 0))
section
variable {W W' : World} {B : Nat} {t : TypeId} {l v : Int}
theorem Box2.lt (h : Box2 W B t l v) : B < W.heap.size := (Array.getElem?_eq_some_iff.1 h).1
theorem Box2.cell0 (h : Box2 W B t l v) : W.cell? ⟨B, 0, none⟩ = some (.int .i64 l) := by simp [World.cell?, show W.heap[B]? = _ from h]
theorem Box2.cell1 (h : Box2 W B t l v) : W.cell? ⟨B, 1, none⟩ = some (.int .i64 v) := by simp [World.cell?, show W.heap[B]? = _ from h]
theorem Box2.frozen0 (h : Box2 W B t l v) : W.frozen? ⟨B, 0, none⟩ = false := by simp [World.frozen?, show W.heap[B]? = _ from h]
theorem Box2.frozen1 (h : Box2 W B t l v) : W.frozen? ⟨B, 1, none⟩ = false := by simp [World.frozen?, show W.heap[B]? = _ from h]
theorem Box2.new (W : World) (t : TypeId) (l v : Int) : Box2 (W.alloc (.cells #[.int .i64 l, .int .i64 v] t)) W.heap.size t l v := World.alloc_heap_new W _
theorem Box2.kept {row : Option Nat} (h : Box2 W B t l v) (hg : W.grownBy W' row) (hne : some B ≠ row) : Box2 W' B t l v := (hg.block B h.lt hne).trans h
theorem Box2.alloc (h : Box2 W B t l v) (o : Obj) : Box2 (W.alloc o) B t l v := h.kept (World.grownBy_alloc W o none) (by simp)
theorem Box2.below {n : Nat} (h : Box2 W B t l v) (hb : Below n W W') (hB : B < n) : Box2 W' B t l v := (hb.block B hB).trans h
theorem Box2.keeps {p : Nat → Prop} (h : Box2 W B t l v) (hk : Keeps p W W') (hB : p B) : Box2 W' B t l v := (hk.2 B hB h.lt).trans h
theorem Box2.put (h : Box2 W B t l v) (k : Nat) (o : Obj) (hk : B ≠ k) : Box2 (W.putObj k o) B t l v := (World.putObj_heap_other hk).trans h
theorem heap_set {c : Array Value} {f : Nat × Nat} (o : Nat) (u : Value) (h : W.heap[B]? = some (.cells c t f)) : (W.setCell ⟨B, o, none⟩ u).heap[B]? = some (.cells (c.setIfInBounds o u) t f) := by
  obtain ⟨hlt, hk⟩ := Array.getElem?_eq_some_iff.1 h
  show (W.heap.modify B _)[B]? = _
  rw [Array.getElem?_eq_getElem (by rw [Array.size_modify]; exact hlt), Array.getElem_modify_self, hk]
  rfl
theorem Box2.set (x y : Int) (h : Box2 W B t l v) : Box2 ((W.setCell ⟨B, 0, none⟩ (.int .i64 x)).setCell ⟨B, 1, none⟩ (.int .i64 y)) B t x y := heap_set 1 _ (heap_set 0 _ h)
end
theorem round_in {m m' : Nat} {l l2 fn : Nat} {P : Program} {tmps : Array Value} {assign body : Code} {W : World} {R : Ending → World → Prop} (h : RoundIn Fence.wide m P l fn tmps assign body W R) : RoundIn (Fence.wide.inRound l2) m' P l fn tmps assign body W R := ⟨trivial, fun c cs _ => h.2 c cs (by simp [Fence.room, Fence.wide])⟩
/-- Two numbers in a box that is no part of q. -/
theorem Abides.box2 {β : Type} (A : Nat) (t : TypeId) (f g : β → Int) : Abides (fun s q W => Box2 W A t (f s) (g s) ∧ ¬ q A) := fun s q q' W W' hs ht hq => ⟨(ht.block A hs.1.lt hs.2).trans hs.1, fun h => (hq A h).elim hs.2 fun h2 => by have := hs.1.lt; omega⟩
theorem Under.box2 {β : Type} {B A : Nat} {t : TypeId} (f g : β → Int) (hA : A < B) : Under B (fun s W => Box2 W A t (f s) (g s)) := fun _ _ _ hs hb => (hb.block A hA).trans hs
end Go.Proofs.YtaebipopmefkpaaGreatDoor

/-
  Plain arithmetic of words of bytes: no Go in sight.
-/
namespace Go.Proofs.YtaebipopmefkpaaGreatDoor
namespace WM
/-- Element i of a list of numbers, 0 behind its end (the walk's own spelling). -/
abbrev at' (l : List Nat) (i : Nat) : Nat := l[i]?.getD 0
/-- What the first k bytes are as a word. -/
def joinTo (bs : List Nat) : Nat → Nat
  | 0 => 0
  | k + 1 => joinTo bs k ||| (at' bs k * 2 ^ (8 * k) % 18446744073709551616)
def Bytes256 (bs : List Nat) : Prop := ∀ i, at' bs i < 256
theorem joinTo_bit (bs : List Nat) (hb : Bytes256 bs) : ∀ k, k ≤ 8 → ∀ j, (joinTo bs k).testBit j = (decide (j < 8 * k) && (at' bs (j / 8)).testBit (j % 8))
  | 0, _, j => by simp [joinTo]
  | k + 1, hk, j => by
    have hx := hb k
    have hlt : at' bs k * 2 ^ (8 * k) < 18446744073709551616 := by
      have h1 : at' bs k * 2 ^ (8 * k) < 256 * 2 ^ (8 * k) := Nat.mul_lt_mul_of_pos_right hx (Nat.two_pow_pos _)
      have h2 : 256 * 2 ^ (8 * k) = 2 ^ (8 + 8 * k) := by rw [Nat.pow_add]
      have h3 : 2 ^ (8 + 8 * k) ≤ 2 ^ 64 := Nat.pow_le_pow_right (by decide) (by omega)
      have h4 : (2 : Nat) ^ 64 = 18446744073709551616 := rfl
      omega
    rw [joinTo, Nat.mod_eq_of_lt hlt, Nat.testBit_or, joinTo_bit bs hb k (by omega) j, Nat.testBit_mul_two_pow]
    by_cases h1 : j < 8 * k
    · simp [h1, show ¬ 8 * k ≤ j by omega, show j < 8 * (k + 1) by omega]
    · by_cases h2 : j < 8 * (k + 1)
      · have e1 : j / 8 = k := by omega
        have e2 : j - 8 * k = j % 8 := by omega
        simp [h1, h2, e1, e2, show 8 * k ≤ j by omega]
      · have : (at' bs k).testBit (j - 8 * k) = false := lt_bit _ 8 _ (by simpa using hx) (by omega)
        simp [h1, h2, this]
theorem joinTo_lt (bs : List Nat) : ∀ k, joinTo bs k < 18446744073709551616
  | 0 => by simp [joinTo]
  | k + 1 => Nat.or_lt_two_pow (n := 64) (joinTo_lt bs k) (Nat.mod_lt _ (by decide))
theorem joinTo_take (bs : List Nat) (n : Nat) : ∀ k, k ≤ n → joinTo (bs.take n) k = joinTo bs k
  | 0, _ => rfl
  | k + 1, h => by
    rw [joinTo, joinTo, joinTo_take bs n k (by omega)]
    have : at' (bs.take n) k = at' bs k := by show (bs.take n)[k]?.getD 0 = _; rw [List.getElem?_take_of_lt (by omega)]
    rw [this]
/-- How many words so many bytes have. -/
def need (n : Nat) : Nat := (n + 7) / 8
/-- Word i of bytes. -/
def wordAt (bs : List Nat) (i : Nat) : Nat := joinTo (bs.drop (8 * i)) (min 8 (bs.length - 8 * i))
def wordsOf (bs : List Nat) : List Nat := (List.range (need bs.length)).map (wordAt bs)
theorem wordAt_bit (bs : List Nat) (hb : Bytes256 bs) (i j : Nat) : (wordAt bs i).testBit j = (decide (j < 64) && (at' bs (8 * i + j / 8)).testBit (j % 8)) := by
  have hd : Bytes256 (bs.drop (8 * i)) := fun k => by show (bs.drop (8 * i))[k]?.getD 0 < 256; rw [List.getElem?_drop]; exact hb _
  have ha : ∀ k, at' (bs.drop (8 * i)) k = at' bs (8 * i + k) := fun k => by show (bs.drop (8 * i))[k]?.getD 0 = _; rw [List.getElem?_drop]
  unfold wordAt
  rw [joinTo_bit _ hd _ (by omega), ha]
  by_cases h : j < 64
  · by_cases h2 : j < 8 * min 8 (bs.length - 8 * i)
    · simp [h, h2]
    · have : at' bs (8 * i + j / 8) = 0 := by
        show bs[8 * i + j / 8]?.getD 0 = 0
        rw [List.getElem?_eq_none (by omega)]; rfl
      simp [this]
  · simp [h, show ¬ j < 8 * min 8 (bs.length - 8 * i) by omega]
theorem wordAt_lt (bs : List Nat) (i : Nat) : wordAt bs i < 18446744073709551616 := joinTo_lt _ _
theorem wordsOf_length (bs : List Nat) : (wordsOf bs).length = need bs.length := by simp [wordsOf]
theorem at_map_range (n : Nat) (f : Nat → Nat) (i : Nat) : at' ((List.range n).map f) i = if i < n then f i else 0 := by
  show ((List.range n).map f)[i]?.getD 0 = _
  by_cases h : i < n
  · rw [if_pos h, List.getElem?_map, List.getElem?_range h]; rfl
  · rw [if_neg h, List.getElem?_eq_none (by simp; omega)]; rfl
theorem wordsOf_at (bs : List Nat) (i : Nat) : at' (wordsOf bs) i = if i < need bs.length then wordAt bs i else 0 := at_map_range _ _ _
/-- Byte i of words. -/
def byteAt (l : List Nat) (i : Nat) : Nat := getN (at' l (i / 8)) (8 * (i % 8)) 8
def bytesOf (l : List Nat) : List Nat := (List.range (8 * l.length)).map (byteAt l)
theorem byteAt_lt (l : List Nat) (i : Nat) : byteAt l i < 256 := getN_lt _ _ 8
theorem at_none (l : List Nat) (i : Nat) (h : l.length ≤ i) : at' l i = 0 := by
  show l[i]?.getD 0 = 0
  rw [List.getElem?_eq_none h]; rfl
theorem bytesOf_at (l : List Nat) (i : Nat) (h : i < 8 * l.length) : at' (bytesOf l) i = byteAt l i := by
  unfold bytesOf
  rw [at_map_range, if_pos h]
theorem byteAt_none (l : List Nat) (i : Nat) (h : 8 * l.length ≤ i) : byteAt l i = 0 := by
  unfold byteAt
  rw [at_none l _ (by omega)]
  unfold getN; simp
theorem byte_word (bs : List Nat) (hb : Bytes256 bs) (i : Nat) : byteAt (wordsOf bs) i = at' bs i := by
  unfold byteAt
  by_cases h : i / 8 < need bs.length
  · rw [wordsOf_at, if_pos h]
    apply Nat.eq_of_testBit_eq
    intro j
    rw [getN_bit, wordAt_bit bs hb]
    by_cases hj : j < 8
    · have e1 : 8 * (i / 8) + (8 * (i % 8) + j) / 8 = i := by omega
      have e2 : (8 * (i % 8) + j) % 8 = j := by omega
      rw [e1, e2]
      simp [hj, show 8 * (i % 8) + j < 64 by omega]
    · simp [hj, lt_bit (at' bs i) 8 j (by simpa using hb i) (by omega)]
  · rw [wordsOf_at, if_neg h]
    have : bs.length ≤ i := by unfold need at h; omega
    rw [at_none bs i this]
    unfold getN; simp
theorem list_ext (a b : List Nat) (hl : a.length = b.length) (h : ∀ i, i < a.length → at' a i = at' b i) : a = b := by
  apply List.ext_getElem hl
  intro i h1 h2
  have e := h i h1
  rw [show at' a i = a[i]?.getD 0 from rfl, show at' b i = b[i]?.getD 0 from rfl, List.getElem?_eq_getElem h1, List.getElem?_eq_getElem h2] at e
  exact e
theorem bytesOf_length (l : List Nat) : (bytesOf l).length = 8 * l.length := by simp [bytesOf]
theorem at_take (l : List Nat) (n i : Nat) (h : i < n) : at' (l.take n) i = at' l i := by
  show (l.take n)[i]?.getD 0 = _
  rw [List.getElem?_take_of_lt h]
theorem at_drop (l : List Nat) (n i : Nat) : at' (l.drop n) i = at' l (n + i) := by
  show (l.drop n)[i]?.getD 0 = _
  rw [List.getElem?_drop]
theorem need_ge (n : Nat) : n ≤ 8 * need n := by unfold need; omega
/-- Bytes of Words are the bytes. -/
theorem bytes_words (bs : List Nat) (hb : Bytes256 bs) : (bytesOf (wordsOf bs)).take bs.length = bs := by
  have hg := need_ge bs.length
  apply list_ext
  · rw [List.length_take, bytesOf_length, wordsOf_length]; omega
  · intro i hi
    rw [List.length_take, bytesOf_length, wordsOf_length] at hi
    rw [at_take _ _ _ (by omega), bytesOf_at _ _ (by rw [wordsOf_length]; omega), byte_word bs hb]
theorem bytes_behind (bs : List Nat) (hb : Bytes256 bs) (i : Nat) (hi : bs.length ≤ i) : byteAt (wordsOf bs) i = 0 := by
  rw [byte_word bs hb, at_none bs i hi]
/-- Chunk i of bytes. -/
def chunkOf (bs : List Nat) (i : Nat) : List Nat := (bs.drop (8 * i)).take 8
theorem chunkOf_length (bs : List Nat) (i : Nat) : (chunkOf bs i).length = min 8 (bs.length - 8 * i) := by simp [chunkOf]
theorem chunkOf_at (bs : List Nat) (i j : Nat) (h : j < 8) : at' (chunkOf bs i) j = at' bs (8 * i + j) := by
  unfold chunkOf; rw [at_take _ _ _ h, at_drop]
theorem chunkOf_256 (bs : List Nat) (hb : Bytes256 bs) (i : Nat) : Bytes256 (chunkOf bs i) := fun j => by
  by_cases h : j < 8
  · rw [chunkOf_at _ _ _ h]; exact hb _
  · rw [at_none _ _ (by rw [chunkOf_length]; omega)]; decide
theorem chunkOf_word (bs : List Nat) (i : Nat) : joinTo (chunkOf bs i) (chunkOf bs i).length = wordAt bs i := by
  rw [chunkOf_length]
  unfold chunkOf wordAt
  exact joinTo_take _ _ _ (by omega)
/-- What Bytes says: an error. -/
def bytesErr (l : List Nat) (many : Int) : Int :=
  if many < 0 then 2 else if 4096 < many ∨ 4096 < l.length then 3 else if 8 * (l.length : Int) < many then 4 else if need many.toNat < l.length then 110
  else if ((bytesOf l).drop many.toNat).any (· != 0) then 110 else 0
end WM
end Go.Proofs.YtaebipopmefkpaaGreatDoor

/-
  Contracts of slices.Chunk at bytes.
-/
namespace Go.Proofs.YtaebipopmefkpaaGreatDoor
open Go.RowKit Go.Shelf
attribute [local go_sem] Oper.semAt_some
/-- The slice value v holds the numbers xs of kind k. -/
def Sl (W : World) (k : IntKind) (v : Value) (xs : List Nat) : Prop :=
  ∃ (a : Option Addr) (cap : Nat), v = .slice a xs.length cap ∧ xs.length ≤ cap ∧ (0 < xs.length → ∃ b off, a = some ⟨b, off, none⟩ ∧ b < W.heap.size ∧ ∀ j, j < xs.length → W.cell? ⟨b, off + j, none⟩ = some (.int k ((xs[j]?.getD 0 : Nat) : Int)))
theorem Sl.below {W W' : World} {k : IntKind} {v : Value} {xs : List Nat} (h : Sl W k v xs) (hb : Below W.heap.size W W') : Sl W' k v xs := by
  obtain ⟨a, cap, hv, hl, hc⟩ := h
  refine ⟨a, cap, hv, hl, fun h0 => ?_⟩
  obtain ⟨b, off, ha, hlt, hj⟩ := hc h0
  exact ⟨b, off, ha, Nat.lt_of_lt_of_le hlt hb.size, fun j hl => (hb.cell (p := ⟨b, off + j, none⟩) hlt).trans (hj j hl)⟩
theorem chunk_any (a : Option Addr) (len cap : Nat) (w : World) :
    Calls Tryz.prog 149 #[.slice a len cap, .int .i64 8] w fun e w' => e = .returned (.func (.func 155) #[] #[.pointer (some ⟨w.heap.size, 0, none⟩), .pointer (some ⟨w.heap.size + 1, 0, none⟩)]) ∧ w' = (w.alloc (.cells #[.slice a len cap] 172)).alloc (.cells #[.int .i64 8] 3) := by
  go_enter Tryz.func149, Tryz.ntmps149
  go_wp2
  go_ret
  exact ⟨rfl, rfl⟩
/-- What an iterator over chunks needs: its two boxes. -/
def ChunkBlocks (Bs : Nat) (k : Nat) : Prop := k = Bs ∨ k = Bs + 1
theorem grownBy_drewN (W : World) (n : Nat) : W.grownBy (W.drewN n) none := ⟨rfl, rfl, rfl, Nat.le_refl _, fun _ _ _ => rfl⟩
theorem take_finRange (m k : Nat) (h : k < m) : (List.finRange m).take k ++ [⟨k, h⟩] = (List.finRange m).take (k + 1) := by
  rw [List.take_succ_eq_append_getElem (by simpa using h)]; simp
set_option maxRecDepth 100000 in
set_option maxHeartbeats 2000000 in
theorem chunk1_in (n : Nat) (hn : 1 ≤ n) (l Bs b off len cap m B0 : Nat) (hm : m = WM.need len) (hreach : cap ≤ 9223372036854775807) (hlen4 : len ≤ 4096) (hlc : len ≤ cap) (J Jx : List (Fin m) → World → Prop) (hJ : AbidesFrom B0 J)
    (hY : ∀ pre (y : Fin m) W, J pre W → pre.length < m → YieldAt Fence.wide (n - 1) Tryz.prog l #[.slice (some ⟨b, off + 8 * y.1, none⟩) (min 8 (len - 8 * y.1)) (min 8 (len - 8 * y.1))] W fun e W' =>
      (e = .returned (.bool true) ∧ J (pre ++ [y]) W' ∧ Keeps (ChunkBlocks Bs) W W') ∨ (e = .returned (.bool false) ∧ Jx (pre ++ [y]) W'))
    (W : World) (hB1 : W.cell? ⟨Bs, 0, none⟩ = some (.slice (some ⟨b, off, none⟩) len cap)) (hB2 : W.cell? ⟨Bs + 1, 0, none⟩ = some (.int .i64 8)) (h0 : J [] W) :
    CallsIn Fence.wide n Tryz.prog 155 #[.func (.yield l) #[] #[], .pointer (some ⟨Bs, 0, none⟩), .pointer (some ⟨Bs + 1, 0, none⟩)] W fun e W' => (∃ v, e = .returned v) ∧
      ((∃ ys, ys = List.finRange m ∧ J ys W') ∨ (∃ pre, pre <+: List.finRange m ∧ Jx pre W')) := by
  refine callsIn_of_wp Tryz.func155 rfl trivial ?_ rfl
  simp only [Tryz.ntmps155, List.size_toArray, List.length_cons, List.length_nil, Nat.reduceAdd, Nat.reduceSub, Array.replicate_succ, Array.replicate_zero, List.push_toArray, List.append_toArray, List.nil_append, List.cons_append]
  gi_wp2
  gi_loopw [4] (fun i wr => ∃ k : Nat, k ≤ m ∧ i = .int .i64 (8 * (k : Int)) ∧ J ((List.finRange m).take k) wr ∧ Keeps (ChunkBlocks Bs) W wr)
    (fun i _ => (8 * m - (intOf i).toNat))
  case atStart => exact ⟨0, Nat.zero_le _, rfl, by simpa using h0, Keeps.refl _ _⟩
  case round =>
    obtain ⟨k, hk, rfl, hJs, hb⟩ := hrel
    have c1 : wr.cell? ⟨Bs, 0, none⟩ = some (.slice (some ⟨b, off, none⟩) len cap) := hb.cell (q := ⟨Bs, 0, none⟩) (.inl rfl) hB1
    have c2 : wr.cell? ⟨Bs + 1, 0, none⟩ = some (.int .i64 8) := hb.cell (q := ⟨Bs + 1, 0, none⟩) (.inr rfl) hB2
    clear hB1 hB2
    by_cases hlt : k < m
    · have hk8 : 8 * k < len := by unfold WM.need at hm; omega
      have HM := Lib.hid hm; clear hm
      have HY := Lib.hid hY; clear hY
      have HJ := Lib.hid hJ; clear hJ
      have HF := Lib.hid (take_finRange m k hlt)
      have ew : IntKind.i64.wrap (8 * (k : Int) + 8) = 8 * ((k + 1 : Nat) : Int) := by rw [IntWalk.i64_in _ (by omega)]; omega
      have HW := Lib.hid ew; clear ew
      by_cases h8 : 8 ≤ len - 8 * k
      · have h8' : (8 : Int) ≤ ((len - 8 * k : Nat) : Int) := by omega
        have hq : (8 * (k : Int) + 8).toNat - 8 * k = 8 := by omega
        have hmin : min 8 (len - 8 * k) = 8 := by omega
        have HQ := Lib.hid hmin; clear hmin h8
        gi_wp2
        gi_quiet (fail)
        rename_i nq
        obtain ⟨fn, tmps, assign, body, hy, hR⟩ := HY.out _ ⟨k, hlt⟩ (wr.drewN nq) (HJ.out _ _ _ none hJs (grownBy_drewN _ _) (fun r e => by cases e)) (by simp; omega)
        dsimp only at hy
        rw [HQ.out] at hy
        rw [HF.out] at hR
        have HR := Lib.hid hR; clear hR
        gi_wp2
        refine HR.out.mono ?_
        rintro e W3 (⟨rfl, hJ3, hk3⟩ | ⟨rfl, hJx3⟩)
        · have c3 : W3.cell? ⟨Bs + 1, 0, none⟩ = some (.int .i64 8) := hk3.cell (q := ⟨Bs + 1, 0, none⟩) (.inr rfl) (by simpa [go_sem] using c2)
          gi_wp2
          go_roundw
          case rel => exact ⟨k + 1, by omega, by go_num, hJ3, (hb.drewN _).trans hk3⟩
          case measure => simp [intOf]; omega
        · gi_wp2
          refine bodyPost_ret (results_none rfl _ _ _) rfl ?_
          exact ⟨⟨_, rfl⟩, .inr ⟨_, List.take_prefix _ _, hJx3⟩⟩
      · have h8' : ((len - 8 * k : Nat) : Int) < 8 := by omega
        have hq : (8 * (k : Int) + ((len - 8 * k : Nat) : Int)).toNat - 8 * k = len - 8 * k := by omega
        have hle : 8 * (k : Int) + ((len - 8 * k : Nat) : Int) ≤ (cap : Int) := by omega
        have hle2 : 8 * (k : Int) + ((len - 8 * k : Nat) : Int) ≤ 9223372036854775807 := by omega
        have hmin : min 8 (len - 8 * k) = len - 8 * k := by omega
        have HQ := Lib.hid hmin; clear hmin h8
        gi_wp2
        gi_quiet (fail)
        rename_i nq
        obtain ⟨fn, tmps, assign, body, hy, hR⟩ := HY.out _ ⟨k, hlt⟩ (wr.drewN nq) (HJ.out _ _ _ none hJs (grownBy_drewN _ _) (fun r e => by cases e)) (by simp; omega)
        dsimp only at hy
        rw [HQ.out] at hy
        rw [HF.out] at hR
        have HR := Lib.hid hR; clear hR
        gi_wp2
        refine HR.out.mono ?_
        rintro e W3 (⟨rfl, hJ3, hk3⟩ | ⟨rfl, hJx3⟩)
        · have c3 : W3.cell? ⟨Bs + 1, 0, none⟩ = some (.int .i64 8) := hk3.cell (q := ⟨Bs + 1, 0, none⟩) (.inr rfl) (by simpa [go_sem] using c2)
          gi_wp2
          go_roundw
          case rel => exact ⟨k + 1, by omega, by go_num, hJ3, (hb.drewN _).trans hk3⟩
          case measure => simp [intOf]; omega
        · gi_wp2
          refine bodyPost_ret (results_none rfl _ _ _) rfl ?_
          exact ⟨⟨_, rfl⟩, .inr ⟨_, List.take_prefix _ _, hJx3⟩⟩
    · obtain rfl : k = m := by omega
      have hk8 : len ≤ 8 * k := by unfold WM.need at hm; omega
      have HM := Lib.hid hm; clear hm
      gi_wp2
      go_end0
      exact ⟨⟨_, rfl⟩, .inl ⟨_, by rw [List.take_of_length_le (by simp)], hJs⟩⟩
set_option maxRecDepth 100000 in
set_option maxHeartbeats 2000000 in
theorem chunk0_in (n : Nat) (l Bs cap : Nat) (a : Option Addr) (J : List (Fin 0) → World → Prop) (W : World) (hB1 : W.cell? ⟨Bs, 0, none⟩ = some (.slice a 0 cap)) (h0 : J [] W) :
    CallsIn Fence.wide n Tryz.prog 155 #[.func (.yield l) #[] #[], .pointer (some ⟨Bs, 0, none⟩), .pointer (some ⟨Bs + 1, 0, none⟩)] W fun e W' => (∃ v, e = .returned v) ∧ J [] W' := by
  refine callsIn_of_wp Tryz.func155 rfl trivial ?_ rfl
  simp only [Tryz.ntmps155, List.size_toArray, List.length_cons, List.length_nil, Nat.reduceAdd, Nat.reduceSub, Array.replicate_succ, Array.replicate_zero, List.push_toArray, List.append_toArray, List.nil_append, List.cons_append]
  gi_wp2
  gi_loopw [4] (fun i wr => i = .int .i64 0 ∧ J [] wr ∧ wr.cell? ⟨Bs, 0, none⟩ = some (.slice a 0 cap)) (fun _ _ => 0)
  case atStart => exact ⟨rfl, h0, hB1⟩
  case round =>
    obtain ⟨rfl, hJs, hc⟩ := hrel
    gi_wp2
    go_end0
    exact ⟨⟨_, rfl⟩, hJs⟩
/-- **slices.Chunk(b, 8) hands back an iterator over the chunks of eight bytes.** -/
theorem chunk_stops (n : Nat) (hn : 1 ≤ n) (Bs b off len cap : Nat) (a : Option Addr) (ha : 0 < len → a = some ⟨b, off, none⟩) (hreach : cap ≤ 9223372036854775807) (hlen4 : len ≤ 4096) (hlc : len ≤ cap) (w : World) (hBs : Bs + 1 < w.heap.size)
    (hB1 : w.cell? ⟨Bs, 0, none⟩ = some (.slice a len cap)) (hB2 : w.cell? ⟨Bs + 1, 0, none⟩ = some (.int .i64 8)) :
    SeqStopsK Fence.wide n Tryz.prog 155 #[.pointer (some ⟨Bs, 0, none⟩), .pointer (some ⟨Bs + 1, 0, none⟩)] (fun y : Fin (WM.need len) => #[Value.slice (some ⟨b, off + 8 * y.1, none⟩) (min 8 (len - 8 * y.1)) (min 8 (len - 8 * y.1))]) (Keeps (ChunkBlocks Bs))
      (fun ys => ys = List.finRange (WM.need len)) (fun pre => pre <+: List.finRange (WM.need len)) (WM.need len) w := fun l J Jx W hW hJ _ hY h0 => by
  rcases Nat.eq_zero_or_pos len with rfl | hl
  · exact (chunk0_in n l Bs cap a J W ((hW.cell (p := ⟨Bs, 0, none⟩) (show Bs < w.heap.size by omega)).trans hB1) h0).mono fun e W' ⟨he, hj⟩ => ⟨he, .inl ⟨_, rfl, hj⟩⟩
  · obtain rfl := ha hl
    exact chunk1_in n hn l Bs b off len cap (WM.need len) _ rfl hreach hlen4 hlc J Jx hJ hY W ((hW.cell (p := ⟨Bs, 0, none⟩) (show Bs < w.heap.size by omega)).trans hB1) ((hW.cell (p := ⟨Bs + 1, 0, none⟩) (show Bs + 1 < w.heap.size by omega)).trans hB2) h0
end Go.Proofs.YtaebipopmefkpaaGreatDoor

/-
  Contracts of word's joined and of the fold over bytes.
-/
namespace Go.Proofs.YtaebipopmefkpaaGreatDoor
open Go.RowKit Go.Shelf

theorem or_int (x a k : Nat) (hx : x < 18446744073709551616) : bits .or .u64 (x : Int) (IntKind.u64.wrap ((a : Int) * 2 ^ k)) = ((x ||| (a * 2 ^ k % 18446744073709551616) : Nat) : Int) := by
  rw [WM.shl_int, u64_or_nat _ _ hx (Nat.mod_lt _ (by decide))]
theorem joined1_any (x a k B : Nat) (hx : x < 18446744073709551616) (ha : a < 256) (hk : k ≤ 64) (w : World) (hc : w.cell? ⟨B, 0, none⟩ = some (.int .i64 (k : Nat))) (hf : w.frozen? ⟨B, 0, none⟩ = false) :
    Calls Tryz.prog 157 #[.int .u64 x, .int .u8 a, .pointer (some ⟨B, 0, none⟩)] w fun e w' => e = .returned (.int .u64 ((x ||| (a * 2 ^ k % 18446744073709551616) : Nat))) ∧ w' = w.setCell ⟨B, 0, none⟩ (.int .i64 ((k + 8 : Nat))) := by
  have H := Lib.hid (or_int x a k hx)
  have h1 : (a : Int) < 256 := by omega
  have h2 : (k : Int) ≤ 64 := by omega
  have e1 : ((k : Nat) : Int) + 8 = ((k + 8 : Nat) : Int) := by omega
  have H1 := Lib.hid e1; clear e1
  go_enter Tryz.func157, Tryz.ntmps157
  go_wp2
  go_ret
  exact ⟨ret_int H.out, by rw [H1.out]⟩
theorem fold1_any (v : Value) (xs : List Nat) (B : Nat) (hx8 : xs.length ≤ 8) (hx : WM.Bytes256 xs) (w : World) (hs : Sl w .u8 v xs) (hB : ∀ b off, v = .slice (some ⟨b, off, none⟩) xs.length xs.length → 0 < xs.length → b < B) (hv : ∃ a, v = .slice a xs.length xs.length) (hbx : Boxed w B 3 (.int .i64 0)) :
    Calls Tryz.prog 156 #[.int .u64 0, v, .func (.func 157) #[] #[.pointer (some ⟨B, 0, none⟩)]] w fun e w' => e = .returned (.int .u64 (WM.joinTo xs xs.length : Nat)) ∧ Below B w w' := by
  obtain ⟨a, cap, rfl, hlc, hcells⟩ := hs
  obtain ⟨a', ha'⟩ := hv
  obtain ⟨rfl, rfl⟩ : a' = a ∧ cap = xs.length := by simpa [eq_comm] using ha'
  have HC := Lib.hid hcells; clear hcells hlc
  have hl := hx8
  generalize hn : xs.length = n at *
  have HN := Lib.hid hn; clear hn
  go_enter Tryz.func156, Tryz.ntmps156
  go_wp2
  go_loopw [0, 8, 11] (fun t _ i wr => ∃ k : Nat, k ≤ n ∧ i = .int .i64 k ∧ t = .int .u64 (WM.joinTo xs k : Nat) ∧ Boxed wr B 3 (.int .i64 ((8 * k : Nat) : Int)) ∧ Below B w wr) (fun _ _ i _ => n - (intOf i).toNat)
  case atStart => exact ⟨0, Nat.zero_le _, rfl, rfl, hbx, Below.refl _ _⟩
  case round =>
    obtain ⟨k, hk, rfl, rfl, hbk, hb⟩ := hrel
    by_cases hlt : k < n
    · obtain ⟨b, off, rfl, hbl, hj⟩ := HC.out (by omega)
      have hbB : b < B := hB b off rfl (by omega)
      have hc : wr.cell? ⟨b, off + k, none⟩ = some (.int .u8 (xs[k]?.getD 0 : Nat)) := (hb.cell (p := ⟨b, off + k, none⟩) hbB).trans (hj k (by omega))
      have hxk := hx k
      have hj1 := Lib.hid (joined1_any (WM.joinTo xs k) (xs[k]?.getD 0) (8 * k) B (WM.joinTo_lt _ _) hxk (by omega) wr hbk.cell hbk.frozen)
      clear hj HC
      generalize hxe : xs[k]?.getD 0 = x at *
      have HX := Lib.hid hxe; clear hxe
      go_wp2_with fail
      refine hj1.out.mono ?_
      rintro e w1 ⟨rfl, rfl⟩
      go_wp2_with fail
      go_roundw
      case rel => exact ⟨k + 1, by omega, by go_num, by rw [WM.joinTo, show WM.at' xs k = x from HX.out], hbk.set _, hb.setCell (Nat.le_refl _) _⟩
      case measure => simp [intOf]; omega
    · obtain rfl : k = n := by omega
      go_wp2
      go_ret
      exact ⟨rfl, hb⟩
theorem joined_any (v : Value) (xs : List Nat) (hx8 : xs.length ≤ 8) (hx : WM.Bytes256 xs) (w : World) (hs : Sl w .u8 v xs) (hv : ∃ a, v = .slice a xs.length xs.length) :
    Calls Tryz.prog 150 #[v] w fun e w' => e = .returned (.int .u64 (WM.joinTo xs xs.length : Nat)) ∧ Below w.heap.size w w' := by
  have hs' := hs.below ((Below.refl _ _).alloc (Nat.le_refl _) (.cells #[.int .i64 0] 3))
  have hf := Lib.hid (fold1_any v xs w.heap.size hx8 hx _ hs' (by
    rintro b off rfl h0
    obtain ⟨a, cap, e, _, h⟩ := hs
    obtain ⟨b', off', ea, hlt, _⟩ := h h0
    simp only [Value.slice.injEq] at e
    obtain ⟨e1, _, _⟩ := e
    rw [ea] at e1; simp at e1
    omega) hv (Boxed.new w 3 (.int .i64 0)))
  obtain ⟨a, rfl⟩ := hv
  clear hs hs'
  go_enter Tryz.func150, Tryz.ntmps150
  go_wp2_with fail
  refine hf.out.mono ?_
  rintro e w1 ⟨rfl, hb1⟩
  go_wp2_with fail
  go_ret
  exact ⟨rfl, ((Below.refl _ _).alloc (Nat.le_refl _) _).trans hb1⟩
end Go.Proofs.YtaebipopmefkpaaGreatDoor
