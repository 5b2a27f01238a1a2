/-
  Texts PthB to App, as one.
-/
import Derived.Test.YtohdgjmmekgcmaaDoorMp1
import Derived.Lib.SplitLaws
import Derived.Lib.IndexBytes
import Derived.RangeFuncWrites
import Derived.RangeFuncNested
import Derived.RangeFuncLeaves
import Derived.Scope
import Derived.ControlIn
import Derived.WalkMore
import Derived.Sort.QuietIn
import Derived.Maps.AppendAt
import Derived.Deep.DeepMust
/-
  path: what strings.SplitN at one slash tells, in plain words.
-/
namespace Go.Proofs.YtohdgjmmekgcmaaDoor
open Go.RowKit Go.Shelf Go.Sort

/-- A text ends ahead of its first slash, or there is none. -/
theorem slash_cut (s : List UInt8) : (Lib.index s [47] = -1 ∧ (47 : UInt8) ∉ s) ∨ ∃ a b : List UInt8, (47 : UInt8) ∉ a ∧ s = a ++ 47 :: b ∧ Lib.index s [47] = (a.length : Int) := by
  rw [Lib.index_one]
  induction s with
  | nil => exact .inl ⟨rfl, by simp⟩
  | cons c s ih =>
    by_cases hc : c = 47
    · subst hc
      exact .inr ⟨[], s, by simp, rfl, by simp [Lib.indexByte]⟩
    · have e : (c == 47) = false := by simpa using hc
      rcases ih with ⟨h1, h2⟩ | ⟨a, b, h1, h2, h3⟩
      · refine .inl ⟨by simp [Lib.indexByte, e, h1], ?_⟩
        intro hm
        rcases List.mem_cons.1 hm with k | k
        · exact hc k.symm
        · exact h2 k
      · refine .inr ⟨c :: a, b, ?_, by rw [h2]; rfl, ?_⟩
        · intro hm
          rcases List.mem_cons.1 hm with k | k
          · exact hc k.symm
          · exact h1 k
        · have hne : ((Lib.indexByte s 47) == -1) = false := by rw [h3]; simp
          rw [Lib.indexByte, e, if_neg (by simp), hne, if_neg (by simp), h3]
          simp
theorem splitK_parts : ∀ (k : Nat) (s : List UInt8), ((partsP s).length ≤ k + 1 ∧ Lib.splitK [47] 0 k s = partsP s) ∨ (k + 1 < (partsP s).length ∧ (Lib.splitK [47] 0 k s).length = k + 1)
  | 0, s => by
    obtain ⟨h, t, e⟩ := partsP_cons s
    by_cases ht : t = []
    · subst ht
      refine .inl ⟨by rw [e]; simp, ?_⟩
      have := partsP_flat s
      rw [e] at this
      unfold flatP at this
      simp at this
      rw [e, this]
      rfl
    · refine .inr ⟨?_, rfl⟩
      rw [e, List.length_cons]
      have := List.length_pos_iff.2 ht
      omega
  | k + 1, s => by
    rcases slash_cut s with ⟨h1, h2⟩ | ⟨a, b, h1, h2, h3⟩
    · refine .inl ⟨by rw [partsP_no s h2]; simp, ?_⟩
      rw [Lib.splitK, h1, partsP_no s h2]
      rfl
    · have hs : Lib.splitK [47] 0 (k + 1) s = a :: Lib.splitK [47] 0 k b := by
        have hne : ((Lib.index s [47]) == -1) = false := by rw [h3]; simp
        rw [Lib.splitK, hne, if_neg (by simp), h3, h2]
        simp
      have hp : partsP s = a :: partsP b := by rw [h2, partsP_app, partsP_no a h1]; rfl
      rw [hs, hp, List.length_cons, List.length_cons]
      rcases splitK_parts k b with ⟨g1, g2⟩ | ⟨g1, g2⟩
      · exact .inl ⟨by omega, by rw [g2]⟩
      · exact .inr ⟨by omega, by rw [g2]⟩
/-- How many cuts SplitN makes of at most 18 pieces. -/
def cutsP (s : List UInt8) : Nat := min 18 (s.length + 1) - 1
def piecesP (s : List UInt8) : List (List UInt8) := Lib.splitK [47] 0 (cutsP s) s
theorem piecesP_cases (s : List UInt8) : ((partsP s).length ≤ 18 ∧ piecesP s = partsP s) ∨ (18 < (partsP s).length ∧ (piecesP s).length = 18) := by
  have hl := partsP_length s
  unfold piecesP cutsP
  rcases splitK_parts (min 18 (s.length + 1) - 1) s with ⟨h1, h2⟩ | ⟨h1, h2⟩
  · exact .inl ⟨by omega, h2⟩
  · exact .inr ⟨by omega, by rw [h2]; omega⟩
theorem piecesP_len (s : List UInt8) : 1 ≤ (piecesP s).length ∧ (piecesP s).length ≤ 18 := by
  obtain ⟨h, t, e⟩ := partsP_cons s
  rcases piecesP_cases s with ⟨h1, h2⟩ | ⟨h1, h2⟩
  · rw [h2]
    exact ⟨by rw [e]; simp, h1⟩
  · omega
/-- The pieces as the library's function has them. -/
theorem pieces_data (s : List UInt8) : (Lib.splitB ⟨#[47]⟩ 0 (min 18 ((⟨s.toArray⟩ : ByteArray).size + 1) - 1) ⟨s.toArray⟩).map Value.string = (piecesP s).map encStr := by
  have hz : (⟨s.toArray⟩ : ByteArray).size = s.length := by simp [ByteArray.size]
  have h := Lib.splitB_data ⟨#[47]⟩ 0 (min 18 ((⟨s.toArray⟩ : ByteArray).size + 1) - 1) ⟨s.toArray⟩
  have e : piecesP s = Lib.splitK [47] 0 (min 18 ((⟨s.toArray⟩ : ByteArray).size + 1) - 1) s := by
    rw [hz]
    rfl
  rw [e]
  have h' : (Lib.splitB ⟨#[47]⟩ 0 (min 18 ((⟨s.toArray⟩ : ByteArray).size + 1) - 1) ⟨s.toArray⟩).map (·.data.toList) = Lib.splitK [47] 0 (min 18 ((⟨s.toArray⟩ : ByteArray).size + 1) - 1) s := h
  rw [← h', List.map_map]
  rfl
theorem pieces_count (s : List UInt8) : (Lib.splitB ⟨#[47]⟩ 0 (min 18 ((⟨s.toArray⟩ : ByteArray).size + 1) - 1) ⟨s.toArray⟩).length = (piecesP s).length := by
  have := congrArg List.length (pieces_data s)
  simpa using this
/-- What read tells of its pieces. -/
theorem read_splits (s : List UInt8) : splitE s = if s = [47] then ([], 0) else if (piecesP s).tail = [] ∨ (piecesP s)[0]?.getD [] ≠ [] ∨ [] ∈ (piecesP s).tail then ([], 170) else underE (piecesP s).tail := by
  unfold splitE
  by_cases h0 : s = [47]
  · rw [if_pos h0, if_pos h0]
  · rw [if_neg h0, if_neg h0]
    have hhead : ∀ c r, s = c :: r → c = 47 → partsP s = [] :: partsP s.tail := fun c r e ec => by subst e; subst ec; exact partsP_slash r
    have hother : s.head? ≠ some 47 → partsP s = [[]] ∨ ∃ x t, partsP s = x :: t ∧ x ≠ [] := fun h => by
      cases s with
      | nil => exact .inl rfl
      | cons c r =>
        obtain ⟨x, t, e⟩ := partsP_cons r
        exact .inr ⟨c :: x, t, partsP_other c r x t (fun ec => h (by rw [ec]; rfl)) e, List.cons_ne_nil _ _⟩
    rcases piecesP_cases s with ⟨h1, h2⟩ | ⟨h1, h2⟩
    · rw [h2]
      by_cases hh : s.head? = some 47
      · have hp : partsP s = [] :: partsP s.tail := by
          cases s with
          | nil => cases hh
          | cons c r => exact hhead c r rfl (by simpa using hh)
        obtain ⟨x, t, e⟩ := partsP_cons s.tail
        rw [hp, List.tail_cons]
        by_cases hm : [] ∈ partsP s.tail
        · rw [if_neg (fun h => h.2 hm), if_pos (.inr (.inr hm))]
        · rw [if_pos ⟨hh, hm⟩, if_neg]
          rintro (h | h | h)
          · rw [e] at h; cases h
          · exact h rfl
          · exact hm h
      · rw [if_neg (fun h => hh h.1), if_pos]
        rcases hother hh with h | ⟨x, t, h, hx⟩
        · rw [h]; exact .inl rfl
        · rw [h]; exact .inr (.inl hx)
    · have hlong : ∀ l : List (List UInt8), 16 < l.length → underE l = ([], 170) := fun l h => if_pos h
      have hr : (piecesP s).tail.length = 17 := by rw [List.length_tail, h2]
      rw [hlong (piecesP s).tail (by omega), ite_self]
      by_cases hh : s.head? = some 47
      · have hp : partsP s = [] :: partsP s.tail := by
          cases s with
          | nil => cases hh
          | cons c r => exact hhead c r rfl (by simpa using hh)
        rw [hlong (partsP s.tail) (by rw [hp, List.length_cons] at h1; omega), ite_self]
      · rw [if_neg (fun h => hh h.1)]
end Go.Proofs.YtohdgjmmekgcmaaDoor

/-
  A range over an iterator that has cells, and loops, of its own. The iterator may turn whatever lies from its call on; the body of the loop keeps all of that, and what the iterator names below it.
-/
namespace Go.Proofs.YtohdgjmmekgcmaaDoor
open Go.RowKit Go.Shelf

/-- J does not mind what turns from block B on. -/
def Under {β : Type} (B : Nat) (J : β → World → Prop) : Prop := ∀ s W W', J s W → Below B W W' → J s W'
theorem Under.and {β : Type} {B : Nat} {I J : β → World → Prop} (h : Under B I) (k : Under B J) : Under B (fun s W => I s W ∧ J s W) := fun s W W' hs hb => ⟨h s W W' hs.1 hb, k s W W' hs.2 hb⟩
theorem Under.mono {β : Type} {B B' : Nat} {J : β → World → Prop} (h : Under B J) (hB : B ≤ B') : Under B' J := fun s W W' hs hb => h s W W' hs (hb.mono hB)
theorem Under.pure {β : Type} (B : Nat) (p : β → Prop) : Under B (fun s (_ : World) => p s) := fun _ _ _ hs _ => hs
theorem Under.imp {β : Type} {B : Nat} {I : β → World → Prop} (c : Prop) (h : Under B I) : Under B (fun s W => c → I s W) := fun s W W' hs hb hc => h s W W' (hs hc) hb
theorem Under.box {β : Type} {B A : Nat} {t : TypeId} (f : β → Value) (hA : A < B) : Under B (fun s W => Boxed W A t (f s)) := fun _ _ _ hs hb => (hb.block A hA).trans hs
theorem Under.below {β : Type} {B n₀ : Nat} {w₀ : World} (h : n₀ ≤ B) : Under B (fun (_ : β) W => Below n₀ w₀ W) := fun _ _ _ hs hb => hs.trans (hb.mono h)
theorem Keeps.weaken {p q : Nat → Prop} {A B : World} (h : Keeps p A B) (hq : ∀ k, q k → p k) : Keeps q A B := ⟨h.1, fun k hk hl => h.2 k (hq k hk) hl⟩
theorem keeps_putObj {q : Nat → Prop} (W : World) (l : Nat) (o : Obj) (hq : ¬ q l) : Keeps q W (W.putObj l o) := Keeps.of_grown (grownBy_putObj' W l o) (fun k e => by cases e; exact hq)
theorem below_putObj {B : Nat} (W : World) {l : Nat} (o : Obj) (hB : B ≤ l) (hl : l < W.heap.size) : Below B W (W.putObj l o) := (Below.refl _ _).grown (grownBy_putObj' W l o) (by omega) (fun k e => by cases e; exact hB)
/-- What an iterator promises: all of the elements come, or those up to the one at which it was told to stop. -/
def SeqP {α : Type} (p : Nat → Prop) (n : Nat) (P : Program) (g : Nat) (lb : Array Value) (encs : α → Array Value) (S Sp : List α → Prop) (w : World) : Prop :=
  ∀ (l : Nat) (J Jx : List α → World → Prop) (W : World), Below w.heap.size w W → Under W.heap.size J → Under W.heap.size Jx →
    (∀ pre x W1, J pre W1 → W.heap.size ≤ W1.heap.size → Sp (pre ++ [x]) → YieldAt Fence.wide (n - 1) P l (encs x) W1 fun e W' =>
      Keeps (fun k => p k ∨ W.heap.size ≤ k) W1 W' ∧ ((e = .returned (.bool true) ∧ J (pre ++ [x]) W') ∨ (e = .returned (.bool false) ∧ Jx (pre ++ [x]) W'))) →
    J [] W →
    CallsIn Fence.wide n P g (#[.func (.yield l) #[] #[]] ++ lb) W fun e W' => (∃ v, e = .returned v) ∧ ((∃ xs, S xs ∧ J xs W') ∨ (∃ pre, Sp pre ∧ Jx pre W'))
/-- How a round may end. -/
def postP {α : Type} (p : Nat → Prop) (B : Nat) (I : List α → World → Prop) (Ix : Code → List α → World → Prop) (xs : List α) (W : World) : Exit → Act → World → Prop
  | .normal, _, W' => Keeps (fun k => p k ∨ B ≤ k) W W' ∧ I xs W'
  | .ret, _, W' => Keeps (fun k => p k ∨ B ≤ k) W W' ∧ Ix .ret xs W'
  | .exit id, _, W' => Keeps (fun k => p k ∨ B ≤ k) W W' ∧ Ix (.exit id) xs W'
  | _, _, _ => False
theorem wpIn_range_P {α : Type} {n : Nat} {P : Program} {g : Operand} {ps : Array Tmp} {assign body : Code} {Q : Exit → Act → World → Prop} {a : Act} {w : World}
    (h1 : 1 ≤ n) {gf : Nat} {lb : Array Value} (hg : a.eval g = .func (.func gf) #[] lb) (eg : ∀ args w, (callFunc gf args).run P w = .ok (.enter gf args) w)
    {encs : α → Array Value} {p : Nat → Prop} {S Sp : List α → Prop} {w0 : World} (hseq : SeqP p (n - 1) P gf lb encs S Sp w0) (hp : ∀ k, p k → k < w.heap.size) (hb0 : Below w0.heap.size w0 w) (hps : ∀ x, (encs x).size = ps.size)
    (I : List α → World → Prop) (Ix : Code → List α → World → Prop) (hI : Under w.heap.size I) (hIx : ∀ c, Under w.heap.size (Ix c)) (h0 : I [] w) (a₁ : α → Act)
    (hassign : ∀ (l : Nat) (x : α) (W : World) (K : Act → World → Prop), K (a₁ x) W →
      assign.wpIn (Fence.wide.inRound l) (n - 1 - 1) P (Exit.then K (fun _ _ _ => False)) { tmps := (ps.zip (encs x)).foldl (fun t (p, v) => t.setIfInBounds p v) a.tmps, defers := [] } W)
    (hbody : ∀ (l : Nat) (pre : List α) (x : α) (W : World), I pre W → w.heap.size ≤ W.heap.size → Sp (pre ++ [x]) → body.wpIn (Fence.wide.inRound l) (n - 1 - 1) P (postP p w.heap.size I Ix (pre ++ [x]) W) (a₁ x) W)
    (hdone : ∀ (D : Nat) (xs : List α) (W : World), w.heap.size ≤ D → S xs → I xs W → W.heap[D]? = some (.deferred (some [])) → Q .normal { a with defers := { target := .collected D, args := #[] } :: a.defers } W)
    (hstop : ∀ (D : Nat) (c : Code) (pre : List α) (W : World), w.heap.size ≤ D → Sp pre → Ix c pre W → W.heap[D]? = some (.deferred (some [])) → c.wpIn Fence.wide n P Q { a with defers := { target := .collected D, args := #[] } :: a.defers } W) :
    (Code.rangeFunc g ps assign body).wpIn Fence.wide n P Q a w := by
  refine wpIn_rangeFunc fun fn hfn => ?_
  obtain ⟨rec, hrec⟩ : ∃ rec : LoopState → Option Code → Loop, rec = fun st pe => { state := st, pending := pe, fn, tmps := a.tmps, params := ps, assign, body, defers := w.heap.size } := ⟨_, rfl⟩
  have hst : ∀ st pe, (rec st pe).state = st := fun st pe => by rw [hrec]
  have hpen : ∀ st pe, (rec st pe).pending = pe := fun st pe => by rw [hrec]
  have hbusy : ∀ st pe, { rec st pe with state := .busy } = rec .busy pe := fun st pe => by rw [hrec]
  obtain ⟨W1, hW1⟩ : ∃ W1, (w.alloc (.deferred (some []))).alloc (.loop (rec .ready none)) = W1 := ⟨_, rfl⟩
  have hsz : W1.heap.size = w.heap.size + 2 := by rw [← hW1]; simp
  have hL1 : W1.heap[w.heap.size + 1]? = some (.loop (rec .ready none)) := by
    rw [← hW1]; have := World.alloc_heap_new (w.alloc (.deferred (some []))) (.loop (rec .ready none)); rwa [World.size_alloc] at this
  have hK1 : W1.heap[w.heap.size]? = some (.deferred (some [])) := by
    rw [← hW1]; exact (Below.heap_alloc _ _ _ (by simp)).trans (World.alloc_heap_new w _)
  have bW1 : Below w.heap.size w W1 := by rw [← hW1]; exact ((Below.refl _ _).alloc (Nat.le_refl _) _).alloc (by simp) _
  refine ⟨w.heap.size + 1, [{ target := .collected w.heap.size, args := #[] }], W1, { target := .fn (.func gf) lb, args := #[.func (.yield (w.heap.size + 1)) #[] #[]] }, W1, gf,
    #[.func (.yield (w.heap.size + 1)) #[] #[]] ++ lb, W1, ?_, ?_, fun _ _ => trivial, ?_, fun _ => h1, ?_⟩
  · rw [← hW1, hrec]; exact run_enterLoop_outer _ _ _ _ _
  · simp only [resolve, hg]
    simp [go_sem]
  · simp [invoke, go_sem, eg]
  · refine (hseq (w.heap.size + 1)
      (fun pre W => I pre W ∧ W.heap[w.heap.size + 1]? = some (.loop (rec .ready none)) ∧ W.heap[w.heap.size]? = some (.deferred (some [])))
      (fun pre W => ∃ c, Ix c pre W ∧ W.heap[w.heap.size + 1]? = some (.loop (rec .done (some c))) ∧ W.heap[w.heap.size]? = some (.deferred (some [])))
      W1 (hb0.trans (bW1.mono hb0.size))
      (fun s A C hs hb => ⟨hI s A C hs.1 (hb.mono (by omega)), (hb.block _ (by omega)).trans hs.2.1, (hb.block _ (by omega)).trans hs.2.2⟩)
      (fun s A C ⟨c, hc, hl, hk⟩ hb => ⟨c, hIx c s A C hc (hb.mono (by omega)), (hb.block _ (by omega)).trans hl, (hb.block _ (by omega)).trans hk⟩)
      ?_ ⟨hI [] w W1 h0 bW1, hL1, hK1⟩).mono ?_
    · rintro pre x W ⟨hi, hl, hk⟩ - hlen
      have hlt : w.heap.size + 1 < W.heap.size := (Array.getElem?_eq_some_iff.1 hl).1
      have hy := run_yield (P := P) (args := encs x) hl (by rw [hrec]; exact hps x)
      rw [hrec] at hy
      have hbr := run_beginRound (P := P) hl (hst _ _)
      rw [hbusy] at hbr
      obtain ⟨W2, hW2⟩ : ∃ W2, W.putObj (w.heap.size + 1) (.loop (rec .busy none)) = W2 := ⟨_, rfl⟩
      rw [hW2] at hbr
      have b2 : Below w.heap.size W W2 := by rw [← hW2]; exact below_putObj W _ (by omega) hlt
      have k2 : Keeps (fun k => p k ∨ W1.heap.size ≤ k) W W2 := by
        rw [← hW2]
        exact keeps_putObj W _ _ (fun h => h.elim (fun h => by have := hp _ h; omega) (fun h => by omega))
      have l2 : W2.heap[w.heap.size + 1]? = some (.loop (rec .busy none)) := by rw [← hW2]; exact World.putObj_heap_same hlt
      have d2 : W2.heap[w.heap.size]? = some (.deferred (some [])) := by rw [← hW2]; exact (World.putObj_heap_other (by omega)).trans hk
      refine ⟨fn, _, assign, body, hy, roundIn_of_wpIn hfn (hassign _ x W _ ⟨_, hbr, ?_⟩)⟩
      have hs2 : w.heap.size ≤ W2.heap.size := Nat.le_trans (by omega) b2.size
      refine wpIn_mono (hbody _ pre x W2 (hI pre W W2 hi b2) hs2 hlen) ?_
      have fin : ∀ (jump : Option Code) (W3 : World), Keeps (fun k => p k ∨ w.heap.size ≤ k) W2 W3 → ∃ W4,
          (Instr.endRound (w.heap.size + 1) jump).run P W3 = .ok (.bool jump.isNone) W4 ∧ Below w.heap.size W3 W4 ∧ Keeps (fun k => p k ∨ W1.heap.size ≤ k) W W4 ∧
          W4.heap[w.heap.size + 1]? = some (.loop (rec (if jump.isNone then .ready else .done) jump)) ∧ W4.heap[w.heap.size]? = some (.deferred (some [])) := fun jump W3 k3 => by
        have l3 : W3.heap[w.heap.size + 1]? = some (.loop (rec .busy none)) := (k3.2 _ (.inr (by omega)) (Array.getElem?_eq_some_iff.1 l2).1).trans l2
        have d3 : W3.heap[w.heap.size]? = some (.deferred (some [])) := (k3.2 _ (.inr (by omega)) (Array.getElem?_eq_some_iff.1 d2).1).trans d2
        have hl3 := (Array.getElem?_eq_some_iff.1 l3).1
        have he := run_endRound (P := P) jump l3
        rw [hrec] at he
        refine ⟨W3.putObj (w.heap.size + 1) (.loop (rec (if jump.isNone then .ready else .done) jump)), ?_, below_putObj W3 _ (by omega) hl3, ?_, World.putObj_heap_same hl3, (World.putObj_heap_other (by omega)).trans d3⟩
        · rw [hrec]; exact he
        · exact (k2.trans (k3.weaken fun k h => h.imp id fun h => by omega)).trans (keeps_putObj W3 _ _ (fun h => h.elim (fun h => by have := hp _ h; omega) (fun h => by omega)))
      rintro e a3 W3 hpost
      cases e with
      | normal =>
        obtain ⟨k3, hi3⟩ := hpost
        obtain ⟨W4, hr, b4, k4, l4, d4⟩ := fin none W3 k3
        exact ⟨_, _, hr, k4, .inl ⟨rfl, ⟨hI _ _ _ hi3 b4, l4, d4⟩⟩⟩
      | ret =>
        obtain ⟨k3, hi3⟩ := hpost
        obtain ⟨W4, hr, b4, k4, l4, d4⟩ := fin (some .ret) W3 k3
        exact ⟨_, _, hr, k4, .inr ⟨rfl, .ret, hIx _ _ _ _ hi3 b4, l4, d4⟩⟩
      | exit id =>
        obtain ⟨k3, hi3⟩ := hpost
        obtain ⟨W4, hr, b4, k4, l4, d4⟩ := fin (some (.exit id)) W3 k3
        exact ⟨_, _, hr, k4, .inr ⟨rfl, .exit id, hIx _ _ _ _ hi3 b4, l4, d4⟩⟩
      | goto t => exact hpost.elim
      | panic ch => exact hpost.elim
      | outgrown => exact hpost.elim
    · rintro e W2 ⟨⟨v, rfl⟩, (⟨xs, hS, hi, hl, hk⟩ | ⟨pre, hSp, c, hi, hl, hk⟩)⟩
      · have hlt := (Array.getElem?_eq_some_iff.1 hl).1
        have he := run_endLoop (P := P) hl (by rw [hst]; simp)
        rw [hpen] at he
        refine ⟨none, _, he, hdone _ xs _ (Nat.le_refl _) hS (hI _ _ _ hi (below_putObj W2 _ (by omega) hlt)) ((World.putObj_heap_other (by omega)).trans hk)⟩
      · have hlt := (Array.getElem?_eq_some_iff.1 hl).1
        have he := run_endLoop (P := P) hl (by rw [hst]; simp)
        rw [hpen] at he
        refine ⟨some c, _, he, hstop _ c pre _ (Nat.le_refl _) hSp (hIx c _ _ _ hi (below_putObj W2 _ (by omega) hlt)) ((World.putObj_heap_other (by omega)).trans hk)⟩
theorem keeps_box {p : Nat → Prop} {A : Nat} {t : TypeId} {v : Value} {W W' : World} (h : Boxed W A t v) (hk : Keeps p W W') (hA : p A) : Boxed W' A t v := (hk.2 A hA h.lt).trans h
theorem fin_prefix {m : Nat} {pre : List (Fin m)} {x : Fin m} (h : pre ++ [x] <+: List.finRange m) : x.1 = pre.length := by
  have h1 := h.getElem (i := pre.length) (by simp)
  simp at h1
  rw [h1]
theorem fin_all {m : Nat} : (List.finRange m).length = m := by simp
end Go.Proofs.YtohdgjmmekgcmaaDoor

/-
  A function that ranges over functions in a loop leaves with a list of marks among its deferred calls: they are taken one by one.
-/
namespace Go.Proofs.YtohdgjmmekgcmaaDoor
open Go.RowKit Go.Shelf

/-- Nothing but blocks of book-keeping from B on has turned. -/
def Shut (B : Nat) (W W' : World) : Prop := Below B W W' ∧ ∀ (k : Nat) c t f, W.heap[k]? = some (Obj.cells c t f) → W'.heap[k]? = some (Obj.cells c t f)
theorem Shut.refl (B : Nat) (W : World) : Shut B W W := ⟨Below.refl _ _, fun _ _ _ _ h => h⟩
theorem Shut.trans {B : Nat} {A C D : World} (h : Shut B A C) (k : Shut B C D) : Shut B A D := ⟨h.1.trans k.1, fun i c t f hi => k.2 i c t f (h.2 i c t f hi)⟩
theorem Shut.putObj {B : Nat} (W : World) {D : Nat} {o o' : Obj} (hB : B ≤ D) (h : W.heap[D]? = some o) (hc : o.isCells = false) (hw : o.isWalk = false) : Shut B W (W.putObj D o') := by
  refine ⟨(Below.refl _ _).grown (grownBy_putObj' W D o') ?_ (fun k e => by cases e; exact hB), fun k c t f hk => ?_⟩
  · have := (Array.getElem?_eq_some_iff.1 h).1; omega
  · have hne : D ≠ k := fun e => by
      subst e
      rw [h] at hk
      simp only [Option.some.injEq] at hk
      subst hk
      simp [Obj.isCells] at hc
    rw [World.putObj_heap_other (Ne.symm hne), hk]
/-- Marks: each is a block from B on, below U, of its own, that holds no call. -/
def Marks (B U : Nat) : List Deferred → World → Prop
  | [], _ => True
  | d :: ds, W => ∃ D, d = { target := .collected D, args := #[] } ∧ B ≤ D ∧ D < U ∧ W.heap[D]? = some (.deferred (some [])) ∧ Marks B D ds W
theorem Marks.keep {B U : Nat} : ∀ {ds : List Deferred} {W W' : World}, Marks B U ds W → (∀ k, k < U → W.heap[k]? = some (.deferred (some [])) → W'.heap[k]? = some (.deferred (some []))) → Marks B U ds W'
  | [], _, _, _, _ => trivial
  | _ :: _, _, _, ⟨D, h1, h2, h3, h4, h5⟩, hk => ⟨D, h1, h2, h3, hk D h3 h4, h5.keep fun k hlt => hk k (Nat.lt_trans hlt h3)⟩
theorem Marks.more {B U U' : Nat} : ∀ {ds : List Deferred} {W : World}, Marks B U ds W → U ≤ U' → Marks B U' ds W
  | [], _, _, _ => trivial
  | _ :: _, _, ⟨D, h1, h2, h3, h4, h5⟩, hU => ⟨D, h1, h2, Nat.lt_of_lt_of_le h3 hU, h4, h5⟩
theorem Marks.own {B U n : Nat} {α : Type} (ds : List Deferred) (hU : U ≤ n) : OwnFrom n (fun (_ : α) W => Marks B U ds W) := fun s A C row hs hg hr =>
  hs.keep fun k hk hd => by
    refine (hg.block k (Array.getElem?_eq_some_iff.1 hd).1 (fun e => ?_)).trans hd
    have := (hr k e.symm).1
    omega
theorem Marks.below {B U : Nat} {ds : List Deferred} {W W' : World} (h : Marks B U ds W) (hb : Below U W W') : Marks B U ds W' := h.keep fun k hk hd => (hb.block k hk).trans hd
theorem Marks.set {B U A : Nat} {ds : List Deferred} {W : World} {t : TypeId} {v : Value} (h : Marks B U ds W) (hx : Boxed W A t v) (u : Value) : Marks B U ds (W.setCell ⟨A, 0, none⟩ u) := h.keep fun k _ hd => by
  have hne : k ≠ A := fun e => by
    subst e
    rw [show W.heap[k]? = _ from hx] at hd
    cases hd
  exact (Below.heap_setCell _ _ _ _ hne).trans hd
theorem leaves_marks {F : Fence} {n : Nat} {P : Program} {fn : Func} {tmps : Array Value} {R : Ending → World → Prop} {B : Nat} : ∀ (ds : List Deferred) (U : Nat) (W : World), Marks B U ds W → (∀ W', Shut B W W' → LeavesIn F n P fn tmps R [] .returning W') → LeavesInM F n P fn tmps R ds .returning W
  | [], _, W, _, h => h W (Shut.refl _ _)
  | d :: ds, U, W, ⟨D, h1, h2, h3, h4, h5⟩, h => by
    subst h1
    refine ⟨by simp, .inl ⟨_, _, rfl, run_takeDeferred h4, ?_⟩⟩
    refine leaves_marks ds D _ (h5.keep fun k hk hd => ?_) fun W' hs => h W' ((Shut.putObj W h2 h4 rfl rfl).trans hs)
    rw [World.putObj_heap_other (by omega), hd]
section
variable {F : Fence} {n : Nat} {P : Program} {Q : Exit → Act → World → Prop} {a : Act} {w : World}
/-- A scope without a jump, inside a fence. -/
theorem wpIn_scope_straight {c : Code} (h : c.wpIn F n P (Exit.noGoto Q) a w) : (Code.scope c).wpIn F n P Q a w := by
  intro b k cs hro hb hr
  have s0 : step P (lone (b.atR a (.code (.scope c) :: k)) cs w) = .next (lone (b.atR a (.code c :: .inScope c :: k)) cs w) := step_lone_go (by simp [stepG, stepG.exec, Frame.atR])
  have s1 : ∀ a w, step P (lone (b.atR a (.inScope c :: k)) cs w) = .next (lone (b.atR a k) cs w) := fun a w => step_lone_go (by simp [stepG, stepG.exec, Frame.atR])
  obtain ⟨e, a₁, w₁, hq, harr⟩ := h b (.inScope c :: k) cs hro hb hr
  cases e with
  | normal => exact ⟨.normal, a₁, w₁, hq, .of_steps (.one (fenced_calm hb hr rfl) s0) (StepsIn.trans harr (.one (fenced_calm hb hr rfl) (s1 _ _)))⟩
  | exit id => exact ⟨.exit id, a₁, w₁, hq, .of_steps (.one (fenced_calm hb hr rfl) s0) ⟨fun k' hk => harr.1 k' (by simp [exitTo, hk]), fun hr hk => harr.2 hr (by simp [exitTo, hk])⟩⟩
  | goto l => exact hq.elim
  | ret => exact ⟨_, a₁, w₁, hq, .of_steps (.one (fenced_calm hb hr rfl) s0) harr⟩
  | panic ch => exact ⟨_, a₁, w₁, hq, .of_steps (.one (fenced_calm hb hr rfl) s0) harr⟩
  | outgrown => exact ⟨_, a₁, w₁, hq, .of_steps (.one (fenced_calm hb hr rfl) s0) harr⟩
end
end Go.Proofs.YtohdgjmmekgcmaaDoor

/-
  A range over an iterator that has cells and loops of its own, where the loop's variable is boxed.
-/
namespace Go.Proofs.YtohdgjmmekgcmaaDoor
open Go.RowKit Go.Shelf

/-- Not a deferred call. -/
def noDefer (o : Oper) : Bool := match o.op with
  | .defer _ => false
  | _ => true
theorem noDefer_spec {o : Oper} (h : noDefer o = true) : ∀ c, o.op ≠ .defer c := fun c e => by unfold noDefer at h; rw [e] at h; cases h
section
variable {F : Fence} {n : Nat} {P : Program} {ops : Array Oper} {md : Region.Mode} {C : World → Prop}
/-- A quiet operation, in a round. -/
theorem wpIn_of_quiet_r {o : Oper} {a : Act} {K : Act → Prop} {K' : Act → World → Prop} {Q' : Exit → Act → World → Prop} {w : World} (hd : ∀ c, o.op ≠ .defer c) (hw : C w) (h : ∀ a w', C w' → K a → K' a w')
    (ha : o.askedIn F P a C) (hh : o.quietIn F n P a C K) : o.wpIn F n P a w K' Q' := by
  obtain ⟨v, h1, h2⟩ := hh
  have h3 := h1 w hw
  unfold Oper.quietAtIn at h3
  unfold Oper.wpIn
  refine ⟨ha w hw, ?_⟩
  rw [Oper.semAt_plain F _ _ hd]
  generalize (execOp a.eval o).run P w = r at *
  cases r with
  | ok x w' =>
    cases x <;> simp only [Oper.quietUponIn] at h3 <;> simp only [Oper.uponIn]
    case value u =>
      obtain ⟨e1, e2⟩ := h3
      rw [e1, e2]
      exact h _ _ hw h2
    case skip =>
      obtain ⟨e1, e2⟩ := h3
      rw [e1, ← e2]
      exact h _ _ hw h2
    case enter f args =>
      obtain ⟨e1, hd, hc⟩ := h3
      rw [e1]
      exact ⟨hd, hc.mono fun e w'' ⟨he, hw''⟩ => by subst he; exact h _ _ hw'' h2⟩
  | halt x w' => simp only [Oper.quietUponIn] at h3
theorem wpOpIn_of_qOpIn_r {i : Nat} {a : Act} {K : Act → Prop} {K' : Act → World → Prop} {Q' : Exit → Act → World → Prop} {w : World} (hd : ∀ (j : Nat) o, ops[j]? = some o → ∀ c, o.op ≠ .defer c) (hC : C w) (h : ∀ a w', C w' → K a → K' a w')
    (hh : qOpIn F n P ops C i K a) : wpOpIn F n P ops Q' i K' a w := by
  unfold qOpIn at hh
  unfold wpOpIn
  split
  · rename_i ho; simp only [ho] at hh; exact h _ _ hC hh
  · rename_i o ho
    simp only [ho] at hh
    obtain ⟨ha, hh⟩ := hh
    split
    · rename_i hw; simp only [hw, if_true] at hh; exact wpIn_of_quiet_r (hd _ _ ho) hC h ha hh
    · rename_i hw; simp only [hw] at hh; exact ⟨ha w hC, h _ _ hC hh⟩
theorem wpAnyIn_of_quiet_r {Q : Act → Prop} {Q' : Exit → Act → World → Prop} (hd : ∀ (j : Nat) o, ops[j]? = some o → ∀ c, o.op ≠ .defer c) (hQ : ∀ a w, C w → Q a → Q' .normal a w) : ∀ (fuel : Nat) (listed : Array Bool) (a : Act) (w : World), C w →
    wpAnyQIn F n P md ops C Q fuel listed a → wpAnyIn F n P md ops Q' fuel listed a w
  | 0, _, _, _, hw, h => ⟨h.1, hQ _ _ hw h.2⟩
  | fuel + 1, _, _, _, hw, h => ⟨fun h0 => hQ _ _ hw (h.1 h0), fun i hi => wpOpIn_of_qOpIn_r hd hw (fun a' w' hw' => wpAnyIn_of_quiet_r hd hQ fuel _ a' w' hw') (h.2 i hi)⟩
/-- A region that draws its order and only reads, in a round: one walk of its text serves. -/
theorem wpIn_region_quiet_r {id : Nat} {Q : Exit → Act → World → Prop} {a : Act} {w : World} {l : List Oper} (hd : l.all noDefer = true) (hm : P.follows .mixedOrders = true) (hB : Region.lexB .any l.toArray = true)
    (h : wpQuietIn F n P l.toArray (fun w' => ∃ n, w' = w.drewN n) (fun a' => ∀ w', (∃ n, w' = w.drewN n) → Q .normal a' w') l a) : (Code.region id l.toArray true).wpIn F n P Q a w := by
  simp only [Region.lexB, Bool.and_eq_true] at hB
  refine wpIn_region_any hm (wpAnyIn_of_quiet_r (C := fun w' => ∃ n, w' = w.drewN n) (Q := fun a' => ∀ w', (∃ n, w' = w.drewN n) → Q .normal a' w') (fun j o ho => noDefer_spec ((List.all_eq_true.1 hd) o (List.mem_of_getElem? (by simpa using ho)))) (fun _ w' hw' h => h w' hw') _ _ _ _ ⟨1, rfl⟩ ?_)
  have := wpAnyQIn_lex (F := F) (n := n) (C := fun w' => ∃ n, w' = w.drewN n) (md := .any) hB.1 l 0 (Array.replicate l.toArray.size false) a (by simp) (by simpa using hB.2) h
  simpa using this
end
/-- A goal put aside: the walk stands still at it. -/
def Park (p : Prop) : Prop := p
theorem park {p : Prop} (h : Park p) : p := h
/-- Nothing that lay has turned, but for the blocks of q. -/
structure Turn (q : Nat → Prop) (W W' : World) : Prop where
  os : W'.os = W.os
  tape : W'.tape = W.tape
  output : W'.output = W.output
  size : W.heap.size ≤ W'.heap.size
  block : ∀ k, k < W.heap.size → ¬ q k → W'.heap[k]? = W.heap[k]?
theorem Turn.of_below {q : Nat → Prop} {B : Nat} {W W' : World} (h : Below B W W') (hB : W.heap.size ≤ B) : Turn q W W' := ⟨h.os, h.tape, h.output, h.size, fun k hk _ => h.block k (Nat.lt_of_lt_of_le hk hB)⟩
theorem Turn.refl (q : Nat → Prop) (W : World) : Turn q W W := ⟨rfl, rfl, rfl, Nat.le_refl _, fun _ _ _ => rfl⟩
theorem Turn.trans {q : Nat → Prop} {A B C : World} (h : Turn q A B) (k : Turn q B C) : Turn q A C := ⟨k.os.trans h.os, k.tape.trans h.tape, k.output.trans h.output, Nat.le_trans h.size k.size, fun i hi hq => (k.block i (Nat.lt_of_lt_of_le hi h.size) hq).trans (h.block i hi hq)⟩
theorem Turn.mono {q q' : Nat → Prop} {A B : World} (h : Turn q A B) (hq : ∀ k, q k → q' k) : Turn q' A B := ⟨h.os, h.tape, h.output, h.size, fun i hi hn => h.block i hi fun hk => hn (hq i hk)⟩
theorem Turn.below {q : Nat → Prop} {B : Nat} {A C : World} (h : Turn q A C) (hq : ∀ k, q k → B ≤ k) (hB : B ≤ A.heap.size) : Below B A C := ⟨h.os, h.tape, h.output, h.size, fun k hk => h.block k (Nat.lt_of_lt_of_le hk hB) fun hn => absurd (hq k hn) (by omega)⟩
theorem Turn.putObj {q : Nat → Prop} {W : World} {l : Nat} (o : Obj) (hl : q l) (hlt : l < W.heap.size) : Turn q W (W.putObj l o) :=
  have h := below_putObj W o (Nat.le_refl l) hlt
  ⟨h.os, h.tape, h.output, h.size, fun k _ hq => World.putObj_heap_other (fun e => hq (by rw [e]; exact hl))⟩
theorem Turn.setCell {q : Nat → Prop} (W : World) {b o : Nat} (v : Value) (hb : q b) : Turn q W (W.setCell ⟨b, o, none⟩ v) :=
  have h := (Below.refl b W).setCell (p := ⟨b, o, none⟩) (Nat.le_refl _) v
  ⟨h.os, h.tape, h.output, h.size, fun k _ hq => Below.heap_setCell _ _ _ k (fun e => hq (by rw [e]; exact hb))⟩
/-- J, of which the blocks of q are no part, does not mind what turns in q; new blocks may come to q. -/
def Abides {β : Type} (J : β → (Nat → Prop) → World → Prop) : Prop := ∀ s (q q' : Nat → Prop) W W', J s q W → Turn q W W' → (∀ k, q' k → q k ∨ W.heap.size ≤ k) → J s q' W'
theorem Abides.and {β : Type} {I J : β → (Nat → Prop) → World → Prop} (h : Abides I) (k : Abides J) : Abides (fun s q W => I s q W ∧ J s q W) := fun s q q' W W' hs ht hq => ⟨h s q q' W W' hs.1 ht hq, k s q q' W W' hs.2 ht hq⟩
theorem Abides.pure {β : Type} (f : β → Prop) : Abides (fun s _ (_ : World) => f s) := fun _ _ _ _ _ hs _ _ => hs
/-- A box that is no part of q. -/
def BoxF (A : Nat) (t : TypeId) (v : Value) (q : Nat → Prop) (W : World) : Prop := Boxed W A t v ∧ ¬ q A
theorem Abides.box {β : Type} (A : Nat) (t : TypeId) (f : β → Value) : Abides (fun s q W => BoxF A t (f s) q W) := fun s q q' W W' hs ht hq => ⟨(ht.block A hs.1.lt hs.2).trans hs.1, fun h => (hq A h).elim hs.2 fun h2 => by have := hs.1.lt; omega⟩
theorem Abides.size {β : Type} (m : Nat) : Abides (fun (_ : β) _ W => m ≤ W.heap.size) := fun _ _ _ _ _ hs ht _ => Nat.le_trans hs ht.size
/-- What lies below B has not turned since w, and is no part of q. -/
def BelowF (B : Nat) (w : World) (q : Nat → Prop) (W : World) : Prop := Below B w W ∧ B ≤ W.heap.size ∧ ∀ k, q k → B ≤ k
theorem Abides.below {β : Type} (B : Nat) (w : World) : Abides (fun (_ : β) q W => BelowF B w q W) := fun _ _ _ _ _ hs ht hq => ⟨hs.1.trans (ht.below hs.2.2 hs.2.1), Nat.le_trans hs.2.1 ht.size, fun k hk => (hq k hk).elim (hs.2.2 k) fun h => by have := hs.2.1; omega⟩
theorem Abides.weaken {β : Type} {J : β → (Nat → Prop) → World → Prop} (h : Abides J) {s : β} {q q' : Nat → Prop} {W : World} (hs : J s q W) (hq : ∀ k, q' k → q k ∨ W.heap.size ≤ k) : J s q' W := h s q q' W W hs (Turn.refl _ _) hq
/-- What an iterator promises: all of the elements come, or those up to the one at which it was told to stop. q: the blocks of its own. -/
def SeqF {α : Type} (p : Nat → Prop) (n : Nat) (P : Program) (g : Nat) (lb : Array Value) (encs : α → Array Value) (S Sp : List α → Prop) (w : World) : Prop :=
  ∀ (l : Nat) (J Jx : List α → (Nat → Prop) → World → Prop) (W : World), Below w.heap.size w W → Abides J → Abides Jx →
    (∀ pre x q W1, J pre q W1 → W.heap.size ≤ W1.heap.size → (∀ k, q k → W.heap.size ≤ k ∧ k < W1.heap.size) → Sp (pre ++ [x]) → YieldAt Fence.wide (n - 1) P l (encs x) W1 fun e W' =>
      Keeps (fun k => p k ∨ q k) W1 W' ∧ ((e = .returned (.bool true) ∧ J (pre ++ [x]) q W') ∨ (e = .returned (.bool false) ∧ Jx (pre ++ [x]) q W'))) →
    J [] (fun _ => False) W →
    CallsIn Fence.wide n P g (#[.func (.yield l) #[] #[]] ++ lb) W fun e W' => (∃ v, e = .returned v) ∧ ((∃ xs, S xs ∧ J xs (fun _ => False) W') ∨ (∃ pre, Sp pre ∧ Jx pre (fun _ => False) W'))
/-- How a round may end. -/
def postF {α : Type} (p q : Nat → Prop) (I : List α → (Nat → Prop) → World → Prop) (Ix : Code → List α → (Nat → Prop) → World → Prop) (xs : List α) (W : World) : Exit → Act → World → Prop
  | .normal, _, W' => Keeps (fun k => p k ∨ q k) W W' ∧ I xs q W'
  | .ret, _, W' => Keeps (fun k => p k ∨ q k) W W' ∧ Ix .ret xs q W'
  | .exit id, _, W' => Keeps (fun k => p k ∨ q k) W W' ∧ Ix (.exit id) xs q W'
  | _, _, _ => False
/-- A range over an iterator that has blocks of its own; the assignment may lay a block in each round. -/
theorem wpIn_range_F {α : Type} {n : Nat} {P : Program} {g : Operand} {ps : Array Tmp} {assign body : Code} {Q : Exit → Act → World → Prop} {a : Act} {w : World}
    (h1 : 1 ≤ n) {gf : Nat} {lb : Array Value} (hg : a.eval g = .func (.func gf) #[] lb) (eg : ∀ args w, (callFunc gf args).run P w = .ok (.enter gf args) w)
    {encs : α → Array Value} {p : Nat → Prop} {S Sp : List α → Prop} {w0 : World} (hseq : SeqF p (n - 1) P gf lb encs S Sp w0) (hp : ∀ k, p k → k < w.heap.size) (hb0 : Below w0.heap.size w0 w) (hps : ∀ x, (encs x).size = ps.size)
    (I : List α → (Nat → Prop) → World → Prop) (Ix : Code → List α → (Nat → Prop) → World → Prop) (hI : Abides I) (hIx : ∀ c, Abides (Ix c)) (h0 : I [] (fun _ => False) w) (Ax : α → Act → World → Prop)
    (hAx : ∀ (x : α) (a' : Act) (W : World) (o : Obj), Ax x a' W → Ax x a' (W.putObj (w.heap.size + 1) o))
    (hassign : ∀ (l : Nat) (x : α) (W : World) (K : Act → World → Prop), w.heap.size + 2 ≤ W.heap.size → (∀ a' W', Ax x a' W' → Below W.heap.size W W' → K a' W') →
      assign.wpIn (Fence.wide.inRound l) (n - 1 - 1) P (Exit.then K (fun _ _ _ => False)) { tmps := (ps.zip (encs x)).foldl (fun t (p, v) => t.setIfInBounds p v) a.tmps, defers := [] } W)
    (hbody : ∀ (l : Nat) (pre : List α) (x : α) (a' : Act) (q : Nat → Prop) (W : World), I pre q W → w.heap.size + 2 ≤ W.heap.size → (∀ k, q k → w.heap.size ≤ k ∧ k < W.heap.size) → Sp (pre ++ [x]) → Ax x a' W → body.wpIn (Fence.wide.inRound l) (n - 1 - 1) P (postF p q I Ix (pre ++ [x]) W) a' W)
    (hdone : ∀ (D : Nat) (xs : List α) (W : World), w.heap.size ≤ D → S xs → I xs (fun k => k = D) W → W.heap[D]? = some (.deferred (some [])) → Q .normal { a with defers := { target := .collected D, args := #[] } :: a.defers } W)
    (hstop : ∀ (D : Nat) (c : Code) (pre : List α) (W : World), w.heap.size ≤ D → Sp pre → Ix c pre (fun k => k = D) W → W.heap[D]? = some (.deferred (some [])) → c.wpIn Fence.wide n P Q { a with defers := { target := .collected D, args := #[] } :: a.defers } W) :
    (Code.rangeFunc g ps assign body).wpIn Fence.wide n P Q a w := by
  refine wpIn_rangeFunc fun fn hfn => ?_
  obtain ⟨rec, hrec⟩ : ∃ rec : LoopState → Option Code → Loop, rec = fun st pe => { state := st, pending := pe, fn, tmps := a.tmps, params := ps, assign, body, defers := w.heap.size } := ⟨_, rfl⟩
  have hst : ∀ st pe, (rec st pe).state = st := fun st pe => by rw [hrec]
  have hpen : ∀ st pe, (rec st pe).pending = pe := fun st pe => by rw [hrec]
  have hbusy : ∀ st pe, { rec st pe with state := .busy } = rec .busy pe := fun st pe => by rw [hrec]
  obtain ⟨W1, hW1⟩ : ∃ W1, (w.alloc (.deferred (some []))).alloc (.loop (rec .ready none)) = W1 := ⟨_, rfl⟩
  have hsz : W1.heap.size = w.heap.size + 2 := by rw [← hW1]; simp
  have hL1 : W1.heap[w.heap.size + 1]? = some (.loop (rec .ready none)) := by
    rw [← hW1]; have := World.alloc_heap_new (w.alloc (.deferred (some []))) (.loop (rec .ready none)); rwa [World.size_alloc] at this
  have hK1 : W1.heap[w.heap.size]? = some (.deferred (some [])) := by
    rw [← hW1]; exact (Below.heap_alloc _ _ _ (by simp)).trans (World.alloc_heap_new w _)
  have bW1 : Below w.heap.size w W1 := by rw [← hW1]; exact ((Below.refl _ _).alloc (Nat.le_refl _) _).alloc (by simp) _
  refine ⟨w.heap.size + 1, [{ target := .collected w.heap.size, args := #[] }], W1, { target := .fn (.func gf) lb, args := #[.func (.yield (w.heap.size + 1)) #[] #[]] }, W1, gf,
    #[.func (.yield (w.heap.size + 1)) #[] #[]] ++ lb, W1, ?_, ?_, fun _ _ => trivial, ?_, fun _ => h1, ?_⟩
  · rw [← hW1, hrec]; exact run_enterLoop_outer _ _ _ _ _
  · simp only [resolve, hg]
    simp [go_sem]
  · simp [invoke, go_sem, eg]
  · refine (hseq (w.heap.size + 1)
      (fun pre q W => I pre (fun k => q k ∨ k = w.heap.size ∨ k = w.heap.size + 1) W ∧ W.heap[w.heap.size + 1]? = some (.loop (rec .ready none)) ∧ W.heap[w.heap.size]? = some (.deferred (some [])) ∧ ¬ q (w.heap.size + 1) ∧ ¬ q w.heap.size)
      (fun pre q W => ∃ c, Ix c pre (fun k => q k ∨ k = w.heap.size ∨ k = w.heap.size + 1) W ∧ W.heap[w.heap.size + 1]? = some (.loop (rec .done (some c))) ∧ W.heap[w.heap.size]? = some (.deferred (some [])) ∧ ¬ q (w.heap.size + 1) ∧ ¬ q w.heap.size)
      W1 (hb0.trans (bW1.mono hb0.size))
      (fun s q q' A C ⟨hi, hl, hk, hq1, hq2⟩ ht hq => by
        have l1 := (Array.getElem?_eq_some_iff.1 hl).1
        refine ⟨hI s _ _ A C hi (ht.mono fun k h => .inl h) (fun k h => ?_), (ht.block _ l1 hq1).trans hl, (ht.block _ (by omega) hq2).trans hk, fun h => ?_, fun h => ?_⟩
        · rcases h with h | h
          · exact (hq k h).imp .inl id
          · exact .inl (.inr h)
        · exact (hq _ h).elim hq1 fun h => by omega
        · exact (hq _ h).elim hq2 fun h => by omega)
      (fun s q q' A C ⟨c, hi, hl, hk, hq1, hq2⟩ ht hq => by
        have l1 := (Array.getElem?_eq_some_iff.1 hl).1
        refine ⟨c, hIx c s _ _ A C hi (ht.mono fun k h => .inl h) (fun k h => ?_), (ht.block _ l1 hq1).trans hl, (ht.block _ (by omega) hq2).trans hk, fun h => ?_, fun h => ?_⟩
        · rcases h with h | h
          · exact (hq k h).imp .inl id
          · exact .inl (.inr h)
        · exact (hq _ h).elim hq1 fun h => by omega
        · exact (hq _ h).elim hq2 fun h => by omega)
      ?_ ⟨hI [] _ _ w W1 h0 (Turn.of_below bW1 (Nat.le_refl _)) (fun k h => .inr (by rcases h with h | h | h <;> first | exact h.elim | omega)), hL1, hK1, id, id⟩).mono ?_
    · rintro pre x q W ⟨hi, hl, hk, hq1, hq2⟩ - hqb hlen
      have hlt : w.heap.size + 1 < W.heap.size := (Array.getElem?_eq_some_iff.1 hl).1
      have hy := run_yield (P := P) (args := encs x) hl (by rw [hrec]; exact hps x)
      rw [hrec] at hy
      refine ⟨fn, _, assign, body, hy, roundIn_of_wpIn hfn (hassign _ x W _ (by omega) fun a' Wa hax bA => ?_)⟩
      have la : Wa.heap[w.heap.size + 1]? = some (.loop (rec .ready none)) := (bA.block _ hlt).trans hl
      have da : Wa.heap[w.heap.size]? = some (.deferred (some [])) := (bA.block _ (by omega)).trans hk
      have hlta : w.heap.size + 1 < Wa.heap.size := Nat.lt_of_lt_of_le hlt bA.size
      have hbr := run_beginRound (P := P) la (hst _ _)
      rw [hbusy] at hbr
      obtain ⟨W2, hW2⟩ : ∃ W2, Wa.putObj (w.heap.size + 1) (.loop (rec .busy none)) = W2 := ⟨_, rfl⟩
      rw [hW2] at hbr
      refine ⟨_, hbr, ?_⟩
      have t2 : Turn (fun k => q k ∨ k = w.heap.size ∨ k = w.heap.size + 1) W W2 := by rw [← hW2]; exact (Turn.of_below bA (Nat.le_refl _)).trans (Turn.putObj _ (.inr (.inr rfl)) hlta)
      have k2 : Keeps (fun k => p k ∨ q k) W W2 := by
        rw [← hW2]
        exact Keeps.trans ⟨bA.size, fun k _ hl => bA.block k hl⟩ (keeps_putObj Wa _ _ (fun h => h.elim (fun h => by have := hp _ h; omega) hq1))
      have l2 : W2.heap[w.heap.size + 1]? = some (.loop (rec .busy none)) := by rw [← hW2]; exact World.putObj_heap_same hlta
      have d2 : W2.heap[w.heap.size]? = some (.deferred (some [])) := by rw [← hW2]; exact (World.putObj_heap_other (by omega)).trans da
      have hs2 : w.heap.size + 2 ≤ W2.heap.size := Nat.le_trans (by omega) t2.size
      have ax2 : Ax x a' W2 := by rw [← hW2]; exact hAx _ _ _ _ hax
      refine wpIn_mono (hbody _ pre x a' (fun k => q k ∨ k = w.heap.size ∨ k = w.heap.size + 1) W2 (hI pre _ _ W W2 hi t2 (fun k h => .inl h)) hs2 (fun k h => ?_) hlen ax2) ?_
      · have := t2.size
        rcases h with h | h | h
        · have := hqb k h; omega
        · omega
        · omega
      have fin : ∀ (jump : Option Code) (W3 : World), Keeps (fun k => p k ∨ (q k ∨ k = w.heap.size ∨ k = w.heap.size + 1)) W2 W3 → ∃ W4,
          (Instr.endRound (w.heap.size + 1) jump).run P W3 = .ok (.bool jump.isNone) W4 ∧ Turn (fun k => q k ∨ k = w.heap.size ∨ k = w.heap.size + 1) W3 W4 ∧ Keeps (fun k => p k ∨ q k) W W4 ∧
          W4.heap[w.heap.size + 1]? = some (.loop (rec (if jump.isNone then .ready else .done) jump)) ∧ W4.heap[w.heap.size]? = some (.deferred (some [])) := fun jump W3 k3 => by
        have l3 : W3.heap[w.heap.size + 1]? = some (.loop (rec .busy none)) := (k3.2 _ (.inr (.inr (.inr rfl))) (Array.getElem?_eq_some_iff.1 l2).1).trans l2
        have d3 : W3.heap[w.heap.size]? = some (.deferred (some [])) := (k3.2 _ (.inr (.inr (.inl rfl))) (Array.getElem?_eq_some_iff.1 d2).1).trans d2
        have hl3 := (Array.getElem?_eq_some_iff.1 l3).1
        have he := run_endRound (P := P) jump l3
        rw [hrec] at he
        refine ⟨W3.putObj (w.heap.size + 1) (.loop (rec (if jump.isNone then .ready else .done) jump)), ?_, Turn.putObj _ (.inr (.inr rfl)) hl3, ?_, World.putObj_heap_same hl3, (World.putObj_heap_other (by omega)).trans d3⟩
        · rw [hrec]; exact he
        · exact (k2.trans (k3.weaken fun k h => h.imp id .inl)).trans (keeps_putObj W3 _ _ (fun h => h.elim (fun h => by have := hp _ h; omega) hq1))
      rintro e a3 W3 hpost
      cases e with
      | normal =>
        obtain ⟨k3, hi3⟩ := hpost
        obtain ⟨W4, hr, b4, k4, l4, d4⟩ := fin none W3 k3
        exact ⟨_, _, hr, k4, .inl ⟨rfl, ⟨hI _ _ _ _ _ hi3 b4 (fun k h => .inl h), l4, d4, hq1, hq2⟩⟩⟩
      | ret =>
        obtain ⟨k3, hi3⟩ := hpost
        obtain ⟨W4, hr, b4, k4, l4, d4⟩ := fin (some .ret) W3 k3
        exact ⟨_, _, hr, k4, .inr ⟨rfl, .ret, hIx _ _ _ _ _ _ hi3 b4 (fun k h => .inl h), l4, d4, hq1, hq2⟩⟩
      | exit id =>
        obtain ⟨k3, hi3⟩ := hpost
        obtain ⟨W4, hr, b4, k4, l4, d4⟩ := fin (some (.exit id)) W3 k3
        exact ⟨_, _, hr, k4, .inr ⟨rfl, .exit id, hIx _ _ _ _ _ _ hi3 b4 (fun k h => .inl h), l4, d4, hq1, hq2⟩⟩
      | goto t => exact hpost.elim
      | panic ch => exact hpost.elim
      | outgrown => exact hpost.elim
    · rintro e W2 ⟨⟨v, rfl⟩, (⟨xs, hS, hi, hl, hk, -, -⟩ | ⟨pre, hSp, c, hi, hl, hk, -, -⟩)⟩
      · have hlt := (Array.getElem?_eq_some_iff.1 hl).1
        have he := run_endLoop (P := P) hl (by rw [hst]; simp)
        rw [hpen] at he
        refine ⟨none, _, he, hdone _ xs _ (Nat.le_refl _) hS (hI _ _ _ _ _ hi (Turn.putObj _ (.inr (.inr rfl)) hlt) (fun k h => .inl (.inr (.inl h)))) ((World.putObj_heap_other (by omega)).trans hk)⟩
      · have hlt := (Array.getElem?_eq_some_iff.1 hl).1
        have he := run_endLoop (P := P) hl (by rw [hst]; simp)
        rw [hpen] at he
        refine ⟨some c, _, he, hstop _ c pre _ (Nat.le_refl _) hSp (hIx c _ _ _ _ _ hi (Turn.putObj _ (.inr (.inr rfl)) hlt) (fun k h => .inl (.inr (.inl h)))) ((World.putObj_heap_other (by omega)).trans hk)⟩
/-- A function that ranges over one function leaves: its mark is taken. -/
theorem leaves_one {F : Fence} {n : Nat} {P : Program} {fn : Func} {tmps : Array Value} {R : Ending → World → Prop} {D : Nat} {W : World} (hK : W.heap[D]? = some (.deferred (some [])))
    (h : ∀ W', Turn (fun k => k = D) W W' → (∀ (k : Nat) c t f, W.heap[k]? = some (Obj.cells c t f) → W'.heap[k]? = some (Obj.cells c t f)) → LeavesIn F n P fn tmps R [] .returning W') : LeavesInM F n P fn tmps R [{ target := .collected D, args := #[] }] .returning W :=
  ⟨by simp, .inl ⟨_, _, rfl, run_takeDeferred hK, h _ (Turn.putObj _ rfl (Array.getElem?_eq_some_iff.1 hK).1) ((Shut.putObj W (Nat.le_refl D) hK rfl rfl).2)⟩⟩
theorem heap_at (W : World) (o : Obj) (k : Nat) : (W.alloc o).heap[k]? = if k = W.heap.size then some o else W.heap[k]? := by
  by_cases h : k = W.heap.size
  · subst h; rw [if_pos rfl]; exact World.alloc_heap_new W o
  · rw [if_neg h]
    by_cases hk : k < W.heap.size
    · exact Below.heap_alloc _ _ _ hk
    · rw [show (W.alloc o).heap[k]? = none from Array.getElem?_eq_none (by rw [World.size_alloc]; omega), show W.heap[k]? = none from Array.getElem?_eq_none (by omega)]
/-- A block that holds two numbers. -/
def Box2 (W : World) (B : Nat) (t : TypeId) (l v : Int) : Prop := W.heap[B]? = some (.cells #[.int .i64 l, .int .i64 v] t (0, 0))
section
variable {W W' : World} {B : Nat} {t : TypeId} {l v : Int}
theorem Box2.lt (h : Box2 W B t l v) : B < W.heap.size := (Array.getElem?_eq_some_iff.1 h).1
theorem Box2.cell0 (h : Box2 W B t l v) : W.cell? ⟨B, 0, none⟩ = some (.int .i64 l) := by simp [World.cell?, show W.heap[B]? = _ from h]
theorem Box2.cell1 (h : Box2 W B t l v) : W.cell? ⟨B, 1, none⟩ = some (.int .i64 v) := by simp [World.cell?, show W.heap[B]? = _ from h]
theorem Box2.frozen0 (h : Box2 W B t l v) : W.frozen? ⟨B, 0, none⟩ = false := by simp [World.frozen?, show W.heap[B]? = _ from h]
theorem Box2.frozen1 (h : Box2 W B t l v) : W.frozen? ⟨B, 1, none⟩ = false := by simp [World.frozen?, show W.heap[B]? = _ from h]
theorem Box2.new (W : World) (t : TypeId) (l v : Int) : Box2 (W.alloc (.cells #[.int .i64 l, .int .i64 v] t)) W.heap.size t l v := World.alloc_heap_new W _
theorem Box2.kept {row : Option Nat} (h : Box2 W B t l v) (hg : W.grownBy W' row) (hne : some B ≠ row) : Box2 W' B t l v := (hg.block B h.lt hne).trans h
theorem Box2.alloc (h : Box2 W B t l v) (o : Obj) : Box2 (W.alloc o) B t l v := h.kept (World.grownBy_alloc W o none) (by simp)
theorem Box2.below {n : Nat} (h : Box2 W B t l v) (hb : Below n W W') (hB : B < n) : Box2 W' B t l v := (hb.block B hB).trans h
theorem Box2.keeps {p : Nat → Prop} (h : Box2 W B t l v) (hk : Keeps p W W') (hB : p B) : Box2 W' B t l v := (hk.2 B hB h.lt).trans h
theorem Box2.put (h : Box2 W B t l v) (k : Nat) (o : Obj) (hk : B ≠ k) : Box2 (W.putObj k o) B t l v := (World.putObj_heap_other hk).trans h
theorem heap_set {c : Array Value} {f : Nat × Nat} (o : Nat) (u : Value) (h : W.heap[B]? = some (.cells c t f)) : (W.setCell ⟨B, o, none⟩ u).heap[B]? = some (.cells (c.setIfInBounds o u) t f) := by
  obtain ⟨hlt, hk⟩ := Array.getElem?_eq_some_iff.1 h
  show (W.heap.modify B _)[B]? = _
  rw [Array.getElem?_eq_getElem (by rw [Array.size_modify]; exact hlt), Array.getElem_modify_self, hk]
  rfl
theorem Box2.set (x y : Int) (h : Box2 W B t l v) : Box2 ((W.setCell ⟨B, 0, none⟩ (.int .i64 x)).setCell ⟨B, 1, none⟩ (.int .i64 y)) B t x y := heap_set 1 _ (heap_set 0 _ h)
end
theorem round_in {m m' : Nat} {l l2 fn : Nat} {P : Program} {tmps : Array Value} {assign body : Code} {W : World} {R : Ending → World → Prop} (h : RoundIn Fence.wide m P l fn tmps assign body W R) : RoundIn (Fence.wide.inRound l2) m' P l fn tmps assign body W R := ⟨trivial, fun c cs _ => h.2 c cs (by simp [Fence.room, Fence.wide])⟩
/-- Two numbers in a box that is no part of q. -/
theorem Abides.box2 {β : Type} (A : Nat) (t : TypeId) (f g : β → Int) : Abides (fun s q W => Box2 W A t (f s) (g s) ∧ ¬ q A) := fun s q q' W W' hs ht hq => ⟨(ht.block A hs.1.lt hs.2).trans hs.1, fun h => (hq A h).elim hs.2 fun h2 => by have := hs.1.lt; omega⟩
theorem Under.box2 {β : Type} {B A : Nat} {t : TypeId} (f g : β → Int) (hA : A < B) : Under B (fun s W => Box2 W A t (f s) (g s)) := fun _ _ _ hs hb => (hb.block A hA).trans hs
end Go.Proofs.YtohdgjmmekgcmaaDoor

/-
  append of a slice of numbers, nil or not, to a row of the call's own.
-/
namespace Go.Proofs.YtohdgjmmekgcmaaDoor
open Go.RowKit

/-- Numbers as values. -/
def valsOf (k : IntKind) (l : List Nat) : List Value := l.map fun y : Nat => Value.int k (y : Nat)
theorem valsOf_length (k : IntKind) (l : List Nat) : (valsOf k l).length = l.length := by simp [valsOf]
theorem valsOf_append (k : IntKind) (a b : List Nat) : valsOf k (a ++ b) = valsOf k a ++ valsOf k b := by simp [valsOf]
theorem valsOf_one (k : IntKind) (l : List Nat) : ∀ u ∈ valsOf k l, u.oneCell' = true := by simp [valsOf, Value.oneCell']
theorem valsOf_set (k : IntKind) (l : List Nat) (i x : Nat) : valsOf k (l.set i x) = (valsOf k l).set i (.int k (x : Nat)) := by simp [valsOf, List.map_set]
theorem wpList_append_sl {P : Program} (w : World) {ops : Array Oper} {rest : List Oper} {o : Oper} {a : Act} {Q : Exit → Act → World → Prop}
    (hw : Region.wanted o (yielded ops a.tmps) = true) (s x : Operand) (t : TypeId) (hop : o.op = Op.call { callee := Callee.builtin Builtin.append, args := #[s, x], argTypes := #[t, t] })
    (base : Nat) (e : TypeId) (i : TypeInfo) (z : Value) (bytes : Nat) (k : IntKind) (h1 : P.underlying t = some (.slice e)) (h2 : P.info? e = some i) (h3 : i.zero = some z) (h4 : i.size = 1) (h5 : i.bytes = bytes) (h6 : z.cells.size = 1)
    (v : Value) (ys : List Nat) (hs : a.eval s = v) (hown : w.ownsRow base e 1 v ys.length (valsOf k ys)) (u : Value) (xs : List Nat) (hx : a.eval x = u) (hsl : Sl w k u xs)
    (b1 : ys.length + xs.length ≤ maxLen) (b2 : (ys.length + xs.length) * bytes ≤ 140737488355328) (b3 : base ≤ w.heap.size)
    (hK : ∀ v' w', w'.ownsRow base e 1 v' (ys ++ xs).length (valsOf k (ys ++ xs)) → w.grownBy w' v.ownBlock → (v'.ownBlock = v.ownBlock ∨ v'.ownBlock = some w.heap.size) → wpList P ops Q rest (a.put o.dst v') w') :
    wpList P ops Q (o :: rest) a w := by
  obtain ⟨ad, cap, rfl, hlc, hc⟩ := hsl
  refine BigFrame.wpList_want hw fun K hK' => ?_
  unfold Oper.wp execOp
  simp only [hop, resolve, invoke, builtin, Sem.run_bind, Sem.run_pure, Result.andThen_ok, List.map_toArray, List.map_cons, List.map_nil, hs, hx]
  rcases ad with _ | ad
  · have h0 : xs = [] := by
      rcases Nat.eq_zero_or_pos xs.length with h | h
      · exact List.eq_nil_of_length_eq_zero h
      · obtain ⟨b, off, hh, _⟩ := hc h
        cases hh
    subst h0
    have hrun : (Builtin.append_ #[t, t] o.type #[v, .slice none 0 cap]).run P w = .ok v w := by
      rcases hown.2 with ⟨rfl, e0⟩ | ⟨g, c, cur, rfl, _, _, hnc, _⟩
      · simp [Builtin.append_, run_underlying h1, sizeOf, typeInfo, h2, Builtin.lenOf, Builtin.firstCells]
      · simp [Builtin.append_, run_underlying h1, sizeOf, typeInfo, h2, Builtin.lenOf, Builtin.firstCells, hnc, storeCells]
    rw [show (([] : List Nat).length) = 0 from rfl, hrun]
    exact hK' _ _ (hK v w (by simpa using hown) (World.grownBy.refl w _) (.inl rfl))
  · have hcells : ∀ j y, (valsOf k xs)[j]? = some y → w.cell? (ad.add j) = some y := fun j y hy => by
      have hj : j < xs.length := by
        have := (List.getElem?_eq_some_iff.1 hy).1
        rwa [valsOf_length] at this
      obtain ⟨b, off, hh, _, hcell⟩ := hc (by omega)
      simp only [Option.some.injEq] at hh
      subst hh
      have e1 : (⟨b, off, none⟩ : Addr).add j = ⟨b, off + j, none⟩ := by
        unfold Addr.add; split <;> simp_all
      rw [e1, hcell j hj, ← hy]
      simp [valsOf, hj]
    obtain ⟨v', w', hrun, r1, r2, _, r3⟩ := run_append_own_at (P := P) w base t o.type e i z 1 bytes h1 h2 h3 h4 h5 h6 (by decide) v ys.length (valsOf k ys) hown ad xs.length cap (valsOf k xs) (by rw [valsOf_length, Nat.mul_one]) hcells (valsOf_one k xs) b1 b2 b3
    rw [hrun]
    exact hK' _ _ (hK v' w' (by rw [List.length_append, valsOf_append]; exact r1) r2 r3)
theorem ownsRow_set {w : World} {base g n cap j : Nat} {e : TypeId} {xs : List Value} (h : w.ownsRow base e 1 (.slice (some ⟨g, 0, none⟩) n cap) n xs) (u : Value) :
    (w.setCell ⟨g, j, none⟩ u).ownsRow base e 1 (.slice (some ⟨g, 0, none⟩) n cap) n (xs.set j u) := by
  obtain ⟨hl, h⟩ := h
  rcases h with ⟨e0, _⟩ | ⟨g', cap', cur, e0, hb, hg, hn, hm, hs, ht⟩
  · cases e0
  · injection e0 with e1 _ e3
    injection e1 with e1
    injection e1 with e1
    subst e1; subst e3
    refine ⟨by simpa using hl, .inr ⟨g, cap, cur.setIfInBounds j u, rfl, hb, ?_, hn, hm, by simpa using hs, ?_⟩⟩
    · simp [World.setCell, Array.getElem?_modify, hg]
    · rw [← ht, Array.toList_setIfInBounds, List.take_set]
theorem ownsRow_lt {w : World} {base g n cap : Nat} {e : TypeId} {xs : List Value} (h : w.ownsRow base e 1 (.slice (some ⟨g, 0, none⟩) n cap) n xs) : base ≤ g ∧ g < w.heap.size := h.lt g rfl
/-- What a value that owns numbers looks like. -/
theorem own_form {w : World} {base : Nat} {e : TypeId} {v : Value} {k : IntKind} {xs : List Nat} (h : w.ownsRow base e 1 v xs.length (valsOf k xs)) (hn : 0 < xs.length) : ∃ g cap, v = .slice (some ⟨g, 0, none⟩) xs.length cap ∧ base ≤ g ∧ g < w.heap.size ∧ xs.length ≤ cap := by
  rcases h.2 with ⟨_, h0⟩ | ⟨g, cap, cur, rfl, hb, hg, hc, _⟩
  · omega
  · exact ⟨g, cap, rfl, hb, (Array.getElem?_eq_some_iff.1 hg).1, hc⟩
theorem own_cell {w : World} {base g cap : Nat} {e : TypeId} {k : IntKind} {xs : List Nat} (h : w.ownsRow base e 1 (.slice (some ⟨g, 0, none⟩) xs.length cap) xs.length (valsOf k xs)) (j : Nat) (hj : j < xs.length) : w.cell? ⟨g, j, none⟩ = some (.int k (xs[j]?.getD 0 : Nat)) := by
  rw [World.ownsRow.cellAt h j (by omega)]
  simp [valsOf, hj]
theorem own_set {w : World} {base g cap : Nat} {e : TypeId} {k : IntKind} {xs : List Nat} (h : w.ownsRow base e 1 (.slice (some ⟨g, 0, none⟩) xs.length cap) xs.length (valsOf k xs)) (j z : Nat) :
    (w.setCell ⟨g, j, none⟩ (.int k (z : Nat))).ownsRow base e 1 (.slice (some ⟨g, 0, none⟩) (xs.set j z).length cap) (xs.set j z).length (valsOf k (xs.set j z)) := by
  rw [valsOf_set, List.length_set]
  exact ownsRow_set h _
theorem own_sl {w : World} {base : Nat} {e : TypeId} {v : Value} {k : IntKind} {xs : List Nat} (h : w.ownsRow base e 1 v xs.length (valsOf k xs)) : Sl w k v xs := sl_of_owns h
end Go.Proofs.YtohdgjmmekgcmaaDoor
