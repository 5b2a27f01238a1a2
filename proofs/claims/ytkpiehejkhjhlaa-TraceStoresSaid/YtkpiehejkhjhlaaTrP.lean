/-
  trace: unkept, and what it tells.
-/
import Derived.Test.YtkpiehejkhjhlaaTrO
import Derived.Maps.OwnOps
namespace Go.Proofs.Ytkpiehejkhjhlaa
open Go.RowKit Go.Shelf Go.Maps

/-- A map of numbers, by what it has. -/
def NumMap (e : TypeId) (q : IntKind) (W : World) (b n : Nat) (f : Int → Option Int) : Prop :=
  ∃ D : DataW Unit, W.ownsMap Try.prog 3 (plainElem Try.prog e) b n D ∧ ∀ x : Int, Maps.has D (.int .i64 x) = (f x).isSome ∧ D.atKey (.int .i64 x) (.lit (.int q 0)) = .lit (.int q ((f x).getD 0))
theorem ownsMapE_below {W W' : World} {R : Value → Option (DataW Unit × List MemPlace)} {b n : Nat} {D : DataW Unit} (h : W.ownsMap Try.prog 3 R b n D) (hb : Below W.heap.size W W') : W'.ownsMap Try.prog 3 R b n D := ownsMap_below h hb
theorem NumMap.below {e : TypeId} {q : IntKind} {W W' : World} {b n : Nat} {f : Int → Option Int} (h : NumMap e q W b n f) (hb : Below W.heap.size W W') : NumMap e q W' b n f := by
  obtain ⟨D, h1, h2⟩ := h
  exact ⟨D, ownsMap_below h1 hb, h2⟩
theorem NumMap.mono {e : TypeId} {q : IntKind} {W : World} {b n n' : Nat} {f : Int → Option Int} (h : NumMap e q W b n f) (hn : n ≤ n') : NumMap e q W b n' f := by
  obtain ⟨D, h1, h2⟩ := h
  exact ⟨D, h1.mono hn, h2⟩
theorem NumMap.keep {e : TypeId} {q : IntKind} {W W' : World} {b n : Nat} {f : Int → Option Int} (h : NumMap e q W b n f) (hb : W'.heap[b]? = W.heap[b]?) : NumMap e q W' b n f := by
  obtain ⟨D, ⟨es, clock, hm, r⟩, h2⟩ := h
  exact ⟨D, ⟨es, clock, hb.trans hm, r⟩, h2⟩
theorem NumMap.lt {e : TypeId} {q : IntKind} {W : World} {b n : Nat} {f : Int → Option Int} (h : NumMap e q W b n f) : b < W.heap.size := by
  obtain ⟨D, h1, _⟩ := h
  exact h1.lt
theorem NumMap.new (e : TypeId) (q : IntKind) (W : World) : NumMap e q (W.alloc (.map #[] 0)) W.heap.size 0 (fun _ => none) :=
  ⟨.map [], World.ownsMap_made W _ _ _, fun _x => ⟨rfl, rfl⟩⟩
/-- A function, elsewhere at one place. -/
def upd (f : Int → Option Int) (y z : Int) : Int → Option Int := fun x => if x = y then some z else f x
/-- Is such a number one of 64 bits? -/
def in64 (x : Int) : Prop := -9223372036854775808 ≤ x ∧ x ≤ 9223372036854775807
theorem key64 {y : Int} (hy : in64 y) : keyOf Try.prog 3 (.int .i64 y) = some (.int .i64 y) :=
  keyOf_int_mk (P := Try.prog) (k := 3) (q := .i64) Try.underlying3 (a := y) (by unfold in64 at hy; simp [Lit.wf, IntKind.min, IntKind.max, IntKind.signed, IntKind.bits]; omega)
theorem NumMap.store {e t : TypeId} {q : IntKind} {W : World} {b n : Nat} {f : Int → Option Int} (h : NumMap e q W b n f) (ht : Try.prog.underlying t = some (.map 3 e)) (he : Try.prog.underlying e = some (.int q)) (hn : n < 100000) {y z : Int} (hy : in64 y) (hz : (Lit.int q z).wf = true) :
    ∃ W', (Instr.mapUpdate t (.map (some b)) (.int .i64 y) (.int q z)).run Try.prog W = .ok () W' ∧ NumMap e q W' b (n + 1) (upd f y z) ∧ W.grownBy W' (some b) := by
  obtain ⟨D, h1, h2⟩ := h
  obtain ⟨W', r1, r2, r3⟩ := h1.store keyed_int ht (by unfold maxLen; omega) (key64 hy) (plainElem_int (H := Unit) he hz)
  refine ⟨W', r1, ⟨_, r2, fun x => ?_⟩, r3.grown⟩
  unfold upd
  by_cases hx : x = y
  · subst hx
    rw [Maps.has_put_same h1.isMap (show WideAt.IsKeyLit (.int .i64 x) from trivial), Maps.atKey_put_same h1.isMap (show WideAt.IsKeyLit (.int .i64 x) from trivial), if_pos rfl]
    exact ⟨rfl, rfl⟩
  · rw [Maps.has_put_other (fun e => hx (by simpa using e)), Maps.atKey_put_other (fun e => hx (by simpa using e)), if_neg hx]
    exact h2 x
theorem NumMap.look {e t : TypeId} {q : IntKind} {W : World} {b n : Nat} {f : Int → Option Int} (h : NumMap e q W b n f) (ht : Try.prog.underlying t = some (.map 3 e)) (he : Try.prog.underlying e = some (.int q)) (hz : ∀ w, (zeroValue e).run Try.prog w = .ok (.int q 0) w) {y : Int} (hy : in64 y) :
    (Instr.lookup t (.map (some b)) (.int .i64 y) false).run Try.prog W = .ok (.int q ((f y).getD 0)) W := by
  obtain ⟨D, h1, h2⟩ := h
  obtain ⟨c, r1, r2, _⟩ := h1.lookup_int keyed_int ht he (hz W) (key64 hy)
  rw [(h2 y).2] at r2
  simp only [DataW.lit.injEq, Lit.int.injEq, true_and] at r2
  rw [r1, r2]
/-- A touch of numbers that may be. -/
def okT (t : Tch) : Prop := in64 t.at_ ∧ 0 ≤ t.word ∧ t.word ≤ 18446744073709551615
theorem in64_line {t : Tch} (h : okT t) : in64 (lineT t) := by
  have h := h.1
  unfold in64 at *
  unfold lineT
  by_cases h3 : t.kind = 3
  · rw [if_pos h3]; exact h
  · rw [if_neg h3]
    have e : (t.at_.tdiv 8).natAbs = t.at_.natAbs / 8 := Int.natAbs_tdiv t.at_ 8
    omega
/-- What unkept has behind so many touches: of each line, where it is flushed first behind its last store (N: not); where the last fence is. -/
structure Uk where
  fl : Int → Option Int
  fence : Int
def ukStep (N : Int) (i : Nat) (s : Uk) (t : Tch) : Uk :=
  if t.kind = 2 then { s with fl := upd s.fl (lineT t) N }
  else if t.kind = 3 then (if (s.fl (lineT t)).getD 0 = N then { s with fl := upd s.fl (lineT t) i } else s)
  else if t.kind = 4 then { s with fence := i } else s
def ukAt (N : Int) (ts : List Tch) : Nat → Uk
  | 0 => ⟨fun _ => none, -1⟩
  | k + 1 => match ts[k]? with | some t => ukStep N k (ukAt N ts k) t | none => ukAt N ts k
theorem ukAt_succ {N : Int} {ts : List Tch} {k : Nat} {t : Tch} (h : ts[k]? = some t) : ukAt N ts (k + 1) = ukStep N k (ukAt N ts k) t := by
  show (match ts[k]? with | some t => ukStep N k (ukAt N ts k) t | none => ukAt N ts k) = _
  rw [h]
/-- In the rounds of unkept. -/
structure UkI (w : World) (k : Nat) (s : Uk) (wr : World) : Prop where
  map : NumMap 3 .i64 wr (w.heap.size + 1) k s.fl
  fence : Boxed wr w.heap.size 3 (.int .i64 s.fence)
  box : Boxed wr (w.heap.size + 2) 74 (.map (some (w.heap.size + 1)))
  below : Below w.heap.size w wr
theorem UkI.turn {w wr W : World} {k : Nat} {s : Uk} (h : UkI w k s wr) (hb : Below wr.heap.size wr W) : UkI w k s W :=
  ⟨h.map.below hb, (hb.block _ h.fence.lt).trans h.fence, (hb.block _ h.box.lt).trans h.box, h.below.trans (hb.mono h.below.size)⟩
theorem UkI.mono {w wr : World} {k k' : Nat} {s : Uk} (h : UkI w k s wr) (hk : k ≤ k') : UkI w k' s wr := ⟨h.map.mono hk, h.fence, h.box, h.below⟩
theorem UkI.stored {w wr W : World} {k : Nat} {s : Uk} {f : Int → Option Int} (h : UkI w k s wr) (hm : NumMap 3 .i64 W (w.heap.size + 1) (k + 1) f) (hg : wr.grownBy W (some (w.heap.size + 1))) : UkI w (k + 1) { s with fl := f } W :=
  ⟨hm, (hg.block _ h.fence.lt (by simp)).trans h.fence, (hg.block _ h.box.lt (by simp)).trans h.box, below_grown h.below hg (by omega) h.below.size⟩
theorem UkI.fenced {w wr : World} {k : Nat} {s : Uk} (h : UkI w k s wr) (i : Int) : UkI w k { s with fence := i } (wr.setCell ⟨w.heap.size, 0, none⟩ (.int .i64 i)) :=
  ⟨h.map.keep (Below.heap_setCell _ _ _ _ (by simp)), h.fence.set _, (Below.heap_setCell _ _ _ _ (by simp)).trans h.box, h.below.setCell (p := ⟨w.heap.size, 0, none⟩) (Nat.le_refl _) _⟩
end Go.Proofs.Ytkpiehejkhjhlaa
