/-
  Texts HeldP to PoB, as one.
-/
import Derived.Test.YtohdgjmmekgcmaaDoorMg16
import Derived.Maps.OwnOps
import Derived.Test.YtohdgjmmekgcmaaDoorRows
import Derived.WalkKit
import Derived.ProofKit
import Derived.OpenShut
import Derived.Below
import Derived.Carry
import Derived.Deep.DeepHandedRow
import Derived.Deep.DeepWitnessRowRef
import Derived.Lib.LaidTab
import Derived.LaidSub
import Derived.Lib.SmallJoins
import Derived.SizedLaws
import Derived.ChangeSlices
import Derived.Deep.Slices
/-
  A region that draws its order: what reads no world at all comes first, whether the operation that waits for others waits for it or not.
-/
namespace Go.Proofs.YtohdgjmmekgcmaaDoor
open Go.RowKit Go.Shelf

section
variable {P : Program} {md : Region.Mode} {ops : Array Oper} {Q : Exit → Act → World → Prop} {m : Nat} {R : World → Prop}
theorem wpAnyM_firstP {i : Nat} {oi : Oper} {v : Value} (hi : ops[i]? = some oi) (hsel : ∀ (j : Nat) (o : Oper) cs b, ops[j]? = some o → o.op ≠ .select cs b)
    (hQ : ∀ c a w, Q (.panic c) (a.put oi.dst v) w → Q (.panic c) a w) (hmi : m ≠ i) : ∀ (f : Nat) (l : Array Bool) (a : Act) (w : World),
      (∀ j oj, ops[j]? = some oj → j ≠ i → l.getD j true = false → (∀ e ∈ oj.after, Region.binds md e = true → e.on ≠ i) → oi.apart ops oj = true) →
      i ∈ Region.ready md ops l → Yields P ops oi v a → Till m R l w →
      wpAnyM P md ops Q m R f (l.setIfInBounds i true) (a.put oi.dst v) w → wpAnyM P md ops Q m R (f + 1) l a w
  | f, l, a, w, hfree, hr, hy, hT, H => by
    have hil := (mem_ready.1 hr).1
    refine ⟨fun h => (by rw [h] at hr; cases hr), fun j hj => ?_⟩
    by_cases hji : j = i
    · subst hji
      exact hy.wpOp hi ⟨hT.set _, H⟩
    · have hrj := ready_mono hj hji
      cases f with
      | zero =>
        have h0 := H.1
        rw [h0] at hrj
        cases hrj
      | succ f =>
        obtain ⟨hjun, oj, hoj, -⟩ := mem_ready.1 hj
        have hnot := unlisted_not hj hoj hil
        have h2 := wpOp_put hoj (hfree j oj hoj hji hjun hnot) (fun cs b => hsel i oi cs b hi) (fun cs b => hsel j oj cs b hoj) hQ hy (H.2 j hrj)
        refine wpOp_mono (fun a' w' h3 => ?_) h2
        obtain ⟨hya, hTa, hMa⟩ := h3
        have hT2 : Till m R (l.setIfInBounds j true) w' := fun hl => hTa (by
          rw [Array.setIfInBounds_comm _ _ (Ne.symm hji), getD_set_ne true (Ne.symm hmi)]
          exact hl)
        refine ⟨hT2, wpAnyM_firstP hi hsel hQ hmi f (l.setIfInBounds j true) a' w' (fun k ok hk hki hku hno => ?_) (ready_mono hr (Ne.symm hji)) hya hT2 ?_⟩
        · exact hfree k ok hk hki (getD_set_true hku) hno
        · rw [Array.setIfInBounds_comm _ _ hji]; exact hMa
/-- Number i, which reads no world, comes first. -/
theorem wpAnyM_pure {i : Nat} {oi : Oper} {v : Value} {f : Nat} {l : Array Bool} {a : Act} {w : World} (hi : ops[i]? = some oi) (hs : Region.noSelect ops = true)
    (hc : (Region.free md ops l i && (Region.ready md ops l).contains i && (m != i)) = true)
    (hQ : ∀ c a w, Q (.panic c) (a.put oi.dst v) w → Q (.panic c) a w) (hy : Yields P ops oi v a) (hw : R w)
    (h : wpAnyM P md ops Q m R f (l.setIfInBounds i true) (a.put oi.dst v) w) : wpAnyM P md ops Q m R (f + 1) l a w := by
  simp only [Bool.and_eq_true, bne_iff_ne, ne_eq] at hc
  obtain ⟨⟨h1, h2⟩, h3⟩ := hc
  exact wpAnyM_firstP hi (Region.noSelect_spec hs) hQ h3 f l a w (Region.free_spec hi h1) (by simpa using h2) hy (fun _ => hw) h
/-- Of two that are ready either may come (inside a fence). -/
theorem wpAnyN_two {Fc : Fence} {n : Nat} {i j : Nat} {oi oj : Oper} {f : Nat} {l : Array Bool} {a : Act} {w : World} (hi : ops[i]? = some oi) (hj : ops[j]? = some oj) (hr : Region.ready md ops l = [i, j])
    (hgi : Region.wanted oi (yielded ops a.tmps) = true) (hgj : Region.wanted oj (yielded ops a.tmps) = true)
    (h : ∀ K : Act → World → Prop, (∀ a' w', ((l.setIfInBounds i true).getD m true = false → R w') → wpAnyN Fc n P md ops Q m R f (l.setIfInBounds i true) a' w' → K a' w') → Oper.wpIn Fc n P oi a w K Q)
    (h' : ∀ K : Act → World → Prop, (∀ a' w', ((l.setIfInBounds j true).getD m true = false → R w') → wpAnyN Fc n P md ops Q m R f (l.setIfInBounds j true) a' w' → K a' w') → Oper.wpIn Fc n P oj a w K Q) : wpAnyN Fc n P md ops Q m R (f + 1) l a w := by
  refine ⟨fun h0 => (by rw [h0] at hr; cases hr), fun k hk => ?_⟩
  rw [hr] at hk
  rcases (by simpa using hk : k = i ∨ k = j) with rfl | rfl
  · unfold wpOpIn
    simp only [hi]
    rw [if_pos hgi]
    exact h _ fun a' w' h1 h2 => ⟨h1, h2⟩
  · unfold wpOpIn
    simp only [hj]
    rw [if_pos hgj]
    exact h' _ fun a' w' h1 h2 => ⟨h1, h2⟩
end
end Go.Proofs.YtohdgjmmekgcmaaDoor

/-
  The walk of the law PmemAll.
-/
namespace Go.Proofs.YtohdgjmmekgcmaaDoor
open Go.RowKit Go.Shelf

/-- In the rounds of a law that plays calls. -/
def PlayI (w : World) (n B : Nat) (d : Dv) (wr : World) : Prop := DevIn wr w.heap.size n B d ∧ Below w.heap.size w wr
/-- An element of a list of calls, loaded. -/
theorem load_ask {W : World} {b off k : Nat} {x : Ask} {m : Value} (h : W.rangeAt b (off + k * 6) (askA x m).toList) : (Instr.loadAt 26 (.pointer (some ⟨b, off + k * 6, none⟩))).run Tryd.prog W = .ok (.agg (askA x m)) W :=
  run_loadAt_mid W b (off + k * 6) 26 _ _ h Tryd.underlying26 rfl (by kernel_rfl)
/-- The calls of a list, one by one, wherever the walk stands. -/
theorem ask_at {w : World} {a : Option Addr} {cap N : Nat} {xs : List Ask} (hN : xs.length = N) (hs : SlA w (fun k => w.heap.size ≤ k) (.slice a N cap) xs) (k : Nat) (hk : k < N) :
    ∃ b off m y, y ∈ xs ∧ a = some ⟨b, off, none⟩ ∧ ∀ W, Below w.heap.size w W → W.rangeAt b (off + k * 6) (askA y m).toList ∧ SlB W (fun k => w.heap.size ≤ k) m y.marks := by
  subst hN
  obtain ⟨a', cap', e, hc⟩ := hs
  simp only [Value.slice.injEq, true_and] at e
  obtain ⟨rfl, rfl⟩ := e
  obtain ⟨b, off, ha, hb, -, hj⟩ := hc (by omega)
  obtain ⟨m, h1, h2⟩ := hj k hk
  exact ⟨b, off, m, xs[k], List.getElem_mem hk, ha, fun W hW => ⟨fun j v hv => (World.cell?_of_block (a := ⟨b, off + k * 6 + j, none⟩) (hW.block b hb)).trans (h1 j v hv), h2.low hW⟩⟩
theorem few_marks {xs : List Ask} {most : Int} (h : fewA xs most = true) {y : Ask} (hy : y ∈ xs) : y.marks.length ≤ 60 := by
  unfold fewA at h
  rw [Bool.and_eq_true] at h
  exact of_decide_eq_true (List.all_eq_true.1 h.1 y hy)
end Go.Proofs.YtohdgjmmekgcmaaDoor

/-
  PmemHolds: blocks of eight words compared; the crash; the ends.
-/
namespace Go.Proofs.YtohdgjmmekgcmaaDoor
open Go.RowKit Go.Shelf

def q8Vals (L : List Int) : List Value := L.map (Value.int .u64)
theorem q8All_range : ∀ (xs ys : List Int), xs.length = ys.length → ((List.range xs.length).all fun i => xs.getD i 0 == ys.getD i 0) = (xs == ys)
  | [], [], _ => rfl
  | x :: xs, y :: ys, h => by
    have ih := q8All_range xs ys (by simpa using h)
    rw [List.length_cons, List.range_succ_eq_map, List.all_cons, List.all_map]
    simp only [List.getD_cons_zero, Function.comp_def, List.getD_cons_succ, ih]
    simp [List.cons_beq_cons]
  | [], _ :: _, h => by simp at h
  | _ :: _, [], h => by simp at h
theorem q8Eq_items {P : Program} (d : Nat) (e : TypeId) (he : P.underlying e = some (.int .u64)) (xs ys : List Int) (w : World) :
    ∀ l : List Nat, (∀ i ∈ l, i < xs.length ∧ i < ys.length) → (Op.eqItems (d + 1) e 1 (q8Vals xs).toArray (q8Vals ys).toArray l).run P w = .ok (l.all fun i => xs.getD i 0 == ys.getD i 0) w
  | [], _ => by simp [Op.eqItems]
  | i :: l, h => by
    obtain ⟨hx, hy⟩ := h i (by simp)
    have px : (part e (q8Vals xs).toArray (i * 1)).run P w = .ok (.int .u64 (xs.getD i 0)) w := by
      simp [part, isAgg, run_underlying he, List.getD, q8Vals, List.getElem?_eq_getElem hx]
    have py : (part e (q8Vals ys).toArray (i * 1)).run P w = .ok (.int .u64 (ys.getD i 0)) w := by
      simp [part, isAgg, run_underlying he, List.getD, q8Vals, List.getElem?_eq_getElem hy]
    have ih := q8Eq_items d e he xs ys w l (fun j hj => h j (by simp [hj]))
    simp only [Op.eqItems, Sem.run_bind, px, py, Result.andThen_ok, run_equalIn_int w d e .u64 .u64 _ _ he, List.all_cons]
    cases hb : (xs.getD i 0 == ys.getD i 0)
    · simp
    · simpa using ih
theorem q8Equal {t : TypeId} {n : Nat} (ht : Tryd.prog.underlying t = some (.array n 23)) (d : Nat) (L M : List Int) (hL : L.length = n) (hM : M.length = n) (w : World) :
    (Op.equalIn (d + 2) t (.agg (q8Vals L).toArray) (.agg (q8Vals M).toArray)).run Tryd.prog w = .ok (L == M) w := by
  obtain ⟨i, hi⟩ := Option.isSome_iff_exists.1 (show (Tryd.prog.info? 23).isSome = true by kernel_rfl)
  rw [run_equalIn_array (w := w) (d + 1) _ _ ht hi, show Tryd.prog.cellsOf 23 = 1 by kernel_rfl, q8Eq_items d 23 Tryd.underlying23 L M w _ (fun i hi => by rw [List.mem_range] at hi; omega), ← q8All_range L M (by omega), hL]
/-- Are eight words the same? -/
def same8 (l m : List Int) : Bool := decide (∀ i, i < 8 → l[i]?.getD 0 = m[i]?.getD 0)
theorem same8_self (l : List Int) : same8 l l = true := by unfold same8; simp
theorem eight_same (l m : List Int) : ([l[0]?.getD 0, l[1]?.getD 0, l[2]?.getD 0, l[3]?.getD 0, l[4]?.getD 0, l[5]?.getD 0, l[6]?.getD 0, l[7]?.getD 0] == [m[0]?.getD 0, m[1]?.getD 0, m[2]?.getD 0, m[3]?.getD 0, m[4]?.getD 0, m[5]?.getD 0, m[6]?.getD 0, m[7]?.getD 0]) = same8 l m := by
  unfold same8
  rw [Bool.eq_iff_iff]
  simp only [beq_iff_eq, decide_eq_true_eq, List.cons.injEq, and_true]
  constructor
  · rintro ⟨h0, h1, h2, h3, h4, h5, h6, h7⟩ i hi
    have : i = 0 ∨ i = 1 ∨ i = 2 ∨ i = 3 ∨ i = 4 ∨ i = 5 ∨ i = 6 ∨ i = 7 := by omega
    rcases this with rfl | rfl | rfl | rfl | rfl | rfl | rfl | rfl
    · exact h0
    · exact h1
    · exact h2
    · exact h3
    · exact h4
    · exact h5
    · exact h6
    · exact h7
  · intro h
    exact ⟨h 0 (by omega), h 1 (by omega), h 2 (by omega), h 3 (by omega), h 4 (by omega), h 5 (by omega), h 6 (by omega), h 7 (by omega)⟩
theorem eql8 (l m : List Int) (w : World) : (binOp .eql 48 (.agg (arr8 l)) (.agg (arr8 m))).run Tryd.prog w = .ok (.bool (same8 l m)) w := by
  have h := q8Equal Tryd.underlying48 9998 [l[0]?.getD 0, l[1]?.getD 0, l[2]?.getD 0, l[3]?.getD 0, l[4]?.getD 0, l[5]?.getD 0, l[6]?.getD 0, l[7]?.getD 0] [m[0]?.getD 0, m[1]?.getD 0, m[2]?.getD 0, m[3]?.getD 0, m[4]?.getD 0, m[5]?.getD 0, m[6]?.getD 0, m[7]?.getD 0] rfl rfl w
  rw [eight_same] at h
  rw [run_eql_struct]
  refine (congrArg (fun r : Result Bool => r.andThen fun b w' => Result.ok (Value.bool b) w') h).trans ?_
  rfl
section
variable {w wr : World} {B Y c : Nat} {d : Dv} {m : May} {ds : List Deferred}
theorem HoldI.dev (h : HoldI w wr B Y c d m ds) : DevIn wr w.heap.size 5 B d := by
  obtain ⟨F, S, T, cS, cT, q, vs, gs, hd, hF, hm, hb, hs, ho⟩ := h
  exact ⟨F, S, T, cS, cT, q, hd, hF⟩
theorem crash_hold {v : Value} {marks : List Bool} (hmk : marks.length ≤ 100000) (h : HoldI w wr B Y c d m ds) (hv : SlB wr (fun k => w.heap.size ≤ k) v marks) :
    Calls Tryd.prog 28 #[.pointer (some ⟨B, 0, none⟩), v] wr fun e w' => e = .returned (.int .i64 0) ∧ wr.heap.size ≤ w'.heap.size ∧ HoldI w w' B Y c (d.crash marks) m ds := by
  obtain ⟨F, S, T, cS, cT, q, vs, gs, hd, hF, hm, hb, hs, ho⟩ := h
  exact (crash_any marks hmk wr hd (hv.mono hF)).mono fun e w' ⟨he, ht, q', hd'⟩ => ⟨he, ht.size, F, S, T, cS, cT, q', vs, gs, hd', hF, hm.turn ht, hb.trans (ht.below hF hb.size), marks_frame ht.block ht.size hs (fun x hx D e => (ho x hx D e).1), ho⟩
end
theorem crash_again (d : Dv) (a b : List Bool) : (d.crash a).crash b = d.crash a := rfl
theorem crash_rest (d : Dv) (a : List Bool) : (d.crash a).waits.length = 0 ∧ dirty (d.crash a).seen (d.crash a).stays 5 = 0 := ⟨rfl, dirty_same _ _⟩
/-- A crash with marks that were laid behind the device. -/
theorem crash_new {w W : World} {lo n B : Nat} {d : Dv} {v : Value} (marks : List Bool) (hmk : marks.length ≤ 100000) (hl : lo ≤ w.heap.size) (h : DevIn w lo n B d) (hb : Below w.heap.size w W) (hm : SlB W (fun k => k < w.heap.size) v marks) :
    Calls Tryd.prog 28 #[.pointer (some ⟨B, 0, none⟩), v] W fun e w' => e = .returned (.int .i64 0) ∧ Below lo W w' ∧ DevIn w' lo n B (d.crash marks) := by
  obtain ⟨F, S, T, cS, cT, q, hd, hF⟩ := h
  exact (crash_any marks hmk W (hd.below hb) (hm.mono hd.live)).mono fun e w' ⟨he, ht, q', hd'⟩ => ⟨he, ht.below hF (Nat.le_trans hl hb.size), _, S, T, cS, cT, q', hd', hF⟩
/-- A line that is among them is found. -/
theorem found8 {l : List Int} {ls : List (List Int)} (h : l ∈ ls) : ls.any (fun x => same8 x l) = true := List.any_eq_true.2 ⟨l, h, same8_self l⟩
end Go.Proofs.YtohdgjmmekgcmaaDoor

/-
  PmemHolds: a map of numbers (as in TrP); what waits, as a map; the lists behind a fence.
-/
namespace Go.Proofs.YtohdgjmmekgcmaaDoor
open Go.RowKit Go.Shelf Go.Maps

theorem keyedN_int : Keyed Tryd.prog 3 := int_keyed Tryd.underlying3
theorem ownsMapN_low {W W' : World} {R : Value → Option (DataW Unit × List MemPlace)} {b n : Nat} {D : DataW Unit} (h : W.ownsMap Tryd.prog 3 R b n D) (hb : Below W.heap.size W W') : W'.ownsMap Tryd.prog 3 R b n D := by
  have hlt := h.lt
  obtain ⟨es, clock, hm, r⟩ := h
  exact ⟨es, clock, (hb.block b hlt).trans hm, r⟩
/-- A map of numbers, by what it has. -/
def MapN (e : TypeId) (q : IntKind) (W : World) (b n : Nat) (f : Int → Option Int) : Prop :=
  ∃ D : DataW Unit, W.ownsMap Tryd.prog 3 (plainElem Tryd.prog e) b n D ∧ ∀ x : Int, Maps.has D (.int .i64 x) = (f x).isSome ∧ D.atKey (.int .i64 x) (.lit (.int q 0)) = .lit (.int q ((f x).getD 0))
theorem ownsMapN_below {W W' : World} {R : Value → Option (DataW Unit × List MemPlace)} {b n : Nat} {D : DataW Unit} (h : W.ownsMap Tryd.prog 3 R b n D) (hb : Below W.heap.size W W') : W'.ownsMap Tryd.prog 3 R b n D := ownsMapN_low h hb
theorem MapN.below {e : TypeId} {q : IntKind} {W W' : World} {b n : Nat} {f : Int → Option Int} (h : MapN e q W b n f) (hb : Below W.heap.size W W') : MapN e q W' b n f := by
  obtain ⟨D, h1, h2⟩ := h
  exact ⟨D, ownsMapN_low h1 hb, h2⟩
theorem MapN.mono {e : TypeId} {q : IntKind} {W : World} {b n n' : Nat} {f : Int → Option Int} (h : MapN e q W b n f) (hn : n ≤ n') : MapN e q W b n' f := by
  obtain ⟨D, h1, h2⟩ := h
  exact ⟨D, h1.mono hn, h2⟩
theorem MapN.keep {e : TypeId} {q : IntKind} {W W' : World} {b n : Nat} {f : Int → Option Int} (h : MapN e q W b n f) (hb : W'.heap[b]? = W.heap[b]?) : MapN e q W' b n f := by
  obtain ⟨D, ⟨es, clock, hm, r⟩, h2⟩ := h
  exact ⟨D, ⟨es, clock, hb.trans hm, r⟩, h2⟩
theorem MapN.lt {e : TypeId} {q : IntKind} {W : World} {b n : Nat} {f : Int → Option Int} (h : MapN e q W b n f) : b < W.heap.size := by
  obtain ⟨D, h1, _⟩ := h
  exact h1.lt
theorem MapN.new (e : TypeId) (q : IntKind) (W : World) : MapN e q (W.alloc (.map #[] 0)) W.heap.size 0 (fun _ => none) :=
  ⟨.map [], World.ownsMap_made W _ _ _, fun _x => ⟨rfl, rfl⟩⟩
/-- A function, elsewhere at one place. -/
def updN (f : Int → Option Int) (y z : Int) : Int → Option Int := fun x => if x = y then some z else f x
/-- Is such a number one of 64 bits? -/
def in64N (x : Int) : Prop := -9223372036854775808 ≤ x ∧ x ≤ 9223372036854775807
theorem key64N {y : Int} (hy : in64N y) : keyOf Tryd.prog 3 (.int .i64 y) = some (.int .i64 y) :=
  keyOf_int_mk (P := Tryd.prog) (k := 3) (q := .i64) Tryd.underlying3 (a := y) (by unfold in64N at hy; simp [Lit.wf, IntKind.min, IntKind.max, IntKind.signed, IntKind.bits]; omega)
theorem MapN.store {e t : TypeId} {q : IntKind} {W : World} {b n : Nat} {f : Int → Option Int} (h : MapN e q W b n f) (ht : Tryd.prog.underlying t = some (.map 3 e)) (he : Tryd.prog.underlying e = some (.int q)) (hn : n < 100000) {y z : Int} (hy : in64N y) (hz : (Lit.int q z).wf = true) :
    ∃ W', (Instr.mapUpdate t (.map (some b)) (.int .i64 y) (.int q z)).run Tryd.prog W = .ok () W' ∧ MapN e q W' b (n + 1) (updN f y z) ∧ W.grownBy W' (some b) := by
  obtain ⟨D, h1, h2⟩ := h
  obtain ⟨W', r1, r2, r3⟩ := h1.store keyedN_int ht (by unfold maxLen; omega) (key64N hy) (plainElem_int (H := Unit) he hz)
  refine ⟨W', r1, ⟨_, r2, fun x => ?_⟩, r3.grown⟩
  unfold updN
  by_cases hx : x = y
  · subst hx
    rw [Maps.has_put_same h1.isMap (show WideAt.IsKeyLit (.int .i64 x) from trivial), Maps.atKey_put_same h1.isMap (show WideAt.IsKeyLit (.int .i64 x) from trivial), if_pos rfl]
    exact ⟨rfl, rfl⟩
  · rw [Maps.has_put_other (fun e => hx (by simpa using e)), Maps.atKey_put_other (fun e => hx (by simpa using e)), if_neg hx]
    exact h2 x
theorem MapN.look {e t : TypeId} {q : IntKind} {W : World} {b n : Nat} {f : Int → Option Int} (h : MapN e q W b n f) (ht : Tryd.prog.underlying t = some (.map 3 e)) (he : Tryd.prog.underlying e = some (.int q)) (hz : ∀ w, (zeroValue e).run Tryd.prog w = .ok (.int q 0) w) {y : Int} (hy : in64N y) :
    (Instr.lookup t (.map (some b)) (.int .i64 y) false).run Tryd.prog W = .ok (.int q ((f y).getD 0)) W := by
  obtain ⟨D, h1, h2⟩ := h
  obtain ⟨c, r1, r2, _⟩ := h1.lookup_int keyedN_int ht he (hz W) (key64N hy)
  rw [(h2 y).2] at r2
  simp only [DataW.lit.injEq, Lit.int.injEq, true_and] at r2
  rw [r1, r2]
theorem zeroN (w : World) : (zeroValue 3).run Tryd.prog w = .ok (.int .i64 0) w := by kernel_rfl
/-- The lines that came, as the map has them. -/
def mapOf (ls : List Nat) : Int → Option Int := fun x => if ∃ l ∈ ls, (l : Int) = x then some 1 else none
theorem mapOf_nil : mapOf [] = fun _ => none := by
  funext x
  simp [mapOf]
theorem mapOf_snoc (ls : List Nat) (l : Nat) : updN (mapOf ls) (l : Int) 1 = mapOf (ls ++ [l]) := by
  funext x
  unfold updN mapOf
  by_cases hx : x = (l : Int)
  · subst hx
    simp
  · rw [if_neg hx]
    have : (∃ l' ∈ ls ++ [l], (l' : Int) = x) ↔ ∃ l' ∈ ls, (l' : Int) = x := by
      constructor
      · rintro ⟨l', h, e⟩
        rcases List.mem_append.1 h with h | h
        · exact ⟨l', h, e⟩
        · simp at h
          exact absurd (by rw [← e, h]) hx
      · rintro ⟨l', h, e⟩
        exact ⟨l', List.mem_append_left _ h, e⟩
    simp only [this]
/-- Behind a fence: of the first c lines, those that waited are what was seen last. -/
def fenceTo (d : Dv) (m : May) (c : Nat) : May := fun k => if k < c ∧ d.waits.any (fun y => y.1 == k) = true then (m k).drop ((m k).length - 1) else m k
theorem fenceTo_zero (d : Dv) (m : May) : fenceTo d m 0 = m := by
  funext k
  unfold fenceTo
  rw [if_neg (by omega)]
theorem fenceTo_not {d : Dv} {m : May} {c : Nat} (h : d.waits.any (fun y => y.1 == c) = false) : fenceTo d m (c + 1) = fenceTo d m c := by
  funext k
  unfold fenceTo
  by_cases e : k = c
  · subst e
    rw [if_neg (by rw [h]; simp), if_neg (by omega)]
  · have : (k < c + 1 ∧ d.waits.any (fun y => y.1 == k) = true) ↔ (k < c ∧ d.waits.any (fun y => y.1 == k) = true) := by
      constructor <;> rintro ⟨h1, h2⟩ <;> exact ⟨by omega, h2⟩
    simp only [this]
theorem fenceTo_some {d : Dv} {m : May} {c : Nat} (h : d.waits.any (fun y => y.1 == c) = true) : updM (fenceTo d m c) c ((m c).drop ((m c).length - 1)) = fenceTo d m (c + 1) := by
  funext k
  unfold updM fenceTo
  by_cases e : k = c
  · subst e
    rw [if_pos rfl, if_pos ⟨by omega, h⟩]
  · rw [if_neg e]
    have : (k < c + 1 ∧ d.waits.any (fun y => y.1 == k) = true) ↔ (k < c ∧ d.waits.any (fun y => y.1 == k) = true) := by
      constructor <;> rintro ⟨h1, h2⟩ <;> exact ⟨by omega, h2⟩
    simp only [this]
theorem fenceTo_here {d : Dv} {m : May} {c : Nat} : fenceTo d m c c = m c := by
  unfold fenceTo
  rw [if_neg (by omega)]
theorem may_fenceTo {d : Dv} {m : May} (hok : d.Ok 5) (h : MayInv 5 d m) (at_ line word from_ : Int) (mk : List Bool) : MayInv 5 d.fence (fenceTo d m 5) := by
  have h2 := may_step hok h ⟨4, at_, line, word, from_, mk⟩
  have e : holdStep d 5 ⟨4, at_, line, word, from_, mk⟩ = d.fence := by
    unfold holdStep
    rw [if_neg (show ¬ (4 : Int) = 1 by decide), if_neg (show ¬ (4 : Int) = 2 by decide), if_neg (show ¬ (4 : Int) = 3 by decide), if_pos rfl]
  rw [e] at h2
  intro k hk
  have h3 := h2 k hk
  unfold mayStep at h3
  rw [if_neg (show ¬ (4 : Int) = 3 by decide), if_pos rfl] at h3
  unfold fenceTo
  by_cases hw : d.waits.any (fun y => y.1 == k) = true
  · rw [if_pos ⟨hk, hw⟩]
    simpa only [if_pos hw] using h3
  · rw [if_neg (fun e => hw e.2)]
    simpa only [if_neg hw] using h3
theorem fenceTo_length {d : Dv} {m : May} {c n : Nat} (h : ∀ j, (m j).length ≤ n) : ∀ j, (fenceTo d m c j).length ≤ n := fun j => by
  unfold fenceTo
  split
  · rw [List.length_drop]
    have := h j
    omega
  · exact h j
/-- What the map has of a line. -/
theorem mapOf_look (d : Dv) (k : Nat) : (mapOf (linesOf d.waits) (k : Int)).getD 0 = if d.waits.any (fun y => y.1 == k) then 1 else 0 := by
  unfold mapOf
  by_cases h : d.waits.any (fun y => y.1 == k) = true
  · rw [if_pos h]
    obtain ⟨y, hy, e⟩ := List.any_eq_true.1 h
    have e' : y.1 = k := by simpa using e
    rw [if_pos ⟨y.1, List.mem_map.2 ⟨y, hy, rfl⟩, by rw [e']⟩]
    rfl
  · rw [if_neg h, if_neg]
    · rfl
    · rintro ⟨l, hl, e⟩
      obtain ⟨y, hy, rfl⟩ := List.mem_map.1 hl
      exact h (List.any_eq_true.2 ⟨y, hy, by simp; omega⟩)
section
variable {w wr : World} {B Y c : Nat} {d : Dv} {m : May} {ds : List Deferred}
theorem waits_hold (h : HoldI w wr B Y c d m ds) :
    Calls Tryd.prog 17 #[.pointer (some ⟨B, 0, none⟩)] wr fun e w' => ∃ P u, e = .returned (.func (.func 56) #[] #[.pointer (some ⟨P, 0, none⟩)]) ∧ wr.heap.size ≤ P ∧ Boxed w' P 114 u ∧ QueAt w' wr.heap.size u (linesOf d.waits) ∧ Below wr.heap.size wr w' := by
  obtain ⟨F, S, T, cS, cT, q, vs, gs, hd, hF, hm, hb, hs, ho⟩ := h
  exact waits_any wr hd
/-- A fence behind a range that left a mark. -/
theorem fence_mark {W : World} {D : Nat} (h : HoldI w wr B Y c d m ds) (hW : Below wr.heap.size wr W) (hD : wr.heap.size ≤ D) (hD' : W.heap[D]? = some (.deferred (some []))) :
    Calls Tryd.prog 26 #[.pointer (some ⟨B, 0, none⟩)] W fun e w' => e = .returned (.int .i64 0) ∧ W.heap.size ≤ w'.heap.size ∧ HoldI w w' B Y c d.fence m ({ target := .collected D, args := #[] } :: ds) ∧ ∀ b, wr.heap.size ≤ b → b < W.heap.size → w'.heap[b]? = W.heap[b]? := by
  have hIW := h.mark hW hD hD'
  have hmW := hIW.marks
  have hb2 := hIW.low
  obtain ⟨F, S, T, cS, cT, q, vs, gs, hd, hF, hm, hb, hs, ho⟩ := h
  have ho' : ∀ x ∈ ({ target := .collected D, args := #[] } :: ds : List Deferred), ∀ D', x.target = .collected D' → ¬ F D' ∧ D' ≠ Y ∧ ∀ k, k < c → D' ≠ gs k := fun x hx D' hx' => by
    rcases List.mem_cons.1 hx with rfl | hx
    · cases hx'
      refine ⟨fun hn => absurd (hd.live _ hn) (by omega), fun e => absurd hm.lt (by omega), fun k hk e => ?_⟩
      obtain ⟨v, -, h2⟩ := hm.row k hk
      have := h2.2.1
      omega
    · exact ho x hx D' hx'
  exact (fence_any W (hd.below hW)).mono fun e w' ⟨he, ht, q', hd'⟩ => ⟨he, ht.size, ⟨F, S, T, cS, cT, q', vs, gs, hd', hF, (hm.below hW).turn ht, hb2.trans (ht.below hF hb2.size), marks_frame ht.block ht.size hmW (fun x hx D e => (ho' x hx D e).1), ho'⟩, fun b h1 h2 => ht.block b h2 fun hn => absurd (hd.live b hn) (by omega)⟩
end
theorem que_block4 {W : World} {A P : Nat} {ua : Option Addr} {uc : Nat} {ls : List Nat} (hP : P < W.heap.size) (h : QueAt W A (.slice ua ls.length uc) ls) :
    ∃ g, g < W.heap.size ∧ (0 < ls.length → A ≤ g) ∧ (0 < ls.length → ua = some ⟨g, 0, none⟩ ∧ W.ownsRow A 3 1 (.slice (some ⟨g, 0, none⟩) ls.length uc) ls.length (valsOf .i64 ls)) := by
  have h' := h
  unfold QueAt at h'
  rcases h'.2 with ⟨e0, h0⟩ | ⟨g, cap, cur, e0, hb, hg, hr⟩
  · exact ⟨P, hP, (fun h1 => by omega), fun h1 => by omega⟩
  · refine ⟨g, (Array.getElem?_eq_some_iff.1 hg).1, (fun _ => hb), fun _ => ?_⟩
    simp only [Value.slice.injEq, true_and] at e0
    obtain ⟨rfl, rfl⟩ := e0
    exact ⟨rfl, h'⟩
theorem que_slice4 {W : World} {A : Nat} {u : Value} {ls : List Nat} (h : QueAt W A u ls) : ∃ ua uc, u = .slice ua ls.length uc := by
  unfold QueAt at h
  rcases h.2 with ⟨e0, h0⟩ | ⟨g, cap, cur, e0, _⟩
  · exact ⟨none, 0, by rw [e0, h0]⟩
  · exact ⟨_, _, e0⟩
theorem flatC_drop {α : Type} {f : α → List Value} {s : Nat} (hf : ∀ x, (f x).length = s) (l : List α) (n : Nat) (hn : n ≤ l.length) : (flatC f l).drop (n * s) = flatC f (l.drop n) := by
  have h : flatC f l = flatC f (l.take n) ++ flatC f (l.drop n) := by rw [← flatC_append, List.take_append_drop]
  rw [h, List.drop_left' (by rw [flatC_length hf, List.length_take]; congr 1; omega)]
theorem rowAt_tail {s g off cap n : Nat} {xs : List Value} {W : World} (h : RowAt W g s (.slice (some ⟨g, off, none⟩) (n + 1) cap) (n + 1) xs) :
    RowAt W g s (.slice (some ⟨g, off + n * s, none⟩) 1 (cap - n)) 1 (xs.drop (n * s)) ∧ n + 1 ≤ cap := by
  obtain ⟨m1, m2, m3, off', cap', e', m5, m6, m7⟩ := h
  simp only [Value.slice.injEq, Option.some.injEq, Addr.mk.injEq] at e'
  obtain ⟨⟨-, rfl, -⟩, -, rfl⟩ := e'
  refine ⟨⟨by rw [List.length_drop, m1, Nat.add_mul]; omega, m2, m3, _, cap - n, rfl, by omega, fun j y hy => ?_, fun j hj => ?_⟩, m5⟩
  · rw [List.getElem?_drop] at hy
    rw [Nat.add_assoc]
    exact m6 _ _ hy
  · have := m7 j (by rwa [show cap - (n + 1) = cap - n - 1 by omega])
    rwa [show off + (n + 1) * s + j = off + n * s + 1 * s + j by rw [Nat.add_mul]; omega] at this
/-- In the rounds over what waits: the map, its box, all that lay ahead. -/
def WaitI (w8 : World) (pre : List Nat) (q : Nat → Prop) (W : World) : Prop :=
  (MapN 3 .i64 W w8.heap.size pre.length (mapOf pre) ∧ ¬ q w8.heap.size) ∧ BoxF (w8.heap.size + 1) 58 (.map (some w8.heap.size)) q W ∧ BelowF w8.heap.size w8 q W
theorem abides_wait (w8 : World) : Abides (WaitI w8) := Abides.and (fun s q q' W W' hs ht hq => ⟨hs.1.keep (ht.block _ hs.1.lt hs.2), fun h => (hq _ h).elim hs.2 fun h2 => by have := hs.1.lt; omega⟩) (Abides.and (Abides.box _ _ (fun _ : List Nat => .map (some w8.heap.size))) (Abides.below _ _))
end Go.Proofs.YtohdgjmmekgcmaaDoor

/-
  The frame of a law's row: whatever the arguments are, they read behind the call as they did, if nothing that lay has turned.
-/
namespace Go.Proofs.YtohdgjmmekgcmaaDoor
open Go.ChangeShapes Go.WideShapes Go.ChangeAt Go.RowKit

theorem own : ownKnob Tryd.prog.godebug = none := by kernel_rfl
theorem laidOut : laidOutB Tryd.prog = true := by kernel_rfl
/-- One listed variable's reading. -/
def ReadsAs (P : Program) (w : World) (n : String) (d : DataW Unit) : Prop :=
  ∃ g t cs fuel p, P.globalNamed n = some g ∧ (P.globals[g]?).map (·.type) = some t ∧ w.var? P n = some cs ∧ DataW.trod (fun _ => ()) P w 0 (fun _ => true) false fuel t cs.toList = some (d, p)
theorem readsAs_list {P : Program} {w : World} : ∀ {l : List (String × DataW Unit)} {ps : List MemPlace}, DataW.LaidVars P w l ps → ∀ x ∈ l, ReadsAs P w x.1 x.2
  | [], _, _, _, hm => by cases hm
  | y :: r, ps, h, x, hm => by
    obtain ⟨g, t, cs, fuel, p, q, h1, h2, h3, h4, h5, _⟩ := h
    rcases List.mem_cons.1 hm with e | e
    · subst e; exact ⟨g, t, cs, fuel, p, h1, h2, h3, h4⟩
    · exact readsAs_list h5 x e
theorem readsAs_of_laid {P : Program} {w : World} {l : List (String × DataW Unit)} (h : laidMet P l w) {n : String} {d : DataW Unit} (hm : (n, d) ∈ l) : ReadsAs P w n d :=
  let ⟨_, hv, _⟩ := h
  readsAs_list hv (n, d) hm
/-- A listed array of integers holds them, cell for cell. -/
theorem tabIs_of_reads {P : Program} {W : World} {name : String} {k : IntKind} {zs : List Int} {g : Nat} {t e : TypeId} {n : Nat}
    (hg : P.globalNamed name = some g) (hty : (P.globals[g]?).map (·.type) = some t) (ht : P.underlying t = some (.array n e)) (he : P.underlying e = some (.int k)) (hce : P.cellsOf e = 1) (hct : P.cellsOf t = n)
    (h : ReadsAs P W name (Lib.tabData k zs)) : Lib.TabIs P W name k zs := by
  obtain ⟨g', t', cs, fuel, p, hg', ht', hvar, hd⟩ := h
  obtain rfl := Option.some.inj (hg.symm.trans hg')
  obtain rfl := Option.some.inj (hty.symm.trans ht')
  unfold Lib.TabIs
  rw [hvar, ← Lib.cells_of_tab ht he hce hct hd]
/-- These types read as data. -/
def typesOk (P : Program) (ts : List TypeId) : Bool := ts.all fun t => P.readableRec t && decide (t < P.types.size)
theorem trodAll_below {H : Type} {enc : TypeId × Value → H} {P : Program} (hl : laidOutB P = true) {W W' : World} (hb : Below W.heap.size W W') :
    ∀ {ts : List TypeId} {vs : List Value} {ds : List (DataW H)} {ps : List MemPlace}, typesOk P ts = true → DataW.TrodAll enc P W 0 (fun _ => true) true ts vs ds ps → (∀ x ∈ ps, x.block < W.heap.size) →
      DataW.TrodAll enc P W' 0 (fun b => decide (b < W.heap.size)) true ts vs ds ps
  | [], [], [], _, _, h, _ => h
  | [], [], _ :: _, _, _, h, _ => h.elim
  | [], _ :: _, _, _, _, h, _ => by cases h
  | _ :: _, [], _, _, _, h, _ => by cases h
  | _ :: _, _ :: _, [], _, _, h, _ => by cases h
  | t :: ts, v :: vs, d :: ds, ps, ht, ⟨p, q, h1, h2, e⟩, hlt => by
    simp only [typesOk, List.all_cons, Bool.and_eq_true, decide_eq_true_eq] at ht
    subst e
    exact ⟨p, q, Below.trod hl ht.1.1 ht.1.2 h1 hb (fun x hx => hlt x (List.mem_append_left _ hx)),
      trodAll_below hl hb (by simpa [typesOk] using ht.2) h2 (fun x hx => hlt x (List.mem_append_right _ hx)), rfl⟩
/-- A law's post: it returned true, and nothing that lay has turned. -/
theorem law_post {H : Type} {enc : TypeId × Value → H} {P : Program} (hl : laidOutB P = true) {f : Func} {s : ChangeSpec} {apart fresh handsOn : Bool} {W W' : World} {args : Array Value} {ds gs : List (DataW H)} {before : List MemPlace} {tb : TypeId}
    (hW : DataW.Whole enc P f.params.toList s.vars apart W args.toList ds gs before) (hv0 : s.vars = []) (hres : (s.fn H (ds ++ [])).results = [.lit (.bool true)]) (hargs : (s.fn H (ds ++ [])).args = ds) (hvars : (s.fn H (ds ++ [])).vars = [])
    (ht : typesOk P f.params.toList = true) (hrt : f.resultTypes = #[tb]) (htb : P.underlying tb = some .bool) (hb : Below W.heap.size W W') :
    s.post enc P f apart fresh handsOn false W args (.bool true) W' := by
  have hW' := hW
  obtain ⟨p, q, hA, hV, hbef, hfz, hnd⟩ := hW
  rw [hv0] at hV
  obtain ⟨rfl, rfl⟩ := trodVars_none hV
  rw [List.append_nil] at hbef
  subst hbef
  have hlt : ∀ x ∈ before, x.block < W.heap.size := fun x hx => hW'.lt x hx
  refine ⟨ds, [], before, [], before, [], hW', ?_, ?_, ?_, World.keptBut_mono (fun x hx => ⟨hx, .inr ?_⟩) (hb.frame (· ∈ before)), fun h => by cases h⟩
  · rw [hres, hrt]
    exact trodAll_cons_mk (shut_bool htb _) trodAll_mk0
  · rw [hargs]
    exact trodAll_below hl hb ht hA hlt
  · rw [hvars, hv0]
    rfl
  · simpa using hx
end Go.Proofs.YtohdgjmmekgcmaaDoor

/-
  What the rows' lists of package-level variables give: place.ends.
-/
namespace Go.Proofs.YtohdgjmmekgcmaaDoor
open Go.ChangeShapes Go.WideShapes Go.ChangeAt Go.RowKit

def zsE : List Int := [1024, 8]
theorem laidE {H : Type} : (Rows.laid_waterline_place_ends : DataW H) = Lib.tabData .i64 zsE := by kernel_rfl
theorem gE : Tryd.prog.globalNamed "waterline/place.ends" = some 0 := by kernel_rfl
theorem tE : (Tryd.prog.globals[(0 : Nat)]?).map (·.type) = some 189 := by kernel_rfl
theorem cE : Tryd.prog.cellsOf 189 = 2 := by kernel_rfl
theorem cInt : Tryd.prog.cellsOf 3 = 1 := by kernel_rfl
theorem ends_of_laid {W : World} (h : laidMetH Tryd.prog [("waterline/place.ends", Rows.laid_waterline_place_ends)] W) : Ends W := by
  have hL : laidMet Tryd.prog [("waterline/place.ends", Rows.laid_waterline_place_ends)] W := h
  have hb : Lib.TabIs Tryd.prog W "waterline/place.ends" .i64 zsE := tabIs_of_reads gE tE Tryd.underlying189 Tryd.underlying3 cInt cE (by rw [← laidE]; exact readsAs_of_laid hL (.head _))
  have h0 := hb.cell gE 0 (by decide)
  have h1 := hb.cell gE 1 (by decide)
  refine ⟨h0, h1, ?_⟩
  rcases Nat.lt_or_ge 0 W.heap.size with h2 | h2
  · exact h2
  · unfold World.cell? at h0
    rw [Array.getElem?_eq_none (by simpa using h2)] at h0
    cases h0
/-- A block of cells, with other cells. -/
def withCellsE (cs : Array Value) : Obj → Obj
  | .cells _ t frozen => .cells cs t frozen
  | o => o
/-- A WORLD FOR THE WITNESS: the settled one, ends holding what its initialiser lays. -/
noncomputable def endsWorld (os : Os) : World :=
  { World.holding Tryd.prog os ⟨#[], #[], []⟩ with heap := Array.modify (World.holding Tryd.prog os ⟨#[], #[], []⟩).heap 0 (withCellsE (zsE.map (Value.int .i64)).toArray) }
end Go.Proofs.YtohdgjmmekgcmaaDoor

/-
  A slice of unsigned numbers that a law is handed, opened: the numbers as naturals, and its capacity.
-/
namespace Go.Proofs.YtohdgjmmekgcmaaDoor
open Go.ChangeShapes Go.WideShapes Go.ChangeAt Go.RowKit

set_option maxRecDepth 100000 in
theorem open_sl {H : Type} {enc : TypeId × Value → H} {W : World} {base : Nat} {t e : TypeId} {k : IntKind} {v : Value} {d : DataW H} {p : List MemPlace}
    (ht : Tryd.prog.underlying t = some (.slice e)) (he : Tryd.prog.underlying e = some (.int k)) (hc : Tryd.prog.cellsOf e = 1) (hk : ∀ n, (Lit.int k n).wf = true → 0 ≤ n)
    (hval : Value.okWide Tryd.prog W .any base t v) (h : DataW.Trod enc Tryd.prog W 0 (fun _ => true) true t v d p) (hlt : ∀ x ∈ p, x.block < W.heap.size) :
    ∃ xs : List Nat, Sl W k v xs ∧ (∀ x ∈ xs, (Lit.int k (x : Int)).wf = true) ∧
      ((v = .slice none 0 0 ∧ xs = [] ∧ d = .nil) ∨ ∃ a cap el sp, v = .slice (some a) xs.length cap ∧ d = .slice el sp ∧ el.length + sp.length = cap) := by
  obtain ⟨a0, len, cap, rfl⟩ := okWide_slice ht hval
  obtain ⟨fuel, hf⟩ := h
  rcases open_ints ht he hc hf with ⟨hcs, hx⟩ | ⟨a, len', cap', zs, hcs, _, hl, hm, hz, hx, hcell, hwz⟩
  · simp [Value.cells] at hcs
    obtain ⟨rfl, rfl, rfl⟩ := hcs
    simp only [Prod.mk.injEq] at hx
    exact ⟨[], ⟨none, 0, rfl, Nat.le_refl _, fun h => by simp at h⟩, (fun x hx => by cases hx), .inl ⟨rfl, rfl, hx.1⟩⟩
  · simp [Value.cells] at hcs
    obtain ⟨rfl, rfl, rfl⟩ := hcs
    simp only [Prod.mk.injEq] at hx
    obtain ⟨rfl, rfl⟩ := hx
    simp only [if_true] at hz
    have hlen : ((zs.take len).map Int.toNat).length = len := by simp; omega
    refine ⟨(zs.take len).map Int.toNat, ⟨some a, cap, by rw [hlen], by omega, fun h0 => ?_⟩, fun x hx => ?_, .inr ⟨a, cap, _, _, by rw [hlen], rfl, ?_⟩⟩
    · obtain ⟨b, off, rfl, hj⟩ := ints_at hcell (by omega)
      refine ⟨b, off, rfl, hlt (.cell b off) (MemPlace.mem_row.2 ⟨0, by omega, by simp⟩), fun j hjl => ?_⟩
      rw [hlen] at hjl
      rw [hj j (by omega)]
      have h0 := hk _ (hwz _ (List.getElem_mem (show j < zs.length by omega)))
      simp [List.getD, List.getElem?_map, hjl, List.getElem?_eq_getElem (show j < zs.length by omega)]
      omega
    · obtain ⟨z, hz1, rfl⟩ := List.mem_map.1 hx
      have hw := hwz z (List.mem_of_mem_take hz1)
      have h0 := hk _ hw
      rwa [Int.toNat_of_nonneg h0]
    · simp [lits]; omega
theorem nn8 : ∀ n, (Lit.int .u8 n).wf = true → 0 ≤ n := fun _ h => (bounds_u8 h).1
theorem nn64 : ∀ n, (Lit.int .u64 n).wf = true → 0 ≤ n := fun _ h => (bounds_u64 h).1
theorem getD_all {xs : List Nat} {m : Nat} (hm : 0 < m) (h : ∀ x ∈ xs, x < m) (i : Nat) : xs[i]?.getD 0 < m := by
  by_cases hi : i < xs.length
  · simp [hi, h _ (List.getElem_mem hi)]
  · simp [List.getElem?_eq_none (by omega : xs.length ≤ i), hm]
end Go.Proofs.YtohdgjmmekgcmaaDoor

/-
  Arguments opened: marks, a call, a list of calls.
-/
namespace Go.Proofs.YtohdgjmmekgcmaaDoor
open Go.ChangeShapes Go.WideShapes Go.ChangeAt Go.RowKit

theorem trod_bools {H : Type} {enc : TypeId × Value → H} {W : World} {F : Nat → Prop} {fuel : Nat} {cs : List Value} {x : DataW H × List MemPlace}
    (h : DataW.trod enc Tryd.prog W 0 (fun _ => true) true fuel 24 cs = some x) (hlt : ∀ q ∈ x.2, q.block < W.heap.size) (hF : ∀ k, k < W.heap.size → ¬ F k) :
    ∃ v l, cs = [v] ∧ SlB W F v l ∧ l.length ≤ 9223372036854775807 := by
  rcases Go.Deep.open_slice1 Tryd.underlying24 (by kernel_rfl) h with ⟨rfl, rfl⟩ | ⟨a, len, cap, m, n, V, D, Pl, rfl, hb, hl, hm, hmm, rfl, hi⟩
  · exact ⟨_, [], rfl, ⟨none, 0, rfl, fun h => by simp at h⟩, by simp⟩
  · simp only [if_true] at hmm
    subst hmm
    have hat : ∀ i, ∃ b : Bool, i < m → W.cell? (a.add i) = some (.bool b) := fun i => by
      by_cases him : i < m
      · obtain ⟨h1, h2⟩ := hi i him
        obtain ⟨b, e1, -⟩ := DataW.trod_bool Tryd.underlying4 h2
        simp at e1
        exact ⟨b, fun _ => by rw [h1, e1]⟩
      · exact ⟨false, fun h => absurd h him⟩
    obtain ⟨B, hB⟩ := Classical.axiomOfChoice hat
    have hmx : m ≤ 9223372036854775807 := hm
    refine ⟨_, (List.range len).map B, rfl, ⟨some a, m, by simp, fun h0 => ?_⟩, by simp; omega⟩
    rw [List.length_map, List.length_range] at h0
    obtain ⟨b, off, spot⟩ := a
    have hspot : spot = none := by
      have := hB 0 (by omega)
      simpa [Addr.add] using World.cell?_spot this
    subst hspot
    have hlt1 := hlt (.cell b off) (List.mem_append_left _ (MemPlace.mem_row.2 ⟨0, by omega, by simp⟩))
    refine ⟨b, off, rfl, hlt1, hF b hlt1, fun j hj => ?_⟩
    rw [List.length_map, List.length_range] at hj
    have e : ((List.range len).map B)[j]?.getD false = B j := by simp [hj]
    rw [e]
    have h1 := hB j (by omega)
    have a1 : (⟨b, off, none⟩ : Addr).add j = ⟨b, off + j, none⟩ := by unfold Addr.add; split <;> simp_all
    rw [a1] at h1
    exact h1
set_option maxRecDepth 100000 in
theorem trod_act {H : Type} {enc : TypeId × Value → H} {W : World} {F : Nat → Prop} {fuel : Nat} {cs : List Value} {x : DataW H × List MemPlace}
    (h : DataW.trod enc Tryd.prog W 0 (fun _ => true) true fuel 26 cs = some x) (hlt : ∀ q ∈ x.2, q.block < W.heap.size) (hF : ∀ k, k < W.heap.size → ¬ F k) :
    ∃ (y : Ask) (m : Value), cs = (askA y m).toList ∧ (-9223372036854775808 ≤ y.at_ ∧ y.at_ ≤ 9223372036854775807) ∧ SlB W F m y.marks := by
  have hC : Tryd.prog.cellsOf 26 = 6 := by kernel_rfl
  have hI : Tryd.prog.cellsOf 3 = 1 := by kernel_rfl
  have hU : Tryd.prog.cellsOf 23 = 1 := by kernel_rfl
  have hB : Tryd.prog.cellsOf 24 = 1 := by kernel_rfl
  obtain ⟨ys, n', -, rfl, hcl, hyl, hfl⟩ := DataW.trod_struct Tryd.underlying26 h
  rw [hC] at hcl
  match cs, hcl, ys, hyl with
  | [c0, c1, c2, c3, c4, c5], _, [y0, y1, y2, y3, y4, y5], _ =>
    have f0 : DataW.trod enc Tryd.prog W 0 (fun _ => true) true n' 3 (([c0, c1, c2, c3, c4, c5].drop 0).take (Tryd.prog.cellsOf 3)) = [y0, y1, y2, y3, y4, y5][0]? := hfl 0 _ rfl
    have f1 : DataW.trod enc Tryd.prog W 0 (fun _ => true) true n' 3 (([c0, c1, c2, c3, c4, c5].drop 1).take (Tryd.prog.cellsOf 3)) = [y0, y1, y2, y3, y4, y5][1]? := hfl 1 _ rfl
    have f2 : DataW.trod enc Tryd.prog W 0 (fun _ => true) true n' 3 (([c0, c1, c2, c3, c4, c5].drop 2).take (Tryd.prog.cellsOf 3)) = [y0, y1, y2, y3, y4, y5][2]? := hfl 2 _ rfl
    have f3 : DataW.trod enc Tryd.prog W 0 (fun _ => true) true n' 23 (([c0, c1, c2, c3, c4, c5].drop 3).take (Tryd.prog.cellsOf 23)) = [y0, y1, y2, y3, y4, y5][3]? := hfl 3 _ rfl
    have f4 : DataW.trod enc Tryd.prog W 0 (fun _ => true) true n' 23 (([c0, c1, c2, c3, c4, c5].drop 4).take (Tryd.prog.cellsOf 23)) = [y0, y1, y2, y3, y4, y5][4]? := hfl 4 _ rfl
    have f5 : DataW.trod enc Tryd.prog W 0 (fun _ => true) true n' 24 (([c0, c1, c2, c3, c4, c5].drop 5).take (Tryd.prog.cellsOf 24)) = [y0, y1, y2, y3, y4, y5][5]? := hfl 5 _ rfl
    rw [hI] at f0 f1 f2
    rw [hU] at f3 f4
    rw [hB] at f5
    simp at f0 f1 f2 f3 f4 f5
    obtain ⟨a0, e0, -, w0⟩ := DataW.trod_int Tryd.underlying3 f0
    obtain ⟨a1, e1, -, w1⟩ := DataW.trod_int Tryd.underlying3 f1
    obtain ⟨a2, e2, -, w2⟩ := DataW.trod_int Tryd.underlying3 f2
    obtain ⟨a3, e3, -, w3⟩ := DataW.trod_int Tryd.underlying23 f3
    obtain ⟨a4, e4, -, w4⟩ := DataW.trod_int Tryd.underlying23 f4
    obtain ⟨v, l, e5, hs, -⟩ := trod_bools (F := F) f5 (fun q hq => hlt q (List.mem_flatMap.2 ⟨y5, by simp, hq⟩)) hF
    simp at e0 e1 e2 e3 e4 e5
    subst e0 e1 e2 e3 e4 e5
    have b1 := bounds_i64 w1
    exact ⟨⟨a0, a1, a2, a3, a4, l⟩, c5, rfl, b1, hs⟩
set_option maxRecDepth 100000 in
theorem trod_acts {H : Type} {enc : TypeId × Value → H} {W : World} {F : Nat → Prop} {fuel : Nat} {cs : List Value} {x : DataW H × List MemPlace}
    (h : DataW.trod enc Tryd.prog W 0 (fun _ => true) true fuel 22 cs = some x) (hlt : ∀ q ∈ x.2, q.block < W.heap.size) (hF : ∀ k, k < W.heap.size → ¬ F k) :
    ∃ v xs, cs = [v] ∧ SlA W F v xs ∧ (∀ y ∈ xs, -9223372036854775808 ≤ y.at_ ∧ y.at_ ≤ 9223372036854775807) ∧ xs.length ≤ 9223372036854775807 := by
  have hC : Tryd.prog.cellsOf 26 = 6 := by kernel_rfl
  rcases Go.Deep.open_slice Tryd.underlying22 h with ⟨rfl, rfl⟩ | ⟨a, len, cap, m, n, D, Pl, rfl, hb, hl, hm, hmm, rfl, hi⟩
  · exact ⟨_, [], rfl, ⟨none, 0, rfl, fun h => by simp at h⟩, (fun y hy => by cases hy), by simp⟩
  · simp only [if_true] at hmm
    subst hmm
    have hmx : m ≤ 9223372036854775807 := hm
    have hat : ∀ i, ∃ y : Ask × Value, i < m → (∀ (j : Nat) v, (askA y.1 y.2).toList[j]? = some v → W.cell? ((a.add (i * 6)).add j) = some v) ∧ (-9223372036854775808 ≤ y.1.at_ ∧ y.1.at_ ≤ 9223372036854775807) ∧ SlB W F y.2 y.1.marks := fun i => by
      by_cases him : i < m
      · obtain ⟨cs', hc, ht⟩ := hi i him
        rw [hC] at hc
        obtain ⟨y, v, rfl, hy, hs⟩ := trod_act (F := F) ht (fun q hq => hlt q (List.mem_append_right _ (List.mem_flatMap.2 ⟨i, List.mem_range.2 him, hq⟩))) hF
        obtain ⟨-, hcl, hcell⟩ := World.cells?_some hc
        refine ⟨(y, v), fun _ => ⟨fun j u hu => ?_, hy, hs⟩⟩
        have hj : j < 6 := by
          have := (List.getElem?_eq_some_iff.1 hu).1
          simpa using this
        have := hcell j hj
        rw [this]
        exact hu
      · exact ⟨(⟨0, 0, 0, 0, 0, []⟩, undef), fun h => absurd h him⟩
    obtain ⟨B, hB⟩ := Classical.axiomOfChoice hat
    refine ⟨_, (List.range len).map fun i => (B i).1, rfl, ⟨some a, m, by simp, fun h0 => ?_⟩, fun y hy => ?_, by simp; omega⟩
    · rw [List.length_map, List.length_range] at h0
      obtain ⟨b, off, spot⟩ := a
      have hspot : spot = none := by
        have := (hB 0 (by omega)).1 0 _ rfl
        simpa [Addr.add] using World.cell?_spot this
      subst hspot
      have hlt1 := hlt (.cell b off) (List.mem_append_left _ (by rw [hC]; exact MemPlace.mem_row.2 ⟨0, by omega, by simp⟩))
      refine ⟨b, off, rfl, hlt1, hF b hlt1, fun k hk => ?_⟩
      rw [List.length_map, List.length_range] at hk
      have e : ((List.range len).map fun i => (B i).1)[k]'(by simpa using hk) = (B k).1 := by simp
      rw [e]
      obtain ⟨h1, -, h2⟩ := hB k (by omega)
      refine ⟨(B k).2, fun j u hu => ?_, h2⟩
      have := h1 j u hu
      rw [Go.Deep.add_add] at this
      have a1 : (⟨b, off, none⟩ : Addr).add (k * 6 + j) = ⟨b, off + k * 6 + j, none⟩ := by unfold Addr.add; split <;> simp_all [Nat.add_assoc]
      rw [a1] at this
      exact this
    · obtain ⟨j, hj, rfl⟩ := List.mem_map.1 hy
      have hj' := List.mem_range.1 hj
      exact (hB j (by omega)).2.1
set_option maxRecDepth 100000 in
theorem open_bools {H : Type} {enc : TypeId × Value → H} {W : World} {base : Nat} {v : Value} {d : DataW H} {p : List MemPlace}
    (hv : Value.okWide Tryd.prog W .any base 24 v) (h : DataW.Trod enc Tryd.prog W 0 (fun _ => true) true 24 v d p) (hlt : ∀ x ∈ p, x.block < W.heap.size) :
    ∃ l, SlB W (fun k => W.heap.size ≤ k) v l ∧ l.length ≤ 9223372036854775807 := by
  obtain ⟨a0, len0, cap0, rfl⟩ := okWide_slice Tryd.underlying24 hv
  obtain ⟨fuel, hf⟩ := h
  obtain ⟨v, l, e, h1, h2⟩ := trod_bools (F := fun k => W.heap.size ≤ k) hf hlt (fun k hk => by omega)
  simp [Value.cells] at e
  subst e
  exact ⟨l, h1, h2⟩
set_option maxRecDepth 100000 in
theorem open_acts {H : Type} {enc : TypeId × Value → H} {W : World} {base : Nat} {v : Value} {d : DataW H} {p : List MemPlace}
    (hv : Value.okWide Tryd.prog W .any base 22 v) (h : DataW.Trod enc Tryd.prog W 0 (fun _ => true) true 22 v d p) (hlt : ∀ x ∈ p, x.block < W.heap.size) :
    ∃ xs, SlA W (fun k => W.heap.size ≤ k) v xs ∧ (∀ y ∈ xs, -9223372036854775808 ≤ y.at_ ∧ y.at_ ≤ 9223372036854775807) ∧ xs.length ≤ 9223372036854775807 := by
  obtain ⟨a0, len0, cap0, rfl⟩ := okWide_slice Tryd.underlying22 hv
  obtain ⟨fuel, hf⟩ := h
  obtain ⟨v, l, e, h1, h2⟩ := trod_acts (F := fun k => W.heap.size ≤ k) hf hlt (fun k hk => by omega)
  simp [Value.cells] at e
  subst e
  exact ⟨l, h1, h2⟩
set_option maxRecDepth 100000 in
theorem open_act {H : Type} {enc : TypeId × Value → H} {W : World} {base : Nat} {v : Value} {d : DataW H} {p : List MemPlace}
    (hv : Value.okWide Tryd.prog W .any base 26 v) (h : DataW.Trod enc Tryd.prog W 0 (fun _ => true) true 26 v d p) (hlt : ∀ x ∈ p, x.block < W.heap.size) :
    ∃ (y : Ask) (m : Value), v = .agg (askA y m) ∧ SlB W (fun k => W.heap.size ≤ k) m y.marks ∧ -9223372036854775808 ≤ y.at_ ∧ y.at_ ≤ 9223372036854775807 := by
  have ht := Tryd.underlying26
  obtain ⟨fuel, hf⟩ := h
  obtain ⟨y, m, e, h1, h2⟩ := trod_act (F := fun k => W.heap.size ≤ k) hf hlt (fun k hk => by omega)
  unfold Value.okWide at hv
  rw [ht] at hv
  obtain ⟨cs, rfl, -⟩ := hv
  have e' : cs = askA y m := by apply Array.ext'; simpa [Value.cells] using e
  exact ⟨y, m, by rw [e'], h2, h1⟩
end Go.Proofs.YtohdgjmmekgcmaaDoor
