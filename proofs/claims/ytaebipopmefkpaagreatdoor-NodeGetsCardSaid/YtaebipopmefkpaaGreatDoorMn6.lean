/-
  Texts SumT to NdKA, as one.
-/
import Derived.Test.YtaebipopmefkpaaGreatDoorMn5
import Derived.WalkSpells
import Derived.Laws.EntriesVeiled
/-
  Contracts of sum.Text and of the document's Text.
-/
namespace Go.Proofs.YtaebipopmefkpaaGreatDoor
open Go.RowKit Go.Shelf

theorem u64s_words (xs : List Nat) : U64s (WM.wordsOf xs) := fun x hx => by
  unfold WM.wordsOf at hx
  obtain ⟨i, _, rfl⟩ := List.mem_map.1 hx
  exact WM.wordAt_lt xs i
/-- The words of bytes, and how many bytes they are. -/
def textWords (xs : List Nat) : List Nat := WM.wordsOf xs ++ [xs.length]
theorem textWords_len (xs : List Nat) (hl : xs.length ≤ 4096) : (textWords xs).length ≤ 513 := by
  unfold textWords
  rw [List.length_append, WM.wordsOf_length]
  unfold WM.need
  simp; omega
theorem u64s_text (xs : List Nat) (hl : xs.length ≤ 4096) : U64s (textWords xs) := fun x hx => by
  unfold textWords at hx
  rcases List.mem_append.1 hx with h | h
  · exact u64s_words xs x h
  · simp at h; omega
theorem oneSl' (w : World) (x : Nat) : Sl (w.alloc (.cells #[.int .u64 x] 22)) .u64 (.slice (some ⟨w.heap.size, 0, none⟩) 1 1) [x] := by
  refine ⟨_, 1, rfl, Nat.le_refl _, fun _ => ⟨w.heap.size, 0, rfl, by simp, fun j hj => ?_⟩⟩
  have hj1 : j < 1 := hj
  obtain rfl : j = 0 := by omega
  simp [go_sem]
end Go.Proofs.YtaebipopmefkpaaGreatDoor

/-
  label: five words compared; Words, Same, Bucket.
-/
namespace Go.Proofs.YtaebipopmefkpaaGreatDoor
open Go.RowKit Go.Shelf Go.Sort

def laVals (L : List Int) : List Value := L.map (Value.int .u64)
theorem laAll_range : ∀ (xs ys : List Int), xs.length = ys.length → ((List.range xs.length).all fun i => xs.getD i 0 == ys.getD i 0) = (xs == ys)
  | [], [], _ => rfl
  | x :: xs, y :: ys, h => by
    have ih := laAll_range xs ys (by simpa using h)
    rw [List.length_cons, List.range_succ_eq_map, List.all_cons, List.all_map]
    simp only [List.getD_cons_zero, Function.comp_def, List.getD_cons_succ, ih]
    simp [List.cons_beq_cons]
  | [], _ :: _, h => by simp at h
  | _ :: _, [], h => by simp at h
theorem laEq_items {P : Program} (d : Nat) (e : TypeId) (he : P.underlying e = some (.int .u64)) (xs ys : List Int) (w : World) :
    ∀ l : List Nat, (∀ i ∈ l, i < xs.length ∧ i < ys.length) → (Op.eqItems (d + 1) e 1 (laVals xs).toArray (laVals ys).toArray l).run P w = .ok (l.all fun i => xs.getD i 0 == ys.getD i 0) w
  | [], _ => by simp [Op.eqItems]
  | i :: l, h => by
    obtain ⟨hx, hy⟩ := h i (by simp)
    have px : (part e (laVals xs).toArray (i * 1)).run P w = .ok (.int .u64 (xs.getD i 0)) w := by
      simp [part, isAgg, run_underlying he, List.getD, laVals, List.getElem?_eq_getElem hx]
    have py : (part e (laVals ys).toArray (i * 1)).run P w = .ok (.int .u64 (ys.getD i 0)) w := by
      simp [part, isAgg, run_underlying he, List.getD, laVals, List.getElem?_eq_getElem hy]
    have ih := laEq_items d e he xs ys w l (fun j hj => h j (by simp [hj]))
    simp only [Op.eqItems, Sem.run_bind, px, py, Result.andThen_ok, run_equalIn_int w d e .u64 .u64 _ _ he, List.all_cons]
    cases hb : (xs.getD i 0 == ys.getD i 0)
    · simp
    · simpa using ih
theorem laEqual {t : TypeId} {n : Nat} (ht : Tryz.prog.underlying t = some (.array n 22)) (d : Nat) (L M : List Int) (hL : L.length = n) (hM : M.length = n) (w : World) :
    (Op.equalIn (d + 2) t (.agg (laVals L).toArray) (.agg (laVals M).toArray)).run Tryz.prog w = .ok (L == M) w := by
  obtain ⟨i, hi⟩ := Option.isSome_iff_exists.1 (show (Tryz.prog.info? 22).isSome = true by kernel_rfl)
  rw [run_equalIn_array (w := w) (d + 1) _ _ ht hi, show Tryz.prog.cellsOf 22 = 1 by kernel_rfl, laEq_items d 22 Tryz.underlying22 L M w _ (fun i hi => by rw [List.mem_range] at hi; omega), ← laAll_range L M (by omega), hL]
/-- Are five words the same? -/
def same5 (l m : List Nat) : Bool := decide (∀ i, i < 5 → l[i]?.getD 0 = m[i]?.getD 0)
theorem five_same (l m : List Nat) : (([(l[0]?.getD 0 : Nat), (l[1]?.getD 0 : Nat), (l[2]?.getD 0 : Nat), (l[3]?.getD 0 : Nat), (l[4]?.getD 0 : Nat)] : List Int) == [((m[0]?.getD 0 : Nat) : Int), (m[1]?.getD 0 : Nat), (m[2]?.getD 0 : Nat), (m[3]?.getD 0 : Nat), (m[4]?.getD 0 : Nat)]) = same5 l m := by
  unfold same5
  rw [Bool.eq_iff_iff]
  simp only [beq_iff_eq, decide_eq_true_eq, List.cons.injEq, and_true]
  constructor
  · rintro ⟨h0, h1, h2, h3, h4⟩ i hi
    have : i = 0 ∨ i = 1 ∨ i = 2 ∨ i = 3 ∨ i = 4 := by omega
    rcases this with rfl | rfl | rfl | rfl | rfl
    · exact Int.ofNat_inj.1 h0
    · exact Int.ofNat_inj.1 h1
    · exact Int.ofNat_inj.1 h2
    · exact Int.ofNat_inj.1 h3
    · exact Int.ofNat_inj.1 h4
  · intro h
    exact ⟨congrArg _ (h 0 (by omega)), congrArg _ (h 1 (by omega)), congrArg _ (h 2 (by omega)), congrArg _ (h 3 (by omega)), congrArg _ (h 4 (by omega))⟩
theorem eql5 (l m : List Nat) (w : World) : (binOp .eql 92 (.agg (arr5 l)) (.agg (arr5 m))).run Tryz.prog w = .ok (.bool (same5 l m)) w := by
  have h := laEqual Tryz.underlying92 9998 [(l[0]?.getD 0 : Nat), (l[1]?.getD 0 : Nat), (l[2]?.getD 0 : Nat), (l[3]?.getD 0 : Nat), (l[4]?.getD 0 : Nat)] [(m[0]?.getD 0 : Nat), (m[1]?.getD 0 : Nat), (m[2]?.getD 0 : Nat), (m[3]?.getD 0 : Nat), (m[4]?.getD 0 : Nat)] rfl rfl w
  rw [five_same] at h
  rw [run_eql_struct]
  refine (congrArg (fun r : Result Bool => r.andThen fun b w' => Result.ok (Value.bool b) w') h).trans ?_
  rfl
/-- A block of five words. -/
abbrev Box5 (W : World) (b : Nat) (l : List Nat) : Prop := W.heap[b]? = some (.cells (arr5 l) 92)
theorem Box5.new (W : World) (l : List Nat) : Box5 (W.alloc (.cells (arr5 l) 92)) W.heap.size l := World.alloc_heap_new W _
theorem Box5.lt {W : World} {b : Nat} {l : List Nat} (h : Box5 W b l) : b < W.heap.size := (Array.getElem?_eq_some_iff.1 h).1
theorem Box5.below {W W' : World} {b : Nat} {l : List Nat} (h : Box5 W b l) (hb : Below W.heap.size W W') : Box5 W' b l := (hb.block _ h.lt).trans h
theorem Box5.cells {W : World} {b : Nat} {l : List Nat} (h : Box5 W b l) :
    W.cell? ⟨b, 0, none⟩ = some (.int .u64 (l[0]?.getD 0 : Nat)) ∧ W.cell? ⟨b, 1, none⟩ = some (.int .u64 (l[1]?.getD 0 : Nat)) ∧ W.cell? ⟨b, 2, none⟩ = some (.int .u64 (l[2]?.getD 0 : Nat)) ∧ W.cell? ⟨b, 3, none⟩ = some (.int .u64 (l[3]?.getD 0 : Nat)) ∧ W.cell? ⟨b, 4, none⟩ = some (.int .u64 (l[4]?.getD 0 : Nat)) := by
  refine ⟨?_, ?_, ?_, ?_, ?_⟩ <;> simp [World.cell?, h]
theorem Box5.frozen {W : World} {b : Nat} {l : List Nat} (h : Box5 W b l) :
    W.frozen? ⟨b, 0, none⟩ = false ∧ W.frozen? ⟨b, 1, none⟩ = false ∧ W.frozen? ⟨b, 2, none⟩ = false ∧ W.frozen? ⟨b, 3, none⟩ = false ∧ W.frozen? ⟨b, 4, none⟩ = false := by
  refine ⟨?_, ?_, ?_, ?_, ?_⟩ <;> simp [World.frozen?, h]
/-- Five stores. -/
def set5 (W : World) (b : Nat) (m : List Nat) : World := ((((W.setCell ⟨b, 0, none⟩ (.int .u64 (m[0]?.getD 0 : Nat))).setCell ⟨b, 1, none⟩ (.int .u64 (m[1]?.getD 0 : Nat))).setCell ⟨b, 2, none⟩ (.int .u64 (m[2]?.getD 0 : Nat))).setCell ⟨b, 3, none⟩ (.int .u64 (m[3]?.getD 0 : Nat))).setCell ⟨b, 4, none⟩ (.int .u64 (m[4]?.getD 0 : Nat))
theorem set5_box {W : World} {b : Nat} {l : List Nat} (h : Box5 W b l) (m : List Nat) : Box5 (set5 W b m) b m := by
  have step : ∀ (W : World) (c : Array Value) (i : Nat) (v : Value), W.heap[b]? = some (.cells c 92) → (W.setCell ⟨b, i, none⟩ v).heap[b]? = some (.cells (c.setIfInBounds i v) 92) := fun W c i v hc => by
    rw [setCell_eq_setRow W b i c _ _ v hc]
    exact setRow_heap W b c _ _ _ hc
  exact step _ _ 4 _ (step _ _ 3 _ (step _ _ 2 _ (step _ _ 1 _ (step _ _ 0 _ h))))
theorem set5_below {B b : Nat} {w W : World} (h : Below B w W) (hb : B ≤ b) (m : List Nat) : Below B w (set5 W b m) := by
  unfold set5
  exact ((((h.setCell (p := ⟨b, 0, none⟩) hb _).setCell (p := ⟨b, 1, none⟩) hb _).setCell (p := ⟨b, 2, none⟩) hb _).setCell (p := ⟨b, 3, none⟩) hb _).setCell (p := ⟨b, 4, none⟩) hb _
/-- What Words tells. -/
def wordsOut (s : List UInt8) : List Nat := if rightN s then wordsN s else []
set_option maxRecDepth 100000 in
set_option maxHeartbeats 2000000 in
theorem laWords_any (s : List UInt8) (w : World) :
    Calls Tryz.prog 119 #[encStr s] w fun e w' => e = .returned (.tuple #[.agg (arr5 (wordsOut s)), .int .i64 (errN s)]) ∧ Below w.heap.size w w' := by
  have HN := Lib.hid (fun W => named_any s W)
  cases hr : rightN s with
  | false =>
    have HO := Lib.hid (show wordsOut s = [] by unfold wordsOut; rw [hr]; rfl)
    have he : errN s = 160 := by unfold errN; rw [hr]; rfl
    have hn : nameN s = [] := by unfold nameN; rw [hr]; rfl
    rw [he, hn] at HN
    rw [HO.out, he]
    go_enter Tryz.func119, Tryz.ntmps119
    go_wp2_with fail
    refine (HN.out _).mono ?_
    rintro e w1 ⟨rfl, hb⟩
    have hz := hb.size
    rw [World.size_alloc] at hz
    have h1 : Box5 w1 w.heap.size [] := (Box5.new w []).below hb
    have HB1 : Hid (Below w.heap.size w w1) := show Below _ _ _ from ((Below.refl _ _).alloc (Nat.le_refl _) _).trans (hb.mono (by simp))
    have HX1 := Lib.hid h1
    obtain ⟨c0, c1, c2, c3, c4⟩ := h1.cells
    obtain ⟨f0, f1, f2, f3, f4⟩ := h1.frozen
    have lt := h1.lt
    clear hb hz h1
    go_wp2_with fail
    obtain ⟨W9, hW9⟩ : ∃ W9, (((((w1.setCell ⟨w.heap.size, 0, none⟩ (.int .u64 0)).setCell ⟨w.heap.size, 1, none⟩ (.int .u64 0)).setCell ⟨w.heap.size, 2, none⟩ (.int .u64 0)).setCell ⟨w.heap.size, 3, none⟩ (.int .u64 0)).setCell ⟨w.heap.size, 4, none⟩ (.int .u64 0)).alloc (.cells #[.string { data := #[] }] 212) = W9 := ⟨_, rfl⟩
    have h9 : Box5 W9 w.heap.size [] := by rw [← hW9]; exact (set5_box HX1.out []).below ((Below.refl _ _).alloc (Nat.le_refl _) _)
    have hb9 : Below w.heap.size w W9 := by
      rw [← hW9]
      have h := set5_below (b := w.heap.size) HB1.out (Nat.le_refl _) []
      exact h.alloc h.size _
    rw [hW9]
    obtain ⟨g0, g1, g2, g3, g4⟩ := h9.cells
    (try simp only [Exit.inBlock, Exit.then])
    refine bodyPost_ret (v := .tuple #[.agg (arr5 []), .int .i64 160]) (by simp [results, Tryz.results119, go_sem, g0, g1, g2, g3, g4]) rfl ⟨rfl, hb9⟩
  | true =>
    have HO := Lib.hid (show wordsOut s = wordsN s by unfold wordsOut; rw [hr]; rfl)
    have he : errN s = 0 := by unfold errN; rw [hr]; rfl
    have hn : nameN s = s := by unfold nameN; rw [hr]; rfl
    have HW := Lib.hid (fun W => laWords1_any s ((rightN_iff s).1 hr).2.1 W)
    rw [he, hn] at HN
    rw [HO.out, he]
    obtain ⟨xs, hxs⟩ : ∃ xs, wordsN s = xs := ⟨_, rfl⟩
    rw [hxs] at HW ⊢
    clear hxs
    go_enter Tryz.func119, Tryz.ntmps119
    go_wp2_with fail
    refine (HN.out _).mono ?_
    rintro e w1 ⟨rfl, hb⟩
    have HB := Lib.hid hb
    clear hb
    go_wp2_with fail
    refine (HW.out _).mono ?_
    rintro e w2 ⟨rfl, hb2⟩
    have hz := HB.out.size
    rw [World.size_alloc] at hz
    have hb1 : Below w1.heap.size w1 w2 := ((Below.refl _ _).alloc (Nat.le_refl _) _).trans (hb2.mono (by simp))
    have h2 : Box5 w2 w.heap.size [] := ((Box5.new w []).below HB.out).below hb1
    have HB2 : Hid (Below w.heap.size w w2) := show Below _ _ _ from ((Below.refl _ _).alloc (Nat.le_refl _) _).trans ((HB.out.mono (by simp)).trans (hb1.mono (by omega)))
    obtain ⟨c0, c1, c2, c3, c4⟩ := h2.cells
    obtain ⟨f0, f1, f2, f3, f4⟩ := h2.frozen
    have lt := h2.lt
    clear hb2 hb1 hz h2
    go_wp2_with fail
    refine bodyPost_ret (v := .tuple #[.agg (arr5 xs), .int .i64 0]) (by simp [results, Tryz.results119, go_sem, World.cell?_setCell_same', c0, c1, c2, c3, c4]) rfl ⟨rfl, ?_⟩
    exact set5_below (m := xs) HB2.out (Nat.le_refl _)
/-- Are these a name's words, of so many bytes? -/
def sameOut (s : List UInt8) (l : List Nat) (many : Int) : Bool := rightN s && (many == (s.length : Int)) && same5 (wordsN s) l
set_option maxRecDepth 100000 in
set_option maxHeartbeats 2000000 in
theorem laSame_any (s : List UInt8) (l : List Nat) (many : Int) (w : World) :
    Calls Tryz.prog 140 #[encStr s, .agg (arr5 l), .int .i64 many] w fun e w' => e = .returned (.bool (sameOut s l many)) ∧ Below w.heap.size w w' := by
  obtain ⟨W1, hW1⟩ : ∃ W1, w.alloc (.cells (arr5 l) 92) = W1 := ⟨_, rfl⟩
  have HB1 : Hid (Below w.heap.size w W1) := show Below _ _ _ by rw [← hW1]; exact (by repeat (first | exact Below.refl _ _ | assumption | refine Below.drew ?_ | refine below_drewN ?_ _ | refine Below.alloc ?_ (by (try simp) <;> omega) _ | refine Below.setCell ?_ (by (try simp) <;> omega) _ | refine Below.trans ?_ (Below.mono (by assumption) (by (try simp) <;> omega))))
  have HX1 : Hid (Box5 W1 w.heap.size l) := show Box5 _ _ _ by rw [← hW1]; exact Box5.new w l
  have HW := Lib.hid (laWords_any s W1)
  obtain ⟨x, hx⟩ : ∃ x, wordsOut s = x := ⟨_, rfl⟩
  have hq : ∀ W, (binOp .eql 92 (.agg (arr5 x)) (.agg (arr5 l))).run Tryz.prog W = .ok (.bool (same5 x l)) W := fun W => eql5 x l W
  rw [hx] at HW
  have HO : Hid (sameOut s l many = ((errN s == 0) && (many == (s.length : Int)) && same5 x l)) := show _ = _ by
    unfold sameOut errN
    rw [← hx]
    unfold wordsOut
    cases rightN s <;> rfl
  obtain ⟨er, her⟩ : ∃ er, errN s = er := ⟨_, rfl⟩
  rw [her] at HW HO
  clear hx her
  go_enter Tryz.func140, Tryz.ntmps140
  go_wp2_with fail
  refine HW.out.mono ?_
  rintro e w2 ⟨rfl, hb2⟩
  obtain ⟨W3, hW3⟩ : ∃ W3, w2.alloc (.cells (arr5 x) 92) = W3 := ⟨_, rfl⟩
  have HB3 : Hid (Below w.heap.size w W3) := show Below _ _ _ by
    rw [← hW3]
    exact (HB1.out.trans (hb2.mono HB1.out.size)).alloc (Nat.le_trans HB1.out.size hb2.size) _
  have HX3 : Hid (Box5 W3 w.heap.size l) := show Box5 _ _ _ by
    rw [← hW3]
    exact (HX1.out.below hb2).below ((Below.refl _ _).alloc (Nat.le_refl _) _)
  have HY3 : Hid (Box5 W3 w2.heap.size x) := show Box5 _ _ _ by rw [← hW3]; exact Box5.new w2 x
  obtain ⟨c0, c1, c2, c3, c4⟩ := HX3.out.cells
  obtain ⟨d0, d1, d2, d3, d4⟩ := HY3.out.cells
  clear hb2 hW1
  go_wp2_with fail
  all_goals go_ret
  all_goals refine ⟨?_, HB3.out⟩
  all_goals rw [HO.out]
  all_goals simp_all
end Go.Proofs.YtaebipopmefkpaaGreatDoor

/-
  node: bounds, numbers, chunks.
-/
namespace Go.Proofs.YtaebipopmefkpaaGreatDoor
open Go.RowKit Go.Shelf Go.Sort
attribute [local go_sem] Oper.semAt_some

/-- Does a number lie between? -/
def inB (t : Int × Int × Int) : Bool := decide (t.2.1 ≤ t.1 ∧ t.1 ≤ t.2.2)
/-- Bounds in a block. -/
def BoundsAt (w : World) (g : Nat) (L : List (Int × Int × Int)) : Prop := g < w.heap.size ∧ ∀ k (hk : k < L.length), w.cell? ⟨g, k * 3, none⟩ = some (.int .i64 L[k].1) ∧ w.cell? ⟨g, k * 3 + 1, none⟩ = some (.int .i64 L[k].2.1) ∧ w.cell? ⟨g, k * 3 + 2, none⟩ = some (.int .i64 L[k].2.2)
set_option maxRecDepth 100000 in
theorem within_any (L : List (Int × Int × Int)) (hl : L.length ≤ 100) (g : Nat) (w : World) (h : BoundsAt w g L) :
    Calls Tryz.prog 80 #[.slice (some ⟨g, 0, none⟩) L.length L.length] w fun e w' => e = .returned (.bool (L.all inB)) ∧ Below w.heap.size w w' := by
  have HC := Lib.hid h
  clear h
  obtain ⟨M, hM⟩ : ∃ M, L.length = M := ⟨_, rfl⟩
  have HM := Lib.hid hM
  rw [hM] at hl ⊢
  clear hM
  go_enter Tryz.func80, Tryz.ntmps80
  go_wp2_with fail
  go_loopw [7] (fun i wr => ∃ k : Nat, k ≤ M ∧ i = .int .i64 (k : Nat) ∧ Hid ((L.take k).all inB = true) ∧ Hid (Below w.heap.size w wr)) (fun i _ => M - (intOf i).toNat)
  case atStart => exact ⟨0, Nat.zero_le _, rfl, (show _ = _ from rfl), (show Below _ _ _ from Below.refl _ _)⟩
  case round =>
    obtain ⟨k, hk, rfl, HT, HB⟩ := hrel
    by_cases hlt : k < M
    · have hkl : k < L.length := by rw [HM.out]; exact hlt
      obtain ⟨c0, c1, c2⟩ := HC.out.2 k hkl
      have cw : ∀ o, wr.cell? ⟨g, o, none⟩ = w.cell? ⟨g, o, none⟩ := fun o => HB.out.cell (p := ⟨g, o, none⟩) HC.out.1
      rw [← cw] at c0 c1 c2
      have HA : Hid ((L.take (k + 1)).all inB = inB L[k]) := show _ = _ by
        rw [List.take_succ_eq_append_getElem hkl, List.all_append, HT.out, List.all_cons]; simp
      have HALL : Hid (inB L[k] = false → L.all inB = false) := show _ → _ from fun h => by
        rw [Bool.eq_false_iff]
        intro hh
        rw [(List.all_eq_true.1 hh) _ (List.getElem_mem hkl)] at h
        cases h
      obtain ⟨⟨a, b, c⟩, hx⟩ : ∃ x, L[k] = x := ⟨_, rfl⟩
      rw [hx] at c0 c1 c2 HA HALL
      have k2 : (k : Int) < (M : Int) := by omega
      clear cw hx
      by_cases hab : a < b
      · have HR : Hid (L.all inB = false) := show _ = _ from HALL.out (by unfold inB; simp; omega)
        clear HALL
        go_wp2_with fail
        go_ret
        exact ⟨by rw [HR.out]; rfl, HB.out.alloc HB.out.size _⟩
      · by_cases hca : c < a
        · have HR : Hid (L.all inB = false) := show _ = _ from HALL.out (by unfold inB; simp; omega)
          clear HALL
          go_wp2_with fail
          go_ret
          exact ⟨by rw [HR.out]; rfl, HB.out.alloc HB.out.size _⟩
        · have HT2 : Hid ((L.take (k + 1)).all inB = true) := show _ = _ by rw [HA.out]; unfold inB; simp; omega
          clear HALL HA
          go_wp2_with fail
          go_roundw
          case rel => exact ⟨k + 1, by omega, by go_num, HT2, (show Below _ _ _ from HB.out.alloc HB.out.size _)⟩
          case measure => simp [intOf]; omega
    · obtain rfl : k = M := by omega
      have HR : Hid (L.all inB = true) := show _ = _ by have h := HT.out; rwa [List.take_of_length_le (by rw [HM.out]; exact Nat.le_refl _)] at h
      go_wp2_with fail
      go_ret
      exact ⟨by rw [HR.out]; rfl, HB.out⟩
/-- What a number lies between, by which function. -/
def LiesAt (f : FuncId) (lo hi : Int) : Prop := Enters Tryz.prog f ∧ ∀ (n : Int) (W : World), Calls Tryz.prog f #[.int .i64 n] W fun e w' => e = .returned (.agg #[.int .i64 n, .int .i64 lo, .int .i64 hi]) ∧ Below W.heap.size W w'
theorem needed_lies : LiesAt 42 1 1023 := ⟨enters_of Tryz.func42 (by kernel_rfl) rfl, fun n W => by
  go_enter Tryz.func42, Tryz.ntmps42
  go_wp2
  refine bodyPost_ret (v := .agg #[.int .i64 n, .int .i64 1, .int .i64 1023]) (by simp [results, Tryz.results42, go_sem]) rfl ⟨rfl, (by repeat (first | exact Below.refl _ _ | assumption | refine Below.drew ?_ | refine below_drewN ?_ _ | refine Below.alloc ?_ (by (try simp) <;> omega) _ | refine Below.setCell ?_ (by (try simp) <;> omega) _ | refine Below.trans ?_ (Below.mono (by assumption) (by (try simp) <;> omega))))⟩⟩
theorem pointed_lies : LiesAt 64 0 1023 := ⟨enters_of Tryz.func64 (by kernel_rfl) rfl, fun n W => by
  go_enter Tryz.func64, Tryz.ntmps64
  go_wp2
  refine bodyPost_ret (v := .agg #[.int .i64 n, .int .i64 0, .int .i64 1023]) (by simp [results, Tryz.results64, go_sem]) rfl ⟨rfl, (by repeat (first | exact Below.refl _ _ | assumption | refine Below.drew ?_ | refine below_drewN ?_ _ | refine Below.alloc ?_ (by (try simp) <;> omega) _ | refine Below.setCell ?_ (by (try simp) <;> omega) _ | refine Below.trans ?_ (Below.mono (by assumption) (by (try simp) <;> omega))))⟩⟩
theorem sized_lies : LiesAt 57 0 448 := ⟨enters_of Tryz.func57 (by kernel_rfl) rfl, fun n W => by
  go_enter Tryz.func57, Tryz.ntmps57
  go_wp2
  refine bodyPost_ret (v := .agg #[.int .i64 n, .int .i64 0, .int .i64 448]) (by simp [results, Tryz.results57, go_sem]) rfl ⟨rfl, (by repeat (first | exact Below.refl _ _ | assumption | refine Below.drew ?_ | refine below_drewN ?_ _ | refine Below.alloc ?_ (by (try simp) <;> omega) _ | refine Below.setCell ?_ (by (try simp) <;> omega) _ | refine Below.trans ?_ (Below.mono (by assumption) (by (try simp) <;> omega))))⟩⟩
theorem lines_lies : LiesAt 44 8 1024 := ⟨enters_of Tryz.func44 (by kernel_rfl) rfl, fun n W => by
  go_enter Tryz.func44, Tryz.ntmps44
  go_wp2
  refine bodyPost_ret (v := .agg #[.int .i64 n, .int .i64 8, .int .i64 1024]) (by simp [results, Tryz.results44, go_sem]) rfl ⟨rfl, (by repeat (first | exact Below.refl _ _ | assumption | refine Below.drew ?_ | refine below_drewN ?_ _ | refine Below.alloc ?_ (by (try simp) <;> omega) _ | refine Below.setCell ?_ (by (try simp) <;> omega) _ | refine Below.trans ?_ (Below.mono (by assumption) (by (try simp) <;> omega))))⟩⟩
theorem mostLinks_any (k : Int) (w : World) : Calls Tryz.prog 91 #[.int .i64 k] w fun e w' => e = .returned (.int .i64 (if k = 2 then 1 else 200)) ∧ w' = w := by
  by_cases h : k = 2
  · subst h
    go_enter Tryz.func91, Tryz.ntmps91
    go_wp2
    go_ret
    exact ⟨rfl, rfl⟩
  · rw [if_neg h]
    have h' : (k == 2) = false := by simpa using h
    go_enter Tryz.func91, Tryz.ntmps91
    go_wp2
    go_ret
    exact ⟨rfl, rfl⟩
theorem number_anyN (x : Int) (h0 : 0 ≤ x) (w : World) : Calls Tryz.prog 87 #[.int .u64 x] w fun e w' => w' = w ∧ ((x ≤ 1024 ∧ e = .returned (.int .i64 x)) ∨ (1024 < x ∧ e = .panicked noLine)) := by
  by_cases h : x ≤ 1024
  · go_enter Tryz.func87, Tryz.ntmps87
    go_wp2_with (go_at_call 48; refine (mustBe_any _ _).mono ?_; rintro e w' (⟨-, ⟨u, rfl⟩, rfl⟩ | ⟨h2, -, -⟩); rotate_left; · cases h2)
    go_ret
    exact ⟨rfl, .inl ⟨h, by simp⟩⟩
  · go_enter Tryz.func87, Tryz.ntmps87
    go_wp2_with (go_at_call 48; refine (mustBe_any _ _).mono ?_; rintro e w' (⟨h2, -, -⟩ | ⟨-, rfl, rfl⟩); · cases h2)
    exact ⟨rfl, rfl, .inr ⟨by omega, rfl⟩⟩
/-- A number among cells. -/
def numAt (x : Array Value) (i : Nat) : Int := match x[i]? with
  | some (.int _ n) => n
  | _ => 0
def rdNum (y : Int) (x : Array Value) (i : Nat) : Option (Array Value) := if y ≤ 1024 then some (x.setIfInBounds i (.int .i64 y)) else none
/-- What a number's part does. -/
def numS (wd i : Nat) (lo hi : Int) : NdS :=
  { ok := fun x => inB (numAt x i, lo, hi), wr := fun x l => l.set wd (numAt x i % 18446744073709551616), rd := fun l x => rdNum (l[wd]?.getD 0) x i }
/-- A closure that tells where a field is. -/
def FieldAt (w : World) (f : FuncId) (lb : Array Value) (i : Nat) : Prop := Enters Tryz.prog f ∧ ∀ (b : Nat) (W : World), Below w.heap.size w W → Calls Tryz.prog f (#[.pointer (some ⟨b, 0, none⟩)] ++ lb) W fun e w' => e = .returned (.pointer (some ⟨b, i, none⟩)) ∧ Below W.heap.size W w'
theorem FieldAt.below {w w1 : World} {f : FuncId} {lb : Array Value} {i : Nat} (h : FieldAt w f lb i) (hb : Below w.heap.size w w1) : FieldAt w1 f lb i := ⟨h.1, fun b W hW => h.2 b W (hb.trans (hW.mono hb.size))⟩
structure NumGood (Good : Array Value → Prop) (i : Nat) : Prop where
  at_ : ∀ x, Good x → ∃ n, x[i]? = some (.int .i64 n) ∧ -9223372036854775808 ≤ n ∧ n < 9223372036854775808
  set : ∀ x n, Good x → 0 ≤ n → n ≤ 1024 → Good (x.setIfInBounds i (.int .i64 n))
theorem numAt_of {x : Array Value} {i : Nat} {n : Int} (h : x[i]? = some (.int .i64 n)) : numAt x i = n := by unfold numAt; rw [h]
theorem bounds_one {W : World} (a b c : Int) : BoundsAt (W.alloc (.cells #[.int .i64 a, .int .i64 b, .int .i64 c] 112)) W.heap.size [(a, b, c)] :=
  ⟨by simp, fun k hk => by
    have h0 : k = 0 := by simpa using hk
    subst h0
    have h := Blk.new W 112 #[.int .i64 a, .int .i64 b, .int .i64 c]
    exact ⟨h.cell rfl, h.cell rfl, h.cell rfl⟩⟩
theorem bounds_two {W : World} (a b c d e f : Int) : BoundsAt (W.alloc (.cells #[.int .i64 a, .int .i64 b, .int .i64 c, .int .i64 d, .int .i64 e, .int .i64 f] 112)) W.heap.size [(a, b, c), (d, e, f)] :=
  ⟨by simp, fun k hk => by
    have h := Blk.new W 112 #[.int .i64 a, .int .i64 b, .int .i64 c, .int .i64 d, .int .i64 e, .int .i64 f]
    match k, hk with
    | 0, _ => exact ⟨h.cell rfl, h.cell rfl, h.cell rfl⟩
    | 1, _ => exact ⟨h.cell rfl, h.cell rfl, h.cell rfl⟩⟩
end Go.Proofs.YtaebipopmefkpaaGreatDoor

/-
  Slices of elements of any number of cells: what is read (Vec), what is appended to (GrowB); append of the one to the other; clones.
-/
namespace Go.Proofs.YtaebipopmefkpaaGreatDoor
open Go.RowKit Go.Shelf

/-- v is a slice of n elements of s cells each, which holds the cells xs. -/
def Vec (W : World) (v : Value) (n s : Nat) (xs : List Value) : Prop :=
  xs.length = n * s ∧ ∃ a cap, v = .slice a n cap ∧ n ≤ cap ∧ (0 < n → ∃ b off, a = some ⟨b, off, none⟩ ∧ b < W.heap.size ∧ ∀ j y, xs[j]? = some y → W.cell? ⟨b, off + j, none⟩ = some y)
theorem Vec.keeps {W W' : World} {v : Value} {n s : Nat} {xs : List Value} (h : Vec W v n s xs) (hk : ∀ b, b < W.heap.size → b < W'.heap.size ∧ W'.heap[b]? = W.heap[b]?) : Vec W' v n s xs := by
  obtain ⟨hl, a, cap, hv, hc, hj⟩ := h
  refine ⟨hl, a, cap, hv, hc, fun h0 => ?_⟩
  obtain ⟨b, off, ha, hb, hx⟩ := hj h0
  exact ⟨b, off, ha, (hk b hb).1, fun j y hy => (World.cell?_of_block (a := ⟨b, off + j, none⟩) (hk b hb).2).trans (hx j y hy)⟩
theorem Vec.below {W W' : World} {v : Value} {n s : Nat} {xs : List Value} (h : Vec W v n s xs) (hb : Below W.heap.size W W') : Vec W' v n s xs :=
  h.keeps fun b hl => ⟨Nat.lt_of_lt_of_le hl hb.size, hb.block b hl⟩
theorem Vec.slice {W : World} {v : Value} {n s : Nat} {xs : List Value} (h : Vec W v n s xs) : ∃ a cap, v = .slice a n cap := by
  obtain ⟨-, a, cap, hv, -⟩ := h
  exact ⟨a, cap, hv⟩
theorem vec_of_own {W : World} {base : Nat} {e : TypeId} {v : Value} {n s : Nat} {xs : List Value} (h : W.ownsRow base e s v n xs) : Vec W v n s xs := by
  refine ⟨h.1, ?_⟩
  rcases h.2 with ⟨rfl, h0⟩ | ⟨g, cap, cur, rfl, hb, hg, hc, hm, hs, ht⟩
  · exact ⟨none, 0, by rw [h0], by omega, fun h => by omega⟩
  · refine ⟨_, cap, rfl, hc, fun _ => ⟨g, 0, rfl, (Array.getElem?_eq_some_iff.1 hg).1, fun j y hy => ?_⟩⟩
    have hj : j < n * s := by rw [← h.1]; exact (List.getElem?_eq_some_iff.1 hy).1
    rw [Nat.zero_add, World.ownsRow.cellAt h j hj]
    exact hy
/-- A slice to which one appends: empty, with no room; or a row that lies from B on. -/
def GrowB (W : World) (B : Nat) (e : TypeId) (s : Nat) (v : Value) (n : Nat) (xs : List Value) : Prop :=
  (n = 0 ∧ xs = [] ∧ ∃ ad, v = .slice (some ad) 0 0) ∨ W.ownsRow B e s v n xs
theorem GrowB.vec {W : World} {B : Nat} {e : TypeId} {s : Nat} {v : Value} {n : Nat} {xs : List Value} (h : GrowB W B e s v n xs) : Vec W v n s xs := by
  rcases h with ⟨rfl, rfl, ad, rfl⟩ | h
  · exact ⟨by simp, some ad, 0, rfl, Nat.le_refl _, fun h => absurd h (by simp)⟩
  · exact vec_of_own h
theorem GrowB.keeps {W W' : World} {B : Nat} {e : TypeId} {s : Nat} {v : Value} {n : Nat} {xs : List Value} (h : GrowB W B e s v n xs) (hk : ∀ b, b < W.heap.size → W'.heap[b]? = W.heap[b]?) : GrowB W' B e s v n xs := by
  rcases h with h | ⟨hl, h⟩
  · exact .inl h
  · refine .inr ⟨hl, h.imp id fun ⟨g, cap, cur, hv, hb, hg, hr⟩ => ⟨g, cap, cur, hv, hb, ?_, hr⟩⟩
    rw [hk g (Array.getElem?_eq_some_iff.1 hg).1]
    exact hg
theorem GrowB.below {W W' : World} {B : Nat} {e : TypeId} {s : Nat} {v : Value} {n : Nat} {xs : List Value} (h : GrowB W B e s v n xs) (hb : Below W.heap.size W W') : GrowB W' B e s v n xs := h.keeps fun b hl => hb.block b hl
theorem GrowB.slice {W : World} {B : Nat} {e : TypeId} {s : Nat} {v : Value} {n : Nat} {xs : List Value} (h : GrowB W B e s v n xs) : ∃ a cap, v = .slice a n cap := h.vec.slice
theorem GrowB.low {W : World} {B B' : Nat} {e : TypeId} {s : Nat} {v : Value} {n : Nat} {xs : List Value} (h : GrowB W B e s v n xs) (hb : B' ≤ B) : GrowB W B' e s v n xs :=
  h.imp id fun h => ⟨h.1, h.2.imp id fun ⟨g, cap, cur, h1, h2, h3⟩ => ⟨g, cap, cur, h1, Nat.le_trans hb h2, h3⟩⟩
theorem GrowB.new (W : World) (B : Nat) (e : TypeId) (s : Nat) : GrowB W B e s (.slice none 0 0) 0 [] := .inr (World.ownsRow_nil _ _ _ _)
/-- What an append does: a row of both; of what there was only the old row's room is written. -/
theorem vec_append_run {P : Program} (w : World) (t ty e : TypeId) (i : TypeInfo) (z : Value) (s bytes : Nat) (h1 : P.underlying t = some (.slice e)) (h2 : P.info? e = some i) (h3 : i.zero = some z) (h4 : i.size = s) (h5 : i.bytes = bytes) (h6 : z.cells.size = s) (h7 : 0 < s)
    (B : Nat) (v u : Value) (n m : Nat) (xs ys : List Value) (hG : GrowB w B e s v n xs) (hV : Vec w u m s ys) (one : ∀ u ∈ ys, u.oneCell' = true) (hl : n + m ≤ 1000000) (hby : (n + m) * bytes ≤ 140737488355328) (hB : B ≤ w.heap.size) :
    ∃ v' w', (Builtin.append_ #[t, t] ty #[v, u]).run P w = .ok v' w' ∧ GrowB w' B e s v' (n + m) (xs ++ ys) ∧ Below B w w' ∧ w.grownBy w' v.ownBlock ∧ (∀ g, v'.ownBlock = some g → v.ownBlock = some g ∨ g = w.heap.size) ∧ (w.ownsRow B e s v n xs → w'.ownsRow B e s v' (n + m) (xs ++ ys)) := by
  obtain ⟨hlen, ad, cap, rfl, hlc, hc⟩ := hV
  rcases Nat.eq_zero_or_pos m with h0 | h0
  · subst h0
    have hys : ys = [] := List.eq_nil_of_length_eq_zero (by rw [hlen, Nat.zero_mul])
    subst hys
    have hrun : (Builtin.append_ #[t, t] ty #[v, .slice ad 0 cap]).run P w = .ok v w := by
      rcases hG with ⟨_, _, g, rfl⟩ | hG
      · cases ad <;> simp [Builtin.append_, run_underlying h1, sizeOf, typeInfo, h2, Builtin.lenOf, Builtin.firstCells, storeCells, loadCells, loadCellsFrom]
      · rcases hG.2 with ⟨rfl, e0⟩ | ⟨g, c, cur, rfl, _, _, hnc, _⟩
        · cases ad <;> simp [Builtin.append_, run_underlying h1, sizeOf, typeInfo, h2, Builtin.lenOf, Builtin.firstCells, loadCells, loadCellsFrom]
        · cases ad <;> simp [Builtin.append_, run_underlying h1, sizeOf, typeInfo, h2, Builtin.lenOf, Builtin.firstCells, hnc, storeCells, loadCells, loadCellsFrom]
    exact ⟨v, w, hrun, by rw [List.append_nil]; exact hG, Below.refl _ _, World.grownBy.refl w _, fun g h => .inl h, fun h => by rw [List.append_nil]; exact h⟩
  · obtain ⟨b, off, rfl, _, hcell⟩ := hc h0
    have hcells : ∀ j y, ys[j]? = some y → w.cell? ((⟨b, off, none⟩ : Addr).add j) = some y := fun j y hy => by
      have e1 : (⟨b, off, none⟩ : Addr).add j = ⟨b, off + j, none⟩ := by
        unfold Addr.add; split <;> simp_all
      rw [e1]
      exact hcell j y hy
    have key : ∀ (v : Value), w.ownsRow B e s v n xs → ∃ v' w', (Builtin.append_ #[t, t] ty #[v, .slice (some ⟨b, off, none⟩) m cap]).run P w = .ok v' w' ∧ w'.ownsRow B e s v' (n + m) (xs ++ ys) ∧ Below B w w' ∧ w.grownBy w' v.ownBlock ∧ ∀ g, v'.ownBlock = some g → v.ownBlock = some g ∨ g = w.heap.size := fun v hown => by
      obtain ⟨v', w', hrun, r1, r2, _, r3⟩ := run_append_own_at (P := P) w B t ty e i z s bytes h1 h2 h3 h4 h5 h6 h7 v n xs hown ⟨b, off, none⟩ m cap ys hlen hcells one (by unfold maxLen; omega) hby hB
      exact ⟨v', w', hrun, r1, (Below.refl B w).grown r2 hB fun k e => (hown.lt k e).1, r2, fun g h => r3.elim (fun e => .inl (by rw [← e]; exact h)) fun e => .inr (by rw [h] at e; exact Option.some.inj e)⟩
    rcases hG with ⟨rfl, rfl, g, rfl⟩ | hG
    · have hby2 : m * bytes ≤ 140737488355328 := by rw [Nat.zero_add] at hby; exact hby
      have hr := run_append_grow (P := P) w t ty e i z h1 h2 h3 g 0 0 [] (by simp) (by simp) ⟨b, off, none⟩ m cap ys (by rw [hlen, h4]) hcells (by omega) (by omega) (by rw [h5]; exact growslice_fits (by omega) hby)
      have hr0 := run_append_nil (P := P) w t ty e i z h1 h2 h3 ⟨b, off, none⟩ m cap ys (by rw [hlen, h4]) hcells (by omega) (by omega) (by rw [h5]; exact Nat.le_trans hby2 (by decide))
      obtain ⟨v', w', hrun, r1, r2, r3, r4⟩ := key (.slice none 0 0) (World.ownsRow_nil _ _ _ _)
      refine ⟨v', w', ?_, .inr r1, r2, ⟨r3.os, r3.tape, r3.output, r3.size, fun k hk _ => r3.block k hk (by simp [Value.ownBlock])⟩, fun g h => (r4 g h).imp (fun h => by simp [Value.ownBlock] at h) id, fun _ => r1⟩
      rw [hr, ← hrun, hr0]
      simp
    · obtain ⟨v', w', hrun, r1, r2, r3, r4⟩ := key v hG
      exact ⟨v', w', hrun, .inr r1, r2, r3, r4, fun _ => r1⟩
/-- At an append. -/
theorem wpList_append_vec {P : Program} {w : World} {ops : Array Oper} {rest : List Oper} {o : Oper} {a : Act} {Q : Exit → Act → World → Prop} (hgd : o.guard = none) (sx x : Operand) (t : TypeId)
    (ho : o.op = .call { callee := .builtin .append, args := #[sx, x], argTypes := #[t, t] }) (e : TypeId) (i : TypeInfo) (z : Value) (s bytes : Nat) (h1 : P.underlying t = some (.slice e)) (h2 : P.info? e = some i) (h3 : i.zero = some z) (h4 : i.size = s) (h5 : i.bytes = bytes) (h6 : z.cells.size = s) (h7 : 0 < s)
    (B : Nat) (v u : Value) (n m : Nat) (xs ys : List Value) (hv : a.eval sx = v) (hu : a.eval x = u) (hG : GrowB w B e s v n xs) (hV : Vec w u m s ys) (one : ∀ u ∈ ys, u.oneCell' = true) (hl : n + m ≤ 1000000) (hby : (n + m) * bytes ≤ 140737488355328) (hB : B ≤ w.heap.size)
    (h : ∀ v' w', GrowB w' B e s v' (n + m) (xs ++ ys) → Below B w w' → (w.grownBy w' v.ownBlock ∧ (∀ g, v'.ownBlock = some g → v.ownBlock = some g ∨ g = w.heap.size) ∧ (w.ownsRow B e s v n xs → w'.ownsRow B e s v' (n + m) (xs ++ ys))) → wpList P ops Q rest (a.put o.dst v') w') : wpList P ops Q (o :: rest) a w :=
  wpList_plain hgd fun K hK => by
    obtain ⟨v', w', hr, r1, r2, r3⟩ := vec_append_run (P := P) w t o.type e i z s bytes h1 h2 h3 h4 h5 h6 h7 B v u n m xs ys hG hV one hl hby hB
    unfold Oper.wp execOp
    simp only [ho, resolve, invoke, builtin, Sem.run_bind, Sem.run_pure, Result.andThen_ok, List.map_toArray, List.map_cons, List.map_nil, hv, hu, hr]
    exact hK _ _ (h v' w' r1 r2 r3)
/-- .. under a condition that holds. -/
theorem wpList_append_vecW {P : Program} {w : World} {ops : Array Oper} {rest : List Oper} {o : Oper} {a : Act} {Q : Exit → Act → World → Prop} (hwt : Region.wanted o (yielded ops a.tmps) = true) (sx x : Operand) (t : TypeId)
    (ho : o.op = .call { callee := .builtin .append, args := #[sx, x], argTypes := #[t, t] }) (e : TypeId) (i : TypeInfo) (z : Value) (s bytes : Nat) (h1 : P.underlying t = some (.slice e)) (h2 : P.info? e = some i) (h3 : i.zero = some z) (h4 : i.size = s) (h5 : i.bytes = bytes) (h6 : z.cells.size = s) (h7 : 0 < s)
    (B : Nat) (v u : Value) (n m : Nat) (xs ys : List Value) (hv : a.eval sx = v) (hu : a.eval x = u) (hG : GrowB w B e s v n xs) (hV : Vec w u m s ys) (one : ∀ u ∈ ys, u.oneCell' = true) (hl : n + m ≤ 1000000) (hby : (n + m) * bytes ≤ 140737488355328) (hB : B ≤ w.heap.size)
    (h : ∀ v' w', GrowB w' B e s v' (n + m) (xs ++ ys) → Below B w w' → (w.grownBy w' v.ownBlock ∧ (∀ g, v'.ownBlock = some g → v.ownBlock = some g ∨ g = w.heap.size) ∧ (w.ownsRow B e s v n xs → w'.ownsRow B e s v' (n + m) (xs ++ ys))) → wpList P ops Q rest (a.put o.dst v') w') : wpList P ops Q (o :: rest) a w :=
  BigFrame.wpList_want hwt fun K hK => by
    obtain ⟨v', w', hr, r1, r2, r3⟩ := vec_append_run (P := P) w t o.type e i z s bytes h1 h2 h3 h4 h5 h6 h7 B v u n m xs ys hG hV one hl hby hB
    unfold Oper.wp execOp
    simp only [ho, resolve, invoke, builtin, Sem.run_bind, Sem.run_pure, Result.andThen_ok, List.map_toArray, List.map_cons, List.map_nil, hv, hu, hr]
    exact hK _ _ (h v' w' r1 r2 r3)
/-- The cells of a list whose elements have so many each. -/
def flatC {α : Type} (f : α → List Value) (l : List α) : List Value := l.flatMap f
theorem flatC_length {α : Type} {f : α → List Value} {s : Nat} (hf : ∀ x, (f x).length = s) : ∀ l : List α, (flatC f l).length = l.length * s
  | [] => by simp [flatC]
  | x :: l => by
    have h := flatC_length hf l
    unfold flatC at h ⊢
    rw [List.flatMap_cons, List.length_append, h, hf, List.length_cons, Nat.add_mul, Nat.one_mul, Nat.add_comm]
theorem flatC_append {α : Type} (f : α → List Value) (l m : List α) : flatC f (l ++ m) = flatC f l ++ flatC f m := by simp [flatC, List.flatMap_append]
theorem flatC_one {α : Type} (f : α → List Value) (x : α) : flatC f [x] = f x := by simp [flatC]
theorem flatC_at {α : Type} {f : α → List Value} {s : Nat} (hf : ∀ x, (f x).length = s) : ∀ (l : List α) (k : Nat) (hk : k < l.length) (j : Nat), j < s → (flatC f l)[k * s + j]? = (f l[k])[j]?
  | x :: l, 0, _, j, hj => by
    show (flatC f (x :: l))[0 * s + j]? = (f x)[j]?
    rw [Nat.zero_mul, Nat.zero_add]
    unfold flatC
    rw [List.flatMap_cons, List.getElem?_append_left (by rw [hf]; exact hj)]
  | x :: l, k + 1, hk, j, hj => by
    have h := flatC_at hf l k (by simpa using hk) j hj
    show (flatC f (x :: l))[(k + 1) * s + j]? = (f (l[k]'(by simpa using hk)))[j]?
    rw [← h]
    unfold flatC
    rw [List.flatMap_cons, List.getElem?_append_right (by rw [hf, Nat.add_mul]; omega), hf]
    congr 1
    rw [Nat.add_mul]
    omega
theorem flatC_all {α : Type} {f : α → List Value} {p : Value → Prop} (hf : ∀ x, ∀ u ∈ f x, p u) (l : List α) : ∀ u ∈ flatC f l, p u := fun u hu => by
  obtain ⟨x, _, hx⟩ := List.mem_flatMap.1 hu
  exact hf x u hx
/-- An element of a list in memory, cell by cell. -/
theorem Vec.at_ {α : Type} {f : α → List Value} {s : Nat} (hf : ∀ x, (f x).length = s) {W : World} {v : Value} {l : List α} (h : Vec W v l.length s (flatC f l)) (k : Nat) (hk : k < l.length) :
    ∃ b off cap, v = .slice (some ⟨b, off, none⟩) l.length cap ∧ b < W.heap.size ∧ W.rangeAt b (off + k * s) (f l[k]) := by
  obtain ⟨-, a, cap, hv, -, hj⟩ := h
  obtain ⟨b, off, ha, hb, hx⟩ := hj (by omega)
  refine ⟨b, off, cap, by rw [hv, ha], hb, fun j y hy => ?_⟩
  have hjs : j < s := by rw [← hf l[k]]; exact (List.getElem?_eq_some_iff.1 hy).1
  rw [Nat.add_assoc]
  exact hx _ _ ((flatC_at hf l k hk j hjs).trans hy)
theorem Vec.of_at {α : Type} {f : α → List Value} {s : Nat} (hf : ∀ x, (f x).length = s) (h0 : 0 < s) {W : World} {a : Option Addr} {cap : Nat} {l : List α} (hc : l.length ≤ cap) (h : 0 < l.length → ∃ b off, a = some ⟨b, off, none⟩ ∧ b < W.heap.size ∧ ∀ (k : Nat) (hk : k < l.length), W.rangeAt b (off + k * s) (f l[k])) :
    Vec W (.slice a l.length cap) l.length s (flatC f l) := by
  refine ⟨flatC_length hf l, a, cap, rfl, hc, fun hp => ?_⟩
  obtain ⟨b, off, ha, hb, hr⟩ := h hp
  refine ⟨b, off, ha, hb, fun j y hy => ?_⟩
  have hj : j < l.length * s := by rw [← flatC_length hf l]; exact (List.getElem?_eq_some_iff.1 hy).1
  have hk : j / s < l.length := Nat.div_lt_of_lt_mul (by rw [Nat.mul_comm]; exact hj)
  have e := flatC_at hf l (j / s) hk (j % s) (Nat.mod_lt _ h0)
  rw [Nat.div_add_mod' j s, hy] at e
  have := hr (j / s) hk (j % s) y e.symm
  rw [Nat.add_assoc, Nat.div_add_mod'] at this
  exact this
end Go.Proofs.YtaebipopmefkpaaGreatDoor

/-
  node: values of whole numbers; the closures that tell fields; slices of parts.
-/
namespace Go.Proofs.YtaebipopmefkpaaGreatDoor
open Go.RowKit Go.Shelf Go.Sort
attribute [local go_sem] Oper.semAt_some

/-- A load of which the run is known. -/
theorem ndList_load {P : Program} {ops : Array Oper} {rest : List Oper} {op : Oper} {a : Act} {w : World} {Q : Exit → Act → World → Prop} (hgd : op.guard = none) (ty : TypeId) (x : Operand) (ho : op.op = .load ty x)
    (p v : Value) (hx : a.eval x = p) (hr : (Instr.loadAt ty p).run P w = .ok v w) (h : wpList P ops Q rest (a.put op.dst v) w) : wpList P ops Q (op :: rest) a w :=
  wpList_plain hgd fun _ hK => by
    unfold Oper.wp execOp
    simp only [ho, hx, hr, Sem.run_bind, Result.andThen_ok]
    exact hK _ _ h
/-- A store of which the run is known. -/
theorem ndList_store {P : Program} {ops : Array Oper} {rest : List Oper} {op : Oper} {a : Act} {w w' : World} {Q : Exit → Act → World → Prop} (hgd : op.guard = none) (ty : TypeId) (x y : Operand) (ho : op.op = .store ty x y)
    (p v : Value) (hx : a.eval x = p) (hy : a.eval y = v) (hr : (Instr.storeAt ty p v).run P w = .ok () w') (h : wpList P ops Q rest (a.put op.dst undef) w') : wpList P ops Q (op :: rest) a w :=
  wpList_plain hgd fun _ hK => by
    unfold Oper.wp execOp
    simp only [ho, hx, hy, hr, Sem.run_bind, Result.andThen_ok]
    exact hK _ _ h
/-- So many whole numbers. -/
def GoodI (k : Nat) (x : Array Value) : Prop := x.size = k ∧ ∀ j, j < k → ∃ n, x[j]? = some (.int .i64 n) ∧ -9223372036854775808 ≤ n ∧ n < 9223372036854775808
theorem goodI_num {k i : Nat} (hi : i < k) : NumGood (GoodI k) i where
  at_ x h := h.2 i hi
  set x n h h0 h1 := ⟨by rw [Array.size_setIfInBounds]; exact h.1, fun j hj => by
    by_cases e : i = j
    · subst e
      exact ⟨n, by rw [Array.getElem?_setIfInBounds_self]; simp [h.1, hi], by omega, by omega⟩
    · obtain ⟨m, hm, h2⟩ := h.2 j hj
      exact ⟨m, by rw [Array.getElem?_setIfInBounds_ne e]; exact hm, h2⟩⟩
theorem goodI_one {k : Nat} {x : Array Value} (h : GoodI k x) : x.all (·.oneCell') = true := by
  refine Array.all_eq_true.2 fun i hi => ?_
  obtain ⟨n, hn, -⟩ := h.2 i (by rw [← h.1]; exact hi)
  rw [Array.getElem?_eq_getElem hi] at hn
  rw [Option.some.inj hn]
  rfl
theorem goodI_zeros (k : Nat) : GoodI k (Array.replicate k (.int .i64 0)) := ⟨by simp, fun j hj => ⟨0, by simp [hj], by decide, by decide⟩⟩
theorem goodI_zero2 : GoodI 2 #[.int .i64 0, .int .i64 0] := goodI_zeros 2
theorem goodI_zero3 : GoodI 3 #[.int .i64 0, .int .i64 0, .int .i64 0] := goodI_zeros 3
theorem goodI_zero7 : GoodI 7 #[.int .i64 0, .int .i64 0, .int .i64 0, .int .i64 0, .int .i64 0, .int .i64 0, .int .i64 0] := goodI_zeros 7
theorem goodI_zero8 : GoodI 8 #[.int .i64 0, .int .i64 0, .int .i64 0, .int .i64 0, .int .i64 0, .int .i64 0, .int .i64 0, .int .i64 0] := goodI_zeros 8
/-- Their values. -/
def ints (l : List Int) : Array Value := (l.map (Value.int .i64)).toArray
theorem goodI_ints {l : List Int} {k : Nat} (hk : l.length = k) (h : ∀ x ∈ l, -9223372036854775808 ≤ x ∧ x < 9223372036854775808) : GoodI k (ints l) :=
  ⟨by simp [ints, hk], fun j hj => ⟨l[j]'(by omega), by simp [ints, List.getElem?_eq_getElem (show j < l.length by omega)], h _ (List.getElem_mem _)⟩⟩
theorem numAt_ints (l : List Int) (i : Nat) : numAt (ints l) i = l[i]?.getD 0 := by
  unfold numAt ints
  rw [List.getElem?_toArray, List.getElem?_map]
  cases l[i]? <;> rfl
theorem ints_set (l : List Int) (i : Nat) (n : Int) : (ints l).setIfInBounds i (.int .i64 n) = ints (l.set i n) := by
  simp [ints, List.map_set]
/-- Parts in a block of their own. -/
theorem parts_vec (ps : List PartV) : (flatC partC ps).length = ps.length * 3 := flatC_length (s := 3) (fun _ => rfl) ps
theorem cells_new (w : World) (ps : List PartV) (t : TypeId) (k : Nat) (hk : k < ps.length) : (w.alloc (.cells (flatC partC ps).toArray t)).cell? ⟨w.heap.size, k * 3, none⟩ = some ps[k].v0 ∧ (w.alloc (.cells (flatC partC ps).toArray t)).cell? ⟨w.heap.size, k * 3 + 1, none⟩ = some ps[k].v1 ∧ (w.alloc (.cells (flatC partC ps).toArray t)).cell? ⟨w.heap.size, k * 3 + 2, none⟩ = some ps[k].v2 := by
  have h := Blk.new w t (flatC partC ps).toArray
  have hat := flatC_at (f := partC) (s := 3) (fun _ => rfl) ps k hk
  refine ⟨h.cell ?_, h.cell ?_, h.cell ?_⟩
  · rw [List.getElem?_toArray]; exact hat 0 (by decide)
  · rw [List.getElem?_toArray]; exact hat 1 (by decide)
  · rw [List.getElem?_toArray]; exact hat 2 (by decide)
theorem vec_newN (w : World) (xs : List Value) (t : TypeId) (n s : Nat) (h : xs.length = n * s) : Vec (w.alloc (.cells xs.toArray t)) (.slice (some ⟨w.heap.size, 0, none⟩) n n) n s xs :=
  ⟨h, _, _, rfl, Nat.le_refl _, fun _ => ⟨_, _, rfl, by simp, fun j y hy => by
    rw [Nat.zero_add]
    exact (Blk.new w t xs.toArray).cell (by rw [List.getElem?_toArray]; exact hy)⟩⟩
theorem field_root (w : World) : FieldAt w 41 #[] 0 := ⟨enters_of Tryz.func41 (by kernel_rfl) rfl, fun b W _ => by
  go_enter Tryz.func41, Tryz.ntmps41
  go_wp2
  go_ret
  exact ⟨rfl, Below.refl _ _⟩⟩
theorem field_lines (w : World) : FieldAt w 43 #[] 1 := ⟨enters_of Tryz.func43 (by kernel_rfl) rfl, fun b W _ => by
  go_enter Tryz.func43, Tryz.ntmps43
  go_wp2
  go_ret
  exact ⟨rfl, Below.refl _ _⟩⟩
theorem field_top (w : World) : FieldAt w 51 #[] 2 := ⟨enters_of Tryz.func51 (by kernel_rfl) rfl, fun b W _ => by
  go_enter Tryz.func51, Tryz.ntmps51
  go_wp2
  go_ret
  exact ⟨rfl, Below.refl _ _⟩⟩
theorem field_size (w : World) : FieldAt w 56 #[] 0 := ⟨enters_of Tryz.func56 (by kernel_rfl) rfl, fun b W _ => by
  go_enter Tryz.func56, Tryz.ntmps56
  go_wp2
  go_ret
  exact ⟨rfl, Below.refl _ _⟩⟩
theorem field_next (w : World) : FieldAt w 69 #[] 0 := ⟨enters_of Tryz.func69 (by kernel_rfl) rfl, fun b W _ => by
  go_enter Tryz.func69, Tryz.ntmps69
  go_wp2
  go_ret
  exact ⟨rfl, Below.refl _ _⟩⟩
theorem field_node (w : World) : FieldAt w 70 #[] 1 := ⟨enters_of Tryz.func70 (by kernel_rfl) rfl, fun b W _ => by
  go_enter Tryz.func70, Tryz.ntmps70
  go_wp2
  go_ret
  exact ⟨rfl, Below.refl _ _⟩⟩
theorem field_chunk (w : World) {q k : Nat} (hk : k < 7) (hq : Boxed w q 3 (.int .i64 (k : Nat))) : FieldAt w 104 #[.pointer (some ⟨q, 0, none⟩)] (1 + k) := ⟨enters_of Tryz.func104 (by kernel_rfl) rfl, fun b W hW => by
  have cq : W.cell? ⟨q, 0, none⟩ = some (.int .i64 (k : Nat)) := Boxed.cell ((hW.block _ hq.lt).trans hq)
  have k7 : (k : Int) < 7 := by omega
  clear hq hW
  go_enter Tryz.func104, Tryz.ntmps104
  go_wp2
  go_quiet (fail)
  go_wp2
  go_ret
  exact ⟨rfl, (by repeat (first | exact Below.refl _ _ | assumption | refine Below.drew ?_ | refine below_drewN ?_ _ | refine Below.alloc ?_ (by (try simp) <;> omega) _ | refine Below.setCell ?_ (by (try simp) <;> omega) _ | refine Below.trans ?_ (Below.mono (by assumption) (by (try simp) <;> omega))))⟩⟩
theorem field_head (w : World) {q k : Nat} (hk : k < 7) (hq : Boxed w q 3 (.int .i64 (k : Nat))) : FieldAt w 63 #[.pointer (some ⟨q, 0, none⟩)] k := ⟨enters_of Tryz.func63 (by kernel_rfl) rfl, fun b W hW => by
  have cq : W.cell? ⟨q, 0, none⟩ = some (.int .i64 (k : Nat)) := Boxed.cell ((hW.block _ hq.lt).trans hq)
  have k7 : (k : Int) < 7 := by omega
  clear hq hW
  go_enter Tryz.func63, Tryz.ntmps63
  go_wp2
  go_quiet (fail)
  go_wp2
  go_ret
  exact ⟨rfl, (by repeat (first | exact Below.refl _ _ | assumption | refine Below.drew ?_ | refine below_drewN ?_ _ | refine Below.alloc ?_ (by (try simp) <;> omega) _ | refine Below.setCell ?_ (by (try simp) <;> omega) _ | refine Below.trans ?_ (Below.mono (by assumption) (by (try simp) <;> omega))))⟩⟩
end Go.Proofs.YtaebipopmefkpaaGreatDoor
