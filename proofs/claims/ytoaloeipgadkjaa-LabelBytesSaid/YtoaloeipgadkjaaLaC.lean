/-
  label: five words compared; Words, Same, Bucket.
-/
import Derived.Test.YtoaloeipgadkjaaLaB
import Derived.Test.YtoaloeipgadkjaaSumT
namespace Go.Proofs.Ytoaloeipgadkjaa
open Go.RowKit Go.Shelf Go.Sort

def laVals (L : List Int) : List Value := L.map (Value.int .u64)
theorem laAll_range : ∀ (xs ys : List Int), xs.length = ys.length → ((List.range xs.length).all fun i => xs.getD i 0 == ys.getD i 0) = (xs == ys)
  | [], [], _ => rfl
  | x :: xs, y :: ys, h => by
    have ih := laAll_range xs ys (by simpa using h)
    rw [List.length_cons, List.range_succ_eq_map, List.all_cons, List.all_map]
    simp only [List.getD_cons_zero, Function.comp_def, List.getD_cons_succ, ih]
    simp [List.cons_beq_cons]
  | [], _ :: _, h => by simp at h
  | _ :: _, [], h => by simp at h
theorem laEq_items {P : Program} (d : Nat) (e : TypeId) (he : P.underlying e = some (.int .u64)) (xs ys : List Int) (w : World) :
    ∀ l : List Nat, (∀ i ∈ l, i < xs.length ∧ i < ys.length) → (Op.eqItems (d + 1) e 1 (laVals xs).toArray (laVals ys).toArray l).run P w = .ok (l.all fun i => xs.getD i 0 == ys.getD i 0) w
  | [], _ => by simp [Op.eqItems]
  | i :: l, h => by
    obtain ⟨hx, hy⟩ := h i (by simp)
    have px : (part e (laVals xs).toArray (i * 1)).run P w = .ok (.int .u64 (xs.getD i 0)) w := by
      simp [part, isAgg, run_underlying he, List.getD, laVals, List.getElem?_eq_getElem hx]
    have py : (part e (laVals ys).toArray (i * 1)).run P w = .ok (.int .u64 (ys.getD i 0)) w := by
      simp [part, isAgg, run_underlying he, List.getD, laVals, List.getElem?_eq_getElem hy]
    have ih := laEq_items d e he xs ys w l (fun j hj => h j (by simp [hj]))
    simp only [Op.eqItems, Sem.run_bind, px, py, Result.andThen_ok, run_equalIn_int w d e .u64 .u64 _ _ he, List.all_cons]
    cases hb : (xs.getD i 0 == ys.getD i 0)
    · simp
    · simpa using ih
theorem laEqual {t : TypeId} {n : Nat} (ht : Try.prog.underlying t = some (.array n 23)) (d : Nat) (L M : List Int) (hL : L.length = n) (hM : M.length = n) (w : World) :
    (Op.equalIn (d + 2) t (.agg (laVals L).toArray) (.agg (laVals M).toArray)).run Try.prog w = .ok (L == M) w := by
  obtain ⟨i, hi⟩ := Option.isSome_iff_exists.1 (show (Try.prog.info? 23).isSome = true by kernel_rfl)
  rw [run_equalIn_array (w := w) (d + 1) _ _ ht hi, show Try.prog.cellsOf 23 = 1 by kernel_rfl, laEq_items d 23 Try.underlying23 L M w _ (fun i hi => by rw [List.mem_range] at hi; omega), ← laAll_range L M (by omega), hL]
/-- Are five words the same? -/
def same5 (l m : List Nat) : Bool := decide (∀ i, i < 5 → l[i]?.getD 0 = m[i]?.getD 0)
theorem five_same (l m : List Nat) : (([(l[0]?.getD 0 : Nat), (l[1]?.getD 0 : Nat), (l[2]?.getD 0 : Nat), (l[3]?.getD 0 : Nat), (l[4]?.getD 0 : Nat)] : List Int) == [((m[0]?.getD 0 : Nat) : Int), (m[1]?.getD 0 : Nat), (m[2]?.getD 0 : Nat), (m[3]?.getD 0 : Nat), (m[4]?.getD 0 : Nat)]) = same5 l m := by
  unfold same5
  rw [Bool.eq_iff_iff]
  simp only [beq_iff_eq, decide_eq_true_eq, List.cons.injEq, and_true]
  constructor
  · rintro ⟨h0, h1, h2, h3, h4⟩ i hi
    have : i = 0 ∨ i = 1 ∨ i = 2 ∨ i = 3 ∨ i = 4 := by omega
    rcases this with rfl | rfl | rfl | rfl | rfl
    · exact Int.ofNat_inj.1 h0
    · exact Int.ofNat_inj.1 h1
    · exact Int.ofNat_inj.1 h2
    · exact Int.ofNat_inj.1 h3
    · exact Int.ofNat_inj.1 h4
  · intro h
    exact ⟨congrArg _ (h 0 (by omega)), congrArg _ (h 1 (by omega)), congrArg _ (h 2 (by omega)), congrArg _ (h 3 (by omega)), congrArg _ (h 4 (by omega))⟩
theorem eql5 (l m : List Nat) (w : World) : (binOp .eql 24 (.agg (arr5 l)) (.agg (arr5 m))).run Try.prog w = .ok (.bool (same5 l m)) w := by
  have h := laEqual Try.underlying24 9998 [(l[0]?.getD 0 : Nat), (l[1]?.getD 0 : Nat), (l[2]?.getD 0 : Nat), (l[3]?.getD 0 : Nat), (l[4]?.getD 0 : Nat)] [(m[0]?.getD 0 : Nat), (m[1]?.getD 0 : Nat), (m[2]?.getD 0 : Nat), (m[3]?.getD 0 : Nat), (m[4]?.getD 0 : Nat)] rfl rfl w
  rw [five_same] at h
  rw [run_eql_struct]
  refine (congrArg (fun r : Result Bool => r.andThen fun b w' => Result.ok (Value.bool b) w') h).trans ?_
  rfl
/-- A block of five words. -/
abbrev Box5 (W : World) (b : Nat) (l : List Nat) : Prop := W.heap[b]? = some (.cells (arr5 l) 24)
theorem Box5.new (W : World) (l : List Nat) : Box5 (W.alloc (.cells (arr5 l) 24)) W.heap.size l := World.alloc_heap_new W _
theorem Box5.lt {W : World} {b : Nat} {l : List Nat} (h : Box5 W b l) : b < W.heap.size := (Array.getElem?_eq_some_iff.1 h).1
theorem Box5.below {W W' : World} {b : Nat} {l : List Nat} (h : Box5 W b l) (hb : Below W.heap.size W W') : Box5 W' b l := (hb.block _ h.lt).trans h
theorem Box5.cells {W : World} {b : Nat} {l : List Nat} (h : Box5 W b l) :
    W.cell? ⟨b, 0, none⟩ = some (.int .u64 (l[0]?.getD 0 : Nat)) ∧ W.cell? ⟨b, 1, none⟩ = some (.int .u64 (l[1]?.getD 0 : Nat)) ∧ W.cell? ⟨b, 2, none⟩ = some (.int .u64 (l[2]?.getD 0 : Nat)) ∧ W.cell? ⟨b, 3, none⟩ = some (.int .u64 (l[3]?.getD 0 : Nat)) ∧ W.cell? ⟨b, 4, none⟩ = some (.int .u64 (l[4]?.getD 0 : Nat)) := by
  refine ⟨?_, ?_, ?_, ?_, ?_⟩ <;> simp [World.cell?, h]
theorem Box5.frozen {W : World} {b : Nat} {l : List Nat} (h : Box5 W b l) :
    W.frozen? ⟨b, 0, none⟩ = false ∧ W.frozen? ⟨b, 1, none⟩ = false ∧ W.frozen? ⟨b, 2, none⟩ = false ∧ W.frozen? ⟨b, 3, none⟩ = false ∧ W.frozen? ⟨b, 4, none⟩ = false := by
  refine ⟨?_, ?_, ?_, ?_, ?_⟩ <;> simp [World.frozen?, h]
/-- Five stores. -/
def set5 (W : World) (b : Nat) (m : List Nat) : World := ((((W.setCell ⟨b, 0, none⟩ (.int .u64 (m[0]?.getD 0 : Nat))).setCell ⟨b, 1, none⟩ (.int .u64 (m[1]?.getD 0 : Nat))).setCell ⟨b, 2, none⟩ (.int .u64 (m[2]?.getD 0 : Nat))).setCell ⟨b, 3, none⟩ (.int .u64 (m[3]?.getD 0 : Nat))).setCell ⟨b, 4, none⟩ (.int .u64 (m[4]?.getD 0 : Nat))
theorem set5_box {W : World} {b : Nat} {l : List Nat} (h : Box5 W b l) (m : List Nat) : Box5 (set5 W b m) b m := by
  have step : ∀ (W : World) (c : Array Value) (i : Nat) (v : Value), W.heap[b]? = some (.cells c 24) → (W.setCell ⟨b, i, none⟩ v).heap[b]? = some (.cells (c.setIfInBounds i v) 24) := fun W c i v hc => by
    rw [setCell_eq_setRow W b i c _ _ v hc]
    exact setRow_heap W b c _ _ _ hc
  exact step _ _ 4 _ (step _ _ 3 _ (step _ _ 2 _ (step _ _ 1 _ (step _ _ 0 _ h))))
theorem set5_below {B b : Nat} {w W : World} (h : Below B w W) (hb : B ≤ b) (m : List Nat) : Below B w (set5 W b m) := by
  unfold set5
  exact ((((h.setCell (p := ⟨b, 0, none⟩) hb _).setCell (p := ⟨b, 1, none⟩) hb _).setCell (p := ⟨b, 2, none⟩) hb _).setCell (p := ⟨b, 3, none⟩) hb _).setCell (p := ⟨b, 4, none⟩) hb _
/-- What Words tells. -/
def wordsOut (s : List UInt8) : List Nat := if rightN s then wordsN s else []
set_option maxRecDepth 100000 in
set_option maxHeartbeats 2000000 in
theorem laWords_any (s : List UInt8) (w : World) :
    Calls Try.prog 10 #[encStr s] w fun e w' => e = .returned (.tuple #[.agg (arr5 (wordsOut s)), .int .i64 (errN s)]) ∧ Below w.heap.size w w' := by
  have HN := Lib.hid (fun W => named_any s W)
  cases hr : rightN s with
  | false =>
    have HO := Lib.hid (show wordsOut s = [] by unfold wordsOut; rw [hr]; rfl)
    have he : errN s = 160 := by unfold errN; rw [hr]; rfl
    have hn : nameN s = [] := by unfold nameN; rw [hr]; rfl
    rw [he, hn] at HN
    rw [HO.out, he]
    go_enter Try.func10, Try.ntmps10
    go_wp2_with fail
    refine (HN.out _).mono ?_
    rintro e w1 ⟨rfl, hb⟩
    have hz := hb.size
    rw [World.size_alloc] at hz
    have h1 : Box5 w1 w.heap.size [] := (Box5.new w []).below hb
    have HB1 : Hid (Below w.heap.size w w1) := show Below _ _ _ from ((Below.refl _ _).alloc (Nat.le_refl _) _).trans (hb.mono (by simp))
    have HX1 := Lib.hid h1
    obtain ⟨c0, c1, c2, c3, c4⟩ := h1.cells
    obtain ⟨f0, f1, f2, f3, f4⟩ := h1.frozen
    have lt := h1.lt
    clear hb hz h1
    go_wp2_with fail
    obtain ⟨W9, hW9⟩ : ∃ W9, (((((w1.setCell ⟨w.heap.size, 0, none⟩ (.int .u64 0)).setCell ⟨w.heap.size, 1, none⟩ (.int .u64 0)).setCell ⟨w.heap.size, 2, none⟩ (.int .u64 0)).setCell ⟨w.heap.size, 3, none⟩ (.int .u64 0)).setCell ⟨w.heap.size, 4, none⟩ (.int .u64 0)).alloc (.cells #[.string { data := #[] }] 52) = W9 := ⟨_, rfl⟩
    have h9 : Box5 W9 w.heap.size [] := by rw [← hW9]; exact (set5_box HX1.out []).below ((Below.refl _ _).alloc (Nat.le_refl _) _)
    have hb9 : Below w.heap.size w W9 := by
      rw [← hW9]
      have h := set5_below (b := w.heap.size) HB1.out (Nat.le_refl _) []
      exact h.alloc h.size _
    rw [hW9]
    obtain ⟨g0, g1, g2, g3, g4⟩ := h9.cells
    (try simp only [Exit.inBlock, Exit.then])
    refine bodyPost_ret (v := .tuple #[.agg (arr5 []), .int .i64 160]) (by simp [results, Try.results10, go_sem, g0, g1, g2, g3, g4]) rfl ⟨rfl, hb9⟩
  | true =>
    have HO := Lib.hid (show wordsOut s = wordsN s by unfold wordsOut; rw [hr]; rfl)
    have he : errN s = 0 := by unfold errN; rw [hr]; rfl
    have hn : nameN s = s := by unfold nameN; rw [hr]; rfl
    have HW := Lib.hid (fun W => laWords1_any s ((rightN_iff s).1 hr).2.1 W)
    rw [he, hn] at HN
    rw [HO.out, he]
    obtain ⟨xs, hxs⟩ : ∃ xs, wordsN s = xs := ⟨_, rfl⟩
    rw [hxs] at HW ⊢
    clear hxs
    go_enter Try.func10, Try.ntmps10
    go_wp2_with fail
    refine (HN.out _).mono ?_
    rintro e w1 ⟨rfl, hb⟩
    have HB := Lib.hid hb
    clear hb
    go_wp2_with fail
    refine (HW.out _).mono ?_
    rintro e w2 ⟨rfl, hb2⟩
    have hz := HB.out.size
    rw [World.size_alloc] at hz
    have hb1 : Below w1.heap.size w1 w2 := ((Below.refl _ _).alloc (Nat.le_refl _) _).trans (hb2.mono (by simp))
    have h2 : Box5 w2 w.heap.size [] := ((Box5.new w []).below HB.out).below hb1
    have HB2 : Hid (Below w.heap.size w w2) := show Below _ _ _ from ((Below.refl _ _).alloc (Nat.le_refl _) _).trans ((HB.out.mono (by simp)).trans (hb1.mono (by omega)))
    obtain ⟨c0, c1, c2, c3, c4⟩ := h2.cells
    obtain ⟨f0, f1, f2, f3, f4⟩ := h2.frozen
    have lt := h2.lt
    clear hb2 hb1 hz h2
    go_wp2_with fail
    refine bodyPost_ret (v := .tuple #[.agg (arr5 xs), .int .i64 0]) (by simp [results, Try.results10, go_sem, World.cell?_setCell_same', c0, c1, c2, c3, c4]) rfl ⟨rfl, ?_⟩
    exact set5_below (m := xs) HB2.out (Nat.le_refl _)
/-- Are these a name's words, of so many bytes? -/
def sameOut (s : List UInt8) (l : List Nat) (many : Int) : Bool := rightN s && (many == (s.length : Int)) && same5 (wordsN s) l
set_option maxRecDepth 100000 in
set_option maxHeartbeats 2000000 in
theorem laSame_any (s : List UInt8) (l : List Nat) (many : Int) (w : World) :
    Calls Try.prog 19 #[encStr s, .agg (arr5 l), .int .i64 many] w fun e w' => e = .returned (.bool (sameOut s l many)) ∧ Below w.heap.size w w' := by
  obtain ⟨W1, hW1⟩ : ∃ W1, w.alloc (.cells (arr5 l) 24) = W1 := ⟨_, rfl⟩
  have HB1 : Hid (Below w.heap.size w W1) := show Below _ _ _ by rw [← hW1]; exact (by repeat (first | exact Below.refl _ _ | assumption | refine Below.drew ?_ | refine below_drewN ?_ _ | refine Below.alloc ?_ (by (try simp) <;> omega) _ | refine Below.setCell ?_ (by (try simp) <;> omega) _ | refine Below.trans ?_ (Below.mono (by assumption) (by (try simp) <;> omega))))
  have HX1 : Hid (Box5 W1 w.heap.size l) := show Box5 _ _ _ by rw [← hW1]; exact Box5.new w l
  have HW := Lib.hid (laWords_any s W1)
  obtain ⟨x, hx⟩ : ∃ x, wordsOut s = x := ⟨_, rfl⟩
  have hq : ∀ W, (binOp .eql 24 (.agg (arr5 x)) (.agg (arr5 l))).run Try.prog W = .ok (.bool (same5 x l)) W := fun W => eql5 x l W
  rw [hx] at HW
  have HO : Hid (sameOut s l many = ((errN s == 0) && (many == (s.length : Int)) && same5 x l)) := show _ = _ by
    unfold sameOut errN
    rw [← hx]
    unfold wordsOut
    cases rightN s <;> rfl
  obtain ⟨er, her⟩ : ∃ er, errN s = er := ⟨_, rfl⟩
  rw [her] at HW HO
  clear hx her
  go_enter Try.func19, Try.ntmps19
  go_wp2_with fail
  refine HW.out.mono ?_
  rintro e w2 ⟨rfl, hb2⟩
  obtain ⟨W3, hW3⟩ : ∃ W3, w2.alloc (.cells (arr5 x) 24) = W3 := ⟨_, rfl⟩
  have HB3 : Hid (Below w.heap.size w W3) := show Below _ _ _ by
    rw [← hW3]
    exact (HB1.out.trans (hb2.mono HB1.out.size)).alloc (Nat.le_trans HB1.out.size hb2.size) _
  have HX3 : Hid (Box5 W3 w.heap.size l) := show Box5 _ _ _ by
    rw [← hW3]
    exact (HX1.out.below hb2).below ((Below.refl _ _).alloc (Nat.le_refl _) _)
  have HY3 : Hid (Box5 W3 w2.heap.size x) := show Box5 _ _ _ by rw [← hW3]; exact Box5.new w2 x
  obtain ⟨c0, c1, c2, c3, c4⟩ := HX3.out.cells
  obtain ⟨d0, d1, d2, d3, d4⟩ := HY3.out.cells
  clear hb2 hW1
  go_wp2_with fail
  all_goals go_ret
  all_goals refine ⟨?_, HB3.out⟩
  all_goals rw [HO.out]
  all_goals simp_all
end Go.Proofs.Ytoaloeipgadkjaa
