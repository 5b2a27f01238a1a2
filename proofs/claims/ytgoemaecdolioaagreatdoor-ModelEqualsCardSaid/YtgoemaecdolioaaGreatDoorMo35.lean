/-
  Texts MeA to MeG, as one.
-/
import Derived.Test.YtgoemaecdolioaaGreatDoorMo5
import Derived.Test.YtgoemaecdolioaaGreatDoorMo6
import Derived.Test.YtgoemaecdolioaaGreatDoorMo27
import Derived.Test.YtgoemaecdolioaaGreatDoorMo31
import Derived.Test.YtgoemaecdolioaaGreatDoorMo34
import Derived.Deep.Slices
/-
  model: arguments opened: an operation, a result. (gen_mea.py)
-/
namespace Go.Proofs.YtgoemaecdolioaaGreatDoor
open Go.ChangeShapes Go.WideShapes Go.ChangeAt Go.RowKit Go.Shelf

theorem trod_txs {H : Type} {enc : TypeId × Value → H} {W : World} {fuel : Nat} {cs : List Value} {x : DataW H × List MemPlace}
    (h : DataW.trod enc Tryz.prog W 0 (fun _ => true) true fuel 42 cs = some x) (hlt : ∀ q ∈ x.2, q.block < W.heap.size) : ∃ v l, cs = [v] ∧ TxS W v l := by
  rcases Go.Deep.open_strs Tryz.underlying42 Tryz.underlying9 (by kernel_rfl) h with ⟨hcs, hx⟩ | ⟨a, len0, cap, m, Sx, hcs, hb, hl, hm, hmm, hx, hi⟩
  · exact ⟨_, [], hcs, by simp, none, 0, rfl, Nat.le_refl _, fun h => by simp at h⟩
  · simp only [if_true] at hmm
    subst hmm
    subst hx
    have hlen : ((List.range len0).map fun i => (Sx i).data.toList).length = len0 := by simp
    refine ⟨_, (List.range len0).map fun i => (Sx i).data.toList, hcs, by simp, some a, m, by rw [hlen], by omega, fun h0 => ?_⟩
    rw [hlen] at h0
    obtain ⟨b, off, spot⟩ := a
    have hspot : spot = none := by simpa [Addr.add] using World.cell?_spot (hi 0 (by omega)).1
    subst hspot
    refine ⟨b, off, rfl, hlt (.cell b off) (MemPlace.mem_row.2 ⟨0, by omega, by simp⟩), fun j y hy => ?_⟩
    have hj : j < len0 := by
      have := (List.getElem?_eq_some_iff.1 hy).1
      simpa using this
    rw [← Go.WideShapes.add_plain, (hi j (by omega)).1]
    simp [hj] at hy
    rw [← hy]
theorem trod_fb {H : Type} {enc : TypeId × Value → H} {W : World} {fuel : Nat} {cs : List Value} {x : DataW H × List MemPlace}
    (h : DataW.trod enc Tryz.prog W 0 (fun _ => true) true fuel 23 cs = some x) (hlt : ∀ q ∈ x.2, q.block < W.heap.size) : ∃ v l, cs = [v] ∧ FB W v l := by
  rcases open_ints Tryz.underlying23 Tryz.underlying5 (by kernel_rfl) h with ⟨hcs, hx⟩ | ⟨a, len, cap, zs, hcs, _, hl, hm, hz, hx, hcell, hwz⟩
  · exact ⟨_, [], hcs, ⟨⟨none, 0, rfl, Nat.le_refl _, fun h => by simp at h⟩, fun i => by unfold WM.at'; rw [List.getElem?_eq_none (by simp)]; decide, fun a n c e => by cases e; omega⟩⟩
  · subst hx
    simp only [if_true] at hz
    have hlen : ((zs.take len).map Int.toNat).length = len := by simp; omega
    have hmx : cap ≤ 9223372036854775807 := hm
    refine ⟨_, (zs.take len).map Int.toNat, hcs, ⟨⟨some a, cap, by rw [hlen], by omega, fun h0 => ?_⟩, fun i => ?_, fun a n c e => by cases e; exact hmx⟩⟩
    · obtain ⟨b, off, rfl, hj⟩ := ints_at hcell (by omega)
      refine ⟨b, off, rfl, hlt (.cell b off) (MemPlace.mem_row.2 ⟨0, by omega, by simp⟩), fun j hjl => ?_⟩
      rw [hlen] at hjl
      rw [hj j (by omega)]
      have h0 := (nn8 _ (hwz _ (List.getElem_mem (show j < zs.length by omega))))
      simp [List.getD, List.getElem?_map, hjl, List.getElem?_eq_getElem (show j < zs.length by omega)]
      omega
    · unfold WM.at'
      by_cases hi : i < len
      · rw [List.getElem?_eq_getElem (by omega), Option.getD_some, List.getElem_map, List.getElem_take]
        have := hwz _ (List.getElem_mem (show i < zs.length by omega))
        simp [Lit.wf, IntKind.min, IntKind.max, IntKind.signed, IntKind.bits] at this
        omega
      · rw [List.getElem?_eq_none (by omega)]; decide
set_option maxRecDepth 100000 in
theorem open_op {H : Type} {enc : TypeId × Value → H} {W : World} {base : Nat} {v : Value} {d : DataW H} {p : List MemPlace}
    (hv : Value.okWide Tryz.prog W .any base 25 v) (h : DataW.Trod enc Tryz.prog W 0 (fun _ => true) true 25 v d p) (hlt : ∀ x ∈ p, x.block < W.heap.size) :
    ∃ x : OpX, v = .agg (opA x) ∧ (-9223372036854775808 ≤ x.kind ∧ x.kind ≤ 9223372036854775807) ∧ (-9223372036854775808 ≤ x.place ∧ x.place ≤ 9223372036854775807) ∧ (-9223372036854775808 ≤ x.many ∧ x.many ≤ 9223372036854775807) ∧ x.path.length ≤ 9223372036854775807 ∧ x.other.length ≤ 9223372036854775807 ∧ FB W x.ub (bytesN x.bytes) := by
  have ht := Tryz.underlying25
  obtain ⟨fuel, hf⟩ := h
  unfold Value.okWide at hv
  rw [ht] at hv
  obtain ⟨cx, rfl, -⟩ := hv
  simp only [Value.cells] at hf
  obtain ⟨cs, hcs⟩ : ∃ cs, cx.toList = cs := ⟨_, rfl⟩
  rw [hcs] at hf
  obtain rfl : cx = cs.toArray := by rw [← hcs]
  clear hcs
  have hC : Tryz.prog.cellsOf 25 = 6 := by kernel_rfl
  obtain ⟨ys, n', -, hp, hcl, hyl, hfl⟩ := DataW.trod_struct ht hf
  rw [hC] at hcl
  match cs, hcl, ys, hyl with
  | [c0, c1, c2, c3, c4, c5], _, [y0, y1, y2, y3, y4, y5], _ =>
    have f0 : DataW.trod enc Tryz.prog W 0 (fun _ => true) true n' 22 (([c0, c1, c2, c3, c4, c5].drop 0).take (Tryz.prog.cellsOf 22)) = [y0, y1, y2, y3, y4, y5][0]? := hfl 0 _ rfl
    rw [show Tryz.prog.cellsOf 22 = 1 by kernel_rfl] at f0
    simp at f0
    have f1 : DataW.trod enc Tryz.prog W 0 (fun _ => true) true n' 9 (([c0, c1, c2, c3, c4, c5].drop 1).take (Tryz.prog.cellsOf 9)) = [y0, y1, y2, y3, y4, y5][1]? := hfl 1 _ rfl
    rw [show Tryz.prog.cellsOf 9 = 1 by kernel_rfl] at f1
    simp at f1
    have f2 : DataW.trod enc Tryz.prog W 0 (fun _ => true) true n' 9 (([c0, c1, c2, c3, c4, c5].drop 2).take (Tryz.prog.cellsOf 9)) = [y0, y1, y2, y3, y4, y5][2]? := hfl 2 _ rfl
    rw [show Tryz.prog.cellsOf 9 = 1 by kernel_rfl] at f2
    simp at f2
    have f3 : DataW.trod enc Tryz.prog W 0 (fun _ => true) true n' 3 (([c0, c1, c2, c3, c4, c5].drop 3).take (Tryz.prog.cellsOf 3)) = [y0, y1, y2, y3, y4, y5][3]? := hfl 3 _ rfl
    rw [show Tryz.prog.cellsOf 3 = 1 by kernel_rfl] at f3
    simp at f3
    have f4 : DataW.trod enc Tryz.prog W 0 (fun _ => true) true n' 3 (([c0, c1, c2, c3, c4, c5].drop 4).take (Tryz.prog.cellsOf 3)) = [y0, y1, y2, y3, y4, y5][4]? := hfl 4 _ rfl
    rw [show Tryz.prog.cellsOf 3 = 1 by kernel_rfl] at f4
    simp at f4
    have f5 : DataW.trod enc Tryz.prog W 0 (fun _ => true) true n' 23 (([c0, c1, c2, c3, c4, c5].drop 5).take (Tryz.prog.cellsOf 23)) = [y0, y1, y2, y3, y4, y5][5]? := hfl 5 _ rfl
    rw [show Tryz.prog.cellsOf 23 = 1 by kernel_rfl] at f5
    simp at f5
    have hm : ∀ y ∈ [y0, y1, y2, y3, y4, y5], ∀ q ∈ y.2, q.block < W.heap.size := fun y hy q hq => hlt q (by
      simp only [Prod.mk.injEq] at hp
      rw [hp.2]
      exact List.mem_flatMap.2 ⟨y, hy, hq⟩)
    obtain ⟨a0, e0, -, w0⟩ := DataW.trod_int Tryz.underlying22 f0
    have b0 := bounds_i64 w0
    obtain ⟨a1, e1, -, w1⟩ := DataW.trod_string Tryz.underlying9 f1
    obtain ⟨a2, e2, -, w2⟩ := DataW.trod_string Tryz.underlying9 f2
    obtain ⟨a3, e3, -, w3⟩ := DataW.trod_int Tryz.underlying3 f3
    have b3 := bounds_i64 w3
    obtain ⟨a4, e4, -, w4⟩ := DataW.trod_int Tryz.underlying3 f4
    have b4 := bounds_i64 w4
    obtain ⟨a5, l5, e5, w5⟩ := trod_fb f5 (hm y5 (by simp))
    simp at e0 e1 e2 e3 e4 e5
    subst e0 e1 e2 e3 e4 e5
    exact ⟨⟨a0, a1.data.toList, a2.data.toList, a3, a4, c5, unB l5⟩, rfl, b0, b3, b4, Nat.le_trans (show a1.data.toList.length ≤ maxLen from w1) (by decide), Nat.le_trans (show a2.data.toList.length ≤ maxLen from w2) (by decide), by rw [bytesN_unB w5.all]; exact w5⟩
/-- A result as it lies. -/
structure ResX where
  errno : Int
  kind : Int
  links : Int
  many : Int
  names : Value
  texts : List (List UInt8)
  ub : Value
  bytes : List Nat
def resX (x : ResX) : Array Value := #[.int .i64 x.errno, .int .i64 x.kind, .int .i64 x.links, .int .i64 x.many, x.names, x.ub]
set_option maxRecDepth 100000 in
theorem open_res {H : Type} {enc : TypeId × Value → H} {W : World} {base : Nat} {v : Value} {d : DataW H} {p : List MemPlace}
    (hv : Value.okWide Tryz.prog W .any base 44 v) (h : DataW.Trod enc Tryz.prog W 0 (fun _ => true) true 44 v d p) (hlt : ∀ x ∈ p, x.block < W.heap.size) :
    ∃ x : ResX, v = .agg (resX x) ∧ TxS W x.names x.texts ∧ FB W x.ub x.bytes := by
  have ht := Tryz.underlying44
  obtain ⟨fuel, hf⟩ := h
  unfold Value.okWide at hv
  rw [ht] at hv
  obtain ⟨cx, rfl, -⟩ := hv
  simp only [Value.cells] at hf
  obtain ⟨cs, hcs⟩ : ∃ cs, cx.toList = cs := ⟨_, rfl⟩
  rw [hcs] at hf
  obtain rfl : cx = cs.toArray := by rw [← hcs]
  clear hcs
  have hC : Tryz.prog.cellsOf 44 = 6 := by kernel_rfl
  obtain ⟨ys, n', -, hp, hcl, hyl, hfl⟩ := DataW.trod_struct ht hf
  rw [hC] at hcl
  match cs, hcl, ys, hyl with
  | [c0, c1, c2, c3, c4, c5], _, [y0, y1, y2, y3, y4, y5], _ =>
    have f0 : DataW.trod enc Tryz.prog W 0 (fun _ => true) true n' 30 (([c0, c1, c2, c3, c4, c5].drop 0).take (Tryz.prog.cellsOf 30)) = [y0, y1, y2, y3, y4, y5][0]? := hfl 0 _ rfl
    rw [show Tryz.prog.cellsOf 30 = 1 by kernel_rfl] at f0
    simp at f0
    have f1 : DataW.trod enc Tryz.prog W 0 (fun _ => true) true n' 41 (([c0, c1, c2, c3, c4, c5].drop 1).take (Tryz.prog.cellsOf 41)) = [y0, y1, y2, y3, y4, y5][1]? := hfl 1 _ rfl
    rw [show Tryz.prog.cellsOf 41 = 1 by kernel_rfl] at f1
    simp at f1
    have f2 : DataW.trod enc Tryz.prog W 0 (fun _ => true) true n' 3 (([c0, c1, c2, c3, c4, c5].drop 2).take (Tryz.prog.cellsOf 3)) = [y0, y1, y2, y3, y4, y5][2]? := hfl 2 _ rfl
    rw [show Tryz.prog.cellsOf 3 = 1 by kernel_rfl] at f2
    simp at f2
    have f3 : DataW.trod enc Tryz.prog W 0 (fun _ => true) true n' 3 (([c0, c1, c2, c3, c4, c5].drop 3).take (Tryz.prog.cellsOf 3)) = [y0, y1, y2, y3, y4, y5][3]? := hfl 3 _ rfl
    rw [show Tryz.prog.cellsOf 3 = 1 by kernel_rfl] at f3
    simp at f3
    have f4 : DataW.trod enc Tryz.prog W 0 (fun _ => true) true n' 42 (([c0, c1, c2, c3, c4, c5].drop 4).take (Tryz.prog.cellsOf 42)) = [y0, y1, y2, y3, y4, y5][4]? := hfl 4 _ rfl
    rw [show Tryz.prog.cellsOf 42 = 1 by kernel_rfl] at f4
    simp at f4
    have f5 : DataW.trod enc Tryz.prog W 0 (fun _ => true) true n' 23 (([c0, c1, c2, c3, c4, c5].drop 5).take (Tryz.prog.cellsOf 23)) = [y0, y1, y2, y3, y4, y5][5]? := hfl 5 _ rfl
    rw [show Tryz.prog.cellsOf 23 = 1 by kernel_rfl] at f5
    simp at f5
    have hm : ∀ y ∈ [y0, y1, y2, y3, y4, y5], ∀ q ∈ y.2, q.block < W.heap.size := fun y hy q hq => hlt q (by
      simp only [Prod.mk.injEq] at hp
      rw [hp.2]
      exact List.mem_flatMap.2 ⟨y, hy, hq⟩)
    obtain ⟨a0, e0, -, w0⟩ := DataW.trod_int Tryz.underlying30 f0
    have b0 := bounds_i64 w0
    obtain ⟨a1, e1, -, w1⟩ := DataW.trod_int Tryz.underlying41 f1
    have b1 := bounds_i64 w1
    obtain ⟨a2, e2, -, w2⟩ := DataW.trod_int Tryz.underlying3 f2
    have b2 := bounds_i64 w2
    obtain ⟨a3, e3, -, w3⟩ := DataW.trod_int Tryz.underlying3 f3
    have b3 := bounds_i64 w3
    obtain ⟨a4, l4, e4, w4⟩ := trod_txs f4 (hm y4 (by simp))
    obtain ⟨a5, l5, e5, w5⟩ := trod_fb f5 (hm y5 (by simp))
    simp at e0 e1 e2 e3 e4 e5
    subst e0 e1 e2 e3 e4 e5
    exact ⟨⟨a0, a1, a2, a3, c4, l4, c5, l5⟩, rfl, w4, w5⟩
end Go.Proofs.YtgoemaecdolioaaGreatDoor

/-
  model: which results are the same. (gen_meg.py)
-/
namespace Go.Proofs.YtgoemaecdolioaaGreatDoor
open Go.RowKit Go.Shelf
attribute [local go_sem] Oper.semAt_some

theorem strOf_size11 (a : List Nat) : (strOf a).size = a.length := by
  unfold strOf
  rw [strOfNums_size, List.length_map]
theorem strOf_inj11 {xs ys : List Nat} (hx : WM.Bytes256 xs) (hy : WM.Bytes256 ys) (h : strOf xs = strOf ys) : xs = ys := by
  have hl : xs.length = ys.length := by rw [← strOf_size11 xs, ← strOf_size11 ys, h]
  apply WM.list_ext _ _ hl
  intro j hj
  have h1 : (strOf xs).data.toList = (strOf ys).data.toList := by rw [h]
  unfold strOf at h1
  rw [strOfNums_data, strOfNums_data, List.map_map, List.map_map] at h1
  have h2 := congrArg (fun l => l[j]?) h1
  simp only [List.getElem?_map, List.getElem?_eq_getElem hj, List.getElem?_eq_getElem (show j < ys.length by omega), Option.map_some, Option.some.injEq, Function.comp_def] at h2
  have b1 := hx j
  have b2 := hy j
  unfold WM.at' at b1 b2 ⊢
  rw [List.getElem?_eq_getElem hj, Option.getD_some] at b1 ⊢
  rw [List.getElem?_eq_getElem (show j < ys.length by omega), Option.getD_some] at b2 ⊢
  have h3 := congrArg UInt8.toNat h2
  simp at h3
  omega
theorem strBeq11 {xs ys : List Nat} (hx : WM.Bytes256 xs) (hy : WM.Bytes256 ys) : ((strOf xs).toList == (strOf ys).toList) = (xs == ys) := by
  by_cases h : xs = ys
  · subst h; simp
  · rw [show (xs == ys) = false from beq_eq_false_iff_ne.2 h, beq_eq_false_iff_ne]
    intro hh
    apply h
    apply strOf_inj11 hx hy
    apply ByteArray.ext
    rw [Lib.toList_data, Lib.toList_data] at hh
    exact Array.toList_inj.1 hh
/-- Are two results the same? -/
def sameX (x y : ResX) : Bool := x.errno == y.errno && x.kind == y.kind && x.links == y.links && x.many == y.many && x.texts == y.texts && x.bytes == y.bytes
theorem sameX_comm (x y : ResX) : sameX x y = sameX y x := by
  unfold sameX
  rw [Bool.beq_comm (a := x.errno), Bool.beq_comm (a := x.kind), Bool.beq_comm (a := x.links), Bool.beq_comm (a := x.many), Bool.beq_comm (a := x.texts), Bool.beq_comm (a := x.bytes)]
theorem sameX_self (x : ResX) : sameX x x = true := by simp [sameX]
set_option maxRecDepth 100000 in
set_option maxHeartbeats 16000000 in
theorem equal11_any {x y : ResX} (w : World) (tx : TxS w x.names x.texts) (ty : TxS w y.names y.texts) (fx : FB w x.ub x.bytes) (fy : FB w y.ub y.bytes) (hx : x.texts.length ≤ 1000000) (hy : y.texts.length ≤ 1000000) :
    Calls Tryz.prog 20 #[.agg (resX x), .agg (resX y)] w fun e w' => e = .returned (.bool (sameX x y)) ∧ Below w.heap.size w w' := by
  obtain ⟨e1, k1, l1, n1, v1, t1, u1, c1⟩ := x
  obtain ⟨e2, k2, l2, n2, v2, t2, u2, c2⟩ := y
  unfold resX sameX
  dsimp only at *
  obtain ⟨W1, hW1⟩ : ∃ W1, ((w.alloc (.cells #[.int .i64 e1, .int .i64 k1, .int .i64 l1, .int .i64 n1, v1, u1] 44)).alloc (.cells #[.int .i64 e2, .int .i64 k2, .int .i64 l2, .int .i64 n2, v2, u2] 44)) = W1 := ⟨_, rfl⟩
  have b1 : Below w.heap.size w W1 := by rw [← hW1]; exact (by repeat (first | exact Below.refl _ _ | assumption | refine Below.drew ?_ | refine below_drewN ?_ _ | refine Below.alloc ?_ (by (try simp) <;> omega) _ | refine Below.setCell ?_ (by (try simp) <;> omega) _ | refine Below.trans ?_ (Below.mono (by assumption) (by (try simp) <;> omega))))
  have x1 : Blk W1 w.heap.size 44 #[.int .i64 e1, .int .i64 k1, .int .i64 l1, .int .i64 n1, v1, u1] := by
    rw [← hW1]; exact (Blk.new w _ _).below ((Below.refl _ _).alloc (Nat.le_refl _) _) (by simp)
  have x2 : Blk W1 (w.heap.size + 1) 44 #[.int .i64 e2, .int .i64 k2, .int .i64 l2, .int .i64 n2, v2, u2] := by
    have h := Blk.new (w.alloc (.cells #[.int .i64 e1, .int .i64 k1, .int .i64 l1, .int .i64 n1, v1, u1] 44)) 44 #[.int .i64 e2, .int .i64 k2, .int .i64 l2, .int .i64 n2, v2, u2]
    rw [hW1, World.size_alloc] at h
    exact h
  have HSN := Lib.hid (sameNames_any W1 (Vec.below tx b1) (Vec.below ty b1) hx hy)
  have HEB := Lib.hid (fun W (hW : Below w.heap.size w W) => equalB_any W (fx.below hW) (fy.below hW))
  have HB1 := Lib.hid b1
  have HX1 := Lib.hid x1
  have HX2 := Lib.hid x2
  obtain ⟨q1, hq1⟩ : ∃ b, (e1 == e2) = b := ⟨_, rfl⟩
  obtain ⟨q2, hq2⟩ : ∃ b, (k1 == k2) = b := ⟨_, rfl⟩
  obtain ⟨q3, hq3⟩ : ∃ b, (l1 == l2) = b := ⟨_, rfl⟩
  obtain ⟨q4, hq4⟩ : ∃ b, (n1 == n2) = b := ⟨_, rfl⟩
  obtain ⟨q5, hq5⟩ : ∃ b, (t1 == t2) = b := ⟨_, rfl⟩
  obtain ⟨q6, hq6⟩ : ∃ b, (c1 == c2) = b := ⟨_, rfl⟩
  rw [hq1, hq2, hq3, hq4, hq5, hq6]
  rw [hq5] at HSN
  rw [hq6] at HEB
  obtain ⟨a1, m1, hv1⟩ := tx.form
  obtain ⟨a2, m2, hv2⟩ := ty.form
  obtain ⟨a3, m3, hu1, -⟩ := fx.form
  obtain ⟨a4, m4, hu2, -⟩ := fy.form
  clear tx ty fx fy hx hy hq5 hq6 b1 hv1 hv2 hu1 hu2
  have y0 := x1.cell (j := 0) rfl
  have z0 := x2.cell (j := 0) rfl
  have y1 := x1.cell (j := 1) rfl
  have z1 := x2.cell (j := 1) rfl
  have y2 := x1.cell (j := 2) rfl
  have z2 := x2.cell (j := 2) rfl
  have y3 := x1.cell (j := 3) rfl
  have z3 := x2.cell (j := 3) rfl
  have y4 := x1.cell (j := 4) rfl
  have z4 := x2.cell (j := 4) rfl
  clear x1 x2
  go_enter Tryz.func20, Tryz.ntmps20
  cases q1 with
  | false =>
    go_wp2_with fail
    go_ret
    exact ⟨by simp, HB1.out⟩
  | true =>
  cases q2 with
  | false =>
    go_wp2_with fail
    go_ret
    exact ⟨by simp, HB1.out⟩
  | true =>
  cases q3 with
  | false =>
    go_wp2_with fail
    go_ret
    exact ⟨by simp, HB1.out⟩
  | true =>
  cases q4 with
  | false =>
    go_wp2_with fail
    go_ret
    exact ⟨by simp, HB1.out⟩
  | true =>
  go_wp2_with fail
  refine HSN.out.mono ?_
  rintro e w2 ⟨rfl, hb⟩
  have HB2 : Hid (Below w.heap.size w w2) := show Below _ _ _ from HB1.out.trans (hb.mono HB1.out.size)
  have HY2 : Hid (Blk w2 w.heap.size 44 #[.int .i64 e1, .int .i64 k1, .int .i64 l1, .int .i64 n1, v1, u1]) := show Blk _ _ _ _ from HX1.out.below hb HX1.out.lt
  have HZ2 : Hid (Blk w2 (w.heap.size + 1) 44 #[.int .i64 e2, .int .i64 k2, .int .i64 l2, .int .i64 n2, v2, u2]) := show Blk _ _ _ _ from HX2.out.below hb HX2.out.lt
  clear hb y0 y1 y2 y3 y4 z0 z1 z2 z3 z4 hW1
  have y5 := HY2.out.cell (j := 5) rfl
  have z5 := HZ2.out.cell (j := 5) rfl
  cases q5 with
  | false =>
    go_wp2_with fail
    go_ret
    exact ⟨by simp, HB2.out⟩
  | true =>
    go_wp2_with fail
    refine (HEB.out _ HB2.out).mono ?_
    rintro e w3 ⟨rfl, hb⟩
    have HB3 : Hid (Below w.heap.size w w3) := show Below _ _ _ from HB2.out.trans (hb.mono HB2.out.size)
    clear hb
    go_wp2_with fail
    go_ret
    exact ⟨by simp, HB3.out⟩
set_option maxRecDepth 100000 in
set_option maxHeartbeats 16000000 in
theorem refEqual11_any {x y : ResX} (w : World) (tx : TxS w x.names x.texts) (ty : TxS w y.names y.texts) (fx : FB w x.ub x.bytes) (fy : FB w y.ub y.bytes) (hx : x.texts.length ≤ 1000000) (hy : y.texts.length ≤ 1000000) :
    Calls Tryz.prog 19 #[.agg (resX x), .agg (resX y)] w fun e w' => e = .returned (.bool (sameX x y)) ∧ Below w.heap.size w w' := by
  obtain ⟨e1, k1, l1, n1, v1, t1, u1, c1⟩ := x
  obtain ⟨e2, k2, l2, n2, v2, t2, u2, c2⟩ := y
  unfold resX sameX
  dsimp only at *
  obtain ⟨W1, hW1⟩ : ∃ W1, ((w.alloc (.cells #[.int .i64 e1, .int .i64 k1, .int .i64 l1, .int .i64 n1, v1, u1] 44)).alloc (.cells #[.int .i64 e2, .int .i64 k2, .int .i64 l2, .int .i64 n2, v2, u2] 44)) = W1 := ⟨_, rfl⟩
  have b1 : Below w.heap.size w W1 := by rw [← hW1]; exact (by repeat (first | exact Below.refl _ _ | assumption | refine Below.drew ?_ | refine below_drewN ?_ _ | refine Below.alloc ?_ (by (try simp) <;> omega) _ | refine Below.setCell ?_ (by (try simp) <;> omega) _ | refine Below.trans ?_ (Below.mono (by assumption) (by (try simp) <;> omega))))
  have x1 : Blk W1 w.heap.size 44 #[.int .i64 e1, .int .i64 k1, .int .i64 l1, .int .i64 n1, v1, u1] := by
    rw [← hW1]; exact (Blk.new w _ _).below ((Below.refl _ _).alloc (Nat.le_refl _) _) (by simp)
  have x2 : Blk W1 (w.heap.size + 1) 44 #[.int .i64 e2, .int .i64 k2, .int .i64 l2, .int .i64 n2, v2, u2] := by
    have h := Blk.new (w.alloc (.cells #[.int .i64 e1, .int .i64 k1, .int .i64 l1, .int .i64 n1, v1, u1] 44)) 44 #[.int .i64 e2, .int .i64 k2, .int .i64 l2, .int .i64 n2, v2, u2]
    rw [hW1, World.size_alloc] at h
    exact h
  have HSN : Hid (Calls Tryz.prog 29 #[v1, v2] W1 fun e w' => e = .returned (.bool (t1 == t2)) ∧ Below W1.heap.size W1 w') := show Calls _ _ _ _ _ from by
    have h := refTexts_any v1 v2 t1 t2 hx hy W1 (Vec.below tx b1) (Vec.below ty b1)
    have e : decide (t1 = t2) = (t1 == t2) := by rw [Bool.eq_iff_iff, decide_eq_true_iff, beq_iff_eq]
    rw [e] at h
    exact h
  have HC1 := Lib.hid (fun W (hW : Below w.heap.size w W) => conv_sl (fx.below hW).sl)
  have HC2 := Lib.hid (fun W (hW : Below w.heap.size w W) => conv_sl (fy.below hW).sl)
  have hsb := strBeq11 fx.all fy.all
  obtain ⟨s1, hs1⟩ : ∃ s, strOf c1 = s := ⟨_, rfl⟩
  obtain ⟨s2, hs2⟩ : ∃ s, strOf c2 = s := ⟨_, rfl⟩
  rw [hs1] at HC1 hsb
  rw [hs2] at HC2 hsb
  have HB1 := Lib.hid b1
  have HX1 := Lib.hid x1
  have HX2 := Lib.hid x2
  obtain ⟨q1, hq1⟩ : ∃ b, (e1 == e2) = b := ⟨_, rfl⟩
  obtain ⟨q2, hq2⟩ : ∃ b, (k1 == k2) = b := ⟨_, rfl⟩
  obtain ⟨q3, hq3⟩ : ∃ b, (l1 == l2) = b := ⟨_, rfl⟩
  obtain ⟨q4, hq4⟩ : ∃ b, (n1 == n2) = b := ⟨_, rfl⟩
  obtain ⟨q5, hq5⟩ : ∃ b, (t1 == t2) = b := ⟨_, rfl⟩
  obtain ⟨q6, hq6⟩ : ∃ b, (c1 == c2) = b := ⟨_, rfl⟩
  rw [hq1, hq2, hq3, hq4, hq5, hq6]
  rw [hq5] at HSN
  rw [hq6] at hsb
  obtain ⟨a1, m1, hv1⟩ := tx.form
  obtain ⟨a2, m2, hv2⟩ := ty.form
  obtain ⟨a3, m3, hu1, -⟩ := fx.form
  obtain ⟨a4, m4, hu2, -⟩ := fy.form
  clear tx ty fx fy hx hy hq5 hq6 b1 hv1 hv2 hu1 hu2 hs1 hs2
  have y0 := x1.cell (j := 0) rfl
  have z0 := x2.cell (j := 0) rfl
  have y1 := x1.cell (j := 1) rfl
  have z1 := x2.cell (j := 1) rfl
  have y2 := x1.cell (j := 2) rfl
  have z2 := x2.cell (j := 2) rfl
  have y3 := x1.cell (j := 3) rfl
  have z3 := x2.cell (j := 3) rfl
  have y4 := x1.cell (j := 4) rfl
  have z4 := x2.cell (j := 4) rfl
  clear x1 x2
  go_enter Tryz.func19, Tryz.ntmps19
  cases q1 with
  | false =>
    go_wp2_with fail
    go_ret
    exact ⟨by simp, HB1.out⟩
  | true =>
  cases q2 with
  | false =>
    go_wp2_with fail
    go_ret
    exact ⟨by simp, HB1.out⟩
  | true =>
  cases q3 with
  | false =>
    go_wp2_with fail
    go_ret
    exact ⟨by simp, HB1.out⟩
  | true =>
  cases q4 with
  | false =>
    go_wp2_with fail
    go_ret
    exact ⟨by simp, HB1.out⟩
  | true =>
  go_wp2_with fail
  refine HSN.out.mono ?_
  rintro e w2 ⟨rfl, hb⟩
  have HB2 : Hid (Below w.heap.size w w2) := show Below _ _ _ from HB1.out.trans (hb.mono HB1.out.size)
  have HY2 : Hid (Blk w2 w.heap.size 44 #[.int .i64 e1, .int .i64 k1, .int .i64 l1, .int .i64 n1, v1, u1]) := show Blk _ _ _ _ from HX1.out.below hb HX1.out.lt
  have HZ2 : Hid (Blk w2 (w.heap.size + 1) 44 #[.int .i64 e2, .int .i64 k2, .int .i64 l2, .int .i64 n2, v2, u2]) := show Blk _ _ _ _ from HX2.out.below hb HX2.out.lt
  clear hb y0 y1 y2 y3 y4 z0 z1 z2 z3 z4 hW1
  have y5 := HY2.out.cell (j := 5) rfl
  have z5 := HZ2.out.cell (j := 5) rfl
  cases q5 with
  | false =>
    go_wp2_with fail
    go_ret
    exact ⟨by simp, HB2.out⟩
  | true =>
    have d1 := HC1.out _ HB2.out
    have d2 := HC2.out _ HB2.out
    go_wp2_with fail
    go_ret
    exact ⟨by simp, HB2.out⟩
end Go.Proofs.YtgoemaecdolioaaGreatDoor
