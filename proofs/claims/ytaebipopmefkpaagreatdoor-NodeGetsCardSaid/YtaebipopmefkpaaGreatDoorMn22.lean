/-
  Texts NdP to NdP, as one.
-/
import Derived.Test.YtaebipopmefkpaaGreatDoorMn21
import Derived.ChangeMaps5
import Derived.Lib.SmallJoins
/-
  node: arguments opened: words, inodes, super lines, tables, maps, entries; what the rows' lists of package-level tables give.
-/
namespace Go.Proofs.YtaebipopmefkpaaGreatDoor
open Go.ChangeShapes Go.WideShapes Go.ChangeAt Go.RowKit Go.Joins

def cellNum : Value → Int
  | .int _ z => z
  | _ => 0
set_option maxRecDepth 100000 in
theorem trod_nums {H : Type} {enc : TypeId × Value → H} {W : World} {t e : TypeId} {k : IntKind} {n fuel : Nat} {cs : List Value} {x : DataW H × List MemPlace}
    (ht : Tryz.prog.underlying t = some (.array n e)) (he : Tryz.prog.underlying e = some (.int k)) (hc : Tryz.prog.cellsOf e = 1) (hC : Tryz.prog.cellsOf t = n)
    (h : DataW.trod enc Tryz.prog W 0 (fun _ => true) true fuel t cs = some x) : ∃ l : List Int, l.length = n ∧ cs = l.map (Value.int k) ∧ ∀ y ∈ l, (Lit.int k y).wf = true := by
  obtain ⟨xs, m, -, -, hl, hlen, hi⟩ := DataW.trod_array ht h
  rw [hC] at hl
  have each : ∀ j (hj : j < n), ∃ z, cs[j]'(by omega) = .int k z ∧ (Lit.int k z).wf = true := fun j hj => by
    have h0 := hi j hj
    rw [hc, Nat.mul_one] at h0
    have e : (cs.drop j).take 1 = [cs[j]'(by omega)] := by
      rw [List.drop_eq_getElem_cons (by omega)]
      rfl
    rw [e, List.getElem?_eq_getElem (show j < xs.length by omega)] at h0
    obtain ⟨f0, e0, -, w0⟩ := DataW.trod_int he h0
    simp only [List.cons.injEq, and_true] at e0
    exact ⟨f0, e0, w0⟩
  refine ⟨cs.map cellNum, by simp [hl], ?_, fun y hy => ?_⟩
  · refine List.ext_getElem (by simp) fun j h1 h2 => ?_
    obtain ⟨z, hz, -⟩ := each j (by omega)
    simp [hz, cellNum]
  · obtain ⟨c, hcm, rfl⟩ := List.mem_map.1 hy
    obtain ⟨j, hj, rfl⟩ := List.getElem_of_mem hcm
    obtain ⟨z, hz, hw⟩ := each j (by omega)
    rw [hz]
    exact hw
theorem agg_of {cs : Array Value} {k : IntKind} {l : List Int} (h : cs.toList = l.map (Value.int k)) : cs = (l.map (Value.int k)).toArray := by
  rw [← h]
set_option maxRecDepth 100000 in
theorem open_line {H : Type} {enc : TypeId × Value → H} {W : World} {base : Nat} {v : Value} {d : DataW H} {p : List MemPlace}
    (hv : Value.okWide Tryz.prog W .any base 23 v) (h : DataW.Trod enc Tryz.prog W 0 (fun _ => true) true 23 v d p) : ∃ l, v = .agg (lnA l) ∧ Line8 l := by
  unfold Value.okWide at hv
  rw [Tryz.underlying23] at hv
  obtain ⟨cs, rfl, -⟩ := hv
  obtain ⟨fuel, hf⟩ := h
  obtain ⟨l, hl, hcs, hw⟩ := trod_nums (k := .u64) Tryz.underlying23 Tryz.underlying22 (by kernel_rfl) (by kernel_rfl) hf
  refine ⟨l, congrArg _ (agg_of hcs), hl, fun y hy => ?_⟩
  have := bounds_u64 (hw y hy)
  omega
theorem goodI_wf {k : Nat} {l : List Int} (hk : l.length = k) (h : ∀ y ∈ l, (Lit.int .i64 y).wf = true) : GoodI k (ints l) :=
  goodI_ints hk fun y hy => by
    have := bounds_i64 (h y hy)
    omega
set_option maxRecDepth 100000 in
theorem open_Super {H : Type} {enc : TypeId × Value → H} {W : World} {base : Nat} {v : Value} {d : DataW H} {p : List MemPlace}
    (hv : Value.okWide Tryz.prog W .any base 25 v) (h : DataW.Trod enc Tryz.prog W 0 (fun _ => true) true 25 v d p) : ∃ l, v = .agg (ints l) ∧ GoodI 2 (ints l) ∧ l.length = 2 := by
  obtain ⟨c0, c1, y0, y1, n, rfl, -, -, h0, h1⟩ := open_agg2 Tryz.underlying25 (by kernel_rfl) (by kernel_rfl) hv h
  obtain ⟨a0, e0, -, w0⟩ := DataW.trod_int Tryz.underlying3 h0
  obtain ⟨a1, e1, -, w1⟩ := DataW.trod_int Tryz.underlying3 h1
  simp at e0 e1
  subst e0 e1
  exact ⟨[a0, a1], rfl, goodI_wf rfl (fun y hy => by
    simp at hy
    rcases hy with rfl | rfl <;> assumption), rfl⟩
set_option maxRecDepth 100000 in
theorem open_Inode {H : Type} {enc : TypeId × Value → H} {W : World} {base : Nat} {v : Value} {d : DataW H} {p : List MemPlace}
    (hv : Value.okWide Tryz.prog W .any base 31 v) (h : DataW.Trod enc Tryz.prog W 0 (fun _ => true) true 31 v d p) : ∃ l, v = .agg (ints l) ∧ GoodI 3 (ints l) ∧ l.length = 3 := by
  obtain ⟨c0, c1, c2, y0, y1, y2, n, rfl, -, -, h0, h1, h2⟩ := open_agg3 Tryz.underlying31 (by kernel_rfl) (by kernel_rfl) hv h
  obtain ⟨a0, e0, -, w0⟩ := DataW.trod_int (k := .i64) (by kernel_rfl) h0
  obtain ⟨a1, e1, -, w1⟩ := DataW.trod_int Tryz.underlying3 h1
  obtain ⟨a2, e2, -, w2⟩ := DataW.trod_int Tryz.underlying3 h2
  simp at e0 e1 e2
  subst e0 e1 e2
  exact ⟨[a0, a1, a2], rfl, goodI_wf rfl (fun y hy => by
    simp at hy
    rcases hy with rfl | rfl | rfl <;> assumption), rfl⟩
set_option maxRecDepth 100000 in
theorem open_Entry {H : Type} {enc : TypeId × Value → H} {W : World} {base : Nat} {v : Value} {d : DataW H} {p : List MemPlace}
    (hv : Value.okWide Tryz.prog W .any base 44 v) (h : DataW.Trod enc Tryz.prog W 0 (fun _ => true) true 44 v d p) :
    ∃ (a b : Int) (s : List UInt8), v = .agg #[.int .i64 a, .int .i64 b, encStr s] ∧ (-9223372036854775808 ≤ a ∧ a ≤ 9223372036854775807) ∧ (-9223372036854775808 ≤ b ∧ b ≤ 9223372036854775807) ∧ s.length ≤ 9223372036854775807 := by
  obtain ⟨c0, c1, c2, y0, y1, y2, n, rfl, -, -, h0, h1, h2⟩ := open_agg3 Tryz.underlying44 (by kernel_rfl) (by kernel_rfl) hv h
  obtain ⟨a0, e0, -, w0⟩ := DataW.trod_int Tryz.underlying3 h0
  obtain ⟨a1, e1, -, w1⟩ := DataW.trod_int Tryz.underlying3 h1
  obtain ⟨s, e2, -, w2⟩ := DataW.trod_string Tryz.underlying9 h2
  simp at e0 e1 e2
  subst e0 e1 e2
  exact ⟨a0, a1, s.data.toList, rfl, bounds_i64 w0, bounds_i64 w1, Nat.le_trans (show s.data.toList.length ≤ maxLen from w2) (by decide)⟩
set_option maxRecDepth 100000 in
theorem open_Table {H : Type} {enc : TypeId × Value → H} {W : World} {base : Nat} {v : Value} {d : DataW H} {p : List MemPlace}
    (hv : Value.okWide Tryz.prog W .any base 40 v) (h : DataW.Trod enc Tryz.prog W 0 (fun _ => true) true 40 v d p) : ∃ l, v = .agg (ints l) ∧ GoodI 7 (ints l) ∧ l.length = 7 := by
  unfold Value.okWide at hv
  rw [Tryz.underlying40] at hv
  obtain ⟨cs, rfl, -⟩ := hv
  obtain ⟨fuel, hf⟩ := h
  obtain ⟨y0, n, -, hl, h0⟩ := trod_struct1 Tryz.underlying40 hf
  simp only [Value.cells] at h0 hl
  rw [show Tryz.prog.cellsOf 40 = 7 by kernel_rfl] at hl
  rw [show ∀ f : TypeId, f = 34 → Tryz.prog.cellsOf f = 7 from fun f hf => by subst hf; kernel_rfl] at h0
  · rw [show ∀ (o : Nat), o = 0 → (cs.toList.drop o).take 7 = cs.toList from fun o ho => by subst ho; rw [List.drop_zero, List.take_of_length_le (by omega)]] at h0
    · obtain ⟨l, hl, hcs, hw⟩ := trod_nums (k := .i64) Tryz.underlying34 Tryz.underlying3 (by kernel_rfl) (by kernel_rfl) h0
      exact ⟨l, congrArg _ (agg_of hcs), goodI_wf hl hw, hl⟩
    · rfl
  · rfl
set_option maxRecDepth 100000 in
theorem open_Map {H : Type} {enc : TypeId × Value → H} {W : World} {base : Nat} {v : Value} {d : DataW H} {p : List MemPlace}
    (hv : Value.okWide Tryz.prog W .any base 36 v) (h : DataW.Trod enc Tryz.prog W 0 (fun _ => true) true 36 v d p) : ∃ l, v = .agg (ints l) ∧ GoodI 8 (ints l) ∧ l.length = 8 := by
  unfold Value.okWide at hv
  rw [Tryz.underlying36] at hv
  obtain ⟨cs, rfl, -⟩ := hv
  obtain ⟨fuel, hf⟩ := h
  obtain ⟨y0, y1, n, -, hl, h0, h1⟩ := trod_struct2 Tryz.underlying36 hf
  simp only [Value.cells] at h0 h1 hl
  rw [show Tryz.prog.cellsOf 36 = 8 by kernel_rfl] at hl
  have h0' : DataW.trod enc Tryz.prog W 0 (fun _ => true) true n 3 ((cs.toList.drop 0).take (Tryz.prog.cellsOf 3)) = some y0 := h0
  have h1' : DataW.trod enc Tryz.prog W 0 (fun _ => true) true n 34 ((cs.toList.drop 1).take (Tryz.prog.cellsOf 34)) = some y1 := h1
  rw [show Tryz.prog.cellsOf 3 = 1 by kernel_rfl] at h0'
  rw [show Tryz.prog.cellsOf 34 = 7 by kernel_rfl] at h1'
  obtain ⟨a0, e0, -, w0⟩ := DataW.trod_int Tryz.underlying3 h0'
  obtain ⟨l, hl7, hcs, hw⟩ := trod_nums (k := .i64) Tryz.underlying34 Tryz.underlying3 (by kernel_rfl) (by kernel_rfl) h1'
  have hc : cs.toList = (a0 :: l).map (Value.int .i64) := by
    have e1 : cs.toList = (cs.toList.drop 0).take 1 ++ (cs.toList.drop 1).take 7 := by
      rw [List.drop_zero, List.take_of_length_le (l := cs.toList.drop 1) (by rw [List.length_drop]; omega), List.take_append_drop]
    rw [e1, e0, hcs]
    rfl
  exact ⟨a0 :: l, congrArg _ (agg_of hc), goodI_wf (by simp [hl7]) (fun y hy => by
    rcases List.mem_cons.1 hy with rfl | h
    · exact w0
    · exact hw y h), by simp [hl7]⟩
end Go.Proofs.YtaebipopmefkpaaGreatDoor
