/-
  Texts PoB to PoB, as one.
-/
import Derived.Test.YtkpiehejkhjhlaaDoorMg15
import Derived.Deep.Slices
/-
  Arguments opened: marks, a call, a list of calls.
-/
namespace Go.Proofs.YtkpiehejkhjhlaaDoor
open Go.ChangeShapes Go.WideShapes Go.ChangeAt Go.RowKit

theorem trod_bools {H : Type} {enc : TypeId × Value → H} {W : World} {F : Nat → Prop} {fuel : Nat} {cs : List Value} {x : DataW H × List MemPlace}
    (h : DataW.trod enc Tryd.prog W 0 (fun _ => true) true fuel 41 cs = some x) (hlt : ∀ q ∈ x.2, q.block < W.heap.size) (hF : ∀ k, k < W.heap.size → ¬ F k) :
    ∃ v l, cs = [v] ∧ SlB W F v l ∧ l.length ≤ 9223372036854775807 := by
  rcases Go.Deep.open_slice1 Tryd.underlying41 (by kernel_rfl) h with ⟨rfl, rfl⟩ | ⟨a, len, cap, m, n, V, D, Pl, rfl, hb, hl, hm, hmm, rfl, hi⟩
  · exact ⟨_, [], rfl, ⟨none, 0, rfl, fun h => by simp at h⟩, by simp⟩
  · simp only [if_true] at hmm
    subst hmm
    have hat : ∀ i, ∃ b : Bool, i < m → W.cell? (a.add i) = some (.bool b) := fun i => by
      by_cases him : i < m
      · obtain ⟨h1, h2⟩ := hi i him
        obtain ⟨b, e1, -⟩ := DataW.trod_bool Tryd.underlying4 h2
        simp at e1
        exact ⟨b, fun _ => by rw [h1, e1]⟩
      · exact ⟨false, fun h => absurd h him⟩
    obtain ⟨B, hB⟩ := Classical.axiomOfChoice hat
    have hmx : m ≤ 9223372036854775807 := hm
    refine ⟨_, (List.range len).map B, rfl, ⟨some a, m, by simp, fun h0 => ?_⟩, by simp; omega⟩
    rw [List.length_map, List.length_range] at h0
    obtain ⟨b, off, spot⟩ := a
    have hspot : spot = none := by
      have := hB 0 (by omega)
      simpa [Addr.add] using World.cell?_spot this
    subst hspot
    have hlt1 := hlt (.cell b off) (List.mem_append_left _ (MemPlace.mem_row.2 ⟨0, by omega, by simp⟩))
    refine ⟨b, off, rfl, hlt1, hF b hlt1, fun j hj => ?_⟩
    rw [List.length_map, List.length_range] at hj
    have e : ((List.range len).map B)[j]?.getD false = B j := by simp [hj]
    rw [e]
    have h1 := hB j (by omega)
    have a1 : (⟨b, off, none⟩ : Addr).add j = ⟨b, off + j, none⟩ := by unfold Addr.add; split <;> simp_all
    rw [a1] at h1
    exact h1
set_option maxRecDepth 100000 in
theorem trod_act {H : Type} {enc : TypeId × Value → H} {W : World} {F : Nat → Prop} {fuel : Nat} {cs : List Value} {x : DataW H × List MemPlace}
    (h : DataW.trod enc Tryd.prog W 0 (fun _ => true) true fuel 43 cs = some x) (hlt : ∀ q ∈ x.2, q.block < W.heap.size) (hF : ∀ k, k < W.heap.size → ¬ F k) :
    ∃ (y : Ask) (m : Value), cs = (askA y m).toList ∧ (-9223372036854775808 ≤ y.at_ ∧ y.at_ ≤ 9223372036854775807) ∧ SlB W F m y.marks := by
  have hC : Tryd.prog.cellsOf 43 = 6 := by kernel_rfl
  have hI : Tryd.prog.cellsOf 3 = 1 := by kernel_rfl
  have hU : Tryd.prog.cellsOf 40 = 1 := by kernel_rfl
  have hB : Tryd.prog.cellsOf 41 = 1 := by kernel_rfl
  obtain ⟨ys, n', -, rfl, hcl, hyl, hfl⟩ := DataW.trod_struct Tryd.underlying43 h
  rw [hC] at hcl
  match cs, hcl, ys, hyl with
  | [c0, c1, c2, c3, c4, c5], _, [y0, y1, y2, y3, y4, y5], _ =>
    have f0 : DataW.trod enc Tryd.prog W 0 (fun _ => true) true n' 3 (([c0, c1, c2, c3, c4, c5].drop 0).take (Tryd.prog.cellsOf 3)) = [y0, y1, y2, y3, y4, y5][0]? := hfl 0 _ rfl
    have f1 : DataW.trod enc Tryd.prog W 0 (fun _ => true) true n' 3 (([c0, c1, c2, c3, c4, c5].drop 1).take (Tryd.prog.cellsOf 3)) = [y0, y1, y2, y3, y4, y5][1]? := hfl 1 _ rfl
    have f2 : DataW.trod enc Tryd.prog W 0 (fun _ => true) true n' 3 (([c0, c1, c2, c3, c4, c5].drop 2).take (Tryd.prog.cellsOf 3)) = [y0, y1, y2, y3, y4, y5][2]? := hfl 2 _ rfl
    have f3 : DataW.trod enc Tryd.prog W 0 (fun _ => true) true n' 40 (([c0, c1, c2, c3, c4, c5].drop 3).take (Tryd.prog.cellsOf 40)) = [y0, y1, y2, y3, y4, y5][3]? := hfl 3 _ rfl
    have f4 : DataW.trod enc Tryd.prog W 0 (fun _ => true) true n' 40 (([c0, c1, c2, c3, c4, c5].drop 4).take (Tryd.prog.cellsOf 40)) = [y0, y1, y2, y3, y4, y5][4]? := hfl 4 _ rfl
    have f5 : DataW.trod enc Tryd.prog W 0 (fun _ => true) true n' 41 (([c0, c1, c2, c3, c4, c5].drop 5).take (Tryd.prog.cellsOf 41)) = [y0, y1, y2, y3, y4, y5][5]? := hfl 5 _ rfl
    rw [hI] at f0 f1 f2
    rw [hU] at f3 f4
    rw [hB] at f5
    simp at f0 f1 f2 f3 f4 f5
    obtain ⟨a0, e0, -, w0⟩ := DataW.trod_int Tryd.underlying3 f0
    obtain ⟨a1, e1, -, w1⟩ := DataW.trod_int Tryd.underlying3 f1
    obtain ⟨a2, e2, -, w2⟩ := DataW.trod_int Tryd.underlying3 f2
    obtain ⟨a3, e3, -, w3⟩ := DataW.trod_int Tryd.underlying40 f3
    obtain ⟨a4, e4, -, w4⟩ := DataW.trod_int Tryd.underlying40 f4
    obtain ⟨v, l, e5, hs, -⟩ := trod_bools (F := F) f5 (fun q hq => hlt q (List.mem_flatMap.2 ⟨y5, by simp, hq⟩)) hF
    simp at e0 e1 e2 e3 e4 e5
    subst e0 e1 e2 e3 e4 e5
    have b1 := bounds_i64 w1
    exact ⟨⟨a0, a1, a2, a3, a4, l⟩, c5, rfl, b1, hs⟩
set_option maxRecDepth 100000 in
theorem trod_acts {H : Type} {enc : TypeId × Value → H} {W : World} {F : Nat → Prop} {fuel : Nat} {cs : List Value} {x : DataW H × List MemPlace}
    (h : DataW.trod enc Tryd.prog W 0 (fun _ => true) true fuel 22 cs = some x) (hlt : ∀ q ∈ x.2, q.block < W.heap.size) (hF : ∀ k, k < W.heap.size → ¬ F k) :
    ∃ v xs, cs = [v] ∧ SlA W F v xs ∧ (∀ y ∈ xs, -9223372036854775808 ≤ y.at_ ∧ y.at_ ≤ 9223372036854775807) ∧ xs.length ≤ 9223372036854775807 := by
  have hC : Tryd.prog.cellsOf 43 = 6 := by kernel_rfl
  rcases Go.Deep.open_slice Tryd.underlying22 h with ⟨rfl, rfl⟩ | ⟨a, len, cap, m, n, D, Pl, rfl, hb, hl, hm, hmm, rfl, hi⟩
  · exact ⟨_, [], rfl, ⟨none, 0, rfl, fun h => by simp at h⟩, (fun y hy => by cases hy), by simp⟩
  · simp only [if_true] at hmm
    subst hmm
    have hmx : m ≤ 9223372036854775807 := hm
    have hat : ∀ i, ∃ y : Ask × Value, i < m → (∀ (j : Nat) v, (askA y.1 y.2).toList[j]? = some v → W.cell? ((a.add (i * 6)).add j) = some v) ∧ (-9223372036854775808 ≤ y.1.at_ ∧ y.1.at_ ≤ 9223372036854775807) ∧ SlB W F y.2 y.1.marks := fun i => by
      by_cases him : i < m
      · obtain ⟨cs', hc, ht⟩ := hi i him
        rw [hC] at hc
        obtain ⟨y, v, rfl, hy, hs⟩ := trod_act (F := F) ht (fun q hq => hlt q (List.mem_append_right _ (List.mem_flatMap.2 ⟨i, List.mem_range.2 him, hq⟩))) hF
        obtain ⟨-, hcl, hcell⟩ := World.cells?_some hc
        refine ⟨(y, v), fun _ => ⟨fun j u hu => ?_, hy, hs⟩⟩
        have hj : j < 6 := by
          have := (List.getElem?_eq_some_iff.1 hu).1
          simpa using this
        have := hcell j hj
        rw [this]
        exact hu
      · exact ⟨(⟨0, 0, 0, 0, 0, []⟩, undef), fun h => absurd h him⟩
    obtain ⟨B, hB⟩ := Classical.axiomOfChoice hat
    refine ⟨_, (List.range len).map fun i => (B i).1, rfl, ⟨some a, m, by simp, fun h0 => ?_⟩, fun y hy => ?_, by simp; omega⟩
    · rw [List.length_map, List.length_range] at h0
      obtain ⟨b, off, spot⟩ := a
      have hspot : spot = none := by
        have := (hB 0 (by omega)).1 0 _ rfl
        simpa [Addr.add] using World.cell?_spot this
      subst hspot
      have hlt1 := hlt (.cell b off) (List.mem_append_left _ (by rw [hC]; exact MemPlace.mem_row.2 ⟨0, by omega, by simp⟩))
      refine ⟨b, off, rfl, hlt1, hF b hlt1, fun k hk => ?_⟩
      rw [List.length_map, List.length_range] at hk
      have e : ((List.range len).map fun i => (B i).1)[k]'(by simpa using hk) = (B k).1 := by simp
      rw [e]
      obtain ⟨h1, -, h2⟩ := hB k (by omega)
      refine ⟨(B k).2, fun j u hu => ?_, h2⟩
      have := h1 j u hu
      rw [Go.Deep.add_add] at this
      have a1 : (⟨b, off, none⟩ : Addr).add (k * 6 + j) = ⟨b, off + k * 6 + j, none⟩ := by unfold Addr.add; split <;> simp_all [Nat.add_assoc]
      rw [a1] at this
      exact this
    · obtain ⟨j, hj, rfl⟩ := List.mem_map.1 hy
      have hj' := List.mem_range.1 hj
      exact (hB j (by omega)).2.1
set_option maxRecDepth 100000 in
theorem open_bools {H : Type} {enc : TypeId × Value → H} {W : World} {base : Nat} {v : Value} {d : DataW H} {p : List MemPlace}
    (hv : Value.okWide Tryd.prog W .any base 41 v) (h : DataW.Trod enc Tryd.prog W 0 (fun _ => true) true 41 v d p) (hlt : ∀ x ∈ p, x.block < W.heap.size) :
    ∃ l, SlB W (fun k => W.heap.size ≤ k) v l ∧ l.length ≤ 9223372036854775807 := by
  obtain ⟨a0, len0, cap0, rfl⟩ := okWide_slice Tryd.underlying41 hv
  obtain ⟨fuel, hf⟩ := h
  obtain ⟨v, l, e, h1, h2⟩ := trod_bools (F := fun k => W.heap.size ≤ k) hf hlt (fun k hk => by omega)
  simp [Value.cells] at e
  subst e
  exact ⟨l, h1, h2⟩
set_option maxRecDepth 100000 in
theorem open_acts {H : Type} {enc : TypeId × Value → H} {W : World} {base : Nat} {v : Value} {d : DataW H} {p : List MemPlace}
    (hv : Value.okWide Tryd.prog W .any base 22 v) (h : DataW.Trod enc Tryd.prog W 0 (fun _ => true) true 22 v d p) (hlt : ∀ x ∈ p, x.block < W.heap.size) :
    ∃ xs, SlA W (fun k => W.heap.size ≤ k) v xs ∧ (∀ y ∈ xs, -9223372036854775808 ≤ y.at_ ∧ y.at_ ≤ 9223372036854775807) ∧ xs.length ≤ 9223372036854775807 := by
  obtain ⟨a0, len0, cap0, rfl⟩ := okWide_slice Tryd.underlying22 hv
  obtain ⟨fuel, hf⟩ := h
  obtain ⟨v, l, e, h1, h2⟩ := trod_acts (F := fun k => W.heap.size ≤ k) hf hlt (fun k hk => by omega)
  simp [Value.cells] at e
  subst e
  exact ⟨l, h1, h2⟩
set_option maxRecDepth 100000 in
theorem open_act {H : Type} {enc : TypeId × Value → H} {W : World} {base : Nat} {v : Value} {d : DataW H} {p : List MemPlace}
    (hv : Value.okWide Tryd.prog W .any base 43 v) (h : DataW.Trod enc Tryd.prog W 0 (fun _ => true) true 43 v d p) (hlt : ∀ x ∈ p, x.block < W.heap.size) :
    ∃ (y : Ask) (m : Value), v = .agg (askA y m) ∧ SlB W (fun k => W.heap.size ≤ k) m y.marks ∧ -9223372036854775808 ≤ y.at_ ∧ y.at_ ≤ 9223372036854775807 := by
  have ht := Tryd.underlying43
  obtain ⟨fuel, hf⟩ := h
  obtain ⟨y, m, e, h1, h2⟩ := trod_act (F := fun k => W.heap.size ≤ k) hf hlt (fun k hk => by omega)
  unfold Value.okWide at hv
  rw [ht] at hv
  obtain ⟨cs, rfl, -⟩ := hv
  have e' : cs = askA y m := by apply Array.ext'; simpa [Value.cells] using e
  exact ⟨y, m, by rw [e'], h2, h1⟩
end Go.Proofs.YtkpiehejkhjhlaaDoor
