/-
  An argument that is a slice of fields, opened.
-/
import Derived.Test.YthjlhbkjmlohcaaDoorWordO
import Derived.Test.YthjlhbkjmlohcaaDoorWordX
import Derived.Deep.Slices
namespace Go.Proofs.YthjlhbkjmlohcaaDoor
open Go.ChangeShapes Go.WideShapes Go.ChangeAt Go.RowKit

theorem open_fields {H : Type} {enc : TypeId × Value → H} {W : World} {base : Nat} {v : Value} {d : DataW H} {p : List MemPlace}
    (hv : Value.okWide Tryd.prog W .any base 23 v) (h : DataW.Trod enc Tryd.prog W 0 (fun _ => true) true 23 v d p) (hlt : ∀ x ∈ p, x.block < W.heap.size) :
    ∃ fs, SlF W v fs ∧ FieldInts fs := by
  obtain ⟨a0, len0, cap0, rfl⟩ := okWide_slice Tryd.underlying23 hv
  obtain ⟨fuel, hf⟩ := h
  have hC : Tryd.prog.cellsOf 33 = 2 := by kernel_rfl
  rcases Go.Deep.open_slice Tryd.underlying23 hf with ⟨hcs, hx⟩ | ⟨a, len, cap, m, n, D, Pl, hcs, hb, hl, hm, hmm, hx, hi⟩
  · simp [Value.cells] at hcs
    obtain ⟨rfl, rfl, rfl⟩ := hcs
    exact ⟨[], ⟨none, 0, rfl, Nat.le_refl _, fun h => by simp at h⟩, fun x hx => by cases hx⟩
  · simp [Value.cells] at hcs
    obtain ⟨rfl, rfl, rfl⟩ := hcs
    simp only [if_true] at hmm
    subst hmm
    have hat : ∀ i, ∃ xy : Int × Int, i < m → W.cell? (a.add (i * 2)) = some (.int .i64 xy.1) ∧ W.cell? ((a.add (i * 2)).add 1) = some (.int .i64 xy.2) ∧ (Lit.int .i64 xy.1).wf = true ∧ (Lit.int .i64 xy.2).wf = true := fun i => by
      by_cases him : i < m
      · obtain ⟨cs', hc, ht⟩ := hi i him
        rw [hC] at hc
        obtain ⟨ys, n', -, -, -, hyl, hfl⟩ := DataW.trod_struct Tryd.underlying33 ht
        obtain ⟨-, hcl, hcell⟩ := World.cells?_some hc
        match cs', hcl, ys, hyl with
        | [c0, c1], _, [y0, y1], _ =>
          have f0 : DataW.trod enc Tryd.prog W 0 (fun _ => true) true n' 3 (([c0, c1].drop 0).take (Tryd.prog.cellsOf 3)) = [y0, y1][0]? := hfl 0 _ rfl
          have f1 : DataW.trod enc Tryd.prog W 0 (fun _ => true) true n' 3 (([c0, c1].drop 1).take (Tryd.prog.cellsOf 3)) = [y0, y1][1]? := hfl 1 _ rfl
          rw [show Tryd.prog.cellsOf 3 = 1 from by kernel_rfl] at f0 f1
          simp at f0 f1
          obtain ⟨x, e0, -, w0⟩ := DataW.trod_int Tryd.underlying3 f0
          obtain ⟨y, e1, -, w1⟩ := DataW.trod_int Tryd.underlying3 f1
          simp at e0 e1
          subst e0 e1
          have q0 := hcell 0 (by decide)
          have q1 := hcell 1 (by decide)
          refine ⟨(x, y), fun _ => ⟨?_, q1, w0, w1⟩⟩
          have : (a.add (i * 2)).add 0 = a.add (i * 2) := by unfold Addr.add; simp
          rw [this] at q0
          exact q0
      · exact ⟨(0, 0), fun h => absurd h him⟩
    obtain ⟨F, hF⟩ := Classical.axiomOfChoice hat
    have hlen : ((List.range len0).map F).length = len0 := by simp
    refine ⟨(List.range len0).map F, ⟨some a, m, by rw [hlen], by omega, fun h0 => ?_⟩, fun x hx => ?_⟩
    · rw [hlen] at h0
      obtain ⟨b, off, spot⟩ := a
      have hspot : spot = none := by
        have := (hF 0 (by omega)).1
        simpa [Addr.add] using World.cell?_spot this
      subst hspot
      simp only [Prod.mk.injEq] at hx
      refine ⟨b, off, rfl, hlt (.cell b off) (by rw [hx.2, hC]; exact List.mem_append_left _ (MemPlace.mem_row.2 ⟨0, by omega, by simp⟩)), fun j hj => ?_⟩
      rw [hlen] at hj
      have e : ((List.range len0).map F)[j]?.getD (0, 0) = F j := by simp [hj]
      rw [e]
      obtain ⟨h1, h2, -, -⟩ := hF j (by omega)
      have a1 : (⟨b, off, none⟩ : Addr).add (j * 2) = ⟨b, off + j * 2, none⟩ := by
        unfold Addr.add; split <;> simp_all
      rw [a1] at h1 h2
      refine ⟨h1, ?_⟩
      have a2 : (⟨b, off + j * 2, none⟩ : Addr).add 1 = ⟨b, off + j * 2 + 1, none⟩ := by
        unfold Addr.add; simp
      rw [a2] at h2
      exact h2
    · obtain ⟨j, hj, rfl⟩ := List.mem_map.1 hx
      have hj' := List.mem_range.1 hj
      obtain ⟨-, -, w1, w2⟩ := hF j (by omega)
      have b1 := bounds_i64 w1
      have b2 := bounds_i64 w2
      exact ⟨b1.1, b1.2, b2.1, b2.2⟩
end Go.Proofs.YthjlhbkjmlohcaaDoor
