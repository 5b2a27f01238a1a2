/-
  An argument that is a slice of touches, opened.
-/
import Derived.Test.YtkpiehejkhjhlaaTsD
import Derived.Test.YtkpiehejkhjhlaaWordO
import Derived.Deep.Slices
namespace Go.Proofs.Ytkpiehejkhjhlaa
open Go.ChangeShapes Go.WideShapes Go.ChangeAt Go.RowKit

set_option maxRecDepth 100000 in
theorem open_touches {H : Type} {enc : TypeId × Value → H} {W : World} {base : Nat} {v : Value} {d : DataW H} {p : List MemPlace}
    (hv : Value.okWide Try.prog W .any base 22 v) (h : DataW.Trod enc Try.prog W 0 (fun _ => true) true 22 v d p) (hlt : ∀ x ∈ p, x.block < W.heap.size) :
    ∃ ts, SlT W v ts ∧ ∀ t ∈ ts, okT t := by
  obtain ⟨a0, len0, cap0, rfl⟩ := okWide_slice Try.underlying22 hv
  obtain ⟨fuel, hf⟩ := h
  have hC : Try.prog.cellsOf 32 = 3 := by kernel_rfl
  rcases Go.Deep.open_slice Try.underlying22 hf with ⟨hcs, hx⟩ | ⟨a, len, cap, m, n, D, Pl, hcs, hb, hl, hm, hmm, hx, hi⟩
  · simp [Value.cells] at hcs
    obtain ⟨rfl, rfl, rfl⟩ := hcs
    exact ⟨[], ⟨none, 0, rfl, Nat.le_refl _, fun h => by simp at h⟩, fun x hx => by cases hx⟩
  · simp [Value.cells] at hcs
    obtain ⟨rfl, rfl, rfl⟩ := hcs
    simp only [if_true] at hmm
    subst hmm
    have hat : ∀ i, ∃ t : Tch, i < m → W.cell? (a.add (i * 3)) = some (.int .i64 t.kind) ∧ W.cell? ((a.add (i * 3)).add 1) = some (.int .i64 t.at_) ∧ W.cell? ((a.add (i * 3)).add 2) = some (.int .u64 t.word) ∧ (Lit.int .i64 t.at_).wf = true ∧ (Lit.int .u64 t.word).wf = true := fun i => by
      by_cases him : i < m
      · obtain ⟨cs', hc, ht⟩ := hi i him
        rw [hC] at hc
        obtain ⟨ys, n', -, -, -, hyl, hfl⟩ := DataW.trod_struct Try.underlying32 ht
        obtain ⟨-, hcl, hcell⟩ := World.cells?_some hc
        match cs', hcl, ys, hyl with
        | [c0, c1, c2], _, [y0, y1, y2], _ =>
          have f0 : DataW.trod enc Try.prog W 0 (fun _ => true) true n' 29 (([c0, c1, c2].drop 0).take (Try.prog.cellsOf 29)) = [y0, y1, y2][0]? := hfl 0 _ rfl
          have f1 : DataW.trod enc Try.prog W 0 (fun _ => true) true n' 3 (([c0, c1, c2].drop 1).take (Try.prog.cellsOf 3)) = [y0, y1, y2][1]? := hfl 1 _ rfl
          have f2 : DataW.trod enc Try.prog W 0 (fun _ => true) true n' 30 (([c0, c1, c2].drop 2).take (Try.prog.cellsOf 30)) = [y0, y1, y2][2]? := hfl 2 _ rfl
          rw [show Try.prog.cellsOf 3 = 1 from by kernel_rfl] at f1
          rw [show Try.prog.cellsOf 29 = 1 from by kernel_rfl] at f0
          rw [show Try.prog.cellsOf 30 = 1 from by kernel_rfl] at f2
          simp at f0 f1 f2
          obtain ⟨x, e0, -, w0⟩ := DataW.trod_int Try.underlying29 f0
          obtain ⟨y, e1, -, w1⟩ := DataW.trod_int Try.underlying3 f1
          obtain ⟨z, e2, -, w2⟩ := DataW.trod_int Try.underlying30 f2
          simp at e0 e1 e2
          subst e0 e1 e2
          have q0 := hcell 0 (by decide)
          have q1 := hcell 1 (by decide)
          have q2 := hcell 2 (by decide)
          refine ⟨⟨x, y, z⟩, fun _ => ⟨?_, q1, q2, w1, w2⟩⟩
          have : (a.add (i * 3)).add 0 = a.add (i * 3) := by unfold Addr.add; simp
          rw [this] at q0
          exact q0
      · exact ⟨⟨0, 0, 0⟩, fun h => absurd h him⟩
    obtain ⟨F, hF⟩ := Classical.axiomOfChoice hat
    have hlen : ((List.range len0).map F).length = len0 := by simp
    refine ⟨(List.range len0).map F, ⟨some a, m, by rw [hlen], by omega, fun h0 => ?_⟩, fun x hx => ?_⟩
    · rw [hlen] at h0
      obtain ⟨b, off, spot⟩ := a
      have hspot : spot = none := by
        have := (hF 0 (by omega)).1
        simpa [Addr.add] using World.cell?_spot this
      subst hspot
      simp only [Prod.mk.injEq] at hx
      refine ⟨b, off, rfl, hlt (.cell b off) (by rw [hx.2, hC]; exact List.mem_append_left _ (MemPlace.mem_row.2 ⟨0, by omega, by simp⟩)), fun j hj => ?_⟩
      rw [hlen] at hj
      have e : ((List.range len0).map F)[j]'(by rw [hlen]; exact hj) = F j := by simp
      rw [e]
      obtain ⟨h1, h2, h3, -⟩ := hF j (by omega)
      have a1 : (⟨b, off, none⟩ : Addr).add (j * 3) = ⟨b, off + j * 3, none⟩ := by
        unfold Addr.add; split <;> simp_all
      rw [a1] at h1 h2 h3
      have a2 : (⟨b, off + j * 3, none⟩ : Addr).add 1 = ⟨b, off + j * 3 + 1, none⟩ := by
        unfold Addr.add; simp
      have a3 : (⟨b, off + j * 3, none⟩ : Addr).add 2 = ⟨b, off + j * 3 + 2, none⟩ := by
        unfold Addr.add; simp
      rw [a2] at h2
      rw [a3] at h3
      intro k y hy
      match k, hy with
      | 0, hy => simp at hy; subst hy; exact h1
      | 1, hy => simp at hy; subst hy; exact h2
      | 2, hy => simp at hy; subst hy; exact h3
    · obtain ⟨j, hj, rfl⟩ := List.mem_map.1 hx
      have hj' := List.mem_range.1 hj
      obtain ⟨-, -, -, w1, w2⟩ := hF j (by omega)
      have b1 := bounds_i64 w1
      have b2 := bounds_u64 w2
      exact ⟨⟨b1.1, b1.2⟩, by omega⟩
end Go.Proofs.Ytkpiehejkhjhlaa
