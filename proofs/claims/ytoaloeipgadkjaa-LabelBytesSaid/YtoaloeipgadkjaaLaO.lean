/-
  label: arguments opened: a text, a slice of texts, five words.
-/
import Derived.ChangeMaps5
import Derived.Deep.Strs
import Derived.Lib.SmallJoins
import Derived.Test.YtoaloeipgadkjaaFrame
import Derived.Test.YtoaloeipgadkjaaWordO
import Derived.Test.YtoaloeipgadkjaaLaK
namespace Go.Proofs.Ytoaloeipgadkjaa
open Go.ChangeShapes Go.WideShapes Go.ChangeAt Go.RowKit Go.Joins

set_option maxRecDepth 100000 in
theorem open_txt {H : Type} {enc : TypeId × Value → H} {W : World} {base : Nat} {v : Value} {d : DataW H} {p : List MemPlace}
    (hv : Value.okWide Try.prog W .any base 9 v) (h : DataW.Trod enc Try.prog W 0 (fun _ => true) true 9 v d p) : ∃ s : List UInt8, v = encStr s := by
  obtain ⟨s, rfl, -⟩ := Go.ChangeMaps.open_string Try.underlying9 hv h
  exact ⟨s.data.toList, rfl⟩
set_option maxRecDepth 100000 in
theorem open_txts {H : Type} {enc : TypeId × Value → H} {W : World} {base : Nat} {v : Value} {d : DataW H} {p : List MemPlace}
    (hv : Value.okWide Try.prog W .any base 41 v) (h : DataW.Trod enc Try.prog W 0 (fun _ => true) true 41 v d p) (hlt : ∀ x ∈ p, x.block < W.heap.size) : ∃ l, TxS W v l := by
  obtain ⟨a0, len0, cap0, rfl⟩ := okWide_slice Try.underlying41 hv
  obtain ⟨fuel, hf⟩ := h
  rcases Go.Deep.open_strs Try.underlying41 Try.underlying9 (by kernel_rfl) hf with ⟨hcs, hx⟩ | ⟨a, len, cap, m, Sx, hcs, hb, hl, hm, hmm, hx, hi⟩
  · simp [Value.cells] at hcs
    obtain ⟨rfl, rfl, rfl⟩ := hcs
    exact ⟨[], by simp, none, 0, rfl, Nat.le_refl _, fun h => by simp at h⟩
  · simp [Value.cells] at hcs
    obtain ⟨rfl, rfl, rfl⟩ := hcs
    simp only [if_true] at hmm
    subst hmm
    simp only [Prod.mk.injEq] at hx
    obtain ⟨-, rfl⟩ := hx
    have hlen : ((List.range len0).map fun i => (Sx i).data.toList).length = len0 := by simp
    refine ⟨(List.range len0).map fun i => (Sx i).data.toList, by simp, some a, m, by rw [hlen], by omega, fun h0 => ?_⟩
    rw [hlen] at h0
    obtain ⟨b, off, spot⟩ := a
    have hspot : spot = none := by simpa [Addr.add] using World.cell?_spot (hi 0 (by omega)).1
    subst hspot
    refine ⟨b, off, rfl, hlt (.cell b off) (MemPlace.mem_row.2 ⟨0, by omega, by simp⟩), fun j y hy => ?_⟩
    have hj : j < len0 := by
      have := (List.getElem?_eq_some_iff.1 hy).1
      simpa using this
    rw [← Go.WideShapes.add_plain, (hi j (by omega)).1]
    simp [hj] at hy
    rw [← hy]
set_option maxRecDepth 100000 in
theorem open_five {H : Type} {enc : TypeId × Value → H} {W : World} {base : Nat} {v : Value} {d : DataW H} {p : List MemPlace}
    (hv : Value.okWide Try.prog W .any base 24 v) (h : DataW.Trod enc Try.prog W 0 (fun _ => true) true 24 v d p) :
    ∃ l : List Nat, v = .agg (arr5 l) ∧ l.length = 5 ∧ Words64 l := by
  have ht : Try.prog.underlying 24 = some (.array 5 23) := Try.underlying24
  have hC : Try.prog.cellsOf 24 = 5 := by kernel_rfl
  have hce : Try.prog.cellsOf 23 = 1 := by kernel_rfl
  unfold Value.okWide at hv
  rw [ht] at hv
  obtain ⟨cs, rfl, hsz, -⟩ := hv
  obtain ⟨fuel, hf⟩ := h
  obtain ⟨xs, m, -, -, -, hlen, hi⟩ := DataW.trod_array ht hf
  have each : ∀ j, j < 5 → ∃ n : Nat, cs[j]? = some (.int .u64 (n : Int)) ∧ n < 18446744073709551616 := fun j hj => by
    have hj5 : j < cs.size := by rw [hsz, hC]; exact hj
    have h0 := hi j hj
    rw [hce] at h0
    simp only [Value.cells] at h0
    have e : ((cs.toList.drop (j * 1)).take 1) = [cs[j]] := by
      rw [Nat.mul_one, List.drop_eq_getElem_cons (by simpa using hj5)]
      simp
    rw [e] at h0
    have hx : ∃ x, xs[j]? = some x := ⟨_, List.getElem?_eq_getElem (by omega)⟩
    obtain ⟨x, hx⟩ := hx
    rw [hx] at h0
    obtain ⟨f0, e0, -, w0⟩ := DataW.trod_int Try.underlying23 h0
    simp only [List.cons.injEq, and_true] at e0
    have b0 := bounds_u64 w0
    obtain ⟨n0, rfl⟩ := Int.eq_ofNat_of_zero_le b0.1
    exact ⟨n0, by rw [Array.getElem?_eq_getElem hj5, e0], by omega⟩
  obtain ⟨n0, e0, l0⟩ := each 0 (by decide)
  obtain ⟨n1, e1, l1⟩ := each 1 (by decide)
  obtain ⟨n2, e2, l2⟩ := each 2 (by decide)
  obtain ⟨n3, e3, l3⟩ := each 3 (by decide)
  obtain ⟨n4, e4, l4⟩ := each 4 (by decide)
  refine ⟨[n0, n1, n2, n3, n4], ?_, rfl, fun i => ?_⟩
  · congr 1
    apply Array.ext
    · rw [hsz, hC]; rfl
    · intro i h1 h2
      have h5 : i < 5 := by rw [hsz, hC] at h1; exact h1
      have : i = 0 ∨ i = 1 ∨ i = 2 ∨ i = 3 ∨ i = 4 := by omega
      rw [Array.getElem?_eq_getElem (by omega)] at e0 e1 e2 e3 e4
      rcases this with rfl | rfl | rfl | rfl | rfl
      · exact Option.some.inj e0
      · exact Option.some.inj e1
      · exact Option.some.inj e2
      · exact Option.some.inj e3
      · exact Option.some.inj e4
  · have : i = 0 ∨ i = 1 ∨ i = 2 ∨ i = 3 ∨ i = 4 ∨ 5 ≤ i := by omega
    rcases this with rfl | rfl | rfl | rfl | rfl | h
    · exact l0
    · exact l1
    · exact l2
    · exact l3
    · exact l4
    · rw [List.getElem?_eq_none (by simpa using h)]; exact (by decide : 0 < 18446744073709551616)
end Go.Proofs.Ytoaloeipgadkjaa
