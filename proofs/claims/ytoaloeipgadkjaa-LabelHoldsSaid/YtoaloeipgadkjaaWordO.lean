/-
  A slice of unsigned numbers that a law is handed, opened: the numbers as naturals, and its capacity.
-/
import Derived.Test.YtoaloeipgadkjaaFrame
import Derived.Test.YtoaloeipgadkjaaWordC
import Derived.SizedLaws
import Derived.ChangeSlices
namespace Go.Proofs.Ytoaloeipgadkjaa
open Go.ChangeShapes Go.WideShapes Go.ChangeAt Go.RowKit

set_option maxRecDepth 100000 in
theorem open_sl {H : Type} {enc : TypeId × Value → H} {W : World} {base : Nat} {t e : TypeId} {k : IntKind} {v : Value} {d : DataW H} {p : List MemPlace}
    (ht : Try.prog.underlying t = some (.slice e)) (he : Try.prog.underlying e = some (.int k)) (hc : Try.prog.cellsOf e = 1) (hk : ∀ n, (Lit.int k n).wf = true → 0 ≤ n)
    (hval : Value.okWide Try.prog W .any base t v) (h : DataW.Trod enc Try.prog W 0 (fun _ => true) true t v d p) (hlt : ∀ x ∈ p, x.block < W.heap.size) :
    ∃ xs : List Nat, Sl W k v xs ∧ (∀ x ∈ xs, (Lit.int k (x : Int)).wf = true) ∧
      ((v = .slice none 0 0 ∧ xs = [] ∧ d = .nil) ∨ ∃ a cap el sp, v = .slice (some a) xs.length cap ∧ d = .slice el sp ∧ el.length + sp.length = cap) := by
  obtain ⟨a0, len, cap, rfl⟩ := okWide_slice ht hval
  obtain ⟨fuel, hf⟩ := h
  rcases open_ints ht he hc hf with ⟨hcs, hx⟩ | ⟨a, len', cap', zs, hcs, _, hl, hm, hz, hx, hcell, hwz⟩
  · simp [Value.cells] at hcs
    obtain ⟨rfl, rfl, rfl⟩ := hcs
    simp only [Prod.mk.injEq] at hx
    exact ⟨[], ⟨none, 0, rfl, Nat.le_refl _, fun h => by simp at h⟩, (fun x hx => by cases hx), .inl ⟨rfl, rfl, hx.1⟩⟩
  · simp [Value.cells] at hcs
    obtain ⟨rfl, rfl, rfl⟩ := hcs
    simp only [Prod.mk.injEq] at hx
    obtain ⟨rfl, rfl⟩ := hx
    simp only [if_true] at hz
    have hlen : ((zs.take len).map Int.toNat).length = len := by simp; omega
    refine ⟨(zs.take len).map Int.toNat, ⟨some a, cap, by rw [hlen], by omega, fun h0 => ?_⟩, fun x hx => ?_, .inr ⟨a, cap, _, _, by rw [hlen], rfl, ?_⟩⟩
    · obtain ⟨b, off, rfl, hj⟩ := ints_at hcell (by omega)
      refine ⟨b, off, rfl, hlt (.cell b off) (MemPlace.mem_row.2 ⟨0, by omega, by simp⟩), fun j hjl => ?_⟩
      rw [hlen] at hjl
      rw [hj j (by omega)]
      have h0 := hk _ (hwz _ (List.getElem_mem (show j < zs.length by omega)))
      simp [List.getD, List.getElem?_map, hjl, List.getElem?_eq_getElem (show j < zs.length by omega)]
      omega
    · obtain ⟨z, hz1, rfl⟩ := List.mem_map.1 hx
      have hw := hwz z (List.mem_of_mem_take hz1)
      have h0 := hk _ hw
      rwa [Int.toNat_of_nonneg h0]
    · simp [lits]; omega
theorem nn8 : ∀ n, (Lit.int .u8 n).wf = true → 0 ≤ n := fun _ h => (bounds_u8 h).1
theorem nn64 : ∀ n, (Lit.int .u64 n).wf = true → 0 ≤ n := fun _ h => (bounds_u64 h).1
theorem getD_all {xs : List Nat} {m : Nat} (hm : 0 < m) (h : ∀ x ∈ xs, x < m) (i : Nat) : xs[i]?.getD 0 < m := by
  by_cases hi : i < xs.length
  · simp [hi, h _ (List.getElem_mem hi)]
  · simp [List.getElem?_eq_none (by omega : xs.length ≤ i), hm]
end Go.Proofs.Ytoaloeipgadkjaa
