/-
  Contracts of waterlineref01.Same, and of what owns a row as a slice of numbers.
-/
import Derived.Test.YtoaloeipgadkjaaWordW
namespace Go.Proofs.Ytoaloeipgadkjaa
open Go.RowKit Go.Shelf

theorem sl_of_owns {W : World} {base : Nat} {e : TypeId} {v : Value} {xs : List Nat} {k : IntKind} (h : W.ownsRow base e 1 v xs.length (xs.map fun y : Nat => Value.int k (y : Nat))) : Sl W k v xs := by
  rcases h.2 with ⟨rfl, h0⟩ | ⟨g, cap, cur, rfl, hb, hg, hc, _⟩
  · exact ⟨none, 0, by rw [h0], by omega, fun h1 => by omega⟩
  · refine ⟨some ⟨g, 0, none⟩, cap, rfl, hc, fun _ => ⟨g, 0, rfl, (Array.getElem?_eq_some_iff.1 hg).1, fun j hj => ?_⟩⟩
    rw [Nat.zero_add, World.ownsRow.cellAt h j (by omega), List.getElem?_map, List.getElem?_eq_getElem hj]
    rfl
theorem Sl.cell {W : World} {k : IntKind} {v : Value} {xs : List Nat} (h : Sl W k v xs) : ∃ (a : Option Addr) (cap b off : Nat), v = .slice a xs.length cap ∧ xs.length ≤ cap ∧ (0 < xs.length → a = some ⟨b, off, none⟩) ∧ (0 < xs.length → b < W.heap.size ∧ ∀ j, j < xs.length → W.cell? ⟨b, off + j, none⟩ = some (.int k ((xs[j]?.getD 0 : Nat) : Int))) := by
  obtain ⟨a, cap, hv, hl, hc⟩ := h
  rcases Nat.eq_zero_or_pos xs.length with h0 | h0
  · exact ⟨a, cap, 0, 0, hv, hl, fun h => by omega, fun h => by omega⟩
  · obtain ⟨b, off, h1, h2, h3⟩ := hc h0
    exact ⟨a, cap, b, off, hv, hl, fun _ => h1, fun _ => ⟨h2, h3⟩⟩
theorem ne_of_at (xs ys : List Nat) (k : Nat) (h : xs[k]?.getD 0 ≠ ys[k]?.getD 0) : decide (xs = ys) = false := decide_eq_false fun e => h (by rw [e])
theorem eq_of_at (xs ys : List Nat) (hl : xs.length = ys.length) (h : ∀ j, j < xs.length → xs[j]?.getD 0 = ys[j]?.getD 0) : decide (xs = ys) = true := decide_eq_true (WM.list_ext xs ys hl h)
end Go.Proofs.Ytoaloeipgadkjaa
