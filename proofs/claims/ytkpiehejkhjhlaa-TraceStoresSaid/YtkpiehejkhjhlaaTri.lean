/-
  A block of three cells.
-/
import Derived.Test.YtkpiehejkhjhlaaHeldG
namespace Go.Proofs.Ytkpiehejkhjhlaa
open Go.RowKit Go.Shelf

/-- A block of three cells. -/
def Tri (W : World) (B : Nat) (t : TypeId) (x y z : Value) : Prop := W.heap[B]? = some (.cells #[x, y, z] t (0, 0))
section
variable {W W' : World} {B : Nat} {t : TypeId} {x y z : Value}
theorem Tri.lt (h : Tri W B t x y z) : B < W.heap.size := (Array.getElem?_eq_some_iff.1 h).1
theorem Tri.cells (h : Tri W B t x y z) : W.cell? ⟨B, 0, none⟩ = some x ∧ W.cell? ⟨B, 1, none⟩ = some y ∧ W.cell? ⟨B, 2, none⟩ = some z ∧ W.frozen? ⟨B, 0, none⟩ = false ∧ W.frozen? ⟨B, 1, none⟩ = false ∧ W.frozen? ⟨B, 2, none⟩ = false := by
  unfold Tri at h
  simp [World.cell?, World.frozen?, h]
theorem Tri.new (W : World) (t : TypeId) (x y z : Value) : Tri (W.alloc (.cells #[x, y, z] t)) W.heap.size t x y z := World.alloc_heap_new W _
theorem Tri.below {n : Nat} (h : Tri W B t x y z) (hb : Below n W W') (hl : B < n) : Tri W' B t x y z := (hb.block B hl).trans h
end
/-- A block of two cells. -/
def Duo (W : World) (B : Nat) (t : TypeId) (x y : Value) : Prop := W.heap[B]? = some (.cells #[x, y] t (0, 0))
section
variable {W W' : World} {B : Nat} {t : TypeId} {x y : Value}
theorem Duo.lt (h : Duo W B t x y) : B < W.heap.size := (Array.getElem?_eq_some_iff.1 h).1
theorem Duo.cells (h : Duo W B t x y) : W.cell? ⟨B, 0, none⟩ = some x ∧ W.cell? ⟨B, 1, none⟩ = some y ∧ W.frozen? ⟨B, 0, none⟩ = false ∧ W.frozen? ⟨B, 1, none⟩ = false := by
  unfold Duo at h
  simp [World.cell?, World.frozen?, h]
theorem Duo.new (W : World) (t : TypeId) (x y : Value) : Duo (W.alloc (.cells #[x, y] t)) W.heap.size t x y := World.alloc_heap_new W _
theorem Duo.below {n : Nat} (h : Duo W B t x y) (hb : Below n W W') (hl : B < n) : Duo W' B t x y := (hb.block B hl).trans h
theorem Duo.set1 (h : Duo W B t x y) (u : Value) : Duo (W.setCell ⟨B, 1, none⟩ u) B t x u := by
  unfold Duo at h ⊢
  simp [World.setCell, Array.getElem?_modify, h]
theorem Duo.set0 (h : Duo W B t x y) (u : Value) : Duo (W.setCell ⟨B, 0, none⟩ u) B t u y := by
  unfold Duo at h ⊢
  simp [World.setCell, Array.getElem?_modify, h]
end
end Go.Proofs.Ytkpiehejkhjhlaa
