/-
  Texts LaN to LaN, as one.
-/
import Derived.Test.YtgoemaecdolioaaGreatDoorMo6
/-
  label: the document's Sorted.
-/
namespace Go.Proofs.YtgoemaecdolioaaGreatDoor
open Go.RowKit Go.Shelf Go.Sort

theorem vec_newL (W : World) (cs : Array Value) (t : TypeId) (n s : Nat) (h : cs.size = n * s) : Vec (W.alloc (.cells cs t)) (.slice (some ⟨W.heap.size, 0, none⟩) n n) n s cs.toList :=
  ⟨by rw [Array.length_toList]; exact h, _, _, rfl, Nat.le_refl _, fun _ => ⟨_, _, rfl, by simp, fun j y hy => by
    have e := World.alloc_heap_new W (.cells cs t)
    rw [Array.getElem?_toList] at hy
    unfold World.cell?
    simp only [e, Nat.zero_add]
    exact hy⟩⟩
end Go.Proofs.YtgoemaecdolioaaGreatDoor
