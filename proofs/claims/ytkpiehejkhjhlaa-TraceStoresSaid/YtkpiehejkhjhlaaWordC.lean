/-
  Contracts of slices.Chunk at bytes.
-/
import Derived.Test.YtkpiehejkhjhlaaWordI
import Derived.Test.YtkpiehejkhjhlaaWordN
import Derived.WalkLawsBesides
import Derived.Sort.QuietIn
namespace Go.Proofs.Ytkpiehejkhjhlaa
open Go.RowKit Go.Shelf
attribute [local go_sem] Oper.semAt_some
/-- The slice value v holds the numbers xs of kind k. -/
def Sl (W : World) (k : IntKind) (v : Value) (xs : List Nat) : Prop :=
  ∃ (a : Option Addr) (cap : Nat), v = .slice a xs.length cap ∧ xs.length ≤ cap ∧ (0 < xs.length → ∃ b off, a = some ⟨b, off, none⟩ ∧ b < W.heap.size ∧ ∀ j, j < xs.length → W.cell? ⟨b, off + j, none⟩ = some (.int k ((xs[j]?.getD 0 : Nat) : Int)))
theorem Sl.below {W W' : World} {k : IntKind} {v : Value} {xs : List Nat} (h : Sl W k v xs) (hb : Below W.heap.size W W') : Sl W' k v xs := by
  obtain ⟨a, cap, hv, hl, hc⟩ := h
  refine ⟨a, cap, hv, hl, fun h0 => ?_⟩
  obtain ⟨b, off, ha, hlt, hj⟩ := hc h0
  exact ⟨b, off, ha, Nat.lt_of_lt_of_le hlt hb.size, fun j hl => (hb.cell (p := ⟨b, off + j, none⟩) hlt).trans (hj j hl)⟩
/-- What an iterator over chunks needs: its two boxes. -/
def ChunkBlocks (Bs : Nat) (k : Nat) : Prop := k = Bs ∨ k = Bs + 1
theorem grownBy_drewN (W : World) (n : Nat) : W.grownBy (W.drewN n) none := ⟨rfl, rfl, rfl, Nat.le_refl _, fun _ _ _ => rfl⟩
theorem take_finRange (m k : Nat) (h : k < m) : (List.finRange m).take k ++ [⟨k, h⟩] = (List.finRange m).take (k + 1) := by
  rw [List.take_succ_eq_append_getElem (by simpa using h)]; simp
end Go.Proofs.Ytkpiehejkhjhlaa
