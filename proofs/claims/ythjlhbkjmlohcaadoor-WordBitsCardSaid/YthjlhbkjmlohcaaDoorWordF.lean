/-
  What the rows' lists of package-level tables give.
-/
import Derived.Test.YthjlhbkjmlohcaaDoorFrame
import Derived.Test.YthjlhbkjmlohcaaDoorWordA
import Derived.Lib.SmallJoins
namespace Go.Proofs.YthjlhbkjmlohcaaDoor
open Go.ChangeShapes Go.WideShapes Go.ChangeAt Go.RowKit

def zsB : List Int := Lib.deBruijn64tab.map Int.ofNat
def zsM : List Int := (List.range 65).map fun v => Int.ofNat (2 ^ v - 1)
theorem laidB {H : Type} : (Rows.laid_math_bits_deBruijn64tab : DataW H) = Lib.tabData .u8 zsB := by kernel_rfl
theorem laidM {H : Type} : (Rows.laid_waterline_word_masks : DataW H) = Lib.tabData .u64 zsM := by kernel_rfl
theorem gB : Tryd.prog.globalNamed "math/bits.deBruijn64tab" = some 0 := by kernel_rfl
theorem gM : Tryd.prog.globalNamed "waterline/word.masks" = some 1 := by kernel_rfl
theorem tB : (Tryd.prog.globals[(0 : Nat)]?).map (·.type) = some 69 := by kernel_rfl
theorem tM : (Tryd.prog.globals[(1 : Nat)]?).map (·.type) = some 70 := by kernel_rfl
theorem cB : Tryd.prog.cellsOf 69 = 64 := by kernel_rfl
theorem cM : Tryd.prog.cellsOf 70 = 65 := by kernel_rfl
theorem c8 : Tryd.prog.cellsOf 5 = 1 := by kernel_rfl
theorem c64 : Tryd.prog.cellsOf 22 = 1 := by kernel_rfl
abbrev laidList : List (String × DataW Unit) := [("math/bits.deBruijn64tab", Rows.laid_math_bits_deBruijn64tab), ("waterline/word.masks", Rows.laid_waterline_word_masks)]
theorem tabs_of_laid {W : World} (h : laidMetH Tryd.prog laidList W) : Tabs W := by
  have hL : laidMet Tryd.prog laidList W := h
  have hb : Lib.TabIs Tryd.prog W "math/bits.deBruijn64tab" .u8 zsB := tabIs_of_reads gB tB Tryd.underlying69 Tryd.underlying5 c8 cB (by rw [← laidB]; exact readsAs_of_laid hL (.head _))
  have hm : Lib.TabIs Tryd.prog W "waterline/word.masks" .u64 zsM := tabIs_of_reads gM tM Tryd.underlying70 Tryd.underlying22 c64 cM (by rw [← laidM]; exact readsAs_of_laid hL (.tail _ (.head _)))
  have mk : ∀ v : Nat, v ≤ 64 → W.cell? ⟨1, v, none⟩ = some (.int .u64 ((2 ^ v - 1 : Nat) : Int)) := fun v hv => by
    have := hm.cell gM v (by simp [zsM]; omega)
    rw [this]
    simp [zsM, List.getD, List.getElem?_map, List.getElem?_range (show v < 65 by omega)]
  have bj : TabAt 0 Lib.deBruijn64tab W := fun j hj => by
    have := hb.cell gB j (by simpa [zsB] using hj)
    rw [this]
    simp [zsB, List.getD, List.getElem?_map, List.getElem?_eq_getElem hj]
  have sz : ∀ (b : Nat) (v : Value), W.cell? ⟨b, 0, none⟩ = some v → b < W.heap.size := fun b v h => by
    rcases Nat.lt_or_ge b W.heap.size with h1 | h1
    · exact h1
    · unfold World.cell? at h
      rw [Array.getElem?_eq_none (by simpa using h1)] at h
      cases h
  have a := sz _ _ (mk 0 (by decide))
  have b := sz _ _ (bj 0 (by decide))
  exact ⟨mk, bj, by omega⟩
/-- A block of cells, with other cells. -/
def withCells (cs : Array Value) : Obj → Obj
  | .cells _ t frozen => .cells cs t frozen
  | o => o
/-- A WORLD FOR THE WITNESS: the settled one, the tables holding what their initialisers lay. -/
noncomputable def laidWorld (os : Os) : World :=
  { World.holding Tryd.prog os ⟨#[], #[], []⟩ with heap := Array.modify (Array.modify (World.holding Tryd.prog os ⟨#[], #[], []⟩).heap 0 (withCells (zsB.map (Value.int .u8)).toArray)) 1 (withCells (zsM.map (Value.int .u64)).toArray) }
end Go.Proofs.YthjlhbkjmlohcaaDoor
