/-
  What the rows' lists of package-level tables give.
-/
import Derived.Test.YtlkbikgeghafgaaDoorFrame
import Derived.Test.YtlkbikgeghafgaaDoorWordA
import Derived.Lib.SmallJoins
namespace Go.Proofs.YtlkbikgeghafgaaDoor
open Go.ChangeShapes Go.WideShapes Go.ChangeAt Go.RowKit

def zsB : List Int := Lib.deBruijn64tab.map Int.ofNat
def zsM : List Int := (List.range 65).map fun v => Int.ofNat (2 ^ v - 1)
theorem laidB {H : Type} : (Rows.laid_math_bits_deBruijn64tab : DataW H) = Lib.tabData .u8 zsB := by kernel_rfl
theorem laidM {H : Type} : (Rows.laid_waterline_word_masks : DataW H) = Lib.tabData .u64 zsM := by kernel_rfl
theorem gB : Tryd.prog.globalNamed "math/bits.deBruijn64tab" = some 1 := by kernel_rfl
theorem gM : Tryd.prog.globalNamed "waterline/word.masks" = some 0 := by kernel_rfl
theorem tB : (Tryd.prog.globals[(1 : Nat)]?).map (·.type) = some 86 := by kernel_rfl
theorem tM : (Tryd.prog.globals[(0 : Nat)]?).map (·.type) = some 80 := by kernel_rfl
theorem cB : Tryd.prog.cellsOf 86 = 64 := by kernel_rfl
theorem cM : Tryd.prog.cellsOf 80 = 65 := by kernel_rfl
theorem c8 : Tryd.prog.cellsOf 5 = 1 := by kernel_rfl
theorem c64 : Tryd.prog.cellsOf 22 = 1 := by kernel_rfl
abbrev laidList : List (String × DataW Unit) := [("math/bits.deBruijn64tab", Rows.laid_math_bits_deBruijn64tab), ("waterline/word.masks", Rows.laid_waterline_word_masks)]
theorem tabs_of_laid {W : World} (h : laidMetH Tryd.prog laidList W) : Tabs W := by
  have hL : laidMet Tryd.prog laidList W := h
  have hb : Lib.TabIs Tryd.prog W "math/bits.deBruijn64tab" .u8 zsB := tabIs_of_reads gB tB Tryd.underlying86 Tryd.underlying5 c8 cB (by rw [← laidB]; exact readsAs_of_laid hL (.head _))
  have hm : Lib.TabIs Tryd.prog W "waterline/word.masks" .u64 zsM := tabIs_of_reads gM tM Tryd.underlying80 Tryd.underlying22 c64 cM (by rw [← laidM]; exact readsAs_of_laid hL (.tail _ (.head _)))
  have mk : ∀ v : Nat, v ≤ 64 → W.cell? ⟨0, v, none⟩ = some (.int .u64 ((2 ^ v - 1 : Nat) : Int)) := fun v hv => by
    have := hm.cell gM v (by simp [zsM]; omega)
    rw [this]
    simp [zsM, List.getD, List.getElem?_map, List.getElem?_range (show v < 65 by omega)]
  have bj : TabAt 1 Lib.deBruijn64tab W := fun j hj => by
    have := hb.cell gB j (by simpa [zsB] using hj)
    rw [this]
    simp [zsB, List.getD, List.getElem?_map, List.getElem?_eq_getElem hj]
  refine ⟨mk, bj, ?_⟩
  have h1 := bj 0 (by decide)
  rcases Nat.lt_or_ge 1 W.heap.size with hlt | hge
  · exact hlt
  · have h0 := mk 0 (by decide)
    unfold World.cell? at h0 h1
    rw [Array.getElem?_eq_none (by simpa using hge)] at h1
    cases h1
/-- A block of cells, with other cells. -/
def withCells (cs : Array Value) : Obj → Obj
  | .cells _ t frozen => .cells cs t frozen
  | o => o
/-- A WORLD FOR THE WITNESS: the settled one, the tables holding what their initialisers lay. -/
noncomputable def laidWorld (os : Os) : World :=
  { World.holding Tryd.prog os ⟨#[], #[], []⟩ with heap := Array.modify (Array.modify (World.holding Tryd.prog os ⟨#[], #[], []⟩).heap 1 (withCells (zsB.map (Value.int .u8)).toArray)) 0 (withCells (zsM.map (Value.int .u64)).toArray) }
end Go.Proofs.YtlkbikgeghafgaaDoor
