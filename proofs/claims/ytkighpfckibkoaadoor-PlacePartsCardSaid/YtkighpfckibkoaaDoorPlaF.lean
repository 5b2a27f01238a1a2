/-
  What the rows' lists of package-level variables give: place.ends.
-/
import Derived.Test.YtkighpfckibkoaaDoorFrame
import Derived.Test.YtkighpfckibkoaaDoorPlaB
import Derived.Lib.SmallJoins
namespace Go.Proofs.YtkighpfckibkoaaDoor
open Go.ChangeShapes Go.WideShapes Go.ChangeAt Go.RowKit

def zsE : List Int := [1024, 8]
theorem laidE {H : Type} : (Rows.laid_waterline_place_ends : DataW H) = Lib.tabData .i64 zsE := by kernel_rfl
theorem gE : Tryd.prog.globalNamed "waterline/place.ends" = some 0 := by kernel_rfl
theorem tE : (Tryd.prog.globals[(0 : Nat)]?).map (·.type) = some 59 := by kernel_rfl
theorem cE : Tryd.prog.cellsOf 59 = 2 := by kernel_rfl
theorem cInt : Tryd.prog.cellsOf 3 = 1 := by kernel_rfl
theorem ends_of_laid {W : World} (h : laidMetH Tryd.prog [("waterline/place.ends", Rows.laid_waterline_place_ends)] W) : Ends W := by
  have hL : laidMet Tryd.prog [("waterline/place.ends", Rows.laid_waterline_place_ends)] W := h
  have hb : Lib.TabIs Tryd.prog W "waterline/place.ends" .i64 zsE := tabIs_of_reads gE tE Tryd.underlying59 Tryd.underlying3 cInt cE (by rw [← laidE]; exact readsAs_of_laid hL (.head _))
  have h0 := hb.cell gE 0 (by decide)
  have h1 := hb.cell gE 1 (by decide)
  refine ⟨h0, h1, ?_⟩
  rcases Nat.lt_or_ge 0 W.heap.size with h2 | h2
  · exact h2
  · unfold World.cell? at h0
    rw [Array.getElem?_eq_none (by simpa using h2)] at h0
    cases h0
/-- A block of cells, with other cells. -/
def withCellsE (cs : Array Value) : Obj → Obj
  | .cells _ t frozen => .cells cs t frozen
  | o => o
/-- A WORLD FOR THE WITNESS: the settled one, ends holding what its initialiser lays. -/
noncomputable def endsWorld (os : Os) : World :=
  { World.holding Tryd.prog os ⟨#[], #[], []⟩ with heap := Array.modify (World.holding Tryd.prog os ⟨#[], #[], []⟩).heap 0 (withCellsE (zsE.map (Value.int .i64)).toArray) }
end Go.Proofs.YtkighpfckibkoaaDoor
