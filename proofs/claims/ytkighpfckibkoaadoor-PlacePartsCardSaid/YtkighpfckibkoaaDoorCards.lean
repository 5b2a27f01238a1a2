/-
  DERIVED. GIVEN WITH THE SEED: THE CARDS: each row of YtkighpfckibkoaaDoorRows.lean that lists a variable, with what it lists TIED to the program's text (the seventh form; the later family's looks); each row that meets fmt, with fmt's text TOLD by the authors' own Lean function (tested against real Go, not proved from fmt's source: count such statements apart). THE CARD IS WHAT COUNTS. Prove the row's statement (the work); the ties are given (YtkighpfckibkoaaDoorTie.lean); close each card by the builder's one call (the guide's Derived/Test/ToyasCard.lean, 'card_holds'). Laid BY PROGRAM, IN A SANDBOX (cutbox-door.mjs). By AI agents, Wed Nov 11 2026. No macro, syntax, notation, axiom, sorry.
-/
import Derived.Test.YtkighpfckibkoaaDoorRows
import GoSem.ClaimSeven
namespace Go.Proofs.YtkighpfckibkoaaDoor
namespace Rows

/-- THE TIED CARD OF 'waterlinelaw03.PlaceAddresses'. -/
def placeAddressesCard : Claim7 := { stood := { row := placeAddressesRow, standIns := [], harness := (true, "da18210829179ec3715c01ea93648fd86245edee873bbdac699a41171de8458a"), looks := false }, kinds := [], alts := [], laidByText := true, laidKinds := [.data], laidTests := true, laidLooks := .later }
def PlaceAddressesCardSaid : Prop := Claim7.holds Tryd.pinned (.plain (OpenSpec.ofChange placeAddressesSpec)) placeAddressesCard

/-- THE TIED CARD OF 'waterlinelaw03.PlaceMoves'. -/
def placeMovesCard : Claim7 := { stood := { row := placeMovesRow, standIns := [], harness := (true, "da18210829179ec3715c01ea93648fd86245edee873bbdac699a41171de8458a"), looks := false }, kinds := [], alts := [], laidByText := true, laidKinds := [.data], laidTests := true, laidLooks := .later }
def PlaceMovesCardSaid : Prop := Claim7.holds Tryd.pinned (.plain (OpenSpec.ofChange placeMovesSpec)) placeMovesCard

/-- THE TIED CARD OF 'waterlinelaw03.PlaceRuns'. -/
def placeRunsCard : Claim7 := { stood := { row := placeRunsRow, standIns := [], harness := (true, "da18210829179ec3715c01ea93648fd86245edee873bbdac699a41171de8458a"), looks := false }, kinds := [], alts := [], laidByText := true, laidKinds := [.data], laidTests := true, laidLooks := .later }
def PlaceRunsCardSaid : Prop := Claim7.holds Tryd.pinned (.plain (OpenSpec.ofChange placeRunsSpec)) placeRunsCard

/-- THE TIED CARD OF 'waterlinelaw03.PlaceHolds'. -/
def placeHoldsCard : Claim7 := { stood := { row := placeHoldsRow, standIns := [], harness := (true, "da18210829179ec3715c01ea93648fd86245edee873bbdac699a41171de8458a"), looks := false }, kinds := [], alts := [], laidByText := true, laidKinds := [.data], laidTests := true, laidLooks := .later }
def PlaceHoldsCardSaid : Prop := Claim7.holds Tryd.pinned (.plain (OpenSpec.ofChange placeHoldsSpec)) placeHoldsCard

/-- THE TIED CARD OF 'waterlinelaw03.PlaceSteps'. -/
def placeStepsCard : Claim7 := { stood := { row := placeStepsRow, standIns := [], harness := (true, "da18210829179ec3715c01ea93648fd86245edee873bbdac699a41171de8458a"), looks := false }, kinds := [], alts := [], laidByText := true, laidKinds := [.data], laidTests := true, laidLooks := .later }
def PlaceStepsCardSaid : Prop := Claim7.holds Tryd.pinned (.plain (OpenSpec.ofChange placeStepsSpec)) placeStepsCard

/-- THE TIED CARD OF 'waterlinelaw03.PlaceParts'. -/
def placePartsCard : Claim7 := { stood := { row := placePartsRow, standIns := [], harness := (true, "da18210829179ec3715c01ea93648fd86245edee873bbdac699a41171de8458a"), looks := false }, kinds := [], alts := [], laidByText := true, laidKinds := [.data], laidTests := true, laidLooks := .later }
def PlacePartsCardSaid : Prop := Claim7.holds Tryd.pinned (.plain (OpenSpec.ofChange placePartsSpec)) placePartsCard

/-- THE SECOND FORM's CARD OF 'waterlinelaw03.PlaceAddresses'. -/
def placeAddressesUptoCard : Claim7 := { stood := { row := placeAddressesUptoRow, standIns := [], harness := (true, "da18210829179ec3715c01ea93648fd86245edee873bbdac699a41171de8458a"), looks := false }, kinds := [], alts := [], laidByText := true, laidKinds := [.data], laidTests := true, laidLooks := .later }
def PlaceAddressesUptoCardSaid : Prop := Claim7.holds Tryd.pinned (.plain (OpenSpec.upto placeAddressesSpec)) placeAddressesUptoCard

/-- THE SECOND FORM's CARD OF 'waterlinelaw03.PlaceMoves'. -/
def placeMovesUptoCard : Claim7 := { stood := { row := placeMovesUptoRow, standIns := [], harness := (true, "da18210829179ec3715c01ea93648fd86245edee873bbdac699a41171de8458a"), looks := false }, kinds := [], alts := [], laidByText := true, laidKinds := [.data], laidTests := true, laidLooks := .later }
def PlaceMovesUptoCardSaid : Prop := Claim7.holds Tryd.pinned (.plain (OpenSpec.upto placeMovesSpec)) placeMovesUptoCard

/-- THE SECOND FORM's CARD OF 'waterlinelaw03.PlaceRuns'. -/
def placeRunsUptoCard : Claim7 := { stood := { row := placeRunsUptoRow, standIns := [], harness := (true, "da18210829179ec3715c01ea93648fd86245edee873bbdac699a41171de8458a"), looks := false }, kinds := [], alts := [], laidByText := true, laidKinds := [.data], laidTests := true, laidLooks := .later }
def PlaceRunsUptoCardSaid : Prop := Claim7.holds Tryd.pinned (.plain (OpenSpec.upto placeRunsSpec)) placeRunsUptoCard

/-- THE SECOND FORM's CARD OF 'waterlinelaw03.PlaceHolds'. -/
def placeHoldsUptoCard : Claim7 := { stood := { row := placeHoldsUptoRow, standIns := [], harness := (true, "da18210829179ec3715c01ea93648fd86245edee873bbdac699a41171de8458a"), looks := false }, kinds := [], alts := [], laidByText := true, laidKinds := [.data], laidTests := true, laidLooks := .later }
def PlaceHoldsUptoCardSaid : Prop := Claim7.holds Tryd.pinned (.plain (OpenSpec.upto placeHoldsSpec)) placeHoldsUptoCard

/-- THE SECOND FORM's CARD OF 'waterlinelaw03.PlaceSteps'. -/
def placeStepsUptoCard : Claim7 := { stood := { row := placeStepsUptoRow, standIns := [], harness := (true, "da18210829179ec3715c01ea93648fd86245edee873bbdac699a41171de8458a"), looks := false }, kinds := [], alts := [], laidByText := true, laidKinds := [.data], laidTests := true, laidLooks := .later }
def PlaceStepsUptoCardSaid : Prop := Claim7.holds Tryd.pinned (.plain (OpenSpec.upto placeStepsSpec)) placeStepsUptoCard

/-- THE SECOND FORM's CARD OF 'waterlinelaw03.PlaceParts'. -/
def placePartsUptoCard : Claim7 := { stood := { row := placePartsUptoRow, standIns := [], harness := (true, "da18210829179ec3715c01ea93648fd86245edee873bbdac699a41171de8458a"), looks := false }, kinds := [], alts := [], laidByText := true, laidKinds := [.data], laidTests := true, laidLooks := .later }
def PlacePartsUptoCardSaid : Prop := Claim7.holds Tryd.pinned (.plain (OpenSpec.upto placePartsSpec)) placePartsUptoCard
end Rows
end Go.Proofs.YtkighpfckibkoaaDoor
