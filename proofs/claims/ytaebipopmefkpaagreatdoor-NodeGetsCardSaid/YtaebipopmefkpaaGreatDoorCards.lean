/-
  DERIVED. GIVEN WITH THE SEED: THE CARDS: each row of YtaebipopmefkpaaGreatDoorRows.lean that lists a variable, with what it lists TIED to the program's text (the seventh form; the later family's looks); each row that meets fmt, with fmt's text TOLD by the authors' own Lean function (tested against real Go, not proved from fmt's source: count such statements apart). THE CARD IS WHAT COUNTS. Prove the row's statement (the work); the ties are given (YtaebipopmefkpaaGreatDoorTie.lean); close each card by the builder's one call (the guide's Derived/Test/ToyasCard.lean, 'card_holds'). Laid BY PROGRAM, IN A SANDBOX (cutbox-door.mjs). By AI agents, Wed Nov 11 2026. No macro, syntax, notation, axiom, sorry.
-/
import Derived.Test.YtaebipopmefkpaaGreatDoorRows
import GoSem.ClaimSeven
namespace Go.Proofs.YtaebipopmefkpaaGreatDoor
namespace Rows

/-- THE TIED CARD OF 'waterlinelaw08.NodeGets'. -/
def nodeGetsCard : Claim7 := { stood := { row := nodeGetsRow, standIns := [], harness := (true, "9b2d7d9f2246933b4046c873f6e9de9988852a879b128b26d2bf651bd3bbd7fd"), looks := true }, kinds := [], alts := [], laidByText := true, laidKinds := [.data], laidTests := true, laidLooks := .later }
def NodeGetsCardSaid : Prop := Claim7.holds Tryz.pinned (.plain (OpenSpec.ofChange nodeGetsSpec)) nodeGetsCard

/-- THE SECOND FORM's CARD OF 'waterlinelaw08.NodeGets'. -/
def nodeGetsUptoCard : Claim7 := { stood := { row := nodeGetsUptoRow, standIns := [], harness := (true, "9b2d7d9f2246933b4046c873f6e9de9988852a879b128b26d2bf651bd3bbd7fd"), looks := true }, kinds := [], alts := [], laidByText := true, laidKinds := [.data], laidTests := true, laidLooks := .later }
def NodeGetsUptoCardSaid : Prop := Claim7.holds Tryz.pinned (.plain (OpenSpec.upto nodeGetsSpec)) nodeGetsUptoCard
end Rows
end Go.Proofs.YtaebipopmefkpaaGreatDoor
