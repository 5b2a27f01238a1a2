/-
  DERIVED. GIVEN WITH THE SEED: THE CARDS: each row of YtfdnlgmgjmbafaaGreatDoorRows.lean that lists a variable, with what it lists TIED to the program's text (the seventh form; the later family's looks); each row that meets fmt, with fmt's text TOLD by the authors' own Lean function (tested against real Go, not proved from fmt's source: count such statements apart). THE CARD IS WHAT COUNTS. Prove the row's statement (the work); the ties are given (YtfdnlgmgjmbafaaGreatDoorTie.lean); close each card by the builder's one call (the guide's Derived/Test/ToyasCard.lean, 'card_holds'). Laid BY PROGRAM, IN A SANDBOX (cutbox-door.mjs). By AI agents, Wed Nov 11 2026. No macro, syntax, notation, axiom, sorry.
-/
import Derived.Test.YtfdnlgmgjmbafaaGreatDoorRows
import GoSem.ClaimSeven
namespace Go.Proofs.YtfdnlgmgjmbafaaGreatDoor
namespace Rows

/-- THE TIED CARD OF 'waterlinelaw08.NodePuts'. -/
def nodePutsCard : Claim7 := { stood := { row := nodePutsRow, standIns := [], harness := (true, "f3d5880506d1bb090500cc9422d21fccadefe7d723a87c39bd7114d27f79e9d7"), looks := true }, kinds := [], alts := [], laidByText := true, laidKinds := [.data], laidTests := true, laidLooks := .later }
def NodePutsCardSaid : Prop := Claim7.holds Tryz.pinned (.plain (OpenSpec.ofChange nodePutsSpec)) nodePutsCard

/-- THE TIED CARD OF 'waterlinelaw08.NodeMaps'. -/
def nodeMapsCard : Claim7 := { stood := { row := nodeMapsRow, standIns := [], harness := (true, "f3d5880506d1bb090500cc9422d21fccadefe7d723a87c39bd7114d27f79e9d7"), looks := true }, kinds := [], alts := [], laidByText := true, laidKinds := [.data], laidTests := true, laidLooks := .later }
def NodeMapsCardSaid : Prop := Claim7.holds Tryz.pinned (.plain (OpenSpec.ofChange nodeMapsSpec)) nodeMapsCard

/-- THE TIED CARD OF 'waterlinelaw08.NodeGets'. -/
def nodeGetsCard : Claim7 := { stood := { row := nodeGetsRow, standIns := [], harness := (true, "f3d5880506d1bb090500cc9422d21fccadefe7d723a87c39bd7114d27f79e9d7"), looks := true }, kinds := [], alts := [], laidByText := true, laidKinds := [.data], laidTests := true, laidLooks := .later }
def NodeGetsCardSaid : Prop := Claim7.holds Tryz.pinned (.plain (OpenSpec.ofChange nodeGetsSpec)) nodeGetsCard

/-- THE TIED CARD OF 'waterlinelaw08.NodeHolds'. -/
def nodeHoldsCard : Claim7 := { stood := { row := nodeHoldsRow, standIns := [], harness := (true, "f3d5880506d1bb090500cc9422d21fccadefe7d723a87c39bd7114d27f79e9d7"), looks := true }, kinds := [], alts := [], laidByText := true, laidKinds := [.data], laidTests := true, laidLooks := .later }
def NodeHoldsCardSaid : Prop := Claim7.holds Tryz.pinned (.plain (OpenSpec.ofChange nodeHoldsSpec)) nodeHoldsCard

/-- THE SECOND FORM's CARD OF 'waterlinelaw08.NodePuts'. -/
def nodePutsUptoCard : Claim7 := { stood := { row := nodePutsUptoRow, standIns := [], harness := (true, "f3d5880506d1bb090500cc9422d21fccadefe7d723a87c39bd7114d27f79e9d7"), looks := true }, kinds := [], alts := [], laidByText := true, laidKinds := [.data], laidTests := true, laidLooks := .later }
def NodePutsUptoCardSaid : Prop := Claim7.holds Tryz.pinned (.plain (OpenSpec.upto nodePutsSpec)) nodePutsUptoCard

/-- THE SECOND FORM's CARD OF 'waterlinelaw08.NodeMaps'. -/
def nodeMapsUptoCard : Claim7 := { stood := { row := nodeMapsUptoRow, standIns := [], harness := (true, "f3d5880506d1bb090500cc9422d21fccadefe7d723a87c39bd7114d27f79e9d7"), looks := true }, kinds := [], alts := [], laidByText := true, laidKinds := [.data], laidTests := true, laidLooks := .later }
def NodeMapsUptoCardSaid : Prop := Claim7.holds Tryz.pinned (.plain (OpenSpec.upto nodeMapsSpec)) nodeMapsUptoCard

/-- THE SECOND FORM's CARD OF 'waterlinelaw08.NodeGets'. -/
def nodeGetsUptoCard : Claim7 := { stood := { row := nodeGetsUptoRow, standIns := [], harness := (true, "f3d5880506d1bb090500cc9422d21fccadefe7d723a87c39bd7114d27f79e9d7"), looks := true }, kinds := [], alts := [], laidByText := true, laidKinds := [.data], laidTests := true, laidLooks := .later }
def NodeGetsUptoCardSaid : Prop := Claim7.holds Tryz.pinned (.plain (OpenSpec.upto nodeGetsSpec)) nodeGetsUptoCard

/-- THE SECOND FORM's CARD OF 'waterlinelaw08.NodeHolds'. -/
def nodeHoldsUptoCard : Claim7 := { stood := { row := nodeHoldsUptoRow, standIns := [], harness := (true, "f3d5880506d1bb090500cc9422d21fccadefe7d723a87c39bd7114d27f79e9d7"), looks := true }, kinds := [], alts := [], laidByText := true, laidKinds := [.data], laidTests := true, laidLooks := .later }
def NodeHoldsUptoCardSaid : Prop := Claim7.holds Tryz.pinned (.plain (OpenSpec.upto nodeHoldsSpec)) nodeHoldsUptoCard
end Rows
end Go.Proofs.YtfdnlgmgjmbafaaGreatDoor
