/-
  DERIVED. GIVEN WITH THE SEED: THE CARDS: each row of YtfdnlgmgjmbafaaDoorRows.lean that lists a variable, with what it lists TIED to the program's text (the seventh form; the later family's looks); each row that meets fmt, with fmt's text TOLD by the authors' own Lean function (tested against real Go, not proved from fmt's source: count such statements apart). THE CARD IS WHAT COUNTS. Prove the row's statement (the work); the ties are given (YtfdnlgmgjmbafaaDoorTie.lean); close each card by the builder's one call (the guide's Derived/Test/ToyasCard.lean, 'card_holds'). Laid BY PROGRAM, IN A SANDBOX (cutbox-door.mjs). By AI agents, Wed Nov 11 2026. No macro, syntax, notation, axiom, sorry.
-/
import Derived.Test.YtfdnlgmgjmbafaaDoorRows
import GoSem.ClaimSeven
namespace Go.Proofs.YtfdnlgmgjmbafaaDoor
namespace Rows

/-- THE TIED CARD OF 'waterlinelaw08.NodeNext'. -/
def nodeNextCard : Claim7 := { stood := { row := nodeNextRow, standIns := [], harness := (true, "b0d691a136b83c960b64123c6a179b4b51695a2229c0154433b0fe42117f2145"), looks := true }, kinds := [], alts := [], laidByText := true, laidKinds := [.data], laidTests := true, laidLooks := .later }
def NodeNextCardSaid : Prop := Claim7.holds Tryd.pinned (.plain (OpenSpec.ofChange nodeNextSpec)) nodeNextCard

/-- THE TIED CARD OF 'waterlinelaw08.NodeLinks'. -/
def nodeLinksCard : Claim7 := { stood := { row := nodeLinksRow, standIns := [], harness := (true, "b0d691a136b83c960b64123c6a179b4b51695a2229c0154433b0fe42117f2145"), looks := true }, kinds := [], alts := [], laidByText := true, laidKinds := [.data], laidTests := true, laidLooks := .later }
def NodeLinksCardSaid : Prop := Claim7.holds Tryd.pinned (.plain (OpenSpec.ofChange nodeLinksSpec)) nodeLinksCard

/-- THE SECOND FORM's CARD OF 'waterlinelaw08.NodeNext'. -/
def nodeNextUptoCard : Claim7 := { stood := { row := nodeNextUptoRow, standIns := [], harness := (true, "b0d691a136b83c960b64123c6a179b4b51695a2229c0154433b0fe42117f2145"), looks := true }, kinds := [], alts := [], laidByText := true, laidKinds := [.data], laidTests := true, laidLooks := .later }
def NodeNextUptoCardSaid : Prop := Claim7.holds Tryd.pinned (.plain (OpenSpec.upto nodeNextSpec)) nodeNextUptoCard

/-- THE SECOND FORM's CARD OF 'waterlinelaw08.NodeLinks'. -/
def nodeLinksUptoCard : Claim7 := { stood := { row := nodeLinksUptoRow, standIns := [], harness := (true, "b0d691a136b83c960b64123c6a179b4b51695a2229c0154433b0fe42117f2145"), looks := true }, kinds := [], alts := [], laidByText := true, laidKinds := [.data], laidTests := true, laidLooks := .later }
def NodeLinksUptoCardSaid : Prop := Claim7.holds Tryd.pinned (.plain (OpenSpec.upto nodeLinksSpec)) nodeLinksUptoCard
end Rows
end Go.Proofs.YtfdnlgmgjmbafaaDoor
