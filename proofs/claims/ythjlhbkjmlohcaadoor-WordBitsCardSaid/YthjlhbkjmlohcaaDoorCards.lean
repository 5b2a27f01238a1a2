/-
  DERIVED. GIVEN WITH THE SEED: THE CARDS: each row of YthjlhbkjmlohcaaDoorRows.lean that lists a variable, with what it lists TIED to the program's text (the seventh form; the later family's looks); each row that meets fmt, with fmt's text TOLD by the authors' own Lean function (tested against real Go, not proved from fmt's source: count such statements apart). THE CARD IS WHAT COUNTS. Prove the row's statement (the work); the ties are given (YthjlhbkjmlohcaaDoorTie.lean); close each card by the builder's one call (the guide's Derived/Test/ToyasCard.lean, 'card_holds'). Laid BY PROGRAM, IN A SANDBOX (cutbox-door.mjs). By AI agents, Wed Nov 11 2026. No macro, syntax, notation, axiom, sorry.
-/
import Derived.Test.YthjlhbkjmlohcaaDoorRows
import GoSem.ClaimSeven
namespace Go.Proofs.YthjlhbkjmlohcaaDoor
namespace Rows

/-- THE TIED CARD OF 'waterlinelaw01.WordBits'. -/
def wordBitsCard : Claim7 := { stood := { row := wordBitsRow, standIns := [], harness := (true, "7312a84ee5a57f1648befd9835e15996cf4d2646f16d810e8b8a58f77f8fb2e0"), looks := false }, kinds := [], alts := [], laidByText := true, laidKinds := [.data, .data], laidTests := true, laidLooks := .later }
def WordBitsCardSaid : Prop := Claim7.holds Tryd.pinned (.plain (OpenSpec.ofChange wordBitsSpec)) wordBitsCard

/-- THE TIED CARD OF 'waterlinelaw01.WordHolds'. -/
def wordHoldsCard : Claim7 := { stood := { row := wordHoldsRow, standIns := [], harness := (true, "7312a84ee5a57f1648befd9835e15996cf4d2646f16d810e8b8a58f77f8fb2e0"), looks := false }, kinds := [], alts := [], laidByText := true, laidKinds := [.data, .data], laidTests := true, laidLooks := .later }
def WordHoldsCardSaid : Prop := Claim7.holds Tryd.pinned (.plain (OpenSpec.ofChange wordHoldsSpec)) wordHoldsCard

/-- THE TIED CARD OF 'waterlinelaw01.WordTwice'. -/
def wordTwiceCard : Claim7 := { stood := { row := wordTwiceRow, standIns := [], harness := (true, "7312a84ee5a57f1648befd9835e15996cf4d2646f16d810e8b8a58f77f8fb2e0"), looks := false }, kinds := [], alts := [], laidByText := true, laidKinds := [.data, .data], laidTests := true, laidLooks := .later }
def WordTwiceCardSaid : Prop := Claim7.holds Tryd.pinned (.plain (OpenSpec.ofChange wordTwiceSpec)) wordTwiceCard

/-- THE SECOND FORM's CARD OF 'waterlinelaw01.WordBits'. -/
def wordBitsUptoCard : Claim7 := { stood := { row := wordBitsUptoRow, standIns := [], harness := (true, "7312a84ee5a57f1648befd9835e15996cf4d2646f16d810e8b8a58f77f8fb2e0"), looks := false }, kinds := [], alts := [], laidByText := true, laidKinds := [.data, .data], laidTests := true, laidLooks := .later }
def WordBitsUptoCardSaid : Prop := Claim7.holds Tryd.pinned (.plain (OpenSpec.upto wordBitsSpec)) wordBitsUptoCard

/-- THE SECOND FORM's CARD OF 'waterlinelaw01.WordHolds'. -/
def wordHoldsUptoCard : Claim7 := { stood := { row := wordHoldsUptoRow, standIns := [], harness := (true, "7312a84ee5a57f1648befd9835e15996cf4d2646f16d810e8b8a58f77f8fb2e0"), looks := false }, kinds := [], alts := [], laidByText := true, laidKinds := [.data, .data], laidTests := true, laidLooks := .later }
def WordHoldsUptoCardSaid : Prop := Claim7.holds Tryd.pinned (.plain (OpenSpec.upto wordHoldsSpec)) wordHoldsUptoCard

/-- THE SECOND FORM's CARD OF 'waterlinelaw01.WordTwice'. -/
def wordTwiceUptoCard : Claim7 := { stood := { row := wordTwiceUptoRow, standIns := [], harness := (true, "7312a84ee5a57f1648befd9835e15996cf4d2646f16d810e8b8a58f77f8fb2e0"), looks := false }, kinds := [], alts := [], laidByText := true, laidKinds := [.data, .data], laidTests := true, laidLooks := .later }
def WordTwiceUptoCardSaid : Prop := Claim7.holds Tryd.pinned (.plain (OpenSpec.upto wordTwiceSpec)) wordTwiceUptoCard
end Rows
end Go.Proofs.YthjlhbkjmlohcaaDoor
