/-
  DERIVED. GIVEN WITH THE SEED: THE CARDS: each row of YtkpiehejkhjhlaaDoorRows.lean that lists a variable, with what it lists TIED to the program's text (the seventh form; the later family's looks); each row that meets fmt, with fmt's text TOLD by the authors' own Lean function (tested against real Go, not proved from fmt's source: count such statements apart). THE CARD IS WHAT COUNTS. Prove the row's statement (the work); the ties are given (YtkpiehejkhjhlaaDoorTie.lean); close each card by the builder's one call (the guide's Derived/Test/ToyasCard.lean, 'card_holds'). Laid BY PROGRAM, IN A SANDBOX (cutbox-door.mjs). By AI agents, Wed Nov 11 2026. No macro, syntax, notation, axiom, sorry.
-/
import Derived.Test.YtkpiehejkhjhlaaDoorRows
import GoSem.ClaimSeven
namespace Go.Proofs.YtkpiehejkhjhlaaDoor
namespace Rows

/-- THE TIED CARD OF 'waterlinelaw04.PmemPlays'. -/
def pmemPlaysCard : Claim7 := { stood := { row := pmemPlaysRow, standIns := [], harness := (true, "0f28b6ec52473b6f8dd541a764e274c1fb8baefe449fcb881155efb53e952373"), looks := false }, kinds := [], alts := [], laidByText := true, laidKinds := [.data], laidTests := true, laidLooks := .later }
def PmemPlaysCardSaid : Prop := Claim7.holds Tryd.pinned (.plain (OpenSpec.ofChange pmemPlaysSpec)) pmemPlaysCard

/-- THE TIED CARD OF 'waterlinelaw04.PmemCopies'. -/
def pmemCopiesCard : Claim7 := { stood := { row := pmemCopiesRow, standIns := [], harness := (true, "0f28b6ec52473b6f8dd541a764e274c1fb8baefe449fcb881155efb53e952373"), looks := false }, kinds := [], alts := [], laidByText := true, laidKinds := [.data], laidTests := true, laidLooks := .later }
def PmemCopiesCardSaid : Prop := Claim7.holds Tryd.pinned (.plain (OpenSpec.ofChange pmemCopiesSpec)) pmemCopiesCard

/-- THE TIED CARD OF 'waterlinelaw04.PmemHolds'. -/
def pmemHoldsCard : Claim7 := { stood := { row := pmemHoldsRow, standIns := [], harness := (true, "0f28b6ec52473b6f8dd541a764e274c1fb8baefe449fcb881155efb53e952373"), looks := false }, kinds := [], alts := [], laidByText := true, laidKinds := [.data], laidTests := true, laidLooks := .later }
def PmemHoldsCardSaid : Prop := Claim7.holds Tryd.pinned (.plain (OpenSpec.ofChange pmemHoldsSpec)) pmemHoldsCard

/-- THE TIED CARD OF 'waterlinelaw04.PmemOne'. -/
def pmemOneCard : Claim7 := { stood := { row := pmemOneRow, standIns := [], harness := (true, "0f28b6ec52473b6f8dd541a764e274c1fb8baefe449fcb881155efb53e952373"), looks := false }, kinds := [], alts := [], laidByText := true, laidKinds := [.data], laidTests := true, laidLooks := .later }
def PmemOneCardSaid : Prop := Claim7.holds Tryd.pinned (.plain (OpenSpec.ofChange pmemOneSpec)) pmemOneCard

/-- THE TIED CARD OF 'waterlinelaw04.PmemAll'. -/
def pmemAllCard : Claim7 := { stood := { row := pmemAllRow, standIns := [], harness := (true, "0f28b6ec52473b6f8dd541a764e274c1fb8baefe449fcb881155efb53e952373"), looks := false }, kinds := [], alts := [], laidByText := true, laidKinds := [.data], laidTests := true, laidLooks := .later }
def PmemAllCardSaid : Prop := Claim7.holds Tryd.pinned (.plain (OpenSpec.ofChange pmemAllSpec)) pmemAllCard

/-- THE SECOND FORM's CARD OF 'waterlinelaw04.PmemPlays'. -/
def pmemPlaysUptoCard : Claim7 := { stood := { row := pmemPlaysUptoRow, standIns := [], harness := (true, "0f28b6ec52473b6f8dd541a764e274c1fb8baefe449fcb881155efb53e952373"), looks := false }, kinds := [], alts := [], laidByText := true, laidKinds := [.data], laidTests := true, laidLooks := .later }
def PmemPlaysUptoCardSaid : Prop := Claim7.holds Tryd.pinned (.plain (OpenSpec.upto pmemPlaysSpec)) pmemPlaysUptoCard

/-- THE SECOND FORM's CARD OF 'waterlinelaw04.PmemCopies'. -/
def pmemCopiesUptoCard : Claim7 := { stood := { row := pmemCopiesUptoRow, standIns := [], harness := (true, "0f28b6ec52473b6f8dd541a764e274c1fb8baefe449fcb881155efb53e952373"), looks := false }, kinds := [], alts := [], laidByText := true, laidKinds := [.data], laidTests := true, laidLooks := .later }
def PmemCopiesUptoCardSaid : Prop := Claim7.holds Tryd.pinned (.plain (OpenSpec.upto pmemCopiesSpec)) pmemCopiesUptoCard

/-- THE SECOND FORM's CARD OF 'waterlinelaw04.PmemHolds'. -/
def pmemHoldsUptoCard : Claim7 := { stood := { row := pmemHoldsUptoRow, standIns := [], harness := (true, "0f28b6ec52473b6f8dd541a764e274c1fb8baefe449fcb881155efb53e952373"), looks := false }, kinds := [], alts := [], laidByText := true, laidKinds := [.data], laidTests := true, laidLooks := .later }
def PmemHoldsUptoCardSaid : Prop := Claim7.holds Tryd.pinned (.plain (OpenSpec.upto pmemHoldsSpec)) pmemHoldsUptoCard

/-- THE SECOND FORM's CARD OF 'waterlinelaw04.PmemOne'. -/
def pmemOneUptoCard : Claim7 := { stood := { row := pmemOneUptoRow, standIns := [], harness := (true, "0f28b6ec52473b6f8dd541a764e274c1fb8baefe449fcb881155efb53e952373"), looks := false }, kinds := [], alts := [], laidByText := true, laidKinds := [.data], laidTests := true, laidLooks := .later }
def PmemOneUptoCardSaid : Prop := Claim7.holds Tryd.pinned (.plain (OpenSpec.upto pmemOneSpec)) pmemOneUptoCard

/-- THE SECOND FORM's CARD OF 'waterlinelaw04.PmemAll'. -/
def pmemAllUptoCard : Claim7 := { stood := { row := pmemAllUptoRow, standIns := [], harness := (true, "0f28b6ec52473b6f8dd541a764e274c1fb8baefe449fcb881155efb53e952373"), looks := false }, kinds := [], alts := [], laidByText := true, laidKinds := [.data], laidTests := true, laidLooks := .later }
def PmemAllUptoCardSaid : Prop := Claim7.holds Tryd.pinned (.plain (OpenSpec.upto pmemAllSpec)) pmemAllUptoCard
end Rows
end Go.Proofs.YtkpiehejkhjhlaaDoor
