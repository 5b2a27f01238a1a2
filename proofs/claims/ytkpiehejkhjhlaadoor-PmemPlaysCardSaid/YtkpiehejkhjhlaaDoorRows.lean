/-
  NARROWER THAN 'FOR EVERY INPUT', by the rows' own cells (each row's printed sentence says how): PmemPlays: laid · PmemCopies: laid · PmemHolds: laid · PmemOne: laid · PmemAll: laid.
  DERIVED. THE GIVEN ROWS OF THIS SEAT. 5 by the template 'for every input the law returns true; each argument reads behind the call as it read before'; 0 by the template 'total and deterministic' (their statements: YtkpiehejkhjhlaaDoorTotals.lean).
  GIVEN WITH THE SEED: the statements are not yours to turn. If you find one false, say at which input.
  Laid BY PROGRAM, IN A SANDBOX (cutbox-rows.mjs): the forced cells as the released guide's own fill.sh prints them over the translation 83cf00bf2a3be096… (all of the seat's roots in one cut). By AI agents, Wed Nov 11 2026. No macro, syntax, notation, axiom, sorry.
-/
import Derived.Test.YtkpiehejkhjhlaaDoorChecked
import GoSem.Claim
import GoSem.ClaimJoined
import GoSem.ClaimMapViews
import Derived.JoinedTies
import Derived.KernelRfl
namespace Go.Proofs.YtkpiehejkhjhlaaDoor
/- THE CELL 'sum', in the pinned program and in every row, IS THE sha256 OF THE DUMP (.gsa) THAT YtkpiehejkhjhlaaDoorProg.lean LOADS. Nothing in Lean hashes anything: it is a label: what it is worth is what the hold of that sum in a sandbox is worth. -/
noncomputable def Tryd.pinned : Pinned := { name := "ytkpiehejkhjhlaadoor", sum := "83cf00bf2a3be0961769f8b32f8f84338fc8f4e675bcf4abed277e9a1a1e3ee8", checked := Tryd.checked }
namespace Rows
def none {H : Type} : Left H := { results := [], args := [] }

/- WHAT THE LISTED PACKAGE-LEVEL VARIABLES READ AS WHEN THE CALL BEGINS. Each datum BY PROGRAM (the guide's laid-datum.mjs) off the statement by which the dump's own 'gosem.cut.vars' lays the variable. In a bare row this is a premise. The card (YtkpiehejkhjhlaaDoorCards.lean) ties it to the program's text. -/
def laid_waterline_place_ends {H : Type} : DataW H := .agg [.lit (.int .i64 1024), .lit (.int .i64 8)]

/-- 'waterlinelaw04.PmemPlays': WHATEVER THE INPUT: true; the input reads as it did. -/
def pmemPlaysSpec : ChangeSpec := { name := "pmemPlays", fn := fun _ => fun
  | [d1, d2] => { results := [.lit (.bool true)], args := [d1, d2] }
  | _ => none }
def pmemPlaysRow : OpenClaim := { program := "ytkpiehejkhjhlaadoor", sum := "83cf00bf2a3be0961769f8b32f8f84338fc8f4e675bcf4abed277e9a1a1e3ee8", func := "waterline/waterlinelaw04.PmemPlays", spec := "pmemPlays", unfollowed := true, recurses := true, named := ["waterline/place.ends"], apart := false, laid := [("waterline/place.ends", laid_waterline_place_ends)] }
def PmemPlaysSaid : Prop := pmemPlaysRow.holds Tryd.pinned (OpenSpec.ofChange pmemPlaysSpec)

/-- ITS FALSE NEIGHBOUR: 'it returns false'. Refute it at one input. -/
def pmemPlaysWrong : ChangeSpec := { name := "pmemPlays", fn := fun _ => fun
  | [d1, d2] => { results := [.lit (.bool false)], args := [d1, d2] }
  | _ => none }
def PmemPlaysWrongFalsely : Prop := pmemPlaysRow.holds Tryd.pinned (OpenSpec.ofChange pmemPlaysWrong)

/-- 'waterlinelaw04.PmemCopies': WHATEVER THE INPUT: true; the input reads as it did. -/
def pmemCopiesSpec : ChangeSpec := { name := "pmemCopies", fn := fun _ => fun
  | [d1, d2, d3, d4] => { results := [.lit (.bool true)], args := [d1, d2, d3, d4] }
  | _ => none }
def pmemCopiesRow : OpenClaim := { program := "ytkpiehejkhjhlaadoor", sum := "83cf00bf2a3be0961769f8b32f8f84338fc8f4e675bcf4abed277e9a1a1e3ee8", func := "waterline/waterlinelaw04.PmemCopies", spec := "pmemCopies", unfollowed := true, recurses := true, named := ["waterline/place.ends"], apart := false, laid := [("waterline/place.ends", laid_waterline_place_ends)] }
def PmemCopiesSaid : Prop := pmemCopiesRow.holds Tryd.pinned (OpenSpec.ofChange pmemCopiesSpec)

/-- ITS FALSE NEIGHBOUR: 'it returns false'. Refute it at one input. -/
def pmemCopiesWrong : ChangeSpec := { name := "pmemCopies", fn := fun _ => fun
  | [d1, d2, d3, d4] => { results := [.lit (.bool false)], args := [d1, d2, d3, d4] }
  | _ => none }
def PmemCopiesWrongFalsely : Prop := pmemCopiesRow.holds Tryd.pinned (OpenSpec.ofChange pmemCopiesWrong)

/-- 'waterlinelaw04.PmemHolds': WHATEVER THE INPUT: true; the input reads as it did. -/
def pmemHoldsSpec : ChangeSpec := { name := "pmemHolds", fn := fun _ => fun
  | [d1, d2] => { results := [.lit (.bool true)], args := [d1, d2] }
  | _ => none }
def pmemHoldsRow : OpenClaim := { program := "ytkpiehejkhjhlaadoor", sum := "83cf00bf2a3be0961769f8b32f8f84338fc8f4e675bcf4abed277e9a1a1e3ee8", func := "waterline/waterlinelaw04.PmemHolds", spec := "pmemHolds", unfollowed := true, recurses := true, named := ["waterline/place.ends"], apart := false, laid := [("waterline/place.ends", laid_waterline_place_ends)] }
def PmemHoldsSaid : Prop := pmemHoldsRow.holds Tryd.pinned (OpenSpec.ofChange pmemHoldsSpec)

/-- ITS FALSE NEIGHBOUR: 'it returns false'. Refute it at one input. -/
def pmemHoldsWrong : ChangeSpec := { name := "pmemHolds", fn := fun _ => fun
  | [d1, d2] => { results := [.lit (.bool false)], args := [d1, d2] }
  | _ => none }
def PmemHoldsWrongFalsely : Prop := pmemHoldsRow.holds Tryd.pinned (OpenSpec.ofChange pmemHoldsWrong)

/-- 'waterlinelaw04.PmemOne': WHATEVER THE INPUT: true; the input reads as it did. -/
def pmemOneSpec : ChangeSpec := { name := "pmemOne", fn := fun _ => fun
  | [d1, d2, d3] => { results := [.lit (.bool true)], args := [d1, d2, d3] }
  | _ => none }
def pmemOneRow : OpenClaim := { program := "ytkpiehejkhjhlaadoor", sum := "83cf00bf2a3be0961769f8b32f8f84338fc8f4e675bcf4abed277e9a1a1e3ee8", func := "waterline/waterlinelaw04.PmemOne", spec := "pmemOne", unfollowed := true, recurses := true, named := ["waterline/place.ends"], apart := false, laid := [("waterline/place.ends", laid_waterline_place_ends)] }
def PmemOneSaid : Prop := pmemOneRow.holds Tryd.pinned (OpenSpec.ofChange pmemOneSpec)

/-- ITS FALSE NEIGHBOUR: 'it returns false'. Refute it at one input. -/
def pmemOneWrong : ChangeSpec := { name := "pmemOne", fn := fun _ => fun
  | [d1, d2, d3] => { results := [.lit (.bool false)], args := [d1, d2, d3] }
  | _ => none }
def PmemOneWrongFalsely : Prop := pmemOneRow.holds Tryd.pinned (OpenSpec.ofChange pmemOneWrong)

/-- 'waterlinelaw04.PmemAll': WHATEVER THE INPUT: true; the input reads as it did. -/
def pmemAllSpec : ChangeSpec := { name := "pmemAll", fn := fun _ => fun
  | [d1, d2] => { results := [.lit (.bool true)], args := [d1, d2] }
  | _ => none }
def pmemAllRow : OpenClaim := { program := "ytkpiehejkhjhlaadoor", sum := "83cf00bf2a3be0961769f8b32f8f84338fc8f4e675bcf4abed277e9a1a1e3ee8", func := "waterline/waterlinelaw04.PmemAll", spec := "pmemAll", unfollowed := true, recurses := true, named := ["waterline/place.ends"], apart := false, laid := [("waterline/place.ends", laid_waterline_place_ends)] }
def PmemAllSaid : Prop := pmemAllRow.holds Tryd.pinned (OpenSpec.ofChange pmemAllSpec)

/-- ITS FALSE NEIGHBOUR: 'it returns false'. Refute it at one input. -/
def pmemAllWrong : ChangeSpec := { name := "pmemAll", fn := fun _ => fun
  | [d1, d2] => { results := [.lit (.bool false)], args := [d1, d2] }
  | _ => none }
def PmemAllWrongFalsely : Prop := pmemAllRow.holds Tryd.pinned (OpenSpec.ofChange pmemAllWrong)

/- THE SECOND FORM. 'bulk': how many values and letters a reading holds, each counted each time it is reached (what is shared counts as often as it is met; a slice's spare places count too). A statement '..UptoSaid' is the law's where the arguments, and the package variables that the reading takes, are together of bulk at most 1048576: NARROWER than '..Said'. Prove '..Said' where nothing that the law and all that it calls make is longer than what came in: it says more and counts as full. Else prove '..UptoSaid'. A law counts once. -/
mutual
def uptoBulk {H : Type} : DataW H → Nat
  | .lit (.string bytes) => bytes.length + 1
  | .lit _ => 1
  | .nil => 1
  | .ptr d => uptoBulk d + 1
  | .slice elems spare => uptoBulkAll elems + uptoBulkAll spare + 1
  | .agg parts => uptoBulkAll parts + 1
  | .iface _ d => uptoBulk d + 1
  | .map entries => uptoBulkEntries entries + 1
  | .held _ => 1
def uptoBulkAll {H : Type} : List (DataW H) → Nat
  | [] => 0
  | d :: r => uptoBulk d + uptoBulkAll r
def uptoBulkEntries {H : Type} : List (Lit × DataW H) → Nat
  | [] => 0
  | x :: r => uptoBulkEntry x + uptoBulkEntries r
def uptoBulkEntry {H : Type} : Lit × DataW H → Nat
  | (.string bytes, d) => bytes.length + uptoBulk d + 1
  | (_, d) => uptoBulk d + 1
 end
def uptoSmall : (H : Type) → List (DataW H) → Bool := fun _ ds => decide (uptoBulkAll ds ≤ 1048576)
def OpenSpec.upto (s : _root_.Go.ChangeSpec) : _root_.Go.OpenSpec := { _root_.Go.OpenSpec.ofChange s with cond := some uptoSmall }

/-- 'waterlinelaw04.PmemPlays', WHERE WHAT IT READS IS OF BULK AT MOST 1048576: true; the input reads as it did. -/
def pmemPlaysUptoRow : OpenClaim := { program := "ytkpiehejkhjhlaadoor", sum := "83cf00bf2a3be0961769f8b32f8f84338fc8f4e675bcf4abed277e9a1a1e3ee8", func := "waterline/waterlinelaw04.PmemPlays", spec := "pmemPlays", unfollowed := true, recurses := true, named := ["waterline/place.ends"], apart := false, laid := [("waterline/place.ends", laid_waterline_place_ends)], narrowed := true }
def PmemPlaysUptoSaid : Prop := pmemPlaysUptoRow.holds Tryd.pinned (OpenSpec.upto pmemPlaysSpec)

/-- 'waterlinelaw04.PmemCopies', WHERE WHAT IT READS IS OF BULK AT MOST 1048576: true; the input reads as it did. -/
def pmemCopiesUptoRow : OpenClaim := { program := "ytkpiehejkhjhlaadoor", sum := "83cf00bf2a3be0961769f8b32f8f84338fc8f4e675bcf4abed277e9a1a1e3ee8", func := "waterline/waterlinelaw04.PmemCopies", spec := "pmemCopies", unfollowed := true, recurses := true, named := ["waterline/place.ends"], apart := false, laid := [("waterline/place.ends", laid_waterline_place_ends)], narrowed := true }
def PmemCopiesUptoSaid : Prop := pmemCopiesUptoRow.holds Tryd.pinned (OpenSpec.upto pmemCopiesSpec)

/-- 'waterlinelaw04.PmemHolds', WHERE WHAT IT READS IS OF BULK AT MOST 1048576: true; the input reads as it did. -/
def pmemHoldsUptoRow : OpenClaim := { program := "ytkpiehejkhjhlaadoor", sum := "83cf00bf2a3be0961769f8b32f8f84338fc8f4e675bcf4abed277e9a1a1e3ee8", func := "waterline/waterlinelaw04.PmemHolds", spec := "pmemHolds", unfollowed := true, recurses := true, named := ["waterline/place.ends"], apart := false, laid := [("waterline/place.ends", laid_waterline_place_ends)], narrowed := true }
def PmemHoldsUptoSaid : Prop := pmemHoldsUptoRow.holds Tryd.pinned (OpenSpec.upto pmemHoldsSpec)

/-- 'waterlinelaw04.PmemOne', WHERE WHAT IT READS IS OF BULK AT MOST 1048576: true; the input reads as it did. -/
def pmemOneUptoRow : OpenClaim := { program := "ytkpiehejkhjhlaadoor", sum := "83cf00bf2a3be0961769f8b32f8f84338fc8f4e675bcf4abed277e9a1a1e3ee8", func := "waterline/waterlinelaw04.PmemOne", spec := "pmemOne", unfollowed := true, recurses := true, named := ["waterline/place.ends"], apart := false, laid := [("waterline/place.ends", laid_waterline_place_ends)], narrowed := true }
def PmemOneUptoSaid : Prop := pmemOneUptoRow.holds Tryd.pinned (OpenSpec.upto pmemOneSpec)

/-- 'waterlinelaw04.PmemAll', WHERE WHAT IT READS IS OF BULK AT MOST 1048576: true; the input reads as it did. -/
def pmemAllUptoRow : OpenClaim := { program := "ytkpiehejkhjhlaadoor", sum := "83cf00bf2a3be0961769f8b32f8f84338fc8f4e675bcf4abed277e9a1a1e3ee8", func := "waterline/waterlinelaw04.PmemAll", spec := "pmemAll", unfollowed := true, recurses := true, named := ["waterline/place.ends"], apart := false, laid := [("waterline/place.ends", laid_waterline_place_ends)], narrowed := true }
def PmemAllUptoSaid : Prop := pmemAllUptoRow.holds Tryd.pinned (OpenSpec.upto pmemAllSpec)

end Rows
end Go.Proofs.YtkpiehejkhjhlaaDoor
