/-
  NARROWER THAN 'FOR EVERY INPUT', by the rows' own cells (each row's printed sentence says how): NodeGets: laid.
  DERIVED. THE GIVEN ROWS OF THIS SEAT. 1 by the template 'for every input the law returns true; each argument reads behind the call as it read before'; 0 by the template 'total and deterministic' (their statements: YtaebipopmefkpaaGreatDoorTotals.lean).
  GIVEN WITH THE SEED: the statements are not yours to turn. If you find one false, say at which input.
  Laid BY PROGRAM, IN A SANDBOX (cutbox-rows.mjs): the forced cells as the released guide's own fill.sh prints them over the translation 00f8bcd8299651ae… (all of the seat's roots in one cut). By AI agents, Wed Nov 11 2026. No macro, syntax, notation, axiom, sorry.
-/
import Derived.Test.YtaebipopmefkpaaGreatDoorChecked
import GoSem.Claim
import GoSem.ClaimJoined
import GoSem.ClaimMapViews
import Derived.JoinedTies
import Derived.KernelRfl
namespace Go.Proofs.YtaebipopmefkpaaGreatDoor
/- THE CELL 'sum', in the pinned program and in every row, IS THE sha256 OF THE DUMP (.gsa) THAT YtaebipopmefkpaaGreatDoorProg.lean LOADS. Nothing in Lean hashes anything: it is a label: what it is worth is what the hold of that sum in a sandbox is worth. -/
noncomputable def Tryz.pinned : Pinned := { name := "ytaebipopmefkpaagreatdoor", sum := "00f8bcd8299651ae4105f5b88da86055fe3109f87f293b0f7e52452717c3d623", checked := Tryz.checked }
namespace Rows
def none {H : Type} : Left H := { results := [], args := [] }

/- WHAT THE LISTED PACKAGE-LEVEL VARIABLES READ AS WHEN THE CALL BEGINS. Each datum BY PROGRAM (the guide's laid-datum.mjs) off the statement by which the dump's own 'gosem.cut.vars' lays the variable. In a bare row this is a premise. The card (YtaebipopmefkpaaGreatDoorCards.lean) ties it to the program's text. -/
def laid_waterline_word_masks {H : Type} : DataW H := .agg [.lit (.int .u64 0), .lit (.int .u64 1), .lit (.int .u64 3), .lit (.int .u64 7), .lit (.int .u64 15), .lit (.int .u64 31), .lit (.int .u64 63), .lit (.int .u64 127), .lit (.int .u64 255), .lit (.int .u64 511), .lit (.int .u64 1023), .lit (.int .u64 2047), .lit (.int .u64 4095), .lit (.int .u64 8191), .lit (.int .u64 16383), .lit (.int .u64 32767), .lit (.int .u64 65535), .lit (.int .u64 131071), .lit (.int .u64 262143), .lit (.int .u64 524287), .lit (.int .u64 1048575), .lit (.int .u64 2097151), .lit (.int .u64 4194303), .lit (.int .u64 8388607), .lit (.int .u64 16777215), .lit (.int .u64 33554431), .lit (.int .u64 67108863), .lit (.int .u64 134217727), .lit (.int .u64 268435455), .lit (.int .u64 536870911), .lit (.int .u64 1073741823), .lit (.int .u64 2147483647), .lit (.int .u64 4294967295), .lit (.int .u64 8589934591), .lit (.int .u64 17179869183), .lit (.int .u64 34359738367), .lit (.int .u64 68719476735), .lit (.int .u64 137438953471), .lit (.int .u64 274877906943), .lit (.int .u64 549755813887), .lit (.int .u64 1099511627775), .lit (.int .u64 2199023255551), .lit (.int .u64 4398046511103), .lit (.int .u64 8796093022207), .lit (.int .u64 17592186044415), .lit (.int .u64 35184372088831), .lit (.int .u64 70368744177663), .lit (.int .u64 140737488355327), .lit (.int .u64 281474976710655), .lit (.int .u64 562949953421311), .lit (.int .u64 1125899906842623), .lit (.int .u64 2251799813685247), .lit (.int .u64 4503599627370495), .lit (.int .u64 9007199254740991), .lit (.int .u64 18014398509481983), .lit (.int .u64 36028797018963967), .lit (.int .u64 72057594037927935), .lit (.int .u64 144115188075855871), .lit (.int .u64 288230376151711743), .lit (.int .u64 576460752303423487), .lit (.int .u64 1152921504606846975), .lit (.int .u64 2305843009213693951), .lit (.int .u64 4611686018427387903), .lit (.int .u64 9223372036854775807), .lit (.int .u64 18446744073709551615)]

/-- 'waterlinelaw08.NodeGets': WHATEVER THE INPUT: true; the input reads as it did. -/
def nodeGetsSpec : ChangeSpec := { name := "nodeGets", fn := fun _ => fun
  | [d] => { results := [.lit (.bool true)], args := [d] }
  | _ => none }
def nodeGetsRow : OpenClaim := { program := "ytaebipopmefkpaagreatdoor", sum := "00f8bcd8299651ae4105f5b88da86055fe3109f87f293b0f7e52452717c3d623", func := "waterline/waterlinelaw08.NodeGets", spec := "nodeGets", unfollowed := true, recurses := true, named := ["waterline/word.masks"], apart := false, laid := [("waterline/word.masks", laid_waterline_word_masks)] }
def NodeGetsSaid : Prop := nodeGetsRow.holds Tryz.pinned (OpenSpec.ofChange nodeGetsSpec)

/-- ITS FALSE NEIGHBOUR: 'it returns false'. Refute it at one input. -/
def nodeGetsWrong : ChangeSpec := { name := "nodeGets", fn := fun _ => fun
  | [d] => { results := [.lit (.bool false)], args := [d] }
  | _ => none }
def NodeGetsWrongFalsely : Prop := nodeGetsRow.holds Tryz.pinned (OpenSpec.ofChange nodeGetsWrong)

/- THE SECOND FORM. 'bulk': how many values and letters a reading holds, each counted each time it is reached (what is shared counts as often as it is met; a slice's spare places count too). A statement '..UptoSaid' is the law's where the arguments, and the package variables that the reading takes, are together of bulk at most 1048576: NARROWER than '..Said'. Prove '..Said' where nothing that the law and all that it calls make is longer than what came in: it says more and counts as full. Else prove '..UptoSaid'. A law counts once. -/
mutual
def uptoBulk {H : Type} : DataW H → Nat
  | .lit (.string bytes) => bytes.length + 1
  | .lit _ => 1
  | .nil => 1
  | .ptr d => uptoBulk d + 1
  | .slice elems spare => uptoBulkAll elems + uptoBulkAll spare + 1
  | .agg parts => uptoBulkAll parts + 1
  | .iface _ d => uptoBulk d + 1
  | .map entries => uptoBulkEntries entries + 1
  | .held _ => 1
def uptoBulkAll {H : Type} : List (DataW H) → Nat
  | [] => 0
  | d :: r => uptoBulk d + uptoBulkAll r
def uptoBulkEntries {H : Type} : List (Lit × DataW H) → Nat
  | [] => 0
  | x :: r => uptoBulkEntry x + uptoBulkEntries r
def uptoBulkEntry {H : Type} : Lit × DataW H → Nat
  | (.string bytes, d) => bytes.length + uptoBulk d + 1
  | (_, d) => uptoBulk d + 1
 end
def uptoSmall : (H : Type) → List (DataW H) → Bool := fun _ ds => decide (uptoBulkAll ds ≤ 1048576)
def OpenSpec.upto (s : _root_.Go.ChangeSpec) : _root_.Go.OpenSpec := { _root_.Go.OpenSpec.ofChange s with cond := some uptoSmall }

/-- 'waterlinelaw08.NodeGets', WHERE WHAT IT READS IS OF BULK AT MOST 1048576: true; the input reads as it did. -/
def nodeGetsUptoRow : OpenClaim := { program := "ytaebipopmefkpaagreatdoor", sum := "00f8bcd8299651ae4105f5b88da86055fe3109f87f293b0f7e52452717c3d623", func := "waterline/waterlinelaw08.NodeGets", spec := "nodeGets", unfollowed := true, recurses := true, named := ["waterline/word.masks"], apart := false, laid := [("waterline/word.masks", laid_waterline_word_masks)], narrowed := true }
def NodeGetsUptoSaid : Prop := nodeGetsUptoRow.holds Tryz.pinned (OpenSpec.upto nodeGetsSpec)

end Rows
end Go.Proofs.YtaebipopmefkpaaGreatDoor
