/-
  No cell of these rows narrows 'for every input' (looked for: loops, veiled, ifaces, maps, wideKeys, modest, calm, conditions, laid).
  DERIVED. THE GIVEN ROWS OF THIS SEAT. 7 by the template 'for every input the law returns true; each argument reads behind the call as it read before'; 0 by the template 'total and deterministic' (their statements: YtmncoclmgcjjjaaTotals.lean).
  GIVEN WITH THE SEED: the statements are not yours to turn. If you find one false, say at which input.
  Laid BY PROGRAM, IN A SANDBOX (cutbox-rows.mjs): the forced cells as the released guide's own fill.sh prints them over the translation c212395e04a17c2b… (all of the seat's roots in one cut). By AI agents, Wed Nov 11 2026. No macro, syntax, notation, axiom, sorry.
-/
import Derived.Test.YtmncoclmgcjjjaaChecked
import GoSem.Claim
import GoSem.ClaimJoined
import GoSem.ClaimMapViews
import Derived.JoinedTies
import Derived.KernelRfl
namespace Go.Proofs.Ytmncoclmgcjjjaa
/- THE CELL 'sum', in the pinned program and in every row, IS THE sha256 OF THE DUMP (.gsa) THAT YtmncoclmgcjjjaaProg.lean LOADS. Nothing in Lean hashes anything: it is a label: what it is worth is what the hold of that sum in a sandbox is worth. -/
noncomputable def Try.pinned : Pinned := { name := "ytmncoclmgcjjjaa", sum := "c212395e04a17c2b6ef9c20d6af102b5996a2640938235e05f124e36def344fb", checked := Try.checked }
namespace Rows
def none {H : Type} : Left H := { results := [], args := [] }

/-- 'waterlinelaw09.FileWrites': WHATEVER THE INPUT: true; the input reads as it did. -/
def fileWritesSpec : ChangeSpec := { name := "fileWrites", fn := fun _ => fun
  | [d1, d2, d3, d4] => { results := [.lit (.bool true)], args := [d1, d2, d3, d4] }
  | _ => none }
def fileWritesRow : OpenClaim := { program := "ytmncoclmgcjjjaa", sum := "c212395e04a17c2b6ef9c20d6af102b5996a2640938235e05f124e36def344fb", func := "waterline/waterlinelaw09.FileWrites", spec := "fileWrites", unfollowed := true, recurses := true, apart := false }
def FileWritesSaid : Prop := fileWritesRow.holds Try.pinned (OpenSpec.ofChange fileWritesSpec)

/-- ITS FALSE NEIGHBOUR: 'it returns false'. Refute it at one input. -/
def fileWritesWrong : ChangeSpec := { name := "fileWrites", fn := fun _ => fun
  | [d1, d2, d3, d4] => { results := [.lit (.bool false)], args := [d1, d2, d3, d4] }
  | _ => none }
def FileWritesWrongFalsely : Prop := fileWritesRow.holds Try.pinned (OpenSpec.ofChange fileWritesWrong)

/-- 'waterlinelaw09.FileChunks': WHATEVER THE INPUT: true; the input reads as it did. -/
def fileChunksSpec : ChangeSpec := { name := "fileChunks", fn := fun _ => fun
  | [d1, d2] => { results := [.lit (.bool true)], args := [d1, d2] }
  | _ => none }
def fileChunksRow : OpenClaim := { program := "ytmncoclmgcjjjaa", sum := "c212395e04a17c2b6ef9c20d6af102b5996a2640938235e05f124e36def344fb", func := "waterline/waterlinelaw09.FileChunks", spec := "fileChunks", unfollowed := true, recurses := true, apart := false }
def FileChunksSaid : Prop := fileChunksRow.holds Try.pinned (OpenSpec.ofChange fileChunksSpec)

/-- ITS FALSE NEIGHBOUR: 'it returns false'. Refute it at one input. -/
def fileChunksWrong : ChangeSpec := { name := "fileChunks", fn := fun _ => fun
  | [d1, d2] => { results := [.lit (.bool false)], args := [d1, d2] }
  | _ => none }
def FileChunksWrongFalsely : Prop := fileChunksRow.holds Try.pinned (OpenSpec.ofChange fileChunksWrong)

/-- 'waterlinelaw09.FileJoins': WHATEVER THE INPUT: true; the input reads as it did. -/
def fileJoinsSpec : ChangeSpec := { name := "fileJoins", fn := fun _ => fun
  | [d1, d2] => { results := [.lit (.bool true)], args := [d1, d2] }
  | _ => none }
def fileJoinsRow : OpenClaim := { program := "ytmncoclmgcjjjaa", sum := "c212395e04a17c2b6ef9c20d6af102b5996a2640938235e05f124e36def344fb", func := "waterline/waterlinelaw09.FileJoins", spec := "fileJoins", unfollowed := true, recurses := true, apart := false }
def FileJoinsSaid : Prop := fileJoinsRow.holds Try.pinned (OpenSpec.ofChange fileJoinsSpec)

/-- ITS FALSE NEIGHBOUR: 'it returns false'. Refute it at one input. -/
def fileJoinsWrong : ChangeSpec := { name := "fileJoins", fn := fun _ => fun
  | [d1, d2] => { results := [.lit (.bool false)], args := [d1, d2] }
  | _ => none }
def FileJoinsWrongFalsely : Prop := fileJoinsRow.holds Try.pinned (OpenSpec.ofChange fileJoinsWrong)

/-- 'waterlinelaw09.FileChanges': WHATEVER THE INPUT: true; the input reads as it did. -/
def fileChangesSpec : ChangeSpec := { name := "fileChanges", fn := fun _ => fun
  | [d1, d2] => { results := [.lit (.bool true)], args := [d1, d2] }
  | _ => none }
def fileChangesRow : OpenClaim := { program := "ytmncoclmgcjjjaa", sum := "c212395e04a17c2b6ef9c20d6af102b5996a2640938235e05f124e36def344fb", func := "waterline/waterlinelaw09.FileChanges", spec := "fileChanges", unfollowed := true, recurses := true, apart := false }
def FileChangesSaid : Prop := fileChangesRow.holds Try.pinned (OpenSpec.ofChange fileChangesSpec)

/-- ITS FALSE NEIGHBOUR: 'it returns false'. Refute it at one input. -/
def fileChangesWrong : ChangeSpec := { name := "fileChanges", fn := fun _ => fun
  | [d1, d2] => { results := [.lit (.bool false)], args := [d1, d2] }
  | _ => none }
def FileChangesWrongFalsely : Prop := fileChangesRow.holds Try.pinned (OpenSpec.ofChange fileChangesWrong)

/-- 'waterlinelaw09.FileHolds': WHATEVER THE INPUT: true; the input reads as it did. -/
def fileHoldsSpec : ChangeSpec := { name := "fileHolds", fn := fun _ => fun
  | [d1, d2, d3, d4] => { results := [.lit (.bool true)], args := [d1, d2, d3, d4] }
  | _ => none }
def fileHoldsRow : OpenClaim := { program := "ytmncoclmgcjjjaa", sum := "c212395e04a17c2b6ef9c20d6af102b5996a2640938235e05f124e36def344fb", func := "waterline/waterlinelaw09.FileHolds", spec := "fileHolds", unfollowed := true, recurses := true, apart := false }
def FileHoldsSaid : Prop := fileHoldsRow.holds Try.pinned (OpenSpec.ofChange fileHoldsSpec)

/-- ITS FALSE NEIGHBOUR: 'it returns false'. Refute it at one input. -/
def fileHoldsWrong : ChangeSpec := { name := "fileHolds", fn := fun _ => fun
  | [d1, d2, d3, d4] => { results := [.lit (.bool false)], args := [d1, d2, d3, d4] }
  | _ => none }
def FileHoldsWrongFalsely : Prop := fileHoldsRow.holds Try.pinned (OpenSpec.ofChange fileHoldsWrong)

/-- 'waterlinelaw09.FileSplits': WHATEVER THE INPUT: true; the input reads as it did. -/
def fileSplitsSpec : ChangeSpec := { name := "fileSplits", fn := fun _ => fun
  | [d1, d2, d3, d4] => { results := [.lit (.bool true)], args := [d1, d2, d3, d4] }
  | _ => none }
def fileSplitsRow : OpenClaim := { program := "ytmncoclmgcjjjaa", sum := "c212395e04a17c2b6ef9c20d6af102b5996a2640938235e05f124e36def344fb", func := "waterline/waterlinelaw09.FileSplits", spec := "fileSplits", unfollowed := true, recurses := true, apart := false }
def FileSplitsSaid : Prop := fileSplitsRow.holds Try.pinned (OpenSpec.ofChange fileSplitsSpec)

/-- ITS FALSE NEIGHBOUR: 'it returns false'. Refute it at one input. -/
def fileSplitsWrong : ChangeSpec := { name := "fileSplits", fn := fun _ => fun
  | [d1, d2, d3, d4] => { results := [.lit (.bool false)], args := [d1, d2, d3, d4] }
  | _ => none }
def FileSplitsWrongFalsely : Prop := fileSplitsRow.holds Try.pinned (OpenSpec.ofChange fileSplitsWrong)

/-- 'waterlinelaw09.FileParts': WHATEVER THE INPUT: true; the input reads as it did. -/
def filePartsSpec : ChangeSpec := { name := "fileParts", fn := fun _ => fun
  | [d1, d2, d3, d4] => { results := [.lit (.bool true)], args := [d1, d2, d3, d4] }
  | _ => none }
def filePartsRow : OpenClaim := { program := "ytmncoclmgcjjjaa", sum := "c212395e04a17c2b6ef9c20d6af102b5996a2640938235e05f124e36def344fb", func := "waterline/waterlinelaw09.FileParts", spec := "fileParts", unfollowed := true, recurses := true, apart := false }
def FilePartsSaid : Prop := filePartsRow.holds Try.pinned (OpenSpec.ofChange filePartsSpec)

/-- ITS FALSE NEIGHBOUR: 'it returns false'. Refute it at one input. -/
def filePartsWrong : ChangeSpec := { name := "fileParts", fn := fun _ => fun
  | [d1, d2, d3, d4] => { results := [.lit (.bool false)], args := [d1, d2, d3, d4] }
  | _ => none }
def FilePartsWrongFalsely : Prop := filePartsRow.holds Try.pinned (OpenSpec.ofChange filePartsWrong)

/- THE SECOND FORM. 'bulk': how many values and letters a reading holds, each counted each time it is reached (what is shared counts as often as it is met; a slice's spare places count too). A statement '..UptoSaid' is the law's where the arguments, and the package variables that the reading takes, are together of bulk at most 1048576: NARROWER than '..Said'. Prove '..Said' where nothing that the law and all that it calls make is longer than what came in: it says more and counts as full. Else prove '..UptoSaid'. A law counts once. -/
mutual
def uptoBulk {H : Type} : DataW H → Nat
  | .lit (.string bytes) => bytes.length + 1
  | .lit _ => 1
  | .nil => 1
  | .ptr d => uptoBulk d + 1
  | .slice elems spare => uptoBulkAll elems + uptoBulkAll spare + 1
  | .agg parts => uptoBulkAll parts + 1
  | .iface _ d => uptoBulk d + 1
  | .map entries => uptoBulkEntries entries + 1
  | .held _ => 1
def uptoBulkAll {H : Type} : List (DataW H) → Nat
  | [] => 0
  | d :: r => uptoBulk d + uptoBulkAll r
def uptoBulkEntries {H : Type} : List (Lit × DataW H) → Nat
  | [] => 0
  | x :: r => uptoBulkEntry x + uptoBulkEntries r
def uptoBulkEntry {H : Type} : Lit × DataW H → Nat
  | (.string bytes, d) => bytes.length + uptoBulk d + 1
  | (_, d) => uptoBulk d + 1
 end
def uptoSmall : (H : Type) → List (DataW H) → Bool := fun _ ds => decide (uptoBulkAll ds ≤ 1048576)
def OpenSpec.upto (s : _root_.Go.ChangeSpec) : _root_.Go.OpenSpec := { _root_.Go.OpenSpec.ofChange s with cond := some uptoSmall }

/-- 'waterlinelaw09.FileWrites', WHERE WHAT IT READS IS OF BULK AT MOST 1048576: true; the input reads as it did. -/
def fileWritesUptoRow : OpenClaim := { program := "ytmncoclmgcjjjaa", sum := "c212395e04a17c2b6ef9c20d6af102b5996a2640938235e05f124e36def344fb", func := "waterline/waterlinelaw09.FileWrites", spec := "fileWrites", unfollowed := true, recurses := true, apart := false, narrowed := true }
def FileWritesUptoSaid : Prop := fileWritesUptoRow.holds Try.pinned (OpenSpec.upto fileWritesSpec)

/-- 'waterlinelaw09.FileChunks', WHERE WHAT IT READS IS OF BULK AT MOST 1048576: true; the input reads as it did. -/
def fileChunksUptoRow : OpenClaim := { program := "ytmncoclmgcjjjaa", sum := "c212395e04a17c2b6ef9c20d6af102b5996a2640938235e05f124e36def344fb", func := "waterline/waterlinelaw09.FileChunks", spec := "fileChunks", unfollowed := true, recurses := true, apart := false, narrowed := true }
def FileChunksUptoSaid : Prop := fileChunksUptoRow.holds Try.pinned (OpenSpec.upto fileChunksSpec)

/-- 'waterlinelaw09.FileJoins', WHERE WHAT IT READS IS OF BULK AT MOST 1048576: true; the input reads as it did. -/
def fileJoinsUptoRow : OpenClaim := { program := "ytmncoclmgcjjjaa", sum := "c212395e04a17c2b6ef9c20d6af102b5996a2640938235e05f124e36def344fb", func := "waterline/waterlinelaw09.FileJoins", spec := "fileJoins", unfollowed := true, recurses := true, apart := false, narrowed := true }
def FileJoinsUptoSaid : Prop := fileJoinsUptoRow.holds Try.pinned (OpenSpec.upto fileJoinsSpec)

/-- 'waterlinelaw09.FileChanges', WHERE WHAT IT READS IS OF BULK AT MOST 1048576: true; the input reads as it did. -/
def fileChangesUptoRow : OpenClaim := { program := "ytmncoclmgcjjjaa", sum := "c212395e04a17c2b6ef9c20d6af102b5996a2640938235e05f124e36def344fb", func := "waterline/waterlinelaw09.FileChanges", spec := "fileChanges", unfollowed := true, recurses := true, apart := false, narrowed := true }
def FileChangesUptoSaid : Prop := fileChangesUptoRow.holds Try.pinned (OpenSpec.upto fileChangesSpec)

/-- 'waterlinelaw09.FileHolds', WHERE WHAT IT READS IS OF BULK AT MOST 1048576: true; the input reads as it did. -/
def fileHoldsUptoRow : OpenClaim := { program := "ytmncoclmgcjjjaa", sum := "c212395e04a17c2b6ef9c20d6af102b5996a2640938235e05f124e36def344fb", func := "waterline/waterlinelaw09.FileHolds", spec := "fileHolds", unfollowed := true, recurses := true, apart := false, narrowed := true }
def FileHoldsUptoSaid : Prop := fileHoldsUptoRow.holds Try.pinned (OpenSpec.upto fileHoldsSpec)

/-- 'waterlinelaw09.FileSplits', WHERE WHAT IT READS IS OF BULK AT MOST 1048576: true; the input reads as it did. -/
def fileSplitsUptoRow : OpenClaim := { program := "ytmncoclmgcjjjaa", sum := "c212395e04a17c2b6ef9c20d6af102b5996a2640938235e05f124e36def344fb", func := "waterline/waterlinelaw09.FileSplits", spec := "fileSplits", unfollowed := true, recurses := true, apart := false, narrowed := true }
def FileSplitsUptoSaid : Prop := fileSplitsUptoRow.holds Try.pinned (OpenSpec.upto fileSplitsSpec)

/-- 'waterlinelaw09.FileParts', WHERE WHAT IT READS IS OF BULK AT MOST 1048576: true; the input reads as it did. -/
def filePartsUptoRow : OpenClaim := { program := "ytmncoclmgcjjjaa", sum := "c212395e04a17c2b6ef9c20d6af102b5996a2640938235e05f124e36def344fb", func := "waterline/waterlinelaw09.FileParts", spec := "fileParts", unfollowed := true, recurses := true, apart := false, narrowed := true }
def FilePartsUptoSaid : Prop := filePartsUptoRow.holds Try.pinned (OpenSpec.upto filePartsSpec)

end Rows
end Go.Proofs.Ytmncoclmgcjjjaa
