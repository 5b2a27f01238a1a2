/-
  NARROWER THAN 'FOR EVERY INPUT', by the rows' own cells (each row's printed sentence says how): WordBits: laid · WordHolds: laid · WordTwice: laid.
  DERIVED. THE GIVEN ROWS OF THIS SEAT. 3 by the template 'for every input the law returns true; each argument reads behind the call as it read before'; 0 by the template 'total and deterministic' (their statements: YthjlhbkjmlohcaaDoorTotals.lean).
  GIVEN WITH THE SEED: the statements are not yours to turn. If you find one false, say at which input.
  Laid BY PROGRAM, IN A SANDBOX (cutbox-rows.mjs): the forced cells as the released guide's own fill.sh prints them over the translation 3b9bee41e86ca3ac… (all of the seat's roots in one cut). By AI agents, Wed Nov 11 2026. No macro, syntax, notation, axiom, sorry.
-/
import Derived.Test.YthjlhbkjmlohcaaDoorChecked
import GoSem.Claim
import GoSem.ClaimJoined
import GoSem.ClaimMapViews
import Derived.JoinedTies
import Derived.KernelRfl
namespace Go.Proofs.YthjlhbkjmlohcaaDoor
/- THE CELL 'sum', in the pinned program and in every row, IS THE sha256 OF THE DUMP (.gsa) THAT YthjlhbkjmlohcaaDoorProg.lean LOADS. Nothing in Lean hashes anything: it is a label: what it is worth is what the hold of that sum in a sandbox is worth. -/
noncomputable def Tryd.pinned : Pinned := { name := "ythjlhbkjmlohcaadoor", sum := "3b9bee41e86ca3ac4ab4da9a8775fd00fc327b6df0fdab8d3902a223de17af60", checked := Tryd.checked }
namespace Rows
def none {H : Type} : Left H := { results := [], args := [] }

/- WHAT THE LISTED PACKAGE-LEVEL VARIABLES READ AS WHEN THE CALL BEGINS. Each datum BY PROGRAM (the guide's laid-datum.mjs) off the statement by which the dump's own 'gosem.cut.vars' lays the variable. In a bare row this is a premise. The card (YthjlhbkjmlohcaaDoorCards.lean) ties it to the program's text. -/
def laid_math_bits_deBruijn64tab {H : Type} : DataW H := .agg [.lit (.int .u8 0), .lit (.int .u8 1), .lit (.int .u8 56), .lit (.int .u8 2), .lit (.int .u8 57), .lit (.int .u8 49), .lit (.int .u8 28), .lit (.int .u8 3), .lit (.int .u8 61), .lit (.int .u8 58), .lit (.int .u8 42), .lit (.int .u8 50), .lit (.int .u8 38), .lit (.int .u8 29), .lit (.int .u8 17), .lit (.int .u8 4), .lit (.int .u8 62), .lit (.int .u8 47), .lit (.int .u8 59), .lit (.int .u8 36), .lit (.int .u8 45), .lit (.int .u8 43), .lit (.int .u8 51), .lit (.int .u8 22), .lit (.int .u8 53), .lit (.int .u8 39), .lit (.int .u8 33), .lit (.int .u8 30), .lit (.int .u8 24), .lit (.int .u8 18), .lit (.int .u8 12), .lit (.int .u8 5), .lit (.int .u8 63), .lit (.int .u8 55), .lit (.int .u8 48), .lit (.int .u8 27), .lit (.int .u8 60), .lit (.int .u8 41), .lit (.int .u8 37), .lit (.int .u8 16), .lit (.int .u8 46), .lit (.int .u8 35), .lit (.int .u8 44), .lit (.int .u8 21), .lit (.int .u8 52), .lit (.int .u8 32), .lit (.int .u8 23), .lit (.int .u8 11), .lit (.int .u8 54), .lit (.int .u8 26), .lit (.int .u8 40), .lit (.int .u8 15), .lit (.int .u8 34), .lit (.int .u8 20), .lit (.int .u8 31), .lit (.int .u8 10), .lit (.int .u8 25), .lit (.int .u8 14), .lit (.int .u8 19), .lit (.int .u8 9), .lit (.int .u8 13), .lit (.int .u8 8), .lit (.int .u8 7), .lit (.int .u8 6)]
def laid_waterline_word_masks {H : Type} : DataW H := .agg [.lit (.int .u64 0), .lit (.int .u64 1), .lit (.int .u64 3), .lit (.int .u64 7), .lit (.int .u64 15), .lit (.int .u64 31), .lit (.int .u64 63), .lit (.int .u64 127), .lit (.int .u64 255), .lit (.int .u64 511), .lit (.int .u64 1023), .lit (.int .u64 2047), .lit (.int .u64 4095), .lit (.int .u64 8191), .lit (.int .u64 16383), .lit (.int .u64 32767), .lit (.int .u64 65535), .lit (.int .u64 131071), .lit (.int .u64 262143), .lit (.int .u64 524287), .lit (.int .u64 1048575), .lit (.int .u64 2097151), .lit (.int .u64 4194303), .lit (.int .u64 8388607), .lit (.int .u64 16777215), .lit (.int .u64 33554431), .lit (.int .u64 67108863), .lit (.int .u64 134217727), .lit (.int .u64 268435455), .lit (.int .u64 536870911), .lit (.int .u64 1073741823), .lit (.int .u64 2147483647), .lit (.int .u64 4294967295), .lit (.int .u64 8589934591), .lit (.int .u64 17179869183), .lit (.int .u64 34359738367), .lit (.int .u64 68719476735), .lit (.int .u64 137438953471), .lit (.int .u64 274877906943), .lit (.int .u64 549755813887), .lit (.int .u64 1099511627775), .lit (.int .u64 2199023255551), .lit (.int .u64 4398046511103), .lit (.int .u64 8796093022207), .lit (.int .u64 17592186044415), .lit (.int .u64 35184372088831), .lit (.int .u64 70368744177663), .lit (.int .u64 140737488355327), .lit (.int .u64 281474976710655), .lit (.int .u64 562949953421311), .lit (.int .u64 1125899906842623), .lit (.int .u64 2251799813685247), .lit (.int .u64 4503599627370495), .lit (.int .u64 9007199254740991), .lit (.int .u64 18014398509481983), .lit (.int .u64 36028797018963967), .lit (.int .u64 72057594037927935), .lit (.int .u64 144115188075855871), .lit (.int .u64 288230376151711743), .lit (.int .u64 576460752303423487), .lit (.int .u64 1152921504606846975), .lit (.int .u64 2305843009213693951), .lit (.int .u64 4611686018427387903), .lit (.int .u64 9223372036854775807), .lit (.int .u64 18446744073709551615)]

/-- 'waterlinelaw01.WordBits': WHATEVER THE INPUT: true; the input reads as it did. -/
def wordBitsSpec : ChangeSpec := { name := "wordBits", fn := fun _ => fun
  | [d1, d2, d3] => { results := [.lit (.bool true)], args := [d1, d2, d3] }
  | _ => none }
def wordBitsRow : OpenClaim := { program := "ythjlhbkjmlohcaadoor", sum := "3b9bee41e86ca3ac4ab4da9a8775fd00fc327b6df0fdab8d3902a223de17af60", func := "waterline/waterlinelaw01.WordBits", spec := "wordBits", unfollowed := true, recurses := true, named := ["waterline/word.masks", "math/bits.deBruijn64tab"], apart := false, laid := [("math/bits.deBruijn64tab", laid_math_bits_deBruijn64tab), ("waterline/word.masks", laid_waterline_word_masks)] }
def WordBitsSaid : Prop := wordBitsRow.holds Tryd.pinned (OpenSpec.ofChange wordBitsSpec)

/-- ITS FALSE NEIGHBOUR: 'it returns false'. Refute it at one input. -/
def wordBitsWrong : ChangeSpec := { name := "wordBits", fn := fun _ => fun
  | [d1, d2, d3] => { results := [.lit (.bool false)], args := [d1, d2, d3] }
  | _ => none }
def WordBitsWrongFalsely : Prop := wordBitsRow.holds Tryd.pinned (OpenSpec.ofChange wordBitsWrong)

/-- 'waterlinelaw01.WordHolds': WHATEVER THE INPUT: true; the input reads as it did. -/
def wordHoldsSpec : ChangeSpec := { name := "wordHolds", fn := fun _ => fun
  | [d1, d2, d3, d4] => { results := [.lit (.bool true)], args := [d1, d2, d3, d4] }
  | _ => none }
def wordHoldsRow : OpenClaim := { program := "ythjlhbkjmlohcaadoor", sum := "3b9bee41e86ca3ac4ab4da9a8775fd00fc327b6df0fdab8d3902a223de17af60", func := "waterline/waterlinelaw01.WordHolds", spec := "wordHolds", unfollowed := true, recurses := true, named := ["waterline/word.masks", "math/bits.deBruijn64tab"], apart := false, laid := [("math/bits.deBruijn64tab", laid_math_bits_deBruijn64tab), ("waterline/word.masks", laid_waterline_word_masks)] }
def WordHoldsSaid : Prop := wordHoldsRow.holds Tryd.pinned (OpenSpec.ofChange wordHoldsSpec)

/-- ITS FALSE NEIGHBOUR: 'it returns false'. Refute it at one input. -/
def wordHoldsWrong : ChangeSpec := { name := "wordHolds", fn := fun _ => fun
  | [d1, d2, d3, d4] => { results := [.lit (.bool false)], args := [d1, d2, d3, d4] }
  | _ => none }
def WordHoldsWrongFalsely : Prop := wordHoldsRow.holds Tryd.pinned (OpenSpec.ofChange wordHoldsWrong)

/-- 'waterlinelaw01.WordTwice': WHATEVER THE INPUT: true; the input reads as it did. -/
def wordTwiceSpec : ChangeSpec := { name := "wordTwice", fn := fun _ => fun
  | [d1, d2, d3, d4] => { results := [.lit (.bool true)], args := [d1, d2, d3, d4] }
  | _ => none }
def wordTwiceRow : OpenClaim := { program := "ythjlhbkjmlohcaadoor", sum := "3b9bee41e86ca3ac4ab4da9a8775fd00fc327b6df0fdab8d3902a223de17af60", func := "waterline/waterlinelaw01.WordTwice", spec := "wordTwice", unfollowed := true, recurses := true, named := ["waterline/word.masks", "math/bits.deBruijn64tab"], apart := false, laid := [("math/bits.deBruijn64tab", laid_math_bits_deBruijn64tab), ("waterline/word.masks", laid_waterline_word_masks)] }
def WordTwiceSaid : Prop := wordTwiceRow.holds Tryd.pinned (OpenSpec.ofChange wordTwiceSpec)

/-- ITS FALSE NEIGHBOUR: 'it returns false'. Refute it at one input. -/
def wordTwiceWrong : ChangeSpec := { name := "wordTwice", fn := fun _ => fun
  | [d1, d2, d3, d4] => { results := [.lit (.bool false)], args := [d1, d2, d3, d4] }
  | _ => none }
def WordTwiceWrongFalsely : Prop := wordTwiceRow.holds Tryd.pinned (OpenSpec.ofChange wordTwiceWrong)

/- THE SECOND FORM. 'bulk': how many values and letters a reading holds, each counted each time it is reached (what is shared counts as often as it is met; a slice's spare places count too). A statement '..UptoSaid' is the law's where the arguments, and the package variables that the reading takes, are together of bulk at most 1048576: NARROWER than '..Said'. Prove '..Said' where nothing that the law and all that it calls make is longer than what came in: it says more and counts as full. Else prove '..UptoSaid'. A law counts once. -/
mutual
def uptoBulk {H : Type} : DataW H → Nat
  | .lit (.string bytes) => bytes.length + 1
  | .lit _ => 1
  | .nil => 1
  | .ptr d => uptoBulk d + 1
  | .slice elems spare => uptoBulkAll elems + uptoBulkAll spare + 1
  | .agg parts => uptoBulkAll parts + 1
  | .iface _ d => uptoBulk d + 1
  | .map entries => uptoBulkEntries entries + 1
  | .held _ => 1
def uptoBulkAll {H : Type} : List (DataW H) → Nat
  | [] => 0
  | d :: r => uptoBulk d + uptoBulkAll r
def uptoBulkEntries {H : Type} : List (Lit × DataW H) → Nat
  | [] => 0
  | x :: r => uptoBulkEntry x + uptoBulkEntries r
def uptoBulkEntry {H : Type} : Lit × DataW H → Nat
  | (.string bytes, d) => bytes.length + uptoBulk d + 1
  | (_, d) => uptoBulk d + 1
 end
def uptoSmall : (H : Type) → List (DataW H) → Bool := fun _ ds => decide (uptoBulkAll ds ≤ 1048576)
def OpenSpec.upto (s : _root_.Go.ChangeSpec) : _root_.Go.OpenSpec := { _root_.Go.OpenSpec.ofChange s with cond := some uptoSmall }

/-- 'waterlinelaw01.WordBits', WHERE WHAT IT READS IS OF BULK AT MOST 1048576: true; the input reads as it did. -/
def wordBitsUptoRow : OpenClaim := { program := "ythjlhbkjmlohcaadoor", sum := "3b9bee41e86ca3ac4ab4da9a8775fd00fc327b6df0fdab8d3902a223de17af60", func := "waterline/waterlinelaw01.WordBits", spec := "wordBits", unfollowed := true, recurses := true, named := ["waterline/word.masks", "math/bits.deBruijn64tab"], apart := false, laid := [("math/bits.deBruijn64tab", laid_math_bits_deBruijn64tab), ("waterline/word.masks", laid_waterline_word_masks)], narrowed := true }
def WordBitsUptoSaid : Prop := wordBitsUptoRow.holds Tryd.pinned (OpenSpec.upto wordBitsSpec)

/-- 'waterlinelaw01.WordHolds', WHERE WHAT IT READS IS OF BULK AT MOST 1048576: true; the input reads as it did. -/
def wordHoldsUptoRow : OpenClaim := { program := "ythjlhbkjmlohcaadoor", sum := "3b9bee41e86ca3ac4ab4da9a8775fd00fc327b6df0fdab8d3902a223de17af60", func := "waterline/waterlinelaw01.WordHolds", spec := "wordHolds", unfollowed := true, recurses := true, named := ["waterline/word.masks", "math/bits.deBruijn64tab"], apart := false, laid := [("math/bits.deBruijn64tab", laid_math_bits_deBruijn64tab), ("waterline/word.masks", laid_waterline_word_masks)], narrowed := true }
def WordHoldsUptoSaid : Prop := wordHoldsUptoRow.holds Tryd.pinned (OpenSpec.upto wordHoldsSpec)

/-- 'waterlinelaw01.WordTwice', WHERE WHAT IT READS IS OF BULK AT MOST 1048576: true; the input reads as it did. -/
def wordTwiceUptoRow : OpenClaim := { program := "ythjlhbkjmlohcaadoor", sum := "3b9bee41e86ca3ac4ab4da9a8775fd00fc327b6df0fdab8d3902a223de17af60", func := "waterline/waterlinelaw01.WordTwice", spec := "wordTwice", unfollowed := true, recurses := true, named := ["waterline/word.masks", "math/bits.deBruijn64tab"], apart := false, laid := [("math/bits.deBruijn64tab", laid_math_bits_deBruijn64tab), ("waterline/word.masks", laid_waterline_word_masks)], narrowed := true }
def WordTwiceUptoSaid : Prop := wordTwiceUptoRow.holds Tryd.pinned (OpenSpec.upto wordTwiceSpec)

end Rows
end Go.Proofs.YthjlhbkjmlohcaaDoor
