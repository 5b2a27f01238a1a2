/-
  Contracts of word's joined and of the fold over bytes.
-/
import Derived.Test.YtkpiehejkhjhlaaWordC
namespace Go.Proofs.Ytkpiehejkhjhlaa
open Go.RowKit Go.Shelf

theorem or_int (x a k : Nat) (hx : x < 18446744073709551616) : bits .or .u64 (x : Int) (IntKind.u64.wrap ((a : Int) * 2 ^ k)) = ((x ||| (a * 2 ^ k % 18446744073709551616) : Nat) : Int) := by
  rw [WM.shl_int, u64_or_nat _ _ hx (Nat.mod_lt _ (by decide))]
end Go.Proofs.Ytkpiehejkhjhlaa
