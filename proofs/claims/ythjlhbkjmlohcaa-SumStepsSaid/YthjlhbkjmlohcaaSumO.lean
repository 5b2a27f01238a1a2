/-
  What a slice of words, opened, gives.
-/
import Derived.Test.YthjlhbkjmlohcaaWordO
import Derived.Test.YthjlhbkjmlohcaaSumA
namespace Go.Proofs.Ythjlhbkjmlohcaa
open Go.ChangeShapes Go.WideShapes Go.ChangeAt Go.RowKit
theorem u64s_of {xs : List Nat} (hw : ∀ x ∈ xs, (Lit.int .u64 (x : Int)).wf = true) : U64s xs := fun x hx => by
  have := bounds_u64 (hw x hx)
  omega
end Go.Proofs.Ythjlhbkjmlohcaa
