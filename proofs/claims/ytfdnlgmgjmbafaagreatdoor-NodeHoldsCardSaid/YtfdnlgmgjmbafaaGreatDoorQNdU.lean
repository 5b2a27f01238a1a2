/-
  The law NodeHolds: its walk, for arguments as the row opens them.
-/
import Derived.Test.YtfdnlgmgjmbafaaGreatDoorQNdT
namespace Go.Proofs.YtfdnlgmgjmbafaaGreatDoor
open Go.RowKit Go.Shelf

theorem holds8_row (l lx lm : List Int) (a b : Int) (s : List UInt8) (hl : Line8 l) (hx : GoodI 3 (ints lx)) (hlx : lx.length = 3) (hm : GoodI 8 (ints lm)) (hlm : lm.length = 8)
    (ha : -9223372036854775808 ≤ a ∧ a ≤ 9223372036854775807) (hb : -9223372036854775808 ≤ b ∧ b ≤ 9223372036854775807) (w : World) (ht : Tabs w) :
    Calls Tryz.prog 6 #[.agg (lnA l), .agg (ints lx), .agg (ints lm), .agg #[.int .i64 a, .int .i64 b, encStr s]] w fun e w' => e = .returned (.bool true) ∧ Below w.heap.size w w' :=
  match lx, hlx, lm, hlm with
  | [x0, x1, x2], _, [m0, m1, m2, m3, m4, m5, m6, m7], _ => holds8_any l x0 x1 x2 m0 m1 m2 m3 m4 m5 m6 m7 a b s hl hx hm ha hb w ht
end Go.Proofs.YtfdnlgmgjmbafaaGreatDoor
