/-
  The law NodeMaps: its walk, for arguments as the row opens them.
-/
import Derived.Test.YtfdnlgmgjmbafaaGreatDoorQNdY
namespace Go.Proofs.YtfdnlgmgjmbafaaGreatDoor
open Go.RowKit Go.Shelf

theorem maps8_row (l : List Int) (a b size : Int) (s : List UInt8) (hl8 : l.length = 8) (hx : GoodI 8 (ints l)) (ha : -9223372036854775808 ≤ a ∧ a ≤ 9223372036854775807) (hb : -9223372036854775808 ≤ b ∧ b ≤ 9223372036854775807) (w : World) (ht : Tabs w) :
    Calls Tryz.prog 4 #[.agg (ints l), .agg #[.int .i64 a, .int .i64 b, encStr s], .int .i64 size] w fun e w' => e = .returned (.bool true) ∧ Below w.heap.size w w' := by
  by_cases h1 : size < 0
  · exact maps8_lo l a b size s hl8 hx ha hb h1 w ht
  by_cases h2 : 448 < size
  · exact maps8_hi l a b size s hl8 hx ha hb h2 w ht
  exact maps8_in l a b size s hl8 hx ha hb ⟨by omega, by omega⟩ w ht
end Go.Proofs.YtfdnlgmgjmbafaaGreatDoor
