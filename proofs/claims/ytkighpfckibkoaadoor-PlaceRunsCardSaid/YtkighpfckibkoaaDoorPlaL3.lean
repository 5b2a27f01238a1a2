/-
  The walk of the law PlaceRuns.
-/
import Derived.Test.YtkighpfckibkoaaDoorPlaLa
import Derived.Test.YtkighpfckibkoaaDoorPlaLb
import Derived.Test.YtkighpfckibkoaaDoorPlaLc
import Derived.Test.YtkighpfckibkoaaDoorPlaLd
namespace Go.Proofs.YtkighpfckibkoaaDoor
open Go.RowKit Go.Shelf

theorem runs3_any (l v many most : Int) (hm1 : -9223372036854775808 ≤ many) (hm2 : many ≤ 9223372036854775807) (ho1 : -9223372036854775808 ≤ most) (ho2 : most ≤ 9223372036854775807) (w : World) (ht : Ends w) :
    Calls Tryd.prog 5 #[.agg #[.int .i64 l, .int .i64 v], .int .i64 many, .int .i64 most] w fun e w' => e = .returned (.bool true) ∧ Below w.heap.size w w' := by
  by_cases h1 : many ≤ 300
  · cases ok : okP l v with
    | false => exact runs3_ln l v many most hm1 hm2 ho1 ho2 h1 ok w ht
    | true =>
      by_cases h2 : many < 0
      · exact runs3_lm l v many most hm1 hm2 ho1 ho2 h1 ok h2 w ht
      · by_cases h3 : many ≤ 8192 - (8 * l + v)
        · exact runs3_ly l v many most hm1 hm2 ho1 ho2 h1 ok (by omega) h3 w ht
        · exact runs3_lf l v many most hm1 hm2 ho1 ho2 h1 ok (by omega) (by omega) w ht
  · by_cases h2 : many < 8000
    · exact runs3_skip l v many most (by omega) h2 w ht
    · cases ok : okP l v with
      | false => exact runs3_hn l v many most hm1 hm2 ho1 ho2 (by omega) ok w ht
      | true =>
        by_cases h3 : many ≤ 8192 - (8 * l + v)
        · exact runs3_hy l v many most hm1 hm2 ho1 ho2 (by omega) ok (by omega) h3 w ht
        · exact runs3_hf l v many most hm1 hm2 ho1 ho2 (by omega) ok (by omega) (by omega) w ht
end Go.Proofs.YtkighpfckibkoaaDoor
