/-
  The law NodePuts: its walk, for arguments as the row opens them.
-/
import Derived.Test.YtfdnlgmgjmbafaaGreatDoorQNdRC
namespace Go.Proofs.YtfdnlgmgjmbafaaGreatDoor
open Go.RowKit Go.Shelf

theorem goodI_in {k : Nat} {l : List Int} (h : GoodI k (ints l)) (j : Nat) (hj : j < k) (hl : j < l.length) : -9223372036854775808 ≤ l[j] ∧ l[j] < 9223372036854775808 := by
  obtain ⟨n, hn, h1, h2⟩ := h.2 j hj
  rw [ints_at l j hl, List.getElem?_eq_getElem hl] at hn
  have : l[j] = n := by simpa using hn
  rw [this]
  exact ⟨h1, h2⟩
theorem puts8_row (ls lx lt : List Int) (hs : GoodI 2 (ints ls)) (hls : ls.length = 2) (hx : GoodI 3 (ints lx)) (hlx : lx.length = 3) (hy : GoodI 7 (ints lt)) (hlt : lt.length = 7) (w : World) (ht : Tabs w) :
    Calls Tryz.prog 3 #[.agg (ints ls), .agg (ints lx), .agg (ints lt)] w fun e w' => e = .returned (.bool true) ∧ Below w.heap.size w w' :=
  match ls, hls, lx, hlx with
  | [_, _], _, [_, _, _], _ => puts8_any _ _ _ _ _ lt (goodI_in hs 0 (by decide) (by simp)) (goodI_in hs 1 (by decide) (by simp)) hx hlt hy w ht
end Go.Proofs.YtfdnlgmgjmbafaaGreatDoor
