/-
  The law NodeGets: its walk, for words as the row opens them.
-/
import Derived.Test.YtaebipopmefkpaaGreatDoorQNdGA
namespace Go.Proofs.YtaebipopmefkpaaGreatDoor
open Go.RowKit Go.Shelf

theorem gets8_row (l : List Int) (hl : Line8 l) (w : World) (ht : Tabs w) : Calls Tryz.prog 3 #[.agg (lnA l)] w fun e w' => e = .returned (.bool true) ∧ Below w.heap.size w w' :=
  match l, hl with
  | [a0, a1, a2, a3, a4, a5, a6, a7], hl => gets8_any a0 a1 a2 a3 a4 a5 a6 a7 hl w ht
  | [], hl => nomatch hl.1
  | [_], hl => nomatch hl.1
  | [_, _], hl => nomatch hl.1
  | [_, _, _], hl => nomatch hl.1
  | [_, _, _, _], hl => nomatch hl.1
  | [_, _, _, _, _], hl => nomatch hl.1
  | [_, _, _, _, _, _], hl => nomatch hl.1
  | [_, _, _, _, _, _, _], hl => nomatch hl.1
  | _ :: _ :: _ :: _ :: _ :: _ :: _ :: _ :: _ :: _, hl => by simp [Line8] at hl
end Go.Proofs.YtaebipopmefkpaaGreatDoor
