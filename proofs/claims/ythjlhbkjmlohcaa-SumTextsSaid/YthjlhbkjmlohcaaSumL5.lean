/-
  The walk of the law SumTexts.
-/
import Derived.Test.YthjlhbkjmlohcaaSumK
import Derived.Test.YthjlhbkjmlohcaaSumT
namespace Go.Proofs.Ythjlhbkjmlohcaa
open Go.RowKit Go.Shelf

set_option maxHeartbeats 1000000 in
theorem texts_any (v : Value) (xs : List Nat) (hl : xs.length ≤ 140737488351232) (hx : WM.Bytes256 xs) (w : World) (hs : Sl w .u8 v xs) (hcap : ∀ a n c, v = .slice a n c → c ≤ 140737488351232) :
    Calls Try.prog 4 #[v] w fun e w' => e = .returned (.bool true) ∧ Below w.heap.size w w' := by
  have hl' : (xs.length : Int) ≤ 140737488351232 := by omega
  by_cases h1 : 4200 < xs.length
  · obtain ⟨a, c, b, off, rfl, -, -, -⟩ := hs.cell
    clear hs hcap
    have k1 : (4200 : Int) < (xs.length : Int) := by omega
    go_enter Try.func4, Try.ntmps4
    go_wp2_with fail
    refine (works2_any _).mono ?_
    rintro e w1 ⟨rfl, hb1⟩
    go_wp2_with fail
    go_ret
    exact ⟨rfl, hb1⟩
  · by_cases h2 : 4096 < xs.length
    · have k1 : (4096 : Int) < (xs.length : Int) := by omega
      have k2 : (xs.length : Int) ≤ 4200 := by omega
      have C1 := Lib.hid (text_long v xs h2 hl w hs)
      obtain ⟨a, c, b, off, rfl, -, -, -⟩ := hs.cell
      clear hs hcap
      go_enter Try.func4, Try.ntmps4
      go_wp2_with fail
      refine C1.out.mono ?_
      rintro e w1 ⟨rfl, hb1⟩
      go_wp2_with (go_at_call 13; refine (num2_any _ _).mono ?_; rintro e w' ⟨rfl, rfl⟩)
      refine (works2_any _).mono ?_
      rintro e w2 ⟨rfl, hb2⟩
      go_wp2_with fail
      go_ret
      exact ⟨rfl, hb1.trans (hb2.mono hb1.size)⟩
    · have k1 : (xs.length : Int) ≤ 4096 := by omega
      have C1 := Lib.hid (text_any v xs (by omega) hx w hs hcap)
      have C2 := Lib.hid (fun (W : World) (hb : Below w.heap.size w W) => refText2_any v xs (by omega) hx W (hs.below hb))
      generalize SM.sumOf (textWords xs) = s at *
      obtain ⟨a, c, b, off, rfl, -, -, -⟩ := hs.cell
      clear hs hcap
      go_enter Try.func4, Try.ntmps4
      go_wp2_with fail
      refine C1.out.mono ?_
      rintro e w1 ⟨rfl, hb1⟩
      go_wp2_with fail
      refine (C2.out _ hb1).mono ?_
      rintro e w2 ⟨rfl, hb2⟩
      have b2 := hb1.trans (hb2.mono hb1.size)
      go_wp2_with (go_at_call 13; refine (num2_any _ _).mono ?_; rintro e w' ⟨rfl, rfl⟩)
      refine (works2_any _).mono ?_
      rintro e w3 ⟨rfl, hb3⟩
      go_wp2_with fail
      go_ret
      exact ⟨rfl, b2.trans (hb3.mono b2.size)⟩
end Go.Proofs.Ythjlhbkjmlohcaa
