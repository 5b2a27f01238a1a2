/-
  The walk of the law PmemPlays: all cases.
-/
import Derived.Test.YtkpiehejkhjhlaaDoorQPoH
namespace Go.Proofs.YtkpiehejkhjhlaaDoor
open Go.RowKit Go.Shelf

set_option maxRecDepth 100000 in
set_option maxHeartbeats 4000000 in
theorem plays4_bad {v : Value} {xs : List Ask} (i : Int) (hi : i < 1 ∨ 1024 < i) (w : World) (hen : Ends w) (hs : SlA w (fun k => w.heap.size ≤ k) v xs) :
    Calls Tryd.prog 3 #[.int .i64 i, v] w fun e w' => e = .returned (.bool true) ∧ Below w.heap.size w w' := by
  obtain ⟨a, cap, rfl, -⟩ := id hs
  clear hs
  have HW4 := Lib.hid (fun W (hb : Below w.heap.size w W) => works4_any W (hen.below hb hen.room))
  obtain ⟨W0, hW0⟩ : ∃ W0, w.alloc (.cells #[.bool false] 4) = W0 := ⟨_, rfl⟩
  have b0 : Below w.heap.size w W0 := by rw [← hW0]; exact (Below.refl _ _).alloc (Nat.le_refl _) _
  have hY : Boxed W0 w.heap.size 4 (.bool false) := by rw [← hW0]; exact Boxed.new w 4 _
  have HNB := Lib.hid (new_bad i hi W0)
  have HN2 := Lib.hid (num4_any 2)
  have HB0 := Lib.hid b0
  have HY := Lib.hid hY
  have HWE := Lib.hid hW0
  clear hen b0 hY hW0
  by_cases h1 : i < 1
  · clear hi
    go_enter Tryd.func3, Tryd.ntmps3
    go_wp2_with fail
    rw [HWE.out]
    refine HNB.out.mono ?_
    rintro e w1 ⟨rfl, hb1⟩
    have hY1 : Boxed w1 w.heap.size 4 (.bool false) := (hb1.block _ HY.out.lt).trans HY.out
    have HY1 := Lib.hid hY1
    have HB1 : Hid (Below w.heap.size w w1) := show Below _ _ _ from HB0.out.trans (hb1.mono HB0.out.size)
    clear hY1 hb1
    go_wp2_with fail
    refine (HN2.out w1).mono ?_
    rintro e w2 ⟨rfl, hw2⟩
    rw [hw2]
    clear hw2 w2
    go_wp2_with fail
    refine (HW4.out _ HB1.out).mono ?_
    rintro e w3 ⟨rfl, hb3⟩
    have hY3 : Boxed w3 w.heap.size 4 (.bool false) := (hb3.block _ HY1.out.lt).trans HY1.out
    have cr := hY3.cell
    have fr := hY3.frozen
    have HB3 : Hid (Below w.heap.size w w3) := show Below _ _ _ from HB1.out.trans (hb3.mono HB1.out.size)
    have HY3 := Lib.hid hY3
    clear hY3 hb3
    go_wp2_with fail
    refine bodyPost_ret (v := .bool true) (by simp [results, Tryd.results3, go_sem, (HY3.out.set (.bool true)).cell]) rfl ?_
    exact ⟨rfl, HB3.out.setCell (p := ⟨w.heap.size, 0, none⟩) (Nat.le_refl _) _⟩
  · have h2 : 1024 < i := by omega
    clear hi
    go_enter Tryd.func3, Tryd.ntmps3
    go_wp2_with fail
    rw [HWE.out]
    refine HNB.out.mono ?_
    rintro e w1 ⟨rfl, hb1⟩
    have hY1 : Boxed w1 w.heap.size 4 (.bool false) := (hb1.block _ HY.out.lt).trans HY.out
    have HY1 := Lib.hid hY1
    have HB1 : Hid (Below w.heap.size w w1) := show Below _ _ _ from HB0.out.trans (hb1.mono HB0.out.size)
    clear hY1 hb1
    go_wp2_with fail
    refine (HN2.out w1).mono ?_
    rintro e w2 ⟨rfl, hw2⟩
    rw [hw2]
    clear hw2 w2
    go_wp2_with fail
    refine (HW4.out _ HB1.out).mono ?_
    rintro e w3 ⟨rfl, hb3⟩
    have hY3 : Boxed w3 w.heap.size 4 (.bool false) := (hb3.block _ HY1.out.lt).trans HY1.out
    have cr := hY3.cell
    have fr := hY3.frozen
    have HB3 : Hid (Below w.heap.size w w3) := show Below _ _ _ from HB1.out.trans (hb3.mono HB1.out.size)
    have HY3 := Lib.hid hY3
    clear hY3 hb3
    go_wp2_with fail
    refine bodyPost_ret (v := .bool true) (by simp [results, Tryd.results3, go_sem, (HY3.out.set (.bool true)).cell]) rfl ?_
    exact ⟨rfl, HB3.out.setCell (p := ⟨w.heap.size, 0, none⟩) (Nat.le_refl _) _⟩
set_option maxRecDepth 100000 in
set_option maxHeartbeats 4000000 in
theorem plays4_many {v : Value} {xs : List Ask} (n : Nat) (h1 : 0 < n) (h2 : n ≤ 1024) (hc : 12 < n ∨ fewA xs 40 = false) (w : World) (hen : Ends w) (hl : xs.length ≤ 9223372036854775807) (hs : SlA w (fun k => w.heap.size ≤ k) v xs) :
    Calls Tryd.prog 3 #[.int .i64 n, v] w fun e w' => e = .returned (.bool true) ∧ Below w.heap.size w w' := by
  obtain ⟨a, cap, rfl, -⟩ := id hs
  have HW4 := Lib.hid (fun W (hb : Below w.heap.size w W) => works4_any W (hen.below hb hen.room))
  have HFW := Lib.hid (fun W (hb : Below w.heap.size w W) => few_any 40 W hl (hs.low hb))
  have hn1 : ¬ (n : Int) < 1 := by omega
  have hn2 : ¬ 1024 < (n : Int) := by omega
  obtain ⟨W0, hW0⟩ : ∃ W0, w.alloc (.cells #[.bool false] 4) = W0 := ⟨_, rfl⟩
  have b0 : Below w.heap.size w W0 := by rw [← hW0]; exact (Below.refl _ _).alloc (Nat.le_refl _) _
  have hY : Boxed W0 w.heap.size 4 (.bool false) := by rw [← hW0]; exact Boxed.new w 4 _
  have HNB := Lib.hid (new_in n h1 h2 W0 (hen.below b0 hen.room))
  have HN0 := Lib.hid (num4_any 0)
  have HB0 := Lib.hid b0
  have HY := Lib.hid hY
  have HWE := Lib.hid hW0
  have hem : ∀ W, (binOp .eql 31 (.agg #[.int .i64 (n : Nat), .int .i64 0, .int .i64 0]) (.agg #[.int .i64 (n : Nat), .int .i64 0, .int .i64 0])).run Tryd.prog W = .ok (.bool true) W := fun W => by rw [eql_media]; simp
  obtain ⟨N, hN⟩ : ∃ N, xs.length = N := ⟨_, rfl⟩
  rw [hN]
  rw [hN] at HFW
  clear hen b0 hY hW0 hs hl h1 h2 hN
  by_cases h12 : 12 < (n : Int)
  · clear hc
    go_enter Tryd.func3, Tryd.ntmps3
    go_wp2_with fail
    rw [HWE.out]
    refine HNB.out.mono ?_
    rintro e w1 ⟨B, rfl, hb1, hd1⟩
    have hY1 : Boxed w1 w.heap.size 4 (.bool false) := (hb1.block _ HY.out.lt).trans HY.out
    have HY1 := Lib.hid hY1
    have HB1 : Hid (Below w.heap.size w w1) := show Below _ _ _ from HB0.out.trans (hb1.mono HB0.out.size)
    have HSA := Lib.hid (state_in hd1)
    rw [show (Dv.new n).waits.length = 0 from rfl, show dirty (Dv.new n).seen (Dv.new n).stays n = 0 from dirty_same _ _] at HSA
    clear hY1 hb1 hd1
    go_wp2_with fail
    refine (HN0.out w1).mono ?_
    rintro e w2 ⟨rfl, hw2⟩
    rw [hw2]
    clear hw2 w2
    go_wp2_with fail
    refine HSA.out.mono ?_
    rintro e w2 ⟨rfl, hb2⟩
    have HB2 : Hid (Below w.heap.size w w2) := show Below _ _ _ from HB1.out.trans (hb2.mono HB1.out.size)
    have HY2 : Hid (Boxed w2 w.heap.size 4 (.bool false)) := show Boxed _ _ _ _ from (hb2.block _ HY1.out.lt).trans HY1.out
    clear hb2
    go_wp2_with fail
    refine (HW4.out _ HB2.out).mono ?_
    rintro e w3 ⟨rfl, hb3⟩
    have hY3 : Boxed w3 w.heap.size 4 (.bool false) := (hb3.block _ HY2.out.lt).trans HY2.out
    have cr := hY3.cell
    have fr := hY3.frozen
    have HB3 : Hid (Below w.heap.size w w3) := show Below _ _ _ from HB2.out.trans (hb3.mono HB2.out.size)
    have HY3 := Lib.hid hY3
    clear hY3 hb3
    go_wp2_with fail
    refine bodyPost_ret (v := .bool true) (by simp [results, Tryd.results3, go_sem, (HY3.out.set (.bool true)).cell]) rfl ?_
    exact ⟨rfl, HB3.out.setCell (p := ⟨w.heap.size, 0, none⟩) (Nat.le_refl _) _⟩
  · have hf : fewA xs 40 = false := hc.resolve_left (by omega)
    rw [hf] at HFW
    clear hc hf
    go_enter Tryd.func3, Tryd.ntmps3
    go_wp2_with fail
    rw [HWE.out]
    refine HNB.out.mono ?_
    rintro e w1 ⟨B, rfl, hb1, hd1⟩
    have hY1 : Boxed w1 w.heap.size 4 (.bool false) := (hb1.block _ HY.out.lt).trans HY.out
    have HY1 := Lib.hid hY1
    have HB1 : Hid (Below w.heap.size w w1) := show Below _ _ _ from HB0.out.trans (hb1.mono HB0.out.size)
    have HSA := Lib.hid (state_in hd1)
    rw [show (Dv.new n).waits.length = 0 from rfl, show dirty (Dv.new n).seen (Dv.new n).stays n = 0 from dirty_same _ _] at HSA
    clear hY1 hb1 hd1
    go_wp2_with fail
    refine (HFW.out _ HB1.out).mono ?_
    rintro e w2 ⟨rfl, hw2⟩
    rw [hw2]
    clear hw2 w2
    go_wp2_with fail
    refine (HN0.out w1).mono ?_
    rintro e w2 ⟨rfl, hw2⟩
    rw [hw2]
    clear hw2 w2
    go_wp2_with fail
    refine HSA.out.mono ?_
    rintro e w2 ⟨rfl, hb2⟩
    have HB2 : Hid (Below w.heap.size w w2) := show Below _ _ _ from HB1.out.trans (hb2.mono HB1.out.size)
    have HY2 : Hid (Boxed w2 w.heap.size 4 (.bool false)) := show Boxed _ _ _ _ from (hb2.block _ HY1.out.lt).trans HY1.out
    clear hb2
    go_wp2_with fail
    refine (HW4.out _ HB2.out).mono ?_
    rintro e w3 ⟨rfl, hb3⟩
    have hY3 : Boxed w3 w.heap.size 4 (.bool false) := (hb3.block _ HY2.out.lt).trans HY2.out
    have cr := hY3.cell
    have fr := hY3.frozen
    have HB3 : Hid (Below w.heap.size w w3) := show Below _ _ _ from HB2.out.trans (hb3.mono HB2.out.size)
    have HY3 := Lib.hid hY3
    clear hY3 hb3
    go_wp2_with fail
    refine bodyPost_ret (v := .bool true) (by simp [results, Tryd.results3, go_sem, (HY3.out.set (.bool true)).cell]) rfl ?_
    exact ⟨rfl, HB3.out.setCell (p := ⟨w.heap.size, 0, none⟩) (Nat.le_refl _) _⟩
theorem plays4_any {v : Value} {xs : List Ask} (i : Int) (hi1 : -9223372036854775808 ≤ i) (hi2 : i ≤ 9223372036854775807) (w : World) (hen : Ends w) (hl : xs.length ≤ 9223372036854775807) (hx : ∀ y ∈ xs, -9223372036854775808 ≤ y.at_ ∧ y.at_ ≤ 9223372036854775807) (hs : SlA w (fun k => w.heap.size ≤ k) v xs) :
    Calls Tryd.prog 3 #[.int .i64 i, v] w fun e w' => e = .returned (.bool true) ∧ Below w.heap.size w w' := by
  by_cases hb : i < 1 ∨ 1024 < i
  · exact plays4_bad i hb w hen hs
  · obtain ⟨n, rfl⟩ := Int.eq_ofNat_of_zero_le (show 0 ≤ i by omega)
    by_cases hc : 12 < n ∨ fewA xs 40 = false
    · exact plays4_many n (by omega) (by omega) hc w hen hl hs
    · have h2 : fewA xs 40 = true := by
        cases h : fewA xs 40 with
        | true => rfl
        | false => exact absurd (.inr h) hc
      exact plays4_main n (by omega) (by omega) w hen hl hx hs h2
end Go.Proofs.YtkpiehejkhjhlaaDoor
