/-
  label: the walk of the law LabelNames.
-/
import Derived.Test.YtoaloeipgadkjaaLaS
namespace Go.Proofs.Ytoaloeipgadkjaa
open Go.RowKit Go.Shelf

theorem bucketN_lt (s : List UInt8) : bucketN s < 7 := Nat.mod_lt _ (by decide)
set_option maxRecDepth 100000 in
set_option maxHeartbeats 8000000 in
theorem names6_any (s : List UInt8) (w : World) : Calls Try.prog 3 #[encStr s] w fun e w' => e = .returned (.bool true) ∧ Below w.heap.size w w' := by
  have HW := Lib.hid works6_any
  have HN := Lib.hid num6_any
  by_cases k1 : (200 : Int) < (s.length : Int)
  · go_enter Try.func3, Try.ntmps3
    go_wp2_with fail
    refine (HW.out _).mono ?_
    rintro e w' ⟨rfl, hb⟩
    go_wp2_with fail
    go_ret
    exact ⟨rfl, hb⟩
  have HRR := Lib.hid (refRight6_any s)
  have HC := Lib.hid (laCheck_any s)
  have HBU := Lib.hid (laBucket_any s)
  cases hs : rightN s with
  | false =>
    have HS := Lib.hid (laWords_wrong s hs w)
    rw [hs] at HRR
    rw [show errN s = 160 by unfold errN; rw [hs]; rfl] at HC HBU
    rw [show bucketOut s = 0 by unfold bucketOut; rw [hs]; rfl] at HBU
    have hq5 : ∀ W, (binOp .eql 24 (.agg #[.int .u64 0, .int .u64 0, .int .u64 0, .int .u64 0, .int .u64 0]) (.agg #[.int .u64 0, .int .u64 0, .int .u64 0, .int .u64 0, .int .u64 0])).run Try.prog W = .ok (.bool true) W := fun W => by
      have h := eql5 [] [] W
      rw [same5_refl] at h
      exact h
    clear hs
    go_enter Try.func3, Try.ntmps3
    go_wp2_with fail
    refine HS.out.mono ?_
    rintro e w1 ⟨rfl, hb1⟩
    have b2 : Below w1.heap.size w1 (w1.alloc (.cells (arr5 []) 24)) := (Below.refl _ _).alloc (Nat.le_refl _) _
    have HB2 : Hid (Below w.heap.size w (w1.alloc (.cells (arr5 []) 24))) := show Below _ _ _ from hb1.trans (b2.mono hb1.size)
    have HX2 := Lib.hid (Box5.new w1 [])
    clear hb1 b2
    go_wp2_with fail
    refine (HBU.out _).mono ?_
    rintro e w3 ⟨rfl, hb3⟩
    have HB3 : Hid (Below w.heap.size w w3) := show Below _ _ _ from HB2.out.trans (hb3.mono HB2.out.size)
    have HX3 := Lib.hid (HX2.out.below hb3)
    clear hb3
    go_wp2_with fail
    refine (HRR.out _).mono ?_
    rintro e w4 ⟨rfl, rfl⟩
    go_wp2_with fail
    refine (HC.out _).mono ?_
    rintro e w5 ⟨rfl, hb5⟩
    have HB5 : Hid (Below w.heap.size w w5) := show Below _ _ _ from HB3.out.trans (hb5.mono HB3.out.size)
    have HX5 := Lib.hid (HX3.out.below hb5)
    clear hb5
    obtain ⟨c0, c1, c2, c3, c4⟩ := HX5.out.cells
    simp only [List.getElem?_nil, Option.getD_none] at c0 c1 c2 c3 c4
    go_wp2_with (go_at_call 13; refine (HN.out _ _).mono ?_; rintro e w' ⟨rfl, rfl⟩)
    refine (HW.out _).mono ?_
    rintro e w' ⟨rfl, hb⟩
    go_wp2_with fail
    go_ret
    exact ⟨rfl, HB5.out.trans (hb.mono HB5.out.size)⟩
  | true =>
    have h40 := ((rightN_iff s).1 hs).2.1
    have HS := Lib.hid (laWords_right s hs w)
    rw [hs] at HRR
    rw [show errN s = 0 by unfold errN; rw [hs]; rfl] at HC HBU
    rw [show bucketOut s = bucketN s by unfold bucketOut; rw [hs]; rfl] at HBU
    have HRD := Lib.hid (laRead_own s hs)
    have HRW := Lib.hid (refWords6_any s h40)
    have HRB := Lib.hid (refBucket_any s (by omega))
    have hq5 : ∀ W, (binOp .eql 24 (.agg (arr5 (wordsN s))) (.agg (arr5 (wordsN s)))).run Try.prog W = .ok (.bool true) W := fun W => by
      have h := eql5 (wordsN s) (wordsN s) W
      rw [same5_refl] at h
      exact h
    have hb7 := bucketN_lt s
    obtain ⟨b, hb⟩ : ∃ b, bucketN s = b := ⟨_, rfl⟩
    rw [hb] at hb7 HBU HRB
    obtain ⟨xs, hxs⟩ : ∃ xs, wordsN s = xs := ⟨_, rfl⟩
    rw [hxs] at HS HRD HRW hq5
    have k7 : (b : Int) < 7 := by omega
    have k0 : (0 : Int) ≤ (b : Int) := by omega
    clear hs hb hxs h40 hb7
    go_enter Try.func3, Try.ntmps3
    go_wp2_with fail
    refine HS.out.mono ?_
    rintro e w1 ⟨rfl, hb1⟩
    obtain ⟨W2, hW2⟩ : ∃ W2, w1.alloc (.cells (arr5 xs) 24) = W2 := ⟨_, rfl⟩
    have HB2 : Hid (Below w.heap.size w W2) := show Below _ _ _ by rw [← hW2]; exact hb1.alloc hb1.size _
    have HX2 : Hid (Box5 W2 w1.heap.size xs) := show Box5 _ _ _ by rw [← hW2]; exact Box5.new w1 xs
    have hwB : w.heap.size ≤ w1.heap.size := hb1.size
    clear hb1
    go_wp2_with fail
    clear hW2
    refine (HBU.out _).mono ?_
    rintro e w3 ⟨rfl, hb3⟩
    have HB3 : Hid (Below w.heap.size w w3) := show Below _ _ _ from HB2.out.trans (hb3.mono HB2.out.size)
    have HX3 := Lib.hid (HX2.out.below hb3)
    clear hb3
    go_wp2_with fail
    refine (HRR.out _).mono ?_
    rintro e w4 ⟨rfl, rfl⟩
    obtain ⟨c0, c1, c2, c3, c4⟩ := HX3.out.cells
    go_wp2_with fail
    refine (HRD.out _).mono ?_
    rintro e w5 ⟨rfl, hb5⟩
    have bk : Below w.heap.size w w5 := HB3.out.trans (hb5.mono HB3.out.size)
    have HX5 := Lib.hid (HX3.out.below hb5)
    clear hb5 c0 c1 c2 c3 c4
    obtain ⟨c0, c1, c2, c3, c4⟩ := HX5.out.cells
    have lk := HX5.out.lt
    obtain ⟨B, hB⟩ : ∃ B, w1.heap.size = B := ⟨_, rfl⟩
    rw [hB] at c0 c1 c2 c3 c4 lk hwB ⊢
    clear hB HX5 HX3 HX2
    go_wp2_with fail
    go_region_held3 (fun w' => w'.cell? ⟨B, 0, none⟩ = some (.int .u64 (xs[0]?.getD 0 : Nat)) ∧ w'.cell? ⟨B, 1, none⟩ = some (.int .u64 (xs[1]?.getD 0 : Nat)) ∧ w'.cell? ⟨B, 2, none⟩ = some (.int .u64 (xs[2]?.getD 0 : Nat)) ∧ w'.cell? ⟨B, 3, none⟩ = some (.int .u64 (xs[3]?.getD 0 : Nat)) ∧ w'.cell? ⟨B, 4, none⟩ = some (.int .u64 (xs[4]?.getD 0 : Nat)) ∧ B < w'.heap.size) (exact ⟨c0, c1, c2, c3, c4, lk⟩)
      (first | (go_at_call 13; refine (HN.out _ _).mono ?_; rintro e w' ⟨rfl, rfl⟩) | (go_at_call 14; refine (HC.out _).mono ?_; rintro e wA ⟨rfl, hbA⟩; have bk : Below w.heap.size w wA := (by repeat (first | exact Below.refl _ _ | assumption | refine Below.drew ?_ | refine below_drewN ?_ _ | refine Below.alloc ?_ (by (try simp) <;> omega) _ | refine Below.setCell ?_ (by (try simp) <;> omega) _ | refine Below.trans ?_ (Below.mono (by assumption) (by (try simp) <;> omega)))); have c0 := (hbA.cell (p := ⟨B, 0, none⟩) lk).trans c0; have c1 := (hbA.cell (p := ⟨B, 1, none⟩) lk).trans c1; have c2 := (hbA.cell (p := ⟨B, 2, none⟩) lk).trans c2; have c3 := (hbA.cell (p := ⟨B, 3, none⟩) lk).trans c3; have c4 := (hbA.cell (p := ⟨B, 4, none⟩) lk).trans c4; have lk : B < wA.heap.size := Nat.lt_of_lt_of_le lk hbA.size; clear hbA) | (go_at_call 16; refine (HRW.out _).mono ?_; rintro e wA ⟨rfl, hbA⟩; have bk : Below w.heap.size w wA := (by repeat (first | exact Below.refl _ _ | assumption | refine Below.drew ?_ | refine below_drewN ?_ _ | refine Below.alloc ?_ (by (try simp) <;> omega) _ | refine Below.setCell ?_ (by (try simp) <;> omega) _ | refine Below.trans ?_ (Below.mono (by assumption) (by (try simp) <;> omega)))); have c0 := (hbA.cell (p := ⟨B, 0, none⟩) lk).trans c0; have c1 := (hbA.cell (p := ⟨B, 1, none⟩) lk).trans c1; have c2 := (hbA.cell (p := ⟨B, 2, none⟩) lk).trans c2; have c3 := (hbA.cell (p := ⟨B, 3, none⟩) lk).trans c3; have c4 := (hbA.cell (p := ⟨B, 4, none⟩) lk).trans c4; have lk : B < wA.heap.size := Nat.lt_of_lt_of_le lk hbA.size; clear hbA) | (go_at_call 17; refine (HRB.out _).mono ?_; rintro e wA ⟨rfl, hbA⟩; have bk : Below w.heap.size w wA := (by repeat (first | exact Below.refl _ _ | assumption | refine Below.drew ?_ | refine below_drewN ?_ _ | refine Below.alloc ?_ (by (try simp) <;> omega) _ | refine Below.setCell ?_ (by (try simp) <;> omega) _ | refine Below.trans ?_ (Below.mono (by assumption) (by (try simp) <;> omega)))); have c0 := (hbA.cell (p := ⟨B, 0, none⟩) lk).trans c0; have c1 := (hbA.cell (p := ⟨B, 1, none⟩) lk).trans c1; have c2 := (hbA.cell (p := ⟨B, 2, none⟩) lk).trans c2; have c3 := (hbA.cell (p := ⟨B, 3, none⟩) lk).trans c3; have c4 := (hbA.cell (p := ⟨B, 4, none⟩) lk).trans c4; have lk : B < wA.heap.size := Nat.lt_of_lt_of_le lk hbA.size; clear hbA) | (go_at_call 9; refine (HW.out _).mono ?_; rintro e wA ⟨rfl, hbA⟩; have bk : Below w.heap.size w wA := (by repeat (first | exact Below.refl _ _ | assumption | refine Below.drew ?_ | refine below_drewN ?_ _ | refine Below.alloc ?_ (by (try simp) <;> omega) _ | refine Below.setCell ?_ (by (try simp) <;> omega) _ | refine Below.trans ?_ (Below.mono (by assumption) (by (try simp) <;> omega)))); have c0 := (hbA.cell (p := ⟨B, 0, none⟩) lk).trans c0; have c1 := (hbA.cell (p := ⟨B, 1, none⟩) lk).trans c1; have c2 := (hbA.cell (p := ⟨B, 2, none⟩) lk).trans c2; have c3 := (hbA.cell (p := ⟨B, 3, none⟩) lk).trans c3; have c4 := (hbA.cell (p := ⟨B, 4, none⟩) lk).trans c4; have lk : B < wA.heap.size := Nat.lt_of_lt_of_le lk hbA.size; clear hbA))
    all_goals
      go_wp2_with fail
      go_ret
      exact ⟨rfl, bk⟩
end Go.Proofs.Ytoaloeipgadkjaa
