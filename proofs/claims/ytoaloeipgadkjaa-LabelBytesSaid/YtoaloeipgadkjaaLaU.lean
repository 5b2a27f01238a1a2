/-
  label: the walk of the law LabelReads.
-/
import Derived.Test.YtoaloeipgadkjaaLaS
namespace Go.Proofs.Ytoaloeipgadkjaa
open Go.RowKit Go.Shelf

theorem refRead_any (l : List Nat) (hl : l.length = 5) (h64 : Words64 l) (many : Int) (hm : -9223372036854775808 ≤ many) (w : World) :
    Calls Try.prog 18 #[.agg (arr5 l), .int .i64 many] w fun e w' => e = .returned (.tuple #[encStr (if isRead l many then readN l many else []), .bool (isRead l many)]) ∧ Below w.heap.size w w' := by
  by_cases h1 : many < 1
  · rw [isRead_small l many h1]
    clear h64 hl
    go_enter Try.func18, Try.ntmps18
    go_wp2_with fail
    go_ret2
    exact ⟨rfl, (Below.refl _ _).alloc (Nat.le_refl _) _⟩
  by_cases h2 : 40 < many
  · rw [isRead_big l hl many h2]
    clear h64 hl
    go_enter Try.func18, Try.ntmps18
    go_wp2_with fail
    go_ret2
    exact ⟨rfl, (Below.refl _ _).alloc (Nat.le_refl _) _⟩
  obtain ⟨m, rfl⟩ := Int.eq_ofNat_of_zero_le (show 0 ≤ many by omega)
  exact refRead_mid l hl h64 m (by omega) (by omega) w
theorem pad5_of (l : List Nat) (h : l.length = 5) : pad5 l = l := by
  refine WM.list_ext _ _ (by rw [pad5_length, h]) fun i hi => ?_
  rw [pad5_length] at hi
  exact pad5_at l i hi
theorem reads_same (s : List UInt8) (l : List Nat) (hl : l.length = 5) (many : Int) : sameOut s l many = (isRead l many && (readN l many == s)) := by
  have key : sameOut s l many = true → readN l many = s := fun h => by
    unfold sameOut at h
    simp only [Bool.and_eq_true, beq_iff_eq] at h
    obtain ⟨⟨h1, rfl⟩, h3⟩ := h
    have e := (pad5_iff _ _).1 h3
    rw [pad5_of l hl] at e
    rw [← e]
    exact read_words s ((rightN_iff s).1 h1).2.1
  rw [Bool.eq_iff_iff, Bool.and_eq_true, beq_iff_eq]
  constructor
  · intro h
    have e := key h
    refine ⟨?_, e⟩
    unfold isRead
    rw [e]; exact h
  · rintro ⟨h, rfl⟩
    exact h
set_option maxRecDepth 100000 in
set_option maxHeartbeats 4000000 in
theorem reads6_any (l : List Nat) (hl : l.length = 5) (h64 : Words64 l) (many : Int) (hm : -9223372036854775808 ≤ many) (s : List UInt8) (w : World) :
    Calls Try.prog 4 #[.agg (arr5 l), .int .i64 many, encStr s] w fun e w' => e = .returned (.bool true) ∧ Below w.heap.size w w' := by
  have HW := Lib.hid works6_any
  have HN := Lib.hid num6_any
  obtain ⟨W1, hW1⟩ : ∃ W1, w.alloc (.cells (arr5 l) 24) = W1 := ⟨_, rfl⟩
  have HB1 : Hid (Below w.heap.size w W1) := show Below _ _ _ by rw [← hW1]; exact (by repeat (first | exact Below.refl _ _ | assumption | refine Below.drew ?_ | refine below_drewN ?_ _ | refine Below.alloc ?_ (by (try simp) <;> omega) _ | refine Below.setCell ?_ (by (try simp) <;> omega) _ | refine Below.trans ?_ (Below.mono (by assumption) (by (try simp) <;> omega))))
  have HX1 : Hid (Box5 W1 w.heap.size l) := show Box5 _ _ _ by rw [← hW1]; exact Box5.new w l
  have HRD := Lib.hid (laRead_any l hl h64 many)
  have HRR := Lib.hid (refRead_any l hl h64 many hm)
  have HSM := Lib.hid (laSame_any s l many)
  rw [reads_same s l hl many] at HSM
  obtain ⟨ir, hir⟩ : ∃ ir, isRead l many = ir := ⟨_, rfl⟩
  obtain ⟨t, ht⟩ : ∃ t, readN l many = t := ⟨_, rfl⟩
  rw [hir, ht] at HRD HRR HSM
  clear hir ht hl h64
  by_cases k1 : (200 : Int) < (s.length : Int)
  · go_enter Try.func4, Try.ntmps4
    go_wp2_with fail
    refine (HW.out _).mono ?_
    rintro e w' ⟨rfl, hb⟩
    go_wp2_with fail
    go_ret
    exact ⟨rfl, HB1.out.trans (hb.mono HB1.out.size)⟩
  cases ir with
  | false =>
    obtain ⟨c0, c1, c2, c3, c4⟩ := HX1.out.cells
    go_enter Try.func4, Try.ntmps4
    go_wp2_with fail
    refine (HRD.out W1).mono ?_
    rintro e w2 ⟨rfl, hb2⟩
    have HB2 : Hid (Below w.heap.size w w2) := show Below _ _ _ from HB1.out.trans (hb2.mono HB1.out.size)
    have HX2 := Lib.hid (HX1.out.below hb2)
    clear hW1 hb2 c0 c1 c2 c3 c4
    obtain ⟨c0, c1, c2, c3, c4⟩ := HX2.out.cells
    go_wp2_with fail
    refine (HRR.out w2).mono ?_
    rintro e w3 ⟨rfl, hb3⟩
    have HB3 : Hid (Below w.heap.size w w3) := show Below _ _ _ from HB2.out.trans (hb3.mono HB2.out.size)
    have HX3 := Lib.hid (HX2.out.below hb3)
    clear hb3 c0 c1 c2 c3 c4
    obtain ⟨c0, c1, c2, c3, c4⟩ := HX3.out.cells
    go_wp2_with fail
    refine (HSM.out w3).mono ?_
    rintro e w4 ⟨rfl, hb4⟩
    have HB4 : Hid (Below w.heap.size w w4) := show Below _ _ _ from HB3.out.trans (hb4.mono HB3.out.size)
    clear hb4 c0 c1 c2 c3 c4
    go_wp2_with (go_at_call 13; refine (HN.out _ _).mono ?_; rintro e w' ⟨rfl, rfl⟩)
    refine (HW.out _).mono ?_
    rintro e w' ⟨rfl, hb⟩
    go_wp2_with fail
    go_ret
    exact ⟨rfl, HB4.out.trans (hb.mono HB4.out.size)⟩
  | true =>
    obtain ⟨st, hst⟩ : ∃ st, (t == s) = st := ⟨_, rfl⟩
    rw [hst] at HSM
    cases st with
    | false =>
      obtain ⟨c0, c1, c2, c3, c4⟩ := HX1.out.cells
      go_enter Try.func4, Try.ntmps4
      go_wp2_with fail
      refine (HRD.out W1).mono ?_
      rintro e w2 ⟨rfl, hb2⟩
      have HB2 : Hid (Below w.heap.size w w2) := show Below _ _ _ from HB1.out.trans (hb2.mono HB1.out.size)
      have HX2 := Lib.hid (HX1.out.below hb2)
      clear hW1 hb2 c0 c1 c2 c3 c4
      obtain ⟨c0, c1, c2, c3, c4⟩ := HX2.out.cells
      go_wp2_with fail
      refine (HRR.out w2).mono ?_
      rintro e w3 ⟨rfl, hb3⟩
      have HB3 : Hid (Below w.heap.size w w3) := show Below _ _ _ from HB2.out.trans (hb3.mono HB2.out.size)
      have HX3 := Lib.hid (HX2.out.below hb3)
      clear hb3 c0 c1 c2 c3 c4
      obtain ⟨c0, c1, c2, c3, c4⟩ := HX3.out.cells
      go_wp2_with fail
      refine (HSM.out w3).mono ?_
      rintro e w4 ⟨rfl, hb4⟩
      have HB4 : Hid (Below w.heap.size w w4) := show Below _ _ _ from HB3.out.trans (hb4.mono HB3.out.size)
      clear hb4 c0 c1 c2 c3 c4
      go_wp2_with (go_at_call 13; refine (HN.out _ _).mono ?_; rintro e w' ⟨rfl, rfl⟩)
      refine (HW.out _).mono ?_
      rintro e w' ⟨rfl, hb⟩
      go_wp2_with fail
      go_ret
      exact ⟨rfl, HB4.out.trans (hb.mono HB4.out.size)⟩
    | true =>
      obtain ⟨c0, c1, c2, c3, c4⟩ := HX1.out.cells
      go_enter Try.func4, Try.ntmps4
      go_wp2_with fail
      refine (HRD.out W1).mono ?_
      rintro e w2 ⟨rfl, hb2⟩
      have HB2 : Hid (Below w.heap.size w w2) := show Below _ _ _ from HB1.out.trans (hb2.mono HB1.out.size)
      have HX2 := Lib.hid (HX1.out.below hb2)
      clear hW1 hb2 c0 c1 c2 c3 c4
      obtain ⟨c0, c1, c2, c3, c4⟩ := HX2.out.cells
      go_wp2_with fail
      refine (HRR.out w2).mono ?_
      rintro e w3 ⟨rfl, hb3⟩
      have HB3 : Hid (Below w.heap.size w w3) := show Below _ _ _ from HB2.out.trans (hb3.mono HB2.out.size)
      have HX3 := Lib.hid (HX2.out.below hb3)
      clear hb3 c0 c1 c2 c3 c4
      obtain ⟨c0, c1, c2, c3, c4⟩ := HX3.out.cells
      go_wp2_with fail
      refine (HSM.out w3).mono ?_
      rintro e w4 ⟨rfl, hb4⟩
      have HB4 : Hid (Below w.heap.size w w4) := show Below _ _ _ from HB3.out.trans (hb4.mono HB3.out.size)
      clear hb4 c0 c1 c2 c3 c4
      go_wp2_with (go_at_call 13; refine (HN.out _ _).mono ?_; rintro e w' ⟨rfl, rfl⟩)
      refine (HW.out _).mono ?_
      rintro e w' ⟨rfl, hb⟩
      go_wp2_with fail
      go_ret
      exact ⟨rfl, HB4.out.trans (hb.mono HB4.out.size)⟩
end Go.Proofs.Ytoaloeipgadkjaa
