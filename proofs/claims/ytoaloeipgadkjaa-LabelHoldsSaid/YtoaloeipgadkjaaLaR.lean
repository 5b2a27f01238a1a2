/-
  label: the law's rows of the chapter.
-/
import Derived.Test.YtoaloeipgadkjaaLaQ
namespace Go.Proofs.Ytoaloeipgadkjaa
open Go.RowKit Go.Shelf

theorem num6_any (n : Int) (w : World) : Calls Try.prog 13 #[.int .i64 n] w fun e w' => e = .returned (.int .i64 n) ∧ w = w' := by
  go_enter Try.func13, Try.ntmps13
  go_wp2
  go_ret
  exact ⟨rfl, rfl⟩
/-- Five words, of which some may be noughts. -/
def pad5 (l : List Nat) : List Nat := (List.range 5).map fun i => l[i]?.getD 0
theorem pad5_length (l : List Nat) : (pad5 l).length = 5 := rfl
theorem pad5_at (l : List Nat) (i : Nat) (h : i < 5) : (pad5 l)[i]?.getD 0 = l[i]?.getD 0 := by simp [pad5, h]
theorem arr5_pad (l : List Nat) : arr5 (pad5 l) = arr5 l := by
  unfold arr5
  rw [pad5_at l 0 (by omega), pad5_at l 1 (by omega), pad5_at l 2 (by omega), pad5_at l 3 (by omega), pad5_at l 4 (by omega)]
theorem wordsN_64 (s : List UInt8) : Words64 (wordsN s) := fun i => by
  have := WM.wordsOf_at (bsN s) i
  unfold WM.at' at this
  rw [show wordsN s = WM.wordsOf (bsN s) from rfl, this]
  split
  · exact WM.wordAt_lt _ _
  · exact (by decide : 0 < 18446744073709551616)
theorem pad5_64 (l : List Nat) (h : Words64 l) : Words64 (pad5 l) := fun i => by
  by_cases hi : i < 5
  · rw [pad5_at l i hi]; exact h i
  · rw [List.getElem?_eq_none (by rw [pad5_length]; omega)]; exact (by decide : 0 < 18446744073709551616)
theorem same5_pad (l m : List Nat) : same5 l (pad5 m) = same5 l m := by
  unfold same5
  rw [Bool.eq_iff_iff, decide_eq_true_iff, decide_eq_true_iff]
  exact ⟨fun h i hi => (h i hi).trans (pad5_at m i hi), fun h i hi => (h i hi).trans (pad5_at m i hi).symm⟩
theorem ab_words : wordsOut [97, 98] = [25185] := by decide +kernel
theorem ab_read2 : isRead (pad5 [25185]) 2 = true ∧ readN (pad5 [25185]) 2 = [97, 98] := by decide +kernel
theorem ab_read1 : isRead (pad5 [25185]) 1 = false := by decide +kernel
theorem bab_sort : sortU [[98], [97], [98]] = [[97], [98]] :=
  rising_ext (sortU_rising _) (by unfold Rising; simp; decide) fun x => by
    rw [mem_sortU]
    simp only [List.mem_cons, List.not_mem_nil, or_false]
    exact ⟨fun h => h.elim .inr fun h => h.elim .inl .inr, fun h => h.elim (fun h => .inr (.inl h)) .inl⟩
set_option maxRecDepth 100000 in
set_option maxHeartbeats 4000000 in
theorem works6_any (w : World) : Calls Try.prog 9 #[] w fun e w' => e = .returned (.bool true) ∧ Below w.heap.size w w' := by
  have H1 := Lib.hid (laWords_any [97, 98])
  rw [ab_words, show errN [97, 98] = 0 by decide +kernel] at H1
  have H2 := Lib.hid (laRead_any (pad5 [25185]) rfl (pad5_64 _ (by rw [← ab_words]; exact wordsN_64 _)) 2)
  rw [ab_read2.1, ab_read2.2] at H2
  have H3 := Lib.hid (laRead_any (pad5 [25185]) rfl (pad5_64 _ (by rw [← ab_words]; exact wordsN_64 _)) 1)
  rw [ab_read1] at H3
  have HN := Lib.hid num6_any
  have R2 : Hid (∀ W, Calls Try.prog 15 #[.agg #[.int .u64 25185, .int .u64 0, .int .u64 0, .int .u64 0, .int .u64 0], .int .i64 2] W fun e w' => e = .returned (.tuple #[encStr [97, 98], .int .i64 0]) ∧ Below W.heap.size W w') := show ∀ W, _ from H2.out
  have R3 : Hid (∀ W, Calls Try.prog 15 #[.agg #[.int .u64 25185, .int .u64 0, .int .u64 0, .int .u64 0, .int .u64 0], .int .i64 1] W fun e w' => e = .returned (.tuple #[encStr [], .int .i64 161]) ∧ Below W.heap.size W w') := show ∀ W, _ from H3.out
  have HS := Lib.hid (fun (W : World) (v : Value) (h : TxS W v [[98], [97], [98]]) => laSorted_any v [[98], [97], [98]] (by simp) W h)
  rw [bab_sort, show ([[98], [97], [98]] : List (List UInt8)).all rightN = true by decide +kernel] at HS
  have HT := Lib.hid (fun (W : World) (v u : Value) (h1 : TxS W v [[97], [98]]) (h2 : TxS W u [[97], [98]]) => refTexts_any v u [[97], [98]] [[97], [98]] (by simp) (by simp) W h1 h2)
  have hq5 : ∀ W, (binOp .eql 24 (.agg #[.int .u64 25185, .int .u64 0, .int .u64 0, .int .u64 0, .int .u64 0]) (.agg #[.int .u64 25185, .int .u64 0, .int .u64 0, .int .u64 0, .int .u64 0])).run Try.prog W = .ok (.bool true) W := fun W => by
    have h := eql5 [25185] [25185] W
    rw [show same5 [25185] [25185] = true by decide] at h
    exact h
  have C1 := Lib.hid (laCheck_any [97, 47, 98])
  have C2 := Lib.hid (laCheck_any [46, 46])
  have C3 := Lib.hid (laCheck_any [97, 98, 99, 100, 101, 102, 103, 104, 105, 106, 107, 108, 109, 110, 111, 112, 113, 114, 115, 116, 117, 118, 119, 120, 121, 122, 97, 98, 99, 100, 101, 102, 103, 104, 105, 106, 107, 108, 109, 110, 111])
  have C4 := Lib.hid (laCheck_any [])
  rw [show errN [97, 47, 98] = 160 by decide +kernel] at C1
  rw [show errN [46, 46] = 160 by decide +kernel] at C2
  rw [show errN [97, 98, 99, 100, 101, 102, 103, 104, 105, 106, 107, 108, 109, 110, 111, 112, 113, 114, 115, 116, 117, 118, 119, 120, 121, 122, 97, 98, 99, 100, 101, 102, 103, 104, 105, 106, 107, 108, 109, 110, 111] = 160 by decide +kernel] at C3
  rw [show errN [] = 160 by decide +kernel] at C4
  clear H2 H3
  go_enter Try.func9, Try.ntmps9
  go_wp2_with fail
  refine (H1.out w).mono ?_
  rintro e w1 ⟨rfl, hb1⟩
  obtain ⟨W2, hW2⟩ : ∃ W2, w1.alloc (.cells #[.int .u64 25185, .int .u64 0, .int .u64 0, .int .u64 0, .int .u64 0] 24) = W2 := ⟨_, rfl⟩
  have HB2 : Hid (Below w.heap.size w W2) := show Below _ _ _ by rw [← hW2]; exact hb1.alloc hb1.size _
  have HX2 : Hid (Box5 W2 w1.heap.size [25185]) := show Box5 _ _ _ by rw [← hW2]; exact Box5.new w1 [25185]
  have HW2 := Lib.hid hW2
  clear hW2 hb1
  go_wp2_with fail
  rw [HW2.out]
  refine (R2.out W2).mono ?_
  rintro e w3 ⟨rfl, hb3⟩
  have HB3 : Hid (Below w.heap.size w w3) := show Below _ _ _ from HB2.out.trans (hb3.mono HB2.out.size)
  have HX3 := Lib.hid (HX2.out.below hb3)
  clear hb3
  obtain ⟨c0, c1, c2, c3, c4⟩ := HX3.out.cells
  simp only [List.getElem?_cons_zero, List.getElem?_cons_succ, List.getElem?_nil, Option.getD_some, Option.getD_none] at c0 c1 c2 c3 c4
  go_wp2_with fail
  refine (R3.out w3).mono ?_
  rintro e w4 ⟨rfl, hb4⟩
  have HB4 : Hid (Below w.heap.size w w4) := show Below _ _ _ from HB3.out.trans (hb4.mono HB3.out.size)
  have HX4 := Lib.hid (HX3.out.below hb4)
  clear hb4 c0 c1 c2 c3 c4
  have b5 : Below w4.heap.size w4 (w4.alloc (.cells #[encStr [98], encStr [97], encStr [98]] 9)) := (Below.refl _ _).alloc (Nat.le_refl _) _
  have hs5 := HS.out _ _ (vec_newL w4 #[encStr [98], encStr [97], encStr [98]] 9 3 1 rfl)
  have HS5 := Lib.hid hs5
  have HB5 : Hid (Below w.heap.size w (w4.alloc (.cells #[encStr [98], encStr [97], encStr [98]] 9))) := show Below _ _ _ from HB4.out.trans (b5.mono HB4.out.size)
  have HX5 := Lib.hid (HX4.out.below b5)
  clear b5 hs5
  go_wp2_with fail
  refine HS5.out.mono ?_
  rintro e w6 ⟨h, -, hb6⟩
  obtain ⟨u, rfl, hu⟩ := h trivial
  have HB6 : Hid (Below w.heap.size w w6) := show Below _ _ _ from HB5.out.trans (hb6.mono HB5.out.size)
  have HX6 := Lib.hid (HX5.out.below hb6)
  have HU6 : Hid (TxS w6 u [[97], [98]]) := show Vec _ _ _ _ _ from vec_of_own hu
  clear h hu hb6
  obtain ⟨c0, c1, c2, c3, c4⟩ := HX6.out.cells
  simp only [List.getElem?_cons_zero, List.getElem?_cons_succ, List.getElem?_nil, Option.getD_some, Option.getD_none] at c0 c1 c2 c3 c4
  go_wp2_with (go_at_call 13; refine (HN.out _ _).mono ?_; rintro e w' ⟨rfl, rfl⟩)
  refine (C1.out w6).mono ?_
  rintro e w7 ⟨rfl, hb7⟩
  have HB7 : Hid (Below w.heap.size w w7) := show Below _ _ _ from HB6.out.trans (hb7.mono HB6.out.size)
  have HU7 : Hid (TxS w7 u [[97], [98]]) := show Vec _ _ _ _ _ from Vec.below HU6.out hb7
  clear hb7 c0 c1 c2 c3 c4
  go_wp2_with (go_at_call 13; refine (HN.out _ _).mono ?_; rintro e w' ⟨rfl, rfl⟩)
  refine (C2.out w7).mono ?_
  rintro e w8 ⟨rfl, hb8⟩
  have HB8 : Hid (Below w.heap.size w w8) := show Below _ _ _ from HB7.out.trans (hb8.mono HB7.out.size)
  have HU8 : Hid (TxS w8 u [[97], [98]]) := show Vec _ _ _ _ _ from Vec.below HU7.out hb8
  clear hb8
  have b9 : Below w8.heap.size w8 (w8.alloc (.cells #[encStr [97], encStr [98]] 9)) := (Below.refl _ _).alloc (Nat.le_refl _) _
  have ht9 := HT.out _ _ _ (Vec.below HU8.out b9) (vec_newL w8 #[encStr [97], encStr [98]] 9 2 1 rfl)
  have HT9 := Lib.hid ht9
  have HB9 : Hid (Below w.heap.size w (w8.alloc (.cells #[encStr [97], encStr [98]] 9))) := show Below _ _ _ from HB8.out.trans (b9.mono HB8.out.size)
  clear b9 ht9
  go_wp2_with (go_at_call 13; refine (HN.out _ _).mono ?_; rintro e w' ⟨rfl, rfl⟩)
  refine HT9.out.mono ?_
  rintro e w10 ⟨rfl, hb10⟩
  have HB10 : Hid (Below w.heap.size w w10) := show Below _ _ _ from HB9.out.trans (hb10.mono HB9.out.size)
  clear hb10
  go_wp2_with (go_at_call 13; refine (HN.out _ _).mono ?_; rintro e w' ⟨rfl, rfl⟩)
  refine (C3.out w10).mono ?_
  rintro e w11 ⟨rfl, hb11⟩
  have HB11 : Hid (Below w.heap.size w w11) := show Below _ _ _ from HB10.out.trans (hb11.mono HB10.out.size)
  clear hb11
  go_wp2_with (go_at_call 13; refine (HN.out _ _).mono ?_; rintro e w' ⟨rfl, rfl⟩)
  refine (C4.out w11).mono ?_
  rintro e w12 ⟨rfl, hb12⟩
  have HB12 : Hid (Below w.heap.size w w12) := show Below _ _ _ from HB11.out.trans (hb12.mono HB11.out.size)
  clear hb12
  go_wp2_with (go_at_call 13; refine (HN.out _ _).mono ?_; rintro e w' ⟨rfl, rfl⟩)
  go_ret
  exact ⟨rfl, HB12.out⟩
end Go.Proofs.Ytoaloeipgadkjaa
