/-
  label: what follows of names' words; plain.
-/
import Derived.Test.YtoaloeipgadkjaaLaR
namespace Go.Proofs.Ytoaloeipgadkjaa
open Go.RowKit Go.Shelf

theorem pad5_iff (l m : List Nat) : same5 l m = true ↔ pad5 l = pad5 m := by
  unfold same5
  rw [decide_eq_true_iff]
  constructor
  · intro h
    unfold pad5
    exact List.map_congr_left fun i hi => h i (List.mem_range.1 hi)
  · intro h i hi
    rw [← pad5_at l i hi, h, pad5_at m i hi]
theorem same5_refl (l : List Nat) : same5 l l = true := (pad5_iff l l).2 rfl
theorem byteAt_pad (l : List Nat) (i : Nat) (h : i < 40) : WM.byteAt (pad5 l) i = WM.byteAt l i := by
  unfold WM.byteAt WM.at'
  rw [pad5_at l (i / 8) (by omega)]
theorem read_words (s : List UInt8) (h : s.length ≤ 40) : readN (pad5 (wordsN s)) (s.length : Int) = s := by
  apply bsN_inj
  unfold readN
  rw [take_bsN, txtN_bs, Int.toNat_natCast]
  refine WM.list_ext _ _ ?_ fun i hi => ?_
  · rw [List.length_take, WM.bytesOf_length, pad5_length, bsN_length]; omega
  · rw [List.length_take, WM.bytesOf_length, pad5_length] at hi
    rw [WM.at_take _ _ _ (by omega), WM.bytesOf_at _ _ (by rw [pad5_length]; omega), byteAt_pad _ _ (by omega)]
    exact WM.byte_word (bsN s) (bsN_256 s) i
theorem words_inj {s t : List UInt8} (hs : s.length ≤ 40) (hl : s.length = t.length) (h : same5 (wordsN s) (wordsN t) = true) : s = t := by
  rw [← read_words s hs, ← read_words t (by omega), (pad5_iff _ _).1 h, hl]
theorem names_same (s t : List UInt8) (hs : s.length ≤ 40) (_ : t.length ≤ 40) : (same5 (wordsN s) (wordsN t) && ((s.length : Int) == (t.length : Int))) = (s == t) := by
  rw [Bool.eq_iff_iff]
  simp only [Bool.and_eq_true, beq_iff_eq]
  constructor
  · exact fun ⟨h1, h2⟩ => words_inj hs (by omega) h1
  · rintro rfl
    exact ⟨same5_refl _, rfl⟩
theorem same_own (s : List UInt8) (h : rightN s = true) : sameOut s (wordsN s) (s.length : Int) = true := by
  unfold sameOut
  rw [h, same5_refl]
  simp
theorem same_other (s t : List UInt8) (hs : rightN s = true) (ht : rightN t = true) : sameOut t (wordsN s) (s.length : Int) = (s == t) := by
  unfold sameOut
  rw [ht, same5_comm]
  have := names_same s t ((rightN_iff s).1 hs).2.1 ((rightN_iff t).1 ht).2.1
  rw [← this]
  cases same5 (wordsN s) (wordsN t) <;> simp
theorem isRead_own (s : List UInt8) (h : rightN s = true) : isRead (pad5 (wordsN s)) (s.length : Int) = true := by
  unfold isRead
  rw [read_words s ((rightN_iff s).1 h).2.1]
  have h2 := same_own s h
  unfold sameOut at h2 ⊢
  rwa [same5_pad]
theorem laRead_own (s : List UInt8) (h : rightN s = true) (w : World) :
    Calls Try.prog 15 #[.agg (arr5 (wordsN s)), .int .i64 (s.length : Nat)] w fun e w' => e = .returned (.tuple #[encStr s, .int .i64 0]) ∧ Below w.heap.size w w' := by
  have hr := laRead_any (pad5 (wordsN s)) rfl (pad5_64 _ (wordsN_64 s)) (s.length : Int) w
  rw [isRead_own s h, read_words s ((rightN_iff s).1 h).2.1, arr5_pad] at hr
  exact hr
theorem laWords_right (s : List UInt8) (h : rightN s = true) (w : World) :
    Calls Try.prog 10 #[encStr s] w fun e w' => e = .returned (.tuple #[.agg (arr5 (wordsN s)), .int .i64 0]) ∧ Below w.heap.size w w' := by
  have hw := laWords_any s w
  unfold wordsOut errN at hw
  rw [h] at hw
  exact hw
theorem laWords_wrong (s : List UInt8) (h : rightN s = false) (w : World) :
    Calls Try.prog 10 #[encStr s] w fun e w' => e = .returned (.tuple #[.agg (arr5 []), .int .i64 160]) ∧ Below w.heap.size w w' := by
  have hw := laWords_any s w
  unfold wordsOut errN at hw
  rw [h] at hw
  exact hw
set_option maxRecDepth 100000 in
set_option maxHeartbeats 4000000 in
theorem holds6_any (s t : List UInt8) (w : World) : Calls Try.prog 6 #[encStr s, encStr t] w fun e w' => e = .returned (.bool true) ∧ Below w.heap.size w w' := by
  have HW := Lib.hid works6_any
  have HN := Lib.hid num6_any
  by_cases k1 : (60 : Int) < (s.length : Int)
  · go_enter Try.func6, Try.ntmps6
    go_wp2_with fail
    refine (HW.out _).mono ?_
    rintro e w' ⟨rfl, hb⟩
    go_wp2_with fail
    go_ret
    exact ⟨rfl, hb⟩
  by_cases k2 : (60 : Int) < (t.length : Int)
  · go_enter Try.func6, Try.ntmps6
    go_wp2_with fail
    refine (HW.out _).mono ?_
    rintro e w' ⟨rfl, hb⟩
    go_wp2_with fail
    go_ret
    exact ⟨rfl, hb⟩
  cases hs : rightN s with
  | false =>
    have HS := Lib.hid (laWords_wrong s hs w)
    have HT := Lib.hid (laWords_any t)
    clear hs
    generalize wordsOut t = wt at *
    generalize errN t = et at *
    go_enter Try.func6, Try.ntmps6
    go_wp2_with fail
    refine HS.out.mono ?_
    rintro e w1 ⟨rfl, hb1⟩
    have HB1 : Hid (Below w.heap.size w (w1.alloc (.cells (arr5 []) 24))) := show Below _ _ _ from hb1.alloc hb1.size _
    clear hb1
    go_wp2_with fail
    refine (HT.out _).mono ?_
    rintro e w2 ⟨rfl, hb2⟩
    have HB2 : Hid (Below w.heap.size w (w2.alloc (.cells (arr5 wt) 24))) := show Below _ _ _ from (HB1.out.trans (hb2.mono HB1.out.size)).alloc (Nat.le_trans HB1.out.size hb2.size) _
    clear hb2
    go_wp2_with (go_at_call 13; refine (HN.out _ _).mono ?_; rintro e w' ⟨rfl, rfl⟩)
    refine (HW.out _).mono ?_
    rintro e w' ⟨rfl, hb⟩
    go_wp2_with fail
    go_ret
    exact ⟨rfl, HB2.out.trans (hb.mono HB2.out.size)⟩
  | true =>
    cases ht : rightN t with
    | false =>
      have HS := Lib.hid (laWords_right s hs w)
      have HT := Lib.hid (laWords_wrong t ht)
      clear hs ht
      generalize wordsN s = ws at *
      go_enter Try.func6, Try.ntmps6
      go_wp2_with fail
      refine HS.out.mono ?_
      rintro e w1 ⟨rfl, hb1⟩
      have HB1 : Hid (Below w.heap.size w (w1.alloc (.cells (arr5 ws) 24))) := show Below _ _ _ from hb1.alloc hb1.size _
      clear hb1
      go_wp2_with fail
      refine (HT.out _).mono ?_
      rintro e w2 ⟨rfl, hb2⟩
      have HB2 : Hid (Below w.heap.size w (w2.alloc (.cells (arr5 []) 24))) := show Below _ _ _ from (HB1.out.trans (hb2.mono HB1.out.size)).alloc (Nat.le_trans HB1.out.size hb2.size) _
      clear hb2
      go_wp2_with (go_at_call 13; refine (HN.out _ _).mono ?_; rintro e w' ⟨rfl, rfl⟩)
      refine (HW.out _).mono ?_
      rintro e w' ⟨rfl, hb⟩
      go_wp2_with fail
      go_ret
      exact ⟨rfl, HB2.out.trans (hb.mono HB2.out.size)⟩
    | true =>
      have HS := Lib.hid (laWords_right s hs w)
      have HT := Lib.hid (laWords_right t ht)
      have HRD := Lib.hid (laRead_own s hs)
      have HSA := Lib.hid (laSame_any s (wordsN s) (s.length : Int))
      have HSB := Lib.hid (laSame_any t (wordsN s) (s.length : Int))
      rw [same_own s hs] at HSA
      rw [same_other s t hs ht] at HSB
      have hqs := names_same s t ((rightN_iff s).1 hs).2.1 ((rightN_iff t).1 ht).2.1
      have hq5 := fun W => eql5 (wordsN s) (wordsN t) W
      obtain ⟨q, hq⟩ : ∃ q, same5 (wordsN s) (wordsN t) = q := ⟨_, rfl⟩
      obtain ⟨st, hst⟩ : ∃ st, (s == t) = st := ⟨_, rfl⟩
      obtain ⟨xs, hxs⟩ : ∃ xs, wordsN s = xs := ⟨_, rfl⟩
      obtain ⟨ys, hys⟩ : ∃ ys, wordsN t = ys := ⟨_, rfl⟩
      rw [hq] at hqs hq5
      rw [hst] at hqs HSB
      rw [hxs] at HS HRD HSA HSB hq5
      rw [hys] at HT hq5
      clear hs ht hxs hys hq
      cases q with
      | false =>
        obtain rfl : st = false := by simpa using hqs.symm
        clear hqs
        go_enter Try.func6, Try.ntmps6
        go_wp2_with fail
        refine HS.out.mono ?_
        rintro e w1 ⟨rfl, hb1⟩
        have HB1 : Hid (Below w.heap.size w (w1.alloc (.cells (arr5 xs) 24))) := show Below _ _ _ from hb1.alloc hb1.size _
        have HX1 := Lib.hid (Box5.new w1 xs)
        clear hb1
        go_wp2_with fail
        refine (HT.out _).mono ?_
        rintro e w2 ⟨rfl, hb2⟩
        have b3 : Below w2.heap.size w2 (w2.alloc (.cells (arr5 ys) 24)) := (Below.refl _ _).alloc (Nat.le_refl _) _
        obtain ⟨W3, hW3⟩ : ∃ W3, w2.alloc (.cells (arr5 ys) 24) = W3 := ⟨_, rfl⟩
        have HY3 : Hid (Box5 W3 w2.heap.size ys) := show Box5 _ _ _ by rw [← hW3]; exact Box5.new w2 ys
        rw [hW3] at b3
        have HX3 := Lib.hid ((HX1.out.below hb2).below b3)
        have HB3 : Hid (Below w.heap.size w W3) := show Below _ _ _ from (HB1.out.trans (hb2.mono HB1.out.size)).trans (b3.mono (Nat.le_trans HB1.out.size hb2.size))
        clear hb2 b3
        obtain ⟨c0, c1, c2, c3, c4⟩ := HX3.out.cells
        go_wp2_with (go_at_call 13; refine (HN.out _ _).mono ?_; rintro e w' ⟨rfl, rfl⟩)
        clear hW3
        refine (HRD.out W3).mono ?_
        rintro e w4 ⟨rfl, hb4⟩
        have HB4 : Hid (Below w.heap.size w w4) := show Below _ _ _ from HB3.out.trans (hb4.mono HB3.out.size)
        have HX4 := Lib.hid (HX3.out.below hb4)
        have HY4 := Lib.hid (HY3.out.below hb4)
        clear hb4 c0 c1 c2 c3 c4
        obtain ⟨c0, c1, c2, c3, c4⟩ := HX4.out.cells
        obtain ⟨d0, d1, d2, d3, d4⟩ := HY4.out.cells
        go_wp2_with (go_at_call 13; refine (HN.out _ _).mono ?_; rintro e w' ⟨rfl, rfl⟩)
        refine (HSA.out w4).mono ?_
        rintro e w5 ⟨rfl, hb5⟩
        have HB5 : Hid (Below w.heap.size w w5) := show Below _ _ _ from HB4.out.trans (hb5.mono HB4.out.size)
        have HX5 := Lib.hid (HX4.out.below hb5)
        clear hb5 c0 c1 c2 c3 c4 d0 d1 d2 d3 d4
        obtain ⟨c0, c1, c2, c3, c4⟩ := HX5.out.cells
        go_wp2_with fail
        refine (HSB.out w5).mono ?_
        rintro e w6 ⟨rfl, hb6⟩
        have HB6 : Hid (Below w.heap.size w w6) := show Below _ _ _ from HB5.out.trans (hb6.mono HB5.out.size)
        clear hb6 c0 c1 c2 c3 c4
        go_wp2_with fail
        refine (HW.out _).mono ?_
        rintro e w' ⟨rfl, hb⟩
        go_wp2_with fail
        go_ret
        exact ⟨rfl, HB6.out.trans (hb.mono HB6.out.size)⟩
      | true =>
        rw [Bool.true_and] at hqs
        cases st with
        | false =>
          go_enter Try.func6, Try.ntmps6
          go_wp2_with fail
          refine HS.out.mono ?_
          rintro e w1 ⟨rfl, hb1⟩
          have HB1 : Hid (Below w.heap.size w (w1.alloc (.cells (arr5 xs) 24))) := show Below _ _ _ from hb1.alloc hb1.size _
          have HX1 := Lib.hid (Box5.new w1 xs)
          clear hb1
          go_wp2_with fail
          refine (HT.out _).mono ?_
          rintro e w2 ⟨rfl, hb2⟩
          have b3 : Below w2.heap.size w2 (w2.alloc (.cells (arr5 ys) 24)) := (Below.refl _ _).alloc (Nat.le_refl _) _
          obtain ⟨W3, hW3⟩ : ∃ W3, w2.alloc (.cells (arr5 ys) 24) = W3 := ⟨_, rfl⟩
          have HY3 : Hid (Box5 W3 w2.heap.size ys) := show Box5 _ _ _ by rw [← hW3]; exact Box5.new w2 ys
          rw [hW3] at b3
          have HX3 := Lib.hid ((HX1.out.below hb2).below b3)
          have HB3 : Hid (Below w.heap.size w W3) := show Below _ _ _ from (HB1.out.trans (hb2.mono HB1.out.size)).trans (b3.mono (Nat.le_trans HB1.out.size hb2.size))
          clear hb2 b3
          obtain ⟨c0, c1, c2, c3, c4⟩ := HX3.out.cells
          go_wp2_with (go_at_call 13; refine (HN.out _ _).mono ?_; rintro e w' ⟨rfl, rfl⟩)
          clear hW3
          refine (HRD.out W3).mono ?_
          rintro e w4 ⟨rfl, hb4⟩
          have HB4 : Hid (Below w.heap.size w w4) := show Below _ _ _ from HB3.out.trans (hb4.mono HB3.out.size)
          have HX4 := Lib.hid (HX3.out.below hb4)
          have HY4 := Lib.hid (HY3.out.below hb4)
          clear hb4 c0 c1 c2 c3 c4
          obtain ⟨c0, c1, c2, c3, c4⟩ := HX4.out.cells
          obtain ⟨d0, d1, d2, d3, d4⟩ := HY4.out.cells
          go_wp2_with (go_at_call 13; refine (HN.out _ _).mono ?_; rintro e w' ⟨rfl, rfl⟩)
          refine (HSA.out w4).mono ?_
          rintro e w5 ⟨rfl, hb5⟩
          have HB5 : Hid (Below w.heap.size w w5) := show Below _ _ _ from HB4.out.trans (hb5.mono HB4.out.size)
          have HX5 := Lib.hid (HX4.out.below hb5)
          clear hb5 c0 c1 c2 c3 c4 d0 d1 d2 d3 d4
          obtain ⟨c0, c1, c2, c3, c4⟩ := HX5.out.cells
          go_wp2_with fail
          refine (HSB.out w5).mono ?_
          rintro e w6 ⟨rfl, hb6⟩
          have HB6 : Hid (Below w.heap.size w w6) := show Below _ _ _ from HB5.out.trans (hb6.mono HB5.out.size)
          clear hb6 c0 c1 c2 c3 c4
          go_wp2_with fail
          refine (HW.out _).mono ?_
          rintro e w' ⟨rfl, hb⟩
          go_wp2_with fail
          go_ret
          exact ⟨rfl, HB6.out.trans (hb.mono HB6.out.size)⟩
        | true =>
          go_enter Try.func6, Try.ntmps6
          go_wp2_with fail
          refine HS.out.mono ?_
          rintro e w1 ⟨rfl, hb1⟩
          have HB1 : Hid (Below w.heap.size w (w1.alloc (.cells (arr5 xs) 24))) := show Below _ _ _ from hb1.alloc hb1.size _
          have HX1 := Lib.hid (Box5.new w1 xs)
          clear hb1
          go_wp2_with fail
          refine (HT.out _).mono ?_
          rintro e w2 ⟨rfl, hb2⟩
          have b3 : Below w2.heap.size w2 (w2.alloc (.cells (arr5 ys) 24)) := (Below.refl _ _).alloc (Nat.le_refl _) _
          obtain ⟨W3, hW3⟩ : ∃ W3, w2.alloc (.cells (arr5 ys) 24) = W3 := ⟨_, rfl⟩
          have HY3 : Hid (Box5 W3 w2.heap.size ys) := show Box5 _ _ _ by rw [← hW3]; exact Box5.new w2 ys
          rw [hW3] at b3
          have HX3 := Lib.hid ((HX1.out.below hb2).below b3)
          have HB3 : Hid (Below w.heap.size w W3) := show Below _ _ _ from (HB1.out.trans (hb2.mono HB1.out.size)).trans (b3.mono (Nat.le_trans HB1.out.size hb2.size))
          clear hb2 b3
          obtain ⟨c0, c1, c2, c3, c4⟩ := HX3.out.cells
          go_wp2_with (go_at_call 13; refine (HN.out _ _).mono ?_; rintro e w' ⟨rfl, rfl⟩)
          clear hW3
          refine (HRD.out W3).mono ?_
          rintro e w4 ⟨rfl, hb4⟩
          have HB4 : Hid (Below w.heap.size w w4) := show Below _ _ _ from HB3.out.trans (hb4.mono HB3.out.size)
          have HX4 := Lib.hid (HX3.out.below hb4)
          have HY4 := Lib.hid (HY3.out.below hb4)
          clear hb4 c0 c1 c2 c3 c4
          obtain ⟨c0, c1, c2, c3, c4⟩ := HX4.out.cells
          obtain ⟨d0, d1, d2, d3, d4⟩ := HY4.out.cells
          go_wp2_with (go_at_call 13; refine (HN.out _ _).mono ?_; rintro e w' ⟨rfl, rfl⟩)
          refine (HSA.out w4).mono ?_
          rintro e w5 ⟨rfl, hb5⟩
          have HB5 : Hid (Below w.heap.size w w5) := show Below _ _ _ from HB4.out.trans (hb5.mono HB4.out.size)
          have HX5 := Lib.hid (HX4.out.below hb5)
          clear hb5 c0 c1 c2 c3 c4 d0 d1 d2 d3 d4
          obtain ⟨c0, c1, c2, c3, c4⟩ := HX5.out.cells
          go_wp2_with fail
          refine (HSB.out w5).mono ?_
          rintro e w6 ⟨rfl, hb6⟩
          have HB6 : Hid (Below w.heap.size w w6) := show Below _ _ _ from HB5.out.trans (hb6.mono HB5.out.size)
          clear hb6 c0 c1 c2 c3 c4
          go_wp2_with fail
          refine (HW.out _).mono ?_
          rintro e w' ⟨rfl, hb⟩
          go_wp2_with fail
          go_ret
          exact ⟨rfl, HB6.out.trans (hb.mono HB6.out.size)⟩
end Go.Proofs.Ytoaloeipgadkjaa
