/-
  label: the walk of the law LabelSorts.
-/
import Derived.Test.YtoaloeipgadkjaaLaS
namespace Go.Proofs.Ytoaloeipgadkjaa
open Go.RowKit Go.Shelf

theorem drop_back {l : List (List UInt8)} {m : Nat} {x : List UInt8} (hm : m + 1 ≤ l.length) (hx : l[m]?.getD [] = x) : l.drop m = x :: l.drop (m + 1) := by
  rw [List.drop_eq_getElem_cons (by omega), ← hx, List.getElem?_eq_getElem (by omega)]
  rfl
theorem all_sortU (l : List (List UInt8)) : (sortU l).all rightN = l.all rightN := by
  rw [Bool.eq_iff_iff, List.all_eq_true, List.all_eq_true]
  exact ⟨fun h x hx => h x ((mem_sortU l x).2 hx), fun h x hx => h x ((mem_sortU l x).1 hx)⟩
theorem sortU_reverse (l : List (List UInt8)) : sortU l.reverse = sortU l := sortU_ext fun x => by simp
set_option maxRecDepth 100000 in
set_option maxHeartbeats 8000000 in
theorem sorts6_any (v : Value) (l : List (List UInt8)) (w : World) (hs : TxS w v l) :
    Calls Try.prog 5 #[v] w fun e w' => e = .returned (.bool true) ∧ Below w.heap.size w w' := by
  have HW := Lib.hid works6_any
  have HN := Lib.hid num6_any
  have HRR := Lib.hid refRight6_any
  obtain ⟨i0, hi, hz0, hz1, hz2⟩ := info_parts infoStr
  have HI := Lib.hid hi
  clear hi
  by_cases k1 : (20 : Int) < (l.length : Int)
  · obtain ⟨la, lcap, lb, loff, rfl, -⟩ := TxS.cell hs
    go_enter Try.func5, Try.ntmps5
    go_wp2_with fail
    refine (HW.out _).mono ?_
    rintro e w' ⟨rfl, hb⟩
    go_wp2_with fail
    go_ret
    exact ⟨rfl, hb⟩
  have HSO := Lib.hid (fun W (hb : Below w.heap.size w W) => laSorted_any v l (by omega) W (Vec.below hs hb))
  have HRS := Lib.hid (fun W (hb : Below w.heap.size w W) => refSorted_any v l (by omega) W (Vec.below hs hb))
  obtain ⟨la, lcap, lb, loff, rfl, hlc, hla, hlx⟩ := TxS.cell hs
  have HLX := Lib.hid hlx
  have HLA := Lib.hid hla
  clear hs hlx hla
  obtain ⟨N, hN⟩ : ∃ N, l.length = N := ⟨_, rfl⟩
  have HL := Lib.hid hN
  rw [hN] at k1 hlc HLX HLA HSO HRS
  rw [hN]
  clear hN
  go_enter Try.func5, Try.ntmps5
  go_wp2_with fail
  go_loopw [3, 4, 5] (fun rr bb ii wr => ∃ (m : Nat) (q : Value), q = bb ∧ m ≤ N ∧ ii = .int .i64 ((m : Int) - 1) ∧ rr = .bool ((l.drop m).all rightN) ∧ Hid (GrowB wr w.heap.size 9 1 q (N - m) ((l.drop m).reverse.map encStr)) ∧ Hid (Below w.heap.size w wr)) (fun _ _ ii _ => (intOf ii + 1).toNat)
  case atStart => exact ⟨N, _, rfl, Nat.le_refl _, by go_num, by rw [List.drop_of_length_le (by rw [HL.out]; exact Nat.le_refl _)]; rfl, (show GrowB _ _ _ _ _ _ _ by rw [Nat.sub_self, List.drop_of_length_le (by rw [HL.out]; exact Nat.le_refl _)]; exact GrowB.new _ _ _ _), (show Below _ _ _ from Below.refl _ _)⟩
  case round =>
    obtain ⟨m, q, rfl, hm, rfl, rfl, HG, HB⟩ := hrel
    have hsl := HG.out.slice
    obtain ⟨qa, qc, rfl⟩ := hsl
    by_cases h0 : 0 < m
    · obtain ⟨k, rfl⟩ : ∃ k, m = k + 1 := ⟨m - 1, by omega⟩
      have hk1 : ((k + 1 : Nat) : Int) - 1 = (k : Int) := by omega
      rw [hk1]
      obtain rfl := HLA.out (by omega)
      obtain ⟨hlb, hlcell⟩ := HLX.out (by omega)
      have cx := (HB.out.cell (p := ⟨lb, loff + k, none⟩) hlb).trans (hlcell k (by omega))
      obtain ⟨x, hx⟩ : ∃ x, l[k]?.getD [] = x := ⟨_, rfl⟩
      have HXD := Lib.hid (drop_back (l := l) (m := k) (by rw [HL.out]; omega) hx)
      rw [hx] at cx
      have k2 : (k : Int) < (N : Int) := by omega
      clear hx hlcell hk1
      by_cases h60 : (60 : Int) < (x.length : Int)
      · go_wp2_with fail
        refine (HW.out _).mono ?_
        rintro e w' ⟨rfl, hb⟩
        go_wp2_with fail
        go_ret
        exact ⟨rfl, HB.out.trans (hb.mono HB.out.size)⟩
      · obtain ⟨rb, hrb⟩ : ∃ rb, (l.drop (k + 1)).all rightN = rb := ⟨_, rfl⟩
        have HRB : Hid ((l.drop k).all rightN = (rb && rightN x)) := show _ = _ by
          rw [HXD.out, List.all_cons, hrb, Bool.and_comm]
        rw [hrb]
        obtain ⟨rx, hrx⟩ : ∃ rx, rightN x = rx := ⟨_, rfl⟩
        have HRX := Lib.hid (HRR.out x)
        rw [hrx] at HRX HRB
        clear hrb hrx
        cases rb with
        | false =>
          have b2 : Below wr.heap.size wr (wr.alloc (.cells #[encStr x] 9)) := (Below.refl _ _).alloc (Nat.le_refl _) _
          have HB2 : Hid (Below w.heap.size w (wr.alloc (.cells #[encStr x] 9))) := show Below _ _ _ from HB.out.trans (b2.mono HB.out.size)
          have HG2 := Lib.hid (HG.out.below b2)
          have HV2 := Lib.hid (vec_newL wr #[encStr x] 9 1 1 rfl)
          have hs2 := HB2.out.size
          clear b2
          go_wp2_with (at_builtin; refine park ?_)
          unfold Park
          refine wpList_append_vec rfl _ _ 41 rfl 9 i0 _ 1 16 Try.underlying41 HI.out hz0 hz1 hz2 rfl (by decide) w.heap.size _ _ (N - (k + 1)) 1 _ _ rfl rfl HG2.out HV2.out (one_strs [x]) (by omega) (by omega) hs2 ?_
          rintro v3 w3 g3 b3 -
          have HG3 : Hid (GrowB w3 w.heap.size 9 1 v3 (N - k) ((l.drop k).reverse.map encStr)) := show GrowB _ _ _ _ _ _ _ by
            rw [HXD.out, List.reverse_cons, List.map_append]
            rw [show N - (k + 1) + 1 = N - k by omega] at g3
            exact g3
          have HB3 : Hid (Below w.heap.size w w3) := show Below _ _ _ from HB2.out.trans b3
          clear g3 b3
          go_wp2_with fail
          go_roundw
          case rel => exact ⟨k, _, rfl, by omega, by go_num, by rw [HRB.out]; rfl, HG3, HB3⟩
          case measure => simp [intOf]
        | true =>
          go_wp2_with fail
          refine (HRX.out _).mono ?_
          rintro e w' ⟨rfl, rfl⟩
          have b2 : Below wr.heap.size wr (wr.alloc (.cells #[encStr x] 9)) := (Below.refl _ _).alloc (Nat.le_refl _) _
          have HB2 : Hid (Below w.heap.size w (wr.alloc (.cells #[encStr x] 9))) := show Below _ _ _ from HB.out.trans (b2.mono HB.out.size)
          have HG2 := Lib.hid (HG.out.below b2)
          have HV2 := Lib.hid (vec_newL wr #[encStr x] 9 1 1 rfl)
          have hs2 := HB2.out.size
          clear b2
          go_wp2_with (at_builtin; refine park ?_)
          unfold Park
          refine wpList_append_vec rfl _ _ 41 rfl 9 i0 _ 1 16 Try.underlying41 HI.out hz0 hz1 hz2 rfl (by decide) w.heap.size _ _ (N - (k + 1)) 1 _ _ rfl rfl HG2.out HV2.out (one_strs [x]) (by omega) (by omega) hs2 ?_
          rintro v3 w3 g3 b3 -
          have HG3 : Hid (GrowB w3 w.heap.size 9 1 v3 (N - k) ((l.drop k).reverse.map encStr)) := show GrowB _ _ _ _ _ _ _ by
            rw [HXD.out, List.reverse_cons, List.map_append]
            rw [show N - (k + 1) + 1 = N - k by omega] at g3
            exact g3
          have HB3 : Hid (Below w.heap.size w w3) := show Below _ _ _ from HB2.out.trans b3
          clear g3 b3
          go_wp2_with fail
          go_roundw
          case rel => exact ⟨k, _, rfl, by omega, by go_num, by rw [HRB.out]; rfl, HG3, HB3⟩
          case measure => simp [intOf]
    · obtain rfl : m = 0 := by omega
      have HALL : Hid ((l.drop 0).all rightN = l.all rightN) := show _ = _ by rw [List.drop_zero]
      have HGB : Hid (TxS wr (.slice qa (N - 0) qc) l.reverse) := show Vec _ _ _ _ _ by
        have h := HG.out.vec
        rw [List.drop_zero] at h
        rw [List.length_reverse, HL.out]
        exact h
      have HS1 := Lib.hid (HSO.out wr HB.out)
      rw [Nat.sub_zero] at HGB ⊢
      rw [HALL.out]
      obtain ⟨ra, hra⟩ : ∃ ra, l.all rightN = ra := ⟨_, rfl⟩
      have HRA := Lib.hid hra
      rw [hra] at HS1 ⊢
      cases ra with
      | false =>
        clear hra
        go_wp2_with fail
        refine HS1.out.mono ?_
        rintro e w2 ⟨-, h2, hb2⟩
        obtain rfl := h2 (by first | rfl | trivial)
        have HB2 : Hid (Below w.heap.size w w2) := show Below _ _ _ from HB.out.trans (hb2.mono HB.out.size)
        clear hb2 h2
        go_wp2_with (go_at_call 13; refine (HN.out _ _).mono ?_; rintro e w' ⟨rfl, rfl⟩)
        refine (HW.out _).mono ?_
        rintro e w' ⟨rfl, hb⟩
        go_wp2_with fail
        go_ret
        exact ⟨rfl, HB2.out.trans (hb.mono HB2.out.size)⟩
      | true =>
        have HS2 := Lib.hid (fun W (hb : Below wr.heap.size wr W) => laSorted_any (.slice qa N qc) l.reverse (by rw [List.length_reverse, HL.out]; omega) W (Vec.below HGB.out hb))
        rw [List.all_reverse, hra, sortU_reverse] at HS2
        have HS3 := Lib.hid (fun W u (h : TxS W u (sortU l)) => laSorted_any u (sortU l) (by have := sortU_length l; rw [HL.out] at this; omega) W h)
        rw [all_sortU, hra, sortU_twice] at HS3
        have HTX := Lib.hid (fun W v u (h1 : TxS W v (sortU l)) (h2 : TxS W u (sortU l)) => refTexts_any v u (sortU l) (sortU l) (by have := sortU_length l; rw [HL.out] at this; omega) (by have := sortU_length l; rw [HL.out] at this; omega) W h1 h2)
        rw [decide_eq_true rfl] at HTX
        clear hra
        go_wp2_with fail
        refine HS1.out.mono ?_
        rintro e w2 ⟨h2, -, hb2⟩
        obtain ⟨u2, rfl, hu2⟩ := h2 (by first | rfl | trivial)
        have HU2 : Hid (TxS w2 u2 (sortU l)) := show Vec _ _ _ _ _ from vec_of_own hu2
        have HB2 : Hid (Below w.heap.size w w2) := show Below _ _ _ from HB.out.trans (hb2.mono HB.out.size)
        have HC2 := Lib.hid hb2
        clear hb2 h2 hu2
        go_wp2_with fail
        refine (HS2.out w2 HC2.out).mono ?_
        rintro e w3 ⟨h3, -, hb3⟩
        obtain ⟨u3, rfl, hu3⟩ := h3 (by first | rfl | trivial)
        have HU3 : Hid (TxS w3 u3 (sortU l)) := show Vec _ _ _ _ _ from vec_of_own hu3
        have HU2' : Hid (TxS w3 u2 (sortU l)) := show Vec _ _ _ _ _ from Vec.below HU2.out hb3
        have HB3 : Hid (Below w.heap.size w w3) := show Below _ _ _ from HB2.out.trans (hb3.mono HB2.out.size)
        clear hb3 h3 hu3
        go_wp2_with fail
        refine (HS3.out w3 u2 HU2'.out).mono ?_
        rintro e w4 ⟨h4, -, hb4⟩
        obtain ⟨u4, rfl, hu4⟩ := h4 (by first | rfl | trivial)
        have HU4 : Hid (TxS w4 u4 (sortU l)) := show Vec _ _ _ _ _ from vec_of_own hu4
        have HV3 : Hid (TxS w4 u3 (sortU l)) := show Vec _ _ _ _ _ from Vec.below HU3.out hb4
        have HV2 : Hid (TxS w4 u2 (sortU l)) := show Vec _ _ _ _ _ from Vec.below HU2'.out hb4
        have HB4 : Hid (Below w.heap.size w w4) := show Below _ _ _ from HB3.out.trans (hb4.mono HB3.out.size)
        clear hb4 h4 hu4
        go_wp2_with (go_at_call 13; refine (HN.out _ _).mono ?_; rintro e w' ⟨rfl, rfl⟩)
        refine (HRS.out w4 HB4.out).mono ?_
        rintro e w5 ⟨u5, rfl, hu5, hb5⟩
        have HB5 : Hid (Below w.heap.size w w5) := show Below _ _ _ from HB4.out.trans (hb5.mono HB4.out.size)
        have HA5 := Lib.hid (HTX.out w5 u2 u5 (Vec.below HV2.out hb5) hu5)
        have HX2 : Hid (TxS w5 u2 (sortU l)) := show Vec _ _ _ _ _ from Vec.below HV2.out hb5
        have HX3 : Hid (TxS w5 u3 (sortU l)) := show Vec _ _ _ _ _ from Vec.below HV3.out hb5
        have HX4 : Hid (TxS w5 u4 (sortU l)) := show Vec _ _ _ _ _ from Vec.below HU4.out hb5
        clear hu5 hb5
        go_wp2_with fail
        refine HA5.out.mono ?_
        rintro e w6 ⟨rfl, hb6⟩
        have HB6 : Hid (Below w.heap.size w w6) := show Below _ _ _ from HB5.out.trans (hb6.mono HB5.out.size)
        have HA6 := Lib.hid (HTX.out w6 u3 u2 (Vec.below HX3.out hb6) (Vec.below HX2.out hb6))
        have HY2 : Hid (TxS w6 u2 (sortU l)) := show Vec _ _ _ _ _ from Vec.below HX2.out hb6
        have HY4 : Hid (TxS w6 u4 (sortU l)) := show Vec _ _ _ _ _ from Vec.below HX4.out hb6
        clear hb6
        go_wp2_with fail
        refine HA6.out.mono ?_
        rintro e w7 ⟨rfl, hb7⟩
        have HB7 : Hid (Below w.heap.size w w7) := show Below _ _ _ from HB6.out.trans (hb7.mono HB6.out.size)
        have HA7 := Lib.hid (HTX.out w7 u4 u2 (Vec.below HY4.out hb7) (Vec.below HY2.out hb7))
        clear hb7
        go_wp2_with fail
        refine HA7.out.mono ?_
        rintro e w8 ⟨rfl, hb8⟩
        have HB8 : Hid (Below w.heap.size w w8) := show Below _ _ _ from HB7.out.trans (hb8.mono HB7.out.size)
        clear hb8
        go_wp2_with fail
        refine (HW.out _).mono ?_
        rintro e w' ⟨rfl, hb⟩
        go_wp2_with fail
        go_ret
        exact ⟨rfl, HB8.out.trans (hb.mono HB8.out.size)⟩
end Go.Proofs.Ytoaloeipgadkjaa
