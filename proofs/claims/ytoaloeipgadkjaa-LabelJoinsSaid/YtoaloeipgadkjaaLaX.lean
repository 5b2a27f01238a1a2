/-
  label: the walk of the law LabelJoins.
-/
import Derived.Test.YtoaloeipgadkjaaLaW
namespace Go.Proofs.Ytoaloeipgadkjaa
open Go.RowKit Go.Shelf

theorem sortU_join (a b : List (List UInt8)) : sortU (sortU a ++ sortU b) = sortU (a ++ b) := sortU_ext fun x => by
  rw [List.mem_append, List.mem_append, mem_sortU, mem_sortU]
set_option maxRecDepth 100000 in
set_option maxHeartbeats 8000000 in
theorem joins6_any (v u : Value) (a b : List (List UInt8)) (w : World) (hs : TxS w v a) (ht : TxS w u b) :
    Calls Try.prog 7 #[v, u] w fun e w' => e = .returned (.bool true) ∧ Below w.heap.size w w' := by
  have HW := Lib.hid works6_any
  have HN := Lib.hid num6_any
  obtain ⟨i0, hi, hz0, hz1, hz2⟩ := info_parts infoStr
  have HI := Lib.hid hi
  clear hi
  by_cases k1 : (10 : Int) < (a.length : Int)
  · obtain ⟨la, lcap, lb, loff, rfl, -⟩ := TxS.cell hs
    obtain ⟨la', lcap', lb', loff', rfl, -⟩ := TxS.cell ht
    go_enter Try.func7, Try.ntmps7
    go_wp2_with fail
    refine (HW.out _).mono ?_
    rintro e w' ⟨rfl, hb⟩
    go_wp2_with fail
    go_ret
    exact ⟨rfl, hb⟩
  by_cases k2 : (10 : Int) < (b.length : Int)
  · obtain ⟨la, lcap, lb, loff, rfl, -⟩ := TxS.cell hs
    obtain ⟨la', lcap', lb', loff', rfl, -⟩ := TxS.cell ht
    go_enter Try.func7, Try.ntmps7
    go_wp2_with fail
    refine (HW.out _).mono ?_
    rintro e w' ⟨rfl, hb⟩
    go_wp2_with fail
    go_ret
    exact ⟨rfl, hb⟩
  have HSA := Lib.hid (fun W (hb : Below w.heap.size w W) => laSorted_any v a (by omega) W (Vec.below hs hb))
  have HSB := Lib.hid (fun W (hb : Below w.heap.size w W) => laSorted_any u b (by omega) W (Vec.below ht hb))
  have HVA := Lib.hid hs
  have HVB := Lib.hid ht
  obtain ⟨la, lcap, lb, loff, rfl, -⟩ := TxS.cell hs
  obtain ⟨la', lcap', lb', loff', rfl, -⟩ := TxS.cell ht
  clear hs ht
  have hla : a.length ≤ 10 := by omega
  have hlb : b.length ≤ 10 := by omega
  go_enter Try.func7, Try.ntmps7
  go_wp2_with (at_builtin; refine park ?_)
  unfold Park
  refine wpList_append_vec rfl _ _ 41 rfl 9 i0 _ 1 16 Try.underlying41 HI.out hz0 hz1 hz2 rfl (by decide) w.heap.size _ _ 0 a.length [] (a.map encStr) rfl rfl (.inl ⟨rfl, rfl, _, rfl⟩) (Vec.below HVA.out ((Below.refl _ _).alloc (Nat.le_refl _) _)) (one_strs a) (by omega) (by omega) (by simp) ?_
  intro v1 w1 g1 b1 _
  have HB1 : Hid (Below w.heap.size w w1) := show Below _ _ _ from ((Below.refl _ _).alloc (Nat.le_refl _) _).trans b1
  have HG1 := Lib.hid g1
  clear g1 b1
  have hs1 := HB1.out.size
  go_wp2_with (at_builtin; refine park ?_)
  unfold Park
  refine wpList_append_vec rfl _ _ 41 rfl 9 i0 _ 1 16 Try.underlying41 HI.out hz0 hz1 hz2 rfl (by decide) w.heap.size _ _ (0 + a.length) b.length _ (b.map encStr) rfl rfl HG1.out (Vec.below HVB.out HB1.out) (one_strs b) (by omega) (by omega) hs1 ?_
  intro v2 w2 g2 b2 _
  have HB2 : Hid (Below w.heap.size w w2) := show Below _ _ _ from HB1.out.trans b2
  have hab : (a ++ b).length = 0 + a.length + b.length := by rw [List.length_append]; omega
  have HV2 : Hid (TxS w2 v2 (a ++ b)) := show Vec _ _ _ _ _ by
    have h := g2.vec
    rw [hab, List.map_append]
    exact h
  have HAB := Lib.hid hab
  clear g2 b2 hs1
  obtain ⟨ca, ccap, cb, coff, rfl, -, hca, hcx⟩ := TxS.cell HV2.out
  have HCA := Lib.hid hca
  have HCX := Lib.hid hcx
  obtain ⟨N, hN⟩ : ∃ N, (a ++ b).length = N := ⟨_, rfl⟩
  have hN20 : N ≤ 20 := by omega
  have HNL := Lib.hid hN
  rw [hN] at HCA HCX HV2 ⊢
  clear hca hcx hN hab
  go_wp2_with fail
  go_loopw [6] (fun ii wr => ∃ i : Nat, i ≤ N ∧ ii = .int .i64 (i : Nat) ∧ w2 = wr) (fun ii _ => N - (intOf ii).toNat)
  case atStart => exact ⟨0, Nat.zero_le _, rfl, rfl⟩
  case round =>
    obtain ⟨i, hi, rfl, rfl⟩ := hrel
    by_cases hlt : i < N
    · have k3 : (i : Int) < (N : Int) := by omega
      obtain rfl := HCA.out (by omega)
      obtain ⟨-, hcell⟩ := HCX.out (by omega)
      have cx := hcell i hlt
      obtain ⟨x, hx⟩ : ∃ x, (a ++ b)[i]?.getD [] = x := ⟨_, rfl⟩
      rw [hx] at cx
      clear hx hcell
      by_cases h60 : (60 : Int) < (x.length : Int)
      · go_wp2_with fail
        refine (HW.out _).mono ?_
        rintro e w' ⟨rfl, hb⟩
        go_wp2_with fail
        go_ret
        exact ⟨rfl, HB2.out.trans (hb.mono HB2.out.size)⟩
      · go_wp2_with fail
        go_roundw
        case rel => exact ⟨i + 1, by omega, by go_num, by trivial⟩
        case measure => simp [intOf]; omega
    · obtain rfl : i = N := by omega
      have HSC := Lib.hid (fun W (hb : Below w2.heap.size w2 W) => laSorted_any (.slice ca i ccap) (a ++ b) (by rw [HNL.out]; omega) W (by rw [← HNL.out] at HV2 ⊢; exact Vec.below HV2.out hb))
      rw [List.all_append] at HSC
      cases hra : a.all rightN with
      | false =>
        rw [hra] at HSA HSC
        cases hrb : b.all rightN with
        | false =>
          rw [hrb] at HSB HSC
          clear hra hrb
          go_wp2_with fail
          refine (HSA.out w2 HB2.out).mono ?_
          rintro e w3 ⟨-, h, hb⟩
          obtain rfl := h (by first | rfl | trivial)
          have HBw3 : Hid (Below w.heap.size w w3) := show Below _ _ _ from HB2.out.trans (hb.mono HB2.out.size)
          have HCw3 := Lib.hid hb
          clear h hb
          go_wp2_with fail
          refine (HSB.out w3 HBw3.out).mono ?_
          rintro e w4 ⟨-, h, hb⟩
          obtain rfl := h (by first | rfl | trivial)
          have HBw4 : Hid (Below w.heap.size w w4) := show Below _ _ _ from HBw3.out.trans (hb.mono HBw3.out.size)
          have HCw4 := Lib.hid hb
          clear h hb
          have HS3 := Lib.hid (HSC.out w4 (HCw3.out.trans (HCw4.out.mono HCw3.out.size)))
          go_wp2_with fail
          refine (HS3.out).mono ?_
          rintro e w5 ⟨-, h, hb⟩
          obtain rfl := h (by first | rfl | trivial)
          have HBw5 : Hid (Below w.heap.size w w5) := show Below _ _ _ from HBw4.out.trans (hb.mono HBw4.out.size)
          have HCw5 := Lib.hid hb
          clear h hb
          go_wp2_with (go_at_call 13; refine (HN.out _ _).mono ?_; rintro e w' ⟨rfl, rfl⟩)
          refine (HW.out _).mono ?_
          rintro e w' ⟨rfl, hb⟩
          go_wp2_with fail
          go_ret
          exact ⟨rfl, HBw5.out.trans (hb.mono HBw5.out.size)⟩
        | true =>
          rw [hrb] at HSB HSC
          clear hra hrb
          go_wp2_with fail
          refine (HSA.out w2 HB2.out).mono ?_
          rintro e w3 ⟨-, h, hb⟩
          obtain rfl := h (by first | rfl | trivial)
          have HBw3 : Hid (Below w.heap.size w w3) := show Below _ _ _ from HB2.out.trans (hb.mono HB2.out.size)
          have HCw3 := Lib.hid hb
          clear h hb
          go_wp2_with fail
          refine (HSB.out w3 HBw3.out).mono ?_
          rintro e w4 ⟨h, -, hb⟩
          obtain ⟨uy, rfl, hu⟩ := h (by first | rfl | trivial)
          have HBw4 : Hid (Below w.heap.size w w4) := show Below _ _ _ from HBw3.out.trans (hb.mono HBw3.out.size)
          have HUw4 : Hid (Vec w4 uy _ 1 _) := show Vec _ _ _ _ _ from vec_of_own hu
          have HCw4 := Lib.hid hb
          clear h hb hu
          have HS3 := Lib.hid (HSC.out w4 (HCw3.out.trans (HCw4.out.mono HCw3.out.size)))
          go_wp2_with fail
          refine (HS3.out).mono ?_
          rintro e w5 ⟨-, h, hb⟩
          obtain rfl := h (by first | rfl | trivial)
          have HBw5 : Hid (Below w.heap.size w w5) := show Below _ _ _ from HBw4.out.trans (hb.mono HBw4.out.size)
          have HCw5 := Lib.hid hb
          clear h hb
          go_wp2_with (go_at_call 13; refine (HN.out _ _).mono ?_; rintro e w' ⟨rfl, rfl⟩)
          refine (HW.out _).mono ?_
          rintro e w' ⟨rfl, hb⟩
          go_wp2_with fail
          go_ret
          exact ⟨rfl, HBw5.out.trans (hb.mono HBw5.out.size)⟩
      | true =>
        rw [hra] at HSA HSC
        cases hrb : b.all rightN with
        | false =>
          rw [hrb] at HSB HSC
          clear hra hrb
          go_wp2_with fail
          refine (HSA.out w2 HB2.out).mono ?_
          rintro e w3 ⟨h, -, hb⟩
          obtain ⟨ux, rfl, hu⟩ := h (by first | rfl | trivial)
          have HBw3 : Hid (Below w.heap.size w w3) := show Below _ _ _ from HB2.out.trans (hb.mono HB2.out.size)
          have HUw3 : Hid (Vec w3 ux _ 1 _) := show Vec _ _ _ _ _ from vec_of_own hu
          have HCw3 := Lib.hid hb
          clear h hb hu
          go_wp2_with fail
          refine (HSB.out w3 HBw3.out).mono ?_
          rintro e w4 ⟨-, h, hb⟩
          obtain rfl := h (by first | rfl | trivial)
          have HBw4 : Hid (Below w.heap.size w w4) := show Below _ _ _ from HBw3.out.trans (hb.mono HBw3.out.size)
          have HCw4 := Lib.hid hb
          clear h hb
          have HS3 := Lib.hid (HSC.out w4 (HCw3.out.trans (HCw4.out.mono HCw3.out.size)))
          go_wp2_with fail
          refine (HS3.out).mono ?_
          rintro e w5 ⟨-, h, hb⟩
          obtain rfl := h (by first | rfl | trivial)
          have HBw5 : Hid (Below w.heap.size w w5) := show Below _ _ _ from HBw4.out.trans (hb.mono HBw4.out.size)
          have HCw5 := Lib.hid hb
          clear h hb
          go_wp2_with (go_at_call 13; refine (HN.out _ _).mono ?_; rintro e w' ⟨rfl, rfl⟩)
          refine (HW.out _).mono ?_
          rintro e w' ⟨rfl, hb⟩
          go_wp2_with fail
          go_ret
          exact ⟨rfl, HBw5.out.trans (hb.mono HBw5.out.size)⟩
        | true =>
          rw [hrb] at HSB HSC
          go_wp2_with fail
          refine (HSA.out w2 HB2.out).mono ?_
          rintro e w3 ⟨h, -, hb⟩
          obtain ⟨ux, rfl, hu⟩ := h (by first | rfl | trivial)
          have HBw3 : Hid (Below w.heap.size w w3) := show Below _ _ _ from HB2.out.trans (hb.mono HB2.out.size)
          have HUw3 : Hid (Vec w3 ux _ 1 _) := show Vec _ _ _ _ _ from vec_of_own hu
          have HCw3 := Lib.hid hb
          clear h hb hu
          go_wp2_with fail
          refine (HSB.out w3 HBw3.out).mono ?_
          rintro e w4 ⟨h, -, hb⟩
          obtain ⟨uy, rfl, hu⟩ := h (by first | rfl | trivial)
          have HBw4 : Hid (Below w.heap.size w w4) := show Below _ _ _ from HBw3.out.trans (hb.mono HBw3.out.size)
          have HUw4 : Hid (Vec w4 uy _ 1 _) := show Vec _ _ _ _ _ from vec_of_own hu
          have HCw4 := Lib.hid hb
          clear h hb hu
          have HS3 := Lib.hid (HSC.out w4 (HCw3.out.trans (HCw4.out.mono HCw3.out.size)))
          go_wp2_with fail
          refine (HS3.out).mono ?_
          rintro e w5 ⟨h, -, hb⟩
          obtain ⟨uz, rfl, hu⟩ := h (by first | rfl | trivial)
          have HBw5 : Hid (Below w.heap.size w w5) := show Below _ _ _ from HBw4.out.trans (hb.mono HBw4.out.size)
          have HUw5 : Hid (Vec w5 uz _ 1 _) := show Vec _ _ _ _ _ from vec_of_own hu
          have HCw5 := Lib.hid hb
          clear h hb hu
          have HX5 : Hid (TxS w5 ux (sortU a)) := show Vec _ _ _ _ _ from Vec.below HUw3.out (HCw4.out.trans (HCw5.out.mono HCw4.out.size))
          have HY5 : Hid (TxS w5 uy (sortU b)) := show Vec _ _ _ _ _ from Vec.below HUw4.out HCw5.out
          have hsa := sortU_length a
          have hsb := sortU_length b
          have hs5 := HBw5.out.size
          have hs5' : w.heap.size ≤ (w5.alloc (.cells #[] 9)).heap.size := by rw [World.size_alloc]; omega
          go_wp2_with (first | (go_at_call 13; refine (HN.out _ _).mono ?_; rintro e w' ⟨rfl, rfl⟩) | (at_builtin; refine park ?_))
          unfold Park
          refine wpList_append_vec rfl _ _ 41 rfl 9 i0 _ 1 16 Try.underlying41 HI.out hz0 hz1 hz2 rfl (by decide) w5.heap.size _ _ 0 (sortU a).length [] ((sortU a).map encStr) rfl rfl (.inl ⟨rfl, rfl, _, rfl⟩) (Vec.below HX5.out ((Below.refl _ _).alloc (Nat.le_refl _) _)) (one_strs _) (by omega) (by omega) (by simp) ?_
          intro v6 w6 g6 b6 _
          have HC6 : Hid (Below w5.heap.size w5 w6) := show Below _ _ _ from ((Below.refl _ _).alloc (Nat.le_refl _) _).trans b6
          have HG6 := Lib.hid g6
          clear g6 b6
          have hs6 := HC6.out.size
          go_wp2_with (at_builtin; refine park ?_)
          unfold Park
          refine wpList_append_vec rfl _ _ 41 rfl 9 i0 _ 1 16 Try.underlying41 HI.out hz0 hz1 hz2 rfl (by decide) w5.heap.size _ _ (0 + (sortU a).length) (sortU b).length _ ((sortU b).map encStr) rfl rfl HG6.out (Vec.below HY5.out HC6.out) (one_strs _) (by omega) (by omega) hs6 ?_
          intro v7 w7 g7 b7 _
          have HC7 : Hid (Below w5.heap.size w5 w7) := show Below _ _ _ from HC6.out.trans b7
          have hlen7 : (sortU a ++ sortU b).length = 0 + (sortU a).length + (sortU b).length := by rw [List.length_append]; omega
          have hv7 : TxS w7 v7 (sortU a ++ sortU b) := by
            have h := g7.vec
            show Vec _ _ _ _ _
            rw [hlen7, List.map_append]
            exact h
          have HS7 := Lib.hid (laSorted_any v7 (sortU a ++ sortU b) (by omega) w7 hv7)
          rw [List.all_append, all_sortU, all_sortU, hra, hrb, sortU_join] at HS7
          have HB7 : Hid (Below w.heap.size w w7) := show Below _ _ _ from HBw5.out.trans (HC7.out.mono HBw5.out.size)
          have HZ7 : Hid (TxS w7 uz (sortU (a ++ b))) := show Vec _ _ _ _ _ from Vec.below HUw5.out HC7.out
          clear g7 b7 hv7 hs6 hs5 hs5' hra hrb hlen7
          go_wp2_with fail
          refine (HS7.out).mono ?_
          rintro e w8 ⟨h, -, hb⟩
          obtain ⟨uw, rfl, hu⟩ := h (by first | rfl | trivial)
          have HBw8 : Hid (Below w.heap.size w w8) := show Below _ _ _ from HB7.out.trans (hb.mono HB7.out.size)
          have HUw8 : Hid (Vec w8 uw _ 1 _) := show Vec _ _ _ _ _ from vec_of_own hu
          have HCw8 := Lib.hid hb
          clear h hb hu
          have HT8 := Lib.hid (refTexts_any uw uz (sortU (a ++ b)) (sortU (a ++ b)) (by have := sortU_length (a ++ b); rw [HNL.out] at this; omega) (by have := sortU_length (a ++ b); rw [HNL.out] at this; omega) w8 HUw8.out (Vec.below HZ7.out HCw8.out))
          rw [decide_eq_true rfl] at HT8
          go_wp2_with (go_at_call 13; refine (HN.out _ _).mono ?_; rintro e w' ⟨rfl, rfl⟩)
          refine HT8.out.mono ?_
          rintro e w9 ⟨rfl, hb9⟩
          have HB9 : Hid (Below w.heap.size w w9) := show Below _ _ _ from HBw8.out.trans (hb9.mono HBw8.out.size)
          clear hb9
          go_wp2_with fail
          refine (HW.out _).mono ?_
          rintro e w' ⟨rfl, hb⟩
          go_wp2_with fail
          go_ret
          exact ⟨rfl, HB9.out.trans (hb.mono HB9.out.size)⟩
end Go.Proofs.Ytoaloeipgadkjaa
