/-
  The walk of the law PmemOne.
-/
import Derived.Test.YtoghidbgmflleaaDoorQPoD
namespace Go.Proofs.YtoghidbgmflleaaDoor
open Go.RowKit Go.Shelf

theorem stay_store (d : Dv) (n : Nat) (p z i : Int) : (d.store n p z).stay n i = d.stay n i := by
  unfold Dv.stay Dv.store
  cases inR (n * 8) p <;> rfl
theorem load_store {d : Dv} {n : Nat} (hok : d.Ok n) (p z : Int) {k : Nat} (hk : k < n * 8) : (d.store n p z).load n k = if (k : Int) = p then z else d.load n k := by
  have hr : inR (n * 8) (k : Int) = true := inR_iff.2 (by omega)
  unfold Dv.load Dv.store
  rw [hr, if_pos rfl, if_pos rfl]
  by_cases hp : inR (n * 8) p = true
  · rw [hp, if_pos rfl]
    have hp2 := inR_iff.1 hp
    show ((d.seen.set p.toNat z)[(k : Int).toNat]?).getD 0 = _
    rw [List.getElem?_set]
    have hs := hok.seen
    by_cases hkp : (k : Int) = p
    · rw [if_pos hkp, if_pos (by omega), if_pos (by omega)]
      rfl
    · rw [if_neg hkp, if_neg (by omega)]
  · have hkp : ¬ (k : Int) = p := fun h => hp (by rw [← h]; exact hr)
    rw [if_neg hp, if_neg hkp]
set_option maxRecDepth 100000 in
set_option maxHeartbeats 4000000 in
theorem one4_any {v : Value} {xs : List Ask} (p z : Int) (w : World) (hen : Ends w) (hl : xs.length ≤ 9223372036854775807) (hx : ∀ y ∈ xs, -9223372036854775808 ≤ y.at_ ∧ y.at_ ≤ 9223372036854775807) (hs : SlA w (fun k => w.heap.size ≤ k) v xs) :
    Calls Tryd.prog 6 #[v, .int .i64 p, .int .u64 z] w fun e w' => e = .returned (.bool true) ∧ Below w.heap.size w w' := by
  have HFW := Lib.hid (few_any 20 w hl hs)
  have HX := Lib.hid hx
  have HE := Lib.hid hen
  obtain ⟨a, cap, rfl, -⟩ := id hs
  obtain ⟨N, hN⟩ : ∃ N, xs.length = N := ⟨_, rfl⟩
  rw [hN] at HFW hs hl ⊢
  have HAK := Lib.hid (ask_at hN hs)
  have HW4 := Lib.hid (fun W (hb : Below w.heap.size w W) => works4_any W (hen.below hb hen.room))
  have HNW := Lib.hid (new_in 5 (by decide) (by decide) w hen)
  have hnoF : ¬ ∃ k, w.heap.size ≤ k ∧ k = 0 := fun ⟨k, h1, h2⟩ => by have := hen.room; omega
  have HNF := Lib.hid hnoF
  cases hf : fewA xs 20 with
  | false =>
    rw [hf] at HFW
    clear hen hx hs hN hnoF hf
    go_enter Tryd.func6, Tryd.ntmps6
    go_wp2_with fail
    refine HFW.out.mono ?_
    rintro e w' ⟨rfl, rfl⟩
    go_wp2_with fail
    refine (HW4.out _ (Below.refl _ _)).mono ?_
    rintro e w' ⟨rfl, hb⟩
    go_wp2_with fail
    go_ret
    exact ⟨rfl, hb⟩
  | true =>
    have HMK : Hid (∀ y ∈ xs, y.marks.length ≤ 60) := show ∀ _, _ from fun y hy => few_marks hf hy
    rw [hf] at HFW
    clear hen hx hs hN hnoF hf
    go_enter Tryd.func6, Tryd.ntmps6
    go_wp2_with fail
    refine HFW.out.mono ?_
    rintro e w' ⟨rfl, rfl⟩
    go_wp2_with fail
    refine HNW.out.mono ?_
    rintro e w1 ⟨B, rfl, hb1, hd1⟩
    have HI0 : Hid (PlayI w' 5 B (Dv.new 5) w1) := show _ ∧ _ from ⟨hd1, hb1⟩
    clear hb1 hd1
    go_wp2_with fail
    go_loopw [7, 9] (fun dv i wr => ∃ (k B : Nat) (d : Dv), k ≤ N ∧ dv = .pointer (some ⟨B, 0, none⟩) ∧ i = .int .i64 (k : Nat) ∧ Hid (PlayI w' 5 B d wr)) (fun _ i _ => N - (intOf i).toNat)
    case atStart => exact ⟨0, B, _, by omega, rfl, rfl, HI0⟩
    case round =>
      obtain ⟨k, B, d, hk, rfl, rfl, HI⟩ := hrel
      by_cases hlt : k < N
      · obtain ⟨b, off, m, y, hy, rfl, hat⟩ := HAK.out k hlt
        have HY := Lib.hid (HX.out y hy)
        have HY6 := Lib.hid (HMK.out y hy)
        have HAT := Lib.hid hat
        obtain ⟨⟨F, S, T, cS, cT, q, hd, hF⟩, hbl⟩ := HI.out
        have k2 : (k : Int) < (N : Int) := by omega
        have hd1 : Below wr.heap.size wr wr.drew := Below.drew (Below.refl _ _)
        have HB1 : Hid (Below w'.heap.size w' wr.drew) := show Below _ _ _ from hbl.trans (hd1.mono hbl.size)
        have HD1 := Lib.hid (hd.below hd1)
        have HF := Lib.hid hF
        have hR : (fun W : World => W.rangeAt b (off + k * 6) (askA y m).toList) wr.drew := (hat _ HB1.out).1
        obtain ⟨X, hX⟩ : ∃ X, Value.agg (askA y m) = X := ⟨_, rfl⟩
        have HLR := Lib.hid (fun (W : World) (h : W.rangeAt b (off + k * 6) (askA y m).toList) => (load_ask h).trans (by rw [hX]))
        have HN5 := Lib.hid (none5_any (F := F) wr.drew HD1.out.live)
        have HXX := Lib.hid hX
        clear hd hF hbl hd1 hat hX hy
        go_wp2_with fail
        refine wp_region_M 11 (fun W : World => W.rangeAt b (off + k * 6) (askA y m).toList) (by kernel_rfl) ?_
        (refine wpAnyM_take (i := 0) (v := ?_) rfl (by kernel_rfl) (by kernel_rfl) (fun _ _ _ h => h) (Or.inl ⟨by rfl, ?_⟩) hR ?_; rotate_left; (focus (intro w hSw; (try dsimp only at hSw); go_simp; (try with_reducible rfl))); (try simp only [put_laws])); (refine wpAnyM_take (i := 2) (v := ?_) rfl (by kernel_rfl) (by kernel_rfl) (fun _ _ _ h => h) (Or.inl ⟨by rfl, ?_⟩) hR ?_; rotate_left; (focus (intro w hSw; (try dsimp only at hSw); go_simp; (try with_reducible rfl))); (try simp only [put_laws])); (refine wpAnyM_take (i := 3) (v := ?_) rfl (by kernel_rfl) (by kernel_rfl) (fun _ _ _ h => h) (Or.inl ⟨by rfl, ?_⟩) hR ?_; rotate_left; (focus (intro w hSw; (try dsimp only at hSw); go_simp; (try with_reducible rfl))); (try simp only [put_laws])); (refine wpAnyM_take (i := 4) (v := ?_) rfl (by kernel_rfl) (by kernel_rfl) (fun _ _ _ h => h) (Or.inl ⟨by rfl, ?_⟩) hR ?_; rotate_left; (focus (intro w hSw; (try dsimp only at hSw); go_simp; (try with_reducible rfl))); (try simp only [put_laws]))
        (refine wpAnyM_take (i := 5) (v := _) rfl (by kernel_rfl) (by kernel_rfl) (fun _ _ _ h => h) (Or.inl ⟨by rfl, fun w hSw => exec_load_eq rfl rfl (HLR.out w hSw)⟩) hR ?_; (try simp only [put_laws]))
        (refine wpAnyM_one (i := 1) rfl (by kernel_rfl) (fun K hK => ?_); rw [if_pos (by rfl)]; (try simp only [elem_laws]))
        go_simp
        refine HN5.out.mono ?_
        rintro e w5 ⟨b5, S', T', cS', cT', q', rfl, hv⟩
        have HB5 : Hid (Below w'.heap.size w' w5) := show Below _ _ _ from HB1.out.trans (b5.mono HB1.out.size)
        refine hK _ _ (fun _ => (HAT.out _ HB5.out).1) ?_
        clear hK K hR
        have hR : (fun W : World => W.rangeAt b (off + k * 6) (askA y m).toList) w5 := (HAT.out _ HB5.out).1
        have HA := Lib.hid (act_any y HY.out.1 HY.out.2 (by have := HY6.out; omega) w5 (HE.out.below HB5.out HE.out.room) (HD1.out.below b5) hv ((HAT.out _ HB5.out).2.mono HF.out))
        rw [HXX.out] at HA
        clear b5 hv
        (try simp only [put_laws])
        (refine wpAnyM_one (i := 6) rfl (by kernel_rfl) (fun K hK => ?_); rw [if_pos (by rfl)]; (try simp only [elem_laws]))
        go_simp
        refine HA.out.mono ?_
        rintro e w6 ⟨F', B', S2, T2, cS2, cT2, q2, S3, T3, cS3, cT3, q3, b', rfl, -, hd', -, ht, hF'⟩
        have HI6 : Hid (PlayI w' 5 B' (d.step 5 y) w6) := show _ ∧ _ from ⟨⟨F', S2, T2, cS2, cT2, q2, hd', fun k hk => (hF' k hk).elim (HF.out k) fun h => Nat.le_trans HB5.out.size h⟩, HB5.out.trans (ht.below HF.out HB5.out.size)⟩
        refine hK _ _ (fun _ => (HAT.out _ HI6.out.2).1) ?_
        clear hK K hR hd' ht hF'
        have hR : (fun W : World => W.rangeAt b (off + k * 6) (askA y m).toList) w6 := (HAT.out _ HI6.out.2).1
        (try simp only [put_laws])
        (refine wpAnyM_take (i := 7) (v := ?_) rfl (by kernel_rfl) (by kernel_rfl) (fun _ _ _ h => h) (Or.inl ⟨by rfl, ?_⟩) hR ?_; rotate_left; (focus (intro w hSw; (try dsimp only at hSw); go_simp; (try with_reducible rfl))); (try simp only [put_laws])); (refine wpAnyM_take (i := 8) (v := ?_) rfl (by kernel_rfl) (by kernel_rfl) (fun _ _ _ h => h) (Or.inl ⟨by rfl, ?_⟩) hR ?_; rotate_left; (focus (intro w hSw; (try dsimp only at hSw); go_simp; (try with_reducible rfl))); (try simp only [put_laws]))
        (refine wpAnyM_pure (i := 9) (v := ?_) rfl (by kernel_rfl) (by kernel_rfl) (fun _ _ _ h => h) (Or.inl ⟨by rfl, ?_⟩) hR ?_; rotate_left; (focus (intro w; go_simp; (try with_reducible rfl))); (try simp only [put_laws])); (refine wpAnyM_pure (i := 10) (v := ?_) rfl (by kernel_rfl) (by kernel_rfl) (fun _ _ _ h => h) (Or.inl ⟨by rfl, ?_⟩) hR ?_; rotate_left; (focus (intro w; go_simp; (try with_reducible rfl))); (try simp only [put_laws]))
        (refine wpAnyM_last rfl (by kernel_rfl) (fun K hK => ?_); rw [if_pos (by rfl)]; (try simp only [elem_laws]))
        clear hR
        go_simp
        refine hK _ _ ?_
        clear hK K
        (try simp only [put_laws])
        refine wpAnyM_done (by kernel_rfl) ?_ _
        go_wp2_with fail
        go_roundw
        case rel => exact ⟨k + 1, B', _, by omega, rfl, by go_num, HI6⟩
        case measure => simp [intOf]; omega
      · obtain rfl : k = N := by omega
        obtain ⟨⟨F, S, T, cS, cT, q, hd, hF⟩, hbl⟩ := HI.out
        have HCP := Lib.hid (copy_any wr hd)
        have HD := Lib.hid hd
        have HFL := Lib.hid hF
        have HBL := Lib.hid hbl
        have HOK := Lib.hid hd.ok
        clear hd hF hbl
        go_wp2_with fail
        refine HCP.out.mono ?_
        rintro e w2 ⟨hb2, C, S2, T2, cS2, cT2, q2, rfl, hc2⟩
        have HB2 : Hid (Below w'.heap.size w' w2) := show Below _ _ _ from HBL.out.trans (hb2.mono HBL.out.size)
        have HE2 := Lib.hid (HE.out.below HB2.out HE.out.room)
        have HD2 := Lib.hid (HD.out.below hb2)
        have HC2 := Lib.hid hc2
        have HST := Lib.hid (store_any p z w2 HE2.out HD2.out)
        clear hb2 hc2
        go_wp2_with fail
        refine HST.out.mono ?_
        rintro e w3 ⟨rfl, ht3, hd3⟩
        have HB3 : Hid (Below w'.heap.size w' w3) := show Below _ _ _ from HB2.out.trans (ht3.below HFL.out HB2.out.size)
        have HE3 := Lib.hid (HE.out.below HB3.out HE.out.room)
        have HD3 : Hid (DevIn w3 w'.heap.size 5 B (d.store 5 p z)) := show DevIn _ _ _ _ _ from ⟨F, S, T, cS, cT, q, hd3, HFL.out⟩
        have HC3 : Hid (DevIn w3 wr.heap.size 5 C d) := show DevIn _ _ _ _ _ from ⟨_, S2, T2, cS2, cT2, q2, HC2.out.turn ht3 (fun k hk _ hk2 => by
          have := HD.out.live k hk2
          have := hk.1
          omega), fun _ hk => hk.1⟩
        have HN0 := Lib.hid (fun W => num4_any 0 W)
        have HN4 := Lib.hid (fun W => num4_any 4 W)
        clear ht3 hd3
        by_cases hp1 : 0 ≤ p
        · by_cases hp2 : p < 40
          · have hir : errR (inR (5 * 8) p) = 0 := by rw [show inR (5 * 8) p = true from inR_iff.2 (by omega)]; rfl
            rw [hir]
            go_wp2_with fail
            refine (HN0.out _).mono ?_
            rintro e v5 ⟨rfl, hv5⟩
            rw [hv5]
            clear hv5 v5
            go_wp2_with fail
            refine (HN0.out _).mono ?_
            rintro e v5 ⟨rfl, hv5⟩
            rw [hv5]
            clear hv5 v5
            go_wp2_with fail
            go_loopw [12] (fun iv wr => ∃ j : Nat, j ≤ 40 ∧ iv = .int .i64 (j : Nat) ∧ Hid (Below w3.heap.size w3 wr)) (fun iv _ => 40 - (intOf iv).toNat)
            case atStart => exact ⟨0, by omega, rfl, (show Below _ _ _ from Below.refl _ _)⟩
            case round =>
              obtain ⟨j, hj, rfl, HJ⟩ := hrel
              by_cases hj5 : j < 40
              · have k2 : (j : Int) < 40 := by omega
                have HLS := Lib.hid (load_store HOK.out p z (show j < 5 * 8 by omega))
                have HSS := Lib.hid (stay_store d 5 p z (j : Int))
                have her : errR (inR (5 * 8) (j : Int)) = 0 := by rw [show inR (5 * 8) (j : Int) = true from inR_iff.2 (by omega)]; rfl
                obtain ⟨Y, hY⟩ : ∃ Y, d.load 5 (j : Int) = Y := ⟨_, rfl⟩
                obtain ⟨V, hV⟩ : ∃ V, d.stay 5 (j : Int) = V := ⟨_, rfl⟩
                obtain ⟨X, hX⟩ : ∃ X, (d.store 5 p z).load 5 (j : Int) = X := ⟨_, rfl⟩
                rw [hX, hY] at HLS
                rw [hV] at HSS
                have HL1 := Lib.hid (load_in (j : Int) (HE3.out.below HJ.out HE3.out.room) (HD3.out.below HJ.out))
                rw [her, hX] at HL1
                have hEW := HE3.out.below HJ.out HE3.out.room
                have HEW := Lib.hid hEW
                have HDW := Lib.hid (HD3.out.below HJ.out)
                have HCW := Lib.hid (HC3.out.below HJ.out)
                have HL2 := Lib.hid (fun W (hb : Below wr.heap.size wr W) => load_in (j : Int) (HEW.out.below hb HEW.out.room) (HCW.out.below hb))
                rw [her, hY] at HL2
                have HL3 := Lib.hid (fun W (hb : Below wr.heap.size wr W) => stays_in (j : Int) (HEW.out.below hb HEW.out.room) (HDW.out.below hb))
                rw [her, HSS.out] at HL3
                have HL4 := Lib.hid (fun W (hb : Below wr.heap.size wr W) => stays_in (j : Int) (HEW.out.below hb HEW.out.room) (HCW.out.below hb))
                rw [her, hV] at HL4
                clear hEW her hY hV hX
                go_wp2_with fail
                refine HL1.out.mono ?_
                rintro e v1 ⟨rfl, hb1⟩
                have HV1 := Lib.hid hb1
                clear hb1
                go_wp2_with fail
                refine (HL2.out _ HV1.out).mono ?_
                rintro e v2 ⟨rfl, hb1⟩
                have HV2 := Lib.hid (HV1.out.trans (hb1.mono HV1.out.size))
                clear hb1
                go_wp2_with fail
                refine (HL3.out _ HV2.out).mono ?_
                rintro e v3 ⟨rfl, hb1⟩
                have HV3 := Lib.hid (HV2.out.trans (hb1.mono HV2.out.size))
                clear hb1
                go_wp2_with fail
                refine (HL4.out _ HV3.out).mono ?_
                rintro e v4 ⟨rfl, hb1⟩
                have HV4 := Lib.hid (HV3.out.trans (hb1.mono HV3.out.size))
                have HJ2 : Hid (Below w3.heap.size w3 v4) := show Below _ _ _ from HJ.out.trans (HV4.out.mono HJ.out.size)
                clear hb1
                by_cases hjp : (j : Int) = p
                · rw [if_pos hjp] at HLS
                  have hXz : X = z := HLS.out
                  have hjp2 : ((j : Int) != p) = false := by simp [hjp]
                  have hjp3 : ((j : Int) == p) = true := by simp [hjp]
                  subst hXz
                  go_wp2_with fail
                  iterate 4
                    refine (HN0.out _).mono ?_
                    rintro e v5 ⟨rfl, rfl⟩
                    go_wp2_with fail
                  go_roundw
                  case rel => exact ⟨j + 1, by omega, by go_num, HJ2⟩
                  case measure => simp [intOf]; omega
                · rw [if_neg hjp] at HLS
                  have hXY : X = Y := HLS.out
                  have hjp2 : ((j : Int) != p) = true := by simp [hjp]
                  have hjp3 : ((j : Int) == p) = false := by simp [hjp]
                  subst hXY
                  go_wp2_with fail
                  iterate 4
                    refine (HN0.out _).mono ?_
                    rintro e v5 ⟨rfl, rfl⟩
                    go_wp2_with fail
                  go_roundw
                  case rel => exact ⟨j + 1, by omega, by go_num, HJ2⟩
                  case measure => simp [intOf]; omega
              · obtain rfl : j = 40 := by omega
                have HJ2 : Hid (Below w'.heap.size w' wr) := show Below _ _ _ from HB3.out.trans (HJ.out.mono HB3.out.size)
                go_wp2_with fail
                refine (HW4.out _ HJ2.out).mono ?_
                rintro e v5 ⟨rfl, hb5⟩
                go_wp2_with fail
                go_ret
                exact ⟨rfl, HJ2.out.trans (hb5.mono HJ2.out.size)⟩
          · have hir : errR (inR (5 * 8) p) = 4 := by rw [show inR (5 * 8) p = false from decide_eq_false (by omega)]; rfl
            rw [hir]
            go_wp2_with fail
            refine (HN0.out _).mono ?_
            rintro e v5 ⟨rfl, hv5⟩
            rw [hv5]
            clear hv5 v5
            go_wp2_with fail
            refine (HN4.out _).mono ?_
            rintro e v5 ⟨rfl, hv5⟩
            rw [hv5]
            clear hv5 v5
            go_wp2_with fail
            go_loopw [12] (fun iv wr => ∃ j : Nat, j ≤ 40 ∧ iv = .int .i64 (j : Nat) ∧ Hid (Below w3.heap.size w3 wr)) (fun iv _ => 40 - (intOf iv).toNat)
            case atStart => exact ⟨0, by omega, rfl, (show Below _ _ _ from Below.refl _ _)⟩
            case round =>
              obtain ⟨j, hj, rfl, HJ⟩ := hrel
              by_cases hj5 : j < 40
              · have k2 : (j : Int) < 40 := by omega
                have HLS := Lib.hid (load_store HOK.out p z (show j < 5 * 8 by omega))
                have HSS := Lib.hid (stay_store d 5 p z (j : Int))
                have her : errR (inR (5 * 8) (j : Int)) = 0 := by rw [show inR (5 * 8) (j : Int) = true from inR_iff.2 (by omega)]; rfl
                obtain ⟨Y, hY⟩ : ∃ Y, d.load 5 (j : Int) = Y := ⟨_, rfl⟩
                obtain ⟨V, hV⟩ : ∃ V, d.stay 5 (j : Int) = V := ⟨_, rfl⟩
                obtain ⟨X, hX⟩ : ∃ X, (d.store 5 p z).load 5 (j : Int) = X := ⟨_, rfl⟩
                rw [hX, hY] at HLS
                rw [hV] at HSS
                have HL1 := Lib.hid (load_in (j : Int) (HE3.out.below HJ.out HE3.out.room) (HD3.out.below HJ.out))
                rw [her, hX] at HL1
                have hEW := HE3.out.below HJ.out HE3.out.room
                have HEW := Lib.hid hEW
                have HDW := Lib.hid (HD3.out.below HJ.out)
                have HCW := Lib.hid (HC3.out.below HJ.out)
                have HL2 := Lib.hid (fun W (hb : Below wr.heap.size wr W) => load_in (j : Int) (HEW.out.below hb HEW.out.room) (HCW.out.below hb))
                rw [her, hY] at HL2
                have HL3 := Lib.hid (fun W (hb : Below wr.heap.size wr W) => stays_in (j : Int) (HEW.out.below hb HEW.out.room) (HDW.out.below hb))
                rw [her, HSS.out] at HL3
                have HL4 := Lib.hid (fun W (hb : Below wr.heap.size wr W) => stays_in (j : Int) (HEW.out.below hb HEW.out.room) (HCW.out.below hb))
                rw [her, hV] at HL4
                clear hEW her hY hV hX
                go_wp2_with fail
                refine HL1.out.mono ?_
                rintro e v1 ⟨rfl, hb1⟩
                have HV1 := Lib.hid hb1
                clear hb1
                go_wp2_with fail
                refine (HL2.out _ HV1.out).mono ?_
                rintro e v2 ⟨rfl, hb1⟩
                have HV2 := Lib.hid (HV1.out.trans (hb1.mono HV1.out.size))
                clear hb1
                go_wp2_with fail
                refine (HL3.out _ HV2.out).mono ?_
                rintro e v3 ⟨rfl, hb1⟩
                have HV3 := Lib.hid (HV2.out.trans (hb1.mono HV2.out.size))
                clear hb1
                go_wp2_with fail
                refine (HL4.out _ HV3.out).mono ?_
                rintro e v4 ⟨rfl, hb1⟩
                have HV4 := Lib.hid (HV3.out.trans (hb1.mono HV3.out.size))
                have HJ2 : Hid (Below w3.heap.size w3 v4) := show Below _ _ _ from HJ.out.trans (HV4.out.mono HJ.out.size)
                clear hb1
                by_cases hjp : (j : Int) = p
                · rw [if_pos hjp] at HLS
                  have hXz : X = z := HLS.out
                  have hjp2 : ((j : Int) != p) = false := by simp [hjp]
                  have hjp3 : ((j : Int) == p) = true := by simp [hjp]
                  subst hXz
                  go_wp2_with fail
                  iterate 4
                    refine (HN0.out _).mono ?_
                    rintro e v5 ⟨rfl, rfl⟩
                    go_wp2_with fail
                  go_roundw
                  case rel => exact ⟨j + 1, by omega, by go_num, HJ2⟩
                  case measure => simp [intOf]; omega
                · rw [if_neg hjp] at HLS
                  have hXY : X = Y := HLS.out
                  have hjp2 : ((j : Int) != p) = true := by simp [hjp]
                  have hjp3 : ((j : Int) == p) = false := by simp [hjp]
                  subst hXY
                  go_wp2_with fail
                  iterate 4
                    refine (HN0.out _).mono ?_
                    rintro e v5 ⟨rfl, rfl⟩
                    go_wp2_with fail
                  go_roundw
                  case rel => exact ⟨j + 1, by omega, by go_num, HJ2⟩
                  case measure => simp [intOf]; omega
              · obtain rfl : j = 40 := by omega
                have HJ2 : Hid (Below w'.heap.size w' wr) := show Below _ _ _ from HB3.out.trans (HJ.out.mono HB3.out.size)
                go_wp2_with fail
                refine (HW4.out _ HJ2.out).mono ?_
                rintro e v5 ⟨rfl, hb5⟩
                go_wp2_with fail
                go_ret
                exact ⟨rfl, HJ2.out.trans (hb5.mono HJ2.out.size)⟩
        · have hir : errR (inR (5 * 8) p) = 4 := by rw [show inR (5 * 8) p = false from decide_eq_false (by omega)]; rfl
          rw [hir]
          go_wp2_with fail
          refine (HN0.out _).mono ?_
          rintro e v5 ⟨rfl, hv5⟩
          rw [hv5]
          clear hv5 v5
          go_wp2_with fail
          refine (HN4.out _).mono ?_
          rintro e v5 ⟨rfl, hv5⟩
          rw [hv5]
          clear hv5 v5
          go_wp2_with fail
          go_loopw [12] (fun iv wr => ∃ j : Nat, j ≤ 40 ∧ iv = .int .i64 (j : Nat) ∧ Hid (Below w3.heap.size w3 wr)) (fun iv _ => 40 - (intOf iv).toNat)
          case atStart => exact ⟨0, by omega, rfl, (show Below _ _ _ from Below.refl _ _)⟩
          case round =>
            obtain ⟨j, hj, rfl, HJ⟩ := hrel
            by_cases hj5 : j < 40
            · have k2 : (j : Int) < 40 := by omega
              have HLS := Lib.hid (load_store HOK.out p z (show j < 5 * 8 by omega))
              have HSS := Lib.hid (stay_store d 5 p z (j : Int))
              have her : errR (inR (5 * 8) (j : Int)) = 0 := by rw [show inR (5 * 8) (j : Int) = true from inR_iff.2 (by omega)]; rfl
              obtain ⟨Y, hY⟩ : ∃ Y, d.load 5 (j : Int) = Y := ⟨_, rfl⟩
              obtain ⟨V, hV⟩ : ∃ V, d.stay 5 (j : Int) = V := ⟨_, rfl⟩
              obtain ⟨X, hX⟩ : ∃ X, (d.store 5 p z).load 5 (j : Int) = X := ⟨_, rfl⟩
              rw [hX, hY] at HLS
              rw [hV] at HSS
              have HL1 := Lib.hid (load_in (j : Int) (HE3.out.below HJ.out HE3.out.room) (HD3.out.below HJ.out))
              rw [her, hX] at HL1
              have hEW := HE3.out.below HJ.out HE3.out.room
              have HEW := Lib.hid hEW
              have HDW := Lib.hid (HD3.out.below HJ.out)
              have HCW := Lib.hid (HC3.out.below HJ.out)
              have HL2 := Lib.hid (fun W (hb : Below wr.heap.size wr W) => load_in (j : Int) (HEW.out.below hb HEW.out.room) (HCW.out.below hb))
              rw [her, hY] at HL2
              have HL3 := Lib.hid (fun W (hb : Below wr.heap.size wr W) => stays_in (j : Int) (HEW.out.below hb HEW.out.room) (HDW.out.below hb))
              rw [her, HSS.out] at HL3
              have HL4 := Lib.hid (fun W (hb : Below wr.heap.size wr W) => stays_in (j : Int) (HEW.out.below hb HEW.out.room) (HCW.out.below hb))
              rw [her, hV] at HL4
              clear hEW her hY hV hX
              go_wp2_with fail
              refine HL1.out.mono ?_
              rintro e v1 ⟨rfl, hb1⟩
              have HV1 := Lib.hid hb1
              clear hb1
              go_wp2_with fail
              refine (HL2.out _ HV1.out).mono ?_
              rintro e v2 ⟨rfl, hb1⟩
              have HV2 := Lib.hid (HV1.out.trans (hb1.mono HV1.out.size))
              clear hb1
              go_wp2_with fail
              refine (HL3.out _ HV2.out).mono ?_
              rintro e v3 ⟨rfl, hb1⟩
              have HV3 := Lib.hid (HV2.out.trans (hb1.mono HV2.out.size))
              clear hb1
              go_wp2_with fail
              refine (HL4.out _ HV3.out).mono ?_
              rintro e v4 ⟨rfl, hb1⟩
              have HV4 := Lib.hid (HV3.out.trans (hb1.mono HV3.out.size))
              have HJ2 : Hid (Below w3.heap.size w3 v4) := show Below _ _ _ from HJ.out.trans (HV4.out.mono HJ.out.size)
              clear hb1
              by_cases hjp : (j : Int) = p
              · rw [if_pos hjp] at HLS
                have hXz : X = z := HLS.out
                have hjp2 : ((j : Int) != p) = false := by simp [hjp]
                have hjp3 : ((j : Int) == p) = true := by simp [hjp]
                subst hXz
                go_wp2_with fail
                iterate 4
                  refine (HN0.out _).mono ?_
                  rintro e v5 ⟨rfl, rfl⟩
                  go_wp2_with fail
                go_roundw
                case rel => exact ⟨j + 1, by omega, by go_num, HJ2⟩
                case measure => simp [intOf]; omega
              · rw [if_neg hjp] at HLS
                have hXY : X = Y := HLS.out
                have hjp2 : ((j : Int) != p) = true := by simp [hjp]
                have hjp3 : ((j : Int) == p) = false := by simp [hjp]
                subst hXY
                go_wp2_with fail
                iterate 4
                  refine (HN0.out _).mono ?_
                  rintro e v5 ⟨rfl, rfl⟩
                  go_wp2_with fail
                go_roundw
                case rel => exact ⟨j + 1, by omega, by go_num, HJ2⟩
                case measure => simp [intOf]; omega
            · obtain rfl : j = 40 := by omega
              have HJ2 : Hid (Below w'.heap.size w' wr) := show Below _ _ _ from HB3.out.trans (HJ.out.mono HB3.out.size)
              go_wp2_with fail
              refine (HW4.out _ HJ2.out).mono ?_
              rintro e v5 ⟨rfl, hb5⟩
              go_wp2_with fail
              go_ret
              exact ⟨rfl, HJ2.out.trans (hb5.mono HJ2.out.size)⟩
end Go.Proofs.YtoghidbgmflleaaDoor
