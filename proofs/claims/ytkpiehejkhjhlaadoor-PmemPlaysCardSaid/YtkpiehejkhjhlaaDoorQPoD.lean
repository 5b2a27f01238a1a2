/-
  The walk of the law PmemAll.
-/
import Derived.Test.YtkpiehejkhjhlaaDoorMg16
namespace Go.Proofs.YtkpiehejkhjhlaaDoor
open Go.RowKit Go.Shelf

/-- In the rounds of a law that plays calls. -/
def PlayI (w : World) (n B : Nat) (d : Dv) (wr : World) : Prop := DevIn wr w.heap.size n B d ∧ Below w.heap.size w wr
/-- An element of a list of calls, loaded. -/
theorem load_ask {W : World} {b off k : Nat} {x : Ask} {m : Value} (h : W.rangeAt b (off + k * 6) (askA x m).toList) : (Instr.loadAt 43 (.pointer (some ⟨b, off + k * 6, none⟩))).run Tryd.prog W = .ok (.agg (askA x m)) W :=
  run_loadAt_mid W b (off + k * 6) 43 _ _ h Tryd.underlying43 rfl (by kernel_rfl)
/-- The calls of a list, one by one, wherever the walk stands. -/
theorem ask_at {w : World} {a : Option Addr} {cap N : Nat} {xs : List Ask} (hN : xs.length = N) (hs : SlA w (fun k => w.heap.size ≤ k) (.slice a N cap) xs) (k : Nat) (hk : k < N) :
    ∃ b off m y, y ∈ xs ∧ a = some ⟨b, off, none⟩ ∧ ∀ W, Below w.heap.size w W → W.rangeAt b (off + k * 6) (askA y m).toList ∧ SlB W (fun k => w.heap.size ≤ k) m y.marks := by
  subst hN
  obtain ⟨a', cap', e, hc⟩ := hs
  simp only [Value.slice.injEq, true_and] at e
  obtain ⟨rfl, rfl⟩ := e
  obtain ⟨b, off, ha, hb, -, hj⟩ := hc (by omega)
  obtain ⟨m, h1, h2⟩ := hj k hk
  exact ⟨b, off, m, xs[k], List.getElem_mem hk, ha, fun W hW => ⟨fun j v hv => (World.cell?_of_block (a := ⟨b, off + k * 6 + j, none⟩) (hW.block b hb)).trans (h1 j v hv), h2.low hW⟩⟩
theorem few_marks {xs : List Ask} {most : Int} (h : fewA xs most = true) {y : Ask} (hy : y ∈ xs) : y.marks.length ≤ 60 := by
  unfold fewA at h
  rw [Bool.and_eq_true] at h
  exact of_decide_eq_true (List.all_eq_true.1 h.1 y hy)
set_option maxRecDepth 100000 in
set_option maxHeartbeats 4000000 in
theorem all4_any {v u : Value} {xs : List Ask} {marks : List Bool} (w : World) (hen : Ends w) (hl : xs.length ≤ 9223372036854775807) (hx : ∀ y ∈ xs, -9223372036854775808 ≤ y.at_ ∧ y.at_ ≤ 9223372036854775807) (hs : SlA w (fun k => w.heap.size ≤ k) v xs) (hm : SlB w (fun k => w.heap.size ≤ k) u marks) :
    Calls Tryd.prog 7 #[v, u] w fun e w' => e = .returned (.bool true) ∧ Below w.heap.size w w' := by
  have HFW := Lib.hid (few_any 20 w hl hs)
  have HX := Lib.hid hx
  have HE := Lib.hid hen
  obtain ⟨a, cap, rfl, -⟩ := id hs
  obtain ⟨ma, mc, rfl, -⟩ := id hm
  obtain ⟨N, hN⟩ : ∃ N, xs.length = N := ⟨_, rfl⟩
  obtain ⟨M, hM⟩ : ∃ M, marks.length = M := ⟨_, rfl⟩
  rw [hN] at HFW hs hl ⊢
  rw [hM] at hm ⊢
  have HM := Lib.hid hM
  have HMM := Lib.hid hm
  have HAK := Lib.hid (ask_at hN hs)
  have HW4 := Lib.hid (fun W (hb : Below w.heap.size w W) => works4_any W (hen.below hb hen.room))
  have HNW := Lib.hid (new_in 5 (by decide) (by decide) w hen)
  have hnoF : ¬ ∃ k, w.heap.size ≤ k ∧ k = 0 := fun ⟨k, h1, h2⟩ => by have := hen.room; omega
  have HNF := Lib.hid hnoF
  cases hf : fewA xs 20 with
  | false =>
    rw [hf] at HFW
    clear hen hx hs hm hM hN hnoF hf
    go_enter Tryd.func7, Tryd.ntmps7
    go_wp2_with fail
    refine HFW.out.mono ?_
    rintro e w' ⟨rfl, rfl⟩
    go_wp2_with fail
    refine (HW4.out _ (Below.refl _ _)).mono ?_
    rintro e w' ⟨rfl, hb⟩
    go_wp2_with fail
    go_ret
    exact ⟨rfl, hb⟩
  | true =>
    have HMK : Hid (∀ y ∈ xs, y.marks.length ≤ 60) := show ∀ _, _ from fun y hy => few_marks hf hy
    rw [hf] at HFW
    clear hen hx hs hm hM hN hnoF hf
    by_cases h60 : 60 < (M : Int)
    · go_enter Tryd.func7, Tryd.ntmps7
      go_wp2_with fail
      refine HFW.out.mono ?_
      rintro e w' ⟨rfl, rfl⟩
      go_wp2_with fail
      refine (HW4.out _ (Below.refl _ _)).mono ?_
      rintro e w' ⟨rfl, hb⟩
      go_wp2_with fail
      go_ret
      exact ⟨rfl, hb⟩
    · go_enter Tryd.func7, Tryd.ntmps7
      go_wp2_with fail
      refine HFW.out.mono ?_
      rintro e w' ⟨rfl, rfl⟩
      go_wp2_with fail
      refine HNW.out.mono ?_
      rintro e w1 ⟨B, rfl, hb1, hd1⟩
      have HI0 : Hid (PlayI w' 5 B (Dv.new 5) w1) := show _ ∧ _ from ⟨hd1, hb1⟩
      clear hb1 hd1
      go_wp2_with fail
      go_loopw [5, 7] (fun dv i wr => ∃ (k B : Nat) (d : Dv), k ≤ N ∧ dv = .pointer (some ⟨B, 0, none⟩) ∧ i = .int .i64 (k : Nat) ∧ Hid (PlayI w' 5 B d wr)) (fun _ i _ => N - (intOf i).toNat)
      case atStart => exact ⟨0, B, _, by omega, rfl, rfl, HI0⟩
      case round =>
        obtain ⟨k, B, d, hk, rfl, rfl, HI⟩ := hrel
        by_cases hlt : k < N
        · obtain ⟨b, off, m, y, hy, rfl, hat⟩ := HAK.out k hlt
          have HY := Lib.hid (HX.out y hy)
          have HY6 := Lib.hid (HMK.out y hy)
          have HAT := Lib.hid hat
          obtain ⟨⟨F, S, T, cS, cT, q, hd, hF⟩, hbl⟩ := HI.out
          have k2 : (k : Int) < (N : Int) := by omega
          have hd1 : Below wr.heap.size wr wr.drew := Below.drew (Below.refl _ _)
          have HB1 : Hid (Below w'.heap.size w' wr.drew) := show Below _ _ _ from hbl.trans (hd1.mono hbl.size)
          have HD1 := Lib.hid (hd.below hd1)
          have HF := Lib.hid hF
          have hR : (fun W : World => W.rangeAt b (off + k * 6) (askA y m).toList) wr.drew := (hat _ HB1.out).1
          obtain ⟨X, hX⟩ : ∃ X, Value.agg (askA y m) = X := ⟨_, rfl⟩
          have HLR := Lib.hid (fun (W : World) (h : W.rangeAt b (off + k * 6) (askA y m).toList) => (load_ask h).trans (by rw [hX]))
          have HN5 := Lib.hid (none5_any (F := F) wr.drew HD1.out.live)
          have HXX := Lib.hid hX
          clear hd hF hbl hd1 hat hX hy
          go_wp2_with fail
          refine wp_region_M 11 (fun W : World => W.rangeAt b (off + k * 6) (askA y m).toList) (by kernel_rfl) ?_
          (refine wpAnyM_take (i := 0) (v := ?_) rfl (by kernel_rfl) (by kernel_rfl) (fun _ _ _ h => h) (Or.inl ⟨by rfl, ?_⟩) hR ?_; rotate_left; (focus (intro w hSw; (try dsimp only at hSw); go_simp; (try with_reducible rfl))); (try simp only [put_laws])); (refine wpAnyM_take (i := 2) (v := ?_) rfl (by kernel_rfl) (by kernel_rfl) (fun _ _ _ h => h) (Or.inl ⟨by rfl, ?_⟩) hR ?_; rotate_left; (focus (intro w hSw; (try dsimp only at hSw); go_simp; (try with_reducible rfl))); (try simp only [put_laws])); (refine wpAnyM_take (i := 3) (v := ?_) rfl (by kernel_rfl) (by kernel_rfl) (fun _ _ _ h => h) (Or.inl ⟨by rfl, ?_⟩) hR ?_; rotate_left; (focus (intro w hSw; (try dsimp only at hSw); go_simp; (try with_reducible rfl))); (try simp only [put_laws])); (refine wpAnyM_take (i := 4) (v := ?_) rfl (by kernel_rfl) (by kernel_rfl) (fun _ _ _ h => h) (Or.inl ⟨by rfl, ?_⟩) hR ?_; rotate_left; (focus (intro w hSw; (try dsimp only at hSw); go_simp; (try with_reducible rfl))); (try simp only [put_laws]))
          (refine wpAnyM_take (i := 5) (v := _) rfl (by kernel_rfl) (by kernel_rfl) (fun _ _ _ h => h) (Or.inl ⟨by rfl, fun w hSw => exec_load_eq rfl rfl (HLR.out w hSw)⟩) hR ?_; (try simp only [put_laws]))
          (refine wpAnyM_one (i := 1) rfl (by kernel_rfl) (fun K hK => ?_); rw [if_pos (by rfl)]; (try simp only [elem_laws]))
          go_simp
          refine HN5.out.mono ?_
          rintro e w5 ⟨b5, S', T', cS', cT', q', rfl, hv⟩
          have HB5 : Hid (Below w'.heap.size w' w5) := show Below _ _ _ from HB1.out.trans (b5.mono HB1.out.size)
          refine hK _ _ (fun _ => (HAT.out _ HB5.out).1) ?_
          clear hK K hR
          have hR : (fun W : World => W.rangeAt b (off + k * 6) (askA y m).toList) w5 := (HAT.out _ HB5.out).1
          have HA := Lib.hid (act_any y HY.out.1 HY.out.2 (by have := HY6.out; omega) w5 (HE.out.below HB5.out HE.out.room) (HD1.out.below b5) hv ((HAT.out _ HB5.out).2.mono HF.out))
          rw [HXX.out] at HA
          clear b5 hv
          (try simp only [put_laws])
          (refine wpAnyM_one (i := 6) rfl (by kernel_rfl) (fun K hK => ?_); rw [if_pos (by rfl)]; (try simp only [elem_laws]))
          go_simp
          refine HA.out.mono ?_
          rintro e w6 ⟨F', B', S2, T2, cS2, cT2, q2, S3, T3, cS3, cT3, q3, b', rfl, -, hd', -, ht, hF'⟩
          have HI6 : Hid (PlayI w' 5 B' (d.step 5 y) w6) := show _ ∧ _ from ⟨⟨F', S2, T2, cS2, cT2, q2, hd', fun k hk => (hF' k hk).elim (HF.out k) fun h => Nat.le_trans HB5.out.size h⟩, HB5.out.trans (ht.below HF.out HB5.out.size)⟩
          refine hK _ _ (fun _ => (HAT.out _ HI6.out.2).1) ?_
          clear hK K hR hd' ht hF'
          have hR : (fun W : World => W.rangeAt b (off + k * 6) (askA y m).toList) w6 := (HAT.out _ HI6.out.2).1
          (try simp only [put_laws])
          (refine wpAnyM_take (i := 7) (v := ?_) rfl (by kernel_rfl) (by kernel_rfl) (fun _ _ _ h => h) (Or.inl ⟨by rfl, ?_⟩) hR ?_; rotate_left; (focus (intro w hSw; (try dsimp only at hSw); go_simp; (try with_reducible rfl))); (try simp only [put_laws])); (refine wpAnyM_take (i := 8) (v := ?_) rfl (by kernel_rfl) (by kernel_rfl) (fun _ _ _ h => h) (Or.inl ⟨by rfl, ?_⟩) hR ?_; rotate_left; (focus (intro w hSw; (try dsimp only at hSw); go_simp; (try with_reducible rfl))); (try simp only [put_laws]))
          (refine wpAnyM_pure (i := 9) (v := ?_) rfl (by kernel_rfl) (by kernel_rfl) (fun _ _ _ h => h) (Or.inl ⟨by rfl, ?_⟩) hR ?_; rotate_left; (focus (intro w; go_simp; (try with_reducible rfl))); (try simp only [put_laws])); (refine wpAnyM_pure (i := 10) (v := ?_) rfl (by kernel_rfl) (by kernel_rfl) (fun _ _ _ h => h) (Or.inl ⟨by rfl, ?_⟩) hR ?_; rotate_left; (focus (intro w; go_simp; (try with_reducible rfl))); (try simp only [put_laws]))
          (refine wpAnyM_last rfl (by kernel_rfl) (fun K hK => ?_); rw [if_pos (by rfl)]; (try simp only [elem_laws]))
          clear hR
          go_simp
          refine hK _ _ ?_
          clear hK K
          (try simp only [put_laws])
          refine wpAnyM_done (by kernel_rfl) ?_ _
          go_wp2_with fail
          go_roundw
          case rel => exact ⟨k + 1, B', _, by omega, rfl, by go_num, HI6⟩
          case measure => simp [intOf]; omega
        · obtain rfl : k = N := by omega
          go_wp2_with fail
          go_loopw [8, 9] (fun nv kv wr => ∃ j : Nat, j ≤ 5 ∧ nv = .int .i64 0 ∧ kv = .int .i64 (j : Nat) ∧ Hid (PlayI w' 5 B (d.flushTo 5 j) wr)) (fun _ kv _ => 5 - (intOf kv).toNat)
          case atStart => exact ⟨0, by omega, rfl, rfl, HI⟩
          case round =>
            obtain ⟨j, hj, rfl, rfl, HJ⟩ := hrel
            by_cases hj5 : j < 5
            · have HFL := Lib.hid (flush_in (j : Int) HJ.out.2.size HJ.out.1)
              rw [show inR 5 (j : Int) = true from inR_iff.2 (by omega), show errR true = 0 from rfl] at HFL
              have k2 : (j : Int) < 5 := by omega
              go_wp2_with fail
              refine HFL.out.mono ?_
              rintro e w7 ⟨rfl, hb7, hd7⟩
              have HJ7 : Hid (PlayI w' 5 B (d.flushTo 5 (j + 1)) w7) := show _ ∧ _ from ⟨hd7, HJ.out.2.trans hb7⟩
              clear hb7 hd7 HJ
              have HNM := Lib.hid (num4_any 0 w7)
              go_wp2_with fail
              refine HNM.out.mono ?_
              rintro e w8 ⟨rfl, rfl⟩
              go_wp2_with fail
              go_roundw
              case rel => exact ⟨j + 1, by omega, rfl, by go_num, HJ7⟩
              case measure => simp [intOf]; omega
            · obtain rfl : j = 5 := by omega
              obtain ⟨E1, E2, E3⟩ := all_end HI.out.1.ok marks
              have HE3 := Lib.hid E3
              have HFN := Lib.hid (fence_in HJ.out.2.size HJ.out.1)
              go_wp2_with fail
              refine HFN.out.mono ?_
              rintro e w7 ⟨rfl, hb7, hd7⟩
              have HD7 := Lib.hid hd7
              have HB7 : Hid (Below w'.heap.size w' w7) := show Below _ _ _ from HJ.out.2.trans hb7
              have HNM := Lib.hid (num4_any 0 w7)
              have HST := Lib.hid (state_in hd7)
              rw [E1, E2] at HST
              clear hb7 hd7 HJ HI E1 E2 E3
              go_wp2_with fail
              refine HNM.out.mono ?_
              rintro e w8 ⟨rfl, rfl⟩
              go_wp2_with fail
              refine HST.out.mono ?_
              rintro e w9 ⟨rfl, hb9⟩
              have HD9 := Lib.hid (HD7.out.below hb9)
              have HB9 : Hid (Below w'.heap.size w' w9) := show Below _ _ _ from HB7.out.trans (hb9.mono HB7.out.size)
              clear hb9
              go_wp2_with fail
              have hbA : Below w9.heap.size w9 (w9.alloc (.cells #[.int .i64 5, .int .i64 0, .int .i64 0] 31)) := (Below.refl _ _).alloc (Nat.le_refl _) _
              have hXA : Box3 (w9.alloc (.cells #[.int .i64 5, .int .i64 0, .int .i64 0] 31)) w9.heap.size 31 (.int .i64 5) (.int .i64 0) (.int .i64 0) := Box3.new w9 _ _ _ _
              obtain ⟨WA, hWA⟩ : ∃ WA, (w9.alloc (.cells #[.int .i64 5, .int .i64 0, .int .i64 0] 31)) = WA := ⟨_, rfl⟩
              have hzA : WA.heap.size = w9.heap.size + 1 := by rw [← hWA]; simp
              rw [hWA] at hbA hXA ⊢
              have HDA := Lib.hid (HD9.out.below hbA)
              have HBA : Hid (Below w'.heap.size w' WA) := show Below _ _ _ from HB9.out.trans (hbA.mono HB9.out.size)
              have HXA := Lib.hid hXA
              clear hbA hXA hWA
              refine (copy_in HDA.out).mono ?_
              rintro e w10 ⟨C, rfl, hb10, hc10⟩
              have HB10 := Lib.hid hb10
              have HC10 := Lib.hid hc10
              have hmk : marks.length ≤ 100000 := by have := HM.out; omega
              have HCR := Lib.hid (crash_in marks hmk hb10.size hc10 ((HMM.out.low (HBA.out.trans (hb10.mono HBA.out.size))).mono fun k hk => Nat.le_trans HBA.out.size hk))
              rw [HM.out] at *
              clear hb10 hc10 hmk
              go_wp2_with fail
              refine HCR.out.mono ?_
              rintro e w11 ⟨rfl, hb11, hc11⟩
              have hbb : Below WA.heap.size WA w11 := HB10.out.trans hb11
              have HSM := Lib.hid (same_in hc11 (HDA.out.below hbb))
              rw [HE3.out] at HSM
              have hX11 := HXA.out.below hbb (by omega)
              obtain ⟨c0, c1, c2, -⟩ := hX11.cells
              have HB11 : Hid (Below w'.heap.size w' w11) := show Below _ _ _ from HBA.out.trans (hbb.mono HBA.out.size)
              have HNM2 := Lib.hid (num4_any 0 w11)
              have HW11 := Lib.hid (fun W (hb : Below w11.heap.size w11 W) => HW4.out W (HB11.out.trans (hb.mono HB11.out.size)))
              clear hbb hb11 hc11 hX11
              go_wp2_with fail
              refine HNM2.out.mono ?_
              rintro e w12 ⟨rfl, rfl⟩
              go_wp2_with fail
              refine HNM2.out.mono ?_
              rintro e w12 ⟨rfl, rfl⟩
              go_wp2_with fail
              refine HSM.out.mono ?_
              rintro e w13 ⟨rfl, hb13⟩
              have HB13 := Lib.hid hb13
              go_wp2_with fail
              refine (HW11.out _ HB13.out).mono ?_
              rintro e w14 ⟨rfl, hb14⟩
              go_wp2_with fail
              go_ret
              exact ⟨rfl, HB11.out.trans ((HB13.out.trans (hb14.mono HB13.out.size)).mono HB11.out.size)⟩
end Go.Proofs.YtkpiehejkhjhlaaDoor
