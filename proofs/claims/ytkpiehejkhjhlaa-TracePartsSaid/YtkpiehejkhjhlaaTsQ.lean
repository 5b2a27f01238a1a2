/-
  The walk of the law TraceParts (written by gen_tsq.py).
-/
import Derived.Test.YtkpiehejkhjhlaaTsP
namespace Go.Proofs.Ytkpiehejkhjhlaa
open Go.RowKit Go.Shelf Go.Maps

set_option maxRecDepth 100000 in
set_option maxHeartbeats 8000000 in
theorem parts5_main {v u : Value} {ts us : List Tch} (w : World) (hl1 : ts.length ≤ 30) (hl2 : us.length ≤ 30) (hok1 : ∀ t ∈ ts, okT t) (hok2 : ∀ t ∈ us, okT t) (hs1 : SlT w v ts) (hs2 : SlT w u us) (hc1 : checkT ts = 0) (hc2 : checkT us = 0) :
    Calls Try.prog 8 #[v, u] w fun e w' => e = .returned (.bool true) ∧ Below w.heap.size w w' := by
  have HW := Lib.hid works5_any
  have HNU := Lib.hid num5_any
  obtain ⟨i0, hi, hz0, hz1, hz2⟩ := info_of infoT
  have HII := Lib.hid hi
  have HK1 := Lib.hid (checkT_any w (by omega) hs1)
  have HK2 := Lib.hid (fun W (hb : Below w.heap.size w W) => checkT_any W (by omega) (hs2.below hb))
  rw [hc1] at HK1
  rw [hc2] at HK2
  have HP1 := Lib.hid (fun W (hb : Below w.heap.size w W) => puts5_any W (by omega) hok1 (hs1.below hb))
  have HP2 := Lib.hid (fun W (hb : Below w.heap.size w W) => puts5_any W (by omega) hok2 (hs2.below hb))
  have HV1 := Lib.hid (fun W (hb : Below w.heap.size w W) => (hs1.below hb).vec)
  have HV2 := Lib.hid (fun W (hb : Below w.heap.size w W) => (hs2.below hb).vec)
  have HO1 := Lib.hid hok1
  have HO2 := Lib.hid hok2
  have HOKB : Hid (∀ t ∈ ts ++ us, okT t) := show ∀ t ∈ ts ++ us, okT t from fun t ht => (List.mem_append.1 ht).elim (hok1 t) (hok2 t)
  have hc3 : checkT (ts ++ us) = 0 := check_of (by rw [List.all_append, (check_right hc1).1, (check_right hc2).1]; rfl) (by rw [List.length_append]; omega)
  have HPB := Lib.hid (putF_both hc1 hc2 hc3)
  obtain ⟨P, hP⟩ : ∃ P, putsV ts = P := ⟨_, rfl⟩
  obtain ⟨Q, hQ⟩ : ∃ Q, putsV us = Q := ⟨_, rfl⟩
  obtain ⟨C, hC⟩ : ∃ C, putsV (ts ++ us) = C := ⟨_, rfl⟩
  have hps : P.length ≤ 30 := by rw [← hP]; exact Nat.le_trans (puts_short ts) hl1
  have hqs : Q.length ≤ 30 := by rw [← hQ]; exact Nat.le_trans (puts_short us) hl2
  rw [hP] at HP1
  rw [hQ] at HP2
  rw [hP, hQ] at HPB
  have HPE := Lib.hid hP
  have HQE := Lib.hid hQ
  have HCE := Lib.hid hC
  obtain ⟨JP, hJP⟩ : ∃ J, P.length = J := ⟨_, rfl⟩
  obtain ⟨JQ, hJQ⟩ : ∃ J, Q.length = J := ⟨_, rfl⟩
  rw [hJP] at HP1 hps
  rw [hJQ] at HP2 hqs
  have HJP := Lib.hid hJP
  have HJQ := Lib.hid hJQ
  have HPS30 := Lib.hid hps
  have HQS30 : Hid (JQ ≤ 30 ∧ JP ≤ 30) := show _ ∧ _ from ⟨hqs, hps⟩
  obtain ⟨a, cap, rfl, -⟩ := id hs1
  obtain ⟨b, bcap, rfl, -⟩ := id hs2
  obtain ⟨N, hN⟩ : ∃ N, ts.length = N := ⟨_, rfl⟩
  obtain ⟨M, hM⟩ : ∃ M, us.length = M := ⟨_, rfl⟩
  have HNL := Lib.hid hN
  have HML := Lib.hid hM
  rw [hN] at hl1 HK1 HP1 HV1 ⊢
  rw [hM] at hl2 HK2 HP2 HV2 ⊢
  have g1 : ¬ (30 : Int) < (N : Int) := by omega
  have g2 : ¬ (30 : Int) < (M : Int) := by omega
  clear hs1 hs2 hok1 hok2 hN hM hP hQ hC hJP hJQ hi hc1 hc2 hc3 hps hqs
  have hmk := fun W => run_makeMap (P := Try.prog) 56 W
  go_enter Try.func8, Try.ntmps8
  go_wp2_with fail
  refine HK1.out.mono ?_
  rintro e w1 ⟨rfl, hb1⟩
  have HB1 := Lib.hid hb1
  clear hb1
  go_wp2_with fail
  refine (HNU.out 0 w1).mono ?_
  rintro e w3 ⟨rfl, hw⟩
  rw [hw]
  clear hw w3
  go_wp2_with fail
  refine (HK2.out w1 HB1.out).mono ?_
  rintro e w2 ⟨rfl, hb2⟩
  have HB2 : Hid (Below w.heap.size w w2) := show Below _ _ _ from HB1.out.trans (hb2.mono HB1.out.size)
  clear hb2
  go_wp2_with fail
  refine (HNU.out 0 w2).mono ?_
  rintro e w3 ⟨rfl, hw⟩
  rw [hw]
  clear hw w3
  have hal : Below w2.heap.size w2 (w2.alloc (.map #[] 0)) := (Below.refl _ _).alloc (Nat.le_refl _) _
  have HM3 := Lib.hid (NumMap.new 30 .u64 w2)
  have HB3 : Hid (Below w.heap.size w (w2.alloc (.map #[] 0))) := show Below _ _ _ from HB2.out.trans (hal.mono HB2.out.size)
  have HMB := Lib.hid HB2.out.size
  obtain ⟨mb, hmb⟩ : ∃ mb, w2.heap.size = mb := ⟨_, rfl⟩
  have HZ3 : Hid (mb < (w2.alloc (.map #[] 0)).heap.size) := show _ < _ by rw [← hmb]; simp
  rw [hmb] at HM3 HMB
  obtain ⟨w3, hw3⟩ : ∃ w3, w2.alloc (.map #[] 0) = w3 := ⟨_, rfl⟩
  rw [hw3] at HM3 HB3 HZ3
  have HW3 := Lib.hid hw3
  have HMBE := Lib.hid hmb
  clear hal hw3 hmb
  go_wp2_with fail
  clear hmk
  rw [HW3.out, HMBE.out]
  refine (HP1.out w3 HB3.out).mono ?_
  rintro e w4 ⟨p, rfl, hp, hb4⟩
  have hsl := own_slice2 hp
  obtain ⟨pa, pc, rfl⟩ := hsl
  have HB4 : Hid (Below w.heap.size w w4) := show Below _ _ _ from HB3.out.trans (hb4.mono HB3.out.size)
  have HM4 := Lib.hid (HM3.out.below hb4)
  have HPR := Lib.hid hp
  have HS34 := Lib.hid hb4.size
  clear hp hb4
  go_wp2_with fail
  refine (HP2.out w4 HB4.out).mono ?_
  rintro e w5 ⟨q, rfl, hq, hb5⟩
  have hsl := own_slice2 hq
  obtain ⟨qa, qc, rfl⟩ := hsl
  have HB5 : Hid (Below w.heap.size w w5) := show Below _ _ _ from HB4.out.trans (hb5.mono HB4.out.size)
  have HM5 : Hid (NumMap 30 .u64 w5 mb (0 + 0) (putF (fun _ => none) (P.take 0))) := show NumMap _ _ _ _ _ _ from HM4.out.below hb5
  have HPR5 : Hid (w5.ownsRow w3.heap.size 52 2 (.slice pa JP pc) JP (flatC cP P)) := show World.ownsRow _ _ _ _ _ _ _ from own_row_below HPR.out hb5
  have HQR5 := Lib.hid hq
  have HAP := Lib.hid (fun W (hg : w5.grownBy W (some mb)) k (hk : k < JP) => put_keep HJP.out HPR5.out HZ3.out hg k hk)
  have HAQ := Lib.hid (fun W (hg : w5.grownBy W (some mb)) k (hk : k < JQ) => put_keep HJQ.out HQR5.out (Nat.lt_of_lt_of_le HZ3.out HS34.out) hg k hk)
  clear hq hb5
  go_wp2_with fail
  go_loopw [8] (fun i wr => ∃ k : Nat, k ≤ JP ∧ i = .int .i64 (k : Nat) ∧ Hid (NumMap 30 .u64 wr mb (0 + k) (putF (fun _ => none) (P.take k))) ∧ Hid (w5.grownBy wr (some mb))) (fun i _ => JP - (intOf i).toNat)
  case atStart => exact ⟨0, by omega, rfl, HM5, Lib.hid (World.grownBy.refl w5 _)⟩
  case round =>
    obtain ⟨k, hk, rfl, HM, HG⟩ := hrel
    have hcl30 := HPS30.out
    by_cases hlt : k < JP
    · obtain ⟨b1, o1, x1, hx1, rfl, c0, c1⟩ := HAP.out wr HG.out k hlt
      have HGd : Hid (w5.grownBy wr.drew (some mb)) := show World.grownBy _ _ _ from HG.out.trans (grown_drew wr _)
      have hR : (fun W : World => W.cell? ⟨b1, o1 + k * 2, none⟩ = some (.int .i64 (x1.1 : Nat)) ∧ W.cell? ⟨b1, o1 + k * 2 + 1, none⟩ = some (.int .u64 x1.2)) wr.drew := ⟨c0, c1⟩
      have HX := Lib.hid (putF_take (f := (fun _ => none)) hx1)
      obtain ⟨hw1, hw2⟩ := puts_word (by rw [HPE.out]; exact hx1)
      have hw3 := words_ok HO1.out hw1
      have k2 : (k : Int) < (JP : Int) := by omega
      have hmd : NumMap 30 .u64 wr.drew mb (0 + k) (putF (fun _ => none) (P.take k)) := HM.out.keep rfl
      have hcl := HPS30.out
      obtain ⟨wD, hrun, hm, hg⟩ := hmd.store (t := 56) Try.underlying56 Try.underlying30 (by omega) (y := (x1.1 : Nat)) (z := x1.2) (by unfold in64; omega) (by simp [Lit.wf, IntKind.min, IntKind.max, IntKind.signed, IntKind.bits]; omega)
      have HMD : Hid (NumMap 30 .u64 wD mb (0 + (k + 1)) (putF (fun _ => none) (P.take (k + 1)))) := show NumMap _ _ _ _ _ _ by rw [HX.out]; exact hm
      have HGD : Hid (w5.grownBy wD (some mb)) := show World.grownBy _ _ _ from HGd.out.trans hg
      clear hx1 c0 c1 hw1 hw2 hw3 hmd hm hg hcl
      go_wp2_with fail
      refine wp_region_M 11 (fun W : World => W.cell? ⟨b1, o1 + k * 2, none⟩ = some (.int .i64 (x1.1 : Nat)) ∧ W.cell? ⟨b1, o1 + k * 2 + 1, none⟩ = some (.int .u64 x1.2)) (by kernel_rfl) ?_
      (refine wpAnyM_take2 8 (i := 0) (v := ?_) rfl (by kernel_rfl) (by kernel_rfl) (fun _ _ _ h => h) (Or.inl ⟨by rfl, ?_⟩) hR ?_; rotate_left; (focus (intro w hSw; (try dsimp only at hSw); go_simp; (try with_reducible rfl))); (try simp only [put_laws])); (refine wpAnyM_take2 8 (i := 1) (v := ?_) rfl (by kernel_rfl) (by kernel_rfl) (fun _ _ _ h => h) (Or.inl ⟨by rfl, ?_⟩) hR ?_; rotate_left; (focus (intro w hSw; (try dsimp only at hSw); go_simp; (try with_reducible rfl))); (try simp only [put_laws])); (refine wpAnyM_take2 8 (i := 2) (v := ?_) rfl (by kernel_rfl) (by kernel_rfl) (fun _ _ _ h => h) (Or.inl ⟨by rfl, ?_⟩) hR ?_; rotate_left; (focus (intro w hSw; (try dsimp only at hSw); go_simp; (try with_reducible rfl))); (try simp only [put_laws])); (refine wpAnyM_take2 8 (i := 3) (v := ?_) rfl (by kernel_rfl) (by kernel_rfl) (fun _ _ _ h => h) (Or.inl ⟨by rfl, ?_⟩) hR ?_; rotate_left; (focus (intro w hSw; (try dsimp only at hSw); go_simp; (try with_reducible rfl))); (try simp only [put_laws])); (refine wpAnyM_take2 8 (i := 4) (v := ?_) rfl (by kernel_rfl) (by kernel_rfl) (fun _ _ _ h => h) (Or.inl ⟨by rfl, ?_⟩) hR ?_; rotate_left; (focus (intro w hSw; (try dsimp only at hSw); go_simp; (try with_reducible rfl))); (try simp only [put_laws])); (refine wpAnyM_take2 8 (i := 5) (v := ?_) rfl (by kernel_rfl) (by kernel_rfl) (fun _ _ _ h => h) (Or.inl ⟨by rfl, ?_⟩) hR ?_; rotate_left; (focus (intro w hSw; (try dsimp only at hSw); go_simp; (try with_reducible rfl))); (try simp only [put_laws])); (refine wpAnyM_take2 8 (i := 6) (v := ?_) rfl (by kernel_rfl) (by kernel_rfl) (fun _ _ _ h => h) (Or.inl ⟨by rfl, ?_⟩) hR ?_; rotate_left; (focus (intro w hSw; (try dsimp only at hSw); go_simp; (try with_reducible rfl))); (try simp only [put_laws])); (refine wpAnyM_take2 8 (i := 7) (v := ?_) rfl (by kernel_rfl) (by kernel_rfl) (fun _ _ _ h => h) (Or.inl ⟨by rfl, ?_⟩) hR ?_; rotate_left; (focus (intro w hSw; (try dsimp only at hSw); go_simp; (try with_reducible rfl))); (try simp only [put_laws])); (refine wpAnyM_take2 8 (i := 8) (v := ?_) rfl (by kernel_rfl) (by kernel_rfl) (fun _ _ _ h => h) (Or.inl ⟨by rfl, ?_⟩) hR ?_; rotate_left; (focus (intro w hSw; (try dsimp only at hSw); go_simp; (try with_reducible rfl))); (try simp only [put_laws])); (refine wpAnyM_take2 8 (i := 9) (v := ?_) rfl (by kernel_rfl) (by kernel_rfl) (fun _ _ _ h => h) (Or.inl ⟨by rfl, ?_⟩) hR ?_; rotate_left; (focus (intro w hSw; (try dsimp only at hSw); go_simp; (try with_reducible rfl))); (try simp only [put_laws])); (refine wpAnyM_take2 8 (i := 10) (v := ?_) rfl (by kernel_rfl) (by kernel_rfl) (fun _ _ _ h => h) (Or.inl ⟨by rfl, ?_⟩) hR ?_; rotate_left; (focus (intro w hSw; (try dsimp only at hSw); go_simp; (try with_reducible rfl))); (try simp only [put_laws]))
      (refine wpAnyM_last rfl (by kernel_rfl) (fun K hK => ?_); rw [if_pos (by rfl)]; (try simp only [elem_laws]))
      clear hR
      go_simp
      refine hK _ _ ?_
      clear hK K hrun
      (try simp only [put_laws])
      refine wpAnyM_done (by kernel_rfl) ?_ _
      go_wp2_with fail
      go_roundw
      case rel => exact ⟨k + 1, by omega, by go_num, HMD, HGD⟩
      case measure => simp [intOf]; omega
    · obtain rfl : k = JP := by omega
      have k2 : ¬ (k : Int) < (k : Int) := by omega
      have HM6 : Hid (NumMap 30 .u64 wr mb (k + 0) (putF (putF (fun _ => none) P) (Q.take 0))) := show NumMap _ _ _ _ _ _ by
        have h := HM.out
        rw [List.take_of_length_le (Nat.le_of_eq HJP.out), Nat.zero_add] at h
        exact h
      have HG6 := HG
      clear HM HG
      go_wp2_with fail
      obtain ⟨k0, hk0⟩ : ∃ k0, k = k0 := ⟨_, rfl⟩
      rw [hk0] at HM6
      have HK0 : Hid (k0 ≤ 30) := show _ ≤ _ by rw [← hk0]; exact HPS30.out
      clear hk0
      go_loopw [9] (fun i wr => ∃ k : Nat, k ≤ JQ ∧ i = .int .i64 (k : Nat) ∧ Hid (NumMap 30 .u64 wr mb (k0 + k) (putF (putF (fun _ => none) P) (Q.take k))) ∧ Hid (w5.grownBy wr (some mb))) (fun i _ => JQ - (intOf i).toNat)
      case atStart => exact ⟨0, by omega, rfl, HM6, HG6⟩
      case round =>
        obtain ⟨k, hk, rfl, HM, HG⟩ := hrel
        have hcl30 := HQS30.out
        have hk30 := HK0.out
        by_cases hlt : k < JQ
        · obtain ⟨b1, o1, x1, hx1, rfl, c0, c1⟩ := HAQ.out wr HG.out k hlt
          have HGd : Hid (w5.grownBy wr.drew (some mb)) := show World.grownBy _ _ _ from HG.out.trans (grown_drew wr _)
          have hR : (fun W : World => W.cell? ⟨b1, o1 + k * 2, none⟩ = some (.int .i64 (x1.1 : Nat)) ∧ W.cell? ⟨b1, o1 + k * 2 + 1, none⟩ = some (.int .u64 x1.2)) wr.drew := ⟨c0, c1⟩
          have HX := Lib.hid (putF_take (f := (putF (fun _ => none) P)) hx1)
          obtain ⟨hw1, hw2⟩ := puts_word (by rw [HQE.out]; exact hx1)
          have hw3 := words_ok HO2.out hw1
          have k2 : (k : Int) < (JQ : Int) := by omega
          have hmd : NumMap 30 .u64 wr.drew mb (k0 + k) (putF (putF (fun _ => none) P) (Q.take k)) := HM.out.keep rfl
          have hcl := HQS30.out
          obtain ⟨wD, hrun, hm, hg⟩ := hmd.store (t := 56) Try.underlying56 Try.underlying30 (by omega) (y := (x1.1 : Nat)) (z := x1.2) (by unfold in64; omega) (by simp [Lit.wf, IntKind.min, IntKind.max, IntKind.signed, IntKind.bits]; omega)
          have HMD : Hid (NumMap 30 .u64 wD mb (k0 + (k + 1)) (putF (putF (fun _ => none) P) (Q.take (k + 1)))) := show NumMap _ _ _ _ _ _ by rw [HX.out]; exact hm
          have HGD : Hid (w5.grownBy wD (some mb)) := show World.grownBy _ _ _ from HGd.out.trans hg
          clear hx1 c0 c1 hw1 hw2 hw3 hmd hm hg hcl
          go_wp2_with fail
          refine wp_region_M 11 (fun W : World => W.cell? ⟨b1, o1 + k * 2, none⟩ = some (.int .i64 (x1.1 : Nat)) ∧ W.cell? ⟨b1, o1 + k * 2 + 1, none⟩ = some (.int .u64 x1.2)) (by kernel_rfl) ?_
          (refine wpAnyM_take2 8 (i := 0) (v := ?_) rfl (by kernel_rfl) (by kernel_rfl) (fun _ _ _ h => h) (Or.inl ⟨by rfl, ?_⟩) hR ?_; rotate_left; (focus (intro w hSw; (try dsimp only at hSw); go_simp; (try with_reducible rfl))); (try simp only [put_laws])); (refine wpAnyM_take2 8 (i := 1) (v := ?_) rfl (by kernel_rfl) (by kernel_rfl) (fun _ _ _ h => h) (Or.inl ⟨by rfl, ?_⟩) hR ?_; rotate_left; (focus (intro w hSw; (try dsimp only at hSw); go_simp; (try with_reducible rfl))); (try simp only [put_laws])); (refine wpAnyM_take2 8 (i := 2) (v := ?_) rfl (by kernel_rfl) (by kernel_rfl) (fun _ _ _ h => h) (Or.inl ⟨by rfl, ?_⟩) hR ?_; rotate_left; (focus (intro w hSw; (try dsimp only at hSw); go_simp; (try with_reducible rfl))); (try simp only [put_laws])); (refine wpAnyM_take2 8 (i := 3) (v := ?_) rfl (by kernel_rfl) (by kernel_rfl) (fun _ _ _ h => h) (Or.inl ⟨by rfl, ?_⟩) hR ?_; rotate_left; (focus (intro w hSw; (try dsimp only at hSw); go_simp; (try with_reducible rfl))); (try simp only [put_laws])); (refine wpAnyM_take2 8 (i := 4) (v := ?_) rfl (by kernel_rfl) (by kernel_rfl) (fun _ _ _ h => h) (Or.inl ⟨by rfl, ?_⟩) hR ?_; rotate_left; (focus (intro w hSw; (try dsimp only at hSw); go_simp; (try with_reducible rfl))); (try simp only [put_laws])); (refine wpAnyM_take2 8 (i := 5) (v := ?_) rfl (by kernel_rfl) (by kernel_rfl) (fun _ _ _ h => h) (Or.inl ⟨by rfl, ?_⟩) hR ?_; rotate_left; (focus (intro w hSw; (try dsimp only at hSw); go_simp; (try with_reducible rfl))); (try simp only [put_laws])); (refine wpAnyM_take2 8 (i := 6) (v := ?_) rfl (by kernel_rfl) (by kernel_rfl) (fun _ _ _ h => h) (Or.inl ⟨by rfl, ?_⟩) hR ?_; rotate_left; (focus (intro w hSw; (try dsimp only at hSw); go_simp; (try with_reducible rfl))); (try simp only [put_laws])); (refine wpAnyM_take2 8 (i := 7) (v := ?_) rfl (by kernel_rfl) (by kernel_rfl) (fun _ _ _ h => h) (Or.inl ⟨by rfl, ?_⟩) hR ?_; rotate_left; (focus (intro w hSw; (try dsimp only at hSw); go_simp; (try with_reducible rfl))); (try simp only [put_laws])); (refine wpAnyM_take2 8 (i := 8) (v := ?_) rfl (by kernel_rfl) (by kernel_rfl) (fun _ _ _ h => h) (Or.inl ⟨by rfl, ?_⟩) hR ?_; rotate_left; (focus (intro w hSw; (try dsimp only at hSw); go_simp; (try with_reducible rfl))); (try simp only [put_laws])); (refine wpAnyM_take2 8 (i := 9) (v := ?_) rfl (by kernel_rfl) (by kernel_rfl) (fun _ _ _ h => h) (Or.inl ⟨by rfl, ?_⟩) hR ?_; rotate_left; (focus (intro w hSw; (try dsimp only at hSw); go_simp; (try with_reducible rfl))); (try simp only [put_laws])); (refine wpAnyM_take2 8 (i := 10) (v := ?_) rfl (by kernel_rfl) (by kernel_rfl) (fun _ _ _ h => h) (Or.inl ⟨by rfl, ?_⟩) hR ?_; rotate_left; (focus (intro w hSw; (try dsimp only at hSw); go_simp; (try with_reducible rfl))); (try simp only [put_laws]))
          (refine wpAnyM_last rfl (by kernel_rfl) (fun K hK => ?_); rw [if_pos (by rfl)]; (try simp only [elem_laws]))
          clear hR
          go_simp
          refine hK _ _ ?_
          clear hK K hrun
          (try simp only [put_laws])
          refine wpAnyM_done (by kernel_rfl) ?_ _
          go_wp2_with fail
          go_roundw
          case rel => exact ⟨k + 1, by omega, by go_num, HMD, HGD⟩
          case measure => simp [intOf]; omega
        · obtain rfl : k = JQ := by omega
          have k2 : ¬ (k : Int) < (k : Int) := by omega
          have HM7 : Hid (NumMap 30 .u64 wr mb (k0 + k) (wordsV (ts ++ us))) := show NumMap _ _ _ _ _ _ by
            have h := HM.out
            rw [List.take_of_length_le (Nat.le_of_eq HJQ.out), HPB.out] at h
            exact h
          have HBR : Hid (Below w.heap.size w wr) := show Below _ _ _ from below_grown HB5.out HG.out HMB.out HB5.out.size
          have hal : Below wr.heap.size wr (wr.alloc (.cells #[] 32)) := (Below.refl _ _).alloc (Nat.le_refl _) _
          have HV1A := Lib.hid (HV1.out (wr.alloc (.cells #[] 32)) (HBR.out.trans (hal.mono HBR.out.size)))
          have HAL := Lib.hid hal
          clear hal HM HG
          go_wp2_with (at_builtin; refine park ?_)
          unfold Park
          refine wpList_append_vecW rfl _ _ 22 rfl 32 i0 _ 3 24 Try.underlying22 HII.out hz0 hz1 hz2 rfl (by decide) wr.heap.size _ _ 0 N _ _ rfl rfl (.inl ⟨rfl, rfl, _, rfl⟩) HV1A.out (flatC_all cT_one _) (by omega) (by omega) (by simp) ?_
          intro v8 w8 g8 t8 _
          rw [Nat.zero_add, List.nil_append] at g8
          have hsl8 := g8.slice
          obtain ⟨va, vc, rfl⟩ := hsl8
          have HG8 := Lib.hid g8
          have HB8 : Hid (Below wr.heap.size wr w8) := show Below _ _ _ from HAL.out.trans t8
          have HV2A := Lib.hid (HV2.out w8 (HBR.out.trans (HB8.out.mono HBR.out.size)))
          clear g8 t8
          go_wp2_with (at_builtin; refine park ?_)
          unfold Park
          refine wpList_append_vecW rfl _ _ 22 rfl 32 i0 _ 3 24 Try.underlying22 HII.out hz0 hz1 hz2 rfl (by decide) wr.heap.size _ _ N M _ _ rfl rfl HG8.out HV2A.out (flatC_all cT_one _) (by omega) (by omega) HB8.out.size ?_
          intro v9 w9 g9 t9 _
          rw [← flatC_append] at g9
          have hsl9 := g9.slice
          obtain ⟨va9, vc9, rfl⟩ := hsl9
          have HLB : Hid ((ts ++ us).length = N + M) := show _ = _ by rw [List.length_append, HNL.out, HML.out]
          have HS9 : Hid (SlT w9 (.slice va9 (N + M) vc9) (ts ++ us)) := show SlT _ _ _ from slT_of_vec (by rw [HLB.out]; exact g9.vec)
          have HB9 : Hid (Below wr.heap.size wr w9) := show Below _ _ _ from HB8.out.trans t9
          have HPC := Lib.hid (puts5_any w9 (by rw [HLB.out]; omega) HOKB.out HS9.out)
          rw [HCE.out] at HPC
          obtain ⟨JC, hJC⟩ : ∃ J, C.length = J := ⟨_, rfl⟩
          have HJC := Lib.hid hJC
          have hjc60 : JC ≤ 60 := by
            have := puts_short (ts ++ us)
            rw [HCE.out, hJC, HLB.out] at this
            omega
          rw [hJC] at HPC
          clear g9 t9 hJC
          go_wp2_with fail
          refine HPC.out.mono ?_
          rintro e w10 ⟨x, rfl, hx, hb10⟩
          have hslx := own_slice2 hx
          obtain ⟨xa, xc, rfl⟩ := hslx
          have HA := Lib.hid (fun k (hk : k < JC) => put_at HJC.out hx k hk)
          have HB10 : Hid (Below wr.heap.size wr w10) := show Below _ _ _ from HB9.out.trans (hb10.mono HB9.out.size)
          have HM10 := Lib.hid (HM7.out.below HB10.out)
          clear hx hb10
          go_wp2_with fail
          go_loopw [11] (fun i wr => ∃ k : Nat, k ≤ JC ∧ i = .int .i64 (k : Nat) ∧ wr = w10) (fun i _ => JC - (intOf i).toNat)
          case atStart => exact ⟨0, by omega, rfl, rfl⟩
          case round =>
            rename World => wq
            obtain ⟨j, hj, rfl, rfl⟩ := hrel
            by_cases hjn : j < JC
            · obtain ⟨b1, o1, x1, hx1, rfl, hat⟩ := HA.out j hjn
              obtain ⟨c0, c1⟩ := hat wq (Below.refl _ _)
              obtain ⟨hw1, hw2⟩ := puts_word (ts := ts ++ us) (by rw [HCE.out]; exact hx1)
              have hlk := HM10.out.lookOk (t := 56) Try.underlying56 Try.underlying30 zeroU (by decide) (y := (x1.1 : Nat)) (by unfold in64; omega)
              rw [hw1] at hlk
              simp only [Option.getD_some, Option.isSome_some] at hlk
              have j2 : (j : Int) < (JC : Int) := by omega
              have hxx : (x1.2 != x1.2) = false := by simp
              clear hx1 hat hw1 hw2
              go_wp2_with fail
              go_roundw
              case rel => exact ⟨j + 1, by omega, by go_num, by first | trivial | rfl⟩
              case measure => simp [intOf]; omega
            · obtain rfl : j = JC := by omega
              have hlen := fun ty => HM10.out.len (t := 56) (ty := ty) Try.underlying56 (L := (addrsV (ts ++ us)).map fun k : Nat => (k : Int)) (addrsV_nodup _) (mem_addrsV _)
              have hjl : ((addrsV (ts ++ us)).map fun k : Nat => (k : Int)).length = j := by
                rw [List.length_map, ← HJC.out, ← HCE.out]
                unfold putsV
                rw [List.length_map]
              rw [hjl] at hlen
              have hjj : ((j : Int) == (j : Int)) = true := by simp
              clear hjl
              go_wp2_with fail
              refine (HW.out wq).mono ?_
              rintro e w11 ⟨rfl, hb11⟩
              go_wp2_with fail
              go_ret
              exact ⟨rfl, HBR.out.trans ((HB10.out.trans (hb11.mono HB10.out.size)).mono HBR.out.size)⟩
end Go.Proofs.Ytkpiehejkhjhlaa
