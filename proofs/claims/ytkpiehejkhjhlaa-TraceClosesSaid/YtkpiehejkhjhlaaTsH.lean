/-
  The walk of the law TraceCloses.
-/
import Derived.Test.YtkpiehejkhjhlaaTsD
namespace Go.Proofs.Ytkpiehejkhjhlaa
open Go.RowKit Go.Shelf Go.Maps

theorem order_bad {ts : List Tch} (h : ¬ checkT ts = 0) : orderC ts = false := by
  unfold orderC
  rw [show (checkT ts == 0) = false by simp [h]]
  rfl
set_option maxRecDepth 100000 in
set_option maxHeartbeats 4000000 in
theorem closes5_any {v : Value} {ts : List Tch} (w : World) (hok : ∀ t ∈ ts, okT t) (hs : SlT w v ts) :
    Calls Try.prog 4 #[v] w fun e w' => e = .returned (.bool true) ∧ Below w.heap.size w w' := by
  have HW := Lib.hid works5_any
  have HNU := Lib.hid num5_any
  obtain ⟨a, cap, rfl, -⟩ := id hs
  obtain ⟨N, hN⟩ : ∃ N, ts.length = N := ⟨_, rfl⟩
  by_cases hl : 60 < N
  · have hl' : (60 : Int) < (N : Int) := by omega
    rw [hN]
    clear hs hok hN
    go_enter Try.func4, Try.ntmps4
    go_wp2_with fail
    refine (HW.out w).mono ?_
    rintro e w' ⟨rfl, hb⟩
    go_wp2_with fail
    go_ret
    exact ⟨rfl, hb⟩
  · have hl' : ¬ (60 : Int) < (N : Int) := by omega
    have HCL := Lib.hid (closed_any w (by omega) hok hs)
    have HRC := Lib.hid (fun W (hb : Below w.heap.size w W) => refCheck_any W (by omega) (hs.below hb))
    have HOR := Lib.hid (fun W (hb : Below w.heap.size w W) => orderly_any W (by omega) hok (hs.below hb))
    have HRO := Lib.hid (fun W (hb : Below w.heap.size w W) => ref5Orderly_any W (by omega) hok (hs.below hb))
    have HRX := Lib.hid (fun W (hb : Below w.heap.size w W) => ref5Closed_any W (by omega) hok (hs.below hb))
    have HSH := Lib.hid (closeV_short ts)
    have HN := Lib.hid hN
    by_cases hc : checkT ts = 0
    · have HOS := Lib.hid (order_same hc)
      obtain ⟨h1, h2⟩ := closed_same hc
      have h3 : (closedR ts).length ≤ 90000 := by
        have := HSH.out
        unfold closedR
        split
        · omega
        · split
          · simp
          · rw [List.length_append]; omega
      rw [HOS.out] at HOR
      rw [h1, h2] at HCL
      rw [hc] at HRC
      rw [hN] at HCL HRC HOR HRO HRX ⊢
      obtain ⟨E, hE⟩ : ∃ E, closedRE ts = E := ⟨_, rfl⟩
      rw [hE] at HCL HRX
      obtain ⟨X, hX⟩ : ∃ X, closedR ts = X := ⟨_, rfl⟩
      rw [hX] at HCL HRX h3
      have H3 := Lib.hid h3
      clear hs hok hN hc h1 h2 hE hX h3
      go_enter Try.func4, Try.ntmps4
      go_wp2_with fail
      refine HCL.out.mono ?_
      rintro e w1 ⟨u, rfl, hr, hb1⟩
      have hsl : ∃ a c, u = .slice a X.length c := GrowB.slice hr
      obtain ⟨ua, uc, rfl⟩ := hsl
      have HR := Lib.hid hr.slT
      have HB1 := Lib.hid hb1
      obtain ⟨M, hM⟩ : ∃ M, X.length = M := ⟨_, rfl⟩
      have HM := Lib.hid hM
      rw [hM] at HR ⊢
      clear hr hb1 hM
      go_wp2_with fail
      refine (HRC.out w1 HB1.out).mono ?_
      rintro e w2 ⟨rfl, hb2⟩
      have HB2 : Hid (Below w.heap.size w w2) := show Below _ _ _ from HB1.out.trans (hb2.mono HB1.out.size)
      have HR2 := Lib.hid (HR.out.below hb2)
      clear hb2
      go_wp2_with fail
      refine (HRX.out w2 HB2.out).mono ?_
      rintro e w3 ⟨x, rfl, hx, hb3⟩
      have HB3 : Hid (Below w.heap.size w w3) := show Below _ _ _ from HB2.out.trans (hb3.mono HB2.out.size)
      have HR3 := Lib.hid (HR2.out.below hb3)
      have HX3 := Lib.hid hx
      obtain ⟨xa, xc, rfl, -⟩ := id hx
      rw [HM.out] at HX3 ⊢
      clear hb3 hx
      go_wp2_with fail
      refine (HOR.out w3 HB3.out).mono ?_
      rintro e w4 ⟨rfl, hb4⟩
      have HB4 : Hid (Below w.heap.size w w4) := show Below _ _ _ from HB3.out.trans (hb4.mono HB3.out.size)
      have HR4 := Lib.hid (HR3.out.below hb4)
      have HX4 := Lib.hid (HX3.out.below hb4)
      clear hb4
      go_wp2_with fail
      refine (HRO.out w4 HB4.out).mono ?_
      rintro e w5 ⟨rfl, hb5⟩
      have HB5 : Hid (Below w.heap.size w w5) := show Below _ _ _ from HB4.out.trans (hb5.mono HB4.out.size)
      have HSM := Lib.hid (sameT_any w5 H3.out (HR4.out.below hb5) (HX4.out.below hb5))
      rw [show decide (X = X) = true from decide_eq_true rfl] at HSM
      obtain ⟨o, ho⟩ : ∃ o, orderR ts = o := ⟨_, rfl⟩
      rw [ho]
      have hoo : (o == o) = true := by simp
      clear hb5 ho
      go_wp2_with fail
      refine HSM.out.mono ?_
      rintro e w6 ⟨rfl, hb6⟩
      have HB6 : Hid (Below w.heap.size w w6) := show Below _ _ _ from HB5.out.trans (hb6.mono HB5.out.size)
      clear hb6
      go_wp2_with fail
      refine (HNU.out E w6).mono ?_
      rintro e w7 ⟨rfl, hw⟩
      rw [hw]
      clear hw w7
      have hee : (E == E) = true := by simp
      go_wp2_with fail
      refine (HW.out w6).mono ?_
      rintro e w7 ⟨rfl, hb7⟩
      go_wp2_with fail
      go_ret
      exact ⟨rfl, HB6.out.trans (hb7.mono HB6.out.size)⟩
    · have HE : Hid (closedE ts = checkT ts) := show _ = _ by unfold closedE; rw [if_neg hc]
      have HV : Hid (closedV ts = []) := show _ = _ by unfold closedV; rw [HE.out, if_neg hc]
      rw [order_bad hc] at HOR
      rw [HE.out, HV.out] at HCL
      obtain ⟨c, hcc⟩ : ∃ c, checkT ts = c := ⟨_, rfl⟩
      rw [hcc] at HCL HRC hc
      have hc1 : (c != 0) = true := by simp [hc]
      have hc2 : (c == c) = true := by simp
      rw [hN] at HCL HRC HOR ⊢
      clear hs hok hN hc hcc
      go_enter Try.func4, Try.ntmps4
      go_wp2_with fail
      refine HCL.out.mono ?_
      rintro e w1 ⟨u, rfl, hr, hb1⟩
      have hsl : ∃ a c, u = .slice a ([] : List Tch).length c := GrowB.slice hr
      obtain ⟨ua, uc, rfl⟩ := hsl
      have HB1 := Lib.hid hb1
      clear hr hb1
      go_wp2_with fail
      refine (HRC.out w1 HB1.out).mono ?_
      rintro e w2 ⟨rfl, hb2⟩
      have HB2 : Hid (Below w.heap.size w w2) := show Below _ _ _ from HB1.out.trans (hb2.mono HB1.out.size)
      clear hb2
      go_wp2_with fail
      refine (HNU.out c w2).mono ?_
      rintro e w7 ⟨rfl, hw⟩
      rw [hw]
      clear hw w7
      go_wp2_with fail
      refine (HOR.out w2 HB2.out).mono ?_
      rintro e w4 ⟨rfl, hb4⟩
      have HB4 : Hid (Below w.heap.size w w4) := show Below _ _ _ from HB2.out.trans (hb4.mono HB2.out.size)
      clear hb4
      go_wp2_with fail
      refine (HW.out w4).mono ?_
      rintro e w7 ⟨rfl, hb7⟩
      go_wp2_with fail
      go_ret
      exact ⟨rfl, HB4.out.trans (hb7.mono HB4.out.size)⟩
end Go.Proofs.Ytkpiehejkhjhlaa
