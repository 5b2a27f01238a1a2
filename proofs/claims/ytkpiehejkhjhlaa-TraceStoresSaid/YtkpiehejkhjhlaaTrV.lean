/-
  trace.Closed.
-/
import Derived.Test.YtkpiehejkhjhlaaTrU
namespace Go.Proofs.Ytkpiehejkhjhlaa
open Go.RowKit Go.Shelf Go.Maps

/-- What Closed makes of a right list. -/
def shutV (ts : List Tch) : List Tch := if orderC ts then ts else ts ++ closeV ts
/-- What Closed tells; its error. -/
def closedE (ts : List Tch) : Int := if checkT ts = 0 then checkT (shutV ts) else checkT ts
def closedV (ts : List Tch) : List Tch := if closedE ts = 0 then shutV ts else []
theorem closeV_short (ts : List Tch) : (closeV ts).length ≤ 1025 := by
  unfold closeV
  rw [List.length_append, List.length_map]
  have := linesV_short storesL ts
  simp
  omega
set_option maxRecDepth 100000 in
set_option maxHeartbeats 4000000 in
theorem closed_any {v : Value} {ts : List Tch} (w : World) (hl : ts.length ≤ 90000) (hok : ∀ t ∈ ts, okT t) (hs : SlT w v ts) :
    Calls Try.prog 18 #[v] w fun e w' => ∃ u, e = .returned (.tuple #[u, .int .i64 (closedE ts)]) ∧ RowT w' w.heap.size u (closedV ts) ∧ Below w.heap.size w w' := by
  have HC := Lib.hid (checkT_any w (by omega) hs)
  obtain ⟨i0, hi, hz0, hz1, hz2⟩ := info_of infoT
  have HI := Lib.hid hi
  obtain ⟨a, cap, rfl, -⟩ := id hs
  obtain ⟨N, hN⟩ : ∃ N, ts.length = N := ⟨_, rfl⟩
  by_cases hc : checkT ts = 0
  · have HE : Hid (closedE ts = checkT (shutV ts)) := show _ = _ by unfold closedE; rw [if_pos hc]
    have HCR := Lib.hid (check_right hc)
    rw [hc] at HC
    have HCL := Lib.hid (fun W (hb : Below w.heap.size w W) => cloneT_any W (by omega) (hs.below hb))
    have HOR := Lib.hid (fun W (hb : Below w.heap.size w W) => orderly_any W hl hok (hs.below hb))
    have HCG := Lib.hid (fun W (hb : Below w.heap.size w W) => closing_any W HCR.out.2 (hs.below hb) HCR.out.1)
    have HN := Lib.hid hN
    have HCS := Lib.hid (closeV_short ts)
    have HCV : Hid (closedV ts = if checkT (shutV ts) = 0 then shutV ts else []) := show _ = _ by unfold closedV; rw [HE.out]
    rw [hN] at HC HCL HOR HCG hs hl ⊢
    clear hs hok hi hc hN
    go_enter Try.func18, Try.ntmps18
    go_wp2_with fail
    refine wp_scope_forward 0 rfl ?_
    go_wp2_with fail
    refine HC.out.mono ?_
    rintro e w1 ⟨rfl, hb1⟩
    have HB1 := Lib.hid hb1
    clear hb1
    go_wp2_with fail
    refine (HCL.out w1 HB1.out).mono ?_
    rintro e w2 ⟨u, rfl, hrow, hb2⟩
    have hsl : ∃ a c, u = .slice a ts.length c := GrowB.slice hrow
    obtain ⟨ua, uc, rfl⟩ := hsl
    rw [HN.out] at hrow ⊢
    have HR2 := Lib.hid hrow
    have HS12 := Lib.hid hb2.size
    have HB2 : Hid (Below w.heap.size w w2) := show Below _ _ _ from HB1.out.trans (hb2.mono HB1.out.size)
    clear hrow hb2
    go_wp2_with fail
    refine (HOR.out w2 HB2.out).mono ?_
    rintro e w3 ⟨rfl, hb3⟩
    have HR3 := Lib.hid (HR2.out.below hb3)
    have HB3 : Hid (Below w.heap.size w w3) := show Below _ _ _ from HB2.out.trans (hb3.mono HB2.out.size)
    have hs1 := HB1.out.size
    have HS13 : Hid (w1.heap.size ≤ w3.heap.size) := show _ ≤ _ from Nat.le_trans HS12.out hb3.size
    clear hb3
    cases ho : orderC ts with
    | true =>
      have HSV : Hid (shutV ts = ts) := show _ = _ by unfold shutV; rw [ho]; rfl
      have HC2 : Hid (checkT (shutV ts) = 0) := show _ = _ by rw [HSV.out]; unfold checkT; rw [if_pos HCR.out.1, if_neg (by have := HCR.out.2; omega)]
      have HC3 := Lib.hid (checkT_any w3 (by have := HN.out; omega) HR3.out.slT)
      rw [show checkT ts = 0 by rw [← HC2.out, HSV.out]] at HC3
      clear ho
      go_wp2_with fail
      refine HC3.out.mono ?_
      rintro e w4 ⟨rfl, hb4⟩
      have HR4 := Lib.hid (HR3.out.below hb4)
      have HB4 : Hid (Below w.heap.size w w4) := show Below _ _ _ from HB3.out.trans (hb4.mono HB3.out.size)
      clear hb4
      go_wp2_with fail
      rw [Exit.jump_ret]
      go_ret2
      refine ⟨_, by rw [HE.out, HC2.out]; rfl, ?_, HB4.out⟩
      rw [HCV.out, if_pos HC2.out, HSV.out]
      exact GrowB.low HR4.out hs1
    | false =>
      have HSV : Hid (shutV ts = ts ++ closeV ts) := show _ = _ by unfold shutV; rw [ho]; rfl
      clear ho
      go_wp2_with fail
      refine (HCG.out w3 HB3.out).mono ?_
      rintro e w4 ⟨u4, rfl, hrow4, hb4⟩
      have HR4 := Lib.hid (HR3.out.below hb4)
      have hs3 := HB3.out.size
      have HV4 := Lib.hid (GrowB.vec hrow4)
      have HB4 : Hid (Below w.heap.size w w4) := show Below _ _ _ from HB3.out.trans (hb4.mono HB3.out.size)
      have HG4 : Hid (GrowB w4 w1.heap.size 32 3 (.slice ua N uc) N (flatC cT ts)) := show GrowB _ _ _ _ _ _ _ by
        have h : GrowB _ _ _ _ _ _ _ := HR4.out
        rw [HN.out] at h
        exact h
      obtain ⟨M, hM⟩ : ∃ M, (closeV ts).length = M := ⟨_, rfl⟩
      have HMM := Lib.hid hM
      have hsl4 : ∃ a c, u4 = .slice a (closeV ts).length c := GrowB.slice hrow4
      obtain ⟨u4a, u4c, rfl⟩ := hsl4
      have HCS2 := HCS.out
      rw [hM] at HV4 HCS2 ⊢
      have hs4 := HB4.out.size
      have hs14 : w1.heap.size ≤ w4.heap.size := Nat.le_trans HS13.out hb4.size
      clear hrow4 hb4 hM
      go_wp2_with (at_builtin; refine park ?_)
      unfold Park
      refine wpList_append_vec rfl _ _ 22 rfl 32 i0 _ 3 24 Try.underlying22 HI.out hz0 hz1 hz2 rfl (by decide) w1.heap.size _ _ N M _ _ rfl rfl HG4.out HV4.out (flatC_all cT_one _) (by omega) (by omega) hs14 ?_
      intro v5 w5 g5 t5 _
      have HR5 : Hid (RowT w5 w1.heap.size v5 (ts ++ closeV ts)) := show GrowB _ _ _ _ _ _ _ by
        rw [List.length_append, HN.out, HMM.out, flatC_append]
        exact g5
      have HB5 : Hid (Below w.heap.size w w5) := show Below _ _ _ from HB4.out.trans (t5.mono HB1.out.size)
      clear g5 t5
      have hsl5 : ∃ a c, v5 = .slice a (ts ++ closeV ts).length c := GrowB.slice HR5.out
      obtain ⟨u5, c5, rfl⟩ := hsl5
      have HC5 := Lib.hid (checkT_any w5 (by rw [List.length_append, HN.out, HMM.out]; omega) HR5.out.slT)
      rw [← HSV.out] at HC5 ⊢
      obtain ⟨c, hc⟩ : ∃ c, checkT (shutV ts) = c := ⟨_, rfl⟩
      have HCC := Lib.hid hc
      rw [hc] at HC5
      obtain ⟨L, hL⟩ : ∃ L, (shutV ts).length = L := ⟨_, rfl⟩
      rw [hL] at HC5 ⊢
      have HLL := Lib.hid hL
      clear hc hL
      go_wp2_with fail
      refine HC5.out.mono ?_
      rintro e w6 ⟨rfl, hb6⟩
      have HR6 := Lib.hid (HR5.out.below hb6)
      have HB6 : Hid (Below w.heap.size w w6) := show Below _ _ _ from HB5.out.trans (hb6.mono HB5.out.size)
      clear hb6
      by_cases hc0 : c = 0
      · subst hc0
        go_wp2_with fail
        rw [Exit.jump_ret]
        go_ret2
        refine ⟨_, by rw [HE.out, HCC.out]; rfl, ?_, HB6.out⟩
        rw [HCV.out, if_pos HCC.out, HSV.out]
        have h := GrowB.low HR6.out hs1
        rw [← HSV.out] at h
        rw [HLL.out] at h
        show GrowB _ _ _ _ _ _ _
        rw [← HSV.out, HLL.out]
        exact h
      · have hq2 : (c != 0) = true := by simp [hc0]
        go_wp2_with fail
        go_step3
        refine ⟨rfl, ?_⟩
        go_wp2
        rw [Exit.jump_ret]
        go_ret2
        refine ⟨_, by rw [HE.out, HCC.out]; rfl, ?_, HB6.out⟩
        rw [HCV.out, if_neg (by rw [HCC.out]; exact hc0)]
        exact GrowB.new _ _ _ _
  · have HE : Hid (closedE ts = checkT ts) := show _ = _ by unfold closedE; rw [if_neg hc]
    have HCV : Hid (closedV ts = []) := show _ = _ by unfold closedV; rw [HE.out, if_neg hc]
    rw [hN] at HC ⊢
    obtain ⟨q, hq⟩ : ∃ q, checkT ts = q := ⟨_, rfl⟩
    rw [hq] at HC hc HE
    have hq2 : (q != 0) = true := by simp [hc]
    clear hs hN hq hok
    go_enter Try.func18, Try.ntmps18
    go_wp2_with fail
    refine wp_scope_forward 0 rfl ?_
    go_wp2_with fail
    refine HC.out.mono ?_
    rintro e w1 ⟨rfl, hb1⟩
    go_wp2_with fail
    go_step3
    refine ⟨rfl, ?_⟩
    go_wp2
    rw [Exit.jump_ret]
    go_ret2
    exact ⟨_, by rw [HE.out]; rfl, by rw [HCV.out]; exact GrowB.new _ _ _ _, hb1⟩
end Go.Proofs.Ytkpiehejkhjhlaa
