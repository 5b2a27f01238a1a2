/-
  The walk of the law TraceParts, all cases (written by gen_tsr.py).
-/
import Derived.Test.YtkpiehejkhjhlaaTsQ
namespace Go.Proofs.Ytkpiehejkhjhlaa
open Go.RowKit Go.Shelf Go.Maps

set_option maxRecDepth 100000 in
set_option maxHeartbeats 4000000 in
theorem parts5_any {v u : Value} {ts us : List Tch} (w : World) (hok1 : ∀ t ∈ ts, okT t) (hok2 : ∀ t ∈ us, okT t) (hs1 : SlT w v ts) (hs2 : SlT w u us) :
    Calls Try.prog 8 #[v, u] w fun e w' => e = .returned (.bool true) ∧ Below w.heap.size w w' := by
  by_cases h0 : (ts.length ≤ 30 ∧ us.length ≤ 30) ∧ checkT ts = 0 ∧ checkT us = 0
  · exact parts5_main w h0.1.1 h0.1.2 hok1 hok2 hs1 hs2 h0.2.1 h0.2.2
  have HW := Lib.hid works5_any
  have HNU := Lib.hid num5_any
  obtain ⟨a, cap, rfl, -⟩ := id hs1
  obtain ⟨b, bcap, rfl, -⟩ := id hs2
  obtain ⟨N, hN⟩ : ∃ N, ts.length = N := ⟨_, rfl⟩
  obtain ⟨M, hM⟩ : ∃ M, us.length = M := ⟨_, rfl⟩
  by_cases hn : 30 < N
  · have g1 : (30 : Int) < (N : Int) := by omega
    rw [hN, hM]
    clear hs1 hs2 hok1 hok2 hN hM h0
    go_enter Try.func8, Try.ntmps8
    go_wp2_with fail
    refine (HW.out w).mono ?_
    rintro e w' ⟨rfl, hb⟩
    go_wp2_with fail
    go_ret
    exact ⟨rfl, hb⟩
  have g1 : ¬ (30 : Int) < (N : Int) := by omega
  by_cases hm : 30 < M
  · have g2 : (30 : Int) < (M : Int) := by omega
    rw [hN, hM]
    clear hs1 hs2 hok1 hok2 hN hM h0
    go_enter Try.func8, Try.ntmps8
    go_wp2_with fail
    refine (HW.out w).mono ?_
    rintro e w' ⟨rfl, hb⟩
    go_wp2_with fail
    go_ret
    exact ⟨rfl, hb⟩
  have g2 : ¬ (30 : Int) < (M : Int) := by omega
  have HC1 := Lib.hid (checkT_any w (by omega) hs1)
  have HC2 := Lib.hid (fun W (hb : Below w.heap.size w W) => checkT_any W (by omega) (hs2.below hb))
  have hef : checkT ts ≠ 0 ∨ checkT us ≠ 0 := by omega
  obtain ⟨E, hE⟩ : ∃ E, checkT ts = E := ⟨_, rfl⟩
  obtain ⟨F, hF⟩ : ∃ F, checkT us = F := ⟨_, rfl⟩
  rw [hE] at HC1 hef
  rw [hF] at HC2 hef
  rw [hN] at HC1 ⊢
  rw [hM] at HC2 ⊢
  clear hs1 hs2 hok1 hok2 hN hM h0 hE hF
  by_cases he : E = 0
  · have hf : (F != 0) = true := by simp; omega
    subst he
    go_enter Try.func8, Try.ntmps8
    go_wp2_with fail
    refine HC1.out.mono ?_
    rintro e w1 ⟨rfl, hb1⟩
    have HB1 := Lib.hid hb1
    clear hb1
    go_wp2_with fail
    refine (HNU.out 0 w1).mono ?_
    rintro e w3 ⟨rfl, hw⟩
    rw [hw]
    clear hw w3
    go_wp2_with fail
    refine (HC2.out w1 HB1.out).mono ?_
    rintro e w2 ⟨rfl, hb2⟩
    have HB2 : Hid (Below w.heap.size w w2) := show Below _ _ _ from HB1.out.trans (hb2.mono HB1.out.size)
    clear hb2
    go_wp2_with fail
    refine (HNU.out F w2).mono ?_
    rintro e w3 ⟨rfl, hw⟩
    rw [hw]
    clear hw w3
    go_wp2_with fail
    refine (HW.out w2).mono ?_
    rintro e w3 ⟨rfl, hb3⟩
    go_wp2_with fail
    go_ret
    exact ⟨rfl, HB2.out.trans (hb3.mono HB2.out.size)⟩
  · have hf : (E != 0) = true := by simp [he]
    go_enter Try.func8, Try.ntmps8
    go_wp2_with fail
    refine HC1.out.mono ?_
    rintro e w1 ⟨rfl, hb1⟩
    have HB1 := Lib.hid hb1
    clear hb1
    go_wp2_with fail
    refine (HNU.out E w1).mono ?_
    rintro e w3 ⟨rfl, hw⟩
    rw [hw]
    clear hw w3
    go_wp2_with fail
    refine (HW.out w1).mono ?_
    rintro e w3 ⟨rfl, hb3⟩
    go_wp2_with fail
    go_ret
    exact ⟨rfl, HB1.out.trans (hb3.mono HB1.out.size)⟩
end Go.Proofs.Ytkpiehejkhjhlaa
