/-
  The document's answers for trace: sure, Orderly (written by gen_trz.py).
-/
import Derived.Test.YtkpiehejkhjhlaaTrY
namespace Go.Proofs.Ytkpiehejkhjhlaa
open Go.RowKit Go.Shelf Go.Maps

set_option maxRecDepth 100000 in
set_option maxHeartbeats 4000000 in
theorem sure_any {v : Value} {ts : List Tch} (line : Int) (w : World) (hl : ts.length ≤ 90000) (hok : ∀ t ∈ ts, okT t) (hs : SlT w v ts) :
    Calls Try.prog 38 #[v, .int .i64 line] w fun e w' => e = .returned (.bool (sureV ts line)) ∧ Below w.heap.size w w' := by
  obtain ⟨a, cap, rfl, -⟩ := id hs
  obtain ⟨N, hN⟩ : ∃ N, ts.length = N := ⟨_, rfl⟩
  have HOK := Lib.hid hok
  have HSV : Hid (sureV ts line = (sureAt line ts ts.length == 0 || sureAt line ts ts.length == 3)) := show _ = _ from rfl
  rw [hN] at hs hl HSV ⊢
  have HAT := Lib.hid (hs.at_ hN)
  have HN := Lib.hid hN
  clear hs hok hN
  go_enter Try.func38, Try.ntmps38
  go_wp2_with fail
  go_loopw [5, 6] (fun sv i wr => ∃ k : Nat, ∃ s : Int, k ≤ N ∧ i = .int .i64 (k : Nat) ∧ sv = .int .i64 s ∧ Hid (sureAt line ts k = s) ∧ Hid (Below w.heap.size w wr)) (fun _ i _ => N - (intOf i).toNat)
  case atStart => exact ⟨0, 0, by omega, rfl, rfl, (show _ = _ from rfl), (show Below _ _ _ from Below.refl _ _)⟩
  case round =>
    obtain ⟨k, s, hk, rfl, rfl, HS, HB⟩ := hrel
    by_cases hlt : k < N
    · obtain ⟨b, off, t, ht, hmem, rfl, hat⟩ := HAT.out k hlt
      obtain ⟨c0, c1, c2⟩ := hat wr HB.out
      have k2 : (k : Int) < (N : Int) := by omega
      have HST : Hid (sureAt line ts (k + 1) = sureStep line s t) := show _ = _ by rw [sureAt_succ ht, HS.out]
      have HLN := Lib.hid (refLine_any t (HOK.out t hmem).1 wr)
      have HATK := Lib.hid hat
      clear ht hat hmem
      obtain ⟨x, y, z⟩ := t
      simp only at c0 c1 c2 HATK
      obtain ⟨q, hq⟩ : ∃ q, lineR ⟨x, y, z⟩ = q := ⟨_, rfl⟩
      rw [hq] at HLN
      by_cases h2 : x = 2
      · subst h2
        by_cases hql : q = line
        · have hb : (q == line) = true := by simp [hql]
          have HS1 : Hid (sureAt line ts (k + 1) = 1) := show _ = _ by rw [HST.out]; unfold sureStep; rw [if_pos ⟨rfl, by rw [hq]; exact hql⟩]
          clear hq hql HST
          go_wp2_with fail
          refine HLN.out.mono ?_
          rintro e w1 ⟨rfl, hb1⟩
          have HB1 : Hid (Below w.heap.size w w1) := show Below _ _ _ from HB.out.trans (hb1.mono HB.out.size)
          clear hb1
          go_wp2_with fail
          go_roundw
          case rel => exact ⟨k + 1, 1, by omega, by go_num, rfl, HS1, HB1⟩
          case measure => simp [intOf]; omega
        · have hb : (q == line) = false := by simp [hql]
          have HS1 : Hid (sureAt line ts (k + 1) = s) := show _ = _ by
            rw [HST.out]; unfold sureStep; rw [if_neg (fun h => hql (by rw [← hq]; exact h.2)), if_neg (by simp), if_neg (by simp)]
          clear hq hql HST
          go_wp2_with fail
          refine HLN.out.mono ?_
          rintro e w1 ⟨rfl, hb1⟩
          have HB1 : Hid (Below w.heap.size w w1) := show Below _ _ _ from HB.out.trans (hb1.mono HB.out.size)
          have d0 := (HATK.out w1 HB1.out).1
          clear hb1
          go_wp2_with fail
          go_roundw
          case rel => exact ⟨k + 1, s, by omega, by go_num, rfl, HS1, HB1⟩
          case measure => simp [intOf]; omega
      have e2 : (x == 2) = false := by simp [h2]
      by_cases h3 : x = 3
      · subst h3
        by_cases hy : y = line
        · have hb : (y == line) = true := by simp [hy]
          by_cases hs1 : s = 1
          · have hb2 : (s == 1) = true := by simp [hs1]
            have HS1 : Hid (sureAt line ts (k + 1) = 2) := show _ = _ by rw [HST.out]; unfold sureStep; rw [if_neg (by simp), if_pos ⟨rfl, hy, hs1⟩]
            clear hq hs1 HST
            go_wp2_with fail
            go_roundw
            case rel => exact ⟨k + 1, 2, by omega, by go_num, rfl, HS1, HB⟩
            case measure => simp [intOf]; omega
          · have hb2 : (s == 1) = false := by simp [hs1]
            have HS1 : Hid (sureAt line ts (k + 1) = s) := show _ = _ by rw [HST.out]; unfold sureStep; rw [if_neg (by simp), if_neg (fun h => hs1 h.2.2), if_neg (by simp)]
            clear hq hs1 HST
            go_wp2_with fail
            go_roundw
            case rel => exact ⟨k + 1, s, by omega, by go_num, rfl, HS1, HB⟩
            case measure => simp [intOf]; omega
        · have hb : (y == line) = false := by simp [hy]
          have HS1 : Hid (sureAt line ts (k + 1) = s) := show _ = _ by rw [HST.out]; unfold sureStep; rw [if_neg (by simp), if_neg (fun h => hy h.2.1), if_neg (by simp)]
          clear hq HST
          go_wp2_with fail
          go_roundw
          case rel => exact ⟨k + 1, s, by omega, by go_num, rfl, HS1, HB⟩
          case measure => simp [intOf]; omega
      have e3 : (x == 3) = false := by simp [h3]
      by_cases h4 : x = 4
      · subst h4
        by_cases hs2 : s = 2
        · have hb2 : (s == 2) = true := by simp [hs2]
          have HS1 : Hid (sureAt line ts (k + 1) = 3) := show _ = _ by rw [HST.out]; unfold sureStep; rw [if_neg (by simp), if_neg (by simp), if_pos ⟨rfl, hs2⟩]
          clear hq hs2 HST
          go_wp2_with fail
          go_roundw
          case rel => exact ⟨k + 1, 3, by omega, by go_num, rfl, HS1, HB⟩
          case measure => simp [intOf]; omega
        · have hb2 : (s == 2) = false := by simp [hs2]
          have HS1 : Hid (sureAt line ts (k + 1) = s) := show _ = _ by rw [HST.out]; unfold sureStep; rw [if_neg (by simp), if_neg (by simp), if_neg (fun h => hs2 h.2)]
          clear hq hs2 HST
          go_wp2_with fail
          go_roundw
          case rel => exact ⟨k + 1, s, by omega, by go_num, rfl, HS1, HB⟩
          case measure => simp [intOf]; omega
      · have e4 : (x == 4) = false := by simp [h4]
        have HS1 : Hid (sureAt line ts (k + 1) = s) := show _ = _ by rw [HST.out]; unfold sureStep; rw [if_neg (fun h => h2 h.1), if_neg (fun h => h3 h.1), if_neg (fun h => h4 h.1)]
        clear hq HST
        go_wp2_with fail
        go_roundw
        case rel => exact ⟨k + 1, s, by omega, by go_num, rfl, HS1, HB⟩
        case measure => simp [intOf]; omega
    · obtain rfl : k = N := by omega
      rw [HS.out] at HSV
      obtain ⟨r, hr⟩ : ∃ r, sureV ts line = r := ⟨_, rfl⟩
      have HR := Lib.hid hr
      rw [hr] at HSV
      clear hr
      cases h0 : (s == 0) with
      | true =>
        have HRT : Hid (r = true) := show _ = _ by rw [HSV.out, h0]; rfl
        go_wp2_with fail
        go_ret
        exact ⟨by rw [HR.out, HRT.out]; rfl, HB.out⟩
      | false =>
        have HRT : Hid (r = (s == 3)) := show _ = _ by rw [HSV.out, h0]; rfl
        go_wp2_with fail
        go_ret
        exact ⟨by rw [HR.out, HRT.out]; rfl, HB.out⟩
end Go.Proofs.Ytkpiehejkhjhlaa
