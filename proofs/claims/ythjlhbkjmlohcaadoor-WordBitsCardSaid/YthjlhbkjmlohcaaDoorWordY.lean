/-
  The contract of the document's Apart.
-/
import Derived.Test.YthjlhbkjmlohcaaDoorWordX
namespace Go.Proofs.YthjlhbkjmlohcaaDoor
open Go.RowKit Go.Shelf

namespace WM
theorem or_mask_zero (t f : Nat) : t ||| maskN f 0 = t := by
  have : maskN f 0 = 0 := by unfold maskN; simp
  rw [this, Nat.or_zero]
theorem or_mask_succ (t f j : Nat) (h : f + j + 1 ≤ 64) : withN (t ||| maskN f j) (f + j) true = t ||| maskN f (j + 1) := by
  apply Nat.eq_of_testBit_eq
  intro i
  rw [withN_bit, Nat.testBit_or, Nat.testBit_or, maskN_bit f j i (by omega), maskN_bit f (j + 1) i (by omega)]
  by_cases h1 : i = f + j
  · subst h1; simp
  · rw [if_neg h1]
    congr 1
    rw [Bool.eq_iff_iff]; simp; omega
theorem or_mask_bit (t f j : Nat) (h : f + j + 1 ≤ 64) : (t ||| maskN f j).testBit (f + j) = t.testBit (f + j) := by
  rw [Nat.testBit_or, maskN_bit f j (f + j) (by omega)]; simp
theorem or_mask_lt (t f j : Nat) (ht : t < 18446744073709551616) : t ||| maskN f j < 18446744073709551616 := Nat.or_lt_two_pow (n := 64) ht (maskN_lt f j)
theorem apart_hit (t f v j : Nat) (h : f + v ≤ 64) (hj : j < v) (hb : t.testBit (f + j) = true) : ¬ t &&& maskN f v = 0 := fun h0 => by
  have := (and_zero t _).1 h0 (f + j) (by rw [maskN_bit f v _ h]; simp; omega)
  rw [this] at hb; cases hb
theorem apart_free (t f v : Nat) (h : f + v ≤ 64) (hj : ∀ j, j < v → t.testBit (f + j) = false) : t &&& maskN f v = 0 := (and_zero t _).2 fun i hi => by
  rw [maskN_bit f v i h] at hi
  simp at hi
  have := hj (i - f) (by omega)
  rwa [show f + (i - f) = i by omega] at this
end WM
set_option maxRecDepth 100000 in
set_option maxHeartbeats 2000000 in
theorem refApart_any (v : Value) (fs : List (Int × Int)) (hl : fs.length ≤ 1000) (hfs : FieldInts fs) (w : World) (hs : SlF w v fs) :
    Calls Tryd.prog 10 #[v] w fun e w' => e = .returned (.bool (WM.apartFrom 0 fs)) ∧ Below w.heap.size w w' := by
  obtain ⟨a, cap, rfl, hlc, hcells⟩ := hs
  have HC := Lib.hid hcells; clear hcells hlc
  have HX := Lib.hid hfs; clear hfs
  go_enter Tryd.func10, Tryd.ntmps10
  go_wp2
  go_loopw [3, 4] (fun s i wr => ∃ (k t : Nat), k ≤ fs.length ∧ t < 18446744073709551616 ∧ i = .int .i64 k ∧ s = .int .u64 t ∧ WM.apartFrom 0 fs = WM.apartFrom t (fs.drop k) ∧ Below w.heap.size w wr) (fun _ i _ => fs.length - (intOf i).toNat)
  case atStart => exact ⟨0, 0, Nat.zero_le _, by decide, rfl, rfl, rfl, Below.refl _ _⟩
  case round =>
    obtain ⟨k, t, hk, htl, rfl, rfl, hsp, hb⟩ := hrel
    by_cases hlt : k < fs.length
    · have e0 : fs.drop k = fs[k] :: fs.drop (k + 1) := List.drop_eq_getElem_cons hlt
      have k2 : (k : Int) < (fs.length : Int) := by omega
      obtain ⟨b, off, rfl, hbl, hj⟩ := HC.out (by omega)
      obtain ⟨x, y, exy⟩ : ∃ x y, fs[k] = (x, y) := ⟨_, _, rfl⟩
      have hr := HX.out fs[k] (List.getElem_mem hlt)
      have hg : fs[k]?.getD (0, 0) = (x, y) := by rw [← exy]; simp [hlt]
      have hc1 : ∀ W, Below w.heap.size w W → W.cell? ⟨b, off + k * 2, none⟩ = some (.int .i64 x) := fun W hB => (hB.cell (p := ⟨b, off + k * 2, none⟩) hbl).trans (by have := (hj k hlt).1; rwa [hg] at this)
      have hc2 : ∀ W, Below w.heap.size w W → W.cell? ⟨b, off + k * 2 + 1, none⟩ = some (.int .i64 y) := fun W hB => (hB.cell (p := ⟨b, off + k * 2 + 1, none⟩) hbl).trans (by have := (hj k hlt).2; rwa [hg] at this)
      have H1 := Lib.hid hc1
      have H2 := Lib.hid hc2
      rw [exy] at hr e0
      rw [e0] at hsp
      have HR := Lib.hid hr
      have HSP := Lib.hid hsp
      have p1 := H1.out wr hb
      have p2 := H2.out wr hb
      clear hsp hr hj hg e0 exy hc1 hc2
      go_wp2_with fail
      refine (right_any x y HR.out.1 _).mono ?_
      rintro e w1 ⟨rfl, hb1⟩
      have b1 := hb.trans (hb1.mono hb.size)
      clear p1 p2
      have p1 := H1.out w1 b1
      have p2 := H2.out w1 b1
      cases hok : WM.okF x y with
      | false =>
        have HF : Hid (WM.apartFrom 0 fs = false) := by
          show _ = _
          rw [HSP.out, WM.apartFrom, hok]; rfl
        clear hok
        go_wp2_with fail
        go_ret
        exact ⟨ret_bool HF.out.symm, b1⟩
      | true =>
        obtain ⟨f, v, rfl, rfl, hfv, hf64, hv1⟩ := WM.okF_parts x y hok
        have HOK := Lib.hid hok
        clear hok
        have HSM := Lib.hid (show WM.apartFrom 0 fs = (WM.okF (f : Int) (v : Int) && decide (t &&& WM.maskN f v = 0) && WM.apartFrom (t ||| WM.maskN f v) (fs.drop (k + 1))) from HSP.out)
        have j1 : (f : Int) + (v : Int) ≤ 64 := by omega
        go_wp2_with fail
        go_loopw [3, 5] (fun s q wi => ∃ j : Nat, j ≤ v ∧ q = .int .i64 ((f + j : Nat) : Int) ∧ s = .int .u64 (t ||| WM.maskN f j : Nat) ∧ (∀ i, i < j → t.testBit (f + i) = false) ∧ Below w.heap.size w wi) (fun _ q _ => f + v - (intOf q).toNat)
        case atStart => exact ⟨0, Nat.zero_le _, rfl, by rw [WM.or_mask_zero], fun i h => by omega, b1⟩
        case round =>
          obtain ⟨j, hj, rfl, rfl, hfree, hbi⟩ := hrel
          have HFR := Lib.hid hfree; clear hfree
          have p3 := H1.out wr hbi
          have p4 := H2.out wr hbi
          clear p1 p2
          by_cases hjv : j < v
          · have k5 : ((f + j : Nat) : Int) < (f : Int) + (v : Int) := by omega
            have HS := Lib.hid (WM.or_mask_succ t f j (by omega))
            have HB := Lib.hid (WM.or_mask_bit t f j (by omega))
            have hol := WM.or_mask_lt t f j htl
            have h64 : f + j < 64 := by omega
            generalize hs : t ||| WM.maskN f j = s at *
            clear hs
            generalize hq : f + j = q at *
            have HQ := Lib.hid hq; clear hq
            go_wp2
            go_quiet (fail)
            go_wp2_with fail
            refine (bit_any s q h64 _).mono ?_
            rintro e w2 ⟨rfl, rfl⟩
            cases hbit : s.testBit q with
            | true =>
              have HF : Hid (WM.apartFrom 0 fs = false) := by
                show _ = _
                rw [HSM.out, decide_eq_false (WM.apart_hit t f v j hfv hjv (by rw [HQ.out, ← HB.out]; exact hbit)), Bool.and_false, Bool.false_and]
              clear hbit
              go_wp2_with fail
              go_ret
              exact ⟨ret_bool HF.out.symm, hbi.trans ((below_drewN (Below.refl _ _) _).mono hbi.size)⟩
            | false =>
              have HT := Lib.hid (HB.out.symm.trans hbit)
              clear hbit
              go_wp2_with fail
              refine (with_any' s q true h64 hol _).mono ?_
              rintro e w2 ⟨rfl, rfl⟩
              rw [HS.out]
              go_wp2_with fail
              go_roundw
              case rel => exact ⟨j + 1, by omega, by have := HQ.out; go_num, rfl, fun i hi => by
                by_cases hij : i = j
                · rw [hij, HQ.out]; exact HT.out
                · exact HFR.out i (by omega), hbi.trans ((below_drewN (Below.refl _ _) _).mono hbi.size)⟩
              case measure => have := HQ.out; simp [intOf]; omega
          · obtain rfl : j = v := by omega
            have h0 := WM.apart_free t f j hfv HFR.out
            have HE : Hid (WM.apartFrom 0 fs = WM.apartFrom (t ||| WM.maskN f j) (fs.drop (k + 1))) := by
              show _ = _
              rw [HSM.out, HOK.out, decide_eq_true h0]; rfl
            have hol := WM.or_mask_lt t f j htl
            clear h0
            go_wp2
            go_quiet (fail)
            go_wp2
            go_roundw
            case rel => exact ⟨k + 1, _, by omega, hol, by go_num, rfl, HE.out, hbi.trans ((below_drewN (Below.refl _ _) _).mono hbi.size)⟩
            case measure => simp [intOf]; omega
    · have e0 : fs.drop k = [] := List.drop_eq_nil_of_le (by omega)
      have HE : Hid (WM.apartFrom 0 fs = true) := by rw [e0] at hsp; exact hsp
      clear hsp e0
      have k2 : (fs.length : Int) ≤ (k : Int) := by omega
      go_wp2
      go_ret
      exact ⟨ret_bool HE.out.symm, hb⟩
end Go.Proofs.YthjlhbkjmlohcaaDoor
