/-
  file: the contract of Join.
-/
import Derived.Test.YtmncoclmgcjjjaaQFlZ
namespace Go.Proofs.Ytmncoclmgcjjjaa
open Go.RowKit Go.Shelf
attribute [local go_sem] Oper.semAt_some

/-- What is wrong with chunks of a size; their bytes. -/
def errJ (s : Int) (L : List (List Int)) : Int := if s < 0 then 2 else if 448 < s then 190 else if L.length ≠ chN s.toNat then 191 else if chF (cutF (WM.bytesOf (flatN L)) s.toNat) = L then 0 else 191
def outJ (s : Int) (L : List (List Int)) : List Nat := if errJ s L = 0 then cutF (WM.bytesOf (flatN L)) s.toNat else []
theorem outJ_err {s : Int} {L : List (List Int)} {e : Int} (h : errJ s L = e) (h0 : e ≠ 0) : outJ s L = [] := if_neg (by rw [h]; exact h0)
theorem chunksN9_of {s : Int} (h0 : 0 ≤ s) (h1 : s ≤ 448) : chunksN9 s = (chN s.toNat : Nat) := by
  unfold chunksN9 chN
  rw [if_pos ⟨h0, h1⟩]
  omega
set_option maxRecDepth 100000 in
set_option maxHeartbeats 4000000 in
theorem fileJoin_any {v : Value} {L : List (List Int)} (s : Int) (hL : ∀ l ∈ L, Line8N l) (hn : L.length ≤ 9223372036854775807) (w : World) (hv : VecC w v L) :
    Calls Try.prog 21 #[.int .i64 s, v] w fun e w' => ∃ r, e = .returned (.tuple #[r, .int .i64 (errJ s L)]) ∧ FB w' r (outJ s L) ∧ Below w.heap.size w w' := by
  have h8 : ∀ l ∈ L, l.length = 8 := fun l hl => (hL l hl).1
  have HCH := Lib.hid (fun W => nodeChunks9_any s W)
  obtain ⟨a, c, rfl, hac, -⟩ := vecC_load hv h8
  have HV := Lib.hid hv
  have HL := Lib.hid hL
  have HE : Hid (errJ s L = if s < 0 then 2 else if 448 < s then 190 else if L.length ≠ chN s.toNat then 191 else if chF (cutF (WM.bytesOf (flatN L)) s.toNat) = L then 0 else 191) := show _ = _ from rfl
  obtain ⟨n, hn'⟩ : ∃ n, L.length = n := ⟨_, rfl⟩
  have HN := Lib.hid hn'
  rw [hn'] at HE hn hac ⊢
  obtain ⟨W0, hW0⟩ : ∃ W0, w.alloc (.cells #[.slice none 0 0, .slice none 0 0] 61) = W0 := ⟨_, rfl⟩
  have HB0 : Hid (Below w.heap.size w W0) := show Below _ _ _ by rw [← hW0]; exact (Below.refl _ _).alloc (Nat.le_refl _) _
  have HX0 : Hid (Blk W0 w.heap.size 61 #[.slice none 0 0, .slice none 0 0]) := show Blk _ _ _ _ by rw [← hW0]; exact Blk.new _ _ _
  have HW0 := Lib.hid hW0
  clear hv hn' hW0 hL h8
  by_cases s0 : s < 0
  · have he : errJ s L = 2 := by rw [HE.out, if_pos s0]
    have HO := Lib.hid (outJ_err he (by decide))
    have HEE := Lib.hid he
    obtain ⟨m, hm⟩ : ∃ m, chunksN9 s = m := ⟨_, rfl⟩
    obtain ⟨x, hx⟩ : ∃ x, chunksErr9 s = x := ⟨_, rfl⟩
    rw [hm, hx] at HCH
    clear he hm hx HE
    go_enter Try.func21, Try.ntmps21
    go_wp2_with fail
    refine wp_scope_forward 0 rfl ?_
    go_wp2_with fail
    rw [HW0.out]
    refine (HCH.out _).mono ?_
    rintro e w1 ⟨rfl, hb⟩
    have HB1 : Hid (Below w.heap.size w w1) := show Below _ _ _ from HB0.out.trans (hb.mono HB0.out.size)
    clear hb
    go_wp2_with fail
    go_step3
    refine ⟨rfl, ?_⟩
    go_wp2
    rw [Exit.jump_ret]
    go_ret2
    exact ⟨_, by rw [HEE.out]; rfl, by rw [HO.out]; exact nil_fb _, HB1.out⟩
  by_cases s1 : 448 < s
  · have he : errJ s L = 190 := by rw [HE.out, if_neg s0, if_pos s1]
    have HO := Lib.hid (outJ_err he (by decide))
    have HEE := Lib.hid he
    obtain ⟨m, hm⟩ : ∃ m, chunksN9 s = m := ⟨_, rfl⟩
    obtain ⟨x, hx⟩ : ∃ x, chunksErr9 s = x := ⟨_, rfl⟩
    rw [hm, hx] at HCH
    clear he hm hx HE
    go_enter Try.func21, Try.ntmps21
    go_wp2_with fail
    refine wp_scope_forward 0 rfl ?_
    go_wp2_with fail
    rw [HW0.out]
    refine (HCH.out _).mono ?_
    rintro e w1 ⟨rfl, hb⟩
    have HB1 : Hid (Below w.heap.size w w1) := show Below _ _ _ from HB0.out.trans (hb.mono HB0.out.size)
    clear hb
    go_wp2_with fail
    go_step3
    refine ⟨rfl, ?_⟩
    go_wp2
    rw [Exit.jump_ret]
    go_ret2
    exact ⟨_, by rw [HEE.out]; rfl, by rw [HO.out]; exact nil_fb _, HB1.out⟩
  have hcn := chunksN9_of (s := s) (by omega) (by omega)
  rw [hcn] at HCH
  obtain ⟨x, hx⟩ : ∃ x, chunksErr9 s = x := ⟨_, rfl⟩
  rw [hx] at HCH
  obtain ⟨S, rfl⟩ : ∃ S : Nat, s = (S : Int) := ⟨s.toNat, by omega⟩
  have HOU : Hid (errJ (S : Int) L = 0 → outJ (S : Int) L = cutF (WM.bytesOf (flatN L)) S) := show _ → _ from fun h => by unfold outJ; rw [if_pos h]; rfl
  rw [Int.toNat_natCast] at HCH HE
  obtain ⟨m, hm⟩ : ∃ m, chN S = m := ⟨_, rfl⟩
  have hm7 : m ≤ 7 := by rw [← hm]; unfold chN; omega
  rw [hm] at HCH HE
  clear hx hm hcn
  by_cases hnm : n = m
  · subst hnm
    have he : errJ (S : Int) L = if chF (cutF (WM.bytesOf (flatN L)) S) = L then 0 else 191 := by rw [HE.out, if_neg s0, if_neg s1, if_neg (by simp)]
    have hnn : ((n : Int) != (n : Int)) = false := by simp
    have HJ : Hid (∀ W, Below w.heap.size w W → Calls Try.prog 38 #[.slice a n c] W fun e w' => ∃ r, e = .returned (.agg #[r, .slice none 0 0]) ∧ FB w' r (WM.bytesOf (flatN L)) ∧ Below W.heap.size W w') := show ∀ W, _ from fun W hW => by
      have h := joined9_any (v := .slice a L.length c) HL.out (by rw [HN.out]; omega) W (HV.out.below hW)
      rw [HN.out] at h
      exact h
    have HEE := Lib.hid he
    clear he HE
    go_enter Try.func21, Try.ntmps21
    go_wp2_with fail
    refine wp_scope_forward 0 rfl ?_
    go_wp2_with fail
    rw [HW0.out]
    refine (HCH.out _).mono ?_
    rintro e w1 ⟨rfl, hb⟩
    have HB1 : Hid (Below w.heap.size w w1) := show Below _ _ _ from HB0.out.trans (hb.mono HB0.out.size)
    have HX1 : Hid (Blk w1 w.heap.size 61 #[.slice none 0 0, .slice none 0 0]) := show Blk _ _ _ _ from HX0.out.below hb HX0.out.lt
    clear hb
    go_wp2_with fail
    refine (HJ.out w1 HB1.out).mono ?_
    rintro e w2 ⟨r, rfl, hr, hb⟩
    have HB2 : Hid (Below w.heap.size w w2) := show Below _ _ _ from HB1.out.trans (hb.mono HB1.out.size)
    have hx2 : Blk w2 w.heap.size 61 #[.slice none 0 0, .slice none 0 0] := HX1.out.below hb HX1.out.lt
    have HR := Lib.hid hr
    have c0 := hx2.cell (j := 0) rfl
    have c1 := hx2.cell (j := 1) rfl
    have f0 := hx2.frozen 0
    have f1 := hx2.frozen 1
    have lt2 := hx2.lt
    have HX2 := Lib.hid hx2
    obtain ⟨ar, cr, rfl, hcr1, hcr2⟩ := hr.form
    obtain ⟨W4, hW4⟩ : ∃ W4, (w2.setCell ⟨w.heap.size, 0, none⟩ (.slice ar (WM.bytesOf (flatN L)).length cr)).setCell ⟨w.heap.size, 1, none⟩ (.slice none 0 0) = W4 := ⟨_, rfl⟩
    have ht4 : Turn (fun b => b = w.heap.size) w2 W4 := by
      rw [← hW4]
      exact (Turn.setCell (q := fun b => b = w.heap.size) w2 _ rfl).trans (Turn.setCell _ _ rfl)
    have hx4 : Blk W4 w.heap.size 61 #[.slice ar (WM.bytesOf (flatN L)).length cr, .slice none 0 0] := by
      rw [← hW4]
      exact (hx2.set 0 _).set 1 _
    have hf4 : Fil W4 w.heap.size (.slice ar (WM.bytesOf (flatN L)).length cr) (.slice none 0 0) (WM.bytesOf (flatN L)) [] := ⟨hx4, hr.slices hx2 ht4, nil_fb _⟩
    have HB4 : Hid (Below w.heap.size w W4) := show Below _ _ _ from HB2.out.trans (ht4.below (B := w.heap.size) (fun k hk => by omega) HB2.out.size)
    have HEND := Lib.hid (end_any S (by omega) W4 hf4)
    have HV4 : Hid (VecC W4 (.slice a n c) L) := show VecC _ _ _ by have h := HV.out.below HB4.out; rw [HN.out] at h; exact h
    have HW4 := Lib.hid hW4
    clear hr hb hx2 ht4 hx4 hf4 hW4
    go_wp2_with fail
    rw [HW4.out]
    refine HEND.out.mono ?_
    rintro e w5 ⟨⟨r5, rfl⟩, hf5, -, ht5⟩
    have HB5 : Hid (Below w.heap.size w w5) := show Below _ _ _ from HB4.out.trans (ht5.below (B := w.heap.size) (fun k hk => by omega) HB4.out.size)
    have HF5 := Lib.hid hf5
    have HV5 : Hid (VecC w5 (.slice a n c) L) := show VecC _ _ _ by have h := HV.out.below HB5.out; rw [HN.out] at h; exact h
    have c5 := hf5.cells.1
    have HCK := Lib.hid (chunksF_any (v := .slice (some ⟨W4.heap.size, 0, none⟩) S S) (xs := cutF (WM.bytesOf (flatN L)) S) (by rw [cutF_length]; omega) w5 hf5.c)
    clear hf5 ht5
    go_wp2_with fail
    refine HCK.out.mono ?_
    rintro e w6 ⟨u, rfl, hu, hb6⟩
    have HB6 : Hid (Below w.heap.size w w6) := show Below _ _ _ from HB5.out.trans (hb6.mono HB5.out.size)
    have hvu : VecC w6 u (chF (cutF (WM.bytesOf (flatN L)) S)) := by unfold VecC; rw [chF_length]; exact vec_of_own hu
    have hcl := chF_le (cutF (WM.bytesOf (flatN L)) S) (by rw [cutF_length]; omega)
    have HQ := Lib.hid (equalC_any (by omega) (by rw [HN.out]; omega) (chF_8 _) (fun l hl => (HL.out l hl).1) w6 hvu (HV5.out.below hb6))
    have HF6 := Lib.hid (HF5.out.below hb6)
    have c6 := HF6.out.cells.1
    clear hu hb6 hvu hcl c5 HCK
    go_wp2_with fail
    refine HQ.out.mono ?_
    rintro e w7 ⟨rfl, hb7⟩
    have HB7 : Hid (Below w.heap.size w w7) := show Below _ _ _ from HB6.out.trans (hb7.mono HB6.out.size)
    have HF7 := Lib.hid (HF6.out.below hb7)
    have c7 := HF7.out.cells.1
    clear hb7 c6 HQ
    by_cases hq : chF (cutF (WM.bytesOf (flatN L)) S) = L
    · have hqb : (chF (cutF (WM.bytesOf (flatN L)) S) == L) = true := by rw [beq_iff_eq]; exact hq
      have he := HEE.out
      rw [if_pos hq] at he
      have ho := HOU.out he
      have HE0 := Lib.hid he
      have HO0 := Lib.hid ho
      rw [hqb]
      clear hq hqb he ho
      go_wp2_with fail
      rw [Exit.jump_ret]
      go_ret2
      exact ⟨_, by rw [HE0.out]; rfl, by rw [HO0.out]; exact HF7.out.c, HB7.out⟩
    · have hqb : (chF (cutF (WM.bytesOf (flatN L)) S) == L) = false := by rw [beq_eq_false_iff_ne]; exact hq
      have he := HEE.out
      rw [if_neg hq] at he
      have ho := outJ_err he (by decide)
      have HE0 := Lib.hid he
      have HO0 := Lib.hid ho
      rw [hqb]
      clear hq hqb he ho
      go_wp2_with fail
      go_step3
      refine ⟨rfl, ?_⟩
      go_wp2
      rw [Exit.jump_ret]
      go_ret2
      exact ⟨_, by rw [HE0.out]; rfl, by rw [HO0.out]; exact nil_fb _, HB7.out⟩
  · have he : errJ (S : Int) L = 191 := by rw [HE.out, if_neg s0, if_neg s1, if_pos hnm]
    have HO := Lib.hid (outJ_err he (by decide))
    have HEE := Lib.hid he
    have hne : ((n : Int) != (m : Int)) = true := by rw [bne_iff_ne]; omega
    clear he HE hnm
    go_enter Try.func21, Try.ntmps21
    go_wp2_with fail
    refine wp_scope_forward 0 rfl ?_
    go_wp2_with fail
    rw [HW0.out]
    refine (HCH.out _).mono ?_
    rintro e w1 ⟨rfl, hb⟩
    have HB1 : Hid (Below w.heap.size w w1) := show Below _ _ _ from HB0.out.trans (hb.mono HB0.out.size)
    clear hb
    go_wp2_with fail
    go_step3
    refine ⟨rfl, ?_⟩
    go_wp2
    rw [Exit.jump_ret]
    go_ret2
    exact ⟨_, by rw [HEE.out]; rfl, by rw [HO.out]; exact nil_fb _, HB1.out⟩
end Go.Proofs.Ytmncoclmgcjjjaa
