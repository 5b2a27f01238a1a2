/-
  path: the laws PathWithin, PathParents, PathHolds.
-/
import Derived.Test.YtohdgjmmekgcmaaDoorMp7
namespace Go.Proofs.YtohdgjmmekgcmaaDoor
open Go.RowKit Go.Shelf Go.Sort

set_option maxRecDepth 100000 in
set_option maxHeartbeats 4000000 in
theorem within7_any (s t : List UInt8) (w : World) (hm : MaxC w) :
    Calls Tryd.prog 7 #[encStr s, encStr t] w fun e w' => e = .returned (.bool true) ∧ Below w.heap.size w w' := by
  have HW := Lib.hid (works7_any w hm)
  by_cases h1 : 300 < s.length
  · have q1 : (300 : Int) < (s.length : Int) := by omega
    clear h1 hm
    go_enter Tryd.func7, Tryd.ntmps7
    go_wp2_with fail
    refine HW.out.mono ?_
    rintro e w1 ⟨rfl, hb⟩
    go_wp2_with fail
    go_ret
    exact ⟨rfl, hb⟩
  have q1 : ¬ (300 : Int) < (s.length : Int) := by omega
  by_cases h2 : 300 < t.length
  · have q2 : (300 : Int) < (t.length : Int) := by omega
    clear h1 h2 hm
    go_enter Tryd.func7, Tryd.ntmps7
    go_wp2_with fail
    refine HW.out.mono ?_
    rintro e w1 ⟨rfl, hb⟩
    go_wp2_with fail
    go_ret
    exact ⟨rfl, hb⟩
  have q2 : ¬ (300 : Int) < (t.length : Int) := by omega
  have HP := Lib.hid (paWithin_any s t (by omega) (by omega) w hm)
  have HR := Lib.hid (fun w => refWithin_any s t (by omega) (by omega) w)
  have HMX := Lib.hid (fun W (hb : Below w.heap.size w W) => hm.below hb hm.room)
  obtain ⟨⟨b, no⟩, hx⟩ : ∃ x, withinE s t = x := ⟨_, rfl⟩
  rw [hx] at HP HR
  dsimp only at HP HR
  clear h1 h2 hm hx
  go_enter Tryd.func7, Tryd.ntmps7
  go_wp2_with fail
  refine HP.out.mono ?_
  rintro e w1 ⟨rfl, hb1⟩
  go_wp2_with fail
  refine (HR.out _).mono ?_
  rintro e w2 ⟨rfl, hb2⟩
  have HB2 := Lib.hid (hb1.trans (hb2.mono hb1.size))
  clear hb1 hb2
  go_wp2_with (first | (go_at_call 36; refine (num7_any _ _).mono ?_; rintro e w3 ⟨rfl, rfl⟩) | (go_at_call 30; refine (works7_any _ (HMX.out _ HB2.out)).mono ?_; rintro e w3 ⟨rfl, hb3⟩))
  go_ret
  exact ⟨rfl, HB2.out.trans (hb3.mono HB2.out.size)⟩
set_option maxRecDepth 100000 in
set_option maxHeartbeats 4000000 in
theorem parents7_any (s : List UInt8) (w : World) (hm : MaxC w) :
    Calls Tryd.prog 9 #[encStr s] w fun e w' => e = .returned (.bool true) ∧ Below w.heap.size w w' := by
  have HW := Lib.hid (works7_any w hm)
  by_cases h1 : 300 < s.length
  · have q1 : (300 : Int) < (s.length : Int) := by omega
    clear h1 hm
    go_enter Tryd.func9, Tryd.ntmps9
    go_wp2_with fail
    refine HW.out.mono ?_
    rintro e w1 ⟨rfl, hb⟩
    go_wp2_with fail
    go_ret
    exact ⟨rfl, hb⟩
  have q1 : ¬ (300 : Int) < (s.length : Int) := by omega
  have HMX := Lib.hid (fun W (hb : Below w.heap.size w W) => hm.below hb hm.room)
  have HP := Lib.hid (paParent_any s (by omega) w hm)
  have HS := Lib.hid (fun w hm => paSplit_any s (by omega) w hm)
  by_cases h0 : (parentE s).2.2 = 0
  · have hsp : (splitE s).2 = 0 ∧ (splitE s).1 ≠ [] := by
      unfold parentE at h0
      by_cases k1 : (splitE s).2 = 0
      · refine ⟨k1, fun k2 => ?_⟩
        rw [if_neg (by simp [k1]), if_pos k2] at h0
        cases h0
      · rw [if_pos k1] at h0
        exact absurd h0 k1
    obtain ⟨l, hl⟩ : ∃ l, (splitE s).1 = l := ⟨_, rfl⟩
    have hlen := splitE_len s
    have hri := splitE_right s
    rw [hl] at hsp hlen hri
    obtain ⟨k, hk⟩ : ∃ k, l.length = k + 1 := ⟨l.length - 1, by have := List.length_pos_iff.2 hsp.2; omega⟩
    have hE : parentE s = (pathOf (l.take k), l[k]?.getD [], 0) := by
      unfold parentE
      rw [if_neg (by simp [hsp.1]), hl, if_neg hsp.2, hk]
      rfl
    have hpl := pathOf_length (l.take k) (take_right hri k) (by rw [List.length_take]; omega)
    have HS2 := Lib.hid (fun w hm => paSplit_any (pathOf (l.take k)) (by omega) w hm)
    rw [splitE_path (l.take k) (by rw [List.length_take]; omega) (take_right hri k)] at HS2
    rw [hsp.1, hl] at HS
    rw [hE] at HP
    dsimp only at HP HS2
    have HLT : Hid (l.take k ++ [l[k]?.getD []] = l) := show _ = _ by
      rw [← (all_take_succ (by omega) rfl rightN).2, List.take_of_length_le (by omega)]
    obtain ⟨x, hx⟩ : ∃ x, l[k]?.getD [] = x := ⟨_, rfl⟩
    obtain ⟨p, hp⟩ : ∃ p, pathOf (l.take k) = p := ⟨_, rfl⟩
    have HTL : Hid ((l.take k).length = k) := show _ = _ by rw [List.length_take]; omega
    rw [hx] at HP HLT
    rw [hp] at HP HS2
    obtain ⟨T, hT⟩ : ∃ T, l.take k = T := ⟨_, rfl⟩
    rw [hT] at HTL HLT HS2
    have hkb : k ≤ 16 := by omega
    have HLL := Lib.hid hlen
    obtain ⟨i0, hi, hz0, hz1, hz2⟩ := info_parts infoStr
    have HI := Lib.hid hi
    clear h1 h0 hl hE hx hp hk hpl hsp hri hlen hi hT
    go_enter Tryd.func9, Tryd.ntmps9
    go_wp2_with fail
    refine HP.out.mono ?_
    rintro e w1 ⟨rfl, hb1⟩
    have HB1 := Lib.hid hb1
    clear hb1
    go_wp2_with (first | (go_at_call 36; refine (num7_any _ _).mono ?_; rintro e w3 ⟨rfl, rfl⟩) | (go_at_call 31; refine park ?_))
    unfold Park
    refine (HS2.out _ (HMX.out _ HB1.out)).mono ?_
    rintro e w2 ⟨u, rfl, hu, hb2⟩
    have HU := Lib.hid hu
    have HB2 : Hid (Below w.heap.size w w2) := show Below _ _ _ from HB1.out.trans (hb2.mono HB1.out.size)
    obtain ⟨ua, uc, rfl⟩ := hu.txs.slice
    clear hu hb2
    go_wp2_with fail
    refine (HS.out _ (HMX.out _ HB2.out)).mono ?_
    rintro e w3 ⟨v, rfl, hv, hb3⟩
    have HV := Lib.hid hv
    have HU3 := Lib.hid (HU.out.below hb3)
    have HB3 : Hid (Below w.heap.size w w3) := show Below _ _ _ from HB2.out.trans (hb3.mono HB2.out.size)
    obtain ⟨va, vc, rfl⟩ := hv.txs.slice
    clear hv hb3
    go_wp2_with (first | (go_at_call 36; refine (num7_any _ _).mono ?_; rintro e w5 ⟨rfl, rfl⟩) | (at_builtin; refine park ?_))
    unfold Park
    have hTk := HTL.out
    have bA : Below w3.heap.size w3 (w3.alloc (.cells #[] 9)) := (Below.refl _ _).alloc (Nat.le_refl _) _
    refine wpList_append_vecW rfl _ _ 65 rfl 9 i0 _ 1 16 Tryd.underlying65 HI.out hz0 hz1 hz2 rfl (by decide) w3.heap.size _ _ 0 T.length [] (T.map encStr) rfl rfl (.inl ⟨rfl, rfl, _, rfl⟩) (HU3.out.below bA).txs (one_strs T) (by omega) (by omega) (by simp) ?_
    rintro v4 w4 g4 b4 -
    have HB4 : Hid (Below w3.heap.size w3 w4) := show Below _ _ _ from bA.trans b4
    have HG4 := Lib.hid g4
    have HV4 := Lib.hid (HV.out.below HB4.out)
    clear bA g4 b4 hTk
    have hb5 : Below w4.heap.size w4 (w4.alloc (.cells #[encStr x] 9)) := (Below.refl _ _).alloc (Nat.le_refl _) _
    have HG5 := Lib.hid (HG4.out.below hb5)
    have HX5 := Lib.hid (vec_newL w4 #[encStr x] 9 1 1 rfl)
    have HV5 := Lib.hid (HV4.out.below hb5)
    have HB5 : Hid (Below w3.heap.size w3 (w4.alloc (.cells #[encStr x] 9))) := show Below _ _ _ from HB4.out.trans (hb5.mono HB4.out.size)
    have hs5 := HB5.out.size
    clear hb5
    go_wp2_with (at_builtin; refine park ?_)
    unfold Park
    have hTk := HTL.out
    refine wpList_append_vecW rfl _ _ 65 rfl 9 i0 _ 1 16 Tryd.underlying65 HI.out hz0 hz1 hz2 rfl (by decide) w3.heap.size _ _ (0 + T.length) 1 _ _ rfl rfl HG5.out HX5.out (one_strs [x]) (by omega) (by omega) hs5 ?_
    rintro v6 w6 g6 b6 -
    have HB6 : Hid (Below w.heap.size w w6) := show Below _ _ _ from HB3.out.trans ((HB5.out.trans b6).mono HB3.out.size)
    have HV6 : Hid (TxS w6 (.slice va l.length vc) l) := show Vec _ _ _ _ _ from by
      have h := HV5.out.txs
      have hbb : Below w3.heap.size w3 w6 := HB5.out.trans b6
      exact (HV.out.below hbb).txs
    have HX6 : Hid (TxS w6 v6 l) := show Vec _ _ _ _ _ by
      have h := g6.vec
      have e1 : l.length = 0 + T.length + 1 := by rw [← HLT.out, List.length_append]; simp
      have e2 : l.map encStr = [] ++ T.map encStr ++ #[encStr x].toList := by rw [← HLT.out, List.map_append]; rfl
      rw [e1, e2]
      exact h
    clear hTk hs5 g6 b6
    obtain ⟨a6, c6, rfl⟩ := HX6.out.slice
    have HTX := Lib.hid (refTexts_any _ _ l l (by have := HLL.out; omega) (by have := HLL.out; omega) w6 HV6.out HX6.out)
    go_wp2_with (first | (go_at_call 35; refine park ?_))
    unfold Park
    refine HTX.out.mono ?_
    rintro e w7 ⟨rfl, hb7⟩
    rw [show decide True = true from rfl]
    have HB7 : Hid (Below w.heap.size w w7) := show Below _ _ _ from HB6.out.trans (hb7.mono HB6.out.size)
    clear hb7
    go_wp2_with (go_at_call 30; refine (works7_any _ (HMX.out _ HB7.out)).mono ?_; rintro e w8 ⟨rfl, hb8⟩)
    go_ret
    exact ⟨rfl, HB7.out.trans (hb8.mono HB7.out.size)⟩
  · have hq : ((parentE s).2.2 == 0) = false := by simp [h0]
    obtain ⟨⟨p, x, no⟩, hx⟩ : ∃ x, parentE s = x := ⟨_, rfl⟩
    rw [hx] at HP hq
    dsimp only at HP hq
    clear h1 h0 hx hm
    go_enter Tryd.func9, Tryd.ntmps9
    go_wp2_with fail
    refine HP.out.mono ?_
    rintro e w1 ⟨rfl, hb1⟩
    go_wp2_with (first | (go_at_call 36; refine (num7_any _ _).mono ?_; rintro e w3 ⟨rfl, rfl⟩) | (go_at_call 30; refine (works7_any _ (HMX.out _ hb1)).mono ?_; rintro e w3 ⟨rfl, hb3⟩))
    go_ret
    exact ⟨rfl, hb1.trans (hb3.mono hb1.size)⟩
/-- The last part of PathHolds: the numbers and answers are letters. -/
theorem isIn_trans {a b c : List (List UInt8)} (h1 : isIn a b = true) (h2 : isIn b c = true) : isIn a c = true := by
  rw [isIn_take, Bool.and_eq_true, decide_eq_true_iff, decide_eq_true_iff] at h1 h2 ⊢
  refine ⟨by omega, ?_⟩
  rw [← h2.2, ← h1.2, List.take_take, Nat.min_eq_left (by omega), List.length_take, Nat.min_eq_left (by omega)]
theorem isIn_one (a b : List (List UInt8)) : (isIn a b && isIn b a) = false := by
  unfold isIn
  by_cases h : b.length < a.length
  · rw [decide_eq_false (show ¬ a.length < b.length by omega)]
    simp
  · rw [decide_eq_false h]
    rfl
theorem err_cases (s : List UInt8) : (splitE s).2 = 0 ∨ (splitE s).2 = 170 ∨ (splitE s).2 = 160 := by
  rcases splitE_cases s with ⟨l, -, -, -, e⟩ | e | e
  · rw [e]; exact .inl rfl
  · rw [e]; exact .inr (.inl rfl)
  · rw [e]; exact .inr (.inr rfl)
theorem within_err (s t : List UInt8) (h : (splitE s).2 = 0) : (withinE s t).2 = (splitE t).2 ∧ (withinE t s).2 = (splitE t).2 ∧ (withinE s t).1 = (if (splitE t).2 = 0 then isIn (splitE s).1 (splitE t).1 else false) ∧ (withinE t s).1 = (if (splitE t).2 = 0 then isIn (splitE t).1 (splitE s).1 else false) := by
  unfold withinE
  by_cases h2 : (splitE t).2 = 0
  · simp [h, h2]
  · simp [h, h2]
set_option maxRecDepth 100000 in
set_option maxHeartbeats 8000000 in
theorem holds7_core (s t u : List UInt8) (hs : s.length ≤ 300) (ht : t.length ≤ 300) (hu : u.length ≤ 300) (h0 : (splitE s).2 = 0) (w : World) (hm : MaxC w) :
    Calls Tryd.prog 8 #[encStr s, encStr t, encStr u] w fun e w' => e = .returned (.bool true) ∧ Below w.heap.size w w' := by
  have HMX := Lib.hid (fun W (hb : Below w.heap.size w W) => hm.below hb hm.room)
  obtain ⟨l, hl⟩ : ∃ l, (splitE s).1 = l := ⟨_, rfl⟩
  have hsl := splitE_back s h0
  have hlen := splitE_len s
  have hri := splitE_right s
  rw [hl] at hsl hlen hri
  have HS := Lib.hid (paSplit_any s (by omega) w hm)
  rw [h0, hl] at HS
  have HJ := Lib.hid (fun v w hv => paJoin_any v l (by omega) w hv)
  rw [show joinE l = (s, 0) by unfold joinE; rw [underE_zero' hlen hri, if_pos rfl, ← hsl]] at HJ
  have HP := Lib.hid (fun w hm => paParent_any s (by omega) w hm)
  have hpw : (parentE s).2.2 = 0 → (parentE s).1.length ≤ 1000 ∧ withinE s (parentE s).1 = (true, 0) := fun hp => by
    unfold parentE at hp ⊢
    rw [if_neg (by simp [h0])] at hp ⊢
    rw [hl] at hp ⊢
    by_cases hn : l = []
    · rw [if_pos hn] at hp; cases hp
    · rw [if_neg hn]
      have hpl := pathOf_length (l.take (l.length - 1)) (take_right hri _) (by rw [List.length_take]; omega)
      refine ⟨by show (pathOf _).length ≤ 1000; omega, ?_⟩
      have hpos := List.length_pos_iff.2 hn
      unfold withinE
      rw [if_neg (by simp [h0])]
      show (if (splitE (pathOf (l.take (l.length - 1)))).2 ≠ 0 then _ else _) = _
      rw [splitE_path (l.take (l.length - 1)) (by rw [List.length_take]; omega) (take_right hri _), if_neg (by simp), hl]
      have : isIn l (l.take (l.length - 1)) = true := by
        rw [isIn_take, Bool.and_eq_true, decide_eq_true_iff, decide_eq_true_iff, List.length_take]
        refine ⟨by omega, ?_⟩
        rw [Nat.min_eq_left (by omega)]
      rw [this]
  have HW1 := Lib.hid (fun w hm => paWithin_any s t (by omega) (by omega) w hm)
  have HW2 := Lib.hid (fun w hm => paWithin_any t s (by omega) (by omega) w hm)
  have HW3 := Lib.hid (fun w hm => paWithin_any t u (by omega) (by omega) w hm)
  have HW4 := Lib.hid (fun w hm => paWithin_any s u (by omega) (by omega) w hm)
  have HWP := Lib.hid (fun (hp : (parentE s).1.length ≤ 1000) w hm => paWithin_any s (parentE s).1 (by omega) (by omega) w hm)
  obtain ⟨e1, e2, e3, e4⟩ := within_err s t h0
  obtain ⟨f1, -, f3, -⟩ := within_err s u h0
  have g0 : (withinE t u).2 = if (splitE t).2 ≠ 0 then (splitE t).2 else (splitE u).2 := by
    unfold withinE
    by_cases h2 : (splitE t).2 = 0
    · by_cases h3 : (splitE u).2 = 0
      · simp [h2, h3]
      · simp [h2, h3]
    · simp [h2]
  have HAB : Hid (((withinE s t).1 && (withinE t s).1) = false) := show _ = _ by
    rw [e3, e4]
    split
    · exact isIn_one _ _
    · rfl
  have HTR : Hid ((withinE s t).2 + (withinE t u).2 + (withinE s u).2 = 0 → (withinE s t).1 = true → (withinE t u).1 = true → (withinE s u).1 = true) := show _ → _ from fun hz ha hc => by
    rw [e1, g0, f1] at hz
    have ht0 : (splitE t).2 = 0 := by rcases err_cases t with h | h | h <;> rcases err_cases u with k | k | k <;> rw [h, k] at hz <;> first | exact h | (exact absurd hz (by decide))
    have hu0 : (splitE u).2 = 0 := by rcases err_cases t with h | h | h <;> rcases err_cases u with k | k | k <;> rw [h, k] at hz <;> first | exact k | (exact absurd hz (by decide))
    rw [e3, if_pos ht0] at ha
    have hc' : (withinE t u).1 = isIn (splitE t).1 (splitE u).1 := by
      unfold withinE
      simp [ht0, hu0]
    rw [hc'] at hc
    rw [f3, if_pos hu0]
    exact isIn_trans ha hc
  have HBD : Hid (0 ≤ (withinE s t).2 ∧ (withinE s t).2 ≤ 170 ∧ 0 ≤ (withinE t u).2 ∧ (withinE t u).2 ≤ 170 ∧ 0 ≤ (withinE s u).2 ∧ (withinE s u).2 ≤ 170) := show _ ∧ _ by
    rw [e1, g0, f1]
    rcases err_cases t with h | h | h <;> rcases err_cases u with k | k | k <;> rw [h, k] <;> decide
  have HGH : Hid ((withinE t s).2 = (withinE s t).2) := show _ = _ by rw [e1, e2]
  clear e1 e2 e3 e4 f1 f3 g0
  obtain ⟨⟨A, G⟩, hx1⟩ : ∃ x, withinE s t = x := ⟨_, rfl⟩
  obtain ⟨⟨B, H⟩, hx2⟩ : ∃ x, withinE t s = x := ⟨_, rfl⟩
  obtain ⟨⟨C, I⟩, hx3⟩ : ∃ x, withinE t u = x := ⟨_, rfl⟩
  obtain ⟨⟨D, K⟩, hx4⟩ : ∃ x, withinE s u = x := ⟨_, rfl⟩
  rw [hx1] at HW1 HAB HTR HBD HGH
  rw [hx2] at HW2 HAB HGH
  rw [hx3] at HW3 HTR HBD
  rw [hx4] at HW4 HTR HBD
  dsimp only at HW1 HW2 HW3 HW4 HAB HTR HBD HGH
  rw [HGH.out] at HW2
  obtain ⟨⟨p, last, g⟩, hx5⟩ : ∃ x, parentE s = x := ⟨_, rfl⟩
  rw [hx5] at HP HWP hpw
  dsimp only at HP HWP hpw
  clear hx1 hx2 hx3 hx4 hx5 HGH
  have q1 : ¬ (300 : Int) < (s.length : Int) := by omega
  have q2 : ¬ (300 : Int) < (t.length : Int) := by omega
  have q3 : ¬ (300 : Int) < (u.length : Int) := by omega
  have HPW := Lib.hid hpw
  clear hpw hs ht hu h0 hl hsl hlen hri hm
  go_enter Tryd.func8, Tryd.ntmps8
  go_wp2_with fail
  refine HS.out.mono ?_
  rintro e w1 ⟨v, rfl, hv, hb1⟩
  have HV := Lib.hid hv.txs
  have HB1 := Lib.hid hb1
  obtain ⟨va, vc, rfl⟩ := hv.txs.slice
  clear hv hb1
  go_wp2_with (first | (go_at_call 36; refine (num7_any _ _).mono ?_; rintro e wz ⟨rfl, rfl⟩) | (go_at_call 39; refine park ?_))
  unfold Park
  refine (HJ.out _ _ HV.out).mono ?_
  rintro e w2 ⟨rfl, hb2⟩
  have HB2 : Hid (Below w.heap.size w w2) := show Below _ _ _ from HB1.out.trans (hb2.mono HB1.out.size)
  clear hb2
  have hss : (s == s) = true := by simp
  go_wp2_with (first | (go_at_call 36; refine (num7_any _ _).mono ?_; rintro e wz ⟨rfl, rfl⟩) | (go_at_call 32; refine park ?_))
  unfold Park
  refine (HP.out _ (HMX.out _ HB2.out)).mono ?_
  rintro e w3 ⟨rfl, hb3⟩
  have HB3 : Hid (Below w.heap.size w w3) := show Below _ _ _ from HB2.out.trans (hb3.mono HB2.out.size)
  clear hb3
  -- TAIL (gen_pthr.py)
  by_cases hg : g = 0
  · obtain ⟨hpl, hpw⟩ := HPW.out hg
    have HWQ := Lib.hid (HWP.out hpl)
    rw [hpw] at HWQ
    clear HWP hpl hpw
    subst hg
    go_wp2_with (first | (go_at_call 36; refine (num7_any _ _).mono ?_; rintro e wz ⟨rfl, rfl⟩) | (go_at_call 41; refine park ?_))
    unfold Park
    refine (HWQ.out _ (HMX.out _ HB3.out)).mono ?_
    rintro e w4 ⟨rfl, hb4⟩
    have HB4 : Hid (Below w.heap.size w w4) := show Below _ _ _ from HB3.out.trans (hb4.mono HB3.out.size)
    clear hb4
    go_wp2_with (first | (go_at_call 36; refine (num7_any _ _).mono ?_; rintro e wz ⟨rfl, rfl⟩) | (go_at_call 41; refine park ?_))
    unfold Park
    refine (HW1.out _ (HMX.out _ HB4.out)).mono ?_
    rintro e w5 ⟨rfl, hb5⟩
    have HB5 : Hid (Below w.heap.size w w5) := show Below _ _ _ from HB4.out.trans (hb5.mono HB4.out.size)
    clear hb5
    go_wp2_with fail
    refine (HW2.out _ (HMX.out _ HB5.out)).mono ?_
    rintro e w6 ⟨rfl, hb6⟩
    have HB6 : Hid (Below w.heap.size w w6) := show Below _ _ _ from HB5.out.trans (hb6.mono HB5.out.size)
    clear hb6
    go_wp2_with fail
    refine (HW3.out _ (HMX.out _ HB6.out)).mono ?_
    rintro e w7 ⟨rfl, hb7⟩
    have HB7 : Hid (Below w.heap.size w w7) := show Below _ _ _ from HB6.out.trans (hb7.mono HB6.out.size)
    clear hb7
    go_wp2_with fail
    refine (HW4.out _ (HMX.out _ HB7.out)).mono ?_
    rintro e w8 ⟨rfl, hb8⟩
    have HB8 : Hid (Below w.heap.size w w8) := show Below _ _ _ from HB7.out.trans (hb8.mono HB7.out.size)
    clear hb8
    have hgg : (G == G) = true := by simp
    obtain ⟨y1, y2, y3, y4, y5, y6⟩ := HBD.out
    by_cases hz : G + I + K = 0
    · have hzz : (G + I + K == 0) = true := by simp [hz]
      cases A with
      | false =>
        go_wp2_with (first | (go_at_call 36; refine (num7_any _ _).mono ?_; rintro e wz ⟨rfl, rfl⟩) | (go_at_call 30; refine (works7_any _ (HMX.out _ HB8.out)).mono ?_; rintro e wy ⟨rfl, hby⟩))
        go_ret
        exact ⟨rfl, HB8.out.trans (hby.mono HB8.out.size)⟩
      | true =>
        obtain rfl : B = false := by have := HAB.out; simpa using this
        cases C with
        | false =>
          go_wp2_with (first | (go_at_call 36; refine (num7_any _ _).mono ?_; rintro e wz ⟨rfl, rfl⟩) | (go_at_call 30; refine (works7_any _ (HMX.out _ HB8.out)).mono ?_; rintro e wy ⟨rfl, hby⟩))
          go_ret
          exact ⟨rfl, HB8.out.trans (hby.mono HB8.out.size)⟩
        | true =>
          obtain rfl : D = true := HTR.out hz rfl rfl
          go_wp2_with (first | (go_at_call 36; refine (num7_any _ _).mono ?_; rintro e wz ⟨rfl, rfl⟩) | (go_at_call 30; refine (works7_any _ (HMX.out _ HB8.out)).mono ?_; rintro e wy ⟨rfl, hby⟩))
          go_ret
          exact ⟨rfl, HB8.out.trans (hby.mono HB8.out.size)⟩
    · have hzz : (G + I + K == 0) = false := by simp [hz]
      cases A with
      | false =>
        go_wp2_with (first | (go_at_call 36; refine (num7_any _ _).mono ?_; rintro e wz ⟨rfl, rfl⟩) | (go_at_call 30; refine (works7_any _ (HMX.out _ HB8.out)).mono ?_; rintro e wy ⟨rfl, hby⟩))
        go_ret
        exact ⟨rfl, HB8.out.trans (hby.mono HB8.out.size)⟩
      | true =>
        obtain rfl : B = false := by have := HAB.out; simpa using this
        go_wp2_with (first | (go_at_call 36; refine (num7_any _ _).mono ?_; rintro e wz ⟨rfl, rfl⟩) | (go_at_call 30; refine (works7_any _ (HMX.out _ HB8.out)).mono ?_; rintro e wy ⟨rfl, hby⟩))
        go_ret
        exact ⟨rfl, HB8.out.trans (hby.mono HB8.out.size)⟩
  · have hgq : (g == 0) = false := by simp [hg]
    clear hg
    go_wp2_with (first | (go_at_call 36; refine (num7_any _ _).mono ?_; rintro e wz ⟨rfl, rfl⟩) | (go_at_call 41; refine park ?_))
    unfold Park
    refine (HW1.out _ (HMX.out _ HB3.out)).mono ?_
    rintro e w4 ⟨rfl, hb4⟩
    have HB4 : Hid (Below w.heap.size w w4) := show Below _ _ _ from HB3.out.trans (hb4.mono HB3.out.size)
    clear hb4
    go_wp2_with fail
    refine (HW2.out _ (HMX.out _ HB4.out)).mono ?_
    rintro e w5 ⟨rfl, hb5⟩
    have HB5 : Hid (Below w.heap.size w w5) := show Below _ _ _ from HB4.out.trans (hb5.mono HB4.out.size)
    clear hb5
    go_wp2_with fail
    refine (HW3.out _ (HMX.out _ HB5.out)).mono ?_
    rintro e w6 ⟨rfl, hb6⟩
    have HB6 : Hid (Below w.heap.size w w6) := show Below _ _ _ from HB5.out.trans (hb6.mono HB5.out.size)
    clear hb6
    go_wp2_with fail
    refine (HW4.out _ (HMX.out _ HB6.out)).mono ?_
    rintro e w7 ⟨rfl, hb7⟩
    have HB7 : Hid (Below w.heap.size w w7) := show Below _ _ _ from HB6.out.trans (hb7.mono HB6.out.size)
    clear hb7
    have hgg : (G == G) = true := by simp
    obtain ⟨y1, y2, y3, y4, y5, y6⟩ := HBD.out
    by_cases hz : G + I + K = 0
    · have hzz : (G + I + K == 0) = true := by simp [hz]
      cases A with
      | false =>
        go_wp2_with (first | (go_at_call 36; refine (num7_any _ _).mono ?_; rintro e wz ⟨rfl, rfl⟩) | (go_at_call 30; refine (works7_any _ (HMX.out _ HB7.out)).mono ?_; rintro e wy ⟨rfl, hby⟩))
        go_ret
        exact ⟨rfl, HB7.out.trans (hby.mono HB7.out.size)⟩
      | true =>
        obtain rfl : B = false := by have := HAB.out; simpa using this
        cases C with
        | false =>
          go_wp2_with (first | (go_at_call 36; refine (num7_any _ _).mono ?_; rintro e wz ⟨rfl, rfl⟩) | (go_at_call 30; refine (works7_any _ (HMX.out _ HB7.out)).mono ?_; rintro e wy ⟨rfl, hby⟩))
          go_ret
          exact ⟨rfl, HB7.out.trans (hby.mono HB7.out.size)⟩
        | true =>
          obtain rfl : D = true := HTR.out hz rfl rfl
          go_wp2_with (first | (go_at_call 36; refine (num7_any _ _).mono ?_; rintro e wz ⟨rfl, rfl⟩) | (go_at_call 30; refine (works7_any _ (HMX.out _ HB7.out)).mono ?_; rintro e wy ⟨rfl, hby⟩))
          go_ret
          exact ⟨rfl, HB7.out.trans (hby.mono HB7.out.size)⟩
    · have hzz : (G + I + K == 0) = false := by simp [hz]
      cases A with
      | false =>
        go_wp2_with (first | (go_at_call 36; refine (num7_any _ _).mono ?_; rintro e wz ⟨rfl, rfl⟩) | (go_at_call 30; refine (works7_any _ (HMX.out _ HB7.out)).mono ?_; rintro e wy ⟨rfl, hby⟩))
        go_ret
        exact ⟨rfl, HB7.out.trans (hby.mono HB7.out.size)⟩
      | true =>
        obtain rfl : B = false := by have := HAB.out; simpa using this
        go_wp2_with (first | (go_at_call 36; refine (num7_any _ _).mono ?_; rintro e wz ⟨rfl, rfl⟩) | (go_at_call 30; refine (works7_any _ (HMX.out _ HB7.out)).mono ?_; rintro e wy ⟨rfl, hby⟩))
        go_ret
        exact ⟨rfl, HB7.out.trans (hby.mono HB7.out.size)⟩
set_option maxRecDepth 100000 in
set_option maxHeartbeats 4000000 in
theorem holds7_any (s t u : List UInt8) (w : World) (hm : MaxC w) :
    Calls Tryd.prog 8 #[encStr s, encStr t, encStr u] w fun e w' => e = .returned (.bool true) ∧ Below w.heap.size w w' := by
  have HW := Lib.hid (works7_any w hm)
  by_cases h1 : 300 < s.length
  · have q1 : (300 : Int) < (s.length : Int) := by omega
    clear h1 hm
    go_enter Tryd.func8, Tryd.ntmps8
    go_wp2_with fail
    refine HW.out.mono ?_
    rintro e w1 ⟨rfl, hb⟩
    go_wp2_with fail
    go_ret
    exact ⟨rfl, hb⟩
  have q1 : ¬ (300 : Int) < (s.length : Int) := by omega
  by_cases h2 : 300 < t.length
  · have q2 : (300 : Int) < (t.length : Int) := by omega
    clear h1 h2 hm
    go_enter Tryd.func8, Tryd.ntmps8
    go_wp2_with fail
    refine HW.out.mono ?_
    rintro e w1 ⟨rfl, hb⟩
    go_wp2_with fail
    go_ret
    exact ⟨rfl, hb⟩
  have q2 : ¬ (300 : Int) < (t.length : Int) := by omega
  by_cases h3 : 300 < u.length
  · have q3 : (300 : Int) < (u.length : Int) := by omega
    clear h1 h2 h3 hm
    go_enter Tryd.func8, Tryd.ntmps8
    go_wp2_with fail
    refine HW.out.mono ?_
    rintro e w1 ⟨rfl, hb⟩
    go_wp2_with fail
    go_ret
    exact ⟨rfl, hb⟩
  by_cases h0 : (splitE s).2 = 0
  · exact holds7_core s t u (by omega) (by omega) (by omega) h0 w hm
  · have q3 : ¬ (300 : Int) < (u.length : Int) := by omega
    have HS := Lib.hid (paSplit_any s (by omega) w hm)
    have HMX := Lib.hid (fun W (hb : Below w.heap.size w W) => hm.below hb hm.room)
    obtain ⟨no, hno⟩ : ∃ no, (splitE s).2 = no := ⟨_, rfl⟩
    rw [hno] at HS h0
    have hq : (no == 0) = false := by simp [h0]
    clear h1 h2 h3 h0 hno hm
    go_enter Tryd.func8, Tryd.ntmps8
    go_wp2_with fail
    refine HS.out.mono ?_
    rintro e w1 ⟨v, rfl, hv, hb1⟩
    obtain ⟨va, vc, rfl⟩ := hv.txs.slice
    clear hv
    go_wp2_with (first | (go_at_call 36; refine (num7_any _ _).mono ?_; rintro e wz ⟨rfl, rfl⟩) | (go_at_call 30; refine (works7_any _ (HMX.out _ hb1)).mono ?_; rintro e wy ⟨rfl, hby⟩))
    go_ret
    exact ⟨rfl, hb1.trans (hby.mono hb1.size)⟩
end Go.Proofs.YtohdgjmmekgcmaaDoor
