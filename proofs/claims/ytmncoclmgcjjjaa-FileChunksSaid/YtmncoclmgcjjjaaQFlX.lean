/-
  The law FileChanges: its walk. Written by gen_flx.py.
-/
import Derived.Test.YtmncoclmgcjjjaaMf11
namespace Go.Proofs.Ytmncoclmgcjjjaa
open Go.RowKit Go.Shelf
attribute [local go_sem] Oper.semAt_some

theorem chgS_comm (L M : List (List Int)) : chgS L M = chgS M L := by
  rw [← chgM_all L M, ← chgM_all M L, Nat.max_comm]
  unfold chgM
  apply List.filter_congr
  intro j _
  unfold chgP
  rw [Bool.or_comm (decide (L.length ≤ j)), Bool.beq_comm]
theorem errC_comm (xs ys : List Nat) : errC xs ys = errC ys xs := by
  unfold errC errK
  by_cases h1 : 448 < xs.length <;> by_cases h2 : 448 < ys.length <;> simp [h1, h2]
theorem errC_zero {xs ys : List Nat} (hx : xs.length ≤ 448) (hy : ys.length ≤ 448) : errC xs ys = 0 := by
  unfold errC errK
  rw [if_neg (show ¬ 448 < xs.length by omega), if_neg (show ¬ 448 < ys.length by omega)]
  rfl
theorem errC_big {xs ys : List Nat} (h : 448 < xs.length ∨ 448 < ys.length) : errC xs ys = 190 := by
  unfold errC errK
  by_cases h1 : 448 < xs.length
  · rw [if_pos h1]; rfl
  · rw [if_neg h1, if_pos (show 448 < ys.length by omega)]; rfl
theorem wordsOf_inj {xs ys : List Nat} (hx : WM.Bytes256 xs) (hy : WM.Bytes256 ys) (hl : xs.length = ys.length) (h : WM.wordsOf xs = WM.wordsOf ys) : xs = ys := by
  apply WM.list_ext _ _ hl
  intro j hj
  have key : ∀ (zs : List Nat), WM.Bytes256 zs → j < zs.length → ∀ t, t < 8 → (WM.at' zs j).testBit t = (WM.at' (WM.wordsOf zs) (j / 8)).testBit (8 * (j % 8) + t) := fun zs hz hjz t ht => by
    rw [WM.wordsOf_at, if_pos (by unfold WM.need; omega), WM.wordAt_bit _ hz, decide_eq_true (by omega), Bool.true_and]
    rw [show 8 * (j / 8) + (8 * (j % 8) + t) / 8 = j by omega, show (8 * (j % 8) + t) % 8 = t by omega]
  have lt : ∀ (zs : List Nat), WM.Bytes256 zs → ∀ t, 8 ≤ t → (WM.at' zs j).testBit t = false := fun zs hz t ht => Nat.testBit_lt_two_pow (Nat.lt_of_lt_of_le (hz j) (show 256 ≤ 2 ^ t from Nat.le_trans (by decide : 256 ≤ 2 ^ 8) (Nat.pow_le_pow_right (by decide) ht)))
  apply Nat.eq_of_testBit_eq
  intro t
  by_cases ht : t < 8
  · rw [key xs hx hj t ht, key ys hy (by omega) t ht, h]
  · rw [lt xs hx t (by omega), lt ys hy t (by omega)]
theorem chF_inj {xs ys : List Nat} (hx : WM.Bytes256 xs) (hy : WM.Bytes256 ys) (hl : xs.length = ys.length) (h : chF xs = chF ys) : xs = ys := by
  apply wordsOf_inj hx hy hl
  have hwl : (WM.wordsOf xs).length = (WM.wordsOf ys).length := by rw [WM.wordsOf_length, WM.wordsOf_length, hl]
  apply WM.list_ext _ _ hwl
  intro j hj
  rw [WM.wordsOf_length] at hj
  have hk : j / 8 < chN xs.length := by unfold WM.need at hj; unfold chN; omega
  have key : ∀ (zs : List Nat), zs.length = xs.length → (((chF zs)[j / 8]?.getD [])[j % 8]?.getD 0) = ((WM.at' (WM.wordsOf zs) j : Nat) : Int) := fun zs hz => by
    unfold chF
    rw [List.getElem?_map, List.getElem?_range (by rw [hz]; exact hk), Option.map_some, Option.getD_some, padL_at _ _ (Nat.mod_lt _ (by decide))]
    unfold fewN WM.at'
    rw [List.getElem?_take_of_lt (Nat.mod_lt _ (by decide)), List.getElem?_drop, Nat.div_add_mod]
  have h1 := key xs rfl
  have h2 := key ys hl.symm
  rw [h] at h1
  have := h1.symm.trans h2
  omega
theorem chgS_nil {L M : List (List Int)} (h : L.length = M.length) : chgS L M = [] ↔ L = M := by
  rw [← chgM_all]
  unfold chgM
  rw [List.filter_eq_nil_iff]
  constructor
  · intro h1
    apply List.ext_getElem h
    intro k hk hk'
    have := h1 k (List.mem_range.2 (by omega))
    unfold chgP at this
    rw [decide_eq_false (by omega), decide_eq_false (by omega)] at this
    simp [List.getElem?_eq_getElem hk, List.getElem?_eq_getElem hk'] at this
    exact this
  · rintro rfl k hk
    rw [List.mem_range] at hk
    unfold chgP
    rw [decide_eq_false (by omega)]
    simp
theorem strOf_size9 (a : List Nat) : (strOf a).size = a.length := by
  unfold strOf
  rw [strOfNums_size, List.length_map]
theorem strOf_inj {xs ys : List Nat} (hx : WM.Bytes256 xs) (hy : WM.Bytes256 ys) (h : strOf xs = strOf ys) : xs = ys := by
  have hl : xs.length = ys.length := by rw [← strOf_size9 xs, ← strOf_size9 ys, h]
  apply WM.list_ext _ _ hl
  intro j hj
  have h1 : (strOf xs).data.toList = (strOf ys).data.toList := by rw [h]
  unfold strOf at h1
  rw [strOfNums_data, strOfNums_data, List.map_map, List.map_map] at h1
  have h2 := congrArg (fun l => l[j]?) h1
  simp only [List.getElem?_map, List.getElem?_eq_getElem hj, List.getElem?_eq_getElem (show j < ys.length by omega), Option.map_some, Option.some.injEq, Function.comp_def] at h2
  have b1 := hx j
  have b2 := hy j
  unfold WM.at' at b1 b2 ⊢
  rw [List.getElem?_eq_getElem hj, Option.getD_some] at b1 ⊢
  rw [List.getElem?_eq_getElem (show j < ys.length by omega), Option.getD_some] at b2 ⊢
  have h3 := congrArg UInt8.toNat h2
  simp at h3
  omega
/-- The strings are the same just where the bytes are. -/
theorem strCmp9 {xs ys : List Nat} (hx : WM.Bytes256 xs) (hy : WM.Bytes256 ys) (W : World) : (binOp .eql 9 (.string (strOf xs)) (.string (strOf ys))).run Try.prog W = .ok (.bool (decide (xs = ys))) W := by
  rw [binOp_string_eql]
  have : ((strOf xs).toList == (strOf ys).toList) = decide (xs = ys) := by
    by_cases h : xs = ys
    · subst h; simp
    · rw [decide_eq_false h, beq_eq_false_iff_ne]
      intro hh
      apply h
      apply strOf_inj hx hy
      apply ByteArray.ext
      rw [Lib.toList_data, Lib.toList_data] at hh
      exact Array.toList_inj.1 hh
  rw [this]
  rfl
set_option maxRecDepth 100000 in
set_option maxHeartbeats 8000000 in
theorem changes9_any {v u : Value} {xs ys : List Nat} (w : World) (hv : FB w v xs) (hu : FB w u ys) :
    Calls Try.prog 6 #[v, u] w fun e w' => e = .returned (.bool true) ∧ Below w.heap.size w w' := by
  have HK := Lib.hid works9_any
  have HN := Lib.hid num9_any
  have HV := Lib.hid hv
  have HU := Lib.hid hu
  have H1 : Hid (∀ W, Below w.heap.size w W → Calls Try.prog 24 #[v, u] W fun e w' => ∃ r, e = .returned (.tuple #[r, .int .i64 (errC xs ys)]) ∧ Sl w' .i64 r (outCh xs ys) ∧ Below W.heap.size W w') := show ∀ W, _ from fun W hW => fileChanged_any W (hv.below hW) (hu.below hW)
  have H2 : Hid (∀ W, Below w.heap.size w W → Calls Try.prog 24 #[u, v] W fun e w' => ∃ r, e = .returned (.tuple #[r, .int .i64 (errC xs ys)]) ∧ Sl w' .i64 r (outCh xs ys) ∧ Below W.heap.size W w') := show ∀ W, _ from fun W hW => by
    have h := fileChanged_any W (hu.below hW) (hv.below hW)
    rw [errC_comm ys xs, show outCh ys xs = outCh xs ys by unfold outCh; rw [errC_comm ys xs, chgS_comm]] at h
    exact h
  obtain ⟨a, c, rfl, -⟩ := hv.form
  obtain ⟨a', c', rfl, -⟩ := hu.form
  obtain ⟨n, hn⟩ : ∃ n, xs.length = n := ⟨_, rfl⟩
  obtain ⟨k, hk⟩ : ∃ k, ys.length = k := ⟨_, rfl⟩
  have HLN := Lib.hid (And.intro hn hk)
  rw [hn] at HV H1 H2 ⊢
  rw [hk] at HU H1 H2 ⊢
  clear hv hu hn hk
  by_cases g0 : (600 : Int) < (n : Int)
  · go_enter Try.func6, Try.ntmps6
    go_wp2_with fail
    refine (HK.out _).mono ?_
    rintro e w1 ⟨rfl, hb⟩
    go_wp2_with fail
    go_ret
    exact ⟨rfl, hb⟩
  by_cases g1 : (600 : Int) < (k : Int)
  · go_enter Try.func6, Try.ntmps6
    go_wp2_with fail
    refine (HK.out _).mono ?_
    rintro e w1 ⟨rfl, hb⟩
    go_wp2_with fail
    go_ret
    exact ⟨rfl, hb⟩
  have HB0 : Hid (Below w.heap.size w w) := show Below _ _ _ from Below.refl _ _
  by_cases hbig : 448 < n ∨ 448 < k
  · have he : errC xs ys = 190 := errC_big (by rw [HLN.out.1, HLN.out.2]; exact hbig)
    have ho : outCh xs ys = [] := by unfold outCh; rw [he]; rfl
    rw [he, ho] at H1 H2
    clear he ho
    by_cases h1 : (448 : Int) < (n : Int)
    · clear hbig
      go_enter Try.func6, Try.ntmps6
      go_wp2_with fail
      refine (H1.out w HB0.out).mono ?_
      rintro e w1 ⟨r1, rfl, f1, hb⟩
      have HB1 := Lib.hid hb
      obtain ⟨ar, cr, rfl, -⟩ := f1
      rw [show (([] : List Nat).length) = 0 from rfl]
      clear hb
      go_wp2_with fail
      refine (H2.out w1 HB1.out).mono ?_
      rintro e w2 ⟨r2, rfl, f2, hb⟩
      have HB2 : Hid (Below w.heap.size w w2) := show Below _ _ _ from HB1.out.trans (hb.mono HB1.out.size)
      clear hb f2
      go_wp2_with (go_at_call 17; refine (HN.out _ _).mono ?_; rintro e w' ⟨rfl, rfl⟩)
      refine (HK.out _).mono ?_
      rintro e w3 ⟨rfl, hb⟩
      have HB3 : Hid (Below w.heap.size w w3) := show Below _ _ _ from HB2.out.trans (hb.mono HB2.out.size)
      clear hb
      go_wp2_with fail
      go_ret
      exact ⟨rfl, HB3.out⟩
    · have h2 : (448 : Int) < (k : Int) := by omega
      clear hbig
      go_enter Try.func6, Try.ntmps6
      go_wp2_with fail
      refine (H1.out w HB0.out).mono ?_
      rintro e w1 ⟨r1, rfl, f1, hb⟩
      have HB1 := Lib.hid hb
      obtain ⟨ar, cr, rfl, -⟩ := f1
      rw [show (([] : List Nat).length) = 0 from rfl]
      clear hb
      go_wp2_with fail
      refine (H2.out w1 HB1.out).mono ?_
      rintro e w2 ⟨r2, rfl, f2, hb⟩
      have HB2 : Hid (Below w.heap.size w w2) := show Below _ _ _ from HB1.out.trans (hb.mono HB1.out.size)
      clear hb f2
      go_wp2_with (go_at_call 17; refine (HN.out _ _).mono ?_; rintro e w' ⟨rfl, rfl⟩)
      refine (HK.out _).mono ?_
      rintro e w3 ⟨rfl, hb⟩
      have HB3 : Hid (Below w.heap.size w w3) := show Below _ _ _ from HB2.out.trans (hb.mono HB2.out.size)
      clear hb
      go_wp2_with fail
      go_ret
      exact ⟨rfl, HB3.out⟩
  · have h1 : n ≤ 448 := by omega
    have h2 : k ≤ 448 := by omega
    have h3 : ¬ (448 : Int) < (n : Int) := by omega
    have h4 : ¬ (448 : Int) < (k : Int) := by omega
    have he : errC xs ys = 0 := errC_zero (by rw [HLN.out.1]; exact h1) (by rw [HLN.out.2]; exact h2)
    have ho : outCh xs ys = chgS (chF xs) (chF ys) := if_pos he
    rw [he, ho] at H1 H2
    have hlen : (chgS (chF xs) (chF ys)).length ≤ 7 := by
      rw [← chgM_all]
      have e1 := chgM_length (chF xs) (chF ys) (max (chF xs).length (chF ys).length)
      have e2 := chF_le xs (by rw [HLN.out.1]; exact h1)
      have e3 := chF_le ys (by rw [HLN.out.2]; exact h2)
      omega
    have HNIL := Lib.hid (fun (h : n = k) => show (chgS (chF xs) (chF ys) = [] ↔ xs = ys) from by
      have hl : xs.length = ys.length := by rw [HLN.out.1, HLN.out.2]; exact h
      rw [chgS_nil (by rw [chF_length, chF_length, hl])]
      exact ⟨chF_inj HV.out.all HU.out.all hl, fun h => by rw [h]⟩)
    have HR : Hid (∀ W, Below w.heap.size w W → Calls Try.prog 26 #[.slice a n c, .slice a' k c'] W fun e w' => ∃ r, e = .returned r ∧ Sl w' .i64 r (chgS (chF xs) (chF ys)) ∧ Below W.heap.size W w') := show ∀ W, _ from fun W hW => refChanged9_any (by rw [HLN.out.1]; exact h1) (by rw [HLN.out.2]; exact h2) HV.out.all HU.out.all W (HV.out.below hW).sl (HU.out.below hW).sl
    have HSC := Lib.hid (fun W => strCmp9 HV.out.all HU.out.all W)
    obtain ⟨L, hL⟩ : ∃ L, chgS (chF xs) (chF ys) = L := ⟨_, rfl⟩
    rw [hL] at H1 H2 HR hlen HNIL
    clear he ho hL hbig h1 h2
    go_enter Try.func6, Try.ntmps6
    go_wp2_with fail
    refine (H1.out w HB0.out).mono ?_
    rintro e w1 ⟨r1, rfl, f1, hb⟩
    have HB1 := Lib.hid hb
    have F1 := Lib.hid f1
    clear hb f1
    go_wp2_with fail
    refine (H2.out w1 HB1.out).mono ?_
    rintro e w2 ⟨r2, rfl, f2, hb⟩
    have HB2 : Hid (Below w.heap.size w w2) := show Below _ _ _ from HB1.out.trans (hb.mono HB1.out.size)
    have F1 := Lib.hid (F1.out.below hb)
    have F2 := Lib.hid f2
    clear hb f2
    go_wp2_with (first | (go_at_call 26; refine park ?_))
    unfold Park
    refine (HR.out w2 HB2.out).mono ?_
    rintro e w3 ⟨r3, rfl, f3, hb⟩
    have HB3 : Hid (Below w.heap.size w w3) := show Below _ _ _ from HB2.out.trans (hb.mono HB2.out.size)
    have F1 := Lib.hid (F1.out.below hb)
    have F2 := Lib.hid (F2.out.below hb)
    have F3 := Lib.hid f3
    clear hb f3
    have hi1 := intsL_any r1 r3 L L (by omega) (by omega) w3 F1.out F3.out
    rw [decide_eq_true (rfl : L = L)] at hi1
    have HI1 := Lib.hid hi1
    clear hi1
    go_wp2_with fail
    refine HI1.out.mono ?_
    rintro e w4 ⟨rfl, hb⟩
    have HB4 : Hid (Below w.heap.size w w4) := show Below _ _ _ from HB3.out.trans (hb.mono HB3.out.size)
    have F1 := Lib.hid (F1.out.below hb)
    have F2 := Lib.hid (F2.out.below hb)
    clear hb
    have hi2 := intsL_any r2 r1 L L (by omega) (by omega) w4 F2.out F1.out
    rw [decide_eq_true (rfl : L = L)] at hi2
    have HI2 := Lib.hid hi2
    clear hi2
    go_wp2_with fail
    refine HI2.out.mono ?_
    rintro e w5 ⟨rfl, hb⟩
    have HB5 : Hid (Below w.heap.size w w5) := show Below _ _ _ from HB4.out.trans (hb.mono HB4.out.size)
    obtain ⟨ar, cr, rfl, -⟩ := F1.out.below hb
    have d1 := conv_sl (HV.out.below HB5.out).sl
    have d2 := conv_sl (HU.out.below HB5.out).sl
    have hsc := HSC.out w5
    rw [binOp_string_eql] at hsc
    obtain ⟨s1, hs1⟩ : ∃ s, strOf xs = s := ⟨_, rfl⟩
    obtain ⟨s2, hs2⟩ : ∃ s, strOf ys = s := ⟨_, rfl⟩
    rw [hs1] at d1 hsc
    rw [hs2] at d2 hsc
    obtain ⟨ll, hll⟩ : ∃ ll, L.length = ll := ⟨_, rfl⟩
    have HLL := Lib.hid hll
    rw [hll]
    have hsc2 : ∀ b : Bool, decide (xs = ys) = b → (s1.toList == s2.toList) = b := fun b hb => by
      rw [hb] at hsc
      have e1 : (Result.ok (.bool (s1.toList == s2.toList)) w5 : Result Value) = .ok (.bool b) w5 := hsc
      injection e1 with e2
      injection e2
    clear hb hs1 hs2 hsc hll HSC HI1 HI2 H1 H2 HR
    by_cases hnk : n = k
    · have hneq : ((n : Int) != (k : Int)) = false := by rw [hnk]; simp
      have hiff := HNIL.out hnk
      by_cases hxy : xs = ys
      · have h0 : ((ll : Int) == 0) = true := by rw [← HLL.out, hiff.2 hxy]; rfl
        have hsb := hsc2 true (decide_eq_true hxy)
        clear hxy hiff hnk hsc2
        go_wp2_with (go_at_call 17; refine (HN.out _ _).mono ?_; rintro e w' ⟨rfl, rfl⟩)
        refine (HK.out _).mono ?_
        rintro e w6 ⟨rfl, hb⟩
        have HB6 : Hid (Below w.heap.size w w6) := show Below _ _ _ from HB5.out.trans (hb.mono HB5.out.size)
        clear hb
        go_wp2_with fail
        go_ret
        exact ⟨rfl, HB6.out⟩
      · have h0 : ((ll : Int) == 0) = false := by
          rw [beq_eq_false_iff_ne]
          intro h
          apply hxy
          apply hiff.1
          apply List.eq_nil_of_length_eq_zero
          rw [HLL.out]
          omega
        have hsb := hsc2 false (decide_eq_false hxy)
        clear hxy hiff hnk hsc2
        go_wp2_with (go_at_call 17; refine (HN.out _ _).mono ?_; rintro e w' ⟨rfl, rfl⟩)
        refine (HK.out _).mono ?_
        rintro e w6 ⟨rfl, hb⟩
        have HB6 : Hid (Below w.heap.size w w6) := show Below _ _ _ from HB5.out.trans (hb.mono HB5.out.size)
        clear hb
        go_wp2_with fail
        go_ret
        exact ⟨rfl, HB6.out⟩
    · have hneq : ((n : Int) != (k : Int)) = true := by rw [bne_iff_ne]; omega
      clear hnk hsc2
      go_wp2_with (go_at_call 17; refine (HN.out _ _).mono ?_; rintro e w' ⟨rfl, rfl⟩)
      refine (HK.out _).mono ?_
      rintro e w6 ⟨rfl, hb⟩
      have HB6 : Hid (Below w.heap.size w w6) := show Below _ _ _ from HB5.out.trans (hb.mono HB5.out.size)
      clear hb
      go_wp2_with fail
      go_ret
      exact ⟨rfl, HB6.out⟩
end Go.Proofs.Ytmncoclmgcjjjaa
