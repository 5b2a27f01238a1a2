/-
  label: the walk of the law LabelBytes.
-/
import Derived.Test.YtoaloeipgadkjaaLaU
namespace Go.Proofs.Ytoaloeipgadkjaa
open Go.RowKit Go.Shelf

theorem xor_int (x a k : Nat) (hx : x < 18446744073709551616) : bits .xor .u64 (x : Int) (IntKind.u64.wrap ((a : Int) * 2 ^ k)) = ((x ^^^ (a * 2 ^ k % 18446744073709551616) : Nat) : Int) := by
  rw [WM.shl_int, u64_xor_nat _ _ hx (Nat.mod_lt _ (by decide))]
theorem five_set (xs : List Nat) (j v : Nat) (hj : j < 5) : (arr5 xs).setIfInBounds j (.int .u64 (v : Nat)) = arr5 ((pad5 xs).set j v) := by
  have : j = 0 ∨ j = 1 ∨ j = 2 ∨ j = 3 ∨ j = 4 := by omega
  rcases this with rfl | rfl | rfl | rfl | rfl <;> simp [pad5, List.range_succ]
theorem near_at (xs : List Nat) (j v i : Nat) (hj : j < 5) (hi : i < 5) : ((pad5 xs).set j v)[i]?.getD 0 = if i = j then v else xs[i]?.getD 0 := by
  by_cases h : i = j
  · subst h
    rw [if_pos rfl, List.getElem?_set_self (by rw [pad5_length]; exact hj)]
    rfl
  · rw [if_neg h, List.getElem?_set_ne (fun e => h e.symm), pad5_at xs i hi]
theorem shift_lt (c r : Nat) (hc : c < 256) (hr : r < 8) : c * 2 ^ (8 * r) < 18446744073709551616 := by
  have h1 : 2 ^ (8 * r) ≤ 2 ^ 56 := Nat.pow_le_pow_right (by decide) (by omega)
  have h2 : c * 2 ^ (8 * r) ≤ 255 * 2 ^ 56 := Nat.mul_le_mul (by omega) h1
  have h3 : 255 * 2 ^ 56 < 18446744073709551616 := by decide
  omega
theorem xor_ne (z y : Nat) (hy : y ≠ 0) : z ^^^ y ≠ z := fun h => hy (by
  have : z ^^^ (z ^^^ y) = z ^^^ z := by rw [h]
  rwa [← Nat.xor_assoc, Nat.xor_self, Nat.zero_xor] at this)
theorem near_byte (z c r : Nat) (hc : c < 256) : WM.getN (z ^^^ c * 2 ^ (8 * r)) (8 * r) 8 = WM.getN z (8 * r) 8 ^^^ c := by
  apply Nat.eq_of_testBit_eq
  intro i
  rw [WM.getN_bit, Nat.testBit_xor, Nat.testBit_xor, WM.getN_bit, WM.num_bit]
  by_cases h : i < 8
  · simp [h]
  · have : c.testBit i = false := WM.lt_bit c 8 i (by omega) (by omega)
    simp [h, this]
/-- A name's words with one byte that is another one: what comes of them. -/
theorem near_facts (s : List UInt8) (hs : rightN s = true) (j r c : Nat) (hj : j < 5) (hr : r < 8) (hc : c < 256) (hc0 : c ≠ 0) (V : List Nat)
    (hV : V = (pad5 (wordsN s)).set j ((wordsN s)[j]?.getD 0 ^^^ c * 2 ^ (8 * r) % 18446744073709551616)) :
    V.length = 5 ∧ Words64 V ∧ sameOut s V (s.length : Int) = false ∧ (isRead V (s.length : Int) = true → (readN V (s.length : Int) == s) = false ∧ 8 * j + r < s.length) := by
  have hsh := shift_lt c r hc hr
  rw [Nat.mod_eq_of_lt hsh] at hV
  have hy0 : c * 2 ^ (8 * r) ≠ 0 := Nat.mul_ne_zero hc0 (Nat.pos_iff_ne_zero.1 (Nat.two_pow_pos _))
  have hVl : V.length = 5 := by rw [hV, List.length_set, pad5_length]
  have h64 : Words64 V := fun i => by
    by_cases hi : i < 5
    · rw [hV, near_at _ _ _ _ hj hi]
      split
      · exact Nat.xor_lt_two_pow (n := 64) (wordsN_64 s j) hsh
      · exact wordsN_64 s i
    · rw [List.getElem?_eq_none (by omega)]; exact (by decide : 0 < 18446744073709551616)
  have hne : same5 (wordsN s) V = false := by
    rw [Bool.eq_false_iff]
    intro h
    unfold same5 at h
    have h2 := of_decide_eq_true h j hj
    rw [hV, near_at _ _ _ _ hj hj, if_pos rfl] at h2
    exact xor_ne _ _ hy0 h2.symm
  have hsm : sameOut s V (s.length : Int) = false := by
    unfold sameOut
    rw [hne]
    simp
  refine ⟨hVl, h64, hsm, fun hir => ?_⟩
  obtain ⟨t, ht⟩ : ∃ t, readN V (s.length : Int) = t := ⟨_, rfl⟩
  rw [ht]
  unfold isRead at hir
  rw [ht] at hir
  constructor
  · rw [beq_eq_false_iff_ne]
    rintro rfl
    rw [hsm] at hir; cases hir
  · unfold sameOut at hir
    simp only [Bool.and_eq_true, beq_iff_eq] at hir
    obtain ⟨⟨-, hlen⟩, h5⟩ := hir
    refine Nat.lt_of_not_le fun hle => hc0 ?_
    have hlen' : s.length = t.length := by omega
    have hj8 : (8 * j + r) / 8 = j := by omega
    have hr8 : (8 * j + r) % 8 = r := by omega
    have e1 : WM.byteAt (wordsN t) (8 * j + r) = 0 := WM.bytes_behind (bsN t) (bsN_256 t) _ (by rw [bsN_length]; omega)
    have e2 : WM.byteAt (wordsN s) (8 * j + r) = 0 := WM.bytes_behind (bsN s) (bsN_256 s) _ (by rw [bsN_length]; omega)
    have e3 : WM.byteAt (wordsN t) (8 * j + r) = WM.getN ((wordsN s)[j]?.getD 0 ^^^ c * 2 ^ (8 * r)) (8 * r) 8 := by
      unfold WM.byteAt WM.at'
      rw [hj8, hr8]
      have h2 := of_decide_eq_true h5 j hj
      rw [hV, near_at _ _ _ _ hj hj, if_pos rfl] at h2
      rw [h2]
    have e4 : WM.byteAt (wordsN s) (8 * j + r) = WM.getN ((wordsN s)[j]?.getD 0) (8 * r) 8 := by
      unfold WM.byteAt WM.at'
      rw [hj8, hr8]
    rw [near_byte _ _ _ hc, ← e4, e2, e1, Nat.zero_xor] at e3
    exact e3.symm
set_option maxRecDepth 100000 in
set_option maxHeartbeats 4000000 in
theorem bytes6_mid (s : List UInt8) (k j r : Nat) (hk : k = 8 * j + r) (hj : j < 5) (hr : r < 8) (c : Nat) (hc : c < 256) (hc0 : c ≠ 0) (hs : rightN s = true) (w : World) :
    Calls Try.prog 8 #[encStr s, .int .i64 (k : Nat), .int .u8 c] w fun e w' => e = .returned (.bool true) ∧ Below w.heap.size w w' := by
  have HW := Lib.hid works6_any
  have HN := Lib.hid num6_any
  have HS := Lib.hid (laWords_right s hs w)
  have k1 : ¬ (60 : Int) < (s.length : Int) := by have := ((rightN_iff s).1 hs).2.1; omega
  have k2 : ¬ (k : Int) < 0 := by omega
  have k3 : ¬ (40 : Int) ≤ (k : Int) := by omega
  have k4 : ((c : Int) == 0) = false := by simp; omega
  have k5 : (k : Int) / 8 = (j : Int) := by omega
  have k6 : (k : Int) % 8 = (r : Int) := by omega
  obtain ⟨xs, hxs⟩ : ∃ xs, wordsN s = xs := ⟨_, rfl⟩
  obtain ⟨z, hz⟩ : ∃ z, xs[j]?.getD 0 = z := ⟨_, rfl⟩
  have hzl : z < 18446744073709551616 := by rw [← hz, ← hxs]; exact wordsN_64 s j
  have hxi := xor_int z c (8 * r) hzl
  obtain ⟨V, hV⟩ : ∃ V, (pad5 xs).set j (z ^^^ c * 2 ^ (8 * r) % 18446744073709551616) = V := ⟨_, rfl⟩
  have HV := Lib.hid hV
  obtain ⟨hV5, hV64, hVs, hVr⟩ := near_facts s hs j r c hj hr hc hc0 V (by rw [← hV, hxs, hz])
  have HRD := Lib.hid (laRead_any V hV5 hV64 (s.length : Int))
  have HSM := Lib.hid (laSame_any s V (s.length : Int))
  rw [hVs] at HSM
  obtain ⟨ir, hir⟩ : ∃ ir, isRead V (s.length : Int) = ir := ⟨_, rfl⟩
  obtain ⟨t, ht⟩ : ∃ t, readN V (s.length : Int) = t := ⟨_, rfl⟩
  rw [hir, ht] at HRD hVr
  rw [hxs] at HS
  have HVR := Lib.hid hVr
  have HK := Lib.hid hk
  clear hk hV hV5 hV64 hVs hVr hir ht
  go_enter Try.func8, Try.ntmps8
  go_wp2_with fail
  refine HS.out.mono ?_
  rintro e w1 ⟨rfl, hb1⟩
  obtain ⟨W2, hW2⟩ : ∃ W2, w1.alloc (.cells (arr5 xs) 24) = W2 := ⟨_, rfl⟩
  have HB2 : Hid (Below w.heap.size w W2) := show Below _ _ _ by rw [← hW2]; exact hb1.alloc hb1.size _
  have HX2 : Hid (Box5 W2 w1.heap.size xs) := show Box5 _ _ _ by rw [← hW2]; exact Box5.new w1 xs
  obtain ⟨W3, hW3⟩ : ∃ W3, W2.alloc (.cells (arr5 xs) 24) = W3 := ⟨_, rfl⟩
  have HB3 : Hid (Below w.heap.size w W3) := show Below _ _ _ by rw [← hW3]; exact HB2.out.alloc HB2.out.size _
  have HX3 : Hid (Box5 W3 W2.heap.size xs) := show Box5 _ _ _ by rw [← hW3]; exact Box5.new W2 xs
  obtain ⟨c0, c1, c2, c3, c4⟩ := HX2.out.cells
  obtain ⟨d5, f5⟩ := five_cell xs j hj W3 _ HX3.out
  rw [hz] at d5
  have l5 := HX3.out.lt
  have hjj : (j : Int) < 5 := by omega
  obtain ⟨W4, hW4⟩ : ∃ W4, W3.setCell ⟨W2.heap.size, j, none⟩ (.int .u64 ((z ^^^ c * 2 ^ (8 * r) % 18446744073709551616 : Nat) : Int)) = W4 := ⟨_, rfl⟩
  have HX4 : Hid (Box5 W4 W2.heap.size V) := show Box5 _ _ _ by
    rw [← hW4]
    unfold Box5
    rw [setCell_eq_setRow W3 _ j _ _ _ _ HX3.out, five_set xs j _ hj, HV.out]
    exact setRow_heap W3 _ _ _ _ _ HX3.out
  have HB4 : Hid (Below w.heap.size w W4) := show Below _ _ _ by rw [← hW4]; exact HB3.out.setCell (p := ⟨W2.heap.size, j, none⟩) HB2.out.size _
  obtain ⟨e0, e1, e2, e3, e4⟩ := HX4.out.cells
  go_wp2_with (go_at_call 13; refine (HN.out _ _).mono ?_; rintro e w' ⟨rfl, rfl⟩)
  clear hW2 hW3 hW4 c0 c1 c2 c3 c4 d5 f5 l5 hxi
  refine (HRD.out W4).mono ?_
  rintro e w5 ⟨rfl, hb5⟩
  have HB5 : Hid (Below w.heap.size w w5) := show Below _ _ _ from HB4.out.trans (hb5.mono HB4.out.size)
  have HX5 := Lib.hid (HX4.out.below hb5)
  clear hb5 e0 e1 e2 e3 e4
  obtain ⟨e0, e1, e2, e3, e4⟩ := HX5.out.cells
  cases ir with
  | false =>
    go_wp2_with (go_at_call 13; refine (HN.out _ _).mono ?_; rintro e w' ⟨rfl, rfl⟩)
    refine (HSM.out _).mono ?_
    rintro e w6 ⟨rfl, hb6⟩
    have HB6 : Hid (Below w.heap.size w w6) := show Below _ _ _ from HB5.out.trans (hb6.mono HB5.out.size)
    clear hb6 e0 e1 e2 e3 e4
    go_wp2_with fail
    refine (HW.out _).mono ?_
    rintro e w' ⟨rfl, hb⟩
    go_wp2_with fail
    go_ret
    exact ⟨rfl, HB6.out.trans (hb.mono HB6.out.size)⟩
  | true =>
    obtain ⟨hts, hkl⟩ := HVR.out rfl
    have hkl2 : (k : Int) < (s.length : Int) := by have := HK.out; omega
    clear hkl
    go_wp2_with (go_at_call 13; refine (HN.out _ _).mono ?_; rintro e w' ⟨rfl, rfl⟩)
    refine (HSM.out _).mono ?_
    rintro e w6 ⟨rfl, hb6⟩
    have HB6 : Hid (Below w.heap.size w w6) := show Below _ _ _ from HB5.out.trans (hb6.mono HB5.out.size)
    clear hb6 e0 e1 e2 e3 e4
    go_wp2_with fail
    refine (HW.out _).mono ?_
    rintro e w' ⟨rfl, hb⟩
    go_wp2_with fail
    go_ret
    exact ⟨rfl, HB6.out.trans (hb.mono HB6.out.size)⟩
theorem bytes6_any (s : List UInt8) (k : Int) (hk : -9223372036854775808 ≤ k ∧ k ≤ 9223372036854775807) (c : Nat) (hc : c < 256) (w : World) :
    Calls Try.prog 8 #[encStr s, .int .i64 k, .int .u8 c] w fun e w' => e = .returned (.bool true) ∧ Below w.heap.size w w' := by
  have HW := Lib.hid works6_any
  have HN := Lib.hid num6_any
  by_cases k1 : (60 : Int) < (s.length : Int)
  · go_enter Try.func8, Try.ntmps8
    go_wp2_with fail
    refine (HW.out _).mono ?_
    rintro e w' ⟨rfl, hb⟩
    go_wp2_with fail
    go_ret
    exact ⟨rfl, hb⟩
  by_cases k2 : k < 0
  · go_enter Try.func8, Try.ntmps8
    go_wp2_with fail
    refine (HW.out _).mono ?_
    rintro e w' ⟨rfl, hb⟩
    go_wp2_with fail
    go_ret
    exact ⟨rfl, hb⟩
  by_cases k3 : (40 : Int) ≤ k
  · go_enter Try.func8, Try.ntmps8
    go_wp2_with fail
    refine (HW.out _).mono ?_
    rintro e w' ⟨rfl, hb⟩
    go_wp2_with fail
    go_ret
    exact ⟨rfl, hb⟩
  by_cases k4 : c = 0
  · subst k4
    go_enter Try.func8, Try.ntmps8
    go_wp2_with fail
    refine (HW.out _).mono ?_
    rintro e w' ⟨rfl, hb⟩
    go_wp2_with fail
    go_ret
    exact ⟨rfl, hb⟩
  have hcb : ((c : Int) == 0) = false := by simp; omega
  cases hs : rightN s with
  | false =>
    have HS := Lib.hid (laWords_wrong s hs w)
    clear hs k4
    go_enter Try.func8, Try.ntmps8
    go_wp2_with fail
    refine HS.out.mono ?_
    rintro e w1 ⟨rfl, hb1⟩
    have HB2 : Hid (Below w.heap.size w (w1.alloc (.cells (arr5 []) 24))) := show Below _ _ _ from hb1.alloc hb1.size _
    clear hb1
    go_wp2_with (go_at_call 13; refine (HN.out _ _).mono ?_; rintro e w' ⟨rfl, rfl⟩)
    refine (HW.out _).mono ?_
    rintro e w' ⟨rfl, hb⟩
    go_wp2_with fail
    go_ret
    exact ⟨rfl, HB2.out.trans (hb.mono HB2.out.size)⟩
  | true =>
    obtain ⟨m, rfl⟩ := Int.eq_ofNat_of_zero_le (show 0 ≤ k by omega)
    exact bytes6_mid s m (m / 8) (m % 8) (by omega) (by omega) (by omega) c hc k4 hs w
end Go.Proofs.Ytoaloeipgadkjaa
