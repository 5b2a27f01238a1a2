/-
  The law FileSplits: its walk. Written by gen_fls.py.
-/
import Derived.Test.YtmncoclmgcjjjaaMf11
namespace Go.Proofs.Ytmncoclmgcjjjaa
open Go.RowKit Go.Shelf
attribute [local go_sem] Oper.semAt_some

theorem sl_vec {W : World} {k : IntKind} {v : Value} {xs : List Nat} (h : Sl W k v xs) : Vec W v xs.length 1 (valsOf k xs) := by
  obtain ⟨a, cap, hv, hl, hc⟩ := h
  refine ⟨by rw [valsOf_length, Nat.mul_one], a, cap, hv, hl, fun h0 => ?_⟩
  obtain ⟨b, off, ha, hb, hj⟩ := hc h0
  refine ⟨b, off, ha, hb, fun j y hy => ?_⟩
  have hjl : j < xs.length := by
    have := (List.getElem?_eq_some_iff.1 hy).1
    rwa [valsOf_length] at this
  rw [hj j hjl, ← hy]
  simp [valsOf, hjl]
theorem vec_sl {W : World} {k : IntKind} {v : Value} {xs : List Nat} (h : Vec W v xs.length 1 (valsOf k xs)) : Sl W k v xs := by
  obtain ⟨-, a, cap, hv, hl, hc⟩ := h
  refine ⟨a, cap, hv, hl, fun h0 => ?_⟩
  obtain ⟨b, off, ha, hb, hj⟩ := hc h0
  refine ⟨b, off, ha, hb, fun j hjl => ?_⟩
  exact hj j _ (by simp [valsOf, hjl])
theorem grow_fb {W : World} {B : Nat} {v : Value} {xs : List Nat} (h : GrowB W B 5 1 v xs.length (valsOf .u8 xs)) (hx : WM.Bytes256 xs) : FB W v xs := by
  refine ⟨vec_sl h.vec, hx, fun a n c e => ?_⟩
  rcases h with ⟨_, _, ad, h⟩ | h
  · rw [h] at e; cases e; omega
  · rcases h.2 with ⟨h0, _⟩ | ⟨g', cap', cur, h0, _, _, hc, hm, _⟩
    · rw [h0] at e; cases e; omega
    · rw [h0] at e
      simp only [Value.slice.injEq] at e
      unfold maxLen at hm
      omega
theorem writes_parts (b : List Nat) (p : Nat) (x y : List Nat) : writeF (writeF b p x) (p + x.length) y = writeF b p (x ++ y) := by
  by_cases hy : y.length = 0
  · obtain rfl := List.eq_nil_of_length_eq_zero hy
    rw [List.append_nil]
    exact if_pos rfl
  by_cases hx : x.length = 0
  · obtain rfl := List.eq_nil_of_length_eq_zero hx
    rw [List.nil_append, show writeF b p [] = b from if_pos rfl]
    rfl
  have hxy : (x ++ y).length ≠ 0 := by rw [List.length_append]; omega
  have l1 := writeF_length b p x
  rw [if_neg hx] at l1
  have l2 := writeF_length (writeF b p x) (p + x.length) y
  rw [if_neg hy, l1] at l2
  have l3 := writeF_length b p (x ++ y)
  rw [if_neg hxy, List.length_append] at l3
  apply WM.list_ext _ _ (by rw [l2, l3]; omega)
  intro j hj
  rw [l2] at hj
  unfold WM.at'
  rw [writeF_at (writeF b p x) (p + x.length) y hy j (by rw [l1]; exact hj), writeF_at b p (x ++ y) hxy j (by rw [List.length_append]; omega), List.length_append]
  by_cases h1 : p + x.length ≤ j ∧ j < p + x.length + y.length
  · rw [if_pos h1, if_pos (by omega), List.getElem?_append_right (by omega)]
    congr 2
    omega
  · rw [if_neg h1, writeF_at b p x hx j (by omega)]
    by_cases h2 : p ≤ j ∧ j < p + x.length
    · rw [if_pos h2, if_pos (by omega), List.getElem?_append_left (by omega)]
    · rw [if_neg h2, if_neg (by omega)]
theorem splits_facts (b : List Nat) (p : Nat) (x y : List Nat) (hb : b.length ≤ 448) (hp : p ≤ 448) :
    (errW b.length p (x ++ y).length ≠ 0 → errW b.length p x.length ≠ 0 ∨ errW (outW b p x).length ((p + x.length : Nat) : Int) y.length ≠ 0) ∧
      (errW b.length p (x ++ y).length = 0 → errW b.length p x.length = 0 ∧ errW (outW b p x).length ((p + x.length : Nat) : Int) y.length = 0 ∧ outW (outW b p x) ((p + x.length : Nat) : Int) y = outW b p (x ++ y)) := by
  have e1 : ∀ (n k : Nat), n ≤ 448 → (errW n (p : Int) k = 0 ↔ p + k ≤ 448) := fun n k hn => by
    by_cases h : 448 < n ∨ 448 - (p : Int) < k
    · rw [errW_big (by omega) h]; omega
    · rw [errW_ok (by omega) h]; omega
  constructor
  · intro h
    by_cases h1 : errW b.length p x.length = 0
    · refine .inr ?_
      have h2 := (e1 _ _ hb).1 h1
      have h3 : ¬ p + (x ++ y).length ≤ 448 := fun hh => h ((e1 _ _ hb).2 hh)
      rw [List.length_append] at h3
      rw [errW_big (by omega) (.inr (by omega))]
      decide
    · exact .inl h1
  · intro h
    have h1 := (e1 _ _ hb).1 h
    rw [List.length_append] at h1
    have h2 : errW b.length p x.length = 0 := (e1 _ _ hb).2 (by omega)
    have ho : outW b p x = writeF b p x := by unfold outW; rw [if_pos h2]; rfl
    have hl := writeF_length b p x
    have hl2 : (writeF b p x).length ≤ 448 := by rw [hl]; split <;> omega
    have h3 : errW (outW b p x).length ((p + x.length : Nat) : Int) y.length = 0 := by
      rw [ho]
      exact errW_ok (by omega) (by omega)
    refine ⟨h2, h3, ?_⟩
    rw [show outW (outW b p x) ((p + x.length : Nat) : Int) y = writeF (outW b p x) (p + x.length) y from by unfold outW at h3 ⊢; rw [if_pos h3]; rfl, ho, writes_parts]
    unfold outW
    rw [if_pos h]
    rfl
set_option maxRecDepth 100000 in
set_option maxHeartbeats 8000000 in
theorem splits9_any {v u u2 : Value} {xs ds es : List Nat} (p : Int) (hp0 : -9223372036854775808 ≤ p) (hp1 : p ≤ 9223372036854775807) (w : World) (hv : FB w v xs) (hu : FB w u ds) (hu2 : FB w u2 es) :
    Calls Try.prog 8 #[v, .int .i64 p, u, u2] w fun e w' => e = .returned (.bool true) ∧ Below w.heap.size w w' := by
  obtain ⟨i0, hi, hz0, hz1, hz2⟩ := info_parts infoU8
  have HK := Lib.hid works9_any
  have HN := Lib.hid num9_any
  have HS := Lib.hid strEq9
  have HF := Lib.hid (fun P h1 h2 => splits_facts xs P ds es h1 h2)
  have HV := Lib.hid hv
  have HU := Lib.hid hu
  have HU2 := Lib.hid hu2
  obtain ⟨a, c, rfl, -⟩ := hv.form
  obtain ⟨a', c', rfl, -⟩ := hu.form
  obtain ⟨a2, c2, rfl, -⟩ := hu2.form
  obtain ⟨l, hl⟩ : ∃ l, xs.length = l := ⟨_, rfl⟩
  obtain ⟨k, hk⟩ : ∃ k, ds.length = k := ⟨_, rfl⟩
  obtain ⟨j, hj⟩ : ∃ j, es.length = j := ⟨_, rfl⟩
  have HLN := Lib.hid (And.intro hl (And.intro hk hj))
  rw [hl] at HV HF ⊢
  rw [hk] at HU HF ⊢
  rw [hj] at HU2 HF ⊢
  clear hv hu hu2 hl hk hj
  by_cases g0 : (448 : Int) < (l : Int)
  · go_enter Try.func8, Try.ntmps8
    go_wp2_with fail
    refine (HK.out _).mono ?_
    rintro e w1 ⟨rfl, hb⟩
    go_wp2_with fail
    go_ret
    exact ⟨rfl, hb⟩
  by_cases g1 : (448 : Int) < (k : Int)
  · go_enter Try.func8, Try.ntmps8
    go_wp2_with fail
    refine (HK.out _).mono ?_
    rintro e w1 ⟨rfl, hb⟩
    go_wp2_with fail
    go_ret
    exact ⟨rfl, hb⟩
  by_cases g2 : (448 : Int) < (j : Int)
  · go_enter Try.func8, Try.ntmps8
    go_wp2_with fail
    refine (HK.out _).mono ?_
    rintro e w1 ⟨rfl, hb⟩
    go_wp2_with fail
    go_ret
    exact ⟨rfl, hb⟩
  by_cases g3 : p < 0
  · go_enter Try.func8, Try.ntmps8
    go_wp2_with fail
    refine (HK.out _).mono ?_
    rintro e w1 ⟨rfl, hb⟩
    go_wp2_with fail
    go_ret
    exact ⟨rfl, hb⟩
  by_cases g4 : (448 : Int) < p
  · go_enter Try.func8, Try.ntmps8
    go_wp2_with fail
    refine (HK.out _).mono ?_
    rintro e w1 ⟨rfl, hb⟩
    go_wp2_with fail
    go_ret
    exact ⟨rfl, hb⟩
  obtain ⟨P, rfl⟩ : ∃ P : Nat, p = (P : Int) := ⟨p.toNat, by omega⟩
  have w1 : IntKind.i64.wrap ((P : Int) + (k : Int)) = ((P + k : Nat) : Int) := by rw [IntWalk.i64_in _ (by omega)]; omega
  have HFF := Lib.hid (HF.out P (by omega) (by omega))
  have H1 : Hid (∀ W r, Below w.heap.size w W → FB W r (ds ++ es) → Calls Try.prog 11 #[.slice a l c, .int .i64 P, r] W fun e w' => ∃ r, e = .returned (.tuple #[r, .int .i64 (errW l P (ds ++ es).length)]) ∧ FB w' r (outW xs P (ds ++ es)) ∧ Below W.heap.size W w') := show ∀ W, _ from fun W r hW hr => by
    have := write_any (P : Int) (by omega) (by omega) W (HV.out.below hW) hr
    rwa [HLN.out.1] at this
  have H2 : Hid (∀ W, Below w.heap.size w W → Calls Try.prog 11 #[.slice a l c, .int .i64 P, .slice a' k c'] W fun e w' => ∃ r, e = .returned (.tuple #[r, .int .i64 (errW l P k)]) ∧ FB w' r (outW xs P ds) ∧ Below W.heap.size W w') := show ∀ W, _ from fun W hW => by
    have := write_any (P : Int) (by omega) (by omega) W (HV.out.below hW) (HU.out.below hW)
    rwa [HLN.out.1, HLN.out.2.1] at this
  have H3 : Hid (∀ W r, Below w.heap.size w W → FB W r (outW xs P ds) → Calls Try.prog 11 #[r, .int .i64 ((P + k : Nat) : Int), .slice a2 j c2] W fun e w' => ∃ r, e = .returned (.tuple #[r, .int .i64 (errW (outW xs P ds).length ((P + k : Nat) : Int) j)]) ∧ FB w' r (outW (outW xs P ds) ((P + k : Nat) : Int) es) ∧ Below W.heap.size W w') := show ∀ W, _ from fun W r hW hr => by
    have := write_any ((P + k : Nat) : Int) (by omega) (by omega) W hr (HU2.out.below hW)
    rwa [HLN.out.2.2] at this
  obtain ⟨e1, he1⟩ : ∃ e, errW l P (ds ++ es).length = e := ⟨_, rfl⟩
  obtain ⟨e2, he2⟩ : ∃ e, errW l P k = e := ⟨_, rfl⟩
  obtain ⟨e3, he3⟩ : ∃ e, errW (outW xs P ds).length ((P + k : Nat) : Int) j = e := ⟨_, rfl⟩
  rw [he1] at H1 HFF
  rw [he2] at H2 HFF
  rw [he3] at H3 HFF
  have HB0 : Hid (Below w.heap.size w w) := show Below _ _ _ from Below.refl _ _
  clear HF he1 he2 he3
  have hb1 : Below w.heap.size w (w.alloc (.cells #[] 5)) := (Below.refl _ _).alloc (Nat.le_refl _) _
  have HB1 := Lib.hid hb1
  obtain ⟨A, hA⟩ : ∃ A, P + k = A := ⟨_, rfl⟩
  rw [hA] at w1 H3 HFF
  clear hb1 hA
  go_enter Try.func8, Try.ntmps8
  go_wp2_with (at_builtin; refine park ?_)
  unfold Park
  refine wpList_append_vec rfl _ _ 22 rfl 5 i0 (.int .u8 0) 1 1 Try.underlying22 hi hz0 hz1 hz2 rfl (by decide) w.heap.size (.slice (some ⟨w.heap.size, 0, none⟩) 0 0) (.slice a' k c') 0 k [] (valsOf .u8 ds) rfl rfl (.inl ⟨rfl, rfl, _, rfl⟩) (by have := sl_vec (HU.out.below HB1.out).sl; rwa [HLN.out.2.1] at this) (valsOf_one _ _) (by omega) (by omega) (by simp) ?_
  intro v1 w1 hg1 hb1 _
  rw [Nat.zero_add, List.nil_append] at hg1
  have HB2 : Hid (Below w.heap.size w w1) := show Below _ _ _ from HB1.out.trans hb1
  have HG1 := Lib.hid hg1
  clear hg1 hb1
  go_wp2_with (at_builtin; refine park ?_)
  unfold Park
  refine wpList_append_vec rfl _ _ 22 rfl 5 i0 (.int .u8 0) 1 1 Try.underlying22 hi hz0 hz1 hz2 rfl (by decide) w.heap.size v1 (.slice a2 j c2) k j (valsOf .u8 ds) (valsOf .u8 es) rfl rfl HG1.out (by have := sl_vec (HU2.out.below HB2.out).sl; rwa [HLN.out.2.2] at this) (valsOf_one _ _) (by omega) (by omega) HB2.out.size ?_
  intro v2 w2 hg2 hb2 _
  have HB3 : Hid (Below w.heap.size w w2) := show Below _ _ _ from HB2.out.trans hb2
  have HG2 : Hid (FB w2 v2 (ds ++ es)) := show FB _ _ _ from grow_fb (by rw [List.length_append, HLN.out.2.1, HLN.out.2.2, valsOf_append]; exact hg2) (bytes256_app HU.out.all HU2.out.all)
  clear hg2 hb2
  go_wp2_with fail
  refine (H1.out w2 v2 HB3.out HG2.out).mono ?_
  rintro e w3 ⟨r1, rfl, f1, hb⟩
  have HB4 : Hid (Below w.heap.size w w3) := show Below _ _ _ from HB3.out.trans (hb.mono HB3.out.size)
  have F1 := Lib.hid f1
  clear hb f1
  go_wp2_with fail
  refine (H2.out w3 HB4.out).mono ?_
  rintro e w4 ⟨r2, rfl, f2, hb⟩
  have HB5 : Hid (Below w.heap.size w w4) := show Below _ _ _ from HB4.out.trans (hb.mono HB4.out.size)
  have F1 := Lib.hid (F1.out.below hb)
  have F2 := Lib.hid f2
  clear hb f2
  go_wp2_with fail
  refine (H3.out w4 r2 HB5.out F2.out).mono ?_
  rintro e w5 ⟨r3, rfl, f3, hb⟩
  have HB6 : Hid (Below w.heap.size w w5) := show Below _ _ _ from HB5.out.trans (hb.mono HB5.out.size)
  have F1 := Lib.hid (F1.out.below hb)
  have F3 := Lib.hid f3
  clear hb f3
  by_cases h1 : e1 = 0
  · obtain ⟨h2, h3, h4⟩ := HFF.out.2 h1
    have d1 := conv_sl F1.out.sl
    have d3 := conv_sl F3.out.sl
    rw [h4] at d3
    obtain ⟨s1, hs1⟩ : ∃ s, strOf (outW xs P (ds ++ es)) = s := ⟨_, rfl⟩
    rw [hs1] at d1 d3
    have k1 := HS.out s1
    subst h1
    subst h2
    subst h3
    clear h4 hs1
    go_wp2_with (go_at_call 17; refine (HN.out _ _).mono ?_; rintro e w' ⟨rfl, rfl⟩)
    refine (HK.out _).mono ?_
    rintro e w7 ⟨rfl, hb⟩
    have HB7 : Hid (Below w.heap.size w w7) := show Below _ _ _ from HB6.out.trans (hb.mono HB6.out.size)
    clear hb
    go_wp2_with fail
    go_ret
    exact ⟨rfl, HB7.out⟩
  · have hne : (e1 != 0) = true := by rw [bne_iff_ne]; exact h1
    rcases HFF.out.1 h1 with h2 | h3
    · have hne2 : (e2 != 0) = true := by rw [bne_iff_ne]; exact h2
      go_wp2_with (go_at_call 17; refine (HN.out _ _).mono ?_; rintro e w' ⟨rfl, rfl⟩)
      refine (HK.out _).mono ?_
      rintro e w7 ⟨rfl, hb⟩
      have HB7 : Hid (Below w.heap.size w w7) := show Below _ _ _ from HB6.out.trans (hb.mono HB6.out.size)
      clear hb
      go_wp2_with fail
      go_ret
      exact ⟨rfl, HB7.out⟩
    · have hne3 : (e3 != 0) = true := by rw [bne_iff_ne]; exact h3
      by_cases h2 : e2 = 0
      · subst h2
        go_wp2_with (go_at_call 17; refine (HN.out _ _).mono ?_; rintro e w' ⟨rfl, rfl⟩)
        refine (HK.out _).mono ?_
        rintro e w7 ⟨rfl, hb⟩
        have HB7 : Hid (Below w.heap.size w w7) := show Below _ _ _ from HB6.out.trans (hb.mono HB6.out.size)
        clear hb
        go_wp2_with fail
        go_ret
        exact ⟨rfl, HB7.out⟩
      · have hne2 : (e2 != 0) = true := by rw [bne_iff_ne]; exact h2
        go_wp2_with (go_at_call 17; refine (HN.out _ _).mono ?_; rintro e w' ⟨rfl, rfl⟩)
        refine (HK.out _).mono ?_
        rintro e w7 ⟨rfl, hb⟩
        have HB7 : Hid (Below w.heap.size w w7) := show Below _ _ _ from HB6.out.trans (hb.mono HB6.out.size)
        clear hb
        go_wp2_with fail
        go_ret
        exact ⟨rfl, HB7.out⟩
end Go.Proofs.Ytmncoclmgcjjjaa
