/-
  file: word.Bytes with what its slice is; joined.
-/
import Derived.Test.YtmncoclmgcjjjaaQFlY
import Derived.Test.YtmncoclmgcjjjaaMf11
namespace Go.Proofs.Ytmncoclmgcjjjaa
open Go.RowKit Go.Shelf Go.Maps
attribute [local go_sem] Oper.semAt_some

set_option maxHeartbeats 2000000 in
theorem bytes_rest9 (v : Value) (l : List Nat) (many : Nat) (h64 : Words64 l) (h : many ≤ 4096) (h2 : l.length ≤ 4096) (h3 : many ≤ 8 * l.length) (h4 : l.length ≤ WM.need many) (w : World) (hs : Sl w .u64 v l) :
    Calls Try.prog 51 #[v, .int .i64 many] w fun e w' => ((((WM.bytesOf l).drop many).any (· != 0) = true → e = .returned (.tuple #[.slice none 0 0, .int .i64 110])) ∧
      (((WM.bytesOf l).drop many).any (· != 0) = false → ∃ r c, e = .returned (.tuple #[r, .int .i64 0]) ∧ r = .slice (some ⟨c, 0, none⟩) many many ∧ Sl w' .u8 r ((WM.bytesOf l).take many))) ∧ Below w.heap.size w w' := by
  have HS := Lib.hid (split_any v l h2 h64 w hs)
  obtain ⟨a, c, b, off, rfl, -, -, -⟩ := hs.cell
  clear hs
  have k1 : (many : Int) ≤ 4096 := by omega
  have k2 : (l.length : Int) ≤ 4096 := by omega
  have k3 : (many : Int) ≤ 8 * (l.length : Int) := by omega
  have k4 : (l.length : Int) ≤ ((WM.need many : Nat) : Int) := by omega
  go_enter Try.func51, Try.ntmps51
  go_wp2
  refine wp_scope_forward 0 rfl ?_
  go_wp2_with fail
  refine (need_any many h _).mono ?_
  rintro e w1 ⟨rfl, rfl⟩
  go_wp2_with fail
  refine HS.out.mono ?_
  rintro e w2 ⟨g, cap, rfl, hrow, hb2⟩
  have hcap : 8 * l.length ≤ cap := by
    rcases hrow.2 with ⟨h0, _⟩ | ⟨g', cap', cur, h0, _, _, hc, _⟩
    · cases h0
    · simp at h0; omega
  have hsl := Lib.hid (drop_sl rfl hrow h3)
  have HR := Lib.hid hrow; clear hrow
  have k5 : (many : Int) ≤ ((8 * l.length : Nat) : Int) := by omega
  have k6 : ((8 * l.length : Nat) : Int) ≤ (cap : Int) := by omega
  have k7 : (many : Int) ≤ (cap : Int) := by omega
  by_cases hmc : many = cap
  · have HSL : Hid (Sl w2 .u8 (.slice (some ⟨g, 0, none⟩) 0 0) ((WM.bytesOf l).drop many)) := by
      have := hsl.out; rw [if_pos hmc, show 8 * l.length - many = 0 by omega, show cap - many = 0 by omega] at this; exact this
    clear hsl
    subst hmc
    go_wp2_with fail
    refine (contains_any _ _ (by rw [List.length_drop, WM.bytesOf_length]; omega) _ HSL.out).mono ?_
    rintro e w3 ⟨rfl, rfl⟩
    by_cases hany : ((WM.bytesOf l).drop many).any (· != 0) = true
    · have HA := Lib.hid hany
      rw [hany]
      clear hany
      go_wp2_with fail
      go_step3
      refine ⟨rfl, ?_⟩
      go_wp2
      rw [Exit.jump_ret]
      go_ret2
      exact ⟨⟨fun _ => rfl, fun hf => by rw [HA.out] at hf; cases hf⟩, hb2⟩
    · have hany' : ((WM.bytesOf l).drop many).any (· != 0) = false := by simpa using hany
      have HA := Lib.hid hany'
      rw [hany']
      clear hany hany'
      go_wp2_with fail
      rw [Exit.jump_ret]
      go_ret2
      exact ⟨⟨(fun hf => by rw [HA.out] at hf; cases hf), fun _ => ⟨_, _, rfl, rfl, take_sl rfl HR.out h3 (by omega)⟩⟩, hb2⟩
  · have hmc' : ¬ ((many : Nat) = cap) := hmc
    have HSL : Hid (Sl w2 .u8 (.slice (some ⟨g, many, none⟩) (8 * l.length - many) (cap - many)) ((WM.bytesOf l).drop many)) := by
      have := hsl.out; rw [if_neg hmc] at this; exact this
    clear hsl
    go_wp2_with fail
    refine (contains_any _ _ (by rw [List.length_drop, WM.bytesOf_length]; omega) _ HSL.out).mono ?_
    rintro e w3 ⟨rfl, rfl⟩
    by_cases hany : ((WM.bytesOf l).drop many).any (· != 0) = true
    · have HA := Lib.hid hany
      rw [hany]
      clear hany
      go_wp2_with fail
      go_step3
      refine ⟨rfl, ?_⟩
      go_wp2
      rw [Exit.jump_ret]
      go_ret2
      exact ⟨⟨fun _ => rfl, fun hf => by rw [HA.out] at hf; cases hf⟩, hb2⟩
    · have hany' : ((WM.bytesOf l).drop many).any (· != 0) = false := by simpa using hany
      have HA := Lib.hid hany'
      rw [hany']
      clear hany hany'
      go_wp2_with fail
      rw [Exit.jump_ret]
      go_ret2
      exact ⟨⟨(fun hf => by rw [HA.out] at hf; cases hf), fun _ => ⟨_, _, rfl, rfl, take_sl rfl HR.out h3 (by omega)⟩⟩, hb2⟩
theorem line_sl {W : World} {b : Nat} {t : TypeId} {l : List Int} (hl : Line8N l) (h : Blk W b t (lnA l)) : Sl W .u64 (.slice (some ⟨b, 0, none⟩) 8 8) (natL l) := by
  have h8 : (natL l).length = 8 := by rw [natL_length, hl.1]
  refine ⟨_, 8, by rw [h8], by rw [h8]; exact Nat.le_refl _, fun _ => ⟨b, 0, rfl, h.lt, fun j hj => ?_⟩⟩
  rw [h8] at hj
  rw [Nat.zero_add, h.cell (lnA_at l j (by rw [hl.1]; exact hj)), natL_at l (fun x hx => (hl.2 x hx).1)]
set_option maxRecDepth 100000 in
set_option maxHeartbeats 8000000 in
theorem joined9_any {v : Value} {L : List (List Int)} (hL : ∀ l ∈ L, Line8N l) (hn : L.length ≤ 64) (w : World) (hv : VecC w v L) :
    Calls Try.prog 38 #[v] w fun e w' => ∃ r, e = .returned (.agg #[r, .slice none 0 0]) ∧ FB w' r (WM.bytesOf (flatN L)) ∧ Below w.heap.size w w' := by
  obtain ⟨i0, hi, hz0, hz1, hz2⟩ := info_parts infoU64
  have h8 : ∀ l ∈ L, l.length = 8 := fun l hl => (hL l hl).1
  obtain ⟨a, c, rfl, hac, hA⟩ := vecC_load hv h8
  have HA := Lib.hid hA
  have HFL := Lib.hid (flatN_length L h8)
  have HTK := Lib.hid (fun k (hk : k < L.length) => show flatN (L.take (k + 1)) = flatN (L.take k) ++ natL (L[k]?.getD []) from by
    rw [List.take_succ_eq_append_getElem hk, flatN_append, List.getElem?_eq_getElem hk]
    simp [flatN])
  have HTL := Lib.hid (fun k (hk : k ≤ L.length) => show (flatN (L.take k)).length = 8 * k from by
    rw [flatN_length _ fun l hl => h8 l (List.mem_of_mem_take hl), List.length_take, Nat.min_eq_left hk])
  have HLN : Hid (∀ k, k < L.length → Line8N (L[k]?.getD [])) := show ∀ k, _ from fun k hk => by rw [List.getElem?_eq_getElem hk]; exact hL _ (List.getElem_mem hk)
  have HB : Hid (∀ W v, Sl W .u64 v (flatN L) → Calls Try.prog 51 #[v, .int .i64 ((64 * L.length : Nat) : Int)] W fun e w' => ∃ r c, e = .returned (.tuple #[r, .int .i64 0]) ∧ r = .slice (some ⟨c, 0, none⟩) (64 * L.length) (64 * L.length) ∧ Sl w' .u8 r (WM.bytesOf (flatN L)) ∧ Below W.heap.size W w') := show ∀ W, _ from fun W v hs => by
    have hfl := flatN_length L h8
    have hd : (WM.bytesOf (flatN L)).drop (64 * L.length) = [] := List.drop_of_length_le (by rw [WM.bytesOf_length, hfl]; omega)
    have ht : (WM.bytesOf (flatN L)).take (64 * L.length) = WM.bytesOf (flatN L) := List.take_of_length_le (by rw [WM.bytesOf_length, hfl]; omega)
    refine (bytes_rest9 v (flatN L) (64 * L.length) (flatN_64 L hL) (by omega) (by omega) (by omega) (by unfold WM.need; omega) W hs).mono ?_
    rintro e w' ⟨⟨-, h⟩, hb⟩
    obtain ⟨r, c, he, hr, hsl⟩ := h (by rw [hd]; rfl)
    rw [ht] at hsl
    exact ⟨r, c, he, hr, hsl, hb⟩
  obtain ⟨n, hn'⟩ : ∃ n, L.length = n := ⟨_, rfl⟩
  rw [hn'] at hac HA HFL HTK HTL HLN HB hn ⊢
  have hmw : IntKind.i64.wrap (64 * (n : Int)) = ((64 * n : Nat) : Int) := by rw [IntWalk.i64_in _ (by omega)]; omega
  have HLEN := Lib.hid hn'
  clear hA hv h8 hL hn'
  obtain ⟨W0, hW0⟩ : ∃ W0, w.alloc (.cells #[.slice none 0 0, .slice none 0 0] 61) = W0 := ⟨_, rfl⟩
  have HB0 : Hid (Below w.heap.size w W0) := show Below _ _ _ by rw [← hW0]; exact (Below.refl _ _).alloc (Nat.le_refl _) _
  have HX0 : Hid (Blk W0 w.heap.size 61 #[.slice none 0 0, .slice none 0 0]) := show Blk _ _ _ _ by rw [← hW0]; exact Blk.new _ _ _
  have HW0 := Lib.hid hW0
  clear hW0
  go_enter Try.func38, Try.ntmps38
  go_wp2_with fail
  rw [HW0.out]
  go_loopw [3, 5, 10] (fun v x i wr => ∃ (k : Nat) (q : Value), k ≤ n ∧ i = .int .i64 k ∧ q = v ∧ wr.ownsRow W0.heap.size 42 1 q (flatN (L.take k)).length (valsOf .u64 (flatN (L.take k))) ∧ Below W0.heap.size W0 wr) (fun _ _ i _ => n - (intOf i).toNat)
  case atStart => exact ⟨0, _, Nat.zero_le _, rfl, rfl, World.ownsRow_nil _ _ _ _, Below.refl _ _⟩
  case round =>
    obtain ⟨k, q, hk, rfl, rfl, hrow, hb⟩ := hrel
    have z := hb.size
    by_cases hlt : k < n
    · obtain ⟨b, off, rfl, hbl, hld⟩ := HA.out (by omega)
      have hbW : Below w.heap.size w wr := HB0.out.trans (hb.mono HB0.out.size)
      have h1 := hld wr hbW k hlt
      have hl8 := HLN.out k hlt
      have hXs : (lnA (L[k]?.getD [])).size = 8 := by rw [lnA_size, hl8.1]
      obtain ⟨W2, hst, hx2, ht2⟩ := (Blk.new wr 43 (lnA zeros8)).store (P := Try.prog) (tt := 43) (Y := lnA (L[k]?.getD [])) (by rw [hXs]; kernel_rfl) (by rw [hXs]; rfl) (lnA_one _)
      have hb1 : Below wr.heap.size wr (wr.alloc (.cells (lnA zeros8) 43)) := (Below.refl _ _).alloc (Nat.le_refl _) _
      have hb2 : Below wr.heap.size wr W2 := hb1.trans (ht2.below (B := wr.heap.size) (fun k hk => by omega) hb1.size)
      have HBW : Hid (Below W0.heap.size W0 W2) := show Below _ _ _ from hb.trans (hb2.mono z)
      have HRW : Hid (W2.ownsRow W0.heap.size 42 1 q (flatN (L.take k)).length (valsOf .u64 (flatN (L.take k)))) := show World.ownsRow _ _ _ _ _ _ _ from ownsRow_below hrow hb2
      have HSL := Lib.hid (line_sl hl8 hx2)
      have HTK1 := Lib.hid (HTK.out k hlt)
      have htl := HTL.out k (by omega)
      have hz8 : lnA zeros8 = #[.int .u64 0, .int .u64 0, .int .u64 0, .int .u64 0, .int .u64 0, .int .u64 0, .int .u64 0, .int .u64 0] := rfl
      rw [hz8] at hst
      have h8n : (natL (L[k]?.getD [])).length = 8 := by rw [natL_length, hl8.1]
      obtain ⟨X, hX⟩ : ∃ X, lnA (L[k]?.getD []) = X := ⟨_, rfl⟩
      rw [hX] at h1 hst
      clear hx2 ht2 hb1 hb2 hz8 hX hXs hld hrow hb hbW hl8
      go_wp2_with (first | (refine ndList_load9 rfl 43 _ rfl _ _ rfl h1 ?_) | (refine ndList_store9 rfl 43 _ _ rfl _ _ rfl rfl hst ?_) | (at_builtin; refine park ?_))
      unfold Park
      refine wpList_append_sl _ rfl _ _ 71 rfl W0.heap.size 42 i0 (.int .u64 0) 8 .u64 Try.underlying71 hi hz0 hz1 hz2 rfl q (flatN (L.take k)) rfl HRW.out (.slice (some ⟨wr.heap.size, 0, none⟩) 8 8) (natL (L[k]?.getD [])) rfl HSL.out (by rw [htl, h8n]; unfold maxLen; omega) (by rw [htl, h8n]; omega) HBW.out.size ?_
      intro v' w3 hown hgrow _
      go_wp2_with fail
      go_roundw
      case rel =>
        refine ⟨k + 1, _, by omega, by go_num, rfl, ?_, ?_⟩
        · rw [HTK1.out]; exact hown
        · exact HBW.out.grown hgrow HBW.out.size (fun j e => (HRW.out.lt j e).1)
      case measure => simp [intOf]; omega
    · obtain rfl : k = n := by omega
      have hall : L.take k = L := List.take_of_length_le (by rw [HLEN.out]; exact Nat.le_refl _)
      rw [hall] at hrow
      have hsl : Sl wr .u64 q (flatN L) := own_sl hrow
      have HBY := Lib.hid (HB.out wr q hsl)
      have HX1 : Hid (Blk wr w.heap.size 61 #[.slice none 0 0, .slice none 0 0]) := show Blk _ _ _ _ from HX0.out.below hb HX0.out.lt
      have HBR : Hid (Below w.heap.size w wr) := show Below _ _ _ from HB0.out.trans (hb.mono HB0.out.size)
      obtain ⟨m, hm⟩ : ∃ m, 64 * k = m := ⟨_, rfl⟩
      rw [hm] at hmw HBY
      have hm4 : m ≤ 4096 := by omega
      clear hsl hrow hall hm hb
      go_wp2_with fail
      refine HBY.out.mono ?_
      rintro e w2 ⟨r, g, rfl, rfl, hr, hb2⟩
      have HX2 : Hid (Blk w2 w.heap.size 61 #[.slice none 0 0, .slice none 0 0]) := show Blk _ _ _ _ from HX1.out.below hb2 HX1.out.lt
      have HB2 : Hid (Below w.heap.size w w2) := show Below _ _ _ from HBR.out.trans (hb2.mono HBR.out.size)
      have HR := Lib.hid hr
      have c0 := HX2.out.cell (j := 0) rfl
      have c1 := HX2.out.cell (j := 1) rfl
      have f0 := HX2.out.frozen 0
      have f1 := HX2.out.frozen 1
      have lt2 := HX2.out.lt
      clear hr hb2
      go_wp2_with fail
      obtain ⟨W4, hW4⟩ : ∃ W4, (w2.setCell ⟨w.heap.size, 0, none⟩ (.slice (some ⟨g, 0, none⟩) m m)).setCell ⟨w.heap.size, 1, none⟩ (.slice none 0 0) = W4 := ⟨_, rfl⟩
      have hx4 : Blk W4 w.heap.size 61 #[.slice (some ⟨g, 0, none⟩) m m, .slice none 0 0] := by
        rw [← hW4]
        exact (HX2.out.set 0 _).set 1 _
      have ht4 : Turn (fun b => b = w.heap.size) w2 W4 := by
        rw [← hW4]
        exact (Turn.setCell (q := fun b => b = w.heap.size) w2 _ rfl).trans (Turn.setCell _ _ rfl)
      have hfb : FB W4 (.slice (some ⟨g, 0, none⟩) m m) (WM.bytesOf (flatN L)) := ⟨HR.out.slices HX2.out ht4, bytesOf_256 _, fun a n' c' e => by cases e; omega⟩
      rw [hW4]
      exact bodyPost_ret (results_cell (fn := Try.f38) rfl rfl (hx4.loadVar (tt := 61) Try.underlying61 rfl (by kernel_rfl))) rfl ⟨_, rfl, hfb, HB2.out.trans (ht4.below (B := w.heap.size) (fun k hk => by omega) HB2.out.size)⟩
end Go.Proofs.Ytmncoclmgcjjjaa
