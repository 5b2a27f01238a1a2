/-
  Texts NdMS to NdS8, as one.
-/
import Derived.Test.YtfdnlgmgjmbafaaGreatDoorMh19
/-
  node: GetSuper. Written by gen_ndm.py.
-/
namespace Go.Proofs.YtfdnlgmgjmbafaaGreatDoor
open Go.RowKit Go.Shelf Go.Sort
attribute [local go_sem] Oper.semAt_some

set_option maxRecDepth 100000 in
set_option maxHeartbeats 4000000 in
theorem getSuper_any (l : List Int) (hl : Line8 l) (w : World) (ht : Tabs w) :
    Calls Tryz.prog 27 #[.agg (lnA l)] w fun e w' => e = .returned (.tuple #[.agg ((getSp superSpecs l ndZeroS).getD ndZeroS), .int .i64 (getErr (getSp superSpecs l ndZeroS))]) ∧ GoodI 2 ((getSp superSpecs l ndZeroS).getD ndZeroS) ∧ Below w.heap.size w w' := by
  obtain ⟨W1, hW1⟩ : ∃ W1, ((w.alloc (.cells (lnA l) 31)).alloc (.cells ndZeroS 23)).drew = W1 := ⟨_, rfl⟩
  have hb1 : Below w.heap.size w W1 := by rw [← hW1]; exact (by repeat (first | exact Below.refl _ _ | assumption | refine Below.drew ?_ | refine below_drewN ?_ _ | refine Below.alloc ?_ (by (try simp) <;> omega) _ | refine Below.setCell ?_ (by (try simp) <;> omega) _ | refine Below.trans ?_ (Below.mono (by assumption) (by (try simp) <;> omega))))
  have hx1 : Blk W1 w.heap.size 31 (lnA l) := by rw [← hW1]; exact (Blk.new w _ _).below (n := w.heap.size + 1) (by refine Below.drew ?_; exact (Below.refl _ _).alloc (by simp) _) (Nat.lt_succ_self _)
  have hr1 : Blk W1 (w.heap.size + 1) 23 #[.int .i64 0, .int .i64 0] := by
    rw [← hW1]
    have h := Blk.new (w.alloc (.cells (lnA l) 31)) 23 ndZeroS
    rwa [World.size_alloc] at h
  have HW1 : Hid (((w.alloc (.cells (lnA l) 31)).alloc (.cells #[.int .i64 0, .int .i64 0] 23)).drew = W1) := show _ = _ from hW1
  have HLN := Lib.hid (fun V (_ht : Tabs V) => superLine_any V)
  have HT1 : Hid (Tabs W1) := show Tabs _ from ht.below hb1 ht.room
  have hl8 := hl.1
  have HLD := Lib.hid (fun V (h : Blk V w.heap.size 31 (lnA l)) => h.load (tt := 31) Tryz.underlying31 rfl (by rw [lnA_size, hl8]; kernel_rfl))
  have HX1 := Lib.hid hx1
  have HR1 := Lib.hid hr1
  have HB1 := Lib.hid hb1
  have HL := Lib.hid hl
  have hR : (fun V : World => (Instr.loadAt 31 (.pointer (some ⟨w.heap.size, 0, none⟩))).run Tryz.prog V = .ok (.agg (lnA l)) V) W1 := HLD.out _ hx1
  clear hW1 hb1 hx1 hr1 ht hl hl8
  go_enter Tryz.func27, Tryz.ntmps27
  go_wp2_with fail
  refine wp_region_M 7 (fun V : World => (Instr.loadAt 31 (.pointer (some ⟨w.heap.size, 0, none⟩))).run Tryz.prog V = .ok (.agg (lnA l)) V) (by kernel_rfl) ?_
  rw [HW1.out]
  refine wpAnyM_take2 8 (i := 1) (v := _) rfl (by kernel_rfl) (by kernel_rfl) (fun _ _ _ h => h) (Or.inl ⟨by rfl, fun w hSw => nd_exec_load rfl rfl hSw⟩) hR ?_
  (try simp only [put_laws])
  refine wpAnyM_two (i := 0) (j := 6) rfl rfl (by kernel_rfl) (fun K hK => ?_) (fun K hK => ?_)
  · rw [if_pos (by rfl)]
    (try simp only [elem_laws])
    go_simp
    refine (HLN.out W1 HT1.out).mono ?_
    rintro e W2 ⟨v, ps, rfl, hb, hk, hp, hs⟩
    have hx2 := HX1.out.below hb HX1.out.lt
    have HR2 := Lib.hid (HR1.out.below hb HR1.out.lt)
    have HB2 := Lib.hid (HB1.out.trans (hb.mono HB1.out.size))
    have HT2 : Hid (Tabs W2) := show Tabs _ from HT1.out.below hb HT1.out.room
    have hR2 : (fun V : World => (Instr.loadAt 31 (.pointer (some ⟨w.heap.size, 0, none⟩))).run Tryz.prog V = .ok (.agg (lnA l)) V) W2 := HLD.out _ hx2
    have HX2 := Lib.hid hx2
    refine hK _ _ (fun _ => hR2) ?_
    clear hK K hR
    have hR := hR2
    clear hR2 hx2
    have HPK := Lib.hid (fun V (hV : Below W2.heap.size W2 V) => getK_S l HL.out goodI_zero2 (fun x h => ⟨h.1, goodI_one h⟩) V (hk.below hV) (fun p hm => (hp p hm).below hV))
    have hgg : GoodI 2 ((getSp superSpecs l ndZeroS).getD ndZeroS) := by
      unfold getSp
      rw [← hs, ← rd_sp]
      cases hr : rdAll l ps ndZeroS with
      | none => exact goodI_zero2
      | some y =>
        have hy := rdAll_good HL.out ps ndZeroS y hp goodI_zero2 hr
        simp only [Option.bind_some]
        split
        · exact hy
        · exact goodI_zero2
    have hgs : getM ps l ndZeroS = getSp superSpecs l ndZeroS := by rw [get_sp, hs]
    rw [hgs] at HPK
    clear hb hk hp hs hgs
    obtain ⟨O, hO⟩ : ∃ O, (getSp superSpecs l ndZeroS).getD ndZeroS = O := ⟨_, rfl⟩
    obtain ⟨E, hE⟩ : ∃ E, getErr (getSp superSpecs l ndZeroS) = E := ⟨_, rfl⟩
    have HO := Lib.hid hO
    have HE := Lib.hid hE
    rw [hO, hE] at HPK
    rw [hO] at hgg
    clear hO hE
    obtain ⟨p, hp0, hpr⟩ := hgg.2 0 (by decide)
    obtain ⟨q, hq0, hqr⟩ := hgg.2 1 (by decide)
    have hOe : O = #[.int .i64 p, .int .i64 q] := by
      refine Array.ext (by rw [hgg.1]; rfl) fun i h1 h2 => ?_
      rw [hgg.1] at h1
      have hi : i = 0 ∨ i = 1 := by omega
      rcases hi with rfl | rfl
      · rw [Array.getElem?_eq_getElem (by omega)] at hp0
        exact Option.some.inj hp0
      · rw [Array.getElem?_eq_getElem (by omega)] at hq0
        exact Option.some.inj hq0
    have HG := Lib.hid hgg
    subst hOe
    clear hp0 hq0 hpr hqr hgg
    (try simp only [put_laws])
    refine wpAnyM_two (i := 2) (j := 6) rfl rfl (by kernel_rfl) (fun K hK => ?_) (fun K hK => ?_)
    · rw [if_pos (by rfl)]
      (try simp only [elem_laws])
      go_simp
      refine (HPK.out W2 (Below.refl _ _)).mono ?_
      rintro e W3 ⟨rfl, hb⟩
      have hx3 := HX2.out.below hb HX2.out.lt
      have HR3 := Lib.hid (HR2.out.below hb HR2.out.lt)
      have HB3 := Lib.hid (HB2.out.trans (hb.mono HB2.out.size))
      have HT3 : Hid (Tabs W3) := show Tabs _ from HT2.out.below hb HT2.out.room
      have hR3 : (fun V : World => (Instr.loadAt 31 (.pointer (some ⟨w.heap.size, 0, none⟩))).run Tryz.prog V = .ok (.agg (lnA l)) V) W3 := HLD.out _ hx3
      have HX3 := Lib.hid hx3
      refine hK _ _ (fun _ => hR3) ?_
      clear hK K hR
      have hR := hR3
      clear hR3 hx3
      clear hb
      (try simp only [put_laws])
      (refine wpAnyM_take2 8 (i := 3) (v := ?_) rfl (by kernel_rfl) (by kernel_rfl) (fun _ _ _ h => h) (Or.inl ⟨by rfl, ?_⟩) hR ?_; rotate_left; (focus (intro w hSw; (try dsimp only at hSw); go_simp; (try with_reducible rfl))); (try simp only [put_laws])); (refine wpAnyM_take2 8 (i := 4) (v := ?_) rfl (by kernel_rfl) (by kernel_rfl) (fun _ _ _ h => h) (Or.inl ⟨by rfl, ?_⟩) hR ?_; rotate_left; (focus (intro w hSw; (try dsimp only at hSw); go_simp; (try with_reducible rfl))); (try simp only [put_laws]))
      (refine wpAnyM_pure (i := 5) (v := ?_) rfl (by kernel_rfl) (by kernel_rfl) (fun _ _ _ h => h) (Or.inl ⟨by rfl, ?_⟩) hR ?_; rotate_left; (focus (intro w; go_simp; (try with_reducible rfl))); (try simp only [put_laws]))
      (refine wpAnyM_one (i := 6) rfl (by kernel_rfl) (fun K hK => ?_); rw [if_pos (by rfl)]; (try simp only [elem_laws]))
      go_simp
      obtain ⟨W4, hWn⟩ : ∃ W, W3.alloc (.cells #[.int .i64 0, .int .i64 0] 91) = W := ⟨_, rfl⟩
      have hb : Below W3.heap.size W3 W4 := by rw [← hWn]; exact (Below.refl _ _).alloc (Nat.le_refl _) _
      have HC4 : Hid (Blk W4 W3.heap.size 91 #[.int .i64 0, .int .i64 0]) := show Blk _ _ _ _ by rw [← hWn]; exact Blk.new _ _ _
      have hcl := HB3.out.size
      have hcz := HR3.out.lt
      have HCN : Hid (w.heap.size + 1 < W3.heap.size) := show _ < _ from hcz
      clear hcl hcz
      have hx4 := HX3.out.below hb HX3.out.lt
      have HR4 := Lib.hid (HR3.out.below hb HR3.out.lt)
      have HB4 := Lib.hid (HB3.out.trans (hb.mono HB3.out.size))
      have HT4 : Hid (Tabs W4) := show Tabs _ from HT3.out.below hb HT3.out.room
      have hR4 : (fun V : World => (Instr.loadAt 31 (.pointer (some ⟨w.heap.size, 0, none⟩))).run Tryz.prog V = .ok (.agg (lnA l)) V) W4 := HLD.out _ hx4
      have HX4 := Lib.hid hx4
      rw [hWn]
      clear hWn
      refine hK _ _ (fun _ => hR4) ?_
      clear hK K hR
      have hR := hR4
      clear hR4 hx4
      clear hb
      (try simp only [put_laws])
      (refine wpAnyM_one (i := 7) rfl (by kernel_rfl) (fun K hK => ?_); rw [if_pos (by rfl)]; (try simp only [elem_laws]))
      clear hR
      obtain ⟨W9, hst, hc9, ht9⟩ := HC4.out.store (P := Tryz.prog) (tt := 91) (Y := #[.int .i64 p, .int .i64 q]) (by kernel_rfl) rfl (by simp [Value.oneCell'])
      refine nd_store_eq 91 _ _ rfl _ _ rfl rfl hst ?_
      refine hK _ _ (fun h => by cases h) ?_
      clear hK K
      (try simp only [put_laws])
      (refine wpAnyM_one (i := 8) rfl (by kernel_rfl) (fun K hK => ?_); rw [if_pos (by rfl)]; (try simp only [elem_laws]))
      go_simp
      refine hK _ _ (fun h => by cases h) ?_
      clear hK K
      (try simp only [put_laws])
      refine wpAnyM_done (by kernel_rfl) ?_ _
      have hcn := HCN.out
      have hr9 : Blk W9 (w.heap.size + 1) 23 #[.int .i64 0, .int .i64 0] := HR4.out.turn ht9 (by omega)
      have HT9 : Hid (Below w.heap.size w W9) := show Below _ _ _ from HB4.out.trans (ht9.below (B := w.heap.size) (fun k h => by omega) HB4.out.size)
      have d0 := hc9.cell (j := 0) rfl
      have d1 := hc9.cell (j := 1) rfl
      have r0 := hr9.cell (j := 0) rfl
      have r1 := hr9.cell (j := 1) rfl
      have f0 := hr9.frozen 0
      have f1 := hr9.frozen 1
      have l9 := hr9.lt
      have HR9 := Lib.hid hr9
      clear hst hc9 ht9 hr9 hcn
      go_wp2_with fail
      have hr10 := (HR9.out.set 0 (.int .i64 p)).set 1 (.int .i64 q)
      refine bodyPost_ret (results_cell_tmp (fn := Tryz.f27) rfl rfl (Blk.loadVar hr10 (tt := 23) Tryz.underlying23 rfl (by kernel_rfl)) rfl) rfl ⟨by rw [HO.out, HE.out]; rfl, by rw [HO.out]; exact HG.out, ?_⟩
      exact (HT9.out.setCell (p := ⟨w.heap.size + 1, 0, none⟩) (Nat.le_succ _) _).setCell (p := ⟨w.heap.size + 1, 1, none⟩) (Nat.le_succ _) _
    · rw [if_pos (by rfl)]
      (try simp only [elem_laws])
      go_simp
      obtain ⟨W3, hWn⟩ : ∃ W, W2.alloc (.cells #[.int .i64 0, .int .i64 0] 91) = W := ⟨_, rfl⟩
      have hb : Below W2.heap.size W2 W3 := by rw [← hWn]; exact (Below.refl _ _).alloc (Nat.le_refl _) _
      have HC3 : Hid (Blk W3 W2.heap.size 91 #[.int .i64 0, .int .i64 0]) := show Blk _ _ _ _ by rw [← hWn]; exact Blk.new _ _ _
      have hcl := HB2.out.size
      have hcz := HR2.out.lt
      have HCN : Hid (w.heap.size + 1 < W2.heap.size) := show _ < _ from hcz
      clear hcl hcz
      have hx3 := HX2.out.below hb HX2.out.lt
      have HR3 := Lib.hid (HR2.out.below hb HR2.out.lt)
      have HB3 := Lib.hid (HB2.out.trans (hb.mono HB2.out.size))
      have HT3 : Hid (Tabs W3) := show Tabs _ from HT2.out.below hb HT2.out.room
      have hR3 : (fun V : World => (Instr.loadAt 31 (.pointer (some ⟨w.heap.size, 0, none⟩))).run Tryz.prog V = .ok (.agg (lnA l)) V) W3 := HLD.out _ hx3
      have HX3 := Lib.hid hx3
      have HVK : Hid (Below W2.heap.size W2 W3) := show Below _ _ _ from hb
      rw [hWn]
      clear hWn
      refine hK _ _ (fun _ => hR3) ?_
      clear hK K hR
      have hR := hR3
      clear hR3 hx3
      clear hb
      (try simp only [put_laws])
      (refine wpAnyM_one (i := 2) rfl (by kernel_rfl) (fun K hK => ?_); rw [if_pos (by rfl)]; (try simp only [elem_laws]))
      go_simp
      refine (HPK.out W3 HVK.out).mono ?_
      rintro e W4 ⟨rfl, hb⟩
      have hx4 := HX3.out.below hb HX3.out.lt
      have HR4 := Lib.hid (HR3.out.below hb HR3.out.lt)
      have HC4 := Lib.hid (HC3.out.below hb HC3.out.lt)
      have HB4 := Lib.hid (HB3.out.trans (hb.mono HB3.out.size))
      have HT4 : Hid (Tabs W4) := show Tabs _ from HT3.out.below hb HT3.out.room
      have hR4 : (fun V : World => (Instr.loadAt 31 (.pointer (some ⟨w.heap.size, 0, none⟩))).run Tryz.prog V = .ok (.agg (lnA l)) V) W4 := HLD.out _ hx4
      have HX4 := Lib.hid hx4
      refine hK _ _ (fun _ => hR4) ?_
      clear hK K hR
      have hR := hR4
      clear hR4 hx4
      clear hb
      (try simp only [put_laws])
      (refine wpAnyM_take2 8 (i := 3) (v := ?_) rfl (by kernel_rfl) (by kernel_rfl) (fun _ _ _ h => h) (Or.inl ⟨by rfl, ?_⟩) hR ?_; rotate_left; (focus (intro w hSw; (try dsimp only at hSw); go_simp; (try with_reducible rfl))); (try simp only [put_laws])); (refine wpAnyM_take2 8 (i := 4) (v := ?_) rfl (by kernel_rfl) (by kernel_rfl) (fun _ _ _ h => h) (Or.inl ⟨by rfl, ?_⟩) hR ?_; rotate_left; (focus (intro w hSw; (try dsimp only at hSw); go_simp; (try with_reducible rfl))); (try simp only [put_laws]))
      (refine wpAnyM_pure (i := 5) (v := ?_) rfl (by kernel_rfl) (by kernel_rfl) (fun _ _ _ h => h) (Or.inl ⟨by rfl, ?_⟩) hR ?_; rotate_left; (focus (intro w; go_simp; (try with_reducible rfl))); (try simp only [put_laws]))
      (refine wpAnyM_one (i := 7) rfl (by kernel_rfl) (fun K hK => ?_); rw [if_pos (by rfl)]; (try simp only [elem_laws]))
      clear hR
      obtain ⟨W9, hst, hc9, ht9⟩ := HC4.out.store (P := Tryz.prog) (tt := 91) (Y := #[.int .i64 p, .int .i64 q]) (by kernel_rfl) rfl (by simp [Value.oneCell'])
      refine nd_store_eq 91 _ _ rfl _ _ rfl rfl hst ?_
      refine hK _ _ (fun h => by cases h) ?_
      clear hK K
      (try simp only [put_laws])
      (refine wpAnyM_one (i := 8) rfl (by kernel_rfl) (fun K hK => ?_); rw [if_pos (by rfl)]; (try simp only [elem_laws]))
      go_simp
      refine hK _ _ (fun h => by cases h) ?_
      clear hK K
      (try simp only [put_laws])
      refine wpAnyM_done (by kernel_rfl) ?_ _
      have hcn := HCN.out
      have hr9 : Blk W9 (w.heap.size + 1) 23 #[.int .i64 0, .int .i64 0] := HR4.out.turn ht9 (by omega)
      have HT9 : Hid (Below w.heap.size w W9) := show Below _ _ _ from HB4.out.trans (ht9.below (B := w.heap.size) (fun k h => by omega) HB4.out.size)
      have d0 := hc9.cell (j := 0) rfl
      have d1 := hc9.cell (j := 1) rfl
      have r0 := hr9.cell (j := 0) rfl
      have r1 := hr9.cell (j := 1) rfl
      have f0 := hr9.frozen 0
      have f1 := hr9.frozen 1
      have l9 := hr9.lt
      have HR9 := Lib.hid hr9
      clear hst hc9 ht9 hr9 hcn
      go_wp2_with fail
      have hr10 := (HR9.out.set 0 (.int .i64 p)).set 1 (.int .i64 q)
      refine bodyPost_ret (results_cell_tmp (fn := Tryz.f27) rfl rfl (Blk.loadVar hr10 (tt := 23) Tryz.underlying23 rfl (by kernel_rfl)) rfl) rfl ⟨by rw [HO.out, HE.out]; rfl, by rw [HO.out]; exact HG.out, ?_⟩
      exact (HT9.out.setCell (p := ⟨w.heap.size + 1, 0, none⟩) (Nat.le_succ _) _).setCell (p := ⟨w.heap.size + 1, 1, none⟩) (Nat.le_succ _) _
  · rw [if_pos (by rfl)]
    (try simp only [elem_laws])
    go_simp
    obtain ⟨W2, hWn⟩ : ∃ W, W1.alloc (.cells #[.int .i64 0, .int .i64 0] 91) = W := ⟨_, rfl⟩
    have hb : Below W1.heap.size W1 W2 := by rw [← hWn]; exact (Below.refl _ _).alloc (Nat.le_refl _) _
    have HC2 : Hid (Blk W2 W1.heap.size 91 #[.int .i64 0, .int .i64 0]) := show Blk _ _ _ _ by rw [← hWn]; exact Blk.new _ _ _
    have hcl := HB1.out.size
    have hcz := HR1.out.lt
    have HCN : Hid (w.heap.size + 1 < W1.heap.size) := show _ < _ from hcz
    clear hcl hcz
    have hx2 := HX1.out.below hb HX1.out.lt
    have HR2 := Lib.hid (HR1.out.below hb HR1.out.lt)
    have HB2 := Lib.hid (HB1.out.trans (hb.mono HB1.out.size))
    have HT2 : Hid (Tabs W2) := show Tabs _ from HT1.out.below hb HT1.out.room
    have hR2 : (fun V : World => (Instr.loadAt 31 (.pointer (some ⟨w.heap.size, 0, none⟩))).run Tryz.prog V = .ok (.agg (lnA l)) V) W2 := HLD.out _ hx2
    have HX2 := Lib.hid hx2
    rw [hWn]
    clear hWn
    refine hK _ _ (fun _ => hR2) ?_
    clear hK K hR
    have hR := hR2
    clear hR2 hx2
    clear hb
    (try simp only [put_laws])
    (refine wpAnyM_one (i := 0) rfl (by kernel_rfl) (fun K hK => ?_); rw [if_pos (by rfl)]; (try simp only [elem_laws]))
    go_simp
    refine (HLN.out W2 HT2.out).mono ?_
    rintro e W3 ⟨v, ps, rfl, hb, hk, hp, hs⟩
    have hx3 := HX2.out.below hb HX2.out.lt
    have HR3 := Lib.hid (HR2.out.below hb HR2.out.lt)
    have HC3 := Lib.hid (HC2.out.below hb HC2.out.lt)
    have HB3 := Lib.hid (HB2.out.trans (hb.mono HB2.out.size))
    have HT3 : Hid (Tabs W3) := show Tabs _ from HT2.out.below hb HT2.out.room
    have hR3 : (fun V : World => (Instr.loadAt 31 (.pointer (some ⟨w.heap.size, 0, none⟩))).run Tryz.prog V = .ok (.agg (lnA l)) V) W3 := HLD.out _ hx3
    have HX3 := Lib.hid hx3
    refine hK _ _ (fun _ => hR3) ?_
    clear hK K hR
    have hR := hR3
    clear hR3 hx3
    have HPK := Lib.hid (fun V (hV : Below W3.heap.size W3 V) => getK_S l HL.out goodI_zero2 (fun x h => ⟨h.1, goodI_one h⟩) V (hk.below hV) (fun p hm => (hp p hm).below hV))
    have hgg : GoodI 2 ((getSp superSpecs l ndZeroS).getD ndZeroS) := by
      unfold getSp
      rw [← hs, ← rd_sp]
      cases hr : rdAll l ps ndZeroS with
      | none => exact goodI_zero2
      | some y =>
        have hy := rdAll_good HL.out ps ndZeroS y hp goodI_zero2 hr
        simp only [Option.bind_some]
        split
        · exact hy
        · exact goodI_zero2
    have hgs : getM ps l ndZeroS = getSp superSpecs l ndZeroS := by rw [get_sp, hs]
    rw [hgs] at HPK
    clear hb hk hp hs hgs
    obtain ⟨O, hO⟩ : ∃ O, (getSp superSpecs l ndZeroS).getD ndZeroS = O := ⟨_, rfl⟩
    obtain ⟨E, hE⟩ : ∃ E, getErr (getSp superSpecs l ndZeroS) = E := ⟨_, rfl⟩
    have HO := Lib.hid hO
    have HE := Lib.hid hE
    rw [hO, hE] at HPK
    rw [hO] at hgg
    clear hO hE
    obtain ⟨p, hp0, hpr⟩ := hgg.2 0 (by decide)
    obtain ⟨q, hq0, hqr⟩ := hgg.2 1 (by decide)
    have hOe : O = #[.int .i64 p, .int .i64 q] := by
      refine Array.ext (by rw [hgg.1]; rfl) fun i h1 h2 => ?_
      rw [hgg.1] at h1
      have hi : i = 0 ∨ i = 1 := by omega
      rcases hi with rfl | rfl
      · rw [Array.getElem?_eq_getElem (by omega)] at hp0
        exact Option.some.inj hp0
      · rw [Array.getElem?_eq_getElem (by omega)] at hq0
        exact Option.some.inj hq0
    have HG := Lib.hid hgg
    subst hOe
    clear hp0 hq0 hpr hqr hgg
    (try simp only [put_laws])
    (refine wpAnyM_one (i := 2) rfl (by kernel_rfl) (fun K hK => ?_); rw [if_pos (by rfl)]; (try simp only [elem_laws]))
    go_simp
    refine (HPK.out W3 (Below.refl _ _)).mono ?_
    rintro e W4 ⟨rfl, hb⟩
    have hx4 := HX3.out.below hb HX3.out.lt
    have HR4 := Lib.hid (HR3.out.below hb HR3.out.lt)
    have HC4 := Lib.hid (HC3.out.below hb HC3.out.lt)
    have HB4 := Lib.hid (HB3.out.trans (hb.mono HB3.out.size))
    have HT4 : Hid (Tabs W4) := show Tabs _ from HT3.out.below hb HT3.out.room
    have hR4 : (fun V : World => (Instr.loadAt 31 (.pointer (some ⟨w.heap.size, 0, none⟩))).run Tryz.prog V = .ok (.agg (lnA l)) V) W4 := HLD.out _ hx4
    have HX4 := Lib.hid hx4
    refine hK _ _ (fun _ => hR4) ?_
    clear hK K hR
    have hR := hR4
    clear hR4 hx4
    clear hb
    (try simp only [put_laws])
    (refine wpAnyM_take2 8 (i := 3) (v := ?_) rfl (by kernel_rfl) (by kernel_rfl) (fun _ _ _ h => h) (Or.inl ⟨by rfl, ?_⟩) hR ?_; rotate_left; (focus (intro w hSw; (try dsimp only at hSw); go_simp; (try with_reducible rfl))); (try simp only [put_laws])); (refine wpAnyM_take2 8 (i := 4) (v := ?_) rfl (by kernel_rfl) (by kernel_rfl) (fun _ _ _ h => h) (Or.inl ⟨by rfl, ?_⟩) hR ?_; rotate_left; (focus (intro w hSw; (try dsimp only at hSw); go_simp; (try with_reducible rfl))); (try simp only [put_laws]))
    (refine wpAnyM_pure (i := 5) (v := ?_) rfl (by kernel_rfl) (by kernel_rfl) (fun _ _ _ h => h) (Or.inl ⟨by rfl, ?_⟩) hR ?_; rotate_left; (focus (intro w; go_simp; (try with_reducible rfl))); (try simp only [put_laws]))
    (refine wpAnyM_one (i := 7) rfl (by kernel_rfl) (fun K hK => ?_); rw [if_pos (by rfl)]; (try simp only [elem_laws]))
    clear hR
    obtain ⟨W9, hst, hc9, ht9⟩ := HC4.out.store (P := Tryz.prog) (tt := 91) (Y := #[.int .i64 p, .int .i64 q]) (by kernel_rfl) rfl (by simp [Value.oneCell'])
    refine nd_store_eq 91 _ _ rfl _ _ rfl rfl hst ?_
    refine hK _ _ (fun h => by cases h) ?_
    clear hK K
    (try simp only [put_laws])
    (refine wpAnyM_one (i := 8) rfl (by kernel_rfl) (fun K hK => ?_); rw [if_pos (by rfl)]; (try simp only [elem_laws]))
    go_simp
    refine hK _ _ (fun h => by cases h) ?_
    clear hK K
    (try simp only [put_laws])
    refine wpAnyM_done (by kernel_rfl) ?_ _
    have hcn := HCN.out
    have hr9 : Blk W9 (w.heap.size + 1) 23 #[.int .i64 0, .int .i64 0] := HR4.out.turn ht9 (by omega)
    have HT9 : Hid (Below w.heap.size w W9) := show Below _ _ _ from HB4.out.trans (ht9.below (B := w.heap.size) (fun k h => by omega) HB4.out.size)
    have d0 := hc9.cell (j := 0) rfl
    have d1 := hc9.cell (j := 1) rfl
    have r0 := hr9.cell (j := 0) rfl
    have r1 := hr9.cell (j := 1) rfl
    have f0 := hr9.frozen 0
    have f1 := hr9.frozen 1
    have l9 := hr9.lt
    have HR9 := Lib.hid hr9
    clear hst hc9 ht9 hr9 hcn
    go_wp2_with fail
    have hr10 := (HR9.out.set 0 (.int .i64 p)).set 1 (.int .i64 q)
    refine bodyPost_ret (results_cell_tmp (fn := Tryz.f27) rfl rfl (Blk.loadVar hr10 (tt := 23) Tryz.underlying23 rfl (by kernel_rfl)) rfl) rfl ⟨by rw [HO.out, HE.out]; rfl, by rw [HO.out]; exact HG.out, ?_⟩
    exact (HT9.out.setCell (p := ⟨w.heap.size + 1, 0, none⟩) (Nat.le_succ _) _).setCell (p := ⟨w.heap.size + 1, 1, none⟩) (Nat.le_succ _) _
end Go.Proofs.YtfdnlgmgjmbafaaGreatDoor

/-
  node: GetTable. Written by gen_nd.py.
-/
namespace Go.Proofs.YtfdnlgmgjmbafaaGreatDoor
open Go.RowKit Go.Shelf Go.Sort
attribute [local go_sem] Oper.semAt_some

set_option maxRecDepth 100000 in
set_option maxHeartbeats 4000000 in
theorem getTable_any (l : List Int) (hl : Line8 l) (w : World) (ht : Tabs w) :
    Calls Tryz.prog 30 #[.agg (lnA l)] w fun e w' => e = .returned (.tuple #[.agg ((getSp tableSpecs l ndZeroT).getD ndZeroT), .int .i64 (getErr (getSp tableSpecs l ndZeroT))]) ∧ (GoodI 7) ((getSp tableSpecs l ndZeroT).getD ndZeroT) ∧ Below w.heap.size w w' := by
  obtain ⟨W1, hW1⟩ : ∃ W1, ((w.alloc (.cells (lnA l) 31)).alloc (.cells ndZeroT 29)).drew = W1 := ⟨_, rfl⟩
  have hb1 : Below w.heap.size w W1 := by rw [← hW1]; exact (by repeat (first | exact Below.refl _ _ | assumption | refine Below.drew ?_ | refine below_drewN ?_ _ | refine Below.alloc ?_ (by (try simp) <;> omega) _ | refine Below.setCell ?_ (by (try simp) <;> omega) _ | refine Below.trans ?_ (Below.mono (by assumption) (by (try simp) <;> omega))))
  have hx1 : Blk W1 w.heap.size 31 (lnA l) := by rw [← hW1]; exact (Blk.new w _ _).below (n := w.heap.size + 1) (by refine Below.drew ?_; exact (Below.refl _ _).alloc (by simp) _) (Nat.lt_succ_self _)
  have hr1 : Blk W1 (w.heap.size + 1) 29 ndZeroT := by
    rw [← hW1]
    have h := Blk.new (w.alloc (.cells (lnA l) 31)) 29 ndZeroT
    rwa [World.size_alloc] at h
  have HW1 : Hid (((w.alloc (.cells (lnA l) 31)).alloc (.cells #[.int .i64 0, .int .i64 0, .int .i64 0, .int .i64 0, .int .i64 0, .int .i64 0, .int .i64 0] 29)).drew = W1) := show _ = _ from hW1
  have HLN := Lib.hid (fun V (ht : Tabs V) => tableLine_any V)
  have HT1 : Hid (Tabs W1) := show Tabs _ from ht.below hb1 ht.room
  have hl8 := hl.1
  have HLD := Lib.hid (fun V (h : Blk V w.heap.size 31 (lnA l)) => h.load (tt := 31) Tryz.underlying31 rfl (by rw [lnA_size, hl8]; kernel_rfl))
  have HX1 := Lib.hid hx1
  have HR1 := Lib.hid hr1
  have HB1 := Lib.hid hb1
  have HL := Lib.hid hl
  have hR : (fun V : World => (Instr.loadAt 31 (.pointer (some ⟨w.heap.size, 0, none⟩))).run Tryz.prog V = .ok (.agg (lnA l)) V) W1 := HLD.out _ hx1
  clear hW1 hb1 hx1 hr1 ht hl hl8
  go_enter Tryz.func30, Tryz.ntmps30
  go_wp2_with fail
  refine wp_region_M 5 (fun V : World => (Instr.loadAt 31 (.pointer (some ⟨w.heap.size, 0, none⟩))).run Tryz.prog V = .ok (.agg (lnA l)) V) (by kernel_rfl) ?_
  rw [HW1.out]
  refine wpAnyM_take2 8 (i := 1) (v := _) rfl (by kernel_rfl) (by kernel_rfl) (fun _ _ _ h => h) (Or.inl ⟨by rfl, fun w hSw => nd_exec_load rfl rfl hSw⟩) hR ?_
  (try simp only [put_laws])
  (refine wpAnyM_one (i := 0) rfl (by kernel_rfl) (fun K hK => ?_); rw [if_pos (by rfl)]; (try simp only [elem_laws]))
  go_simp
  refine (HLN.out W1 HT1.out).mono ?_
  rintro e w2 ⟨v, ps, rfl, hb2, hk2, hp2, hs2⟩
  have hx2 := HX1.out.below hb2 HX1.out.lt
  have hr2 := HR1.out.below hb2 HR1.out.lt
  have hR2 : (fun V : World => (Instr.loadAt 31 (.pointer (some ⟨w.heap.size, 0, none⟩))).run Tryz.prog V = .ok (.agg (lnA l)) V) w2 := HLD.out _ hx2
  refine hK _ _ (fun _ => hR2) ?_
  clear hK K hR
  have hgz : (GoodI 7) ndZeroT := goodI_zero7
  have HPK := Lib.hid (getK_T l HL.out hgz (fun x h => ⟨h.1, goodI_one h⟩) w2 hk2 hp2)
  have hgg : (GoodI 7) ((getSp tableSpecs l ndZeroT).getD ndZeroT) := by
    unfold getSp
    rw [← hs2, ← rd_sp]
    cases hr : rdAll l ps ndZeroT with
    | none => exact hgz
    | some y =>
      have hy := rdAll_good HL.out ps ndZeroT y hp2 hgz hr
      simp only [Option.bind_some]
      split
      · exact hy
      · exact hgz
  rw [get_sp, hs2] at HPK
  have HG := Lib.hid hgg
  have HX2 := Lib.hid hx2
  have HR2 := Lib.hid hr2
  have HB2 := Lib.hid (HB1.out.trans (hb2.mono HB1.out.size))
  clear hb2 hk2 hp2 hs2 hx2 hr2 hgg hgz
  obtain ⟨O, hO⟩ : ∃ O, (getSp tableSpecs l ndZeroT).getD ndZeroT = O := ⟨_, rfl⟩
  obtain ⟨E, hE⟩ : ∃ E, getErr (getSp tableSpecs l ndZeroT) = E := ⟨_, rfl⟩
  have HO := Lib.hid hO
  have HE := Lib.hid hE
  rw [hO, hE] at HPK
  rw [hO] at HG
  clear hO hE
  (try simp only [put_laws])
  (refine wpAnyM_one (i := 2) rfl (by kernel_rfl) (fun K hK => ?_); rw [if_pos (by rfl)]; (try simp only [elem_laws]))
  go_simp
  refine HPK.out.mono ?_
  rintro e w3 ⟨rfl, hb3⟩
  have hx3 := HX2.out.below hb3 HX2.out.lt
  have hr3 := HR2.out.below hb3 HR2.out.lt
  have hR3 : (fun V : World => (Instr.loadAt 31 (.pointer (some ⟨w.heap.size, 0, none⟩))).run Tryz.prog V = .ok (.agg (lnA l)) V) w3 := HLD.out _ hx3
  refine hK _ _ (fun _ => hR3) ?_
  clear hK K hR2
  have hR := hR3
  clear hR3
  have HR3 := Lib.hid hr3
  have HB3 := Lib.hid (HB2.out.trans (hb3.mono HB2.out.size))
  clear hb3 hx3 hr3
  (try simp only [put_laws])
  (refine wpAnyM_take2 8 (i := 3) (v := ?_) rfl (by kernel_rfl) (by kernel_rfl) (fun _ _ _ h => h) (Or.inl ⟨by rfl, ?_⟩) hR ?_; rotate_left; (focus (intro w hSw; (try dsimp only at hSw); go_simp; (try with_reducible rfl))); (try simp only [put_laws])); (refine wpAnyM_take2 8 (i := 4) (v := ?_) rfl (by kernel_rfl) (by kernel_rfl) (fun _ _ _ h => h) (Or.inl ⟨by rfl, ?_⟩) hR ?_; rotate_left; (focus (intro w hSw; (try dsimp only at hSw); go_simp; (try with_reducible rfl))); (try simp only [put_laws]))
  (refine wpAnyM_last rfl (by kernel_rfl) (fun K hK => ?_); rw [if_pos (by rfl)]; (try simp only [elem_laws]))
  clear hR
  have hos := HG.out.1
  have ho1 : O.all (·.oneCell') = true := by have h := HG.out; exact goodI_one h
  obtain ⟨W4, hst, hr4, ht4⟩ := HR3.out.store (P := Tryz.prog) (tt := 29) (Y := O) (by rw [hos]; kernel_rfl) (by rw [hos]; rfl) ho1
  refine nd_store_eq 29 _ _ rfl _ _ rfl rfl hst ?_
  refine hK _ _ ?_
  clear hK K
  (try simp only [put_laws])
  (refine wpAnyM_one (i := 6) rfl (by kernel_rfl) (fun K hK => ?_); rw [if_pos (by rfl)]; (try simp only [elem_laws]))
  go_simp
  refine hK _ _ (fun h => by cases h) ?_
  clear hK K
  (try simp only [put_laws])
  refine wpAnyM_done (by kernel_rfl) ?_ _
  have HR4 := Lib.hid hr4
  have HT4 := Lib.hid ht4
  have HOS := Lib.hid hos
  clear hst hr4 ht4 ho1 hos
  go_wp2_with fail
  exact bodyPost_ret (results_cell_tmp (fn := Tryz.f30) rfl rfl (HR4.out.loadVar (tt := 29) Tryz.underlying29 rfl (by rw [HOS.out]; kernel_rfl)) rfl) rfl ⟨by rw [HO.out, HE.out]; rfl, by rw [HO.out]; exact HG.out, HB3.out.trans (HT4.out.below (B := w.heap.size) (fun k h => by omega) HB3.out.size)⟩
end Go.Proofs.YtfdnlgmgjmbafaaGreatDoor

/-
  node: GetEntry. Written by gen_nd.py.
-/
namespace Go.Proofs.YtfdnlgmgjmbafaaGreatDoor
open Go.RowKit Go.Shelf Go.Sort
attribute [local go_sem] Oper.semAt_some

set_option maxRecDepth 100000 in
set_option maxHeartbeats 4000000 in
theorem getEntry_any (l : List Int) (hl : Line8 l) (w : World) (ht : Tabs w) :
    Calls Tryz.prog 31 #[.agg (lnA l)] w fun e w' => e = .returned (.tuple #[.agg ((getSp entrySpecs l ndZeroE).getD ndZeroE), .int .i64 (getErr (getSp entrySpecs l ndZeroE))]) ∧ GoodE ((getSp entrySpecs l ndZeroE).getD ndZeroE) ∧ Below w.heap.size w w' := by
  obtain ⟨W1, hW1⟩ : ∃ W1, ((w.alloc (.cells (lnA l) 31)).alloc (.cells ndZeroE 49)).drew = W1 := ⟨_, rfl⟩
  have hb1 : Below w.heap.size w W1 := by rw [← hW1]; exact (by repeat (first | exact Below.refl _ _ | assumption | refine Below.drew ?_ | refine below_drewN ?_ _ | refine Below.alloc ?_ (by (try simp) <;> omega) _ | refine Below.setCell ?_ (by (try simp) <;> omega) _ | refine Below.trans ?_ (Below.mono (by assumption) (by (try simp) <;> omega))))
  have hx1 : Blk W1 w.heap.size 31 (lnA l) := by rw [← hW1]; exact (Blk.new w _ _).below (n := w.heap.size + 1) (by refine Below.drew ?_; exact (Below.refl _ _).alloc (by simp) _) (Nat.lt_succ_self _)
  have hr1 : Blk W1 (w.heap.size + 1) 49 ndZeroE := by
    rw [← hW1]
    have h := Blk.new (w.alloc (.cells (lnA l) 31)) 49 ndZeroE
    rwa [World.size_alloc] at h
  have HW1 : Hid (((w.alloc (.cells (lnA l) 31)).alloc (.cells #[.int .i64 0, .int .i64 0, encStr []] 49)).drew = W1) := show _ = _ from hW1
  have HLN := Lib.hid (fun V (ht : Tabs V) => entryLine_any V)
  have HT1 : Hid (Tabs W1) := show Tabs _ from ht.below hb1 ht.room
  have hl8 := hl.1
  have HLD := Lib.hid (fun V (h : Blk V w.heap.size 31 (lnA l)) => h.load (tt := 31) Tryz.underlying31 rfl (by rw [lnA_size, hl8]; kernel_rfl))
  have HX1 := Lib.hid hx1
  have HR1 := Lib.hid hr1
  have HB1 := Lib.hid hb1
  have HL := Lib.hid hl
  have hR : (fun V : World => (Instr.loadAt 31 (.pointer (some ⟨w.heap.size, 0, none⟩))).run Tryz.prog V = .ok (.agg (lnA l)) V) W1 := HLD.out _ hx1
  clear hW1 hb1 hx1 hr1 ht hl hl8
  go_enter Tryz.func31, Tryz.ntmps31
  go_wp2_with fail
  refine wp_region_M 5 (fun V : World => (Instr.loadAt 31 (.pointer (some ⟨w.heap.size, 0, none⟩))).run Tryz.prog V = .ok (.agg (lnA l)) V) (by kernel_rfl) ?_
  rw [HW1.out]
  refine wpAnyM_take2 8 (i := 1) (v := _) rfl (by kernel_rfl) (by kernel_rfl) (fun _ _ _ h => h) (Or.inl ⟨by rfl, fun w hSw => nd_exec_load rfl rfl hSw⟩) hR ?_
  (try simp only [put_laws])
  (refine wpAnyM_one (i := 0) rfl (by kernel_rfl) (fun K hK => ?_); rw [if_pos (by rfl)]; (try simp only [elem_laws]))
  go_simp
  refine (HLN.out W1 HT1.out).mono ?_
  rintro e w2 ⟨v, ps, rfl, hb2, hk2, hp2, hs2⟩
  have hx2 := HX1.out.below hb2 HX1.out.lt
  have hr2 := HR1.out.below hb2 HR1.out.lt
  have hR2 : (fun V : World => (Instr.loadAt 31 (.pointer (some ⟨w.heap.size, 0, none⟩))).run Tryz.prog V = .ok (.agg (lnA l)) V) w2 := HLD.out _ hx2
  refine hK _ _ (fun _ => hR2) ?_
  clear hK K hR
  have hgz : GoodE ndZeroE := goodE_zero
  have HPK := Lib.hid (getK_E l HL.out hgz (fun x h => ⟨h.1, goodE_one h⟩) w2 hk2 hp2)
  have hgg : GoodE ((getSp entrySpecs l ndZeroE).getD ndZeroE) := by
    unfold getSp
    rw [← hs2, ← rd_sp]
    cases hr : rdAll l ps ndZeroE with
    | none => exact hgz
    | some y =>
      have hy := rdAll_good HL.out ps ndZeroE y hp2 hgz hr
      simp only [Option.bind_some]
      split
      · exact hy
      · exact hgz
  rw [get_sp, hs2] at HPK
  have HG := Lib.hid hgg
  have HX2 := Lib.hid hx2
  have HR2 := Lib.hid hr2
  have HB2 := Lib.hid (HB1.out.trans (hb2.mono HB1.out.size))
  clear hb2 hk2 hp2 hs2 hx2 hr2 hgg hgz
  obtain ⟨O, hO⟩ : ∃ O, (getSp entrySpecs l ndZeroE).getD ndZeroE = O := ⟨_, rfl⟩
  obtain ⟨E, hE⟩ : ∃ E, getErr (getSp entrySpecs l ndZeroE) = E := ⟨_, rfl⟩
  have HO := Lib.hid hO
  have HE := Lib.hid hE
  rw [hO, hE] at HPK
  rw [hO] at HG
  clear hO hE
  (try simp only [put_laws])
  (refine wpAnyM_one (i := 2) rfl (by kernel_rfl) (fun K hK => ?_); rw [if_pos (by rfl)]; (try simp only [elem_laws]))
  go_simp
  refine HPK.out.mono ?_
  rintro e w3 ⟨rfl, hb3⟩
  have hx3 := HX2.out.below hb3 HX2.out.lt
  have hr3 := HR2.out.below hb3 HR2.out.lt
  have hR3 : (fun V : World => (Instr.loadAt 31 (.pointer (some ⟨w.heap.size, 0, none⟩))).run Tryz.prog V = .ok (.agg (lnA l)) V) w3 := HLD.out _ hx3
  refine hK _ _ (fun _ => hR3) ?_
  clear hK K hR2
  have hR := hR3
  clear hR3
  have HR3 := Lib.hid hr3
  have HB3 := Lib.hid (HB2.out.trans (hb3.mono HB2.out.size))
  clear hb3 hx3 hr3
  (try simp only [put_laws])
  (refine wpAnyM_take2 8 (i := 3) (v := ?_) rfl (by kernel_rfl) (by kernel_rfl) (fun _ _ _ h => h) (Or.inl ⟨by rfl, ?_⟩) hR ?_; rotate_left; (focus (intro w hSw; (try dsimp only at hSw); go_simp; (try with_reducible rfl))); (try simp only [put_laws])); (refine wpAnyM_take2 8 (i := 4) (v := ?_) rfl (by kernel_rfl) (by kernel_rfl) (fun _ _ _ h => h) (Or.inl ⟨by rfl, ?_⟩) hR ?_; rotate_left; (focus (intro w hSw; (try dsimp only at hSw); go_simp; (try with_reducible rfl))); (try simp only [put_laws]))
  (refine wpAnyM_last rfl (by kernel_rfl) (fun K hK => ?_); rw [if_pos (by rfl)]; (try simp only [elem_laws]))
  clear hR
  have hos := HG.out.1
  have ho1 : O.all (·.oneCell') = true := by have h := HG.out; exact goodE_one h
  obtain ⟨W4, hst, hr4, ht4⟩ := HR3.out.store (P := Tryz.prog) (tt := 49) (Y := O) (by rw [hos]; kernel_rfl) (by rw [hos]; rfl) ho1
  refine nd_store_eq 49 _ _ rfl _ _ rfl rfl hst ?_
  refine hK _ _ ?_
  clear hK K
  (try simp only [put_laws])
  (refine wpAnyM_one (i := 6) rfl (by kernel_rfl) (fun K hK => ?_); rw [if_pos (by rfl)]; (try simp only [elem_laws]))
  go_simp
  refine hK _ _ (fun h => by cases h) ?_
  clear hK K
  (try simp only [put_laws])
  refine wpAnyM_done (by kernel_rfl) ?_ _
  have HR4 := Lib.hid hr4
  have HT4 := Lib.hid ht4
  have HOS := Lib.hid hos
  clear hst hr4 ht4 ho1 hos
  go_wp2_with fail
  exact bodyPost_ret (results_cell_tmp (fn := Tryz.f31) rfl rfl (HR4.out.loadVar (tt := 49) Tryz.underlying49 rfl (by rw [HOS.out]; kernel_rfl)) rfl) rfl ⟨by rw [HO.out, HE.out]; rfl, by rw [HO.out]; exact HG.out, HB3.out.trans (HT4.out.below (B := w.heap.size) (fun k h => by omega) HB3.out.size)⟩
end Go.Proofs.YtfdnlgmgjmbafaaGreatDoor

/-
  node: pairs of calls: what one makes of a value, the other makes the value of. Written by gen_nds8.py.
-/
namespace Go.Proofs.YtfdnlgmgjmbafaaGreatDoor
open Go.RowKit Go.Shelf

structure PairP (F1 F2 : FuncId) (V0 V1 : Array Value) (k1 : Nat) (e1 E : Int) : Prop where
  c1 : ∀ V, Tabs V → Calls Tryz.prog F1 #[.agg V0] V fun e w' => e = .returned (.tuple #[.agg V1, .int .i64 e1]) ∧ Below V.heap.size V w'
  c2 : e1 = 0 → ∀ V, Tabs V → Calls Tryz.prog F2 #[.agg V1] V fun e w' => e = .returned (.tuple #[.agg V0, .int .i64 0]) ∧ Below V.heap.size V w'
  er : e1 = 0 ∨ e1 = E
  s1 : V1.size = k1
  o1 : V1.all (·.oneCell') = true
theorem calls_get {f : FuncId} {ar : Array Value} {w : World} {p : Prop} {v : Value} {R : World → Prop} (h : Calls Tryz.prog f ar w fun e w' => e = .returned v ∧ p ∧ R w') : p := by
  obtain ⟨e, w', fr, h, -⟩ := h []
  exact h.2.1
theorem putLineI (x : Array Value) (hx : GoodI 3 x) (w : World) (ht : Tabs w) : True ∧ True ∧ True ∧ True ∧ True ∧ Line8 (putSp inodeSpecs x) ∧ True := ⟨trivial, trivial, trivial, trivial, trivial, calls_get (putInode_any x hx w ht), trivial⟩
theorem putLineM (x : Array Value) (hx : GoodI 8 x) (w : World) (ht : Tabs w) : True ∧ True ∧ True ∧ True ∧ True ∧ Line8 (putSp mapSpecs x) ∧ True := ⟨trivial, trivial, trivial, trivial, trivial, calls_get (putMap_any x hx w ht), trivial⟩
theorem putLineE (x : Array Value) (hx : GoodE x) (w : World) (ht : Tabs w) : True ∧ True ∧ True ∧ True ∧ True ∧ Line8 (putSp entrySpecs x) ∧ True := ⟨trivial, trivial, trivial, trivial, trivial, calls_get (putEntry_any x hx w ht), trivial⟩
theorem getGoodI (l : List Int) (hl : Line8 l) (w : World) (ht : Tabs w) : GoodI 3 ((getSp inodeSpecs l ndZeroI).getD ndZeroI) := calls_get (getInode_any l hl w ht)
theorem getGoodM (l : List Int) (hl : Line8 l) (w : World) (ht : Tabs w) : GoodI 8 ((getSp mapSpecs l ndZeroM).getD ndZeroM) := calls_get (getMap_any l hl w ht)
theorem getGoodT (l : List Int) (hl : Line8 l) (w : World) (ht : Tabs w) : GoodI 7 ((getSp tableSpecs l ndZeroT).getD ndZeroT) := calls_get (getTable_any l hl w ht)
theorem getGoodE (l : List Int) (hl : Line8 l) (w : World) (ht : Tabs w) : GoodE ((getSp entrySpecs l ndZeroE).getD ndZeroE) := calls_get (getEntry_any l hl w ht)
theorem getGoodS (l : List Int) (hl : Line8 l) (w : World) (ht : Tabs w) : GoodI 2 ((getSp superSpecs l ndZeroS).getD ndZeroS) := calls_get (getSuper_any l hl w ht)
theorem putS_any (x : Array Value) (hx : GoodI 2 x) (w : World) (ht : Tabs w) : Calls Tryz.prog 7 #[.agg x] w fun e w' => e = .returned (.tuple #[.agg (lnA (putSp superSpecs x)), .int .i64 (putSpE superSpecs x)]) ∧ Line8 (putSp superSpecs x) ∧ Below w.heap.size w w' := by
  obtain ⟨a, ha, a0, a1⟩ := hx.2 0 (by decide)
  obtain ⟨b, hb, b0, b1⟩ := hx.2 1 (by decide)
  obtain rfl : x = #[.int .i64 a, .int .i64 b] := by
    refine Array.ext (by rw [hx.1]; rfl) fun i g1 g2 => ?_
    rw [hx.1] at g1
    have hi : i = 0 ∨ i = 1 := by omega
    rcases hi with rfl | rfl
    · rw [Array.getElem?_eq_getElem (by rw [hx.1]; decide)] at ha
      exact Option.some.inj ha
    · rw [Array.getElem?_eq_getElem (by rw [hx.1]; decide)] at hb
      exact Option.some.inj hb
  exact putSuper_any a b ⟨a0, a1⟩ ⟨b0, b1⟩ w ht
theorem pair_putI (a b c : Int) (hx : GoodI 3 #[.int .i64 a, .int .i64 b, .int .i64 c]) (w : World) (ht : Tabs w) : ∃ V1 e1, PairP 8 28 #[.int .i64 a, .int .i64 b, .int .i64 c] V1 8 e1 2 := by
  have hl : Line8 (putSp inodeSpecs #[.int .i64 a, .int .i64 b, .int .i64 c]) := by
    obtain ⟨-, -, -, -, -, h, -⟩ := putLineI _ hx w ht
    exact h
  exact ⟨lnA (putSp inodeSpecs #[.int .i64 a, .int .i64 b, .int .i64 c]), putSpE inodeSpecs #[.int .i64 a, .int .i64 b, .int .i64 c], fun V hV => (putInode_any _ hx V hV).mono fun e w' h => ⟨h.1, h.2.2⟩, fun h0 V hV => by
    have h := getInode_any _ hl V hV
    rw [get_inode a b c h0] at h
    exact h.mono fun e w' h => ⟨h.1, h.2.2⟩, put_err _ _, by rw [lnA_size, hl.1], lnA_one _⟩
theorem pair_putM (a b c d e f g k : Int) (hx : GoodI 8 #[.int .i64 a, .int .i64 b, .int .i64 c, .int .i64 d, .int .i64 e, .int .i64 f, .int .i64 g, .int .i64 k]) (w : World) (ht : Tabs w) : ∃ V1 e1, PairP 18 29 #[.int .i64 a, .int .i64 b, .int .i64 c, .int .i64 d, .int .i64 e, .int .i64 f, .int .i64 g, .int .i64 k] V1 8 e1 2 := by
  have hl : Line8 (putSp mapSpecs #[.int .i64 a, .int .i64 b, .int .i64 c, .int .i64 d, .int .i64 e, .int .i64 f, .int .i64 g, .int .i64 k]) := by
    obtain ⟨-, -, -, -, -, h, -⟩ := putLineM _ hx w ht
    exact h
  exact ⟨lnA (putSp mapSpecs #[.int .i64 a, .int .i64 b, .int .i64 c, .int .i64 d, .int .i64 e, .int .i64 f, .int .i64 g, .int .i64 k]), putSpE mapSpecs #[.int .i64 a, .int .i64 b, .int .i64 c, .int .i64 d, .int .i64 e, .int .i64 f, .int .i64 g, .int .i64 k], fun V hV => (putMap_any _ hx V hV).mono fun e w' h => ⟨h.1, h.2.2⟩, fun h0 V hV => by
    have h := getMap_any _ hl V hV
    rw [get_map a b c d e f g k h0] at h
    exact h.mono fun e w' h => ⟨h.1, h.2.2⟩, put_err _ _, by rw [lnA_size, hl.1], lnA_one _⟩
theorem pair_putE (a b : Int) (s : List UInt8) (hx : GoodE #[.int .i64 a, .int .i64 b, encStr s]) (w : World) (ht : Tabs w) : ∃ V1 e1, PairP 22 31 #[.int .i64 a, .int .i64 b, encStr s] V1 8 e1 2 := by
  have hl : Line8 (putSp entrySpecs #[.int .i64 a, .int .i64 b, encStr s]) := by
    obtain ⟨-, -, -, -, -, h, -⟩ := putLineE _ hx w ht
    exact h
  exact ⟨lnA (putSp entrySpecs #[.int .i64 a, .int .i64 b, encStr s]), putSpE entrySpecs #[.int .i64 a, .int .i64 b, encStr s], fun V hV => (putEntry_any _ hx V hV).mono fun e w' h => ⟨h.1, h.2.2⟩, fun h0 V hV => by
    have h := getEntry_any _ hl V hV
    rw [get_entry a b s h0] at h
    exact h.mono fun e w' h => ⟨h.1, h.2.2⟩, put_err _ _, by rw [lnA_size, hl.1], lnA_one _⟩
theorem pair_getI (l : List Int) (hl : Line8 l) (w : World) (ht : Tabs w) : ∃ V1 e1, PairP 28 8 (lnA l) V1 3 e1 180 := by
  have hg : GoodI 3 ((getSp inodeSpecs l ndZeroI).getD ndZeroI) := getGoodI l hl w ht
  exact ⟨_, _, fun V hV => (getInode_any l hl V hV).mono fun e w' h => ⟨h.1, h.2.2⟩, fun h0 V hV => by
    have h := putInode_any _ hg V hV
    rw [(put_of_get inodeSpecs l ndZeroI h0).1, (put_of_get inodeSpecs l ndZeroI h0).2] at h
    exact h.mono fun e w' h => ⟨h.1, h.2.2⟩, get_err _, hg.1, goodI_one hg⟩
theorem pair_getM (l : List Int) (hl : Line8 l) (w : World) (ht : Tabs w) : ∃ V1 e1, PairP 29 18 (lnA l) V1 8 e1 180 := by
  have hg : GoodI 8 ((getSp mapSpecs l ndZeroM).getD ndZeroM) := getGoodM l hl w ht
  exact ⟨_, _, fun V hV => (getMap_any l hl V hV).mono fun e w' h => ⟨h.1, h.2.2⟩, fun h0 V hV => by
    have h := putMap_any _ hg V hV
    rw [(put_of_get mapSpecs l ndZeroM h0).1, (put_of_get mapSpecs l ndZeroM h0).2] at h
    exact h.mono fun e w' h => ⟨h.1, h.2.2⟩, get_err _, hg.1, goodI_one hg⟩
theorem pair_getT (l : List Int) (hl : Line8 l) (w : World) (ht : Tabs w) : ∃ V1 e1, PairP 30 9 (lnA l) V1 7 e1 180 := by
  have hg : GoodI 7 ((getSp tableSpecs l ndZeroT).getD ndZeroT) := getGoodT l hl w ht
  exact ⟨_, _, fun V hV => (getTable_any l hl V hV).mono fun e w' h => ⟨h.1, h.2.2⟩, fun h0 V hV => by
    have h := putTable_any _ hg V hV
    rw [(put_of_get tableSpecs l ndZeroT h0).1, (put_of_get tableSpecs l ndZeroT h0).2] at h
    exact h.mono fun e w' h => ⟨h.1, h.2.2⟩, get_err _, hg.1, goodI_one hg⟩
theorem pair_getE (l : List Int) (hl : Line8 l) (w : World) (ht : Tabs w) : ∃ V1 e1, PairP 31 22 (lnA l) V1 3 e1 180 := by
  have hg : GoodE ((getSp entrySpecs l ndZeroE).getD ndZeroE) := getGoodE l hl w ht
  exact ⟨_, _, fun V hV => (getEntry_any l hl V hV).mono fun e w' h => ⟨h.1, h.2.2⟩, fun h0 V hV => by
    have h := putEntry_any _ hg V hV
    rw [(put_of_get entrySpecs l ndZeroE h0).1, (put_of_get entrySpecs l ndZeroE h0).2] at h
    exact h.mono fun e w' h => ⟨h.1, h.2.2⟩, get_err _, hg.1, goodE_one hg⟩
theorem pair_getS (l : List Int) (hl : Line8 l) (w : World) (ht : Tabs w) : ∃ V1 e1, PairP 27 7 (lnA l) V1 2 e1 180 := by
  have hg : GoodI 2 ((getSp superSpecs l ndZeroS).getD ndZeroS) := getGoodS l hl w ht
  exact ⟨_, _, fun V hV => (getSuper_any l hl V hV).mono fun e w' h => ⟨h.1, h.2.2⟩, fun h0 V hV => by
    have h := putS_any _ hg V hV
    rw [(put_of_get superSpecs l ndZeroS h0).1, (put_of_get superSpecs l ndZeroS h0).2] at h
    exact h.mono fun e w' h => ⟨h.1, h.2.2⟩, get_err _, hg.1, goodI_one hg⟩
end Go.Proofs.YtfdnlgmgjmbafaaGreatDoor
