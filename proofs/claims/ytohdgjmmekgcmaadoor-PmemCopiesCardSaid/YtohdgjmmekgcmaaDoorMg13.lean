/-
  Texts PnT to PnT, as one.
-/
import Derived.Test.YtohdgjmmekgcmaaDoorMg12
/-
  A call by both devices: the call 2 (Swap).
-/
namespace Go.Proofs.YtohdgjmmekgcmaaDoor
open Go.RowKit Go.Shelf

set_option maxRecDepth 100000 in
set_option maxHeartbeats 1000000 in
theorem act_swap {F : Nat → Prop} {B S T n cS cT S' T' cS' cT' : Nat} {q q' m : Value} {d e : Dv} (x : Ask) (hx : x.what = 2) (hi1 : -9223372036854775808 ≤ x.at_) (hi2 : x.at_ ≤ 9223372036854775807) (w : World) (hen : Ends w) (h : DevB w F B S T n cS cT q d) (hv : RefV w F S' T' n cS' cT' q' e) (hm1 : ∃ ma k mc, m = .slice ma k mc) :
    Calls Tryd.prog 15 #[.pointer (some ⟨B, 0, none⟩), .agg (refA S' T' n cS' cT' q'), .agg (askA x m)] w (ActEnd w F n (d.step n x) (e.step n x) (fun b => d = e → b = true)) := by
  obtain ⟨a, c, rfl⟩ := hv.waits.slice_n
  obtain ⟨ma, mk, mc, rfl⟩ := hm1
  obtain ⟨b0, z0, bW, bA, bR⟩ := act_boxes w (.slice (some ⟨S', 0, none⟩) n cS') (.slice (some ⟨T', 0, none⟩) n cT') (.slice a e.waits.length c) (.slice ma mk mc) x
  obtain ⟨W0, hW0⟩ : ∃ W0, (((w.alloc (.cells (refA S' T' n cS' cT' (.slice a e.waits.length c)) 36)).alloc (.cells (askA x (.slice ma mk mc)) 26)).alloc (.cells #[.slice none 0 0, .slice none 0 0, .slice none 0 0] 36)) = W0 := ⟨_, rfl⟩
  have HA : Hid (ActR w F (.slice (some ⟨S', 0, none⟩) n cS') (.slice (some ⟨T', 0, none⟩) n cT') (.slice a e.waits.length c) (.slice ma mk mc) x W0) := show ActR _ _ _ _ _ _ _ _ from by
    rw [← hW0]; exact ⟨z0, b0, bW, bA, bR, h.live⟩
  obtain ⟨k0, k1, k2, k3, k4, k5⟩ := HA.out.cells (Turn.refl _ _)
  rw [hx] at k0
  have HD := Lib.hid (h.below HA.out.below)
  have HV := Lib.hid ((hv.wide (fun k => k = w.heap.size ∨ k = w.heap.size + 1 ∨ k = w.heap.size + 1 + 1) (fun k hk => by omega)).below HA.out.below)
  have HL := Lib.hid h.live
  have HSD : Hid (d.step n x = d.swap n x.at_ x.from_ x.word) := show _ = _ by unfold Dv.step; simp [hx]
  have HSE : Hid (e.step n x = e.swap n x.at_ x.from_ x.word) := show _ = _ by unfold Dv.step; simp [hx]
  have HE0 := Lib.hid (hen.below HA.out.below hen.room)
  have HFE := Lib.hid (swap_any x.at_ x.from_ x.word W0 HE0.out HD.out)
  clear hen h hv b0 z0 bW bA bR hx
  go_enter Tryd.func15, Tryd.ntmps15
  go_wp2_with fail
  refine HFE.out.mono ?_
  rintro en w1 ⟨rfl, ht1, hd1⟩
  obtain ⟨hw1, ha1, hr1⟩ := HA.out.at_ ht1
  obtain ⟨k0, k1, k2, k3, k4, k5⟩ := HA.out.cells ht1
  obtain ⟨c0, c1, c2, -⟩ := hw1.cells
  have HF3 : Hid (∀ k, three F w.heap.size k → k < w1.heap.size) := show ∀ k, _ from fun k hk => by
    have := ht1.size
    have := HA.out.size
    rcases hk with hk | hk | hk | hk
    · have := HL.out k hk; omega
    · omega
    · omega
    · omega
  have HRF := Lib.hid (refSwap_any (F := three F w.heap.size) x.at_ x.from_ x.word hi1 hi2 w1 HF3.out (HV.out.turn (ht1.mono fun k hk => .inl hk)))
  have HR1 := Lib.hid hr1
  have HT1 := Lib.hid ht1
  have HD1 := Lib.hid hd1
  clear hW0 hw1 ha1 hr1 ht1 hd1
  go_wp2_with fail
  refine HRF.out.mono ?_
  rintro en w2 ⟨hb2, S2, cS2, rfl, hv2⟩
  have HB2 := Lib.hid hb2
  have HV2 := Lib.hid hv2
  clear hb2 hv2 c0 c1 c2 k0 k1 k2 k3 k4 k5
  obtain ⟨b1, hb1⟩ : ∃ b, d.swaps n x.at_ x.from_ = b := ⟨_, rfl⟩
  obtain ⟨b2, hb2⟩ : ∃ b, e.swaps n x.at_ x.from_ = b := ⟨_, rfl⟩
  have HBE : Hid (d = e → b1 = b2) := show _ → _ from fun h => by rw [← hb1, ← hb2, h]
  rw [hb1, hb2]
  clear hb1 hb2
  obtain ⟨r, hr⟩ : ∃ r, errR (inR (n * 8) x.at_) = r := ⟨_, rfl⟩
  rw [hr]
  clear hr
  go_wp2_with fail
  have hb3 : Below w2.heap.size w2 (w2.alloc (.cells (refA S2 T' n cS2 cT' (.slice a e.waits.length c)) 36)).drew := Below.drew ((Below.refl _ _).alloc (Nat.le_refl _) _)
  have hX3 : Box3 (w2.alloc (.cells (refA S2 T' n cS2 cT' (.slice a e.waits.length c)) 36)).drew w2.heap.size 36 (.slice (some ⟨S2, 0, none⟩) n cS2) (.slice (some ⟨T', 0, none⟩) n cT') (.slice a e.waits.length c) := Box3.new w2 _ _ _ _
  have hz2 := HB2.out.size
  have hz1 := HT1.out.size
  have hz0 := HA.out.size
  have hr3 := (HR1.out.below HB2.out HR1.out.lt).below hb3 (by omega)
  have hk3 := hX3.cells
  have HX3 := Lib.hid hX3
  have HR3 := Lib.hid hr3
  have HB3 := Lib.hid (HB2.out.trans (hb3.mono hz2))
  have HV3 := Lib.hid (HV2.out.below hb3)
  have hR : (fun W : World => W.cell? ⟨w2.heap.size, 0, none⟩ = some (.slice (some ⟨S2, 0, none⟩) n cS2) ∧ W.cell? ⟨w2.heap.size, 1, none⟩ = some (.slice (some ⟨T', 0, none⟩) n cT') ∧ W.cell? ⟨w2.heap.size, 2, none⟩ = some (.slice a e.waits.length c)) (w2.alloc (.cells (refA S2 T' n cS2 cT' (.slice a e.waits.length c)) 36)).drew := ⟨hk3.1, hk3.2.1, hk3.2.2.1⟩
  have hR6 : (fun W : World => W.cell? ⟨w2.heap.size, 0, none⟩ = some (.slice (some ⟨S2, 0, none⟩) n cS2) ∧ W.cell? ⟨w2.heap.size, 1, none⟩ = some (.slice (some ⟨T', 0, none⟩) n cT') ∧ W.cell? ⟨w2.heap.size, 2, none⟩ = some (.slice a e.waits.length c)) ((((w2.alloc (.cells (refA S2 T' n cS2 cT' (.slice a e.waits.length c)) 36)).drew.setCell ⟨w.heap.size + 1 + 1, 0, none⟩ (.slice (some ⟨S2, 0, none⟩) n cS2)).setCell ⟨w.heap.size + 1 + 1, 1, none⟩ (.slice (some ⟨T', 0, none⟩) n cT')).setCell ⟨w.heap.size + 1 + 1, 2, none⟩ (.slice a e.waits.length c)) := by
    have hx6 : Box3 ((((w2.alloc (.cells (refA S2 T' n cS2 cT' (.slice a e.waits.length c)) 36)).drew.setCell ⟨w.heap.size + 1 + 1, 0, none⟩ (.slice (some ⟨S2, 0, none⟩) n cS2)).setCell ⟨w.heap.size + 1 + 1, 1, none⟩ (.slice (some ⟨T', 0, none⟩) n cT')).setCell ⟨w.heap.size + 1 + 1, 2, none⟩ (.slice a e.waits.length c)) w2.heap.size 36 (.slice (some ⟨S2, 0, none⟩) n cS2) (.slice (some ⟨T', 0, none⟩) n cT') (.slice a e.waits.length c) := (heap_set3 _ _ w2.heap.size (by omega) _ _ _).trans hX3
    exact ⟨hx6.cells.1, hx6.cells.2.1, hx6.cells.2.2.1⟩
  obtain ⟨e0, e1, e2, f0, f1, f2⟩ := (show Box3 (w2.alloc (.cells #[.slice (some ⟨S2, 0, none⟩) n cS2, .slice (some ⟨T', 0, none⟩) n cT', .slice a e.waits.length c] 36)) (w.heap.size + 1 + 1) 36 (.slice none 0 0) (.slice none 0 0) (.slice none 0 0) from hr3).cells
  clear hb3 hX3 hr3 hk3
  refine wp_region_M 13 (fun W : World => W.cell? ⟨w2.heap.size, 0, none⟩ = some (.slice (some ⟨S2, 0, none⟩) n cS2) ∧ W.cell? ⟨w2.heap.size, 1, none⟩ = some (.slice (some ⟨T', 0, none⟩) n cT') ∧ W.cell? ⟨w2.heap.size, 2, none⟩ = some (.slice a e.waits.length c)) (by kernel_rfl) ?_
  by_cases hbn : b1 = b2
  · subst hbn
    (refine wpAnyM_take (i := 0) (v := ?_) rfl (by kernel_rfl) (by kernel_rfl) (fun _ _ _ h => h) (Or.inl ⟨by rfl, ?_⟩) hR ?_; rotate_left; (focus (intro w hSw; (try dsimp only at hSw); go_simp; (try with_reducible rfl))); (try simp only [put_laws])); (refine wpAnyM_take (i := 1) (v := ?_) rfl (by kernel_rfl) (by kernel_rfl) (fun _ _ _ h => h) (Or.inl ⟨by rfl, ?_⟩) hR ?_; rotate_left; (focus (intro w hSw; (try dsimp only at hSw); go_simp; (try with_reducible rfl))); (try simp only [put_laws])); (refine wpAnyM_take (i := 2) (v := ?_) rfl (by kernel_rfl) (by kernel_rfl) (fun _ _ _ h => h) (Or.inl ⟨by rfl, ?_⟩) hR ?_; rotate_left; (focus (intro w hSw; (try dsimp only at hSw); go_simp; (try with_reducible rfl))); (try simp only [put_laws])); (refine wpAnyM_take (i := 3) (v := ?_) rfl (by kernel_rfl) (by kernel_rfl) (fun _ _ _ h => h) (Or.inl ⟨by rfl, ?_⟩) hR ?_; rotate_left; (focus (intro w hSw; (try dsimp only at hSw); go_simp; (try with_reducible rfl))); (try simp only [put_laws])); (refine wpAnyM_take (i := 4) (v := ?_) rfl (by kernel_rfl) (by kernel_rfl) (fun _ _ _ h => h) (Or.inl ⟨by rfl, ?_⟩) hR ?_; rotate_left; (focus (intro w hSw; (try dsimp only at hSw); go_simp; (try with_reducible rfl))); (try simp only [put_laws])); (refine wpAnyM_take (i := 5) (v := ?_) rfl (by kernel_rfl) (by kernel_rfl) (fun _ _ _ h => h) (Or.inl ⟨by rfl, ?_⟩) hR ?_; rotate_left; (focus (intro w hSw; (try dsimp only at hSw); go_simp; (try with_reducible rfl))); (try simp only [put_laws])); (refine wpAnyM_take (i := 6) (v := ?_) rfl (by kernel_rfl) (by kernel_rfl) (fun _ _ _ h => h) (Or.inl ⟨by rfl, ?_⟩) hR ?_; rotate_left; (focus (intro w hSw; (try dsimp only at hSw); go_simp; (try with_reducible rfl))); (try simp only [put_laws])); (refine wpAnyM_take (i := 8) (v := ?_) rfl (by kernel_rfl) (by kernel_rfl) (fun _ _ _ h => h) (Or.inl ⟨by rfl, ?_⟩) hR ?_; rotate_left; (focus (intro w hSw; (try dsimp only at hSw); go_simp; (try with_reducible rfl))); (try simp only [put_laws]))
    (refine wpAnyM_one (i := 7) rfl (by kernel_rfl) (fun K hK => ?_); rw [if_pos (by rfl)]; (try simp only [elem_laws]))
    go_simp
    refine (num4_any _ _).mono ?_
    rintro en w5 ⟨rfl, rfl⟩
    refine hK _ _ (fun _ => hR) ?_
    clear hK K
    (try simp only [put_laws])
    (refine wpAnyM_take (i := 9) (v := ?_) rfl (by kernel_rfl) (by kernel_rfl) (fun _ _ _ h => h) (Or.inl ⟨by rfl, ?_⟩) hR ?_; rotate_left; (focus (intro w hSw; (try dsimp only at hSw); go_simp; (try with_reducible rfl))); (try simp only [put_laws])); (refine wpAnyM_take (i := 10) (v := ?_) rfl (by kernel_rfl) (by kernel_rfl) (fun _ _ _ h => h) (Or.inl ⟨by rfl, ?_⟩) hR ?_; rotate_left; (focus (intro w hSw; (try dsimp only at hSw); go_simp; (try with_reducible rfl))); (try simp only [put_laws]))
    (refine wpAnyM_one (i := 11) rfl (by kernel_rfl) (fun K hK => ?_); rw [if_pos (by rfl)]; (try simp only [elem_laws]))
    go_simp
    refine hK _ _ (fun _ => hR) ?_
    clear hK K
    (try simp only [put_laws])
    (refine wpAnyM_one (i := 12) rfl (by kernel_rfl) (fun K hK => ?_); rw [if_pos (by rfl)]; (try simp only [elem_laws]))
    go_simp
    refine hK _ _ (fun _ => hR6) ?_
    clear hK K hR
    (try simp only [put_laws])
    (refine wpAnyM_last rfl (by kernel_rfl) (fun K hK => ?_); rw [if_pos (by rfl)]; (try simp only [elem_laws]))
    go_simp
    refine hK _ _ ?_
    clear hK K hR6
    (try simp only [put_laws])
    refine wpAnyM_done (by kernel_rfl) ?_ _
    go_wp2_with fail
    refine bodyPost_ret (v := .tuple #[.pointer (some ⟨B, 0, none⟩), .agg (refA S2 T' n cS2 cT' (.slice a e.waits.length c)), .bool true]) (by simp [results, Tryd.results15, go_sem, World.cell?_setCell_same', e0, e1, e2]) rfl ?_
    rw [HSD.out, HSE.out]
    exact HA.out.ends HT1.out (fun k hk => .inl hk) HD1.out HB3.out HV3.out (fun _ => rfl)
  · have hbb : (b1 == b2) = false := beq_eq_false_iff_ne.2 hbn
    (refine wpAnyM_take (i := 0) (v := ?_) rfl (by kernel_rfl) (by kernel_rfl) (fun _ _ _ h => h) (Or.inl ⟨by rfl, ?_⟩) hR ?_; rotate_left; (focus (intro w hSw; (try dsimp only at hSw); go_simp; (try with_reducible rfl))); (try simp only [put_laws])); (refine wpAnyM_take (i := 1) (v := ?_) rfl (by kernel_rfl) (by kernel_rfl) (fun _ _ _ h => h) (Or.inl ⟨by rfl, ?_⟩) hR ?_; rotate_left; (focus (intro w hSw; (try dsimp only at hSw); go_simp; (try with_reducible rfl))); (try simp only [put_laws])); (refine wpAnyM_take (i := 2) (v := ?_) rfl (by kernel_rfl) (by kernel_rfl) (fun _ _ _ h => h) (Or.inl ⟨by rfl, ?_⟩) hR ?_; rotate_left; (focus (intro w hSw; (try dsimp only at hSw); go_simp; (try with_reducible rfl))); (try simp only [put_laws])); (refine wpAnyM_take (i := 3) (v := ?_) rfl (by kernel_rfl) (by kernel_rfl) (fun _ _ _ h => h) (Or.inl ⟨by rfl, ?_⟩) hR ?_; rotate_left; (focus (intro w hSw; (try dsimp only at hSw); go_simp; (try with_reducible rfl))); (try simp only [put_laws])); (refine wpAnyM_take (i := 4) (v := ?_) rfl (by kernel_rfl) (by kernel_rfl) (fun _ _ _ h => h) (Or.inl ⟨by rfl, ?_⟩) hR ?_; rotate_left; (focus (intro w hSw; (try dsimp only at hSw); go_simp; (try with_reducible rfl))); (try simp only [put_laws])); (refine wpAnyM_take (i := 5) (v := ?_) rfl (by kernel_rfl) (by kernel_rfl) (fun _ _ _ h => h) (Or.inl ⟨by rfl, ?_⟩) hR ?_; rotate_left; (focus (intro w hSw; (try dsimp only at hSw); go_simp; (try with_reducible rfl))); (try simp only [put_laws]))
    (refine wpAnyM_take (i := 6) (v := undef) rfl (by kernel_rfl) (by kernel_rfl) (fun _ _ _ h => h) (Or.inr ⟨by rfl, rfl⟩) hR ?_; (try simp only [put_laws])); (refine wpAnyM_take (i := 7) (v := undef) rfl (by kernel_rfl) (by kernel_rfl) (fun _ _ _ h => h) (Or.inr ⟨by rfl, rfl⟩) hR ?_; (try simp only [put_laws])); (refine wpAnyM_take (i := 8) (v := undef) rfl (by kernel_rfl) (by kernel_rfl) (fun _ _ _ h => h) (Or.inr ⟨by rfl, rfl⟩) hR ?_; (try simp only [put_laws])); (refine wpAnyM_take (i := 9) (v := undef) rfl (by kernel_rfl) (by kernel_rfl) (fun _ _ _ h => h) (Or.inr ⟨by rfl, rfl⟩) hR ?_; (try simp only [put_laws]))
    (refine wpAnyM_take (i := 10) (v := ?_) rfl (by kernel_rfl) (by kernel_rfl) (fun _ _ _ h => h) (Or.inl ⟨by rfl, ?_⟩) hR ?_; rotate_left; (focus (intro w hSw; (try dsimp only at hSw); go_simp; (try with_reducible rfl))); (try simp only [put_laws]))
    (refine wpAnyM_one (i := 11) rfl (by kernel_rfl) (fun K hK => ?_); rw [if_pos (by rfl)]; (try simp only [elem_laws]))
    go_simp
    refine hK _ _ (fun _ => hR) ?_
    clear hK K
    (try simp only [put_laws])
    (refine wpAnyM_one (i := 12) rfl (by kernel_rfl) (fun K hK => ?_); rw [if_pos (by rfl)]; (try simp only [elem_laws]))
    go_simp
    refine hK _ _ (fun _ => hR6) ?_
    clear hK K hR
    (try simp only [put_laws])
    (refine wpAnyM_last rfl (by kernel_rfl) (fun K hK => ?_); rw [if_pos (by rfl)]; (try simp only [elem_laws]))
    go_simp
    refine hK _ _ ?_
    clear hK K hR6
    (try simp only [put_laws])
    refine wpAnyM_done (by kernel_rfl) ?_ _
    go_wp2_with fail
    refine bodyPost_ret (v := .tuple #[.pointer (some ⟨B, 0, none⟩), .agg (refA S2 T' n cS2 cT' (.slice a e.waits.length c)), .bool false]) (by simp [results, Tryd.results15, go_sem, World.cell?_setCell_same', e0, e1, e2]) rfl ?_
    rw [HSD.out, HSE.out]
    exact HA.out.ends HT1.out (fun k hk => .inl hk) HD1.out HB3.out HV3.out (fun h => absurd (HBE.out h) hbn)
end Go.Proofs.YtohdgjmmekgcmaaDoor
