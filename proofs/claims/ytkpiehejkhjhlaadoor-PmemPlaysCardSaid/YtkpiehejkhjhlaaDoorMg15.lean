/-
  Texts PnV to WordO, as one.
-/
import Derived.Test.YtkpiehejkhjhlaaDoorMg14
import Derived.Test.YtkpiehejkhjhlaaDoorRows
import Derived.WalkKit
import Derived.ProofKit
import Derived.OpenShut
import Derived.Below
import Derived.Carry
import Derived.Deep.DeepHandedRow
import Derived.Deep.DeepWitnessRowRef
import Derived.Lib.LaidTab
import Derived.LaidSub
import Derived.Lib.SmallJoins
import Derived.SizedLaws
import Derived.ChangeSlices
/-
  A call by both devices: Copy, which goes on.
-/
namespace Go.Proofs.YtkpiehejkhjhlaaDoor
open Go.RowKit Go.Shelf

set_option maxRecDepth 100000 in
set_option maxHeartbeats 1000000 in
theorem act_copy {F : Nat → Prop} {B S T n cS cT S' T' cS' cT' : Nat} {q q' m : Value} {d e : Dv} (x : Ask) (hx : ¬ x.what = 0 ∧ ¬ x.what = 1 ∧ ¬ x.what = 2 ∧ ¬ x.what = 3 ∧ ¬ x.what = 4 ∧ ¬ x.what = 5 ∧ ¬ x.what = 6 ∧ ¬ x.what = 7) (w : World) (h : DevB w F B S T n cS cT q d) (hv : RefV w F S' T' n cS' cT' q' e) (hm1 : ∃ ma k mc, m = .slice ma k mc) :
    Calls Tryd.prog 14 #[.pointer (some ⟨B, 0, none⟩), .agg (refA S' T' n cS' cT' q'), .agg (askA x m)] w (ActEnd w F n (d.step n x) (e.step n x) (fun b => b = true)) := by
  obtain ⟨a, c, rfl⟩ := hv.waits.slice_n
  obtain ⟨ma, mk, mc, rfl⟩ := hm1
  obtain ⟨b0, z0, bW, bA, bR⟩ := act_boxes w (.slice (some ⟨S', 0, none⟩) n cS') (.slice (some ⟨T', 0, none⟩) n cT') (.slice a e.waits.length c) (.slice ma mk mc) x
  obtain ⟨W0, hW0⟩ : ∃ W0, (((w.alloc (.cells (refA S' T' n cS' cT' (.slice a e.waits.length c)) 36)).alloc (.cells (askA x (.slice ma mk mc)) 43)).alloc (.cells #[.slice none 0 0, .slice none 0 0, .slice none 0 0] 36)) = W0 := ⟨_, rfl⟩
  have HA : Hid (ActR w F (.slice (some ⟨S', 0, none⟩) n cS') (.slice (some ⟨T', 0, none⟩) n cT') (.slice a e.waits.length c) (.slice ma mk mc) x W0) := show ActR _ _ _ _ _ _ _ _ from by
    rw [← hW0]; exact ⟨z0, b0, bW, bA, bR, h.live⟩
  obtain ⟨k0, k1, k2, k3, k4, k5⟩ := HA.out.cells (Turn.refl _ _)
  obtain ⟨x0, x1, x2, x3, x4, x5, x6, x7⟩ := hx
  have y0 : (x.what == 0) = false := beq_eq_false_iff_ne.2 x0
  have y1 : (x.what == 1) = false := beq_eq_false_iff_ne.2 x1
  have y2 : (x.what == 2) = false := beq_eq_false_iff_ne.2 x2
  have y3 : (x.what == 3) = false := beq_eq_false_iff_ne.2 x3
  have y4 : (x.what == 4) = false := beq_eq_false_iff_ne.2 x4
  have y5 : (x.what == 5) = false := beq_eq_false_iff_ne.2 x5
  have y6 : (x.what == 6) = false := beq_eq_false_iff_ne.2 x6
  have y7 : (x.what == 7) = false := beq_eq_false_iff_ne.2 x7
  have HD := Lib.hid (h.below HA.out.below)
  have HV := Lib.hid ((hv.wide (fun k => k = w.heap.size ∨ k = w.heap.size + 1 ∨ k = w.heap.size + 1 + 1) (fun k hk => by omega)).below HA.out.below)
  have HL := Lib.hid h.live
  have HSD : Hid (d.step n x = d) := show _ = _ by unfold Dv.step; simp [x1, x2, x3, x4, x5, x6]
  have HSE : Hid (e.step n x = e) := show _ = _ by unfold Dv.step; simp [x1, x2, x3, x4, x5, x6]
  have HCP := Lib.hid (copy_any W0.drew (HD.out.below (Below.drew (Below.refl _ _))))
  obtain ⟨c0, c1, c2, -⟩ := (HA.out.at_ (Turn.refl _ _)).1.cells
  clear h hv b0 z0 bW bA bR x0 x1 x2 x3 x4 x5 x6 x7
  go_enter Tryd.func14, Tryd.ntmps14
  go_wp2_with fail
  clear hW0 y0 y1 y2 y3 y4 y5 y6 y7
  have hR : (fun W : World => W.cell? ⟨w.heap.size, 0, none⟩ = some (.slice (some ⟨S', 0, none⟩) n cS') ∧ W.cell? ⟨w.heap.size, 1, none⟩ = some (.slice (some ⟨T', 0, none⟩) n cT') ∧ W.cell? ⟨w.heap.size, 2, none⟩ = some (.slice a e.waits.length c)) W0.drew := ⟨c0, c1, c2⟩
  refine wp_region_M 5 (fun W : World => W.cell? ⟨w.heap.size, 0, none⟩ = some (.slice (some ⟨S', 0, none⟩) n cS') ∧ W.cell? ⟨w.heap.size, 1, none⟩ = some (.slice (some ⟨T', 0, none⟩) n cT') ∧ W.cell? ⟨w.heap.size, 2, none⟩ = some (.slice a e.waits.length c)) (by kernel_rfl) ?_
  (refine wpAnyM_take (i := 0) (v := ?_) rfl (by kernel_rfl) (by kernel_rfl) (fun _ _ _ h => h) (Or.inl ⟨by rfl, ?_⟩) hR ?_; rotate_left; (focus (intro w hSw; (try dsimp only at hSw); go_simp; (try with_reducible rfl))); (try simp only [put_laws])); (refine wpAnyM_take (i := 2) (v := ?_) rfl (by kernel_rfl) (by kernel_rfl) (fun _ _ _ h => h) (Or.inl ⟨by rfl, ?_⟩) hR ?_; rotate_left; (focus (intro w hSw; (try dsimp only at hSw); go_simp; (try with_reducible rfl))); (try simp only [put_laws]))
  (refine wpAnyM_one (i := 1) rfl (by kernel_rfl) (fun K hK => ?_); rw [if_pos (by rfl)]; (try simp only [elem_laws]))
  go_simp
  refine HCP.out.mono ?_
  rintro en w1 ⟨hb1, B1, S1, T1, cS1, cT1, q1, rfl, hd1⟩
  have hb1' : Below W0.heap.size W0 w1 := (Below.drew (Below.refl _ _)).trans hb1
  have zz1 := hb1'.size
  have zz0 := HA.out.size
  obtain ⟨hw1, -, hr1⟩ := HA.out.at_ (Turn.of_below (q := F) hb1' (Nat.le_refl _))
  have hk1 := hw1.cells
  have hR1 : (fun W : World => W.cell? ⟨w.heap.size, 0, none⟩ = some (.slice (some ⟨S', 0, none⟩) n cS') ∧ W.cell? ⟨w.heap.size, 1, none⟩ = some (.slice (some ⟨T', 0, none⟩) n cT') ∧ W.cell? ⟨w.heap.size, 2, none⟩ = some (.slice a e.waits.length c)) w1 := ⟨hk1.1, hk1.2.1, hk1.2.2.1⟩
  have hR6 : (fun W : World => W.cell? ⟨w.heap.size, 0, none⟩ = some (.slice (some ⟨S', 0, none⟩) n cS') ∧ W.cell? ⟨w.heap.size, 1, none⟩ = some (.slice (some ⟨T', 0, none⟩) n cT') ∧ W.cell? ⟨w.heap.size, 2, none⟩ = some (.slice a e.waits.length c)) (((w1.setCell ⟨w.heap.size + 1 + 1, 0, none⟩ (.slice (some ⟨S', 0, none⟩) n cS')).setCell ⟨w.heap.size + 1 + 1, 1, none⟩ (.slice (some ⟨T', 0, none⟩) n cT')).setCell ⟨w.heap.size + 1 + 1, 2, none⟩ (.slice a e.waits.length c)) := by
    have hx6 : Box3 (((w1.setCell ⟨w.heap.size + 1 + 1, 0, none⟩ (.slice (some ⟨S', 0, none⟩) n cS')).setCell ⟨w.heap.size + 1 + 1, 1, none⟩ (.slice (some ⟨T', 0, none⟩) n cT')).setCell ⟨w.heap.size + 1 + 1, 2, none⟩ (.slice a e.waits.length c)) w.heap.size 36 (.slice (some ⟨S', 0, none⟩) n cS') (.slice (some ⟨T', 0, none⟩) n cT') (.slice a e.waits.length c) := (heap_set3 _ _ w.heap.size (by omega) _ _ _).trans hw1
    exact ⟨hx6.cells.1, hx6.cells.2.1, hx6.cells.2.2.1⟩
  have hvv : RefV W0 (three (fun k => W0.heap.size ≤ k ∧ k < w1.heap.size) w.heap.size) S' T' n cS' cT' (.slice a e.waits.length c) e := by
    refine RefV.weak (F' := fun k => (F k ∨ k = w.heap.size ∨ k = w.heap.size + 1 ∨ k = w.heap.size + 1 + 1) ∨ (W0.heap.size ≤ k ∧ k < w1.heap.size)) (HV.out.wide (fun k => W0.heap.size ≤ k ∧ k < w1.heap.size) (fun k hk => hk.1)) ?_
    rintro k (hk | hk)
    · exact .inr hk
    · exact .inl (.inr hk)
  have HVV := Lib.hid (hvv.below hb1')
  have HB1 := Lib.hid hb1'
  have HD1 : Hid (DevB w1 (fun k => W0.heap.size ≤ k ∧ k < w1.heap.size) B1 S1 T1 n cS1 cT1 q1 d) := hd1
  obtain ⟨e0, e1, e2, f0, f1, f2⟩ := hr1.cells
  refine hK _ _ (fun _ => hR1) ?_
  clear hK K hR hb1 hb1' hd1 hw1 hr1 hk1 hvv c0 c1 c2 k0 k1 k2 k3 k4 k5
  (try simp only [put_laws])
  (refine wpAnyM_one (i := 3) rfl (by kernel_rfl) (fun K hK => ?_); rw [if_pos (by rfl)]; (try simp only [elem_laws]))
  go_simp
  refine hK _ _ (fun _ => hR1) ?_
  clear hK K
  (try simp only [put_laws])
  (refine wpAnyM_one (i := 4) rfl (by kernel_rfl) (fun K hK => ?_); rw [if_pos (by rfl)]; (try simp only [elem_laws]))
  go_simp
  refine hK _ _ (fun _ => hR6) ?_
  clear hK K hR1
  (try simp only [put_laws])
  (refine wpAnyM_last rfl (by kernel_rfl) (fun K hK => ?_); rw [if_pos (by rfl)]; (try simp only [elem_laws]))
  go_simp
  refine hK _ _ ?_
  clear hK K hR6
  (try simp only [put_laws])
  refine wpAnyM_done (by kernel_rfl) ?_ _
  go_wp2_with fail
  refine bodyPost_ret (v := .tuple #[.pointer (some ⟨B1, 0, none⟩), .agg (refA S' T' n cS' cT' (.slice a e.waits.length c)), .bool true]) (by simp [results, Tryd.results14, go_sem, World.cell?_setCell_same', e0, e1, e2]) rfl ?_
  rw [HSD.out, HSE.out]
  exact HA.out.ends (Turn.of_below HB1.out (Nat.le_refl _)) (fun k hk => .inr hk.1) HD1.out (Below.refl _ _) HVV.out rfl
end Go.Proofs.YtkpiehejkhjhlaaDoor

/-
  A call by both devices, whatever it is.
-/
namespace Go.Proofs.YtkpiehejkhjhlaaDoor
open Go.RowKit Go.Shelf

theorem ActEnd.mono {w : World} {F : Nat → Prop} {n : Nat} {f e : Dv} {g g' : Bool → Prop} {en : Ending} {w' : World} (h : ActEnd w F n f e g en w') (hg : ∀ b, g b → g' b) : ActEnd w F n f e g' en w' := by
  obtain ⟨F', B, S, T, cS, cT, q, S', T', cS', cT', q', b, h1, h2, h3⟩ := h
  exact ⟨F', B, S, T, cS, cT, q, S', T', cS', cT', q', b, h1, hg b h2, h3⟩
/-- Both step; where they stand alike, the call tells the same. -/
theorem act_any {F : Nat → Prop} {B S T n cS cT S' T' cS' cT' : Nat} {q q' m : Value} {d e : Dv} (x : Ask) (hi1 : -9223372036854775808 ≤ x.at_) (hi2 : x.at_ ≤ 9223372036854775807) (hmk : x.marks.length ≤ 100000) (w : World) (hen : Ends w) (h : DevB w F B S T n cS cT q d) (hv : RefV w F S' T' n cS' cT' q' e) (hsl : SlB w F m x.marks) :
    Calls Tryd.prog 14 #[.pointer (some ⟨B, 0, none⟩), .agg (refA S' T' n cS' cT' q'), .agg (askA x m)] w (ActEnd w F n (d.step n x) (e.step n x) (fun b => d = e → b = true)) := by
  have hm1 : ∃ ma k mc, m = .slice ma k mc := by obtain ⟨a, c, e, _⟩ := hsl; exact ⟨_, _, _, e⟩
  have up : ∀ {en w'}, ActEnd w F n (d.step n x) (e.step n x) (fun b => b = true) en w' → ActEnd w F n (d.step n x) (e.step n x) (fun b => d = e → b = true) en w' := fun h => h.mono fun b hb _ => hb
  by_cases h0 : x.what = 0
  · exact act_load x h0 hi1 hi2 w hen h hv hm1
  by_cases h7 : x.what = 7
  · exact act_stay x h7 hi1 hi2 w hen h hv hm1
  by_cases h1 : x.what = 1
  · exact (act_store x h1 hi1 hi2 w hen h hv hm1).mono fun _ _ => up
  by_cases h2 : x.what = 2
  · exact act_swap x h2 hi1 hi2 w hen h hv hm1
  by_cases h3 : x.what = 3
  · exact (act_flush x h3 w h hv hm1).mono fun _ _ => up
  by_cases h4 : x.what = 4
  · exact (act_fence x h4 w h hv hm1).mono fun _ _ => up
  by_cases h5 : x.what = 5
  · exact (act_evict x h5 w h hv hm1).mono fun _ _ => up
  by_cases h6 : x.what = 6
  · exact (act_crash x h6 w h hv hmk hsl).mono fun _ _ => up
  · exact (act_copy x ⟨h0, h1, h2, h3, h4, h5, h6, h7⟩ w h hv hm1).mono fun _ _ => up
/-- What such a call leaves of the rest. -/
theorem ActEnd.ends {w : World} {F : Nat → Prop} {n : Nat} {f e : Dv} {g : Bool → Prop} {en : Ending} {w' : World} (h : ActEnd w F n f e g en w') (hen : Ends w) (hF : ¬ F 0) : Ends w' := by
  obtain ⟨F', B, S, T, cS, cT, q, S', T', cS', cT', q', b, h1, h2, h3, h4, h5, h6⟩ := h
  exact h5.ends hen hF
end Go.Proofs.YtkpiehejkhjhlaaDoor

/-
  Lists of calls; few.
-/
namespace Go.Proofs.YtkpiehejkhjhlaaDoor
open Go.RowKit Go.Shelf

/-- A list of calls in memory, of which no block is one of F. -/
def SlA (W : World) (F : Nat → Prop) (v : Value) (xs : List Ask) : Prop :=
  ∃ a cap, v = .slice a xs.length cap ∧ (0 < xs.length → ∃ b off, a = some ⟨b, off, none⟩ ∧ b < W.heap.size ∧ ¬ F b ∧
    ∀ (k : Nat) (hk : k < xs.length), ∃ m, W.rangeAt b (off + k * 6) (askA xs[k] m).toList ∧ SlB W F m xs[k].marks)
theorem SlA.turn {W W' : World} {F : Nat → Prop} {v : Value} {xs : List Ask} (h : SlA W F v xs) (ht : Turn F W W') : SlA W' F v xs := by
  obtain ⟨a, cap, hv, hc⟩ := h
  refine ⟨a, cap, hv, fun h0 => ?_⟩
  obtain ⟨b, off, ha, hb, hF, hj⟩ := hc h0
  refine ⟨b, off, ha, Nat.lt_of_lt_of_le hb ht.size, hF, fun k hk => ?_⟩
  obtain ⟨m, h1, h2⟩ := hj k hk
  exact ⟨m, fun j v hv => (World.cell?_of_block (a := ⟨b, off + k * 6 + j, none⟩) (ht.block b hb hF)).trans (h1 j v hv), h2.turn ht⟩
/-- At most so many calls, of 60 marks. -/
def fewA (xs : List Ask) (most : Int) : Bool := xs.all (fun x => decide (x.marks.length ≤ 60)) && decide ((xs.length : Int) ≤ most)
theorem all_take {xs : List Ask} {f : Ask → Bool} {k : Nat} (h : k < xs.length) : (xs.take (k + 1)).all f = ((xs.take k).all f && f xs[k]) := by
  rw [List.take_succ_eq_append_getElem h, List.all_append]
  simp
set_option maxRecDepth 100000 in
theorem few_any {F : Nat → Prop} {v : Value} {xs : List Ask} (most : Int) (w : World) (hl : xs.length ≤ 9223372036854775807) (h : SlA w F v xs) :
    Calls Tryd.prog 11 #[v, .int .i64 most] w fun e w' => e = .returned (.bool (fewA xs most)) ∧ w' = w := by
  obtain ⟨a, cap, rfl, hc⟩ := h
  have HC := Lib.hid hc
  clear hc
  obtain ⟨N, hN⟩ : ∃ N, xs.length = N := ⟨_, rfl⟩
  have HN := Lib.hid hN
  rw [hN] at hl ⊢
  clear hN
  go_enter Tryd.func11, Tryd.ntmps11
  go_wp2_with fail
  go_loopw [5] (fun i wr => ∃ k : Nat, k ≤ N ∧ i = .int .i64 (k : Nat) ∧ Hid ((xs.take k).all (fun x => decide (x.marks.length ≤ 60)) = true) ∧ wr = w) (fun i _ => N - (intOf i).toNat)
  case atStart => exact ⟨0, by omega, rfl, (show _ = _ from rfl), rfl⟩
  case round =>
    obtain ⟨k, hk, rfl, HJ, rfl⟩ := hrel
    by_cases hlt : k < N
    · have hkl : k < xs.length := by rw [HN.out]; exact hlt
      obtain ⟨b, off, rfl, hb, hF, hj⟩ := HC.out (by omega)
      obtain ⟨m, h1, h2⟩ := hj k hkl
      obtain ⟨ma, mc, rfl, -⟩ := h2
      have c5 := h1 5 _ rfl
      have HAT := Lib.hid (all_take (f := fun x => decide (x.marks.length ≤ 60)) hkl)
      obtain ⟨L, hL⟩ : ∃ L, xs[k].marks.length = L := ⟨_, rfl⟩
      rw [hL] at c5
      have HL := Lib.hid hL
      have k2 : (k : Int) < (N : Int) := by omega
      clear hL h1 hj
      by_cases h60 : L ≤ 60
      · have hn : ¬ (60 : Int) < (L : Int) := by omega
        have HJ1 : Hid ((xs.take (k + 1)).all (fun x => decide (x.marks.length ≤ 60)) = true) := show _ = _ by rw [HAT.out, HJ.out, HL.out]; simp [h60]
        go_wp2_with fail
        go_roundw
        case rel => exact ⟨k + 1, by omega, by go_num, HJ1, by first | trivial | rfl⟩
        case measure => simp [intOf]; omega
      · have hn : (60 : Int) < (L : Int) := by omega
        have HFA : Hid (fewA xs most = false) := show _ = _ by
          unfold fewA
          rw [← List.take_append_drop (k + 1) xs, List.all_append, HAT.out, HL.out]
          simp [h60]
        go_wp2_with fail
        go_ret
        exact ⟨by rw [HFA.out]; rfl, rfl⟩
    · obtain rfl : k = N := by omega
      have HFA : Hid (fewA xs most = decide ((k : Int) ≤ most)) := show _ = _ by
        have := HJ.out
        rw [List.take_of_length_le (Nat.le_of_eq HN.out)] at this
        unfold fewA
        rw [this, HN.out]
        rfl
      go_wp2_with fail
      go_ret
      exact ⟨by rw [HFA.out]; rfl, rfl⟩
end Go.Proofs.YtkpiehejkhjhlaaDoor

/-
  The chapter's rows: works.
-/
namespace Go.Proofs.YtkpiehejkhjhlaaDoor
open Go.RowKit Go.Shelf

theorem Ends.turn {q : Nat → Prop} {W W' : World} (h : Ends W) (ht : Turn q W W') (hq : ¬ q 0) : Ends W' := ht.ends h hq
theorem more_low {F : Nat → Prop} {W W' : World} {b : Nat} (h : ∀ k, F k → b ≤ k) (hs : b ≤ W.heap.size) : ∀ k, more F W W' k → b ≤ k := fun k hk => hk.elim (h k) fun g => Nat.le_trans hs g.1
set_option maxRecDepth 100000 in
set_option maxHeartbeats 4000000 in
theorem works4_any (w : World) (hen : Ends w) : Calls Tryd.prog 10 #[] w fun e w' => e = .returned (.bool true) ∧ Below w.heap.size w w' := by
  have HN := Lib.hid (new_any 2 (by decide) (by decide) w hen.room)
  have HE := Lib.hid hen
  clear hen
  go_enter Tryd.func10, Tryd.ntmps10
  go_wp2_with fail
  refine HN.out.mono ?_
  rintro e w1 ⟨B, rfl, hb1, S, T, cS, cT, q, hd⟩
  have HD0 := Lib.hid hd
  have HF0 : Hid (∀ k, (w.heap.size ≤ k ∧ k < w1.heap.size) → w.heap.size ≤ k) := show ∀ k, _ from fun k hk => hk.1
  have HB0 := Lib.hid hb1
  have HE0 := Lib.hid (HE.out.below hb1 HE.out.room)
  clear hd hb1
  have HC := Lib.hid (store_any (3) (7) w1 HE0.out HD0.out)
  rw [show errR (inR (2 * 8) (3)) = 0 by decide] at HC
  go_wp2_with fail
  refine HC.out.mono ?_
  rintro e w2 ⟨rfl, ht, hd⟩
  clear HC
  have hF0 : ∀ k, _ → w.heap.size ≤ k := HF0.out
  have HF1 := HF0
  have HD1 := Lib.hid hd
  have HB1 := Lib.hid (HB0.out.trans (Turn.below ht hF0 HB0.out.size))
  have HE1 := Lib.hid (HE0.out.turn ht (fun hk => by have := hF0 _ hk; have := HE.out.room; omega))
  clear hd ht hF0 HD0 HF0 HB0 HE0
  have HC := Lib.hid (load_any (3) w2 HE1.out HD1.out)
  rw [show ((Dv.new 2).store 2 (3) (7)).load 2 (3) = 7 by decide, show errR (inR (2 * 8) (3)) = 0 by decide] at HC
  go_wp2_with fail
  refine HC.out.mono ?_
  rintro e w3 ⟨rfl, hb⟩
  clear HC
  have HD2 := Lib.hid (HD1.out.below hb)
  have HF2 := HF1
  have HB2 := Lib.hid (HB1.out.trans (hb.mono HB1.out.size))
  have HE2 := Lib.hid (HE1.out.below hb HE1.out.room)
  clear hb HD1 HF1 HB1 HE1
  have HC := Lib.hid (stays_any (3) w3 HE2.out HD2.out)
  rw [show ((Dv.new 2).store 2 (3) (7)).stay 2 (3) = 0 by decide, show errR (inR (2 * 8) (3)) = 0 by decide] at HC
  go_wp2_with fail
  refine HC.out.mono ?_
  rintro e w4 ⟨rfl, hb⟩
  clear HC
  have HD3 := Lib.hid (HD2.out.below hb)
  have HF3 := HF2
  have HB3 := Lib.hid (HB2.out.trans (hb.mono HB2.out.size))
  have HE3 := Lib.hid (HE2.out.below hb HE2.out.room)
  clear hb HD2 HF2 HB2 HE2
  have HC := Lib.hid (flush_any (0) w4 HD3.out)
  rw [show errR (inR 2 (0)) = 0 by decide] at HC
  go_wp2_with fail
  refine HC.out.mono ?_
  rintro e w5 ⟨rfl, ht, q4, hd⟩
  clear HC
  have hF0 : ∀ k, _ → w.heap.size ≤ k := HF3.out
  have HF4 := Lib.hid (more_low (W := w4) (W' := w5) HF3.out HB3.out.size)
  have HD4 := Lib.hid hd
  have HB4 := Lib.hid (HB3.out.trans (Turn.below ht hF0 HB3.out.size))
  have HE4 := Lib.hid (HE3.out.turn ht (fun hk => by have := hF0 _ hk; have := HE.out.room; omega))
  clear hd ht hF0 HD3 HF3 HB3 HE3
  have HC := Lib.hid (store_any (3) (8) w5 HE4.out HD4.out)
  rw [show errR (inR (2 * 8) (3)) = 0 by decide] at HC
  go_wp2_with fail
  refine HC.out.mono ?_
  rintro e w6 ⟨rfl, ht, hd⟩
  clear HC
  have hF0 : ∀ k, _ → w.heap.size ≤ k := HF4.out
  have HF5 := HF4
  have HD5 := Lib.hid hd
  have HB5 := Lib.hid (HB4.out.trans (Turn.below ht hF0 HB4.out.size))
  have HE5 := Lib.hid (HE4.out.turn ht (fun hk => by have := hF0 _ hk; have := HE.out.room; omega))
  clear hd ht hF0 HD4 HF4 HB4 HE4
  have HC := Lib.hid (fence_any w6 HD5.out)
  go_wp2_with fail
  refine HC.out.mono ?_
  rintro e w7 ⟨rfl, ht, q6, hd⟩
  clear HC
  have hF0 : ∀ k, _ → w.heap.size ≤ k := HF5.out
  have HF6 := HF5
  have HD6 := Lib.hid hd
  have HB6 := Lib.hid (HB5.out.trans (Turn.below ht hF0 HB5.out.size))
  have HE6 := Lib.hid (HE5.out.turn ht (fun hk => by have := hF0 _ hk; have := HE.out.room; omega))
  clear hd ht hF0 HD5 HF5 HB5 HE5
  have HC := Lib.hid (stays_any (3) w7 HE6.out HD6.out)
  rw [show (((((Dv.new 2).store 2 (3) (7)).flush 2 (0)).store 2 (3) (8)).fence).stay 2 (3) = 7 by decide, show errR (inR (2 * 8) (3)) = 0 by decide] at HC
  go_wp2_with fail
  refine HC.out.mono ?_
  rintro e w8 ⟨rfl, hb⟩
  clear HC
  have HD7 := Lib.hid (HD6.out.below hb)
  have HF7 := HF6
  have HB7 := Lib.hid (HB6.out.trans (hb.mono HB6.out.size))
  have HE7 := Lib.hid (HE6.out.below hb HE6.out.room)
  clear hb HD6 HF6 HB6 HE6
  have HC := Lib.hid (load_any (3) w8 HE7.out HD7.out)
  rw [show (((((Dv.new 2).store 2 (3) (7)).flush 2 (0)).store 2 (3) (8)).fence).load 2 (3) = 8 by decide, show errR (inR (2 * 8) (3)) = 0 by decide] at HC
  go_wp2_with fail
  refine HC.out.mono ?_
  rintro e w9 ⟨rfl, hb⟩
  clear HC
  have HD8 := Lib.hid (HD7.out.below hb)
  have HF8 := HF7
  have HB8 := Lib.hid (HB7.out.trans (hb.mono HB7.out.size))
  have HE8 := Lib.hid (HE7.out.below hb HE7.out.room)
  clear hb HD7 HF7 HB7 HE7
  have HC := Lib.hid (evict_any (0) w9 HD8.out)
  rw [show errR (inR 2 (0)) = 0 by decide] at HC
  go_wp2_with fail
  refine HC.out.mono ?_
  rintro e w10 ⟨rfl, ht, q9, hd⟩
  clear HC
  have hF0 : ∀ k, _ → w.heap.size ≤ k := HF8.out
  have HF9 := HF8
  have HD9 := Lib.hid hd
  have HB9 := Lib.hid (HB8.out.trans (Turn.below ht hF0 HB8.out.size))
  have HE9 := Lib.hid (HE8.out.turn ht (fun hk => by have := hF0 _ hk; have := HE.out.room; omega))
  clear hd ht hF0 HD8 HF8 HB8 HE8
  have HC := Lib.hid (store_any (9) (5) w10 HE9.out HD9.out)
  rw [show errR (inR (2 * 8) (9)) = 0 by decide] at HC
  go_wp2_with fail
  refine HC.out.mono ?_
  rintro e w11 ⟨rfl, ht, hd⟩
  clear HC
  have hF0 : ∀ k, _ → w.heap.size ≤ k := HF9.out
  have HF10 := HF9
  have HD10 := Lib.hid hd
  have HB10 := Lib.hid (HB9.out.trans (Turn.below ht hF0 HB9.out.size))
  have HE10 := Lib.hid (HE9.out.turn ht (fun hk => by have := hF0 _ hk; have := HE.out.room; omega))
  clear hd ht hF0 HD9 HF9 HB9 HE9
  have HC := Lib.hid (flush_any (1) w11 HD10.out)
  rw [show errR (inR 2 (1)) = 0 by decide] at HC
  go_wp2_with fail
  refine HC.out.mono ?_
  rintro e w12 ⟨rfl, ht, q11, hd⟩
  clear HC
  have hF0 : ∀ k, _ → w.heap.size ≤ k := HF10.out
  have HF11 := Lib.hid (more_low (W := w11) (W' := w12) HF10.out HB10.out.size)
  have HD11 := Lib.hid hd
  have HB11 := Lib.hid (HB10.out.trans (Turn.below ht hF0 HB10.out.size))
  have HE11 := Lib.hid (HE10.out.turn ht (fun hk => by have := hF0 _ hk; have := HE.out.room; omega))
  clear hd ht hF0 HD10 HF10 HB10 HE10
  have hal : Below w12.heap.size w12 (w12.alloc (.cells #[.bool false] 4)) := (Below.refl _ _).alloc (Nat.le_refl _) _
  have hsl : SlB (w12.alloc (.cells #[.bool false] 4)) _ (.slice (some ⟨w12.heap.size, 0, none⟩) 1 1) [false] := ⟨some ⟨w12.heap.size, 0, none⟩, 1, rfl, fun _ => ⟨w12.heap.size, 0, rfl, by simp, fun hk => absurd (HD11.out.live _ hk) (Nat.lt_irrefl _), fun j hj => by
    obtain rfl : j = 0 := by simpa using hj
    exact (cell_of_row _ w12.heap.size 0 _ _ _ (World.alloc_heap_new w12 _)).trans rfl⟩⟩
  have hda := HD11.out.below hal
  have hea := HE11.out.below hal HE11.out.room
  have hba := HB11.out.trans (hal.mono HB11.out.size)
  have HC := Lib.hid (crash_any [false] (by decide) _ hda hsl)
  have HEA := Lib.hid hea
  have HBA := Lib.hid hba
  have HDA := Lib.hid hda
  clear hal hsl hda hea hba
  go_wp2_with fail
  refine HC.out.mono ?_
  rintro e w13 ⟨rfl, ht, q12, hd⟩
  clear HC
  have hF0 : ∀ k, _ → w.heap.size ≤ k := HF11.out
  have HF12 := HF11
  have HD12 := Lib.hid hd
  have HB12 := Lib.hid (HBA.out.trans (Turn.below ht hF0 HBA.out.size))
  have HE12 := Lib.hid (HEA.out.turn ht (fun hk => by have := hF0 _ hk; have := HE.out.room; omega))
  clear hd ht hF0 HD11 HF11 HB11 HE11 HEA HBA HDA
  have HC := Lib.hid (load_any (3) w13 HE12.out HD12.out)
  rw [show (((((((((Dv.new 2).store 2 (3) (7)).flush 2 (0)).store 2 (3) (8)).fence).evict 2 (0)).store 2 (9) (5)).flush 2 (1)).crash [false]).load 2 (3) = 8 by decide, show errR (inR (2 * 8) (3)) = 0 by decide] at HC
  go_wp2_with fail
  refine HC.out.mono ?_
  rintro e w14 ⟨rfl, hb⟩
  clear HC
  have HD13 := Lib.hid (HD12.out.below hb)
  have HF13 := HF12
  have HB13 := Lib.hid (HB12.out.trans (hb.mono HB12.out.size))
  have HE13 := Lib.hid (HE12.out.below hb HE12.out.room)
  clear hb HD12 HF12 HB12 HE12
  have HC := Lib.hid (load_any (9) w14 HE13.out HD13.out)
  rw [show (((((((((Dv.new 2).store 2 (3) (7)).flush 2 (0)).store 2 (3) (8)).fence).evict 2 (0)).store 2 (9) (5)).flush 2 (1)).crash [false]).load 2 (9) = 0 by decide, show errR (inR (2 * 8) (9)) = 0 by decide] at HC
  go_wp2_with fail
  refine HC.out.mono ?_
  rintro e w15 ⟨rfl, hb⟩
  clear HC
  have HD14 := Lib.hid (HD13.out.below hb)
  have HF14 := HF13
  have HB14 := Lib.hid (HB13.out.trans (hb.mono HB13.out.size))
  have HE14 := Lib.hid (HE13.out.below hb HE13.out.room)
  clear hb HD13 HF13 HB13 HE13
  have HC := Lib.hid (swap_any (3) (8) (1) w15 HE14.out HD14.out)
  rw [show errR (inR (2 * 8) (3)) = 0 by decide, show (((((((((Dv.new 2).store 2 (3) (7)).flush 2 (0)).store 2 (3) (8)).fence).evict 2 (0)).store 2 (9) (5)).flush 2 (1)).crash [false]).swaps 2 (3) (8) = true by decide] at HC
  go_wp2_with fail
  refine HC.out.mono ?_
  rintro e w16 ⟨rfl, ht, hd⟩
  clear HC
  have hF0 : ∀ k, _ → w.heap.size ≤ k := HF14.out
  have HF15 := HF14
  have HD15 := Lib.hid hd
  have HB15 := Lib.hid (HB14.out.trans (Turn.below ht hF0 HB14.out.size))
  have HE15 := Lib.hid (HE14.out.turn ht (fun hk => by have := hF0 _ hk; have := HE.out.room; omega))
  clear hd ht hF0 HD14 HF14 HB14 HE14
  have HC := Lib.hid (load_any (16) w16 HE15.out HD15.out)
  rw [show ((((((((((Dv.new 2).store 2 (3) (7)).flush 2 (0)).store 2 (3) (8)).fence).evict 2 (0)).store 2 (9) (5)).flush 2 (1)).crash [false]).swap 2 (3) (8) (1)).load 2 (16) = 0 by decide, show errR (inR (2 * 8) (16)) = 4 by decide] at HC
  go_wp2_with fail
  refine HC.out.mono ?_
  rintro e w17 ⟨rfl, hb⟩
  clear HC
  have HD16 := Lib.hid (HD15.out.below hb)
  have HF16 := HF15
  have HB16 := Lib.hid (HB15.out.trans (hb.mono HB15.out.size))
  have HE16 := Lib.hid (HE15.out.below hb HE15.out.room)
  clear hb HD15 HF15 HB15 HE15
  go_wp2_with fail
  refine (num4_any _ _).mono ?_
  rintro e u0 ⟨rfl, rfl⟩
  go_wp2_with fail
  refine (num4_any _ _).mono ?_
  rintro e u1 ⟨rfl, rfl⟩
  go_wp2_with fail
  refine (num4_any _ _).mono ?_
  rintro e u2 ⟨rfl, rfl⟩
  go_wp2_with fail
  refine (num4_any _ _).mono ?_
  rintro e u3 ⟨rfl, rfl⟩
  go_wp2_with fail
  refine (num4_any _ _).mono ?_
  rintro e u4 ⟨rfl, rfl⟩
  go_wp2_with fail
  refine (num4_any _ _).mono ?_
  rintro e u5 ⟨rfl, rfl⟩
  go_wp2_with fail
  refine (num4_any _ _).mono ?_
  rintro e u6 ⟨rfl, rfl⟩
  go_wp2_with fail
  refine (num4_any _ _).mono ?_
  rintro e u7 ⟨rfl, rfl⟩
  go_wp2_with fail
  refine (num4_any _ _).mono ?_
  rintro e u8 ⟨rfl, rfl⟩
  go_wp2_with fail
  refine (num4_any _ _).mono ?_
  rintro e u9 ⟨rfl, rfl⟩
  go_wp2_with fail
  refine (num4_any _ _).mono ?_
  rintro e u10 ⟨rfl, rfl⟩
  go_wp2_with fail
  refine (num4_any _ _).mono ?_
  rintro e u11 ⟨rfl, rfl⟩
  go_wp2_with fail
  refine (num4_any _ _).mono ?_
  rintro e u12 ⟨rfl, rfl⟩
  go_wp2_with fail
  refine (num4_any _ _).mono ?_
  rintro e u13 ⟨rfl, rfl⟩
  go_wp2_with fail
  refine (num4_any _ _).mono ?_
  rintro e u14 ⟨rfl, rfl⟩
  go_wp2_with fail
  refine (num4_any _ _).mono ?_
  rintro e u15 ⟨rfl, rfl⟩
  go_wp2_with fail
  refine (num4_any _ _).mono ?_
  rintro e u16 ⟨rfl, rfl⟩
  go_wp2_with fail
  go_ret
  exact ⟨rfl, HB16.out⟩
end Go.Proofs.YtkpiehejkhjhlaaDoor

/-
  Lines put into lines: what each one is then.
-/
namespace Go.Proofs.YtkpiehejkhjhlaaDoor

theorem lineAt_put {s : List Int} {n i j : Nat} {L : List Int} (h : s.length = n * 8) (hi : i < n) (hj : j < n) (hL : L.length = 8) : lineAt (putLine s i L) j = if i = j then L else lineAt s j := by
  apply List.ext_getElem?
  intro k
  unfold lineAt putLine
  by_cases hk : k < 8
  · rw [List.getElem?_take, if_pos hk, List.getElem?_drop]
    by_cases hij : i = j
    · subst hij
      rw [if_pos rfl, List.append_assoc, List.getElem?_append_right (by rw [List.length_take]; omega), List.getElem?_append_left (by rw [List.length_take]; omega), List.length_take, Nat.min_eq_left (by omega)]
      congr 1
      omega
    · rw [if_neg hij, List.getElem?_take, if_pos hk, List.getElem?_drop]
      rcases Nat.lt_or_gt_of_ne hij with h1 | h1
      · rw [List.getElem?_append_right (by rw [List.length_append, List.length_take, hL]; omega), List.length_append, List.length_take, hL, Nat.min_eq_left (by omega), List.getElem?_drop]
        congr 1
        omega
      · rw [List.append_assoc, List.getElem?_append_left (by rw [List.length_take]; omega), List.getElem?_take, if_pos (by omega)]
  · rw [List.getElem?_eq_none (by rw [List.length_take]; omega)]
    by_cases hij : i = j
    · rw [if_pos hij, List.getElem?_eq_none (by omega)]
    · rw [if_neg hij, List.getElem?_eq_none (by rw [List.length_take]; omega)]
theorem put_length {s : List Int} {n i : Nat} {L : List Int} (h : s.length = n * 8) (hi : i < n) (hL : L.length = 8) : (putLine s i L).length = n * 8 := by
  unfold putLine
  rw [List.length_append, List.length_append, List.length_take, List.length_drop, hL]
  omega
/-- Where all that is put for a line is the same, and something is, the line is that. -/
theorem lineAt_putAll {n j : Nat} {X : List Int} (hj : j < n) : ∀ (l : List (Nat × List Int)) (s : List Int), s.length = n * 8 → (∀ x ∈ l, x.1 < n ∧ x.2.length = 8) → (∀ x ∈ l, x.1 = j → x.2 = X) →
    ((∃ x ∈ l, x.1 = j) ∨ lineAt s j = X) → lineAt (putAll s l) j = X
  | [], s, _, _, _, h => by
    rcases h with ⟨x, hx, _⟩ | h
    · cases hx
    · exact h
  | y :: l, s, hs, hl, hx, h => by
    have hy := hl y (by simp)
    show lineAt (putAll (putLine s y.1 y.2) l) j = X
    refine lineAt_putAll hj l _ (put_length hs hy.1 hy.2) (fun x h => hl x (by simp [h])) (fun x h => hx x (by simp [h])) ?_
    by_cases hyj : y.1 = j
    · right
      rw [lineAt_put hs hy.1 hj hy.2, if_pos hyj]
      exact hx y (by simp) hyj
    · rcases h with ⟨x, hxm, hxj⟩ | h
      · rcases List.mem_cons.1 hxm with rfl | hxm
        · exact absurd hxj hyj
        · exact .inl ⟨x, hxm, hxj⟩
      · right
        rw [lineAt_put hs hy.1 hj hy.2, if_neg hyj]
        exact h
/-- The lines below k flushed, one by one. -/
def Dv.flushTo (d : Dv) (n : Nat) : Nat → Dv
  | 0 => d
  | k + 1 => (d.flushTo n k).flush n (k : Int)
theorem flushTo_inv {d : Dv} {n : Nat} (hok : d.Ok n) : ∀ k, k ≤ n → (d.flushTo n k).Ok n ∧ (d.flushTo n k).seen = d.seen ∧ (d.flushTo n k).stays = d.stays ∧
    ∀ j, j < k → (∃ x ∈ (d.flushTo n k).waits, x.1 = j) ∧ ∀ x ∈ (d.flushTo n k).waits, x.1 = j → x.2 = lineAt d.seen j
  | 0, _ => ⟨hok, rfl, rfl, fun j hj => absurd hj (by omega)⟩
  | k + 1, hk => by
    obtain ⟨h1, h2, h3, h4⟩ := flushTo_inv hok k (by omega)
    have hr : inR n (k : Int) = true := inR_iff.2 (by omega)
    have e : d.flushTo n (k + 1) = { d.flushTo n k with waits := ((d.flushTo n k).forget (k : Int)).waits ++ [(k, lineAt (d.flushTo n k).seen k)] } := by
      show (d.flushTo n k).flush n (k : Int) = _
      unfold Dv.flush
      rw [hr, if_pos rfl, Int.toNat_natCast]
    have eW : (d.flushTo n (k + 1)).waits = ((d.flushTo n k).waits.filter fun x => !decide ((x.1 : Int) = (k : Int))) ++ [(k, lineAt d.seen k)] := by
      rw [e, ← h2]
      rfl
    have ok1 : (d.flushTo n (k + 1)).Ok n := h1.flush (k : Int)
    refine ⟨ok1, by rw [e]; exact h2, by rw [e]; exact h3, fun j hj => ?_⟩
    rw [eW]
    constructor
    · by_cases hjk : j = k
      · exact ⟨(k, lineAt d.seen k), by simp, hjk.symm⟩
      · obtain ⟨x, hx, hxj⟩ := (h4 j (by omega)).1
        refine ⟨x, List.mem_append_left _ (List.mem_filter.2 ⟨hx, ?_⟩), hxj⟩
        simp
        omega
    · intro x hx hxj
      rcases List.mem_append.1 hx with hx | hx
      · obtain ⟨hx1, hx2⟩ := List.mem_filter.1 hx
        simp at hx2
        exact (h4 j (by omega)).2 x hx1 hxj
      · obtain rfl := List.mem_singleton.1 hx
        rw [← hxj]
/-- Where all lines are flushed and fenced, what stays is what is seen, and none waits. -/
theorem flushed_all {d : Dv} {n : Nat} (hok : d.Ok n) : (d.flushTo n n).fence.stays = (d.flushTo n n).fence.seen ∧ (d.flushTo n n).fence.waits = [] ∧ (d.flushTo n n).fence.seen = d.seen := by
  obtain ⟨h1, h2, h3, h4⟩ := flushTo_inv hok n (Nat.le_refl _)
  refine ⟨?_, rfl, h2⟩
  show putAll (d.flushTo n n).stays (d.flushTo n n).waits = (d.flushTo n n).seen
  refine lines_eq (n := n) h1.fence.stays (by exact h1.seen) (fun k hk => ?_)
  rw [h2]
  exact lineAt_putAll hk _ _ h1.stays h1.waits (h4 k hk).2 (.inl (h4 k hk).1)
theorem dirty_same (a : List Int) (n : Nat) : dirty a a n = 0 := by
  unfold dirty
  rw [List.countP_eq_zero]
  intro j _
  simp
theorem crash_clean {d : Dv} (marks : List Bool) (h1 : d.stays = d.seen) (h2 : d.waits = []) : d.crash marks = d := by
  unfold Dv.crash
  rw [h2, show putSome marks d.stays [] = d.stays from rfl]
  cases d
  simp at h1 h2 ⊢
  exact ⟨h1, h2⟩
end Go.Proofs.YtkpiehejkhjhlaaDoor

/-
  Medias compared.
-/
namespace Go.Proofs.YtkpiehejkhjhlaaDoor
open Go.RowKit Go.Shelf

theorem fieldsM : (Tryd.prog.fieldsOf 31).toList.map (fun f => (f.name, f.type, f.offset)) = [("Lines", 3, 0), ("Waiting", 3, 1), ("Dirty", 3, 2)] := by kernel_rfl
theorem three_of_map {α β : Type} {g : α → β} {l : List α} {a b c : β} (h : l.map g = [a, b, c]) : ∃ x y z, l = [x, y, z] ∧ g x = a ∧ g y = b ∧ g z = c := by
  match l, h with
  | [x, y, z], h => simp at h; exact ⟨x, y, z, rfl, h.1, h.2.1, h.2.2⟩
theorem equal_media (a b c a' b' c' : Int) (w : World) : (Op.equalIn 10000 31 (.agg #[.int .i64 a, .int .i64 b, .int .i64 c]) (.agg #[.int .i64 a', .int .i64 b', .int .i64 c'])).run Tryd.prog w = .ok (a == a' && (b == b' && c == c')) w := by
  obtain ⟨f1, f2, f3, hf, h1, h2, h3⟩ := three_of_map fieldsM
  rw [run_equalIn_agg w 9999 31 _ _ (by kernel_rfl) (by kernel_rfl), hf]
  simp only [Prod.mk.injEq] at h1 h2 h3
  obtain ⟨n1, t1, o1⟩ := h1
  obtain ⟨n2, t2, o2⟩ := h2
  obtain ⟨n3, t3, o3⟩ := h3
  have e0 : ∀ x y z : Int, (part 3 #[.int .i64 x, .int .i64 y, .int .i64 z] 0).run Tryd.prog w = .ok (.int .i64 x) w := fun x y z => by simp [part, isAgg, run_underlying Tryd.underlying3]
  have e1 : ∀ x y z : Int, (part 3 #[.int .i64 x, .int .i64 y, .int .i64 z] 1).run Tryd.prog w = .ok (.int .i64 y) w := fun x y z => by simp [part, isAgg, run_underlying Tryd.underlying3]
  have e2 : ∀ x y z : Int, (part 3 #[.int .i64 x, .int .i64 y, .int .i64 z] 2).run Tryd.prog w = .ok (.int .i64 z) w := fun x y z => by simp [part, isAgg, run_underlying Tryd.underlying3]
  have q := fun x y : Int => run_equalIn_int (P := Tryd.prog) w 9998 3 .i64 .i64 x y Tryd.underlying3
  simp only [Op.eqFields, n1, n2, n3, t1, t2, t3, o1, o2, o3, ne_eq, String.reduceEq, not_false_eq_true, if_true, Sem.run_bind, e0, q, Result.andThen_ok]
  cases h1 : (a == a') with
  | false => simp
  | true =>
    simp only [Bool.not_true, Bool.false_eq_true, if_false, Sem.run_bind, e1, q, Result.andThen_ok]
    cases h2 : (b == b') with
    | false => simp
    | true =>
      simp only [Bool.not_true, Bool.false_eq_true, if_false, Sem.run_bind, e2, q, Result.andThen_ok]
      cases h3 : (c == c') <;> simp
theorem neq_media (a b c a' b' c' : Int) (w : World) : (binOp .neq 31 (.agg #[.int .i64 a, .int .i64 b, .int .i64 c]) (.agg #[.int .i64 a', .int .i64 b', .int .i64 c'])).run Tryd.prog w = .ok (.bool (!(a == a' && (b == b' && c == c')))) w := by
  rw [run_neq_struct, equal_media]
  rfl
theorem eql_media (a b c a' b' c' : Int) (w : World) : (binOp .eql 31 (.agg #[.int .i64 a, .int .i64 b, .int .i64 c]) (.agg #[.int .i64 a', .int .i64 b', .int .i64 c'])).run Tryd.prog w = .ok (.bool (a == a' && (b == b' && c == c'))) w := by
  rw [run_eql_struct, equal_media]
  rfl
end Go.Proofs.YtkpiehejkhjhlaaDoor

/-
  Devices all of whose blocks lie from a place on; calls of them; the ends of law PmemAll.
-/
namespace Go.Proofs.YtkpiehejkhjhlaaDoor
open Go.RowKit Go.Shelf

/-- A device in block B, all of whose blocks lie from lo on. -/
def DevIn (w : World) (lo n B : Nat) (d : Dv) : Prop := ∃ F S T cS cT q, DevB w F B S T n cS cT q d ∧ ∀ k, F k → lo ≤ k
section
variable {w w' : World} {lo n B : Nat} {d : Dv}
theorem DevIn.below (h : DevIn w lo n B d) (hb : Below w.heap.size w w') : DevIn w' lo n B d := by
  obtain ⟨F, S, T, cS, cT, q, hd, hF⟩ := h
  exact ⟨F, S, T, cS, cT, q, hd.below hb, hF⟩
theorem DevIn.lower {lo' : Nat} (h : DevIn w lo n B d) (hl : lo' ≤ lo) : DevIn w lo' n B d := by
  obtain ⟨F, S, T, cS, cT, q, hd, hF⟩ := h
  exact ⟨F, S, T, cS, cT, q, hd, fun k hk => Nat.le_trans hl (hF k hk)⟩
theorem DevIn.ok (h : DevIn w lo n B d) : d.Ok n := by
  obtain ⟨F, S, T, cS, cT, q, hd, hF⟩ := h
  exact hd.ok
theorem SlB.mono {F F' : Nat → Prop} {v : Value} {l : List Bool} (h : SlB w F v l) (hF : ∀ k, F' k → F k) : SlB w F' v l := by
  obtain ⟨a, cap, hv, hc⟩ := h
  refine ⟨a, cap, hv, fun h0 => ?_⟩
  obtain ⟨b, off, ha, hb, hn, hj⟩ := hc h0
  exact ⟨b, off, ha, hb, fun h => hn (hF _ h), hj⟩
theorem Turn.of_low (hb : Below lo w w') : Turn (fun k => lo ≤ k) w w' := ⟨hb.os, hb.tape, hb.output, hb.size, fun k _ hn => hb.block k (by omega)⟩
theorem SlB.low {v : Value} {l : List Bool} (h : SlB w (fun k => lo ≤ k) v l) (hb : Below lo w w') : SlB w' (fun k => lo ≤ k) v l := h.turn (Turn.of_low hb)
theorem SlA.low {v : Value} {xs : List Ask} (h : SlA w (fun k => lo ≤ k) v xs) (hb : Below lo w w') : SlA w' (fun k => lo ≤ k) v xs := h.turn (Turn.of_low hb)
theorem new_in (n : Nat) (h1 : 0 < n) (h2 : n ≤ 1024) (w : World) (hen : Ends w) :
    Calls Tryd.prog 8 #[.int .i64 n] w fun e w' => ∃ B, e = .returned (.tuple #[.pointer (some ⟨B, 0, none⟩), .int .i64 0]) ∧ Below w.heap.size w w' ∧ DevIn w' w.heap.size n B (Dv.new n) :=
  (new_any n h1 h2 w hen.room).mono fun _e _w' ⟨B, he, hb, S, T, cS, cT, q, hd⟩ => ⟨B, he, hb, _, S, T, cS, cT, q, hd, fun _ hk => hk.1⟩
theorem flush_in (i : Int) (hl : lo ≤ w.heap.size) (h : DevIn w lo n B d) :
    Calls Tryd.prog 21 #[.pointer (some ⟨B, 0, none⟩), .int .i64 i] w fun e w' => e = .returned (.int .i64 (errR (inR n i))) ∧ Below lo w w' ∧ DevIn w' lo n B (d.flush n i) := by
  obtain ⟨F, S, T, cS, cT, q, hd, hF⟩ := h
  exact (flush_any i w hd).mono fun e w' ⟨he, ht, q', hd'⟩ => ⟨he, ht.below hF hl, _, S, T, cS, cT, q', hd', more_low hF hl⟩
theorem fence_in (hl : lo ≤ w.heap.size) (h : DevIn w lo n B d) :
    Calls Tryd.prog 22 #[.pointer (some ⟨B, 0, none⟩)] w fun e w' => e = .returned (.int .i64 0) ∧ Below lo w w' ∧ DevIn w' lo n B d.fence := by
  obtain ⟨F, S, T, cS, cT, q, hd, hF⟩ := h
  exact (fence_any w hd).mono fun e w' ⟨he, ht, q', hd'⟩ => ⟨he, ht.below hF hl, _, S, T, cS, cT, q', hd', hF⟩
theorem store_in (i x : Int) (hl : lo ≤ w.heap.size) (hen : Ends w) (h : DevIn w lo n B d) :
    Calls Tryd.prog 20 #[.pointer (some ⟨B, 0, none⟩), .int .i64 i, .int .u64 x] w fun e w' => e = .returned (.int .i64 (errR (inR (n * 8) i))) ∧ Below lo w w' ∧ DevIn w' lo n B (d.store n i x) := by
  obtain ⟨F, S, T, cS, cT, q, hd, hF⟩ := h
  exact (store_any i x w hen hd).mono fun e w' ⟨he, ht, hd'⟩ => ⟨he, ht.below hF hl, _, S, T, cS, cT, q, hd', hF⟩
theorem crash_in {v : Value} (marks : List Bool) (hmk : marks.length ≤ 100000) (hl : lo ≤ w.heap.size) (h : DevIn w lo n B d) (hm : SlB w (fun k => lo ≤ k) v marks) :
    Calls Tryd.prog 24 #[.pointer (some ⟨B, 0, none⟩), v] w fun e w' => e = .returned (.int .i64 0) ∧ Below lo w w' ∧ DevIn w' lo n B (d.crash marks) := by
  obtain ⟨F, S, T, cS, cT, q, hd, hF⟩ := h
  exact (crash_any marks hmk w hd (hm.mono hF)).mono fun e w' ⟨he, ht, q', hd'⟩ => ⟨he, ht.below hF hl, _, S, T, cS, cT, q', hd', hF⟩
theorem state_in (h : DevIn w lo n B d) :
    Calls Tryd.prog 12 #[.pointer (some ⟨B, 0, none⟩)] w fun e w' => e = .returned (.agg #[.int .i64 (n : Nat), .int .i64 (d.waits.length : Nat), .int .i64 (dirty d.seen d.stays n : Nat)]) ∧ Below w.heap.size w w' := by
  obtain ⟨F, S, T, cS, cT, q, hd, hF⟩ := h
  exact state_any w hd
theorem copy_in (h : DevIn w lo n B d) :
    Calls Tryd.prog 25 #[.pointer (some ⟨B, 0, none⟩)] w fun e w' => ∃ B', e = .returned (.pointer (some ⟨B', 0, none⟩)) ∧ Below w.heap.size w w' ∧ DevIn w' w.heap.size n B' d := by
  obtain ⟨F, S, T, cS, cT, q, hd, hF⟩ := h
  exact (copy_any w hd).mono fun e w' ⟨hb, B', S', T', cS', cT', q', he, hd'⟩ => ⟨B', he, hb, _, S', T', cS', cT', q', hd', fun _ hk => hk.1⟩
theorem same_in {lo' B' : Nat} {d' : Dv} (h : DevIn w lo n B d) (h' : DevIn w lo' n B' d') :
    Calls Tryd.prog 26 #[.pointer (some ⟨B, 0, none⟩), .pointer (some ⟨B', 0, none⟩)] w fun e w' => e = .returned (.bool (d.same d')) ∧ Below w.heap.size w w' := by
  obtain ⟨F, S, T, cS, cT, q, hd, hF⟩ := h
  obtain ⟨F', S', T', cS', cT', q', hd', hF'⟩ := h'
  exact (sameD_any w hd hd').mono fun e w' ⟨he, m, hm⟩ => ⟨he, by subst hm; exact below_drewN (Below.refl _ _) _⟩
theorem load_in (i : Int) (hen : Ends w) (h : DevIn w lo n B d) :
    Calls Tryd.prog 15 #[.pointer (some ⟨B, 0, none⟩), .int .i64 i] w fun e w' => e = .returned (.tuple #[.int .u64 (d.load n i), .int .i64 (errR (inR (n * 8) i))]) ∧ Below w.heap.size w w' := by
  obtain ⟨F, S, T, cS, cT, q, hd, hF⟩ := h
  exact load_any i w hen hd
theorem stays_in (i : Int) (hen : Ends w) (h : DevIn w lo n B d) :
    Calls Tryd.prog 17 #[.pointer (some ⟨B, 0, none⟩), .int .i64 i] w fun e w' => e = .returned (.tuple #[.int .u64 (d.stay n i), .int .i64 (errR (inR (n * 8) i))]) ∧ Below w.heap.size w w' := by
  obtain ⟨F, S, T, cS, cT, q, hd, hF⟩ := h
  exact stays_any i w hen hd
end
theorem same_self (d : Dv) : d.same d = true := by simp [Dv.same]
theorem all_end {d : Dv} (hok : d.Ok 5) (marks : List Bool) : (d.flushTo 5 5).fence.waits.length = 0 ∧ dirty (d.flushTo 5 5).fence.seen (d.flushTo 5 5).fence.stays 5 = 0 ∧ ((d.flushTo 5 5).fence.crash marks).same (d.flushTo 5 5).fence = true := by
  obtain ⟨h1, h2, h3⟩ := flushed_all hok
  refine ⟨by rw [h2]; rfl, by rw [h1]; exact dirty_same _ _, ?_⟩
  rw [crash_clean marks h1 h2]
  exact same_self _
end Go.Proofs.YtkpiehejkhjhlaaDoor

/-
  A region that draws its order: what reads no world at all comes first, whether the operation that waits for others waits for it or not.
-/
namespace Go.Proofs.YtkpiehejkhjhlaaDoor
open Go.RowKit Go.Shelf

section
variable {P : Program} {md : Region.Mode} {ops : Array Oper} {Q : Exit → Act → World → Prop} {m : Nat} {R : World → Prop}
theorem wpAnyM_firstP {i : Nat} {oi : Oper} {v : Value} (hi : ops[i]? = some oi) (hsel : ∀ (j : Nat) (o : Oper) cs b, ops[j]? = some o → o.op ≠ .select cs b)
    (hQ : ∀ c a w, Q (.panic c) (a.put oi.dst v) w → Q (.panic c) a w) (hmi : m ≠ i) : ∀ (f : Nat) (l : Array Bool) (a : Act) (w : World),
      (∀ j oj, ops[j]? = some oj → j ≠ i → l.getD j true = false → (∀ e ∈ oj.after, Region.binds md e = true → e.on ≠ i) → oi.apart ops oj = true) →
      i ∈ Region.ready md ops l → Yields P ops oi v a → Till m R l w →
      wpAnyM P md ops Q m R f (l.setIfInBounds i true) (a.put oi.dst v) w → wpAnyM P md ops Q m R (f + 1) l a w
  | f, l, a, w, hfree, hr, hy, hT, H => by
    have hil := (mem_ready.1 hr).1
    refine ⟨fun h => (by rw [h] at hr; cases hr), fun j hj => ?_⟩
    by_cases hji : j = i
    · subst hji
      exact hy.wpOp hi ⟨hT.set _, H⟩
    · have hrj := ready_mono hj hji
      cases f with
      | zero =>
        have h0 := H.1
        rw [h0] at hrj
        cases hrj
      | succ f =>
        obtain ⟨hjun, oj, hoj, -⟩ := mem_ready.1 hj
        have hnot := unlisted_not hj hoj hil
        have h2 := wpOp_put hoj (hfree j oj hoj hji hjun hnot) (fun cs b => hsel i oi cs b hi) (fun cs b => hsel j oj cs b hoj) hQ hy (H.2 j hrj)
        refine wpOp_mono (fun a' w' h3 => ?_) h2
        obtain ⟨hya, hTa, hMa⟩ := h3
        have hT2 : Till m R (l.setIfInBounds j true) w' := fun hl => hTa (by
          rw [Array.setIfInBounds_comm _ _ (Ne.symm hji), getD_set_ne true (Ne.symm hmi)]
          exact hl)
        refine ⟨hT2, wpAnyM_firstP hi hsel hQ hmi f (l.setIfInBounds j true) a' w' (fun k ok hk hki hku hno => ?_) (ready_mono hr (Ne.symm hji)) hya hT2 ?_⟩
        · exact hfree k ok hk hki (getD_set_true hku) hno
        · rw [Array.setIfInBounds_comm _ _ hji]; exact hMa
/-- Number i, which reads no world, comes first. -/
theorem wpAnyM_pure {i : Nat} {oi : Oper} {v : Value} {f : Nat} {l : Array Bool} {a : Act} {w : World} (hi : ops[i]? = some oi) (hs : Region.noSelect ops = true)
    (hc : (Region.free md ops l i && (Region.ready md ops l).contains i && (m != i)) = true)
    (hQ : ∀ c a w, Q (.panic c) (a.put oi.dst v) w → Q (.panic c) a w) (hy : Yields P ops oi v a) (hw : R w)
    (h : wpAnyM P md ops Q m R f (l.setIfInBounds i true) (a.put oi.dst v) w) : wpAnyM P md ops Q m R (f + 1) l a w := by
  simp only [Bool.and_eq_true, bne_iff_ne, ne_eq] at hc
  obtain ⟨⟨h1, h2⟩, h3⟩ := hc
  exact wpAnyM_firstP hi (Region.noSelect_spec hs) hQ h3 f l a w (Region.free_spec hi h1) (by simpa using h2) hy (fun _ => hw) h
/-- Of two that are ready either may come (inside a fence). -/
theorem wpAnyN_two {Fc : Fence} {n : Nat} {i j : Nat} {oi oj : Oper} {f : Nat} {l : Array Bool} {a : Act} {w : World} (hi : ops[i]? = some oi) (hj : ops[j]? = some oj) (hr : Region.ready md ops l = [i, j])
    (hgi : Region.wanted oi (yielded ops a.tmps) = true) (hgj : Region.wanted oj (yielded ops a.tmps) = true)
    (h : ∀ K : Act → World → Prop, (∀ a' w', ((l.setIfInBounds i true).getD m true = false → R w') → wpAnyN Fc n P md ops Q m R f (l.setIfInBounds i true) a' w' → K a' w') → Oper.wpIn Fc n P oi a w K Q)
    (h' : ∀ K : Act → World → Prop, (∀ a' w', ((l.setIfInBounds j true).getD m true = false → R w') → wpAnyN Fc n P md ops Q m R f (l.setIfInBounds j true) a' w' → K a' w') → Oper.wpIn Fc n P oj a w K Q) : wpAnyN Fc n P md ops Q m R (f + 1) l a w := by
  refine ⟨fun h0 => (by rw [h0] at hr; cases hr), fun k hk => ?_⟩
  rw [hr] at hk
  rcases (by simpa using hk : k = i ∨ k = j) with rfl | rfl
  · unfold wpOpIn
    simp only [hi]
    rw [if_pos hgi]
    exact h _ fun a' w' h1 h2 => ⟨h1, h2⟩
  · unfold wpOpIn
    simp only [hj]
    rw [if_pos hgj]
    exact h' _ fun a' w' h1 h2 => ⟨h1, h2⟩
end
end Go.Proofs.YtkpiehejkhjhlaaDoor

/-
  The frame of a law's row: whatever the arguments are, they read behind the call as they did, if nothing that lay has turned.
-/
namespace Go.Proofs.YtkpiehejkhjhlaaDoor
open Go.ChangeShapes Go.WideShapes Go.ChangeAt Go.RowKit

theorem own : ownKnob Tryd.prog.godebug = none := by kernel_rfl
theorem laidOut : laidOutB Tryd.prog = true := by kernel_rfl
/-- One listed variable's reading. -/
def ReadsAs (P : Program) (w : World) (n : String) (d : DataW Unit) : Prop :=
  ∃ g t cs fuel p, P.globalNamed n = some g ∧ (P.globals[g]?).map (·.type) = some t ∧ w.var? P n = some cs ∧ DataW.trod (fun _ => ()) P w 0 (fun _ => true) false fuel t cs.toList = some (d, p)
theorem readsAs_list {P : Program} {w : World} : ∀ {l : List (String × DataW Unit)} {ps : List MemPlace}, DataW.LaidVars P w l ps → ∀ x ∈ l, ReadsAs P w x.1 x.2
  | [], _, _, _, hm => by cases hm
  | y :: r, ps, h, x, hm => by
    obtain ⟨g, t, cs, fuel, p, q, h1, h2, h3, h4, h5, _⟩ := h
    rcases List.mem_cons.1 hm with e | e
    · subst e; exact ⟨g, t, cs, fuel, p, h1, h2, h3, h4⟩
    · exact readsAs_list h5 x e
theorem readsAs_of_laid {P : Program} {w : World} {l : List (String × DataW Unit)} (h : laidMet P l w) {n : String} {d : DataW Unit} (hm : (n, d) ∈ l) : ReadsAs P w n d :=
  let ⟨_, hv, _⟩ := h
  readsAs_list hv (n, d) hm
/-- A listed array of integers holds them, cell for cell. -/
theorem tabIs_of_reads {P : Program} {W : World} {name : String} {k : IntKind} {zs : List Int} {g : Nat} {t e : TypeId} {n : Nat}
    (hg : P.globalNamed name = some g) (hty : (P.globals[g]?).map (·.type) = some t) (ht : P.underlying t = some (.array n e)) (he : P.underlying e = some (.int k)) (hce : P.cellsOf e = 1) (hct : P.cellsOf t = n)
    (h : ReadsAs P W name (Lib.tabData k zs)) : Lib.TabIs P W name k zs := by
  obtain ⟨g', t', cs, fuel, p, hg', ht', hvar, hd⟩ := h
  obtain rfl := Option.some.inj (hg.symm.trans hg')
  obtain rfl := Option.some.inj (hty.symm.trans ht')
  unfold Lib.TabIs
  rw [hvar, ← Lib.cells_of_tab ht he hce hct hd]
/-- These types read as data. -/
def typesOk (P : Program) (ts : List TypeId) : Bool := ts.all fun t => P.readableRec t && decide (t < P.types.size)
theorem trodAll_below {H : Type} {enc : TypeId × Value → H} {P : Program} (hl : laidOutB P = true) {W W' : World} (hb : Below W.heap.size W W') :
    ∀ {ts : List TypeId} {vs : List Value} {ds : List (DataW H)} {ps : List MemPlace}, typesOk P ts = true → DataW.TrodAll enc P W 0 (fun _ => true) true ts vs ds ps → (∀ x ∈ ps, x.block < W.heap.size) →
      DataW.TrodAll enc P W' 0 (fun b => decide (b < W.heap.size)) true ts vs ds ps
  | [], [], [], _, _, h, _ => h
  | [], [], _ :: _, _, _, h, _ => h.elim
  | [], _ :: _, _, _, _, h, _ => by cases h
  | _ :: _, [], _, _, _, h, _ => by cases h
  | _ :: _, _ :: _, [], _, _, h, _ => by cases h
  | t :: ts, v :: vs, d :: ds, ps, ht, ⟨p, q, h1, h2, e⟩, hlt => by
    simp only [typesOk, List.all_cons, Bool.and_eq_true, decide_eq_true_eq] at ht
    subst e
    exact ⟨p, q, Below.trod hl ht.1.1 ht.1.2 h1 hb (fun x hx => hlt x (List.mem_append_left _ hx)),
      trodAll_below hl hb (by simpa [typesOk] using ht.2) h2 (fun x hx => hlt x (List.mem_append_right _ hx)), rfl⟩
/-- A law's post: it returned true, and nothing that lay has turned. -/
theorem law_post {H : Type} {enc : TypeId × Value → H} {P : Program} (hl : laidOutB P = true) {f : Func} {s : ChangeSpec} {apart fresh handsOn : Bool} {W W' : World} {args : Array Value} {ds gs : List (DataW H)} {before : List MemPlace} {tb : TypeId}
    (hW : DataW.Whole enc P f.params.toList s.vars apart W args.toList ds gs before) (hv0 : s.vars = []) (hres : (s.fn H (ds ++ [])).results = [.lit (.bool true)]) (hargs : (s.fn H (ds ++ [])).args = ds) (hvars : (s.fn H (ds ++ [])).vars = [])
    (ht : typesOk P f.params.toList = true) (hrt : f.resultTypes = #[tb]) (htb : P.underlying tb = some .bool) (hb : Below W.heap.size W W') :
    s.post enc P f apart fresh handsOn false W args (.bool true) W' := by
  have hW' := hW
  obtain ⟨p, q, hA, hV, hbef, hfz, hnd⟩ := hW
  rw [hv0] at hV
  obtain ⟨rfl, rfl⟩ := trodVars_none hV
  rw [List.append_nil] at hbef
  subst hbef
  have hlt : ∀ x ∈ before, x.block < W.heap.size := fun x hx => hW'.lt x hx
  refine ⟨ds, [], before, [], before, [], hW', ?_, ?_, ?_, World.keptBut_mono (fun x hx => ⟨hx, .inr ?_⟩) (hb.frame (· ∈ before)), fun h => by cases h⟩
  · rw [hres, hrt]
    exact trodAll_cons_mk (shut_bool htb _) trodAll_mk0
  · rw [hargs]
    exact trodAll_below hl hb ht hA hlt
  · rw [hvars, hv0]
    rfl
  · simpa using hx
end Go.Proofs.YtkpiehejkhjhlaaDoor

/-
  What the rows' lists of package-level variables give: place.ends.
-/
namespace Go.Proofs.YtkpiehejkhjhlaaDoor
open Go.ChangeShapes Go.WideShapes Go.ChangeAt Go.RowKit

def zsE : List Int := [1024, 8]
theorem laidE {H : Type} : (Rows.laid_waterline_place_ends : DataW H) = Lib.tabData .i64 zsE := by kernel_rfl
theorem gE : Tryd.prog.globalNamed "waterline/place.ends" = some 0 := by kernel_rfl
theorem tE : (Tryd.prog.globals[(0 : Nat)]?).map (·.type) = some 122 := by kernel_rfl
theorem cE : Tryd.prog.cellsOf 122 = 2 := by kernel_rfl
theorem cInt : Tryd.prog.cellsOf 3 = 1 := by kernel_rfl
theorem ends_of_laid {W : World} (h : laidMetH Tryd.prog [("waterline/place.ends", Rows.laid_waterline_place_ends)] W) : Ends W := by
  have hL : laidMet Tryd.prog [("waterline/place.ends", Rows.laid_waterline_place_ends)] W := h
  have hb : Lib.TabIs Tryd.prog W "waterline/place.ends" .i64 zsE := tabIs_of_reads gE tE Tryd.underlying122 Tryd.underlying3 cInt cE (by rw [← laidE]; exact readsAs_of_laid hL (.head _))
  have h0 := hb.cell gE 0 (by decide)
  have h1 := hb.cell gE 1 (by decide)
  refine ⟨h0, h1, ?_⟩
  rcases Nat.lt_or_ge 0 W.heap.size with h2 | h2
  · exact h2
  · unfold World.cell? at h0
    rw [Array.getElem?_eq_none (by simpa using h2)] at h0
    cases h0
/-- A block of cells, with other cells. -/
def withCellsE (cs : Array Value) : Obj → Obj
  | .cells _ t frozen => .cells cs t frozen
  | o => o
/-- A WORLD FOR THE WITNESS: the settled one, ends holding what its initialiser lays. -/
noncomputable def endsWorld (os : Os) : World :=
  { World.holding Tryd.prog os ⟨#[], #[], []⟩ with heap := Array.modify (World.holding Tryd.prog os ⟨#[], #[], []⟩).heap 0 (withCellsE (zsE.map (Value.int .i64)).toArray) }
end Go.Proofs.YtkpiehejkhjhlaaDoor

/-
  A slice of unsigned numbers that a law is handed, opened: the numbers as naturals, and its capacity.
-/
namespace Go.Proofs.YtkpiehejkhjhlaaDoor
open Go.ChangeShapes Go.WideShapes Go.ChangeAt Go.RowKit

set_option maxRecDepth 100000 in
theorem open_sl {H : Type} {enc : TypeId × Value → H} {W : World} {base : Nat} {t e : TypeId} {k : IntKind} {v : Value} {d : DataW H} {p : List MemPlace}
    (ht : Tryd.prog.underlying t = some (.slice e)) (he : Tryd.prog.underlying e = some (.int k)) (hc : Tryd.prog.cellsOf e = 1) (hk : ∀ n, (Lit.int k n).wf = true → 0 ≤ n)
    (hval : Value.okWide Tryd.prog W .any base t v) (h : DataW.Trod enc Tryd.prog W 0 (fun _ => true) true t v d p) (hlt : ∀ x ∈ p, x.block < W.heap.size) :
    ∃ xs : List Nat, Sl W k v xs ∧ (∀ x ∈ xs, (Lit.int k (x : Int)).wf = true) ∧
      ((v = .slice none 0 0 ∧ xs = [] ∧ d = .nil) ∨ ∃ a cap el sp, v = .slice (some a) xs.length cap ∧ d = .slice el sp ∧ el.length + sp.length = cap) := by
  obtain ⟨a0, len, cap, rfl⟩ := okWide_slice ht hval
  obtain ⟨fuel, hf⟩ := h
  rcases open_ints ht he hc hf with ⟨hcs, hx⟩ | ⟨a, len', cap', zs, hcs, _, hl, hm, hz, hx, hcell, hwz⟩
  · simp [Value.cells] at hcs
    obtain ⟨rfl, rfl, rfl⟩ := hcs
    simp only [Prod.mk.injEq] at hx
    exact ⟨[], ⟨none, 0, rfl, Nat.le_refl _, fun h => by simp at h⟩, (fun x hx => by cases hx), .inl ⟨rfl, rfl, hx.1⟩⟩
  · simp [Value.cells] at hcs
    obtain ⟨rfl, rfl, rfl⟩ := hcs
    simp only [Prod.mk.injEq] at hx
    obtain ⟨rfl, rfl⟩ := hx
    simp only [if_true] at hz
    have hlen : ((zs.take len).map Int.toNat).length = len := by simp; omega
    refine ⟨(zs.take len).map Int.toNat, ⟨some a, cap, by rw [hlen], by omega, fun h0 => ?_⟩, fun x hx => ?_, .inr ⟨a, cap, _, _, by rw [hlen], rfl, ?_⟩⟩
    · obtain ⟨b, off, rfl, hj⟩ := ints_at hcell (by omega)
      refine ⟨b, off, rfl, hlt (.cell b off) (MemPlace.mem_row.2 ⟨0, by omega, by simp⟩), fun j hjl => ?_⟩
      rw [hlen] at hjl
      rw [hj j (by omega)]
      have h0 := hk _ (hwz _ (List.getElem_mem (show j < zs.length by omega)))
      simp [List.getD, List.getElem?_map, hjl, List.getElem?_eq_getElem (show j < zs.length by omega)]
      omega
    · obtain ⟨z, hz1, rfl⟩ := List.mem_map.1 hx
      have hw := hwz z (List.mem_of_mem_take hz1)
      have h0 := hk _ hw
      rwa [Int.toNat_of_nonneg h0]
    · simp [lits]; omega
theorem nn8 : ∀ n, (Lit.int .u8 n).wf = true → 0 ≤ n := fun _ h => (bounds_u8 h).1
theorem nn64 : ∀ n, (Lit.int .u64 n).wf = true → 0 ≤ n := fun _ h => (bounds_u64 h).1
theorem getD_all {xs : List Nat} {m : Nat} (hm : 0 < m) (h : ∀ x ∈ xs, x < m) (i : Nat) : xs[i]?.getD 0 < m := by
  by_cases hi : i < xs.length
  · simp [hi, h _ (List.getElem_mem hi)]
  · simp [List.getElem?_eq_none (by omega : xs.length ≤ i), hm]
end Go.Proofs.YtkpiehejkhjhlaaDoor
