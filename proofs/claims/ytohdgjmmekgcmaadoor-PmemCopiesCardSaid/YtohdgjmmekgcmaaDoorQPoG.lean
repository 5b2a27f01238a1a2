/-
  The law's is: does a device stand as the document's?
-/
import Derived.Test.YtohdgjmmekgcmaaDoorMg17
namespace Go.Proofs.YtohdgjmmekgcmaaDoor
open Go.RowKit Go.Shelf
attribute [local go_sem] Oper.semAt_some

/-- A block that is no part of q. -/
def HeapF (b : Nat) (o : Obj) (q : Nat → Prop) (W : World) : Prop := W.heap[b]? = some o ∧ ¬ q b
theorem Abides.heap {β : Type} (b : Nat) (f : β → Obj) : Abides (fun s q W => HeapF b (f s) q W) := fun _ _ _ _ _ hs ht hq => ⟨(ht.block b (Array.getElem?_eq_some_iff.1 hs.1).1 hs.2).trans hs.1, fun h => (hq b h).elim hs.2 fun h2 => by have := (Array.getElem?_eq_some_iff.1 hs.1).1; omega⟩
/-- The block of a queue of lines. -/
theorem que_block {W : World} {A P : Nat} {ua : Option Addr} {uc : Nat} {ls : List Nat} (hP : P < W.heap.size) (h : QueAt W A (.slice ua ls.length uc) ls) :
    ∃ g, g < W.heap.size ∧ (0 < ls.length → A ≤ g) ∧ (0 < ls.length → ua = some ⟨g, 0, none⟩ ∧ W.ownsRow A 3 1 (.slice (some ⟨g, 0, none⟩) ls.length uc) ls.length (valsOf .i64 ls)) := by
  have h' := h
  unfold QueAt at h'
  rcases h'.2 with ⟨e0, h0⟩ | ⟨g, cap, cur, e0, hb, hg, hr⟩
  · exact ⟨P, hP, (fun h1 => by omega), fun h1 => by omega⟩
  · refine ⟨g, (Array.getElem?_eq_some_iff.1 hg).1, (fun _ => hb), fun _ => ?_⟩
    simp only [Value.slice.injEq, true_and] at e0
    obtain ⟨rfl, rfl⟩ := e0
    exact ⟨rfl, h'⟩
/-- In the rounds of is. -/
def IsI (w : World) (nb s r : Nat) (o : Obj) (pre : List Nat) (q : Nat → Prop) (W : World) : Prop :=
  BoxF nb 3 (.int .i64 (pre.length : Nat)) q W ∧ HeapF s o q W ∧ BoxF r 4 (.bool false) q W ∧ BelowF w.heap.size w q W
theorem abides_is (w : World) (nb s r : Nat) (o : Obj) : Abides (IsI w nb s r o) :=
  Abides.and (Abides.box _ _ (fun pre : List Nat => .int .i64 (pre.length : Nat))) (Abides.and (Abides.heap _ (fun _ => o)) (Abides.and (Abides.box _ _ (fun _ => .bool false)) (Abides.below _ _)))
set_option maxRecDepth 100000 in
set_option maxHeartbeats 8000000 in
theorem is_any {F : Nat → Prop} {B S T n cS cT S' T' cS' cT' : Nat} {q q' : Value} {d : Dv} (w : World) (hen : Ends w) (h : DevB w F B S T n cS cT q d) (hv : RefV w F S' T' n cS' cT' q' d) :
    Calls Tryd.prog 20 #[.pointer (some ⟨B, 0, none⟩), .agg (refA S' T' n cS' cT' q')] w fun e w' => e = .returned (.bool true) ∧ Below w.heap.size w w' := by
  obtain ⟨a, c, rfl⟩ := hv.waits.slice_n
  have hm := h.most
  have hN2 : d.waits.length ≤ 1024 := by have := h.ok.few; have := h.most; omega
  obtain ⟨W0, hW0⟩ : ∃ W0, ((w.alloc (.cells (refA S' T' n cS' cT' (.slice a d.waits.length c)) 36)).alloc (.cells #[.bool false] 4)) = W0 := ⟨_, rfl⟩
  have b0 : Below w.heap.size w W0 := by rw [← hW0]; exact (by repeat (first | exact Below.refl _ _ | assumption | refine Below.drew ?_ | refine below_drewN ?_ _ | refine Below.alloc ?_ (by (try simp) <;> omega) _ | refine Below.setCell ?_ (by (try simp) <;> omega) _ | refine Below.trans ?_ (Below.mono (by assumption) (by (try simp) <;> omega))))
  have z0 : W0.heap.size = w.heap.size + 2 := by rw [← hW0]; simp
  have hX : Box3 W0 w.heap.size 36 (.slice (some ⟨S', 0, none⟩) n cS') (.slice (some ⟨T', 0, none⟩) n cT') (.slice a d.waits.length c) := by rw [← hW0]; unfold Box3; (simp only [heap_at, World.size_alloc]; repeat (first | rw [if_pos (by omega)] | rw [if_neg (by omega)] | rw [if_pos trivial]))
  have hY : Boxed W0 (w.heap.size + 1) 4 (.bool false) := by rw [← hW0]; unfold Boxed; (simp only [heap_at, World.size_alloc]; repeat (first | rw [if_pos (by omega)] | rw [if_neg (by omega)] | rw [if_pos trivial]))
  have HX := Lib.hid hX
  have HY := Lib.hid hY
  have HB0 := Lib.hid b0
  have HZ0 := Lib.hid z0
  have HD0 := Lib.hid (h.below b0)
  have HV0 := Lib.hid (hv.below b0)
  have HE := Lib.hid hen
  have HVw := Lib.hid hv
  have hd0 : Below W0.heap.size W0 W0.drew := Below.drew (Below.refl _ _)
  have HD1 := Lib.hid (HD0.out.below hd0)
  have HV1 := Lib.hid (HV0.out.below hd0)
  have HX1 := Lib.hid (HX.out.below hd0 (by omega))
  have hqm : ∀ W, (binOp .neq 62 (.agg #[.int .i64 (n : Nat), .int .i64 (d.waits.length : Nat), .int .i64 (dirty d.seen d.stays n : Nat)]) (.agg #[.int .i64 (n : Nat), .int .i64 (d.waits.length : Nat), .int .i64 (dirty d.seen d.stays n : Nat)])).run Tryd.prog W = .ok (.bool false) W := fun W => by rw [neq_media]; simp
  clear h hv hen b0 z0 hX hY hd0
  refine (callsIn_wide (n := 9)).1 ?_
  refine callsIn_of_wp_marks Tryd.func20 rfl trivial ?_ rfl
  simp only [Tryd.ntmps20, List.size_toArray, List.length_cons, List.length_nil, Nat.reduceAdd, Nat.reduceSub, Array.replicate_succ, Array.replicate_zero, List.push_toArray, List.append_toArray, List.nil_append, List.cons_append]
  gi_wp2_with fail
  refine wpIn_normal ?_
  refine wpIn_region_N 4 (fun W : World => W.cell? ⟨w.heap.size, 0, none⟩ = some (.slice (some ⟨S', 0, none⟩) n cS') ∧ W.cell? ⟨w.heap.size, 1, none⟩ = some (.slice (some ⟨T', 0, none⟩) n cT') ∧ W.cell? ⟨w.heap.size, 2, none⟩ = some (.slice a d.waits.length c)) (by kernel_rfl) ?_
  have hR : (fun W : World => W.cell? ⟨w.heap.size, 0, none⟩ = some (.slice (some ⟨S', 0, none⟩) n cS') ∧ W.cell? ⟨w.heap.size, 1, none⟩ = some (.slice (some ⟨T', 0, none⟩) n cT') ∧ W.cell? ⟨w.heap.size, 2, none⟩ = some (.slice a d.waits.length c)) W0.drew := ⟨HX1.out.cells.1, HX1.out.cells.2.1, HX1.out.cells.2.2.1⟩
  have HSA := Lib.hid (state_any W0.drew HD1.out)
  clear hW0
  (refine wpAnyN_take2 8 (i := 0) (v := ?_) (noDefers_of (by kernel_rfl)) rfl (by kernel_rfl) (by kernel_rfl) (fun _ _ _ h => by first | exact h | cases h.1) (fun _ => by first | rfl | simp [Oper.about]) (Or.inl ⟨by rfl, ?_⟩) hR ?_; rotate_left; (focus (intro w hSw; (try dsimp only at hSw); go_simp; (try with_reducible rfl))); (try simp only [put_laws])); (refine wpAnyN_take2 8 (i := 2) (v := ?_) (noDefers_of (by kernel_rfl)) rfl (by kernel_rfl) (by kernel_rfl) (fun _ _ _ h => by first | exact h | cases h.1) (fun _ => by first | rfl | simp [Oper.about]) (Or.inl ⟨by rfl, ?_⟩) hR ?_; rotate_left; (focus (intro w hSw; (try dsimp only at hSw); go_simp; (try with_reducible rfl))); (try simp only [put_laws]))
  (refine wpAnyN_one (i := 1) rfl (by kernel_rfl) (by rfl) (fun K hK => ?_); (try simp only [elem_laws]))
  go_simp
  refine ⟨trivial, ?_⟩
  refine (callsIn_wide.2 HSA.out).mono ?_
  rintro e w1 ⟨rfl, b1⟩
  have HX2 := Lib.hid (HX1.out.below b1 (by have := HZ0.out; show w.heap.size < W0.heap.size; omega))
  refine hK _ _ (fun _ => ⟨HX2.out.cells.1, HX2.out.cells.2.1, HX2.out.cells.2.2.1⟩) ?_
  clear hK K hR
  have hR : (fun W : World => W.cell? ⟨w.heap.size, 0, none⟩ = some (.slice (some ⟨S', 0, none⟩) n cS') ∧ W.cell? ⟨w.heap.size, 1, none⟩ = some (.slice (some ⟨T', 0, none⟩) n cT') ∧ W.cell? ⟨w.heap.size, 2, none⟩ = some (.slice a d.waits.length c)) w1 := ⟨HX2.out.cells.1, HX2.out.cells.2.1, HX2.out.cells.2.2.1⟩
  have HSB := Lib.hid (refState_any w1 (HV1.out.below b1))
  have HB1 := Lib.hid b1
  clear b1
  (try simp only [put_laws])
  (refine wpAnyN_one (i := 3) rfl (by kernel_rfl) (by rfl) (fun K hK => ?_); (try simp only [elem_laws]))
  go_simp
  refine ⟨trivial, ?_⟩
  refine (callsIn_wide.2 HSB.out).mono ?_
  rintro e w2 ⟨rfl, b2⟩
  have HB2 : Hid (Below W0.heap.size W0 w2) := show Below _ _ _ from (Below.drew (Below.refl _ _)).trans (HB1.out.trans (b2.mono HB1.out.size))
  have HX3 := Lib.hid (HX2.out.below b2 HX2.out.lt)
  refine hK _ _ (fun _ => ⟨HX3.out.cells.1, HX3.out.cells.2.1, HX3.out.cells.2.2.1⟩) ?_
  clear hK K hR b2
  have hR : (fun W : World => W.cell? ⟨w.heap.size, 0, none⟩ = some (.slice (some ⟨S', 0, none⟩) n cS') ∧ W.cell? ⟨w.heap.size, 1, none⟩ = some (.slice (some ⟨T', 0, none⟩) n cT') ∧ W.cell? ⟨w.heap.size, 2, none⟩ = some (.slice a d.waits.length c)) w2 := ⟨HX3.out.cells.1, HX3.out.cells.2.1, HX3.out.cells.2.2.1⟩
  (try simp only [put_laws])
  (refine wpAnyN_last rfl (by kernel_rfl) (by rfl) (fun K hK => ?_); (try simp only [elem_laws]))
  go_simp
  refine hK _ _ ?_
  clear hK K hR hqm
  (try simp only [put_laws])
  refine wpAnyN_done (by kernel_rfl) ?_ _
  refine ⟨rfl, ?_⟩
  gi_wp2_with fail
  have HN8 := Lib.hid (show IntKind.i64.wrap (8 * (n : Int)) = 8 * (n : Int) from IntWalk.i64_in _ (by omega))
  gi_loopw [5] (fun i wr => ∃ k : Nat, k ≤ n * 8 ∧ i = .int .i64 (k : Nat) ∧ Hid (Below W0.heap.size W0 wr)) (fun i _ => n * 8 - (intOf i).toNat)
  case atStart => exact ⟨0, by omega, rfl, HB2⟩
  case round =>
    obtain ⟨j, hj, rfl, HJ⟩ := hrel
    have hXr := HX.out.below HJ.out (by have := HZ0.out; omega)
    obtain ⟨c0, c1, c2, -⟩ := hXr.cells
    have hn8 := HN8.out
    by_cases hlt : j < n * 8
    · have hir : inR (n * 8) (j : Int) = true := inR_iff.2 (by omega)
      obtain ⟨X, hX⟩ : ∃ X, d.load n (j : Int) = X := ⟨_, rfl⟩
      obtain ⟨Y, hY⟩ : ∃ Y, d.stay n (j : Int) = Y := ⟨_, rfl⟩
      have hX2 : d.seen[j]?.getD 0 = X := by rw [← hX]; unfold Dv.load; rw [hir, if_pos rfl, Int.toNat_natCast]
      have hY2 : d.stays[j]?.getD 0 = Y := by rw [← hY]; unfold Dv.stay; rw [hir, if_pos rfl, Int.toNat_natCast]
      have HVR := Lib.hid (HV0.out.below HJ.out)
      have HER := Lib.hid ((HE.out.below HB0.out HE.out.room).below HJ.out (by have := HE.out.room; have := HB0.out.size; omega))
      have HL := Lib.hid (load_any (j : Int) wr HER.out (HD0.out.below HJ.out))
      have HS := Lib.hid (fun W (hb : Below wr.heap.size wr W) => stays_any (j : Int) W (HER.out.below hb HER.out.room) ((HD0.out.below HJ.out).below hb))
      rw [hir, hX] at HL
      rw [hir, hY] at HS
      rw [show errR true = 0 from rfl] at HL HS
      have HXR := Lib.hid hXr
      have HX2' := Lib.hid hX2
      have HY2' := Lib.hid hY2
      have hjI : (j : Int) < 8 * (n : Int) := by omega
      clear hX hY hX2 hY2 hir hXr
      gi_wp2_with fail
      refine ⟨trivial, ?_⟩
      refine (callsIn_wide.2 HL.out).mono ?_
      rintro e w3 ⟨rfl, b3⟩
      have HB3 := Lib.hid b3
      clear b3
      gi_wp2_with fail
      refine ⟨trivial, ?_⟩
      refine (callsIn_wide.2 (HS.out _ HB3.out)).mono ?_
      rintro e w4 ⟨rfl, b4⟩
      have hbb : Below wr.heap.size wr w4 := HB3.out.trans (b4.mono HB3.out.size)
      have hX4 := HXR.out.below hbb HXR.out.lt
      obtain ⟨d0, d1, d2, -⟩ := hX4.cells
      have cs := row_word (HVR.out.below hbb).seen j hlt
      have ct := row_word (HVR.out.below hbb).stays j hlt
      rw [HX2'.out] at cs
      rw [HY2'.out] at ct
      have HJ4 : Hid (Below W0.heap.size W0 w4) := show Below _ _ _ from HJ.out.trans (hbb.mono HJ.out.size)
      have HN0 := Lib.hid (fun W => num4_any 0 W)
      have hjj : j / 8 * 8 + j % 8 = j := by omega
      have hq1 : IntKind.i64.wrap ((j : Int) / 8) = (j : Int) / 8 := IntWalk.i64_in _ (by omega)
      have hq2 : IntKind.i64.wrap ((j : Int) % 8) = (j : Int) % 8 := IntWalk.i64_in _ (by omega)
      have hq9 : (j : Int).tmod 8 = (j : Int) % 8 := Int.tmod_eq_emod_of_nonneg (by omega)
      have hq3 : 0 ≤ (j : Int) / 8 := by omega
      have hq4 : (j : Int) / 8 < (n : Int) := by omega
      have hq5 : ((j : Int) / 8).toNat = j / 8 := by omega
      have hq6 : 0 ≤ (j : Int) % 8 := by omega
      have hq7 : (j : Int) % 8 < 8 := by omega
      have hq8 : ((j : Int) % 8).toNat = j % 8 := by omega
      clear hbb b4 hX4 c0 c1 c2
      gi_wp2_with fail
      clear hq1 hq2 hq3 hq4 hq5 hq6 hq7 hq8 hq9 d0 d1 d2 cs ct hjj
      refine ⟨trivial, ?_⟩
      refine (callsIn_wide.2 (HN0.out _)).mono ?_
      rintro e w5 ⟨rfl, rfl⟩
      gi_wp2_with fail
      refine ⟨trivial, ?_⟩
      refine (callsIn_wide.2 (HN0.out _)).mono ?_
      rintro e w5 ⟨rfl, rfl⟩
      gi_wp2_with fail
      go_roundw
      case rel => exact ⟨j + 1, by omega, by go_num, HJ4⟩
      case measure => simp [intOf]; omega
    · have hjI : ¬ (j : Int) < 8 * (n : Int) := by omega
      have HDR := Lib.hid (HD0.out.below HJ.out)
      have HVR := Lib.hid (HV0.out.below HJ.out)
      have HXR := Lib.hid hXr
      have HYR : Hid (Boxed wr (w.heap.size + 1) 4 (.bool false)) := show Boxed _ _ _ _ from (HJ.out.block _ (by have := HZ0.out; omega)).trans HY.out
      have HBR : Hid (Below w.heap.size w wr) := show Below _ _ _ from HB0.out.trans (HJ.out.mono HB0.out.size)
      obtain ⟨W1, hW1⟩ : ∃ W1, wr.alloc (.cells #[.int .i64 0] 3) = W1 := ⟨_, rfl⟩
      have b1 : Below wr.heap.size wr W1 := by rw [← hW1]; exact (Below.refl _ _).alloc (Nat.le_refl _) _
      have hnb : Boxed W1 wr.heap.size 3 (.int .i64 0) := by rw [← hW1]; exact Boxed.new wr 3 _
      have HB1' := Lib.hid b1
      have HNB := Lib.hid hnb
      have HWA := Lib.hid (waits_any W1 (HDR.out.below b1))
      have hqn : ∀ (P0 : Nat) (W : World), (binOp .eql 42 (.func (.func 56) #[] #[.pointer (some ⟨P0, 0, none⟩)]) .nilFunc).run Tryd.prog W = .ok (.bool false) W := fun _ _ => by kernel_rfl
      have HW1E := Lib.hid hW1
      clear b1 hnb hW1 hXr hj
      gi_wp2_with fail
      rw [HW1E.out]
      refine ⟨trivial, ?_⟩
      refine (callsIn_wide.2 HWA.out).mono ?_
      rintro e w3 ⟨P1, u1, rfl, hP1, hB1, hQ1, hb3⟩
      have HB3 := Lib.hid hb3
      have HWB := Lib.hid (waits_any w3 ((HDR.out.below HB1'.out).below hb3))
      have hqn1 := hqn P1
      clear hB1 hQ1 hb3 hP1
      gi_wp2_with fail
      refine ⟨trivial, ?_⟩
      refine (callsIn_wide.2 HWB.out).mono ?_
      rintro e w4 ⟨P2, u2, rfl, hP2, hB2, hQ2, hb4⟩
      obtain ⟨ua, uc, rfl⟩ := own_slice hQ2
      clear hqn hqn1 c0 c1 c2 hn8 hjI
      gi_wp2_with fail
      have hlP := hB2.lt
      obtain ⟨g, hgl, hgA, hga⟩ := que_block hlP hQ2
      have b4 : Below wr.heap.size wr w4 := HB1'.out.trans ((HB3.out.trans (hb4.mono HB3.out.size)).mono HB1'.out.size)
      have hz0 := HZ0.out
      have hzr := HJ.out.size
      have hz4 := b4.size
      have hlN := HNB.out.lt
      have hb34 : Below W1.heap.size W1 w4 := HB3.out.trans (hb4.mono HB3.out.size)
      have HBW : Hid (Below w.heap.size w w4) := show Below _ _ _ from HBR.out.trans (b4.mono HBR.out.size)
      have HL := Lib.hid (show (linesOf d.waits).length = d.waits.length from List.length_map _)
      have hls : (linesOf d.waits).length ≤ 100000 := by rw [HL.out]; omega
      have hI0 : IsI w wr.heap.size w.heap.size (w.heap.size + 1) (.cells #[.slice (some ⟨S', 0, none⟩) n cS', .slice (some ⟨T', 0, none⟩) n cT', .slice a d.waits.length c] 36 (0, 0)) [] (fun _ => False) w4 :=
        ⟨⟨(hb34.block _ hlN).trans HNB.out, id⟩, ⟨(b4.block _ HXR.out.lt).trans HXR.out, id⟩, ⟨(b4.block _ HYR.out.lt).trans HYR.out, id⟩, ⟨HBW.out, HBW.out.size, fun _ h => h.elim⟩⟩
      have hsq := waits_seq 8 (by decide) P2 g uc _ ua (linesOf d.waits) hls w4 hga hB2 hgl
      have HI0 := Lib.hid hI0
      have HSQ := Lib.hid hsq
      have HGL := Lib.hid hgl
      have HGA := Lib.hid (show 0 < d.waits.length → wr.heap.size < g from fun h => by
        have := hgA (by rw [HL.out]; exact h)
        have := HB3.out.size
        omega)
      have HVW := Lib.hid (HVR.out.below b4)
      have HG8 : Hid (∀ k, k = g → k < w4.heap.size) := show ∀ _, _ from fun k hk => by rw [hk]; exact hgl
      clear hI0 hsq hga hgA hgl hQ2 hB2 hb4 hlP hlN hls hP2
      generalize hA : ({ tmps := _, defers := _ } : Act) = A0
      refine wpIn_range_F (n := 9) (by decide) (gf := 56) (lb := #[.pointer (some ⟨P2, 0, none⟩)]) (by rw [← hA]; rfl) (enters_of Tryd.func56 (by kernel_rfl) rfl) HSQ.out HG8.out (Below.refl _ _) (fun _ => rfl)
        (IsI w wr.heap.size w.heap.size (w.heap.size + 1) (.cells #[.slice (some ⟨S', 0, none⟩) n cS', .slice (some ⟨T', 0, none⟩) n cT', .slice a d.waits.length c] 36 (0, 0))) (fun _ _ _ _ => False) (abides_is _ _ _ _ _) (fun _ _ _ _ _ _ h _ _ => h) HI0.out
        (fun x a' _ => a' = { tmps := (A0.tmps.setIfInBounds 74 (.int .i64 (x : Nat))).setIfInBounds 11 (.int .i64 (x : Nat)), defers := [] })
        (fun x a' W1 o h => h)
        ?assign ?body ?done ?stop
      case assign =>
        rintro l2 x W2 K hsz hK
        subst hA
        unfold encI
        dsimp only
        gi_wp2_with fail
        refine hK _ _ ?_ (Below.refl _ _)
        rfl
      case body =>
        rintro l2 pre x a' q2 W2 ⟨⟨hnb, hqn⟩, ⟨hso, hqs⟩, ⟨hr, hqr⟩, hB, hBs, hBq⟩ hs2 hqb hsp rfl
        subst hA
        have hln : pre.length < d.waits.length := by
          have := hsp.length_le
          rw [List.length_append, HL.out, List.length_singleton] at this
          omega
        have hx : x = (ithW d.waits pre.length).1 := by
          have h := hsp.getElem (i := pre.length) (by simp)
          simp at h
          rw [h]
          unfold linesOf ithW
          rw [List.getElem_map, List.getElem?_eq_getElem hln]
          rfl
        have hDW := (HVw.out.below hB).waits
        obtain ⟨g', rfl, hrow⟩ := hDW.row (by omega)
        have cw := (wait_cells hrow (fun y hy => (HVw.out.ok.waits y hy).2) pre.length hln).1
        rw [← hx] at cw
        have k2 : ((pre.length : Nat) : Int) < (d.waits.length : Int) := by omega
        have cn := Boxed.cell hnb
        have fn := Boxed.frozen hnb
        have ln := Boxed.lt hnb
        obtain ⟨c0, c1, c2, -⟩ := Box3.cells hso
        have HI := Lib.hid (show IsI w wr.heap.size w.heap.size (w.heap.size + 1) (.cells #[.slice (some ⟨S', 0, none⟩) n cS', .slice (some ⟨T', 0, none⟩) n cT', .slice (some ⟨g', 0, none⟩) d.waits.length c] 36 (0, 0)) pre q2 W2 from ⟨⟨hnb, hqn⟩, ⟨hso, hqs⟩, ⟨hr, hqr⟩, hB, hBs, hBq⟩)
        have HGN := Lib.hid (HGA.out (by omega))
        have HPL := Lib.hid (show (pre ++ [x]).length = pre.length + 1 by simp)
        obtain ⟨k, hk⟩ : ∃ k, pre.length = k := ⟨_, rfl⟩
        rw [hk] at cw k2 cn HPL
        have HK := Lib.hid hk
        clear hnb hso hr hB hBs hBq hqn hqs hqr hsp hDW hrow hx hk hln hqb hs2
        gi_wp2_with fail
        obtain ⟨⟨hnb, hqn⟩, ⟨hso, hqs⟩, ⟨hr, hqr⟩, hB, hBs, hBq⟩ := HI.out
        have hgn := HGN.out
        refine ⟨Keeps.set _ _ (fun h => h.elim (fun h => by omega) hqn), ⟨?_, hqn⟩, ⟨(Below.heap_setCell _ _ _ _ (show w.heap.size ≠ wr.heap.size by omega)).trans hso, hqs⟩, ⟨(Below.heap_setCell _ _ _ _ (show w.heap.size + 1 ≠ wr.heap.size by omega)).trans hr, hqr⟩, hB.setCell (p := ⟨wr.heap.size, 0, none⟩) (show w.heap.size ≤ wr.heap.size by omega) _, by simp [World.setCell]; exact hBs, hBq⟩
        have h2 := hnb.set (.int .i64 ((k : Int) + 1))
        rw [HPL.out]
        exact h2
      case done =>
        rintro D ys W2 hD rfl ⟨⟨hnb, -⟩, ⟨hso, -⟩, ⟨hr, -⟩, hB, hBs, -⟩ hK'
        subst hA
        have cn := Boxed.cell hnb
        obtain ⟨c0, c1, c2, -⟩ := Box3.cells hso
        have cr := Boxed.cell hr
        have fr := Boxed.frozen hr
        have lr := Boxed.lt hr
        rw [HL.out] at cn
        have HB := Lib.hid hB
        have HR := Lib.hid hr
        have HK := Lib.hid hK'
        have HDD := Lib.hid hD
        have HRR := Lib.hid (show w.heap.size + 1 < w4.heap.size by omega)
        clear hnb hso hr hB hK' hD
        gi_wp2_with fail
        have hDD := HDD.out
        have hRR := HRR.out
        refine leaves_one (D := D) ((Below.heap_setCell _ _ _ D (show D ≠ w.heap.size + 1 from fun h => by have := HDD.out; have := HRR.out; omega)).trans HK.out) fun W' ht hc => ⟨.bool true, ?_, rfl, ?_⟩
        · have hc4 : Boxed W' (w.heap.size + 1) 4 (.bool true) := (ht.block (w.heap.size + 1) (by simp [World.setCell]; exact lr) (fun h => by have := HDD.out; have := HRR.out; omega)).trans (HR.out.set (.bool true))
          simp [results, Tryd.results20, go_sem, hc4.cell]
        · exact ((HB.out.setCell (p := ⟨w.heap.size + 1, 0, none⟩) (by show w.heap.size ≤ w.heap.size + 1; omega) _)).trans (ht.below (B := w.heap.size) (fun k h => by have := HDD.out; have := HRR.out; omega) (by simp [World.setCell]; exact hBs))
      case stop =>
        rintro D cd pre W2 hD hpre h hK'
        exact h.elim
end Go.Proofs.YtohdgjmmekgcmaaDoor
