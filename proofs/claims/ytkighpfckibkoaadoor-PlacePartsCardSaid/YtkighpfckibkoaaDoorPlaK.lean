/-
  The law's helpers: num, run.
-/
import Derived.Test.YtkighpfckibkoaaDoorPlaS
namespace Go.Proofs.YtkighpfckibkoaaDoor
open Go.RowKit Go.Shelf
attribute [local go_sem] Oper.semAt_some

theorem num3_any (x : Int) (w : World) : Calls Tryd.prog 12 #[.int .i64 x] w fun e w' => e = .returned (.int .i64 x) ∧ w = w' := by
  go_enter Tryd.func12, Tryd.ntmps12
  go_wp2
  go_ret
  exact ⟨rfl, rfl⟩
set_option maxRecDepth 100000 in
set_option maxHeartbeats 4000000 in
theorem runL_any (l v many most : Int) (hm1 : -9223372036854775808 ≤ many) (hm2 : many ≤ 9223372036854775807) (h1 : 1 ≤ most) (h2 : most ≤ 9223372036854775807) (w : World) (ht : Ends w) :
    Calls Tryd.prog 22 #[.agg #[.int .i64 l, .int .i64 v], .int .i64 many, .int .i64 most] w fun e w' => ∃ r, e = .returned r ∧ w'.ownsRow w.heap.size 23 2 r ((runP l v many).take most.toNat).length (cellsP ((runP l v many).take most.toNat)) ∧ Below w.heap.size w w' := by
  obtain ⟨i0, hi, hz0, hz1, hz2⟩ := info_parts infoP
  have hq : ∀ (lb : Array Value) (W : World), (binOp .eql 55 (.func (.func 34) #[] lb) .nilFunc).run Tryd.prog W = .ok (.bool false) W := fun _ _ => by kernel_rfl
  have hz := ht.room
  have HT := Lib.hid ht; clear ht
  obtain ⟨L, hL⟩ : ∃ L, (runP l v many).take most.toNat = L := ⟨_, rfl⟩
  rw [hL]
  have HL := Lib.hid hL; clear hL
  refine (callsIn_wide (n := 9)).1 ?_
  refine callsIn_of_wp_marks Tryd.func22 rfl trivial ?_ rfl
  simp only [Tryd.ntmps22, List.size_toArray, List.length_cons, List.length_nil, Nat.reduceAdd, Nat.reduceSub, Array.replicate_succ, Array.replicate_zero, List.push_toArray, List.append_toArray, List.nil_append, List.cons_append]
  gi_wp2_with fail
  refine ⟨trivial, ?_⟩
  refine (callsIn_wide.2 (run_place_any l v many _)).mono ?_
  rintro e w1 ⟨rfl, rfl⟩
  gi_wp2_with fail
  refine ⟨trivial, ?_⟩
  refine (callsIn_wide.2 (run_place_any l v many _)).mono ?_
  rintro e w1 ⟨rfl, rfl⟩
  gi_wp2_with fail
  have jM : Boxed (((((((w.alloc (.cells #[.int .i64 l, .int .i64 v] 23)).alloc (.cells #[.int .i64 most] 3)).alloc (.cells #[.slice none 0 0] 39)).alloc (.cells #[.int .i64 l, .int .i64 v] 23)).alloc (.cells #[.int .i64 many] 3)).alloc (.cells #[.int .i64 l, .int .i64 v] 23)).alloc (.cells #[.int .i64 many] 3)) (w.heap.size + 1) 3 (.int .i64 most) := by unfold Boxed; simp only [heap_at, World.size_alloc]; repeat (first | rw [if_pos (by omega)] | rw [if_neg (by omega)] | rw [if_pos trivial])
  have jO : Boxed (((((((w.alloc (.cells #[.int .i64 l, .int .i64 v] 23)).alloc (.cells #[.int .i64 most] 3)).alloc (.cells #[.slice none 0 0] 39)).alloc (.cells #[.int .i64 l, .int .i64 v] 23)).alloc (.cells #[.int .i64 many] 3)).alloc (.cells #[.int .i64 l, .int .i64 v] 23)).alloc (.cells #[.int .i64 many] 3)) (w.heap.size + 1 + 1) 39 (.slice none 0 0) := by unfold Boxed; simp only [heap_at, World.size_alloc]; repeat (first | rw [if_pos (by omega)] | rw [if_neg (by omega)] | rw [if_pos trivial])
  have jP : Box2 (((((((w.alloc (.cells #[.int .i64 l, .int .i64 v] 23)).alloc (.cells #[.int .i64 most] 3)).alloc (.cells #[.slice none 0 0] 39)).alloc (.cells #[.int .i64 l, .int .i64 v] 23)).alloc (.cells #[.int .i64 many] 3)).alloc (.cells #[.int .i64 l, .int .i64 v] 23)).alloc (.cells #[.int .i64 many] 3)) (w.heap.size + 1 + 1 + 1 + 1 + 1) 23 l v := by unfold Box2; simp only [heap_at, World.size_alloc]; repeat (first | rw [if_pos (by omega)] | rw [if_neg (by omega)] | rw [if_pos trivial])
  have jN : Boxed (((((((w.alloc (.cells #[.int .i64 l, .int .i64 v] 23)).alloc (.cells #[.int .i64 most] 3)).alloc (.cells #[.slice none 0 0] 39)).alloc (.cells #[.int .i64 l, .int .i64 v] 23)).alloc (.cells #[.int .i64 many] 3)).alloc (.cells #[.int .i64 l, .int .i64 v] 23)).alloc (.cells #[.int .i64 many] 3)) (w.heap.size + 1 + 1 + 1 + 1 + 1 + 1) 3 (.int .i64 many) := by unfold Boxed; simp only [heap_at, World.size_alloc]; repeat (first | rw [if_pos (by omega)] | rw [if_neg (by omega)] | rw [if_pos trivial])
  have b0 : Below w.heap.size w (((((((w.alloc (.cells #[.int .i64 l, .int .i64 v] 23)).alloc (.cells #[.int .i64 most] 3)).alloc (.cells #[.slice none 0 0] 39)).alloc (.cells #[.int .i64 l, .int .i64 v] 23)).alloc (.cells #[.int .i64 many] 3)).alloc (.cells #[.int .i64 l, .int .i64 v] 23)).alloc (.cells #[.int .i64 many] 3)) := (by repeat (first | exact Below.refl _ _ | assumption | refine Below.drew ?_ | refine below_drewN ?_ _ | refine Below.alloc ?_ (by (try simp) <;> omega) _ | refine Below.setCell ?_ (by (try simp) <;> omega) _ | refine Below.trans ?_ (Below.mono (by assumption) (by (try simp) <;> omega))))
  have HSZ := Lib.hid (show (((((((w.alloc (.cells #[.int .i64 l, .int .i64 v] 23)).alloc (.cells #[.int .i64 most] 3)).alloc (.cells #[.slice none 0 0] 39)).alloc (.cells #[.int .i64 l, .int .i64 v] 23)).alloc (.cells #[.int .i64 many] 3)).alloc (.cells #[.int .i64 l, .int .i64 v] 23)).alloc (.cells #[.int .i64 many] 3)).heap.size = w.heap.size + 7 by simp)
  generalize (((((((w.alloc (.cells #[.int .i64 l, .int .i64 v] 23)).alloc (.cells #[.int .i64 most] 3)).alloc (.cells #[.slice none 0 0] 39)).alloc (.cells #[.int .i64 l, .int .i64 v] 23)).alloc (.cells #[.int .i64 many] 3)).alloc (.cells #[.int .i64 l, .int .i64 v] 23)).alloc (.cells #[.int .i64 many] 3)) = W0 at *
  have hsq := run_seq 8 (by decide) (w.heap.size + 1 + 1 + 1 + 1 + 1 + 1) (w.heap.size + 1 + 1 + 1 + 1 + 1) l v many hm1 hm2 W0 (HT.out.below b0 hz) jP jN
  refine wpIn_range_F (n := 9) (by decide) (gf := 34) (lb := #[.pointer (some ⟨w.heap.size + 1 + 1 + 1 + 1 + 1 + 1, 0, none⟩), .pointer (some ⟨w.heap.size + 1 + 1 + 1 + 1 + 1, 0, none⟩)]) rfl (enters_of Tryd.func34 (by kernel_rfl) rfl) hsq (fun k hk => by have := HSZ.out; subst hk; omega) (Below.refl _ _) (fun _ => rfl)
    (fun pre q W' => RowF w.heap.size (w.heap.size + 1 + 1) 39 23 2 pre.length (cellsP pre) q W' ∧ BoxF (w.heap.size + 1) 3 (.int .i64 most) q W' ∧ BelowF w.heap.size w q W' ∧ (pre.length : Int) < most)
    (fun cd pre q W' => cd = .exit 0 ∧ RowF w.heap.size (w.heap.size + 1 + 1) 39 23 2 pre.length (cellsP pre) q W' ∧ BelowF w.heap.size w q W' ∧ pre.length = most.toNat)
    (Abides.and (abides_row _ _ _ _ _ (fun pre : List (Int × Int) => pre.length) cellsP) (Abides.and (Abides.box _ _ (fun _ => .int .i64 most)) (Abides.and (Abides.below _ _) (Abides.pure (fun pre : List (Int × Int) => (pre.length : Int) < most)))))
    (fun cd => Abides.and (Abides.pure (fun _ => cd = .exit 0)) (Abides.and (abides_row _ _ _ _ _ (fun pre : List (Int × Int) => pre.length) cellsP) (Abides.and (Abides.below _ _) (Abides.pure (fun pre : List (Int × Int) => pre.length = most.toNat)))))
    ⟨⟨_, jO, World.ownsRow_nil _ _ _ _, id, fun g e => by cases e⟩, ⟨jM, id⟩, ⟨b0, b0.size, fun k h => h.elim⟩, by show ((0 : Nat) : Int) < most; omega⟩
    (fun x a' W => ∃ Bx, W0.heap.size + 2 ≤ Bx ∧ Box2 W Bx 23 x.1 x.2 ∧ a' = { tmps := #[.agg #[.int .i64 l, .int .i64 v], .int .i64 many, .int .i64 most, .pointer (some ⟨w.heap.size, 0, none⟩), undef, .pointer (some ⟨w.heap.size + 1, 0, none⟩), .slice none 0 0, .pointer (some ⟨w.heap.size + 1 + 1, 0, none⟩), .pointer (some ⟨Bx, 0, none⟩), .agg #[.int .i64 l, .int .i64 v], .int .i64 many,
      .func (.func 34) #[] #[.pointer (some ⟨w.heap.size + 1 + 1 + 1 + 1, 0, none⟩), .pointer (some ⟨w.heap.size + 1 + 1 + 1, 0, none⟩)], .bool false, .agg #[.int .i64 l, .int .i64 v], .int .i64 many, .func (.func 34) #[] #[.pointer (some ⟨w.heap.size + 1 + 1 + 1 + 1 + 1 + 1, 0, none⟩), .pointer (some ⟨w.heap.size + 1 + 1 + 1 + 1 + 1, 0, none⟩)],
      .agg #[.int .i64 x.1, .int .i64 x.2], undef, undef, undef, undef, undef, undef, undef, undef, undef], defers := [] })
    (fun x a' W1 o ⟨Bx, h1, h2, h3⟩ => ⟨Bx, h1, h2.put _ _ (by omega), h3⟩)
    ?assign ?body ?done ?stop
  case assign =>
    rintro l2 ⟨x, y⟩ W2 K hsz hK
    unfold encP
    dsimp only
    gi_wp2
    refine hK _ _ ⟨W2.heap.size, hsz, Box2.new W2 23 x y, rfl⟩ ((Below.refl _ _).alloc (Nat.le_refl _) _)
  case body =>
    rintro l2 pre ⟨x, y⟩ a' q W ⟨⟨v', hv, hrow, hqB, hqg⟩, ⟨hM, hqM⟩, ⟨hB, hBs, hBq⟩, hlen⟩ hs2 hqb hsp ⟨Bx, hBx, bX, rfl⟩
    dsimp only at bX
    have cO := hv.cell
    have cM1 := hM.cell
    have x0 := bX.cell0
    have x1 := bX.cell1
    have hln : pre.length < 8192 := by
      have h := hsp.length_le
      unfold runP at h
      rw [List.length_append, List.length_take, places_len] at h
      have h3 := roomN_le l v
      simp at h
      omega
    have HQ := Lib.hid hqb
    have HQG := Lib.hid hqg
    have HBQ := Lib.hid hBq
    clear hqb hqg hBq
    have HLN := Lib.hid hln
    gi_wp2_with (gi_at_builtin; refine park ?_)
    unfold Park
    refine wpListIn_append_own_at _ (hgd := rfl) _ _ 39 rfl w.heap.size 23 i0 (.agg #[.int .i64 0, .int .i64 0]) 2 16 Tryd.underlying39 hi hz0 hz1 hz2 rfl (by decide) v' pre.length (cellsP pre) rfl (hrow.alloc _) ⟨W.heap.size, 0, none⟩ 1 1 [.int .i64 x, .int .i64 y] rfl rfl (cell_two_new _ _ _ _) (by simp [Value.oneCell']) (by have := HLN.out; unfold maxLen; omega) (by have := HLN.out; omega) (by simp; omega) ?_
    intro v2 w2 own2 grow2 _ at2
    obtain ⟨g', cap', rfl⟩ := ownsRow_succ own2
    obtain ⟨hv1, hv2, hr2, hk2, hb2⟩ := hv.appended (by decide) hrow hBs (by omega) own2 grow2
    have hM1 := (hM.alloc (.cells #[.int .i64 x, .int .i64 y] 23)).kept grow2 (hM.not_row (by decide) hrow)
    have hc1 := hv1.cell
    have hf1 := hv1.frozen
    have hl1 := hv1.lt
    have hc2 := hv2.cell
    have cM2 := hM1.cell
    have HPL := Lib.hid (show (pre ++ [(x, y)]).length = pre.length + 1 by simp)
    have HCP := Lib.hid (show cellsP (pre ++ [(x, y)]) = cellsP pre ++ [.int .i64 x, .int .i64 y] by rw [cellsP_append]; rfl)
    have KK : Keeps (fun k => k = 0 ∨ q k) W (w2.setCell ⟨w.heap.size + 1 + 1, 0, none⟩ (.slice (some ⟨g', 0, none⟩) (pre.length + 1) cap')) := by
      refine (Keeps.trans (B := W.alloc (.cells #[.int .i64 x, .int .i64 y] 23)) ⟨by simp, fun k _ hl => Below.heap_alloc _ _ _ hl⟩ (Keeps.of_grown grow2 (fun k e => ?_))).trans (Keeps.set w2 (b := w.heap.size + 1 + 1) (o := 0) _ ?_)
      · have := (own_lt hrow e).1
        rintro (h | h)
        · omega
        · exact HQG.out k e h
      · rintro (h | h)
        · omega
        · exact hqB h
    have hg' : ¬ q g' := by
      rcases at2 with h | h
      · exact HQG.out g' (by rw [← h]; rfl)
      · simp only [Value.ownBlock, Option.some.injEq] at h
        intro hq'
        have := (HQ.out g' hq').2
        simp at h
        omega
    have hRow : RowF w.heap.size (w.heap.size + 1 + 1) 39 23 2 (pre ++ [(x, y)]).length (cellsP (pre ++ [(x, y)])) q (w2.setCell ⟨w.heap.size + 1 + 1, 0, none⟩ (.slice (some ⟨g', 0, none⟩) (pre.length + 1) cap')) :=
      ⟨_, hv2, by rw [HPL.out, HCP.out]; exact hr2, hqB, fun g e => by cases e; exact hg'⟩
    have hBF : BelowF w.heap.size w q (w2.setCell ⟨w.heap.size + 1 + 1, 0, none⟩ (.slice (some ⟨g', 0, none⟩) (pre.length + 1) cap')) := ⟨hB.trans hb2, Nat.le_trans hBs hb2.size, HBQ.out⟩
    have hMF : BoxF (w.heap.size + 1) 3 (.int .i64 most) q (w2.setCell ⟨w.heap.size + 1 + 1, 0, none⟩ (.slice (some ⟨g', 0, none⟩) (pre.length + 1) cap')) := ⟨hM1.other (by omega) _, hqM⟩
    have e1 : ((pre.length + 1 : Nat) : Int) = (pre.length : Int) + 1 := by omega
    by_cases hge : most ≤ (pre.length : Int) + 1
    · have HX := Lib.hid (show (pre ++ [(x, y)]).length = most.toNat by rw [HPL.out]; omega)
      gi_wp2_with fail
      exact ⟨KK, rfl, hRow, hBF, HX.out⟩
    · have HX := Lib.hid (show (((pre ++ [(x, y)]).length : Nat) : Int) < most by rw [HPL.out]; omega)
      gi_wp2_with fail
      exact ⟨KK, hRow, hMF, hBF, HX.out⟩
  case done =>
    rintro D ys W hD rfl ⟨⟨v', hv, hrow, hqB, hqg⟩, -, ⟨hB, hBs, hBq⟩, hlen⟩ hK'
    have cO := hv.cell
    gi_wp2_with fail
    refine leaves_one hK' fun W' ht hc => ⟨_, results_tmp rfl _ _ _, v', rfl, ?_, hB.trans (ht.below (fun k h => by have := HSZ.out; omega) hBs)⟩
    rw [← HL.out, List.take_of_length_le (by omega)]
    exact ownsRow_block hrow fun g e hl => ht.block g hl (hqg g e)
  case stop =>
    rintro D cd pre W hD hpre ⟨rfl, ⟨v', hv, hrow, hqB, hqg⟩, ⟨hB, hBs, hBq⟩, hlen⟩ hK'
    have cO := hv.cell
    have HPE := Lib.hid (show (runP l v many).take most.toNat = pre by rw [← hlen]; exact (prefix_eq_take hpre).symm)
    gi_wp2_with fail
    refine leaves_one hK' fun W' ht hc => ⟨_, results_tmp rfl _ _ _, v', rfl, ?_, hB.trans (ht.below (fun k h => by have := HSZ.out; omega) hBs)⟩
    rw [← HL.out, HPE.out]
    exact ownsRow_block hrow fun g e hl => ht.block g hl (hqg g e)
end Go.Proofs.YtkighpfckibkoaaDoor
