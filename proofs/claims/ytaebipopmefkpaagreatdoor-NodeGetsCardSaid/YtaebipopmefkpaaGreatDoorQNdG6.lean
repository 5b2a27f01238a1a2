/-
  node: the document's answers: GetSuper.
-/
import Derived.Test.YtaebipopmefkpaaGreatDoorQNdG4
import Derived.Test.YtaebipopmefkpaaGreatDoorMn22
namespace Go.Proofs.YtaebipopmefkpaaGreatDoor
open Go.RowKit Go.Shelf
attribute [local go_sem] Oper.semAt_some

set_option maxRecDepth 100000 in
set_option maxHeartbeats 16000000 in
theorem refGetSuper_any (l : List Int) (hl : Line8 l) (x1 x2 : Int) (h1 : smN (l[1]?.getD 0) = x1) (h2 : smN (l[2]?.getD 0) = x2) (r q : Bool) (hr : okSp superSpecs #[.int .i64 x1, .int .i64 x2] = r)
    (hq : (l == [magicW, x1 % 18446744073709551616, x2 % 18446744073709551616, 0, 0, 0, 0, 0]) = q) (w : World) :
    Calls Tryz.prog 9 #[.agg (lnA l)] w fun e w' => e = .returned (.tuple #[.agg (if (r && q) = true then #[.int .i64 x1, .int .i64 x2] else ndZeroS), .bool (r && q)]) ∧ Below w.heap.size w w' := by
  obtain ⟨X, hX⟩ : ∃ X, lnA l = X := ⟨_, rfl⟩
  obtain ⟨M, hM⟩ : ∃ M, lnA [magicW, x1 % 18446744073709551616, x2 % 18446744073709551616, 0, 0, 0, 0, 0] = M := ⟨_, rfl⟩
  have hE : ∀ V, (Op.equalIn 10000 23 (.agg X) (.agg M)).run Tryz.prog V = .ok q V := fun V => by
    rw [← hX, ← hM, ← hq]
    exact eql_line Tryz.underlying23 l _ hl.1 rfl V
  have HPS : Hid (∀ W, Calls Tryz.prog 28 #[.agg #[.int .i64 x1, .int .i64 x2]] W fun e w' => e = .returned (.agg M) ∧ Below W.heap.size W w') := show ∀ W, _ from fun W => by
    rw [← hM]
    exact refPutSuper_any x1 x2 W
  have HRS : Hid (∀ W, Calls Tryz.prog 27 #[.agg #[.int .i64 x1, .int .i64 x2]] W fun e w' => e = .returned (.bool r) ∧ Below W.heap.size W w') := show ∀ W, _ from fun W => by
    rw [← hr]
    exact refRightSuper_any x1 x2 W
  have HS1 : Hid (∀ W, Calls Tryz.prog 26 #[.int .u64 (l[1]?.getD 0)] W fun e w' => e = .returned (.int .i64 x1) ∧ W = w') := show ∀ W, _ from fun W => by
    rw [← h1]
    exact refSmall_any _ (line8_nat hl 1) W
  have HS2 : Hid (∀ W, Calls Tryz.prog 26 #[.int .u64 (l[2]?.getD 0)] W fun e w' => e = .returned (.int .i64 x2) ∧ W = w') := show ∀ W, _ from fun W => by
    rw [← h2]
    exact refSmall_any _ (line8_nat hl 2) W
  rw [hX]
  obtain ⟨W1, hW1⟩ : ∃ W1, (w.alloc (.cells X 23)).alloc (.cells #[.int .i64 0, .int .i64 0] 25) = W1 := ⟨_, rfl⟩
  have HB1 : Hid (Below w.heap.size w W1) := show Below _ _ _ by rw [← hW1]; exact (by repeat (first | exact Below.refl _ _ | assumption | refine Below.drew ?_ | refine below_drewN ?_ _ | refine Below.alloc ?_ (by (try simp) <;> omega) _ | refine Below.setCell ?_ (by (try simp) <;> omega) _ | refine Below.trans ?_ (Below.mono (by assumption) (by (try simp) <;> omega))))
  have HX1 : Hid (Blk W1 w.heap.size 23 X) := show Blk _ _ _ _ by rw [← hW1]; exact (Blk.new w _ _).below (n := w.heap.size + 1) ((Below.refl _ _).alloc (by simp) _) (by omega)
  have HZ1 : Hid (Blk W1 (w.heap.size + 1) 25 #[.int .i64 0, .int .i64 0]) := show Blk _ _ _ _ by
    rw [← hW1]
    have := Blk.new (w.alloc (.cells X 23)) 25 #[.int .i64 0, .int .i64 0]
    rw [World.size_alloc] at this
    exact this
  obtain ⟨y1, hy1⟩ : ∃ y, l[1]?.getD 0 = y := ⟨_, rfl⟩
  obtain ⟨y2, hy2⟩ : ∃ y, l[2]?.getD 0 = y := ⟨_, rfl⟩
  have hc1 : ∀ V, Below W1.heap.size W1 V → V.cell? ⟨w.heap.size, 1, none⟩ = some (.int .u64 y1) := fun V hV => by
    rw [← hy1]
    exact (HX1.out.below hV HX1.out.lt).cell (by rw [← hX]; exact lnA_at l 1 (by rw [hl.1]; decide))
  have hc2 : ∀ V, Below W1.heap.size W1 V → V.cell? ⟨w.heap.size, 2, none⟩ = some (.int .u64 y2) := fun V hV => by
    rw [← hy2]
    exact (HX1.out.below hV HX1.out.lt).cell (by rw [← hX]; exact lnA_at l 2 (by rw [hl.1]; decide))
  rw [hy1] at HS1
  rw [hy2] at HS2
  have HRR : Hid (∀ V, Below W1.heap.size W1 V → (fun V : World => V.cell? ⟨w.heap.size, 1, none⟩ = some (.int .u64 y1) ∧ V.cell? ⟨w.heap.size, 2, none⟩ = some (.int .u64 y2) ∧ Below W1.heap.size W1 V) V) := show ∀ V, _ from fun V hV => ⟨hc1 V hV, hc2 V hV, hV⟩
  have HXS : Hid (X.size = 8) := show _ = _ by rw [← hX, lnA_size, hl.1]
  have HEE := Lib.hid hE
  have HW := Lib.hid hW1
  clear hc1 hc2 hW1 hX hM hl h1 h2 hr hq hE hy1 hy2
  go_enter Tryz.func9, Tryz.ntmps9
  go_wp2_with fail
  rw [HW.out]
  have hR : (fun V : World => V.cell? ⟨w.heap.size, 1, none⟩ = some (.int .u64 y1) ∧ V.cell? ⟨w.heap.size, 2, none⟩ = some (.int .u64 y2) ∧ Below W1.heap.size W1 V) W1.drew := HRR.out _ (Below.refl _ _).drew
  refine wp_region_M 8 (fun V : World => V.cell? ⟨w.heap.size, 1, none⟩ = some (.int .u64 y1) ∧ V.cell? ⟨w.heap.size, 2, none⟩ = some (.int .u64 y2) ∧ Below W1.heap.size W1 V) (by kernel_rfl) ?_
  (refine wpAnyM_take2 8 (i := 0) (v := ?_) rfl (by kernel_rfl) (by kernel_rfl) (fun _ _ _ h => h) (Or.inl ⟨by rfl, ?_⟩) hR ?_; rotate_left; (focus (intro w hSw; (try dsimp only at hSw); go_simp; (try with_reducible rfl))); (try simp only [put_laws])); (refine wpAnyM_take2 8 (i := 3) (v := ?_) rfl (by kernel_rfl) (by kernel_rfl) (fun _ _ _ h => h) (Or.inl ⟨by rfl, ?_⟩) hR ?_; rotate_left; (focus (intro w hSw; (try dsimp only at hSw); go_simp; (try with_reducible rfl))); (try simp only [put_laws])); (refine wpAnyM_take2 8 (i := 1) (v := ?_) rfl (by kernel_rfl) (by kernel_rfl) (fun _ _ _ h => h) (Or.inl ⟨by rfl, ?_⟩) hR ?_; rotate_left; (focus (intro w hSw; (try dsimp only at hSw); go_simp; (try with_reducible rfl))); (try simp only [put_laws])); (refine wpAnyM_take2 8 (i := 4) (v := ?_) rfl (by kernel_rfl) (by kernel_rfl) (fun _ _ _ h => h) (Or.inl ⟨by rfl, ?_⟩) hR ?_; rotate_left; (focus (intro w hSw; (try dsimp only at hSw); go_simp; (try with_reducible rfl))); (try simp only [put_laws]))
  refine wpAnyM_two (i := 2) (j := 7) rfl rfl (by kernel_rfl) (fun K hK => ?_) (fun K hK => ?_)
  · rw [if_pos (by rfl)]
    (try simp only [elem_laws])
    go_simp
    refine (HS1.out _).mono ?_
    rintro e w' ⟨rfl, rfl⟩
    refine hK _ _ (fun _ => hR) ?_
    clear hK K
    (try simp only [put_laws])
    refine wpAnyM_two (i := 5) (j := 7) rfl rfl (by kernel_rfl) (fun K hK => ?_) (fun K hK => ?_)
    · rw [if_pos (by rfl)]
      (try simp only [elem_laws])
      go_simp
      refine (HS2.out _).mono ?_
      rintro e w' ⟨rfl, rfl⟩
      refine hK _ _ (fun _ => hR) ?_
      clear hK K
      (try simp only [put_laws])
      (refine wpAnyM_take (i := 6) (v := ?_) rfl (by kernel_rfl) (by kernel_rfl) (fun _ _ _ h => h) (Or.inl ⟨by rfl, ?_⟩) hR ?_; rotate_left; (focus (intro w hSw; (try dsimp only at hSw); go_simp; (try with_reducible rfl))); (try simp only [put_laws]))
      (refine wpAnyM_one (i := 7) rfl (by kernel_rfl) (fun K hK => ?_); rw [if_pos (by rfl)]; (try simp only [elem_laws]))
      go_simp
      have hR' := HRR.out _ (hR.2.2.alloc hR.2.2.size (.cells #[.int .i64 0, .int .i64 0] 25))
      refine hK _ _ (fun _ => hR') ?_
      clear hK K hR
      have hR := hR'
      clear hR'
      (try simp only [put_laws])
      (refine wpAnyM_last rfl (by kernel_rfl) (fun K hK => ?_); rw [if_pos (by rfl)]; (try simp only [elem_laws]))
      go_simp
      refine hK _ _ ?_
      clear hK K hR
      (try simp only [put_laws])
      refine wpAnyM_done (by kernel_rfl) ?_ _
      obtain ⟨W2, hW2⟩ : ∃ W2, (W1.alloc (.cells #[.int .i64 x1, .int .i64 x2] 25)).drew = W2 := ⟨_, rfl⟩
      have h12 : Below W1.heap.size W1 W2 := by rw [← hW2]; exact ((Below.refl _ _).alloc (Nat.le_refl _) _).drew
      have HX2 := Lib.hid (HX1.out.below h12 HX1.out.lt)
      have HZ2 := Lib.hid (HZ1.out.below h12 HZ1.out.lt)
      have HB2 := Lib.hid (HB1.out.trans (h12.mono HB1.out.size))
      have hy : Blk W2 W1.heap.size 25 #[.int .i64 x1, .int .i64 x2] := by
        rw [← hW2]
        exact (Blk.new W1 _ _).below (n := W1.heap.size + 1) (Below.refl _ _).drew (by omega)
      have HLY : Hid (∀ V, Below W2.heap.size W2 V → (Instr.loadAt 25 (.pointer (some ⟨W1.heap.size, 0, none⟩))).run Tryz.prog V = .ok (.agg #[.int .i64 x1, .int .i64 x2]) V) := show ∀ V, _ from fun V hV => (hy.below hV hy.lt).load (tt := 25) Tryz.underlying25 rfl (by kernel_rfl)
      have HLX : Hid (∀ V, Below W2.heap.size W2 V → (Instr.loadAt 23 (.pointer (some ⟨w.heap.size, 0, none⟩))).run Tryz.prog V = .ok (.agg X) V) := show ∀ V, _ from fun V hV => (HX2.out.below hV HX2.out.lt).load (tt := 23) Tryz.underlying23 rfl (by rw [HXS.out]; kernel_rfl)
      rw [hW2]
      clear hW2 h12 hy
      go_wp2_with fail
      have hR : Below W2.heap.size W2 W2.drew := (Below.refl _ _).drew
      refine wp_region_M 8 (fun V : World => Below W2.heap.size W2 V) (by kernel_rfl) ?_
      cases r
      · (refine wpAnyM_take2 8 (i := 0) (v := _) rfl (by kernel_rfl) (by kernel_rfl) (fun _ _ _ h => h) (Or.inl ⟨by rfl, fun w hSw => nd_exec_load rfl rfl (HLY.out w hSw)⟩) hR ?_; (try simp only [put_laws]))
        (refine wpAnyM_one (i := 1) rfl (by kernel_rfl) (fun K hK => ?_); rw [if_pos (by rfl)]; (try simp only [elem_laws]))
        go_simp
        refine (HRS.out _).mono ?_
        rintro e w3 ⟨rfl, hb⟩
        have hR' : Below W2.heap.size W2 w3 := hR.trans (hb.mono hR.size)
        refine hK _ _ (fun _ => hR') ?_
        clear hK K hR hb
        have hR := hR'
        clear hR'
        (try simp only [put_laws])
        (refine wpAnyM_take2 8 (i := 2) (v := ?_) rfl (by kernel_rfl) (by kernel_rfl) (fun _ _ _ h => h) (Or.inl ⟨by rfl, ?_⟩) hR ?_; rotate_left; (focus (intro w hSw; (try dsimp only at hSw); go_simp; (try with_reducible rfl))); (try simp only [put_laws])); (refine wpAnyM_take2 8 (i := 3) (v := ?_) rfl (by kernel_rfl) (by kernel_rfl) (fun _ _ _ h => h) (Or.inl ⟨by rfl, ?_⟩) hR ?_; rotate_left; (focus (intro w hSw; (try dsimp only at hSw); go_simp; (try with_reducible rfl))); (try simp only [put_laws]))
        (refine wpAnyM_take2 8 (i := 4) (v := undef) rfl (by kernel_rfl) (by kernel_rfl) (fun _ _ _ h => h) (Or.inr ⟨by rfl, rfl⟩) hR ?_; (try simp only [put_laws])); (refine wpAnyM_take2 8 (i := 5) (v := undef) rfl (by kernel_rfl) (by kernel_rfl) (fun _ _ _ h => h) (Or.inr ⟨by rfl, rfl⟩) hR ?_; (try simp only [put_laws])); (refine wpAnyM_take2 8 (i := 6) (v := undef) rfl (by kernel_rfl) (by kernel_rfl) (fun _ _ _ h => h) (Or.inr ⟨by rfl, rfl⟩) hR ?_; (try simp only [put_laws]))
        (refine wpAnyM_take (i := 7) (v := undef) rfl (by kernel_rfl) (by kernel_rfl) (fun _ _ _ h => h) (Or.inr ⟨by rfl, rfl⟩) hR ?_; (try simp only [put_laws]))
        (refine wpAnyM_last rfl (by kernel_rfl) (fun K hK => ?_); rw [if_pos (by rfl)]; (try simp only [elem_laws]))
        go_simp
        have HR := Lib.hid hR
        clear hR
        refine hK _ _ ?_
        clear hK K
        (try simp only [put_laws])
        refine wpAnyM_done (by kernel_rfl) ?_ _
        have hR := HR.out
        clear HR
        have HZ3 := Lib.hid (HZ2.out.below hR HZ2.out.lt)
        have HB3 := Lib.hid (HB2.out.trans (hR.mono HB2.out.size))
        have HY3 := Lib.hid (HLY.out _ hR)
        clear hR
        obtain ⟨W5, hs, hx5, ht5⟩ := HZ3.out.store (tt := 25) (P := Tryz.prog) (Y := #[.int .i64 0, .int .i64 0]) (by kernel_rfl) rfl (show (ints [0, 0]).all (·.oneCell') = true from one_ints _)
        have HST := Lib.hid hs
        have HX5 := Lib.hid hx5
        have HB5 : Hid (Below w.heap.size w W5) := show Below _ _ _ from HB3.out.trans (ht5.below (B := w.heap.size) (fun k h => by omega) HB3.out.size)
        clear hs hx5 ht5
        have HZ0 := HST
        go_wp2_with (first | (refine ndList_store rfl 25 _ _ rfl _ _ rfl rfl HST.out ?_))
        exact bodyPost_ret (results_cell_tmp (fn := Tryz.f9) rfl rfl (HX5.out.loadVar (tt := 25) Tryz.underlying25 rfl (by kernel_rfl)) rfl) rfl ⟨rfl, HB5.out⟩
      · (refine wpAnyM_take2 8 (i := 0) (v := _) rfl (by kernel_rfl) (by kernel_rfl) (fun _ _ _ h => h) (Or.inl ⟨by rfl, fun w hSw => nd_exec_load rfl rfl (HLY.out w hSw)⟩) hR ?_; (try simp only [put_laws]))
        (refine wpAnyM_one (i := 1) rfl (by kernel_rfl) (fun K hK => ?_); rw [if_pos (by rfl)]; (try simp only [elem_laws]))
        go_simp
        refine (HRS.out _).mono ?_
        rintro e w3 ⟨rfl, hb⟩
        have hR' : Below W2.heap.size W2 w3 := hR.trans (hb.mono hR.size)
        refine hK _ _ (fun _ => hR') ?_
        clear hK K hR hb
        have hR := hR'
        clear hR'
        (try simp only [put_laws])
        (refine wpAnyM_take2 8 (i := 2) (v := ?_) rfl (by kernel_rfl) (by kernel_rfl) (fun _ _ _ h => h) (Or.inl ⟨by rfl, ?_⟩) hR ?_; rotate_left; (focus (intro w hSw; (try dsimp only at hSw); go_simp; (try with_reducible rfl))); (try simp only [put_laws]))
        (refine wpAnyM_take (i := 3) (v := ?_) rfl (by kernel_rfl) (by kernel_rfl) (fun _ _ _ h => h) (Or.inl ⟨by rfl, ?_⟩) hR ?_; rotate_left; (focus (intro w hSw; (try dsimp only at hSw); go_simp; (try with_reducible rfl))); (try simp only [put_laws]))
        (refine wpAnyM_take2 8 (i := 4) (v := _) rfl (by kernel_rfl) (by kernel_rfl) (fun _ _ _ h => h) (Or.inl ⟨by rfl, fun w hSw => nd_exec_load rfl rfl (HLX.out w hSw)⟩) hR ?_; (try simp only [put_laws]))
        (refine wpAnyM_take2 8 (i := 5) (v := _) rfl (by kernel_rfl) (by kernel_rfl) (fun _ _ _ h => h) (Or.inl ⟨by rfl, fun w hSw => nd_exec_load rfl rfl (HLY.out w hSw)⟩) hR ?_; (try simp only [put_laws]))
        (refine wpAnyM_one (i := 6) rfl (by kernel_rfl) (fun K hK => ?_); rw [if_pos (by rfl)]; (try simp only [elem_laws]))
        go_simp
        refine (HPS.out _).mono ?_
        rintro e w4 ⟨rfl, hb⟩
        have hR' : Below W2.heap.size W2 w4 := hR.trans (hb.mono hR.size)
        refine hK _ _ (fun _ => hR') ?_
        clear hK K hR hb
        have hR := hR'
        clear hR'
        (try simp only [put_laws])
        have hE := HEE.out
        (refine wpAnyM_take (i := 7) (v := ?_) rfl (by kernel_rfl) (by kernel_rfl) (fun _ _ _ h => h) (Or.inl ⟨by rfl, ?_⟩) hR ?_; rotate_left; (focus (intro w hSw; (try dsimp only at hSw); go_simp; (try with_reducible rfl))); (try simp only [put_laws]))
        clear hE
        (refine wpAnyM_last rfl (by kernel_rfl) (fun K hK => ?_); rw [if_pos (by rfl)]; (try simp only [elem_laws]))
        go_simp
        have HR := Lib.hid hR
        clear hR
        refine hK _ _ ?_
        clear hK K
        (try simp only [put_laws])
        refine wpAnyM_done (by kernel_rfl) ?_ _
        have hR := HR.out
        clear HR
        have HZ3 := Lib.hid (HZ2.out.below hR HZ2.out.lt)
        have HB3 := Lib.hid (HB2.out.trans (hR.mono HB2.out.size))
        have HY3 := Lib.hid (HLY.out _ hR)
        clear hR
        cases q
        · obtain ⟨W5, hs, hx5, ht5⟩ := HZ3.out.store (tt := 25) (P := Tryz.prog) (Y := #[.int .i64 0, .int .i64 0]) (by kernel_rfl) rfl (show (ints [0, 0]).all (·.oneCell') = true from one_ints _)
          have HST := Lib.hid hs
          have HX5 := Lib.hid hx5
          have HB5 : Hid (Below w.heap.size w W5) := show Below _ _ _ from HB3.out.trans (ht5.below (B := w.heap.size) (fun k h => by omega) HB3.out.size)
          clear hs hx5 ht5
          have HZ0 := HST
          go_wp2_with (first | (refine ndList_store rfl 25 _ _ rfl _ _ rfl rfl HST.out ?_))
          exact bodyPost_ret (results_cell_tmp (fn := Tryz.f9) rfl rfl (HX5.out.loadVar (tt := 25) Tryz.underlying25 rfl (by kernel_rfl)) rfl) rfl ⟨rfl, HB5.out⟩
        · obtain ⟨W5, hs, hx5, ht5⟩ := HZ3.out.store (tt := 25) (P := Tryz.prog) (Y := #[.int .i64 x1, .int .i64 x2]) (by kernel_rfl) rfl (show (ints [x1, x2]).all (·.oneCell') = true from one_ints _)
          have HST := Lib.hid hs
          have HX5 := Lib.hid hx5
          have HB5 : Hid (Below w.heap.size w W5) := show Below _ _ _ from HB3.out.trans (ht5.below (B := w.heap.size) (fun k h => by omega) HB3.out.size)
          clear hs hx5 ht5
          go_wp2_with (first | (refine ndList_store rfl 25 _ _ rfl _ _ rfl rfl HST.out ?_) | (refine ndList_load rfl 25 _ rfl _ _ rfl HY3.out ?_))
          exact bodyPost_ret (results_cell_tmp (fn := Tryz.f9) rfl rfl (HX5.out.loadVar (tt := 25) Tryz.underlying25 rfl (by kernel_rfl)) rfl) rfl ⟨rfl, HB5.out⟩
    · rw [if_pos (by rfl)]
      (try simp only [elem_laws])
      go_simp
      have hR' := HRR.out _ (hR.2.2.alloc hR.2.2.size (.cells #[.int .i64 0, .int .i64 0] 25))
      refine hK _ _ (fun _ => hR') ?_
      clear hK K hR
      have hR := hR'
      clear hR'
      (try simp only [put_laws])
      (refine wpAnyM_one (i := 5) rfl (by kernel_rfl) (fun K hK => ?_); rw [if_pos (by rfl)]; (try simp only [elem_laws]))
      go_simp
      refine (HS2.out _).mono ?_
      rintro e w' ⟨rfl, rfl⟩
      refine hK _ _ (fun _ => hR) ?_
      clear hK K
      (try simp only [put_laws])
      (refine wpAnyM_take (i := 6) (v := ?_) rfl (by kernel_rfl) (by kernel_rfl) (fun _ _ _ h => h) (Or.inl ⟨by rfl, ?_⟩) hR ?_; rotate_left; (focus (intro w hSw; (try dsimp only at hSw); go_simp; (try with_reducible rfl))); (try simp only [put_laws]))
      (refine wpAnyM_last rfl (by kernel_rfl) (fun K hK => ?_); rw [if_pos (by rfl)]; (try simp only [elem_laws]))
      go_simp
      refine hK _ _ ?_
      clear hK K hR
      (try simp only [put_laws])
      refine wpAnyM_done (by kernel_rfl) ?_ _
      obtain ⟨W2, hW2⟩ : ∃ W2, (W1.alloc (.cells #[.int .i64 x1, .int .i64 x2] 25)).drew = W2 := ⟨_, rfl⟩
      have h12 : Below W1.heap.size W1 W2 := by rw [← hW2]; exact ((Below.refl _ _).alloc (Nat.le_refl _) _).drew
      have HX2 := Lib.hid (HX1.out.below h12 HX1.out.lt)
      have HZ2 := Lib.hid (HZ1.out.below h12 HZ1.out.lt)
      have HB2 := Lib.hid (HB1.out.trans (h12.mono HB1.out.size))
      have hy : Blk W2 W1.heap.size 25 #[.int .i64 x1, .int .i64 x2] := by
        rw [← hW2]
        exact (Blk.new W1 _ _).below (n := W1.heap.size + 1) (Below.refl _ _).drew (by omega)
      have HLY : Hid (∀ V, Below W2.heap.size W2 V → (Instr.loadAt 25 (.pointer (some ⟨W1.heap.size, 0, none⟩))).run Tryz.prog V = .ok (.agg #[.int .i64 x1, .int .i64 x2]) V) := show ∀ V, _ from fun V hV => (hy.below hV hy.lt).load (tt := 25) Tryz.underlying25 rfl (by kernel_rfl)
      have HLX : Hid (∀ V, Below W2.heap.size W2 V → (Instr.loadAt 23 (.pointer (some ⟨w.heap.size, 0, none⟩))).run Tryz.prog V = .ok (.agg X) V) := show ∀ V, _ from fun V hV => (HX2.out.below hV HX2.out.lt).load (tt := 23) Tryz.underlying23 rfl (by rw [HXS.out]; kernel_rfl)
      rw [hW2]
      clear hW2 h12 hy
      go_wp2_with fail
      have hR : Below W2.heap.size W2 W2.drew := (Below.refl _ _).drew
      refine wp_region_M 8 (fun V : World => Below W2.heap.size W2 V) (by kernel_rfl) ?_
      cases r
      · (refine wpAnyM_take2 8 (i := 0) (v := _) rfl (by kernel_rfl) (by kernel_rfl) (fun _ _ _ h => h) (Or.inl ⟨by rfl, fun w hSw => nd_exec_load rfl rfl (HLY.out w hSw)⟩) hR ?_; (try simp only [put_laws]))
        (refine wpAnyM_one (i := 1) rfl (by kernel_rfl) (fun K hK => ?_); rw [if_pos (by rfl)]; (try simp only [elem_laws]))
        go_simp
        refine (HRS.out _).mono ?_
        rintro e w3 ⟨rfl, hb⟩
        have hR' : Below W2.heap.size W2 w3 := hR.trans (hb.mono hR.size)
        refine hK _ _ (fun _ => hR') ?_
        clear hK K hR hb
        have hR := hR'
        clear hR'
        (try simp only [put_laws])
        (refine wpAnyM_take2 8 (i := 2) (v := ?_) rfl (by kernel_rfl) (by kernel_rfl) (fun _ _ _ h => h) (Or.inl ⟨by rfl, ?_⟩) hR ?_; rotate_left; (focus (intro w hSw; (try dsimp only at hSw); go_simp; (try with_reducible rfl))); (try simp only [put_laws])); (refine wpAnyM_take2 8 (i := 3) (v := ?_) rfl (by kernel_rfl) (by kernel_rfl) (fun _ _ _ h => h) (Or.inl ⟨by rfl, ?_⟩) hR ?_; rotate_left; (focus (intro w hSw; (try dsimp only at hSw); go_simp; (try with_reducible rfl))); (try simp only [put_laws]))
        (refine wpAnyM_take2 8 (i := 4) (v := undef) rfl (by kernel_rfl) (by kernel_rfl) (fun _ _ _ h => h) (Or.inr ⟨by rfl, rfl⟩) hR ?_; (try simp only [put_laws])); (refine wpAnyM_take2 8 (i := 5) (v := undef) rfl (by kernel_rfl) (by kernel_rfl) (fun _ _ _ h => h) (Or.inr ⟨by rfl, rfl⟩) hR ?_; (try simp only [put_laws])); (refine wpAnyM_take2 8 (i := 6) (v := undef) rfl (by kernel_rfl) (by kernel_rfl) (fun _ _ _ h => h) (Or.inr ⟨by rfl, rfl⟩) hR ?_; (try simp only [put_laws]))
        (refine wpAnyM_take (i := 7) (v := undef) rfl (by kernel_rfl) (by kernel_rfl) (fun _ _ _ h => h) (Or.inr ⟨by rfl, rfl⟩) hR ?_; (try simp only [put_laws]))
        (refine wpAnyM_last rfl (by kernel_rfl) (fun K hK => ?_); rw [if_pos (by rfl)]; (try simp only [elem_laws]))
        go_simp
        have HR := Lib.hid hR
        clear hR
        refine hK _ _ ?_
        clear hK K
        (try simp only [put_laws])
        refine wpAnyM_done (by kernel_rfl) ?_ _
        have hR := HR.out
        clear HR
        have HZ3 := Lib.hid (HZ2.out.below hR HZ2.out.lt)
        have HB3 := Lib.hid (HB2.out.trans (hR.mono HB2.out.size))
        have HY3 := Lib.hid (HLY.out _ hR)
        clear hR
        obtain ⟨W5, hs, hx5, ht5⟩ := HZ3.out.store (tt := 25) (P := Tryz.prog) (Y := #[.int .i64 0, .int .i64 0]) (by kernel_rfl) rfl (show (ints [0, 0]).all (·.oneCell') = true from one_ints _)
        have HST := Lib.hid hs
        have HX5 := Lib.hid hx5
        have HB5 : Hid (Below w.heap.size w W5) := show Below _ _ _ from HB3.out.trans (ht5.below (B := w.heap.size) (fun k h => by omega) HB3.out.size)
        clear hs hx5 ht5
        have HZ0 := HST
        go_wp2_with (first | (refine ndList_store rfl 25 _ _ rfl _ _ rfl rfl HST.out ?_))
        exact bodyPost_ret (results_cell_tmp (fn := Tryz.f9) rfl rfl (HX5.out.loadVar (tt := 25) Tryz.underlying25 rfl (by kernel_rfl)) rfl) rfl ⟨rfl, HB5.out⟩
      · (refine wpAnyM_take2 8 (i := 0) (v := _) rfl (by kernel_rfl) (by kernel_rfl) (fun _ _ _ h => h) (Or.inl ⟨by rfl, fun w hSw => nd_exec_load rfl rfl (HLY.out w hSw)⟩) hR ?_; (try simp only [put_laws]))
        (refine wpAnyM_one (i := 1) rfl (by kernel_rfl) (fun K hK => ?_); rw [if_pos (by rfl)]; (try simp only [elem_laws]))
        go_simp
        refine (HRS.out _).mono ?_
        rintro e w3 ⟨rfl, hb⟩
        have hR' : Below W2.heap.size W2 w3 := hR.trans (hb.mono hR.size)
        refine hK _ _ (fun _ => hR') ?_
        clear hK K hR hb
        have hR := hR'
        clear hR'
        (try simp only [put_laws])
        (refine wpAnyM_take2 8 (i := 2) (v := ?_) rfl (by kernel_rfl) (by kernel_rfl) (fun _ _ _ h => h) (Or.inl ⟨by rfl, ?_⟩) hR ?_; rotate_left; (focus (intro w hSw; (try dsimp only at hSw); go_simp; (try with_reducible rfl))); (try simp only [put_laws]))
        (refine wpAnyM_take (i := 3) (v := ?_) rfl (by kernel_rfl) (by kernel_rfl) (fun _ _ _ h => h) (Or.inl ⟨by rfl, ?_⟩) hR ?_; rotate_left; (focus (intro w hSw; (try dsimp only at hSw); go_simp; (try with_reducible rfl))); (try simp only [put_laws]))
        (refine wpAnyM_take2 8 (i := 4) (v := _) rfl (by kernel_rfl) (by kernel_rfl) (fun _ _ _ h => h) (Or.inl ⟨by rfl, fun w hSw => nd_exec_load rfl rfl (HLX.out w hSw)⟩) hR ?_; (try simp only [put_laws]))
        (refine wpAnyM_take2 8 (i := 5) (v := _) rfl (by kernel_rfl) (by kernel_rfl) (fun _ _ _ h => h) (Or.inl ⟨by rfl, fun w hSw => nd_exec_load rfl rfl (HLY.out w hSw)⟩) hR ?_; (try simp only [put_laws]))
        (refine wpAnyM_one (i := 6) rfl (by kernel_rfl) (fun K hK => ?_); rw [if_pos (by rfl)]; (try simp only [elem_laws]))
        go_simp
        refine (HPS.out _).mono ?_
        rintro e w4 ⟨rfl, hb⟩
        have hR' : Below W2.heap.size W2 w4 := hR.trans (hb.mono hR.size)
        refine hK _ _ (fun _ => hR') ?_
        clear hK K hR hb
        have hR := hR'
        clear hR'
        (try simp only [put_laws])
        have hE := HEE.out
        (refine wpAnyM_take (i := 7) (v := ?_) rfl (by kernel_rfl) (by kernel_rfl) (fun _ _ _ h => h) (Or.inl ⟨by rfl, ?_⟩) hR ?_; rotate_left; (focus (intro w hSw; (try dsimp only at hSw); go_simp; (try with_reducible rfl))); (try simp only [put_laws]))
        clear hE
        (refine wpAnyM_last rfl (by kernel_rfl) (fun K hK => ?_); rw [if_pos (by rfl)]; (try simp only [elem_laws]))
        go_simp
        have HR := Lib.hid hR
        clear hR
        refine hK _ _ ?_
        clear hK K
        (try simp only [put_laws])
        refine wpAnyM_done (by kernel_rfl) ?_ _
        have hR := HR.out
        clear HR
        have HZ3 := Lib.hid (HZ2.out.below hR HZ2.out.lt)
        have HB3 := Lib.hid (HB2.out.trans (hR.mono HB2.out.size))
        have HY3 := Lib.hid (HLY.out _ hR)
        clear hR
        cases q
        · obtain ⟨W5, hs, hx5, ht5⟩ := HZ3.out.store (tt := 25) (P := Tryz.prog) (Y := #[.int .i64 0, .int .i64 0]) (by kernel_rfl) rfl (show (ints [0, 0]).all (·.oneCell') = true from one_ints _)
          have HST := Lib.hid hs
          have HX5 := Lib.hid hx5
          have HB5 : Hid (Below w.heap.size w W5) := show Below _ _ _ from HB3.out.trans (ht5.below (B := w.heap.size) (fun k h => by omega) HB3.out.size)
          clear hs hx5 ht5
          have HZ0 := HST
          go_wp2_with (first | (refine ndList_store rfl 25 _ _ rfl _ _ rfl rfl HST.out ?_))
          exact bodyPost_ret (results_cell_tmp (fn := Tryz.f9) rfl rfl (HX5.out.loadVar (tt := 25) Tryz.underlying25 rfl (by kernel_rfl)) rfl) rfl ⟨rfl, HB5.out⟩
        · obtain ⟨W5, hs, hx5, ht5⟩ := HZ3.out.store (tt := 25) (P := Tryz.prog) (Y := #[.int .i64 x1, .int .i64 x2]) (by kernel_rfl) rfl (show (ints [x1, x2]).all (·.oneCell') = true from one_ints _)
          have HST := Lib.hid hs
          have HX5 := Lib.hid hx5
          have HB5 : Hid (Below w.heap.size w W5) := show Below _ _ _ from HB3.out.trans (ht5.below (B := w.heap.size) (fun k h => by omega) HB3.out.size)
          clear hs hx5 ht5
          go_wp2_with (first | (refine ndList_store rfl 25 _ _ rfl _ _ rfl rfl HST.out ?_) | (refine ndList_load rfl 25 _ rfl _ _ rfl HY3.out ?_))
          exact bodyPost_ret (results_cell_tmp (fn := Tryz.f9) rfl rfl (HX5.out.loadVar (tt := 25) Tryz.underlying25 rfl (by kernel_rfl)) rfl) rfl ⟨rfl, HB5.out⟩
  · rw [if_pos (by rfl)]
    (try simp only [elem_laws])
    go_simp
    have hR' := HRR.out _ (hR.2.2.alloc hR.2.2.size (.cells #[.int .i64 0, .int .i64 0] 25))
    refine hK _ _ (fun _ => hR') ?_
    clear hK K hR
    have hR := hR'
    clear hR'
    (try simp only [put_laws])
    (refine wpAnyM_one (i := 2) rfl (by kernel_rfl) (fun K hK => ?_); rw [if_pos (by rfl)]; (try simp only [elem_laws]))
    go_simp
    refine (HS1.out _).mono ?_
    rintro e w' ⟨rfl, rfl⟩
    refine hK _ _ (fun _ => hR) ?_
    clear hK K
    (try simp only [put_laws])
    (refine wpAnyM_one (i := 5) rfl (by kernel_rfl) (fun K hK => ?_); rw [if_pos (by rfl)]; (try simp only [elem_laws]))
    go_simp
    refine (HS2.out _).mono ?_
    rintro e w' ⟨rfl, rfl⟩
    refine hK _ _ (fun _ => hR) ?_
    clear hK K
    (try simp only [put_laws])
    (refine wpAnyM_take (i := 6) (v := ?_) rfl (by kernel_rfl) (by kernel_rfl) (fun _ _ _ h => h) (Or.inl ⟨by rfl, ?_⟩) hR ?_; rotate_left; (focus (intro w hSw; (try dsimp only at hSw); go_simp; (try with_reducible rfl))); (try simp only [put_laws]))
    (refine wpAnyM_last rfl (by kernel_rfl) (fun K hK => ?_); rw [if_pos (by rfl)]; (try simp only [elem_laws]))
    go_simp
    refine hK _ _ ?_
    clear hK K hR
    (try simp only [put_laws])
    refine wpAnyM_done (by kernel_rfl) ?_ _
    obtain ⟨W2, hW2⟩ : ∃ W2, (W1.alloc (.cells #[.int .i64 x1, .int .i64 x2] 25)).drew = W2 := ⟨_, rfl⟩
    have h12 : Below W1.heap.size W1 W2 := by rw [← hW2]; exact ((Below.refl _ _).alloc (Nat.le_refl _) _).drew
    have HX2 := Lib.hid (HX1.out.below h12 HX1.out.lt)
    have HZ2 := Lib.hid (HZ1.out.below h12 HZ1.out.lt)
    have HB2 := Lib.hid (HB1.out.trans (h12.mono HB1.out.size))
    have hy : Blk W2 W1.heap.size 25 #[.int .i64 x1, .int .i64 x2] := by
      rw [← hW2]
      exact (Blk.new W1 _ _).below (n := W1.heap.size + 1) (Below.refl _ _).drew (by omega)
    have HLY : Hid (∀ V, Below W2.heap.size W2 V → (Instr.loadAt 25 (.pointer (some ⟨W1.heap.size, 0, none⟩))).run Tryz.prog V = .ok (.agg #[.int .i64 x1, .int .i64 x2]) V) := show ∀ V, _ from fun V hV => (hy.below hV hy.lt).load (tt := 25) Tryz.underlying25 rfl (by kernel_rfl)
    have HLX : Hid (∀ V, Below W2.heap.size W2 V → (Instr.loadAt 23 (.pointer (some ⟨w.heap.size, 0, none⟩))).run Tryz.prog V = .ok (.agg X) V) := show ∀ V, _ from fun V hV => (HX2.out.below hV HX2.out.lt).load (tt := 23) Tryz.underlying23 rfl (by rw [HXS.out]; kernel_rfl)
    rw [hW2]
    clear hW2 h12 hy
    go_wp2_with fail
    have hR : Below W2.heap.size W2 W2.drew := (Below.refl _ _).drew
    refine wp_region_M 8 (fun V : World => Below W2.heap.size W2 V) (by kernel_rfl) ?_
    cases r
    · (refine wpAnyM_take2 8 (i := 0) (v := _) rfl (by kernel_rfl) (by kernel_rfl) (fun _ _ _ h => h) (Or.inl ⟨by rfl, fun w hSw => nd_exec_load rfl rfl (HLY.out w hSw)⟩) hR ?_; (try simp only [put_laws]))
      (refine wpAnyM_one (i := 1) rfl (by kernel_rfl) (fun K hK => ?_); rw [if_pos (by rfl)]; (try simp only [elem_laws]))
      go_simp
      refine (HRS.out _).mono ?_
      rintro e w3 ⟨rfl, hb⟩
      have hR' : Below W2.heap.size W2 w3 := hR.trans (hb.mono hR.size)
      refine hK _ _ (fun _ => hR') ?_
      clear hK K hR hb
      have hR := hR'
      clear hR'
      (try simp only [put_laws])
      (refine wpAnyM_take2 8 (i := 2) (v := ?_) rfl (by kernel_rfl) (by kernel_rfl) (fun _ _ _ h => h) (Or.inl ⟨by rfl, ?_⟩) hR ?_; rotate_left; (focus (intro w hSw; (try dsimp only at hSw); go_simp; (try with_reducible rfl))); (try simp only [put_laws])); (refine wpAnyM_take2 8 (i := 3) (v := ?_) rfl (by kernel_rfl) (by kernel_rfl) (fun _ _ _ h => h) (Or.inl ⟨by rfl, ?_⟩) hR ?_; rotate_left; (focus (intro w hSw; (try dsimp only at hSw); go_simp; (try with_reducible rfl))); (try simp only [put_laws]))
      (refine wpAnyM_take2 8 (i := 4) (v := undef) rfl (by kernel_rfl) (by kernel_rfl) (fun _ _ _ h => h) (Or.inr ⟨by rfl, rfl⟩) hR ?_; (try simp only [put_laws])); (refine wpAnyM_take2 8 (i := 5) (v := undef) rfl (by kernel_rfl) (by kernel_rfl) (fun _ _ _ h => h) (Or.inr ⟨by rfl, rfl⟩) hR ?_; (try simp only [put_laws])); (refine wpAnyM_take2 8 (i := 6) (v := undef) rfl (by kernel_rfl) (by kernel_rfl) (fun _ _ _ h => h) (Or.inr ⟨by rfl, rfl⟩) hR ?_; (try simp only [put_laws]))
      (refine wpAnyM_take (i := 7) (v := undef) rfl (by kernel_rfl) (by kernel_rfl) (fun _ _ _ h => h) (Or.inr ⟨by rfl, rfl⟩) hR ?_; (try simp only [put_laws]))
      (refine wpAnyM_last rfl (by kernel_rfl) (fun K hK => ?_); rw [if_pos (by rfl)]; (try simp only [elem_laws]))
      go_simp
      have HR := Lib.hid hR
      clear hR
      refine hK _ _ ?_
      clear hK K
      (try simp only [put_laws])
      refine wpAnyM_done (by kernel_rfl) ?_ _
      have hR := HR.out
      clear HR
      have HZ3 := Lib.hid (HZ2.out.below hR HZ2.out.lt)
      have HB3 := Lib.hid (HB2.out.trans (hR.mono HB2.out.size))
      have HY3 := Lib.hid (HLY.out _ hR)
      clear hR
      obtain ⟨W5, hs, hx5, ht5⟩ := HZ3.out.store (tt := 25) (P := Tryz.prog) (Y := #[.int .i64 0, .int .i64 0]) (by kernel_rfl) rfl (show (ints [0, 0]).all (·.oneCell') = true from one_ints _)
      have HST := Lib.hid hs
      have HX5 := Lib.hid hx5
      have HB5 : Hid (Below w.heap.size w W5) := show Below _ _ _ from HB3.out.trans (ht5.below (B := w.heap.size) (fun k h => by omega) HB3.out.size)
      clear hs hx5 ht5
      have HZ0 := HST
      go_wp2_with (first | (refine ndList_store rfl 25 _ _ rfl _ _ rfl rfl HST.out ?_))
      exact bodyPost_ret (results_cell_tmp (fn := Tryz.f9) rfl rfl (HX5.out.loadVar (tt := 25) Tryz.underlying25 rfl (by kernel_rfl)) rfl) rfl ⟨rfl, HB5.out⟩
    · (refine wpAnyM_take2 8 (i := 0) (v := _) rfl (by kernel_rfl) (by kernel_rfl) (fun _ _ _ h => h) (Or.inl ⟨by rfl, fun w hSw => nd_exec_load rfl rfl (HLY.out w hSw)⟩) hR ?_; (try simp only [put_laws]))
      (refine wpAnyM_one (i := 1) rfl (by kernel_rfl) (fun K hK => ?_); rw [if_pos (by rfl)]; (try simp only [elem_laws]))
      go_simp
      refine (HRS.out _).mono ?_
      rintro e w3 ⟨rfl, hb⟩
      have hR' : Below W2.heap.size W2 w3 := hR.trans (hb.mono hR.size)
      refine hK _ _ (fun _ => hR') ?_
      clear hK K hR hb
      have hR := hR'
      clear hR'
      (try simp only [put_laws])
      (refine wpAnyM_take2 8 (i := 2) (v := ?_) rfl (by kernel_rfl) (by kernel_rfl) (fun _ _ _ h => h) (Or.inl ⟨by rfl, ?_⟩) hR ?_; rotate_left; (focus (intro w hSw; (try dsimp only at hSw); go_simp; (try with_reducible rfl))); (try simp only [put_laws]))
      (refine wpAnyM_take (i := 3) (v := ?_) rfl (by kernel_rfl) (by kernel_rfl) (fun _ _ _ h => h) (Or.inl ⟨by rfl, ?_⟩) hR ?_; rotate_left; (focus (intro w hSw; (try dsimp only at hSw); go_simp; (try with_reducible rfl))); (try simp only [put_laws]))
      (refine wpAnyM_take2 8 (i := 4) (v := _) rfl (by kernel_rfl) (by kernel_rfl) (fun _ _ _ h => h) (Or.inl ⟨by rfl, fun w hSw => nd_exec_load rfl rfl (HLX.out w hSw)⟩) hR ?_; (try simp only [put_laws]))
      (refine wpAnyM_take2 8 (i := 5) (v := _) rfl (by kernel_rfl) (by kernel_rfl) (fun _ _ _ h => h) (Or.inl ⟨by rfl, fun w hSw => nd_exec_load rfl rfl (HLY.out w hSw)⟩) hR ?_; (try simp only [put_laws]))
      (refine wpAnyM_one (i := 6) rfl (by kernel_rfl) (fun K hK => ?_); rw [if_pos (by rfl)]; (try simp only [elem_laws]))
      go_simp
      refine (HPS.out _).mono ?_
      rintro e w4 ⟨rfl, hb⟩
      have hR' : Below W2.heap.size W2 w4 := hR.trans (hb.mono hR.size)
      refine hK _ _ (fun _ => hR') ?_
      clear hK K hR hb
      have hR := hR'
      clear hR'
      (try simp only [put_laws])
      have hE := HEE.out
      (refine wpAnyM_take (i := 7) (v := ?_) rfl (by kernel_rfl) (by kernel_rfl) (fun _ _ _ h => h) (Or.inl ⟨by rfl, ?_⟩) hR ?_; rotate_left; (focus (intro w hSw; (try dsimp only at hSw); go_simp; (try with_reducible rfl))); (try simp only [put_laws]))
      clear hE
      (refine wpAnyM_last rfl (by kernel_rfl) (fun K hK => ?_); rw [if_pos (by rfl)]; (try simp only [elem_laws]))
      go_simp
      have HR := Lib.hid hR
      clear hR
      refine hK _ _ ?_
      clear hK K
      (try simp only [put_laws])
      refine wpAnyM_done (by kernel_rfl) ?_ _
      have hR := HR.out
      clear HR
      have HZ3 := Lib.hid (HZ2.out.below hR HZ2.out.lt)
      have HB3 := Lib.hid (HB2.out.trans (hR.mono HB2.out.size))
      have HY3 := Lib.hid (HLY.out _ hR)
      clear hR
      cases q
      · obtain ⟨W5, hs, hx5, ht5⟩ := HZ3.out.store (tt := 25) (P := Tryz.prog) (Y := #[.int .i64 0, .int .i64 0]) (by kernel_rfl) rfl (show (ints [0, 0]).all (·.oneCell') = true from one_ints _)
        have HST := Lib.hid hs
        have HX5 := Lib.hid hx5
        have HB5 : Hid (Below w.heap.size w W5) := show Below _ _ _ from HB3.out.trans (ht5.below (B := w.heap.size) (fun k h => by omega) HB3.out.size)
        clear hs hx5 ht5
        have HZ0 := HST
        go_wp2_with (first | (refine ndList_store rfl 25 _ _ rfl _ _ rfl rfl HST.out ?_))
        exact bodyPost_ret (results_cell_tmp (fn := Tryz.f9) rfl rfl (HX5.out.loadVar (tt := 25) Tryz.underlying25 rfl (by kernel_rfl)) rfl) rfl ⟨rfl, HB5.out⟩
      · obtain ⟨W5, hs, hx5, ht5⟩ := HZ3.out.store (tt := 25) (P := Tryz.prog) (Y := #[.int .i64 x1, .int .i64 x2]) (by kernel_rfl) rfl (show (ints [x1, x2]).all (·.oneCell') = true from one_ints _)
        have HST := Lib.hid hs
        have HX5 := Lib.hid hx5
        have HB5 : Hid (Below w.heap.size w W5) := show Below _ _ _ from HB3.out.trans (ht5.below (B := w.heap.size) (fun k h => by omega) HB3.out.size)
        clear hs hx5 ht5
        go_wp2_with (first | (refine ndList_store rfl 25 _ _ rfl _ _ rfl rfl HST.out ?_) | (refine ndList_load rfl 25 _ rfl _ _ rfl HY3.out ?_))
        exact bodyPost_ret (results_cell_tmp (fn := Tryz.f9) rfl rfl (HX5.out.loadVar (tt := 25) Tryz.underlying25 rfl (by kernel_rfl)) rfl) rfl ⟨rfl, HB5.out⟩
end Go.Proofs.YtaebipopmefkpaaGreatDoor
