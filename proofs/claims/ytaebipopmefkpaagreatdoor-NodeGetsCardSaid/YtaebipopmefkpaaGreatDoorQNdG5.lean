/-
  node: the document's answers: GetMap.
-/
import Derived.Test.YtaebipopmefkpaaGreatDoorQNdG4
import Derived.Test.YtaebipopmefkpaaGreatDoorMn22
namespace Go.Proofs.YtaebipopmefkpaaGreatDoor
open Go.RowKit Go.Shelf
attribute [local go_sem] Oper.semAt_some

set_option maxRecDepth 100000 in
set_option maxHeartbeats 8000000 in
theorem refGetMap_any (l : List Int) (hl : Line8 l) (r : Bool) (hr : okSp mapSpecs (ints (smG 8 l 8)) = r) (w : World) : Calls Tryz.prog 11 #[.agg (lnA l)] w fun e w' => e = .returned (.tuple #[.agg (if r = true then ints (smG 8 l 8) else ndZeroM), .bool r]) ∧ Below w.heap.size w w' := by
  obtain ⟨X, hX⟩ : ∃ X, lnA l = X := ⟨_, rfl⟩
  rw [hX]
  obtain ⟨W1, hW1⟩ : ∃ W1, ((w.alloc (.cells X 23)).alloc (.cells #[.int .i64 0, .int .i64 0, .int .i64 0, .int .i64 0, .int .i64 0, .int .i64 0, .int .i64 0, .int .i64 0] 36)).alloc (.cells (ints (smG 8 l 1)) 36) = W1 := ⟨_, rfl⟩
  have HB1 : Hid (Below w.heap.size w W1) := show Below _ _ _ by rw [← hW1]; exact (by repeat (first | exact Below.refl _ _ | assumption | refine Below.drew ?_ | refine below_drewN ?_ _ | refine Below.alloc ?_ (by (try simp) <;> omega) _ | refine Below.setCell ?_ (by (try simp) <;> omega) _ | refine Below.trans ?_ (Below.mono (by assumption) (by (try simp) <;> omega))))
  have HX1 : Hid (Blk W1 w.heap.size 23 X) := show Blk _ _ _ _ by rw [← hW1]; exact (Blk.new w _ _).below (n := w.heap.size + 1) (((Below.refl _ _).alloc (by simp) _).alloc (by (try simp) <;> omega) _) (by omega)
  have HR1 : Hid (Blk W1 (w.heap.size + 1) 36 ndZeroM) := show Blk _ _ _ _ by
    rw [← hW1]
    have := Blk.new (w.alloc (.cells X 23)) 36 ndZeroM
    rw [World.size_alloc] at this
    exact this.below (n := w.heap.size + 1 + 1) ((Below.refl _ _).alloc (by simp) _) (by omega)
  have HL1 : Hid (Blk W1 (w.heap.size + 1 + 1) 36 (ints (smG 8 l 1))) := show Blk _ _ _ _ by
    rw [← hW1]
    have := Blk.new ((w.alloc (.cells X 23)).alloc (.cells #[.int .i64 0, .int .i64 0, .int .i64 0, .int .i64 0, .int .i64 0, .int .i64 0, .int .i64 0, .int .i64 0] 36)) 36 (ints (smG 8 l 1))
    rw [World.size_alloc, World.size_alloc] at this
    exact this
  have c00 : ((w.alloc (.cells X 23)).alloc (.cells #[.int .i64 0, .int .i64 0, .int .i64 0, .int .i64 0, .int .i64 0, .int .i64 0, .int .i64 0, .int .i64 0] 36)).cell? ⟨w.heap.size, 0, none⟩ = some (.int .u64 (l[0]?.getD 0)) := by
    rw [← hX]
    exact ((Blk.new w _ _).below (n := w.heap.size + 1) ((Below.refl _ _).alloc (by simp) _) (by omega)).cell (lnA_at l 0 (by rw [hl.1]; decide))
  have HS0 : Hid (∀ W, Calls Tryz.prog 26 #[.int .u64 (l[0]?.getD 0)] W fun e w' => e = .returned (.int .i64 (smN (l[0]?.getD 0))) ∧ W = w') := show ∀ W, _ from fun W => refSmall_any _ (line8_nat hl 0) W
  have e1 : ints (smG 8 l 1) = #[.int .i64 (smN (l[0]?.getD 0)), .int .i64 0, .int .i64 0, .int .i64 0, .int .i64 0, .int .i64 0, .int .i64 0, .int .i64 0] := rfl
  have hW2 := hW1
  rw [e1] at hW2
  clear e1
  obtain ⟨z0, hz0⟩ : ∃ z, smN (l[0]?.getD 0) = z := ⟨_, rfl⟩
  rw [hz0] at HS0 hW2
  obtain ⟨y0, hy0⟩ : ∃ y, l[0]?.getD 0 = y := ⟨_, rfl⟩
  rw [hy0] at HS0 c00
  have HXX := Lib.hid hX
  have HLL := Lib.hid hl
  have HRR := Lib.hid hr
  have HW := Lib.hid hW2
  clear hW1 hW2 hz0 hy0 hX hl hr
  go_enter Tryz.func11, Tryz.ntmps11
  go_wp2_with (go_at_call 26; refine (HS0.out _).mono ?_; rintro e w' ⟨rfl, rfl⟩)
  rw [HW.out]
  clear c00
  go_loopw [5] (fun i wr => ∃ k : Nat, k ≤ 7 ∧ i = .int .i64 (k : Nat) ∧ Hid (Below w.heap.size w wr) ∧ Hid (Blk wr w.heap.size 23 X) ∧ Hid (Blk wr (w.heap.size + 1) 36 ndZeroM) ∧ Hid (Blk wr (w.heap.size + 1 + 1) 36 (ints (smG 8 l (1 + k))))) (fun i _ => 7 - (intOf i).toNat)
  case atStart => exact ⟨0, by decide, rfl, HB1, HX1, HR1, HL1⟩
  case round =>
    obtain ⟨k, hk, rfl, HB, HX, HR, HL⟩ := hrel
    by_cases hlt : k < 7
    · have hk2 : ((k : Nat) : Int) < 7 := by omega
      have hk3 : ((k : Nat) : Int) < 8 := by omega
      have c1 : wr.cell? ⟨w.heap.size, k + 1, none⟩ = some (.int .u64 (l[k + 1]?.getD 0)) := HX.out.cell (by rw [← HXX.out]; exact lnA_at l (k + 1) (by rw [HLL.out.1]; omega))
      have c2 : wr.cell? ⟨w.heap.size + 1 + 1, 1 + k, none⟩ = some (.int .i64 ((smG 8 l (1 + k))[1 + k]?.getD 0)) := HL.out.cell (ints_at _ (1 + k) (by rw [smG_len]; omega))
      have f2 := HL.out.frozen (1 + k)
      have HN : Hid (Blk (wr.setCell ⟨w.heap.size + 1 + 1, 1 + k, none⟩ (.int .i64 (smN (l[k + 1]?.getD 0)))) (w.heap.size + 1 + 1) 36 (ints (smG 8 l (1 + (k + 1))))) := show Blk _ _ _ _ by
        have := HL.out.set (1 + k) (.int .i64 (smN (l[k + 1]?.getD 0)))
        rw [set_ints] at this
        rw [show 1 + (k + 1) = (1 + k) + 1 from by omega, ← smG_set 8 l (1 + k), show l[1 + k]?.getD 0 = l[k + 1]?.getD 0 from by rw [Nat.add_comm]]
        exact this
      have HS : Hid (∀ W, Calls Tryz.prog 26 #[.int .u64 (l[k + 1]?.getD 0)] W fun e w' => e = .returned (.int .i64 (smN (l[k + 1]?.getD 0))) ∧ W = w') := show ∀ W, _ from fun W => refSmall_any _ (line8_nat HLL.out (k + 1)) W
      obtain ⟨z, hz⟩ : ∃ z, smN (l[k + 1]?.getD 0) = z := ⟨_, rfl⟩
      rw [hz] at HS HN
      obtain ⟨y, hy⟩ : ∃ y, l[k + 1]?.getD 0 = y := ⟨_, rfl⟩
      rw [hy] at c1 HS
      clear hy hz
      go_wp2_with (go_at_call 26; refine (HS.out _).mono ?_; rintro e w' ⟨rfl, rfl⟩)
      go_roundw
      case rel => exact ⟨k + 1, by omega, by go_num, (show Below _ _ _ from HB.out.setCell (p := ⟨w.heap.size + 1 + 1, 1 + k, none⟩) (by show w.heap.size ≤ w.heap.size + 1 + 1; omega) _), (show Blk _ _ _ _ from HX.out.setOther _ (by omega)), (show Blk _ _ _ _ from HR.out.setOther _ (by omega)), HN⟩
      case measure => simp [intOf]; omega
    · obtain rfl : k = 7 := by omega
      have HSZ : Hid ((ints (smG 8 l 8)).size = 8) := show _ = _ by rw [sz_ints, smG_len]
      have HON : Hid ((ints (smG 8 l 8)).all (·.oneCell') = true) := show _ = _ from one_ints _
      have HRT : Hid (∀ W, Calls Tryz.prog 31 #[.agg (ints (smG 8 l 8))] W fun e w' => e = .returned (.bool r) ∧ Below W.heap.size W w') := show ∀ W, _ from fun W => by
        rw [← HRR.out]
        exact refRightMap_any _ (smG_len 8 l 8) W
      obtain ⟨Y, hY⟩ : ∃ Y, ints (smG 8 l 8) = Y := ⟨_, rfl⟩
      rw [hY] at HL HSZ HON HRT
      have HYY := Lib.hid hY
      clear hY
      have HLD : Hid (∀ V, Blk V (w.heap.size + 1 + 1) 36 Y → (Instr.loadAt 36 (.pointer (some ⟨w.heap.size + 1 + 1, 0, none⟩))).run Tryz.prog V = .ok (.agg Y) V) := show ∀ V, _ → _ = _ from fun V h => h.load (tt := 36) Tryz.underlying36 rfl (by rw [HSZ.out]; kernel_rfl)
      have HLD0 := Lib.hid (HLD.out _ HL.out)
      go_wp2_with (first | (refine ndList_loadW (by rfl) 36 _ rfl _ _ rfl HLD0.out ?_))
      refine (HRT.out _).mono ?_
      rintro e w3 ⟨rfl, hb3⟩
      have HX3 := Lib.hid (HX.out.below hb3 HX.out.lt)
      have HR3 := Lib.hid (HR.out.below hb3 HR.out.lt)
      have HL3 := Lib.hid (HL.out.below hb3 HL.out.lt)
      have HB3 := Lib.hid (HB.out.trans (hb3.mono HB.out.size))
      clear hb3
      have HNO : Hid (∃ W5, (Instr.storeAt 36 (.pointer (some ⟨w.heap.size + 1, 0, none⟩)) (.agg ndZeroM)).run Tryz.prog w3 = .ok () W5 ∧ Blk W5 (w.heap.size + 1) 36 ndZeroM ∧ Below w.heap.size w W5) := show ∃ _, _ by
        obtain ⟨W5, hs, hx5, ht5⟩ := HR3.out.store (tt := 36) (P := Tryz.prog) (Y := ndZeroM) (by kernel_rfl) rfl (show (ints [0, 0, 0, 0, 0, 0, 0, 0]).all (·.oneCell') = true from one_ints _)
        exact ⟨W5, hs, hx5, HB3.out.trans (ht5.below (B := w.heap.size) (fun k h => by omega) HB3.out.size)⟩
      cases r
      · obtain ⟨W5, hs, hx5, hb5⟩ := HNO.out
        have HST := Lib.hid hs
        have HX5 := Lib.hid hx5
        have HB5 := Lib.hid hb5
        clear hs hx5 hb5
        go_wp2_with (first | (refine ndList_store rfl 36 _ _ rfl _ _ rfl rfl HST.out ?_))
        exact bodyPost_ret (results_cell_tmp (fn := Tryz.f11) rfl rfl (HX5.out.loadVar (tt := 36) Tryz.underlying36 rfl (by kernel_rfl)) rfl) rfl ⟨rfl, HB5.out⟩
      obtain ⟨W5, hs, hx5, ht5⟩ := HR3.out.store (tt := 36) (P := Tryz.prog) (Y := Y) (by rw [HSZ.out]; kernel_rfl) (by rw [HSZ.out]; rfl) HON.out
      have HST := Lib.hid hs
      have HX5 := Lib.hid hx5
      have HB5 : Hid (Below w.heap.size w W5) := show Below _ _ _ from HB3.out.trans (ht5.below (B := w.heap.size) (fun k h => by omega) HB3.out.size)
      have HLY := Lib.hid (HLD.out _ HL3.out)
      clear hs hx5 ht5
      go_wp2_with (first | (refine ndList_store rfl 36 _ _ rfl _ _ rfl rfl HST.out ?_) | (refine ndList_load rfl 36 _ rfl _ _ rfl HLY.out ?_))
      exact bodyPost_ret (results_cell_tmp (fn := Tryz.f11) rfl rfl (HX5.out.loadVar (tt := 36) Tryz.underlying36 rfl (by rw [HSZ.out]; kernel_rfl)) rfl) rfl ⟨by rw [HYY.out]; rfl, HB5.out⟩
end Go.Proofs.YtaebipopmefkpaaGreatDoor
