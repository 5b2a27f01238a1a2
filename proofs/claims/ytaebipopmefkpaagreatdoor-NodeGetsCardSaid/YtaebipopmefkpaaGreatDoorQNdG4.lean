/-
  node: the document's answers: GetTable.
-/
import Derived.Test.YtaebipopmefkpaaGreatDoorQNdG3
import Derived.Test.YtaebipopmefkpaaGreatDoorMn22
namespace Go.Proofs.YtaebipopmefkpaaGreatDoor
open Go.RowKit Go.Shelf
attribute [local go_sem] Oper.semAt_some

/-- The first k of n words, as small numbers. -/
def smG (n : Nat) (l : List Int) (k : Nat) : List Int := (List.range n).map fun j => if j < k then smN (l[j]?.getD 0) else 0
theorem smG_len (n : Nat) (l : List Int) (k : Nat) : (smG n l k).length = n := by simp [smG]
theorem smG_set (n : Nat) (l : List Int) (k : Nat) : (smG n l k).set k (smN (l[k]?.getD 0)) = smG n l (k + 1) := by
  refine List.ext_getElem (by simp [smG]) fun j h1 h2 => ?_
  rw [List.getElem_set]
  simp only [smG, List.getElem_map, List.getElem_range]
  by_cases h : k = j
  · subst h
    rw [if_pos rfl, if_pos (by omega)]
  · rw [if_neg h]
    by_cases h3 : j < k
    · rw [if_pos h3, if_pos (by omega)]
    · rw [if_neg h3, if_neg (by omega)]
theorem sz_ints (l : List Int) : (ints l).size = l.length := by simp [ints]
theorem one_ints (l : List Int) : (ints l).all (·.oneCell') = true := by
  simp [ints, Value.oneCell']
theorem set_ints (l : List Int) (k : Nat) (x : Int) : (ints l).setIfInBounds k (.int .i64 x) = ints (l.set k x) := by
  simp [ints, List.map_set]
theorem line8_nat {l : List Int} (hl : Line8 l) (j : Nat) : (0 : Int) ≤ l[j]?.getD 0 := by
  by_cases h : j < l.length
  · rw [List.getElem?_eq_getElem h, Option.getD_some]
    exact (hl.2 _ (List.getElem_mem h)).1
  · rw [List.getElem?_eq_none (by omega)]
    exact Int.le_refl _
set_option maxRecDepth 100000 in
set_option maxHeartbeats 8000000 in
theorem refGetTable_any (l : List Int) (hl : Line8 l) (r q : Bool) (hr : okSp tableSpecs (ints (smG 7 l 7)) = r) (hq : (l[7]?.getD 0 == 0) = q) (w : World) : Calls Tryz.prog 12 #[.agg (lnA l)] w fun e w' => e = .returned (.tuple #[.agg (if (r && q) = true then ints (smG 7 l 7) else ndZeroT), .bool (r && q)]) ∧ Below w.heap.size w w' := by
  obtain ⟨X, hX⟩ : ∃ X, lnA l = X := ⟨_, rfl⟩
  rw [hX]
  obtain ⟨W1, hW1⟩ : ∃ W1, ((w.alloc (.cells X 23)).alloc (.cells #[.int .i64 0, .int .i64 0, .int .i64 0, .int .i64 0, .int .i64 0, .int .i64 0, .int .i64 0] 40)).alloc (.cells #[.int .i64 0, .int .i64 0, .int .i64 0, .int .i64 0, .int .i64 0, .int .i64 0, .int .i64 0] 40) = W1 := ⟨_, rfl⟩
  have HB1 : Hid (Below w.heap.size w W1) := show Below _ _ _ by rw [← hW1]; exact (by repeat (first | exact Below.refl _ _ | assumption | refine Below.drew ?_ | refine below_drewN ?_ _ | refine Below.alloc ?_ (by (try simp) <;> omega) _ | refine Below.setCell ?_ (by (try simp) <;> omega) _ | refine Below.trans ?_ (Below.mono (by assumption) (by (try simp) <;> omega))))
  have HX1 : Hid (Blk W1 w.heap.size 23 X) := show Blk _ _ _ _ by rw [← hW1]; exact (Blk.new w _ _).below (n := w.heap.size + 1) (((Below.refl _ _).alloc (by simp) _).alloc (by (try simp) <;> omega) _) (by omega)
  have HR1 : Hid (Blk W1 (w.heap.size + 1) 40 ndZeroT) := show Blk _ _ _ _ by
    rw [← hW1]
    have := Blk.new (w.alloc (.cells X 23)) 40 ndZeroT
    rw [World.size_alloc] at this
    exact this.below (n := w.heap.size + 1 + 1) ((Below.refl _ _).alloc (by simp) _) (by omega)
  have HL1 : Hid (Blk W1 (w.heap.size + 1 + 1) 40 (ints (smG 7 l 0))) := show Blk _ _ _ _ by
    rw [← hW1]
    have := Blk.new ((w.alloc (.cells X 23)).alloc (.cells #[.int .i64 0, .int .i64 0, .int .i64 0, .int .i64 0, .int .i64 0, .int .i64 0, .int .i64 0] 40)) 40 (ints (smG 7 l 0))
    rw [World.size_alloc, World.size_alloc] at this
    exact this
  have HXX := Lib.hid hX
  have HLL := Lib.hid hl
  have HRR := Lib.hid hr
  have HQQ := Lib.hid hq
  have HW := Lib.hid hW1
  clear hW1 hX hl hr hq
  go_enter Tryz.func12, Tryz.ntmps12
  go_wp2_with fail
  rw [HW.out]
  go_loopw [5] (fun i wr => ∃ k : Nat, k ≤ 7 ∧ i = .int .i64 (k : Nat) ∧ Hid (Below w.heap.size w wr) ∧ Hid (Blk wr w.heap.size 23 X) ∧ Hid (Blk wr (w.heap.size + 1) 40 ndZeroT) ∧ Hid (Blk wr (w.heap.size + 1 + 1) 40 (ints (smG 7 l k)))) (fun i _ => 7 - (intOf i).toNat)
  case atStart => exact ⟨0, by decide, rfl, HB1, HX1, HR1, HL1⟩
  case round =>
    obtain ⟨k, hk, rfl, HB, HX, HR, HL⟩ := hrel
    by_cases hlt : k < 7
    · have hk2 : ((k : Nat) : Int) < 7 := by omega
      have hk3 : ((k : Nat) : Int) < 8 := by omega
      have c1 : wr.cell? ⟨w.heap.size, k, none⟩ = some (.int .u64 (l[k]?.getD 0)) := HX.out.cell (by rw [← HXX.out]; exact lnA_at l k (by rw [HLL.out.1]; omega))
      have c2 : wr.cell? ⟨w.heap.size + 1 + 1, k, none⟩ = some (.int .i64 ((smG 7 l k)[k]?.getD 0)) := HL.out.cell (ints_at _ k (by rw [smG_len]; omega))
      have f2 := HL.out.frozen k
      have HN : Hid (Blk (wr.setCell ⟨w.heap.size + 1 + 1, k, none⟩ (.int .i64 (smN (l[k]?.getD 0)))) (w.heap.size + 1 + 1) 40 (ints (smG 7 l (k + 1)))) := show Blk _ _ _ _ by
        have := HL.out.set k (.int .i64 (smN (l[k]?.getD 0)))
        rw [set_ints] at this
        rw [← smG_set 7 l k]
        exact this
      have HS : Hid (∀ W, Calls Tryz.prog 26 #[.int .u64 (l[k]?.getD 0)] W fun e w' => e = .returned (.int .i64 (smN (l[k]?.getD 0))) ∧ W = w') := show ∀ W, _ from fun W => refSmall_any _ (line8_nat HLL.out k) W
      obtain ⟨z, hz⟩ : ∃ z, smN (l[k]?.getD 0) = z := ⟨_, rfl⟩
      rw [hz] at HS HN
      obtain ⟨y, hy⟩ : ∃ y, l[k]?.getD 0 = y := ⟨_, rfl⟩
      rw [hy] at c1 HS
      clear hy hz
      go_wp2_with (go_at_call 26; refine (HS.out _).mono ?_; rintro e w' ⟨rfl, rfl⟩)
      go_roundw
      case rel => exact ⟨k + 1, by omega, by go_num, (show Below _ _ _ from HB.out.setCell (p := ⟨w.heap.size + 1 + 1, k, none⟩) (by show w.heap.size ≤ w.heap.size + 1 + 1; omega) _), (show Blk _ _ _ _ from HX.out.setOther _ (by omega)), (show Blk _ _ _ _ from HR.out.setOther _ (by omega)), HN⟩
      case measure => simp [intOf]; omega
    · obtain rfl : k = 7 := by omega
      have HSZ : Hid ((ints (smG 7 l 7)).size = 7) := show _ = _ by rw [sz_ints, smG_len]
      have HON : Hid ((ints (smG 7 l 7)).all (·.oneCell') = true) := show _ = _ from one_ints _
      have HRT : Hid (∀ W, Calls Tryz.prog 32 #[.agg (ints (smG 7 l 7))] W fun e w' => e = .returned (.bool r) ∧ Below W.heap.size W w') := show ∀ W, _ from fun W => by
        rw [← HRR.out]
        exact refRightTable_any _ (smG_len 7 l 7) W
      obtain ⟨Y, hY⟩ : ∃ Y, ints (smG 7 l 7) = Y := ⟨_, rfl⟩
      rw [hY] at HL HSZ HON HRT
      have HYY := Lib.hid hY
      clear hY
      have HLD : Hid (∀ V, Blk V (w.heap.size + 1 + 1) 40 Y → (Instr.loadAt 40 (.pointer (some ⟨w.heap.size + 1 + 1, 0, none⟩))).run Tryz.prog V = .ok (.agg Y) V) := show ∀ V, _ → _ = _ from fun V h => h.load (tt := 40) Tryz.underlying40 rfl (by rw [HSZ.out]; kernel_rfl)
      have HLD0 := Lib.hid (HLD.out _ HL.out)
      go_wp2_with (first | (refine ndList_loadW (by rfl) 40 _ rfl _ _ rfl HLD0.out ?_))
      refine (HRT.out _).mono ?_
      rintro e w3 ⟨rfl, hb3⟩
      have HX3 := Lib.hid (HX.out.below hb3 HX.out.lt)
      have HR3 := Lib.hid (HR.out.below hb3 HR.out.lt)
      have HL3 := Lib.hid (HL.out.below hb3 HL.out.lt)
      have HB3 := Lib.hid (HB.out.trans (hb3.mono HB.out.size))
      clear hb3
      have HNO : Hid (∃ W5, (Instr.storeAt 40 (.pointer (some ⟨w.heap.size + 1, 0, none⟩)) (.agg ndZeroT)).run Tryz.prog w3 = .ok () W5 ∧ Blk W5 (w.heap.size + 1) 40 ndZeroT ∧ Below w.heap.size w W5) := show ∃ _, _ by
        obtain ⟨W5, hs, hx5, ht5⟩ := HR3.out.store (tt := 40) (P := Tryz.prog) (Y := ndZeroT) (by kernel_rfl) rfl (show (ints [0, 0, 0, 0, 0, 0, 0]).all (·.oneCell') = true from one_ints _)
        exact ⟨W5, hs, hx5, HB3.out.trans (ht5.below (B := w.heap.size) (fun k h => by omega) HB3.out.size)⟩
      cases r
      · obtain ⟨W5, hs, hx5, hb5⟩ := HNO.out
        have HST := Lib.hid hs
        have HX5 := Lib.hid hx5
        have HB5 := Lib.hid hb5
        clear hs hx5 hb5
        go_wp2_with (first | (refine ndList_store rfl 40 _ _ rfl _ _ rfl rfl HST.out ?_))
        exact bodyPost_ret (results_cell_tmp (fn := Tryz.f12) rfl rfl (HX5.out.loadVar (tt := 40) Tryz.underlying40 rfl (by kernel_rfl)) rfl) rfl ⟨rfl, HB5.out⟩
      have c7 : w3.cell? ⟨w.heap.size, 7, none⟩ = some (.int .u64 (l[7]?.getD 0)) := HX3.out.cell (by rw [← HXX.out]; exact lnA_at l 7 (by rw [HLL.out.1]; omega))
      obtain ⟨y, hy⟩ : ∃ y, l[7]?.getD 0 = y := ⟨_, rfl⟩
      rw [hy] at c7
      have HQ2 : Hid ((y == 0) = q) := show _ = _ by rw [← hy]; exact HQQ.out
      clear hy HLD0
      cases q
      · have hy2 : (y != 0) = true := by have := HQ2.out; simpa using this
        obtain ⟨W5, hs, hx5, hb5⟩ := HNO.out
        have HST := Lib.hid hs
        have HX5 := Lib.hid hx5
        have HB5 := Lib.hid hb5
        clear hs hx5 hb5
        go_wp2_with (first | (refine ndList_store rfl 40 _ _ rfl _ _ rfl rfl HST.out ?_))
        exact bodyPost_ret (results_cell_tmp (fn := Tryz.f12) rfl rfl (HX5.out.loadVar (tt := 40) Tryz.underlying40 rfl (by kernel_rfl)) rfl) rfl ⟨rfl, HB5.out⟩
      · have hy2 : y = 0 := by have := HQ2.out; simpa using this
        subst hy2
        obtain ⟨W5, hs, hx5, ht5⟩ := HR3.out.store (tt := 40) (P := Tryz.prog) (Y := Y) (by rw [HSZ.out]; kernel_rfl) (by rw [HSZ.out]; rfl) HON.out
        have HST := Lib.hid hs
        have HX5 := Lib.hid hx5
        have HB5 : Hid (Below w.heap.size w W5) := show Below _ _ _ from HB3.out.trans (ht5.below (B := w.heap.size) (fun k h => by omega) HB3.out.size)
        have HLY := Lib.hid (HLD.out _ HL3.out)
        clear hs hx5 ht5
        go_wp2_with (first | (refine ndList_store rfl 40 _ _ rfl _ _ rfl rfl HST.out ?_) | (refine ndList_load rfl 40 _ rfl _ _ rfl HLY.out ?_))
        exact bodyPost_ret (results_cell_tmp (fn := Tryz.f12) rfl rfl (HX5.out.loadVar (tt := 40) Tryz.underlying40 rfl (by rw [HSZ.out]; kernel_rfl)) rfl) rfl ⟨by rw [HYY.out]; rfl, HB5.out⟩
end Go.Proofs.YtaebipopmefkpaaGreatDoor
