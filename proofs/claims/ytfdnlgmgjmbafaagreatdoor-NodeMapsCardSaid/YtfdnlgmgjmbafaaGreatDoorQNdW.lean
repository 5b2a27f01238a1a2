/-
  node: the document's answers: maps, entries.
-/
import Derived.Test.YtfdnlgmgjmbafaaGreatDoorQNdRB
import Derived.Test.YtfdnlgmgjmbafaaGreatDoorMh20
namespace Go.Proofs.YtfdnlgmgjmbafaaGreatDoor
open Go.RowKit Go.Shelf
attribute [local go_sem] Oper.semAt_some

theorem refChunks_any (n : Int) (h : 0 ≤ n ∧ n ≤ 448) (w : World) : Calls Tryz.prog 21 #[.int .i64 n] w fun e w' => e = .returned (.int .i64 (chunksN n)) ∧ w = w' := by
  have HO : Hid (chunksN n = (n + 63) / 64) := show _ = _ from if_pos h
  obtain ⟨h0, h1⟩ := h
  have w1 : wrap64 (n + 63) = n + 63 := by unfold wrap64; omega
  have hdv : (n + 63).tdiv 64 = (n + 63) / 64 := by rw [Int.tdiv_eq_ediv_of_nonneg (by omega)]
  have w3 : wrap64 ((n + 63) / 64) = (n + 63) / 64 := by unfold wrap64; omega
  go_enter Tryz.func21, Tryz.ntmps21
  go_wp2
  go_ret
  exact ⟨by rw [HO.out]; rfl, rfl⟩
theorem map_ok (l : List Int) (hl : l.length = 8) : okSp mapSpecs (ints l) = (inB (l[0]?.getD 0, 0, 448) && (List.range 7).all fun n => chunkOk n (l[0]?.getD 0) (l[1 + n]?.getD 0)) :=
  match l, hl with
  | [_, _, _, _, _, _, _, _], _ => rfl
theorem map_put (l : List Int) (hl : l.length = 8) : wrSp mapSpecs (ints l) zeros8 = tabLine l 8 :=
  match l, hl with
  | [_, _, _, _, _, _, _, _], _ => rfl
set_option maxRecDepth 100000 in
set_option maxHeartbeats 4000000 in
theorem refRightMap_any (l : List Int) (hl : l.length = 8) (w : World) : Calls Tryz.prog 26 #[.agg (ints l)] w fun e w' => e = .returned (.bool (okSp mapSpecs (ints l))) ∧ Below w.heap.size w w' := by
  rw [map_ok l hl]
  obtain ⟨X, hX⟩ : ∃ X, ints l = X := ⟨_, rfl⟩
  rw [hX]
  have HXX := Lib.hid hX
  have HLEN := Lib.hid hl
  have HPT := Lib.hid (fun n W => refPointer_any n false W)
  obtain ⟨W1, hW1⟩ : ∃ W1, w.alloc (.cells X 47) = W1 := ⟨_, rfl⟩
  have HB1 : Hid (Below w.heap.size w W1) := show Below _ _ _ by rw [← hW1]; exact (by repeat (first | exact Below.refl _ _ | assumption | refine Below.drew ?_ | refine below_drewN ?_ _ | refine Below.alloc ?_ (by (try simp) <;> omega) _ | refine Below.setCell ?_ (by (try simp) <;> omega) _ | refine Below.trans ?_ (Below.mono (by assumption) (by (try simp) <;> omega))))
  have HX1 : Hid (Blk W1 w.heap.size 47 X) := show Blk _ _ _ _ by rw [← hW1]; exact Blk.new _ _ _
  have c00 : (w.alloc (.cells X 47)).cell? ⟨w.heap.size, 0, none⟩ = some (.int .i64 (l[0]?.getD 0)) := by rw [hW1]; exact HX1.out.cell (by rw [← HXX.out]; exact ints_at l 0 (by rw [HLEN.out]; decide))
  have c01 : W1.cell? ⟨w.heap.size, 0, none⟩ = some (.int .i64 (l[0]?.getD 0)) := by rw [← hW1]; exact c00
  obtain ⟨z, hz⟩ : ∃ z, l[0]?.getD 0 = z := ⟨_, rfl⟩
  rw [hz] at c00 c01 ⊢
  have HCH := Lib.hid (fun (h : 0 ≤ z ∧ z ≤ 448) W => refChunks_any z h W)
  have HW := Lib.hid hW1
  clear hW1 hX hl hz
  by_cases g1 : z < 0
  · have : inB (z, 0, 448) = false := decide_eq_false (show ¬ (0 ≤ z ∧ z ≤ 448) by omega)
    rw [this, Bool.false_and]
    clear this
    go_enter Tryz.func26, Tryz.ntmps26
    go_wp2_with fail
    go_ret
    exact ⟨rfl, by rw [HW.out]; exact HB1.out⟩
  by_cases g2 : 448 < z
  · have : inB (z, 0, 448) = false := decide_eq_false (show ¬ (0 ≤ z ∧ z ≤ 448) by omega)
    rw [this, Bool.false_and]
    clear this
    go_enter Tryz.func26, Tryz.ntmps26
    go_wp2_with fail
    go_ret
    exact ⟨rfl, by rw [HW.out]; exact HB1.out⟩
  have : inB (z, 0, 448) = true := decide_eq_true (show 0 ≤ z ∧ z ≤ 448 by omega)
  rw [this, Bool.true_and]
  clear this
  have HC := Lib.hid (HCH.out (by omega))
  obtain ⟨N, hN⟩ : ∃ N, chunksN z = N := ⟨_, rfl⟩
  have HNN := Lib.hid hN
  rw [hN] at HC
  clear hN HCH
  go_enter Tryz.func26, Tryz.ntmps26
  go_wp2_with fail
  rw [HW.out]
  clear c00
  go_loopw [3] (fun i wr => ∃ k : Nat, k ≤ 7 ∧ i = .int .i64 (k : Nat) ∧ W1 = wr ∧ Hid ((List.range k).all (fun n => chunkOk n z (l[1 + n]?.getD 0)) = true)) (fun i _ => 7 - (intOf i).toNat)
  case atStart => exact ⟨0, by decide, rfl, rfl, (show _ = true from rfl)⟩
  case round =>
    obtain ⟨k, hk, rfl, rfl, HA⟩ := hrel
    by_cases hlt : k < 7
    · have hk2 : ((k : Nat) : Int) < 7 := by omega
      have c1 : W1.cell? ⟨w.heap.size, 1 + k, none⟩ = some (.int .i64 (l[1 + k]?.getD 0)) := HX1.out.cell (by rw [← HXX.out]; exact ints_at l (1 + k) (by rw [HLEN.out]; omega))
      have HS : Hid (∀ b, chunkOk k z (l[1 + k]?.getD 0) = b → (List.range (k + 1)).all (fun n => chunkOk n z (l[1 + n]?.getD 0)) = b ∧ (b = false → ((List.range 7).all fun n => chunkOk n z (l[1 + n]?.getD 0)) = false)) := show ∀ b, _ from fun b hb => by
        refine ⟨by rw [List.range_succ, List.all_append, HA.out]; simp [hb], fun h => ?_⟩
        subst h
        rw [List.all_eq_false]
        exact ⟨k, List.mem_range.2 hlt, by rw [hb]; decide⟩
      obtain ⟨y, hy⟩ : ∃ y, l[1 + k]?.getD 0 = y := ⟨_, rfl⟩
      rw [hy] at c1 HS
      clear hy
      have hck : ∀ r, inB (y, 0, 1023) = r → chunkOk k z y = (r && (decide ((k : Int) < N) || y == 0)) := fun r hr => by unfold chunkOk; rw [hr, HNN.out]
      obtain ⟨r, hr⟩ : ∃ r, inB (y, 0, 1023) = r := ⟨_, rfl⟩
      have HCK := Lib.hid (hck r hr)
      have HPA : Hid (∀ W, Calls Tryz.prog 44 #[.int .i64 y, .bool false] W fun e w' => e = .returned (.bool r) ∧ W = w') := show ∀ W, _ from fun W => by
        have := HPT.out y W
        rw [show inB (y, if false = true then 1 else 0, 1023) = inB (y, 0, 1023) from rfl, hr] at this
        exact this
      clear hr hck
      cases r
      · have HR := Lib.hid (HS.out false HCK.out)
        go_wp2_with (go_at_call 44; refine (HPA.out _).mono ?_; rintro e w' ⟨rfl, rfl⟩)
        go_ret
        exact ⟨ret_bool (HR.out.2 (by first | rfl | trivial)).symm, HB1.out⟩
      · by_cases hkn : (k : Int) < N
        · have HR := Lib.hid (HS.out true (by rw [HCK.out]; simp [hkn]))
          have hkn2 : ¬ N ≤ (k : Int) := by omega
          go_wp2_with (first | (go_at_call 44; refine (HPA.out _).mono ?_; rintro e w' ⟨rfl, rfl⟩) | (go_at_call 21; refine (HC.out _).mono ?_; rintro e w' ⟨rfl, rfl⟩))
          go_roundw
          case rel => exact ⟨k + 1, by omega, by go_num, by first | rfl | trivial, (show _ = true from HR.out.1)⟩
          case measure => simp [intOf]; omega
        · have hkn2 : N ≤ (k : Int) := by omega
          by_cases hy0 : y = 0
          · have HR := Lib.hid (HS.out true (by rw [HCK.out]; simp [hy0]))
            subst hy0
            clear hkn
            go_wp2_with (first | (go_at_call 44; refine (HPA.out _).mono ?_; rintro e w' ⟨rfl, rfl⟩) | (go_at_call 21; refine (HC.out _).mono ?_; rintro e w' ⟨rfl, rfl⟩))
            go_roundw
            case rel => exact ⟨k + 1, by omega, by go_num, by first | rfl | trivial, (show _ = true from HR.out.1)⟩
            case measure => simp [intOf]; omega
          · have HR := Lib.hid (HS.out false (by rw [HCK.out]; simp [hkn, hy0]))
            have hy1 : (y == 0) = false := by simpa using hy0
            have hy2 : (y != 0) = true := by simpa using hy0
            clear hkn
            go_wp2_with (first | (go_at_call 44; refine (HPA.out _).mono ?_; rintro e w' ⟨rfl, rfl⟩) | (go_at_call 21; refine (HC.out _).mono ?_; rintro e w' ⟨rfl, rfl⟩))
            go_ret
            exact ⟨ret_bool (HR.out.2 (by first | rfl | trivial)).symm, HB1.out⟩
    · obtain rfl : k = 7 := by omega
      go_wp2_with fail
      go_ret
      exact ⟨ret_bool HA.out.symm, HB1.out⟩
set_option maxRecDepth 100000 in
set_option maxHeartbeats 4000000 in
theorem refPutMap_any (l : List Int) (hl : l.length = 8) (w : World) : Calls Tryz.prog 25 #[.agg (ints l)] w fun e w' => e = .returned (.agg (lnA (tabLine l 8))) ∧ Below w.heap.size w w' := by
  obtain ⟨X, hX⟩ : ∃ X, ints l = X := ⟨_, rfl⟩
  rw [hX]
  have HXX := Lib.hid hX
  have HLEN := Lib.hid hl
  have hx0 : Blk (w.alloc (.cells X 47)) w.heap.size 47 X := Blk.new _ _ _
  have c00 : ((w.alloc (.cells X 47)).alloc (.cells #[.int .u64 0, .int .u64 0, .int .u64 0, .int .u64 0, .int .u64 0, .int .u64 0, .int .u64 0, .int .u64 0] 31)).cell? ⟨w.heap.size, 0, none⟩ = some (.int .i64 (l[0]?.getD 0)) := (hx0.below (n := w.heap.size + 1) ((Below.refl _ _).alloc (by simp) _) (by omega)).cell (by rw [← HXX.out]; exact ints_at l 0 (by rw [HLEN.out]; decide))
  obtain ⟨z, hz⟩ : ∃ z, l[0]?.getD 0 = z := ⟨_, rfl⟩
  rw [hz] at c00
  obtain ⟨W1, hW1⟩ : ∃ W1, ((w.alloc (.cells X 47)).alloc (.cells #[.int .u64 0, .int .u64 0, .int .u64 0, .int .u64 0, .int .u64 0, .int .u64 0, .int .u64 0, .int .u64 0] 31)).alloc (.cells #[.int .u64 (IntKind.u64.wrap z), .int .u64 0, .int .u64 0, .int .u64 0, .int .u64 0, .int .u64 0, .int .u64 0, .int .u64 0] 31) = W1 := ⟨_, rfl⟩
  have HB1 : Hid (Below w.heap.size w W1) := show Below _ _ _ by rw [← hW1]; exact (by repeat (first | exact Below.refl _ _ | assumption | refine Below.drew ?_ | refine below_drewN ?_ _ | refine Below.alloc ?_ (by (try simp) <;> omega) _ | refine Below.setCell ?_ (by (try simp) <;> omega) _ | refine Below.trans ?_ (Below.mono (by assumption) (by (try simp) <;> omega))))
  have HX1 : Hid (Blk W1 w.heap.size 47 X) := show Blk _ _ _ _ by rw [← hW1]; exact (Blk.new w _ _).below (n := w.heap.size + 1) (((Below.refl _ _).alloc (by simp) _).alloc (by (try simp) <;> omega) _) (by omega)
  have HR1 : Hid (Blk W1 (w.heap.size + 1) 31 (lnA zeros8)) := show Blk _ _ _ _ by
    rw [← hW1]
    have := Blk.new (w.alloc (.cells X 47)) 31 (lnA zeros8)
    rw [World.size_alloc] at this
    exact this.below (n := w.heap.size + 1 + 1) ((Below.refl _ _).alloc (by simp) _) (by omega)
  have HL1 : Hid (Blk W1 (w.heap.size + 1 + 1) 31 (lnA (tabLine l 1))) := show Blk _ _ _ _ by
    rw [← hW1, ← hz]
    have := Blk.new ((w.alloc (.cells X 47)).alloc (.cells #[.int .u64 0, .int .u64 0, .int .u64 0, .int .u64 0, .int .u64 0, .int .u64 0, .int .u64 0, .int .u64 0] 31)) 31 (lnA (tabLine l 1))
    rw [World.size_alloc, World.size_alloc] at this
    exact this
  have HW := Lib.hid hW1
  clear hW1 hX hl hz hx0
  go_enter Tryz.func25, Tryz.ntmps25
  go_wp2_with fail
  rw [HW.out]
  clear c00
  go_loopw [4] (fun i wr => ∃ k : Nat, k ≤ 7 ∧ i = .int .i64 (k : Nat) ∧ Hid (Below w.heap.size w wr) ∧ Hid (Blk wr w.heap.size 47 X) ∧ Hid (Blk wr (w.heap.size + 1) 31 (lnA zeros8)) ∧ Hid (Blk wr (w.heap.size + 1 + 1) 31 (lnA (tabLine l (k + 1))))) (fun i _ => 7 - (intOf i).toNat)
  case atStart => exact ⟨0, by decide, rfl, HB1, HX1, HR1, HL1⟩
  case round =>
    obtain ⟨k, hk, rfl, HB, HX, HR, HL⟩ := hrel
    by_cases hlt : k < 7
    · have hk2 : ((k : Nat) : Int) < 7 := by omega
      have c1 : wr.cell? ⟨w.heap.size, 1 + k, none⟩ = some (.int .i64 (l[k + 1]?.getD 0)) := HX.out.cell (by rw [← HXX.out, Nat.add_comm]; exact ints_at l (k + 1) (by rw [HLEN.out]; omega))
      have c2 : wr.cell? ⟨w.heap.size + 1 + 1, k + 1, none⟩ = some (.int .u64 ((tabLine l (k + 1))[k + 1]?.getD 0)) := HL.out.cell (lnA_at _ (k + 1) (by rw [tabLine_len]; omega))
      have f2 := HL.out.frozen (k + 1)
      have HN : Hid (Blk (wr.setCell ⟨w.heap.size + 1 + 1, k + 1, none⟩ (.int .u64 (IntKind.u64.wrap (l[k + 1]?.getD 0)))) (w.heap.size + 1 + 1) 31 (lnA (tabLine l (k + 1 + 1)))) := show Blk _ _ _ _ by
        have := HL.out.set (k + 1) (.int .u64 (IntKind.u64.wrap (l[k + 1]?.getD 0)))
        rw [lnA_set] at this
        rw [← tabLine_set l (k + 1)]
        exact this
      obtain ⟨y, hy⟩ : ∃ y, l[k + 1]?.getD 0 = y := ⟨_, rfl⟩
      rw [hy] at c1 HN
      clear hy
      go_wp2_with fail
      go_roundw
      case rel => exact ⟨k + 1, by omega, by go_num, (show Below _ _ _ from HB.out.setCell (p := ⟨w.heap.size + 1 + 1, k + 1, none⟩) (by show w.heap.size ≤ w.heap.size + 1 + 1; omega) _), (show Blk _ _ _ _ from HX.out.setOther _ (by omega)), (show Blk _ _ _ _ from HR.out.setOther _ (by omega)), HN⟩
      case measure => simp [intOf]; omega
    · obtain rfl : k = 7 := by omega
      have HLD : Hid ((Instr.loadAt 31 (.pointer (some ⟨w.heap.size + 1 + 1, 0, none⟩))).run Tryz.prog wr = .ok (.agg (lnA (tabLine l 8))) wr) := show _ = _ from HL.out.load (tt := 31) Tryz.underlying31 rfl (by rw [lnA_size, tabLine_len]; kernel_rfl)
      obtain ⟨w2, hs, hx2, ht2⟩ := HR.out.store (tt := 31) (P := Tryz.prog) (Y := lnA (tabLine l 8)) (by rw [lnA_size, tabLine_len]; kernel_rfl) (by rw [lnA_size, lnA_size, tabLine_len]; rfl) (lnA_one _)
      have HST := Lib.hid hs
      have HX2 := Lib.hid hx2
      have HT2 := Lib.hid ht2
      clear hs hx2 ht2
      go_wp2_with (first | (refine ndList_load rfl 31 _ rfl _ _ rfl HLD.out ?_) | (refine ndList_store rfl 31 _ _ rfl _ _ rfl rfl HST.out ?_))
      exact bodyPost_ret (results_cell (fn := Tryz.f25) rfl rfl (HX2.out.loadVar (tt := 31) Tryz.underlying31 rfl (by rw [lnA_size, tabLine_len]; kernel_rfl))) rfl ⟨rfl, HB.out.trans (HT2.out.below (B := w.heap.size) (fun k h => by omega) HB.out.size)⟩
end Go.Proofs.YtfdnlgmgjmbafaaGreatDoor
