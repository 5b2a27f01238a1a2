/-
  node: the document's answers: tables.
-/
import Derived.Test.YtfdnlgmgjmbafaaGreatDoorQNdRA
import Derived.Test.YtfdnlgmgjmbafaaGreatDoorMh20
namespace Go.Proofs.YtfdnlgmgjmbafaaGreatDoor
open Go.RowKit Go.Shelf
attribute [local go_sem] Oper.semAt_some

theorem tab_ok (l : List Int) (hl : l.length = 7) : okSp tableSpecs (ints l) = l.all fun y => inB (y, 0, 1023) :=
  match l, hl with
  | [_, _, _, _, _, _, _], _ => rfl
def tabLine (l : List Int) (k : Nat) : List Int := (List.range 8).map fun j => if j < k then (l[j]?.getD 0) % 18446744073709551616 else 0
theorem tabLine_len (l : List Int) (k : Nat) : (tabLine l k).length = 8 := by simp [tabLine]
theorem tabLine_set (l : List Int) (k : Nat) : (tabLine l k).set k ((l[k]?.getD 0) % 18446744073709551616) = tabLine l (k + 1) := by
  refine List.ext_getElem (by simp [tabLine]) fun j h1 h2 => ?_
  rw [List.getElem_set]
  simp only [tabLine, List.getElem_map, List.getElem_range]
  by_cases h : k = j
  · subst h
    rw [if_pos rfl, if_pos (by omega)]
  · rw [if_neg h]
    by_cases h3 : j < k
    · rw [if_pos h3, if_pos (by omega)]
    · rw [if_neg h3, if_neg (by omega)]
theorem tab_put (l : List Int) (hl : l.length = 7) : wrSp tableSpecs (ints l) zeros8 = tabLine l 7 :=
  match l, hl with
  | [_, _, _, _, _, _, _], _ => rfl
theorem ints_at (l : List Int) (j : Nat) (h : j < l.length) : (ints l)[j]? = some (.int .i64 (l[j]?.getD 0)) := by
  simp [ints, h]
set_option maxRecDepth 100000 in
set_option maxHeartbeats 4000000 in
theorem refRightTable_any (l : List Int) (hl : l.length = 7) (w : World) : Calls Tryz.prog 16 #[.agg (ints l)] w fun e w' => e = .returned (.bool (okSp tableSpecs (ints l))) ∧ Below w.heap.size w w' := by
  rw [tab_ok l hl]
  obtain ⟨X, hX⟩ : ∃ X, ints l = X := ⟨_, rfl⟩
  rw [hX]
  have HXX := Lib.hid hX
  have HLEN := Lib.hid hl
  have HPT := Lib.hid (fun n W => refPointer_any n false W)
  obtain ⟨W1, hW1⟩ : ∃ W1, w.alloc (.cells X 29) = W1 := ⟨_, rfl⟩
  have HB1 : Hid (Below w.heap.size w W1) := show Below _ _ _ by rw [← hW1]; exact (by repeat (first | exact Below.refl _ _ | assumption | refine Below.drew ?_ | refine below_drewN ?_ _ | refine Below.alloc ?_ (by (try simp) <;> omega) _ | refine Below.setCell ?_ (by (try simp) <;> omega) _ | refine Below.trans ?_ (Below.mono (by assumption) (by (try simp) <;> omega))))
  have HX1 : Hid (Blk W1 w.heap.size 29 X) := show Blk _ _ _ _ by rw [← hW1]; exact Blk.new _ _ _
  have HW := Lib.hid hW1
  clear hW1 hX hl
  go_enter Tryz.func16, Tryz.ntmps16
  go_wp2_with fail
  rw [HW.out]
  go_loopw [3] (fun i wr => ∃ k : Nat, k ≤ 7 ∧ i = .int .i64 (k : Nat) ∧ W1 = wr ∧ Hid ((l.take k).all (fun y => inB (y, 0, 1023)) = true)) (fun i _ => 7 - (intOf i).toNat)
  case atStart => exact ⟨0, by decide, rfl, rfl, (show _ = true from rfl)⟩
  case round =>
    obtain ⟨k, hk, rfl, rfl, HA⟩ := hrel
    by_cases hlt : k < 7
    · have hk2 : ((k : Nat) : Int) < 7 := by omega
      have c1 : W1.cell? ⟨w.heap.size, k, none⟩ = some (.int .i64 (l[k]?.getD 0)) := HX1.out.cell (by rw [← HXX.out]; exact ints_at l k (by rw [HLEN.out]; exact hlt))
      have HS : Hid (∀ b, inB (l[k]?.getD 0, 0, 1023) = b → (l.take (k + 1)).all (fun y => inB (y, 0, 1023)) = b ∧ (b = false → (l.all fun y => inB (y, 0, 1023)) = false)) := show ∀ b, _ from fun b hb => by
        have hk3 : k < l.length := by rw [HLEN.out]; exact hlt
        rw [List.getElem?_eq_getElem hk3, Option.getD_some] at hb
        refine ⟨by rw [List.take_succ_eq_append_getElem hk3, List.all_append, HA.out]; simp [hb], fun h => ?_⟩
        subst h
        rw [List.all_eq_false]
        exact ⟨_, List.getElem_mem hk3, by rw [hb]; decide⟩
      obtain ⟨y, hy⟩ : ∃ y, l[k]?.getD 0 = y := ⟨_, rfl⟩
      rw [hy] at c1 HS
      clear hy
      obtain ⟨r, hr⟩ : ∃ r, inB (y, 0, 1023) = r := ⟨_, rfl⟩
      have HPA : Hid (∀ W, Calls Tryz.prog 44 #[.int .i64 y, .bool false] W fun e w' => e = .returned (.bool r) ∧ W = w') := show ∀ W, _ from fun W => by
        have := HPT.out y W
        rw [show inB (y, if false = true then 1 else 0, 1023) = inB (y, 0, 1023) from rfl, hr] at this
        exact this
      have HR := Lib.hid (HS.out r hr)
      clear hr
      cases r
      · go_wp2_with (go_at_call 44; refine (HPA.out _).mono ?_; rintro e w' ⟨rfl, rfl⟩)
        go_ret
        exact ⟨ret_bool (HR.out.2 (by first | rfl | trivial)).symm, HB1.out⟩
      · go_wp2_with (go_at_call 44; refine (HPA.out _).mono ?_; rintro e w' ⟨rfl, rfl⟩)
        go_roundw
        case rel => exact ⟨k + 1, by omega, by go_num, by first | rfl | trivial, (show _ = true from HR.out.1)⟩
        case measure => simp [intOf]; omega
    · obtain rfl : k = 7 := by omega
      go_wp2_with fail
      go_ret
      exact ⟨ret_bool (by
        have := HA.out
        rw [List.take_of_length_le (by rw [HLEN.out]; exact Nat.le_refl _)] at this
        exact this.symm), HB1.out⟩
set_option maxRecDepth 100000 in
set_option maxHeartbeats 4000000 in
theorem refPutTable_any (l : List Int) (hl : l.length = 7) (w : World) : Calls Tryz.prog 15 #[.agg (ints l)] w fun e w' => e = .returned (.agg (lnA (tabLine l 7))) ∧ Below w.heap.size w w' := by
  obtain ⟨X, hX⟩ : ∃ X, ints l = X := ⟨_, rfl⟩
  rw [hX]
  have HXX := Lib.hid hX
  have HLEN := Lib.hid hl
  obtain ⟨W1, hW1⟩ : ∃ W1, ((w.alloc (.cells X 29)).alloc (.cells #[.int .u64 0, .int .u64 0, .int .u64 0, .int .u64 0, .int .u64 0, .int .u64 0, .int .u64 0, .int .u64 0] 31)).alloc (.cells #[.int .u64 0, .int .u64 0, .int .u64 0, .int .u64 0, .int .u64 0, .int .u64 0, .int .u64 0, .int .u64 0] 31) = W1 := ⟨_, rfl⟩
  have HB1 : Hid (Below w.heap.size w W1) := show Below _ _ _ by rw [← hW1]; exact (by repeat (first | exact Below.refl _ _ | assumption | refine Below.drew ?_ | refine below_drewN ?_ _ | refine Below.alloc ?_ (by (try simp) <;> omega) _ | refine Below.setCell ?_ (by (try simp) <;> omega) _ | refine Below.trans ?_ (Below.mono (by assumption) (by (try simp) <;> omega))))
  have HX1 : Hid (Blk W1 w.heap.size 29 X) := show Blk _ _ _ _ by rw [← hW1]; exact (Blk.new w _ _).below (n := w.heap.size + 1) (((Below.refl _ _).alloc (by simp) _).alloc (by (try simp) <;> omega) _) (by omega)
  have HR1 : Hid (Blk W1 (w.heap.size + 1) 31 (lnA zeros8)) := show Blk _ _ _ _ by
    rw [← hW1]
    have := Blk.new (w.alloc (.cells X 29)) 31 (lnA zeros8)
    rw [World.size_alloc] at this
    exact this.below (n := w.heap.size + 1 + 1) ((Below.refl _ _).alloc (by simp) _) (by omega)
  have HL1 : Hid (Blk W1 (w.heap.size + 1 + 1) 31 (lnA (tabLine l 0))) := show Blk _ _ _ _ by
    rw [← hW1]
    have := Blk.new ((w.alloc (.cells X 29)).alloc (.cells #[.int .u64 0, .int .u64 0, .int .u64 0, .int .u64 0, .int .u64 0, .int .u64 0, .int .u64 0, .int .u64 0] 31)) 31 (lnA (tabLine l 0))
    rw [World.size_alloc, World.size_alloc] at this
    exact this
  have HW := Lib.hid hW1
  clear hW1 hX hl
  go_enter Tryz.func15, Tryz.ntmps15
  go_wp2_with fail
  rw [HW.out]
  go_loopw [4] (fun i wr => ∃ k : Nat, k ≤ 7 ∧ i = .int .i64 (k : Nat) ∧ Hid (Below w.heap.size w wr) ∧ Hid (Blk wr w.heap.size 29 X) ∧ Hid (Blk wr (w.heap.size + 1) 31 (lnA zeros8)) ∧ Hid (Blk wr (w.heap.size + 1 + 1) 31 (lnA (tabLine l k)))) (fun i _ => 7 - (intOf i).toNat)
  case atStart => exact ⟨0, by decide, rfl, HB1, HX1, HR1, HL1⟩
  case round =>
    obtain ⟨k, hk, rfl, HB, HX, HR, HL⟩ := hrel
    by_cases hlt : k < 7
    · have hk2 : ((k : Nat) : Int) < 7 := by omega
      have hk3 : ((k : Nat) : Int) < 8 := by omega
      have c1 : wr.cell? ⟨w.heap.size, k, none⟩ = some (.int .i64 (l[k]?.getD 0)) := HX.out.cell (by rw [← HXX.out]; exact ints_at l k (by rw [HLEN.out]; exact hlt))
      have c2 : wr.cell? ⟨w.heap.size + 1 + 1, k, none⟩ = some (.int .u64 ((tabLine l k)[k]?.getD 0)) := HL.out.cell (lnA_at _ k (by rw [tabLine_len]; omega))
      have f2 := HL.out.frozen k
      have HN : Hid (Blk (wr.setCell ⟨w.heap.size + 1 + 1, k, none⟩ (.int .u64 (IntKind.u64.wrap (l[k]?.getD 0)))) (w.heap.size + 1 + 1) 31 (lnA (tabLine l (k + 1)))) := show Blk _ _ _ _ by
        have := HL.out.set k (.int .u64 (IntKind.u64.wrap (l[k]?.getD 0)))
        rw [lnA_set] at this
        rw [← tabLine_set l k]
        exact this
      obtain ⟨y, hy⟩ : ∃ y, l[k]?.getD 0 = y := ⟨_, rfl⟩
      rw [hy] at c1 HN
      clear hy
      go_wp2_with fail
      go_roundw
      case rel => exact ⟨k + 1, by omega, by go_num, (show Below _ _ _ from HB.out.setCell (p := ⟨w.heap.size + 1 + 1, k, none⟩) (by show w.heap.size ≤ w.heap.size + 1 + 1; omega) _), (show Blk _ _ _ _ from HX.out.setOther _ (by omega)), (show Blk _ _ _ _ from HR.out.setOther _ (by omega)), HN⟩
      case measure => simp [intOf]; omega
    · obtain rfl : k = 7 := by omega
      have HLD : Hid ((Instr.loadAt 31 (.pointer (some ⟨w.heap.size + 1 + 1, 0, none⟩))).run Tryz.prog wr = .ok (.agg (lnA (tabLine l 7))) wr) := show _ = _ from HL.out.load (tt := 31) Tryz.underlying31 rfl (by rw [lnA_size, tabLine_len]; kernel_rfl)
      obtain ⟨w2, hs, hx2, ht2⟩ := HR.out.store (tt := 31) (P := Tryz.prog) (Y := lnA (tabLine l 7)) (by rw [lnA_size, tabLine_len]; kernel_rfl) (by rw [lnA_size, lnA_size, tabLine_len]; rfl) (lnA_one _)
      have HST := Lib.hid hs
      have HX2 := Lib.hid hx2
      have HT2 := Lib.hid ht2
      clear hs hx2 ht2
      go_wp2_with (first | (refine ndList_load rfl 31 _ rfl _ _ rfl HLD.out ?_) | (refine ndList_store rfl 31 _ _ rfl _ _ rfl rfl HST.out ?_))
      exact bodyPost_ret (results_cell (fn := Tryz.f15) rfl rfl (HX2.out.loadVar (tt := 31) Tryz.underlying31 rfl (by rw [lnA_size, tabLine_len]; kernel_rfl))) rfl ⟨rfl, HB.out.trans (HT2.out.below (B := w.heap.size) (fun k h => by omega) HB.out.size)⟩
end Go.Proofs.YtfdnlgmgjmbafaaGreatDoor
