/-
  node: the document's answers: entries.
-/
import Derived.Test.YtfdnlgmgjmbafaaGreatDoorQNdRB
import Derived.Test.YtfdnlgmgjmbafaaGreatDoorMh20
namespace Go.Proofs.YtfdnlgmgjmbafaaGreatDoor
open Go.RowKit Go.Shelf
attribute [local go_sem] Oper.semAt_some

set_option maxRecDepth 100000 in
set_option maxHeartbeats 4000000 in
theorem refRightEntry_any (a b : Int) (s : List UInt8) (w : World) : Calls Tryz.prog 23 #[.agg #[.int .i64 a, .int .i64 b, encStr s]] w fun e w' => e = .returned (.bool (okSp entrySpecs #[.int .i64 a, .int .i64 b, encStr s])) ∧ Below w.heap.size w w' := by
  have hr : okSp entrySpecs #[.int .i64 a, .int .i64 b, encStr s] = (inB (a, 0, 1023) && (inB (b, 1, 1023) && rightN s)) := by
    simp only [okSp, entrySpecs, List.all_cons, List.all_nil, Bool.and_true]
    rfl
  rw [hr]
  obtain ⟨r1, h1⟩ : ∃ r, inB (a, 0, 1023) = r := ⟨_, rfl⟩
  obtain ⟨r2, h2⟩ : ∃ r, inB (b, 1, 1023) = r := ⟨_, rfl⟩
  obtain ⟨r3, h3⟩ : ∃ r, rightN s = r := ⟨_, rfl⟩
  have HP1 : Hid (∀ W, Calls Tryz.prog 44 #[.int .i64 a, .bool false] W fun e w' => e = .returned (.bool r1) ∧ W = w') := show ∀ W, _ from fun W => by
    have := refPointer_any a false W
    rw [show inB (a, if false = true then 1 else 0, 1023) = inB (a, 0, 1023) from rfl, h1] at this
    exact this
  have HP2 : Hid (∀ W, Calls Tryz.prog 44 #[.int .i64 b, .bool true] W fun e w' => e = .returned (.bool r2) ∧ W = w') := show ∀ W, _ from fun W => by
    have := refPointer_any b true W
    rw [show inB (b, if true = true then 1 else 0, 1023) = inB (b, 1, 1023) from rfl, h2] at this
    exact this
  have HP3 : Hid (∀ W, Calls Tryz.prog 51 #[encStr s] W fun e w' => e = .returned (.bool r3) ∧ W = w') := show ∀ W, _ from fun W => by
    have := refRight6_any s W
    rw [h3] at this
    exact this
  rw [h1, h2, h3]
  clear hr h1 h2 h3
  cases r1
  · rw [Bool.false_and]
    go_enter Tryz.func23, Tryz.ntmps23
    go_wp2_with (go_at_call 44; refine (HP1.out _).mono ?_; rintro e w' ⟨rfl, rfl⟩)
    go_ret
    exact ⟨rfl, (by repeat (first | exact Below.refl _ _ | assumption | refine Below.drew ?_ | refine below_drewN ?_ _ | refine Below.alloc ?_ (by (try simp) <;> omega) _ | refine Below.setCell ?_ (by (try simp) <;> omega) _ | refine Below.trans ?_ (Below.mono (by assumption) (by (try simp) <;> omega))))⟩
  rw [Bool.true_and]
  cases r2
  · rw [Bool.false_and]
    go_enter Tryz.func23, Tryz.ntmps23
    go_wp2_with fail
    refine (HP1.out _).mono ?_
    rintro e w' ⟨rfl, rfl⟩
    go_wp2_with fail
    refine (HP2.out _).mono ?_
    rintro e w' ⟨rfl, rfl⟩
    go_wp2_with fail
    go_ret
    exact ⟨rfl, (by repeat (first | exact Below.refl _ _ | assumption | refine Below.drew ?_ | refine below_drewN ?_ _ | refine Below.alloc ?_ (by (try simp) <;> omega) _ | refine Below.setCell ?_ (by (try simp) <;> omega) _ | refine Below.trans ?_ (Below.mono (by assumption) (by (try simp) <;> omega))))⟩
  rw [Bool.true_and]
  go_enter Tryz.func23, Tryz.ntmps23
  go_wp2_with fail
  refine (HP1.out _).mono ?_
  rintro e w' ⟨rfl, rfl⟩
  go_wp2_with fail
  refine (HP2.out _).mono ?_
  rintro e w' ⟨rfl, rfl⟩
  go_wp2_with fail
  refine (HP3.out _).mono ?_
  rintro e w' ⟨rfl, rfl⟩
  go_wp2_with fail
  go_ret
  exact ⟨rfl, (by repeat (first | exact Below.refl _ _ | assumption | refine Below.drew ?_ | refine below_drewN ?_ _ | refine Below.alloc ?_ (by (try simp) <;> omega) _ | refine Below.setCell ?_ (by (try simp) <;> omega) _ | refine Below.trans ?_ (Below.mono (by assumption) (by (try simp) <;> omega))))⟩
def entLine (h : List Int) (f : List Int) (k : Nat) : List Int := h ++ (List.range 5).map fun j => if j < k then f[j]?.getD 0 else 0
theorem entLine_len {h : List Int} (hh : h.length = 3) (f : List Int) (k : Nat) : (entLine h f k).length = 8 := by simp [entLine, hh]
theorem entLine_set {h : List Int} (hh : h.length = 3) (f : List Int) (k : Nat) : (entLine h f k).set (3 + k) (f[k]?.getD 0) = entLine h f (k + 1) := by
  unfold entLine
  rw [List.set_append_right _ _ (by omega), hh, Nat.add_sub_cancel_left]
  congr 1
  refine List.ext_getElem (by simp) fun j h1 h2 => ?_
  rw [List.getElem_set]
  simp only [List.getElem_map, List.getElem_range]
  by_cases h : k = j
  · subst h
    rw [if_pos rfl, if_pos (by omega)]
  · rw [if_neg h]
    by_cases h3 : j < k
    · rw [if_pos h3, if_pos (by omega)]
    · rw [if_neg h3, if_neg (by omega)]
theorem entLine_five (h : List Int) (s : List UInt8) : entLine h (fiveI s) 5 = h ++ fiveI s := by
  unfold entLine
  congr 1
set_option maxRecDepth 100000 in
set_option maxHeartbeats 4000000 in
theorem refPutEntry_any (a b : Int) (s : List UInt8) (hs : s.length ≤ 40) (w : World) : Calls Tryz.prog 24 #[.agg #[.int .i64 a, .int .i64 b, encStr s]] w fun e w' => e = .returned (.agg (lnA (entLine [IntKind.u64.wrap a, IntKind.u64.wrap b, IntKind.u64.wrap ((s.length : Nat) : Int)] (fiveI s) 5))) ∧ Below w.heap.size w w' := by
  obtain ⟨H, hH⟩ : ∃ H, [IntKind.u64.wrap a, IntKind.u64.wrap b, IntKind.u64.wrap ((s.length : Nat) : Int)] = H := ⟨_, rfl⟩
  have hHl : H.length = 3 := by rw [← hH]; rfl
  obtain ⟨F, hF⟩ : ∃ F, fiveI s = F := ⟨_, rfl⟩
  have hFl : F.length = 5 := by rw [← hF]; exact fiveI_length s
  have HRW : Hid (∀ W, Calls Tryz.prog 52 #[encStr s] W fun e w' => e = .returned (.agg (lnA F)) ∧ Below W.heap.size W w') := show ∀ W, _ from fun W => by
    rw [← hF, lnA_five]
    exact refWords6_any s hs W
  obtain ⟨W1, hW1⟩ : ∃ W1, ((w.alloc (.cells #[.int .i64 a, .int .i64 b, encStr s] 49)).alloc (.cells #[.int .u64 0, .int .u64 0, .int .u64 0, .int .u64 0, .int .u64 0, .int .u64 0, .int .u64 0, .int .u64 0] 31)).alloc (.cells #[.int .u64 (IntKind.u64.wrap a), .int .u64 (IntKind.u64.wrap b), .int .u64 (IntKind.u64.wrap ((s.length : Nat) : Int)), .int .u64 0, .int .u64 0, .int .u64 0, .int .u64 0, .int .u64 0] 31) = W1 := ⟨_, rfl⟩
  have HB1 : Hid (Below w.heap.size w W1) := show Below _ _ _ by rw [← hW1]; exact (by repeat (first | exact Below.refl _ _ | assumption | refine Below.drew ?_ | refine below_drewN ?_ _ | refine Below.alloc ?_ (by (try simp) <;> omega) _ | refine Below.setCell ?_ (by (try simp) <;> omega) _ | refine Below.trans ?_ (Below.mono (by assumption) (by (try simp) <;> omega))))
  have HR1 : Hid (Blk W1 (w.heap.size + 1) 31 (lnA zeros8)) := show Blk _ _ _ _ by
    rw [← hW1]
    have := Blk.new (w.alloc (.cells #[.int .i64 a, .int .i64 b, encStr s] 49)) 31 (lnA zeros8)
    rw [World.size_alloc] at this
    exact this.below (n := w.heap.size + 1 + 1) ((Below.refl _ _).alloc (by simp) _) (by omega)
  have HL1 : Hid (Blk W1 (w.heap.size + 1 + 1) 31 (lnA (entLine H F 0))) := show Blk _ _ _ _ by
    rw [← hW1, ← hH]
    have := Blk.new ((w.alloc (.cells #[.int .i64 a, .int .i64 b, encStr s] 49)).alloc (.cells #[.int .u64 0, .int .u64 0, .int .u64 0, .int .u64 0, .int .u64 0, .int .u64 0, .int .u64 0, .int .u64 0] 31)) 31 (lnA (entLine [IntKind.u64.wrap a, IntKind.u64.wrap b, IntKind.u64.wrap ((s.length : Nat) : Int)] F 0))
    rw [World.size_alloc, World.size_alloc] at this
    exact this
  have HW := Lib.hid hW1
  have HHF : Hid (_ = H ∧ fiveI s = F) := show _ ∧ _ from ⟨hH, hF⟩
  have HHL := Lib.hid hHl
  have HFL := Lib.hid hFl
  clear hW1 hH hF hHl hFl hs
  go_enter Tryz.func24, Tryz.ntmps24
  go_wp2_with fail
  rw [HW.out]
  refine (HRW.out _).mono ?_
  rintro e v2 ⟨rfl, hb⟩
  obtain ⟨W2, hW2⟩ : ∃ W2, v2.alloc (.cells (lnA F) 114) = W2 := ⟨_, rfl⟩
  have HST : Hid ((Instr.storeAt 114 (.pointer (some ⟨v2.heap.size, 0, none⟩)) (.agg (lnA F))).run Tryz.prog (v2.alloc (.cells #[.int .u64 0, .int .u64 0, .int .u64 0, .int .u64 0, .int .u64 0] 114)) = .ok () W2) := show _ = _ by
    rw [← hW2]
    exact run_storeAt_new v2 114 _ _ (by rw [lnA_size, HFL.out]; kernel_rfl) (by rw [lnA_size, HFL.out]; rfl) (lnA_one _)
  have hbn : Below W1.heap.size W1 W2 := by rw [← hW2]; exact hb.alloc hb.size _
  have HF2 : Hid (Blk W2 v2.heap.size 114 (lnA F)) := show Blk _ _ _ _ by rw [← hW2]; exact Blk.new _ _ _
  have HR2 := Lib.hid (HR1.out.below hbn HR1.out.lt)
  have HL2 := Lib.hid (HL1.out.below hbn HL1.out.lt)
  have HB2 := Lib.hid (HB1.out.trans (hbn.mono HB1.out.size))
  have HLT : Hid (w.heap.size + 1 + 1 < v2.heap.size) := show _ < _ from Nat.lt_of_lt_of_le HL1.out.lt hb.size
  clear hb hbn hW2
  go_wp2_with (first | (refine ndList_store rfl 114 _ _ rfl _ _ rfl rfl HST.out ?_))
  clear HST
  go_loopw [5] (fun i wr => ∃ k : Nat, k ≤ 5 ∧ i = .int .i64 (k : Nat) ∧ Hid (Below w.heap.size w wr) ∧ Hid (Blk wr v2.heap.size 114 (lnA F)) ∧ Hid (Blk wr (w.heap.size + 1) 31 (lnA zeros8)) ∧ Hid (Blk wr (w.heap.size + 1 + 1) 31 (lnA (entLine H F k)))) (fun i _ => 5 - (intOf i).toNat)
  case atStart => exact ⟨0, by decide, rfl, HB2, HF2, HR2, HL2⟩
  case round =>
    obtain ⟨k, hk, rfl, HB, HX, HR, HL⟩ := hrel
    by_cases hlt : k < 5
    · have hk2 : ((k : Nat) : Int) < 5 := by omega
      have c1 : wr.cell? ⟨v2.heap.size, k, none⟩ = some (.int .u64 (F[k]?.getD 0)) := HX.out.cell (lnA_at _ k (by rw [HFL.out]; exact hlt))
      have c2 : wr.cell? ⟨w.heap.size + 1 + 1, 3 + k, none⟩ = some (.int .u64 ((entLine H F k)[3 + k]?.getD 0)) := HL.out.cell (lnA_at _ (3 + k) (by rw [entLine_len HHL.out]; omega))
      have f2 := HL.out.frozen (3 + k)
      have HN : Hid (Blk (wr.setCell ⟨w.heap.size + 1 + 1, 3 + k, none⟩ (.int .u64 (F[k]?.getD 0))) (w.heap.size + 1 + 1) 31 (lnA (entLine H F (k + 1)))) := show Blk _ _ _ _ by
        have := HL.out.set (3 + k) (.int .u64 (F[k]?.getD 0))
        rw [lnA_set] at this
        rw [← entLine_set HHL.out F k]
        exact this
      obtain ⟨y, hy⟩ : ∃ y, F[k]?.getD 0 = y := ⟨_, rfl⟩
      rw [hy] at c1 HN
      clear hy
      go_wp2_with fail
      go_roundw
      case rel => exact ⟨k + 1, by omega, by go_num, (show Below _ _ _ from HB.out.setCell (p := ⟨w.heap.size + 1 + 1, 3 + k, none⟩) (by show w.heap.size ≤ w.heap.size + 1 + 1; omega) _), (show Blk _ _ _ _ from HX.out.setOther _ (by have := HLT.out; omega)), (show Blk _ _ _ _ from HR.out.setOther _ (by omega)), HN⟩
      case measure => simp [intOf]; omega
    · obtain rfl : k = 5 := by omega
      have HLD : Hid ((Instr.loadAt 31 (.pointer (some ⟨w.heap.size + 1 + 1, 0, none⟩))).run Tryz.prog wr = .ok (.agg (lnA (entLine H F 5))) wr) := show _ = _ from HL.out.load (tt := 31) Tryz.underlying31 rfl (by rw [lnA_size, entLine_len HHL.out]; kernel_rfl)
      obtain ⟨w2, hs, hx2, ht2⟩ := HR.out.store (tt := 31) (P := Tryz.prog) (Y := lnA (entLine H F 5)) (by rw [lnA_size, entLine_len HHL.out]; kernel_rfl) (by rw [lnA_size, lnA_size, entLine_len HHL.out]; rfl) (lnA_one _)
      have HST := Lib.hid hs
      have HX2 := Lib.hid hx2
      have HT2 := Lib.hid ht2
      clear hs hx2 ht2
      go_wp2_with (first | (refine ndList_load rfl 31 _ rfl _ _ rfl HLD.out ?_) | (refine ndList_store rfl 31 _ _ rfl _ _ rfl rfl HST.out ?_))
      exact bodyPost_ret (results_cell (fn := Tryz.f24) rfl rfl (HX2.out.loadVar (tt := 31) Tryz.underlying31 rfl (by rw [lnA_size, entLine_len HHL.out]; kernel_rfl))) rfl ⟨by rw [HHF.out.1, HHF.out.2], HB.out.trans (HT2.out.below (B := w.heap.size) (fun k h => by omega) HB.out.size)⟩
end Go.Proofs.YtfdnlgmgjmbafaaGreatDoor
