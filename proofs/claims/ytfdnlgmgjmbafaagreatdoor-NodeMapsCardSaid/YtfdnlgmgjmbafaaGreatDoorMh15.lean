/-
  Texts NdO to NdP, as one.
-/
import Derived.Test.YtfdnlgmgjmbafaaGreatDoorMh14
import Derived.Deep.WholeRow
import Derived.Test.YtfdnlgmgjmbafaaGreatDoorRows
import Derived.WalkKit
import Derived.ProofKit
import Derived.OpenShut
import Derived.Below
import Derived.Carry
import Derived.Deep.DeepHandedRow
import Derived.Deep.DeepWitnessRowRef
import Derived.Lib.LaidTab
import Derived.LaidSub
import Derived.Lib.SmallJoins
import Derived.ChangeMaps5
/-
  node: the chapter's rows. Written by gen_ndw.py.
-/
namespace Go.Proofs.YtfdnlgmgjmbafaaGreatDoor
open Go.RowKit Go.Shelf
attribute [local go_sem] Oper.semAt_some

theorem w8_put : putSp inodeSpecs #[.int .i64 1, .int .i64 3, .int .i64 9] = [769, 9, 0, 0, 0, 0, 0, 0] ∧ putSpE inodeSpecs #[.int .i64 1, .int .i64 3, .int .i64 9] = 0 := ⟨by decide +kernel, by decide +kernel⟩
theorem w8_get : (getSp inodeSpecs [769, 9, 0, 0, 0, 0, 0, 0] ndZeroI).getD ndZeroI = #[.int .i64 1, .int .i64 3, .int .i64 9] ∧ getErr (getSp inodeSpecs [769, 9, 0, 0, 0, 0, 0, 0] ndZeroI) = 0 := ⟨by kernel_rfl, by kernel_rfl⟩
theorem w8_none : (getSp inodeSpecs zeros8 ndZeroI).getD ndZeroI = ndZeroI ∧ getErr (getSp inodeSpecs zeros8 ndZeroI) = 180 := ⟨by kernel_rfl, by kernel_rfl⟩
theorem w8_arg : putSpE inodeSpecs #[.int .i64 2, .int .i64 2, .int .i64 9] = 2 := by decide +kernel
theorem w8_entry : putSp entrySpecs #[.int .i64 0, .int .i64 5, encStr [97, 98]] = [0, 5, 2, 25185, 0, 0, 0, 0] ∧ putSpE entrySpecs #[.int .i64 0, .int .i64 5, encStr [97, 98]] = 0 := ⟨by decide +kernel, by decide +kernel⟩
theorem w8_map : (getSp mapSpecs [65, 4, 7, 0, 0, 0, 0, 0] ndZeroM).getD ndZeroM = #[.int .i64 65, .int .i64 4, .int .i64 7, .int .i64 0, .int .i64 0, .int .i64 0, .int .i64 0, .int .i64 0] ∧ getErr (getSp mapSpecs [65, 4, 7, 0, 0, 0, 0, 0] ndZeroM) = 0 := ⟨by kernel_rfl, by kernel_rfl⟩
theorem w8_mapno : getErr (getSp mapSpecs [64, 4, 7, 0, 0, 0, 0, 0] ndZeroM) = 180 := by kernel_rfl
theorem w8_chunks : chunksN 65 = 2 ∧ chunksErr 65 = 0 := ⟨by decide, by decide⟩
theorem line8_of {l : List Int} (h : (l.length == 8 && l.all fun x => decide (0 ≤ x ∧ x < 18446744073709551616)) = true) : Line8 l := by
  simp only [Bool.and_eq_true, beq_iff_eq, List.all_eq_true, decide_eq_true_eq] at h
  exact h
set_option maxRecDepth 100000 in
set_option maxHeartbeats 8000000 in
theorem works8_any (w : World) (ht : Tabs w) : Calls Tryz.prog 17 #[] w fun e w' => e = .returned (.bool true) ∧ Below w.heap.size w w' := by
  obtain ⟨A, hA⟩ : ∃ A, lnA [769, 9, 0, 0, 0, 0, 0, 0] = A := ⟨_, rfl⟩
  obtain ⟨Z, hZ⟩ : ∃ Z, lnA (putSp inodeSpecs #[.int .i64 2, .int .i64 2, .int .i64 9]) = Z := ⟨_, rfl⟩
  obtain ⟨C, hC⟩ : ∃ C, lnA [0, 5, 2, 25185, 0, 0, 0, 0] = C := ⟨_, rfl⟩
  obtain ⟨M, hM⟩ : ∃ M : Array Value, #[.int .i64 65, .int .i64 4, .int .i64 7, .int .i64 0, .int .i64 0, .int .i64 0, .int .i64 0, .int .i64 0] = M := ⟨_, rfl⟩
  obtain ⟨Y, hY⟩ : ∃ Y, (getSp mapSpecs [64, 4, 7, 0, 0, 0, 0, 0] ndZeroM).getD ndZeroM = Y := ⟨_, rfl⟩
  have hx : GoodI 3 #[.int .i64 1, .int .i64 3, .int .i64 9] := goodI_ints (l := [1, 3, 9]) rfl (by decide)
  have hx2 : GoodI 3 #[.int .i64 2, .int .i64 2, .int .i64 9] := goodI_ints (l := [2, 2, 9]) rfl (by decide)
  have hxe : GoodE #[.int .i64 0, .int .i64 5, encStr [97, 98]] := ⟨rfl, fun j hj => by
    have hj2 : j = 0 ∨ j = 1 := by omega
    rcases hj2 with rfl | rfl
    · exact ⟨0, rfl, by decide, by decide⟩
    · exact ⟨5, rfl, by decide, by decide⟩, [97, 98], rfl, by decide⟩
  have HC1 : Hid (∀ V, Tabs V → Calls Tryz.prog 8 #[.agg #[.int .i64 1, .int .i64 3, .int .i64 9]] V fun e w' => e = .returned (.tuple #[.agg A, .int .i64 0]) ∧ Below V.heap.size V w') := show ∀ V, _ from fun V hV => (putInode_any #[.int .i64 1, .int .i64 3, .int .i64 9] hx V hV).mono fun e w' h => by
    rw [w8_put.1, w8_put.2, hA] at h
    exact ⟨h.1, h.2.2⟩
  have HC2 : Hid (∀ V, Tabs V → Calls Tryz.prog 28 #[.agg A] V fun e w' => e = .returned (.tuple #[.agg #[.int .i64 1, .int .i64 3, .int .i64 9], .int .i64 0]) ∧ Below V.heap.size V w') := show ∀ V, _ from fun V hV => by
    have h := getInode_any [769, 9, 0, 0, 0, 0, 0, 0] (line8_of (by decide)) V hV
    rw [hA, w8_get.1, w8_get.2] at h
    exact h.mono fun e w' h => ⟨h.1, h.2.2⟩
  have HC3 : Hid (∀ V, Tabs V → Calls Tryz.prog 28 #[.agg #[.int .u64 0, .int .u64 0, .int .u64 0, .int .u64 0, .int .u64 0, .int .u64 0, .int .u64 0, .int .u64 0]] V fun e w' => e = .returned (.tuple #[.agg #[.int .i64 0, .int .i64 0, .int .i64 0], .int .i64 180]) ∧ Below V.heap.size V w') := show ∀ V, _ from fun V hV => by
    have h := getInode_any zeros8 zeros8_line V hV
    rw [w8_none.1, w8_none.2] at h
    exact h.mono fun e w' h => ⟨h.1, h.2.2⟩
  have HC4 : Hid (∀ V, Tabs V → Calls Tryz.prog 8 #[.agg #[.int .i64 2, .int .i64 2, .int .i64 9]] V fun e w' => e = .returned (.tuple #[.agg Z, .int .i64 2]) ∧ Below V.heap.size V w') := show ∀ V, _ from fun V hV => (putInode_any #[.int .i64 2, .int .i64 2, .int .i64 9] hx2 V hV).mono fun e w' h => by
    rw [w8_arg, hZ] at h
    exact ⟨h.1, h.2.2⟩
  have hZs : Z.size = 8 ∧ Z.all (·.oneCell') = true := by
    rw [← hZ]
    obtain ⟨-, -, -, -, h, -⟩ := (putInode_any #[.int .i64 2, .int .i64 2, .int .i64 9] hx2 w ht) []
    exact ⟨by rw [lnA_size]; exact (by decide +kernel : (putSp inodeSpecs #[.int .i64 2, .int .i64 2, .int .i64 9]).length = 8), lnA_one _⟩
  have HC5 : Hid (∀ V, Tabs V → Calls Tryz.prog 22 #[.agg #[.int .i64 0, .int .i64 5, encStr [97, 98]]] V fun e w' => e = .returned (.tuple #[.agg C, .int .i64 0]) ∧ Below V.heap.size V w') := show ∀ V, _ from fun V hV => (putEntry_any #[.int .i64 0, .int .i64 5, encStr [97, 98]] hxe V hV).mono fun e w' h => by
    rw [w8_entry.1, w8_entry.2, hC] at h
    exact ⟨h.1, h.2.2⟩
  have HC6 : Hid (∀ V, Tabs V → Calls Tryz.prog 29 #[.agg #[.int .u64 65, .int .u64 4, .int .u64 7, .int .u64 0, .int .u64 0, .int .u64 0, .int .u64 0, .int .u64 0]] V fun e w' => e = .returned (.tuple #[.agg M, .int .i64 0]) ∧ Below V.heap.size V w') := show ∀ V, _ from fun V hV => by
    have h := getMap_any [65, 4, 7, 0, 0, 0, 0, 0] (line8_of (by decide)) V hV
    rw [w8_map.1, w8_map.2, hM] at h
    exact h.mono fun e w' h => ⟨h.1, h.2.2⟩
  have HC7 : Hid (∀ V, Tabs V → Calls Tryz.prog 29 #[.agg #[.int .u64 64, .int .u64 4, .int .u64 7, .int .u64 0, .int .u64 0, .int .u64 0, .int .u64 0, .int .u64 0]] V fun e w' => e = .returned (.tuple #[.agg Y, .int .i64 180]) ∧ Below V.heap.size V w') := show ∀ V, _ from fun V hV => by
    have h := getMap_any [64, 4, 7, 0, 0, 0, 0, 0] (line8_of (by decide)) V hV
    rw [w8_mapno, hY] at h
    exact h.mono fun e w' h => ⟨h.1, h.2.2⟩
  have HC8 : Hid (∀ V, Calls Tryz.prog 19 #[.int .i64 65] V fun e w' => e = .returned (.tuple #[.int .i64 2, .int .i64 0]) ∧ Below V.heap.size V w') := show ∀ V, _ from fun V => by
    have h := chunks_any 65 V
    rw [w8_chunks.1, w8_chunks.2] at h
    exact h
  have HYS : Hid (Y.size = 8 ∧ Y.all (·.oneCell') = true) := show _ ∧ _ from by
    rw [← hY]
    exact ⟨by kernel_rfl, by kernel_rfl⟩
  have HMS : Hid (M.size = 8 ∧ M.all (·.oneCell') = true) := show _ ∧ _ from by rw [← hM]; exact ⟨rfl, by kernel_rfl⟩
  have HAS : Hid (A.size = 8 ∧ A.all (·.oneCell') = true) := show _ ∧ _ from by rw [← hA]; exact ⟨rfl, lnA_one _⟩
  have HCS : Hid (C.size = 8 ∧ C.all (·.oneCell') = true) := show _ ∧ _ from by rw [← hC]; exact ⟨rfl, lnA_one _⟩
  have HZS : Hid (Z.size = 8 ∧ Z.all (·.oneCell') = true) := hZs
  have HEA : Hid (∀ V, (Op.equalIn 10000 31 (.agg A) (.agg #[.int .u64 769, .int .u64 9, .int .u64 0, .int .u64 0, .int .u64 0, .int .u64 0, .int .u64 0, .int .u64 0])).run Tryz.prog V = .ok true V) := show ∀ V, _ from fun V => by rw [← hA]; exact refl_line Tryz.underlying31 (l := [769, 9, 0, 0, 0, 0, 0, 0]) (line8_of (by decide)) V
  have HEC : Hid (∀ V, (Op.equalIn 10000 31 (.agg C) (.agg #[.int .u64 0, .int .u64 5, .int .u64 2, .int .u64 25185, .int .u64 0, .int .u64 0, .int .u64 0, .int .u64 0])).run Tryz.prog V = .ok true V) := show ∀ V, _ from fun V => by rw [← hC]; exact refl_line Tryz.underlying31 (l := [0, 5, 2, 25185, 0, 0, 0, 0]) (line8_of (by decide)) V
  have HEM : Hid (∀ V, (Op.equalIn 9999 27 (.agg #[.int .i64 4, .int .i64 7, .int .i64 0, .int .i64 0, .int .i64 0, .int .i64 0, .int .i64 0]) (.agg #[.int .i64 4, .int .i64 7, .int .i64 0, .int .i64 0, .int .i64 0, .int .i64 0, .int .i64 0])).run Tryz.prog V = .ok true V) := show ∀ V, _ from fun V => refl_7 4 7 0 0 0 0 0 9997 V
  have HMM : Hid (#[.int .i64 65, .int .i64 4, .int .i64 7, .int .i64 0, .int .i64 0, .int .i64 0, .int .i64 0, .int .i64 0] = M) := hM
  have HEX : Hid (∀ V, (Op.equalIn 10000 26 (.agg #[.int .i64 1, .int .i64 3, .int .i64 9]) (.agg #[.int .i64 1, .int .i64 3, .int .i64 9])).run Tryz.prog V = .ok true V) := show ∀ V, _ from fun V => refl_I hx V
  have HN := Lib.hid num8_any
  obtain ⟨W1, hW1⟩ : ∃ W1, w.alloc (.cells #[.int .i64 1, .int .i64 3, .int .i64 9] 26) = W1 := ⟨_, rfl⟩
  have hb1 : Below w.heap.size w W1 := by rw [← hW1]; exact (by repeat (first | exact Below.refl _ _ | assumption | refine Below.drew ?_ | refine below_drewN ?_ _ | refine Below.alloc ?_ (by (try simp) <;> omega) _ | refine Below.setCell ?_ (by (try simp) <;> omega) _ | refine Below.trans ?_ (Below.mono (by assumption) (by (try simp) <;> omega))))
  have HB1 := Lib.hid hb1
  have HT1 : Hid (Tabs W1) := show Tabs _ from ht.below hb1 ht.room
  have B1_1 : Hid (Blk W1 w.heap.size 26 #[.int .i64 1, .int .i64 3, .int .i64 9]) := show Blk _ _ _ _ by rw [← hW1]; exact Blk.new _ _ _
  have HLD1 : Hid ((Instr.loadAt 26 (.pointer (some ⟨w.heap.size, 0, none⟩))).run Tryz.prog (w.alloc (.cells #[.int .i64 1, .int .i64 3, .int .i64 9] 26)) = .ok (.agg #[.int .i64 1, .int .i64 3, .int .i64 9]) (w.alloc (.cells #[.int .i64 1, .int .i64 3, .int .i64 9] 26))) := show _ = _ by rw [hW1]; exact B1_1.out.load (tt := 26) Tryz.underlying26 rfl (by kernel_rfl)
  have HW1 := Lib.hid hW1
  clear hA hZ hC hM hY hx hx2 hxe hZs hW1 hb1 ht
  go_enter Tryz.func17, Tryz.ntmps17
  go_wp2_with (refine ndList_load rfl 26 _ rfl _ _ rfl HLD1.out ?_)
  rw [HW1.out]
  refine (HC1.out W1 HT1.out).mono ?_
  rintro e v1 ⟨rfl, hb⟩
  obtain ⟨W2, hW⟩ : ∃ W, v1.alloc (.cells A 31) = W := ⟨_, rfl⟩
  have hbn : Below W1.heap.size W1 W2 := by rw [← hW]; exact hb.alloc hb.size _
  have HST : Hid ((Instr.storeAt 31 (.pointer (some ⟨v1.heap.size, 0, none⟩)) (.agg A)).run Tryz.prog (v1.alloc (.cells #[.int .u64 0, .int .u64 0, .int .u64 0, .int .u64 0, .int .u64 0, .int .u64 0, .int .u64 0, .int .u64 0] 31)) = .ok () W2) := show _ = _ by
    rw [← hW]
    exact run_storeAt_new v1 31 _ A (by rw [HAS.out.1]; kernel_rfl) (by rw [HAS.out.1]; rfl) HAS.out.2
  have B1_2 := Lib.hid (B1_1.out.below hbn B1_1.out.lt)
  have B2_2 : Hid (Blk W2 v1.heap.size 31 A) := show Blk _ _ _ _ by rw [← hW]; exact Blk.new _ _ _
  have HB2 := Lib.hid (HB1.out.trans (hbn.mono HB1.out.size))
  have HT2 : Hid (Tabs W2) := show Tabs _ from HT1.out.below hbn HT1.out.room
  have HLD := Lib.hid (B2_2.out.load (tt := 31) Tryz.underlying31 rfl (by rw [HAS.out.1]; kernel_rfl))
  clear hb hbn hW B1_1
  go_wp2_with (first | (refine ndList_store rfl 31 _ _ rfl _ _ rfl rfl HST.out ?_) | (refine ndList_load rfl 31 _ rfl _ _ rfl HLD.out ?_))
  clear HST
  refine (HC2.out W2 HT2.out).mono ?_
  rintro e v2 ⟨rfl, hb⟩
  obtain ⟨W3, hW⟩ : ∃ W, v2.alloc (.cells #[.int .i64 1, .int .i64 3, .int .i64 9] 26) = W := ⟨_, rfl⟩
  have hbn : Below W2.heap.size W2 W3 := by rw [← hW]; exact hb.alloc hb.size _
  have B1_3 := Lib.hid (B1_2.out.below hbn B1_2.out.lt)
  have B2_3 := Lib.hid (B2_2.out.below hbn B2_2.out.lt)
  have B3_3 : Hid (Blk W3 v2.heap.size 26 #[.int .i64 1, .int .i64 3, .int .i64 9]) := show Blk _ _ _ _ by rw [← hW]; exact Blk.new _ _ _
  have HB3 := Lib.hid (HB2.out.trans (hbn.mono HB2.out.size))
  have HT3 : Hid (Tabs W3) := show Tabs _ from HT2.out.below hbn HT2.out.room
  have HW := Lib.hid hW
  clear hb hbn hW B1_2 B2_2
  go_wp2_with fail
  rw [HW.out]
  clear HW
  refine (HC3.out W3 HT3.out).mono ?_
  rintro e v3 ⟨rfl, hb⟩
  obtain ⟨W4, hW⟩ : ∃ W, v3.alloc (.cells #[.int .i64 0, .int .i64 0, .int .i64 0] 26) = W := ⟨_, rfl⟩
  have hbn : Below W3.heap.size W3 W4 := by rw [← hW]; exact hb.alloc hb.size _
  have B1_4 := Lib.hid (B1_3.out.below hbn B1_3.out.lt)
  have B2_4 := Lib.hid (B2_3.out.below hbn B2_3.out.lt)
  have B3_4 := Lib.hid (B3_3.out.below hbn B3_3.out.lt)
  have B4_4 : Hid (Blk W4 v3.heap.size 26 #[.int .i64 0, .int .i64 0, .int .i64 0]) := show Blk _ _ _ _ by rw [← hW]; exact Blk.new _ _ _
  have HB4 := Lib.hid (HB3.out.trans (hbn.mono HB3.out.size))
  have HT4 : Hid (Tabs W4) := show Tabs _ from HT3.out.below hbn HT3.out.room
  have HW := Lib.hid hW
  clear hb hbn hW B1_3 B2_3 B3_3
  clear B4_4
  go_wp2_with fail
  rw [HW.out]
  clear HW
  refine (HC4.out W4 HT4.out).mono ?_
  rintro e v4 ⟨rfl, hb⟩
  obtain ⟨W5, hW⟩ : ∃ W, v4.alloc (.cells Z 31) = W := ⟨_, rfl⟩
  have hbn : Below W4.heap.size W4 W5 := by rw [← hW]; exact hb.alloc hb.size _
  have HST : Hid ((Instr.storeAt 31 (.pointer (some ⟨v4.heap.size, 0, none⟩)) (.agg Z)).run Tryz.prog (v4.alloc (.cells #[.int .u64 0, .int .u64 0, .int .u64 0, .int .u64 0, .int .u64 0, .int .u64 0, .int .u64 0, .int .u64 0] 31)) = .ok () W5) := show _ = _ by
    rw [← hW]
    exact run_storeAt_new v4 31 _ Z (by rw [HZS.out.1]; kernel_rfl) (by rw [HZS.out.1]; rfl) HZS.out.2
  have B1_5 := Lib.hid (B1_4.out.below hbn B1_4.out.lt)
  have B2_5 := Lib.hid (B2_4.out.below hbn B2_4.out.lt)
  have B3_5 := Lib.hid (B3_4.out.below hbn B3_4.out.lt)
  have B5_5 : Hid (Blk W5 v4.heap.size 31 Z) := show Blk _ _ _ _ by rw [← hW]; exact Blk.new _ _ _
  have HB5 := Lib.hid (HB4.out.trans (hbn.mono HB4.out.size))
  have HT5 : Hid (Tabs W5) := show Tabs _ from HT4.out.below hbn HT4.out.room
  clear hb hbn hW B1_4 B2_4 B3_4
  clear B5_5
  go_wp2_with (first | (refine ndList_store rfl 31 _ _ rfl _ _ rfl rfl HST.out ?_))
  clear HST
  refine (HC5.out W5 HT5.out).mono ?_
  rintro e v5 ⟨rfl, hb⟩
  obtain ⟨W6, hW⟩ : ∃ W, v5.alloc (.cells C 31) = W := ⟨_, rfl⟩
  have hbn : Below W5.heap.size W5 W6 := by rw [← hW]; exact hb.alloc hb.size _
  have HST : Hid ((Instr.storeAt 31 (.pointer (some ⟨v5.heap.size, 0, none⟩)) (.agg C)).run Tryz.prog (v5.alloc (.cells #[.int .u64 0, .int .u64 0, .int .u64 0, .int .u64 0, .int .u64 0, .int .u64 0, .int .u64 0, .int .u64 0] 31)) = .ok () W6) := show _ = _ by
    rw [← hW]
    exact run_storeAt_new v5 31 _ C (by rw [HCS.out.1]; kernel_rfl) (by rw [HCS.out.1]; rfl) HCS.out.2
  have B1_6 := Lib.hid (B1_5.out.below hbn B1_5.out.lt)
  have B2_6 := Lib.hid (B2_5.out.below hbn B2_5.out.lt)
  have B3_6 := Lib.hid (B3_5.out.below hbn B3_5.out.lt)
  have B6_6 : Hid (Blk W6 v5.heap.size 31 C) := show Blk _ _ _ _ by rw [← hW]; exact Blk.new _ _ _
  have HB6 := Lib.hid (HB5.out.trans (hbn.mono HB5.out.size))
  have HT6 : Hid (Tabs W6) := show Tabs _ from HT5.out.below hbn HT5.out.room
  clear hb hbn hW B1_5 B2_5 B3_5
  go_wp2_with (first | (refine ndList_store rfl 31 _ _ rfl _ _ rfl rfl HST.out ?_))
  clear HST
  refine (HC6.out W6 HT6.out).mono ?_
  rintro e v6 ⟨rfl, hb⟩
  obtain ⟨W7, hW⟩ : ∃ W, v6.alloc (.cells M 47) = W := ⟨_, rfl⟩
  have hbn : Below W6.heap.size W6 W7 := by rw [← hW]; exact hb.alloc hb.size _
  have HST : Hid ((Instr.storeAt 47 (.pointer (some ⟨v6.heap.size, 0, none⟩)) (.agg M)).run Tryz.prog (v6.alloc (.cells #[.int .i64 0, .int .i64 0, .int .i64 0, .int .i64 0, .int .i64 0, .int .i64 0, .int .i64 0, .int .i64 0] 47)) = .ok () W7) := show _ = _ by
    rw [← hW]
    exact run_storeAt_new v6 47 _ M (by rw [HMS.out.1]; kernel_rfl) (by rw [HMS.out.1]; rfl) HMS.out.2
  have B1_7 := Lib.hid (B1_6.out.below hbn B1_6.out.lt)
  have B2_7 := Lib.hid (B2_6.out.below hbn B2_6.out.lt)
  have B3_7 := Lib.hid (B3_6.out.below hbn B3_6.out.lt)
  have B6_7 := Lib.hid (B6_6.out.below hbn B6_6.out.lt)
  have B7_7 : Hid (Blk W7 v6.heap.size 47 M) := show Blk _ _ _ _ by rw [← hW]; exact Blk.new _ _ _
  have HB7 := Lib.hid (HB6.out.trans (hbn.mono HB6.out.size))
  have HT7 : Hid (Tabs W7) := show Tabs _ from HT6.out.below hbn HT6.out.room
  clear hb hbn hW B1_6 B2_6 B3_6 B6_6
  go_wp2_with (first | (refine ndList_store rfl 47 _ _ rfl _ _ rfl rfl HST.out ?_))
  clear HST
  refine (HC7.out W7 HT7.out).mono ?_
  rintro e v7 ⟨rfl, hb⟩
  obtain ⟨W8, hW⟩ : ∃ W, v7.alloc (.cells Y 47) = W := ⟨_, rfl⟩
  have hbn : Below W7.heap.size W7 W8 := by rw [← hW]; exact hb.alloc hb.size _
  have HST : Hid ((Instr.storeAt 47 (.pointer (some ⟨v7.heap.size, 0, none⟩)) (.agg Y)).run Tryz.prog (v7.alloc (.cells #[.int .i64 0, .int .i64 0, .int .i64 0, .int .i64 0, .int .i64 0, .int .i64 0, .int .i64 0, .int .i64 0] 47)) = .ok () W8) := show _ = _ by
    rw [← hW]
    exact run_storeAt_new v7 47 _ Y (by rw [HYS.out.1]; kernel_rfl) (by rw [HYS.out.1]; rfl) HYS.out.2
  have B1_8 := Lib.hid (B1_7.out.below hbn B1_7.out.lt)
  have B2_8 := Lib.hid (B2_7.out.below hbn B2_7.out.lt)
  have B3_8 := Lib.hid (B3_7.out.below hbn B3_7.out.lt)
  have B6_8 := Lib.hid (B6_7.out.below hbn B6_7.out.lt)
  have B7_8 := Lib.hid (B7_7.out.below hbn B7_7.out.lt)
  have B8_8 : Hid (Blk W8 v7.heap.size 47 Y) := show Blk _ _ _ _ by rw [← hW]; exact Blk.new _ _ _
  have HB8 := Lib.hid (HB7.out.trans (hbn.mono HB7.out.size))
  have HT8 : Hid (Tabs W8) := show Tabs _ from HT7.out.below hbn HT7.out.room
  clear hb hbn hW B1_7 B2_7 B3_7 B6_7 B7_7
  clear B8_8
  go_wp2_with (first | (refine ndList_store rfl 47 _ _ rfl _ _ rfl rfl HST.out ?_))
  clear HST
  refine (HC8.out W8).mono ?_
  rintro e W9 ⟨rfl, hb⟩
  have LB1 := Lib.hid ((B1_8.out.below hb B1_8.out.lt).load (tt := 26) Tryz.underlying26 rfl (by kernel_rfl))
  have LB2 := Lib.hid ((B2_8.out.below hb B2_8.out.lt).load (tt := 31) Tryz.underlying31 rfl (by rw [HAS.out.1]; kernel_rfl))
  have LB3 := Lib.hid ((B3_8.out.below hb B3_8.out.lt).load (tt := 26) Tryz.underlying26 rfl (by kernel_rfl))
  have LB6 := Lib.hid ((B6_8.out.below hb B6_8.out.lt).load (tt := 31) Tryz.underlying31 rfl (by rw [HCS.out.1]; kernel_rfl))
  have LB7 : Hid ((Instr.loadAt 47 (.pointer (some ⟨v6.heap.size, 0, none⟩))).run Tryz.prog W9 = .ok (.agg #[.int .i64 65, .int .i64 4, .int .i64 7, .int .i64 0, .int .i64 0, .int .i64 0, .int .i64 0, .int .i64 0]) W9) := show _ = _ by rw [HMM.out]; exact (B7_8.out.below hb B7_8.out.lt).load (tt := 47) Tryz.underlying47 rfl (by rw [HMS.out.1]; kernel_rfl)
  have HBF := Lib.hid (HB8.out.trans (hb.mono HB8.out.size))
  have e1 := HEA.out W9
  have e2 := HEC.out W9
  have e3 := HEM.out W9
  have e4 := HEX.out W9
  clear hb B1_8 B2_8 B3_8 B6_8 B7_8
  go_wp2_with (first | (go_at_call 20; refine (HN.out _ _).mono ?_; rintro e w' ⟨rfl, rfl⟩) | (refine ndList_loadW (by rfl) 26 _ rfl _ _ rfl LB1.out ?_) | (refine ndList_loadW (by rfl) 31 _ rfl _ _ rfl LB2.out ?_) | (refine ndList_loadW (by rfl) 26 _ rfl _ _ rfl LB3.out ?_) | (refine ndList_loadW (by rfl) 31 _ rfl _ _ rfl LB6.out ?_) | (refine ndList_loadW (by rfl) 47 _ rfl _ _ rfl LB7.out ?_))
  go_ret
  exact ⟨rfl, HBF.out⟩
end Go.Proofs.YtfdnlgmgjmbafaaGreatDoor

/-
  The frame of a law's row: whatever the arguments are, they read behind the call as they did, if nothing that lay has turned.
-/
namespace Go.Proofs.YtfdnlgmgjmbafaaGreatDoor
open Go.ChangeShapes Go.WideShapes Go.ChangeAt Go.RowKit

theorem own : ownKnob Tryz.prog.godebug = none := by kernel_rfl
theorem laidOut : laidOutB Tryz.prog = true := by kernel_rfl
/-- One listed variable's reading. -/
def ReadsAs (P : Program) (w : World) (n : String) (d : DataW Unit) : Prop :=
  ∃ g t cs fuel p, P.globalNamed n = some g ∧ (P.globals[g]?).map (·.type) = some t ∧ w.var? P n = some cs ∧ DataW.trod (fun _ => ()) P w 0 (fun _ => true) false fuel t cs.toList = some (d, p)
theorem readsAs_list {P : Program} {w : World} : ∀ {l : List (String × DataW Unit)} {ps : List MemPlace}, DataW.LaidVars P w l ps → ∀ x ∈ l, ReadsAs P w x.1 x.2
  | [], _, _, _, hm => by cases hm
  | y :: r, ps, h, x, hm => by
    obtain ⟨g, t, cs, fuel, p, q, h1, h2, h3, h4, h5, _⟩ := h
    rcases List.mem_cons.1 hm with e | e
    · subst e; exact ⟨g, t, cs, fuel, p, h1, h2, h3, h4⟩
    · exact readsAs_list h5 x e
theorem readsAs_of_laid {P : Program} {w : World} {l : List (String × DataW Unit)} (h : laidMet P l w) {n : String} {d : DataW Unit} (hm : (n, d) ∈ l) : ReadsAs P w n d :=
  let ⟨_, hv, _⟩ := h
  readsAs_list hv (n, d) hm
/-- A listed array of integers holds them, cell for cell. -/
theorem tabIs_of_reads {P : Program} {W : World} {name : String} {k : IntKind} {zs : List Int} {g : Nat} {t e : TypeId} {n : Nat}
    (hg : P.globalNamed name = some g) (hty : (P.globals[g]?).map (·.type) = some t) (ht : P.underlying t = some (.array n e)) (he : P.underlying e = some (.int k)) (hce : P.cellsOf e = 1) (hct : P.cellsOf t = n)
    (h : ReadsAs P W name (Lib.tabData k zs)) : Lib.TabIs P W name k zs := by
  obtain ⟨g', t', cs, fuel, p, hg', ht', hvar, hd⟩ := h
  obtain rfl := Option.some.inj (hg.symm.trans hg')
  obtain rfl := Option.some.inj (hty.symm.trans ht')
  unfold Lib.TabIs
  rw [hvar, ← Lib.cells_of_tab ht he hce hct hd]
/-- These types read as data. -/
def typesOk (P : Program) (ts : List TypeId) : Bool := ts.all fun t => P.readableRec t && decide (t < P.types.size)
theorem trodAll_below {H : Type} {enc : TypeId × Value → H} {P : Program} (hl : laidOutB P = true) {W W' : World} (hb : Below W.heap.size W W') :
    ∀ {ts : List TypeId} {vs : List Value} {ds : List (DataW H)} {ps : List MemPlace}, typesOk P ts = true → DataW.TrodAll enc P W 0 (fun _ => true) true ts vs ds ps → (∀ x ∈ ps, x.block < W.heap.size) →
      DataW.TrodAll enc P W' 0 (fun b => decide (b < W.heap.size)) true ts vs ds ps
  | [], [], [], _, _, h, _ => h
  | [], [], _ :: _, _, _, h, _ => h.elim
  | [], _ :: _, _, _, _, h, _ => by cases h
  | _ :: _, [], _, _, _, h, _ => by cases h
  | _ :: _, _ :: _, [], _, _, h, _ => by cases h
  | t :: ts, v :: vs, d :: ds, ps, ht, ⟨p, q, h1, h2, e⟩, hlt => by
    simp only [typesOk, List.all_cons, Bool.and_eq_true, decide_eq_true_eq] at ht
    subst e
    exact ⟨p, q, Below.trod hl ht.1.1 ht.1.2 h1 hb (fun x hx => hlt x (List.mem_append_left _ hx)),
      trodAll_below hl hb (by simpa [typesOk] using ht.2) h2 (fun x hx => hlt x (List.mem_append_right _ hx)), rfl⟩
/-- A law's post: it returned true, and nothing that lay has turned. -/
theorem law_post {H : Type} {enc : TypeId × Value → H} {P : Program} (hl : laidOutB P = true) {f : Func} {s : ChangeSpec} {apart fresh handsOn : Bool} {W W' : World} {args : Array Value} {ds gs : List (DataW H)} {before : List MemPlace} {tb : TypeId}
    (hW : DataW.Whole enc P f.params.toList s.vars apart W args.toList ds gs before) (hv0 : s.vars = []) (hres : (s.fn H (ds ++ [])).results = [.lit (.bool true)]) (hargs : (s.fn H (ds ++ [])).args = ds) (hvars : (s.fn H (ds ++ [])).vars = [])
    (ht : typesOk P f.params.toList = true) (hrt : f.resultTypes = #[tb]) (htb : P.underlying tb = some .bool) (hb : Below W.heap.size W W') :
    s.post enc P f apart fresh handsOn false W args (.bool true) W' := by
  have hW' := hW
  obtain ⟨p, q, hA, hV, hbef, hfz, hnd⟩ := hW
  rw [hv0] at hV
  obtain ⟨rfl, rfl⟩ := trodVars_none hV
  rw [List.append_nil] at hbef
  subst hbef
  have hlt : ∀ x ∈ before, x.block < W.heap.size := fun x hx => hW'.lt x hx
  refine ⟨ds, [], before, [], before, [], hW', ?_, ?_, ?_, World.keptBut_mono (fun x hx => ⟨hx, .inr ?_⟩) (hb.frame (· ∈ before)), fun h => by cases h⟩
  · rw [hres, hrt]
    exact trodAll_cons_mk (shut_bool htb _) trodAll_mk0
  · rw [hargs]
    exact trodAll_below hl hb ht hA hlt
  · rw [hvars, hv0]
    rfl
  · simpa using hx
end Go.Proofs.YtfdnlgmgjmbafaaGreatDoor

/-
  What the rows' lists of package-level tables give: word.masks alone.
-/
namespace Go.Proofs.YtfdnlgmgjmbafaaGreatDoor
open Go.ChangeShapes Go.WideShapes Go.ChangeAt Go.RowKit

def zsMk : List Int := (List.range 65).map fun v => Int.ofNat (2 ^ v - 1)
theorem laidMk {H : Type} : (Rows.laid_waterline_word_masks : DataW H) = Lib.tabData .u64 zsMk := by kernel_rfl
theorem gMk : Tryz.prog.globalNamed "waterline/word.masks" = some 0 := by kernel_rfl
theorem tMk : (Tryz.prog.globals[(0 : Nat)]?).map (·.type) = some 235 := by kernel_rfl
theorem cMk : Tryz.prog.cellsOf 235 = 65 := by kernel_rfl
theorem c64Mk : Tryz.prog.cellsOf 30 = 1 := by kernel_rfl
theorem masks_of_laid {W : World} (h : laidMetH Tryz.prog [("waterline/word.masks", Rows.laid_waterline_word_masks)] W) : Tabs W := by
  have hL : laidMet Tryz.prog [("waterline/word.masks", Rows.laid_waterline_word_masks)] W := h
  have hm : Lib.TabIs Tryz.prog W "waterline/word.masks" .u64 zsMk := tabIs_of_reads gMk tMk Tryz.underlying235 Tryz.underlying30 c64Mk cMk (by rw [← laidMk]; exact readsAs_of_laid hL (.head _))
  have mk : ∀ v : Nat, v ≤ 64 → W.cell? ⟨0, v, none⟩ = some (.int .u64 ((2 ^ v - 1 : Nat) : Int)) := fun v hv => by
    have := hm.cell gMk v (by simp [zsMk]; omega)
    rw [this]
    simp [zsMk, List.getD, List.getElem?_map, List.getElem?_range (show v < 65 by omega)]
  refine ⟨mk, ?_⟩
  have h0 := mk 0 (by decide)
  rcases Nat.lt_or_ge 0 W.heap.size with h2 | h2
  · exact h2
  · unfold World.cell? at h0
    rw [Array.getElem?_eq_none (by simpa using h2)] at h0
    cases h0
/-- A block of cells, with other cells. -/
def withCellsM (cs : Array Value) : Obj → Obj
  | .cells _ t frozen => .cells cs t frozen
  | o => o
/-- A WORLD FOR THE WITNESS: the settled one, masks holding what its initialiser lays. -/
noncomputable def masksWorld (os : Os) : World :=
  { World.holding Tryz.prog os ⟨#[], #[], []⟩ with heap := Array.modify (World.holding Tryz.prog os ⟨#[], #[], []⟩).heap 0 (withCellsM (zsMk.map (Value.int .u64)).toArray) }
end Go.Proofs.YtfdnlgmgjmbafaaGreatDoor

/-
  node: arguments opened: words, inodes, super lines, tables, maps, entries; what the rows' lists of package-level tables give.
-/
namespace Go.Proofs.YtfdnlgmgjmbafaaGreatDoor
open Go.ChangeShapes Go.WideShapes Go.ChangeAt Go.RowKit Go.Joins

def cellNum : Value → Int
  | .int _ z => z
  | _ => 0
set_option maxRecDepth 100000 in
theorem trod_nums {H : Type} {enc : TypeId × Value → H} {W : World} {t e : TypeId} {k : IntKind} {n fuel : Nat} {cs : List Value} {x : DataW H × List MemPlace}
    (ht : Tryz.prog.underlying t = some (.array n e)) (he : Tryz.prog.underlying e = some (.int k)) (hc : Tryz.prog.cellsOf e = 1) (hC : Tryz.prog.cellsOf t = n)
    (h : DataW.trod enc Tryz.prog W 0 (fun _ => true) true fuel t cs = some x) : ∃ l : List Int, l.length = n ∧ cs = l.map (Value.int k) ∧ ∀ y ∈ l, (Lit.int k y).wf = true := by
  obtain ⟨xs, m, -, -, hl, hlen, hi⟩ := DataW.trod_array ht h
  rw [hC] at hl
  have each : ∀ j (hj : j < n), ∃ z, cs[j]'(by omega) = .int k z ∧ (Lit.int k z).wf = true := fun j hj => by
    have h0 := hi j hj
    rw [hc, Nat.mul_one] at h0
    have e : (cs.drop j).take 1 = [cs[j]'(by omega)] := by
      rw [List.drop_eq_getElem_cons (by omega)]
      rfl
    rw [e, List.getElem?_eq_getElem (show j < xs.length by omega)] at h0
    obtain ⟨f0, e0, -, w0⟩ := DataW.trod_int he h0
    simp only [List.cons.injEq, and_true] at e0
    exact ⟨f0, e0, w0⟩
  refine ⟨cs.map cellNum, by simp [hl], ?_, fun y hy => ?_⟩
  · refine List.ext_getElem (by simp) fun j h1 h2 => ?_
    obtain ⟨z, hz, -⟩ := each j (by omega)
    simp [hz, cellNum]
  · obtain ⟨c, hcm, rfl⟩ := List.mem_map.1 hy
    obtain ⟨j, hj, rfl⟩ := List.getElem_of_mem hcm
    obtain ⟨z, hz, hw⟩ := each j (by omega)
    rw [hz]
    exact hw
theorem agg_of {cs : Array Value} {k : IntKind} {l : List Int} (h : cs.toList = l.map (Value.int k)) : cs = (l.map (Value.int k)).toArray := by
  rw [← h]
set_option maxRecDepth 100000 in
theorem open_line {H : Type} {enc : TypeId × Value → H} {W : World} {base : Nat} {v : Value} {d : DataW H} {p : List MemPlace}
    (hv : Value.okWide Tryz.prog W .any base 31 v) (h : DataW.Trod enc Tryz.prog W 0 (fun _ => true) true 31 v d p) : ∃ l, v = .agg (lnA l) ∧ Line8 l := by
  unfold Value.okWide at hv
  rw [Tryz.underlying31] at hv
  obtain ⟨cs, rfl, -⟩ := hv
  obtain ⟨fuel, hf⟩ := h
  obtain ⟨l, hl, hcs, hw⟩ := trod_nums (k := .u64) Tryz.underlying31 Tryz.underlying30 (by kernel_rfl) (by kernel_rfl) hf
  refine ⟨l, congrArg _ (agg_of hcs), hl, fun y hy => ?_⟩
  have := bounds_u64 (hw y hy)
  omega
theorem goodI_wf {k : Nat} {l : List Int} (hk : l.length = k) (h : ∀ y ∈ l, (Lit.int .i64 y).wf = true) : GoodI k (ints l) :=
  goodI_ints hk fun y hy => by
    have := bounds_i64 (h y hy)
    omega
set_option maxRecDepth 100000 in
theorem open_Super {H : Type} {enc : TypeId × Value → H} {W : World} {base : Nat} {v : Value} {d : DataW H} {p : List MemPlace}
    (hv : Value.okWide Tryz.prog W .any base 23 v) (h : DataW.Trod enc Tryz.prog W 0 (fun _ => true) true 23 v d p) : ∃ l, v = .agg (ints l) ∧ GoodI 2 (ints l) ∧ l.length = 2 := by
  obtain ⟨c0, c1, y0, y1, n, rfl, -, -, h0, h1⟩ := open_agg2 Tryz.underlying23 (by kernel_rfl) (by kernel_rfl) hv h
  obtain ⟨a0, e0, -, w0⟩ := DataW.trod_int Tryz.underlying3 h0
  obtain ⟨a1, e1, -, w1⟩ := DataW.trod_int Tryz.underlying3 h1
  simp at e0 e1
  subst e0 e1
  exact ⟨[a0, a1], rfl, goodI_wf rfl (fun y hy => by
    simp at hy
    rcases hy with rfl | rfl <;> assumption), rfl⟩
set_option maxRecDepth 100000 in
theorem open_Inode {H : Type} {enc : TypeId × Value → H} {W : World} {base : Nat} {v : Value} {d : DataW H} {p : List MemPlace}
    (hv : Value.okWide Tryz.prog W .any base 26 v) (h : DataW.Trod enc Tryz.prog W 0 (fun _ => true) true 26 v d p) : ∃ l, v = .agg (ints l) ∧ GoodI 3 (ints l) ∧ l.length = 3 := by
  obtain ⟨c0, c1, c2, y0, y1, y2, n, rfl, -, -, h0, h1, h2⟩ := open_agg3 Tryz.underlying26 (by kernel_rfl) (by kernel_rfl) hv h
  obtain ⟨a0, e0, -, w0⟩ := DataW.trod_int (k := .i64) (by kernel_rfl) h0
  obtain ⟨a1, e1, -, w1⟩ := DataW.trod_int Tryz.underlying3 h1
  obtain ⟨a2, e2, -, w2⟩ := DataW.trod_int Tryz.underlying3 h2
  simp at e0 e1 e2
  subst e0 e1 e2
  exact ⟨[a0, a1, a2], rfl, goodI_wf rfl (fun y hy => by
    simp at hy
    rcases hy with rfl | rfl | rfl <;> assumption), rfl⟩
set_option maxRecDepth 100000 in
theorem open_Entry {H : Type} {enc : TypeId × Value → H} {W : World} {base : Nat} {v : Value} {d : DataW H} {p : List MemPlace}
    (hv : Value.okWide Tryz.prog W .any base 49 v) (h : DataW.Trod enc Tryz.prog W 0 (fun _ => true) true 49 v d p) :
    ∃ (a b : Int) (s : List UInt8), v = .agg #[.int .i64 a, .int .i64 b, encStr s] ∧ (-9223372036854775808 ≤ a ∧ a ≤ 9223372036854775807) ∧ (-9223372036854775808 ≤ b ∧ b ≤ 9223372036854775807) ∧ s.length ≤ 9223372036854775807 := by
  obtain ⟨c0, c1, c2, y0, y1, y2, n, rfl, -, -, h0, h1, h2⟩ := open_agg3 Tryz.underlying49 (by kernel_rfl) (by kernel_rfl) hv h
  obtain ⟨a0, e0, -, w0⟩ := DataW.trod_int Tryz.underlying3 h0
  obtain ⟨a1, e1, -, w1⟩ := DataW.trod_int Tryz.underlying3 h1
  obtain ⟨s, e2, -, w2⟩ := DataW.trod_string Tryz.underlying9 h2
  simp at e0 e1 e2
  subst e0 e1 e2
  exact ⟨a0, a1, s.data.toList, rfl, bounds_i64 w0, bounds_i64 w1, Nat.le_trans (show s.data.toList.length ≤ maxLen from w2) (by decide)⟩
set_option maxRecDepth 100000 in
theorem open_Table {H : Type} {enc : TypeId × Value → H} {W : World} {base : Nat} {v : Value} {d : DataW H} {p : List MemPlace}
    (hv : Value.okWide Tryz.prog W .any base 29 v) (h : DataW.Trod enc Tryz.prog W 0 (fun _ => true) true 29 v d p) : ∃ l, v = .agg (ints l) ∧ GoodI 7 (ints l) ∧ l.length = 7 := by
  unfold Value.okWide at hv
  rw [Tryz.underlying29] at hv
  obtain ⟨cs, rfl, -⟩ := hv
  obtain ⟨fuel, hf⟩ := h
  obtain ⟨y0, n, -, hl, h0⟩ := trod_struct1 Tryz.underlying29 hf
  simp only [Value.cells] at h0 hl
  rw [show Tryz.prog.cellsOf 29 = 7 by kernel_rfl] at hl
  rw [show ∀ f : TypeId, f = 27 → Tryz.prog.cellsOf f = 7 from fun f hf => by subst hf; kernel_rfl] at h0
  · rw [show ∀ (o : Nat), o = 0 → (cs.toList.drop o).take 7 = cs.toList from fun o ho => by subst ho; rw [List.drop_zero, List.take_of_length_le (by omega)]] at h0
    · obtain ⟨l, hl, hcs, hw⟩ := trod_nums (k := .i64) Tryz.underlying27 Tryz.underlying3 (by kernel_rfl) (by kernel_rfl) h0
      exact ⟨l, congrArg _ (agg_of hcs), goodI_wf hl hw, hl⟩
    · rfl
  · rfl
set_option maxRecDepth 100000 in
theorem open_Map {H : Type} {enc : TypeId × Value → H} {W : World} {base : Nat} {v : Value} {d : DataW H} {p : List MemPlace}
    (hv : Value.okWide Tryz.prog W .any base 47 v) (h : DataW.Trod enc Tryz.prog W 0 (fun _ => true) true 47 v d p) : ∃ l, v = .agg (ints l) ∧ GoodI 8 (ints l) ∧ l.length = 8 := by
  unfold Value.okWide at hv
  rw [Tryz.underlying47] at hv
  obtain ⟨cs, rfl, -⟩ := hv
  obtain ⟨fuel, hf⟩ := h
  obtain ⟨y0, y1, n, -, hl, h0, h1⟩ := trod_struct2 Tryz.underlying47 hf
  simp only [Value.cells] at h0 h1 hl
  rw [show Tryz.prog.cellsOf 47 = 8 by kernel_rfl] at hl
  have h0' : DataW.trod enc Tryz.prog W 0 (fun _ => true) true n 3 ((cs.toList.drop 0).take (Tryz.prog.cellsOf 3)) = some y0 := h0
  have h1' : DataW.trod enc Tryz.prog W 0 (fun _ => true) true n 27 ((cs.toList.drop 1).take (Tryz.prog.cellsOf 27)) = some y1 := h1
  rw [show Tryz.prog.cellsOf 3 = 1 by kernel_rfl] at h0'
  rw [show Tryz.prog.cellsOf 27 = 7 by kernel_rfl] at h1'
  obtain ⟨a0, e0, -, w0⟩ := DataW.trod_int Tryz.underlying3 h0'
  obtain ⟨l, hl7, hcs, hw⟩ := trod_nums (k := .i64) Tryz.underlying27 Tryz.underlying3 (by kernel_rfl) (by kernel_rfl) h1'
  have hc : cs.toList = (a0 :: l).map (Value.int .i64) := by
    have e1 : cs.toList = (cs.toList.drop 0).take 1 ++ (cs.toList.drop 1).take 7 := by
      rw [List.drop_zero, List.take_of_length_le (l := cs.toList.drop 1) (by rw [List.length_drop]; omega), List.take_append_drop]
    rw [e1, e0, hcs]
    rfl
  exact ⟨a0 :: l, congrArg _ (agg_of hc), goodI_wf (by simp [hl7]) (fun y hy => by
    rcases List.mem_cons.1 hy with rfl | h
    · exact w0
    · exact hw y h), by simp [hl7]⟩
end Go.Proofs.YtfdnlgmgjmbafaaGreatDoor
