/-
  The law NodeGets: its walk. Written by gen_ndga.py.
-/
import Derived.Test.YtaebipopmefkpaaGreatDoorQNdG9
import Derived.Test.YtaebipopmefkpaaGreatDoorQNdG6
import Derived.Test.YtaebipopmefkpaaGreatDoorQNdG5
import Derived.Test.YtaebipopmefkpaaGreatDoorMn22
import Derived.Test.YtaebipopmefkpaaGreatDoorQNdGC
namespace Go.Proofs.YtaebipopmefkpaaGreatDoor
open Go.RowKit Go.Shelf
attribute [local go_sem] Oper.semAt_some

/-- What is got, by both. -/
structure GetP (F Fr : FuncId) (T : TypeId) (X A : Array Value) (k : Nat) (E : Int) (c : Bool) : Prop where
  c1 : ∀ V, Tabs V → Calls Tryz.prog F #[.agg X] V fun r w' => r = .returned (.tuple #[.agg A, .int .i64 E]) ∧ Below V.heap.size V w'
  c2 : ∀ V, Calls Tryz.prog Fr #[.agg X] V fun r w' => r = .returned (.tuple #[.agg A, .bool c]) ∧ Below V.heap.size V w'
  gt : ∀ V, Calls Tryz.prog 14 #[.bool true, .int .i64 E, .bool c] V fun r w' => r = .returned (.bool true) ∧ V = w'
  eq : ∀ V, (Op.equalIn 10000 T (.agg A) (.agg A)).run Tryz.prog V = .ok true V
  s1 : A.size = k
  o1 : A.all (·.oneCell') = true
theorem getP_calls {f : FuncId} {ar : Array Value} {w : World} {p : Prop} {v : Value} {R : World → Prop} (h : Calls Tryz.prog f ar w fun e w' => e = .returned v ∧ p ∧ R w') : p := by
  obtain ⟨e, w', fr, h, -⟩ := h []
  exact h.2.1
theorem got_both (c : Bool) (V : World) : Calls Tryz.prog 14 #[.bool true, .int .i64 (if c = true then 0 else 180), .bool c] V fun r w' => r = .returned (.bool true) ∧ V = w' := by
  cases c
  · exact got8_no V
  · exact got8_yes V
theorem getErr_if (c : Bool) (v z : Array Value) : getErr (if c = true then some v else none) = (if c = true then 0 else 180) ∧ (if c = true then some v else none).getD z = (if c = true then v else z) := by
  cases c <;> exact ⟨rfl, rfl⟩
theorem getP_super (a0 a1 a2 a3 a4 a5 a6 a7 : Int) (hl : Line8 [a0, a1, a2, a3, a4, a5, a6, a7]) (w : World) (ht : Tabs w) :
    ∃ A E c, GetP 4 9 25 (lnA [a0, a1, a2, a3, a4, a5, a6, a7]) A 2 E c := by
  have hg : GoodI 2 ((getSp superSpecs [a0, a1, a2, a3, a4, a5, a6, a7] ndZeroS).getD ndZeroS) := getP_calls (getSuper_any _ hl w ht)
  have hs := gets_super a0 a1 a2 a3 a4 a5 a6 a7 hl
  obtain ⟨c, hc⟩ : ∃ c, (okSp superSpecs #[.int .i64 (smN a1), .int .i64 (smN a2)] && ([a0, a1, a2, a3, a4, a5, a6, a7] == [magicW, smN a1 % 18446744073709551616, smN a2 % 18446744073709551616, 0, 0, 0, 0, 0])) = c := ⟨_, rfl⟩
  rw [hc] at hs
  have he := getErr_if c (#[.int .i64 (smN a1), .int .i64 (smN a2)]) ndZeroS
  rw [← hs] at he
  refine ⟨(getSp superSpecs [a0, a1, a2, a3, a4, a5, a6, a7] ndZeroS).getD ndZeroS, _, c, ⟨fun V hV => (getSuper_any _ hl V hV).mono fun e w' h => ⟨h.1, h.2.2⟩, fun V => ?_, fun V => by rw [he.1]; exact got_both c V, fun V => refl_S hg V, ?_, ?_⟩⟩
  · rw [he.2]
    have h := refGetSuper_any [a0, a1, a2, a3, a4, a5, a6, a7] hl (smN a1) (smN a2) rfl rfl _ _ rfl rfl V
    rw [← hc]
    exact h
  · exact hg.1
  · exact goodI_one hg
theorem getP_inode (a0 a1 a2 a3 a4 a5 a6 a7 : Int) (hl : Line8 [a0, a1, a2, a3, a4, a5, a6, a7]) (w : World) (ht : Tabs w) :
    ∃ A E c, GetP 5 10 31 (lnA [a0, a1, a2, a3, a4, a5, a6, a7]) A 3 E c := by
  have hg : GoodI 3 ((getSp inodeSpecs [a0, a1, a2, a3, a4, a5, a6, a7] ndZeroI).getD ndZeroI) := getP_calls (getInode_any _ hl w ht)
  have hs := gets_inode a0 a1 a2 a3 a4 a5 a6 a7 hl
  obtain ⟨c, hc⟩ : ∃ c, (decide (a0 < 1048576) && okSp inodeSpecs #[.int .i64 (a0 % 256), .int .i64 (a0 / 256), .int .i64 (smN a1)] && noughtsN [a0, a1, a2, a3, a4, a5, a6, a7]) = c := ⟨_, rfl⟩
  rw [hc] at hs
  have he := getErr_if c (#[.int .i64 (a0 % 256), .int .i64 (a0 / 256), .int .i64 (smN a1)]) ndZeroI
  rw [← hs] at he
  refine ⟨(getSp inodeSpecs [a0, a1, a2, a3, a4, a5, a6, a7] ndZeroI).getD ndZeroI, _, c, ⟨fun V hV => (getInode_any _ hl V hV).mono fun e w' h => ⟨h.1, h.2.2⟩, fun V => ?_, fun V => by rw [he.1]; exact got_both c V, fun V => refl_I hg V, ?_, ?_⟩⟩
  · rw [he.2]
    by_cases hf : (1048576 : Int) ≤ a0
    · have h := refGetInode_far [a0, a1, a2, a3, a4, a5, a6, a7] hl hf V
      have hc0 : c = false := by rw [← hc, decide_eq_false (by omega)]; rfl
      rw [hc0]
      exact h
    · have h := refGetInode_near [a0, a1, a2, a3, a4, a5, a6, a7] hl (Int.not_le.1 hf) _ _ rfl rfl V
      have hd : decide (a0 < 1048576) = true := decide_eq_true (by omega)
      rw [hd, Bool.true_and] at hc
      rw [← hc]
      exact h
  · exact hg.1
  · exact goodI_one hg
theorem getP_map (a0 a1 a2 a3 a4 a5 a6 a7 : Int) (hl : Line8 [a0, a1, a2, a3, a4, a5, a6, a7]) (w : World) (ht : Tabs w) :
    ∃ A E c, GetP 6 11 36 (lnA [a0, a1, a2, a3, a4, a5, a6, a7]) A 8 E c := by
  have hg : GoodI 8 ((getSp mapSpecs [a0, a1, a2, a3, a4, a5, a6, a7] ndZeroM).getD ndZeroM) := getP_calls (getMap_any _ hl w ht)
  have hs := gets_map a0 a1 a2 a3 a4 a5 a6 a7 hl
  obtain ⟨c, hc⟩ : ∃ c, (okSp mapSpecs (ints (smG 8 [a0, a1, a2, a3, a4, a5, a6, a7] 8)) && true) = c := ⟨_, rfl⟩
  rw [hc] at hs
  have he := getErr_if c (ints (smG 8 [a0, a1, a2, a3, a4, a5, a6, a7] 8)) ndZeroM
  rw [← hs] at he
  refine ⟨(getSp mapSpecs [a0, a1, a2, a3, a4, a5, a6, a7] ndZeroM).getD ndZeroM, _, c, ⟨fun V hV => (getMap_any _ hl V hV).mono fun e w' h => ⟨h.1, h.2.2⟩, fun V => ?_, fun V => by rw [he.1]; exact got_both c V, fun V => refl_M hg V, ?_, ?_⟩⟩
  · rw [he.2]
    have h := refGetMap_any [a0, a1, a2, a3, a4, a5, a6, a7] hl _ rfl V
    rw [Bool.and_true] at hc
    rw [← hc]
    exact h
  · exact hg.1
  · exact goodI_one hg
theorem getP_table (a0 a1 a2 a3 a4 a5 a6 a7 : Int) (hl : Line8 [a0, a1, a2, a3, a4, a5, a6, a7]) (w : World) (ht : Tabs w) :
    ∃ A E c, GetP 7 12 40 (lnA [a0, a1, a2, a3, a4, a5, a6, a7]) A 7 E c := by
  have hg : GoodI 7 ((getSp tableSpecs [a0, a1, a2, a3, a4, a5, a6, a7] ndZeroT).getD ndZeroT) := getP_calls (getTable_any _ hl w ht)
  have hs := gets_table a0 a1 a2 a3 a4 a5 a6 a7 hl
  obtain ⟨c, hc⟩ : ∃ c, (okSp tableSpecs (ints (smG 7 [a0, a1, a2, a3, a4, a5, a6, a7] 7)) && (a7 == 0)) = c := ⟨_, rfl⟩
  rw [hc] at hs
  have he := getErr_if c (ints (smG 7 [a0, a1, a2, a3, a4, a5, a6, a7] 7)) ndZeroT
  rw [← hs] at he
  refine ⟨(getSp tableSpecs [a0, a1, a2, a3, a4, a5, a6, a7] ndZeroT).getD ndZeroT, _, c, ⟨fun V hV => (getTable_any _ hl V hV).mono fun e w' h => ⟨h.1, h.2.2⟩, fun V => ?_, fun V => by rw [he.1]; exact got_both c V, fun V => refl_T hg V, ?_, ?_⟩⟩
  · rw [he.2]
    have h := refGetTable_any [a0, a1, a2, a3, a4, a5, a6, a7] hl _ _ rfl rfl V
    rw [← hc]
    exact h
  · exact hg.1
  · exact goodI_one hg
theorem getP_entry (a0 a1 a2 a3 a4 a5 a6 a7 : Int) (hl : Line8 [a0, a1, a2, a3, a4, a5, a6, a7]) (w : World) (ht : Tabs w) :
    ∃ A E c, GetP 8 13 44 (lnA [a0, a1, a2, a3, a4, a5, a6, a7]) A 3 E c := by
  have hg : GoodE ((getSp entrySpecs [a0, a1, a2, a3, a4, a5, a6, a7] ndZeroE).getD ndZeroE) := getP_calls (getEntry_any _ hl w ht)
  have hs := gets_entry a0 a1 a2 a3 a4 a5 a6 a7 hl
  obtain ⟨c, hc⟩ : ∃ c, (rdIs [a0, a1, a2, a3, a4, a5, a6, a7] && okSp entrySpecs #[.int .i64 (smN a0), .int .i64 (smN a1), encStr (rdTxt [a0, a1, a2, a3, a4, a5, a6, a7])]) = c := ⟨_, rfl⟩
  rw [hc] at hs
  have he := getErr_if c (#[.int .i64 (smN a0), .int .i64 (smN a1), encStr (rdTxt [a0, a1, a2, a3, a4, a5, a6, a7])]) ndZeroE
  rw [← hs] at he
  refine ⟨(getSp entrySpecs [a0, a1, a2, a3, a4, a5, a6, a7] ndZeroE).getD ndZeroE, _, c, ⟨fun V hV => (getEntry_any _ hl V hV).mono fun e w' h => ⟨h.1, h.2.2⟩, fun V => ?_, fun V => by rw [he.1]; exact got_both c V, fun V => refl_E hg V, ?_, ?_⟩⟩
  · rw [he.2]
    have h := refGetEntry_any [a0, a1, a2, a3, a4, a5, a6, a7] hl (smN a0) (smN a1) rfl rfl _ rfl _ _ rfl rfl V
    rw [← hc]
    exact h
  · exact hg.1
  · exact goodE_one hg
set_option maxRecDepth 100000 in
set_option maxHeartbeats 40000000 in
theorem gets8_any (a0 a1 a2 a3 a4 a5 a6 a7 : Int) (hl : Line8 [a0, a1, a2, a3, a4, a5, a6, a7]) (w : World) (ht : Tabs w) :
    Calls Tryz.prog 3 #[.agg (lnA [a0, a1, a2, a3, a4, a5, a6, a7])] w fun e w' => e = .returned (.bool true) ∧ Below w.heap.size w w' := by
  have HWK := Lib.hid works8_any
  obtain ⟨A0, E0, c0, hp0⟩ := getP_super a0 a1 a2 a3 a4 a5 a6 a7 hl w ht
  obtain ⟨A1, E1, c1, hp1⟩ := getP_inode a0 a1 a2 a3 a4 a5 a6 a7 hl w ht
  obtain ⟨A2, E2, c2, hp2⟩ := getP_map a0 a1 a2 a3 a4 a5 a6 a7 hl w ht
  obtain ⟨A3, E3, c3, hp3⟩ := getP_table a0 a1 a2 a3 a4 a5 a6 a7 hl w ht
  obtain ⟨A4, E4, c4, hp4⟩ := getP_entry a0 a1 a2 a3 a4 a5 a6 a7 hl w ht
  obtain ⟨X, hX⟩ : ∃ X, lnA [a0, a1, a2, a3, a4, a5, a6, a7] = X := ⟨_, rfl⟩
  have HXS : Hid (X.size = 8) := show _ = _ by rw [← hX]; rfl
  rw [hX] at hp0 hp1 hp2 hp3 hp4 ⊢
  obtain ⟨W0, hW0⟩ : ∃ W0, w.alloc (.cells X 23) = W0 := ⟨_, rfl⟩
  have HB0 : Hid (Below w.heap.size w W0) := show Below _ _ _ by rw [← hW0]; exact (by repeat (first | exact Below.refl _ _ | assumption | refine Below.drew ?_ | refine below_drewN ?_ _ | refine Below.alloc ?_ (by (try simp) <;> omega) _ | refine Below.setCell ?_ (by (try simp) <;> omega) _ | refine Below.trans ?_ (Below.mono (by assumption) (by (try simp) <;> omega))))
  have HX0 : Hid (Blk W0 w.heap.size 23 X) := show Blk _ _ _ _ by rw [← hW0]; exact Blk.new _ _ _
  have HT0 : Hid (Tabs W0) := show Tabs _ from ht.below HB0.out ht.room
  have HP0 := Lib.hid hp0
  have HP1 := Lib.hid hp1
  have HP2 := Lib.hid hp2
  have HP3 := Lib.hid hp3
  have HP4 := Lib.hid hp4
  have HW0 := Lib.hid hW0
  clear hp0 hp1 hp2 hp3 hp4 ht hX hl
  have HLD : Hid ((Instr.loadAt 23 (.pointer (some ⟨w.heap.size, 0, none⟩))).run Tryz.prog (w.alloc (.cells X 23)) = .ok (.agg X) (w.alloc (.cells X 23))) := show _ = _ by
    rw [HW0.out]
    exact HX0.out.load (tt := 23) Tryz.underlying23 rfl (by rw [HXS.out]; kernel_rfl)
  clear hW0
  go_enter Tryz.func3, Tryz.ntmps3
  go_wp2_with (first | (refine ndList_load rfl 23 _ rfl _ _ rfl HLD.out ?_))
  rw [HW0.out]
  refine (HP0.out.c1 _ HT0.out).mono ?_
  rintro e v0 ⟨rfl, hb⟩
  obtain ⟨W1, hW⟩ : ∃ W, v0.alloc (.cells A0 25) = W := ⟨_, rfl⟩
  have hbn : Below W0.heap.size W0 W1 := by rw [← hW]; exact hb.alloc hb.size _
  clear HLD
  have HST : Hid ((Instr.storeAt 25 (.pointer (some ⟨v0.heap.size, 0, none⟩)) (.agg A0)).run Tryz.prog (v0.alloc (.cells #[.int .i64 0, .int .i64 0] 25)) = .ok () W1) := show _ = _ by
    rw [← hW]
    exact run_storeAt_new v0 25 _ A0 (by rw [HP0.out.s1]; kernel_rfl) (by rw [HP0.out.s1]; rfl) HP0.out.o1
  have HX1 := Lib.hid (HX0.out.below hbn HX0.out.lt)
  have C0 : Hid (Blk W1 v0.heap.size 25 A0) := show Blk _ _ _ _ by rw [← hW]; exact Blk.new _ _ _
  have HB1 := Lib.hid (HB0.out.trans (hbn.mono HB0.out.size))
  have HT1 : Hid (Tabs W1) := show Tabs _ from HT0.out.below hbn HT0.out.room
  clear hb hbn hW HB0 HT0 HX0
  have HLD : Hid ((Instr.loadAt 23 (.pointer (some ⟨w.heap.size, 0, none⟩))).run Tryz.prog W1 = .ok (.agg X) W1) := show _ = _ from HX1.out.load (tt := 23) Tryz.underlying23 rfl (by rw [HXS.out]; kernel_rfl)
  go_wp2_with (first | (refine ndList_store rfl 25 _ _ rfl _ _ rfl rfl HST.out ?_) | (refine ndList_load rfl 23 _ rfl _ _ rfl HLD.out ?_))
  refine (HP1.out.c1 _ HT1.out).mono ?_
  rintro e v1 ⟨rfl, hb⟩
  obtain ⟨W2, hW⟩ : ∃ W, v1.alloc (.cells A1 31) = W := ⟨_, rfl⟩
  have hbn : Below W1.heap.size W1 W2 := by rw [← hW]; exact hb.alloc hb.size _
  clear HLD HST
  have HST : Hid ((Instr.storeAt 31 (.pointer (some ⟨v1.heap.size, 0, none⟩)) (.agg A1)).run Tryz.prog (v1.alloc (.cells #[.int .i64 0, .int .i64 0, .int .i64 0] 31)) = .ok () W2) := show _ = _ by
    rw [← hW]
    exact run_storeAt_new v1 31 _ A1 (by rw [HP1.out.s1]; kernel_rfl) (by rw [HP1.out.s1]; rfl) HP1.out.o1
  have HX2 := Lib.hid (HX1.out.below hbn HX1.out.lt)
  have D0 := Lib.hid (C0.out.below hbn C0.out.lt)
  clear C0
  have C0 := D0
  clear D0
  have C1 : Hid (Blk W2 v1.heap.size 31 A1) := show Blk _ _ _ _ by rw [← hW]; exact Blk.new _ _ _
  have HB2 := Lib.hid (HB1.out.trans (hbn.mono HB1.out.size))
  have HT2 : Hid (Tabs W2) := show Tabs _ from HT1.out.below hbn HT1.out.room
  clear hb hbn hW HB1 HT1 HX1
  have HLD : Hid ((Instr.loadAt 23 (.pointer (some ⟨w.heap.size, 0, none⟩))).run Tryz.prog W2 = .ok (.agg X) W2) := show _ = _ from HX2.out.load (tt := 23) Tryz.underlying23 rfl (by rw [HXS.out]; kernel_rfl)
  go_wp2_with (first | (refine ndList_store rfl 31 _ _ rfl _ _ rfl rfl HST.out ?_) | (refine ndList_load rfl 23 _ rfl _ _ rfl HLD.out ?_))
  refine (HP2.out.c1 _ HT2.out).mono ?_
  rintro e v2 ⟨rfl, hb⟩
  obtain ⟨W3, hW⟩ : ∃ W, v2.alloc (.cells A2 36) = W := ⟨_, rfl⟩
  have hbn : Below W2.heap.size W2 W3 := by rw [← hW]; exact hb.alloc hb.size _
  clear HLD HST
  have HST : Hid ((Instr.storeAt 36 (.pointer (some ⟨v2.heap.size, 0, none⟩)) (.agg A2)).run Tryz.prog (v2.alloc (.cells #[.int .i64 0, .int .i64 0, .int .i64 0, .int .i64 0, .int .i64 0, .int .i64 0, .int .i64 0, .int .i64 0] 36)) = .ok () W3) := show _ = _ by
    rw [← hW]
    exact run_storeAt_new v2 36 _ A2 (by rw [HP2.out.s1]; kernel_rfl) (by rw [HP2.out.s1]; rfl) HP2.out.o1
  have HX3 := Lib.hid (HX2.out.below hbn HX2.out.lt)
  have D0 := Lib.hid (C0.out.below hbn C0.out.lt)
  clear C0
  have C0 := D0
  clear D0
  have D1 := Lib.hid (C1.out.below hbn C1.out.lt)
  clear C1
  have C1 := D1
  clear D1
  have C2 : Hid (Blk W3 v2.heap.size 36 A2) := show Blk _ _ _ _ by rw [← hW]; exact Blk.new _ _ _
  have HB3 := Lib.hid (HB2.out.trans (hbn.mono HB2.out.size))
  have HT3 : Hid (Tabs W3) := show Tabs _ from HT2.out.below hbn HT2.out.room
  clear hb hbn hW HB2 HT2 HX2
  have HLD : Hid ((Instr.loadAt 23 (.pointer (some ⟨w.heap.size, 0, none⟩))).run Tryz.prog W3 = .ok (.agg X) W3) := show _ = _ from HX3.out.load (tt := 23) Tryz.underlying23 rfl (by rw [HXS.out]; kernel_rfl)
  go_wp2_with (first | (refine ndList_store rfl 36 _ _ rfl _ _ rfl rfl HST.out ?_) | (refine ndList_load rfl 23 _ rfl _ _ rfl HLD.out ?_))
  refine (HP3.out.c1 _ HT3.out).mono ?_
  rintro e v3 ⟨rfl, hb⟩
  obtain ⟨W4, hW⟩ : ∃ W, v3.alloc (.cells A3 40) = W := ⟨_, rfl⟩
  have hbn : Below W3.heap.size W3 W4 := by rw [← hW]; exact hb.alloc hb.size _
  clear HLD HST
  have HST : Hid ((Instr.storeAt 40 (.pointer (some ⟨v3.heap.size, 0, none⟩)) (.agg A3)).run Tryz.prog (v3.alloc (.cells #[.int .i64 0, .int .i64 0, .int .i64 0, .int .i64 0, .int .i64 0, .int .i64 0, .int .i64 0] 40)) = .ok () W4) := show _ = _ by
    rw [← hW]
    exact run_storeAt_new v3 40 _ A3 (by rw [HP3.out.s1]; kernel_rfl) (by rw [HP3.out.s1]; rfl) HP3.out.o1
  have HX4 := Lib.hid (HX3.out.below hbn HX3.out.lt)
  have D0 := Lib.hid (C0.out.below hbn C0.out.lt)
  clear C0
  have C0 := D0
  clear D0
  have D1 := Lib.hid (C1.out.below hbn C1.out.lt)
  clear C1
  have C1 := D1
  clear D1
  have D2 := Lib.hid (C2.out.below hbn C2.out.lt)
  clear C2
  have C2 := D2
  clear D2
  have C3 : Hid (Blk W4 v3.heap.size 40 A3) := show Blk _ _ _ _ by rw [← hW]; exact Blk.new _ _ _
  have HB4 := Lib.hid (HB3.out.trans (hbn.mono HB3.out.size))
  have HT4 : Hid (Tabs W4) := show Tabs _ from HT3.out.below hbn HT3.out.room
  clear hb hbn hW HB3 HT3 HX3
  have HLD : Hid ((Instr.loadAt 23 (.pointer (some ⟨w.heap.size, 0, none⟩))).run Tryz.prog W4 = .ok (.agg X) W4) := show _ = _ from HX4.out.load (tt := 23) Tryz.underlying23 rfl (by rw [HXS.out]; kernel_rfl)
  go_wp2_with (first | (refine ndList_store rfl 40 _ _ rfl _ _ rfl rfl HST.out ?_) | (refine ndList_load rfl 23 _ rfl _ _ rfl HLD.out ?_))
  refine (HP4.out.c1 _ HT4.out).mono ?_
  rintro e v4 ⟨rfl, hb⟩
  obtain ⟨W5, hW⟩ : ∃ W, v4.alloc (.cells A4 44) = W := ⟨_, rfl⟩
  have hbn : Below W4.heap.size W4 W5 := by rw [← hW]; exact hb.alloc hb.size _
  clear HLD HST
  have HST : Hid ((Instr.storeAt 44 (.pointer (some ⟨v4.heap.size, 0, none⟩)) (.agg A4)).run Tryz.prog (v4.alloc (.cells #[.int .i64 0, .int .i64 0, .string ⟨#[]⟩] 44)) = .ok () W5) := show _ = _ by
    rw [← hW]
    exact run_storeAt_new v4 44 _ A4 (by rw [HP4.out.s1]; kernel_rfl) (by rw [HP4.out.s1]; rfl) HP4.out.o1
  have HX5 := Lib.hid (HX4.out.below hbn HX4.out.lt)
  have D0 := Lib.hid (C0.out.below hbn C0.out.lt)
  clear C0
  have C0 := D0
  clear D0
  have D1 := Lib.hid (C1.out.below hbn C1.out.lt)
  clear C1
  have C1 := D1
  clear D1
  have D2 := Lib.hid (C2.out.below hbn C2.out.lt)
  clear C2
  have C2 := D2
  clear D2
  have D3 := Lib.hid (C3.out.below hbn C3.out.lt)
  clear C3
  have C3 := D3
  clear D3
  have C4 : Hid (Blk W5 v4.heap.size 44 A4) := show Blk _ _ _ _ by rw [← hW]; exact Blk.new _ _ _
  have HB5 := Lib.hid (HB4.out.trans (hbn.mono HB4.out.size))
  have HT5 : Hid (Tabs W5) := show Tabs _ from HT4.out.below hbn HT4.out.room
  clear hb hbn hW HB4 HT4 HX4
  have HLD : Hid ((Instr.loadAt 23 (.pointer (some ⟨w.heap.size, 0, none⟩))).run Tryz.prog W5 = .ok (.agg X) W5) := show _ = _ from HX5.out.load (tt := 23) Tryz.underlying23 rfl (by rw [HXS.out]; kernel_rfl)
  go_wp2_with (first | (refine ndList_store rfl 44 _ _ rfl _ _ rfl rfl HST.out ?_) | (refine ndList_load rfl 23 _ rfl _ _ rfl HLD.out ?_))
  refine (HP0.out.c2 _).mono ?_
  rintro e v5 ⟨rfl, hb⟩
  obtain ⟨W6, hW⟩ : ∃ W, v5.alloc (.cells A0 25) = W := ⟨_, rfl⟩
  have hbn : Below W5.heap.size W5 W6 := by rw [← hW]; exact hb.alloc hb.size _
  clear HLD HST
  have HST : Hid ((Instr.storeAt 25 (.pointer (some ⟨v5.heap.size, 0, none⟩)) (.agg A0)).run Tryz.prog (v5.alloc (.cells #[.int .i64 0, .int .i64 0] 25)) = .ok () W6) := show _ = _ by
    rw [← hW]
    exact run_storeAt_new v5 25 _ A0 (by rw [HP0.out.s1]; kernel_rfl) (by rw [HP0.out.s1]; rfl) HP0.out.o1
  have HX6 := Lib.hid (HX5.out.below hbn HX5.out.lt)
  have D0 := Lib.hid (C0.out.below hbn C0.out.lt)
  clear C0
  have C0 := D0
  clear D0
  have D1 := Lib.hid (C1.out.below hbn C1.out.lt)
  clear C1
  have C1 := D1
  clear D1
  have D2 := Lib.hid (C2.out.below hbn C2.out.lt)
  clear C2
  have C2 := D2
  clear D2
  have D3 := Lib.hid (C3.out.below hbn C3.out.lt)
  clear C3
  have C3 := D3
  clear D3
  have D4 := Lib.hid (C4.out.below hbn C4.out.lt)
  clear C4
  have C4 := D4
  clear D4
  have C5 : Hid (Blk W6 v5.heap.size 25 A0) := show Blk _ _ _ _ by rw [← hW]; exact Blk.new _ _ _
  have HB6 := Lib.hid (HB5.out.trans (hbn.mono HB5.out.size))
  have HT6 : Hid (Tabs W6) := show Tabs _ from HT5.out.below hbn HT5.out.room
  clear hb hbn hW HB5 HT5 HX5
  have HLD : Hid ((Instr.loadAt 23 (.pointer (some ⟨w.heap.size, 0, none⟩))).run Tryz.prog W6 = .ok (.agg X) W6) := show _ = _ from HX6.out.load (tt := 23) Tryz.underlying23 rfl (by rw [HXS.out]; kernel_rfl)
  go_wp2_with (first | (refine ndList_store rfl 25 _ _ rfl _ _ rfl rfl HST.out ?_) | (refine ndList_load rfl 23 _ rfl _ _ rfl HLD.out ?_))
  refine (HP1.out.c2 _).mono ?_
  rintro e v6 ⟨rfl, hb⟩
  obtain ⟨W7, hW⟩ : ∃ W, v6.alloc (.cells A1 31) = W := ⟨_, rfl⟩
  have hbn : Below W6.heap.size W6 W7 := by rw [← hW]; exact hb.alloc hb.size _
  clear HLD HST
  have HST : Hid ((Instr.storeAt 31 (.pointer (some ⟨v6.heap.size, 0, none⟩)) (.agg A1)).run Tryz.prog (v6.alloc (.cells #[.int .i64 0, .int .i64 0, .int .i64 0] 31)) = .ok () W7) := show _ = _ by
    rw [← hW]
    exact run_storeAt_new v6 31 _ A1 (by rw [HP1.out.s1]; kernel_rfl) (by rw [HP1.out.s1]; rfl) HP1.out.o1
  have HX7 := Lib.hid (HX6.out.below hbn HX6.out.lt)
  have D0 := Lib.hid (C0.out.below hbn C0.out.lt)
  clear C0
  have C0 := D0
  clear D0
  have D1 := Lib.hid (C1.out.below hbn C1.out.lt)
  clear C1
  have C1 := D1
  clear D1
  have D2 := Lib.hid (C2.out.below hbn C2.out.lt)
  clear C2
  have C2 := D2
  clear D2
  have D3 := Lib.hid (C3.out.below hbn C3.out.lt)
  clear C3
  have C3 := D3
  clear D3
  have D4 := Lib.hid (C4.out.below hbn C4.out.lt)
  clear C4
  have C4 := D4
  clear D4
  have D5 := Lib.hid (C5.out.below hbn C5.out.lt)
  clear C5
  have C5 := D5
  clear D5
  have C6 : Hid (Blk W7 v6.heap.size 31 A1) := show Blk _ _ _ _ by rw [← hW]; exact Blk.new _ _ _
  have HB7 := Lib.hid (HB6.out.trans (hbn.mono HB6.out.size))
  have HT7 : Hid (Tabs W7) := show Tabs _ from HT6.out.below hbn HT6.out.room
  clear hb hbn hW HB6 HT6 HX6
  have HLD : Hid ((Instr.loadAt 23 (.pointer (some ⟨w.heap.size, 0, none⟩))).run Tryz.prog W7 = .ok (.agg X) W7) := show _ = _ from HX7.out.load (tt := 23) Tryz.underlying23 rfl (by rw [HXS.out]; kernel_rfl)
  go_wp2_with (first | (refine ndList_store rfl 31 _ _ rfl _ _ rfl rfl HST.out ?_) | (refine ndList_load rfl 23 _ rfl _ _ rfl HLD.out ?_))
  refine (HP2.out.c2 _).mono ?_
  rintro e v7 ⟨rfl, hb⟩
  obtain ⟨W8, hW⟩ : ∃ W, v7.alloc (.cells A2 36) = W := ⟨_, rfl⟩
  have hbn : Below W7.heap.size W7 W8 := by rw [← hW]; exact hb.alloc hb.size _
  clear HLD HST
  have HST : Hid ((Instr.storeAt 36 (.pointer (some ⟨v7.heap.size, 0, none⟩)) (.agg A2)).run Tryz.prog (v7.alloc (.cells #[.int .i64 0, .int .i64 0, .int .i64 0, .int .i64 0, .int .i64 0, .int .i64 0, .int .i64 0, .int .i64 0] 36)) = .ok () W8) := show _ = _ by
    rw [← hW]
    exact run_storeAt_new v7 36 _ A2 (by rw [HP2.out.s1]; kernel_rfl) (by rw [HP2.out.s1]; rfl) HP2.out.o1
  have HX8 := Lib.hid (HX7.out.below hbn HX7.out.lt)
  have D0 := Lib.hid (C0.out.below hbn C0.out.lt)
  clear C0
  have C0 := D0
  clear D0
  have D1 := Lib.hid (C1.out.below hbn C1.out.lt)
  clear C1
  have C1 := D1
  clear D1
  have D2 := Lib.hid (C2.out.below hbn C2.out.lt)
  clear C2
  have C2 := D2
  clear D2
  have D3 := Lib.hid (C3.out.below hbn C3.out.lt)
  clear C3
  have C3 := D3
  clear D3
  have D4 := Lib.hid (C4.out.below hbn C4.out.lt)
  clear C4
  have C4 := D4
  clear D4
  have D5 := Lib.hid (C5.out.below hbn C5.out.lt)
  clear C5
  have C5 := D5
  clear D5
  have D6 := Lib.hid (C6.out.below hbn C6.out.lt)
  clear C6
  have C6 := D6
  clear D6
  have C7 : Hid (Blk W8 v7.heap.size 36 A2) := show Blk _ _ _ _ by rw [← hW]; exact Blk.new _ _ _
  have HB8 := Lib.hid (HB7.out.trans (hbn.mono HB7.out.size))
  have HT8 : Hid (Tabs W8) := show Tabs _ from HT7.out.below hbn HT7.out.room
  clear hb hbn hW HB7 HT7 HX7
  have HLD : Hid ((Instr.loadAt 23 (.pointer (some ⟨w.heap.size, 0, none⟩))).run Tryz.prog W8 = .ok (.agg X) W8) := show _ = _ from HX8.out.load (tt := 23) Tryz.underlying23 rfl (by rw [HXS.out]; kernel_rfl)
  go_wp2_with (first | (refine ndList_store rfl 36 _ _ rfl _ _ rfl rfl HST.out ?_) | (refine ndList_load rfl 23 _ rfl _ _ rfl HLD.out ?_))
  refine (HP3.out.c2 _).mono ?_
  rintro e v8 ⟨rfl, hb⟩
  obtain ⟨W9, hW⟩ : ∃ W, v8.alloc (.cells A3 40) = W := ⟨_, rfl⟩
  have hbn : Below W8.heap.size W8 W9 := by rw [← hW]; exact hb.alloc hb.size _
  clear HLD HST
  have HST : Hid ((Instr.storeAt 40 (.pointer (some ⟨v8.heap.size, 0, none⟩)) (.agg A3)).run Tryz.prog (v8.alloc (.cells #[.int .i64 0, .int .i64 0, .int .i64 0, .int .i64 0, .int .i64 0, .int .i64 0, .int .i64 0] 40)) = .ok () W9) := show _ = _ by
    rw [← hW]
    exact run_storeAt_new v8 40 _ A3 (by rw [HP3.out.s1]; kernel_rfl) (by rw [HP3.out.s1]; rfl) HP3.out.o1
  have HX9 := Lib.hid (HX8.out.below hbn HX8.out.lt)
  have D0 := Lib.hid (C0.out.below hbn C0.out.lt)
  clear C0
  have C0 := D0
  clear D0
  have D1 := Lib.hid (C1.out.below hbn C1.out.lt)
  clear C1
  have C1 := D1
  clear D1
  have D2 := Lib.hid (C2.out.below hbn C2.out.lt)
  clear C2
  have C2 := D2
  clear D2
  have D3 := Lib.hid (C3.out.below hbn C3.out.lt)
  clear C3
  have C3 := D3
  clear D3
  have D4 := Lib.hid (C4.out.below hbn C4.out.lt)
  clear C4
  have C4 := D4
  clear D4
  have D5 := Lib.hid (C5.out.below hbn C5.out.lt)
  clear C5
  have C5 := D5
  clear D5
  have D6 := Lib.hid (C6.out.below hbn C6.out.lt)
  clear C6
  have C6 := D6
  clear D6
  have D7 := Lib.hid (C7.out.below hbn C7.out.lt)
  clear C7
  have C7 := D7
  clear D7
  have C8 : Hid (Blk W9 v8.heap.size 40 A3) := show Blk _ _ _ _ by rw [← hW]; exact Blk.new _ _ _
  have HB9 := Lib.hid (HB8.out.trans (hbn.mono HB8.out.size))
  have HT9 : Hid (Tabs W9) := show Tabs _ from HT8.out.below hbn HT8.out.room
  clear hb hbn hW HB8 HT8 HX8
  have HLD : Hid ((Instr.loadAt 23 (.pointer (some ⟨w.heap.size, 0, none⟩))).run Tryz.prog W9 = .ok (.agg X) W9) := show _ = _ from HX9.out.load (tt := 23) Tryz.underlying23 rfl (by rw [HXS.out]; kernel_rfl)
  go_wp2_with (first | (refine ndList_store rfl 40 _ _ rfl _ _ rfl rfl HST.out ?_) | (refine ndList_load rfl 23 _ rfl _ _ rfl HLD.out ?_))
  refine (HP4.out.c2 _).mono ?_
  rintro e v9 ⟨rfl, hb⟩
  obtain ⟨W10, hW⟩ : ∃ W, v9.alloc (.cells A4 44) = W := ⟨_, rfl⟩
  have hbn : Below W9.heap.size W9 W10 := by rw [← hW]; exact hb.alloc hb.size _
  clear HLD HST
  have HST : Hid ((Instr.storeAt 44 (.pointer (some ⟨v9.heap.size, 0, none⟩)) (.agg A4)).run Tryz.prog (v9.alloc (.cells #[.int .i64 0, .int .i64 0, .string ⟨#[]⟩] 44)) = .ok () W10) := show _ = _ by
    rw [← hW]
    exact run_storeAt_new v9 44 _ A4 (by rw [HP4.out.s1]; kernel_rfl) (by rw [HP4.out.s1]; rfl) HP4.out.o1
  have HX10 := Lib.hid (HX9.out.below hbn HX9.out.lt)
  have D0 := Lib.hid (C0.out.below hbn C0.out.lt)
  clear C0
  have C0 := D0
  clear D0
  have D1 := Lib.hid (C1.out.below hbn C1.out.lt)
  clear C1
  have C1 := D1
  clear D1
  have D2 := Lib.hid (C2.out.below hbn C2.out.lt)
  clear C2
  have C2 := D2
  clear D2
  have D3 := Lib.hid (C3.out.below hbn C3.out.lt)
  clear C3
  have C3 := D3
  clear D3
  have D4 := Lib.hid (C4.out.below hbn C4.out.lt)
  clear C4
  have C4 := D4
  clear D4
  have D5 := Lib.hid (C5.out.below hbn C5.out.lt)
  clear C5
  have C5 := D5
  clear D5
  have D6 := Lib.hid (C6.out.below hbn C6.out.lt)
  clear C6
  have C6 := D6
  clear D6
  have D7 := Lib.hid (C7.out.below hbn C7.out.lt)
  clear C7
  have C7 := D7
  clear D7
  have D8 := Lib.hid (C8.out.below hbn C8.out.lt)
  clear C8
  have C8 := D8
  clear D8
  have C9 : Hid (Blk W10 v9.heap.size 44 A4) := show Blk _ _ _ _ by rw [← hW]; exact Blk.new _ _ _
  have HB10 := Lib.hid (HB9.out.trans (hbn.mono HB9.out.size))
  have HT10 : Hid (Tabs W10) := show Tabs _ from HT9.out.below hbn HT9.out.room
  clear hb hbn hW HB9 HT9 HX9
  have HL0 : Hid ((Instr.loadAt 25 (.pointer (some ⟨v0.heap.size, 0, none⟩))).run Tryz.prog W10 = .ok (.agg A0) W10) := show _ = _ from C0.out.load (tt := 25) Tryz.underlying25 rfl (by rw [HP0.out.s1]; kernel_rfl)
  clear C0
  have HL1 : Hid ((Instr.loadAt 31 (.pointer (some ⟨v1.heap.size, 0, none⟩))).run Tryz.prog W10 = .ok (.agg A1) W10) := show _ = _ from C1.out.load (tt := 31) Tryz.underlying31 rfl (by rw [HP1.out.s1]; kernel_rfl)
  clear C1
  have HL2 : Hid ((Instr.loadAt 36 (.pointer (some ⟨v2.heap.size, 0, none⟩))).run Tryz.prog W10 = .ok (.agg A2) W10) := show _ = _ from C2.out.load (tt := 36) Tryz.underlying36 rfl (by rw [HP2.out.s1]; kernel_rfl)
  clear C2
  have HL3 : Hid ((Instr.loadAt 40 (.pointer (some ⟨v3.heap.size, 0, none⟩))).run Tryz.prog W10 = .ok (.agg A3) W10) := show _ = _ from C3.out.load (tt := 40) Tryz.underlying40 rfl (by rw [HP3.out.s1]; kernel_rfl)
  clear C3
  have HL4 : Hid ((Instr.loadAt 44 (.pointer (some ⟨v4.heap.size, 0, none⟩))).run Tryz.prog W10 = .ok (.agg A4) W10) := show _ = _ from C4.out.load (tt := 44) Tryz.underlying44 rfl (by rw [HP4.out.s1]; kernel_rfl)
  clear C4
  have HL5 : Hid ((Instr.loadAt 25 (.pointer (some ⟨v5.heap.size, 0, none⟩))).run Tryz.prog W10 = .ok (.agg A0) W10) := show _ = _ from C5.out.load (tt := 25) Tryz.underlying25 rfl (by rw [HP0.out.s1]; kernel_rfl)
  clear C5
  have HL6 : Hid ((Instr.loadAt 31 (.pointer (some ⟨v6.heap.size, 0, none⟩))).run Tryz.prog W10 = .ok (.agg A1) W10) := show _ = _ from C6.out.load (tt := 31) Tryz.underlying31 rfl (by rw [HP1.out.s1]; kernel_rfl)
  clear C6
  have HL7 : Hid ((Instr.loadAt 36 (.pointer (some ⟨v7.heap.size, 0, none⟩))).run Tryz.prog W10 = .ok (.agg A2) W10) := show _ = _ from C7.out.load (tt := 36) Tryz.underlying36 rfl (by rw [HP2.out.s1]; kernel_rfl)
  clear C7
  have HL8 : Hid ((Instr.loadAt 40 (.pointer (some ⟨v8.heap.size, 0, none⟩))).run Tryz.prog W10 = .ok (.agg A3) W10) := show _ = _ from C8.out.load (tt := 40) Tryz.underlying40 rfl (by rw [HP3.out.s1]; kernel_rfl)
  clear C8
  have HL9 : Hid ((Instr.loadAt 44 (.pointer (some ⟨v9.heap.size, 0, none⟩))).run Tryz.prog W10 = .ok (.agg A4) W10) := show _ = _ from C9.out.load (tt := 44) Tryz.underlying44 rfl (by rw [HP4.out.s1]; kernel_rfl)
  clear C9
  have HG0 : Hid (Tryz.prog.eqGuardType Tryz.prog.depth 25 = false) := show _ = _ by kernel_rfl
  have HG1 : Hid (Tryz.prog.eqGuardType Tryz.prog.depth 31 = false) := show _ = _ by kernel_rfl
  have HG2 : Hid (Tryz.prog.eqGuardType Tryz.prog.depth 36 = false) := show _ = _ by kernel_rfl
  have HG3 : Hid (Tryz.prog.eqGuardType Tryz.prog.depth 40 = false) := show _ = _ by kernel_rfl
  have HG4 : Hid (Tryz.prog.eqGuardType Tryz.prog.depth 44 = false) := show _ = _ by kernel_rfl
  go_wp2_with (first | (refine ndList_store rfl 44 _ _ rfl _ _ rfl rfl HST.out ?_) | (with_reducible refine ndList_load rfl 25 _ rfl _ _ rfl HL0.out ?_) | (with_reducible refine ndList_load rfl 31 _ rfl _ _ rfl HL1.out ?_) | (with_reducible refine ndList_load rfl 36 _ rfl _ _ rfl HL2.out ?_) | (with_reducible refine ndList_load rfl 40 _ rfl _ _ rfl HL3.out ?_) | (with_reducible refine ndList_load rfl 44 _ rfl _ _ rfl HL4.out ?_) | (with_reducible refine ndList_load rfl 25 _ rfl _ _ rfl HL5.out ?_) | (with_reducible refine ndList_load rfl 31 _ rfl _ _ rfl HL6.out ?_) | (with_reducible refine ndList_load rfl 36 _ rfl _ _ rfl HL7.out ?_) | (with_reducible refine ndList_load rfl 40 _ rfl _ _ rfl HL8.out ?_) | (with_reducible refine ndList_load rfl 44 _ rfl _ _ rfl HL9.out ?_) | (refine ndList_loadW (by rfl) 25 _ rfl _ _ rfl HL0.out ?_) | (refine ndList_loadW (by rfl) 31 _ rfl _ _ rfl HL1.out ?_) | (refine ndList_loadW (by rfl) 36 _ rfl _ _ rfl HL2.out ?_) | (refine ndList_loadW (by rfl) 40 _ rfl _ _ rfl HL3.out ?_) | (refine ndList_loadW (by rfl) 44 _ rfl _ _ rfl HL4.out ?_) | (refine ndList_loadW (by rfl) 25 _ rfl _ _ rfl HL5.out ?_) | (refine ndList_loadW (by rfl) 31 _ rfl _ _ rfl HL6.out ?_) | (refine ndList_loadW (by rfl) 36 _ rfl _ _ rfl HL7.out ?_) | (refine ndList_loadW (by rfl) 40 _ rfl _ _ rfl HL8.out ?_) | (refine ndList_loadW (by rfl) 44 _ rfl _ _ rfl HL9.out ?_) | (with_reducible refine ndList_eql rfl 25 _ _ _ rfl HG0.out _ _ _ rfl rfl (HP0.out.eq W10) ?_) | (refine ndList_eqlW (by rfl) 25 _ _ _ rfl HG0.out _ _ _ rfl rfl (HP0.out.eq W10) ?_) | (with_reducible refine ndList_eql rfl 31 _ _ _ rfl HG1.out _ _ _ rfl rfl (HP1.out.eq W10) ?_) | (refine ndList_eqlW (by rfl) 31 _ _ _ rfl HG1.out _ _ _ rfl rfl (HP1.out.eq W10) ?_) | (with_reducible refine ndList_eql rfl 36 _ _ _ rfl HG2.out _ _ _ rfl rfl (HP2.out.eq W10) ?_) | (refine ndList_eqlW (by rfl) 36 _ _ _ rfl HG2.out _ _ _ rfl rfl (HP2.out.eq W10) ?_) | (with_reducible refine ndList_eql rfl 40 _ _ _ rfl HG3.out _ _ _ rfl rfl (HP3.out.eq W10) ?_) | (refine ndList_eqlW (by rfl) 40 _ _ _ rfl HG3.out _ _ _ rfl rfl (HP3.out.eq W10) ?_) | (with_reducible refine ndList_eql rfl 44 _ _ _ rfl HG4.out _ _ _ rfl rfl (HP4.out.eq W10) ?_) | (refine ndList_eqlW (by rfl) 44 _ _ _ rfl HG4.out _ _ _ rfl rfl (HP4.out.eq W10) ?_) | (go_at_call 14; with_reducible refine (HP0.out.gt _).mono ?_; rintro e w' ⟨rfl, rfl⟩) | (go_at_call 14; with_reducible refine (HP1.out.gt _).mono ?_; rintro e w' ⟨rfl, rfl⟩) | (go_at_call 14; with_reducible refine (HP2.out.gt _).mono ?_; rintro e w' ⟨rfl, rfl⟩) | (go_at_call 14; with_reducible refine (HP3.out.gt _).mono ?_; rintro e w' ⟨rfl, rfl⟩) | (go_at_call 14; with_reducible refine (HP4.out.gt _).mono ?_; rintro e w' ⟨rfl, rfl⟩))
  refine (HWK.out _ HT10.out).mono ?_
  rintro e wz ⟨rfl, hb⟩
  have HBZ := Lib.hid (HB10.out.trans (hb.mono HB10.out.size))
  clear hb
  go_wp2_with fail
  go_ret
  exact ⟨rfl, HBZ.out⟩
end Go.Proofs.YtaebipopmefkpaaGreatDoor
