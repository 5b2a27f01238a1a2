/-
  The law NodeMaps: its walk. Written by gen_ndmaps.py.
-/
import Derived.Test.YtfdnlgmgjmbafaaGreatDoorQNdRC
import Derived.Test.YtfdnlgmgjmbafaaGreatDoorQNdW
import Derived.Test.YtfdnlgmgjmbafaaGreatDoorQNdX
namespace Go.Proofs.YtfdnlgmgjmbafaaGreatDoor
open Go.RowKit Go.Shelf
attribute [local go_sem] Oper.semAt_some

theorem putP_map (l : List Int) (hl8 : l.length = 8) (hx : GoodI 8 (ints l)) (w : World) (ht : Tabs w) :
    ∃ A R o e, PutP 18 25 26 (ints l) A R o e := by
  have hl := calls_line (putMap_any _ hx w ht)
  refine ⟨lnA (putSp mapSpecs (ints l)), lnA (tabLine l 8), okSp mapSpecs (ints l), putSpE mapSpecs (ints l),
    fun V hV => (putMap_any _ hx V hV).mono fun e w' h => ⟨h.1, h.2.2⟩, fun V => refPutMap_any l hl8 V, fun V => refRightMap_any l hl8 V, fun V => ?_, by rw [lnA_size, hl.1], lnA_one _⟩
  have h := put8_any _ _ (putSpE mapSpecs (ints l)) (okSp mapSpecs (ints l)) hl (tabLine_line l 8) V
  rw [put_true mapSpecs _ _ (fun _ => map_put l hl8)] at h
  exact h
/-- What is put of an entry, and the document's answer. -/
structure PutE (x A R : Array Value) (o : Bool) (e : Int) : Prop where
  pu : ∀ V, Tabs V → Calls Tryz.prog 22 #[.agg x] V fun r w' => r = .returned (.tuple #[.agg A, .int .i64 e]) ∧ Below V.heap.size V w'
  rr : ∀ V, Calls Tryz.prog 23 #[.agg x] V fun r w' => r = .returned (.bool o) ∧ Below V.heap.size V w'
  rp : o = true → ∀ V, Calls Tryz.prog 24 #[.agg x] V fun r w' => r = .returned (.agg R) ∧ Below V.heap.size V w'
  qt : ∀ V, Calls Tryz.prog 10 #[.agg A, .agg (if o = true then R else lnA zeros8), .int .i64 e, .bool o] V fun r w' => r = .returned (.bool true) ∧ Below V.heap.size V w'
  s1 : A.size = 8
  o1 : A.all (·.oneCell') = true
  s2 : R.size = 8
  o2 : R.all (·.oneCell') = true
theorem fiveI_line (a b : Int) (s : List UInt8) : Line8 (entLine [IntKind.u64.wrap a, IntKind.u64.wrap b, IntKind.u64.wrap ((s.length : Nat) : Int)] (fiveI s) 5) := ⟨entLine_len rfl _ _, fun x hx => by
  rw [entLine_five] at hx
  rcases List.mem_append.1 hx with h | h
  · simp only [List.mem_cons, List.not_mem_nil, or_false] at h
    rcases h with rfl | rfl | rfl <;> exact mod_in _
  · unfold fiveI at h
    obtain ⟨j, -, rfl⟩ := List.mem_map.1 h
    have := wordsN_64 s j
    omega⟩
theorem putP_entry (a b : Int) (s : List UInt8) (hx : GoodE #[.int .i64 a, .int .i64 b, encStr s]) (w : World) (ht : Tabs w) :
    ∃ A R o e, PutE #[.int .i64 a, .int .i64 b, encStr s] A R o e := by
  have hl := calls_line (putEntry_any _ hx w ht)
  have hno : ∀ h, okSp entrySpecs #[.int .i64 a, .int .i64 b, encStr s] = h → h = true → rightN s = true := fun h e1 e2 => by
    subst e2
    simp only [okSp, entrySpecs, List.all_cons, List.all_nil, Bool.and_true, Bool.and_eq_true] at e1
    exact e1.2.2
  refine ⟨lnA (putSp entrySpecs #[.int .i64 a, .int .i64 b, encStr s]), lnA (entLine [IntKind.u64.wrap a, IntKind.u64.wrap b, IntKind.u64.wrap ((s.length : Nat) : Int)] (fiveI s) 5), okSp entrySpecs #[.int .i64 a, .int .i64 b, encStr s], putSpE entrySpecs #[.int .i64 a, .int .i64 b, encStr s],
    fun V hV => (putEntry_any _ hx V hV).mono fun e w' h => ⟨h.1, h.2.2⟩, fun V => refRightEntry_any a b s V, fun ho V => refPutEntry_any a b s ((rightN_iff s).1 (hno _ rfl ho)).2.1 V, fun V => ?_, by rw [lnA_size, hl.1], lnA_one _, by rw [lnA_size, (fiveI_line a b s).1], lnA_one _⟩
  have e1 : ∀ o : Bool, (if o = true then lnA (entLine [IntKind.u64.wrap a, IntKind.u64.wrap b, IntKind.u64.wrap ((s.length : Nat) : Int)] (fiveI s) 5) else lnA zeros8) = lnA (if o = true then entLine [IntKind.u64.wrap a, IntKind.u64.wrap b, IntKind.u64.wrap ((s.length : Nat) : Int)] (fiveI s) 5 else zeros8) := fun o => by cases o <;> rfl
  rw [e1]
  have h := put8_any _ (if okSp entrySpecs #[.int .i64 a, .int .i64 b, encStr s] = true then entLine [IntKind.u64.wrap a, IntKind.u64.wrap b, IntKind.u64.wrap ((s.length : Nat) : Int)] (fiveI s) 5 else zeros8) (putSpE entrySpecs #[.int .i64 a, .int .i64 b, encStr s]) (okSp entrySpecs #[.int .i64 a, .int .i64 b, encStr s]) hl (by split; exact fiveI_line a b s; exact zeros8_line) V
  rw [put_true entrySpecs _ _ (fun ho => ?_)] at h
  · exact h
  · rw [if_pos ho, put_entry8, entLine_five]
    have g := (rightN_iff s).1 (hno _ rfl ho)
    have e3 : IntKind.u64.wrap ((s.length : Nat) : Int) = ((s.length : Nat) : Int) := by
      show ((s.length : Nat) : Int) % 18446744073709551616 = _
      omega
    rw [e3]
    rfl
set_option maxRecDepth 100000 in
set_option maxHeartbeats 40000000 in
theorem maps8_lo (l : List Int) (a b size : Int) (s : List UInt8) (hl8 : l.length = 8) (hx : GoodI 8 (ints l)) (ha : -9223372036854775808 ≤ a ∧ a ≤ 9223372036854775807) (hb : -9223372036854775808 ≤ b ∧ b ≤ 9223372036854775807) (hz : size < 0) (w : World) (ht : Tabs w) :
    Calls Tryz.prog 4 #[.agg (ints l), .agg #[.int .i64 a, .int .i64 b, encStr s], .int .i64 size] w fun e w' => e = .returned (.bool true) ∧ Below w.heap.size w w' := by
  have HWK := Lib.hid works8_any
  have HN := Lib.hid num8_any
  obtain ⟨A0, R0, o0, e0, hp0⟩ := putP_map l hl8 hx w ht
  obtain ⟨M, hM⟩ : ∃ M, ints l = M := ⟨_, rfl⟩
  have HMS : Hid (M.size = 8) := show _ = _ by rw [← hM]; simp [ints, hl8]
  rw [hM] at hp0 ⊢
  have HP0 := Lib.hid hp0
  obtain ⟨W0, hW0⟩ : ∃ W0, (w.alloc (.cells M 47)).alloc (.cells #[.int .i64 a, .int .i64 b, encStr s] 49) = W0 := ⟨_, rfl⟩
  have hb0 : Below w.heap.size w W0 := by rw [← hW0]; exact (by repeat (first | exact Below.refl _ _ | assumption | refine Below.drew ?_ | refine below_drewN ?_ _ | refine Below.alloc ?_ (by (try simp) <;> omega) _ | refine Below.setCell ?_ (by (try simp) <;> omega) _ | refine Below.trans ?_ (Below.mono (by assumption) (by (try simp) <;> omega))))
  have b0 : Blk W0 w.heap.size 47 M := by
    rw [← hW0]
    exact (Blk.new w _ _).below (n := w.heap.size + 1) ((Below.refl _ _).alloc (by simp) _) (by omega)
  have b1 : Blk W0 (w.heap.size + 1) 49 #[.int .i64 a, .int .i64 b, encStr s] := by
    rw [← hW0]
    have := Blk.new (w.alloc (.cells M 47)) 49 #[.int .i64 a, .int .i64 b, encStr s]
    rw [World.size_alloc] at this
    exact this
  have HB0 := Lib.hid hb0
  have HT0 : Hid (Tabs W0) := show Tabs _ from ht.below hb0 ht.room
  have HW0 := Lib.hid hW0
  have B0 := Lib.hid b0
  have B1 := Lib.hid b1
  by_cases g1 : 100 < s.length
  · have g2 : (100 : Int) < (s.length : Int) := by omega
    clear g1 hp0 b0 b1 hb0 hW0 ht hM hl8 hx ha hb hz
    go_enter Tryz.func4, Tryz.ntmps4
    go_wp2_with (go_at_call 17; rw [HW0.out]; refine (HWK.out _ HT0.out).mono ?_; rintro e w' ⟨rfl, hb⟩)
    go_ret
    exact ⟨rfl, HB0.out.trans (hb.mono HB0.out.size)⟩
  have g2 : ¬ (100 : Int) < (s.length : Int) := by omega
  obtain ⟨A1, R1, o1, e1, hp1⟩ := putP_entry a b s ⟨rfl, fun j hj => by
    have : j = 0 ∨ j = 1 := by omega
    rcases this with rfl | rfl
    · exact ⟨a, rfl, by omega, by omega⟩
    · exact ⟨b, rfl, by omega, by omega⟩, s, rfl, by omega⟩ w ht
  have HP1 := Lib.hid hp1
  have HLD : Hid ((Instr.loadAt 47 (.pointer (some ⟨w.heap.size, 0, none⟩))).run Tryz.prog ((w.alloc (.cells M 47)).alloc (.cells #[.int .i64 a, .int .i64 b, encStr s] 49)) = .ok (.agg M) ((w.alloc (.cells M 47)).alloc (.cells #[.int .i64 a, .int .i64 b, encStr s] 49))) := show _ = _ by
    rw [hW0]
    exact b0.load (tt := 47) Tryz.underlying47 rfl (by rw [HMS.out]; kernel_rfl)
  clear g1 hp0 hp1 b0 b1 hb0 hW0 ht hM hl8 hx ha hb
  have HCK : Hid (∀ V, Calls Tryz.prog 19 #[.int .i64 size] V fun e w' => e = .returned (.tuple #[.int .i64 0, .int .i64 2]) ∧ Below V.heap.size V w') := show ∀ V, _ from fun V => by
    have h := chunks_any size V
    rw [show chunksN size = 0 from if_neg (by omega), show chunksErr size = 2 from if_neg (by omega)] at h
    exact h
  go_enter Tryz.func4, Tryz.ntmps4
  go_wp2_with (first | (refine ndList_load rfl 47 _ rfl _ _ rfl HLD.out ?_))
  rw [HW0.out]
  refine (HP0.out.pu _ HT0.out).mono ?_
  rintro e v0 ⟨rfl, hb⟩
  obtain ⟨W1, hW⟩ : ∃ W, v0.alloc (.cells A0 31) = W := ⟨_, rfl⟩
  have hbn : Below W0.heap.size W0 W1 := by rw [← hW]; exact hb.alloc hb.size _
  have HST : Hid ((Instr.storeAt 31 (.pointer (some ⟨v0.heap.size, 0, none⟩)) (.agg A0)).run Tryz.prog (v0.alloc (.cells #[.int .u64 0, .int .u64 0, .int .u64 0, .int .u64 0, .int .u64 0, .int .u64 0, .int .u64 0, .int .u64 0] 31)) = .ok () W1) := show _ = _ by
    rw [← hW]
    exact run_storeAt_new v0 31 _ A0 (by rw [HP0.out.s1]; kernel_rfl) (by rw [HP0.out.s1]; rfl) HP0.out.o1
  have B0' := Lib.hid (B0.out.below hbn B0.out.lt)
  clear B0
  have B0 := B0'
  clear B0'
  have B1' := Lib.hid (B1.out.below hbn B1.out.lt)
  clear B1
  have B1 := B1'
  clear B1'
  have HB1 := Lib.hid (HB0.out.trans (hbn.mono HB0.out.size))
  have HT1 : Hid (Tabs W1) := show Tabs _ from HT0.out.below hbn HT0.out.room
  clear hb hbn HB0 HT0
  have C0 : Hid (Blk W1 v0.heap.size 31 A0) := show Blk _ _ _ _ by rw [← hW]; exact Blk.new _ _ _
  clear hW HLD
  go_wp2_with (first | (refine ndList_store rfl 31 _ _ rfl _ _ rfl rfl HST.out ?_))
  clear HST
  refine (HCK.out _).mono ?_
  rintro e W2 ⟨rfl, hbn⟩
  have hb : True := trivial
  have B0' := Lib.hid (B0.out.below hbn B0.out.lt)
  clear B0
  have B0 := B0'
  clear B0'
  have B1' := Lib.hid (B1.out.below hbn B1.out.lt)
  clear B1
  have B1 := B1'
  clear B1'
  have C0' := Lib.hid (C0.out.below hbn C0.out.lt)
  clear C0
  have C0 := C0'
  clear C0'
  have HB2 := Lib.hid (HB1.out.trans (hbn.mono HB1.out.size))
  have HT2 : Hid (Tabs W2) := show Tabs _ from HT1.out.below hbn HT1.out.room
  clear hb hbn HB1 HT1
  have HLD : Hid ((Instr.loadAt 49 (.pointer (some ⟨w.heap.size + 1, 0, none⟩))).run Tryz.prog W2 = .ok (.agg #[.int .i64 a, .int .i64 b, encStr s]) W2) := show _ = _ from B1.out.load (tt := 49) Tryz.underlying49 rfl (by kernel_rfl)
  go_wp2_with (first | (go_at_call 20; refine (HN.out _ _).mono ?_; rintro e w' ⟨rfl, rfl⟩) | (refine ndList_load rfl 49 _ rfl _ _ rfl HLD.out ?_))
  refine (HP1.out.pu _ HT2.out).mono ?_
  rintro e v2 ⟨rfl, hb⟩
  obtain ⟨W3, hW⟩ : ∃ W, v2.alloc (.cells A1 31) = W := ⟨_, rfl⟩
  have hbn : Below W2.heap.size W2 W3 := by rw [← hW]; exact hb.alloc hb.size _
  have HST : Hid ((Instr.storeAt 31 (.pointer (some ⟨v2.heap.size, 0, none⟩)) (.agg A1)).run Tryz.prog (v2.alloc (.cells #[.int .u64 0, .int .u64 0, .int .u64 0, .int .u64 0, .int .u64 0, .int .u64 0, .int .u64 0, .int .u64 0] 31)) = .ok () W3) := show _ = _ by
    rw [← hW]
    exact run_storeAt_new v2 31 _ A1 (by rw [HP1.out.s1]; kernel_rfl) (by rw [HP1.out.s1]; rfl) HP1.out.o1
  have B0' := Lib.hid (B0.out.below hbn B0.out.lt)
  clear B0
  have B0 := B0'
  clear B0'
  have B1' := Lib.hid (B1.out.below hbn B1.out.lt)
  clear B1
  have B1 := B1'
  clear B1'
  have C0' := Lib.hid (C0.out.below hbn C0.out.lt)
  clear C0
  have C0 := C0'
  clear C0'
  have HB3 := Lib.hid (HB2.out.trans (hbn.mono HB2.out.size))
  have HT3 : Hid (Tabs W3) := show Tabs _ from HT2.out.below hbn HT2.out.room
  clear hb hbn HB2 HT2
  have C1 : Hid (Blk W3 v2.heap.size 31 A1) := show Blk _ _ _ _ by rw [← hW]; exact Blk.new _ _ _
  clear hW HLD
  have HNE : Hid (w.heap.size ≠ W3.heap.size ∧ w.heap.size + 1 ≠ W3.heap.size ∧ v0.heap.size ≠ W3.heap.size ∧ v2.heap.size ≠ W3.heap.size) := show _ ∧ _ ∧ _ ∧ _ from ⟨Nat.ne_of_lt B0.out.lt, Nat.ne_of_lt B1.out.lt, Nat.ne_of_lt C0.out.lt, Nat.ne_of_lt C1.out.lt⟩
  have HNL : Hid (w.heap.size ≤ W3.heap.size) := show _ ≤ _ from HB3.out.size
  have HNG := Lib.hid HT3.out.room
  obtain ⟨W4, hW⟩ : ∃ W, W3.alloc (.cells #[.int .u64 0, .int .u64 0, .int .u64 0, .int .u64 0, .int .u64 0, .int .u64 0, .int .u64 0, .int .u64 0] 31) = W := ⟨_, rfl⟩
  have hbn : Below W3.heap.size W3 W4 := by rw [← hW]; exact (Below.refl _ _).alloc (Nat.le_refl _) _
  have hb : True := trivial
  have B0' := Lib.hid (B0.out.below hbn B0.out.lt)
  clear B0
  have B0 := B0'
  clear B0'
  have B1' := Lib.hid (B1.out.below hbn B1.out.lt)
  clear B1
  have B1 := B1'
  clear B1'
  have C0' := Lib.hid (C0.out.below hbn C0.out.lt)
  clear C0
  have C0 := C0'
  clear C0'
  have C1' := Lib.hid (C1.out.below hbn C1.out.lt)
  clear C1
  have C1 := C1'
  clear C1'
  have HB4 := Lib.hid (HB3.out.trans (hbn.mono HB3.out.size))
  have HT4 : Hid (Tabs W4) := show Tabs _ from HT3.out.below hbn HT3.out.room
  clear hb hbn HB3 HT3
  have D : Hid (Blk W4 W3.heap.size 31 (lnA zeros8)) := show Blk _ _ _ _ by rw [← hW]; exact Blk.new _ _ _
  have HLD : Hid ((Instr.loadAt 49 (.pointer (some ⟨w.heap.size + 1, 0, none⟩))).run Tryz.prog (W3.alloc (.cells #[.int .u64 0, .int .u64 0, .int .u64 0, .int .u64 0, .int .u64 0, .int .u64 0, .int .u64 0, .int .u64 0] 31)) = .ok (.agg #[.int .i64 a, .int .i64 b, encStr s]) (W3.alloc (.cells #[.int .u64 0, .int .u64 0, .int .u64 0, .int .u64 0, .int .u64 0, .int .u64 0, .int .u64 0, .int .u64 0] 31))) := show _ = _ by
    rw [hW]
    exact B1.out.load (tt := 49) Tryz.underlying49 rfl (by kernel_rfl)
  have HW4 := Lib.hid hW
  clear hW
  go_wp2_with (first | (refine ndList_store rfl 31 _ _ rfl _ _ rfl rfl HST.out ?_) | (refine ndList_load rfl 49 _ rfl _ _ rfl HLD.out ?_))
  clear HST HLD
  rw [HW4.out]
  clear HW4
  refine (HP1.out.rr _).mono ?_
  rintro e W5 ⟨rfl, hbn⟩
  have hb : True := trivial
  have B0' := Lib.hid (B0.out.below hbn B0.out.lt)
  clear B0
  have B0 := B0'
  clear B0'
  have B1' := Lib.hid (B1.out.below hbn B1.out.lt)
  clear B1
  have B1 := B1'
  clear B1'
  have C0' := Lib.hid (C0.out.below hbn C0.out.lt)
  clear C0
  have C0 := C0'
  clear C0'
  have C1' := Lib.hid (C1.out.below hbn C1.out.lt)
  clear C1
  have C1 := C1'
  clear C1'
  have D' := Lib.hid (D.out.below hbn D.out.lt)
  clear D
  have D := D'
  clear D'
  have HB5 := Lib.hid (HB4.out.trans (hbn.mono HB4.out.size))
  have HT5 : Hid (Tabs W5) := show Tabs _ from HT4.out.below hbn HT4.out.room
  clear hb hbn HB4 HT4
  cases o1
  · go_wp2_with fail
    have HLA0 : Hid (∀ V, Below W5.heap.size W5 V → (Instr.loadAt 31 (.pointer (some ⟨v0.heap.size, 0, none⟩))).run Tryz.prog V = .ok (.agg A0) V) := show ∀ V, _ from fun V hV => (C0.out.below hV C0.out.lt).load (tt := 31) Tryz.underlying31 rfl (by rw [HP0.out.s1]; kernel_rfl)
    have HLM : Hid (∀ V, Below W5.heap.size W5 V → (Instr.loadAt 47 (.pointer (some ⟨w.heap.size, 0, none⟩))).run Tryz.prog V = .ok (.agg M) V) := show ∀ V, _ from fun V hV => (B0.out.below hV B0.out.lt).load (tt := 47) Tryz.underlying47 rfl (by rw [HMS.out]; kernel_rfl)
    have HLA1 : Hid (∀ V, Below W5.heap.size W5 V → (Instr.loadAt 31 (.pointer (some ⟨v2.heap.size, 0, none⟩))).run Tryz.prog V = .ok (.agg A1) V) := show ∀ V, _ from fun V hV => (C1.out.below hV C1.out.lt).load (tt := 31) Tryz.underlying31 rfl (by rw [HP1.out.s1]; kernel_rfl)
    have HLE : Hid (∀ V, Below W5.heap.size W5 V → (Instr.loadAt 49 (.pointer (some ⟨w.heap.size + 1, 0, none⟩))).run Tryz.prog V = .ok (.agg #[.int .i64 a, .int .i64 b, encStr s]) V) := show ∀ V, _ from fun V hV => (B1.out.below hV B1.out.lt).load (tt := 49) Tryz.underlying49 rfl (by kernel_rfl)
    have HLW : Hid (∀ V, Below W5.heap.size W5 V → (Instr.loadAt 31 (.pointer (some ⟨W3.heap.size, 0, none⟩))).run Tryz.prog V = .ok (.agg (lnA zeros8)) V) := show ∀ V, _ from fun V hV => (D.out.below hV D.out.lt).load (tt := 31) Tryz.underlying31 rfl (by kernel_rfl)
    have hR : Below W5.heap.size W5 W5.drew := Below.drew (Below.refl _ _)
    refine wp_region_M 18 (fun V : World => Below W5.heap.size W5 V) (by kernel_rfl) ?_
    (refine wpAnyM_take (i := 0) (v := _) rfl (by kernel_rfl) (by kernel_rfl) (fun _ _ _ h => h) (Or.inl ⟨by rfl, fun w hSw => nd_exec_load rfl rfl (HLA0.out w hSw)⟩) hR ?_; (try simp only [put_laws]))
    (refine wpAnyM_take (i := 1) (v := _) rfl (by kernel_rfl) (by kernel_rfl) (fun _ _ _ h => h) (Or.inl ⟨by rfl, fun w hSw => nd_exec_load rfl rfl (HLM.out w hSw)⟩) hR ?_; (try simp only [put_laws]))
    (refine wpAnyM_take (i := 3) (v := ?_) rfl (by kernel_rfl) (by kernel_rfl) (fun _ _ _ h => h) (Or.inl ⟨by rfl, ?_⟩) hR ?_; rotate_left; (focus (intro w hSw; (try dsimp only at hSw); go_simp; (try with_reducible rfl))); (try simp only [put_laws]))
    (refine wpAnyM_take (i := 4) (v := _) rfl (by kernel_rfl) (by kernel_rfl) (fun _ _ _ h => h) (Or.inl ⟨by rfl, fun w hSw => nd_exec_load rfl rfl (HLM.out w hSw)⟩) hR ?_; (try simp only [put_laws]))
    (refine wpAnyM_one (i := 2) rfl (by kernel_rfl) (fun K hK => ?_); rw [if_pos (by rfl)]; (try simp only [elem_laws]))
    go_simp
    refine (HP0.out.rp _).mono ?_
    rintro e x0 ⟨rfl, hb⟩
    have hR' : Below W5.heap.size W5 x0 := hR.trans (hb.mono hR.size)
    refine hK _ _ (fun _ => hR') ?_
    clear hK K hR hb
    have hR := hR'
    clear hR'
    (try simp only [put_laws])
    (refine wpAnyM_one (i := 5) rfl (by kernel_rfl) (fun K hK => ?_); rw [if_pos (by rfl)]; (try simp only [elem_laws]))
    go_simp
    refine (HP0.out.rr _).mono ?_
    rintro e x1 ⟨rfl, hb⟩
    have hR' : Below W5.heap.size W5 x1 := hR.trans (hb.mono hR.size)
    refine hK _ _ (fun _ => hR') ?_
    clear hK K hR hb
    have hR := hR'
    clear hR'
    (try simp only [put_laws])
    (refine wpAnyM_one (i := 6) rfl (by kernel_rfl) (fun K hK => ?_); rw [if_pos (by rfl)]; (try simp only [elem_laws]))
    go_simp
    refine (HP0.out.qt _).mono ?_
    rintro e x2 ⟨rfl, hb⟩
    have hR' : Below W5.heap.size W5 x2 := hR.trans (hb.mono hR.size)
    refine hK _ _ (fun _ => hR') ?_
    clear hK K hR hb
    have hR := hR'
    clear hR'
    (try simp only [put_laws])
    (refine wpAnyM_take (i := 7) (v := ?_) rfl (by kernel_rfl) (by kernel_rfl) (fun _ _ _ h => h) (Or.inl ⟨by rfl, ?_⟩) hR ?_; rotate_left; (focus (intro w hSw; (try dsimp only at hSw); go_simp; (try with_reducible rfl))); (try simp only [put_laws]))
    (refine wpAnyM_take (i := 8) (v := _) rfl (by kernel_rfl) (by kernel_rfl) (fun _ _ _ h => h) (Or.inl ⟨by rfl, fun w hSw => nd_exec_load rfl rfl (HLA1.out w hSw)⟩) hR ?_; (try simp only [put_laws]))
    (refine wpAnyM_take (i := 9) (v := _) rfl (by kernel_rfl) (by kernel_rfl) (fun _ _ _ h => h) (Or.inl ⟨by rfl, fun w hSw => nd_exec_load rfl rfl (HLW.out w hSw)⟩) hR ?_; (try simp only [put_laws]))
    (refine wpAnyM_take (i := 10) (v := ?_) rfl (by kernel_rfl) (by kernel_rfl) (fun _ _ _ h => h) (Or.inl ⟨by rfl, ?_⟩) hR ?_; rotate_left; (focus (intro w hSw; (try dsimp only at hSw); go_simp; (try with_reducible rfl))); (try simp only [put_laws]))
    (refine wpAnyM_take (i := 11) (v := _) rfl (by kernel_rfl) (by kernel_rfl) (fun _ _ _ h => h) (Or.inl ⟨by rfl, fun w hSw => nd_exec_load rfl rfl (HLE.out w hSw)⟩) hR ?_; (try simp only [put_laws]))
    (refine wpAnyM_one (i := 12) rfl (by kernel_rfl) (fun K hK => ?_); rw [if_pos (by rfl)]; (try simp only [elem_laws]))
    go_simp
    refine (HP1.out.rr _).mono ?_
    rintro e x3 ⟨rfl, hb⟩
    have hR' : Below W5.heap.size W5 x3 := hR.trans (hb.mono hR.size)
    refine hK _ _ (fun _ => hR') ?_
    clear hK K hR hb
    have hR := hR'
    clear hR'
    (try simp only [put_laws])
    (refine wpAnyM_one (i := 13) rfl (by kernel_rfl) (fun K hK => ?_); rw [if_pos (by rfl)]; (try simp only [elem_laws]))
    go_simp
    refine (HP1.out.qt _).mono ?_
    rintro e x4 ⟨rfl, hb⟩
    have hR' : Below W5.heap.size W5 x4 := hR.trans (hb.mono hR.size)
    refine hK _ _ (fun _ => hR') ?_
    clear hK K hR hb
    have hR := hR'
    clear hR'
    (try simp only [put_laws])
    (refine wpAnyM_take (i := 14) (v := ?_) rfl (by kernel_rfl) (by kernel_rfl) (fun _ _ _ h => h) (Or.inl ⟨by rfl, ?_⟩) hR ?_; rotate_left; (focus (intro w hSw; (try dsimp only at hSw); go_simp; (try with_reducible rfl))); (try simp only [put_laws]))
    (refine wpAnyM_take (i := 15) (v := ?_) rfl (by kernel_rfl) (by kernel_rfl) (fun _ _ _ h => h) (Or.inl ⟨by rfl, ?_⟩) hR ?_; rotate_left; (focus (intro w hSw; (try dsimp only at hSw); go_simp; (try with_reducible rfl))); (try simp only [put_laws]))
    have HTX : Hid (Tabs x4) := show Tabs _ from HT5.out.below hR HT5.out.room
    (refine wpAnyM_one (i := 16) rfl (by kernel_rfl) (fun K hK => ?_); rw [if_pos (by rfl)]; (try simp only [elem_laws]))
    go_simp
    refine (HWK.out _ HTX.out).mono ?_
    rintro e x5 ⟨rfl, hb⟩
    have hR' : Below W5.heap.size W5 x5 := hR.trans (hb.mono hR.size)
    refine hK _ _ (fun _ => hR') ?_
    clear hK K hR hb
    have hR := hR'
    clear hR'
    (try simp only [put_laws])
    (refine wpAnyM_take (i := 17) (v := ?_) rfl (by kernel_rfl) (by kernel_rfl) (fun _ _ _ h => h) (Or.inl ⟨by rfl, ?_⟩) hR ?_; rotate_left; (focus (intro w hSw; (try dsimp only at hSw); go_simp; (try with_reducible rfl))); (try simp only [put_laws]))
    (refine wpAnyM_last rfl (by kernel_rfl) (fun K hK => ?_); rw [if_pos (by rfl)]; (try simp only [elem_laws]))
    go_simp
    have HRX := Lib.hid (HB5.out.trans (hR.mono HB5.out.size))
    clear hR
    refine hK _ _ ?_
    clear hK K
    (try simp only [put_laws])
    refine wpAnyM_done (by kernel_rfl) ?_ _
    go_wp2_with fail
    go_ret
    exact ⟨rfl, HRX.out⟩
  · have HRP := Lib.hid (HP1.out.rp rfl)
    have HLD : Hid ((Instr.loadAt 49 (.pointer (some ⟨w.heap.size + 1, 0, none⟩))).run Tryz.prog W5 = .ok (.agg #[.int .i64 a, .int .i64 b, encStr s]) W5) := show _ = _ from B1.out.load (tt := 49) Tryz.underlying49 rfl (by kernel_rfl)
    go_wp2_with (first | (refine ndList_load rfl 49 _ rfl _ _ rfl HLD.out ?_))
    clear HLD
    refine (HRP.out _).mono ?_
    rintro e W6 ⟨rfl, hbn⟩
    have hb : True := trivial
    have B0' := Lib.hid (B0.out.below hbn B0.out.lt)
    clear B0
    have B0 := B0'
    clear B0'
    have B1' := Lib.hid (B1.out.below hbn B1.out.lt)
    clear B1
    have B1 := B1'
    clear B1'
    have C0' := Lib.hid (C0.out.below hbn C0.out.lt)
    clear C0
    have C0 := C0'
    clear C0'
    have C1' := Lib.hid (C1.out.below hbn C1.out.lt)
    clear C1
    have C1 := C1'
    clear C1'
    have D' := Lib.hid (D.out.below hbn D.out.lt)
    clear D
    have D := D'
    clear D'
    have HB6 := Lib.hid (HB5.out.trans (hbn.mono HB5.out.size))
    have HT6 : Hid (Tabs W6) := show Tabs _ from HT5.out.below hbn HT5.out.room
    clear hb hbn HB5 HT5
    have HDL := Lib.hid D.out.lt
    obtain ⟨W7, hs, hx7, ht7⟩ := D.out.store (tt := 31) (P := Tryz.prog) (Y := R1) (by rw [HP1.out.s2]; kernel_rfl) (by rw [HP1.out.s2]; rfl) HP1.out.o2
    have HST := Lib.hid hs
    have D' := Lib.hid hx7
    have q0 : ∀ b t X, Blk W6 b t X → b ≠ W3.heap.size → Blk W7 b t X := fun b t X h hne => h.turn ht7 hne
    have hne := HNE.out
    have B0' := Lib.hid (q0 _ _ _ B0.out hne.1)
    clear B0
    have B0 := B0'
    clear B0'
    have B1' := Lib.hid (q0 _ _ _ B1.out hne.2.1)
    clear B1
    have B1 := B1'
    clear B1'
    have C0' := Lib.hid (q0 _ _ _ C0.out hne.2.2.1)
    clear C0
    have C0 := C0'
    clear C0'
    have C1' := Lib.hid (q0 _ _ _ C1.out hne.2.2.2)
    clear C1
    have C1 := C1'
    clear C1'
    clear D
    have D := D'
    clear D'
    have HB7 := Lib.hid (HB6.out.trans (ht7.below (B := w.heap.size) (fun k h => by have := HNL.out; omega) HB6.out.size))
    have HT7 : Hid (Tabs W7) := show Tabs _ from HT6.out.below (ht7.below (B := W3.heap.size) (fun k h => by omega) (Nat.le_of_lt HDL.out)) HNG.out
    clear hs hx7 ht7 q0 hne HB6 HT6
    go_wp2_with (first | (refine ndList_store rfl 31 _ _ rfl _ _ rfl rfl HST.out ?_))
    clear HST
    have HLA0 : Hid (∀ V, Below W7.heap.size W7 V → (Instr.loadAt 31 (.pointer (some ⟨v0.heap.size, 0, none⟩))).run Tryz.prog V = .ok (.agg A0) V) := show ∀ V, _ from fun V hV => (C0.out.below hV C0.out.lt).load (tt := 31) Tryz.underlying31 rfl (by rw [HP0.out.s1]; kernel_rfl)
    have HLM : Hid (∀ V, Below W7.heap.size W7 V → (Instr.loadAt 47 (.pointer (some ⟨w.heap.size, 0, none⟩))).run Tryz.prog V = .ok (.agg M) V) := show ∀ V, _ from fun V hV => (B0.out.below hV B0.out.lt).load (tt := 47) Tryz.underlying47 rfl (by rw [HMS.out]; kernel_rfl)
    have HLA1 : Hid (∀ V, Below W7.heap.size W7 V → (Instr.loadAt 31 (.pointer (some ⟨v2.heap.size, 0, none⟩))).run Tryz.prog V = .ok (.agg A1) V) := show ∀ V, _ from fun V hV => (C1.out.below hV C1.out.lt).load (tt := 31) Tryz.underlying31 rfl (by rw [HP1.out.s1]; kernel_rfl)
    have HLE : Hid (∀ V, Below W7.heap.size W7 V → (Instr.loadAt 49 (.pointer (some ⟨w.heap.size + 1, 0, none⟩))).run Tryz.prog V = .ok (.agg #[.int .i64 a, .int .i64 b, encStr s]) V) := show ∀ V, _ from fun V hV => (B1.out.below hV B1.out.lt).load (tt := 49) Tryz.underlying49 rfl (by kernel_rfl)
    have HLW : Hid (∀ V, Below W7.heap.size W7 V → (Instr.loadAt 31 (.pointer (some ⟨W3.heap.size, 0, none⟩))).run Tryz.prog V = .ok (.agg R1) V) := show ∀ V, _ from fun V hV => (D.out.below hV D.out.lt).load (tt := 31) Tryz.underlying31 rfl (by rw [HP1.out.s2]; kernel_rfl)
    have hR : Below W7.heap.size W7 W7.drew := Below.drew (Below.refl _ _)
    refine wp_region_M 18 (fun V : World => Below W7.heap.size W7 V) (by kernel_rfl) ?_
    (refine wpAnyM_take (i := 0) (v := _) rfl (by kernel_rfl) (by kernel_rfl) (fun _ _ _ h => h) (Or.inl ⟨by rfl, fun w hSw => nd_exec_load rfl rfl (HLA0.out w hSw)⟩) hR ?_; (try simp only [put_laws]))
    (refine wpAnyM_take (i := 1) (v := _) rfl (by kernel_rfl) (by kernel_rfl) (fun _ _ _ h => h) (Or.inl ⟨by rfl, fun w hSw => nd_exec_load rfl rfl (HLM.out w hSw)⟩) hR ?_; (try simp only [put_laws]))
    (refine wpAnyM_take (i := 3) (v := ?_) rfl (by kernel_rfl) (by kernel_rfl) (fun _ _ _ h => h) (Or.inl ⟨by rfl, ?_⟩) hR ?_; rotate_left; (focus (intro w hSw; (try dsimp only at hSw); go_simp; (try with_reducible rfl))); (try simp only [put_laws]))
    (refine wpAnyM_take (i := 4) (v := _) rfl (by kernel_rfl) (by kernel_rfl) (fun _ _ _ h => h) (Or.inl ⟨by rfl, fun w hSw => nd_exec_load rfl rfl (HLM.out w hSw)⟩) hR ?_; (try simp only [put_laws]))
    (refine wpAnyM_one (i := 2) rfl (by kernel_rfl) (fun K hK => ?_); rw [if_pos (by rfl)]; (try simp only [elem_laws]))
    go_simp
    refine (HP0.out.rp _).mono ?_
    rintro e x0 ⟨rfl, hb⟩
    have hR' : Below W7.heap.size W7 x0 := hR.trans (hb.mono hR.size)
    refine hK _ _ (fun _ => hR') ?_
    clear hK K hR hb
    have hR := hR'
    clear hR'
    (try simp only [put_laws])
    (refine wpAnyM_one (i := 5) rfl (by kernel_rfl) (fun K hK => ?_); rw [if_pos (by rfl)]; (try simp only [elem_laws]))
    go_simp
    refine (HP0.out.rr _).mono ?_
    rintro e x1 ⟨rfl, hb⟩
    have hR' : Below W7.heap.size W7 x1 := hR.trans (hb.mono hR.size)
    refine hK _ _ (fun _ => hR') ?_
    clear hK K hR hb
    have hR := hR'
    clear hR'
    (try simp only [put_laws])
    (refine wpAnyM_one (i := 6) rfl (by kernel_rfl) (fun K hK => ?_); rw [if_pos (by rfl)]; (try simp only [elem_laws]))
    go_simp
    refine (HP0.out.qt _).mono ?_
    rintro e x2 ⟨rfl, hb⟩
    have hR' : Below W7.heap.size W7 x2 := hR.trans (hb.mono hR.size)
    refine hK _ _ (fun _ => hR') ?_
    clear hK K hR hb
    have hR := hR'
    clear hR'
    (try simp only [put_laws])
    (refine wpAnyM_take (i := 7) (v := ?_) rfl (by kernel_rfl) (by kernel_rfl) (fun _ _ _ h => h) (Or.inl ⟨by rfl, ?_⟩) hR ?_; rotate_left; (focus (intro w hSw; (try dsimp only at hSw); go_simp; (try with_reducible rfl))); (try simp only [put_laws]))
    (refine wpAnyM_take (i := 8) (v := _) rfl (by kernel_rfl) (by kernel_rfl) (fun _ _ _ h => h) (Or.inl ⟨by rfl, fun w hSw => nd_exec_load rfl rfl (HLA1.out w hSw)⟩) hR ?_; (try simp only [put_laws]))
    (refine wpAnyM_take (i := 9) (v := _) rfl (by kernel_rfl) (by kernel_rfl) (fun _ _ _ h => h) (Or.inl ⟨by rfl, fun w hSw => nd_exec_load rfl rfl (HLW.out w hSw)⟩) hR ?_; (try simp only [put_laws]))
    (refine wpAnyM_take (i := 10) (v := ?_) rfl (by kernel_rfl) (by kernel_rfl) (fun _ _ _ h => h) (Or.inl ⟨by rfl, ?_⟩) hR ?_; rotate_left; (focus (intro w hSw; (try dsimp only at hSw); go_simp; (try with_reducible rfl))); (try simp only [put_laws]))
    (refine wpAnyM_take (i := 11) (v := _) rfl (by kernel_rfl) (by kernel_rfl) (fun _ _ _ h => h) (Or.inl ⟨by rfl, fun w hSw => nd_exec_load rfl rfl (HLE.out w hSw)⟩) hR ?_; (try simp only [put_laws]))
    (refine wpAnyM_one (i := 12) rfl (by kernel_rfl) (fun K hK => ?_); rw [if_pos (by rfl)]; (try simp only [elem_laws]))
    go_simp
    refine (HP1.out.rr _).mono ?_
    rintro e x3 ⟨rfl, hb⟩
    have hR' : Below W7.heap.size W7 x3 := hR.trans (hb.mono hR.size)
    refine hK _ _ (fun _ => hR') ?_
    clear hK K hR hb
    have hR := hR'
    clear hR'
    (try simp only [put_laws])
    (refine wpAnyM_one (i := 13) rfl (by kernel_rfl) (fun K hK => ?_); rw [if_pos (by rfl)]; (try simp only [elem_laws]))
    go_simp
    refine (HP1.out.qt _).mono ?_
    rintro e x4 ⟨rfl, hb⟩
    have hR' : Below W7.heap.size W7 x4 := hR.trans (hb.mono hR.size)
    refine hK _ _ (fun _ => hR') ?_
    clear hK K hR hb
    have hR := hR'
    clear hR'
    (try simp only [put_laws])
    (refine wpAnyM_take (i := 14) (v := ?_) rfl (by kernel_rfl) (by kernel_rfl) (fun _ _ _ h => h) (Or.inl ⟨by rfl, ?_⟩) hR ?_; rotate_left; (focus (intro w hSw; (try dsimp only at hSw); go_simp; (try with_reducible rfl))); (try simp only [put_laws]))
    (refine wpAnyM_take (i := 15) (v := ?_) rfl (by kernel_rfl) (by kernel_rfl) (fun _ _ _ h => h) (Or.inl ⟨by rfl, ?_⟩) hR ?_; rotate_left; (focus (intro w hSw; (try dsimp only at hSw); go_simp; (try with_reducible rfl))); (try simp only [put_laws]))
    have HTX : Hid (Tabs x4) := show Tabs _ from HT7.out.below hR HT7.out.room
    (refine wpAnyM_one (i := 16) rfl (by kernel_rfl) (fun K hK => ?_); rw [if_pos (by rfl)]; (try simp only [elem_laws]))
    go_simp
    refine (HWK.out _ HTX.out).mono ?_
    rintro e x5 ⟨rfl, hb⟩
    have hR' : Below W7.heap.size W7 x5 := hR.trans (hb.mono hR.size)
    refine hK _ _ (fun _ => hR') ?_
    clear hK K hR hb
    have hR := hR'
    clear hR'
    (try simp only [put_laws])
    (refine wpAnyM_take (i := 17) (v := ?_) rfl (by kernel_rfl) (by kernel_rfl) (fun _ _ _ h => h) (Or.inl ⟨by rfl, ?_⟩) hR ?_; rotate_left; (focus (intro w hSw; (try dsimp only at hSw); go_simp; (try with_reducible rfl))); (try simp only [put_laws]))
    (refine wpAnyM_last rfl (by kernel_rfl) (fun K hK => ?_); rw [if_pos (by rfl)]; (try simp only [elem_laws]))
    go_simp
    have HRX := Lib.hid (HB7.out.trans (hR.mono HB7.out.size))
    clear hR
    refine hK _ _ ?_
    clear hK K
    (try simp only [put_laws])
    refine wpAnyM_done (by kernel_rfl) ?_ _
    go_wp2_with fail
    go_ret
    exact ⟨rfl, HRX.out⟩
set_option maxRecDepth 100000 in
set_option maxHeartbeats 40000000 in
theorem maps8_hi (l : List Int) (a b size : Int) (s : List UInt8) (hl8 : l.length = 8) (hx : GoodI 8 (ints l)) (ha : -9223372036854775808 ≤ a ∧ a ≤ 9223372036854775807) (hb : -9223372036854775808 ≤ b ∧ b ≤ 9223372036854775807) (hz : 448 < size) (w : World) (ht : Tabs w) :
    Calls Tryz.prog 4 #[.agg (ints l), .agg #[.int .i64 a, .int .i64 b, encStr s], .int .i64 size] w fun e w' => e = .returned (.bool true) ∧ Below w.heap.size w w' := by
  have HWK := Lib.hid works8_any
  have HN := Lib.hid num8_any
  obtain ⟨A0, R0, o0, e0, hp0⟩ := putP_map l hl8 hx w ht
  obtain ⟨M, hM⟩ : ∃ M, ints l = M := ⟨_, rfl⟩
  have HMS : Hid (M.size = 8) := show _ = _ by rw [← hM]; simp [ints, hl8]
  rw [hM] at hp0 ⊢
  have HP0 := Lib.hid hp0
  obtain ⟨W0, hW0⟩ : ∃ W0, (w.alloc (.cells M 47)).alloc (.cells #[.int .i64 a, .int .i64 b, encStr s] 49) = W0 := ⟨_, rfl⟩
  have hb0 : Below w.heap.size w W0 := by rw [← hW0]; exact (by repeat (first | exact Below.refl _ _ | assumption | refine Below.drew ?_ | refine below_drewN ?_ _ | refine Below.alloc ?_ (by (try simp) <;> omega) _ | refine Below.setCell ?_ (by (try simp) <;> omega) _ | refine Below.trans ?_ (Below.mono (by assumption) (by (try simp) <;> omega))))
  have b0 : Blk W0 w.heap.size 47 M := by
    rw [← hW0]
    exact (Blk.new w _ _).below (n := w.heap.size + 1) ((Below.refl _ _).alloc (by simp) _) (by omega)
  have b1 : Blk W0 (w.heap.size + 1) 49 #[.int .i64 a, .int .i64 b, encStr s] := by
    rw [← hW0]
    have := Blk.new (w.alloc (.cells M 47)) 49 #[.int .i64 a, .int .i64 b, encStr s]
    rw [World.size_alloc] at this
    exact this
  have HB0 := Lib.hid hb0
  have HT0 : Hid (Tabs W0) := show Tabs _ from ht.below hb0 ht.room
  have HW0 := Lib.hid hW0
  have B0 := Lib.hid b0
  have B1 := Lib.hid b1
  by_cases g1 : 100 < s.length
  · have g2 : (100 : Int) < (s.length : Int) := by omega
    clear g1 hp0 b0 b1 hb0 hW0 ht hM hl8 hx ha hb hz
    go_enter Tryz.func4, Tryz.ntmps4
    go_wp2_with (go_at_call 17; rw [HW0.out]; refine (HWK.out _ HT0.out).mono ?_; rintro e w' ⟨rfl, hb⟩)
    go_ret
    exact ⟨rfl, HB0.out.trans (hb.mono HB0.out.size)⟩
  have g2 : ¬ (100 : Int) < (s.length : Int) := by omega
  obtain ⟨A1, R1, o1, e1, hp1⟩ := putP_entry a b s ⟨rfl, fun j hj => by
    have : j = 0 ∨ j = 1 := by omega
    rcases this with rfl | rfl
    · exact ⟨a, rfl, by omega, by omega⟩
    · exact ⟨b, rfl, by omega, by omega⟩, s, rfl, by omega⟩ w ht
  have HP1 := Lib.hid hp1
  have HLD : Hid ((Instr.loadAt 47 (.pointer (some ⟨w.heap.size, 0, none⟩))).run Tryz.prog ((w.alloc (.cells M 47)).alloc (.cells #[.int .i64 a, .int .i64 b, encStr s] 49)) = .ok (.agg M) ((w.alloc (.cells M 47)).alloc (.cells #[.int .i64 a, .int .i64 b, encStr s] 49))) := show _ = _ by
    rw [hW0]
    exact b0.load (tt := 47) Tryz.underlying47 rfl (by rw [HMS.out]; kernel_rfl)
  clear g1 hp0 hp1 b0 b1 hb0 hW0 ht hM hl8 hx ha hb
  have HCK : Hid (∀ V, Calls Tryz.prog 19 #[.int .i64 size] V fun e w' => e = .returned (.tuple #[.int .i64 0, .int .i64 2]) ∧ Below V.heap.size V w') := show ∀ V, _ from fun V => by
    have h := chunks_any size V
    rw [show chunksN size = 0 from if_neg (by omega), show chunksErr size = 2 from if_neg (by omega)] at h
    exact h
  have hz2 : ¬ size < 0 := by omega
  go_enter Tryz.func4, Tryz.ntmps4
  go_wp2_with (first | (refine ndList_load rfl 47 _ rfl _ _ rfl HLD.out ?_))
  rw [HW0.out]
  refine (HP0.out.pu _ HT0.out).mono ?_
  rintro e v0 ⟨rfl, hb⟩
  obtain ⟨W1, hW⟩ : ∃ W, v0.alloc (.cells A0 31) = W := ⟨_, rfl⟩
  have hbn : Below W0.heap.size W0 W1 := by rw [← hW]; exact hb.alloc hb.size _
  have HST : Hid ((Instr.storeAt 31 (.pointer (some ⟨v0.heap.size, 0, none⟩)) (.agg A0)).run Tryz.prog (v0.alloc (.cells #[.int .u64 0, .int .u64 0, .int .u64 0, .int .u64 0, .int .u64 0, .int .u64 0, .int .u64 0, .int .u64 0] 31)) = .ok () W1) := show _ = _ by
    rw [← hW]
    exact run_storeAt_new v0 31 _ A0 (by rw [HP0.out.s1]; kernel_rfl) (by rw [HP0.out.s1]; rfl) HP0.out.o1
  have B0' := Lib.hid (B0.out.below hbn B0.out.lt)
  clear B0
  have B0 := B0'
  clear B0'
  have B1' := Lib.hid (B1.out.below hbn B1.out.lt)
  clear B1
  have B1 := B1'
  clear B1'
  have HB1 := Lib.hid (HB0.out.trans (hbn.mono HB0.out.size))
  have HT1 : Hid (Tabs W1) := show Tabs _ from HT0.out.below hbn HT0.out.room
  clear hb hbn HB0 HT0
  have C0 : Hid (Blk W1 v0.heap.size 31 A0) := show Blk _ _ _ _ by rw [← hW]; exact Blk.new _ _ _
  clear hW HLD
  go_wp2_with (first | (refine ndList_store rfl 31 _ _ rfl _ _ rfl rfl HST.out ?_))
  clear HST
  refine (HCK.out _).mono ?_
  rintro e W2 ⟨rfl, hbn⟩
  have hb : True := trivial
  have B0' := Lib.hid (B0.out.below hbn B0.out.lt)
  clear B0
  have B0 := B0'
  clear B0'
  have B1' := Lib.hid (B1.out.below hbn B1.out.lt)
  clear B1
  have B1 := B1'
  clear B1'
  have C0' := Lib.hid (C0.out.below hbn C0.out.lt)
  clear C0
  have C0 := C0'
  clear C0'
  have HB2 := Lib.hid (HB1.out.trans (hbn.mono HB1.out.size))
  have HT2 : Hid (Tabs W2) := show Tabs _ from HT1.out.below hbn HT1.out.room
  clear hb hbn HB1 HT1
  have HLD : Hid ((Instr.loadAt 49 (.pointer (some ⟨w.heap.size + 1, 0, none⟩))).run Tryz.prog W2 = .ok (.agg #[.int .i64 a, .int .i64 b, encStr s]) W2) := show _ = _ from B1.out.load (tt := 49) Tryz.underlying49 rfl (by kernel_rfl)
  go_wp2_with (first | (go_at_call 20; refine (HN.out _ _).mono ?_; rintro e w' ⟨rfl, rfl⟩) | (refine ndList_load rfl 49 _ rfl _ _ rfl HLD.out ?_))
  refine (HP1.out.pu _ HT2.out).mono ?_
  rintro e v2 ⟨rfl, hb⟩
  obtain ⟨W3, hW⟩ : ∃ W, v2.alloc (.cells A1 31) = W := ⟨_, rfl⟩
  have hbn : Below W2.heap.size W2 W3 := by rw [← hW]; exact hb.alloc hb.size _
  have HST : Hid ((Instr.storeAt 31 (.pointer (some ⟨v2.heap.size, 0, none⟩)) (.agg A1)).run Tryz.prog (v2.alloc (.cells #[.int .u64 0, .int .u64 0, .int .u64 0, .int .u64 0, .int .u64 0, .int .u64 0, .int .u64 0, .int .u64 0] 31)) = .ok () W3) := show _ = _ by
    rw [← hW]
    exact run_storeAt_new v2 31 _ A1 (by rw [HP1.out.s1]; kernel_rfl) (by rw [HP1.out.s1]; rfl) HP1.out.o1
  have B0' := Lib.hid (B0.out.below hbn B0.out.lt)
  clear B0
  have B0 := B0'
  clear B0'
  have B1' := Lib.hid (B1.out.below hbn B1.out.lt)
  clear B1
  have B1 := B1'
  clear B1'
  have C0' := Lib.hid (C0.out.below hbn C0.out.lt)
  clear C0
  have C0 := C0'
  clear C0'
  have HB3 := Lib.hid (HB2.out.trans (hbn.mono HB2.out.size))
  have HT3 : Hid (Tabs W3) := show Tabs _ from HT2.out.below hbn HT2.out.room
  clear hb hbn HB2 HT2
  have C1 : Hid (Blk W3 v2.heap.size 31 A1) := show Blk _ _ _ _ by rw [← hW]; exact Blk.new _ _ _
  clear hW HLD
  have HNE : Hid (w.heap.size ≠ W3.heap.size ∧ w.heap.size + 1 ≠ W3.heap.size ∧ v0.heap.size ≠ W3.heap.size ∧ v2.heap.size ≠ W3.heap.size) := show _ ∧ _ ∧ _ ∧ _ from ⟨Nat.ne_of_lt B0.out.lt, Nat.ne_of_lt B1.out.lt, Nat.ne_of_lt C0.out.lt, Nat.ne_of_lt C1.out.lt⟩
  have HNL : Hid (w.heap.size ≤ W3.heap.size) := show _ ≤ _ from HB3.out.size
  have HNG := Lib.hid HT3.out.room
  obtain ⟨W4, hW⟩ : ∃ W, W3.alloc (.cells #[.int .u64 0, .int .u64 0, .int .u64 0, .int .u64 0, .int .u64 0, .int .u64 0, .int .u64 0, .int .u64 0] 31) = W := ⟨_, rfl⟩
  have hbn : Below W3.heap.size W3 W4 := by rw [← hW]; exact (Below.refl _ _).alloc (Nat.le_refl _) _
  have hb : True := trivial
  have B0' := Lib.hid (B0.out.below hbn B0.out.lt)
  clear B0
  have B0 := B0'
  clear B0'
  have B1' := Lib.hid (B1.out.below hbn B1.out.lt)
  clear B1
  have B1 := B1'
  clear B1'
  have C0' := Lib.hid (C0.out.below hbn C0.out.lt)
  clear C0
  have C0 := C0'
  clear C0'
  have C1' := Lib.hid (C1.out.below hbn C1.out.lt)
  clear C1
  have C1 := C1'
  clear C1'
  have HB4 := Lib.hid (HB3.out.trans (hbn.mono HB3.out.size))
  have HT4 : Hid (Tabs W4) := show Tabs _ from HT3.out.below hbn HT3.out.room
  clear hb hbn HB3 HT3
  have D : Hid (Blk W4 W3.heap.size 31 (lnA zeros8)) := show Blk _ _ _ _ by rw [← hW]; exact Blk.new _ _ _
  have HLD : Hid ((Instr.loadAt 49 (.pointer (some ⟨w.heap.size + 1, 0, none⟩))).run Tryz.prog (W3.alloc (.cells #[.int .u64 0, .int .u64 0, .int .u64 0, .int .u64 0, .int .u64 0, .int .u64 0, .int .u64 0, .int .u64 0] 31)) = .ok (.agg #[.int .i64 a, .int .i64 b, encStr s]) (W3.alloc (.cells #[.int .u64 0, .int .u64 0, .int .u64 0, .int .u64 0, .int .u64 0, .int .u64 0, .int .u64 0, .int .u64 0] 31))) := show _ = _ by
    rw [hW]
    exact B1.out.load (tt := 49) Tryz.underlying49 rfl (by kernel_rfl)
  have HW4 := Lib.hid hW
  clear hW
  go_wp2_with (first | (refine ndList_store rfl 31 _ _ rfl _ _ rfl rfl HST.out ?_) | (refine ndList_load rfl 49 _ rfl _ _ rfl HLD.out ?_))
  clear HST HLD
  rw [HW4.out]
  clear HW4
  refine (HP1.out.rr _).mono ?_
  rintro e W5 ⟨rfl, hbn⟩
  have hb : True := trivial
  have B0' := Lib.hid (B0.out.below hbn B0.out.lt)
  clear B0
  have B0 := B0'
  clear B0'
  have B1' := Lib.hid (B1.out.below hbn B1.out.lt)
  clear B1
  have B1 := B1'
  clear B1'
  have C0' := Lib.hid (C0.out.below hbn C0.out.lt)
  clear C0
  have C0 := C0'
  clear C0'
  have C1' := Lib.hid (C1.out.below hbn C1.out.lt)
  clear C1
  have C1 := C1'
  clear C1'
  have D' := Lib.hid (D.out.below hbn D.out.lt)
  clear D
  have D := D'
  clear D'
  have HB5 := Lib.hid (HB4.out.trans (hbn.mono HB4.out.size))
  have HT5 : Hid (Tabs W5) := show Tabs _ from HT4.out.below hbn HT4.out.room
  clear hb hbn HB4 HT4
  cases o1
  · go_wp2_with fail
    have HLA0 : Hid (∀ V, Below W5.heap.size W5 V → (Instr.loadAt 31 (.pointer (some ⟨v0.heap.size, 0, none⟩))).run Tryz.prog V = .ok (.agg A0) V) := show ∀ V, _ from fun V hV => (C0.out.below hV C0.out.lt).load (tt := 31) Tryz.underlying31 rfl (by rw [HP0.out.s1]; kernel_rfl)
    have HLM : Hid (∀ V, Below W5.heap.size W5 V → (Instr.loadAt 47 (.pointer (some ⟨w.heap.size, 0, none⟩))).run Tryz.prog V = .ok (.agg M) V) := show ∀ V, _ from fun V hV => (B0.out.below hV B0.out.lt).load (tt := 47) Tryz.underlying47 rfl (by rw [HMS.out]; kernel_rfl)
    have HLA1 : Hid (∀ V, Below W5.heap.size W5 V → (Instr.loadAt 31 (.pointer (some ⟨v2.heap.size, 0, none⟩))).run Tryz.prog V = .ok (.agg A1) V) := show ∀ V, _ from fun V hV => (C1.out.below hV C1.out.lt).load (tt := 31) Tryz.underlying31 rfl (by rw [HP1.out.s1]; kernel_rfl)
    have HLE : Hid (∀ V, Below W5.heap.size W5 V → (Instr.loadAt 49 (.pointer (some ⟨w.heap.size + 1, 0, none⟩))).run Tryz.prog V = .ok (.agg #[.int .i64 a, .int .i64 b, encStr s]) V) := show ∀ V, _ from fun V hV => (B1.out.below hV B1.out.lt).load (tt := 49) Tryz.underlying49 rfl (by kernel_rfl)
    have HLW : Hid (∀ V, Below W5.heap.size W5 V → (Instr.loadAt 31 (.pointer (some ⟨W3.heap.size, 0, none⟩))).run Tryz.prog V = .ok (.agg (lnA zeros8)) V) := show ∀ V, _ from fun V hV => (D.out.below hV D.out.lt).load (tt := 31) Tryz.underlying31 rfl (by kernel_rfl)
    have hR : Below W5.heap.size W5 W5.drew := Below.drew (Below.refl _ _)
    refine wp_region_M 18 (fun V : World => Below W5.heap.size W5 V) (by kernel_rfl) ?_
    (refine wpAnyM_take (i := 0) (v := _) rfl (by kernel_rfl) (by kernel_rfl) (fun _ _ _ h => h) (Or.inl ⟨by rfl, fun w hSw => nd_exec_load rfl rfl (HLA0.out w hSw)⟩) hR ?_; (try simp only [put_laws]))
    (refine wpAnyM_take (i := 1) (v := _) rfl (by kernel_rfl) (by kernel_rfl) (fun _ _ _ h => h) (Or.inl ⟨by rfl, fun w hSw => nd_exec_load rfl rfl (HLM.out w hSw)⟩) hR ?_; (try simp only [put_laws]))
    (refine wpAnyM_take (i := 3) (v := ?_) rfl (by kernel_rfl) (by kernel_rfl) (fun _ _ _ h => h) (Or.inl ⟨by rfl, ?_⟩) hR ?_; rotate_left; (focus (intro w hSw; (try dsimp only at hSw); go_simp; (try with_reducible rfl))); (try simp only [put_laws]))
    (refine wpAnyM_take (i := 4) (v := _) rfl (by kernel_rfl) (by kernel_rfl) (fun _ _ _ h => h) (Or.inl ⟨by rfl, fun w hSw => nd_exec_load rfl rfl (HLM.out w hSw)⟩) hR ?_; (try simp only [put_laws]))
    (refine wpAnyM_one (i := 2) rfl (by kernel_rfl) (fun K hK => ?_); rw [if_pos (by rfl)]; (try simp only [elem_laws]))
    go_simp
    refine (HP0.out.rp _).mono ?_
    rintro e x0 ⟨rfl, hb⟩
    have hR' : Below W5.heap.size W5 x0 := hR.trans (hb.mono hR.size)
    refine hK _ _ (fun _ => hR') ?_
    clear hK K hR hb
    have hR := hR'
    clear hR'
    (try simp only [put_laws])
    (refine wpAnyM_one (i := 5) rfl (by kernel_rfl) (fun K hK => ?_); rw [if_pos (by rfl)]; (try simp only [elem_laws]))
    go_simp
    refine (HP0.out.rr _).mono ?_
    rintro e x1 ⟨rfl, hb⟩
    have hR' : Below W5.heap.size W5 x1 := hR.trans (hb.mono hR.size)
    refine hK _ _ (fun _ => hR') ?_
    clear hK K hR hb
    have hR := hR'
    clear hR'
    (try simp only [put_laws])
    (refine wpAnyM_one (i := 6) rfl (by kernel_rfl) (fun K hK => ?_); rw [if_pos (by rfl)]; (try simp only [elem_laws]))
    go_simp
    refine (HP0.out.qt _).mono ?_
    rintro e x2 ⟨rfl, hb⟩
    have hR' : Below W5.heap.size W5 x2 := hR.trans (hb.mono hR.size)
    refine hK _ _ (fun _ => hR') ?_
    clear hK K hR hb
    have hR := hR'
    clear hR'
    (try simp only [put_laws])
    (refine wpAnyM_take (i := 7) (v := ?_) rfl (by kernel_rfl) (by kernel_rfl) (fun _ _ _ h => h) (Or.inl ⟨by rfl, ?_⟩) hR ?_; rotate_left; (focus (intro w hSw; (try dsimp only at hSw); go_simp; (try with_reducible rfl))); (try simp only [put_laws]))
    (refine wpAnyM_take (i := 8) (v := _) rfl (by kernel_rfl) (by kernel_rfl) (fun _ _ _ h => h) (Or.inl ⟨by rfl, fun w hSw => nd_exec_load rfl rfl (HLA1.out w hSw)⟩) hR ?_; (try simp only [put_laws]))
    (refine wpAnyM_take (i := 9) (v := _) rfl (by kernel_rfl) (by kernel_rfl) (fun _ _ _ h => h) (Or.inl ⟨by rfl, fun w hSw => nd_exec_load rfl rfl (HLW.out w hSw)⟩) hR ?_; (try simp only [put_laws]))
    (refine wpAnyM_take (i := 10) (v := ?_) rfl (by kernel_rfl) (by kernel_rfl) (fun _ _ _ h => h) (Or.inl ⟨by rfl, ?_⟩) hR ?_; rotate_left; (focus (intro w hSw; (try dsimp only at hSw); go_simp; (try with_reducible rfl))); (try simp only [put_laws]))
    (refine wpAnyM_take (i := 11) (v := _) rfl (by kernel_rfl) (by kernel_rfl) (fun _ _ _ h => h) (Or.inl ⟨by rfl, fun w hSw => nd_exec_load rfl rfl (HLE.out w hSw)⟩) hR ?_; (try simp only [put_laws]))
    (refine wpAnyM_one (i := 12) rfl (by kernel_rfl) (fun K hK => ?_); rw [if_pos (by rfl)]; (try simp only [elem_laws]))
    go_simp
    refine (HP1.out.rr _).mono ?_
    rintro e x3 ⟨rfl, hb⟩
    have hR' : Below W5.heap.size W5 x3 := hR.trans (hb.mono hR.size)
    refine hK _ _ (fun _ => hR') ?_
    clear hK K hR hb
    have hR := hR'
    clear hR'
    (try simp only [put_laws])
    (refine wpAnyM_one (i := 13) rfl (by kernel_rfl) (fun K hK => ?_); rw [if_pos (by rfl)]; (try simp only [elem_laws]))
    go_simp
    refine (HP1.out.qt _).mono ?_
    rintro e x4 ⟨rfl, hb⟩
    have hR' : Below W5.heap.size W5 x4 := hR.trans (hb.mono hR.size)
    refine hK _ _ (fun _ => hR') ?_
    clear hK K hR hb
    have hR := hR'
    clear hR'
    (try simp only [put_laws])
    (refine wpAnyM_take (i := 14) (v := ?_) rfl (by kernel_rfl) (by kernel_rfl) (fun _ _ _ h => h) (Or.inl ⟨by rfl, ?_⟩) hR ?_; rotate_left; (focus (intro w hSw; (try dsimp only at hSw); go_simp; (try with_reducible rfl))); (try simp only [put_laws]))
    (refine wpAnyM_take (i := 15) (v := ?_) rfl (by kernel_rfl) (by kernel_rfl) (fun _ _ _ h => h) (Or.inl ⟨by rfl, ?_⟩) hR ?_; rotate_left; (focus (intro w hSw; (try dsimp only at hSw); go_simp; (try with_reducible rfl))); (try simp only [put_laws]))
    have HTX : Hid (Tabs x4) := show Tabs _ from HT5.out.below hR HT5.out.room
    (refine wpAnyM_one (i := 16) rfl (by kernel_rfl) (fun K hK => ?_); rw [if_pos (by rfl)]; (try simp only [elem_laws]))
    go_simp
    refine (HWK.out _ HTX.out).mono ?_
    rintro e x5 ⟨rfl, hb⟩
    have hR' : Below W5.heap.size W5 x5 := hR.trans (hb.mono hR.size)
    refine hK _ _ (fun _ => hR') ?_
    clear hK K hR hb
    have hR := hR'
    clear hR'
    (try simp only [put_laws])
    (refine wpAnyM_take (i := 17) (v := ?_) rfl (by kernel_rfl) (by kernel_rfl) (fun _ _ _ h => h) (Or.inl ⟨by rfl, ?_⟩) hR ?_; rotate_left; (focus (intro w hSw; (try dsimp only at hSw); go_simp; (try with_reducible rfl))); (try simp only [put_laws]))
    (refine wpAnyM_last rfl (by kernel_rfl) (fun K hK => ?_); rw [if_pos (by rfl)]; (try simp only [elem_laws]))
    go_simp
    have HRX := Lib.hid (HB5.out.trans (hR.mono HB5.out.size))
    clear hR
    refine hK _ _ ?_
    clear hK K
    (try simp only [put_laws])
    refine wpAnyM_done (by kernel_rfl) ?_ _
    go_wp2_with fail
    go_ret
    exact ⟨rfl, HRX.out⟩
  · have HRP := Lib.hid (HP1.out.rp rfl)
    have HLD : Hid ((Instr.loadAt 49 (.pointer (some ⟨w.heap.size + 1, 0, none⟩))).run Tryz.prog W5 = .ok (.agg #[.int .i64 a, .int .i64 b, encStr s]) W5) := show _ = _ from B1.out.load (tt := 49) Tryz.underlying49 rfl (by kernel_rfl)
    go_wp2_with (first | (refine ndList_load rfl 49 _ rfl _ _ rfl HLD.out ?_))
    clear HLD
    refine (HRP.out _).mono ?_
    rintro e W6 ⟨rfl, hbn⟩
    have hb : True := trivial
    have B0' := Lib.hid (B0.out.below hbn B0.out.lt)
    clear B0
    have B0 := B0'
    clear B0'
    have B1' := Lib.hid (B1.out.below hbn B1.out.lt)
    clear B1
    have B1 := B1'
    clear B1'
    have C0' := Lib.hid (C0.out.below hbn C0.out.lt)
    clear C0
    have C0 := C0'
    clear C0'
    have C1' := Lib.hid (C1.out.below hbn C1.out.lt)
    clear C1
    have C1 := C1'
    clear C1'
    have D' := Lib.hid (D.out.below hbn D.out.lt)
    clear D
    have D := D'
    clear D'
    have HB6 := Lib.hid (HB5.out.trans (hbn.mono HB5.out.size))
    have HT6 : Hid (Tabs W6) := show Tabs _ from HT5.out.below hbn HT5.out.room
    clear hb hbn HB5 HT5
    have HDL := Lib.hid D.out.lt
    obtain ⟨W7, hs, hx7, ht7⟩ := D.out.store (tt := 31) (P := Tryz.prog) (Y := R1) (by rw [HP1.out.s2]; kernel_rfl) (by rw [HP1.out.s2]; rfl) HP1.out.o2
    have HST := Lib.hid hs
    have D' := Lib.hid hx7
    have q0 : ∀ b t X, Blk W6 b t X → b ≠ W3.heap.size → Blk W7 b t X := fun b t X h hne => h.turn ht7 hne
    have hne := HNE.out
    have B0' := Lib.hid (q0 _ _ _ B0.out hne.1)
    clear B0
    have B0 := B0'
    clear B0'
    have B1' := Lib.hid (q0 _ _ _ B1.out hne.2.1)
    clear B1
    have B1 := B1'
    clear B1'
    have C0' := Lib.hid (q0 _ _ _ C0.out hne.2.2.1)
    clear C0
    have C0 := C0'
    clear C0'
    have C1' := Lib.hid (q0 _ _ _ C1.out hne.2.2.2)
    clear C1
    have C1 := C1'
    clear C1'
    clear D
    have D := D'
    clear D'
    have HB7 := Lib.hid (HB6.out.trans (ht7.below (B := w.heap.size) (fun k h => by have := HNL.out; omega) HB6.out.size))
    have HT7 : Hid (Tabs W7) := show Tabs _ from HT6.out.below (ht7.below (B := W3.heap.size) (fun k h => by omega) (Nat.le_of_lt HDL.out)) HNG.out
    clear hs hx7 ht7 q0 hne HB6 HT6
    go_wp2_with (first | (refine ndList_store rfl 31 _ _ rfl _ _ rfl rfl HST.out ?_))
    clear HST
    have HLA0 : Hid (∀ V, Below W7.heap.size W7 V → (Instr.loadAt 31 (.pointer (some ⟨v0.heap.size, 0, none⟩))).run Tryz.prog V = .ok (.agg A0) V) := show ∀ V, _ from fun V hV => (C0.out.below hV C0.out.lt).load (tt := 31) Tryz.underlying31 rfl (by rw [HP0.out.s1]; kernel_rfl)
    have HLM : Hid (∀ V, Below W7.heap.size W7 V → (Instr.loadAt 47 (.pointer (some ⟨w.heap.size, 0, none⟩))).run Tryz.prog V = .ok (.agg M) V) := show ∀ V, _ from fun V hV => (B0.out.below hV B0.out.lt).load (tt := 47) Tryz.underlying47 rfl (by rw [HMS.out]; kernel_rfl)
    have HLA1 : Hid (∀ V, Below W7.heap.size W7 V → (Instr.loadAt 31 (.pointer (some ⟨v2.heap.size, 0, none⟩))).run Tryz.prog V = .ok (.agg A1) V) := show ∀ V, _ from fun V hV => (C1.out.below hV C1.out.lt).load (tt := 31) Tryz.underlying31 rfl (by rw [HP1.out.s1]; kernel_rfl)
    have HLE : Hid (∀ V, Below W7.heap.size W7 V → (Instr.loadAt 49 (.pointer (some ⟨w.heap.size + 1, 0, none⟩))).run Tryz.prog V = .ok (.agg #[.int .i64 a, .int .i64 b, encStr s]) V) := show ∀ V, _ from fun V hV => (B1.out.below hV B1.out.lt).load (tt := 49) Tryz.underlying49 rfl (by kernel_rfl)
    have HLW : Hid (∀ V, Below W7.heap.size W7 V → (Instr.loadAt 31 (.pointer (some ⟨W3.heap.size, 0, none⟩))).run Tryz.prog V = .ok (.agg R1) V) := show ∀ V, _ from fun V hV => (D.out.below hV D.out.lt).load (tt := 31) Tryz.underlying31 rfl (by rw [HP1.out.s2]; kernel_rfl)
    have hR : Below W7.heap.size W7 W7.drew := Below.drew (Below.refl _ _)
    refine wp_region_M 18 (fun V : World => Below W7.heap.size W7 V) (by kernel_rfl) ?_
    (refine wpAnyM_take (i := 0) (v := _) rfl (by kernel_rfl) (by kernel_rfl) (fun _ _ _ h => h) (Or.inl ⟨by rfl, fun w hSw => nd_exec_load rfl rfl (HLA0.out w hSw)⟩) hR ?_; (try simp only [put_laws]))
    (refine wpAnyM_take (i := 1) (v := _) rfl (by kernel_rfl) (by kernel_rfl) (fun _ _ _ h => h) (Or.inl ⟨by rfl, fun w hSw => nd_exec_load rfl rfl (HLM.out w hSw)⟩) hR ?_; (try simp only [put_laws]))
    (refine wpAnyM_take (i := 3) (v := ?_) rfl (by kernel_rfl) (by kernel_rfl) (fun _ _ _ h => h) (Or.inl ⟨by rfl, ?_⟩) hR ?_; rotate_left; (focus (intro w hSw; (try dsimp only at hSw); go_simp; (try with_reducible rfl))); (try simp only [put_laws]))
    (refine wpAnyM_take (i := 4) (v := _) rfl (by kernel_rfl) (by kernel_rfl) (fun _ _ _ h => h) (Or.inl ⟨by rfl, fun w hSw => nd_exec_load rfl rfl (HLM.out w hSw)⟩) hR ?_; (try simp only [put_laws]))
    (refine wpAnyM_one (i := 2) rfl (by kernel_rfl) (fun K hK => ?_); rw [if_pos (by rfl)]; (try simp only [elem_laws]))
    go_simp
    refine (HP0.out.rp _).mono ?_
    rintro e x0 ⟨rfl, hb⟩
    have hR' : Below W7.heap.size W7 x0 := hR.trans (hb.mono hR.size)
    refine hK _ _ (fun _ => hR') ?_
    clear hK K hR hb
    have hR := hR'
    clear hR'
    (try simp only [put_laws])
    (refine wpAnyM_one (i := 5) rfl (by kernel_rfl) (fun K hK => ?_); rw [if_pos (by rfl)]; (try simp only [elem_laws]))
    go_simp
    refine (HP0.out.rr _).mono ?_
    rintro e x1 ⟨rfl, hb⟩
    have hR' : Below W7.heap.size W7 x1 := hR.trans (hb.mono hR.size)
    refine hK _ _ (fun _ => hR') ?_
    clear hK K hR hb
    have hR := hR'
    clear hR'
    (try simp only [put_laws])
    (refine wpAnyM_one (i := 6) rfl (by kernel_rfl) (fun K hK => ?_); rw [if_pos (by rfl)]; (try simp only [elem_laws]))
    go_simp
    refine (HP0.out.qt _).mono ?_
    rintro e x2 ⟨rfl, hb⟩
    have hR' : Below W7.heap.size W7 x2 := hR.trans (hb.mono hR.size)
    refine hK _ _ (fun _ => hR') ?_
    clear hK K hR hb
    have hR := hR'
    clear hR'
    (try simp only [put_laws])
    (refine wpAnyM_take (i := 7) (v := ?_) rfl (by kernel_rfl) (by kernel_rfl) (fun _ _ _ h => h) (Or.inl ⟨by rfl, ?_⟩) hR ?_; rotate_left; (focus (intro w hSw; (try dsimp only at hSw); go_simp; (try with_reducible rfl))); (try simp only [put_laws]))
    (refine wpAnyM_take (i := 8) (v := _) rfl (by kernel_rfl) (by kernel_rfl) (fun _ _ _ h => h) (Or.inl ⟨by rfl, fun w hSw => nd_exec_load rfl rfl (HLA1.out w hSw)⟩) hR ?_; (try simp only [put_laws]))
    (refine wpAnyM_take (i := 9) (v := _) rfl (by kernel_rfl) (by kernel_rfl) (fun _ _ _ h => h) (Or.inl ⟨by rfl, fun w hSw => nd_exec_load rfl rfl (HLW.out w hSw)⟩) hR ?_; (try simp only [put_laws]))
    (refine wpAnyM_take (i := 10) (v := ?_) rfl (by kernel_rfl) (by kernel_rfl) (fun _ _ _ h => h) (Or.inl ⟨by rfl, ?_⟩) hR ?_; rotate_left; (focus (intro w hSw; (try dsimp only at hSw); go_simp; (try with_reducible rfl))); (try simp only [put_laws]))
    (refine wpAnyM_take (i := 11) (v := _) rfl (by kernel_rfl) (by kernel_rfl) (fun _ _ _ h => h) (Or.inl ⟨by rfl, fun w hSw => nd_exec_load rfl rfl (HLE.out w hSw)⟩) hR ?_; (try simp only [put_laws]))
    (refine wpAnyM_one (i := 12) rfl (by kernel_rfl) (fun K hK => ?_); rw [if_pos (by rfl)]; (try simp only [elem_laws]))
    go_simp
    refine (HP1.out.rr _).mono ?_
    rintro e x3 ⟨rfl, hb⟩
    have hR' : Below W7.heap.size W7 x3 := hR.trans (hb.mono hR.size)
    refine hK _ _ (fun _ => hR') ?_
    clear hK K hR hb
    have hR := hR'
    clear hR'
    (try simp only [put_laws])
    (refine wpAnyM_one (i := 13) rfl (by kernel_rfl) (fun K hK => ?_); rw [if_pos (by rfl)]; (try simp only [elem_laws]))
    go_simp
    refine (HP1.out.qt _).mono ?_
    rintro e x4 ⟨rfl, hb⟩
    have hR' : Below W7.heap.size W7 x4 := hR.trans (hb.mono hR.size)
    refine hK _ _ (fun _ => hR') ?_
    clear hK K hR hb
    have hR := hR'
    clear hR'
    (try simp only [put_laws])
    (refine wpAnyM_take (i := 14) (v := ?_) rfl (by kernel_rfl) (by kernel_rfl) (fun _ _ _ h => h) (Or.inl ⟨by rfl, ?_⟩) hR ?_; rotate_left; (focus (intro w hSw; (try dsimp only at hSw); go_simp; (try with_reducible rfl))); (try simp only [put_laws]))
    (refine wpAnyM_take (i := 15) (v := ?_) rfl (by kernel_rfl) (by kernel_rfl) (fun _ _ _ h => h) (Or.inl ⟨by rfl, ?_⟩) hR ?_; rotate_left; (focus (intro w hSw; (try dsimp only at hSw); go_simp; (try with_reducible rfl))); (try simp only [put_laws]))
    have HTX : Hid (Tabs x4) := show Tabs _ from HT7.out.below hR HT7.out.room
    (refine wpAnyM_one (i := 16) rfl (by kernel_rfl) (fun K hK => ?_); rw [if_pos (by rfl)]; (try simp only [elem_laws]))
    go_simp
    refine (HWK.out _ HTX.out).mono ?_
    rintro e x5 ⟨rfl, hb⟩
    have hR' : Below W7.heap.size W7 x5 := hR.trans (hb.mono hR.size)
    refine hK _ _ (fun _ => hR') ?_
    clear hK K hR hb
    have hR := hR'
    clear hR'
    (try simp only [put_laws])
    (refine wpAnyM_take (i := 17) (v := ?_) rfl (by kernel_rfl) (by kernel_rfl) (fun _ _ _ h => h) (Or.inl ⟨by rfl, ?_⟩) hR ?_; rotate_left; (focus (intro w hSw; (try dsimp only at hSw); go_simp; (try with_reducible rfl))); (try simp only [put_laws]))
    (refine wpAnyM_last rfl (by kernel_rfl) (fun K hK => ?_); rw [if_pos (by rfl)]; (try simp only [elem_laws]))
    go_simp
    have HRX := Lib.hid (HB7.out.trans (hR.mono HB7.out.size))
    clear hR
    refine hK _ _ ?_
    clear hK K
    (try simp only [put_laws])
    refine wpAnyM_done (by kernel_rfl) ?_ _
    go_wp2_with fail
    go_ret
    exact ⟨rfl, HRX.out⟩
set_option maxRecDepth 100000 in
set_option maxHeartbeats 40000000 in
theorem maps8_in (l : List Int) (a b size : Int) (s : List UInt8) (hl8 : l.length = 8) (hx : GoodI 8 (ints l)) (ha : -9223372036854775808 ≤ a ∧ a ≤ 9223372036854775807) (hb : -9223372036854775808 ≤ b ∧ b ≤ 9223372036854775807) (hz : 0 ≤ size ∧ size ≤ 448) (w : World) (ht : Tabs w) :
    Calls Tryz.prog 4 #[.agg (ints l), .agg #[.int .i64 a, .int .i64 b, encStr s], .int .i64 size] w fun e w' => e = .returned (.bool true) ∧ Below w.heap.size w w' := by
  have HWK := Lib.hid works8_any
  have HN := Lib.hid num8_any
  obtain ⟨A0, R0, o0, e0, hp0⟩ := putP_map l hl8 hx w ht
  obtain ⟨M, hM⟩ : ∃ M, ints l = M := ⟨_, rfl⟩
  have HMS : Hid (M.size = 8) := show _ = _ by rw [← hM]; simp [ints, hl8]
  rw [hM] at hp0 ⊢
  have HP0 := Lib.hid hp0
  obtain ⟨W0, hW0⟩ : ∃ W0, (w.alloc (.cells M 47)).alloc (.cells #[.int .i64 a, .int .i64 b, encStr s] 49) = W0 := ⟨_, rfl⟩
  have hb0 : Below w.heap.size w W0 := by rw [← hW0]; exact (by repeat (first | exact Below.refl _ _ | assumption | refine Below.drew ?_ | refine below_drewN ?_ _ | refine Below.alloc ?_ (by (try simp) <;> omega) _ | refine Below.setCell ?_ (by (try simp) <;> omega) _ | refine Below.trans ?_ (Below.mono (by assumption) (by (try simp) <;> omega))))
  have b0 : Blk W0 w.heap.size 47 M := by
    rw [← hW0]
    exact (Blk.new w _ _).below (n := w.heap.size + 1) ((Below.refl _ _).alloc (by simp) _) (by omega)
  have b1 : Blk W0 (w.heap.size + 1) 49 #[.int .i64 a, .int .i64 b, encStr s] := by
    rw [← hW0]
    have := Blk.new (w.alloc (.cells M 47)) 49 #[.int .i64 a, .int .i64 b, encStr s]
    rw [World.size_alloc] at this
    exact this
  have HB0 := Lib.hid hb0
  have HT0 : Hid (Tabs W0) := show Tabs _ from ht.below hb0 ht.room
  have HW0 := Lib.hid hW0
  have B0 := Lib.hid b0
  have B1 := Lib.hid b1
  by_cases g1 : 100 < s.length
  · have g2 : (100 : Int) < (s.length : Int) := by omega
    clear g1 hp0 b0 b1 hb0 hW0 ht hM hl8 hx ha hb hz
    go_enter Tryz.func4, Tryz.ntmps4
    go_wp2_with (go_at_call 17; rw [HW0.out]; refine (HWK.out _ HT0.out).mono ?_; rintro e w' ⟨rfl, hb⟩)
    go_ret
    exact ⟨rfl, HB0.out.trans (hb.mono HB0.out.size)⟩
  have g2 : ¬ (100 : Int) < (s.length : Int) := by omega
  obtain ⟨A1, R1, o1, e1, hp1⟩ := putP_entry a b s ⟨rfl, fun j hj => by
    have : j = 0 ∨ j = 1 := by omega
    rcases this with rfl | rfl
    · exact ⟨a, rfl, by omega, by omega⟩
    · exact ⟨b, rfl, by omega, by omega⟩, s, rfl, by omega⟩ w ht
  have HP1 := Lib.hid hp1
  have HLD : Hid ((Instr.loadAt 47 (.pointer (some ⟨w.heap.size, 0, none⟩))).run Tryz.prog ((w.alloc (.cells M 47)).alloc (.cells #[.int .i64 a, .int .i64 b, encStr s] 49)) = .ok (.agg M) ((w.alloc (.cells M 47)).alloc (.cells #[.int .i64 a, .int .i64 b, encStr s] 49))) := show _ = _ by
    rw [hW0]
    exact b0.load (tt := 47) Tryz.underlying47 rfl (by rw [HMS.out]; kernel_rfl)
  clear g1 hp0 hp1 b0 b1 hb0 hW0 ht hM hl8 hx ha hb
  obtain ⟨K, hK⟩ : ∃ K, chunksN size = K := ⟨_, rfl⟩
  have HCK : Hid (∀ V, Calls Tryz.prog 19 #[.int .i64 size] V fun e w' => e = .returned (.tuple #[.int .i64 K, .int .i64 0]) ∧ Below V.heap.size V w') := show ∀ V, _ from fun V => by
    have h := chunks_any size V
    rw [hK, show chunksErr size = 0 from if_pos hz] at h
    exact h
  have HCR : Hid (∀ V, Calls Tryz.prog 21 #[.int .i64 size] V fun e w' => e = .returned (.int .i64 K) ∧ V = w') := show ∀ V, _ from fun V => by
    have h := refChunks_any size hz V
    rw [hK] at h
    exact h
  obtain ⟨hz0, hz1⟩ := hz
  have hz2 : ¬ size < 0 := by omega
  have hz3 : ¬ 448 < size := by omega
  clear hK hz0 hz1
  go_enter Tryz.func4, Tryz.ntmps4
  go_wp2_with (first | (refine ndList_load rfl 47 _ rfl _ _ rfl HLD.out ?_))
  rw [HW0.out]
  refine (HP0.out.pu _ HT0.out).mono ?_
  rintro e v0 ⟨rfl, hb⟩
  obtain ⟨W1, hW⟩ : ∃ W, v0.alloc (.cells A0 31) = W := ⟨_, rfl⟩
  have hbn : Below W0.heap.size W0 W1 := by rw [← hW]; exact hb.alloc hb.size _
  have HST : Hid ((Instr.storeAt 31 (.pointer (some ⟨v0.heap.size, 0, none⟩)) (.agg A0)).run Tryz.prog (v0.alloc (.cells #[.int .u64 0, .int .u64 0, .int .u64 0, .int .u64 0, .int .u64 0, .int .u64 0, .int .u64 0, .int .u64 0] 31)) = .ok () W1) := show _ = _ by
    rw [← hW]
    exact run_storeAt_new v0 31 _ A0 (by rw [HP0.out.s1]; kernel_rfl) (by rw [HP0.out.s1]; rfl) HP0.out.o1
  have B0' := Lib.hid (B0.out.below hbn B0.out.lt)
  clear B0
  have B0 := B0'
  clear B0'
  have B1' := Lib.hid (B1.out.below hbn B1.out.lt)
  clear B1
  have B1 := B1'
  clear B1'
  have HB1 := Lib.hid (HB0.out.trans (hbn.mono HB0.out.size))
  have HT1 : Hid (Tabs W1) := show Tabs _ from HT0.out.below hbn HT0.out.room
  clear hb hbn HB0 HT0
  have C0 : Hid (Blk W1 v0.heap.size 31 A0) := show Blk _ _ _ _ by rw [← hW]; exact Blk.new _ _ _
  clear hW HLD
  go_wp2_with (first | (refine ndList_store rfl 31 _ _ rfl _ _ rfl rfl HST.out ?_))
  clear HST
  refine (HCK.out _).mono ?_
  rintro e W2 ⟨rfl, hbn⟩
  have hb : True := trivial
  have B0' := Lib.hid (B0.out.below hbn B0.out.lt)
  clear B0
  have B0 := B0'
  clear B0'
  have B1' := Lib.hid (B1.out.below hbn B1.out.lt)
  clear B1
  have B1 := B1'
  clear B1'
  have C0' := Lib.hid (C0.out.below hbn C0.out.lt)
  clear C0
  have C0 := C0'
  clear C0'
  have HB2 := Lib.hid (HB1.out.trans (hbn.mono HB1.out.size))
  have HT2 : Hid (Tabs W2) := show Tabs _ from HT1.out.below hbn HT1.out.room
  clear hb hbn HB1 HT1
  have HLD : Hid ((Instr.loadAt 49 (.pointer (some ⟨w.heap.size + 1, 0, none⟩))).run Tryz.prog W2 = .ok (.agg #[.int .i64 a, .int .i64 b, encStr s]) W2) := show _ = _ from B1.out.load (tt := 49) Tryz.underlying49 rfl (by kernel_rfl)
  go_wp2_with (first | (go_at_call 20; refine (HN.out _ _).mono ?_; rintro e w' ⟨rfl, rfl⟩) | (go_at_call 21; refine (HCR.out _).mono ?_; rintro e w' ⟨rfl, rfl⟩) | (refine ndList_load rfl 49 _ rfl _ _ rfl HLD.out ?_))
  refine (HP1.out.pu _ HT2.out).mono ?_
  rintro e v2 ⟨rfl, hb⟩
  obtain ⟨W3, hW⟩ : ∃ W, v2.alloc (.cells A1 31) = W := ⟨_, rfl⟩
  have hbn : Below W2.heap.size W2 W3 := by rw [← hW]; exact hb.alloc hb.size _
  have HST : Hid ((Instr.storeAt 31 (.pointer (some ⟨v2.heap.size, 0, none⟩)) (.agg A1)).run Tryz.prog (v2.alloc (.cells #[.int .u64 0, .int .u64 0, .int .u64 0, .int .u64 0, .int .u64 0, .int .u64 0, .int .u64 0, .int .u64 0] 31)) = .ok () W3) := show _ = _ by
    rw [← hW]
    exact run_storeAt_new v2 31 _ A1 (by rw [HP1.out.s1]; kernel_rfl) (by rw [HP1.out.s1]; rfl) HP1.out.o1
  have B0' := Lib.hid (B0.out.below hbn B0.out.lt)
  clear B0
  have B0 := B0'
  clear B0'
  have B1' := Lib.hid (B1.out.below hbn B1.out.lt)
  clear B1
  have B1 := B1'
  clear B1'
  have C0' := Lib.hid (C0.out.below hbn C0.out.lt)
  clear C0
  have C0 := C0'
  clear C0'
  have HB3 := Lib.hid (HB2.out.trans (hbn.mono HB2.out.size))
  have HT3 : Hid (Tabs W3) := show Tabs _ from HT2.out.below hbn HT2.out.room
  clear hb hbn HB2 HT2
  have C1 : Hid (Blk W3 v2.heap.size 31 A1) := show Blk _ _ _ _ by rw [← hW]; exact Blk.new _ _ _
  clear hW HLD
  have HNE : Hid (w.heap.size ≠ W3.heap.size ∧ w.heap.size + 1 ≠ W3.heap.size ∧ v0.heap.size ≠ W3.heap.size ∧ v2.heap.size ≠ W3.heap.size) := show _ ∧ _ ∧ _ ∧ _ from ⟨Nat.ne_of_lt B0.out.lt, Nat.ne_of_lt B1.out.lt, Nat.ne_of_lt C0.out.lt, Nat.ne_of_lt C1.out.lt⟩
  have HNL : Hid (w.heap.size ≤ W3.heap.size) := show _ ≤ _ from HB3.out.size
  have HNG := Lib.hid HT3.out.room
  obtain ⟨W4, hW⟩ : ∃ W, W3.alloc (.cells #[.int .u64 0, .int .u64 0, .int .u64 0, .int .u64 0, .int .u64 0, .int .u64 0, .int .u64 0, .int .u64 0] 31) = W := ⟨_, rfl⟩
  have hbn : Below W3.heap.size W3 W4 := by rw [← hW]; exact (Below.refl _ _).alloc (Nat.le_refl _) _
  have hb : True := trivial
  have B0' := Lib.hid (B0.out.below hbn B0.out.lt)
  clear B0
  have B0 := B0'
  clear B0'
  have B1' := Lib.hid (B1.out.below hbn B1.out.lt)
  clear B1
  have B1 := B1'
  clear B1'
  have C0' := Lib.hid (C0.out.below hbn C0.out.lt)
  clear C0
  have C0 := C0'
  clear C0'
  have C1' := Lib.hid (C1.out.below hbn C1.out.lt)
  clear C1
  have C1 := C1'
  clear C1'
  have HB4 := Lib.hid (HB3.out.trans (hbn.mono HB3.out.size))
  have HT4 : Hid (Tabs W4) := show Tabs _ from HT3.out.below hbn HT3.out.room
  clear hb hbn HB3 HT3
  have D : Hid (Blk W4 W3.heap.size 31 (lnA zeros8)) := show Blk _ _ _ _ by rw [← hW]; exact Blk.new _ _ _
  have HLD : Hid ((Instr.loadAt 49 (.pointer (some ⟨w.heap.size + 1, 0, none⟩))).run Tryz.prog (W3.alloc (.cells #[.int .u64 0, .int .u64 0, .int .u64 0, .int .u64 0, .int .u64 0, .int .u64 0, .int .u64 0, .int .u64 0] 31)) = .ok (.agg #[.int .i64 a, .int .i64 b, encStr s]) (W3.alloc (.cells #[.int .u64 0, .int .u64 0, .int .u64 0, .int .u64 0, .int .u64 0, .int .u64 0, .int .u64 0, .int .u64 0] 31))) := show _ = _ by
    rw [hW]
    exact B1.out.load (tt := 49) Tryz.underlying49 rfl (by kernel_rfl)
  have HW4 := Lib.hid hW
  clear hW
  go_wp2_with (first | (refine ndList_store rfl 31 _ _ rfl _ _ rfl rfl HST.out ?_) | (refine ndList_load rfl 49 _ rfl _ _ rfl HLD.out ?_))
  clear HST HLD
  rw [HW4.out]
  clear HW4
  refine (HP1.out.rr _).mono ?_
  rintro e W5 ⟨rfl, hbn⟩
  have hb : True := trivial
  have B0' := Lib.hid (B0.out.below hbn B0.out.lt)
  clear B0
  have B0 := B0'
  clear B0'
  have B1' := Lib.hid (B1.out.below hbn B1.out.lt)
  clear B1
  have B1 := B1'
  clear B1'
  have C0' := Lib.hid (C0.out.below hbn C0.out.lt)
  clear C0
  have C0 := C0'
  clear C0'
  have C1' := Lib.hid (C1.out.below hbn C1.out.lt)
  clear C1
  have C1 := C1'
  clear C1'
  have D' := Lib.hid (D.out.below hbn D.out.lt)
  clear D
  have D := D'
  clear D'
  have HB5 := Lib.hid (HB4.out.trans (hbn.mono HB4.out.size))
  have HT5 : Hid (Tabs W5) := show Tabs _ from HT4.out.below hbn HT4.out.room
  clear hb hbn HB4 HT4
  cases o1
  · go_wp2_with fail
    have HLA0 : Hid (∀ V, Below W5.heap.size W5 V → (Instr.loadAt 31 (.pointer (some ⟨v0.heap.size, 0, none⟩))).run Tryz.prog V = .ok (.agg A0) V) := show ∀ V, _ from fun V hV => (C0.out.below hV C0.out.lt).load (tt := 31) Tryz.underlying31 rfl (by rw [HP0.out.s1]; kernel_rfl)
    have HLM : Hid (∀ V, Below W5.heap.size W5 V → (Instr.loadAt 47 (.pointer (some ⟨w.heap.size, 0, none⟩))).run Tryz.prog V = .ok (.agg M) V) := show ∀ V, _ from fun V hV => (B0.out.below hV B0.out.lt).load (tt := 47) Tryz.underlying47 rfl (by rw [HMS.out]; kernel_rfl)
    have HLA1 : Hid (∀ V, Below W5.heap.size W5 V → (Instr.loadAt 31 (.pointer (some ⟨v2.heap.size, 0, none⟩))).run Tryz.prog V = .ok (.agg A1) V) := show ∀ V, _ from fun V hV => (C1.out.below hV C1.out.lt).load (tt := 31) Tryz.underlying31 rfl (by rw [HP1.out.s1]; kernel_rfl)
    have HLE : Hid (∀ V, Below W5.heap.size W5 V → (Instr.loadAt 49 (.pointer (some ⟨w.heap.size + 1, 0, none⟩))).run Tryz.prog V = .ok (.agg #[.int .i64 a, .int .i64 b, encStr s]) V) := show ∀ V, _ from fun V hV => (B1.out.below hV B1.out.lt).load (tt := 49) Tryz.underlying49 rfl (by kernel_rfl)
    have HLW : Hid (∀ V, Below W5.heap.size W5 V → (Instr.loadAt 31 (.pointer (some ⟨W3.heap.size, 0, none⟩))).run Tryz.prog V = .ok (.agg (lnA zeros8)) V) := show ∀ V, _ from fun V hV => (D.out.below hV D.out.lt).load (tt := 31) Tryz.underlying31 rfl (by kernel_rfl)
    have hR : Below W5.heap.size W5 W5.drew := Below.drew (Below.refl _ _)
    refine wp_region_M 18 (fun V : World => Below W5.heap.size W5 V) (by kernel_rfl) ?_
    (refine wpAnyM_take (i := 0) (v := _) rfl (by kernel_rfl) (by kernel_rfl) (fun _ _ _ h => h) (Or.inl ⟨by rfl, fun w hSw => nd_exec_load rfl rfl (HLA0.out w hSw)⟩) hR ?_; (try simp only [put_laws]))
    (refine wpAnyM_take (i := 1) (v := _) rfl (by kernel_rfl) (by kernel_rfl) (fun _ _ _ h => h) (Or.inl ⟨by rfl, fun w hSw => nd_exec_load rfl rfl (HLM.out w hSw)⟩) hR ?_; (try simp only [put_laws]))
    (refine wpAnyM_take (i := 3) (v := ?_) rfl (by kernel_rfl) (by kernel_rfl) (fun _ _ _ h => h) (Or.inl ⟨by rfl, ?_⟩) hR ?_; rotate_left; (focus (intro w hSw; (try dsimp only at hSw); go_simp; (try with_reducible rfl))); (try simp only [put_laws]))
    (refine wpAnyM_take (i := 4) (v := _) rfl (by kernel_rfl) (by kernel_rfl) (fun _ _ _ h => h) (Or.inl ⟨by rfl, fun w hSw => nd_exec_load rfl rfl (HLM.out w hSw)⟩) hR ?_; (try simp only [put_laws]))
    (refine wpAnyM_one (i := 2) rfl (by kernel_rfl) (fun K hK => ?_); rw [if_pos (by rfl)]; (try simp only [elem_laws]))
    go_simp
    refine (HP0.out.rp _).mono ?_
    rintro e x0 ⟨rfl, hb⟩
    have hR' : Below W5.heap.size W5 x0 := hR.trans (hb.mono hR.size)
    refine hK _ _ (fun _ => hR') ?_
    clear hK K hR hb
    have hR := hR'
    clear hR'
    (try simp only [put_laws])
    (refine wpAnyM_one (i := 5) rfl (by kernel_rfl) (fun K hK => ?_); rw [if_pos (by rfl)]; (try simp only [elem_laws]))
    go_simp
    refine (HP0.out.rr _).mono ?_
    rintro e x1 ⟨rfl, hb⟩
    have hR' : Below W5.heap.size W5 x1 := hR.trans (hb.mono hR.size)
    refine hK _ _ (fun _ => hR') ?_
    clear hK K hR hb
    have hR := hR'
    clear hR'
    (try simp only [put_laws])
    (refine wpAnyM_one (i := 6) rfl (by kernel_rfl) (fun K hK => ?_); rw [if_pos (by rfl)]; (try simp only [elem_laws]))
    go_simp
    refine (HP0.out.qt _).mono ?_
    rintro e x2 ⟨rfl, hb⟩
    have hR' : Below W5.heap.size W5 x2 := hR.trans (hb.mono hR.size)
    refine hK _ _ (fun _ => hR') ?_
    clear hK K hR hb
    have hR := hR'
    clear hR'
    (try simp only [put_laws])
    (refine wpAnyM_take (i := 7) (v := ?_) rfl (by kernel_rfl) (by kernel_rfl) (fun _ _ _ h => h) (Or.inl ⟨by rfl, ?_⟩) hR ?_; rotate_left; (focus (intro w hSw; (try dsimp only at hSw); go_simp; (try with_reducible rfl))); (try simp only [put_laws]))
    (refine wpAnyM_take (i := 8) (v := _) rfl (by kernel_rfl) (by kernel_rfl) (fun _ _ _ h => h) (Or.inl ⟨by rfl, fun w hSw => nd_exec_load rfl rfl (HLA1.out w hSw)⟩) hR ?_; (try simp only [put_laws]))
    (refine wpAnyM_take (i := 9) (v := _) rfl (by kernel_rfl) (by kernel_rfl) (fun _ _ _ h => h) (Or.inl ⟨by rfl, fun w hSw => nd_exec_load rfl rfl (HLW.out w hSw)⟩) hR ?_; (try simp only [put_laws]))
    (refine wpAnyM_take (i := 10) (v := ?_) rfl (by kernel_rfl) (by kernel_rfl) (fun _ _ _ h => h) (Or.inl ⟨by rfl, ?_⟩) hR ?_; rotate_left; (focus (intro w hSw; (try dsimp only at hSw); go_simp; (try with_reducible rfl))); (try simp only [put_laws]))
    (refine wpAnyM_take (i := 11) (v := _) rfl (by kernel_rfl) (by kernel_rfl) (fun _ _ _ h => h) (Or.inl ⟨by rfl, fun w hSw => nd_exec_load rfl rfl (HLE.out w hSw)⟩) hR ?_; (try simp only [put_laws]))
    (refine wpAnyM_one (i := 12) rfl (by kernel_rfl) (fun K hK => ?_); rw [if_pos (by rfl)]; (try simp only [elem_laws]))
    go_simp
    refine (HP1.out.rr _).mono ?_
    rintro e x3 ⟨rfl, hb⟩
    have hR' : Below W5.heap.size W5 x3 := hR.trans (hb.mono hR.size)
    refine hK _ _ (fun _ => hR') ?_
    clear hK K hR hb
    have hR := hR'
    clear hR'
    (try simp only [put_laws])
    (refine wpAnyM_one (i := 13) rfl (by kernel_rfl) (fun K hK => ?_); rw [if_pos (by rfl)]; (try simp only [elem_laws]))
    go_simp
    refine (HP1.out.qt _).mono ?_
    rintro e x4 ⟨rfl, hb⟩
    have hR' : Below W5.heap.size W5 x4 := hR.trans (hb.mono hR.size)
    refine hK _ _ (fun _ => hR') ?_
    clear hK K hR hb
    have hR := hR'
    clear hR'
    (try simp only [put_laws])
    (refine wpAnyM_take (i := 14) (v := ?_) rfl (by kernel_rfl) (by kernel_rfl) (fun _ _ _ h => h) (Or.inl ⟨by rfl, ?_⟩) hR ?_; rotate_left; (focus (intro w hSw; (try dsimp only at hSw); go_simp; (try with_reducible rfl))); (try simp only [put_laws]))
    (refine wpAnyM_take (i := 15) (v := ?_) rfl (by kernel_rfl) (by kernel_rfl) (fun _ _ _ h => h) (Or.inl ⟨by rfl, ?_⟩) hR ?_; rotate_left; (focus (intro w hSw; (try dsimp only at hSw); go_simp; (try with_reducible rfl))); (try simp only [put_laws]))
    have HTX : Hid (Tabs x4) := show Tabs _ from HT5.out.below hR HT5.out.room
    (refine wpAnyM_one (i := 16) rfl (by kernel_rfl) (fun K hK => ?_); rw [if_pos (by rfl)]; (try simp only [elem_laws]))
    go_simp
    refine (HWK.out _ HTX.out).mono ?_
    rintro e x5 ⟨rfl, hb⟩
    have hR' : Below W5.heap.size W5 x5 := hR.trans (hb.mono hR.size)
    refine hK _ _ (fun _ => hR') ?_
    clear hK K hR hb
    have hR := hR'
    clear hR'
    (try simp only [put_laws])
    (refine wpAnyM_take (i := 17) (v := ?_) rfl (by kernel_rfl) (by kernel_rfl) (fun _ _ _ h => h) (Or.inl ⟨by rfl, ?_⟩) hR ?_; rotate_left; (focus (intro w hSw; (try dsimp only at hSw); go_simp; (try with_reducible rfl))); (try simp only [put_laws]))
    (refine wpAnyM_last rfl (by kernel_rfl) (fun K hK => ?_); rw [if_pos (by rfl)]; (try simp only [elem_laws]))
    go_simp
    have HRX := Lib.hid (HB5.out.trans (hR.mono HB5.out.size))
    clear hR
    refine hK _ _ ?_
    clear hK K
    (try simp only [put_laws])
    refine wpAnyM_done (by kernel_rfl) ?_ _
    go_wp2_with fail
    go_ret
    exact ⟨rfl, HRX.out⟩
  · have HRP := Lib.hid (HP1.out.rp rfl)
    have HLD : Hid ((Instr.loadAt 49 (.pointer (some ⟨w.heap.size + 1, 0, none⟩))).run Tryz.prog W5 = .ok (.agg #[.int .i64 a, .int .i64 b, encStr s]) W5) := show _ = _ from B1.out.load (tt := 49) Tryz.underlying49 rfl (by kernel_rfl)
    go_wp2_with (first | (refine ndList_load rfl 49 _ rfl _ _ rfl HLD.out ?_))
    clear HLD
    refine (HRP.out _).mono ?_
    rintro e W6 ⟨rfl, hbn⟩
    have hb : True := trivial
    have B0' := Lib.hid (B0.out.below hbn B0.out.lt)
    clear B0
    have B0 := B0'
    clear B0'
    have B1' := Lib.hid (B1.out.below hbn B1.out.lt)
    clear B1
    have B1 := B1'
    clear B1'
    have C0' := Lib.hid (C0.out.below hbn C0.out.lt)
    clear C0
    have C0 := C0'
    clear C0'
    have C1' := Lib.hid (C1.out.below hbn C1.out.lt)
    clear C1
    have C1 := C1'
    clear C1'
    have D' := Lib.hid (D.out.below hbn D.out.lt)
    clear D
    have D := D'
    clear D'
    have HB6 := Lib.hid (HB5.out.trans (hbn.mono HB5.out.size))
    have HT6 : Hid (Tabs W6) := show Tabs _ from HT5.out.below hbn HT5.out.room
    clear hb hbn HB5 HT5
    have HDL := Lib.hid D.out.lt
    obtain ⟨W7, hs, hx7, ht7⟩ := D.out.store (tt := 31) (P := Tryz.prog) (Y := R1) (by rw [HP1.out.s2]; kernel_rfl) (by rw [HP1.out.s2]; rfl) HP1.out.o2
    have HST := Lib.hid hs
    have D' := Lib.hid hx7
    have q0 : ∀ b t X, Blk W6 b t X → b ≠ W3.heap.size → Blk W7 b t X := fun b t X h hne => h.turn ht7 hne
    have hne := HNE.out
    have B0' := Lib.hid (q0 _ _ _ B0.out hne.1)
    clear B0
    have B0 := B0'
    clear B0'
    have B1' := Lib.hid (q0 _ _ _ B1.out hne.2.1)
    clear B1
    have B1 := B1'
    clear B1'
    have C0' := Lib.hid (q0 _ _ _ C0.out hne.2.2.1)
    clear C0
    have C0 := C0'
    clear C0'
    have C1' := Lib.hid (q0 _ _ _ C1.out hne.2.2.2)
    clear C1
    have C1 := C1'
    clear C1'
    clear D
    have D := D'
    clear D'
    have HB7 := Lib.hid (HB6.out.trans (ht7.below (B := w.heap.size) (fun k h => by have := HNL.out; omega) HB6.out.size))
    have HT7 : Hid (Tabs W7) := show Tabs _ from HT6.out.below (ht7.below (B := W3.heap.size) (fun k h => by omega) (Nat.le_of_lt HDL.out)) HNG.out
    clear hs hx7 ht7 q0 hne HB6 HT6
    go_wp2_with (first | (refine ndList_store rfl 31 _ _ rfl _ _ rfl rfl HST.out ?_))
    clear HST
    have HLA0 : Hid (∀ V, Below W7.heap.size W7 V → (Instr.loadAt 31 (.pointer (some ⟨v0.heap.size, 0, none⟩))).run Tryz.prog V = .ok (.agg A0) V) := show ∀ V, _ from fun V hV => (C0.out.below hV C0.out.lt).load (tt := 31) Tryz.underlying31 rfl (by rw [HP0.out.s1]; kernel_rfl)
    have HLM : Hid (∀ V, Below W7.heap.size W7 V → (Instr.loadAt 47 (.pointer (some ⟨w.heap.size, 0, none⟩))).run Tryz.prog V = .ok (.agg M) V) := show ∀ V, _ from fun V hV => (B0.out.below hV B0.out.lt).load (tt := 47) Tryz.underlying47 rfl (by rw [HMS.out]; kernel_rfl)
    have HLA1 : Hid (∀ V, Below W7.heap.size W7 V → (Instr.loadAt 31 (.pointer (some ⟨v2.heap.size, 0, none⟩))).run Tryz.prog V = .ok (.agg A1) V) := show ∀ V, _ from fun V hV => (C1.out.below hV C1.out.lt).load (tt := 31) Tryz.underlying31 rfl (by rw [HP1.out.s1]; kernel_rfl)
    have HLE : Hid (∀ V, Below W7.heap.size W7 V → (Instr.loadAt 49 (.pointer (some ⟨w.heap.size + 1, 0, none⟩))).run Tryz.prog V = .ok (.agg #[.int .i64 a, .int .i64 b, encStr s]) V) := show ∀ V, _ from fun V hV => (B1.out.below hV B1.out.lt).load (tt := 49) Tryz.underlying49 rfl (by kernel_rfl)
    have HLW : Hid (∀ V, Below W7.heap.size W7 V → (Instr.loadAt 31 (.pointer (some ⟨W3.heap.size, 0, none⟩))).run Tryz.prog V = .ok (.agg R1) V) := show ∀ V, _ from fun V hV => (D.out.below hV D.out.lt).load (tt := 31) Tryz.underlying31 rfl (by rw [HP1.out.s2]; kernel_rfl)
    have hR : Below W7.heap.size W7 W7.drew := Below.drew (Below.refl _ _)
    refine wp_region_M 18 (fun V : World => Below W7.heap.size W7 V) (by kernel_rfl) ?_
    (refine wpAnyM_take (i := 0) (v := _) rfl (by kernel_rfl) (by kernel_rfl) (fun _ _ _ h => h) (Or.inl ⟨by rfl, fun w hSw => nd_exec_load rfl rfl (HLA0.out w hSw)⟩) hR ?_; (try simp only [put_laws]))
    (refine wpAnyM_take (i := 1) (v := _) rfl (by kernel_rfl) (by kernel_rfl) (fun _ _ _ h => h) (Or.inl ⟨by rfl, fun w hSw => nd_exec_load rfl rfl (HLM.out w hSw)⟩) hR ?_; (try simp only [put_laws]))
    (refine wpAnyM_take (i := 3) (v := ?_) rfl (by kernel_rfl) (by kernel_rfl) (fun _ _ _ h => h) (Or.inl ⟨by rfl, ?_⟩) hR ?_; rotate_left; (focus (intro w hSw; (try dsimp only at hSw); go_simp; (try with_reducible rfl))); (try simp only [put_laws]))
    (refine wpAnyM_take (i := 4) (v := _) rfl (by kernel_rfl) (by kernel_rfl) (fun _ _ _ h => h) (Or.inl ⟨by rfl, fun w hSw => nd_exec_load rfl rfl (HLM.out w hSw)⟩) hR ?_; (try simp only [put_laws]))
    (refine wpAnyM_one (i := 2) rfl (by kernel_rfl) (fun K hK => ?_); rw [if_pos (by rfl)]; (try simp only [elem_laws]))
    go_simp
    refine (HP0.out.rp _).mono ?_
    rintro e x0 ⟨rfl, hb⟩
    have hR' : Below W7.heap.size W7 x0 := hR.trans (hb.mono hR.size)
    refine hK _ _ (fun _ => hR') ?_
    clear hK K hR hb
    have hR := hR'
    clear hR'
    (try simp only [put_laws])
    (refine wpAnyM_one (i := 5) rfl (by kernel_rfl) (fun K hK => ?_); rw [if_pos (by rfl)]; (try simp only [elem_laws]))
    go_simp
    refine (HP0.out.rr _).mono ?_
    rintro e x1 ⟨rfl, hb⟩
    have hR' : Below W7.heap.size W7 x1 := hR.trans (hb.mono hR.size)
    refine hK _ _ (fun _ => hR') ?_
    clear hK K hR hb
    have hR := hR'
    clear hR'
    (try simp only [put_laws])
    (refine wpAnyM_one (i := 6) rfl (by kernel_rfl) (fun K hK => ?_); rw [if_pos (by rfl)]; (try simp only [elem_laws]))
    go_simp
    refine (HP0.out.qt _).mono ?_
    rintro e x2 ⟨rfl, hb⟩
    have hR' : Below W7.heap.size W7 x2 := hR.trans (hb.mono hR.size)
    refine hK _ _ (fun _ => hR') ?_
    clear hK K hR hb
    have hR := hR'
    clear hR'
    (try simp only [put_laws])
    (refine wpAnyM_take (i := 7) (v := ?_) rfl (by kernel_rfl) (by kernel_rfl) (fun _ _ _ h => h) (Or.inl ⟨by rfl, ?_⟩) hR ?_; rotate_left; (focus (intro w hSw; (try dsimp only at hSw); go_simp; (try with_reducible rfl))); (try simp only [put_laws]))
    (refine wpAnyM_take (i := 8) (v := _) rfl (by kernel_rfl) (by kernel_rfl) (fun _ _ _ h => h) (Or.inl ⟨by rfl, fun w hSw => nd_exec_load rfl rfl (HLA1.out w hSw)⟩) hR ?_; (try simp only [put_laws]))
    (refine wpAnyM_take (i := 9) (v := _) rfl (by kernel_rfl) (by kernel_rfl) (fun _ _ _ h => h) (Or.inl ⟨by rfl, fun w hSw => nd_exec_load rfl rfl (HLW.out w hSw)⟩) hR ?_; (try simp only [put_laws]))
    (refine wpAnyM_take (i := 10) (v := ?_) rfl (by kernel_rfl) (by kernel_rfl) (fun _ _ _ h => h) (Or.inl ⟨by rfl, ?_⟩) hR ?_; rotate_left; (focus (intro w hSw; (try dsimp only at hSw); go_simp; (try with_reducible rfl))); (try simp only [put_laws]))
    (refine wpAnyM_take (i := 11) (v := _) rfl (by kernel_rfl) (by kernel_rfl) (fun _ _ _ h => h) (Or.inl ⟨by rfl, fun w hSw => nd_exec_load rfl rfl (HLE.out w hSw)⟩) hR ?_; (try simp only [put_laws]))
    (refine wpAnyM_one (i := 12) rfl (by kernel_rfl) (fun K hK => ?_); rw [if_pos (by rfl)]; (try simp only [elem_laws]))
    go_simp
    refine (HP1.out.rr _).mono ?_
    rintro e x3 ⟨rfl, hb⟩
    have hR' : Below W7.heap.size W7 x3 := hR.trans (hb.mono hR.size)
    refine hK _ _ (fun _ => hR') ?_
    clear hK K hR hb
    have hR := hR'
    clear hR'
    (try simp only [put_laws])
    (refine wpAnyM_one (i := 13) rfl (by kernel_rfl) (fun K hK => ?_); rw [if_pos (by rfl)]; (try simp only [elem_laws]))
    go_simp
    refine (HP1.out.qt _).mono ?_
    rintro e x4 ⟨rfl, hb⟩
    have hR' : Below W7.heap.size W7 x4 := hR.trans (hb.mono hR.size)
    refine hK _ _ (fun _ => hR') ?_
    clear hK K hR hb
    have hR := hR'
    clear hR'
    (try simp only [put_laws])
    (refine wpAnyM_take (i := 14) (v := ?_) rfl (by kernel_rfl) (by kernel_rfl) (fun _ _ _ h => h) (Or.inl ⟨by rfl, ?_⟩) hR ?_; rotate_left; (focus (intro w hSw; (try dsimp only at hSw); go_simp; (try with_reducible rfl))); (try simp only [put_laws]))
    (refine wpAnyM_take (i := 15) (v := ?_) rfl (by kernel_rfl) (by kernel_rfl) (fun _ _ _ h => h) (Or.inl ⟨by rfl, ?_⟩) hR ?_; rotate_left; (focus (intro w hSw; (try dsimp only at hSw); go_simp; (try with_reducible rfl))); (try simp only [put_laws]))
    have HTX : Hid (Tabs x4) := show Tabs _ from HT7.out.below hR HT7.out.room
    (refine wpAnyM_one (i := 16) rfl (by kernel_rfl) (fun K hK => ?_); rw [if_pos (by rfl)]; (try simp only [elem_laws]))
    go_simp
    refine (HWK.out _ HTX.out).mono ?_
    rintro e x5 ⟨rfl, hb⟩
    have hR' : Below W7.heap.size W7 x5 := hR.trans (hb.mono hR.size)
    refine hK _ _ (fun _ => hR') ?_
    clear hK K hR hb
    have hR := hR'
    clear hR'
    (try simp only [put_laws])
    (refine wpAnyM_take (i := 17) (v := ?_) rfl (by kernel_rfl) (by kernel_rfl) (fun _ _ _ h => h) (Or.inl ⟨by rfl, ?_⟩) hR ?_; rotate_left; (focus (intro w hSw; (try dsimp only at hSw); go_simp; (try with_reducible rfl))); (try simp only [put_laws]))
    (refine wpAnyM_last rfl (by kernel_rfl) (fun K hK => ?_); rw [if_pos (by rfl)]; (try simp only [elem_laws]))
    go_simp
    have HRX := Lib.hid (HB7.out.trans (hR.mono HB7.out.size))
    clear hR
    refine hK _ _ ?_
    clear hK K
    (try simp only [put_laws])
    refine wpAnyM_done (by kernel_rfl) ?_ _
    go_wp2_with fail
    go_ret
    exact ⟨rfl, HRX.out⟩
end Go.Proofs.YtfdnlgmgjmbafaaGreatDoor
