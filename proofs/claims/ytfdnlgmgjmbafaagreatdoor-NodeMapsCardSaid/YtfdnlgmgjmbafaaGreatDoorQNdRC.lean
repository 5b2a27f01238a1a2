/-
  The law NodePuts: its walk. Written by gen_ndp.py.
-/
import Derived.Test.YtfdnlgmgjmbafaaGreatDoorQNdRB
import Derived.Test.YtfdnlgmgjmbafaaGreatDoorMh20
namespace Go.Proofs.YtfdnlgmgjmbafaaGreatDoor
open Go.RowKit Go.Shelf
attribute [local go_sem] Oper.semAt_some

/-- What is put, and the document's answer. -/
structure PutP (F Fp Fr : FuncId) (x A R : Array Value) (o : Bool) (e : Int) : Prop where
  pu : ∀ V, Tabs V → Calls Tryz.prog F #[.agg x] V fun r w' => r = .returned (.tuple #[.agg A, .int .i64 e]) ∧ Below V.heap.size V w'
  rp : ∀ V, Calls Tryz.prog Fp #[.agg x] V fun r w' => r = .returned (.agg R) ∧ Below V.heap.size V w'
  rr : ∀ V, Calls Tryz.prog Fr #[.agg x] V fun r w' => r = .returned (.bool o) ∧ Below V.heap.size V w'
  qt : ∀ V, Calls Tryz.prog 10 #[.agg A, .agg R, .int .i64 e, .bool o] V fun r w' => r = .returned (.bool true) ∧ Below V.heap.size V w'
  s1 : A.size = 8
  o1 : A.all (·.oneCell') = true
theorem put_true (L : List NdS) (x : Array Value) (R : List Int) (h : okSp L x = true → wrSp L x zeros8 = R) : (if okSp L x = true then putSp L x == R && putSpE L x == 0 else putSp L x == zeros8 && putSpE L x == 2) = true := by
  unfold putSp putSpE
  cases ho : okSp L x
  · simp
  · simp [h ho]
theorem calls_line {f : FuncId} {ar : Array Value} {w : World} {p : Prop} {v : Value} {R : World → Prop} (h : Calls Tryz.prog f ar w fun e w' => e = .returned v ∧ p ∧ R w') : p := by
  obtain ⟨e, w', fr, h, -⟩ := h []
  exact h.2.1
theorem line_mod {l : List Int} (hl : l.length = 8) (h : ∀ x ∈ l, 0 ≤ x ∧ x < 18446744073709551616) : Line8 l := ⟨hl, h⟩
theorem mod_in (a : Int) : 0 ≤ a % 18446744073709551616 ∧ a % 18446744073709551616 < 18446744073709551616 := by omega
theorem putP_super (a b : Int) (ha : -9223372036854775808 ≤ a ∧ a < 9223372036854775808) (hb : -9223372036854775808 ≤ b ∧ b < 9223372036854775808) (w : World) (ht : Tabs w) :
    ∃ A R o e, PutP 7 11 12 #[.int .i64 a, .int .i64 b] A R o e := by
  have hl := calls_line (putSuper_any a b ha hb w ht)
  have hR : Line8 [magicW, a % 18446744073709551616, b % 18446744073709551616, 0, 0, 0, 0, 0] := ⟨rfl, fun x hx => by
    have h1 := mod_in a
    have h2 := mod_in b
    simp only [List.mem_cons, List.not_mem_nil, or_false] at hx
    rcases hx with rfl | rfl | rfl | rfl | rfl | rfl | rfl | rfl
    · decide
    all_goals omega⟩
  refine ⟨lnA (putSp superSpecs #[.int .i64 a, .int .i64 b]), lnA [magicW, a % 18446744073709551616, b % 18446744073709551616, 0, 0, 0, 0, 0], okSp superSpecs #[.int .i64 a, .int .i64 b], putSpE superSpecs #[.int .i64 a, .int .i64 b],
    fun V hV => (putSuper_any a b ha hb V hV).mono fun e w' h => ⟨h.1, h.2.2⟩, fun V => refPutSuper_any a b V, fun V => refRightSuper_any a b V, fun V => ?_, by rw [lnA_size, hl.1], lnA_one _⟩
  have h := put8_any _ _ (putSpE superSpecs #[.int .i64 a, .int .i64 b]) (okSp superSpecs #[.int .i64 a, .int .i64 b]) hl hR V
  rw [put_true superSpecs _ [magicW, a % 18446744073709551616, b % 18446744073709551616, 0, 0, 0, 0, 0] (fun _ => rfl)] at h
  exact h
theorem putP_inode (k m t : Int) (hx : GoodI 3 #[.int .i64 k, .int .i64 m, .int .i64 t]) (w : World) (ht : Tabs w) :
    ∃ A R o e, PutP 8 13 14 #[.int .i64 k, .int .i64 m, .int .i64 t] A R o e := by
  have hl := calls_line (putInode_any _ hx w ht)
  have hR : Line8 [IntKind.u64.wrap (IntKind.u64.wrap k + IntKind.u64.wrap (256 * IntKind.u64.wrap m)), t % 18446744073709551616, 0, 0, 0, 0, 0, 0] := ⟨rfl, fun x hx => by
    have h1 := mod_in t
    have h2 : 0 ≤ IntKind.u64.wrap (IntKind.u64.wrap k + IntKind.u64.wrap (256 * IntKind.u64.wrap m)) ∧ IntKind.u64.wrap (IntKind.u64.wrap k + IntKind.u64.wrap (256 * IntKind.u64.wrap m)) < 18446744073709551616 := mod_in _
    simp only [List.mem_cons, List.not_mem_nil, or_false] at hx
    rcases hx with rfl | rfl | rfl | rfl | rfl | rfl | rfl | rfl
    · exact h2
    all_goals omega⟩
  refine ⟨lnA (putSp inodeSpecs #[.int .i64 k, .int .i64 m, .int .i64 t]), lnA [IntKind.u64.wrap (IntKind.u64.wrap k + IntKind.u64.wrap (256 * IntKind.u64.wrap m)), t % 18446744073709551616, 0, 0, 0, 0, 0, 0], okSp inodeSpecs #[.int .i64 k, .int .i64 m, .int .i64 t], putSpE inodeSpecs #[.int .i64 k, .int .i64 m, .int .i64 t],
    fun V hV => (putInode_any _ hx V hV).mono fun e w' h => ⟨h.1, h.2.2⟩, fun V => refPutInode_any k m t V, fun V => refRightInode_any k m t V, fun V => ?_, by rw [lnA_size, hl.1], lnA_one _⟩
  have h := put8_any _ _ (putSpE inodeSpecs #[.int .i64 k, .int .i64 m, .int .i64 t]) (okSp inodeSpecs #[.int .i64 k, .int .i64 m, .int .i64 t]) hl hR V
  rw [put_true inodeSpecs _ _ (fun ho => ?_)] at h
  · exact h
  · simp only [okSp, inodeSpecs, List.all_cons, List.all_nil, Bool.and_true, Bool.and_eq_true] at ho
    obtain ⟨x, y, hx, hy, g1, g2, g3, g4⟩ := headOk_nat (show headOk k m = true from ho.1)
    have e1 : IntKind.u64.wrap (IntKind.u64.wrap k + IntKind.u64.wrap (256 * IntKind.u64.wrap m)) = k + 256 * m := by
      show (k % 18446744073709551616 + (256 * (m % 18446744073709551616)) % 18446744073709551616) % 18446744073709551616 = _
      omega
    rw [e1]
    rfl
theorem tabLine_line (l : List Int) (k : Nat) : Line8 (tabLine l k) := ⟨tabLine_len l k, fun x hx => by
  unfold tabLine at hx
  obtain ⟨j, -, rfl⟩ := List.mem_map.1 hx
  split
  · exact mod_in _
  · decide⟩
theorem putP_table (l : List Int) (hl7 : l.length = 7) (hx : GoodI 7 (ints l)) (w : World) (ht : Tabs w) :
    ∃ A R o e, PutP 9 15 16 (ints l) A R o e := by
  have hl := calls_line (putTable_any _ hx w ht)
  refine ⟨lnA (putSp tableSpecs (ints l)), lnA (tabLine l 7), okSp tableSpecs (ints l), putSpE tableSpecs (ints l),
    fun V hV => (putTable_any _ hx V hV).mono fun e w' h => ⟨h.1, h.2.2⟩, fun V => refPutTable_any l hl7 V, fun V => refRightTable_any l hl7 V, fun V => ?_, by rw [lnA_size, hl.1], lnA_one _⟩
  have h := put8_any _ _ (putSpE tableSpecs (ints l)) (okSp tableSpecs (ints l)) hl (tabLine_line l 7) V
  rw [put_true tableSpecs _ _ (fun _ => tab_put l hl7)] at h
  exact h
set_option maxRecDepth 100000 in
set_option maxHeartbeats 40000000 in
theorem puts8_any (a b k m t : Int) (l : List Int) (ha : -9223372036854775808 ≤ a ∧ a < 9223372036854775808) (hb : -9223372036854775808 ≤ b ∧ b < 9223372036854775808) (hx : GoodI 3 #[.int .i64 k, .int .i64 m, .int .i64 t]) (hl7 : l.length = 7) (hy : GoodI 7 (ints l)) (w : World) (ht : Tabs w) :
    Calls Tryz.prog 3 #[.agg #[.int .i64 a, .int .i64 b], .agg #[.int .i64 k, .int .i64 m, .int .i64 t], .agg (ints l)] w fun e w' => e = .returned (.bool true) ∧ Below w.heap.size w w' := by
  have HWK := Lib.hid works8_any
  obtain ⟨A0, R0, o0, e0, hp0⟩ := putP_super a b ha hb w ht
  obtain ⟨A1, R1, o1, e1, hp1⟩ := putP_inode k m t hx w ht
  obtain ⟨A2, R2, o2, e2, hp2⟩ := putP_table l hl7 hy w ht
  obtain ⟨T, hT⟩ : ∃ T, ints l = T := ⟨_, rfl⟩
  have HTS : Hid (T.size = 7) := show _ = _ by rw [← hT]; simp [ints, hl7]
  rw [hT] at hp2 ⊢
  have HP0 := Lib.hid hp0
  have HP1 := Lib.hid hp1
  have HP2 := Lib.hid hp2
  obtain ⟨W0, hW0⟩ : ∃ W0, ((w.alloc (.cells #[.int .i64 a, .int .i64 b] 23)).alloc (.cells #[.int .i64 k, .int .i64 m, .int .i64 t] 26)).alloc (.cells T 29) = W0 := ⟨_, rfl⟩
  have hb0 : Below w.heap.size w W0 := by rw [← hW0]; exact (by repeat (first | exact Below.refl _ _ | assumption | refine Below.drew ?_ | refine below_drewN ?_ _ | refine Below.alloc ?_ (by (try simp) <;> omega) _ | refine Below.setCell ?_ (by (try simp) <;> omega) _ | refine Below.trans ?_ (Below.mono (by assumption) (by (try simp) <;> omega))))
  have b0 : Blk W0 w.heap.size 23 #[.int .i64 a, .int .i64 b] := by
    rw [← hW0]
    exact (Blk.new w _ _).below (n := w.heap.size + 1) (((Below.refl _ _).alloc (by (try simp) <;> omega) _).alloc (by (try simp) <;> omega) _) (by omega)
  have b1 : Blk W0 (w.heap.size + 1) 26 #[.int .i64 k, .int .i64 m, .int .i64 t] := by
    rw [← hW0]
    have := Blk.new (w.alloc (.cells #[.int .i64 a, .int .i64 b] 23)) 26 #[.int .i64 k, .int .i64 m, .int .i64 t]
    rw [World.size_alloc] at this
    exact this.below (n := w.heap.size + 1 + 1) ((Below.refl _ _).alloc (by (try simp) <;> omega) _) (by omega)
  have b2 : Blk W0 (w.heap.size + 1 + 1) 29 T := by
    rw [← hW0]
    have := Blk.new ((w.alloc (.cells #[.int .i64 a, .int .i64 b] 23)).alloc (.cells #[.int .i64 k, .int .i64 m, .int .i64 t] 26)) 29 T
    rw [World.size_alloc, World.size_alloc] at this
    exact this
  have B0 := Lib.hid b0
  have B1 := Lib.hid b1
  have B2 := Lib.hid b2
  have HB0 := Lib.hid hb0
  have HT0 : Hid (Tabs W0) := show Tabs _ from ht.below hb0 ht.room
  have HW0 := Lib.hid hW0
  have HLD : Hid ((Instr.loadAt 23 (.pointer (some ⟨w.heap.size, 0, none⟩))).run Tryz.prog (((w.alloc (.cells #[.int .i64 a, .int .i64 b] 23)).alloc (.cells #[.int .i64 k, .int .i64 m, .int .i64 t] 26)).alloc (.cells T 29)) = .ok (.agg #[.int .i64 a, .int .i64 b]) (((w.alloc (.cells #[.int .i64 a, .int .i64 b] 23)).alloc (.cells #[.int .i64 k, .int .i64 m, .int .i64 t] 26)).alloc (.cells T 29))) := show _ = _ by
    rw [hW0]
    exact b0.load (tt := 23) Tryz.underlying23 rfl (by kernel_rfl)
  clear hp0 hp1 hp2 b0 b1 b2 hb0 ht hT hl7 hx hy ha hb hW0
  go_enter Tryz.func3, Tryz.ntmps3
  go_wp2_with (first | (refine ndList_load rfl 23 _ rfl _ _ rfl HLD.out ?_))
  rw [HW0.out]
  refine (HP0.out.pu _ HT0.out).mono ?_
  rintro e v0 ⟨rfl, hb⟩
  obtain ⟨W1, hW⟩ : ∃ W, v0.alloc (.cells A0 31) = W := ⟨_, rfl⟩
  have hbn : Below W0.heap.size W0 W1 := by rw [← hW]; exact hb.alloc hb.size _
  clear HLD
  have HST : Hid ((Instr.storeAt 31 (.pointer (some ⟨v0.heap.size, 0, none⟩)) (.agg A0)).run Tryz.prog (v0.alloc (.cells #[.int .u64 0, .int .u64 0, .int .u64 0, .int .u64 0, .int .u64 0, .int .u64 0, .int .u64 0, .int .u64 0] 31)) = .ok () W1) := show _ = _ by
    rw [← hW]
    exact run_storeAt_new v0 31 _ A0 (by rw [HP0.out.s1]; kernel_rfl) (by rw [HP0.out.s1]; rfl) HP0.out.o1
  have B0' := Lib.hid (B0.out.below hbn B0.out.lt)
  clear B0
  have B0 := B0'
  clear B0'
  have B1' := Lib.hid (B1.out.below hbn B1.out.lt)
  clear B1
  have B1 := B1'
  clear B1'
  have B2' := Lib.hid (B2.out.below hbn B2.out.lt)
  clear B2
  have B2 := B2'
  clear B2'
  have C0 : Hid (Blk W1 v0.heap.size 31 A0) := show Blk _ _ _ _ by rw [← hW]; exact Blk.new _ _ _
  have HB1 := Lib.hid (HB0.out.trans (hbn.mono HB0.out.size))
  have HT1 : Hid (Tabs W1) := show Tabs _ from HT0.out.below hbn HT0.out.room
  clear hb hbn hW HB0 HT0
  have HLD : Hid ((Instr.loadAt 26 (.pointer (some ⟨w.heap.size + 1, 0, none⟩))).run Tryz.prog W1 = .ok (.agg #[.int .i64 k, .int .i64 m, .int .i64 t]) W1) := show _ = _ from B1.out.load (tt := 26) Tryz.underlying26 rfl (by kernel_rfl)
  go_wp2_with (first | (refine ndList_store rfl 31 _ _ rfl _ _ rfl rfl HST.out ?_) | (refine ndList_load rfl 26 _ rfl _ _ rfl HLD.out ?_))
  refine (HP1.out.pu _ HT1.out).mono ?_
  rintro e v1 ⟨rfl, hb⟩
  obtain ⟨W2, hW⟩ : ∃ W, v1.alloc (.cells A1 31) = W := ⟨_, rfl⟩
  have hbn : Below W1.heap.size W1 W2 := by rw [← hW]; exact hb.alloc hb.size _
  clear HLD HST
  have HST : Hid ((Instr.storeAt 31 (.pointer (some ⟨v1.heap.size, 0, none⟩)) (.agg A1)).run Tryz.prog (v1.alloc (.cells #[.int .u64 0, .int .u64 0, .int .u64 0, .int .u64 0, .int .u64 0, .int .u64 0, .int .u64 0, .int .u64 0] 31)) = .ok () W2) := show _ = _ by
    rw [← hW]
    exact run_storeAt_new v1 31 _ A1 (by rw [HP1.out.s1]; kernel_rfl) (by rw [HP1.out.s1]; rfl) HP1.out.o1
  have B0' := Lib.hid (B0.out.below hbn B0.out.lt)
  clear B0
  have B0 := B0'
  clear B0'
  have B1' := Lib.hid (B1.out.below hbn B1.out.lt)
  clear B1
  have B1 := B1'
  clear B1'
  have B2' := Lib.hid (B2.out.below hbn B2.out.lt)
  clear B2
  have B2 := B2'
  clear B2'
  have C0' := Lib.hid (C0.out.below hbn C0.out.lt)
  clear C0
  have C0 := C0'
  clear C0'
  have C1 : Hid (Blk W2 v1.heap.size 31 A1) := show Blk _ _ _ _ by rw [← hW]; exact Blk.new _ _ _
  have HB2 := Lib.hid (HB1.out.trans (hbn.mono HB1.out.size))
  have HT2 : Hid (Tabs W2) := show Tabs _ from HT1.out.below hbn HT1.out.room
  clear hb hbn hW HB1 HT1
  have HLD : Hid ((Instr.loadAt 29 (.pointer (some ⟨w.heap.size + 1 + 1, 0, none⟩))).run Tryz.prog W2 = .ok (.agg T) W2) := show _ = _ from B2.out.load (tt := 29) Tryz.underlying29 rfl (by rw [HTS.out]; kernel_rfl)
  go_wp2_with (first | (refine ndList_store rfl 31 _ _ rfl _ _ rfl rfl HST.out ?_) | (refine ndList_load rfl 29 _ rfl _ _ rfl HLD.out ?_))
  refine (HP2.out.pu _ HT2.out).mono ?_
  rintro e v2 ⟨rfl, hb⟩
  obtain ⟨W3, hW⟩ : ∃ W, v2.alloc (.cells A2 31) = W := ⟨_, rfl⟩
  have hbn : Below W2.heap.size W2 W3 := by rw [← hW]; exact hb.alloc hb.size _
  clear HLD HST
  have HST : Hid ((Instr.storeAt 31 (.pointer (some ⟨v2.heap.size, 0, none⟩)) (.agg A2)).run Tryz.prog (v2.alloc (.cells #[.int .u64 0, .int .u64 0, .int .u64 0, .int .u64 0, .int .u64 0, .int .u64 0, .int .u64 0, .int .u64 0] 31)) = .ok () W3) := show _ = _ by
    rw [← hW]
    exact run_storeAt_new v2 31 _ A2 (by rw [HP2.out.s1]; kernel_rfl) (by rw [HP2.out.s1]; rfl) HP2.out.o1
  have B0' := Lib.hid (B0.out.below hbn B0.out.lt)
  clear B0
  have B0 := B0'
  clear B0'
  have B1' := Lib.hid (B1.out.below hbn B1.out.lt)
  clear B1
  have B1 := B1'
  clear B1'
  have B2' := Lib.hid (B2.out.below hbn B2.out.lt)
  clear B2
  have B2 := B2'
  clear B2'
  have C0' := Lib.hid (C0.out.below hbn C0.out.lt)
  clear C0
  have C0 := C0'
  clear C0'
  have C1' := Lib.hid (C1.out.below hbn C1.out.lt)
  clear C1
  have C1 := C1'
  clear C1'
  have C2 : Hid (Blk W3 v2.heap.size 31 A2) := show Blk _ _ _ _ by rw [← hW]; exact Blk.new _ _ _
  have HB3 := Lib.hid (HB2.out.trans (hbn.mono HB2.out.size))
  have HT3 : Hid (Tabs W3) := show Tabs _ from HT2.out.below hbn HT2.out.room
  clear hb hbn hW HB2 HT2
  go_wp2_with (first | (refine ndList_store rfl 31 _ _ rfl _ _ rfl rfl HST.out ?_))
  clear HST
  have HLB0 : Hid (∀ V, Below W3.heap.size W3 V → (Instr.loadAt 23 (.pointer (some ⟨w.heap.size, 0, none⟩))).run Tryz.prog V = .ok (.agg #[.int .i64 a, .int .i64 b]) V) := show ∀ V, _ from fun V hV => (B0.out.below hV B0.out.lt).load (tt := 23) Tryz.underlying23 rfl (by kernel_rfl)
  have HLC0 : Hid (∀ V, Below W3.heap.size W3 V → (Instr.loadAt 31 (.pointer (some ⟨v0.heap.size, 0, none⟩))).run Tryz.prog V = .ok (.agg A0) V) := show ∀ V, _ from fun V hV => (C0.out.below hV C0.out.lt).load (tt := 31) Tryz.underlying31 rfl (by rw [HP0.out.s1]; kernel_rfl)
  have HLB1 : Hid (∀ V, Below W3.heap.size W3 V → (Instr.loadAt 26 (.pointer (some ⟨w.heap.size + 1, 0, none⟩))).run Tryz.prog V = .ok (.agg #[.int .i64 k, .int .i64 m, .int .i64 t]) V) := show ∀ V, _ from fun V hV => (B1.out.below hV B1.out.lt).load (tt := 26) Tryz.underlying26 rfl (by kernel_rfl)
  have HLC1 : Hid (∀ V, Below W3.heap.size W3 V → (Instr.loadAt 31 (.pointer (some ⟨v1.heap.size, 0, none⟩))).run Tryz.prog V = .ok (.agg A1) V) := show ∀ V, _ from fun V hV => (C1.out.below hV C1.out.lt).load (tt := 31) Tryz.underlying31 rfl (by rw [HP1.out.s1]; kernel_rfl)
  have HLB2 : Hid (∀ V, Below W3.heap.size W3 V → (Instr.loadAt 29 (.pointer (some ⟨w.heap.size + 1 + 1, 0, none⟩))).run Tryz.prog V = .ok (.agg T) V) := show ∀ V, _ from fun V hV => (B2.out.below hV B2.out.lt).load (tt := 29) Tryz.underlying29 rfl (by rw [HTS.out]; kernel_rfl)
  have HLC2 : Hid (∀ V, Below W3.heap.size W3 V → (Instr.loadAt 31 (.pointer (some ⟨v2.heap.size, 0, none⟩))).run Tryz.prog V = .ok (.agg A2) V) := show ∀ V, _ from fun V hV => (C2.out.below hV C2.out.lt).load (tt := 31) Tryz.underlying31 rfl (by rw [HP2.out.s1]; kernel_rfl)
  have hR : Below W3.heap.size W3 W3.drew := Below.drew (Below.refl _ _)
  refine wp_region_M 28 (fun V : World => Below W3.heap.size W3 V) (by kernel_rfl) ?_
  (refine wpAnyM_take (i := 0) (v := _) rfl (by kernel_rfl) (by kernel_rfl) (fun _ _ _ h => h) (Or.inl ⟨by rfl, fun w hSw => nd_exec_load rfl rfl (HLC0.out w hSw)⟩) hR ?_; (try simp only [put_laws]))
  (refine wpAnyM_take (i := 1) (v := _) rfl (by kernel_rfl) (by kernel_rfl) (fun _ _ _ h => h) (Or.inl ⟨by rfl, fun w hSw => nd_exec_load rfl rfl (HLB0.out w hSw)⟩) hR ?_; (try simp only [put_laws]))
  (refine wpAnyM_take (i := 4) (v := _) rfl (by kernel_rfl) (by kernel_rfl) (fun _ _ _ h => h) (Or.inl ⟨by rfl, fun w hSw => nd_exec_load rfl rfl (HLB0.out w hSw)⟩) hR ?_; (try simp only [put_laws]))
  (refine wpAnyM_take (i := 3) (v := ?_) rfl (by kernel_rfl) (by kernel_rfl) (fun _ _ _ h => h) (Or.inl ⟨by rfl, ?_⟩) hR ?_; rotate_left; (focus (intro w hSw; (try dsimp only at hSw); go_simp; (try with_reducible rfl))); (try simp only [put_laws]))
  (refine wpAnyM_one (i := 2) rfl (by kernel_rfl) (fun K hK => ?_); rw [if_pos (by rfl)]; (try simp only [elem_laws]))
  go_simp
  refine (HP0.out.rp _).mono ?_
  rintro e x0 ⟨rfl, hb⟩
  have hR' : Below W3.heap.size W3 x0 := hR.trans (hb.mono hR.size)
  refine hK _ _ (fun _ => hR') ?_
  clear hK K hR hb
  have hR := hR'
  clear hR'
  (try simp only [put_laws])
  (refine wpAnyM_one (i := 5) rfl (by kernel_rfl) (fun K hK => ?_); rw [if_pos (by rfl)]; (try simp only [elem_laws]))
  go_simp
  refine (HP0.out.rr _).mono ?_
  rintro e x1 ⟨rfl, hb⟩
  have hR' : Below W3.heap.size W3 x1 := hR.trans (hb.mono hR.size)
  refine hK _ _ (fun _ => hR') ?_
  clear hK K hR hb
  have hR := hR'
  clear hR'
  (try simp only [put_laws])
  (refine wpAnyM_one (i := 6) rfl (by kernel_rfl) (fun K hK => ?_); rw [if_pos (by rfl)]; (try simp only [elem_laws]))
  go_simp
  refine (HP0.out.qt _).mono ?_
  rintro e x2 ⟨rfl, hb⟩
  have hR' : Below W3.heap.size W3 x2 := hR.trans (hb.mono hR.size)
  refine hK _ _ (fun _ => hR') ?_
  clear hK K hR hb
  have hR := hR'
  clear hR'
  (try simp only [put_laws])
  (refine wpAnyM_take (i := 7) (v := ?_) rfl (by kernel_rfl) (by kernel_rfl) (fun _ _ _ h => h) (Or.inl ⟨by rfl, ?_⟩) hR ?_; rotate_left; (focus (intro w hSw; (try dsimp only at hSw); go_simp; (try with_reducible rfl))); (try simp only [put_laws]))
  (refine wpAnyM_take (i := 8) (v := _) rfl (by kernel_rfl) (by kernel_rfl) (fun _ _ _ h => h) (Or.inl ⟨by rfl, fun w hSw => nd_exec_load rfl rfl (HLC1.out w hSw)⟩) hR ?_; (try simp only [put_laws]))
  (refine wpAnyM_take (i := 9) (v := _) rfl (by kernel_rfl) (by kernel_rfl) (fun _ _ _ h => h) (Or.inl ⟨by rfl, fun w hSw => nd_exec_load rfl rfl (HLB1.out w hSw)⟩) hR ?_; (try simp only [put_laws]))
  (refine wpAnyM_take (i := 12) (v := _) rfl (by kernel_rfl) (by kernel_rfl) (fun _ _ _ h => h) (Or.inl ⟨by rfl, fun w hSw => nd_exec_load rfl rfl (HLB1.out w hSw)⟩) hR ?_; (try simp only [put_laws]))
  (refine wpAnyM_take (i := 11) (v := ?_) rfl (by kernel_rfl) (by kernel_rfl) (fun _ _ _ h => h) (Or.inl ⟨by rfl, ?_⟩) hR ?_; rotate_left; (focus (intro w hSw; (try dsimp only at hSw); go_simp; (try with_reducible rfl))); (try simp only [put_laws]))
  (refine wpAnyM_one (i := 10) rfl (by kernel_rfl) (fun K hK => ?_); rw [if_pos (by rfl)]; (try simp only [elem_laws]))
  go_simp
  refine (HP1.out.rp _).mono ?_
  rintro e x3 ⟨rfl, hb⟩
  have hR' : Below W3.heap.size W3 x3 := hR.trans (hb.mono hR.size)
  refine hK _ _ (fun _ => hR') ?_
  clear hK K hR hb
  have hR := hR'
  clear hR'
  (try simp only [put_laws])
  (refine wpAnyM_one (i := 13) rfl (by kernel_rfl) (fun K hK => ?_); rw [if_pos (by rfl)]; (try simp only [elem_laws]))
  go_simp
  refine (HP1.out.rr _).mono ?_
  rintro e x4 ⟨rfl, hb⟩
  have hR' : Below W3.heap.size W3 x4 := hR.trans (hb.mono hR.size)
  refine hK _ _ (fun _ => hR') ?_
  clear hK K hR hb
  have hR := hR'
  clear hR'
  (try simp only [put_laws])
  (refine wpAnyM_one (i := 14) rfl (by kernel_rfl) (fun K hK => ?_); rw [if_pos (by rfl)]; (try simp only [elem_laws]))
  go_simp
  refine (HP1.out.qt _).mono ?_
  rintro e x5 ⟨rfl, hb⟩
  have hR' : Below W3.heap.size W3 x5 := hR.trans (hb.mono hR.size)
  refine hK _ _ (fun _ => hR') ?_
  clear hK K hR hb
  have hR := hR'
  clear hR'
  (try simp only [put_laws])
  (refine wpAnyM_take (i := 15) (v := ?_) rfl (by kernel_rfl) (by kernel_rfl) (fun _ _ _ h => h) (Or.inl ⟨by rfl, ?_⟩) hR ?_; rotate_left; (focus (intro w hSw; (try dsimp only at hSw); go_simp; (try with_reducible rfl))); (try simp only [put_laws]))
  (refine wpAnyM_take (i := 16) (v := ?_) rfl (by kernel_rfl) (by kernel_rfl) (fun _ _ _ h => h) (Or.inl ⟨by rfl, ?_⟩) hR ?_; rotate_left; (focus (intro w hSw; (try dsimp only at hSw); go_simp; (try with_reducible rfl))); (try simp only [put_laws]))
  (refine wpAnyM_take (i := 17) (v := _) rfl (by kernel_rfl) (by kernel_rfl) (fun _ _ _ h => h) (Or.inl ⟨by rfl, fun w hSw => nd_exec_load rfl rfl (HLC2.out w hSw)⟩) hR ?_; (try simp only [put_laws]))
  (refine wpAnyM_take (i := 18) (v := _) rfl (by kernel_rfl) (by kernel_rfl) (fun _ _ _ h => h) (Or.inl ⟨by rfl, fun w hSw => nd_exec_load rfl rfl (HLB2.out w hSw)⟩) hR ?_; (try simp only [put_laws]))
  (refine wpAnyM_take (i := 21) (v := _) rfl (by kernel_rfl) (by kernel_rfl) (fun _ _ _ h => h) (Or.inl ⟨by rfl, fun w hSw => nd_exec_load rfl rfl (HLB2.out w hSw)⟩) hR ?_; (try simp only [put_laws]))
  (refine wpAnyM_take (i := 20) (v := ?_) rfl (by kernel_rfl) (by kernel_rfl) (fun _ _ _ h => h) (Or.inl ⟨by rfl, ?_⟩) hR ?_; rotate_left; (focus (intro w hSw; (try dsimp only at hSw); go_simp; (try with_reducible rfl))); (try simp only [put_laws]))
  (refine wpAnyM_one (i := 19) rfl (by kernel_rfl) (fun K hK => ?_); rw [if_pos (by rfl)]; (try simp only [elem_laws]))
  go_simp
  refine (HP2.out.rp _).mono ?_
  rintro e x6 ⟨rfl, hb⟩
  have hR' : Below W3.heap.size W3 x6 := hR.trans (hb.mono hR.size)
  refine hK _ _ (fun _ => hR') ?_
  clear hK K hR hb
  have hR := hR'
  clear hR'
  (try simp only [put_laws])
  (refine wpAnyM_one (i := 22) rfl (by kernel_rfl) (fun K hK => ?_); rw [if_pos (by rfl)]; (try simp only [elem_laws]))
  go_simp
  refine (HP2.out.rr _).mono ?_
  rintro e x7 ⟨rfl, hb⟩
  have hR' : Below W3.heap.size W3 x7 := hR.trans (hb.mono hR.size)
  refine hK _ _ (fun _ => hR') ?_
  clear hK K hR hb
  have hR := hR'
  clear hR'
  (try simp only [put_laws])
  (refine wpAnyM_one (i := 23) rfl (by kernel_rfl) (fun K hK => ?_); rw [if_pos (by rfl)]; (try simp only [elem_laws]))
  go_simp
  refine (HP2.out.qt _).mono ?_
  rintro e x8 ⟨rfl, hb⟩
  have hR' : Below W3.heap.size W3 x8 := hR.trans (hb.mono hR.size)
  refine hK _ _ (fun _ => hR') ?_
  clear hK K hR hb
  have hR := hR'
  clear hR'
  (try simp only [put_laws])
  (refine wpAnyM_take (i := 24) (v := ?_) rfl (by kernel_rfl) (by kernel_rfl) (fun _ _ _ h => h) (Or.inl ⟨by rfl, ?_⟩) hR ?_; rotate_left; (focus (intro w hSw; (try dsimp only at hSw); go_simp; (try with_reducible rfl))); (try simp only [put_laws]))
  (refine wpAnyM_take (i := 25) (v := ?_) rfl (by kernel_rfl) (by kernel_rfl) (fun _ _ _ h => h) (Or.inl ⟨by rfl, ?_⟩) hR ?_; rotate_left; (focus (intro w hSw; (try dsimp only at hSw); go_simp; (try with_reducible rfl))); (try simp only [put_laws]))
  have HTX : Hid (Tabs x8) := show Tabs _ from HT3.out.below hR HT3.out.room
  (refine wpAnyM_one (i := 26) rfl (by kernel_rfl) (fun K hK => ?_); rw [if_pos (by rfl)]; (try simp only [elem_laws]))
  go_simp
  refine (HWK.out _ HTX.out).mono ?_
  rintro e x9 ⟨rfl, hb⟩
  have hR' : Below W3.heap.size W3 x9 := hR.trans (hb.mono hR.size)
  refine hK _ _ (fun _ => hR') ?_
  clear hK K hR hb
  have hR := hR'
  clear hR'
  (try simp only [put_laws])
  (refine wpAnyM_take (i := 27) (v := ?_) rfl (by kernel_rfl) (by kernel_rfl) (fun _ _ _ h => h) (Or.inl ⟨by rfl, ?_⟩) hR ?_; rotate_left; (focus (intro w hSw; (try dsimp only at hSw); go_simp; (try with_reducible rfl))); (try simp only [put_laws]))
  (refine wpAnyM_last rfl (by kernel_rfl) (fun K hK => ?_); rw [if_pos (by rfl)]; (try simp only [elem_laws]))
  go_simp
  have HRX := Lib.hid (HB3.out.trans (hR.mono HB3.out.size))
  clear hR
  refine hK _ _ ?_
  clear hK K
  (try simp only [put_laws])
  refine wpAnyM_done (by kernel_rfl) ?_ _
  go_wp2_with fail
  go_ret
  exact ⟨rfl, HRX.out⟩
end Go.Proofs.YtfdnlgmgjmbafaaGreatDoor
