/-
  The law NodeNext: its walk.
-/
import Derived.Test.YtfdnlgmgjmbafaaDoorMn15
namespace Go.Proofs.YtfdnlgmgjmbafaaDoor
open Go.RowKit Go.Shelf
attribute [local go_sem] Oper.semAt_some

theorem entry_put (a b : Int) (s : List UInt8) : wrSp entrySpecs #[.int .i64 a, .int .i64 b, encStr s] zeros8 = [a % 18446744073709551616, b % 18446744073709551616, ((s.length : Nat) : Int)] ++ fiveI s := by
  have h2 : txtAt #[.int .i64 a, .int .i64 b, encStr s] 2 = s := txtAt_of rfl
  simp only [wrSp, entrySpecs, List.foldl_cons, List.foldl_nil, namedS, h2]
  rfl
theorem entry_err (x : Array Value) : putSpE entrySpecs x = 0 ∨ putSpE entrySpecs x = 2 := by
  unfold putSpE
  split
  · exact .inl rfl
  · exact .inr rfl
theorem next_facts (a b next to : Int) (s : List UInt8) (h1 : putSpE entrySpecs #[.int .i64 a, .int .i64 b, encStr s] = 0) (h2 : putSpE entrySpecs #[.int .i64 next, .int .i64 to, encStr s] = 0) :
    (putSp entrySpecs #[.int .i64 next, .int .i64 to, encStr s])[0]?.getD 0 = next % 18446744073709551616 ∧ (putSp entrySpecs #[.int .i64 next, .int .i64 to, encStr s])[1]?.getD 0 = to % 18446744073709551616 ∧
    ∀ k, 2 ≤ k → (putSp entrySpecs #[.int .i64 a, .int .i64 b, encStr s])[k]?.getD 0 = (putSp entrySpecs #[.int .i64 next, .int .i64 to, encStr s])[k]?.getD 0 := by
  have ok : ∀ x, putSpE entrySpecs x = 0 → putSp entrySpecs x = wrSp entrySpecs x zeros8 := fun x hx => by
    unfold putSpE at hx
    unfold putSp
    split at hx
    · rename_i h
      rw [if_pos h]
    · cases hx
  rw [ok _ h1, ok _ h2, entry_put, entry_put]
  refine ⟨rfl, rfl, fun k hk => ?_⟩
  obtain ⟨j, rfl⟩ : ∃ j, k = j + 2 := ⟨k - 2, by omega⟩
  rfl
theorem goodE_of {a b : Int} {s : List UInt8} (ha : -9223372036854775808 ≤ a ∧ a ≤ 9223372036854775807) (hb : -9223372036854775808 ≤ b ∧ b ≤ 9223372036854775807) (hs : s.length ≤ 100) : GoodE #[.int .i64 a, .int .i64 b, encStr s] :=
  ⟨rfl, fun j hj => by
    have : j = 0 ∨ j = 1 := by omega
    rcases this with rfl | rfl
    · exact ⟨a, rfl, by omega, by omega⟩
    · exact ⟨b, rfl, by omega, by omega⟩, s, rfl, by omega⟩
set_option maxRecDepth 100000 in
set_option maxHeartbeats 8000000 in
theorem next8_any (a b next to : Int) (s : List UInt8) (ha : -9223372036854775808 ≤ a ∧ a ≤ 9223372036854775807) (hb : -9223372036854775808 ≤ b ∧ b ≤ 9223372036854775807)
    (hn : -9223372036854775808 ≤ next ∧ next ≤ 9223372036854775807) (ho : -9223372036854775808 ≤ to ∧ to ≤ 9223372036854775807) (w : World) (ht : Tabs w) :
    Calls Tryd.prog 3 #[.agg #[.int .i64 a, .int .i64 b, encStr s], .int .i64 next, .int .i64 to] w fun e w' => e = .returned (.bool true) ∧ Below w.heap.size w w' := by
  have HWK := Lib.hid works8_any
  have HN := Lib.hid num8_any
  obtain ⟨W1, hW1⟩ : ∃ W1, w.alloc (.cells #[.int .i64 a, .int .i64 b, encStr s] 23) = W1 := ⟨_, rfl⟩
  have hb1 : Below w.heap.size w W1 := by rw [← hW1]; exact (by repeat (first | exact Below.refl _ _ | assumption | refine Below.drew ?_ | refine below_drewN ?_ _ | refine Below.alloc ?_ (by (try simp) <;> omega) _ | refine Below.setCell ?_ (by (try simp) <;> omega) _ | refine Below.trans ?_ (Below.mono (by assumption) (by (try simp) <;> omega))))
  have hx1 : Blk W1 w.heap.size 23 #[.int .i64 a, .int .i64 b, encStr s] := by rw [← hW1]; exact Blk.new _ _ _
  have HT1 : Hid (Tabs W1) := show Tabs _ from ht.below hb1 ht.room
  have HB1 := Lib.hid hb1
  have HX1 := Lib.hid hx1
  have HW1 := Lib.hid hW1
  have HLD1 : Hid ((Instr.loadAt 23 (.pointer (some ⟨w.heap.size, 0, none⟩))).run Tryd.prog W1 = .ok (.agg #[.int .i64 a, .int .i64 b, encStr s]) W1) := show _ = _ from hx1.load (tt := 23) Tryd.underlying23 rfl (by kernel_rfl)
  have hc2 : W1.cell? ⟨w.heap.size, 2, none⟩ = some (encStr s) := hx1.cell rfl
  by_cases g1 : 100 < s.length
  · have g2 : (100 : Int) < (s.length : Int) := by omega
    clear g1 hb1 hx1 hW1 ht ha hb hn ho
    go_enter Tryd.func3, Tryd.ntmps3
    go_wp2_with fail
    rw [HW1.out]
    go_wp2_with (go_at_call 5; refine (HWK.out _ HT1.out).mono ?_; rintro e w' ⟨rfl, hb⟩)
    go_ret
    exact ⟨rfl, HB1.out.trans (hb.mono HB1.out.size)⟩
  have g2 : ¬ (100 : Int) < (s.length : Int) := by omega
  have hgx : GoodE #[.int .i64 a, .int .i64 b, encStr s] := goodE_of ha hb (by omega)
  have hgy : GoodE #[.int .i64 next, .int .i64 to, encStr s] := goodE_of hn ho (by omega)
  obtain ⟨A, hA⟩ : ∃ A, putSp entrySpecs #[.int .i64 a, .int .i64 b, encStr s] = A := ⟨_, rfl⟩
  obtain ⟨B, hB⟩ : ∃ B, putSp entrySpecs #[.int .i64 next, .int .i64 to, encStr s] = B := ⟨_, rfl⟩
  have hf := next_facts a b next to s
  have he1 := entry_err #[.int .i64 a, .int .i64 b, encStr s]
  have he2 := entry_err #[.int .i64 next, .int .i64 to, encStr s]
  obtain ⟨e1, hE1⟩ : ∃ e1, putSpE entrySpecs #[.int .i64 a, .int .i64 b, encStr s] = e1 := ⟨_, rfl⟩
  obtain ⟨e2, hE2⟩ : ∃ e2, putSpE entrySpecs #[.int .i64 next, .int .i64 to, encStr s] = e2 := ⟨_, rfl⟩
  rw [hA, hB, hE1, hE2] at hf
  rw [hE1] at he1
  rw [hE2] at he2
  obtain ⟨X, hX⟩ : ∃ X, lnA A = X := ⟨_, rfl⟩
  obtain ⟨Y, hY⟩ : ∃ Y, lnA B = Y := ⟨_, rfl⟩
  have HC1 : Hid (∀ V, Tabs V → Calls Tryd.prog 6 #[.agg #[.int .i64 a, .int .i64 b, encStr s]] V fun e w' => e = .returned (.tuple #[.agg X, .int .i64 e1]) ∧ Line8 A ∧ Below V.heap.size V w') := show ∀ V, _ from fun V hV => by
    have h := putEntry_any _ hgx V hV
    rw [hA, hE1, hX] at h
    exact h
  have HC2 : Hid (∀ V, Tabs V → Calls Tryd.prog 6 #[.agg #[.int .i64 next, .int .i64 to, encStr s]] V fun e w' => e = .returned (.tuple #[.agg Y, .int .i64 e2]) ∧ Line8 B ∧ Below V.heap.size V w') := show ∀ V, _ from fun V hV => by
    have h := putEntry_any _ hgy V hV
    rw [hB, hE2, hY] at h
    exact h
  have HXY : Hid (lnA A = X ∧ lnA B = Y) := show _ ∧ _ from ⟨hX, hY⟩
  have HF := Lib.hid hf
  have HO1 := Lib.hid (goodE_one hgx)
  have HE1 := Lib.hid he1
  have HE2 := Lib.hid he2
  clear hX hY hf he1 he2 hA hB hE1 hE2 hgx hgy g1 hb1 hx1 hW1 ht ha hb hn ho
  go_enter Tryd.func3, Tryd.ntmps3
  go_wp2_with fail
  rw [HW1.out]
  go_wp2_with (first | (refine ndList_load rfl 23 _ rfl _ _ rfl HLD1.out ?_))
  refine (HC1.out _ HT1.out).mono ?_
  rintro e v1 ⟨rfl, hl, hb⟩
  have HL1 := Lib.hid hl
  have hXS : X.size = 8 ∧ X.all (·.oneCell') = true := by rw [← HXY.out.1]; exact ⟨by rw [lnA_size, hl.1], lnA_one _⟩
  obtain ⟨W2, hW⟩ : ∃ W, v1.alloc (.cells X 26) = W := ⟨_, rfl⟩
  have hbn : Below W1.heap.size W1 W2 := by rw [← hW]; exact hb.alloc hb.size _
  have HST : Hid ((Instr.storeAt 26 (.pointer (some ⟨v1.heap.size, 0, none⟩)) (.agg X)).run Tryd.prog (v1.alloc (.cells #[.int .u64 0, .int .u64 0, .int .u64 0, .int .u64 0, .int .u64 0, .int .u64 0, .int .u64 0, .int .u64 0] 26)) = .ok () W2) := show _ = _ by
    rw [← hW]
    exact run_storeAt_new v1 26 _ X (by rw [hXS.1]; kernel_rfl) (by rw [hXS.1]; rfl) hXS.2
  have BX2 : Hid (Blk W2 v1.heap.size 26 X) := show Blk _ _ _ _ by rw [← hW]; exact Blk.new _ _ _
  have HX2 := Lib.hid (HX1.out.below hbn HX1.out.lt)
  have HB2 := Lib.hid (HB1.out.trans (hbn.mono HB1.out.size))
  have HT2 : Hid (Tabs W2) := show Tabs _ from HT1.out.below hbn HT1.out.room
  have HLD2 : Hid ((Instr.loadAt 23 (.pointer (some ⟨w.heap.size, 0, none⟩))).run Tryd.prog W2 = .ok (.agg #[.int .i64 a, .int .i64 b, encStr s]) W2) := show _ = _ from HX2.out.load (tt := 23) Tryd.underlying23 rfl (by kernel_rfl)
  obtain ⟨W3, hW3⟩ : ∃ W, W2.alloc (.cells #[.int .i64 a, .int .i64 b, encStr s] 23) = W := ⟨_, rfl⟩
  have HST3 : Hid ((Instr.storeAt 23 (.pointer (some ⟨W2.heap.size, 0, none⟩)) (.agg #[.int .i64 a, .int .i64 b, encStr s])).run Tryd.prog (W2.alloc (.cells #[.int .i64 0, .int .i64 0, .string ⟨#[]⟩] 23)) = .ok () W3) := show _ = _ by
    rw [← hW3]
    exact run_storeAt_new W2 23 _ #[.int .i64 a, .int .i64 b, encStr s] (by kernel_rfl) rfl HO1.out
  have bY3 : Blk W3 W2.heap.size 23 #[.int .i64 a, .int .i64 b, encStr s] := by rw [← hW3]; exact Blk.new _ _ _
  have hb3 : Below W2.heap.size W2 W3 := by rw [← hW3]; exact (by repeat (first | exact Below.refl _ _ | assumption | refine Below.drew ?_ | refine below_drewN ?_ _ | refine Below.alloc ?_ (by (try simp) <;> omega) _ | refine Below.setCell ?_ (by (try simp) <;> omega) _ | refine Below.trans ?_ (Below.mono (by assumption) (by (try simp) <;> omega))))
  obtain ⟨W4, hW4⟩ : ∃ W, (W3.setCell ⟨W2.heap.size, 0, none⟩ (.int .i64 next)).setCell ⟨W2.heap.size, 1, none⟩ (.int .i64 to) = W := ⟨_, rfl⟩
  have hb4 : Below W2.heap.size W2 W4 := by rw [← hW4]; exact (hb3.setCell (p := ⟨W2.heap.size, 0, none⟩) (Nat.le_refl _) _).setCell (p := ⟨W2.heap.size, 1, none⟩) (Nat.le_refl _) _
  have bY4 : Blk W4 W2.heap.size 23 #[.int .i64 next, .int .i64 to, encStr s] := by rw [← hW4]; exact (bY3.set 0 _).set 1 _
  have HLD4 : Hid ((Instr.loadAt 23 (.pointer (some ⟨W2.heap.size, 0, none⟩))).run Tryd.prog ((W3.setCell ⟨W2.heap.size, 0, none⟩ (.int .i64 next)).setCell ⟨W2.heap.size, 1, none⟩ (.int .i64 to)) = .ok (.agg #[.int .i64 next, .int .i64 to, encStr s]) ((W3.setCell ⟨W2.heap.size, 0, none⟩ (.int .i64 next)).setCell ⟨W2.heap.size, 1, none⟩ (.int .i64 to))) := show _ = _ by
    rw [hW4]
    exact bY4.load (tt := 23) Tryd.underlying23 rfl (by kernel_rfl)
  have c30 : W3.cell? ⟨W2.heap.size, 0, none⟩ = some (.int .i64 a) := bY3.cell rfl
  have f30 := bY3.frozen 0
  have c31 : (W3.setCell ⟨W2.heap.size, 0, none⟩ (.int .i64 next)).cell? ⟨W2.heap.size, 1, none⟩ = some (.int .i64 b) := (bY3.set 0 _).cell rfl
  have f31 := (bY3.set 0 (.int .i64 next)).frozen 1
  have BX4 := Lib.hid (BX2.out.below hb4 BX2.out.lt)
  have HT4 : Hid (Tabs W4) := show Tabs _ from HT2.out.below hb4 HT2.out.room
  have HB4 := Lib.hid (HB2.out.trans (hb4.mono HB2.out.size))
  have HW4 := Lib.hid hW4
  clear hb hbn hW hl hXS BX2 hW3 hW4 hb3 hb4 bY3 bY4 hc2
  go_wp2_with (first | (refine ndList_store rfl 26 _ _ rfl _ _ rfl rfl HST.out ?_) | (refine ndList_store rfl 23 _ _ rfl _ _ rfl rfl HST3.out ?_) | (refine ndList_load rfl 23 _ rfl _ _ rfl HLD2.out ?_) | (refine ndList_load rfl 23 _ rfl _ _ rfl HLD4.out ?_))
  rw [HW4.out]
  refine (HC2.out _ HT4.out).mono ?_
  rintro e v2 ⟨rfl, hl, hb⟩
  have hYS : Y.size = 8 ∧ Y.all (·.oneCell') = true := by rw [← HXY.out.2]; exact ⟨by rw [lnA_size, hl.1], lnA_one _⟩
  obtain ⟨W5, hW⟩ : ∃ W, v2.alloc (.cells Y 26) = W := ⟨_, rfl⟩
  have hbn : Below W4.heap.size W4 W5 := by rw [← hW]; exact hb.alloc hb.size _
  have HST5 : Hid ((Instr.storeAt 26 (.pointer (some ⟨v2.heap.size, 0, none⟩)) (.agg Y)).run Tryd.prog (v2.alloc (.cells #[.int .u64 0, .int .u64 0, .int .u64 0, .int .u64 0, .int .u64 0, .int .u64 0, .int .u64 0, .int .u64 0] 26)) = .ok () W5) := show _ = _ by
    rw [← hW]
    exact run_storeAt_new v2 26 _ Y (by rw [hYS.1]; kernel_rfl) (by rw [hYS.1]; rfl) hYS.2
  have BX5 := Lib.hid (BX4.out.below hbn BX4.out.lt)
  have BY5 : Hid (Blk W5 v2.heap.size 26 Y) := show Blk _ _ _ _ by rw [← hW]; exact Blk.new _ _ _
  have HB5 := Lib.hid (HB4.out.trans (hbn.mono HB4.out.size))
  have HT5 : Hid (Tabs W5) := show Tabs _ from HT4.out.below hbn HT4.out.room
  have HL2 := Lib.hid hl
  clear hb hbn hW hl hYS BX4 c30 f30 c31 f31 HST HST3 HLD1 HLD2 HLD4 HW4 HW1
  rcases HE1.out with rfl | rfl
  rotate_left
  · go_wp2_with (first | (refine ndList_store rfl 26 _ _ rfl _ _ rfl rfl HST5.out ?_) | (go_at_call 7; refine (HN.out _ _).mono ?_; rintro e w' ⟨rfl, rfl⟩) | (go_at_call 5; refine (HWK.out _ HT5.out).mono ?_; rintro e w' ⟨rfl, hb⟩))
    go_ret
    exact ⟨rfl, HB5.out.trans (hb.mono HB5.out.size)⟩
  rcases HE2.out with rfl | rfl
  rotate_left
  · go_wp2_with (first | (refine ndList_store rfl 26 _ _ rfl _ _ rfl rfl HST5.out ?_) | (go_at_call 7; refine (HN.out _ _).mono ?_; rintro e w' ⟨rfl, rfl⟩) | (go_at_call 5; refine (HWK.out _ HT5.out).mono ?_; rintro e w' ⟨rfl, hb⟩))
    go_ret
    exact ⟨rfl, HB5.out.trans (hb.mono HB5.out.size)⟩
  obtain ⟨f1, f2, f3⟩ := HF.out rfl rfl
  have HF3 := Lib.hid f3
  have e4 : IntKind.u64.wrap next = B[0]?.getD 0 := f1.symm
  have e5 : IntKind.u64.wrap to = B[1]?.getD 0 := f2.symm
  obtain ⟨p, hp⟩ : ∃ p, B[0]?.getD 0 = p := ⟨_, rfl⟩
  obtain ⟨q, hq⟩ : ∃ q, B[1]?.getD 0 = q := ⟨_, rfl⟩
  rw [hp] at e4
  rw [hq] at e5
  have HP : Hid (B[0]?.getD 0 = p ∧ B[1]?.getD 0 = q) := show _ ∧ _ from ⟨hp, hq⟩
  clear f1 f2 f3 hp hq HF HE1 HE2
  go_wp2_with (first | (refine ndList_store rfl 26 _ _ rfl _ _ rfl rfl HST5.out ?_) | (go_at_call 7; refine (HN.out _ _).mono ?_; rintro e w' ⟨rfl, rfl⟩))
  clear HST5
  go_loopw [12] (fun i wr => ∃ k : Nat, k ≤ 8 ∧ 2 ≤ k ∧ i = .int .i64 (k : Nat) ∧ Hid (Below W5.heap.size W5 wr)) (fun i _ => 8 - (intOf i).toNat)
  case atStart => exact ⟨2, by decide, by decide, rfl, show Below _ _ _ from Below.refl _ _⟩
  case round =>
    obtain ⟨k, hk, hk2, rfl, hbr⟩ := hrel
    by_cases hlt : k < 8
    · have c1 : wr.cell? ⟨v1.heap.size, k, none⟩ = some (.int .u64 (B[k]?.getD 0)) := by
        rw [← HF3.out k hk2]
        exact (BX5.out.below hbr.out BX5.out.lt).cell (by rw [← HXY.out.1]; exact lnA_at A k (by rw [HL1.out.1]; exact hlt))
      have c2 : wr.cell? ⟨v2.heap.size, k, none⟩ = some (.int .u64 (B[k]?.getD 0)) := (BY5.out.below hbr.out BY5.out.lt).cell (by rw [← HXY.out.2]; exact lnA_at B k (by rw [HL2.out.1]; exact hlt))
      obtain ⟨r, hr⟩ : ∃ r, B[k]?.getD 0 = r := ⟨_, rfl⟩
      rw [hr] at c1 c2
      clear hr
      have hn' : ((k : Nat) : Int) < 8 := by omega
      go_wp2
      go_quiet (fail)
      go_wp2
      go_roundw
      case rel => exact ⟨k + 1, by omega, by omega, by go_num, show Below _ _ _ from below_drewN hbr.out _⟩
      case measure => simp [intOf]; omega
    · obtain rfl : k = 8 := by omega
      have c0 : wr.cell? ⟨v2.heap.size, 0, none⟩ = some (.int .u64 p) := by
        rw [← HP.out.1]
        exact (BY5.out.below hbr.out BY5.out.lt).cell (by rw [← HXY.out.2]; exact lnA_at B 0 (by rw [HL2.out.1]; decide))
      have c1 : wr.cell? ⟨v2.heap.size, 1, none⟩ = some (.int .u64 q) := by
        rw [← HP.out.2]
        exact (BY5.out.below hbr.out BY5.out.lt).cell (by rw [← HXY.out.2]; exact lnA_at B 1 (by rw [HL2.out.1]; decide))
      have HTR : Hid (Tabs wr) := show Tabs _ from HT5.out.below hbr.out HT5.out.room
      have HBR := Lib.hid (HB5.out.trans (hbr.out.mono HB5.out.size))
      go_wp2_with (first | (go_at_call 5; refine (HWK.out _ HTR.out).mono ?_; rintro e w' ⟨rfl, hb⟩))
      go_ret
      exact ⟨rfl, HBR.out.trans (hb.mono HBR.out.size)⟩
end Go.Proofs.YtfdnlgmgjmbafaaDoor
