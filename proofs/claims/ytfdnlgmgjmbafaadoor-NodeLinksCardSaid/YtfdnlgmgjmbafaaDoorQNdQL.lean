/-
  The law NodeLinks: its walk.
-/
import Derived.Test.YtfdnlgmgjmbafaaDoorMn15
namespace Go.Proofs.YtfdnlgmgjmbafaaDoor
open Go.RowKit Go.Shelf
attribute [local go_sem] Oper.semAt_some

theorem links_facts (top links : Int) (h1 : 1 ≤ links) (h2 : links ≤ 198) : (putSpE inodeSpecs (ints [1, links, top]) = 2 ∧ putSpE inodeSpecs (ints [1, links + 1, top]) = 2) ∨
    (putSpE inodeSpecs (ints [1, links, top]) = 0 ∧ putSpE inodeSpecs (ints [1, links + 1, top]) = 0 ∧
      putSp inodeSpecs (ints [1, links, top]) = [1 + 256 * links, top % 18446744073709551616, 0, 0, 0, 0, 0, 0] ∧ putSp inodeSpecs (ints [1, links + 1, top]) = [1 + 256 * (links + 1), top % 18446744073709551616, 0, 0, 0, 0, 0, 0]) := by
  have e0 : ∀ l, 1 ≤ l → l ≤ 200 → okSp inodeSpecs (ints [1, l, top]) = decide (1 ≤ top ∧ top ≤ 1023) := fun l g1 g2 => by
    simp [okSp, inodeSpecs, headS, numS, headOk, inB, numAt_ints, g1, g2]
  have e1 := e0 links h1 (by omega)
  have e2 := e0 (links + 1) (by omega) (by omega)
  unfold putSpE putSp
  rw [e1, e2]
  by_cases h : 1 ≤ top ∧ top ≤ 1023
  · refine .inr ?_
    simp [h, inodeSpecs, wrSp, headS, numS, numAt_ints, zeros8]
  · exact .inl (by simp [h])
set_option maxRecDepth 100000 in
set_option maxHeartbeats 8000000 in
theorem links8_any (top links : Int) (b0 : -9223372036854775808 ≤ top ∧ top ≤ 9223372036854775807) (b1 : -9223372036854775808 ≤ links ∧ links ≤ 9223372036854775807) (w : World) (ht : Tabs w) :
    Calls Tryd.prog 4 #[.int .i64 top, .int .i64 links] w fun e w' => e = .returned (.bool true) ∧ Below w.heap.size w w' := by
  have HWK := Lib.hid works8_any
  have HT := Lib.hid ht
  have HN := Lib.hid num8_any
  by_cases g1 : links < 1
  · clear b0 b1 ht
    go_enter Tryd.func4, Tryd.ntmps4
    go_wp2_with (go_at_call 5; refine (HWK.out _ HT.out).mono ?_; rintro e w' ⟨rfl, hb⟩)
    go_ret
    exact ⟨rfl, hb⟩
  by_cases g2 : links > 198
  · clear b0 b1 ht
    go_enter Tryd.func4, Tryd.ntmps4
    go_wp2_with (go_at_call 5; refine (HWK.out _ HT.out).mono ?_; rintro e w' ⟨rfl, hb⟩)
    go_ret
    exact ⟨rfl, hb⟩
  have hx : GoodI 3 (ints [1, links, top]) := goodI_ints rfl (by
    intro x hx
    simp at hx
    omega)
  have hx2 : GoodI 3 (ints [1, links + 1, top]) := goodI_ints rfl (by
    intro x hx
    simp at hx
    omega)
  obtain ⟨A, hA⟩ : ∃ A, putSp inodeSpecs (ints [1, links, top]) = A := ⟨_, rfl⟩
  obtain ⟨B, hB⟩ : ∃ B, putSp inodeSpecs (ints [1, links + 1, top]) = B := ⟨_, rfl⟩
  obtain ⟨e1, he1⟩ : ∃ e1, putSpE inodeSpecs (ints [1, links, top]) = e1 := ⟨_, rfl⟩
  obtain ⟨e2, he2⟩ : ∃ e2, putSpE inodeSpecs (ints [1, links + 1, top]) = e2 := ⟨_, rfl⟩
  have HC1 : Hid (∀ V, Tabs V → Calls Tryd.prog 8 #[.agg #[.int .i64 1, .int .i64 links, .int .i64 top]] V fun e w' => e = .returned (.tuple #[.agg (lnA A), .int .i64 e1]) ∧ Line8 A ∧ Below V.heap.size V w') := show ∀ V, _ from fun V hV => by
    have h := putInode_any (ints [1, links, top]) hx V hV
    rw [hA, he1] at h
    exact h
  have HC2 : Hid (∀ V, Tabs V → Calls Tryd.prog 8 #[.agg #[.int .i64 1, .int .i64 (links + 1), .int .i64 top]] V fun e w' => e = .returned (.tuple #[.agg (lnA B), .int .i64 e2]) ∧ Line8 B ∧ Below V.heap.size V w') := show ∀ V, _ from fun V hV => by
    have h := putInode_any (ints [1, links + 1, top]) hx2 V hV
    rw [hB, he2] at h
    exact h
  have hf := links_facts top links (by omega) (by omega)
  rw [hA, hB, he1, he2] at hf
  have HF := Lib.hid hf
  have g3 : wrap64 (links + 1) = links + 1 := by unfold wrap64; omega
  have HB1 := Lib.hid b1
  have HB0 := Lib.hid b0
  clear hf hA hB he1 he2 hx hx2 b0 b1 ht
  obtain ⟨X, hX⟩ : ∃ X, lnA A = X := ⟨_, rfl⟩
  obtain ⟨Y, hY⟩ : ∃ Y, lnA B = Y := ⟨_, rfl⟩
  rw [hX] at HC1
  rw [hY] at HC2
  have HXY : Hid (lnA A = X ∧ lnA B = Y) := show _ ∧ _ from ⟨hX, hY⟩
  clear hX hY
  go_enter Tryd.func4, Tryd.ntmps4
  go_wp2_with fail
  refine (HC1.out _ HT.out).mono ?_
  rintro e v1 ⟨rfl, hl, hb⟩
  have HL1 := Lib.hid hl
  have hXS : X.size = 8 ∧ X.all (·.oneCell') = true := by rw [← HXY.out.1]; exact ⟨by rw [lnA_size, hl.1], lnA_one _⟩
  obtain ⟨W1, hW⟩ : ∃ W, v1.alloc (.cells X 26) = W := ⟨_, rfl⟩
  have hbn : Below w.heap.size w W1 := by rw [← hW]; exact hb.alloc hb.size _
  have HST : Hid ((Instr.storeAt 26 (.pointer (some ⟨v1.heap.size, 0, none⟩)) (.agg X)).run Tryd.prog (v1.alloc (.cells #[.int .u64 0, .int .u64 0, .int .u64 0, .int .u64 0, .int .u64 0, .int .u64 0, .int .u64 0, .int .u64 0] 26)) = .ok () W1) := show _ = _ by
    rw [← hW]
    exact run_storeAt_new v1 26 _ X (by rw [hXS.1]; kernel_rfl) (by rw [hXS.1]; rfl) hXS.2
  have BX1 : Hid (Blk W1 v1.heap.size 26 X) := show Blk _ _ _ _ by rw [← hW]; exact Blk.new _ _ _
  have HB1' := Lib.hid hbn
  have HT1 : Hid (Tabs W1) := show Tabs _ from HT.out.below hbn HT.out.room
  clear hb hbn hW hl hXS
  go_wp2_with (first | (refine ndList_store rfl 26 _ _ rfl _ _ rfl rfl HST.out ?_))
  clear HST
  refine (HC2.out W1 HT1.out).mono ?_
  rintro e v2 ⟨rfl, hl, hb⟩
  have HL2 := Lib.hid hl
  have hYS : Y.size = 8 ∧ Y.all (·.oneCell') = true := by rw [← HXY.out.2]; exact ⟨by rw [lnA_size, hl.1], lnA_one _⟩
  obtain ⟨W2, hW⟩ : ∃ W, v2.alloc (.cells Y 26) = W := ⟨_, rfl⟩
  have hbn : Below W1.heap.size W1 W2 := by rw [← hW]; exact hb.alloc hb.size _
  have HST : Hid ((Instr.storeAt 26 (.pointer (some ⟨v2.heap.size, 0, none⟩)) (.agg Y)).run Tryd.prog (v2.alloc (.cells #[.int .u64 0, .int .u64 0, .int .u64 0, .int .u64 0, .int .u64 0, .int .u64 0, .int .u64 0, .int .u64 0] 26)) = .ok () W2) := show _ = _ by
    rw [← hW]
    exact run_storeAt_new v2 26 _ Y (by rw [hYS.1]; kernel_rfl) (by rw [hYS.1]; rfl) hYS.2
  have BX2 := Lib.hid (BX1.out.below hbn BX1.out.lt)
  have BY2 : Hid (Blk W2 v2.heap.size 26 Y) := show Blk _ _ _ _ by rw [← hW]; exact Blk.new _ _ _
  have HB2 := Lib.hid (HB1'.out.trans (hbn.mono HB1'.out.size))
  have HT2 : Hid (Tabs W2) := show Tabs _ from HT1.out.below hbn HT1.out.room
  clear hb hbn hW hl hYS BX1
  rcases HF.out with ⟨rfl, rfl⟩ | ⟨rfl, rfl, hA, hB⟩
  · go_wp2_with (first | (refine ndList_store rfl 26 _ _ rfl _ _ rfl rfl HST.out ?_) | (go_at_call 7; refine (HN.out _ _).mono ?_; rintro e w' ⟨rfl, rfl⟩) | (go_at_call 5; refine (HWK.out _ HT2.out).mono ?_; rintro e w' ⟨rfl, hb⟩))
    go_ret
    exact ⟨rfl, HB2.out.trans (hb.mono HB2.out.size)⟩
  · have c0 := BX2.out.cell (j := 0) (v := .int .u64 (1 + 256 * links)) (by rw [← HXY.out.1, hA]; rfl)
    have c1 := BX2.out.cell (j := 1) (v := .int .u64 (top % 18446744073709551616)) (by rw [← HXY.out.1, hA]; rfl)
    have d0 := BY2.out.cell (j := 0) (v := .int .u64 (1 + 256 * (links + 1))) (by rw [← HXY.out.2, hB]; rfl)
    have d1 := BY2.out.cell (j := 1) (v := .int .u64 (top % 18446744073709551616)) (by rw [← HXY.out.2, hB]; rfl)
    have e4 : IntKind.u64.wrap (1 + 256 * links + 256) = 1 + 256 * (links + 1) := by
      show (1 + 256 * links + 256) % 18446744073709551616 = _
      omega
    clear hA hB BX2 BY2 HF HXY
    obtain ⟨p, hp⟩ : ∃ p, 1 + 256 * links = p := ⟨_, rfl⟩
    obtain ⟨q, hq⟩ : ∃ q, 1 + 256 * (links + 1) = q := ⟨_, rfl⟩
    obtain ⟨r, hr⟩ : ∃ r, top % 18446744073709551616 = r := ⟨_, rfl⟩
    rw [hp] at c0
    rw [hq] at d0
    rw [hr] at c1 d1
    rw [hp, hq] at e4
    clear hp hq hr
    go_wp2_with (first | (refine ndList_store rfl 26 _ _ rfl _ _ rfl rfl HST.out ?_) | (go_at_call 7; refine (HN.out _ _).mono ?_; rintro e w' ⟨rfl, rfl⟩) | (go_at_call 5; refine (HWK.out _ HT2.out).mono ?_; rintro e w' ⟨rfl, hb⟩))
    go_ret
    exact ⟨rfl, HB2.out.trans (hb.mono HB2.out.size)⟩
end Go.Proofs.YtfdnlgmgjmbafaaDoor
