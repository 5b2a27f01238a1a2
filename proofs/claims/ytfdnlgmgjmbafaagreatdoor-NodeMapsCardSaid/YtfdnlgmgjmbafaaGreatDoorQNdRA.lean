/-
  node: the document's answers: pointers, super lines, inodes.
-/
import Derived.Test.YtfdnlgmgjmbafaaGreatDoorMh20
namespace Go.Proofs.YtfdnlgmgjmbafaaGreatDoor
open Go.RowKit Go.Shelf
attribute [local go_sem] Oper.semAt_some

theorem refPointer_any (n : Int) (b : Bool) (w : World) : Calls Tryz.prog 44 #[.int .i64 n, .bool b] w fun e w' => e = .returned (.bool (inB (n, if b = true then 1 else 0, 1023))) ∧ w = w' := by
  by_cases h1 : n < 1024
  · by_cases h2 : 0 < n
    · have hr : inB (n, if b = true then 1 else 0, 1023) = true := by
        unfold inB
        refine decide_eq_true ?_
        show (if b = true then (1 : Int) else 0) ≤ n ∧ n ≤ 1023
        split <;> omega
      rw [hr]
      clear hr
      go_enter Tryz.func44, Tryz.ntmps44
      go_wp2
      go_ret
      exact ⟨rfl, rfl⟩
    · by_cases h3 : n = 0
      · subst h3
        clear h1 h2
        cases b
        · go_enter Tryz.func44, Tryz.ntmps44
          go_wp2
          go_ret
          exact ⟨rfl, rfl⟩
        · go_enter Tryz.func44, Tryz.ntmps44
          go_wp2
          go_ret
          exact ⟨rfl, rfl⟩
      · have hr : inB (n, if b = true then 1 else 0, 1023) = false := by
          unfold inB
          refine decide_eq_false ?_
          show ¬ ((if b = true then (1 : Int) else 0) ≤ n ∧ n ≤ 1023)
          split <;> omega
        rw [hr]
        clear hr
        go_enter Tryz.func44, Tryz.ntmps44
        go_wp2
        go_ret
        exact ⟨rfl, rfl⟩
  · have hr : inB (n, if b = true then 1 else 0, 1023) = false := by
      unfold inB
      refine decide_eq_false ?_
      show ¬ ((if b = true then (1 : Int) else 0) ≤ n ∧ n ≤ 1023)
      omega
    rw [hr]
    clear hr
    go_enter Tryz.func44, Tryz.ntmps44
    go_wp2
    go_ret
    exact ⟨rfl, rfl⟩
theorem refRightSuper_any (a b : Int) (w : World) : Calls Tryz.prog 12 #[.agg #[.int .i64 a, .int .i64 b]] w fun e w' => e = .returned (.bool (okSp superSpecs #[.int .i64 a, .int .i64 b])) ∧ Below w.heap.size w w' := by
  have HP := Lib.hid (fun n b W => refPointer_any n b W)
  have hr : okSp superSpecs #[.int .i64 a, .int .i64 b] = (inB (a, 1, 1023) && inB (b, 8, 1024)) := by
    simp [okSp, superSpecs, magicS, numS, numAt]
  rw [hr]
  have e1 : inB (a, if true = true then 1 else 0, 1023) = inB (a, 1, 1023) := rfl
  obtain ⟨r, hr2⟩ : ∃ r, inB (a, 1, 1023) = r := ⟨_, rfl⟩
  rw [hr2]
  have HPA : Hid (∀ W, Calls Tryz.prog 44 #[.int .i64 a, .bool true] W fun e w' => e = .returned (.bool r) ∧ W = w') := show ∀ W, _ from fun W => by
    have := refPointer_any a true W
    rw [e1, hr2] at this
    exact this
  clear hr hr2 e1 HP
  cases r
  · rw [Bool.false_and]
    go_enter Tryz.func12, Tryz.ntmps12
    go_wp2_with (go_at_call 44; refine (HPA.out _).mono ?_; rintro e w' ⟨rfl, rfl⟩)
    go_ret
    exact ⟨rfl, (by repeat (first | exact Below.refl _ _ | assumption | refine Below.drew ?_ | refine below_drewN ?_ _ | refine Below.alloc ?_ (by (try simp) <;> omega) _ | refine Below.setCell ?_ (by (try simp) <;> omega) _ | refine Below.trans ?_ (Below.mono (by assumption) (by (try simp) <;> omega))))⟩
  · rw [Bool.true_and]
    by_cases h1 : 8 ≤ b
    · by_cases h2 : b ≤ 1024
      · have : inB (b, 8, 1024) = true := decide_eq_true (show 8 ≤ b ∧ b ≤ 1024 from ⟨h1, h2⟩)
        rw [this]
        clear this
        go_enter Tryz.func12, Tryz.ntmps12
        go_wp2_with (go_at_call 44; refine (HPA.out _).mono ?_; rintro e w' ⟨rfl, rfl⟩)
        go_ret
        exact ⟨rfl, (by repeat (first | exact Below.refl _ _ | assumption | refine Below.drew ?_ | refine below_drewN ?_ _ | refine Below.alloc ?_ (by (try simp) <;> omega) _ | refine Below.setCell ?_ (by (try simp) <;> omega) _ | refine Below.trans ?_ (Below.mono (by assumption) (by (try simp) <;> omega))))⟩
      · have : inB (b, 8, 1024) = false := decide_eq_false (show ¬ (8 ≤ b ∧ b ≤ 1024) from fun h => h2 h.2)
        rw [this]
        clear this
        have h3 : 1024 < b := by omega
        have HD : Hid (decide (b ≤ 1024) = false) := show _ = _ from decide_eq_false h2
        clear h2
        go_enter Tryz.func12, Tryz.ntmps12
        go_wp2_with (go_at_call 44; refine (HPA.out _).mono ?_; rintro e w' ⟨rfl, rfl⟩)
        go_ret
        exact ⟨ret_bool HD.out, (by repeat (first | exact Below.refl _ _ | assumption | refine Below.drew ?_ | refine below_drewN ?_ _ | refine Below.alloc ?_ (by (try simp) <;> omega) _ | refine Below.setCell ?_ (by (try simp) <;> omega) _ | refine Below.trans ?_ (Below.mono (by assumption) (by (try simp) <;> omega))))⟩
    · have : inB (b, 8, 1024) = false := decide_eq_false (show ¬ (8 ≤ b ∧ b ≤ 1024) from fun h => h1 h.1)
      rw [this]
      clear this
      go_enter Tryz.func12, Tryz.ntmps12
      go_wp2_with (go_at_call 44; refine (HPA.out _).mono ?_; rintro e w' ⟨rfl, rfl⟩)
      go_ret
      exact ⟨rfl, (by repeat (first | exact Below.refl _ _ | assumption | refine Below.drew ?_ | refine below_drewN ?_ _ | refine Below.alloc ?_ (by (try simp) <;> omega) _ | refine Below.setCell ?_ (by (try simp) <;> omega) _ | refine Below.trans ?_ (Below.mono (by assumption) (by (try simp) <;> omega))))⟩
theorem refPutSuper_any (a b : Int) (w : World) : Calls Tryz.prog 11 #[.agg #[.int .i64 a, .int .i64 b]] w fun e w' => e = .returned (.agg (lnA [magicW, a % 18446744073709551616, b % 18446744073709551616, 0, 0, 0, 0, 0])) ∧ Below w.heap.size w w' := by
  go_enter Tryz.func11, Tryz.ntmps11
  go_wp2_with fail
  have hx := Blk.new (w.alloc (.cells #[.int .i64 a, .int .i64 b] 23)) 31 (lnA [magicW, a % 18446744073709551616, b % 18446744073709551616, 0, 0, 0, 0, 0])
  rw [World.size_alloc] at hx
  exact bodyPost_ret (results_cell (fn := Tryz.f11) rfl rfl (hx.loadVar (tt := 31) Tryz.underlying31 rfl (by kernel_rfl))) rfl ⟨rfl, (by repeat (first | exact Below.refl _ _ | assumption | refine Below.drew ?_ | refine below_drewN ?_ _ | refine Below.alloc ?_ (by (try simp) <;> omega) _ | refine Below.setCell ?_ (by (try simp) <;> omega) _ | refine Below.trans ?_ (Below.mono (by assumption) (by (try simp) <;> omega))))⟩
theorem refPutInode_any (k m t : Int) (w : World) : Calls Tryz.prog 13 #[.agg #[.int .i64 k, .int .i64 m, .int .i64 t]] w fun e w' => e = .returned (.agg (lnA [IntKind.u64.wrap (IntKind.u64.wrap k + IntKind.u64.wrap (256 * IntKind.u64.wrap m)), t % 18446744073709551616, 0, 0, 0, 0, 0, 0])) ∧ Below w.heap.size w w' := by
  go_enter Tryz.func13, Tryz.ntmps13
  go_wp2_with fail
  have hx := Blk.new (w.alloc (.cells #[.int .i64 k, .int .i64 m, .int .i64 t] 26)) 31 (lnA [IntKind.u64.wrap (IntKind.u64.wrap k + IntKind.u64.wrap (256 * IntKind.u64.wrap m)), t % 18446744073709551616, 0, 0, 0, 0, 0, 0])
  rw [World.size_alloc] at hx
  exact bodyPost_ret (results_cell (fn := Tryz.f13) rfl rfl (hx.loadVar (tt := 31) Tryz.underlying31 rfl (by kernel_rfl))) rfl ⟨rfl, (by repeat (first | exact Below.refl _ _ | assumption | refine Below.drew ?_ | refine below_drewN ?_ _ | refine Below.alloc ?_ (by (try simp) <;> omega) _ | refine Below.setCell ?_ (by (try simp) <;> omega) _ | refine Below.trans ?_ (Below.mono (by assumption) (by (try simp) <;> omega))))⟩
theorem refRightInode_any (k m t : Int) (w : World) : Calls Tryz.prog 14 #[.agg #[.int .i64 k, .int .i64 m, .int .i64 t]] w fun e w' => e = .returned (.bool (okSp inodeSpecs #[.int .i64 k, .int .i64 m, .int .i64 t])) ∧ Below w.heap.size w w' := by
  have hr : okSp inodeSpecs #[.int .i64 k, .int .i64 m, .int .i64 t] = (headOk k m && inB (t, 1, 1023)) := by
    simp [okSp, inodeSpecs, headS, numS, numAt]
  rw [hr]
  have e1 : inB (t, if true = true then 1 else 0, 1023) = inB (t, 1, 1023) := rfl
  obtain ⟨r, hr2⟩ : ∃ r, inB (t, 1, 1023) = r := ⟨_, rfl⟩
  rw [hr2]
  have HPA : Hid (∀ W, Calls Tryz.prog 44 #[.int .i64 t, .bool true] W fun e w' => e = .returned (.bool r) ∧ W = w') := show ∀ W, _ from fun W => by
    have := refPointer_any t true W
    rw [e1, hr2] at this
    exact this
  clear hr hr2 e1
  have hno : ∀ b, headOk k m = false → (headOk k m && b) = false := fun b h => by rw [h]; rfl
  have hiff : headOk k m = true ↔ (1 ≤ k ∧ k ≤ 2) ∧ 1 ≤ m ∧ m ≤ (if k = 2 then 1 else 200) := by
    unfold headOk inB
    simp only [Bool.and_eq_true, decide_eq_true_eq]
  have hf : ¬ ((1 ≤ k ∧ k ≤ 2) ∧ 1 ≤ m ∧ m ≤ (if k = 2 then 1 else 200)) → headOk k m = false := fun h => by
    cases hh : headOk k m
    · rfl
    · exact absurd (hiff.1 hh) h
  by_cases h1 : m < 1
  · rw [hno r (hf (by omega))]
    clear hno hiff hf
    go_enter Tryz.func14, Tryz.ntmps14
    go_wp2_with (go_at_call 44; refine (HPA.out _).mono ?_; rintro e w' ⟨rfl, rfl⟩)
    go_ret
    exact ⟨rfl, (by repeat (first | exact Below.refl _ _ | assumption | refine Below.drew ?_ | refine below_drewN ?_ _ | refine Below.alloc ?_ (by (try simp) <;> omega) _ | refine Below.setCell ?_ (by (try simp) <;> omega) _ | refine Below.trans ?_ (Below.mono (by assumption) (by (try simp) <;> omega))))⟩
  by_cases h2 : 200 < m
  · rw [hno r (hf (by split <;> omega))]
    clear hno hiff hf h1
    go_enter Tryz.func14, Tryz.ntmps14
    go_wp2_with (go_at_call 44; refine (HPA.out _).mono ?_; rintro e w' ⟨rfl, rfl⟩)
    go_ret
    exact ⟨rfl, (by repeat (first | exact Below.refl _ _ | assumption | refine Below.drew ?_ | refine below_drewN ?_ _ | refine Below.alloc ?_ (by (try simp) <;> omega) _ | refine Below.setCell ?_ (by (try simp) <;> omega) _ | refine Below.trans ?_ (Below.mono (by assumption) (by (try simp) <;> omega))))⟩
  cases r
  · rw [Bool.and_false]
    clear hno hiff hf
    go_enter Tryz.func14, Tryz.ntmps14
    go_wp2_with (go_at_call 44; refine (HPA.out _).mono ?_; rintro e w' ⟨rfl, rfl⟩)
    go_ret
    exact ⟨rfl, (by repeat (first | exact Below.refl _ _ | assumption | refine Below.drew ?_ | refine below_drewN ?_ _ | refine Below.alloc ?_ (by (try simp) <;> omega) _ | refine Below.setCell ?_ (by (try simp) <;> omega) _ | refine Below.trans ?_ (Below.mono (by assumption) (by (try simp) <;> omega))))⟩
  rw [Bool.and_true]
  by_cases h3 : k = 1
  · rw [hiff.2 (by subst h3; exact ⟨by omega, by omega, by rw [if_neg (by decide)]; omega⟩)]
    subst h3
    clear hno hiff hf
    go_enter Tryz.func14, Tryz.ntmps14
    go_wp2_with (go_at_call 44; refine (HPA.out _).mono ?_; rintro e w' ⟨rfl, rfl⟩)
    go_ret
    exact ⟨rfl, (by repeat (first | exact Below.refl _ _ | assumption | refine Below.drew ?_ | refine below_drewN ?_ _ | refine Below.alloc ?_ (by (try simp) <;> omega) _ | refine Below.setCell ?_ (by (try simp) <;> omega) _ | refine Below.trans ?_ (Below.mono (by assumption) (by (try simp) <;> omega))))⟩
  by_cases h4 : k = 2
  · subst h4
    clear h3
    by_cases h5 : m = 1
    · rw [hiff.2 (by subst h5; exact ⟨by decide, by decide, by decide⟩)]
      subst h5
      clear hno hiff hf
      go_enter Tryz.func14, Tryz.ntmps14
      go_wp2_with (go_at_call 44; refine (HPA.out _).mono ?_; rintro e w' ⟨rfl, rfl⟩)
      go_ret
      exact ⟨rfl, (by repeat (first | exact Below.refl _ _ | assumption | refine Below.drew ?_ | refine below_drewN ?_ _ | refine Below.alloc ?_ (by (try simp) <;> omega) _ | refine Below.setCell ?_ (by (try simp) <;> omega) _ | refine Below.trans ?_ (Below.mono (by assumption) (by (try simp) <;> omega))))⟩
    · rw [hf (by rw [if_pos rfl]; omega)]
      clear hno hiff hf
      have hm : (m == 1) = false := by simp; omega
      go_enter Tryz.func14, Tryz.ntmps14
      go_wp2_with (go_at_call 44; refine (HPA.out _).mono ?_; rintro e w' ⟨rfl, rfl⟩)
      go_ret
      exact ⟨ret_bool (by first | rfl | simpa using h5), (by repeat (first | exact Below.refl _ _ | assumption | refine Below.drew ?_ | refine below_drewN ?_ _ | refine Below.alloc ?_ (by (try simp) <;> omega) _ | refine Below.setCell ?_ (by (try simp) <;> omega) _ | refine Below.trans ?_ (Below.mono (by assumption) (by (try simp) <;> omega))))⟩
  · rw [hf (by omega)]
    clear hno hiff hf
    go_enter Tryz.func14, Tryz.ntmps14
    go_wp2_with (go_at_call 44; refine (HPA.out _).mono ?_; rintro e w' ⟨rfl, rfl⟩)
    go_ret
    exact ⟨ret_bool (by first | rfl | simpa using h4 | simpa using h3 | simp [h3, h4]), (by repeat (first | exact Below.refl _ _ | assumption | refine Below.drew ?_ | refine below_drewN ?_ _ | refine Below.alloc ?_ (by (try simp) <;> omega) _ | refine Below.setCell ?_ (by (try simp) <;> omega) _ | refine Below.trans ?_ (Below.mono (by assumption) (by (try simp) <;> omega))))⟩
set_option maxRecDepth 100000 in
set_option maxHeartbeats 4000000 in
theorem put8_any (l m : List Int) (n : Int) (b : Bool) (hl : Line8 l) (hm : Line8 m) (w : World) : Calls Tryz.prog 10 #[.agg (lnA l), .agg (lnA m), .int .i64 n, .bool b] w fun e w' => e = .returned (.bool (if b = true then l == m && n == 0 else l == zeros8 && n == 2)) ∧ Below w.heap.size w w' := by
  obtain ⟨L, hL⟩ : ∃ L, lnA l = L := ⟨_, rfl⟩
  obtain ⟨M, hM⟩ : ∃ M, lnA m = M := ⟨_, rfl⟩
  have HN := Lib.hid num8_any
  have hE1 : ∀ V, (Op.equalIn 10000 31 (.agg L) (.agg M)).run Tryz.prog V = .ok (l == m) V := fun V => by rw [← hL, ← hM]; exact eql_line Tryz.underlying31 l m hl.1 hm.1 V
  have hE2 : ∀ V, (Op.equalIn 10000 31 (.agg L) (.agg #[.int .u64 0, .int .u64 0, .int .u64 0, .int .u64 0, .int .u64 0, .int .u64 0, .int .u64 0, .int .u64 0])).run Tryz.prog V = .ok (l == zeros8) V := fun V => by rw [← hL]; exact eql_line Tryz.underlying31 l zeros8 hl.1 rfl V
  obtain ⟨W1, hW1⟩ : ∃ W1, (w.alloc (.cells L 31)).alloc (.cells M 31) = W1 := ⟨_, rfl⟩
  have hb1 : Below w.heap.size w W1 := by rw [← hW1]; exact (by repeat (first | exact Below.refl _ _ | assumption | refine Below.drew ?_ | refine below_drewN ?_ _ | refine Below.alloc ?_ (by (try simp) <;> omega) _ | refine Below.setCell ?_ (by (try simp) <;> omega) _ | refine Below.trans ?_ (Below.mono (by assumption) (by (try simp) <;> omega))))
  have bL : Blk W1 w.heap.size 31 L := by rw [← hW1]; exact (Blk.new w _ _).below (n := w.heap.size + 1) ((Below.refl _ _).alloc (by simp) _) (by omega)
  have bM : Blk W1 (w.heap.size + 1) 31 M := by
    rw [← hW1]
    have := Blk.new (w.alloc (.cells L 31)) 31 M
    rw [World.size_alloc] at this
    exact this
  have HL1 : Hid ((Instr.loadAt 31 (.pointer (some ⟨w.heap.size, 0, none⟩))).run Tryz.prog ((w.alloc (.cells L 31)).alloc (.cells M 31)) = .ok (.agg L) ((w.alloc (.cells L 31)).alloc (.cells M 31))) := show _ = _ from by
    rw [hW1]
    exact bL.load (tt := 31) Tryz.underlying31 rfl (by rw [← hL, lnA_size, hl.1]; kernel_rfl)
  have HL2 : Hid ((Instr.loadAt 31 (.pointer (some ⟨w.heap.size + 1, 0, none⟩))).run Tryz.prog ((w.alloc (.cells L 31)).alloc (.cells M 31)) = .ok (.agg M) ((w.alloc (.cells L 31)).alloc (.cells M 31))) := show _ = _ from by
    rw [hW1]
    exact bM.load (tt := 31) Tryz.underlying31 rfl (by rw [← hM, lnA_size, hm.1]; kernel_rfl)
  have e1 := hE1 ((w.alloc (.cells L 31)).alloc (.cells M 31))
  have e2 := hE2 ((w.alloc (.cells L 31)).alloc (.cells M 31))
  have HB := Lib.hid hb1
  have HW := Lib.hid hW1
  obtain ⟨p, hp⟩ : ∃ p, (l == m) = p := ⟨_, rfl⟩
  obtain ⟨q, hq⟩ : ∃ q, (l == zeros8) = q := ⟨_, rfl⟩
  rw [hL, hM]
  rw [hp] at e1 ⊢
  rw [hq] at e2 ⊢
  clear hE1 hE2 bL bM hb1 hW1 hp hq hL hM hl hm
  cases b
  · cases q
    · go_enter Tryz.func10, Tryz.ntmps10
      go_wp2_with (first | (refine ndList_load rfl 31 _ rfl _ _ rfl HL1.out ?_) | (go_at_call 20; refine (HN.out _ _).mono ?_; rintro e w' ⟨rfl, rfl⟩))
      go_ret
      exact ⟨rfl, (by rw [HW.out]; exact HB.out)⟩
    · go_enter Tryz.func10, Tryz.ntmps10
      go_wp2_with (first | (refine ndList_load rfl 31 _ rfl _ _ rfl HL1.out ?_) | (go_at_call 20; refine (HN.out _ _).mono ?_; rintro e w' ⟨rfl, rfl⟩))
      go_ret
      exact ⟨ret_bool (by simp), (by rw [HW.out]; exact HB.out)⟩
  · cases p
    · go_enter Tryz.func10, Tryz.ntmps10
      go_wp2_with (first | (refine ndList_load rfl 31 _ rfl _ _ rfl HL1.out ?_) | (refine ndList_load rfl 31 _ rfl _ _ rfl HL2.out ?_) | (go_at_call 20; refine (HN.out _ _).mono ?_; rintro e w' ⟨rfl, rfl⟩))
      go_ret
      exact ⟨rfl, (by rw [HW.out]; exact HB.out)⟩
    · go_enter Tryz.func10, Tryz.ntmps10
      go_wp2_with (first | (refine ndList_load rfl 31 _ rfl _ _ rfl HL1.out ?_) | (refine ndList_load rfl 31 _ rfl _ _ rfl HL2.out ?_) | (go_at_call 20; refine (HN.out _ _).mono ?_; rintro e w' ⟨rfl, rfl⟩))
      go_ret
      exact ⟨ret_bool (by simp), (by rw [HW.out]; exact HB.out)⟩
end Go.Proofs.YtfdnlgmgjmbafaaGreatDoor
