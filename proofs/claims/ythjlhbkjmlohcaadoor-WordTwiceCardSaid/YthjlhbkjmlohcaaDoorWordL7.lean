/-
  The walk of the law WordTwice.
-/
import Derived.Test.YthjlhbkjmlohcaaDoorWordL6
namespace Go.Proofs.YthjlhbkjmlohcaaDoor
open Go.RowKit Go.Shelf

section
variable {x n0 n1 A B X : Nat} {f v g u : Int} {w : World}
set_option maxRecDepth 100000 in
set_option maxHeartbeats 2000000 in
theorem twiceW_err (k h : Int) (hkh : (k = 2 ∧ h = 0) ∨ (k = 2 ∧ h = 2) ∨ (k = 0 ∧ h = 2)) (ht : Tabs w) (P1 : PutIs w x f v n0 A k) (P2 : PutIs w A f v n1 B h) :
    Calls Tryd.prog 5 #[.int .u64 x, .agg #[.int .i64 f, .int .i64 v], .agg #[.int .i64 g, .int .i64 u], .agg #[.int .u64 n0, .int .u64 n1]] w fun e w' => e = .returned (.bool true) ∧ Below w.heap.size w w' := by
  have z0 := ht.room
  have Q1 := Lib.hid P1; clear P1
  have Q2 := Lib.hid P2; clear P2
  rcases hkh with ⟨rfl, rfl⟩ | ⟨rfl, rfl⟩ | ⟨rfl, rfl⟩
  all_goals
    go_enter Tryd.func5, Tryd.ntmps5
    go_wp2_with fail
    have S0 := six_new w f v g u n0 n1
    have b0 : Below w.heap.size w (((w.alloc (.cells #[.int .i64 f, .int .i64 v] 33)).alloc (.cells #[.int .i64 g, .int .i64 u] 33)).alloc (.cells #[.int .u64 n0, .int .u64 n1] 34)) := (by repeat (first | exact Below.refl _ _ | assumption | refine Below.drew ?_ | refine below_drewN ?_ _ | refine Below.alloc ?_ (by (try simp) <;> omega) _ | refine Below.setCell ?_ (by (try simp) <;> omega) _ | refine Below.trans ?_ (Below.mono (by assumption) (by (try simp) <;> omega))))
    have zz : w.heap.size + 3 ≤ (((w.alloc (.cells #[.int .i64 f, .int .i64 v] 33)).alloc (.cells #[.int .i64 g, .int .i64 u] 33)).alloc (.cells #[.int .u64 n0, .int .u64 n1] 34)).heap.size := by simp
    generalize (((w.alloc (.cells #[.int .i64 f, .int .i64 v] 33)).alloc (.cells #[.int .i64 g, .int .i64 u] 33)).alloc (.cells #[.int .u64 n0, .int .u64 n1] 34)) = W0 at *
    obtain ⟨p1, p2, p3, p4, p5, p6⟩ := id S0
    refine (Q1.out _ b0).mono ?_
    rintro e w1 ⟨rfl, hb1⟩
    clear p1 p2 p3 p4 p5 p6
    have S1 := S0.below zz hb1
    have b1 := b0.trans (hb1.mono b0.size)
    have zz1 := Nat.le_trans zz hb1.size
    clear S0 zz b0 hb1
    obtain ⟨p1, p2, p3, p4, p5, p6⟩ := id S1
    go_wp2_with fail
    refine (Q2.out _ b1).mono ?_
    rintro e w2 ⟨rfl, hb2⟩
    clear p1 p2 p3 p4 p5 p6
    have S2 := S1.below zz1 hb2
    have b2 := b1.trans (hb2.mono b1.size)
    have zz2 := Nat.le_trans zz1 hb2.size
    clear S1 zz1 b1 hb2
    obtain ⟨p1, p2, p3, p4, p5, p6⟩ := id S2
    go_wp2_with (go_at_call 12; refine (num_any _ _).mono ?_; rintro e w' ⟨rfl, rfl⟩)
    refine (works_any _ (ht.below b2 z0)).mono ?_
    rintro e wz ⟨rfl, hbz⟩
    go_wp2_with fail
    go_ret
    exact ⟨rfl, b2.trans (hbz.mono b2.size)⟩
set_option maxRecDepth 100000 in
set_option maxHeartbeats 2000000 in
theorem twiceW_skip (ht : Tabs w) (P1 : PutIs w x f v n0 A 0) (P2 : PutIs w A f v n1 B 0) (P3 : PutIs w x f v n1 B 0) (PA : ApartIs w f v g u false) :
    Calls Tryd.prog 5 #[.int .u64 x, .agg #[.int .i64 f, .int .i64 v], .agg #[.int .i64 g, .int .i64 u], .agg #[.int .u64 n0, .int .u64 n1]] w fun e w' => e = .returned (.bool true) ∧ Below w.heap.size w w' := by
  have z0 := ht.room
  have Q1 := Lib.hid P1; clear P1
  have Q2 := Lib.hid P2; clear P2
  have Q3 := Lib.hid P3; clear P3
  have QA := Lib.hid PA; clear PA
  · skip
    go_enter Tryd.func5, Tryd.ntmps5
    go_wp2_with fail
    have S0 := six_new w f v g u n0 n1
    have b0 : Below w.heap.size w (((w.alloc (.cells #[.int .i64 f, .int .i64 v] 33)).alloc (.cells #[.int .i64 g, .int .i64 u] 33)).alloc (.cells #[.int .u64 n0, .int .u64 n1] 34)) := (by repeat (first | exact Below.refl _ _ | assumption | refine Below.drew ?_ | refine below_drewN ?_ _ | refine Below.alloc ?_ (by (try simp) <;> omega) _ | refine Below.setCell ?_ (by (try simp) <;> omega) _ | refine Below.trans ?_ (Below.mono (by assumption) (by (try simp) <;> omega))))
    have zz : w.heap.size + 3 ≤ (((w.alloc (.cells #[.int .i64 f, .int .i64 v] 33)).alloc (.cells #[.int .i64 g, .int .i64 u] 33)).alloc (.cells #[.int .u64 n0, .int .u64 n1] 34)).heap.size := by simp
    generalize (((w.alloc (.cells #[.int .i64 f, .int .i64 v] 33)).alloc (.cells #[.int .i64 g, .int .i64 u] 33)).alloc (.cells #[.int .u64 n0, .int .u64 n1] 34)) = W0 at *
    obtain ⟨p1, p2, p3, p4, p5, p6⟩ := id S0
    refine (Q1.out _ b0).mono ?_
    rintro e w1 ⟨rfl, hb1⟩
    clear p1 p2 p3 p4 p5 p6
    have S1 := S0.below zz hb1
    have b1 := b0.trans (hb1.mono b0.size)
    have zz1 := Nat.le_trans zz hb1.size
    clear S0 zz b0 hb1
    obtain ⟨p1, p2, p3, p4, p5, p6⟩ := id S1
    go_wp2_with fail
    refine (Q2.out _ b1).mono ?_
    rintro e w2 ⟨rfl, hb2⟩
    clear p1 p2 p3 p4 p5 p6
    have S2 := S1.below zz1 hb2
    have b2 := b1.trans (hb2.mono b1.size)
    have zz2 := Nat.le_trans zz1 hb2.size
    clear S1 zz1 b1 hb2
    obtain ⟨p1, p2, p3, p4, p5, p6⟩ := id S2
    go_wp2_with (go_at_call 12; refine (num_any _ _).mono ?_; rintro e w' ⟨rfl, rfl⟩)
    refine (Q3.out _ b2).mono ?_
    rintro e w3 ⟨rfl, hb3⟩
    clear p1 p2 p3 p4 p5 p6
    have S3 := S2.below zz2 hb3
    have b3 := b2.trans (hb3.mono b2.size)
    have zz3 := Nat.le_trans zz2 hb3.size
    clear S2 zz2 b2 hb3
    obtain ⟨p1, p2, p3, p4, p5, p6⟩ := id S3
    go_wp2_with (go_at_call 12; refine (num_any _ _).mono ?_; rintro e w' ⟨rfl, rfl⟩)
    refine (QA.out _ b3).mono ?_
    rintro e w4 ⟨rfl, hb4⟩
    clear p1 p2 p3 p4 p5 p6
    have S4 := S3.below zz3 hb4
    have b4 := b3.trans (hb4.mono b3.size)
    have zz4 := Nat.le_trans zz3 hb4.size
    clear S3 zz3 b3 hb4
    obtain ⟨p1, p2, p3, p4, p5, p6⟩ := id S4
    go_wp2_with fail
    refine (works_any _ (ht.below b4 z0)).mono ?_
    rintro e wz ⟨rfl, hbz⟩
    go_wp2_with fail
    go_ret
    exact ⟨rfl, b4.trans (hbz.mono b4.size)⟩
set_option maxRecDepth 100000 in
set_option maxHeartbeats 2000000 in
theorem twiceW_all (ht : Tabs w) (P1 : PutIs w x f v n0 A 0) (P2 : PutIs w A f v n1 B 0) (P3 : PutIs w x f v n1 B 0) (PA : ApartIs w f v g u true) (G1 : GetIs w x g u X 0) (G2 : GetIs w B g u X 0) :
    Calls Tryd.prog 5 #[.int .u64 x, .agg #[.int .i64 f, .int .i64 v], .agg #[.int .i64 g, .int .i64 u], .agg #[.int .u64 n0, .int .u64 n1]] w fun e w' => e = .returned (.bool true) ∧ Below w.heap.size w w' := by
  have z0 := ht.room
  have Q1 := Lib.hid P1; clear P1
  have Q2 := Lib.hid P2; clear P2
  have Q3 := Lib.hid P3; clear P3
  have QA := Lib.hid PA; clear PA
  have R1 := Lib.hid G1; clear G1
  have R2 := Lib.hid G2; clear G2
  · skip
    go_enter Tryd.func5, Tryd.ntmps5
    go_wp2_with fail
    have S0 := six_new w f v g u n0 n1
    have b0 : Below w.heap.size w (((w.alloc (.cells #[.int .i64 f, .int .i64 v] 33)).alloc (.cells #[.int .i64 g, .int .i64 u] 33)).alloc (.cells #[.int .u64 n0, .int .u64 n1] 34)) := (by repeat (first | exact Below.refl _ _ | assumption | refine Below.drew ?_ | refine below_drewN ?_ _ | refine Below.alloc ?_ (by (try simp) <;> omega) _ | refine Below.setCell ?_ (by (try simp) <;> omega) _ | refine Below.trans ?_ (Below.mono (by assumption) (by (try simp) <;> omega))))
    have zz : w.heap.size + 3 ≤ (((w.alloc (.cells #[.int .i64 f, .int .i64 v] 33)).alloc (.cells #[.int .i64 g, .int .i64 u] 33)).alloc (.cells #[.int .u64 n0, .int .u64 n1] 34)).heap.size := by simp
    generalize (((w.alloc (.cells #[.int .i64 f, .int .i64 v] 33)).alloc (.cells #[.int .i64 g, .int .i64 u] 33)).alloc (.cells #[.int .u64 n0, .int .u64 n1] 34)) = W0 at *
    obtain ⟨p1, p2, p3, p4, p5, p6⟩ := id S0
    refine (Q1.out _ b0).mono ?_
    rintro e w1 ⟨rfl, hb1⟩
    clear p1 p2 p3 p4 p5 p6
    have S1 := S0.below zz hb1
    have b1 := b0.trans (hb1.mono b0.size)
    have zz1 := Nat.le_trans zz hb1.size
    clear S0 zz b0 hb1
    obtain ⟨p1, p2, p3, p4, p5, p6⟩ := id S1
    go_wp2_with fail
    refine (Q2.out _ b1).mono ?_
    rintro e w2 ⟨rfl, hb2⟩
    clear p1 p2 p3 p4 p5 p6
    have S2 := S1.below zz1 hb2
    have b2 := b1.trans (hb2.mono b1.size)
    have zz2 := Nat.le_trans zz1 hb2.size
    clear S1 zz1 b1 hb2
    obtain ⟨p1, p2, p3, p4, p5, p6⟩ := id S2
    go_wp2_with (go_at_call 12; refine (num_any _ _).mono ?_; rintro e w' ⟨rfl, rfl⟩)
    refine (Q3.out _ b2).mono ?_
    rintro e w3 ⟨rfl, hb3⟩
    clear p1 p2 p3 p4 p5 p6
    have S3 := S2.below zz2 hb3
    have b3 := b2.trans (hb3.mono b2.size)
    have zz3 := Nat.le_trans zz2 hb3.size
    clear S2 zz2 b2 hb3
    obtain ⟨p1, p2, p3, p4, p5, p6⟩ := id S3
    go_wp2_with (go_at_call 12; refine (num_any _ _).mono ?_; rintro e w' ⟨rfl, rfl⟩)
    refine (QA.out _ b3).mono ?_
    rintro e w4 ⟨rfl, hb4⟩
    clear p1 p2 p3 p4 p5 p6
    have S4 := S3.below zz3 hb4
    have b4 := b3.trans (hb4.mono b3.size)
    have zz4 := Nat.le_trans zz3 hb4.size
    clear S3 zz3 b3 hb4
    obtain ⟨p1, p2, p3, p4, p5, p6⟩ := id S4
    go_wp2_with fail
    refine (R1.out _ b4).mono ?_
    rintro e w5 ⟨rfl, hb5⟩
    clear p1 p2 p3 p4 p5 p6
    have S5 := S4.below zz4 hb5
    have b5 := b4.trans (hb5.mono b4.size)
    have zz5 := Nat.le_trans zz4 hb5.size
    clear S4 zz4 b4 hb5
    obtain ⟨p1, p2, p3, p4, p5, p6⟩ := id S5
    go_wp2_with fail
    refine (R2.out _ b5).mono ?_
    rintro e w6 ⟨rfl, hb6⟩
    clear p1 p2 p3 p4 p5 p6
    have S6 := S5.below zz5 hb6
    have b6 := b5.trans (hb6.mono b5.size)
    have zz6 := Nat.le_trans zz5 hb6.size
    clear S5 zz5 b5 hb6
    obtain ⟨p1, p2, p3, p4, p5, p6⟩ := id S6
    go_wp2_with (go_at_call 12; refine (num_any _ _).mono ?_; rintro e w' ⟨rfl, rfl⟩)
    refine (works_any _ (ht.below b6 z0)).mono ?_
    rintro e wz ⟨rfl, hbz⟩
    go_wp2_with fail
    go_ret
    exact ⟨rfl, b6.trans (hbz.mono b6.size)⟩
end
theorem twiceL_any (x n0 n1 : Nat) (f v g u : Int) (hx : x < 18446744073709551616) (hn0 : n0 < 18446744073709551616) (hn1 : n1 < 18446744073709551616) (hf : -9223372036854775808 ≤ f ∧ f ≤ 9223372036854775807) (hv : -9223372036854775808 ≤ v ∧ v ≤ 9223372036854775807) (hg : -9223372036854775808 ≤ g ∧ g ≤ 9223372036854775807) (hu : -9223372036854775808 ≤ u ∧ u ≤ 9223372036854775807) (w : World) (ht : Tabs w) :
    Calls Tryd.prog 5 #[.int .u64 x, .agg #[.int .i64 f, .int .i64 v], .agg #[.int .i64 g, .int .i64 u], .agg #[.int .u64 n0, .int .u64 n1]] w fun e w' => e = .returned (.bool true) ∧ Below w.heap.size w w' := by
  by_cases h1 : WM.okF f v = true ∧ n0 < 2 ^ v.toNat
  · by_cases h2 : WM.okF f v = true ∧ n1 < 2 ^ v.toNat
    · obtain ⟨hok, hlt⟩ := h1
      have hlt2 := h2.2
      have hfi : FieldInts [(f, v), (g, u)] := fun y hy => by
        simp only [List.mem_cons, List.not_mem_nil, or_false] at hy
        rcases hy with rfl | rfl
        · exact ⟨hf.1, hf.2, hv.1, hv.2⟩
        · exact ⟨hg.1, hg.2, hu.1, hu.2⟩
      have PA := apartIs w ht f v g u hfi
      obtain ⟨a, b, rfl, rfl, q1, q2, q3⟩ := WM.okF_parts f v hok
      have hlt' : n0 < 2 ^ b := by simpa using hlt
      have hlt2' : n1 < 2 ^ b := by simpa using hlt2
      have P1 := putIs_yes w ht x n0 a b hx q1 q2 q3 hlt'
      have hA := WM.putN_lt x a b n0 hx
      have P2 := putIs_yes w ht (WM.putN x a b n0) n1 a b hA q1 q2 q3 hlt2'
      rw [WM.put_put x a b n0 n1 q1 hlt' hlt2' hx] at P2
      have P3 := putIs_yes w ht x n1 a b hx q1 q2 q3 hlt2'
      cases hap : WM.apartFrom 0 [((a : Int), (b : Int)), (g, u)] with
      | false =>
        rw [hap] at PA
        exact twiceW_skip ht P1 P2 P3 PA
      | true =>
        rw [hap] at PA
        obtain ⟨c, d, rfl, rfl, r1, r2, r3⟩ := WM.okF_parts g u (apart_ok _ _ _ _ hap).2
        have had := WM.apart_two a b c d q1 r1 hap
        have G1 := getIs_yes w ht x c d hx r1 r2 r3
        have G2 := getIs_yes w ht (WM.putN x a b n1) c d (WM.putN_lt x a b n1 hx) r1 r2 r3
        rw [WM.get_other x a b n1 c d q1 hlt2' hx had] at G2
        exact twiceW_all ht P1 P2 P3 PA G1 G2
    · obtain ⟨hok, hlt⟩ := h1
      obtain ⟨a, b, rfl, rfl, q1, q2, q3⟩ := WM.okF_parts f v hok
      have hlt' : n0 < 2 ^ b := by simpa using hlt
      exact twiceW_err 0 2 (.inr (.inr ⟨rfl, rfl⟩)) ht (putIs_yes w ht x n0 a b hx q1 q2 q3 hlt') (putIs_no w ht (WM.putN x a b n0) n1 _ _ (WM.putN_lt x a b n0 hx) hn1 hf.1 h2)
  · have P1 := putIs_no w ht x n0 f v hx hn0 hf.1 h1
    by_cases h2 : WM.okF f v = true ∧ n1 < 2 ^ v.toNat
    · obtain ⟨a, b, rfl, rfl, q1, q2, q3⟩ := WM.okF_parts f v h2.1
      exact twiceW_err 2 0 (.inl ⟨rfl, rfl⟩) ht P1 (putIs_yes w ht 0 n1 a b (by decide) q1 q2 q3 (by simpa using h2.2))
    · exact twiceW_err 2 2 (.inr (.inl ⟨rfl, rfl⟩)) ht P1 (putIs_no w ht 0 n1 f v (by decide) hn1 hf.1 h2)
end Go.Proofs.YthjlhbkjmlohcaaDoor
