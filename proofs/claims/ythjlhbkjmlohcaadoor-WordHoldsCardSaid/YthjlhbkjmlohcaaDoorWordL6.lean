/-
  The walk of the law WordHolds.
-/
import Derived.Test.YthjlhbkjmlohcaaDoorWordX
namespace Go.Proofs.YthjlhbkjmlohcaaDoor
open Go.RowKit Go.Shelf

namespace WM
/-- What Put answers. -/
def putR (x : Nat) (f v : Int) (m : Nat) : Nat × Int := if okF f v = true ∧ m < 2 ^ v.toNat then (putN x f.toNat v.toNat m, 0) else (0, 2)
/-- What Get answers. -/
def getR (x : Nat) (f v : Int) : Nat × Int := if okF f v = true then (getN x f.toNat v.toNat, 0) else (0, 2)
end WM
theorem put_gen (x m : Nat) (f v : Int) (hx : x < 18446744073709551616) (hm : m < 18446744073709551616) (hf : -9223372036854775808 ≤ f) (w : World) (ht : Tabs w) :
    Calls Tryd.prog 11 #[.int .u64 x, .agg #[.int .i64 f, .int .i64 v], .int .u64 m] w fun e w' => e = .returned (.tuple #[.int .u64 (WM.putR x f v m).1, .int .i64 (WM.putR x f v m).2]) ∧ Below w.heap.size w w' := by
  cases h : WM.okF f v with
  | false =>
    have e : WM.putR x f v m = (0, 2) := by unfold WM.putR; rw [if_neg (by simp [h])]
    rw [e]; exact put_no f v x m h hf w
  | true =>
    obtain ⟨a, b, rfl, rfl, h1, h2, h3⟩ := WM.okF_parts f v h
    by_cases hs : m < 2 ^ b
    · have e : WM.putR x a b m = (WM.putN x a b m, 0) := by unfold WM.putR; rw [if_pos ⟨h, by simpa using hs⟩]; simp
      rw [e]; exact put_yes a b x m h1 h2 h3 hx hs w ht
    · have e : WM.putR x a b m = (0, 2) := by unfold WM.putR; rw [if_neg (by simp; intro _; omega)]
      rw [e]; exact put_big a b x m h1 h2 h3 hm hs w ht
theorem get_gen (x : Nat) (f v : Int) (hx : x < 18446744073709551616) (hf : -9223372036854775808 ≤ f) (w : World) (ht : Tabs w) :
    Calls Tryd.prog 13 #[.int .u64 x, .agg #[.int .i64 f, .int .i64 v]] w fun e w' => e = .returned (.tuple #[.int .u64 (WM.getR x f v).1, .int .i64 (WM.getR x f v).2]) ∧ Below w.heap.size w w' := by
  cases h : WM.okF f v with
  | false =>
    have e : WM.getR x f v = (0, 2) := by unfold WM.getR; rw [if_neg (by simp [h])]
    rw [e]; exact get_no f v x h hf w
  | true =>
    obtain ⟨a, b, rfl, rfl, h1, h2, h3⟩ := WM.okF_parts f v h
    have e : WM.getR x a b = (WM.getN x a b, 0) := by unfold WM.getR; rw [if_pos h]; simp
    rw [e]; exact get_yes a b x h1 h2 h3 hx w ht
/-- Put, of these, answers that, in each world that comes of w. -/
def PutIs (w : World) (x : Nat) (f v : Int) (m r : Nat) (k : Int) : Prop := ∀ W, Below w.heap.size w W → Calls Tryd.prog 11 #[.int .u64 x, .agg #[.int .i64 f, .int .i64 v], .int .u64 m] W fun e w' => e = .returned (.tuple #[.int .u64 r, .int .i64 k]) ∧ Below W.heap.size W w'
/-- Get, of these, answers that. -/
def GetIs (w : World) (x : Nat) (f v : Int) (r : Nat) (k : Int) : Prop := ∀ W, Below w.heap.size w W → Calls Tryd.prog 13 #[.int .u64 x, .agg #[.int .i64 f, .int .i64 v]] W fun e w' => e = .returned (.tuple #[.int .u64 r, .int .i64 k]) ∧ Below W.heap.size W w'
/-- Apart, of two fields, answers that. -/
def ApartIs (w : World) (f v g u : Int) (b : Bool) : Prop := ∀ W, Below w.heap.size w W → Calls Tryd.prog 9 #[.slice (some ⟨W.heap.size, 0, none⟩) 2 2] (W.alloc (.cells #[.int .i64 f, .int .i64 v, .int .i64 g, .int .i64 u] 33)) fun e w' => e = .returned (.bool b) ∧ Below W.heap.size W w'
/-- What the law lays first: two fields, two numbers. -/
def Six (b : Nat) (f v g u : Int) (n0 n1 : Nat) (W : World) : Prop :=
  W.cell? ⟨b, 0, none⟩ = some (.int .i64 f) ∧ W.cell? ⟨b, 1, none⟩ = some (.int .i64 v) ∧ W.cell? ⟨b + 1, 0, none⟩ = some (.int .i64 g) ∧ W.cell? ⟨b + 1, 1, none⟩ = some (.int .i64 u) ∧ W.cell? ⟨b + 1 + 1, 0, none⟩ = some (.int .u64 n0) ∧ W.cell? ⟨b + 1 + 1, 1, none⟩ = some (.int .u64 n1)
theorem Six.below {b : Nat} {f v g u : Int} {n0 n1 : Nat} {W W' : World} (h : Six b f v g u n0 n1 W) (hs : b + 3 ≤ W.heap.size) (hb : Below W.heap.size W W') : Six b f v g u n0 n1 W' := by
  obtain ⟨h1, h2, h3, h4, h5, h6⟩ := h
  exact ⟨(hb.cell (p := ⟨b, 0, none⟩) (show b < _ by omega)).trans h1, (hb.cell (p := ⟨b, 1, none⟩) (show b < _ by omega)).trans h2, (hb.cell (p := ⟨b + 1, 0, none⟩) (show b + 1 < _ by omega)).trans h3, (hb.cell (p := ⟨b + 1, 1, none⟩) (show b + 1 < _ by omega)).trans h4, (hb.cell (p := ⟨b + 1 + 1, 0, none⟩) (show b + 1 + 1 < _ by omega)).trans h5, (hb.cell (p := ⟨b + 1 + 1, 1, none⟩) (show b + 1 + 1 < _ by omega)).trans h6⟩
theorem six_new (w : World) (f v g u : Int) (n0 n1 : Nat) : Six w.heap.size f v g u n0 n1 (((w.alloc (.cells #[.int .i64 f, .int .i64 v] 33)).alloc (.cells #[.int .i64 g, .int .i64 u] 33)).alloc (.cells #[.int .u64 n0, .int .u64 n1] 34)) := by
  refine ⟨?_, ?_, ?_, ?_, ?_, ?_⟩ <;> simp [go_sem]
theorem pairF (w : World) (f v g u : Int) : SlF (w.alloc (.cells #[.int .i64 f, .int .i64 v, .int .i64 g, .int .i64 u] 33)) (.slice (some ⟨w.heap.size, 0, none⟩) 2 2) [(f, v), (g, u)] := by
  refine ⟨_, 2, rfl, Nat.le_refl _, fun _ => ⟨w.heap.size, 0, rfl, by simp, fun j hj => ?_⟩⟩
  have hj9 : j < 2 := hj
  have : j = 0 ∨ j = 1 := by omega
  rcases this with rfl | rfl <;> simp [go_sem]
theorem apartIs (w : World) (ht : Tabs w) (f v g u : Int) (hf : FieldInts [(f, v), (g, u)]) : ApartIs w f v g u (WM.apartFrom 0 [(f, v), (g, u)]) := fun W hb =>
  (apart_any _ [(f, v), (g, u)] (by simp) hf _ ((ht.below hb ht.room).below ((Below.refl _ _).alloc (Nat.le_refl _) _) (ht.below hb ht.room).room) (pairF W f v g u)).mono fun _ _ ⟨h1, h2⟩ => ⟨h1, ((Below.refl _ _).alloc (Nat.le_refl _) _).trans (h2.mono (by simp))⟩
section
variable {x n0 n1 A Y C D : Nat} {f v g u : Int} {w : World}
set_option maxRecDepth 100000 in
set_option maxHeartbeats 2000000 in
theorem holdsW_err (ht : Tabs w) (P1 : PutIs w x f v n0 A 2) :
    Calls Tryd.prog 4 #[.int .u64 x, .agg #[.int .i64 f, .int .i64 v], .agg #[.int .i64 g, .int .i64 u], .agg #[.int .u64 n0, .int .u64 n1]] w fun e w' => e = .returned (.bool true) ∧ Below w.heap.size w w' := by
  have z0 := ht.room
  have Q1 := Lib.hid P1; clear P1
  go_enter Tryd.func4, Tryd.ntmps4
  go_wp2_with fail
  refine (Q1.out _ (by repeat (first | exact Below.refl _ _ | assumption | refine Below.drew ?_ | refine below_drewN ?_ _ | refine Below.alloc ?_ (by (try simp) <;> omega) _ | refine Below.setCell ?_ (by (try simp) <;> omega) _ | refine Below.trans ?_ (Below.mono (by assumption) (by (try simp) <;> omega))))).mono ?_
  rintro e w1 ⟨rfl, hb1⟩
  have b1 : Below w.heap.size w w1 := (((((Below.refl _ _).alloc (Nat.le_refl _) _).alloc (by simp) _).alloc (by simp; omega) _).trans (hb1.mono (by simp; omega)))
  go_wp2_with (go_at_call 12; refine (num_any _ _).mono ?_; rintro e w' ⟨rfl, rfl⟩)
  refine (works_any _ (ht.below b1 z0)).mono ?_
  rintro e w2 ⟨rfl, hb2⟩
  go_wp2_with fail
  go_ret
  exact ⟨rfl, b1.trans (hb2.mono b1.size)⟩
set_option maxRecDepth 100000 in
set_option maxHeartbeats 2000000 in
theorem holdsW_skip (k : Int) (b : Bool) (hbk : b = false ∨ (b = true ∧ k = 2)) (ht : Tabs w) (P1 : PutIs w x f v n0 A 0) (G1 : GetIs w A f v n0 0) (G2 : GetIs w x f v Y 0) (P2 : PutIs w x f v Y x 0) (P3 : PutIs w A g u n1 C k) (PA : ApartIs w f v g u b) :
    Calls Tryd.prog 4 #[.int .u64 x, .agg #[.int .i64 f, .int .i64 v], .agg #[.int .i64 g, .int .i64 u], .agg #[.int .u64 n0, .int .u64 n1]] w fun e w' => e = .returned (.bool true) ∧ Below w.heap.size w w' := by
  have z0 := ht.room
  have Q1 := Lib.hid P1; clear P1
  have Q2 := Lib.hid P2; clear P2
  have Q3 := Lib.hid P3; clear P3
  have R1 := Lib.hid G1; clear G1
  have R2 := Lib.hid G2; clear G2
  have QA := Lib.hid PA; clear PA
  have hk2 : ((2 : Int) != 0) = true := by decide
  rcases hbk with rfl | ⟨rfl, rfl⟩
  all_goals
    go_enter Tryd.func4, Tryd.ntmps4
    go_wp2_with fail
    have S := six_new w f v g u n0 n1
    have b0 : Below w.heap.size w (((w.alloc (.cells #[.int .i64 f, .int .i64 v] 33)).alloc (.cells #[.int .i64 g, .int .i64 u] 33)).alloc (.cells #[.int .u64 n0, .int .u64 n1] 34)) := (by repeat (first | exact Below.refl _ _ | assumption | refine Below.drew ?_ | refine below_drewN ?_ _ | refine Below.alloc ?_ (by (try simp) <;> omega) _ | refine Below.setCell ?_ (by (try simp) <;> omega) _ | refine Below.trans ?_ (Below.mono (by assumption) (by (try simp) <;> omega))))
    have zz : w.heap.size + 3 ≤ (((w.alloc (.cells #[.int .i64 f, .int .i64 v] 33)).alloc (.cells #[.int .i64 g, .int .i64 u] 33)).alloc (.cells #[.int .u64 n0, .int .u64 n1] 34)).heap.size := by simp
    generalize (((w.alloc (.cells #[.int .i64 f, .int .i64 v] 33)).alloc (.cells #[.int .i64 g, .int .i64 u] 33)).alloc (.cells #[.int .u64 n0, .int .u64 n1] 34)) = W0 at *
    refine (Q1.out _ b0).mono ?_
    rintro e w1 ⟨rfl, hb1⟩
    have S1 := S.below zz hb1
    have b1 := b0.trans (hb1.mono b0.size)
    have zz1 := Nat.le_trans zz hb1.size
    clear S zz b0 hb1
    obtain ⟨p1, p2, p3, p4, p5, p6⟩ := id S1
    go_wp2_with (go_at_call 12; refine (num_any _ _).mono ?_; rintro e w' ⟨rfl, rfl⟩)
    refine (R1.out _ b1).mono ?_
    rintro e w2 ⟨rfl, hb2⟩
    clear p1 p2 p3 p4 p5 p6
    have S2 := S1.below zz1 hb2
    have b2 := b1.trans (hb2.mono b1.size)
    have zz2 := Nat.le_trans zz1 hb2.size
    clear S1 zz1 b1 hb2
    obtain ⟨p1, p2, p3, p4, p5, p6⟩ := id S2
    go_wp2_with fail
    refine (R2.out _ b2).mono ?_
    rintro e w3 ⟨rfl, hb3⟩
    clear p1 p2 p3 p4 p5 p6
    have S3 := S2.below zz2 hb3
    have b3 := b2.trans (hb3.mono b2.size)
    have zz3 := Nat.le_trans zz2 hb3.size
    clear S2 zz2 b2 hb3
    obtain ⟨p1, p2, p3, p4, p5, p6⟩ := id S3
    go_wp2_with fail
    refine (Q2.out _ b3).mono ?_
    rintro e w4 ⟨rfl, hb4⟩
    clear p1 p2 p3 p4 p5 p6
    have S4 := S3.below zz3 hb4
    have b4 := b3.trans (hb4.mono b3.size)
    have zz4 := Nat.le_trans zz3 hb4.size
    clear S3 zz3 b3 hb4
    obtain ⟨p1, p2, p3, p4, p5, p6⟩ := id S4
    go_wp2_with (go_at_call 12; refine (num_any _ _).mono ?_; rintro e w' ⟨rfl, rfl⟩)
    refine (Q3.out _ b4).mono ?_
    rintro e w5 ⟨rfl, hb5⟩
    clear p1 p2 p3 p4 p5 p6
    have S5 := S4.below zz4 hb5
    have b5 := b4.trans (hb5.mono b4.size)
    have zz5 := Nat.le_trans zz4 hb5.size
    clear S4 zz4 b4 hb5
    obtain ⟨p1, p2, p3, p4, p5, p6⟩ := id S5
    go_wp2_with fail
    refine (QA.out _ b5).mono ?_
    rintro e w6 ⟨rfl, hb6⟩
    clear p1 p2 p3 p4 p5 p6
    have b6 := b5.trans (hb6.mono b5.size)
    go_wp2_with (go_at_call 12; refine (num_any _ _).mono ?_; rintro e w' ⟨rfl, rfl⟩)
    refine (works_any _ (ht.below b6 z0)).mono ?_
    rintro e w7 ⟨rfl, hb7⟩
    go_wp2_with fail
    go_ret
    exact ⟨rfl, b6.trans (hb7.mono b6.size)⟩
set_option maxRecDepth 100000 in
set_option maxHeartbeats 2000000 in
theorem holdsW_all (ht : Tabs w) (P1 : PutIs w x f v n0 A 0) (G1 : GetIs w A f v n0 0) (G2 : GetIs w x f v Y 0) (P2 : PutIs w x f v Y x 0) (P3 : PutIs w A g u n1 C 0) (PA : ApartIs w f v g u true) (P4 : PutIs w x g u n1 D 0) (P5 : PutIs w D f v n0 C 0) (G3 : GetIs w C f v n0 0) :
    Calls Tryd.prog 4 #[.int .u64 x, .agg #[.int .i64 f, .int .i64 v], .agg #[.int .i64 g, .int .i64 u], .agg #[.int .u64 n0, .int .u64 n1]] w fun e w' => e = .returned (.bool true) ∧ Below w.heap.size w w' := by
  have z0 := ht.room
  have Q1 := Lib.hid P1; clear P1
  have Q2 := Lib.hid P2; clear P2
  have Q3 := Lib.hid P3; clear P3
  have Q4 := Lib.hid P4; clear P4
  have Q5 := Lib.hid P5; clear P5
  have R1 := Lib.hid G1; clear G1
  have R2 := Lib.hid G2; clear G2
  have R3 := Lib.hid G3; clear G3
  have QA := Lib.hid PA; clear PA
  · skip
    go_enter Tryd.func4, Tryd.ntmps4
    go_wp2_with fail
    have S0 := six_new w f v g u n0 n1
    have b0 : Below w.heap.size w (((w.alloc (.cells #[.int .i64 f, .int .i64 v] 33)).alloc (.cells #[.int .i64 g, .int .i64 u] 33)).alloc (.cells #[.int .u64 n0, .int .u64 n1] 34)) := (by repeat (first | exact Below.refl _ _ | assumption | refine Below.drew ?_ | refine below_drewN ?_ _ | refine Below.alloc ?_ (by (try simp) <;> omega) _ | refine Below.setCell ?_ (by (try simp) <;> omega) _ | refine Below.trans ?_ (Below.mono (by assumption) (by (try simp) <;> omega))))
    have zz : w.heap.size + 3 ≤ (((w.alloc (.cells #[.int .i64 f, .int .i64 v] 33)).alloc (.cells #[.int .i64 g, .int .i64 u] 33)).alloc (.cells #[.int .u64 n0, .int .u64 n1] 34)).heap.size := by simp
    generalize (((w.alloc (.cells #[.int .i64 f, .int .i64 v] 33)).alloc (.cells #[.int .i64 g, .int .i64 u] 33)).alloc (.cells #[.int .u64 n0, .int .u64 n1] 34)) = W0 at *
    obtain ⟨p1, p2, p3, p4, p5, p6⟩ := id S0
    refine (Q1.out _ b0).mono ?_
    rintro e w1 ⟨rfl, hb1⟩
    clear p1 p2 p3 p4 p5 p6
    have S1 := S0.below zz hb1
    have b1 := b0.trans (hb1.mono b0.size)
    have zz1 := Nat.le_trans zz hb1.size
    clear S0 zz b0 hb1
    obtain ⟨p1, p2, p3, p4, p5, p6⟩ := id S1
    go_wp2_with (go_at_call 12; refine (num_any _ _).mono ?_; rintro e w' ⟨rfl, rfl⟩)
    refine (R1.out _ b1).mono ?_
    rintro e w2 ⟨rfl, hb2⟩
    clear p1 p2 p3 p4 p5 p6
    have S2 := S1.below zz1 hb2
    have b2 := b1.trans (hb2.mono b1.size)
    have zz2 := Nat.le_trans zz1 hb2.size
    clear S1 zz1 b1 hb2
    obtain ⟨p1, p2, p3, p4, p5, p6⟩ := id S2
    go_wp2_with fail
    refine (R2.out _ b2).mono ?_
    rintro e w3 ⟨rfl, hb3⟩
    clear p1 p2 p3 p4 p5 p6
    have S3 := S2.below zz2 hb3
    have b3 := b2.trans (hb3.mono b2.size)
    have zz3 := Nat.le_trans zz2 hb3.size
    clear S2 zz2 b2 hb3
    obtain ⟨p1, p2, p3, p4, p5, p6⟩ := id S3
    go_wp2_with fail
    refine (Q2.out _ b3).mono ?_
    rintro e w4 ⟨rfl, hb4⟩
    clear p1 p2 p3 p4 p5 p6
    have S4 := S3.below zz3 hb4
    have b4 := b3.trans (hb4.mono b3.size)
    have zz4 := Nat.le_trans zz3 hb4.size
    clear S3 zz3 b3 hb4
    obtain ⟨p1, p2, p3, p4, p5, p6⟩ := id S4
    go_wp2_with (go_at_call 12; refine (num_any _ _).mono ?_; rintro e w' ⟨rfl, rfl⟩)
    refine (Q3.out _ b4).mono ?_
    rintro e w5 ⟨rfl, hb5⟩
    clear p1 p2 p3 p4 p5 p6
    have S5 := S4.below zz4 hb5
    have b5 := b4.trans (hb5.mono b4.size)
    have zz5 := Nat.le_trans zz4 hb5.size
    clear S4 zz4 b4 hb5
    obtain ⟨p1, p2, p3, p4, p5, p6⟩ := id S5
    go_wp2_with fail
    refine (QA.out _ b5).mono ?_
    rintro e w6 ⟨rfl, hb6⟩
    clear p1 p2 p3 p4 p5 p6
    have S6 := S5.below zz5 hb6
    have b6 := b5.trans (hb6.mono b5.size)
    have zz6 := Nat.le_trans zz5 hb6.size
    clear S5 zz5 b5 hb6
    obtain ⟨p1, p2, p3, p4, p5, p6⟩ := id S6
    go_wp2_with (go_at_call 12; refine (num_any _ _).mono ?_; rintro e w' ⟨rfl, rfl⟩)
    refine (Q4.out _ b6).mono ?_
    rintro e w7 ⟨rfl, hb7⟩
    clear p1 p2 p3 p4 p5 p6
    have S7 := S6.below zz6 hb7
    have b7 := b6.trans (hb7.mono b6.size)
    have zz7 := Nat.le_trans zz6 hb7.size
    clear S6 zz6 b6 hb7
    obtain ⟨p1, p2, p3, p4, p5, p6⟩ := id S7
    go_wp2_with fail
    refine (Q5.out _ b7).mono ?_
    rintro e w8 ⟨rfl, hb8⟩
    clear p1 p2 p3 p4 p5 p6
    have S8 := S7.below zz7 hb8
    have b8 := b7.trans (hb8.mono b7.size)
    have zz8 := Nat.le_trans zz7 hb8.size
    clear S7 zz7 b7 hb8
    obtain ⟨p1, p2, p3, p4, p5, p6⟩ := id S8
    go_wp2_with fail
    refine (R3.out _ b8).mono ?_
    rintro e w9 ⟨rfl, hb9⟩
    clear p1 p2 p3 p4 p5 p6
    have S9 := S8.below zz8 hb9
    have b9 := b8.trans (hb9.mono b8.size)
    have zz9 := Nat.le_trans zz8 hb9.size
    clear S8 zz8 b8 hb9
    obtain ⟨p1, p2, p3, p4, p5, p6⟩ := id S9
    go_wp2_with (go_at_call 12; refine (num_any _ _).mono ?_; rintro e w' ⟨rfl, rfl⟩)
    refine (works_any _ (ht.below b9 z0)).mono ?_
    rintro e wz ⟨rfl, hbz⟩
    go_wp2_with fail
    go_ret
    exact ⟨rfl, b9.trans (hbz.mono b9.size)⟩
end
theorem putIs_no (w : World) (ht : Tabs w) (x m : Nat) (f v : Int) (hx : x < 18446744073709551616) (hm : m < 18446744073709551616) (hf : -9223372036854775808 ≤ f) (h : ¬ (WM.okF f v = true ∧ m < 2 ^ v.toNat)) : PutIs w x f v m 0 2 := fun W hb => by
  have := put_gen x m f v hx hm hf W (ht.below hb ht.room)
  rwa [show WM.putR x f v m = (0, 2) from if_neg h] at this
theorem putIs_yes (w : World) (ht : Tabs w) (x m f v : Nat) (hx : x < 18446744073709551616) (h : f + v ≤ 64) (hf : f < 64) (hv : 1 ≤ v) (hs : m < 2 ^ v) : PutIs w x f v m (WM.putN x f v m) 0 := fun W hb => put_yes f v x m h hf hv hx hs W (ht.below hb ht.room)
theorem getIs_yes (w : World) (ht : Tabs w) (x f v : Nat) (hx : x < 18446744073709551616) (h : f + v ≤ 64) (hf : f < 64) (hv : 1 ≤ v) : GetIs w x f v (WM.getN x f v) 0 := fun W hb => get_yes f v x h hf hv hx W (ht.below hb ht.room)
theorem apart_ok (f v g u : Int) (h : WM.apartFrom 0 [(f, v), (g, u)] = true) : WM.okF f v = true ∧ WM.okF g u = true := by
  simp only [WM.apartFrom, Bool.and_eq_true] at h
  exact ⟨h.1.1, h.2.1.1⟩
theorem holdsL_any (x n0 n1 : Nat) (f v g u : Int) (hx : x < 18446744073709551616) (hn0 : n0 < 18446744073709551616) (hn1 : n1 < 18446744073709551616) (hf : -9223372036854775808 ≤ f ∧ f ≤ 9223372036854775807) (hv : -9223372036854775808 ≤ v ∧ v ≤ 9223372036854775807) (hg : -9223372036854775808 ≤ g ∧ g ≤ 9223372036854775807) (hu : -9223372036854775808 ≤ u ∧ u ≤ 9223372036854775807) (w : World) (ht : Tabs w) :
    Calls Tryd.prog 4 #[.int .u64 x, .agg #[.int .i64 f, .int .i64 v], .agg #[.int .i64 g, .int .i64 u], .agg #[.int .u64 n0, .int .u64 n1]] w fun e w' => e = .returned (.bool true) ∧ Below w.heap.size w w' := by
  by_cases h1 : WM.okF f v = true ∧ n0 < 2 ^ v.toNat
  · obtain ⟨hok, hlt⟩ := h1
    have hfi : FieldInts [(f, v), (g, u)] := fun y hy => by
      simp only [List.mem_cons, List.not_mem_nil, or_false] at hy
      rcases hy with rfl | rfl
      · exact ⟨hf.1, hf.2, hv.1, hv.2⟩
      · exact ⟨hg.1, hg.2, hu.1, hu.2⟩
    have PA := apartIs w ht f v g u hfi
    obtain ⟨a, b, rfl, rfl, q1, q2, q3⟩ := WM.okF_parts f v hok
    have hlt' : n0 < 2 ^ b := by simpa using hlt
    have P1 := putIs_yes w ht x n0 a b hx q1 q2 q3 hlt'
    have hA := WM.putN_lt x a b n0 hx
    have G1 := getIs_yes w ht _ a b hA q1 q2 q3
    rw [WM.get_put x a b n0 q1 hlt' hx] at G1
    have G2 := getIs_yes w ht x a b hx q1 q2 q3
    have P2 := putIs_yes w ht x (WM.getN x a b) a b hx q1 q2 q3 (WM.getN_lt x a b)
    rw [WM.put_get x a b q1 hx] at P2
    by_cases h2 : WM.okF g u = true ∧ n1 < 2 ^ u.toNat
    · obtain ⟨hok2, hlt2⟩ := h2
      obtain ⟨c, d, rfl, rfl, r1, r2, r3⟩ := WM.okF_parts g u hok2
      have hlt2' : n1 < 2 ^ d := by simpa using hlt2
      have P3 := putIs_yes w ht (WM.putN x a b n0) n1 c d hA r1 r2 r3 hlt2'
      cases hap : WM.apartFrom 0 [((a : Int), (b : Int)), ((c : Int), (d : Int))] with
      | false =>
        rw [hap] at PA
        exact holdsW_skip 0 false (.inl rfl) ht P1 G1 G2 P2 P3 PA
      | true =>
        rw [hap] at PA
        have had := WM.apart_two a b c d q1 r1 hap
        have P4 := putIs_yes w ht x n1 c d hx r1 r2 r3 hlt2'
        have hD := WM.putN_lt x c d n1 hx
        have P5 := putIs_yes w ht (WM.putN x c d n1) n0 a b hD q1 q2 q3 hlt'
        have es := WM.putN_swap x a b n0 c d n1 q1 r1 hlt' hlt2' hx had
        rw [← es] at P5
        have hC := WM.putN_lt (WM.putN x a b n0) c d n1 hA
        have G3 := getIs_yes w ht _ a b hC q1 q2 q3
        rw [es, WM.get_put _ a b n0 q1 hlt' hD, ← es] at G3
        exact holdsW_all ht P1 G1 G2 P2 P3 PA P4 P5 G3
    · have P3 := putIs_no w ht (WM.putN x a b n0) n1 g u hA hn1 hg.1 h2
      cases hap : WM.apartFrom 0 [((a : Int), (b : Int)), (g, u)] with
      | false =>
        rw [hap] at PA
        exact holdsW_skip 2 false (.inl rfl) ht P1 G1 G2 P2 P3 PA
      | true =>
        rw [hap] at PA
        exact holdsW_skip 2 true (.inr ⟨rfl, rfl⟩) ht P1 G1 G2 P2 P3 PA
  · exact holdsW_err ht (putIs_no w ht x n0 f v hx hn0 hf.1 h1)
end Go.Proofs.YthjlhbkjmlohcaaDoor
