/-
  The walk of the law PlaceParts.
-/
import Derived.Test.YtkighpfckibkoaaDoorPlaG
import Derived.Test.YtkighpfckibkoaaDoorPlaLi
import Derived.Test.YtkighpfckibkoaaDoorPlaLh
namespace Go.Proofs.YtkighpfckibkoaaDoor
open Go.RowKit Go.Shelf

theorem roomN_ok {l v : Int} (h : okP l v = true) : roomN l v = (8192 - (8 * l + v)).toNat := by unfold roomN; rw [h]; rfl
/-- A run is that of its first places, and that from behind them on. -/
theorem run_parts {l v ql qv a b : Int} (h : okP l v = true) (hq : okP ql qv = true) (he : 8 * ql + qv = 8 * l + v + a) (a0 : 0 ≤ a) (b0 : 0 ≤ b) : runP l v (a + b) = runP l v a ++ runP ql qv b := by
  have o1 := okP_iff.1 h
  have o2 := okP_iff.1 hq
  have r1 := roomN_ok h
  have r2 := roomN_ok hq
  have n1 := runP_len l v (a + b)
  have n2 := runP_len l v a
  have n3 := runP_len ql qv b
  refine pairs_ext _ _ (by rw [List.length_append]; omega) fun i hi => ?_
  rw [runP_cur l v (a + b) i hi]
  by_cases hlt : i < (runP l v a).length
  · rw [List.getElem?_append_left hlt, runP_cur l v a i hlt]
  · rw [List.getElem?_append_right (by omega), runP_cur ql qv b _ (by omega)]
    unfold cur
    rw [if_pos h, if_pos hq, show 8 * ql + qv + ((i - (runP l v a).length : Nat) : Int) = 8 * l + v + (i : Int) by omega]
theorem parts3_skip0 (l v a b : Int) (k0 : a < 0) (w : World) (ht : Ends w) :
    Calls Tryd.prog 8 #[.agg #[.int .i64 l, .int .i64 v], .int .i64 a, .int .i64 b] w fun e w' => e = .returned (.bool true) ∧ Below w.heap.size w w' := by
  have hz := ht.room
  have HT := Lib.hid ht; clear ht
  go_enter Tryd.func8, Tryd.ntmps8
  go_wp2_with fail
  refine (works3_any _ (HT.out.below (B := w.heap.size) (by repeat (first | exact Below.refl _ _ | assumption | refine Below.drew ?_ | refine below_drewN ?_ _ | refine Below.alloc ?_ (by (try simp) <;> omega) _ | refine Below.setCell ?_ (by (try simp) <;> omega) _ | refine Below.trans ?_ (Below.mono (by assumption) (by (try simp) <;> omega)))) hz)).mono ?_
  rintro e w1 ⟨rfl, hb1⟩
  go_wp2_with fail
  go_ret
  exact ⟨rfl, (by repeat (first | exact Below.refl _ _ | assumption | refine Below.drew ?_ | refine below_drewN ?_ _ | refine Below.alloc ?_ (by (try simp) <;> omega) _ | refine Below.setCell ?_ (by (try simp) <;> omega) _ | refine Below.trans ?_ (Below.mono (by assumption) (by (try simp) <;> omega))))⟩
theorem parts3_skip1 (l v a b : Int) (k0 : 100 < a) (w : World) (ht : Ends w) :
    Calls Tryd.prog 8 #[.agg #[.int .i64 l, .int .i64 v], .int .i64 a, .int .i64 b] w fun e w' => e = .returned (.bool true) ∧ Below w.heap.size w w' := by
  have hz := ht.room
  have HT := Lib.hid ht; clear ht
  have k9 : ¬ a < 0 := by omega
  go_enter Tryd.func8, Tryd.ntmps8
  go_wp2_with fail
  refine (works3_any _ (HT.out.below (B := w.heap.size) (by repeat (first | exact Below.refl _ _ | assumption | refine Below.drew ?_ | refine below_drewN ?_ _ | refine Below.alloc ?_ (by (try simp) <;> omega) _ | refine Below.setCell ?_ (by (try simp) <;> omega) _ | refine Below.trans ?_ (Below.mono (by assumption) (by (try simp) <;> omega)))) hz)).mono ?_
  rintro e w1 ⟨rfl, hb1⟩
  go_wp2_with fail
  go_ret
  exact ⟨rfl, (by repeat (first | exact Below.refl _ _ | assumption | refine Below.drew ?_ | refine below_drewN ?_ _ | refine Below.alloc ?_ (by (try simp) <;> omega) _ | refine Below.setCell ?_ (by (try simp) <;> omega) _ | refine Below.trans ?_ (Below.mono (by assumption) (by (try simp) <;> omega))))⟩
theorem parts3_skip2 (l v a b : Int) (k0 : ¬ a < 0) (k1 : ¬ 100 < a) (k2 : b < 0) (w : World) (ht : Ends w) :
    Calls Tryd.prog 8 #[.agg #[.int .i64 l, .int .i64 v], .int .i64 a, .int .i64 b] w fun e w' => e = .returned (.bool true) ∧ Below w.heap.size w w' := by
  have hz := ht.room
  have HT := Lib.hid ht; clear ht
  go_enter Tryd.func8, Tryd.ntmps8
  go_wp2_with fail
  refine (works3_any _ (HT.out.below (B := w.heap.size) (by repeat (first | exact Below.refl _ _ | assumption | refine Below.drew ?_ | refine below_drewN ?_ _ | refine Below.alloc ?_ (by (try simp) <;> omega) _ | refine Below.setCell ?_ (by (try simp) <;> omega) _ | refine Below.trans ?_ (Below.mono (by assumption) (by (try simp) <;> omega)))) hz)).mono ?_
  rintro e w1 ⟨rfl, hb1⟩
  go_wp2_with fail
  go_ret
  exact ⟨rfl, (by repeat (first | exact Below.refl _ _ | assumption | refine Below.drew ?_ | refine below_drewN ?_ _ | refine Below.alloc ?_ (by (try simp) <;> omega) _ | refine Below.setCell ?_ (by (try simp) <;> omega) _ | refine Below.trans ?_ (Below.mono (by assumption) (by (try simp) <;> omega))))⟩
theorem parts3_skip3 (l v a b : Int) (k0 : ¬ a < 0) (k1 : ¬ 100 < a) (k2 : 100 < b) (w : World) (ht : Ends w) :
    Calls Tryd.prog 8 #[.agg #[.int .i64 l, .int .i64 v], .int .i64 a, .int .i64 b] w fun e w' => e = .returned (.bool true) ∧ Below w.heap.size w w' := by
  have hz := ht.room
  have HT := Lib.hid ht; clear ht
  have k9 : ¬ b < 0 := by omega
  go_enter Tryd.func8, Tryd.ntmps8
  go_wp2_with fail
  refine (works3_any _ (HT.out.below (B := w.heap.size) (by repeat (first | exact Below.refl _ _ | assumption | refine Below.drew ?_ | refine below_drewN ?_ _ | refine Below.alloc ?_ (by (try simp) <;> omega) _ | refine Below.setCell ?_ (by (try simp) <;> omega) _ | refine Below.trans ?_ (Below.mono (by assumption) (by (try simp) <;> omega)))) hz)).mono ?_
  rintro e w1 ⟨rfl, hb1⟩
  go_wp2_with fail
  go_ret
  exact ⟨rfl, (by repeat (first | exact Below.refl _ _ | assumption | refine Below.drew ?_ | refine below_drewN ?_ _ | refine Below.alloc ?_ (by (try simp) <;> omega) _ | refine Below.setCell ?_ (by (try simp) <;> omega) _ | refine Below.trans ?_ (Below.mono (by assumption) (by (try simp) <;> omega))))⟩
theorem parts3_bad (l v a b x1 x2 x3 : Int) (hm : moveOut l v a = .tuple #[.agg #[.int .i64 x1, .int .i64 x2], .int .i64 x3]) (hx : (x3 != 0) = true) (k0 : 0 ≤ a) (k1 : a ≤ 100) (k2 : 0 ≤ b) (k3 : b ≤ 100) (w : World) (ht : Ends w) :
    Calls Tryd.prog 8 #[.agg #[.int .i64 l, .int .i64 v], .int .i64 a, .int .i64 b] w fun e w' => e = .returned (.bool true) ∧ Below w.heap.size w w' := by
  have hz := ht.room
  have HT := Lib.hid ht; clear ht
  have HM := Lib.hid (fun W (hb : Below w.heap.size w W) => move_any l v a W (HT.out.below hb hz))
  rw [hm] at HM
  clear hm
  go_enter Tryd.func8, Tryd.ntmps8
  go_wp2_with fail
  refine (HM.out _ (by repeat (first | exact Below.refl _ _ | assumption | refine Below.drew ?_ | refine below_drewN ?_ _ | refine Below.alloc ?_ (by (try simp) <;> omega) _ | refine Below.setCell ?_ (by (try simp) <;> omega) _ | refine Below.trans ?_ (Below.mono (by assumption) (by (try simp) <;> omega))))).mono ?_
  rintro e w1 ⟨rfl, hb1⟩
  have z1 := hb1.size; try simp at z1
  have b1 : Below w.heap.size w w1 := (by repeat (first | exact Below.refl _ _ | assumption | refine Below.drew ?_ | refine below_drewN ?_ _ | refine Below.alloc ?_ (by (try simp) <;> omega) _ | refine Below.setCell ?_ (by (try simp) <;> omega) _ | refine Below.trans ?_ (Below.mono (by assumption) (by (try simp) <;> omega))))
  clear hb1
  go_wp2_with (go_at_call 12; refine (num3_any _ _).mono ?_; rintro e w' ⟨rfl, rfl⟩)
  refine (works3_any _ (HT.out.below (B := w.heap.size) (by repeat (first | exact Below.refl _ _ | assumption | refine Below.drew ?_ | refine below_drewN ?_ _ | refine Below.alloc ?_ (by (try simp) <;> omega) _ | refine Below.setCell ?_ (by (try simp) <;> omega) _ | refine Below.trans ?_ (Below.mono (by assumption) (by (try simp) <;> omega)))) hz)).mono ?_
  rintro e w2 ⟨rfl, hb2⟩
  go_wp2_with fail
  go_ret
  exact ⟨rfl, (by repeat (first | exact Below.refl _ _ | assumption | refine Below.drew ?_ | refine below_drewN ?_ _ | refine Below.alloc ?_ (by (try simp) <;> omega) _ | refine Below.setCell ?_ (by (try simp) <;> omega) _ | refine Below.trans ?_ (Below.mono (by assumption) (by (try simp) <;> omega))))⟩
set_option maxHeartbeats 8000000 in
theorem parts3_ok (l v ql qv a b : Int) (h : okP l v = true) (hq : okP ql qv = true) (he : 8 * ql + qv = 8 * l + v + a) (k0 : 0 ≤ a) (k1 : a ≤ 100) (k2 : 0 ≤ b) (k3 : b ≤ 100) (w : World) (ht : Ends w) :
    Calls Tryd.prog 8 #[.agg #[.int .i64 l, .int .i64 v], .int .i64 a, .int .i64 b] w fun e w' => e = .returned (.bool true) ∧ Below w.heap.size w w' := by
  obtain ⟨i0, hi, hz0, hz1, hz2⟩ := info_parts infoP
  have hz := ht.room
  have HT := Lib.hid ht; clear ht
  have HM := Lib.hid (fun W (hb : Below w.heap.size w W) => move_any l v a W (HT.out.below hb hz))
  rw [show moveOut l v a = .tuple #[.agg #[.int .i64 ql, .int .i64 qv], .int .i64 0] by
    have o2 := okP_iff.1 hq
    rw [move_out_ok h (by omega), show (8 * l + v + a) / 8 = ql by omega, show (8 * l + v + a) % 8 = qv by omega]] at HM
  have HX := Lib.hid (fun (x y m : Int) (h0 : 0 ≤ m) (h1 : m ≤ 200) W (hb : Below w.heap.size w W) => show Calls Tryd.prog 22 #[.agg #[.int .i64 x, .int .i64 y], .int .i64 m, .int .i64 300] W fun e w' => ∃ r, e = .returned r ∧ SlP w' r (runP x y m) ∧ Below W.heap.size W w' from (runL_any x y m 300 (by omega) (by omega) (by decide) (by decide) W (HT.out.below hb hz)).mono fun e w' ⟨r, hr, own, hb'⟩ => ⟨r, hr, by rw [runP_few x y m (300 : Int).toNat (by show m.toNat ≤ 300; omega)] at own; exact slP_of_own own, hb'⟩)
  have HJ := run_parts h hq he k0 k2
  have e1 := runP_len l v (a + b)
  have e2 := runP_len l v a
  have e3 := runP_len ql qv b
  obtain ⟨s, hs⟩ : ∃ s : Int, a + b = s := ⟨_, rfl⟩
  have hs0 : 0 ≤ s ∧ s ≤ 200 := by omega
  have hsw : IntKind.i64.wrap s = s := IntWalk.i64_in _ (by omega)
  rw [hs] at HJ e1
  obtain ⟨R, hR⟩ : ∃ R, runP = R := ⟨_, rfl⟩
  rw [hR] at HX HJ e1 e2 e3
  have HD := Lib.hid (decide_eq_true HJ)
  have HLE : Hid ((([] : List (Int × Int)).length + (R l v a).length ≤ 100000) ∧ ((([] : List (Int × Int)) ++ R l v a).length + (R ql qv b).length ≤ 100000)) := Lib.hid ⟨by simp only [List.length_nil]; omega, by rw [List.nil_append]; omega⟩
  have HLS : Hid ((R l v s).length ≤ 140737488351232 ∧ (R l v a ++ R ql qv b).length ≤ 140737488351232) := Lib.hid ⟨by omega, by rw [List.length_append]; omega⟩
  clear h hq he HJ e1 e2 e3 hR
  go_enter Tryd.func8, Tryd.ntmps8
  go_wp2_with fail
  refine (HM.out _ (by repeat (first | exact Below.refl _ _ | assumption | refine Below.drew ?_ | refine below_drewN ?_ _ | refine Below.alloc ?_ (by (try simp) <;> omega) _ | refine Below.setCell ?_ (by (try simp) <;> omega) _ | refine Below.trans ?_ (Below.mono (by assumption) (by (try simp) <;> omega))))).mono ?_
  rintro e w1 ⟨rfl, hb1⟩
  have z1 := hb1.size; try simp at z1
  have jP1 : Box2 w1 w.heap.size 23 l v := (Box2.new w 23 l v).below hb1 (by simp)
  have b1 : Below w.heap.size w w1 := (by repeat (first | exact Below.refl _ _ | assumption | refine Below.drew ?_ | refine below_drewN ?_ _ | refine Below.alloc ?_ (by (try simp) <;> omega) _ | refine Below.setCell ?_ (by (try simp) <;> omega) _ | refine Below.trans ?_ (Below.mono (by assumption) (by (try simp) <;> omega))))
  clear hb1
  have l1 := jP1.lt
  go_wp2_with (go_at_call 12; refine (num3_any _ _).mono ?_; rintro e w' ⟨rfl, rfl⟩)
  have jA := jP1.alloc (.cells #[.int .i64 ql, .int .i64 qv] 23)
  have jB := Box2.new w1 23 ql qv
  have bw : Below w.heap.size w (w1.alloc (.cells #[.int .i64 ql, .int .i64 qv] 23)) := (by repeat (first | exact Below.refl _ _ | assumption | refine Below.drew ?_ | refine below_drewN ?_ _ | refine Below.alloc ?_ (by (try simp) <;> omega) _ | refine Below.setCell ?_ (by (try simp) <;> omega) _ | refine Below.trans ?_ (Below.mono (by assumption) (by (try simp) <;> omega))))
  have zw : w1.heap.size + 1 = (w1.alloc (.cells #[.int .i64 ql, .int .i64 qv] 23)).heap.size := by simp
  generalize w1.alloc (.cells #[.int .i64 ql, .int .i64 qv] 23) = wq at *
  have HG := Lib.hid (fun W (hb : Below wq.heap.size wq W) => bw.trans (hb.mono bw.size))
  have HS := Lib.hid (fun W (hb : Below wq.heap.size wq W) => And.intro (jA.below hb jA.lt).cell0 (And.intro (jA.below hb jA.lt).cell1 (And.intro (jB.below hb jB.lt).cell0 (jB.below hb jB.lt).cell1)))
  have bq : Below wq.heap.size wq wq := Below.refl _ _
  have zq := bq.size
  have c1 := jA.cell0
  have c2 := jA.cell1
  have d1 := jB.cell0
  have d2 := jB.cell1
  clear b1 jP1 jA jB HM
  go_region_held3 (fun w' => w'.cell? ⟨w.heap.size, 0, none⟩ = some (.int .i64 l) ∧ w'.cell? ⟨w.heap.size, 1, none⟩ = some (.int .i64 v) ∧ w'.cell? ⟨w1.heap.size, 0, none⟩ = some (.int .i64 ql) ∧ w'.cell? ⟨w1.heap.size, 1, none⟩ = some (.int .i64 qv)) (exact HS.out _ (by repeat (first | exact Below.refl _ _ | assumption | refine Below.drew ?_ | refine below_drewN ?_ _ | refine Below.alloc ?_ (by (try simp) <;> omega) _ | refine Below.setCell ?_ (by (try simp) <;> omega) _ | refine Below.trans ?_ (Below.mono (by assumption) (by (try simp) <;> omega)))))
    (first | (go_at_call 22; refine (HX.out _ _ _ (by omega) (by omega) _ (HG.out _ (by repeat (first | exact Below.refl _ _ | assumption | refine Below.drew ?_ | refine below_drewN ?_ _ | refine Below.alloc ?_ (by (try simp) <;> omega) _ | refine Below.setCell ?_ (by (try simp) <;> omega) _ | refine Below.trans ?_ (Below.mono (by assumption) (by (try simp) <;> omega)))))).mono ?_; rintro e wA ⟨rA, rfl, sA, hbA⟩; have bq : Below wq.heap.size wq wA := (by repeat (first | exact Below.refl _ _ | assumption | refine Below.drew ?_ | refine below_drewN ?_ _ | refine Below.alloc ?_ (by (try simp) <;> omega) _ | refine Below.setCell ?_ (by (try simp) <;> omega) _ | refine Below.trans ?_ (Below.mono (by assumption) (by (try simp) <;> omega)))); have zq := bq.size; (first | (have s1b := s1b.trans (hbA.mono n1); have n1 := Nat.le_trans hN s1b.size) | (have s1b := (s1b.alloc n1 _).trans (hbA.mono (by simp; omega)); have n1 := Nat.le_trans hN s1b.size) | (obtain ⟨N1, hN1⟩ : ∃ n, n = wA.heap.size := ⟨_, rfl⟩; have hN := Nat.le_of_eq hN1; have nq : wq.heap.size ≤ N1 := (by omega); have s1b : Below N1 wA wA := Below.refl _ _; have S1 := Lib.hid (fun W (hb : Below N1 wA W) => sA.below (hN1 ▸ hb)); have n1 := hN)); (try have g4 := g4.below hbA); clear hbA) | (refine step_append_G rfl _ _ _ rfl i0 (.agg #[.int .i64 0, .int .i64 0]) Tryd.underlying39 hi hz0 hz1 hz2 rfl N1 _ _ _ _ rfl rfl g4 (by first | exact sA | exact sA.below (by repeat (first | exact Below.refl _ _ | assumption | refine Below.drew ?_ | refine below_drewN ?_ _ | refine Below.alloc ?_ (by (try simp) <;> omega) _ | refine Below.setCell ?_ (by (try simp) <;> omega) _ | refine Below.trans ?_ (Below.mono (by assumption) (by (try simp) <;> omega))))) (by first | exact HLE.out.1 | exact HLE.out.2) (by first | exact n1 | (simp; omega)) ?_; intro v4 w4 g4 hb4; have bq : Below wq.heap.size wq w4 := (by repeat (first | exact Below.refl _ _ | assumption | refine Below.drew ?_ | refine below_drewN ?_ _ | refine Below.alloc ?_ (by (try simp) <;> omega) _ | refine Below.setCell ?_ (by (try simp) <;> omega) _ | refine Below.trans ?_ (Below.mono (by assumption) (by (try simp) <;> omega)))); have zq := bq.size; (first | have s1b := s1b.trans hb4 | have s1b := (s1b.alloc n1 _).trans hb4); have n1 := Nat.le_trans hN s1b.size; clear hb4) | (refine step_append_G rfl _ _ _ rfl i0 (.agg #[.int .i64 0, .int .i64 0]) Tryd.underlying39 hi hz0 hz1 hz2 rfl N1 _ _ _ _ rfl rfl (Or.inl ⟨rfl, _, rfl⟩) (by first | exact sA | exact sA.below (by repeat (first | exact Below.refl _ _ | assumption | refine Below.drew ?_ | refine below_drewN ?_ _ | refine Below.alloc ?_ (by (try simp) <;> omega) _ | refine Below.setCell ?_ (by (try simp) <;> omega) _ | refine Below.trans ?_ (Below.mono (by assumption) (by (try simp) <;> omega))))) (by first | exact HLE.out.1 | exact HLE.out.2) (by first | exact n1 | (simp; omega)) ?_; intro v4 w4 g4 hb4; have bq : Below wq.heap.size wq w4 := (by repeat (first | exact Below.refl _ _ | assumption | refine Below.drew ?_ | refine below_drewN ?_ _ | refine Below.alloc ?_ (by (try simp) <;> omega) _ | refine Below.setCell ?_ (by (try simp) <;> omega) _ | refine Below.trans ?_ (Below.mono (by assumption) (by (try simp) <;> omega)))); have zq := bq.size; (first | have s1b := s1b.trans hb4 | have s1b := (s1b.alloc n1 _).trans hb4); have n1 := Nat.le_trans hN s1b.size; clear hb4) | (go_at_call 21; refine (same3_own _ _ (xs := R l v s) (ys := R l v a ++ R ql qv b) _ (S1.out _ s1b) g4.sl HLS.out.1 HLS.out.2).mono ?_; rintro e wA ⟨rfl, hbA⟩; rw [HD.out]; have bq : Below wq.heap.size wq wA := (by repeat (first | exact Below.refl _ _ | assumption | refine Below.drew ?_ | refine below_drewN ?_ _ | refine Below.alloc ?_ (by (try simp) <;> omega) _ | refine Below.setCell ?_ (by (try simp) <;> omega) _ | refine Below.trans ?_ (Below.mono (by assumption) (by (try simp) <;> omega)))); have zq := bq.size; clear hbA) | (go_at_call 15; refine (works3_any _ (HT.out.below (HG.out _ (by repeat (first | exact Below.refl _ _ | assumption | refine Below.drew ?_ | refine below_drewN ?_ _ | refine Below.alloc ?_ (by (try simp) <;> omega) _ | refine Below.setCell ?_ (by (try simp) <;> omega) _ | refine Below.trans ?_ (Below.mono (by assumption) (by (try simp) <;> omega))))) hz)).mono ?_; rintro e wA ⟨rfl, hbA⟩; have bq : Below wq.heap.size wq wA := (by repeat (first | exact Below.refl _ _ | assumption | refine Below.drew ?_ | refine below_drewN ?_ _ | refine Below.alloc ?_ (by (try simp) <;> omega) _ | refine Below.setCell ?_ (by (try simp) <;> omega) _ | refine Below.trans ?_ (Below.mono (by assumption) (by (try simp) <;> omega)))); have zq := bq.size; clear hbA))
  all_goals
    go_wp2_with fail
    go_ret
    exact ⟨rfl, HG.out _ (by repeat (first | exact Below.refl _ _ | assumption | refine Below.drew ?_ | refine below_drewN ?_ _ | refine Below.alloc ?_ (by (try simp) <;> omega) _ | refine Below.setCell ?_ (by (try simp) <;> omega) _ | refine Below.trans ?_ (Below.mono (by assumption) (by (try simp) <;> omega))))⟩
theorem parts3_any (l v a b : Int) (w : World) (ht : Ends w) :
    Calls Tryd.prog 8 #[.agg #[.int .i64 l, .int .i64 v], .int .i64 a, .int .i64 b] w fun e w' => e = .returned (.bool true) ∧ Below w.heap.size w w' := by
  by_cases h0 : a < 0
  · exact parts3_skip0 l v a b h0 w ht
  · by_cases h1 : 100 < a
    · exact parts3_skip1 l v a b h1 w ht
    · by_cases h2 : b < 0
      · exact parts3_skip2 l v a b h0 h1 h2 w ht
      · by_cases h3 : 100 < b
        · exact parts3_skip3 l v a b h0 h1 h3 w ht
        · cases h : okP l v with
          | false => exact parts3_bad l v a b 0 0 2 (move_out_no h) rfl (by omega) (by omega) (by omega) (by omega) w ht
          | true =>
            have o1 := okP_iff.1 h
            by_cases hr : 8 * l + v + a < 8192
            · exact parts3_ok l v ((8 * l + v + a) / 8) ((8 * l + v + a) % 8) a b h (by rw [okP_iff]; omega) (by omega) (by omega) (by omega) (by omega) (by omega) w ht
            · exact parts3_bad l v a b 0 0 4 (move_out_far h (by omega)) rfl (by omega) (by omega) (by omega) (by omega) w ht
end Go.Proofs.YtkighpfckibkoaaDoor
