/-
  Contracts of package place's functions on places under way (no loop).
-/
import Derived.Test.YtkighpfckibkoaaDoorFlt
import Derived.Test.YtkighpfckibkoaaDoorWordA
namespace Go.Proofs.YtkighpfckibkoaaDoor
open Go.RowKit

theorem number_place_any (l v : Int) (w : World) :
    Calls Tryd.prog 32 #[.agg #[.int .i64 l, .int .i64 v]] w fun e w' => e = .returned (.complex .f64 (Flt.fb l) (Flt.fb v)) ∧ Below w.heap.size w w' := by
  go_enter Tryd.func32, Tryd.ntmps32
  go_wp2
  go_ret
  exact ⟨rfl, (Below.refl _ _).alloc (Nat.le_refl _) _⟩
theorem movingAt_any (l v : Int) (hl : -100000 < l ∧ l < 100000) (hv : -100000 < v ∧ v < 100000) (w : World) :
    Calls Tryd.prog 33 #[.complex .f64 (Flt.fb l) (Flt.fb v)] w fun e w' => e = .returned (.agg #[.int .i64 l, .int .i64 v]) ∧ Below w.heap.size w w' := by
  have h1 := fun W : World => Flt.run_int (P := Tryd.prog) W 64 3 l (Flt.sm_of l (by omega) (by omega)) (by omega) (by omega) (by kernel_rfl) Tryd.underlying3
  have h2 := fun W : World => Flt.run_int (P := Tryd.prog) W 64 3 v (Flt.sm_of v (by omega) (by omega)) (by omega) (by omega) (by kernel_rfl) Tryd.underlying3
  generalize Flt.fb l = a at *
  generalize Flt.fb v = b at *
  go_enter Tryd.func33, Tryd.ntmps33
  go_wp2
  refine bodyPost_ret (v := .agg #[.int .i64 l, .int .i64 v]) (by simp [results, Tryd.results33, go_sem]) rfl ⟨rfl, ?_⟩
  exact (by repeat (first | exact Below.refl _ _ | assumption | refine Below.drew ?_ | refine below_drewN ?_ _ | refine Below.alloc ?_ (by (try simp) <;> omega) _ | refine Below.setCell ?_ (by (try simp) <;> omega) _ | refine Below.trans ?_ (Below.mono (by assumption) (by (try simp) <;> omega))))
theorem pair_any (l v : Int) (w : World) :
    Calls Tryd.prog 31 #[.agg #[.int .i64 l, .int .i64 v]] w fun e w' => e = .returned (.agg #[.int .i64 l, .int .i64 v]) ∧ Below w.heap.size w w' := by
  go_enter Tryd.func31, Tryd.ntmps31
  go_wp2
  refine bodyPost_ret (v := .agg #[.int .i64 l, .int .i64 v]) (by simp [results, Tryd.results31, go_sem]) rfl ⟨rfl, ?_⟩
  exact (by repeat (first | exact Below.refl _ _ | assumption | refine Below.drew ?_ | refine below_drewN ?_ _ | refine Below.alloc ?_ (by (try simp) <;> omega) _ | refine Below.setCell ?_ (by (try simp) <;> omega) _ | refine Below.trans ?_ (Below.mono (by assumption) (by (try simp) <;> omega))))
/-- A new block of two cells, behind a call. -/
theorem pair_new {W w1 : World} {t : TypeId} {a b : Value} (hb : Below (W.heap.size + 1) (W.alloc (.cells #[a, b] t)) w1) :
    w1.cell? ⟨W.heap.size, 0, none⟩ = some a ∧ w1.cell? ⟨W.heap.size, 1, none⟩ = some b ∧ w1.frozen? ⟨W.heap.size, 0, none⟩ = false ∧ w1.frozen? ⟨W.heap.size, 1, none⟩ = false := by
  refine ⟨?_, ?_, ?_, ?_⟩
  · rw [hb.cell (p := ⟨W.heap.size, 0, none⟩) (Nat.lt_succ_self _)]; simp [go_sem]
  · rw [hb.cell (p := ⟨W.heap.size, 1, none⟩) (Nat.lt_succ_self _)]; simp [go_sem]
  · rw [hb.frozen (p := ⟨W.heap.size, 0, none⟩) (Nat.lt_succ_self _)]; simp [go_sem]
  · rw [hb.frozen (p := ⟨W.heap.size, 1, none⟩) (Nat.lt_succ_self _)]; simp [go_sem]
theorem tdiv8 (b : Int) (hb : -8192 < b ∧ b < 8192) : ∃ q r : Int, b.tdiv 8 = q ∧ b.tmod 8 = r ∧ b = 8 * q + r ∧ -8 < r ∧ r < 8 ∧ -1025 < q ∧ q < 1025 := by
  have h := Int.mul_tdiv_add_tmod b 8
  refine ⟨_, _, rfl, rfl, by omega, ?_, ?_, ?_, ?_⟩
  · exact Int.lt_tmod_of_pos b (by decide)
  · exact Int.tmod_lt_of_pos b (by decide)
  all_goals
    have h1 := Int.lt_tmod_of_pos b (b := 8) (by decide)
    have h2 := Int.tmod_lt_of_pos b (b := 8) (by decide)
    omega
set_option maxHeartbeats 1000000 in
theorem on_any (l v b : Int) (hl : 0 ≤ l ∧ l < 1024) (hv : 0 ≤ v ∧ v < 8) (hb : -8192 < b ∧ b < 8192) (w : World) :
    Calls Tryd.prog 26 #[.agg #[.int .i64 l, .int .i64 v], .int .i64 b] w fun e w' => e = .returned (.agg #[.int .i64 ((8 * l + v + b) / 8), .int .i64 ((8 * l + v + b) % 8)]) ∧ Below w.heap.size w w' := by
  obtain ⟨q, r, hq, hr, rfl, hr1, hr2, hq1, hq2⟩ := tdiv8 b hb
  have S : ∀ n : Int, -100000 < n → n < 100000 → Flt.Sm n := fun n h1 h2 => Flt.sm_of n (by omega) (by omega)
  have hadd := fun W : World => Flt.run_cadd (P := Tryd.prog) W 62 l v q r (S _ (by omega) (by omega)) (S _ (by omega) (by omega)) (S _ (by omega) (by omega)) (S _ (by omega) (by omega)) (S _ (by omega) (by omega)) (S _ (by omega) (by omega))
  have hlo := Flt.lss_fb (v + r) 0 (S _ (by omega) (by omega)) (S _ (by omega) (by omega))
  have hhi := Flt.geq_fb (v + r) 8 (S _ (by omega) (by omega)) (S _ (by omega) (by omega))
  rw [← Flt.fb0] at hlo
  rw [← Flt.fb8] at hhi
  by_cases c1 : v + r < 0
  · rw [decide_eq_true c1] at hlo
    have hlast := fun W : World => Flt.run_cadd (P := Tryd.prog) W 62 (l + q) (v + r) (-1) 8 (S _ (by omega) (by omega)) (S _ (by omega) (by omega)) (S _ (by omega) (by omega)) (S _ (by omega) (by omega)) (S _ (by omega) (by omega)) (S _ (by omega) (by omega))
    rw [← Flt.fbm1, ← Flt.fb8] at hlast
    have HM := Lib.hid (movingAt_any (l + q + -1) (v + r + 8) (by omega) (by omega))
    rw [show (8 * l + v + (8 * q + r)) / 8 = l + q + -1 by omega, show (8 * l + v + (8 * q + r)) % 8 = v + r + 8 by omega]
    generalize 8 * q + r = b at *
    clear hhi c1 S
    go_enter Tryd.func26, Tryd.ntmps26
    go_wp2_with fail
    refine (number_place_any l v _).mono ?_
    rintro e w1 ⟨rfl, hb1⟩
    have z1 := hb1.size; try simp at z1
    go_wp2_with fail
    refine (HM.out _).mono ?_
    rintro e w2 ⟨rfl, hb2⟩
    have z2 := hb2.size; try simp at z2
    obtain ⟨hp1, hp2, hp3, hp4⟩ := pair_new (W := w.alloc _) (w1 := w2) ((hb1.mono (by simp)).trans (hb2.mono (by simp; omega)))
    simp only [World.size_alloc] at hp1 hp2 hp3 hp4
    go_wp2_with fail
    refine bodyPost_ret (v := .agg #[.int .i64 (l + q + -1), .int .i64 (v + r + 8)]) (by simp [results, Tryd.results26, go_sem, World.cell?_setCell_same', hp1, hp2]) rfl ⟨rfl, ?_⟩
    exact (by repeat (first | exact Below.refl _ _ | assumption | refine Below.drew ?_ | refine below_drewN ?_ _ | refine Below.alloc ?_ (by (try simp) <;> omega) _ | refine Below.setCell ?_ (by (try simp) <;> omega) _ | refine Below.trans ?_ (Below.mono (by assumption) (by (try simp) <;> omega))))
  · rw [decide_eq_false c1] at hlo
    by_cases c2 : 8 ≤ v + r
    · rw [decide_eq_true c2] at hhi
      have hlast := fun W : World => Flt.run_cadd (P := Tryd.prog) W 62 (l + q) (v + r) 1 (-8) (S _ (by omega) (by omega)) (S _ (by omega) (by omega)) (S _ (by omega) (by omega)) (S _ (by omega) (by omega)) (S _ (by omega) (by omega)) (S _ (by omega) (by omega))
      rw [← Flt.fb1, ← Flt.fbm8] at hlast
      have HM := Lib.hid (movingAt_any (l + q + 1) (v + r + -8) (by omega) (by omega))
      rw [show (8 * l + v + (8 * q + r)) / 8 = l + q + 1 by omega, show (8 * l + v + (8 * q + r)) % 8 = v + r + -8 by omega]
      generalize 8 * q + r = b at *
      clear c1 c2 S
      go_enter Tryd.func26, Tryd.ntmps26
      go_wp2_with fail
      refine (number_place_any l v _).mono ?_
      rintro e w1 ⟨rfl, hb1⟩
      have z1 := hb1.size; try simp at z1
      go_wp2_with fail
      refine (HM.out _).mono ?_
      rintro e w2 ⟨rfl, hb2⟩
      have z2 := hb2.size; try simp at z2
      obtain ⟨hp1, hp2, hp3, hp4⟩ := pair_new (W := w.alloc _) (w1 := w2) ((hb1.mono (by simp)).trans (hb2.mono (by simp; omega)))
      simp only [World.size_alloc] at hp1 hp2 hp3 hp4
      go_wp2_with fail
      refine bodyPost_ret (v := .agg #[.int .i64 (l + q + 1), .int .i64 (v + r + -8)]) (by simp [results, Tryd.results26, go_sem, World.cell?_setCell_same', hp1, hp2]) rfl ⟨rfl, ?_⟩
      exact (by repeat (first | exact Below.refl _ _ | assumption | refine Below.drew ?_ | refine below_drewN ?_ _ | refine Below.alloc ?_ (by (try simp) <;> omega) _ | refine Below.setCell ?_ (by (try simp) <;> omega) _ | refine Below.trans ?_ (Below.mono (by assumption) (by (try simp) <;> omega))))
    · rw [decide_eq_false c2] at hhi
      have HM := Lib.hid (movingAt_any (l + q) (v + r) (by omega) (by omega))
      rw [show (8 * l + v + (8 * q + r)) / 8 = l + q by omega, show (8 * l + v + (8 * q + r)) % 8 = v + r by omega]
      generalize 8 * q + r = b at *
      clear c1 c2 S
      go_enter Tryd.func26, Tryd.ntmps26
      go_wp2_with fail
      refine (number_place_any l v _).mono ?_
      rintro e w1 ⟨rfl, hb1⟩
      have z1 := hb1.size; try simp at z1
      go_wp2_with fail
      refine (HM.out _).mono ?_
      rintro e w2 ⟨rfl, hb2⟩
      have z2 := hb2.size; try simp at z2
      obtain ⟨hp1, hp2, hp3, hp4⟩ := pair_new (W := w.alloc _) (w1 := w2) ((hb1.mono (by simp)).trans (hb2.mono (by simp; omega)))
      simp only [World.size_alloc] at hp1 hp2 hp3 hp4
      go_wp2_with fail
      refine bodyPost_ret (v := .agg #[.int .i64 (l + q), .int .i64 (v + r)]) (by simp [results, Tryd.results26, go_sem, World.cell?_setCell_same', hp1, hp2]) rfl ⟨rfl, ?_⟩
      exact (by repeat (first | exact Below.refl _ _ | assumption | refine Below.drew ?_ | refine below_drewN ?_ _ | refine Below.alloc ?_ (by (try simp) <;> omega) _ | refine Below.setCell ?_ (by (try simp) <;> omega) _ | refine Below.trans ?_ (Below.mono (by assumption) (by (try simp) <;> omega))))
set_option maxHeartbeats 1000000 in
theorem behind_any (l v l2 v2 : Int) (hl : 0 ≤ l ∧ l < 1024) (hv : 0 ≤ v ∧ v < 8) (hl2 : 0 ≤ l2 ∧ l2 < 1024) (hv2 : 0 ≤ v2 ∧ v2 < 8) (w : World) :
    Calls Tryd.prog 27 #[.agg #[.int .i64 l, .int .i64 v], .agg #[.int .i64 l2, .int .i64 v2]] w fun e w' => e = .returned (.int .i64 ((8 * l + v) - (8 * l2 + v2))) ∧ Below w.heap.size w w' := by
  have S : ∀ n : Int, -100000 < n → n < 100000 → Flt.Sm n := fun n h1 h2 => Flt.sm_of n (by omega) (by omega)
  have hsub := fun W : World => Flt.run_csub (P := Tryd.prog) W 62 l v l2 v2 (S _ (by omega) (by omega)) (S _ (by omega) (by omega)) (S _ (by omega) (by omega)) (S _ (by omega) (by omega)) (S _ (by omega) (by omega)) (S _ (by omega) (by omega))
  have h1 := fun W : World => Flt.run_int (P := Tryd.prog) W 64 3 (l - l2) (S _ (by omega) (by omega)) (by omega) (by omega) (by kernel_rfl) Tryd.underlying3
  have h2 := fun W : World => Flt.run_int (P := Tryd.prog) W 64 3 (v - v2) (S _ (by omega) (by omega)) (by omega) (by omega) (by kernel_rfl) Tryd.underlying3
  rw [show (8 * l + v) - (8 * l2 + v2) = (l - l2) * 8 + (v - v2) by omega]
  have b1 : -1024 < l - l2 ∧ l - l2 < 1024 := by omega
  have b2 : -8 < v - v2 ∧ v - v2 < 8 := by omega
  generalize l - l2 = x at *
  generalize v - v2 = y at *
  clear S hl hv hl2 hv2
  go_enter Tryd.func27, Tryd.ntmps27
  go_wp2_with fail
  go_region_held3 (fun w' => w'.cell? ⟨w.heap.size, 0, none⟩ = some (.int .i64 l) ∧ w'.cell? ⟨w.heap.size, 1, none⟩ = some (.int .i64 v) ∧ w'.cell? ⟨w.heap.size + 1, 0, none⟩ = some (.int .i64 l2) ∧ w'.cell? ⟨w.heap.size + 1, 1, none⟩ = some (.int .i64 v2) ∧ w.heap.size < w'.heap.size ∧ w.heap.size + 1 < w'.heap.size) (refine ⟨?_, ?_, ?_, ?_, ?_, ?_⟩ <;> first | (simp [*, go_sem]; done) | (simp [*, go_sem]; omega) | omega)
    (first | (go_at_call 32; refine (number_place_any _ _ _).mono ?_; rintro e w2 ⟨rfl, hb2⟩; obtain ⟨hc2, hf2⟩ := bcell hb2; have z2 := hb2.size; try simp at z2))
  all_goals go_wp2
  all_goals go_ret
  all_goals exact ⟨ret_int (by rw [Int.mul_comm]), (by repeat (first | exact Below.refl _ _ | assumption | refine Below.drew ?_ | refine below_drewN ?_ _ | refine Below.alloc ?_ (by (try simp) <;> omega) _ | refine Below.setCell ?_ (by (try simp) <;> omega) _ | refine Below.trans ?_ (Below.mono (by assumption) (by (try simp) <;> omega))))⟩
end Go.Proofs.YtkighpfckibkoaaDoor
