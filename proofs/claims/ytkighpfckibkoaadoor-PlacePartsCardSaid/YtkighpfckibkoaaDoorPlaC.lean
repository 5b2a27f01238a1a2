/-
  Contracts of place.Distance, Address, Move, At.
-/
import Derived.Test.YtkighpfckibkoaaDoorPlaB
import Derived.Test.YtkighpfckibkoaaDoorBase
namespace Go.Proofs.YtkighpfckibkoaaDoor
open Go.RowKit

theorem slM1 {W w1 : World} {t : TypeId} {l v : Int} {c B : Nat} (hc : 1 ≤ c) (hB : B = W.heap.size) (hb : Below (B + 1) (W.alloc (.cells #[.int .i64 l, .int .i64 v] t)) w1) : SlM w1 (.slice (some ⟨B, 0, none⟩) 1 c) [(l, v)] := by
  subst hB
  obtain ⟨h1, h2, -, -⟩ := pair_new hb
  refine ⟨W.heap.size, 0, c, rfl, hc, Nat.lt_of_lt_of_le (by simp) hb.size, fun j hj => ?_⟩
  obtain rfl : j = 0 := by simp at hj; omega
  exact ⟨h1, h2⟩
theorem slM2 {W w1 : World} {t : TypeId} {l v l2 v2 : Int} {c B : Nat} (hc : 2 ≤ c) (hB : B = W.heap.size) (hb : Below (B + 1) (W.alloc (.cells #[.int .i64 l, .int .i64 v, .int .i64 l2, .int .i64 v2] t)) w1) : SlM w1 (.slice (some ⟨B, 0, none⟩) 2 c) [(l, v), (l2, v2)] := by
  subst hB
  have h : ∀ o, w1.cell? ⟨W.heap.size, o, none⟩ = (W.alloc (.cells #[.int .i64 l, .int .i64 v, .int .i64 l2, .int .i64 v2] t)).cell? ⟨W.heap.size, o, none⟩ := fun o => hb.cell (p := ⟨W.heap.size, o, none⟩) (Nat.lt_succ_self _)
  refine ⟨W.heap.size, 0, c, rfl, hc, Nat.lt_of_lt_of_le (by simp) hb.size, fun j hj => ?_⟩
  have hj' : j = 0 ∨ j = 1 := by simp at hj; omega
  rcases hj' with rfl | rfl <;> refine ⟨?_, ?_⟩ <;> rw [h] <;> simp [go_sem]
/-- Two cells stored to, and a new block, behind a call: what they hold, and what others hold. -/
theorem two_set {W w3 : World} {B : Nat} {x y a b : Value} {o : Obj} (h0 : W.cell? ⟨B, 0, none⟩ = some a) (h1 : W.cell? ⟨B, 1, none⟩ = some b) (hB : B < W.heap.size)
    (hb : Below W.heap.size (((W.setCell ⟨B, 0, none⟩ x).setCell ⟨B, 1, none⟩ y).alloc o) w3) :
    w3.cell? ⟨B, 0, none⟩ = some x ∧ w3.cell? ⟨B, 1, none⟩ = some y ∧ ∀ A k, A ≠ B → A < W.heap.size → w3.cell? ⟨A, k, none⟩ = W.cell? ⟨A, k, none⟩ ∧ w3.frozen? ⟨A, k, none⟩ = W.frozen? ⟨A, k, none⟩ := by
  have ha : Below W.heap.size ((W.setCell ⟨B, 0, none⟩ x).setCell ⟨B, 1, none⟩ y) w3 := ((Below.refl _ _).alloc (by simp) _).trans hb
  refine ⟨?_, ?_, fun A k hA hl => ⟨?_, ?_⟩⟩
  · rw [ha.cell (p := ⟨B, 0, none⟩) hB, World.cell?_setCell_other _ ⟨B, 1, none⟩ ⟨B, 0, none⟩ _ (by simp)]
    exact World.cell?_setCell_same' _ _ _ (by rw [h0]; rfl)
  · rw [ha.cell (p := ⟨B, 1, none⟩) hB]
    exact World.cell?_setCell_same' _ _ _ (by rw [World.cell?_setCell_other _ ⟨B, 0, none⟩ ⟨B, 1, none⟩ _ (by simp), h1]; rfl)
  · rw [ha.cell (p := ⟨A, k, none⟩) hl, World.cell?_setCell_far _ _ _ _ (Ne.symm hA), World.cell?_setCell_far _ _ _ _ (Ne.symm hA)]
  · rw [ha.frozen (p := ⟨A, k, none⟩) hl, World.frozen?_setCell, World.frozen?_setCell]
theorem okP_iff {l v : Int} : okP l v = true ↔ 0 ≤ l ∧ l < 1024 ∧ 0 ≤ v ∧ v < 8 := decide_eq_true_iff
def distN (l v l2 v2 : Int) : Int := if okP l v && okP l2 v2 then (8 * l2 + v2) - (8 * l + v) else 0
def distE (l v l2 v2 : Int) : Int := if okP l v && okP l2 v2 then 0 else 2
def distOut (l v l2 v2 : Int) : Value := .tuple #[.int .i64 (distN l v l2 v2), .int .i64 (distE l v l2 v2)]
set_option maxHeartbeats 2000000 in
theorem distance_any (l v l2 v2 : Int) (w : World) (ht : Ends w) :
    Calls Tryd.prog 18 #[.agg #[.int .i64 l, .int .i64 v], .agg #[.int .i64 l2, .int .i64 v2]] w fun e w' => e = .returned (distOut l v l2 v2) ∧ Below w.heap.size w w' := by
  have hz := ht.room
  have HT := Lib.hid ht; clear ht
  cases hok : okAll [(l, v), (l2, v2)] with
  | true =>
    have hok' : okP l v = true ∧ okP l2 v2 = true := by simpa [okAll] using hok
    have HO := Lib.hid (show distOut l v l2 v2 = .tuple #[.int .i64 ((8 * l2 + v2) - (8 * l + v)), .int .i64 0] by unfold distOut distN distE; rw [hok'.1, hok'.2]; rfl)
    have o1 := okP_iff.1 hok'.1
    have o2 := okP_iff.1 hok'.2
    have HB := Lib.hid (behind_any l2 v2 l v (by omega) (by omega) (by omega) (by omega))
    have HK := Lib.hid hok
    clear hok hok' o1 o2
    go_enter Tryd.func18, Tryd.ntmps18
    go_wp2_with fail
    refine wp_scope_forward 0 rfl ?_
    go_wp2_with fail
    go_region
    all_goals go_wp2_with fail
    all_goals
      refine (stand_any _ [(l, v), (l2, v2)] (Nat.le_refl 2) _ (HT.out.below (B := w.heap.size) (by repeat (first | exact Below.refl _ _ | assumption | refine Below.drew ?_ | refine below_drewN ?_ _ | refine Below.alloc ?_ (by (try simp) <;> omega) _ | refine Below.setCell ?_ (by (try simp) <;> omega) _ | refine Below.trans ?_ (Below.mono (by assumption) (by (try simp) <;> omega)))) hz) (slM2 (by decide) (by simp) (Below.refl _ _).drew)).mono ?_
      rintro e w1 ⟨rfl, hb1⟩
      have z1 := hb1.size; try simp at z1
      rw [HK.out]
      obtain ⟨hc1, hf1⟩ := bcell hb1
      go_wp2_with fail
      refine (HB.out _).mono ?_
      rintro e w2 ⟨rfl, hb2⟩
      go_wp2_with fail
      rw [Exit.jump_ret]
      go_ret2
      exact ⟨by rw [HO.out]; rfl, (by repeat (first | exact Below.refl _ _ | assumption | refine Below.drew ?_ | refine below_drewN ?_ _ | refine Below.alloc ?_ (by (try simp) <;> omega) _ | refine Below.setCell ?_ (by (try simp) <;> omega) _ | refine Below.trans ?_ (Below.mono (by assumption) (by (try simp) <;> omega))))⟩
  | false =>
    have hok' : (okP l v && okP l2 v2) = false := by simpa [okAll] using hok
    have HO := Lib.hid (show distOut l v l2 v2 = .tuple #[.int .i64 0, .int .i64 2] by unfold distOut distN distE; rw [hok']; rfl)
    have HK := Lib.hid hok
    clear hok hok'
    go_enter Tryd.func18, Tryd.ntmps18
    go_wp2_with fail
    refine wp_scope_forward 0 rfl ?_
    go_wp2_with fail
    go_region
    all_goals go_wp2_with fail
    all_goals
      refine (stand_any _ [(l, v), (l2, v2)] (Nat.le_refl 2) _ (HT.out.below (B := w.heap.size) (by repeat (first | exact Below.refl _ _ | assumption | refine Below.drew ?_ | refine below_drewN ?_ _ | refine Below.alloc ?_ (by (try simp) <;> omega) _ | refine Below.setCell ?_ (by (try simp) <;> omega) _ | refine Below.trans ?_ (Below.mono (by assumption) (by (try simp) <;> omega)))) hz) (slM2 (by decide) (by simp) (Below.refl _ _).drew)).mono ?_
      rintro e w1 ⟨rfl, hb1⟩
      have z1 := hb1.size; try simp at z1
      rw [HK.out]
      go_wp2_with fail
      go_step3
      refine ⟨rfl, ?_⟩
      go_wp2
      rw [Exit.jump_ret]
      go_ret2
      exact ⟨by rw [HO.out]; rfl, (by repeat (first | exact Below.refl _ _ | assumption | refine Below.drew ?_ | refine below_drewN ?_ _ | refine Below.alloc ?_ (by (try simp) <;> omega) _ | refine Below.setCell ?_ (by (try simp) <;> omega) _ | refine Below.trans ?_ (Below.mono (by assumption) (by (try simp) <;> omega))))⟩
theorem address_any (l v : Int) (w : World) (ht : Ends w) :
    Calls Tryd.prog 9 #[.agg #[.int .i64 l, .int .i64 v]] w fun e w' => e = .returned (distOut 0 0 l v) ∧ Below w.heap.size w w' := by
  have hz := ht.room
  have HD := Lib.hid (fun W (hb : Below w.heap.size w W) => distance_any 0 0 l v W (ht.below hb hz))
  clear ht
  go_enter Tryd.func9, Tryd.ntmps9
  go_wp2_with fail
  refine (HD.out _ ((Below.refl _ _).alloc (Nat.le_refl _) _)).mono ?_
  rintro e w1 ⟨rfl, hb1⟩
  unfold distOut at *
  go_wp2_with fail
  go_ret2
  exact ⟨rfl, ((Below.refl _ _).alloc (Nat.le_refl _) _).trans (hb1.mono (by simp))⟩
/-- Where a place is, so far behind: the address; what Move answers. -/
def moveOk (l v b : Int) : Bool := okP l v && decide (0 ≤ 8 * l + v + b ∧ 8 * l + v + b < 8192)
def moveL (l v b : Int) : Int := if moveOk l v b then (8 * l + v + b) / 8 else 0
def moveV (l v b : Int) : Int := if moveOk l v b then (8 * l + v + b) % 8 else 0
def moveE (l v b : Int) : Int := if okP l v then (if moveOk l v b then 0 else 4) else 2
def moveOut (l v b : Int) : Value := .tuple #[.agg #[.int .i64 (moveL l v b), .int .i64 (moveV l v b)], .int .i64 (moveE l v b)]
theorem move_no (l v b : Int) (hok : okP l v = false) (w : World) (ht : Ends w) :
    Calls Tryd.prog 17 #[.agg #[.int .i64 l, .int .i64 v], .int .i64 b] w fun e w' => e = .returned (moveOut l v b) ∧ Below w.heap.size w w' := by
  have hz := ht.room
  have HT := Lib.hid ht; clear ht
  have HO := Lib.hid (show moveOut l v b = .tuple #[.agg #[.int .i64 0, .int .i64 0], .int .i64 2] by unfold moveOut moveL moveV moveE moveOk; rw [hok]; rfl)
  have HK := Lib.hid (show okAll [(l, v)] = false by unfold okAll; rw [List.all_cons, hok]; rfl)
  clear hok
  go_enter Tryd.func17, Tryd.ntmps17
  go_wp2_with fail
  refine wp_scope_forward 0 rfl ?_
  go_wp2_with fail
  refine (stand_any _ [(l, v)] (by show 1 ≤ 2; decide) _ (HT.out.below (B := w.heap.size) (by repeat (first | exact Below.refl _ _ | assumption | refine Below.drew ?_ | refine below_drewN ?_ _ | refine Below.alloc ?_ (by (try simp) <;> omega) _ | refine Below.setCell ?_ (by (try simp) <;> omega) _ | refine Below.trans ?_ (Below.mono (by assumption) (by (try simp) <;> omega)))) hz) (slM1 (by decide) (by simp) (Below.refl _ _))).mono ?_
  rintro e w1 ⟨rfl, hb1⟩
  have z1 := hb1.size; try simp at z1
  obtain ⟨hc1, hf1⟩ := bcell hb1
  rw [HK.out]
  go_wp2_with fail
  go_step3
  refine ⟨rfl, ?_⟩
  go_wp2
  rw [Exit.jump_ret]
  obtain ⟨hp1, hp2, -, -⟩ := pair_new (W := w.alloc (.cells #[.int .i64 l, .int .i64 v] 23)) (t := 23) (a := .int .i64 0) (b := .int .i64 0) (w1 := w1) (by repeat (first | exact Below.refl _ _ | assumption | refine Below.drew ?_ | refine below_drewN ?_ _ | refine Below.alloc ?_ (by (try simp) <;> omega) _ | refine Below.setCell ?_ (by (try simp) <;> omega) _ | refine Below.trans ?_ (Below.mono (by assumption) (by (try simp) <;> omega))))
  simp only [World.size_alloc] at hp1 hp2
  refine bodyPost_ret (v := moveOut l v b) (by rw [HO.out]; simp [results, Tryd.results17, go_sem, World.cell?_setCell_same', hp1, hp2]) rfl ⟨rfl, (by repeat (first | exact Below.refl _ _ | assumption | refine Below.drew ?_ | refine below_drewN ?_ _ | refine Below.alloc ?_ (by (try simp) <;> omega) _ | refine Below.setCell ?_ (by (try simp) <;> omega) _ | refine Below.trans ?_ (Below.mono (by assumption) (by (try simp) <;> omega))))⟩
theorem move_far (l v b : Int) (hok : okP l v = true) (hb : b ≤ -8192 ∨ 8192 ≤ b) (w : World) (ht : Ends w) :
    Calls Tryd.prog 17 #[.agg #[.int .i64 l, .int .i64 v], .int .i64 b] w fun e w' => e = .returned (moveOut l v b) ∧ Below w.heap.size w w' := by
  have hz := ht.room
  have HT := Lib.hid ht; clear ht
  have o1 := okP_iff.1 hok
  have HO := Lib.hid (show moveOut l v b = .tuple #[.agg #[.int .i64 0, .int .i64 0], .int .i64 4] by
    unfold moveOut moveL moveV moveE moveOk; rw [hok, decide_eq_false (by omega)]; rfl)
  have HK := Lib.hid (show okAll [(l, v)] = true by unfold okAll; rw [List.all_cons, hok]; rfl)
  clear hok o1
  go_enter Tryd.func17, Tryd.ntmps17
  go_wp2_with fail
  refine wp_scope_forward 0 rfl ?_
  go_wp2_with fail
  refine (stand_any _ [(l, v)] (by show 1 ≤ 2; decide) _ (HT.out.below (B := w.heap.size) (by repeat (first | exact Below.refl _ _ | assumption | refine Below.drew ?_ | refine below_drewN ?_ _ | refine Below.alloc ?_ (by (try simp) <;> omega) _ | refine Below.setCell ?_ (by (try simp) <;> omega) _ | refine Below.trans ?_ (Below.mono (by assumption) (by (try simp) <;> omega)))) hz) (slM1 (by decide) (by simp) (Below.refl _ _))).mono ?_
  rintro e w1 ⟨rfl, hb1⟩
  have z1 := hb1.size; try simp at z1
  obtain ⟨hc1, hf1⟩ := bcell hb1
  rw [HK.out]
  obtain ⟨hp1, hp2, -, -⟩ := pair_new (W := w.alloc (.cells #[.int .i64 l, .int .i64 v] 23)) (t := 23) (a := .int .i64 0) (b := .int .i64 0) (w1 := w1) (by repeat (first | exact Below.refl _ _ | assumption | refine Below.drew ?_ | refine below_drewN ?_ _ | refine Below.alloc ?_ (by (try simp) <;> omega) _ | refine Below.setCell ?_ (by (try simp) <;> omega) _ | refine Below.trans ?_ (Below.mono (by assumption) (by (try simp) <;> omega))))
  simp only [World.size_alloc] at hp1 hp2
  rcases hb with hb | hb
  · go_wp2_with fail
    go_step3
    refine ⟨rfl, ?_⟩
    go_wp2
    rw [Exit.jump_ret]
    refine bodyPost_ret (v := moveOut l v b) (by rw [HO.out]; simp [results, Tryd.results17, go_sem, World.cell?_setCell_same', hp1, hp2]) rfl ⟨rfl, (by repeat (first | exact Below.refl _ _ | assumption | refine Below.drew ?_ | refine below_drewN ?_ _ | refine Below.alloc ?_ (by (try simp) <;> omega) _ | refine Below.setCell ?_ (by (try simp) <;> omega) _ | refine Below.trans ?_ (Below.mono (by assumption) (by (try simp) <;> omega))))⟩
  · have hb' : ¬ b ≤ -8192 := by omega
    go_wp2_with fail
    go_step3
    refine ⟨rfl, ?_⟩
    go_wp2
    rw [Exit.jump_ret]
    refine bodyPost_ret (v := moveOut l v b) (by rw [HO.out]; simp [results, Tryd.results17, go_sem, World.cell?_setCell_same', hp1, hp2]) rfl ⟨rfl, (by repeat (first | exact Below.refl _ _ | assumption | refine Below.drew ?_ | refine below_drewN ?_ _ | refine Below.alloc ?_ (by (try simp) <;> omega) _ | refine Below.setCell ?_ (by (try simp) <;> omega) _ | refine Below.trans ?_ (Below.mono (by assumption) (by (try simp) <;> omega))))⟩
set_option maxHeartbeats 1000000 in
theorem move_near (l v b : Int) (hok : okP l v = true) (hb1 : -8192 < b) (hb2 : b < 8192) (w : World) (ht : Ends w) :
    Calls Tryd.prog 17 #[.agg #[.int .i64 l, .int .i64 v], .int .i64 b] w fun e w' => e = .returned (moveOut l v b) ∧ Below w.heap.size w w' := by
  have hz := ht.room
  have HT := Lib.hid ht; clear ht
  have o1 := okP_iff.1 hok
  have HON := Lib.hid (on_any l v b (by omega) (by omega) ⟨hb1, hb2⟩)
  have e1 : okP ((8 * l + v + b) / 8) ((8 * l + v + b) % 8) = decide (0 ≤ 8 * l + v + b ∧ 8 * l + v + b < 8192) := by unfold okP; rw [decide_eq_decide]; omega
  have HO : Hid (moveOut l v b = if okP ((8 * l + v + b) / 8) ((8 * l + v + b) % 8) then .tuple #[.agg #[.int .i64 ((8 * l + v + b) / 8), .int .i64 ((8 * l + v + b) % 8)], .int .i64 0] else .tuple #[.agg #[.int .i64 0, .int .i64 0], .int .i64 4]) := by
    show _ = _
    unfold moveOut moveL moveV moveE moveOk; rw [hok, e1, Bool.true_and]
    cases decide (0 ≤ 8 * l + v + b ∧ 8 * l + v + b < 8192) <;> rfl
  have HK := Lib.hid (show okAll [(l, v)] = true by unfold okAll; rw [List.all_cons, hok]; rfl)
  clear hok o1 e1
  generalize (8 * l + v + b) / 8 = x at *
  generalize (8 * l + v + b) % 8 = y at *
  have hb' : ¬ b ≤ -8192 := by omega
  have hb'' : ¬ 8192 ≤ b := by omega
  have HK2 := Lib.hid (show okAll [(x, y)] = okP x y by unfold okAll; rw [List.all_cons, List.all_nil, Bool.and_true])
  cases hxy : okP x y with
  | true =>
    rw [hxy] at HO HK2
    clear hxy
    go_enter Tryd.func17, Tryd.ntmps17
    go_wp2_with fail
    refine wp_scope_forward 0 rfl ?_
    go_wp2_with fail
    refine (stand_any _ [(l, v)] (by show 1 ≤ 2; decide) _ (HT.out.below (B := w.heap.size) (by repeat (first | exact Below.refl _ _ | assumption | refine Below.drew ?_ | refine below_drewN ?_ _ | refine Below.alloc ?_ (by (try simp) <;> omega) _ | refine Below.setCell ?_ (by (try simp) <;> omega) _ | refine Below.trans ?_ (Below.mono (by assumption) (by (try simp) <;> omega)))) hz) (slM1 (by decide) (by simp) (Below.refl _ _))).mono ?_
    rintro e w1 ⟨rfl, hb1⟩
    have z1 := hb1.size; try simp at z1
    rw [HK.out]
    obtain ⟨hp1, hp2, hp3, hp4⟩ := pair_new (W := w.alloc (.cells #[.int .i64 l, .int .i64 v] 23)) (t := 23) (a := .int .i64 0) (b := .int .i64 0) (w1 := w1) (by repeat (first | exact Below.refl _ _ | assumption | refine Below.drew ?_ | refine below_drewN ?_ _ | refine Below.alloc ?_ (by (try simp) <;> omega) _ | refine Below.setCell ?_ (by (try simp) <;> omega) _ | refine Below.trans ?_ (Below.mono (by assumption) (by (try simp) <;> omega))))
    obtain ⟨hq1, hq2, hq3, hq4⟩ := pair_new (W := (w.alloc (.cells #[.int .i64 l, .int .i64 v] 23)).alloc (.cells #[.int .i64 0, .int .i64 0] 23)) (t := 50) (a := .int .i64 l) (b := .int .i64 v) (w1 := w1) (by repeat (first | exact Below.refl _ _ | assumption | refine Below.drew ?_ | refine below_drewN ?_ _ | refine Below.alloc ?_ (by (try simp) <;> omega) _ | refine Below.setCell ?_ (by (try simp) <;> omega) _ | refine Below.trans ?_ (Below.mono (by assumption) (by (try simp) <;> omega))))
    simp only [World.size_alloc] at hp1 hp2 hp3 hp4 hq1 hq2 hq3 hq4
    have b1 : Below w.heap.size w w1 := (by repeat (first | exact Below.refl _ _ | assumption | refine Below.drew ?_ | refine below_drewN ?_ _ | refine Below.alloc ?_ (by (try simp) <;> omega) _ | refine Below.setCell ?_ (by (try simp) <;> omega) _ | refine Below.trans ?_ (Below.mono (by assumption) (by (try simp) <;> omega))))
    clear hb1
    go_wp2_with fail
    refine (HON.out _).mono ?_
    rintro e w2 ⟨rfl, hb2⟩
    have z2 := hb2.size
    obtain ⟨hc2, hf2⟩ := bcell hb2
    have b2 : Below w.heap.size w w2 := b1.trans (hb2.mono (by omega))
    rw [← hc2 _ _ (by omega)] at hp1 hp2 hq1 hq2
    rw [← hf2 _ _ (by omega)] at hp3 hp4 hq3 hq4
    clear hc2 hf2 hb2
    go_wp2_with fail
    refine (stand_any _ [(x, y)] (by show 1 ≤ 2; decide) _ (HT.out.below (B := w.heap.size) (by repeat (first | exact Below.refl _ _ | assumption | refine Below.drew ?_ | refine below_drewN ?_ _ | refine Below.alloc ?_ (by (try simp) <;> omega) _ | refine Below.setCell ?_ (by (try simp) <;> omega) _ | refine Below.trans ?_ (Below.mono (by assumption) (by (try simp) <;> omega)))) hz) (slM1 (by decide) (by simp) (Below.refl _ _))).mono ?_
    rintro e w3 ⟨rfl, hb3⟩
    have z3 := hb3.size; try simp at z3
    obtain ⟨r1, r2, ro⟩ := two_set hq1 hq2 (by omega) (hb3.mono (by simp))
    obtain ⟨r3, r5⟩ := ro (w.heap.size + 1) 0 (by omega) (by omega)
    obtain ⟨r4, r6⟩ := ro (w.heap.size + 1) 1 (by omega) (by omega)
    rw [hp1] at r3
    rw [hp2] at r4
    rw [hp3] at r5
    rw [hp4] at r6
    have b3 : Below w.heap.size w w3 := (by repeat (first | exact Below.refl _ _ | assumption | refine Below.drew ?_ | refine below_drewN ?_ _ | refine Below.alloc ?_ (by (try simp) <;> omega) _ | refine Below.setCell ?_ (by (try simp) <;> omega) _ | refine Below.trans ?_ (Below.mono (by assumption) (by (try simp) <;> omega))))
    clear ro hb3 hp1 hp2 hp3 hp4 hq1 hq2 hq3 hq4
    rw [HK2.out]
    go_wp2_with fail
    rw [Exit.jump_ret]
    refine bodyPost_ret (v := moveOut l v b) (by rw [HO.out]; simp [results, Tryd.results17, go_sem, World.cell?_setCell_same', r3, r4]) rfl ⟨rfl, (by repeat (first | exact Below.refl _ _ | assumption | refine Below.drew ?_ | refine below_drewN ?_ _ | refine Below.alloc ?_ (by (try simp) <;> omega) _ | refine Below.setCell ?_ (by (try simp) <;> omega) _ | refine Below.trans ?_ (Below.mono (by assumption) (by (try simp) <;> omega))))⟩
  | false =>
    rw [hxy] at HO HK2
    clear hxy
    go_enter Tryd.func17, Tryd.ntmps17
    go_wp2_with fail
    refine wp_scope_forward 0 rfl ?_
    go_wp2_with fail
    refine (stand_any _ [(l, v)] (by show 1 ≤ 2; decide) _ (HT.out.below (B := w.heap.size) (by repeat (first | exact Below.refl _ _ | assumption | refine Below.drew ?_ | refine below_drewN ?_ _ | refine Below.alloc ?_ (by (try simp) <;> omega) _ | refine Below.setCell ?_ (by (try simp) <;> omega) _ | refine Below.trans ?_ (Below.mono (by assumption) (by (try simp) <;> omega)))) hz) (slM1 (by decide) (by simp) (Below.refl _ _))).mono ?_
    rintro e w1 ⟨rfl, hb1⟩
    have z1 := hb1.size; try simp at z1
    rw [HK.out]
    obtain ⟨hp1, hp2, hp3, hp4⟩ := pair_new (W := w.alloc (.cells #[.int .i64 l, .int .i64 v] 23)) (t := 23) (a := .int .i64 0) (b := .int .i64 0) (w1 := w1) (by repeat (first | exact Below.refl _ _ | assumption | refine Below.drew ?_ | refine below_drewN ?_ _ | refine Below.alloc ?_ (by (try simp) <;> omega) _ | refine Below.setCell ?_ (by (try simp) <;> omega) _ | refine Below.trans ?_ (Below.mono (by assumption) (by (try simp) <;> omega))))
    obtain ⟨hq1, hq2, hq3, hq4⟩ := pair_new (W := (w.alloc (.cells #[.int .i64 l, .int .i64 v] 23)).alloc (.cells #[.int .i64 0, .int .i64 0] 23)) (t := 50) (a := .int .i64 l) (b := .int .i64 v) (w1 := w1) (by repeat (first | exact Below.refl _ _ | assumption | refine Below.drew ?_ | refine below_drewN ?_ _ | refine Below.alloc ?_ (by (try simp) <;> omega) _ | refine Below.setCell ?_ (by (try simp) <;> omega) _ | refine Below.trans ?_ (Below.mono (by assumption) (by (try simp) <;> omega))))
    simp only [World.size_alloc] at hp1 hp2 hp3 hp4 hq1 hq2 hq3 hq4
    have b1 : Below w.heap.size w w1 := (by repeat (first | exact Below.refl _ _ | assumption | refine Below.drew ?_ | refine below_drewN ?_ _ | refine Below.alloc ?_ (by (try simp) <;> omega) _ | refine Below.setCell ?_ (by (try simp) <;> omega) _ | refine Below.trans ?_ (Below.mono (by assumption) (by (try simp) <;> omega))))
    clear hb1
    go_wp2_with fail
    refine (HON.out _).mono ?_
    rintro e w2 ⟨rfl, hb2⟩
    have z2 := hb2.size
    obtain ⟨hc2, hf2⟩ := bcell hb2
    have b2 : Below w.heap.size w w2 := b1.trans (hb2.mono (by omega))
    rw [← hc2 _ _ (by omega)] at hp1 hp2 hq1 hq2
    rw [← hf2 _ _ (by omega)] at hp3 hp4 hq3 hq4
    clear hc2 hf2 hb2
    go_wp2_with fail
    refine (stand_any _ [(x, y)] (by show 1 ≤ 2; decide) _ (HT.out.below (B := w.heap.size) (by repeat (first | exact Below.refl _ _ | assumption | refine Below.drew ?_ | refine below_drewN ?_ _ | refine Below.alloc ?_ (by (try simp) <;> omega) _ | refine Below.setCell ?_ (by (try simp) <;> omega) _ | refine Below.trans ?_ (Below.mono (by assumption) (by (try simp) <;> omega)))) hz) (slM1 (by decide) (by simp) (Below.refl _ _))).mono ?_
    rintro e w3 ⟨rfl, hb3⟩
    have z3 := hb3.size; try simp at z3
    obtain ⟨r1, r2, ro⟩ := two_set hq1 hq2 (by omega) (hb3.mono (by simp))
    obtain ⟨r3, r5⟩ := ro (w.heap.size + 1) 0 (by omega) (by omega)
    obtain ⟨r4, r6⟩ := ro (w.heap.size + 1) 1 (by omega) (by omega)
    rw [hp1] at r3
    rw [hp2] at r4
    rw [hp3] at r5
    rw [hp4] at r6
    have b3 : Below w.heap.size w w3 := (by repeat (first | exact Below.refl _ _ | assumption | refine Below.drew ?_ | refine below_drewN ?_ _ | refine Below.alloc ?_ (by (try simp) <;> omega) _ | refine Below.setCell ?_ (by (try simp) <;> omega) _ | refine Below.trans ?_ (Below.mono (by assumption) (by (try simp) <;> omega))))
    clear ro hb3 hp1 hp2 hp3 hp4 hq1 hq2 hq3 hq4
    rw [HK2.out]
    go_wp2_with fail
    go_step3
    refine ⟨rfl, ?_⟩
    go_wp2
    rw [Exit.jump_ret]
    refine bodyPost_ret (v := moveOut l v b) (by rw [HO.out]; simp [results, Tryd.results17, go_sem, World.cell?_setCell_same', r3, r4]) rfl ⟨rfl, (by repeat (first | exact Below.refl _ _ | assumption | refine Below.drew ?_ | refine below_drewN ?_ _ | refine Below.alloc ?_ (by (try simp) <;> omega) _ | refine Below.setCell ?_ (by (try simp) <;> omega) _ | refine Below.trans ?_ (Below.mono (by assumption) (by (try simp) <;> omega))))⟩
theorem move_any (l v b : Int) (w : World) (ht : Ends w) :
    Calls Tryd.prog 17 #[.agg #[.int .i64 l, .int .i64 v], .int .i64 b] w fun e w' => e = .returned (moveOut l v b) ∧ Below w.heap.size w w' := by
  cases hok : okP l v with
  | false => exact move_no l v b hok w ht
  | true =>
    by_cases h1 : b ≤ -8192 ∨ 8192 ≤ b
    · exact move_far l v b hok h1 w ht
    · exact move_near l v b hok (by omega) (by omega) w ht
theorem at_any (n : Int) (w : World) (ht : Ends w) :
    Calls Tryd.prog 10 #[.int .i64 n] w fun e w' => e = .returned (moveOut 0 0 n) ∧ Below w.heap.size w w' := by
  have hz := ht.room
  have HD := Lib.hid (fun W (hb : Below w.heap.size w W) => move_any 0 0 n W (ht.below hb hz))
  clear ht
  go_enter Tryd.func10, Tryd.ntmps10
  go_wp2_with fail
  refine (HD.out _ (by repeat (first | exact Below.refl _ _ | assumption | refine Below.drew ?_ | refine below_drewN ?_ _ | refine Below.alloc ?_ (by (try simp) <;> omega) _ | refine Below.setCell ?_ (by (try simp) <;> omega) _ | refine Below.trans ?_ (Below.mono (by assumption) (by (try simp) <;> omega))))).mono ?_
  rintro e w1 ⟨rfl, hb1⟩
  have z1 := hb1.size; try simp at z1
  have HO := Lib.hid (show moveOut 0 0 n = .tuple #[.agg #[.int .i64 (moveL 0 0 n), .int .i64 (moveV 0 0 n)], .int .i64 (moveE 0 0 n)] from rfl)
  rw [HO.out]
  generalize moveL 0 0 n = x at *
  generalize moveV 0 0 n = y at *
  generalize moveE 0 0 n = z at *
  obtain ⟨hp1, hp2, hp3, hp4⟩ := pair_new (W := w) (t := 23) (a := .int .i64 0) (b := .int .i64 0) (w1 := w1) (by repeat (first | exact Below.refl _ _ | assumption | refine Below.drew ?_ | refine below_drewN ?_ _ | refine Below.alloc ?_ (by (try simp) <;> omega) _ | refine Below.setCell ?_ (by (try simp) <;> omega) _ | refine Below.trans ?_ (Below.mono (by assumption) (by (try simp) <;> omega))))
  go_wp2_with fail
  refine bodyPost_ret (v := .tuple #[.agg #[.int .i64 x, .int .i64 y], .int .i64 z]) (by simp [results, Tryd.results10, go_sem, World.cell?_setCell_same', hp1, hp2]) rfl ⟨by rw [HO.out], (by repeat (first | exact Below.refl _ _ | assumption | refine Below.drew ?_ | refine below_drewN ?_ _ | refine Below.alloc ?_ (by (try simp) <;> omega) _ | refine Below.setCell ?_ (by (try simp) <;> omega) _ | refine Below.trans ?_ (Below.mono (by assumption) (by (try simp) <;> omega))))⟩
end Go.Proofs.YtkighpfckibkoaaDoor
