/-
  Texts MeL to MeL, as one.
-/
import Derived.Test.YtgoemaecdolioaaGreatDoorMo38
/-
  model: few (of one operation).
-/
namespace Go.Proofs.YtgoemaecdolioaaGreatDoor
open Go.RowKit Go.Shelf
attribute [local go_sem] Oper.semAt_some

set_option maxRecDepth 100000 in
set_option maxHeartbeats 8000000 in
theorem few11_one (x : OpX) {ua : Option Addr} {un uc : Nat} (hu : x.ub = .slice ua un uc) (w : World) {b : Nat} (hb : Blk w b 25 (opA x)) :
    Calls Tryz.prog 10 #[.slice (some ⟨b, 0, none⟩) 1 1, .int .i64 1] w fun e w' => e = .returned (.bool (decide (x.path.length ≤ 200 ∧ x.other.length ≤ 200 ∧ un ≤ 500))) ∧ Below w.heap.size w w' := by
  obtain ⟨k, p, q, pl, mn, ub, bs⟩ := x
  dsimp only at hu
  subst hu
  unfold opA at hb
  dsimp only at *
  have c1 := hb.cell (j := 1) rfl
  have c2 := hb.cell (j := 2) rfl
  have c5 := hb.cell (j := 5) rfl
  clear hb
  obtain ⟨R, hR⟩ : ∃ R, decide (p.length ≤ 200 ∧ q.length ≤ 200 ∧ un ≤ 500) = R := ⟨_, rfl⟩
  have HR := Lib.hid hR
  rw [hR]
  clear hR
  go_enter Tryz.func10, Tryz.ntmps10
  go_wp2_with fail
  go_loopw [5] (fun i wr => wr = w ∧ ((i = .int .i64 0) ∨ (i = .int .i64 1 ∧ p.length ≤ 200 ∧ q.length ≤ 200 ∧ un ≤ 500))) (fun i _ => 1 - (intOf i).toNat)
  case atStart => exact ⟨rfl, .inl rfl⟩
  case round =>
    obtain ⟨rfl, rfl | ⟨rfl, h1, h2, h3⟩⟩ := hrel
    · by_cases g1 : (200 : Int) < (p.length : Int)
      · go_wp2_with fail
        go_ret
        exact ⟨ret_bool (by rw [← HR.out]; simp; omega), Below.refl _ _⟩
      by_cases g2 : (200 : Int) < (q.length : Int)
      · go_wp2_with fail
        go_ret
        exact ⟨ret_bool (by rw [← HR.out]; simp; omega), Below.refl _ _⟩
      by_cases g3 : (500 : Int) < (un : Int)
      · go_wp2_with fail
        go_ret
        exact ⟨ret_bool (by rw [← HR.out]; simp; omega), Below.refl _ _⟩
      have g4 : p.length ≤ 200 ∧ q.length ≤ 200 ∧ un ≤ 500 := by omega
      have G4 := Lib.hid g4
      clear g4
      go_wp2_with fail
      go_roundw
      case rel => exact ⟨by first | trivial | rfl, .inr ⟨by first | trivial | rfl, G4.out⟩⟩
      case measure => simp [intOf]
    · have hr : R = true := by rw [← HR.out]; simp; omega
      subst hr
      clear h1 h2 h3
      go_wp2_with fail
      go_ret
      exact ⟨rfl, Below.refl _ _⟩
end Go.Proofs.YtgoemaecdolioaaGreatDoor
