/-
  The chapter's rows (waterlinelaw02.works) come out true.
-/
import Derived.Test.YthjlhbkjmlohcaaSumA
namespace Go.Proofs.Ythjlhbkjmlohcaa
open Go.RowKit Go.Shelf

theorem num2_any (x : Int) (w : World) : Calls Try.prog 13 #[.int .i64 x] w fun e w' => e = .returned (.int .i64 x) ∧ w = w' := by
  go_enter Try.func13, Try.ntmps13
  go_wp2
  go_ret
  exact ⟨rfl, rfl⟩
theorem nilSl64 (w : World) : Sl w .u64 (.slice none 0 0) [] := ⟨none, 0, rfl, Nat.le_refl _, fun h => by simp at h⟩
theorem oneSl (w : World) (x : Nat) : Sl (w.alloc (.cells #[.int .u64 x] 23)) .u64 (.slice (some ⟨w.heap.size, 0, none⟩) 1 1) [x] := by
  refine ⟨_, 1, rfl, Nat.le_refl _, fun _ => ⟨w.heap.size, 0, rfl, by simp, fun j hj => ?_⟩⟩
  have hj1 : j < 1 := hj
  obtain rfl : j = 0 := by omega
  simp [go_sem]
theorem pairSl (w : World) (x y : Nat) : Sl (w.alloc (.cells #[.int .u64 x, .int .u64 y] 23)) .u64 (.slice (some ⟨w.heap.size, 0, none⟩) 2 2) [x, y] := by
  refine ⟨_, 2, rfl, Nat.le_refl _, fun _ => ⟨w.heap.size, 0, rfl, by simp, fun j hj => ?_⟩⟩
  have hj1 : j < 2 := hj
  have : j = 0 ∨ j = 1 := by omega
  rcases this with rfl | rfl <;> simp [go_sem]
theorem srow1 : SM.sumOf [] = 14695981039346656037 := by decide +kernel
theorem srow2 : SM.sumOf [0] = 12638153115695167455 := by decide +kernel
theorem srow3 : decide (SM.sealOf [1, 2] = SM.sealOf [1, 2]) = true := by decide +kernel
theorem srow4 : decide (SM.sealOf [2, 1] = SM.sealOf [1, 2]) = false := by decide +kernel
theorem srow5 : decide (SM.sealOf [] = 0) = false := by decide +kernel
theorem u64s0 : U64s [] := fun x h => by cases h
theorem u64s1 : U64s [0] := fun x h => by simp at h; omega
theorem u64s2 : U64s [1, 2] := fun x h => by simp at h; omega
theorem u64s3 : U64s [2, 1] := fun x h => by simp at h; omega
theorem of_empty (w : World) : Calls Try.prog 10 #[.slice none 0 0] w fun e w' => e = .returned (.tuple #[.int .u64 14695981039346656037, .int .i64 0]) ∧ Below w.heap.size w w' := by
  have h := of_any (.slice none 0 0) [] (by decide) u64s0 w (nilSl64 w)
  rw [srow1] at h; exact h
theorem of_zero (w : World) : Calls Try.prog 10 #[.slice (some ⟨w.heap.size, 0, none⟩) 1 1] (w.alloc (.cells #[.int .u64 0] 23)) fun e w' => e = .returned (.tuple #[.int .u64 12638153115695167455, .int .i64 0]) ∧ Below (w.heap.size + 1) (w.alloc (.cells #[.int .u64 0] 23)) w' := by
  have h := of_any _ [0] (by decide) u64s1 _ (oneSl w 0)
  rw [srow2] at h; simpa using h
theorem sealed_none (w : World) : Calls Try.prog 14 #[.int .u64 0, .slice none 0 0] w fun e w' => e = .returned (.bool false) ∧ Below w.heap.size w w' := by
  have h := sealed_any (.slice none 0 0) [] 0 (by decide) u64s0 w (nilSl64 w)
  rw [srow5] at h; exact h
theorem seal_two (s : Nat) (hs : s = SM.sealOf [1, 2]) (w : World) : Calls Try.prog 11 #[.slice (some ⟨w.heap.size, 0, none⟩) 2 2] (w.alloc (.cells #[.int .u64 1, .int .u64 2] 23)) fun e w' => e = .returned (.tuple #[.int .u64 s, .int .i64 0]) ∧ Below (w.heap.size + 1) (w.alloc (.cells #[.int .u64 1, .int .u64 2] 23)) w' := by
  have h := seal_any _ [1, 2] (by decide) u64s2 _ (pairSl w 1 2)
  rw [← hs] at h; simpa using h
theorem sealed_two (s : Nat) (hs : s = SM.sealOf [1, 2]) (w : World) : Calls Try.prog 14 #[.int .u64 s, .slice (some ⟨w.heap.size, 0, none⟩) 2 2] (w.alloc (.cells #[.int .u64 1, .int .u64 2] 23)) fun e w' => e = .returned (.bool true) ∧ Below (w.heap.size + 1) (w.alloc (.cells #[.int .u64 1, .int .u64 2] 23)) w' := by
  have h := sealed_any _ [1, 2] s (by decide) u64s2 _ (pairSl w 1 2)
  rw [hs, srow3] at h; rw [hs]; simpa using h
theorem sealed_turned (s : Nat) (hs : s = SM.sealOf [1, 2]) (w : World) : Calls Try.prog 14 #[.int .u64 s, .slice (some ⟨w.heap.size, 0, none⟩) 2 2] (w.alloc (.cells #[.int .u64 2, .int .u64 1] 23)) fun e w' => e = .returned (.bool false) ∧ Below (w.heap.size + 1) (w.alloc (.cells #[.int .u64 2, .int .u64 1] 23)) w' := by
  have h := sealed_any _ [2, 1] s (by decide) u64s3 _ (pairSl w 2 1)
  rw [hs, srow4] at h; rw [hs]; simpa using h
set_option maxRecDepth 100000 in
set_option maxHeartbeats 1000000 in
theorem works2_any (w : World) :
    Calls Try.prog 9 #[] w fun e w' => e = .returned (.bool true) ∧ Below w.heap.size w w' := by
  obtain ⟨s, hs⟩ : ∃ s, s = SM.sealOf [1, 2] := ⟨_, rfl⟩
  have HS := Lib.hid hs; clear hs
  go_enter Try.func9, Try.ntmps9
  go_wp2_with fail
  refine (of_empty _).mono ?_
  rintro e w1 ⟨rfl, hb1⟩
  have z1 := hb1.size
  go_wp2_with fail
  refine (of_zero _).mono ?_
  rintro e w2 ⟨rfl, hb2⟩
  have z2 := hb2.size; simp at z2
  go_wp2_with fail
  refine (seal_two s HS.out _).mono ?_
  rintro e w3 ⟨rfl, hb3⟩
  have z3 := hb3.size; simp at z3
  go_wp2_with (go_at_call 13; refine (num2_any _ _).mono ?_; rintro e w' ⟨rfl, rfl⟩)
  refine (sealed_two s HS.out _).mono ?_
  rintro e w4 ⟨rfl, hb4⟩
  have z4 := hb4.size; simp at z4
  go_wp2_with (go_at_call 13; refine (num2_any _ _).mono ?_; rintro e w' ⟨rfl, rfl⟩)
  refine (sealed_turned s HS.out _).mono ?_
  rintro e w5 ⟨rfl, hb5⟩
  have z5 := hb5.size; simp at z5
  go_wp2_with (go_at_call 13; refine (num2_any _ _).mono ?_; rintro e w' ⟨rfl, rfl⟩)
  refine (sealed_none _).mono ?_
  rintro e w6 ⟨rfl, hb6⟩
  go_wp2_with (go_at_call 13; refine (num2_any _ _).mono ?_; rintro e w' ⟨rfl, rfl⟩)
  go_ret
  have b2 : Below w.heap.size w w2 := (hb1.alloc (by omega) _).trans (hb2.mono (by omega))
  have b3 : Below w.heap.size w w3 := (b2.alloc (by omega) _).trans (hb3.mono (by omega))
  have b4 : Below w.heap.size w w4 := (b3.alloc (by omega) _).trans (hb4.mono (by omega))
  have b5 : Below w.heap.size w w5 := (b4.alloc (by omega) _).trans (hb5.mono (by omega))
  exact ⟨rfl, b5.trans (hb6.mono (by omega))⟩
end Go.Proofs.Ythjlhbkjmlohcaa
