/-
  The walk of the law SumJoins.
-/
import Derived.Test.YthjlhbkjmlohcaaSumK
import Derived.Test.YthjlhbkjmlohcaaApp
namespace Go.Proofs.Ythjlhbkjmlohcaa
open Go.RowKit Go.Shelf

theorem joinsS_skip (v u : Value) (xs ys : List Nat) (n : Nat) (hl : xs.length ≤ 140737488351232) (hl2 : ys.length ≤ 140737488351232) (h : 1000 < xs.length ∨ 1000 < ys.length) (w : World) (hs : Sl w .u64 v xs) (hu : Sl w .u64 u ys) :
    Calls Try.prog 7 #[.int .u64 n, v, u] w fun e w' => e = .returned (.bool true) ∧ Below w.heap.size w w' := by
  obtain ⟨a, c, b, off, rfl, -, -, -⟩ := hs.cell
  obtain ⟨a', c', b', off', rfl, -, -, -⟩ := hu.cell
  clear hs hu
  have hl' : (xs.length : Int) ≤ 140737488351232 := by omega
  by_cases h1 : 1000 < xs.length
  · have k1 : (1000 : Int) < (xs.length : Int) := by omega
    clear h
    go_enter Try.func7, Try.ntmps7
    go_wp2_with fail
    refine (works2_any _).mono ?_
    rintro e w1 ⟨rfl, hb1⟩
    go_wp2_with fail
    go_ret
    exact ⟨rfl, hb1⟩
  · have k1 : (xs.length : Int) ≤ 1000 := by omega
    have k2 : (1000 : Int) < (ys.length : Int) := by omega
    clear h
    go_enter Try.func7, Try.ntmps7
    go_wp2_with fail
    refine (works2_any _).mono ?_
    rintro e w1 ⟨rfl, hb1⟩
    go_wp2_with fail
    go_ret
    exact ⟨rfl, hb1⟩
theorem u64s_append {xs ys : List Nat} (h : U64s xs) (k : U64s ys) : U64s (xs ++ ys) := fun x hx => by
  rcases List.mem_append.1 hx with h1 | h1
  · exact h x h1
  · exact k x h1
set_option maxHeartbeats 1000000 in
theorem joinsS_some (v u : Value) (xs ys : List Nat) (n : Nat) (hl : xs.length ≤ 1000) (hl2 : ys.length ≤ 1000) (hn : n < 18446744073709551616) (hx : U64s xs) (hy : U64s ys) (w : World) (hs : Sl w .u64 v xs) (hu : Sl w .u64 u ys) :
    Calls Try.prog 7 #[.int .u64 n, v, u] w fun e w' => e = .returned (.bool true) ∧ Below w.heap.size w w' := by
  obtain ⟨i0, hi, hz0, hz1, hz2⟩ := info_parts infoU64
  have k1 : (xs.length : Int) ≤ 1000 := by omega
  have k2 : (ys.length : Int) ≤ 1000 := by omega
  obtain ⟨A, eA⟩ : ∃ A, SM.sumFrom n xs = A := ⟨_, rfl⟩
  obtain ⟨B, eB⟩ : ∃ B, SM.sumFrom A ys = B := ⟨_, rfl⟩
  have eC : SM.sumFrom n (xs ++ ys) = B := by rw [SM.sumFrom_append, eA, eB]
  have hA : A < 18446744073709551616 := by rw [← eA]; exact SM.sumFrom_lt _ _ hn
  have C1 := Lib.hid (fun (W : World) (hb : Below w.heap.size w W) => more_any v xs n (by omega) hx hn W (hs.below hb))
  have C2 := Lib.hid (fun (W : World) (hb : Below w.heap.size w W) => more_any u ys A (by omega) hy hA W (hu.below hb))
  have C3 := Lib.hid (fun (r : Value) (W : World) (hr : Sl W .u64 r (xs ++ ys)) => more_any r (xs ++ ys) n (by rw [List.length_append]; omega) (u64s_append hx hy) hn W hr)
  rw [eA] at C1
  rw [eB] at C2
  rw [eC] at C3
  have HS := Lib.hid hs
  have HU := Lib.hid hu
  clear eA eB eC hs hu
  obtain ⟨a, c, b, off, rfl, -, -, -⟩ := HS.out.cell
  obtain ⟨a', c', b', off', rfl, -, -, -⟩ := HU.out.cell
  go_enter Try.func7, Try.ntmps7
  go_wp2_with fail
  refine (C1.out _ (Below.refl _ _)).mono ?_
  rintro e w1 ⟨rfl, hb1⟩
  go_wp2_with fail
  refine (C2.out _ hb1).mono ?_
  rintro e w2 ⟨rfl, hb2⟩
  have b2 := hb1.trans (hb2.mono hb1.size)
  have HL := Lib.hid (World.ownsRow_lit (base := w2.heap.size) (size := 1) w2 #[] 0 (e := 23) (Nat.le_refl _) (by unfold maxLen; omega) rfl)
  have z2 := b2.size
  go_wp2_with (first
    | (at_builtin; refine wpList_append_sl _ (by rfl) (.tmp 38) (.tmp 39) 22 rfl w2.heap.size 23 i0 (.int .u64 0) 8 .u64 Try.underlying22 hi hz0 hz1 hz2 rfl _ _ rfl own3 _ ys rfl (HU.out.below (b2.trans (b3.mono z2))) (by unfold maxLen; simp; omega) (by simp; omega) b3.size ?_; intro v4 w4 own4 grow4 at4)
    | (at_builtin; refine wpList_append_sl _ (by rfl) (.tmp 36) (.tmp 37) 22 rfl w2.heap.size 23 i0 (.int .u64 0) 8 .u64 Try.underlying22 hi hz0 hz1 hz2 rfl _ [] rfl HL.out _ xs rfl ((HS.out.below b2).below ((Below.refl _ _).alloc (Nat.le_refl _) _)) (by unfold maxLen; simp; omega) (by simp; omega) (by simp) ?_; intro v3 w3 own3 grow3 at3; have b3 : Below w2.heap.size w2 w3 := ((Below.refl _ _).alloc (Nat.le_refl _) _).grown grow3 (by simp) (fun j e => Nat.le_of_eq (Option.some.inj e))))
  have b4 : Below w2.heap.size w2 w4 := b3.grown grow4 b3.size (fun j e => (own3.lt j e).1)
  have s4 : Sl w4 .u64 v4 (xs ++ ys) := own_sl own4
  refine (C3.out _ _ s4).mono ?_
  rintro e w5 ⟨rfl, hb5⟩
  have b5 : Below w.heap.size w w5 := (b2.trans (b4.mono z2)).trans (hb5.mono (Nat.le_trans z2 b4.size))
  go_wp2_with (go_at_call 13; refine (num2_any _ _).mono ?_; rintro e w' ⟨rfl, rfl⟩)
  refine (works2_any _).mono ?_
  rintro e w6 ⟨rfl, hb6⟩
  go_wp2_with fail
  go_ret
  exact ⟨rfl, b5.trans (hb6.mono b5.size)⟩
theorem joinsS_any (v u : Value) (xs ys : List Nat) (n : Nat) (hl : xs.length ≤ 140737488351232) (hl2 : ys.length ≤ 140737488351232) (hn : n < 18446744073709551616) (hx : U64s xs) (hy : U64s ys) (w : World) (hs : Sl w .u64 v xs) (hu : Sl w .u64 u ys) :
    Calls Try.prog 7 #[.int .u64 n, v, u] w fun e w' => e = .returned (.bool true) ∧ Below w.heap.size w w' := by
  by_cases h : 1000 < xs.length ∨ 1000 < ys.length
  · exact joinsS_skip v u xs ys n hl hl2 h w hs hu
  · exact joinsS_some v u xs ys n (by omega) (by omega) hn hx hy w hs hu
end Go.Proofs.Ythjlhbkjmlohcaa
