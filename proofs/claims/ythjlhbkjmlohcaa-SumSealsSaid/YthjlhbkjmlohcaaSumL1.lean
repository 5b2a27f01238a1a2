/-
  The walk of the law SumSeals.
-/
import Derived.Test.YthjlhbkjmlohcaaSumK
namespace Go.Proofs.Ythjlhbkjmlohcaa
open Go.RowKit Go.Shelf

theorem sealed_at (v : Value) (xs : List Nat) (n : Nat) (b : Bool) (hl : xs.length ≤ 4096) (hx : U64s xs) (hb : decide (SM.sealOf xs = n) = b) (w : World) (hs : Sl w .u64 v xs) :
    Calls Try.prog 14 #[.int .u64 n, v] w fun e w' => e = .returned (.bool b) ∧ Below w.heap.size w w' := by
  rw [← hb]; exact sealed_any v xs n hl hx w hs
set_option maxHeartbeats 1000000 in
theorem seals_any (v : Value) (xs : List Nat) (n : Nat) (hl : xs.length ≤ 140737488351232) (hx : U64s xs) (w : World) (hs : Sl w .u64 v xs) :
    Calls Try.prog 8 #[v, .int .u64 n] w fun e w' => e = .returned (.bool true) ∧ Below w.heap.size w w' := by
  by_cases hlong : 1000 < xs.length
  · obtain ⟨a, c, b, off, rfl, -, -, -⟩ := hs.cell
    clear hs
    have h1 : (1000 : Int) < (xs.length : Int) := by omega
    go_enter Try.func8, Try.ntmps8
    go_wp2_with fail
    refine (works2_any _).mono ?_
    rintro e w1 ⟨rfl, hb1⟩
    go_wp2_with fail
    go_ret
    exact ⟨rfl, hb1⟩
  · have h1 : (xs.length : Int) ≤ 1000 := by omega
    obtain ⟨s, es⟩ : ∃ s, SM.sealOf xs = s := ⟨_, rfl⟩
    have hpos : 1 ≤ (s : Int) := by have := SM.sealOf_pos xs; omega
    have hne : ((s : Int) != 0) = true := by rw [bne_iff_ne]; omega
    have A1 := Lib.hid (seal_any v xs (by omega) hx w hs)
    have A2 := Lib.hid (fun (W : World) (hb : Below w.heap.size w W) => sealed_at v xs s true (by omega) hx (decide_eq_true es) W (hs.below hb))
    have A3 := Lib.hid (fun (W : World) (hb : Below w.heap.size w W) => sealed_at v xs 0 false (by omega) hx (decide_eq_false (by omega)) W (hs.below hb))
    have A4 := Lib.hid (fun (b : Bool) (h : decide (s = n) = b) (W : World) (hb : Below w.heap.size w W) => sealed_at v xs n b (by omega) hx (by rw [es]; exact h) W (hs.below hb))
    rw [es] at A1
    clear es
    obtain ⟨a, c, b, off, rfl, -, -, -⟩ := hs.cell
    clear hs
    by_cases hn : n = s
    · subst hn
      have A5 := Lib.hid (A4.out true (by simp))
      clear A4
      go_enter Try.func8, Try.ntmps8
      go_wp2_with fail
      refine A1.out.mono ?_
      rintro e w1 ⟨rfl, hb1⟩
      go_wp2_with (go_at_call 13; refine (num2_any _ _).mono ?_; rintro e w' ⟨rfl, rfl⟩)
      refine (A2.out _ hb1).mono ?_
      rintro e w2 ⟨rfl, hb2⟩
      have b2 := hb1.trans (hb2.mono hb1.size)
      go_wp2_with fail
      refine (A3.out _ b2).mono ?_
      rintro e w3 ⟨rfl, hb3⟩
      have b3 := b2.trans (hb3.mono b2.size)
      go_wp2_with fail
      refine (A5.out _ b3).mono ?_
      rintro e w4 ⟨rfl, hb4⟩
      have b4 := b3.trans (hb4.mono b3.size)
      go_wp2_with fail
      refine (works2_any _).mono ?_
      rintro e w5 ⟨rfl, hb5⟩
      go_wp2_with fail
      go_ret
      exact ⟨rfl, b4.trans (hb5.mono b4.size)⟩
    · have hne2 : ((n : Int) == (s : Int)) = false := by rw [beq_eq_false_iff_ne]; omega
      have A5 := Lib.hid (A4.out false (decide_eq_false (fun e => hn e.symm)))
      clear A4 hn
      go_enter Try.func8, Try.ntmps8
      go_wp2_with fail
      refine A1.out.mono ?_
      rintro e w1 ⟨rfl, hb1⟩
      go_wp2_with (go_at_call 13; refine (num2_any _ _).mono ?_; rintro e w' ⟨rfl, rfl⟩)
      refine (A2.out _ hb1).mono ?_
      rintro e w2 ⟨rfl, hb2⟩
      have b2 := hb1.trans (hb2.mono hb1.size)
      go_wp2_with fail
      refine (A3.out _ b2).mono ?_
      rintro e w3 ⟨rfl, hb3⟩
      have b3 := b2.trans (hb3.mono b2.size)
      go_wp2_with fail
      refine (A5.out _ b3).mono ?_
      rintro e w4 ⟨rfl, hb4⟩
      have b4 := b3.trans (hb4.mono b3.size)
      go_wp2_with fail
      refine (works2_any _).mono ?_
      rintro e w5 ⟨rfl, hb5⟩
      go_wp2_with fail
      go_ret
      exact ⟨rfl, b4.trans (hb5.mono b4.size)⟩
end Go.Proofs.Ythjlhbkjmlohcaa
