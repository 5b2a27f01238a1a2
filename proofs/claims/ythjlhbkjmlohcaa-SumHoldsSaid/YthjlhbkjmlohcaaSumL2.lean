/-
  The walk of the law SumHolds.
-/
import Derived.Test.YthjlhbkjmlohcaaSumK
import Derived.Test.YthjlhbkjmlohcaaApp
namespace Go.Proofs.Ythjlhbkjmlohcaa
open Go.RowKit Go.Shelf

theorem holdsS_skip (v : Value) (xs : List Nat) (f : Int) (y : Nat) (hl : xs.length ≤ 140737488351232) (hf1 : -9223372036854775808 ≤ f) (hf2 : f ≤ 9223372036854775807) (h : 300 < xs.length ∨ f < 0 ∨ (xs.length : Int) ≤ f ∨ y = 0) (w : World) (hs : Sl w .u64 v xs) :
    Calls Try.prog 6 #[v, .int .i64 f, .int .u64 y] w fun e w' => e = .returned (.bool true) ∧ Below w.heap.size w w' := by
  obtain ⟨a, c, b, off, rfl, -, -, -⟩ := hs.cell
  clear hs
  have hl' : (xs.length : Int) ≤ 140737488351232 := by omega
  by_cases h1 : 300 < xs.length
  · have k1 : (300 : Int) < (xs.length : Int) := by omega
    clear h
    go_enter Try.func6, Try.ntmps6
    go_wp2_with fail
    refine (works2_any _).mono ?_
    rintro e w1 ⟨rfl, hb1⟩
    go_wp2_with fail
    go_ret
    exact ⟨rfl, hb1⟩
  · have k1 : (xs.length : Int) ≤ 300 := by omega
    by_cases h2 : f < 0
    · clear h
      go_enter Try.func6, Try.ntmps6
      go_wp2_with fail
      refine (works2_any _).mono ?_
      rintro e w1 ⟨rfl, hb1⟩
      go_wp2_with fail
      go_ret
      exact ⟨rfl, hb1⟩
    · have k2 : 0 ≤ f := by omega
      by_cases h3 : (xs.length : Int) ≤ f
      · clear h
        go_enter Try.func6, Try.ntmps6
        go_wp2_with fail
        refine (works2_any _).mono ?_
        rintro e w1 ⟨rfl, hb1⟩
        go_wp2_with fail
        go_ret
        exact ⟨rfl, hb1⟩
      · have k3 : f < (xs.length : Int) := by omega
        obtain rfl : y = 0 := by omega
        clear h
        go_enter Try.func6, Try.ntmps6
        go_wp2_with fail
        refine (works2_any _).mono ?_
        rintro e w1 ⟨rfl, hb1⟩
        go_wp2_with fail
        go_ret
        exact ⟨rfl, hb1⟩
theorem u64s_set {xs : List Nat} (h : U64s xs) (k z : Nat) (hz : z < 18446744073709551616) : U64s (xs.set k z) := fun x hx => by
  rcases List.mem_or_eq_of_mem_set hx with h1 | rfl
  · exact h x h1
  · exact hz
set_option maxHeartbeats 1000000 in
theorem holdsS_some (v : Value) (xs : List Nat) (k y : Nat) (hl : xs.length ≤ 300) (hk : k < xs.length) (hy : y < 18446744073709551616) (hy0 : y ≠ 0) (hx : U64s xs) (w : World) (hs : Sl w .u64 v xs) :
    Calls Try.prog 6 #[v, .int .i64 k, .int .u64 y] w fun e w' => e = .returned (.bool true) ∧ Below w.heap.size w w' := by
  obtain ⟨i0, hi, hz0, hz1, hz2⟩ := info_parts infoU64
  have k1 : (xs.length : Int) ≤ 300 := by omega
  have k2 : (k : Int) < (xs.length : Int) := by omega
  have k3 : ((y : Int) == 0) = false := by rw [beq_eq_false_iff_ne]; omega
  obtain ⟨x, ex⟩ : ∃ x, xs[k]?.getD 0 = x := ⟨_, rfl⟩
  have hxk : x < 18446744073709551616 := by rw [← ex]; exact hx.at k
  have hxor := u64_xor_nat x y hxk hy
  have hz := SM.xor_lt x y hxk hy
  have hxy : x ^^^ y ≠ x := fun e => hy0 (by
    have := SM.xor_inj_right x y 0 (by rw [Nat.xor_zero]; exact e)
    exact this)
  generalize x ^^^ y = z at *
  obtain ⟨A, eA⟩ : ∃ A, SM.sumOf xs = A := ⟨_, rfl⟩
  obtain ⟨B, eB⟩ : ∃ B, SM.sumOf (xs.set k z) = B := ⟨_, rfl⟩
  obtain ⟨s, es⟩ : ∃ s, SM.sealOf xs = s := ⟨_, rfl⟩
  have hAB : A ≠ B := by
    rw [← eA, ← eB]
    exact SM.sum_set_ne xs k z SM.start hk SM.start_lt hx hz (by rw [ex]; exact hxy)
  have n1 : ((A : Int) != (B : Int)) = true := by rw [bne_iff_ne]; omega
  have n2 : ((s : Int) != 0) = true := by have := SM.sealOf_pos xs; rw [bne_iff_ne]; omega
  have C1 := Lib.hid (fun (W : World) (hb : Below w.heap.size w W) => of_any v xs (by omega) hx W (hs.below hb))
  have C2 := Lib.hid (fun (u : Value) (W : World) (hu : Sl W .u64 u (xs.set k z)) => of_any u (xs.set k z) (by rw [List.length_set]; omega) (u64s_set hx k z hz) W hu)
  have C3 := Lib.hid (fun (W : World) (hb : Below w.heap.size w W) => seal_any v xs (by omega) hx W (hs.below hb))
  rw [eA] at C1
  rw [eB] at C2
  rw [es] at C3
  have HS := Lib.hid hs
  have EX := Lib.hid ex
  clear eA eB es hAB hxy hs ex hy0
  have HL := Lib.hid (World.ownsRow_lit (base := w.heap.size) (size := 1) w #[] 0 (e := 23) (Nat.le_refl _) (by unfold maxLen; omega) rfl)
  obtain ⟨a, c, b, off, rfl, -, -, -⟩ := HS.out.cell
  go_enter Try.func6, Try.ntmps6
  go_wp2_with (first
    | (at_builtin; refine wpList_append_sl _ (by rfl) (.tmp 32) (.tmp 33) 22 rfl w.heap.size 23 i0 (.int .u64 0) 8 .u64 Try.underlying22 hi hz0 hz1 hz2 rfl _ [] rfl HL.out _ xs rfl (HS.out.below ((Below.refl _ _).alloc (Nat.le_refl _) _)) (by unfold maxLen; simp; omega) (by simp; omega) (by simp) ?_; intro v1 w1 own1 grow1 at1; have own2 : w1.ownsRow w.heap.size 23 1 v1 xs.length (valsOf .u64 xs) := own1; clear own1; obtain ⟨g, c1, rfl, hge, hgl, hnc⟩ := own_form own2 (by omega); have hc1 : w1.cell? ⟨g, k, none⟩ = some (.int .u64 (x : Nat)) := by {rw [← EX.out]; exact own_cell own2 k hk}; have hfz : w1.frozen? ⟨g, k, none⟩ = false := World.ownsRow.frozenAt own2 _))
  have b1 : Below w.heap.size w w1 := ((Below.refl _ _).alloc (Nat.le_refl _) _).grown grow1 (by simp) (fun j e => Nat.le_of_eq (Option.some.inj e))
  have bs : Below w.heap.size w (w1.setCell ⟨g, k, none⟩ (.int .u64 (z : Nat))) := b1.setCell (p := ⟨g, k, none⟩) hge _
  have S2 : Sl (w1.setCell ⟨g, k, none⟩ (.int .u64 (z : Nat))) .u64 (.slice (some ⟨g, 0, none⟩) xs.length c1) (xs.set k z) := by
    have h := own_sl (own_set own2 k z)
    rw [List.length_set] at h; exact h
  clear own2 grow1 at1 hc1 hfz
  refine (C1.out _ bs).mono ?_
  rintro e w2 ⟨rfl, hb2⟩
  have b2 := bs.trans (hb2.mono bs.size)
  go_wp2_with fail
  refine (C2.out _ _ (S2.below hb2)).mono ?_
  rintro e w3 ⟨rfl, hb3⟩
  have b3 := b2.trans (hb3.mono b2.size)
  go_wp2_with fail
  refine (C3.out _ b3).mono ?_
  rintro e w4 ⟨rfl, hb4⟩
  have b4 := b3.trans (hb4.mono b3.size)
  go_wp2_with (go_at_call 13; refine (num2_any _ _).mono ?_; rintro e w' ⟨rfl, rfl⟩)
  refine (works2_any _).mono ?_
  rintro e w5 ⟨rfl, hb5⟩
  go_wp2_with fail
  go_ret
  exact ⟨rfl, b4.trans (hb5.mono b4.size)⟩
theorem holdsS_any (v : Value) (xs : List Nat) (f : Int) (y : Nat) (hl : xs.length ≤ 140737488351232) (hf1 : -9223372036854775808 ≤ f) (hf2 : f ≤ 9223372036854775807) (hy : y < 18446744073709551616) (hx : U64s xs) (w : World) (hs : Sl w .u64 v xs) :
    Calls Try.prog 6 #[v, .int .i64 f, .int .u64 y] w fun e w' => e = .returned (.bool true) ∧ Below w.heap.size w w' := by
  by_cases h : 300 < xs.length ∨ f < 0 ∨ (xs.length : Int) ≤ f ∨ y = 0
  · exact holdsS_skip v xs f y hl hf1 hf2 h w hs
  · obtain ⟨k, rfl⟩ := Int.eq_ofNat_of_zero_le (show 0 ≤ f by omega)
    exact holdsS_some v xs k y (by omega) (by omega) hy (by omega) hx w hs
end Go.Proofs.Ythjlhbkjmlohcaa
