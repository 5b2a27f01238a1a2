/-
  The walk of the law SumOf.
-/
import Derived.Test.YthjlhbkjmlohcaaSumK
import Derived.Test.YthjlhbkjmlohcaaSumR
import Derived.Test.YthjlhbkjmlohcaaCut
namespace Go.Proofs.Ythjlhbkjmlohcaa
open Go.RowKit Go.Shelf

theorem u64s_take {xs : List Nat} (h : U64s xs) (k : Nat) : U64s (xs.take k) := fun x hx => h x (List.mem_of_mem_take hx)
theorem u64s_drop {xs : List Nat} (h : U64s xs) (k : Nat) : U64s (xs.drop k) := fun x hx => h x (List.mem_of_mem_drop hx)
set_option maxRecDepth 100000 in
theorem sumOf_skip (v : Value) (xs : List Nat) (n : Nat) (f : Int) (hl : xs.length ≤ 140737488351232) (hf1 : -9223372036854775808 ≤ f) (hf2 : f ≤ 9223372036854775807) (h : 4100 < xs.length ∨ f < 0 ∨ (xs.length : Int) < f) (w : World) (hs : Sl w .u64 v xs) :
    Calls Try.prog 3 #[v, .int .u64 n, .int .i64 f] w fun e w' => e = .returned (.bool true) ∧ Below w.heap.size w w' := by
  obtain ⟨a, c, b, off, rfl, -, -, -⟩ := hs.cell
  clear hs
  have hl' : (xs.length : Int) ≤ 140737488351232 := by omega
  by_cases h1 : 4100 < xs.length
  · have k1 : (4100 : Int) < (xs.length : Int) := by omega
    clear h
    go_enter Try.func3, Try.ntmps3
    go_wp2_with fail
    refine (works2_any _).mono ?_
    rintro e w1 ⟨rfl, hb1⟩
    go_wp2_with fail
    go_ret
    exact ⟨rfl, hb1⟩
  · have k1 : (xs.length : Int) ≤ 4100 := by omega
    by_cases h2 : f < 0
    · clear h
      go_enter Try.func3, Try.ntmps3
      go_wp2_with fail
      refine (works2_any _).mono ?_
      rintro e w1 ⟨rfl, hb1⟩
      go_wp2_with fail
      go_ret
      exact ⟨rfl, hb1⟩
    · have k2 : 0 ≤ f := by omega
      have k3 : (xs.length : Int) < f := by omega
      clear h
      go_enter Try.func3, Try.ntmps3
      go_wp2_with fail
      refine (works2_any _).mono ?_
      rintro e w1 ⟨rfl, hb1⟩
      go_wp2_with fail
      go_ret
      exact ⟨rfl, hb1⟩
set_option maxRecDepth 100000 in
set_option maxHeartbeats 1000000 in
theorem sumOf_long (v : Value) (xs : List Nat) (n f : Nat) (hl : 4096 < xs.length) (hl2 : xs.length ≤ 4100) (hf : f ≤ xs.length) (hx : U64s xs) (w : World) (hs : Sl w .u64 v xs) :
    Calls Try.prog 3 #[v, .int .u64 n, .int .i64 f] w fun e w' => e = .returned (.bool true) ∧ Below w.heap.size w w' := by
  have k1 : (xs.length : Int) ≤ 4100 := by omega
  have k2 : (4096 : Int) < (xs.length : Int) := by omega
  have k3 : (f : Int) ≤ (xs.length : Int) := by omega
  have C1 := Lib.hid (fun (W : World) (hb : Below w.heap.size w W) => of_long v xs hl (by omega) W (hs.below hb))
  have C2 := Lib.hid (fun (W : World) (hb : Below w.heap.size w W) => seal_long v xs hl (by omega) W (hs.below hb))
  have C3 := Lib.hid (fun (W : World) (hb : Below w.heap.size w W) => more_long v xs n hl (by omega) W (hs.below hb))
  have C4 := Lib.hid (fun (W : World) (hb : Below w.heap.size w W) => refSeal2_any v xs (by omega) hx W (hs.below hb))
  have C5 := Lib.hid (fun (m : Nat) (W : World) (hb : Below w.heap.size w W) => sealed_long v xs m hl (by omega) W (hs.below hb))
  generalize SM.sealOf xs = s at *
  obtain ⟨a, c, b, off, rfl, -, -, -⟩ := hs.cell
  clear hs
  go_enter Try.func3, Try.ntmps3
  go_wp2_with fail
  refine (C1.out _ (Below.refl _ _)).mono ?_
  rintro e w1 ⟨rfl, b1⟩
  go_wp2_with fail
  refine (C2.out _ b1).mono ?_
  rintro e w2 ⟨rfl, hb2⟩
  have b2 := b1.trans (hb2.mono b1.size)
  go_wp2_with fail
  refine (C3.out _ b2).mono ?_
  rintro e w3 ⟨rfl, hb3⟩
  have b3 := b2.trans (hb3.mono b2.size)
  go_wp2_with (go_at_call 13; refine (num2_any _ _).mono ?_; rintro e w' ⟨rfl, rfl⟩)
  refine (C4.out _ b3).mono ?_
  rintro e w4 ⟨rfl, rfl⟩
  go_wp2_with fail
  refine (C5.out _ _ b3).mono ?_
  rintro e w4 ⟨rfl, hb4⟩
  have b4 := b3.trans (hb4.mono b3.size)
  go_wp2_with fail
  refine (works2_any _).mono ?_
  rintro e w5 ⟨rfl, hb5⟩
  go_wp2_with fail
  go_ret
  exact ⟨rfl, b4.trans (hb5.mono b4.size)⟩
set_option maxRecDepth 100000 in
set_option maxHeartbeats 2000000 in
theorem sumOf_some (v : Value) (xs : List Nat) (n f : Nat) (t q : Bool) (hl : xs.length ≤ 4096) (hf : f ≤ xs.length) (hn : n < 18446744073709551616) (hx : U64s xs) (ht : decide (SM.sealOf xs = n) = t) (hq : ((n : Int) == (SM.sealOf xs : Nat)) = q) (htq : (t == q) = true) (w : World) (hs : Sl w .u64 v xs) :
    Calls Try.prog 3 #[v, .int .u64 n, .int .i64 f] w fun e w' => e = .returned (.bool true) ∧ Below w.heap.size w w' := by
  obtain ⟨i0, hi, hz0, hz1, hz2⟩ := info_parts infoU64
  have k1 : (xs.length : Int) ≤ 4096 := by omega
  have k3 : (f : Int) ≤ (xs.length : Int) := by omega
  obtain ⟨r1, hr1, hr1s⟩ := cut_to (P := Try.prog) Try.underlying22 hi hz1 hs f hf
  obtain ⟨r2, hr2, hr2s⟩ := cut_from (P := Try.prog) Try.underlying22 hi hz1 hs f hf
  have hr1' : ∀ w, (Instr.slice 22 v none (some (.int .i64 f)) none).run Try.prog w = .ok r1 w := fun w => by
    rw [← hr1 w, run_sliceAt_slice w 22 _ _ _ _ (by kernel_rfl)]
  have hr2' : ∀ w, (Instr.slice 22 v (some (.int .i64 f)) none none).run Try.prog w = .ok r2 w := fun w => by
    rw [← hr2 w, run_sliceAt_slice w 22 _ _ _ _ (by kernel_rfl)]
  obtain ⟨A, eA⟩ : ∃ A, SM.sumOf xs = A := ⟨_, rfl⟩
  obtain ⟨B, eB⟩ : ∃ B, SM.sumOf (xs.take f) = B := ⟨_, rfl⟩
  obtain ⟨M, eM⟩ : ∃ M, SM.sumFrom n xs = M := ⟨_, rfl⟩
  obtain ⟨s, es⟩ : ∃ s, SM.sealOf xs = s := ⟨_, rfl⟩
  have hB : B < 18446744073709551616 := by rw [← eB]; exact SM.sumOf_lt _
  have eD : SM.sumFrom B (xs.drop f) = A := by
    rw [← eB, ← eA]
    show SM.sumFrom (SM.sumFrom SM.start (xs.take f)) (xs.drop f) = SM.sumFrom SM.start xs
    rw [← SM.sumFrom_append, List.take_append_drop]
  have C1 := Lib.hid (fun (W : World) (hb : Below w.heap.size w W) => of_any v xs hl hx W (hs.below hb))
  have C2 := Lib.hid (fun (W : World) (hb : Below w.heap.size w W) => seal_any v xs hl hx W (hs.below hb))
  have C3 := Lib.hid (fun (W : World) (hb : Below w.heap.size w W) => more_any v xs n hl hx hn W (hs.below hb))
  have C4 := Lib.hid (fun (W : World) (hb : Below w.heap.size w W) => of_any r1 (xs.take f) (by rw [List.length_take]; omega) (u64s_take hx f) W (hr1s W (hs.below hb)))
  have C5 := Lib.hid (fun (W : World) (hb : Below w.heap.size w W) => more_any r2 (xs.drop f) B (by rw [List.length_drop]; omega) (u64s_drop hx f) hB W (hr2s W (hs.below hb)))
  have C6 := Lib.hid (fun (W : World) (hb : Below w.heap.size w W) => refOf2_any v xs (by omega) hx W (hs.below hb))
  have C7 := Lib.hid (fun (W : World) (hb : Below w.heap.size w W) => refSeal2_any v xs (by omega) hx W (hs.below hb))
  have C8 := Lib.hid (fun (W : World) (hb : Below w.heap.size w W) => refMore2_any v xs n (by omega) hx hn W (hs.below hb))
  have C9 := Lib.hid (fun (m : Nat) (b : Bool) (h : decide (SM.sealOf xs = m) = b) (W : World) (hb : Below w.heap.size w W) => (show Calls Try.prog 14 #[.int .u64 m, v] W fun e w' => e = .returned (.bool b) ∧ Below W.heap.size W w' by rw [← h]; exact sealed_any v xs m hl hx W (hs.below hb)))
  have D1 := Lib.hid (C9.out s true (decide_eq_true es))
  have D2 := Lib.hid (C9.out n t ht)
  rw [eA] at C1 C6
  rw [eB] at C4
  rw [eM] at C3 C8
  rw [eD] at C5
  rw [es] at C2 C7 hq
  clear eA eB eM es eD C9 hr1s hr2s ht
  obtain ⟨a, c, b, off, rfl, -, -, -⟩ := hs.cell
  clear hs
  go_enter Try.func3, Try.ntmps3
  go_wp2_with fail
  refine (C1.out _ (Below.refl _ _)).mono ?_
  rintro e w1 ⟨rfl, b1⟩
  go_wp2_with fail
  refine (C2.out _ b1).mono ?_
  rintro e w2 ⟨rfl, hb2⟩
  have b2 := b1.trans (hb2.mono b1.size)
  go_wp2_with fail
  refine (C3.out _ b2).mono ?_
  rintro e w3 ⟨rfl, hb3⟩
  have b3 := b2.trans (hb3.mono b2.size)
  go_wp2_with fail
  refine (C4.out _ b3).mono ?_
  rintro e w4 ⟨rfl, hb4⟩
  have b4 := b3.trans (hb4.mono b3.size)
  go_wp2_with fail
  refine (C5.out _ b4).mono ?_
  rintro e w5 ⟨rfl, hb5⟩
  have b5 := b4.trans (hb5.mono b4.size)
  go_wp2_with (first
    | (go_at_call 13; refine (num2_any _ _).mono ?_; rintro e w' ⟨rfl, rfl⟩)
    | (go_at_call 16; refine (C6.out _ b5).mono ?_; rintro e w' ⟨rfl, rfl⟩)
    | (go_at_call 15; refine (C7.out _ b5).mono ?_; rintro e w' ⟨rfl, rfl⟩)
    | (go_at_call 17; refine (C8.out _ b5).mono ?_; rintro e w' ⟨rfl, rfl⟩))
  refine (D1.out _ b5).mono ?_
  rintro e w6 ⟨rfl, hb6⟩
  have b6 := b5.trans (hb6.mono b5.size)
  go_wp2_with fail
  refine (D2.out _ b6).mono ?_
  rintro e w7 ⟨rfl, hb7⟩
  have b7 := b6.trans (hb7.mono b6.size)
  go_wp2_with (go_at_call 15; refine (C7.out _ b7).mono ?_; rintro e w' ⟨rfl, rfl⟩)
  refine (works2_any _).mono ?_
  rintro e w8 ⟨rfl, hb8⟩
  go_wp2_with fail
  go_ret
  exact ⟨rfl, b7.trans (hb8.mono b7.size)⟩
theorem sumOfL_any (v : Value) (xs : List Nat) (n : Nat) (f : Int) (hl : xs.length ≤ 140737488351232) (hf1 : -9223372036854775808 ≤ f) (hf2 : f ≤ 9223372036854775807) (hn : n < 18446744073709551616) (hx : U64s xs) (w : World) (hs : Sl w .u64 v xs) :
    Calls Try.prog 3 #[v, .int .u64 n, .int .i64 f] w fun e w' => e = .returned (.bool true) ∧ Below w.heap.size w w' := by
  by_cases h : 4100 < xs.length ∨ f < 0 ∨ (xs.length : Int) < f
  · exact sumOf_skip v xs n f hl hf1 hf2 h w hs
  · obtain ⟨k, rfl⟩ := Int.eq_ofNat_of_zero_le (show 0 ≤ f by omega)
    by_cases h2 : 4096 < xs.length
    · exact sumOf_long v xs n k h2 (by omega) (by omega) hx w hs
    · refine sumOf_some v xs n k _ _ (by omega) (by omega) hn hx rfl rfl ?_ w hs
      rw [beq_iff_eq, Bool.eq_iff_iff, decide_eq_true_iff, beq_iff_eq]
      omega
end Go.Proofs.Ythjlhbkjmlohcaa
