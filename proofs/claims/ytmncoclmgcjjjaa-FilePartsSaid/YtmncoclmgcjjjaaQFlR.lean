/-
  The law FileParts: its walk. Written by gen_flr.py.
-/
import Derived.Test.YtmncoclmgcjjjaaMf11
import Derived.Laws.Concat
namespace Go.Proofs.Ytmncoclmgcjjjaa
open Go.RowKit Go.Shelf
attribute [local go_sem] Oper.semAt_some

theorem strOf_append (a b : List Nat) : strOf (a ++ b) = strOf a ++ strOf b := by
  apply ByteArray.ext
  unfold strOf strOfNums
  rw [ByteArray.data_append]
  simp
theorem strOf_size (a : List Nat) : (strOf a).size = a.length := by
  unfold strOf
  rw [strOfNums_size, List.length_map]
theorem strAdd9 (a b : List Nat) (h : a.length + b.length ≤ 100000) (W : World) : (binOp .add 9 (.string (strOf a)) (.string (strOf b))).run Try.prog W = .ok (.string (strOf (a ++ b))) W := by
  rw [binOp_string_add, run_string_add_sum W _ _ (by rw [strOf_size, strOf_size]; omega), strOf_append]
theorem errR_ok {n : Nat} {p m : Int} (hn : n ≤ 448) (hp : 0 ≤ p) (hm : 0 ≤ m) : errR n p m = 0 := by unfold errR; rw [if_neg (by omega), if_neg (by omega)]
theorem read_parts (xs : List Nat) (p m n : Nat) (h : xs.length ≤ 448) : outR xs p ((m + n : Nat) : Int) = outR xs p m ++ outR xs ((p + m : Nat) : Int) n := by
  unfold outR
  rw [errR_ok h (by omega) (by omega), errR_ok h (by omega) (by omega), errR_ok h (by omega) (by omega)]
  simp only [if_true, Int.toNat_natCast]
  rw [List.take_add, List.drop_drop]
theorem outR_length (xs : List Nat) (p m : Int) (h : xs.length ≤ 448) : (outR xs p m).length ≤ 448 := by
  unfold outR
  split
  · rw [List.length_take, List.length_drop]; omega
  · simp
set_option maxRecDepth 100000 in
set_option maxHeartbeats 4000000 in
theorem parts9_any {v : Value} {xs : List Nat} (p m n : Int) (w : World) (hv : FB w v xs) :
    Calls Try.prog 9 #[v, .int .i64 p, .int .i64 m, .int .i64 n] w fun e w' => e = .returned (.bool true) ∧ Below w.heap.size w w' := by
  have HK := Lib.hid works9_any
  have HN := Lib.hid num9_any
  have HS := Lib.hid strEq9
  have HR : Hid (∀ W q k, Below w.heap.size w W → Calls Try.prog 13 #[v, .int .i64 q, .int .i64 k] W fun e w' => ∃ r, e = .returned (.tuple #[r, .int .i64 (errR xs.length q k)]) ∧ FB w' r (outR xs q k) ∧ Below W.heap.size W w') := show ∀ W, _ from fun W q k hW => readF_any q k W (hv.below hW)
  have HL := Lib.hid (fun h p m => outR_length xs p m h)
  have HP := Lib.hid (fun h p m n => read_parts xs p m n h)
  have HO := Lib.hid (fun h p m h1 h2 => @errR_ok xs.length p m h h1 h2)
  obtain ⟨a, c, rfl, -⟩ := hv.form
  obtain ⟨l, hl⟩ : ∃ l, xs.length = l := ⟨_, rfl⟩
  rw [hl] at HR HL HP HO ⊢
  clear hv hl
  by_cases g0 : (448 : Int) < (l : Int)
  · go_enter Try.func9, Try.ntmps9
    go_wp2_with fail
    refine (HK.out _).mono ?_
    rintro e w1 ⟨rfl, hb⟩
    go_wp2_with fail
    go_ret
    exact ⟨rfl, hb⟩
  by_cases g1 : p < 0
  · go_enter Try.func9, Try.ntmps9
    go_wp2_with fail
    refine (HK.out _).mono ?_
    rintro e w1 ⟨rfl, hb⟩
    go_wp2_with fail
    go_ret
    exact ⟨rfl, hb⟩
  by_cases g2 : (500 : Int) < p
  · go_enter Try.func9, Try.ntmps9
    go_wp2_with fail
    refine (HK.out _).mono ?_
    rintro e w1 ⟨rfl, hb⟩
    go_wp2_with fail
    go_ret
    exact ⟨rfl, hb⟩
  by_cases g3 : m < 0
  · go_enter Try.func9, Try.ntmps9
    go_wp2_with fail
    refine (HK.out _).mono ?_
    rintro e w1 ⟨rfl, hb⟩
    go_wp2_with fail
    go_ret
    exact ⟨rfl, hb⟩
  by_cases g4 : (500 : Int) < m
  · go_enter Try.func9, Try.ntmps9
    go_wp2_with fail
    refine (HK.out _).mono ?_
    rintro e w1 ⟨rfl, hb⟩
    go_wp2_with fail
    go_ret
    exact ⟨rfl, hb⟩
  by_cases g5 : n < 0
  · go_enter Try.func9, Try.ntmps9
    go_wp2_with fail
    refine (HK.out _).mono ?_
    rintro e w1 ⟨rfl, hb⟩
    go_wp2_with fail
    go_ret
    exact ⟨rfl, hb⟩
  by_cases g6 : (500 : Int) < n
  · go_enter Try.func9, Try.ntmps9
    go_wp2_with fail
    refine (HK.out _).mono ?_
    rintro e w1 ⟨rfl, hb⟩
    go_wp2_with fail
    go_ret
    exact ⟨rfl, hb⟩
  obtain ⟨P, rfl⟩ : ∃ P : Nat, p = (P : Int) := ⟨p.toNat, by omega⟩
  obtain ⟨M, rfl⟩ : ∃ M : Nat, m = (M : Int) := ⟨m.toNat, by omega⟩
  obtain ⟨N, rfl⟩ : ∃ N : Nat, n = (N : Int) := ⟨n.toNat, by omega⟩
  have hl4 : l ≤ 448 := by omega
  have w1 : IntKind.i64.wrap ((M : Int) + (N : Int)) = ((M + N : Nat) : Int) := by rw [IntWalk.i64_in _ (by omega)]; omega
  have w2 : IntKind.i64.wrap ((P : Int) + (M : Int)) = ((P + M : Nat) : Int) := by rw [IntWalk.i64_in _ (by omega)]; omega
  have H1 := Lib.hid (fun W => HR.out W P ((M + N : Nat) : Int))
  have H2 := Lib.hid (fun W => HR.out W P M)
  have H3 := Lib.hid (fun W => HR.out W ((P + M : Nat) : Int) N)
  rw [HO.out hl4 _ _ (by omega) (by omega)] at H1 H2 H3
  have HX := Lib.hid (HP.out hl4 P M N)
  have HL1 := Lib.hid (HL.out hl4 P M)
  have HL2 := Lib.hid (HL.out hl4 ((P + M : Nat) : Int) N)
  obtain ⟨A1, hA1⟩ : ∃ A, M + N = A := ⟨_, rfl⟩
  obtain ⟨A2, hA2⟩ : ∃ A, P + M = A := ⟨_, rfl⟩
  rw [hA1] at w1 H1 HX
  rw [hA2] at w2 H3 HX HL2
  have HB0 : Hid (Below w.heap.size w w) := show Below _ _ _ from Below.refl _ _
  clear HR HP HO HL hA1 hA2
  go_enter Try.func9, Try.ntmps9
  go_wp2_with fail
  refine (H1.out w HB0.out).mono ?_
  rintro e w1 ⟨r1, rfl, f1, hb⟩
  have HB1 : Hid (Below w.heap.size w w1) := show Below _ _ _ from HB0.out.trans (hb.mono HB0.out.size)
  have F1 := Lib.hid f1.sl
  clear hb f1
  go_wp2_with fail
  refine (H2.out w1 HB1.out).mono ?_
  rintro e w2 ⟨r2, rfl, f2, hb⟩
  have HB2 : Hid (Below w.heap.size w w2) := show Below _ _ _ from HB1.out.trans (hb.mono HB1.out.size)
  have F1 := Lib.hid (F1.out.below hb)
  have F2 := Lib.hid f2.sl
  clear hb f2
  go_wp2_with fail
  refine (H3.out w2 HB2.out).mono ?_
  rintro e w3 ⟨r3, rfl, f3, hb⟩
  have HB3 : Hid (Below w.heap.size w w3) := show Below _ _ _ from HB2.out.trans (hb.mono HB2.out.size)
  have d1 := conv_sl (F1.out.below hb)
  have d2 := conv_sl (F2.out.below hb)
  have d3 := conv_sl f3.sl
  have d4 := strOf_append (outR xs P M) (outR xs A2 N)
  rw [← HX.out] at d4
  have d5 : ¬ (9223372036854775807 < (strOf (outR xs P M)).size + (strOf (outR xs A2 N)).size) := by rw [strOf_size, strOf_size]; have := HL1.out; have := HL2.out; omega
  obtain ⟨s1, hs1⟩ : ∃ s, strOf (outR xs P A1) = s := ⟨_, rfl⟩
  obtain ⟨s2, hs2⟩ : ∃ s, strOf (outR xs P M) = s := ⟨_, rfl⟩
  obtain ⟨s3, hs3⟩ : ∃ s, strOf (outR xs A2 N) = s := ⟨_, rfl⟩
  rw [hs1] at d1 d4
  rw [hs2] at d2 d4 d5
  rw [hs3] at d3 d4 d5
  have d6 := d4.symm
  clear d4
  have k1 := HS.out s1
  clear hb f3 hs1 hs2 hs3
  go_wp2_with (go_at_call 17; refine (HN.out _ _).mono ?_; rintro e w' ⟨rfl, rfl⟩)
  refine (HK.out _).mono ?_
  rintro e w7 ⟨rfl, hb⟩
  have HB7 : Hid (Below w.heap.size w w7) := show Below _ _ _ from HB3.out.trans (hb.mono HB3.out.size)
  clear hb
  go_wp2_with fail
  go_ret
  exact ⟨rfl, HB7.out⟩
end Go.Proofs.Ytmncoclmgcjjjaa
