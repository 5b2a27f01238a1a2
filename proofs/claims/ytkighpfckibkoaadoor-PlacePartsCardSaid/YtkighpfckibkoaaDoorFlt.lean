/-
  Small whole numbers as binary floating point of 64 bits: sums, differences, comparisons and the way back are exact.
-/
import Derived.Test.YtkighpfckibkoaaDoorRows
import Derived.WalkLawsBesides
namespace Go.Proofs.YtkighpfckibkoaaDoor
namespace Flt
open Ieee

theorem cut_zero (s : Bool) (n : Nat) : Toward.even.cut s n 0 = n := by
  simp [Toward.cut, Nat.mod_one]
theorem log2_mul (m k : Nat) (h : m ≠ 0) : (m * 2 ^ k).log2 = m.log2 + k := by
  have hp := Nat.two_pow_pos k
  have hm : m * 2 ^ k ≠ 0 := Nat.mul_ne_zero h (by omega)
  have a := Nat.log2_self_le h
  have b := Nat.lt_log2_self (n := m)
  refine (Nat.log2_eq_iff hm).2 ⟨?_, ?_⟩
  · rw [Nat.pow_add]; exact Nat.mul_le_mul_right _ a
  · rw [show m.log2 + k + 1 = (m.log2 + 1) + k by omega, Nat.pow_add]; exact Nat.mul_lt_mul_of_pos_right b hp
theorem cut_exact (way : Toward) (s : Bool) (n d : Nat) (h : n ≠ 0) : way.cut s (n * 2 ^ d) d = n := by
  have hl := log2_mul n d h
  have hg : (1 : Nat) <<< min d ((n * 2 ^ d).log2 + 2) = 2 ^ d := by
    rw [hl, Nat.min_eq_left (by omega), Nat.one_shiftLeft]
  have hp := Nat.two_pow_pos d
  unfold Toward.cut
  simp only [hg]
  rw [Nat.mul_div_cancel _ hp, Nat.mul_mod_left]
  cases way <;> simp <;> omega
theorem lp : double.leastPlace = -1074 := by decide
theorem fbits : double.fractionBits = 52 := rfl
theorem bin : double.binade = 4503599627370496 := by decide
theorem inf : double.infRung = 9218868437227405312 := by decide
theorem sgn : double.signWeight = 9223372036854775808 := by decide
/-- The rung of a small number. -/
def rung (m : Nat) : Nat := (m.log2 + 1022) * 4503599627370496 + m * 2 ^ (52 - m.log2)
theorem mant (m : Nat) (h : m ≠ 0) (hl : m.log2 ≤ 52) : 4503599627370496 ≤ m * 2 ^ (52 - m.log2) ∧ m * 2 ^ (52 - m.log2) < 2 * 4503599627370496 := by
  have a := Nat.log2_self_le h
  have b := Nat.lt_log2_self (n := m)
  have hp := Nat.two_pow_pos (52 - m.log2)
  have e : (4503599627370496 : Nat) = 2 ^ m.log2 * 2 ^ (52 - m.log2) := by
    rw [← Nat.pow_add, show m.log2 + (52 - m.log2) = 52 by omega]
  refine ⟨?_, ?_⟩
  · rw [e]; exact Nat.mul_le_mul_right _ a
  · have := Nat.mul_lt_mul_of_pos_right b hp
    rw [Nat.pow_succ] at this
    rw [e]
    rw [Nat.mul_comm 2, Nat.mul_right_comm]
    exact this
theorem nearest_exact (s : Bool) (m k : Nat) (h : m ≠ 0) (hl : m.log2 ≤ 52) : double.nearest s (m * 2 ^ k) (-(k : Int)) = double.word s (rung m) := by
  have hp := Nat.two_pow_pos k
  have hm : m * 2 ^ k ≠ 0 := Nat.mul_ne_zero h (by omega)
  have hL := log2_mul m k h
  have ⟨m1, m2⟩ := mant m h hl
  unfold Format.nearest
  rw [if_neg hm]
  simp only [hL, lp, fbits, bin, inf]
  have hmax : max (-(k : Int) + ((m.log2 + k : Nat) : Int) - ((52 : Nat) : Int)) (-1074) = (m.log2 : Int) - 52 := by omega
  rw [hmax]
  have hkept : Toward.even.cut s ((m * 2 ^ k) <<< (-(k : Int) - ((m.log2 : Int) - 52)).toNat) ((m.log2 : Int) - 52 - -(k : Int)).toNat = m * 2 ^ (52 - m.log2) := by
    by_cases hk : k ≤ 52 - m.log2
    · rw [show (-(k : Int) - ((m.log2 : Int) - 52)).toNat = 52 - m.log2 - k by omega, show ((m.log2 : Int) - 52 - -(k : Int)).toNat = 0 by omega, cut_zero, Nat.shiftLeft_eq, Nat.mul_assoc, ← Nat.pow_add]
      congr 2; omega
    · rw [show (-(k : Int) - ((m.log2 : Int) - 52)).toNat = 0 by omega, Nat.shiftLeft_zero]
      obtain ⟨d, hd⟩ : ∃ d, ((m.log2 : Int) - 52 - -(k : Int)).toNat = d := ⟨_, rfl⟩
      rw [hd, show m * 2 ^ k = (m * 2 ^ (52 - m.log2)) * 2 ^ d by rw [Nat.mul_assoc, ← Nat.pow_add]; congr 2; omega]
      exact cut_exact _ _ _ _ (by omega)
  rw [hkept, show ((m.log2 : Int) - 52 - -1074).toNat = m.log2 + 1022 by omega]
  unfold rung
  rw [Nat.min_eq_left (by omega)]
theorem nearest_zero (s : Bool) (p : Int) : double.nearest s 0 p = double.word s 0 := by
  unfold Format.nearest; rw [if_pos rfl]
/-- Small. -/
def Sm (n : Int) : Prop := n.natAbs.log2 ≤ 52
theorem sm_of (n : Int) (h1 : -9007199254740992 < n) (h2 : n < 9007199254740992) : Sm n := by
  unfold Sm
  by_cases h : n.natAbs = 0
  · rw [h]; decide
  · exact Nat.le_of_lt_succ ((Nat.log2_lt h).2 (by show n.natAbs < 9007199254740992; omega))
abbrev fb (n : Int) : Nat := floatOfInt .f64 n
/-- A datum that stands for n. -/
def Is (n : Int) (d : Datum) : Prop := ∃ (m : Nat) (p : Int), d = .number (decide (n < 0)) m p ∧ p ≤ 0 ∧ ∀ base : Int, base ≤ p → signed (decide (n < 0)) m (p - base).toNat = n * 2 ^ (-base).toNat
theorem read_word (s : Bool) (r : Nat) (h : r < 9218868437227405312) : double.read (double.word s r) = if r < 4503599627370496 then .number s r (-1074) else .number s (4503599627370496 + r % 4503599627370496) (-1074 + (r / 4503599627370496 - 1 : Nat)) := by
  unfold Format.read Format.word
  simp only [lp, bin, inf, sgn]
  cases s
  · simp only [Bool.false_eq_true, if_false]
    rw [Nat.mod_eq_of_lt (by omega), if_pos h]
    have : r / 9223372036854775808 = 0 := Nat.div_eq_of_lt (by omega)
    rw [this]; rfl
  · simp only [if_true]
    rw [show (9223372036854775808 + r) % 9223372036854775808 = r by omega, if_pos h]
    have : (9223372036854775808 + r) / 9223372036854775808 = 1 := by omega
    rw [this]; rfl
theorem fb_eq (n : Int) (hn : Sm n) : fb n = if n = 0 then 0 else double.word (decide (n < 0)) (rung n.natAbs) := by
  show double.nearest (decide (n < 0)) n.natAbs 0 = _
  by_cases h : n = 0
  · subst h; rfl
  · rw [if_neg h]
    have := nearest_exact (decide (n < 0)) n.natAbs 0 (by omega) hn
    simpa using this
theorem is_fb (n : Int) (hn : Sm n) : Is n (double.read (fb n)) := by
  rw [fb_eq n hn]
  by_cases h : n = 0
  · subst h
    have e : double.read 0 = .number false 0 (-1074) := by
      rw [show (0 : Nat) = double.word false 0 from rfl, read_word false 0 (by decide), if_pos (show 0 < 4503599627370496 by decide)]
      rfl
    rw [if_pos rfl, e]
    exact ⟨0, -1074, rfl, by decide, fun base _ => by simp [signed]⟩
  · rw [if_neg h]
    have ⟨m1, m2⟩ := mant n.natAbs (by omega) hn
    have hn' : n.natAbs.log2 ≤ 52 := hn
    have hr : rung n.natAbs = (n.natAbs.log2 + 1022) * 4503599627370496 + n.natAbs * 2 ^ (52 - n.natAbs.log2) := rfl
    rw [read_word _ _ (by rw [hr]; omega), if_neg (by rw [hr]; omega)]
    refine ⟨n.natAbs * 2 ^ (52 - n.natAbs.log2), (n.natAbs.log2 : Int) - 52, ?_, by omega, fun base hb => ?_⟩
    · rw [show 4503599627370496 + rung n.natAbs % 4503599627370496 = n.natAbs * 2 ^ (52 - n.natAbs.log2) by rw [hr]; omega,
        show (-1074 + ((rung n.natAbs / 4503599627370496 - 1 : Nat) : Int)) = (n.natAbs.log2 : Int) - 52 by rw [hr]; omega]
    · unfold signed
      have e : (n.natAbs * 2 ^ (52 - n.natAbs.log2)) <<< ((n.natAbs.log2 : Int) - 52 - base).toNat = n.natAbs * 2 ^ (-base).toNat := by
        rw [Nat.shiftLeft_eq, Nat.mul_assoc, ← Nat.pow_add]
        congr 2; omega
      rw [e]
      by_cases hs : n < 0
      · rw [if_pos (by simpa using hs)]
        rw [Int.natCast_mul, show ((n.natAbs : Nat) : Int) = -n by omega, Int.natCast_pow, Int.neg_mul, Int.neg_neg]; rfl
      · rw [if_neg (by simpa using hs)]
        rw [Int.natCast_mul, show ((n.natAbs : Nat) : Int) = n by omega, Int.natCast_pow]; rfl
theorem write_total (n : Int) (k : Nat) (base : Int) (hb : base ≤ 0) (hk : k = (-base).toNat) (hn : Sm n) : double.nearest (decide (n < 0)) (n * 2 ^ k).natAbs base = fb n := by
  have e : (n * 2 ^ k).natAbs = n.natAbs * 2 ^ k := by rw [Int.natAbs_mul, Int.natAbs_pow]; rfl
  rw [e, fb_eq n hn]
  by_cases h : n = 0
  · subst h
    rw [if_pos rfl, Int.natAbs_zero, Nat.zero_mul, nearest_zero]; rfl
  · rw [if_neg h, show base = -((k : Nat) : Int) by omega]
    exact nearest_exact _ _ _ (by omega) hn
theorem pow_pos' (k : Nat) : (0 : Int) < 2 ^ k := Int.pow_pos (by decide)
theorem mul_eq0 (n : Int) (k : Nat) : n * 2 ^ k = 0 ↔ n = 0 := by
  have := pow_pos' k
  constructor
  · intro h
    rcases Int.mul_eq_zero.1 h with h | h
    · exact h
    · omega
  · rintro rfl; simp
theorem mul_lt0 (n : Int) (k : Nat) : n * 2 ^ k < 0 ↔ n < 0 := by
  have hp := pow_pos' k
  constructor
  · intro h
    refine Int.not_le.1 fun hn => ?_
    have := Int.mul_nonneg hn (Int.le_of_lt hp)
    omega
  · intro h; exact Int.mul_neg_of_neg_of_pos h hp
theorem add_fb (a b : Int) (ha : Sm a) (hb : Sm b) (hab : Sm (a + b)) : double.add (fb a) (fb b) = some (fb (a + b)) := by
  obtain ⟨m, p, ea, hp, ha'⟩ := is_fb a ha
  obtain ⟨n, q, eb, hq, hb'⟩ := is_fb b hb
  unfold Format.add
  rw [ea, eb]
  simp only [Datum.sum, Option.map_some, Option.some.injEq]
  rw [ha' _ (by omega), hb' _ (by omega), ← Int.add_mul]
  show double.nearest _ _ _ = _
  have hs : (if (a + b) * 2 ^ (-(min p q)).toNat = 0 then decide (a < 0) && decide (b < 0) else decide ((a + b) * 2 ^ (-(min p q)).toNat < 0)) = decide (a + b < 0) := by
    rw [decide_eq_decide.2 (mul_lt0 _ _)]
    by_cases h : a + b = 0
    · rw [if_pos ((mul_eq0 _ _).2 h)]
      by_cases h1 : a < 0
      · rw [decide_eq_false (show ¬ b < 0 by omega), decide_eq_false (show ¬ a + b < 0 by omega), Bool.and_false]
      · rw [decide_eq_false h1, decide_eq_false (show ¬ a + b < 0 by omega), Bool.false_and]
    · rw [if_neg (fun e => h ((mul_eq0 _ _).1 e))]
  rw [hs]
  exact write_total _ _ _ (by omega) rfl hab
theorem sub_fb (a b : Int) (ha : Sm a) (hb : Sm b) (hab : Sm (a - b)) : double.sub (fb a) (fb b) = some (fb (a - b)) := by
  obtain ⟨m, p, ea, hp, ha'⟩ := is_fb a ha
  obtain ⟨n, q, eb, hq, hb'⟩ := is_fb b hb
  unfold Format.sub
  rw [ea, eb]
  simp only [Datum.sum, Datum.opposite, Option.map_some, Option.some.injEq]
  have hop : ∀ k, signed (!decide (b < 0)) n k = - signed (decide (b < 0)) n k := fun k => by
    unfold signed
    cases decide (b < 0) <;> simp
  rw [hop, ha' _ (by omega), hb' _ (by omega), ← Int.sub_eq_add_neg, ← Int.sub_mul]
  show double.nearest _ _ _ = _
  have hs : (if (a - b) * 2 ^ (-(min p q)).toNat = 0 then decide (a < 0) && !decide (b < 0) else decide ((a - b) * 2 ^ (-(min p q)).toNat < 0)) = decide (a - b < 0) := by
    rw [decide_eq_decide.2 (mul_lt0 _ _)]
    by_cases h : a - b = 0
    · rw [if_pos ((mul_eq0 _ _).2 h)]
      obtain rfl : a = b := by omega
      rw [decide_eq_false (show ¬ a - a < 0 by omega)]
      cases decide (a < 0) <;> rfl
    · rw [if_neg (fun e => h ((mul_eq0 _ _).1 e))]
  rw [hs]
  exact write_total _ _ _ (by omega) rfl hab
theorem order_fb (a b : Int) (ha : Sm a) (hb : Sm b) : double.order (fb a) (fb b) = some (compare a b) := by
  obtain ⟨m, p, ea, hp, ha'⟩ := is_fb a ha
  obtain ⟨n, q, eb, hq, hb'⟩ := is_fb b hb
  unfold Format.order
  rw [ea, eb]
  simp only [Datum.order, Option.some.injEq]
  rw [ha' _ (by omega), hb' _ (by omega)]
  have hpos := pow_pos' (-(min p q)).toNat
  simp only [compare, compareOfLessAndEq]
  have h1 : a * 2 ^ (-(min p q)).toNat < b * 2 ^ (-(min p q)).toNat ↔ a < b := ⟨fun h => Int.lt_of_mul_lt_mul_right h (Int.le_of_lt hpos), fun h => Int.mul_lt_mul_of_pos_right h hpos⟩
  have h2 : a * 2 ^ (-(min p q)).toNat = b * 2 ^ (-(min p q)).toNat ↔ a = b := ⟨fun h => Int.eq_of_mul_eq_mul_right (by omega) h, fun h => by rw [h]⟩
  simp only [h1, h2]
theorem toInt_fb (a : Int) (ha : Sm a) : (double.read (fb a)).toInt .zero = some a := by
  rw [fb_eq a ha]
  by_cases h : a = 0
  · subst h; decide
  · rw [if_neg h]
    have ⟨m1, m2⟩ := mant a.natAbs (by omega) ha
    have ha' : a.natAbs.log2 ≤ 52 := ha
    have hr : rung a.natAbs = (a.natAbs.log2 + 1022) * 4503599627370496 + a.natAbs * 2 ^ (52 - a.natAbs.log2) := rfl
    rw [read_word _ _ (by rw [hr]; omega), if_neg (by rw [hr]; omega)]
    rw [show 4503599627370496 + rung a.natAbs % 4503599627370496 = a.natAbs * 2 ^ (52 - a.natAbs.log2) by rw [hr]; omega,
      show (-1074 + ((rung a.natAbs / 4503599627370496 - 1 : Nat) : Int)) = (a.natAbs.log2 : Int) - 52 by rw [hr]; omega]
    simp only [Datum.toInt, Datum.integral]
    rw [show ((a.natAbs.log2 : Int) - 52).toNat = 0 by omega, Nat.shiftLeft_zero, show (-((a.natAbs.log2 : Int) - 52)).toNat = 52 - a.natAbs.log2 by omega, cut_exact _ _ _ _ (by omega)]
    unfold signed
    rw [Nat.shiftLeft_zero]
    by_cases hs : a < 0
    · rw [if_pos (by simpa using hs)]; congr 1; omega
    · rw [if_neg (by simpa using hs)]; congr 1; omega
/-- Sums and differences of complex numbers, the parts small whole numbers. -/
theorem run_cadd {P : Program} (w : World) (t : TypeId) (a b c d : Int) (ha : Sm a) (hb : Sm b) (hc : Sm c) (hd : Sm d) (hac : Sm (a + c)) (hbd : Sm (b + d)) :
    (binOp .add t (.complex .f64 (fb a) (fb b)) (.complex .f64 (fb c) (fb d))).run P w = .ok (.complex .f64 (fb (a + c)) (fb (b + d))) w :=
  run_complex_sum w .add (.inl rfl) t .f64 _ _ _ _ _ _ (by unfold cSumBits floatBits; simp only [show FloatKind.f64.format = double from rfl, add_fb a c ha hc hac, add_fb b d hb hd hbd, Option.bind_some])
theorem run_csub {P : Program} (w : World) (t : TypeId) (a b c d : Int) (ha : Sm a) (hb : Sm b) (hc : Sm c) (hd : Sm d) (hac : Sm (a - c)) (hbd : Sm (b - d)) :
    (binOp .sub t (.complex .f64 (fb a) (fb b)) (.complex .f64 (fb c) (fb d))).run P w = .ok (.complex .f64 (fb (a - c)) (fb (b - d))) w :=
  run_complex_sum w .sub (.inr rfl) t .f64 _ _ _ _ _ _ (by unfold cSumBits floatBits; simp only [show FloatKind.f64.format = double from rfl, sub_fb a c ha hc hac, sub_fb b d hb hd hbd, Option.bind_some])
theorem val_fb (a : Int) (ha : Sm a) (h1 : -9223372036854775808 ≤ a) (h2 : a ≤ 9223372036854775807) : floatToIntVal .f64 (fb a) .i64 = some a := by
  unfold floatToIntVal
  rw [show FloatKind.f64.decode (fb a) = double.read (fb a) from rfl, toInt_fb a ha]
  simp only
  rw [if_pos ⟨h1, h2⟩]
theorem run_int {P : Program} (w : World) (src dst : TypeId) (a : Int) (ha : Sm a) (h1 : -9223372036854775808 ≤ a) (h2 : a ≤ 9223372036854775807) (hs : (P.underlying src).isSome = true) (hd : P.underlying dst = some (.int .i64)) :
    (convert src dst (.float .f64 (fb a))).run P w = .ok (.int .i64 a) w :=
  run_convert_float_int w src dst .f64 .i64 (fb a) a hs hd (val_fb a ha h1 h2)
theorem lss_fb (a b : Int) (ha : Sm a) (hb : Sm b) : (FloatKind.f64.format.order (fb a) (fb b) == some .lt) = decide (a < b) := by
  rw [show FloatKind.f64.format = double from rfl, order_fb a b ha hb]
  simp only [compare, compareOfLessAndEq]
  by_cases h : a < b
  · rw [if_pos h, decide_eq_true h]; rfl
  · rw [if_neg h, decide_eq_false h]; split <;> rfl
theorem geq_fb (a b : Int) (ha : Sm a) (hb : Sm b) : (FloatKind.f64.format.order (fb a) (fb b) == some .gt || FloatKind.f64.format.order (fb a) (fb b) == some .eq) = decide (b ≤ a) := by
  rw [show FloatKind.f64.format = double from rfl, order_fb a b ha hb]
  simp only [compare, compareOfLessAndEq]
  by_cases h : a < b
  · rw [if_pos h, decide_eq_false (by omega)]; rfl
  · rw [if_neg h, decide_eq_true (by omega)]; split <;> rfl
theorem fb0 : (0 : Nat) = fb 0 := by decide
theorem fb1 : 4607182418800017408 = fb 1 := by decide
theorem fb8 : 4620693217682128896 = fb 8 := by decide
theorem fbm1 : 13830554455654793216 = fb (-1) := by decide
theorem fbm8 : 13844065254536904704 = fb (-8) := by decide
end Flt
end Go.Proofs.YtkighpfckibkoaaDoor
