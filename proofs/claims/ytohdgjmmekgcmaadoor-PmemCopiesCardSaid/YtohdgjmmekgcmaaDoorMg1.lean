/-
  Texts Flt to WordN, as one.
-/
import Derived.Test.YtohdgjmmekgcmaaDoorRows
import Derived.WalkLawsBesides
import Derived.Laws.BitsAllLaws
import Derived.WalkKit
import Derived.ProofKit
import Derived.Below
import Derived.Deep.QuietTactic
import Derived.BigQuiet
import Derived.Lib.Hide
import Derived.IntWalk
import Derived.Outline
import Derived.Shelf.Spec.TrailingZeros
import Derived.Deep.RegionHeld3
import Derived.RangeFuncNested
import Derived.RangeFuncBound
import Derived.RangeFuncCalls
import Derived.RangeFuncLeaves
import Derived.Shelf.Abstract
import Derived.Shelf.RegionOpen
import Derived.OwnWalkIn
import Derived.TacticsInMore
import Derived.LoopNIn
import Derived.LoopIn
/-
  Small whole numbers as binary floating point of 64 bits: sums, differences, comparisons and the way back are exact.
-/
namespace Go.Proofs.YtohdgjmmekgcmaaDoor
namespace Flt
open Ieee

theorem cut_zero (s : Bool) (n : Nat) : Toward.even.cut s n 0 = n := by
  simp [Toward.cut, Nat.mod_one]
theorem log2_mul (m k : Nat) (h : m ≠ 0) : (m * 2 ^ k).log2 = m.log2 + k := by
  have hp := Nat.two_pow_pos k
  have hm : m * 2 ^ k ≠ 0 := Nat.mul_ne_zero h (by omega)
  have a := Nat.log2_self_le h
  have b := Nat.lt_log2_self (n := m)
  refine (Nat.log2_eq_iff hm).2 ⟨?_, ?_⟩
  · rw [Nat.pow_add]; exact Nat.mul_le_mul_right _ a
  · rw [show m.log2 + k + 1 = (m.log2 + 1) + k by omega, Nat.pow_add]; exact Nat.mul_lt_mul_of_pos_right b hp
theorem cut_exact (way : Toward) (s : Bool) (n d : Nat) (h : n ≠ 0) : way.cut s (n * 2 ^ d) d = n := by
  have hl := log2_mul n d h
  have hg : (1 : Nat) <<< min d ((n * 2 ^ d).log2 + 2) = 2 ^ d := by
    rw [hl, Nat.min_eq_left (by omega), Nat.one_shiftLeft]
  have hp := Nat.two_pow_pos d
  unfold Toward.cut
  simp only [hg]
  rw [Nat.mul_div_cancel _ hp, Nat.mul_mod_left]
  cases way <;> simp <;> omega
theorem lp : double.leastPlace = -1074 := by decide
theorem fbits : double.fractionBits = 52 := rfl
theorem bin : double.binade = 4503599627370496 := by decide
theorem inf : double.infRung = 9218868437227405312 := by decide
theorem sgn : double.signWeight = 9223372036854775808 := by decide
/-- The rung of a small number. -/
def rung (m : Nat) : Nat := (m.log2 + 1022) * 4503599627370496 + m * 2 ^ (52 - m.log2)
theorem mant (m : Nat) (h : m ≠ 0) (hl : m.log2 ≤ 52) : 4503599627370496 ≤ m * 2 ^ (52 - m.log2) ∧ m * 2 ^ (52 - m.log2) < 2 * 4503599627370496 := by
  have a := Nat.log2_self_le h
  have b := Nat.lt_log2_self (n := m)
  have hp := Nat.two_pow_pos (52 - m.log2)
  have e : (4503599627370496 : Nat) = 2 ^ m.log2 * 2 ^ (52 - m.log2) := by
    rw [← Nat.pow_add, show m.log2 + (52 - m.log2) = 52 by omega]
  refine ⟨?_, ?_⟩
  · rw [e]; exact Nat.mul_le_mul_right _ a
  · have := Nat.mul_lt_mul_of_pos_right b hp
    rw [Nat.pow_succ] at this
    rw [e]
    rw [Nat.mul_comm 2, Nat.mul_right_comm]
    exact this
theorem nearest_exact (s : Bool) (m k : Nat) (h : m ≠ 0) (hl : m.log2 ≤ 52) : double.nearest s (m * 2 ^ k) (-(k : Int)) = double.word s (rung m) := by
  have hp := Nat.two_pow_pos k
  have hm : m * 2 ^ k ≠ 0 := Nat.mul_ne_zero h (by omega)
  have hL := log2_mul m k h
  have ⟨m1, m2⟩ := mant m h hl
  unfold Format.nearest
  rw [if_neg hm]
  simp only [hL, lp, fbits, bin, inf]
  have hmax : max (-(k : Int) + ((m.log2 + k : Nat) : Int) - ((52 : Nat) : Int)) (-1074) = (m.log2 : Int) - 52 := by omega
  rw [hmax]
  have hkept : Toward.even.cut s ((m * 2 ^ k) <<< (-(k : Int) - ((m.log2 : Int) - 52)).toNat) ((m.log2 : Int) - 52 - -(k : Int)).toNat = m * 2 ^ (52 - m.log2) := by
    by_cases hk : k ≤ 52 - m.log2
    · rw [show (-(k : Int) - ((m.log2 : Int) - 52)).toNat = 52 - m.log2 - k by omega, show ((m.log2 : Int) - 52 - -(k : Int)).toNat = 0 by omega, cut_zero, Nat.shiftLeft_eq, Nat.mul_assoc, ← Nat.pow_add]
      congr 2; omega
    · rw [show (-(k : Int) - ((m.log2 : Int) - 52)).toNat = 0 by omega, Nat.shiftLeft_zero]
      obtain ⟨d, hd⟩ : ∃ d, ((m.log2 : Int) - 52 - -(k : Int)).toNat = d := ⟨_, rfl⟩
      rw [hd, show m * 2 ^ k = (m * 2 ^ (52 - m.log2)) * 2 ^ d by rw [Nat.mul_assoc, ← Nat.pow_add]; congr 2; omega]
      exact cut_exact _ _ _ _ (by omega)
  rw [hkept, show ((m.log2 : Int) - 52 - -1074).toNat = m.log2 + 1022 by omega]
  unfold rung
  rw [Nat.min_eq_left (by omega)]
theorem nearest_zero (s : Bool) (p : Int) : double.nearest s 0 p = double.word s 0 := by
  unfold Format.nearest; rw [if_pos rfl]
/-- Small. -/
def Sm (n : Int) : Prop := n.natAbs.log2 ≤ 52
theorem sm_of (n : Int) (h1 : -9007199254740992 < n) (h2 : n < 9007199254740992) : Sm n := by
  unfold Sm
  by_cases h : n.natAbs = 0
  · rw [h]; decide
  · exact Nat.le_of_lt_succ ((Nat.log2_lt h).2 (by show n.natAbs < 9007199254740992; omega))
abbrev fb (n : Int) : Nat := floatOfInt .f64 n
/-- A datum that stands for n. -/
def Is (n : Int) (d : Datum) : Prop := ∃ (m : Nat) (p : Int), d = .number (decide (n < 0)) m p ∧ p ≤ 0 ∧ ∀ base : Int, base ≤ p → signed (decide (n < 0)) m (p - base).toNat = n * 2 ^ (-base).toNat
theorem read_word (s : Bool) (r : Nat) (h : r < 9218868437227405312) : double.read (double.word s r) = if r < 4503599627370496 then .number s r (-1074) else .number s (4503599627370496 + r % 4503599627370496) (-1074 + (r / 4503599627370496 - 1 : Nat)) := by
  unfold Format.read Format.word
  simp only [lp, bin, inf, sgn]
  cases s
  · simp only [Bool.false_eq_true, if_false]
    rw [Nat.mod_eq_of_lt (by omega), if_pos h]
    have : r / 9223372036854775808 = 0 := Nat.div_eq_of_lt (by omega)
    rw [this]; rfl
  · simp only [if_true]
    rw [show (9223372036854775808 + r) % 9223372036854775808 = r by omega, if_pos h]
    have : (9223372036854775808 + r) / 9223372036854775808 = 1 := by omega
    rw [this]; rfl
theorem fb_eq (n : Int) (hn : Sm n) : fb n = if n = 0 then 0 else double.word (decide (n < 0)) (rung n.natAbs) := by
  show double.nearest (decide (n < 0)) n.natAbs 0 = _
  by_cases h : n = 0
  · subst h; rfl
  · rw [if_neg h]
    have := nearest_exact (decide (n < 0)) n.natAbs 0 (by omega) hn
    simpa using this
theorem is_fb (n : Int) (hn : Sm n) : Is n (double.read (fb n)) := by
  rw [fb_eq n hn]
  by_cases h : n = 0
  · subst h
    have e : double.read 0 = .number false 0 (-1074) := by
      rw [show (0 : Nat) = double.word false 0 from rfl, read_word false 0 (by decide), if_pos (show 0 < 4503599627370496 by decide)]
      rfl
    rw [if_pos rfl, e]
    exact ⟨0, -1074, rfl, by decide, fun base _ => by simp [signed]⟩
  · rw [if_neg h]
    have ⟨m1, m2⟩ := mant n.natAbs (by omega) hn
    have hn' : n.natAbs.log2 ≤ 52 := hn
    have hr : rung n.natAbs = (n.natAbs.log2 + 1022) * 4503599627370496 + n.natAbs * 2 ^ (52 - n.natAbs.log2) := rfl
    rw [read_word _ _ (by rw [hr]; omega), if_neg (by rw [hr]; omega)]
    refine ⟨n.natAbs * 2 ^ (52 - n.natAbs.log2), (n.natAbs.log2 : Int) - 52, ?_, by omega, fun base hb => ?_⟩
    · rw [show 4503599627370496 + rung n.natAbs % 4503599627370496 = n.natAbs * 2 ^ (52 - n.natAbs.log2) by rw [hr]; omega,
        show (-1074 + ((rung n.natAbs / 4503599627370496 - 1 : Nat) : Int)) = (n.natAbs.log2 : Int) - 52 by rw [hr]; omega]
    · unfold signed
      have e : (n.natAbs * 2 ^ (52 - n.natAbs.log2)) <<< ((n.natAbs.log2 : Int) - 52 - base).toNat = n.natAbs * 2 ^ (-base).toNat := by
        rw [Nat.shiftLeft_eq, Nat.mul_assoc, ← Nat.pow_add]
        congr 2; omega
      rw [e]
      by_cases hs : n < 0
      · rw [if_pos (by simpa using hs)]
        rw [Int.natCast_mul, show ((n.natAbs : Nat) : Int) = -n by omega, Int.natCast_pow, Int.neg_mul, Int.neg_neg]; rfl
      · rw [if_neg (by simpa using hs)]
        rw [Int.natCast_mul, show ((n.natAbs : Nat) : Int) = n by omega, Int.natCast_pow]; rfl
theorem write_total (n : Int) (k : Nat) (base : Int) (hb : base ≤ 0) (hk : k = (-base).toNat) (hn : Sm n) : double.nearest (decide (n < 0)) (n * 2 ^ k).natAbs base = fb n := by
  have e : (n * 2 ^ k).natAbs = n.natAbs * 2 ^ k := by rw [Int.natAbs_mul, Int.natAbs_pow]; rfl
  rw [e, fb_eq n hn]
  by_cases h : n = 0
  · subst h
    rw [if_pos rfl, Int.natAbs_zero, Nat.zero_mul, nearest_zero]; rfl
  · rw [if_neg h, show base = -((k : Nat) : Int) by omega]
    exact nearest_exact _ _ _ (by omega) hn
theorem pow_pos' (k : Nat) : (0 : Int) < 2 ^ k := Int.pow_pos (by decide)
theorem mul_eq0 (n : Int) (k : Nat) : n * 2 ^ k = 0 ↔ n = 0 := by
  have := pow_pos' k
  constructor
  · intro h
    rcases Int.mul_eq_zero.1 h with h | h
    · exact h
    · omega
  · rintro rfl; simp
theorem mul_lt0 (n : Int) (k : Nat) : n * 2 ^ k < 0 ↔ n < 0 := by
  have hp := pow_pos' k
  constructor
  · intro h
    refine Int.not_le.1 fun hn => ?_
    have := Int.mul_nonneg hn (Int.le_of_lt hp)
    omega
  · intro h; exact Int.mul_neg_of_neg_of_pos h hp
theorem add_fb (a b : Int) (ha : Sm a) (hb : Sm b) (hab : Sm (a + b)) : double.add (fb a) (fb b) = some (fb (a + b)) := by
  obtain ⟨m, p, ea, hp, ha'⟩ := is_fb a ha
  obtain ⟨n, q, eb, hq, hb'⟩ := is_fb b hb
  unfold Format.add
  rw [ea, eb]
  simp only [Datum.sum, Option.map_some, Option.some.injEq]
  rw [ha' _ (by omega), hb' _ (by omega), ← Int.add_mul]
  show double.nearest _ _ _ = _
  have hs : (if (a + b) * 2 ^ (-(min p q)).toNat = 0 then decide (a < 0) && decide (b < 0) else decide ((a + b) * 2 ^ (-(min p q)).toNat < 0)) = decide (a + b < 0) := by
    rw [decide_eq_decide.2 (mul_lt0 _ _)]
    by_cases h : a + b = 0
    · rw [if_pos ((mul_eq0 _ _).2 h)]
      by_cases h1 : a < 0
      · rw [decide_eq_false (show ¬ b < 0 by omega), decide_eq_false (show ¬ a + b < 0 by omega), Bool.and_false]
      · rw [decide_eq_false h1, decide_eq_false (show ¬ a + b < 0 by omega), Bool.false_and]
    · rw [if_neg (fun e => h ((mul_eq0 _ _).1 e))]
  rw [hs]
  exact write_total _ _ _ (by omega) rfl hab
theorem sub_fb (a b : Int) (ha : Sm a) (hb : Sm b) (hab : Sm (a - b)) : double.sub (fb a) (fb b) = some (fb (a - b)) := by
  obtain ⟨m, p, ea, hp, ha'⟩ := is_fb a ha
  obtain ⟨n, q, eb, hq, hb'⟩ := is_fb b hb
  unfold Format.sub
  rw [ea, eb]
  simp only [Datum.sum, Datum.opposite, Option.map_some, Option.some.injEq]
  have hop : ∀ k, signed (!decide (b < 0)) n k = - signed (decide (b < 0)) n k := fun k => by
    unfold signed
    cases decide (b < 0) <;> simp
  rw [hop, ha' _ (by omega), hb' _ (by omega), ← Int.sub_eq_add_neg, ← Int.sub_mul]
  show double.nearest _ _ _ = _
  have hs : (if (a - b) * 2 ^ (-(min p q)).toNat = 0 then decide (a < 0) && !decide (b < 0) else decide ((a - b) * 2 ^ (-(min p q)).toNat < 0)) = decide (a - b < 0) := by
    rw [decide_eq_decide.2 (mul_lt0 _ _)]
    by_cases h : a - b = 0
    · rw [if_pos ((mul_eq0 _ _).2 h)]
      obtain rfl : a = b := by omega
      rw [decide_eq_false (show ¬ a - a < 0 by omega)]
      cases decide (a < 0) <;> rfl
    · rw [if_neg (fun e => h ((mul_eq0 _ _).1 e))]
  rw [hs]
  exact write_total _ _ _ (by omega) rfl hab
theorem order_fb (a b : Int) (ha : Sm a) (hb : Sm b) : double.order (fb a) (fb b) = some (compare a b) := by
  obtain ⟨m, p, ea, hp, ha'⟩ := is_fb a ha
  obtain ⟨n, q, eb, hq, hb'⟩ := is_fb b hb
  unfold Format.order
  rw [ea, eb]
  simp only [Datum.order, Option.some.injEq]
  rw [ha' _ (by omega), hb' _ (by omega)]
  have hpos := pow_pos' (-(min p q)).toNat
  simp only [compare, compareOfLessAndEq]
  have h1 : a * 2 ^ (-(min p q)).toNat < b * 2 ^ (-(min p q)).toNat ↔ a < b := ⟨fun h => Int.lt_of_mul_lt_mul_right h (Int.le_of_lt hpos), fun h => Int.mul_lt_mul_of_pos_right h hpos⟩
  have h2 : a * 2 ^ (-(min p q)).toNat = b * 2 ^ (-(min p q)).toNat ↔ a = b := ⟨fun h => Int.eq_of_mul_eq_mul_right (by omega) h, fun h => by rw [h]⟩
  simp only [h1, h2]
theorem toInt_fb (a : Int) (ha : Sm a) : (double.read (fb a)).toInt .zero = some a := by
  rw [fb_eq a ha]
  by_cases h : a = 0
  · subst h; decide
  · rw [if_neg h]
    have ⟨m1, m2⟩ := mant a.natAbs (by omega) ha
    have ha' : a.natAbs.log2 ≤ 52 := ha
    have hr : rung a.natAbs = (a.natAbs.log2 + 1022) * 4503599627370496 + a.natAbs * 2 ^ (52 - a.natAbs.log2) := rfl
    rw [read_word _ _ (by rw [hr]; omega), if_neg (by rw [hr]; omega)]
    rw [show 4503599627370496 + rung a.natAbs % 4503599627370496 = a.natAbs * 2 ^ (52 - a.natAbs.log2) by rw [hr]; omega,
      show (-1074 + ((rung a.natAbs / 4503599627370496 - 1 : Nat) : Int)) = (a.natAbs.log2 : Int) - 52 by rw [hr]; omega]
    simp only [Datum.toInt, Datum.integral]
    rw [show ((a.natAbs.log2 : Int) - 52).toNat = 0 by omega, Nat.shiftLeft_zero, show (-((a.natAbs.log2 : Int) - 52)).toNat = 52 - a.natAbs.log2 by omega, cut_exact _ _ _ _ (by omega)]
    unfold signed
    rw [Nat.shiftLeft_zero]
    by_cases hs : a < 0
    · rw [if_pos (by simpa using hs)]; congr 1; omega
    · rw [if_neg (by simpa using hs)]; congr 1; omega
/-- Sums and differences of complex numbers, the parts small whole numbers. -/
theorem run_cadd {P : Program} (w : World) (t : TypeId) (a b c d : Int) (ha : Sm a) (hb : Sm b) (hc : Sm c) (hd : Sm d) (hac : Sm (a + c)) (hbd : Sm (b + d)) :
    (binOp .add t (.complex .f64 (fb a) (fb b)) (.complex .f64 (fb c) (fb d))).run P w = .ok (.complex .f64 (fb (a + c)) (fb (b + d))) w :=
  run_complex_sum w .add (.inl rfl) t .f64 _ _ _ _ _ _ (by unfold cSumBits floatBits; simp only [show FloatKind.f64.format = double from rfl, add_fb a c ha hc hac, add_fb b d hb hd hbd, Option.bind_some])
theorem run_csub {P : Program} (w : World) (t : TypeId) (a b c d : Int) (ha : Sm a) (hb : Sm b) (hc : Sm c) (hd : Sm d) (hac : Sm (a - c)) (hbd : Sm (b - d)) :
    (binOp .sub t (.complex .f64 (fb a) (fb b)) (.complex .f64 (fb c) (fb d))).run P w = .ok (.complex .f64 (fb (a - c)) (fb (b - d))) w :=
  run_complex_sum w .sub (.inr rfl) t .f64 _ _ _ _ _ _ (by unfold cSumBits floatBits; simp only [show FloatKind.f64.format = double from rfl, sub_fb a c ha hc hac, sub_fb b d hb hd hbd, Option.bind_some])
theorem val_fb (a : Int) (ha : Sm a) (h1 : -9223372036854775808 ≤ a) (h2 : a ≤ 9223372036854775807) : floatToIntVal .f64 (fb a) .i64 = some a := by
  unfold floatToIntVal
  rw [show FloatKind.f64.decode (fb a) = double.read (fb a) from rfl, toInt_fb a ha]
  simp only
  rw [if_pos ⟨h1, h2⟩]
theorem run_int {P : Program} (w : World) (src dst : TypeId) (a : Int) (ha : Sm a) (h1 : -9223372036854775808 ≤ a) (h2 : a ≤ 9223372036854775807) (hs : (P.underlying src).isSome = true) (hd : P.underlying dst = some (.int .i64)) :
    (convert src dst (.float .f64 (fb a))).run P w = .ok (.int .i64 a) w :=
  run_convert_float_int w src dst .f64 .i64 (fb a) a hs hd (val_fb a ha h1 h2)
theorem lss_fb (a b : Int) (ha : Sm a) (hb : Sm b) : (FloatKind.f64.format.order (fb a) (fb b) == some .lt) = decide (a < b) := by
  rw [show FloatKind.f64.format = double from rfl, order_fb a b ha hb]
  simp only [compare, compareOfLessAndEq]
  by_cases h : a < b
  · rw [if_pos h, decide_eq_true h]; rfl
  · rw [if_neg h, decide_eq_false h]; split <;> rfl
theorem geq_fb (a b : Int) (ha : Sm a) (hb : Sm b) : (FloatKind.f64.format.order (fb a) (fb b) == some .gt || FloatKind.f64.format.order (fb a) (fb b) == some .eq) = decide (b ≤ a) := by
  rw [show FloatKind.f64.format = double from rfl, order_fb a b ha hb]
  simp only [compare, compareOfLessAndEq]
  by_cases h : a < b
  · rw [if_pos h, decide_eq_false (by omega)]; rfl
  · rw [if_neg h, decide_eq_true (by omega)]; split <;> rfl
theorem fb0 : (0 : Nat) = fb 0 := by decide
theorem fb1 : 4607182418800017408 = fb 1 := by decide
theorem fb8 : 4620693217682128896 = fb 8 := by decide
theorem fbm1 : 13830554455654793216 = fb (-1) := by decide
theorem fbm8 : 13844065254536904704 = fb (-8) := by decide
end Flt
end Go.Proofs.YtohdgjmmekgcmaaDoor

/-
  Plain arithmetic of fields of bits: no Go in sight.
-/
namespace Go.Proofs.YtohdgjmmekgcmaaDoor
namespace WM
/-- The number that a field has. -/
def getN (w f v : Nat) : Nat := w / 2 ^ f % 2 ^ v
/-- The word in which a field has another number. -/
def putN (w f v n : Nat) : Nat := (w &&& (18446744073709551615 - (2 ^ v - 1) * 2 ^ f % 18446744073709551616)) ||| (n * 2 ^ f % 18446744073709551616)
def maskN (f v : Nat) : Nat := (2 ^ v - 1) * 2 ^ f % 18446744073709551616
theorem maskN_lt (f v : Nat) : maskN f v < 18446744073709551616 := Nat.mod_lt _ (by decide)
def okF (f v : Int) : Bool := decide (0 ≤ f ∧ f < 64 ∧ 1 ≤ v ∧ v ≤ 64 - f)

theorem getN_bit (w f v i : Nat) : (getN w f v).testBit i = (decide (i < v) && w.testBit (f + i)) := by
  unfold getN
  rw [Nat.testBit_mod_two_pow, Nat.testBit_div_two_pow, Nat.add_comm]
theorem mask_lt (f v : Nat) (h : f + v ≤ 64) : (2 ^ v - 1) * 2 ^ f < 18446744073709551616 := by
  have h1 : 2 ^ v * 2 ^ f ≤ 2 ^ 64 := by rw [← Nat.pow_add]; exact Nat.pow_le_pow_right (by decide) (by omega)
  have h2 : (2 ^ v - 1) * 2 ^ f = 2 ^ v * 2 ^ f - 2 ^ f := by rw [Nat.sub_mul, Nat.one_mul]
  have h3 : 0 < 2 ^ f := Nat.two_pow_pos f
  have h4 : 0 < 2 ^ v * 2 ^ f := Nat.mul_pos (Nat.two_pow_pos v) h3
  rw [h2]; omega
theorem num_lt (f v n : Nat) (h : f + v ≤ 64) (hn : n < 2 ^ v) : n * 2 ^ f < 18446744073709551616 := by
  have h1 : (2 ^ v - 1) * 2 ^ f < 18446744073709551616 := mask_lt f v h
  have : n * 2 ^ f ≤ (2 ^ v - 1) * 2 ^ f := Nat.mul_le_mul_right _ (by omega)
  omega
theorem mask_bit (f v i : Nat) : ((2 ^ v - 1) * 2 ^ f).testBit i = (decide (f ≤ i) && decide (i < f + v)) := by
  rw [Nat.testBit_mul_two_pow, Nat.testBit_two_pow_sub_one]
  by_cases h : f ≤ i
  · simp [h]; omega
  · simp [h]
theorem num_bit (f n i : Nat) : (n * 2 ^ f).testBit i = (decide (f ≤ i) && n.testBit (i - f)) := Nat.testBit_mul_two_pow ..
theorem compl_bit (m i : Nat) (hm : m < 18446744073709551616) : (18446744073709551615 - m).testBit i = (decide (i < 64) && !m.testBit i) := by
  have := Nat.testBit_two_pow_sub_succ (n := 64) hm i
  rw [← this]; congr 1; omega
theorem lt_bit (n v i : Nat) (h : n < 2 ^ v) (hi : v ≤ i) : n.testBit i = false := Nat.testBit_lt_two_pow (Nat.lt_of_lt_of_le h (Nat.pow_le_pow_right (by decide) hi))
theorem putN_bit (w f v n i : Nat) (h : f + v ≤ 64) (hn : n < 2 ^ v) (hw : w < 18446744073709551616) :
    (putN w f v n).testBit i = if f ≤ i ∧ i < f + v then n.testBit (i - f) else w.testBit i := by
  unfold putN
  rw [Nat.mod_eq_of_lt (mask_lt f v h), Nat.mod_eq_of_lt (num_lt f v n h hn), Nat.testBit_or, Nat.testBit_and, compl_bit _ _ (mask_lt f v h), mask_bit, num_bit]
  by_cases h1 : f ≤ i <;> by_cases h2 : i < f + v
  · have h3 : i < 64 := by omega
    simp [h1, h2]
  · have e : n.testBit (i - f) = false := lt_bit n v _ hn (by omega)
    by_cases h3 : i < 64
    · simp [h1, h2, e, h3]
    · have e2 : w.testBit i = false := lt_bit w 64 _ hw (by omega)
      simp [h1, h2, e, h3, e2]
  · by_cases h3 : i < 64
    · simp [h1, h3]
    · omega
  · omega
theorem putN_lt (w f v n : Nat) (_ : w < 18446744073709551616) : putN w f v n < 18446744073709551616 := by
  unfold putN
  exact Nat.or_lt_two_pow (n := 64) (Nat.and_lt_two_pow _ (by omega)) (by omega)
theorem getN_lt (w f v : Nat) : getN w f v < 2 ^ v := Nat.mod_lt _ (Nat.two_pow_pos v)
theorem pow_le64 (v : Nat) (h : v ≤ 64) : 2 ^ v ≤ 18446744073709551616 := Nat.pow_le_pow_right (n := 2) (by decide) h
theorem getN_lt64 (w f v : Nat) (h : v ≤ 64) : getN w f v < 18446744073709551616 := Nat.lt_of_lt_of_le (getN_lt w f v) (pow_le64 v h)
/-- What the program reckons. -/
theorem number_eq (w f v : Nat) (h : f + v ≤ 64) : (w &&& ((2 ^ v - 1) * 2 ^ f % 18446744073709551616)) / 2 ^ f = getN w f v := by
  rw [Nat.mod_eq_of_lt (mask_lt f v h)]
  apply Nat.eq_of_testBit_eq
  intro i
  rw [Nat.testBit_div_two_pow, Nat.testBit_and, mask_bit, getN_bit, Nat.add_comm i f]
  simp
  rw [Bool.and_comm]
theorem shl_int (n f : Nat) : IntKind.u64.wrap ((n : Int) * 2 ^ f) = ((n * 2 ^ f % 18446744073709551616 : Nat) : Int) := by
  rw [IntKind.wrap_u64, Int.natCast_emod, Int.natCast_mul, Int.natCast_pow]; rfl
theorem number_int (w f v : Nat) (h : f + v ≤ 64) : (((w &&& maskN f v : Nat) : Int)) / 2 ^ f = (getN w f v : Nat) := by
  rw [← number_eq w f v h, Int.natCast_ediv, Int.natCast_pow]
  rfl
theorem with_int (w f v n : Nat) (_ : f + v ≤ 64) (_ : n < 2 ^ v) (hw : w < 18446744073709551616) :
    bits .or .u64 (bits .andNot .u64 (w : Int) (maskN f v : Nat)) (IntKind.u64.wrap ((n : Int) * 2 ^ f)) = (putN w f v n : Nat) := by
  rw [u64_andNot_nat _ _ hw (maskN_lt f v), shl_int, u64_or_nat _ _ (Nat.and_lt_two_pow (n := 64) _ (by omega)) (Nat.mod_lt _ (by decide))]
  rfl
theorem holds_iff (n v : Nat) (hn : n < 18446744073709551616) (hv : v ≤ 64) : (n &&& (18446744073709551615 - (2 ^ v - 1))) = 0 ↔ n < 2 ^ v := by
  have hm : 2 ^ v - 1 < 18446744073709551616 := by have := pow_le64 v hv; have := Nat.two_pow_pos v; omega
  constructor
  · intro h
    apply Nat.lt_pow_two_of_testBit
    intro i hi
    by_cases h3 : i < 64
    · have e := congrArg (fun x => Nat.testBit x i) h
      simp only [Nat.testBit_and, compl_bit _ _ hm, Nat.testBit_two_pow_sub_one, Nat.zero_testBit] at e
      simpa [h3, show ¬ i < v from by omega] using e
    · exact lt_bit n 64 i hn (by omega)
  · intro h
    apply Nat.eq_of_testBit_eq
    intro i
    rw [Nat.testBit_and, compl_bit _ _ hm, Nat.testBit_two_pow_sub_one, Nat.zero_testBit]
    by_cases h1 : i < v
    · simp [h1]
    · simp [lt_bit n v i h (by omega)]
/-- A word with a bit. -/
def withN (w i : Nat) (b : Bool) : Nat := if w.testBit i = b then w else w ^^^ 2 ^ i
theorem withN_bit (w i : Nat) (b : Bool) (j : Nat) : (withN w i b).testBit j = if j = i then b else w.testBit j := by
  unfold withN
  by_cases h : w.testBit i = b
  · rw [if_pos h]
    by_cases hj : j = i
    · rw [if_pos hj, hj, h]
    · rw [if_neg hj]
  · rw [if_neg h, Nat.testBit_xor, Nat.testBit_two_pow]
    by_cases hj : j = i
    · subst hj; cases b <;> simp_all
    · rw [if_neg hj]; simp [show ¬ i = j from fun e => hj e.symm]
theorem withN_lt (w i : Nat) (b : Bool) (hw : w < 18446744073709551616) (hi : i < 64) : withN w i b < 18446744073709551616 := by
  unfold withN
  split
  · exact hw
  · exact Nat.xor_lt_two_pow (n := 64) hw (Nat.pow_lt_pow_right (a := 2) (by decide) hi)
/-- The field's number, its first k bits. -/
def getTo (w f k : Nat) : Nat := getN w f k
theorem getTo_succ (w f k : Nat) : withN (getTo w f k) k (w.testBit (f + k)) = getTo w f (k + 1) := by
  apply Nat.eq_of_testBit_eq
  intro j
  rw [withN_bit]
  unfold getTo
  rw [getN_bit, getN_bit]
  by_cases h : j = k
  · subst h; simp
  · rw [if_neg h]; congr 1; apply decide_eq_decide.2; omega
/-- The word in which the first k bits of a field are those of n. -/
def putTo (w f n : Nat) : Nat → Nat
  | 0 => w
  | k + 1 => withN (putTo w f n k) (f + k) (n.testBit k)
theorem putTo_bit (w f n : Nat) : ∀ k i, (putTo w f n k).testBit i = if f ≤ i ∧ i < f + k then n.testBit (i - f) else w.testBit i
  | 0, i => by rw [putTo, if_neg (by omega)]
  | k + 1, i => by
    rw [putTo, withN_bit, putTo_bit w f n k i]
    by_cases h : i = f + k
    · rw [if_pos h, if_pos (by omega), h]; congr 1; omega
    · rw [if_neg h]
      by_cases h2 : f ≤ i ∧ i < f + k
      · rw [if_pos h2, if_pos (by omega)]
      · rw [if_neg h2, if_neg (by omega)]
theorem putTo_lt (w f n : Nat) (hw : w < 18446744073709551616) : ∀ k, f + k ≤ 64 → putTo w f n k < 18446744073709551616
  | 0, _ => hw
  | k + 1, h => withN_lt _ _ _ (putTo_lt w f n hw k (by omega)) (by omega)
theorem putTo_eq (w f v n : Nat) (h : f + v ≤ 64) (hn : n < 2 ^ v) (hw : w < 18446744073709551616) : putTo w f n v = putN w f v n := by
  apply Nat.eq_of_testBit_eq
  intro i
  rw [putTo_bit, putN_bit w f v n i h hn hw]
theorem lt_of_bits (n v : Nat) (hn : n < 18446744073709551616) (h : ∀ i, v ≤ i → i < 64 → n.testBit i = false) : n < 2 ^ v := by
  apply Nat.lt_pow_two_of_testBit
  intro i hi
  by_cases h3 : i < 64
  · exact h i hi h3
  · exact lt_bit n 64 i hn (by omega)
theorem bit_int (n i : Nat) : ((n : Int) / 2 ^ i % 2 == 1) = n.testBit i := by
  rw [Nat.testBit_eq_decide_div_mod_eq]
  rw [Bool.eq_iff_iff, beq_iff_eq, decide_eq_true_iff]
  have : (n : Int) / 2 ^ i = ((n / 2 ^ i : Nat) : Int) := by rw [Int.natCast_ediv, Int.natCast_pow]; rfl
  rw [this]; omega
theorem pow_int (i : Nat) (hi : i < 64) : IntKind.u64.wrap (2 ^ i) = ((2 ^ i : Nat) : Int) := by
  have h : (2 : Nat) ^ i < 18446744073709551616 := Nat.pow_lt_pow_right (a := 2) (m := i) (n := 64) (by decide) hi
  have e2 : ((2 : Int) ^ i) = ((2 ^ i : Nat) : Int) := by rw [Int.natCast_pow]; rfl
  rw [IntKind.wrap_u64, e2]
  generalize (2 ^ i : Nat) = x at *
  omega
theorem pow_lt64 (i : Nat) (hi : i < 64) : (2 : Nat) ^ i < 18446744073709551616 := Nat.pow_lt_pow_right (a := 2) (m := i) (n := 64) (by decide) hi
/-- The word of the first k bits, but no more than the field has. -/
def putC (w f n v k : Nat) : Nat := putTo w f n (min k v)
theorem putC_zero (w f n v : Nat) : putC w f n v 0 = w := by unfold putC; rw [Nat.zero_min]; rfl
theorem putC_step (w f n v k : Nat) (h : k < v) : withN (putC w f n v k) (f + k) (n.testBit k) = putC w f n v (k + 1) := by
  unfold putC
  rw [Nat.min_eq_left (Nat.le_of_lt h), Nat.min_eq_left (show k + 1 ≤ v from h)]
  rfl
theorem putC_stay (w f n v k : Nat) (h : v ≤ k) : putC w f n v (k + 1) = putC w f n v k := by
  unfold putC
  rw [Nat.min_eq_right h, Nat.min_eq_right (by omega)]
theorem putC_end (w f n v k : Nat) (hk : v ≤ k) (h : f + v ≤ 64) (hn : n < 2 ^ v) (hw : w < 18446744073709551616) : putC w f n v k = putN w f v n := by
  unfold putC
  rw [Nat.min_eq_right hk, putTo_eq w f v n h hn hw]
theorem putC_lt (w f n v k : Nat) (h : f + v ≤ 64) (hw : w < 18446744073709551616) : putC w f n v k < 18446744073709551616 := putTo_lt w f n hw _ (by omega)
end WM
end Go.Proofs.YtohdgjmmekgcmaaDoor

/-
  Contracts of package word's functions on fields (no loop): spanOf, mayBe, mask, number, holds, with, Get, Put.
-/
namespace Go.Proofs.YtohdgjmmekgcmaaDoor
open Go.RowKit

theorem ret_bool {a b : Bool} (h : a = b) : Ending.returned (.bool a) = .returned (.bool b) := by rw [h]
theorem ret_int {k : IntKind} {a b : Int} (h : a = b) : Ending.returned (.int k a) = .returned (.int k b) := by rw [h]
theorem bcell {W w1 : World} (hb : Below W.heap.size W w1) : (∀ b o, b < W.heap.size → w1.cell? ⟨b, o, none⟩ = W.cell? ⟨b, o, none⟩) ∧ (∀ b o, b < W.heap.size → w1.frozen? ⟨b, o, none⟩ = W.frozen? ⟨b, o, none⟩) :=
  ⟨fun b o h => hb.cell (p := ⟨b, o, none⟩) h, fun b o h => hb.frozen (p := ⟨b, o, none⟩) h⟩
theorem below_drewN {B : Nat} {a w : World} (h : Below B a w) (n : Nat) : Below B a (w.drewN n) := ⟨h.os, h.tape, h.output, h.size, h.block⟩
end Go.Proofs.YtohdgjmmekgcmaaDoor

/-
  Contracts of package place's functions on places under way (no loop).
-/
namespace Go.Proofs.YtohdgjmmekgcmaaDoor
open Go.RowKit

theorem number_place_any (l v : Int) (w : World) :
    Calls Tryd.prog 123 #[.agg #[.int .i64 l, .int .i64 v]] w fun e w' => e = .returned (.complex .f64 (Flt.fb l) (Flt.fb v)) ∧ Below w.heap.size w w' := by
  go_enter Tryd.func123, Tryd.ntmps123
  go_wp2
  go_ret
  exact ⟨rfl, (Below.refl _ _).alloc (Nat.le_refl _) _⟩
theorem movingAt_any (l v : Int) (hl : -100000 < l ∧ l < 100000) (hv : -100000 < v ∧ v < 100000) (w : World) :
    Calls Tryd.prog 124 #[.complex .f64 (Flt.fb l) (Flt.fb v)] w fun e w' => e = .returned (.agg #[.int .i64 l, .int .i64 v]) ∧ Below w.heap.size w w' := by
  have h1 := fun W : World => Flt.run_int (P := Tryd.prog) W 194 3 l (Flt.sm_of l (by omega) (by omega)) (by omega) (by omega) (by kernel_rfl) Tryd.underlying3
  have h2 := fun W : World => Flt.run_int (P := Tryd.prog) W 194 3 v (Flt.sm_of v (by omega) (by omega)) (by omega) (by omega) (by kernel_rfl) Tryd.underlying3
  generalize Flt.fb l = a at *
  generalize Flt.fb v = b at *
  go_enter Tryd.func124, Tryd.ntmps124
  go_wp2
  refine bodyPost_ret (v := .agg #[.int .i64 l, .int .i64 v]) (by simp [results, Tryd.results124, go_sem]) rfl ⟨rfl, ?_⟩
  exact (by repeat (first | exact Below.refl _ _ | assumption | refine Below.drew ?_ | refine below_drewN ?_ _ | refine Below.alloc ?_ (by (try simp) <;> omega) _ | refine Below.setCell ?_ (by (try simp) <;> omega) _ | refine Below.trans ?_ (Below.mono (by assumption) (by (try simp) <;> omega))))
theorem pair_any (l v : Int) (w : World) :
    Calls Tryd.prog 122 #[.agg #[.int .i64 l, .int .i64 v]] w fun e w' => e = .returned (.agg #[.int .i64 l, .int .i64 v]) ∧ Below w.heap.size w w' := by
  go_enter Tryd.func122, Tryd.ntmps122
  go_wp2
  refine bodyPost_ret (v := .agg #[.int .i64 l, .int .i64 v]) (by simp [results, Tryd.results122, go_sem]) rfl ⟨rfl, ?_⟩
  exact (by repeat (first | exact Below.refl _ _ | assumption | refine Below.drew ?_ | refine below_drewN ?_ _ | refine Below.alloc ?_ (by (try simp) <;> omega) _ | refine Below.setCell ?_ (by (try simp) <;> omega) _ | refine Below.trans ?_ (Below.mono (by assumption) (by (try simp) <;> omega))))
/-- A new block of two cells, behind a call. -/
theorem pair_new {W w1 : World} {t : TypeId} {a b : Value} (hb : Below (W.heap.size + 1) (W.alloc (.cells #[a, b] t)) w1) :
    w1.cell? ⟨W.heap.size, 0, none⟩ = some a ∧ w1.cell? ⟨W.heap.size, 1, none⟩ = some b ∧ w1.frozen? ⟨W.heap.size, 0, none⟩ = false ∧ w1.frozen? ⟨W.heap.size, 1, none⟩ = false := by
  refine ⟨?_, ?_, ?_, ?_⟩
  · rw [hb.cell (p := ⟨W.heap.size, 0, none⟩) (Nat.lt_succ_self _)]; simp [go_sem]
  · rw [hb.cell (p := ⟨W.heap.size, 1, none⟩) (Nat.lt_succ_self _)]; simp [go_sem]
  · rw [hb.frozen (p := ⟨W.heap.size, 0, none⟩) (Nat.lt_succ_self _)]; simp [go_sem]
  · rw [hb.frozen (p := ⟨W.heap.size, 1, none⟩) (Nat.lt_succ_self _)]; simp [go_sem]
theorem tdiv8 (b : Int) (hb : -8192 < b ∧ b < 8192) : ∃ q r : Int, b.tdiv 8 = q ∧ b.tmod 8 = r ∧ b = 8 * q + r ∧ -8 < r ∧ r < 8 ∧ -1025 < q ∧ q < 1025 := by
  have h := Int.mul_tdiv_add_tmod b 8
  refine ⟨_, _, rfl, rfl, by omega, ?_, ?_, ?_, ?_⟩
  · exact Int.lt_tmod_of_pos b (by decide)
  · exact Int.tmod_lt_of_pos b (by decide)
  all_goals
    have h1 := Int.lt_tmod_of_pos b (b := 8) (by decide)
    have h2 := Int.tmod_lt_of_pos b (b := 8) (by decide)
    omega
set_option maxHeartbeats 1000000 in
theorem on_any (l v b : Int) (hl : 0 ≤ l ∧ l < 1024) (hv : 0 ≤ v ∧ v < 8) (hb : -8192 < b ∧ b < 8192) (w : World) :
    Calls Tryd.prog 113 #[.agg #[.int .i64 l, .int .i64 v], .int .i64 b] w fun e w' => e = .returned (.agg #[.int .i64 ((8 * l + v + b) / 8), .int .i64 ((8 * l + v + b) % 8)]) ∧ Below w.heap.size w w' := by
  obtain ⟨q, r, hq, hr, rfl, hr1, hr2, hq1, hq2⟩ := tdiv8 b hb
  have S : ∀ n : Int, -100000 < n → n < 100000 → Flt.Sm n := fun n h1 h2 => Flt.sm_of n (by omega) (by omega)
  have hadd := fun W : World => Flt.run_cadd (P := Tryd.prog) W 192 l v q r (S _ (by omega) (by omega)) (S _ (by omega) (by omega)) (S _ (by omega) (by omega)) (S _ (by omega) (by omega)) (S _ (by omega) (by omega)) (S _ (by omega) (by omega))
  have hlo := Flt.lss_fb (v + r) 0 (S _ (by omega) (by omega)) (S _ (by omega) (by omega))
  have hhi := Flt.geq_fb (v + r) 8 (S _ (by omega) (by omega)) (S _ (by omega) (by omega))
  rw [← Flt.fb0] at hlo
  rw [← Flt.fb8] at hhi
  by_cases c1 : v + r < 0
  · rw [decide_eq_true c1] at hlo
    have hlast := fun W : World => Flt.run_cadd (P := Tryd.prog) W 192 (l + q) (v + r) (-1) 8 (S _ (by omega) (by omega)) (S _ (by omega) (by omega)) (S _ (by omega) (by omega)) (S _ (by omega) (by omega)) (S _ (by omega) (by omega)) (S _ (by omega) (by omega))
    rw [← Flt.fbm1, ← Flt.fb8] at hlast
    have HM := Lib.hid (movingAt_any (l + q + -1) (v + r + 8) (by omega) (by omega))
    rw [show (8 * l + v + (8 * q + r)) / 8 = l + q + -1 by omega, show (8 * l + v + (8 * q + r)) % 8 = v + r + 8 by omega]
    generalize 8 * q + r = b at *
    clear hhi c1 S
    go_enter Tryd.func113, Tryd.ntmps113
    go_wp2_with fail
    refine (number_place_any l v _).mono ?_
    rintro e w1 ⟨rfl, hb1⟩
    have z1 := hb1.size; try simp at z1
    go_wp2_with fail
    refine (HM.out _).mono ?_
    rintro e w2 ⟨rfl, hb2⟩
    have z2 := hb2.size; try simp at z2
    obtain ⟨hp1, hp2, hp3, hp4⟩ := pair_new (W := w.alloc _) (w1 := w2) ((hb1.mono (by simp)).trans (hb2.mono (by simp; omega)))
    simp only [World.size_alloc] at hp1 hp2 hp3 hp4
    go_wp2_with fail
    refine bodyPost_ret (v := .agg #[.int .i64 (l + q + -1), .int .i64 (v + r + 8)]) (by simp [results, Tryd.results113, go_sem, World.cell?_setCell_same', hp1, hp2]) rfl ⟨rfl, ?_⟩
    exact (by repeat (first | exact Below.refl _ _ | assumption | refine Below.drew ?_ | refine below_drewN ?_ _ | refine Below.alloc ?_ (by (try simp) <;> omega) _ | refine Below.setCell ?_ (by (try simp) <;> omega) _ | refine Below.trans ?_ (Below.mono (by assumption) (by (try simp) <;> omega))))
  · rw [decide_eq_false c1] at hlo
    by_cases c2 : 8 ≤ v + r
    · rw [decide_eq_true c2] at hhi
      have hlast := fun W : World => Flt.run_cadd (P := Tryd.prog) W 192 (l + q) (v + r) 1 (-8) (S _ (by omega) (by omega)) (S _ (by omega) (by omega)) (S _ (by omega) (by omega)) (S _ (by omega) (by omega)) (S _ (by omega) (by omega)) (S _ (by omega) (by omega))
      rw [← Flt.fb1, ← Flt.fbm8] at hlast
      have HM := Lib.hid (movingAt_any (l + q + 1) (v + r + -8) (by omega) (by omega))
      rw [show (8 * l + v + (8 * q + r)) / 8 = l + q + 1 by omega, show (8 * l + v + (8 * q + r)) % 8 = v + r + -8 by omega]
      generalize 8 * q + r = b at *
      clear c1 c2 S
      go_enter Tryd.func113, Tryd.ntmps113
      go_wp2_with fail
      refine (number_place_any l v _).mono ?_
      rintro e w1 ⟨rfl, hb1⟩
      have z1 := hb1.size; try simp at z1
      go_wp2_with fail
      refine (HM.out _).mono ?_
      rintro e w2 ⟨rfl, hb2⟩
      have z2 := hb2.size; try simp at z2
      obtain ⟨hp1, hp2, hp3, hp4⟩ := pair_new (W := w.alloc _) (w1 := w2) ((hb1.mono (by simp)).trans (hb2.mono (by simp; omega)))
      simp only [World.size_alloc] at hp1 hp2 hp3 hp4
      go_wp2_with fail
      refine bodyPost_ret (v := .agg #[.int .i64 (l + q + 1), .int .i64 (v + r + -8)]) (by simp [results, Tryd.results113, go_sem, World.cell?_setCell_same', hp1, hp2]) rfl ⟨rfl, ?_⟩
      exact (by repeat (first | exact Below.refl _ _ | assumption | refine Below.drew ?_ | refine below_drewN ?_ _ | refine Below.alloc ?_ (by (try simp) <;> omega) _ | refine Below.setCell ?_ (by (try simp) <;> omega) _ | refine Below.trans ?_ (Below.mono (by assumption) (by (try simp) <;> omega))))
    · rw [decide_eq_false c2] at hhi
      have HM := Lib.hid (movingAt_any (l + q) (v + r) (by omega) (by omega))
      rw [show (8 * l + v + (8 * q + r)) / 8 = l + q by omega, show (8 * l + v + (8 * q + r)) % 8 = v + r by omega]
      generalize 8 * q + r = b at *
      clear c1 c2 S
      go_enter Tryd.func113, Tryd.ntmps113
      go_wp2_with fail
      refine (number_place_any l v _).mono ?_
      rintro e w1 ⟨rfl, hb1⟩
      have z1 := hb1.size; try simp at z1
      go_wp2_with fail
      refine (HM.out _).mono ?_
      rintro e w2 ⟨rfl, hb2⟩
      have z2 := hb2.size; try simp at z2
      obtain ⟨hp1, hp2, hp3, hp4⟩ := pair_new (W := w.alloc _) (w1 := w2) ((hb1.mono (by simp)).trans (hb2.mono (by simp; omega)))
      simp only [World.size_alloc] at hp1 hp2 hp3 hp4
      go_wp2_with fail
      refine bodyPost_ret (v := .agg #[.int .i64 (l + q), .int .i64 (v + r)]) (by simp [results, Tryd.results113, go_sem, World.cell?_setCell_same', hp1, hp2]) rfl ⟨rfl, ?_⟩
      exact (by repeat (first | exact Below.refl _ _ | assumption | refine Below.drew ?_ | refine below_drewN ?_ _ | refine Below.alloc ?_ (by (try simp) <;> omega) _ | refine Below.setCell ?_ (by (try simp) <;> omega) _ | refine Below.trans ?_ (Below.mono (by assumption) (by (try simp) <;> omega))))
end Go.Proofs.YtohdgjmmekgcmaaDoor

/-
  Contracts of place.stand: what may be a place.
-/
namespace Go.Proofs.YtohdgjmmekgcmaaDoor
open Go.RowKit

/-- What the package-level variable ends holds. -/
structure Ends (w : World) : Prop where
  lines : w.cell? ⟨0, 0, none⟩ = some (.int .i64 1024)
  words : w.cell? ⟨0, 1, none⟩ = some (.int .i64 8)
  room : 0 < w.heap.size
theorem Ends.below {B : Nat} {w w' : World} (h : Ends w) (hb : Below B w w') (hB : 0 < B) : Ends w' :=
  ⟨(hb.cell (p := ⟨0, 0, none⟩) hB).trans h.lines, (hb.cell (p := ⟨0, 1, none⟩) hB).trans h.words, Nat.lt_of_lt_of_le h.room hb.size⟩
/-- May a place be? -/
def okP (l v : Int) : Bool := decide (0 ≤ l ∧ l < 1024 ∧ 0 ≤ v ∧ v < 8)
def I64 (n : Int) : Prop := -9223372036854775808 ≤ n ∧ n ≤ 9223372036854775807
set_option maxHeartbeats 1000000 in
theorem stand1_any (l v : Int) (w : World) (ht : Ends w) :
    Calls Tryd.prog 121 #[.agg #[.int .i64 l, .int .i64 v]] w fun e w' => e = .returned (.bool (okP l v)) ∧ Below w.heap.size w w' := by
  have hc1 := ht.lines
  have hc2 := ht.words
  have hz := ht.room
  clear ht
  go_enter Tryd.func121, Tryd.ntmps121
  go_wp2_with fail
  refine (pair_any l v _).mono ?_
  rintro e w1 ⟨rfl, hb1⟩
  have z1 := hb1.size; try simp at z1
  have b1 : Below w.heap.size w w1 := (by repeat (first | exact Below.refl _ _ | assumption | refine Below.drew ?_ | refine below_drewN ?_ _ | refine Below.alloc ?_ (by (try simp) <;> omega) _ | refine Below.setCell ?_ (by (try simp) <;> omega) _ | refine Below.trans ?_ (Below.mono (by assumption) (by (try simp) <;> omega))))
  have d1 := (b1.cell (p := ⟨0, 0, none⟩) hz).trans hc1
  have d2 := (b1.cell (p := ⟨0, 1, none⟩) hz).trans hc2
  clear hc1 hc2 hb1
  go_wp2_with fail
  have hi0 : ∀ W : World, (Instr.index 189 (.agg #[.int .i64 l, .int .i64 v]) (.int .i64 0)).run Tryd.prog W = .ok (.int .i64 l) W := fun W => by kernel_rfl
  have hi1 : ∀ W : World, (Instr.index 189 (.agg #[.int .i64 l, .int .i64 v]) (.int .i64 1)).run Tryd.prog W = .ok (.int .i64 v) W := fun W => by kernel_rfl
  go_loopw [7] (fun i wr => ∃ k : Nat, k ≤ 2 ∧ i = .int .i64 (k : Nat) ∧ (1 ≤ k → 0 ≤ l ∧ l < 1024) ∧ (2 ≤ k → 0 ≤ v ∧ v < 8) ∧ wr = w1) (fun i _ => 2 - (intOf i).toNat)
  case atStart => exact ⟨0, by omega, rfl, by omega, by omega, rfl⟩
  case round =>
    obtain ⟨k, hk, rfl, h1, h2, rfl⟩ := hrel
    have h3 : k = 0 ∨ k = 1 ∨ k = 2 := by omega
    rcases h3 with rfl | rfl | rfl
    · by_cases c1 : l < 0
      · go_wp2
        go_ret
        exact ⟨ret_bool (by unfold okP; rw [eq_comm, decide_eq_false_iff_not]; omega), (by repeat (first | exact Below.refl _ _ | assumption | refine Below.drew ?_ | refine below_drewN ?_ _ | refine Below.alloc ?_ (by (try simp) <;> omega) _ | refine Below.setCell ?_ (by (try simp) <;> omega) _ | refine Below.trans ?_ (Below.mono (by assumption) (by (try simp) <;> omega))))⟩
      · go_wp2
        · go_ret
          exact ⟨ret_bool (by unfold okP; rw [eq_comm, decide_eq_false_iff_not]; omega), (by repeat (first | exact Below.refl _ _ | assumption | refine Below.drew ?_ | refine below_drewN ?_ _ | refine Below.alloc ?_ (by (try simp) <;> omega) _ | refine Below.setCell ?_ (by (try simp) <;> omega) _ | refine Below.trans ?_ (Below.mono (by assumption) (by (try simp) <;> omega))))⟩
        · go_round
          case rel => exact ⟨1, by omega, by go_num, by omega, by omega, trivial⟩
          case measure => simp [intOf]
    · have h4 := h1 (by omega)
      by_cases c1 : v < 0
      · go_wp2
        go_ret
        exact ⟨ret_bool (by unfold okP; rw [eq_comm, decide_eq_false_iff_not]; omega), (by repeat (first | exact Below.refl _ _ | assumption | refine Below.drew ?_ | refine below_drewN ?_ _ | refine Below.alloc ?_ (by (try simp) <;> omega) _ | refine Below.setCell ?_ (by (try simp) <;> omega) _ | refine Below.trans ?_ (Below.mono (by assumption) (by (try simp) <;> omega))))⟩
      · go_wp2
        · go_ret
          exact ⟨ret_bool (by unfold okP; rw [eq_comm, decide_eq_false_iff_not]; omega), (by repeat (first | exact Below.refl _ _ | assumption | refine Below.drew ?_ | refine below_drewN ?_ _ | refine Below.alloc ?_ (by (try simp) <;> omega) _ | refine Below.setCell ?_ (by (try simp) <;> omega) _ | refine Below.trans ?_ (Below.mono (by assumption) (by (try simp) <;> omega))))⟩
        · go_round
          case rel => exact ⟨2, by omega, by go_num, by omega, by omega, trivial⟩
          case measure => simp [intOf]
    · have h4 := h1 (by omega)
      have h5 := h2 (by omega)
      go_wp2
      go_ret
      exact ⟨ret_bool (by unfold okP; rw [eq_comm, decide_eq_true_iff]; omega), (by repeat (first | exact Below.refl _ _ | assumption | refine Below.drew ?_ | refine below_drewN ?_ _ | refine Below.alloc ?_ (by (try simp) <;> omega) _ | refine Below.setCell ?_ (by (try simp) <;> omega) _ | refine Below.trans ?_ (Below.mono (by assumption) (by (try simp) <;> omega))))⟩
/-- The slice value v holds these places. -/
def SlM (W : World) (v : Value) (fs : List (Int × Int)) : Prop :=
  ∃ (b off cap : Nat), v = .slice (some ⟨b, off, none⟩) fs.length cap ∧ fs.length ≤ cap ∧ b < W.heap.size ∧ ∀ j, j < fs.length → W.cell? ⟨b, off + j * 2, none⟩ = some (.int .i64 (fs[j]?.getD (0, 0)).1) ∧ W.cell? ⟨b, off + j * 2 + 1, none⟩ = some (.int .i64 (fs[j]?.getD (0, 0)).2)
def okAll (fs : List (Int × Int)) : Bool := fs.all fun m => okP m.1 m.2
set_option maxHeartbeats 2000000 in
theorem each_any (v : Value) (fs : List (Int × Int)) (hl : fs.length ≤ 2) (w : World) (ht : Ends w) (hs : SlM w v fs) :
    Calls Tryd.prog 120 #[.func (.func 121) #[] #[], v] w fun e w' => e = .returned (.bool (okAll fs)) ∧ Below w.heap.size w w' := by
  obtain ⟨b, off, cap, rfl, hlc, hbw, hcells⟩ := hs
  have HC := Lib.hid hcells; clear hcells hlc
  have hz := ht.room
  have HM := Lib.hid (show okAll fs = okAll (fs.drop 0) from rfl)
  generalize hm : fs.length = m at *
  have HLEN := Lib.hid hm; clear hm
  go_enter Tryd.func120, Tryd.ntmps120
  go_wp2_with fail
  go_loopw [9] (fun i wr => ∃ k : Nat, k ≤ m ∧ i = .int .i64 (k : Nat) ∧ Hid (okAll fs = okAll (fs.drop k)) ∧ Below w.heap.size w wr) (fun i _ => m - (intOf i).toNat)
  case atStart => exact ⟨0, by omega, rfl, HM, Below.refl _ _⟩
  case round =>
    obtain ⟨k, hk, rfl, HK, hb⟩ := hrel
    have zb := hb.size
    clear HM
    by_cases hlt : k < m
    · obtain ⟨x, y, exy⟩ : ∃ x y, fs[k]?.getD (0, 0) = (x, y) := ⟨_, _, rfl⟩
      have hc1 := (hb.cell (p := ⟨b, off + k * 2, none⟩) hbw).trans (HC.out k hlt).1
      have hc2 := (hb.cell (p := ⟨b, off + k * 2 + 1, none⟩) hbw).trans (HC.out k hlt).2
      rw [exy] at hc1 hc2
      have e1 : fs.drop k = (x, y) :: fs.drop (k + 1) := by
        have hkl : k < fs.length := by rw [HLEN.out]; exact hlt
        rw [List.drop_eq_getElem_cons hkl]
        congr 1
        rw [List.getElem?_eq_getElem hkl] at exy
        exact exy
      have HE := Lib.hid (show okAll (fs.drop k) = (okP x y && okAll (fs.drop (k + 1))) by rw [e1]; rfl)
      have k2 : (k : Int) < (m : Int) := by omega
      clear exy e1
      have ht2 := ht.below hb hz
      have HT := Lib.hid ht2; clear ht2
      go_wp2_with fail
      refine (stand1_any x y _ (HT.out.below ((Below.refl _ _).alloc (Nat.le_refl _) _) HT.out.room)).mono ?_
      rintro e w1 ⟨rfl, hb1⟩
      have z1 := hb1.size; try simp at z1
      have b1 : Below w.heap.size w w1 := (by repeat (first | exact Below.refl _ _ | assumption | refine Below.drew ?_ | refine below_drewN ?_ _ | refine Below.alloc ?_ (by (try simp) <;> omega) _ | refine Below.setCell ?_ (by (try simp) <;> omega) _ | refine Below.trans ?_ (Below.mono (by assumption) (by (try simp) <;> omega))))
      clear hc1 hc2 hb1
      cases hok : okP x y with
      | true =>
        go_wp2_with fail
        go_roundw
        case rel => exact ⟨k + 1, by omega, by go_num, Lib.hid (by rw [HK.out, HE.out, hok, Bool.true_and]), b1⟩
        case measure => simp [intOf]; omega
      | false =>
        go_wp2_with fail
        go_ret
        exact ⟨ret_bool (by rw [HK.out, HE.out, hok, Bool.false_and]), b1⟩
    · go_wp2_with fail
      go_ret
      have e1 : fs.drop k = [] := List.drop_eq_nil_of_le (by rw [HLEN.out]; omega)
      exact ⟨ret_bool (by rw [HK.out, e1]; rfl), hb⟩
theorem stand_any (v : Value) (fs : List (Int × Int)) (hl : fs.length ≤ 2) (w : World) (ht : Ends w) (hs : SlM w v fs) :
    Calls Tryd.prog 112 #[v] w fun e w' => e = .returned (.bool (okAll fs)) ∧ Below w.heap.size w w' := by
  have HE := Lib.hid (each_any v fs hl w ht hs)
  obtain ⟨b, off, cap, rfl, -, -, -⟩ := hs
  go_enter Tryd.func112, Tryd.ntmps112
  go_wp2_with fail
  refine HE.out.mono ?_
  rintro e w1 ⟨rfl, hb1⟩
  go_wp2_with fail
  go_ret
  exact ⟨rfl, hb1⟩
end Go.Proofs.YtohdgjmmekgcmaaDoor

/-
  Contracts of math/bits.TrailingZeros64 and of word.Bits (an iterator).
-/
namespace Go.Proofs.YtohdgjmmekgcmaaDoor
open Go.RowKit Go.Shelf
attribute [local go_sem] Oper.semAt_some
namespace WM
/-- The bits that are 1, rising. -/
def bitsOf (x : Nat) : List Nat := (List.range 64).filter (fun i => x.testBit i)
theorem bitsOf_zero : bitsOf 0 = [] := by unfold bitsOf; simp
theorem low_split (x : Nat) (h0 : x ≠ 0) (h : x < 18446744073709551616) : ∃ m, x = 2 ^ (Lib.ctz 64 x + 1) * m + 2 ^ Lib.ctz 64 x ∧ Lib.ctz 64 x < 64 := by
  obtain ⟨m, hm, hk⟩ := Lib.ctzFrom_spec 64 x (by omega) h
  have e : Lib.ctz 64 x = Lib.ctzFrom 64 x := by simp [Lib.ctz, h0]
  rw [e]
  refine ⟨m, ?_, hk⟩
  rw [Nat.pow_succ, Nat.mul_assoc]
  generalize 2 ^ Lib.ctzFrom 64 x = p at *
  rw [hm, Nat.mul_add, Nat.mul_one]
theorem and_pred_bit (k m j : Nat) : ((2 ^ (k + 1) * m + 2 ^ k) &&& (2 ^ (k + 1) * m + 2 ^ k - 1)).testBit j = if j < k + 1 then false else m.testBit (j - (k + 1)) := by
  have hp := Nat.two_pow_pos k
  have hs : 2 ^ (k + 1) = 2 * 2 ^ k := by rw [Nat.pow_succ, Nat.mul_comm]
  have e : 2 ^ (k + 1) * m + 2 ^ k - 1 = 2 ^ (k + 1) * m + (2 ^ k - 1) := by omega
  rw [e, Nat.testBit_and, Nat.testBit_two_pow_mul_add _ (by omega), Nat.testBit_two_pow_mul_add _ (by omega)]
  by_cases h : j < k + 1
  · rw [if_pos h, if_pos h, if_pos h, Nat.testBit_two_pow, Nat.testBit_two_pow_sub_one]
    by_cases hj : k = j
    · simp [hj]
    · simp [hj]
  · rw [if_neg h, if_neg h, if_neg h, Bool.and_self]
theorem bitsOf_cons (x : Nat) (h0 : x ≠ 0) (h : x < 18446744073709551616) : bitsOf x = Lib.ctz 64 x :: bitsOf (x &&& (x - 1)) := by
  obtain ⟨m, hm, hk⟩ := low_split x h0 h
  generalize Lib.ctz 64 x = k at *
  subst hm
  have hs : 2 ^ (k + 1) = 2 * 2 ^ k := by rw [Nat.pow_succ, Nat.mul_comm]
  have hp := Nat.two_pow_pos k
  have e : List.range 64 = List.range k ++ (k :: List.range' (k + 1) (63 - k)) := by
    rw [List.range_eq_range', List.range_eq_range', ← List.range'_succ]
    have : 63 - k + 1 = 64 - k := by omega
    rw [this]
    have := List.range'_append_1 (s := 0) (m := k) (n := 64 - k)
    rw [Nat.zero_add] at this
    rw [this]; congr 1; omega
  unfold bitsOf
  rw [e, List.filter_append, List.filter_append, List.filter_cons, List.filter_cons]
  have a1 : (List.range k).filter (fun i => (2 ^ (k + 1) * m + 2 ^ k).testBit i) = [] := by
    rw [List.filter_eq_nil_iff]
    intro i hi
    have hi' : i < k := List.mem_range.1 hi
    rw [Nat.testBit_two_pow_mul_add _ (by omega), if_pos (by omega), Nat.testBit_two_pow]
    simp; omega
  have a2 : (List.range k).filter (fun i => ((2 ^ (k + 1) * m + 2 ^ k) &&& (2 ^ (k + 1) * m + 2 ^ k - 1)).testBit i) = [] := by
    rw [List.filter_eq_nil_iff]
    intro i hi
    have hi' : i < k := List.mem_range.1 hi
    rw [and_pred_bit, if_pos (by omega)]; simp
  have b1 : (2 ^ (k + 1) * m + 2 ^ k).testBit k = true := by
    rw [Nat.testBit_two_pow_mul_add _ (by omega), if_pos (by omega), Nat.testBit_two_pow]; simp
  have b2 : ((2 ^ (k + 1) * m + 2 ^ k) &&& (2 ^ (k + 1) * m + 2 ^ k - 1)).testBit k = false := by rw [and_pred_bit, if_pos (by omega)]
  rw [a1, a2, b1, b2]
  simp only [List.nil_append, if_true, Bool.false_eq_true, if_false]
  congr 1
  apply List.filter_congr
  intro i hi
  have hi' : k + 1 ≤ i := (List.mem_range'_1.1 hi).1
  rw [and_pred_bit, if_neg (by omega), Nat.testBit_two_pow_mul_add _ (by omega), if_neg (by omega)]
theorem bitsOf_len (x : Nat) : (bitsOf x).length ≤ 64 := by
  unfold bitsOf
  exact Nat.le_trans (List.length_filter_le _ _) (by simp)
theorem ctz_lt (x : Nat) (h0 : x ≠ 0) (h : x < 18446744073709551616) : Lib.ctz 64 x < 64 := (low_split x h0 h).choose_spec.2
theorem dec_int (x : Nat) (h0 : x ≠ 0) (h : x < 18446744073709551616) : bits .and .u64 (x : Int) ((x : Int) - 1) = ((x &&& (x - 1) : Nat) : Int) := by
  have e : (x : Int) - 1 = ((x - 1 : Nat) : Int) := by omega
  rw [e, u64_and_nat _ _ h (by omega)]
end WM

/-- The blocks p are as they were. -/
def Keeps (p : Nat → Prop) (W W' : World) : Prop := W.heap.size ≤ W'.heap.size ∧ ∀ k, p k → k < W.heap.size → W'.heap[k]? = W.heap[k]?
theorem Keeps.refl (p : Nat → Prop) (W : World) : Keeps p W W := ⟨Nat.le_refl _, fun _ _ _ => rfl⟩
theorem Keeps.trans {p : Nat → Prop} {A B C : World} (h : Keeps p A B) (k : Keeps p B C) : Keeps p A C :=
  ⟨Nat.le_trans h.1 k.1, fun i hi hl => (k.2 i hi (Nat.lt_of_lt_of_le hl h.1)).trans (h.2 i hi hl)⟩
theorem Keeps.cell {p : Nat → Prop} {A B : World} (h : Keeps p A B) {q : Addr} (hp : p q.block) {v : Value} (hc : A.cell? q = some v) : B.cell? q = some v := by
  have hl : q.block < A.heap.size := by
    rcases Nat.lt_or_ge q.block A.heap.size with h1 | h1
    · exact h1
    · unfold World.cell? at hc; rw [Array.getElem?_eq_none h1] at hc; cases hc
  exact (World.cell?_of_block (w := A) (h.2 q.block hp hl)).trans hc
theorem Keeps.drewN {p : Nat → Prop} {A B : World} (h : Keeps p A B) (n : Nat) : Keeps p A (B.drewN n) := h
theorem Keeps.of_below {p : Nat → Prop} {n₀ : Nat} {A B : World} (h : Below n₀ A B) (hp : ∀ k, p k → k < n₀) : Keeps p A B := ⟨h.size, fun k hk _ => h.block k (hp k hk)⟩
theorem Keeps.of_grown {p : Nat → Prop} {A B : World} {row : Option Nat} (h : A.grownBy B row) (hp : ∀ k, row = some k → ¬ p k) : Keeps p A B :=
  ⟨h.size, fun k hk hl => h.block k hl (fun e => hp k e.symm hk)⟩
theorem Keeps.set {p : Nat → Prop} (A : World) {b o : Nat} (v : Value) (hp : ¬ p b) : Keeps p A (A.setCell ⟨b, o, none⟩ v) :=
  ⟨by simp [World.setCell], fun k hk _ => Below.heap_setCell _ _ _ _ (fun e => hp (by rw [e] at hk; exact hk))⟩
theorem keeps_b {p : Nat → Prop} {w : World} (hp : ∀ k, p k → k < w.heap.size) (W : World) (l : Nat) (o o' : Obj) (hl : w.heap.size ≤ l) (_ : W.heap[l]? = some o) (_ : o.isCells = false) (_ : o.isWalk = false) : Keeps p W (W.putObj l o') :=
  Keeps.of_grown (grownBy_putObj' W l o') (fun k e hk => by cases e; have := hp l hk; omega)
/-- What an iterator over a word's bits needs: its box, and the tables. -/
def BitsBlocks (Bs : Nat) (k : Nat) : Prop := k = Bs ∨ k < 2
end Go.Proofs.YtohdgjmmekgcmaaDoor

/-
  Plain arithmetic of words of bytes: no Go in sight.
-/
namespace Go.Proofs.YtohdgjmmekgcmaaDoor
namespace WM
/-- Element i of a list of numbers, 0 behind its end (the walk's own spelling). -/
abbrev at' (l : List Nat) (i : Nat) : Nat := l[i]?.getD 0
/-- What the first k bytes are as a word. -/
def joinTo (bs : List Nat) : Nat → Nat
  | 0 => 0
  | k + 1 => joinTo bs k ||| (at' bs k * 2 ^ (8 * k) % 18446744073709551616)
def Bytes256 (bs : List Nat) : Prop := ∀ i, at' bs i < 256
theorem joinTo_bit (bs : List Nat) (hb : Bytes256 bs) : ∀ k, k ≤ 8 → ∀ j, (joinTo bs k).testBit j = (decide (j < 8 * k) && (at' bs (j / 8)).testBit (j % 8))
  | 0, _, j => by simp [joinTo]
  | k + 1, hk, j => by
    have hx := hb k
    have hlt : at' bs k * 2 ^ (8 * k) < 18446744073709551616 := by
      have h1 : at' bs k * 2 ^ (8 * k) < 256 * 2 ^ (8 * k) := Nat.mul_lt_mul_of_pos_right hx (Nat.two_pow_pos _)
      have h2 : 256 * 2 ^ (8 * k) = 2 ^ (8 + 8 * k) := by rw [Nat.pow_add]
      have h3 : 2 ^ (8 + 8 * k) ≤ 2 ^ 64 := Nat.pow_le_pow_right (by decide) (by omega)
      have h4 : (2 : Nat) ^ 64 = 18446744073709551616 := rfl
      omega
    rw [joinTo, Nat.mod_eq_of_lt hlt, Nat.testBit_or, joinTo_bit bs hb k (by omega) j, Nat.testBit_mul_two_pow]
    by_cases h1 : j < 8 * k
    · simp [h1, show ¬ 8 * k ≤ j by omega, show j < 8 * (k + 1) by omega]
    · by_cases h2 : j < 8 * (k + 1)
      · have e1 : j / 8 = k := by omega
        have e2 : j - 8 * k = j % 8 := by omega
        simp [h1, h2, e1, e2, show 8 * k ≤ j by omega]
      · have : (at' bs k).testBit (j - 8 * k) = false := lt_bit _ 8 _ (by simpa using hx) (by omega)
        simp [h1, h2, this]
theorem joinTo_lt (bs : List Nat) : ∀ k, joinTo bs k < 18446744073709551616
  | 0 => by simp [joinTo]
  | k + 1 => Nat.or_lt_two_pow (n := 64) (joinTo_lt bs k) (Nat.mod_lt _ (by decide))
theorem joinTo_take (bs : List Nat) (n : Nat) : ∀ k, k ≤ n → joinTo (bs.take n) k = joinTo bs k
  | 0, _ => rfl
  | k + 1, h => by
    rw [joinTo, joinTo, joinTo_take bs n k (by omega)]
    have : at' (bs.take n) k = at' bs k := by show (bs.take n)[k]?.getD 0 = _; rw [List.getElem?_take_of_lt (by omega)]
    rw [this]
/-- How many words so many bytes have. -/
def need (n : Nat) : Nat := (n + 7) / 8
/-- Word i of bytes. -/
def wordAt (bs : List Nat) (i : Nat) : Nat := joinTo (bs.drop (8 * i)) (min 8 (bs.length - 8 * i))
def wordsOf (bs : List Nat) : List Nat := (List.range (need bs.length)).map (wordAt bs)
theorem wordAt_bit (bs : List Nat) (hb : Bytes256 bs) (i j : Nat) : (wordAt bs i).testBit j = (decide (j < 64) && (at' bs (8 * i + j / 8)).testBit (j % 8)) := by
  have hd : Bytes256 (bs.drop (8 * i)) := fun k => by show (bs.drop (8 * i))[k]?.getD 0 < 256; rw [List.getElem?_drop]; exact hb _
  have ha : ∀ k, at' (bs.drop (8 * i)) k = at' bs (8 * i + k) := fun k => by show (bs.drop (8 * i))[k]?.getD 0 = _; rw [List.getElem?_drop]
  unfold wordAt
  rw [joinTo_bit _ hd _ (by omega), ha]
  by_cases h : j < 64
  · by_cases h2 : j < 8 * min 8 (bs.length - 8 * i)
    · simp [h, h2]
    · have : at' bs (8 * i + j / 8) = 0 := by
        show bs[8 * i + j / 8]?.getD 0 = 0
        rw [List.getElem?_eq_none (by omega)]; rfl
      simp [this]
  · simp [h, show ¬ j < 8 * min 8 (bs.length - 8 * i) by omega]
theorem wordAt_lt (bs : List Nat) (i : Nat) : wordAt bs i < 18446744073709551616 := joinTo_lt _ _
theorem wordsOf_length (bs : List Nat) : (wordsOf bs).length = need bs.length := by simp [wordsOf]
theorem at_map_range (n : Nat) (f : Nat → Nat) (i : Nat) : at' ((List.range n).map f) i = if i < n then f i else 0 := by
  show ((List.range n).map f)[i]?.getD 0 = _
  by_cases h : i < n
  · rw [if_pos h, List.getElem?_map, List.getElem?_range h]; rfl
  · rw [if_neg h, List.getElem?_eq_none (by simp; omega)]; rfl
theorem wordsOf_at (bs : List Nat) (i : Nat) : at' (wordsOf bs) i = if i < need bs.length then wordAt bs i else 0 := at_map_range _ _ _
/-- Byte i of words. -/
def byteAt (l : List Nat) (i : Nat) : Nat := getN (at' l (i / 8)) (8 * (i % 8)) 8
def bytesOf (l : List Nat) : List Nat := (List.range (8 * l.length)).map (byteAt l)
theorem byteAt_lt (l : List Nat) (i : Nat) : byteAt l i < 256 := getN_lt _ _ 8
theorem at_none (l : List Nat) (i : Nat) (h : l.length ≤ i) : at' l i = 0 := by
  show l[i]?.getD 0 = 0
  rw [List.getElem?_eq_none h]; rfl
theorem bytesOf_at (l : List Nat) (i : Nat) (h : i < 8 * l.length) : at' (bytesOf l) i = byteAt l i := by
  unfold bytesOf
  rw [at_map_range, if_pos h]
theorem byteAt_none (l : List Nat) (i : Nat) (h : 8 * l.length ≤ i) : byteAt l i = 0 := by
  unfold byteAt
  rw [at_none l _ (by omega)]
  unfold getN; simp
theorem byte_word (bs : List Nat) (hb : Bytes256 bs) (i : Nat) : byteAt (wordsOf bs) i = at' bs i := by
  unfold byteAt
  by_cases h : i / 8 < need bs.length
  · rw [wordsOf_at, if_pos h]
    apply Nat.eq_of_testBit_eq
    intro j
    rw [getN_bit, wordAt_bit bs hb]
    by_cases hj : j < 8
    · have e1 : 8 * (i / 8) + (8 * (i % 8) + j) / 8 = i := by omega
      have e2 : (8 * (i % 8) + j) % 8 = j := by omega
      rw [e1, e2]
      simp [hj, show 8 * (i % 8) + j < 64 by omega]
    · simp [hj, lt_bit (at' bs i) 8 j (by simpa using hb i) (by omega)]
  · rw [wordsOf_at, if_neg h]
    have : bs.length ≤ i := by unfold need at h; omega
    rw [at_none bs i this]
    unfold getN; simp
theorem list_ext (a b : List Nat) (hl : a.length = b.length) (h : ∀ i, i < a.length → at' a i = at' b i) : a = b := by
  apply List.ext_getElem hl
  intro i h1 h2
  have e := h i h1
  rw [show at' a i = a[i]?.getD 0 from rfl, show at' b i = b[i]?.getD 0 from rfl, List.getElem?_eq_getElem h1, List.getElem?_eq_getElem h2] at e
  exact e
theorem bytesOf_length (l : List Nat) : (bytesOf l).length = 8 * l.length := by simp [bytesOf]
theorem at_take (l : List Nat) (n i : Nat) (h : i < n) : at' (l.take n) i = at' l i := by
  show (l.take n)[i]?.getD 0 = _
  rw [List.getElem?_take_of_lt h]
theorem at_drop (l : List Nat) (n i : Nat) : at' (l.drop n) i = at' l (n + i) := by
  show (l.drop n)[i]?.getD 0 = _
  rw [List.getElem?_drop]
theorem need_ge (n : Nat) : n ≤ 8 * need n := by unfold need; omega
/-- Bytes of Words are the bytes. -/
theorem bytes_words (bs : List Nat) (hb : Bytes256 bs) : (bytesOf (wordsOf bs)).take bs.length = bs := by
  have hg := need_ge bs.length
  apply list_ext
  · rw [List.length_take, bytesOf_length, wordsOf_length]; omega
  · intro i hi
    rw [List.length_take, bytesOf_length, wordsOf_length] at hi
    rw [at_take _ _ _ (by omega), bytesOf_at _ _ (by rw [wordsOf_length]; omega), byte_word bs hb]
theorem bytes_behind (bs : List Nat) (hb : Bytes256 bs) (i : Nat) (hi : bs.length ≤ i) : byteAt (wordsOf bs) i = 0 := by
  rw [byte_word bs hb, at_none bs i hi]
/-- Chunk i of bytes. -/
def chunkOf (bs : List Nat) (i : Nat) : List Nat := (bs.drop (8 * i)).take 8
theorem chunkOf_length (bs : List Nat) (i : Nat) : (chunkOf bs i).length = min 8 (bs.length - 8 * i) := by simp [chunkOf]
theorem chunkOf_at (bs : List Nat) (i j : Nat) (h : j < 8) : at' (chunkOf bs i) j = at' bs (8 * i + j) := by
  unfold chunkOf; rw [at_take _ _ _ h, at_drop]
theorem chunkOf_256 (bs : List Nat) (hb : Bytes256 bs) (i : Nat) : Bytes256 (chunkOf bs i) := fun j => by
  by_cases h : j < 8
  · rw [chunkOf_at _ _ _ h]; exact hb _
  · rw [at_none _ _ (by rw [chunkOf_length]; omega)]; decide
theorem chunkOf_word (bs : List Nat) (i : Nat) : joinTo (chunkOf bs i) (chunkOf bs i).length = wordAt bs i := by
  rw [chunkOf_length]
  unfold chunkOf wordAt
  exact joinTo_take _ _ _ (by omega)
/-- What Bytes says: an error. -/
def bytesErr (l : List Nat) (many : Int) : Int :=
  if many < 0 then 2 else if 4096 < many ∨ 4096 < l.length then 3 else if 8 * (l.length : Int) < many then 4 else if need many.toNat < l.length then 110
  else if ((bytesOf l).drop many.toNat).any (· != 0) then 110 else 0
end WM
end Go.Proofs.YtohdgjmmekgcmaaDoor
