/-
  Contracts of math/bits.TrailingZeros64 and of word.Bits (an iterator).
-/
import Derived.Test.YthjlhbkjmlohcaaDoorWordA
import Derived.RangeFuncNested
import Derived.RangeFuncBound
import Derived.RangeFuncCalls
import Derived.RangeFuncLeaves
import Derived.Shelf.Abstract
import Derived.Shelf.RegionOpen
import Derived.OwnWalkIn
import Derived.TacticsInMore
import Derived.LoopNIn
import Derived.LoopIn
namespace Go.Proofs.YthjlhbkjmlohcaaDoor
open Go.RowKit Go.Shelf
attribute [local go_sem] Oper.semAt_some
namespace WM
/-- The bits that are 1, rising. -/
def bitsOf (x : Nat) : List Nat := (List.range 64).filter (fun i => x.testBit i)
theorem bitsOf_zero : bitsOf 0 = [] := by unfold bitsOf; simp
theorem low_split (x : Nat) (h0 : x ≠ 0) (h : x < 18446744073709551616) : ∃ m, x = 2 ^ (Lib.ctz 64 x + 1) * m + 2 ^ Lib.ctz 64 x ∧ Lib.ctz 64 x < 64 := by
  obtain ⟨m, hm, hk⟩ := Lib.ctzFrom_spec 64 x (by omega) h
  have e : Lib.ctz 64 x = Lib.ctzFrom 64 x := by simp [Lib.ctz, h0]
  rw [e]
  refine ⟨m, ?_, hk⟩
  rw [Nat.pow_succ, Nat.mul_assoc]
  generalize 2 ^ Lib.ctzFrom 64 x = p at *
  rw [hm, Nat.mul_add, Nat.mul_one]
theorem and_pred_bit (k m j : Nat) : ((2 ^ (k + 1) * m + 2 ^ k) &&& (2 ^ (k + 1) * m + 2 ^ k - 1)).testBit j = if j < k + 1 then false else m.testBit (j - (k + 1)) := by
  have hp := Nat.two_pow_pos k
  have hs : 2 ^ (k + 1) = 2 * 2 ^ k := by rw [Nat.pow_succ, Nat.mul_comm]
  have e : 2 ^ (k + 1) * m + 2 ^ k - 1 = 2 ^ (k + 1) * m + (2 ^ k - 1) := by omega
  rw [e, Nat.testBit_and, Nat.testBit_two_pow_mul_add _ (by omega), Nat.testBit_two_pow_mul_add _ (by omega)]
  by_cases h : j < k + 1
  · rw [if_pos h, if_pos h, if_pos h, Nat.testBit_two_pow, Nat.testBit_two_pow_sub_one]
    by_cases hj : k = j
    · simp [hj]
    · simp [hj]
  · rw [if_neg h, if_neg h, if_neg h, Bool.and_self]
theorem bitsOf_cons (x : Nat) (h0 : x ≠ 0) (h : x < 18446744073709551616) : bitsOf x = Lib.ctz 64 x :: bitsOf (x &&& (x - 1)) := by
  obtain ⟨m, hm, hk⟩ := low_split x h0 h
  generalize Lib.ctz 64 x = k at *
  subst hm
  have hs : 2 ^ (k + 1) = 2 * 2 ^ k := by rw [Nat.pow_succ, Nat.mul_comm]
  have hp := Nat.two_pow_pos k
  have e : List.range 64 = List.range k ++ (k :: List.range' (k + 1) (63 - k)) := by
    rw [List.range_eq_range', List.range_eq_range', ← List.range'_succ]
    have : 63 - k + 1 = 64 - k := by omega
    rw [this]
    have := List.range'_append_1 (s := 0) (m := k) (n := 64 - k)
    rw [Nat.zero_add] at this
    rw [this]; congr 1; omega
  unfold bitsOf
  rw [e, List.filter_append, List.filter_append, List.filter_cons, List.filter_cons]
  have a1 : (List.range k).filter (fun i => (2 ^ (k + 1) * m + 2 ^ k).testBit i) = [] := by
    rw [List.filter_eq_nil_iff]
    intro i hi
    have hi' : i < k := List.mem_range.1 hi
    rw [Nat.testBit_two_pow_mul_add _ (by omega), if_pos (by omega), Nat.testBit_two_pow]
    simp; omega
  have a2 : (List.range k).filter (fun i => ((2 ^ (k + 1) * m + 2 ^ k) &&& (2 ^ (k + 1) * m + 2 ^ k - 1)).testBit i) = [] := by
    rw [List.filter_eq_nil_iff]
    intro i hi
    have hi' : i < k := List.mem_range.1 hi
    rw [and_pred_bit, if_pos (by omega)]; simp
  have b1 : (2 ^ (k + 1) * m + 2 ^ k).testBit k = true := by
    rw [Nat.testBit_two_pow_mul_add _ (by omega), if_pos (by omega), Nat.testBit_two_pow]; simp
  have b2 : ((2 ^ (k + 1) * m + 2 ^ k) &&& (2 ^ (k + 1) * m + 2 ^ k - 1)).testBit k = false := by rw [and_pred_bit, if_pos (by omega)]
  rw [a1, a2, b1, b2]
  simp only [List.nil_append, if_true, Bool.false_eq_true, if_false]
  congr 1
  apply List.filter_congr
  intro i hi
  have hi' : k + 1 ≤ i := (List.mem_range'_1.1 hi).1
  rw [and_pred_bit, if_neg (by omega), Nat.testBit_two_pow_mul_add _ (by omega), if_neg (by omega)]
theorem bitsOf_len (x : Nat) : (bitsOf x).length ≤ 64 := by
  unfold bitsOf
  exact Nat.le_trans (List.length_filter_le _ _) (by simp)
theorem ctz_lt (x : Nat) (h0 : x ≠ 0) (h : x < 18446744073709551616) : Lib.ctz 64 x < 64 := (low_split x h0 h).choose_spec.2
theorem dec_int (x : Nat) (h0 : x ≠ 0) (h : x < 18446744073709551616) : bits .and .u64 (x : Int) ((x : Int) - 1) = ((x &&& (x - 1) : Nat) : Int) := by
  have e : (x : Int) - 1 = ((x - 1 : Nat) : Int) := by omega
  rw [e, u64_and_nat _ _ h (by omega)]
end WM

set_option maxHeartbeats 1000000 in
theorem tz_core (x k idx : Nat) (w : World) (hx0 : ((x : Int) == 0) = false)
    (key : IntKind.u64.wrap (bits BinOp.and IntKind.u64 (x : Int) (IntKind.u64.wrap (-(x : Int))) * 285870213051353865) / 288230376151711744 = (idx : Int))
    (hi : idx < 64) (hk : k < 64) (hcell : w.cell? ⟨0, idx, none⟩ = some (.int .u8 k)) :
    Calls Tryd.prog 18 #[.int .u64 x] w fun e w' => e = .returned (.int .i64 k) ∧ w = w' := by
  go_enter Tryd.func18, Tryd.ntmps18
  go_wp2_with (simp only [key])
  go_ret
  exact ⟨rfl, rfl⟩
theorem tz_any (x : Nat) (h0 : x ≠ 0) (hx : x < 18446744073709551616) (w : World) (ht : Tabs w) :
    Calls Tryd.prog 18 #[.int .u64 x] w fun e w' => e = .returned (.int .i64 (Lib.ctz 64 x : Nat)) ∧ w = w' := by
  obtain ⟨hlow, hk⟩ := Lib.lowest_bit 64 x h0 hx
  obtain ⟨hi, htab⟩ := Lib.deBruijn64_at _ hk
  have hcell := ht.bruijn _ hi
  rw [htab] at hcell
  exact tz_core x _ _ w (by simp; omega) (tz64_key x _ hx h0 hlow) hi hk hcell
/-- The blocks p are as they were. -/
def Keeps (p : Nat → Prop) (W W' : World) : Prop := W.heap.size ≤ W'.heap.size ∧ ∀ k, p k → k < W.heap.size → W'.heap[k]? = W.heap[k]?
theorem Keeps.refl (p : Nat → Prop) (W : World) : Keeps p W W := ⟨Nat.le_refl _, fun _ _ _ => rfl⟩
theorem Keeps.trans {p : Nat → Prop} {A B C : World} (h : Keeps p A B) (k : Keeps p B C) : Keeps p A C :=
  ⟨Nat.le_trans h.1 k.1, fun i hi hl => (k.2 i hi (Nat.lt_of_lt_of_le hl h.1)).trans (h.2 i hi hl)⟩
theorem Keeps.cell {p : Nat → Prop} {A B : World} (h : Keeps p A B) {q : Addr} (hp : p q.block) {v : Value} (hc : A.cell? q = some v) : B.cell? q = some v := by
  have hl : q.block < A.heap.size := by
    rcases Nat.lt_or_ge q.block A.heap.size with h1 | h1
    · exact h1
    · unfold World.cell? at hc; rw [Array.getElem?_eq_none h1] at hc; cases hc
  exact (World.cell?_of_block (w := A) (h.2 q.block hp hl)).trans hc
theorem Keeps.drewN {p : Nat → Prop} {A B : World} (h : Keeps p A B) (n : Nat) : Keeps p A (B.drewN n) := h
theorem Keeps.of_below {p : Nat → Prop} {n₀ : Nat} {A B : World} (h : Below n₀ A B) (hp : ∀ k, p k → k < n₀) : Keeps p A B := ⟨h.size, fun k hk _ => h.block k (hp k hk)⟩
theorem Keeps.of_grown {p : Nat → Prop} {A B : World} {row : Option Nat} (h : A.grownBy B row) (hp : ∀ k, row = some k → ¬ p k) : Keeps p A B :=
  ⟨h.size, fun k hk hl => h.block k hl (fun e => hp k e.symm hk)⟩
theorem Keeps.set {p : Nat → Prop} (A : World) {b o : Nat} (v : Value) (hp : ¬ p b) : Keeps p A (A.setCell ⟨b, o, none⟩ v) :=
  ⟨by simp [World.setCell], fun k hk _ => Below.heap_setCell _ _ _ _ (fun e => hp (by rw [e] at hk; exact hk))⟩
theorem keeps_b {p : Nat → Prop} {w : World} (hp : ∀ k, p k → k < w.heap.size) (W : World) (l : Nat) (o o' : Obj) (hl : w.heap.size ≤ l) (_ : W.heap[l]? = some o) (_ : o.isCells = false) (_ : o.isWalk = false) : Keeps p W (W.putObj l o') :=
  Keeps.of_grown (grownBy_putObj' W l o') (fun k e hk => by cases e; have := hp l hk; omega)
theorem Tabs.keeps {p : Nat → Prop} {w w' : World} (h : Tabs w) (hk : Keeps p w w') (h0 : p 1) (h1 : p 0) : Tabs w' :=
  ⟨fun v hv => hk.cell (q := ⟨1, v, none⟩) h0 (h.masks v hv), fun j hj => hk.cell (q := ⟨0, j, none⟩) h1 (h.bruijn j hj), Nat.le_trans h.room hk.1⟩
/-- What an iterator over a word's bits needs: its box, and the tables. -/
def BitsBlocks (Bs : Nat) (k : Nat) : Prop := k = Bs ∨ k < 2
theorem bits_any (x : Nat) (w : World) :
    Calls Tryd.prog 7 #[.int .u64 x] w fun e w' => e = .returned (.func (.func 17) #[] #[.pointer (some ⟨w.heap.size, 0, none⟩)]) ∧ w' = w.alloc (.cells #[.int .u64 x] 22) := by
  go_enter Tryd.func7, Tryd.ntmps7
  go_wp2
  go_ret
  exact ⟨rfl, rfl⟩
set_option maxRecDepth 100000 in
set_option maxHeartbeats 2000000 in
/-- The iterator: for every loop body that keeps what lay below n₀. -/
theorem bits1_in (F : Fence) (n : Nat) (h39 : F.fn 17) (h40 : F.fn 18) (hro : F.round = none) (hF : F = Fence.wide) (hn : 1 ≤ n) (l Bs x : Nat) (hx : x < 18446744073709551616) (J Jx : List Nat → World → Prop)
    (hY : ∀ pre y W, y < 64 → J pre W → pre.length < (WM.bitsOf x).length → YieldAt F (n - 1) Tryd.prog l #[.int .i64 (y : Nat)] W fun e W' =>
      (e = .returned (.bool true) ∧ J (pre ++ [y]) W' ∧ Keeps (BitsBlocks Bs) W W') ∨ (e = .returned (.bool false) ∧ Jx (pre ++ [y]) W'))
    (W : World) (ht : Tabs W) (hBs : W.cell? ⟨Bs, 0, none⟩ = some (.int .u64 x)) (h0 : J [] W) :
    CallsIn F n Tryd.prog 17 #[.func (.yield l) #[] #[], .pointer (some ⟨Bs, 0, none⟩)] W fun e W' => (∃ v, e = .returned v) ∧
      ((∃ ys, ys = WM.bitsOf x ∧ J ys W') ∨ (∃ pre, pre <+: WM.bitsOf x ∧ Jx pre W')) := by
  refine callsIn_of_wp Tryd.func17 rfl h39 ?_ hro
  simp only [Tryd.ntmps17, List.size_toArray, List.length_cons, List.length_nil, Nat.reduceAdd, Nat.reduceSub, Array.replicate_succ, Array.replicate_zero, List.push_toArray, List.append_toArray, List.nil_append, List.cons_append]
  gi_wp2
  gi_loopw [3] (fun p wr => ∃ (y : Nat) (pre : List Nat), y ≤ x ∧ p = .int .u64 y ∧ WM.bitsOf x = pre ++ WM.bitsOf y ∧ J pre wr ∧ Keeps (BitsBlocks Bs) W wr)
    (fun p _ => (intOf p).toNat)
  case atStart => exact ⟨x, [], Nat.le_refl _, rfl, rfl, h0, Keeps.refl _ _⟩
  case round =>
    obtain ⟨y, pre, hyx, rfl, hsp, hJs, hb⟩ := hrel
    by_cases hy0 : y = 0
    · subst hy0
      have HS := Lib.hid hsp; clear hsp
      gi_wp2
      go_end0
      exact ⟨⟨_, rfl⟩, .inl ⟨pre, by rw [HS.out, WM.bitsOf_zero, List.append_nil], hJs⟩⟩
    · have hc := WM.bitsOf_cons y hy0 (by omega)
      have hlt := WM.dec_int y hy0 (by omega)
      have hle : y &&& (y - 1) ≤ y - 1 := Nat.and_le_right
      have hne : ((y : Int) == 0) = false := by rw [beq_eq_false_iff_ne]; omega
      have hne' : ((y : Int) != 0) = true := by rw [bne_iff_ne]; omega
      obtain ⟨fn, tmps, assign, body, hy, hR⟩ := hY pre (Lib.ctz 64 y) wr (WM.ctz_lt y hy0 (by omega)) hJs (by rw [hsp, hc]; simp)
      have tz := tz_any y hy0 (by omega) wr (ht.keeps hb (.inr (by decide)) (.inr (by decide)))
      rw [hc] at hsp
      have HS := Lib.hid hsp; clear hsp hc
      have HT := Lib.hid tz; clear tz
      subst hF
      have HR := Lib.hid hR; clear hR
      have HD := Lib.hid hlt; clear hlt
      generalize Lib.ctz 64 y = k at *
      gi_wp2
      refine (callsIn_wide.2 HT.out).mono ?_
      rintro e w1 ⟨rfl, rfl⟩
      gi_wp2
      refine HR.out.mono ?_
      rintro e W3 (⟨rfl, hJ3, hk3⟩ | ⟨rfl, hJx3⟩)
      · gi_wp2
        go_roundw
        case rel => exact ⟨y &&& (y - 1), pre ++ [k], by omega, by rw [HD.out], by rw [HS.out, List.append_assoc]; rfl, hJ3, hb.trans hk3⟩
        case measure => rw [HD.out]; simp [intOf]; omega
      · gi_wp2
        refine bodyPost_ret (results_none rfl _ _ _) rfl ?_
        exact ⟨⟨_, rfl⟩, .inr ⟨pre ++ [k], by rw [HS.out]; exact ⟨WM.bitsOf (y &&& (y - 1)), by rw [List.append_assoc]; rfl⟩, hJx3⟩⟩

/-- **word.Bits(x) hands back an iterator over the bits of x, rising; it may be left.** -/
theorem bits_stops (n : Nat) (hn : 1 ≤ n) (Bs x : Nat) (hx : x < 18446744073709551616) (w : World) (ht : Tabs w) (hBs : Bs < w.heap.size)
    (hc : w.cell? ⟨Bs, 0, none⟩ = some (.int .u64 x)) :
    SeqStopsK Fence.wide n Tryd.prog 17 #[.pointer (some ⟨Bs, 0, none⟩)] (fun y : Fin 64 => #[Value.int .i64 (y.1 : Nat)]) (Keeps (BitsBlocks Bs)) (fun ys => ys.map (·.1) = WM.bitsOf x) (fun pre => pre.map (·.1) <+: WM.bitsOf x) (WM.bitsOf x).length w := fun l J Jx W hW _ _ hY h0 => by
  have hc' := (hW.cell (p := ⟨Bs, 0, none⟩) hBs).trans hc
  refine (bits1_in Fence.wide n trivial trivial rfl rfl hn l Bs x hx (fun pre W => ∃ pf : List (Fin 64), pf.map (·.1) = pre ∧ J pf W) (fun pre W => ∃ pf : List (Fin 64), pf.map (·.1) = pre ∧ Jx pf W) ?_ W (ht.below hW ht.room) hc' ⟨[], rfl, h0⟩).mono ?_
  · rintro pre y W1 hy ⟨pf, rfl, hj⟩ hl
    have := hY pf ⟨y, hy⟩ W1 hj (by simpa using hl)
    obtain ⟨fn, tmps, assign, body, h1, h2⟩ := this
    refine ⟨fn, tmps, assign, body, h1, h2.mono ?_⟩
    rintro e W2 (⟨rfl, hj2, hk⟩ | ⟨rfl, hj2⟩)
    · exact .inl ⟨rfl, ⟨_, by simp, hj2⟩, hk⟩
    · exact .inr ⟨rfl, ⟨_, by simp, hj2⟩⟩
  · rintro e W2 ⟨he, ⟨ys, h1, pf, h2, hj⟩ | ⟨pre, h1, pf, h2, hj⟩⟩
    · exact ⟨he, .inl ⟨pf, h2.trans h1, hj⟩⟩
    · exact ⟨he, .inr ⟨pf, (by show pf.map (·.1) <+: WM.bitsOf x; rw [h2]; exact h1), hj⟩⟩
end Go.Proofs.YthjlhbkjmlohcaaDoor
