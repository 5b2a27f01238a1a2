/-
  Texts WordB to FlB, as one.
-/
import Derived.Test.YtmncoclmgcjjjaaMf4
import Derived.ScopeJumps
import Derived.WalkMore
import Derived.Laws.BytesArg
import Derived.Laws.MakeOwn
import Derived.Laws.CopyRow
import Derived.Laws.CopyOwn
/-
  Contracts of the document's answers for fields (waterlineref01: Bit, With, Right, Get, Put), and num.
-/
namespace Go.Proofs.Ytmncoclmgcjjjaa
open Go.RowKit

theorem bit_any (n i : Nat) (hi : i < 64) (w : World) : Calls Try.prog 48 #[.int .u64 n, .int .i64 i] w fun e w' => e = .returned (.bool (n.testBit i)) ∧ w = w' := by
  have h1 : (i : Int) < 64 := by omega
  go_enter Try.func48, Try.ntmps48
  go_wp2
  go_ret
  exact ⟨ret_bool (WM.bit_int n i), rfl⟩
theorem with_any' (n i : Nat) (b : Bool) (hi : i < 64) (hn : n < 18446744073709551616) (w : World) : Calls Try.prog 47 #[.int .u64 n, .int .i64 i, .bool b] w fun e w' => e = .returned (.int .u64 (WM.withN n i b : Nat)) ∧ w = w' := by
  have h1 : (i : Int) < 64 := by omega
  by_cases hb : n.testBit i = b
  · have H : Hid (WM.withN n i b = n) := if_pos hb
    go_enter Try.func47, Try.ntmps47
    go_wp2_with fail
    refine (bit_any n i hi _).mono ?_
    rintro e w1 ⟨rfl, rfl⟩
    go_wp2_with fail
    go_ret
    exact ⟨ret_int (by rw [H.out]), rfl⟩
  · have H : Hid (WM.withN n i b = n ^^^ 2 ^ i) := if_neg hb
    have hb' : (n.testBit i == b) = false := by simpa using hb
    go_enter Try.func47, Try.ntmps47
    go_wp2_with fail
    refine (bit_any n i hi _).mono ?_
    rintro e w1 ⟨rfl, rfl⟩
    go_wp2_with fail
    go_ret
    refine ⟨ret_int ?_, rfl⟩
    rw [H.out, WM.pow_int i hi, u64_xor_nat _ _ hn (WM.pow_lt64 i hi)]
/-- The document's Get. -/
theorem refGet_any (n f v : Nat) (h : f + v ≤ 64) (_ : n < 18446744073709551616) (w : World) :
    Calls Try.prog 52 #[.int .u64 n, .agg #[.int .i64 f, .int .i64 v]] w fun e w' => e = .returned (.int .u64 (WM.getN n f v : Nat)) ∧ Below w.heap.size w w' := by
  go_enter Try.func52, Try.ntmps52
  go_wp2
  go_loop [5, 6] (fun t i => ∃ k : Nat, k ≤ v ∧ i = .int .i64 k ∧ t = .int .u64 (WM.getTo n f k : Nat)) (fun _ i => v - (intOf i).toNat)
  case atStart => exact ⟨0, Nat.zero_le _, rfl, by unfold WM.getTo WM.getN; simp [Nat.mod_one]⟩
  case round =>
    obtain ⟨k, hk, rfl, rfl⟩ := hrel
    have hlt64 : WM.getTo n f k < 18446744073709551616 := WM.getN_lt64 n f k (by omega)
    by_cases hlt : k < v
    · have H := Lib.hid (WM.getTo_succ n f k)
      have e1 : (f : Int) + (k : Int) = ((f + k : Nat) : Int) := by omega
      have H1 := Lib.hid e1; clear e1
      go_wp2_with fail
      rw [H1.out]
      refine (bit_any n (f + k) (by omega) _).mono ?_
      rintro e w1 ⟨rfl, rfl⟩
      go_wp2_with fail
      refine (with_any' (WM.getTo n f k) k _ (by omega) hlt64 _).mono ?_
      rintro e w1 ⟨rfl, rfl⟩
      go_wp2_with fail
      go_round
      case rel => exact ⟨k + 1, by omega, by go_num, by rw [H.out]⟩
      case measure => simp [intOf]; omega
    · go_wp2
      go_ret
      obtain rfl : k = v := by omega
      exact ⟨rfl, (by repeat (first | exact Below.refl _ _ | assumption | refine Below.drew ?_ | refine below_drewN ?_ _ | refine Below.alloc ?_ (by (try simp) <;> omega) _ | refine Below.setCell ?_ (by (try simp) <;> omega) _ | refine Below.trans ?_ (Below.mono (by assumption) (by (try simp) <;> omega))))⟩
theorem quiet_add_left {P : Program} {f : FuncId} {args : Array Value} {w : World} {a n : Nat} {v : Value}
    (h : Calls P f args (w.drewN (a + n)) fun e w' => e = .returned v ∧ w.drewN (a + n) = w') :
    Calls P f args (w.drewN (a + n)) fun e w'' => e = .returned v ∧ ∃ m, w'' = w.drewN (a + m) :=
  h.mono fun _ _ ⟨he, hm⟩ => ⟨he, n, hm.symm⟩
theorem quiet_left {P : Program} {f : FuncId} {args : Array Value} {w : World} {n : Nat} {v : Value}
    (h : Calls P f args (w.drewN n) fun e w' => e = .returned v ∧ w.drewN n = w') : Calls P f args (w.drewN n) fun e w'' => e = .returned v ∧ ∃ m, w'' = w.drewN m :=
  h.mono fun _ _ ⟨he, hm⟩ => ⟨he, n, hm.symm⟩
/-- What the document's Put answers. -/
def PutOut (n f v m : Nat) (e : Ending) : Prop := if m < 2 ^ v then e = .returned (.tuple #[.int .u64 (WM.putN n f v m : Nat), .bool true]) else e = .returned (.tuple #[.int .u64 0, .bool false])
end Go.Proofs.Ytmncoclmgcjjjaa

/-
  The contract of word.Put.
-/
namespace Go.Proofs.Ytmncoclmgcjjjaa
open Go.RowKit
end Go.Proofs.Ytmncoclmgcjjjaa

/-
  Contracts of word's split (words into bytes) and of slices.ContainsFunc at its predicate.
-/
namespace Go.Proofs.Ytmncoclmgcjjjaa
open Go.RowKit Go.Shelf

theorem infoU8 : (Try.prog.info? 5).map (fun i => (i.zero, i.size, i.bytes)) = some (some (.int .u8 0), 1, 1) := by kernel_rfl
theorem byte_div (x k : Nat) : (((x / 2 ^ (8 * k) : Nat)) : Int) % 256 = (WM.getN x (8 * k) 8 : Nat) := by
  unfold WM.getN
  rw [Int.natCast_emod]; rfl
theorem div_next (x k : Nat) : ((x / 2 ^ (8 * k) : Nat) : Int) / 256 = ((x / 2 ^ (8 * (k + 1)) : Nat) : Int) := by
  have : x / 2 ^ (8 * (k + 1)) = x / 2 ^ (8 * k) / 256 := by
    rw [Nat.div_div_eq_div_mul]; congr 1
    rw [show 8 * (k + 1) = 8 * k + 8 by omega, Nat.pow_add]
  rw [this]; omega
/-- The bytes of a word, as values. -/
def byteVals (x : Nat) (k : Nat) : List Value := (List.range k).map fun j => Value.int .u8 (WM.getN x (8 * j) 8 : Nat)
theorem byteVals_succ (x k : Nat) : byteVals x (k + 1) = byteVals x k ++ [.int .u8 (WM.getN x (8 * k) 8 : Nat)] := by unfold byteVals; rw [List.range_succ, List.map_append]; rfl
set_option maxRecDepth 100000 in
set_option maxHeartbeats 4000000 in
theorem split1_any (x m n₀ : Nat) (g cap : Nat) (ys : List Value) (hx : x < 18446744073709551616) (hm : m ≤ 32768) (w : World) (hn : n₀ ≤ w.heap.size) (hown : w.ownsRow n₀ 5 1 (.slice (some ⟨g, 0, none⟩) m cap) m ys) :
    Calls Try.prog 64 #[.slice (some ⟨g, 0, none⟩) m cap, .int .u64 x] w fun e w' => ∃ g' cap', e = .returned (.slice (some ⟨g', 0, none⟩) (m + 8) cap') ∧ w'.ownsRow n₀ 5 1 (.slice (some ⟨g', 0, none⟩) (m + 8) cap') (m + 8) (ys ++ byteVals x 8) ∧ Below n₀ w w' := by
  obtain ⟨i0, hi, hz0, hz1, hz2⟩ := info_parts infoU8
  go_enter Try.func64, Try.ntmps64
  go_wp2
  go_loopw [0, 1, 5] (fun v y i wr => ∃ (k g' cap' : Nat), k ≤ 8 ∧ i = .int .i64 k ∧ y = .int .u64 ((x / 2 ^ (8 * k) : Nat)) ∧ v = .slice (some ⟨g', 0, none⟩) (m + k) cap' ∧ wr.ownsRow n₀ 5 1 (.slice (some ⟨g', 0, none⟩) (m + k) cap') (m + k) (ys ++ byteVals x k) ∧ Below n₀ w wr) (fun _ _ i _ => 8 - (intOf i).toNat)
  case atStart => exact ⟨0, g, cap, by omega, rfl, by simp, rfl, by simpa [byteVals] using hown, Below.refl _ _⟩
  case round =>
    obtain ⟨k, g', cap', hk, rfl, rfl, rfl, hrow, hb⟩ := hrel
    have z := hb.size
    by_cases hlt : k < 8
    · have HB := Lib.hid (byte_div x k)
      have HD := Lib.hid (div_next x k)
      have HS := Lib.hid (byteVals_succ x k)
      have hyb : x / 2 ^ (8 * k) < 18446744073709551616 := Nat.lt_of_le_of_lt (Nat.div_le_self _ _) hx
      generalize hye : x / 2 ^ (8 * k) = y at *
      go_wp2_with (at_builtin; refine wpList_append_own _ rfl _ _ 22 rfl n₀ 5 i0 (.int .u8 0) 1 1 Try.underlying22 hi hz0 hz1 hz2 rfl (by decide) (.slice (some ⟨g', 0, none⟩) (m + k) cap') _ _ rfl (hrow.alloc _) ⟨wr.heap.size, 0, none⟩ 1 1 [.int .u8 ((y : Int) % 256)] rfl rfl (cell_one_new _ _ _) (by simp [Value.oneCell']) (by unfold maxLen; omega) (by omega) (by simp; omega) ?_; intro v' w1 hown' hgrow _)
      have hg0 := hrow.lt g' rfl
      go_roundw
      case rel =>
        obtain ⟨g2, cap2, rfl⟩ := ownsRow_succ hown'
        refine ⟨k + 1, g2, cap2, by omega, by go_num, by rw [HD.out], rfl, ?_, ?_⟩
        · rw [HS.out, ← HB.out, ← List.append_assoc]; exact hown'
        · exact (hb.alloc (by omega) _).grown hgrow (by simp; omega) (fun j e => by simp [Value.ownBlock] at e; omega)
      case measure => simp [intOf]; omega
    · obtain rfl : k = 8 := by omega
      go_wp2
      go_ret
      exact ⟨g', cap', rfl, hrow, hb⟩
/-- The bytes of the first k words, as values. -/
def splitVals (l : List Nat) : Nat → List Value
  | 0 => []
  | k + 1 => splitVals l k ++ byteVals (l[k]?.getD 0) 8
theorem splitVals_eq (l : List Nat) : ∀ k, splitVals l k = (List.range (8 * k)).map fun j => Value.int .u8 (WM.byteAt l j : Nat)
  | 0 => rfl
  | k + 1 => by
    rw [splitVals, splitVals_eq l k, show 8 * (k + 1) = 8 * k + 8 by omega, List.range_add, List.map_append]
    congr 1
    unfold byteVals
    rw [List.map_map]
    apply List.map_congr_left
    intro j hj
    have hj8 : j < 8 := List.mem_range.1 hj
    show Value.int .u8 _ = Value.int .u8 (WM.byteAt l (8 * k + j) : Nat)
    unfold WM.byteAt
    rw [show (8 * k + j) / 8 = k by omega, show (8 * k + j) % 8 = j by omega]
def Words64 (l : List Nat) : Prop := ∀ i : Nat, l[i]?.getD 0 < 18446744073709551616
set_option maxHeartbeats 1000000 in
theorem fold2_any (v : Value) (l : List Nat) (n₀ g cap : Nat) (hl : l.length ≤ 4096) (h64 : Words64 l) (w : World) (hn : n₀ ≤ w.heap.size) (hs : Sl w .u64 v l) (hlow : ∀ b off c, v = .slice (some ⟨b, off, none⟩) l.length c → 0 < l.length → b < n₀)
    (hown : w.ownsRow n₀ 5 1 (.slice (some ⟨g, 0, none⟩) 0 cap) 0 []) :
    Calls Try.prog 63 #[.slice (some ⟨g, 0, none⟩) 0 cap, v, .func (.func 64) #[] #[]] w fun e w' => ∃ g' cap', e = .returned (.slice (some ⟨g', 0, none⟩) (8 * l.length) cap') ∧ w'.ownsRow n₀ 5 1 (.slice (some ⟨g', 0, none⟩) (8 * l.length) cap') (8 * l.length) (splitVals l l.length) ∧ Below n₀ w w' := by
  obtain ⟨a, c, b, off, rfl, hlc, ha, hc⟩ := hs.cell
  clear hs
  have HC := Lib.hid hc; clear hc
  have HLow := Lib.hid hlow; clear hlow
  generalize hm : l.length = m at *
  have HM := Lib.hid hm; clear hm
  have h1 : (m : Int) ≤ 4096 := by omega
  go_enter Try.func63, Try.ntmps63
  go_wp2
  go_loopw [0, 8, 11] (fun v _ i wr => ∃ (k g' cap' : Nat), k ≤ m ∧ i = .int .i64 k ∧ v = .slice (some ⟨g', 0, none⟩) (8 * k) cap' ∧ wr.ownsRow n₀ 5 1 (.slice (some ⟨g', 0, none⟩) (8 * k) cap') (8 * k) (splitVals l k) ∧ Below n₀ w wr) (fun _ _ i _ => m - (intOf i).toNat)
  case atStart => exact ⟨0, g, cap, by omega, rfl, rfl, hown, Below.refl _ _⟩
  case round =>
    obtain ⟨k, g', cap', hk, rfl, rfl, hrow, hb⟩ := hrel
    have z := hb.size
    by_cases hlt : k < m
    · obtain rfl := ha (by omega)
      have hbn := HLow.out b off c rfl (by omega)
      have c1 : wr.cell? ⟨b, off + k, none⟩ = some (.int .u64 (l[k]?.getD 0 : Nat)) := (hb.cell (p := ⟨b, off + k, none⟩) hbn).trans ((HC.out (by omega)).2 k hlt)
      have hx := h64 k
      obtain ⟨x, hx1⟩ : ∃ x, x = l[k]?.getD 0 := ⟨_, rfl⟩
      rw [← hx1] at c1 hx
      have hsp := Lib.hid (split1_any x (8 * k) n₀ g' cap' (splitVals l k) hx (by omega) wr (by omega) hrow)
      have HX := Lib.hid hx1; clear hx1
      go_wp2_with fail
      refine hsp.out.mono ?_
      rintro e w1 ⟨g2, cap2, rfl, hrow2, hb2⟩
      go_wp2_with fail
      go_roundw
      case rel => exact ⟨k + 1, g2, cap2, by omega, by go_num, rfl, by rw [splitVals, ← HX.out]; exact hrow2, hb.trans hb2⟩
      case measure => simp [intOf]; omega
    · obtain rfl : k = m := by omega
      go_wp2
      go_ret
      exact ⟨g', cap', rfl, hrow, hb⟩
theorem split_any (v : Value) (l : List Nat) (hl : l.length ≤ 4096) (h64 : Words64 l) (w : World) (hs : Sl w .u64 v l) :
    Calls Try.prog 57 #[v] w fun e w' => ∃ g' cap', e = .returned (.slice (some ⟨g', 0, none⟩) (8 * l.length) cap') ∧ w'.ownsRow w.heap.size 5 1 (.slice (some ⟨g', 0, none⟩) (8 * l.length) cap') (8 * l.length) (splitVals l l.length) ∧ Below w.heap.size w w' := by
  obtain ⟨i0, hi, hz0, hz1, hz2⟩ := info_parts infoU8
  have hlow : ∀ b off c, v = .slice (some ⟨b, off, none⟩) l.length c → 0 < l.length → b < w.heap.size := by
    rintro b off c rfl h0
    obtain ⟨a, cap, e, _, h⟩ := hs
    obtain ⟨b', off', ea, hlt, _⟩ := h h0
    simp only [Value.slice.injEq] at e
    obtain ⟨e1, _, _⟩ := e
    rw [ea] at e1; simp at e1; omega
  have HF : ∀ (w1 : World) (g cap : Nat), Below w.heap.size w w1 → w1.ownsRow w.heap.size 5 1 (.slice (some ⟨g, 0, none⟩) 0 cap) 0 [] → Calls Try.prog 63 #[.slice (some ⟨g, 0, none⟩) 0 cap, v, .func (.func 64) #[] #[]] w1 fun e w' => ∃ g' cap', e = .returned (.slice (some ⟨g', 0, none⟩) (8 * l.length) cap') ∧ w'.ownsRow w.heap.size 5 1 (.slice (some ⟨g', 0, none⟩) (8 * l.length) cap') (8 * l.length) (splitVals l l.length) ∧ Below w.heap.size w1 w' :=
    fun w1 g cap hb ho => fold2_any v l w.heap.size g cap hl h64 w1 hb.size (hs.below hb) hlow ho
  have HF' := Lib.hid HF; clear HF hlow
  obtain ⟨a, c, b, off, rfl, -, -, -⟩ := hs.cell
  clear hs
  have h1 : (l.length : Int) ≤ 4096 := by omega
  go_enter Try.func57, Try.ntmps57
  go_wp2_with (at_make; refine wpList_make_own _ rfl _ _ 22 rfl w.heap.size 5 i0 (.int .u8 0) 1 Try.underlying22 hi hz0 hz1 .i64 .i64 _ (8 * l.length) rfl rfl (by simp) (by rw [hz2]; omega) (by unfold maxLen; omega) (by omega) ?_; intro w2 hown2 hgrow2)
  have b2 : Below w.heap.size w w2 := (Below.refl _ _).grown hgrow2 (Nat.le_refl _) (fun k e => by cases e)
  refine (HF'.out _ _ _ b2 hown2).mono ?_
  rintro e w3 ⟨g', cap', rfl, hrow3, hb3⟩
  go_wp2_with fail
  go_ret
  exact ⟨g', cap', rfl, hrow3, b2.trans hb3⟩
end Go.Proofs.Ytmncoclmgcjjjaa

/-
  Contracts of slices.ContainsFunc at word's predicate, and of word.Bytes.
-/
namespace Go.Proofs.Ytmncoclmgcjjjaa
open Go.RowKit Go.Shelf

theorem pred_any (x : Nat) (w : World) : Calls Try.prog 59 #[.int .u8 x] w fun e w' => e = .returned (.bool (decide (x ≠ 0))) ∧ w = w' := by
  go_enter Try.func59, Try.ntmps59
  go_wp2
  go_ret
  exact ⟨ret_bool (by rw [Bool.eq_iff_iff, bne_iff_ne, decide_eq_true_iff]; omega), rfl⟩
/-- What IndexFunc answers: at least 0 just where a byte is not nought. -/
def IdxOut (xs : List Nat) (e : Ending) : Prop := ∃ r : Int, e = .returned (.int .i64 r) ∧ -1 ≤ r ∧ r ≤ 4611686018427387904 ∧ (0 ≤ r ↔ ∃ j, j < xs.length ∧ xs[j]?.getD 0 ≠ 0)
theorem index_any (v : Value) (xs : List Nat) (hl : xs.length ≤ 140737488351232) (w : World) (hs : Sl w .u8 v xs) :
    Calls Try.prog 65 #[v, .func (.func 59) #[] #[]] w fun e w' => IdxOut xs e ∧ w = w' := by
  obtain ⟨a, c, b, off, rfl, hlc, ha, hc⟩ := hs.cell
  clear hs
  have HC := Lib.hid hc; clear hc
  generalize hm : xs.length = m at *
  have HM := Lib.hid hm; clear hm
  go_enter Try.func65, Try.ntmps65
  go_wp2
  go_loop [5, 8] (fun _ i => ∃ k : Nat, k ≤ m ∧ i = .int .i64 k ∧ (∀ j, j < k → xs[j]?.getD 0 = 0)) (fun _ i => m - (intOf i).toNat)
  case atStart => exact ⟨0, by omega, rfl, fun j h => by omega⟩
  case round =>
    obtain ⟨k, hk, rfl, hz⟩ := hrel
    have HZ := Lib.hid hz; clear hz
    by_cases hlt : k < m
    · obtain rfl := ha (by omega)
      have c1 : w.cell? ⟨b, off + k, none⟩ = some (.int .u8 (xs[k]?.getD 0 : Nat)) := (HC.out (by omega)).2 k hlt
      obtain ⟨x, hx1⟩ : ∃ x, x = xs[k]?.getD 0 := ⟨_, rfl⟩
      rw [← hx1] at c1
      have HX := Lib.hid hx1; clear hx1
      by_cases hx0 : x = 0
      · have HD := Lib.hid (show decide (x ≠ 0) = false from decide_eq_false (by omega))
        have HX0 := Lib.hid hx0; clear hx0
        go_wp2_with fail
        refine (pred_any x _).mono ?_
        rintro e w1 ⟨rfl, rfl⟩
        rw [HD.out]
        go_wp2_with fail
        go_round
        case rel => exact ⟨k + 1, by omega, by go_num, fun j hj => by
          by_cases hjk : j = k
          · rw [hjk, ← HX.out]; exact HX0.out
          · exact HZ.out j (by omega)⟩
        case measure => simp [intOf]; omega
      · have HD := Lib.hid (show decide (x ≠ 0) = true from decide_eq_true hx0)
        go_wp2_with fail
        refine (pred_any x _).mono ?_
        rintro e w1 ⟨rfl, rfl⟩
        rw [HD.out]
        go_wp2_with fail
        go_ret
        exact ⟨⟨k, rfl, by omega, by omega, ⟨fun _ => ⟨k, by rw [HM.out]; omega, by rw [← HX.out]; exact hx0⟩, fun _ => by omega⟩⟩, rfl⟩
    · obtain rfl : k = m := by omega
      go_wp2
      go_ret
      exact ⟨⟨-1, rfl, by omega, by omega, ⟨fun h => by omega, fun ⟨j, h1, h2⟩ => absurd (HZ.out j (by rw [HM.out] at h1; exact h1)) h2⟩⟩, rfl⟩
theorem contains_any (v : Value) (xs : List Nat) (hl : xs.length ≤ 140737488351232) (w : World) (hs : Sl w .u8 v xs) :
    Calls Try.prog 58 #[v, .func (.func 59) #[] #[]] w fun e w' => e = .returned (.bool (xs.any (· != 0))) ∧ w = w' := by
  have HI := Lib.hid (index_any v xs hl w hs)
  obtain ⟨a, c, b, off, rfl, -, -, -⟩ := hs.cell
  clear hs
  go_enter Try.func58, Try.ntmps58
  go_wp2_with fail
  refine HI.out.mono ?_
  rintro e w1 ⟨⟨r, rfl, hr1, hr2, hr3⟩, rfl⟩
  have HR := Lib.hid hr3; clear hr3
  go_wp2_with fail
  go_ret
  refine ⟨ret_bool ?_, rfl⟩
  rw [Bool.eq_iff_iff, decide_eq_true_iff, HR.out, List.any_eq_true]
  constructor
  · rintro ⟨j, h1, h2⟩
    refine ⟨xs[j], List.getElem_mem h1, ?_⟩
    rw [List.getElem?_eq_getElem h1] at h2
    simpa using h2
  · rintro ⟨x, h1, h2⟩
    obtain ⟨j, hj, rfl⟩ := List.getElem_of_mem h1
    exact ⟨j, hj, by rw [List.getElem?_eq_getElem hj]; simpa using h2⟩
set_option maxHeartbeats 1000000 in
theorem bytes_neg (v : Value) (l : List Nat) (many : Int) (h : many < 0) (_ : -9223372036854775808 ≤ many) (w : World) (hs : Sl w .u64 v l) :
    Calls Try.prog 51 #[v, .int .i64 many] w fun e w' => e = .returned (.tuple #[.slice none 0 0, .int .i64 2]) ∧ Below w.heap.size w w' := by
  obtain ⟨a, c, b, off, rfl, -, -, -⟩ := hs.cell
  clear hs
  go_enter Try.func51, Try.ntmps51
  go_wp2
  refine wp_scope_forward 0 rfl ?_
  go_wp2
  go_step3
  refine ⟨rfl, ?_⟩
  go_wp2
  rw [Exit.jump_ret]
  go_ret2
  exact ⟨rfl, Below.refl _ _⟩
set_option maxHeartbeats 1000000 in
theorem bytes_long1 (v : Value) (l : List Nat) (many : Int) (h : 4096 < many) (w : World) (hs : Sl w .u64 v l) :
    Calls Try.prog 51 #[v, .int .i64 many] w fun e w' => e = .returned (.tuple #[.slice none 0 0, .int .i64 3]) ∧ Below w.heap.size w w' := by
  obtain ⟨a, c, b, off, rfl, -, -, -⟩ := hs.cell
  clear hs
  go_enter Try.func51, Try.ntmps51
  go_wp2
  refine wp_scope_forward 0 rfl ?_
  go_wp2
  go_step3
  refine ⟨rfl, ?_⟩
  go_wp2
  rw [Exit.jump_ret]
  go_ret2
  exact ⟨rfl, Below.refl _ _⟩
set_option maxHeartbeats 1000000 in
theorem bytes_long2 (v : Value) (l : List Nat) (many : Int) (h0 : 0 ≤ many) (h : many ≤ 4096) (h2 : 4096 < l.length) (h3 : l.length ≤ 140737488351232) (w : World) (hs : Sl w .u64 v l) :
    Calls Try.prog 51 #[v, .int .i64 many] w fun e w' => e = .returned (.tuple #[.slice none 0 0, .int .i64 3]) ∧ Below w.heap.size w w' := by
  obtain ⟨a, c, b, off, rfl, -, -, -⟩ := hs.cell
  clear hs
  have h2' : (4096 : Int) < (l.length : Int) := by omega
  go_enter Try.func51, Try.ntmps51
  go_wp2
  refine wp_scope_forward 0 rfl ?_
  go_wp2
  go_step3
  refine ⟨rfl, ?_⟩
  go_wp2
  rw [Exit.jump_ret]
  go_ret2
  exact ⟨rfl, Below.refl _ _⟩
set_option maxHeartbeats 1000000 in
theorem bytes_range (v : Value) (l : List Nat) (many : Int) (h0 : 0 ≤ many) (h : many ≤ 4096) (h2 : l.length ≤ 4096) (h3 : 8 * (l.length : Int) < many) (w : World) (hs : Sl w .u64 v l) :
    Calls Try.prog 51 #[v, .int .i64 many] w fun e w' => e = .returned (.tuple #[.slice none 0 0, .int .i64 4]) ∧ Below w.heap.size w w' := by
  obtain ⟨a, c, b, off, rfl, -, -, -⟩ := hs.cell
  clear hs
  have h2' : (l.length : Int) ≤ 4096 := by omega
  go_enter Try.func51, Try.ntmps51
  go_wp2
  refine wp_scope_forward 0 rfl ?_
  go_wp2
  go_step3
  refine ⟨rfl, ?_⟩
  go_wp2
  rw [Exit.jump_ret]
  go_ret2
  exact ⟨rfl, Below.refl _ _⟩
set_option maxHeartbeats 1000000 in
theorem bytes_tail1 (v : Value) (l : List Nat) (many : Nat) (h : many ≤ 4096) (h2 : l.length ≤ 4096) (h3 : many ≤ 8 * l.length) (h4 : WM.need many < l.length) (w : World) (hs : Sl w .u64 v l) :
    Calls Try.prog 51 #[v, .int .i64 many] w fun e w' => e = .returned (.tuple #[.slice none 0 0, .int .i64 110]) ∧ Below w.heap.size w w' := by
  obtain ⟨a, c, b, off, rfl, -, -, -⟩ := hs.cell
  clear hs
  have k1 : (many : Int) ≤ 4096 := by omega
  have k2 : (l.length : Int) ≤ 4096 := by omega
  have k3 : (many : Int) ≤ 8 * (l.length : Int) := by omega
  have k4 : ((WM.need many : Nat) : Int) < (l.length : Int) := by omega
  go_enter Try.func51, Try.ntmps51
  go_wp2
  refine wp_scope_forward 0 rfl ?_
  go_wp2_with fail
  refine (need_any many h _).mono ?_
  rintro e w1 ⟨rfl, rfl⟩
  go_wp2_with fail
  go_step3
  refine ⟨rfl, ?_⟩
  go_wp2
  rw [Exit.jump_ret]
  go_ret2
  exact ⟨rfl, Below.refl _ _⟩
theorem drop_sl {W : World} {n₀ g cap n many : Nat} {l : List Nat} (hn : n = 8 * l.length) (hrow : W.ownsRow n₀ 5 1 (.slice (some ⟨g, 0, none⟩) n cap) n (splitVals l l.length)) (hm : many ≤ n) :
    Sl W .u8 (.slice (some ⟨g, if many = cap then 0 else many, none⟩) (n - many) (cap - many)) ((WM.bytesOf l).drop many) := by
  subst hn
  have hlen : ((WM.bytesOf l).drop many).length = 8 * l.length - many := by rw [List.length_drop, WM.bytesOf_length]
  have hcap : 8 * l.length ≤ cap := by
    rcases hrow.2 with ⟨h0, _⟩ | ⟨g', cap', cur, h0, _, _, hc, _⟩
    · cases h0
    · simp at h0; omega
  refine ⟨_, cap - many, by rw [hlen], by omega, fun h0 => ⟨g, many, ?_, ?_, fun j hj => ?_⟩⟩
  · rw [if_neg (by omega)]
  · exact (hrow.lt g rfl).2
  · rw [World.ownsRow.cellAt hrow (many + j) (by omega), splitVals_eq, List.getElem?_map, List.getElem?_range (by omega)]
    have e : ((WM.bytesOf l).drop many)[j]?.getD 0 = WM.byteAt l (many + j) := (WM.at_drop _ _ _).trans (WM.bytesOf_at l _ (by omega))
    rw [e]; rfl
theorem take_sl {W : World} {n₀ g cap n many c : Nat} {l : List Nat} (hn : n = 8 * l.length) (hrow : W.ownsRow n₀ 5 1 (.slice (some ⟨g, 0, none⟩) n cap) n (splitVals l l.length)) (hm : many ≤ n) (hc : many ≤ c) :
    Sl W .u8 (.slice (some ⟨g, 0, none⟩) many c) ((WM.bytesOf l).take many) := by
  subst hn
  have hlen : ((WM.bytesOf l).take many).length = many := by rw [List.length_take, WM.bytesOf_length]; omega
  refine ⟨_, c, by rw [hlen], by omega, fun h0 => ⟨g, 0, rfl, (hrow.lt g rfl).2, fun j hj => ?_⟩⟩
  rw [Nat.zero_add, World.ownsRow.cellAt hrow j (by omega), splitVals_eq, List.getElem?_map, List.getElem?_range (by omega)]
  have e : ((WM.bytesOf l).take many)[j]?.getD 0 = WM.byteAt l j := (WM.at_take _ _ _ (by omega)).trans (WM.bytesOf_at l _ (by omega))
  rw [e]; rfl
set_option maxHeartbeats 2000000 in
theorem bytes_rest (v : Value) (l : List Nat) (many : Nat) (h64 : Words64 l) (h : many ≤ 4096) (h2 : l.length ≤ 4096) (h3 : many ≤ 8 * l.length) (h4 : l.length ≤ WM.need many) (w : World) (hs : Sl w .u64 v l) :
    Calls Try.prog 51 #[v, .int .i64 many] w fun e w' => ((((WM.bytesOf l).drop many).any (· != 0) = true → e = .returned (.tuple #[.slice none 0 0, .int .i64 110])) ∧
      (((WM.bytesOf l).drop many).any (· != 0) = false → ∃ r, e = .returned (.tuple #[r, .int .i64 0]) ∧ Sl w' .u8 r ((WM.bytesOf l).take many))) ∧ Below w.heap.size w w' := by
  have HS := Lib.hid (split_any v l h2 h64 w hs)
  obtain ⟨a, c, b, off, rfl, -, -, -⟩ := hs.cell
  clear hs
  have k1 : (many : Int) ≤ 4096 := by omega
  have k2 : (l.length : Int) ≤ 4096 := by omega
  have k3 : (many : Int) ≤ 8 * (l.length : Int) := by omega
  have k4 : (l.length : Int) ≤ ((WM.need many : Nat) : Int) := by omega
  go_enter Try.func51, Try.ntmps51
  go_wp2
  refine wp_scope_forward 0 rfl ?_
  go_wp2_with fail
  refine (need_any many h _).mono ?_
  rintro e w1 ⟨rfl, rfl⟩
  go_wp2_with fail
  refine HS.out.mono ?_
  rintro e w2 ⟨g, cap, rfl, hrow, hb2⟩
  have hcap : 8 * l.length ≤ cap := by
    rcases hrow.2 with ⟨h0, _⟩ | ⟨g', cap', cur, h0, _, _, hc, _⟩
    · cases h0
    · simp at h0; omega
  have hsl := Lib.hid (drop_sl rfl hrow h3)
  have HR := Lib.hid hrow; clear hrow
  have k5 : (many : Int) ≤ ((8 * l.length : Nat) : Int) := by omega
  have k6 : ((8 * l.length : Nat) : Int) ≤ (cap : Int) := by omega
  have k7 : (many : Int) ≤ (cap : Int) := by omega
  by_cases hmc : many = cap
  · have HSL : Hid (Sl w2 .u8 (.slice (some ⟨g, 0, none⟩) 0 0) ((WM.bytesOf l).drop many)) := by
      have := hsl.out; rw [if_pos hmc, show 8 * l.length - many = 0 by omega, show cap - many = 0 by omega] at this; exact this
    clear hsl
    subst hmc
    go_wp2_with fail
    refine (contains_any _ _ (by rw [List.length_drop, WM.bytesOf_length]; omega) _ HSL.out).mono ?_
    rintro e w3 ⟨rfl, rfl⟩
    by_cases hany : ((WM.bytesOf l).drop many).any (· != 0) = true
    · have HA := Lib.hid hany
      rw [hany]
      clear hany
      go_wp2_with fail
      go_step3
      refine ⟨rfl, ?_⟩
      go_wp2
      rw [Exit.jump_ret]
      go_ret2
      exact ⟨⟨fun _ => rfl, fun hf => by rw [HA.out] at hf; cases hf⟩, hb2⟩
    · have hany' : ((WM.bytesOf l).drop many).any (· != 0) = false := by simpa using hany
      have HA := Lib.hid hany'
      rw [hany']
      clear hany hany'
      go_wp2_with fail
      rw [Exit.jump_ret]
      go_ret2
      exact ⟨⟨(fun hf => by rw [HA.out] at hf; cases hf), fun _ => ⟨_, rfl, take_sl rfl HR.out h3 (by omega)⟩⟩, hb2⟩
  · have hmc' : ¬ ((many : Nat) = cap) := hmc
    have HSL : Hid (Sl w2 .u8 (.slice (some ⟨g, many, none⟩) (8 * l.length - many) (cap - many)) ((WM.bytesOf l).drop many)) := by
      have := hsl.out; rw [if_neg hmc] at this; exact this
    clear hsl
    go_wp2_with fail
    refine (contains_any _ _ (by rw [List.length_drop, WM.bytesOf_length]; omega) _ HSL.out).mono ?_
    rintro e w3 ⟨rfl, rfl⟩
    by_cases hany : ((WM.bytesOf l).drop many).any (· != 0) = true
    · have HA := Lib.hid hany
      rw [hany]
      clear hany
      go_wp2_with fail
      go_step3
      refine ⟨rfl, ?_⟩
      go_wp2
      rw [Exit.jump_ret]
      go_ret2
      exact ⟨⟨fun _ => rfl, fun hf => by rw [HA.out] at hf; cases hf⟩, hb2⟩
    · have hany' : ((WM.bytesOf l).drop many).any (· != 0) = false := by simpa using hany
      have HA := Lib.hid hany'
      rw [hany']
      clear hany hany'
      go_wp2_with fail
      rw [Exit.jump_ret]
      go_ret2
      exact ⟨⟨(fun hf => by rw [HA.out] at hf; cases hf), fun _ => ⟨_, rfl, take_sl rfl HR.out h3 (by omega)⟩⟩, hb2⟩
end Go.Proofs.Ytmncoclmgcjjjaa

/-
  The chapter's rows (waterlinelaw01.works) come out true.
-/
namespace Go.Proofs.Ytmncoclmgcjjjaa
open Go.RowKit Go.Shelf
attribute [local go_sem] Oper.semAt_some

theorem row1 : WM.getN 4660 4 8 = 35 := by decide +kernel
theorem row2 : WM.putN 4660 4 8 255 = 8180 := by decide +kernel
def nine : List Nat := [1, 2, 3, 4, 5, 6, 7, 8, 9]
theorem nine256 : WM.Bytes256 nine := fun i => by
  rcases Nat.lt_or_ge i 9 with h | h
  · have : ∀ i, i < 9 → WM.at' nine i < 256 := by decide
    exact this i h
  · rw [WM.at_none nine i h]; decide
theorem row3 : WM.wordsOf nine = [578437695752307201, 9] := by decide +kernel
theorem row4 : ((WM.bytesOf [578437695752307201, 9]).drop 9).any (· != 0) = false := by decide +kernel
theorem row5 : (WM.bytesOf [578437695752307201, 9]).take 9 = nine := by decide +kernel
theorem row6 : ((WM.bytesOf [578437695752307201, 9]).drop 8).any (· != 0) = true := by decide +kernel
theorem row7 : WM.bitsOf 133 = [0, 2, 7] := by decide +kernel
theorem row8 : WM.okF 63 2 = false := by decide
theorem two64 : Words64 [578437695752307201, 9] := fun i => by
  match i with
  | 0 => decide
  | 1 => decide
  | n + 2 => simp
theorem nineSl (w : World) : Sl (w.alloc (.cells #[.int .u8 1, .int .u8 2, .int .u8 3, .int .u8 4, .int .u8 5, .int .u8 6, .int .u8 7, .int .u8 8, .int .u8 9] 5)) .u8 (.slice (some ⟨w.heap.size, 0, none⟩) 9 9) nine := by
  refine ⟨_, 9, rfl, by decide, fun _ => ⟨w.heap.size, 0, rfl, by simp, fun j hj => ?_⟩⟩
  have hj9 : j < 9 := hj
  have : j = 0 ∨ j = 1 ∨ j = 2 ∨ j = 3 ∨ j = 4 ∨ j = 5 ∨ j = 6 ∨ j = 7 ∨ j = 8 := by omega
  rcases this with rfl | rfl | rfl | rfl | rfl | rfl | rfl | rfl | rfl <;> simp [go_sem, nine]
/-- The bytes as a string. -/
def strOf (xs : List Nat) : ByteArray := strOfNums (xs.map Int.ofNat)
theorem conv_sl {W : World} {v : Value} {xs : List Nat} (h : Sl W .u8 v xs) : (convert 22 9 v).run Try.prog W = .ok (.string (strOf xs)) W := by
  obtain ⟨a, cap, b, off, rfl, hlc, ha, hc⟩ := h.cell
  rcases Nat.eq_zero_or_pos xs.length with h0 | h0
  · obtain rfl := List.eq_nil_of_length_eq_zero h0
    rcases a with _ | a
    · exact run_convert_bytes_nil W 22 5 Try.underlying22 Try.underlying5 _ _ 9 Try.underlying9
    · rw [run_convert_bytes_string W 22 9 5 _ _ cap Try.underlying22 Try.underlying5 Try.underlying9]
      rw [run_bytesToString W a _ cap [] (by simp [loadCells, loadCellsFrom])]
      rfl
  · obtain rfl := ha h0
    exact run_convert_bytes_arg W 22 5 Try.underlying22 Try.underlying5 b off xs.length cap (xs.map Int.ofNat) (by simp) (fun i hi => by
      rw [(hc h0).2 i hi]
      simp [List.getElem?_eq_getElem hi]) 9 Try.underlying9
/-- Digits, as the chapter's row folds them. -/
def dig (pre : List (Fin 64)) : Nat := pre.foldl (fun n x => 10 * n + x.1) 0
theorem dig_map (pre : List (Fin 64)) : dig pre = (pre.map (·.1)).foldl (fun n x => 10 * n + x) 0 := by simp [dig, List.foldl_map]
theorem dig_all (pre : List (Fin 64)) (h : pre.map (·.1) = WM.bitsOf 133) : dig pre = 27 := by rw [dig_map, h, row7]; decide
theorem dig_pre (pre : List (Fin 64)) (h : pre.map (·.1) <+: WM.bitsOf 133) : dig pre ≤ 27 := by
  rw [dig_map]
  rw [row7] at h
  generalize pre.map (·.1) = l at *
  obtain ⟨t, ht⟩ := h
  match l, ht with
  | [], _ => decide
  | [a], ht => simp at ht; obtain ⟨rfl, _⟩ := ht; decide
  | [a, b], ht => simp at ht; obtain ⟨rfl, rfl, _⟩ := ht; decide
  | [a, b, c], ht => simp at ht; obtain ⟨rfl, rfl, rfl, _⟩ := ht; decide
  | a :: b :: c :: d :: l, ht => simp at ht
theorem dig_snoc (pre : List (Fin 64)) (x : Fin 64) : dig (pre ++ [x]) = 10 * dig pre + x.1 := by simp [dig]
theorem twoSl (w : World) : Sl (w.alloc (.cells #[.int .u64 578437695752307201, .int .u64 9] 42)) .u64 (.slice (some ⟨w.heap.size, 0, none⟩) 2 2) [578437695752307201, 9] := by
  refine ⟨_, 2, rfl, by decide, fun _ => ⟨w.heap.size, 0, rfl, by simp, fun j hj => ?_⟩⟩
  have hj9 : j < 2 := hj
  have : j = 0 ∨ j = 1 := by omega
  rcases this with rfl | rfl <;> simp [go_sem]
end Go.Proofs.Ytmncoclmgcjjjaa

/-
  file: bytes in memory: made, copied, cut; a file under way.
-/
namespace Go.Proofs.Ytmncoclmgcjjjaa
open Go.RowKit Go.Shelf

/-- Bytes, as cells. -/
def byA (l : List Nat) : Array Value := (valsOf .u8 l).toArray
theorem byA_size (l : List Nat) : (byA l).size = l.length := by simp [byA, valsOf]
theorem byA_at (l : List Nat) (j : Nat) (h : j < l.length) : (byA l)[j]? = some (.int .u8 ((l[j]?.getD 0 : Nat) : Int)) := by
  simp [byA, valsOf, List.getElem?_eq_getElem h]
theorem byA_zero (n : Nat) : madeCells (Value.int .u8 0).cells (n * 1) = byA (List.replicate n 0) := by
  apply Array.ext
  · simp [madeCells, byA, valsOf]
  · intro i h1 h2
    simp [madeCells, byA, valsOf, Value.cells, Nat.mod_one]
theorem make_bytes (t : TypeId) (ht : Try.prog.underlying t = some (.slice 5)) (n : Nat) (hn : n ≤ 1000000) (W : World) :
    (Instr.makeSlice t (.int .i64 (n : Nat)) (.int .i64 (n : Nat))).run Try.prog W = .ok (.slice (some ⟨W.heap.size, 0, none⟩) n n) (W.alloc (.cells (byA (List.replicate n 0)) 5)) := by
  obtain ⟨i0, hi, hz0, hz1, hz2⟩ := info_parts infoU8
  have h := run_makeSlice (P := Try.prog) (w := W) t 5 i0 (.int .u8 0) ht hi hz0 .i64 .i64 (n : Int) (n : Int) (by omega) (Int.le_refl _) (by rw [hz1]; simp; omega) (by rw [hz2]; simp; omega) (by omega)
  rw [hz1] at h
  simp only [Int.toNat_natCast] at h
  rw [byA_zero] at h
  exact h
/-- Bytes of which some give way to others. -/
def spliceN (ys : List Nat) (o : Nat) (zs : List Nat) : List Nat := ys.take o ++ zs ++ ys.drop (o + zs.length)
theorem byA_splice (ys : List Nat) (o : Nat) (zs : List Nat) : ((byA ys).toList.take o ++ valsOf .u8 zs ++ (byA ys).toList.drop (o + (valsOf .u8 zs).length)).toArray = byA (spliceN ys o zs) := by
  unfold byA spliceN
  rw [valsOf_length]
  simp [valsOf, List.map_take, List.map_drop]
theorem Blk.setRow {W : World} {b : Nat} {t : TypeId} {X : Array Value} (h : Blk W b t X) (Y : Array Value) : Blk (W.setRow b Y) b t Y ∧ Turn (fun k => k = b) W (W.setRow b Y) := by
  refine ⟨setRow_heap W b _ _ _ _ h, ?_⟩
  have hb := below_setRow (B := b) (Below.refl b W) (Nat.le_refl _) Y
  exact ⟨hb.os, hb.tape, hb.output, hb.size, fun k _ hn => setRow_other W b k Y hn⟩
theorem copy_bytes (dT sT ty : TypeId) (hd : Try.prog.underlying dT = some (.slice 5)) {W : World} {g o dl dc : Nat} {ys xs : List Nat} {v : Value} (h : Blk W g 5 (byA ys)) (ho : o + dl ≤ ys.length) (hs : Sl W .u8 v xs) :
    (Builtin.copy_ #[dT, sT] ty #[.slice (some ⟨g, o, none⟩) dl dc, v]).run Try.prog W = .ok (goInt (xs.take dl).length) (W.setRow g (byA (spliceN ys o (xs.take dl)))) := by
  obtain ⟨i0, hi, hz0, hz1, hz2⟩ := info_parts infoU8
  obtain ⟨a, cap, rfl, hlc, hc⟩ := hs
  rcases a with _ | ad
  · have h0 : xs = [] := by
      rcases Nat.eq_zero_or_pos xs.length with h | h
      · exact List.eq_nil_of_length_eq_zero h
      · obtain ⟨b, off, hh, _⟩ := hc h
        cases hh
    subst h0
    have e : W.setRow g (byA (spliceN ys o (([] : List Nat).take dl))) = W := by
      have : byA (spliceN ys o (([] : List Nat).take dl)) = byA ys := by simp [spliceN]
      rw [this]
      exact setRow_self W g _ _ _ h
    rw [e]
    simp [Builtin.copy_, run_underlying hd, Builtin.lenOf, Builtin.firstCells, sizeOf, typeInfo, hi, storeCells]
  · have hr := run_copy_row (P := Try.prog) W dT sT ty 5 g o dl dc ad xs.length cap (byA ys) 5 (valsOf .u8 (xs.take dl)) hd (by rw [hi]; simp [hz1]) h
      (by rw [valsOf_length, List.length_take]; exact Nat.min_comm _ _) (fun j u hj => by
        have hl : j < (xs.take dl).length := by
          have := (List.getElem?_eq_some_iff.1 hj).1
          rwa [valsOf_length] at this
        have hl2 : j < xs.length := by rw [List.length_take] at hl; omega
        obtain ⟨b, off, hh, _, hcell⟩ := hc (by omega)
        simp only [Option.some.injEq] at hh
        subst hh
        have e1 : (⟨b, off, none⟩ : Addr).add j = ⟨b, off + j, none⟩ := by unfold Addr.add; split <;> simp_all
        rw [e1, hcell j hl2, ← hj]
        simp [valsOf, List.getElem?_take_of_lt (show j < dl by rw [List.length_take] at hl; omega), hl2])
      (by rw [valsOf_length, byA_size, List.length_take]; omega) (valsOf_one _ _)
    rw [hr, byA_splice, valsOf_length]
theorem blk_sl {W : World} {g : Nat} {ys : List Nat} (h : Blk W g 5 (byA ys)) (o n cap : Nat) (hn : o + n ≤ ys.length) (hc : n ≤ cap) : Sl W .u8 (.slice (some ⟨g, o, none⟩) n cap) ((ys.drop o).take n) := by
  have hlen : ((ys.drop o).take n).length = n := by rw [List.length_take, List.length_drop]; omega
  refine ⟨_, cap, by rw [hlen], by omega, fun _ => ⟨g, o, rfl, h.lt, fun j hj => ?_⟩⟩
  rw [hlen] at hj
  rw [h.cell (byA_at ys (o + j) (by omega)), List.getElem?_take_of_lt hj, List.getElem?_drop]
theorem blk_sl_all {W : World} {g : Nat} {ys : List Nat} (h : Blk W g 5 (byA ys)) : Sl W .u8 (.slice (some ⟨g, 0, none⟩) ys.length ys.length) ys := by
  have := blk_sl h 0 ys.length ys.length (by omega) (Nat.le_refl _)
  rwa [List.drop_zero, List.take_length] at this
/-- A slice of bytes, as a file's. -/
structure FB (W : World) (v : Value) (xs : List Nat) : Prop where
  sl : Sl W .u8 v xs
  all : WM.Bytes256 xs
  cap : ∀ a n c, v = .slice a n c → c ≤ 9223372036854775807
theorem FB.below {W W' : World} {v : Value} {xs : List Nat} (h : FB W v xs) (hb : Below W.heap.size W W') : FB W' v xs := ⟨h.sl.below hb, h.all, h.cap⟩
theorem FB.form {W : World} {v : Value} {xs : List Nat} (h : FB W v xs) : ∃ a c, v = .slice a xs.length c ∧ xs.length ≤ c ∧ c ≤ 9223372036854775807 := by
  obtain ⟨a, c, hv, hl, -⟩ := h.sl
  exact ⟨a, c, hv, hl, h.cap _ _ _ hv⟩
/-- What turns in a block of slices leaves bytes. -/
theorem Sl.slices {W W' : World} {k : IntKind} {v : Value} {xs : List Nat} {B : Nat} {t : TypeId} {a a' : Option Addr} {n c n' c' : Nat} (h : Sl W k v xs) (hB : Blk W B t #[.slice a n c, .slice a' n' c']) (ht : Turn (fun k => k = B) W W') : Sl W' k v xs := by
  obtain ⟨ad, cap, hv, hl, hc⟩ := h
  refine ⟨ad, cap, hv, hl, fun h0 => ?_⟩
  obtain ⟨b, off, ha, hlt, hj⟩ := hc h0
  have hne : b ≠ B := fun e => by
    subst e
    have h1 := hj 0 h0
    rw [cell_of_row W b (off + 0) _ t _ hB] at h1
    rcases off with _ | _ | off <;> simp at h1
  exact ⟨b, off, ha, Nat.lt_of_lt_of_le hlt ht.size, fun j hjl => (World.cell?_of_block (a := ⟨b, off + j, none⟩) (ht.block b hlt hne)).trans (hj j hjl)⟩
theorem FB.slices {W W' : World} {v : Value} {xs : List Nat} {B : Nat} {t : TypeId} {a a' : Option Addr} {n c n' c' : Nat} (h : FB W v xs) (hB : Blk W B t #[.slice a n c, .slice a' n' c']) (ht : Turn (fun k => k = B) W W') : FB W' v xs := ⟨h.sl.slices hB ht, h.all, h.cap⟩
theorem nil_sl (W : World) (k : IntKind) : Sl W k (.slice none 0 0) [] := ⟨none, 0, rfl, Nat.le_refl _, fun h => absurd h (by simp)⟩
theorem nil_256 : WM.Bytes256 [] := fun i => by rw [WM.at_none [] i (by simp)]; decide
theorem nil_fb (W : World) : FB W (.slice none 0 0) [] := ⟨nil_sl W _, nil_256, fun a n c e => by cases e; omega⟩
/-- A file of a size. -/
def cutF (xs : List Nat) (n : Nat) : List Nat := xs.take n ++ List.replicate (n - xs.length) 0
theorem cutF_length (xs : List Nat) (n : Nat) : (cutF xs n).length = n := by simp [cutF]; omega
theorem cutF_splice (xs : List Nat) (n : Nat) : spliceN (List.replicate n 0) 0 (xs.take n) = cutF xs n := by
  simp [spliceN, cutF]
  omega
theorem bytes256_app {a b : List Nat} (ha : WM.Bytes256 a) (hb : WM.Bytes256 b) : WM.Bytes256 (a ++ b) := fun i => by
  have h1 := ha i
  have h2 := hb (i - a.length)
  unfold WM.at' at *
  by_cases h : i < a.length
  · rw [List.getElem?_append_left h]; exact h1
  · rw [List.getElem?_append_right (by omega)]; exact h2
theorem bytes256_take {a : List Nat} (ha : WM.Bytes256 a) (n : Nat) : WM.Bytes256 (a.take n) := fun i => by
  have h1 := ha i
  unfold WM.at' at *
  rw [List.getElem?_take]
  split
  · exact h1
  · decide
theorem bytes256_drop {a : List Nat} (ha : WM.Bytes256 a) (n : Nat) : WM.Bytes256 (a.drop n) := fun i => by
  have h1 := ha (n + i)
  unfold WM.at' at *
  rw [List.getElem?_drop]
  exact h1
theorem bytes256_zero (n : Nat) : WM.Bytes256 (List.replicate n 0) := fun i => by
  unfold WM.at'
  rw [List.getElem?_replicate]
  split <;> decide
theorem cutF_256 {xs : List Nat} (h : WM.Bytes256 xs) (n : Nat) : WM.Bytes256 (cutF xs n) := bytes256_app (bytes256_take h n) (bytes256_zero _)
end Go.Proofs.Ytmncoclmgcjjjaa

/-
  A region that draws its order: what reads no world at all comes first, whether the operation that waits for others waits for it or not.
-/
namespace Go.Proofs.Ytmncoclmgcjjjaa
open Go.RowKit Go.Shelf

section
variable {P : Program} {md : Region.Mode} {ops : Array Oper} {Q : Exit → Act → World → Prop} {m : Nat} {R : World → Prop}
theorem wpAnyM_firstP {i : Nat} {oi : Oper} {v : Value} (hi : ops[i]? = some oi) (hsel : ∀ (j : Nat) (o : Oper) cs b, ops[j]? = some o → o.op ≠ .select cs b)
    (hQ : ∀ c a w, Q (.panic c) (a.put oi.dst v) w → Q (.panic c) a w) (hmi : m ≠ i) : ∀ (f : Nat) (l : Array Bool) (a : Act) (w : World),
      (∀ j oj, ops[j]? = some oj → j ≠ i → l.getD j true = false → (∀ e ∈ oj.after, Region.binds md e = true → e.on ≠ i) → oi.apart ops oj = true) →
      i ∈ Region.ready md ops l → Yields P ops oi v a → Till m R l w →
      wpAnyM P md ops Q m R f (l.setIfInBounds i true) (a.put oi.dst v) w → wpAnyM P md ops Q m R (f + 1) l a w
  | f, l, a, w, hfree, hr, hy, hT, H => by
    have hil := (mem_ready.1 hr).1
    refine ⟨fun h => (by rw [h] at hr; cases hr), fun j hj => ?_⟩
    by_cases hji : j = i
    · subst hji
      exact hy.wpOp hi ⟨hT.set _, H⟩
    · have hrj := ready_mono hj hji
      cases f with
      | zero =>
        have h0 := H.1
        rw [h0] at hrj
        cases hrj
      | succ f =>
        obtain ⟨hjun, oj, hoj, -⟩ := mem_ready.1 hj
        have hnot := unlisted_not hj hoj hil
        have h2 := wpOp_put hoj (hfree j oj hoj hji hjun hnot) (fun cs b => hsel i oi cs b hi) (fun cs b => hsel j oj cs b hoj) hQ hy (H.2 j hrj)
        refine wpOp_mono (fun a' w' h3 => ?_) h2
        obtain ⟨hya, hTa, hMa⟩ := h3
        have hT2 : Till m R (l.setIfInBounds j true) w' := fun hl => hTa (by
          rw [Array.setIfInBounds_comm _ _ (Ne.symm hji), getD_set_ne true (Ne.symm hmi)]
          exact hl)
        refine ⟨hT2, wpAnyM_firstP hi hsel hQ hmi f (l.setIfInBounds j true) a' w' (fun k ok hk hki hku hno => ?_) (ready_mono hr (Ne.symm hji)) hya hT2 ?_⟩
        · exact hfree k ok hk hki (getD_set_true hku) hno
        · rw [Array.setIfInBounds_comm _ _ hji]; exact hMa
/-- Number i, which reads no world, comes first. -/
theorem wpAnyM_pure {i : Nat} {oi : Oper} {v : Value} {f : Nat} {l : Array Bool} {a : Act} {w : World} (hi : ops[i]? = some oi) (hs : Region.noSelect ops = true)
    (hc : (Region.free md ops l i && (Region.ready md ops l).contains i && (m != i)) = true)
    (hQ : ∀ c a w, Q (.panic c) (a.put oi.dst v) w → Q (.panic c) a w) (hy : Yields P ops oi v a) (hw : R w)
    (h : wpAnyM P md ops Q m R f (l.setIfInBounds i true) (a.put oi.dst v) w) : wpAnyM P md ops Q m R (f + 1) l a w := by
  simp only [Bool.and_eq_true, bne_iff_ne, ne_eq] at hc
  obtain ⟨⟨h1, h2⟩, h3⟩ := hc
  exact wpAnyM_firstP hi (Region.noSelect_spec hs) hQ h3 f l a w (Region.free_spec hi h1) (by simpa using h2) hy (fun _ => hw) h
/-- Of two that are ready either may come (inside a fence). -/
theorem wpAnyN_two {Fc : Fence} {n : Nat} {i j : Nat} {oi oj : Oper} {f : Nat} {l : Array Bool} {a : Act} {w : World} (hi : ops[i]? = some oi) (hj : ops[j]? = some oj) (hr : Region.ready md ops l = [i, j])
    (hgi : Region.wanted oi (yielded ops a.tmps) = true) (hgj : Region.wanted oj (yielded ops a.tmps) = true)
    (h : ∀ K : Act → World → Prop, (∀ a' w', ((l.setIfInBounds i true).getD m true = false → R w') → wpAnyN Fc n P md ops Q m R f (l.setIfInBounds i true) a' w' → K a' w') → Oper.wpIn Fc n P oi a w K Q)
    (h' : ∀ K : Act → World → Prop, (∀ a' w', ((l.setIfInBounds j true).getD m true = false → R w') → wpAnyN Fc n P md ops Q m R f (l.setIfInBounds j true) a' w' → K a' w') → Oper.wpIn Fc n P oj a w K Q) : wpAnyN Fc n P md ops Q m R (f + 1) l a w := by
  refine ⟨fun h0 => (by rw [h0] at hr; cases hr), fun k hk => ?_⟩
  rw [hr] at hk
  rcases (by simpa using hk : k = i ∨ k = j) with rfl | rfl
  · unfold wpOpIn
    simp only [hi]
    rw [if_pos hgi]
    exact h _ fun a' w' h1 h2 => ⟨h1, h2⟩
  · unfold wpOpIn
    simp only [hj]
    rw [if_pos hgj]
    exact h' _ fun a' w' h1 h2 => ⟨h1, h2⟩
end
end Go.Proofs.Ytmncoclmgcjjjaa

/-
  file: isBig, end, part.
-/
namespace Go.Proofs.Ytmncoclmgcjjjaa
open Go.RowKit Go.Shelf
attribute [local go_sem] Oper.semAt_some

theorem isBig_any (a : Option Addr) (n c : Nat) (w : World) : Calls Try.prog 30 #[.slice a n c] w fun e w' => e = .returned (.bool (decide (448 < (n : Int)))) ∧ w = w' := by
  go_enter Try.func30, Try.ntmps30
  go_wp2
  go_ret
  exact ⟨rfl, rfl⟩
/-- A file under way in block B: what it is, and what is to be written. -/
structure Fil (W : World) (B : Nat) (v u : Value) (xs ds : List Nat) : Prop where
  blk : Blk W B 61 #[v, u]
  c : FB W v xs
  d : FB W u ds
theorem Fil.below {W W' : World} {B : Nat} {v u : Value} {xs ds : List Nat} (h : Fil W B v u xs ds) (hb : Below W.heap.size W W') : Fil W' B v u xs ds := ⟨h.blk.below hb h.blk.lt, h.c.below hb, h.d.below hb⟩
theorem Fil.cells {W : World} {B : Nat} {v u : Value} {xs ds : List Nat} (h : Fil W B v u xs ds) : W.cell? ⟨B, 0, none⟩ = some v ∧ W.cell? ⟨B, 1, none⟩ = some u ∧ W.frozen? ⟨B, 0, none⟩ = false ∧ W.frozen? ⟨B, 1, none⟩ = false := ⟨h.blk.cell rfl, h.blk.cell rfl, h.blk.frozen _, h.blk.frozen _⟩
theorem fil_new (W : World) {v u : Value} {xs ds : List Nat} (hc : FB W v xs) (hd : FB W u ds) : Fil (W.alloc (.cells #[v, u] 61)) W.heap.size v u xs ds :=
  ⟨Blk.new _ _ _, hc.below ((Below.refl _ _).alloc (Nat.le_refl _) _), hd.below ((Below.refl _ _).alloc (Nat.le_refl _) _)⟩
/-- A file whose content gives way. -/
theorem Fil.put {W W' : World} {B : Nat} {v u v' : Value} {xs ds ys : List Nat} (h : Fil W B v u xs ds) (hc : FB W v' ys) (hW : W.setCell ⟨B, 0, none⟩ v' = W') : Fil W' B v' u ys ds ∧ Turn (fun k => k = B) W W' := by
  subst hW
  obtain ⟨a, c, rfl, -⟩ := h.c.form
  obtain ⟨a', c', rfl, -⟩ := h.d.form
  have ht : Turn (fun k => k = B) W (W.setCell ⟨B, 0, none⟩ v') := Turn.setCell W v' rfl
  exact ⟨⟨h.blk.set 0 v', hc.slices h.blk ht, h.d.slices h.blk ht⟩, ht⟩
set_option maxHeartbeats 1000000 in
theorem end_any {B : Nat} {v u : Value} {xs ds : List Nat} (n : Nat) (hn : n ≤ 100000) (w : World) (h : Fil w B v u xs ds) :
    Calls Try.prog 29 #[.pointer (some ⟨B, 0, none⟩), .int .i64 n] w fun e w' => (∃ r, e = .returned r) ∧ Fil w' B (.slice (some ⟨w.heap.size, 0, none⟩) n n) u (cutF xs n) ds ∧ Blk w' w.heap.size 5 (byA (cutF xs n)) ∧ Turn (fun k => k = B) w w' := by
  have HM := Lib.hid (make_bytes 59 Try.underlying59 n (by omega) w)
  obtain ⟨W1, hW1⟩ : ∃ W1, w.alloc (.cells (byA (List.replicate n 0)) 5) = W1 := ⟨_, rfl⟩
  have hb1 : Below w.heap.size w W1 := by rw [← hW1]; exact (Below.refl _ _).alloc (Nat.le_refl _) _
  have hx1 : Blk W1 w.heap.size 5 (byA (List.replicate n 0)) := by rw [← hW1]; exact Blk.new _ _ _
  have h1 := h.below hb1
  have hcp := fun ty => copy_bytes 59 59 ty Try.underlying59 (o := 0) (dl := n) (dc := n) hx1 (by simp) h1.c.sl
  rw [cutF_splice] at hcp
  obtain ⟨hx2, ht2⟩ := hx1.setRow (byA (cutF xs n))
  obtain ⟨W2, hW2⟩ : ∃ W2, W1.setRow w.heap.size (byA (cutF xs n)) = W2 := ⟨_, rfl⟩
  rw [hW2] at hx2 ht2 hcp
  have hb2 : Below w.heap.size w W2 := hb1.trans (ht2.below (B := w.heap.size) (fun k hk => by omega) hb1.size)
  have h2 := h.below hb2
  have hne : B ≠ w.heap.size := by have := h.blk.lt; omega
  have hcut := blk_sl_all hx2
  rw [cutF_length] at hcut
  obtain ⟨W3, hW3⟩ : ∃ W3, W2.setCell ⟨B, 0, none⟩ (.slice (some ⟨w.heap.size, 0, none⟩) n n) = W3 := ⟨_, rfl⟩
  obtain ⟨h3, ht3⟩ := h2.put ⟨hcut, cutF_256 h.c.all n, fun a n' c e => by cases e; omega⟩ hW3
  have HFIN : Hid (Fil W3 B (.slice (some ⟨w.heap.size, 0, none⟩) n n) u (cutF xs n) ds ∧ Blk W3 w.heap.size 5 (byA (cutF xs n)) ∧ Turn (fun k => k = B) w W3) :=
    show _ ∧ _ from ⟨h3, hx2.turn ht3 (fun e => hne e.symm), (Turn.of_below hb2 (Nat.le_refl _)).trans ht3⟩
  obtain ⟨c0, -⟩ := h1.cells
  obtain ⟨d0, -, d1, -⟩ := h2.cells
  have hm := HM.out
  rw [hW1] at hm
  have HW3 := Lib.hid hW3
  clear hW1 hW2 hW3 h h1 h2 h3 ht3 hcut hx1 hx2 ht2 hb1 hb2 HM
  go_enter Try.func29, Try.ntmps29
  go_wp2_with fail
  rw [HW3.out]
  go_end0
  exact ⟨⟨_, rfl⟩, HFIN.out⟩
theorem read_length (xs : List Nat) (p m : Nat) : ((xs.drop p).take m).length = min m (xs.length - p) := by rw [List.length_take, List.length_drop]
set_option maxHeartbeats 1000000 in
theorem part_any {v : Value} {xs : List Nat} (p m : Int) (hp : 0 ≤ p) (hm0 : 0 ≤ m) (hx : xs.length ≤ 100000) (w : World) (h : FB w v xs) :
    Calls Try.prog 31 #[v, .int .i64 p, .int .i64 m] w fun e w' => ∃ r, e = .returned r ∧ FB w' r ((xs.drop p.toNat).take m.toNat) ∧ Below w.heap.size w w' := by
  obtain ⟨a, c, rfl, hl, hc⟩ := h.form
  obtain ⟨q, hq⟩ : ∃ q : Nat, q = min p.toNat xs.length := ⟨_, rfl⟩
  have hq1 : q ≤ xs.length := by omega
  have hdr : xs.drop p.toNat = xs.drop q := by
    rcases Nat.le_total p.toNat xs.length with h | h
    · rw [hq, Nat.min_eq_left h]
    · rw [hq, Nat.min_eq_right h, List.drop_of_length_le h, List.drop_of_length_le (Nat.le_refl _)]
  obtain ⟨i0, hi, hz0, hz1, hz2⟩ := info_parts infoU8
  obtain ⟨r, hr, hrs⟩ := cut_from (P := Try.prog) (t := 59) Try.underlying59 hi hz1 h.sl q hq1
  have hrs0 := hrs w h.sl
  obtain ⟨a2, c2, hr2, hlc2, -⟩ := id hrs0
  subst hr2
  have hlen : (xs.drop q).length = xs.length - q := by rw [List.length_drop]
  obtain ⟨k, hk⟩ : ∃ k : Nat, k = min m.toNat (xs.length - q) := ⟨_, rfl⟩
  have hmk := make_bytes 22 Try.underlying22 k (by omega) w
  obtain ⟨W1, hW1⟩ : ∃ W1, w.alloc (.cells (byA (List.replicate k 0)) 5) = W1 := ⟨_, rfl⟩
  rw [hW1] at hmk
  have hb1 : Below w.heap.size w W1 := by rw [← hW1]; exact (Below.refl _ _).alloc (Nat.le_refl _) _
  have hx1 : Blk W1 w.heap.size 5 (byA (List.replicate k 0)) := by rw [← hW1]; exact Blk.new _ _ _
  have hcp := fun ty => copy_bytes 22 59 ty Try.underlying22 (o := 0) (dl := k) (dc := k) hx1 (by simp) (hrs0.below hb1)
  have hcut : cutF (xs.drop q) k = (xs.drop p.toNat).take m.toNat := by
    rw [hdr]
    unfold cutF
    rw [show k - (xs.drop q).length = 0 by rw [hlen]; omega, List.replicate_zero, List.append_nil, hk]
    rcases Nat.le_total m.toNat (xs.length - q) with h | h
    · rw [Nat.min_eq_left h]
    · rw [Nat.min_eq_right h, List.take_of_length_le (by rw [hlen]; omega), List.take_of_length_le (by rw [hlen]; omega)]
  rw [cutF_splice, hcut] at hcp
  obtain ⟨hx2, ht2⟩ := hx1.setRow (byA ((xs.drop p.toNat).take m.toNat))
  obtain ⟨W2, hW2⟩ : ∃ W2, W1.setRow w.heap.size (byA ((xs.drop p.toNat).take m.toNat)) = W2 := ⟨_, rfl⟩
  rw [hW2] at hx2 ht2 hcp
  have HB2 : Hid (Below w.heap.size w W2) := show Below _ _ _ from hb1.trans (ht2.below (B := w.heap.size) (fun k hk => by omega) hb1.size)
  have hsl := blk_sl_all hx2
  have hln : ((xs.drop p.toNat).take m.toNat).length = k := by rw [← hcut, cutF_length]
  rw [hln] at hsl
  have HFB : Hid (FB W2 (.slice (some ⟨w.heap.size, 0, none⟩) k k) ((xs.drop p.toNat).take m.toNat)) := show FB _ _ _ from ⟨hsl, bytes256_take (bytes256_drop h.all _) _, fun a n' c e => by cases e; omega⟩
  have hmin1 : (if (xs.length : Int) < p then (xs.length : Int) else p) = (q : Int) := by split <;> omega
  have hmin2 : (if ((xs.drop q).length : Int) < m then ((xs.drop q).length : Int) else m) = (k : Int) := by rw [hlen]; split <;> omega
  obtain ⟨n1, hn1⟩ : ∃ n1, xs.length = n1 := ⟨_, rfl⟩
  obtain ⟨n2, hn2⟩ : ∃ n2, (xs.drop q).length = n2 := ⟨_, rfl⟩
  rw [hn1] at hmin1 hl hq1 hr
  rw [hn2] at hmin2 hcp hlc2 hr
  have hn12 : n2 = n1 - q := by rw [← hn2, hlen, hn1]
  have hk2 : k ≤ n2 := by rw [← hn2, hlen]; omega
  rw [hn1]
  have HN12 := Lib.hid hn12
  clear hn1 hn2 hlen hn12
  clear hk hq hx hln
  clear hW1 hW2 hx1 hx2 ht2 hb1 hsl h hrs hrs0 hcut hdr
  go_enter Try.func31, Try.ntmps31
  go_wp2_with fail
  go_ret
  exact ⟨_, rfl, HFB.out, HB2.out⟩
end Go.Proofs.Ytmncoclmgcjjjaa
