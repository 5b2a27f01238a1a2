/-
  Contracts of word's split (words into bytes) and of slices.ContainsFunc at its predicate.
-/
import Derived.Test.YtoaloeipgadkjaaWordS
namespace Go.Proofs.Ytoaloeipgadkjaa
open Go.RowKit Go.Shelf

theorem infoU8 : (Try.prog.info? 5).map (fun i => (i.zero, i.size, i.bytes)) = some (some (.int .u8 0), 1, 1) := by kernel_rfl
theorem byte_div (x k : Nat) : (((x / 2 ^ (8 * k) : Nat)) : Int) % 256 = (WM.getN x (8 * k) 8 : Nat) := by
  unfold WM.getN
  rw [Int.natCast_emod]; rfl
theorem div_next (x k : Nat) : ((x / 2 ^ (8 * k) : Nat) : Int) / 256 = ((x / 2 ^ (8 * (k + 1)) : Nat) : Int) := by
  have : x / 2 ^ (8 * (k + 1)) = x / 2 ^ (8 * k) / 256 := by
    rw [Nat.div_div_eq_div_mul]; congr 1
    rw [show 8 * (k + 1) = 8 * k + 8 by omega, Nat.pow_add]
  rw [this]; omega
/-- The bytes of a word, as values. -/
def byteVals (x : Nat) (k : Nat) : List Value := (List.range k).map fun j => Value.int .u8 (WM.getN x (8 * j) 8 : Nat)
theorem byteVals_succ (x k : Nat) : byteVals x (k + 1) = byteVals x k ++ [.int .u8 (WM.getN x (8 * k) 8 : Nat)] := by unfold byteVals; rw [List.range_succ, List.map_append]; rfl
set_option maxRecDepth 100000 in
set_option maxHeartbeats 4000000 in
theorem split1_any (x m n₀ : Nat) (g cap : Nat) (ys : List Value) (hx : x < 18446744073709551616) (hm : m ≤ 32768) (w : World) (hn : n₀ ≤ w.heap.size) (hown : w.ownsRow n₀ 5 1 (.slice (some ⟨g, 0, none⟩) m cap) m ys) :
    Calls Try.prog 61 #[.slice (some ⟨g, 0, none⟩) m cap, .int .u64 x] w fun e w' => ∃ g' cap', e = .returned (.slice (some ⟨g', 0, none⟩) (m + 8) cap') ∧ w'.ownsRow n₀ 5 1 (.slice (some ⟨g', 0, none⟩) (m + 8) cap') (m + 8) (ys ++ byteVals x 8) ∧ Below n₀ w w' := by
  obtain ⟨i0, hi, hz0, hz1, hz2⟩ := info_parts infoU8
  go_enter Try.func61, Try.ntmps61
  go_wp2
  go_loopw [0, 1, 5] (fun v y i wr => ∃ (k g' cap' : Nat), k ≤ 8 ∧ i = .int .i64 k ∧ y = .int .u64 ((x / 2 ^ (8 * k) : Nat)) ∧ v = .slice (some ⟨g', 0, none⟩) (m + k) cap' ∧ wr.ownsRow n₀ 5 1 (.slice (some ⟨g', 0, none⟩) (m + k) cap') (m + k) (ys ++ byteVals x k) ∧ Below n₀ w wr) (fun _ _ i _ => 8 - (intOf i).toNat)
  case atStart => exact ⟨0, g, cap, by omega, rfl, by simp, rfl, by simpa [byteVals] using hown, Below.refl _ _⟩
  case round =>
    obtain ⟨k, g', cap', hk, rfl, rfl, rfl, hrow, hb⟩ := hrel
    have z := hb.size
    by_cases hlt : k < 8
    · have HB := Lib.hid (byte_div x k)
      have HD := Lib.hid (div_next x k)
      have HS := Lib.hid (byteVals_succ x k)
      have hyb : x / 2 ^ (8 * k) < 18446744073709551616 := Nat.lt_of_le_of_lt (Nat.div_le_self _ _) hx
      generalize hye : x / 2 ^ (8 * k) = y at *
      go_wp2_with (at_builtin; refine wpList_append_own _ rfl _ _ 58 rfl n₀ 5 i0 (.int .u8 0) 1 1 Try.underlying58 hi hz0 hz1 hz2 rfl (by decide) (.slice (some ⟨g', 0, none⟩) (m + k) cap') _ _ rfl (hrow.alloc _) ⟨wr.heap.size, 0, none⟩ 1 1 [.int .u8 ((y : Int) % 256)] rfl rfl (cell_one_new _ _ _) (by simp [Value.oneCell']) (by unfold maxLen; omega) (by omega) (by simp; omega) ?_; intro v' w1 hown' hgrow _)
      have hg0 := hrow.lt g' rfl
      go_roundw
      case rel =>
        obtain ⟨g2, cap2, rfl⟩ := ownsRow_succ hown'
        refine ⟨k + 1, g2, cap2, by omega, by go_num, by rw [HD.out], rfl, ?_, ?_⟩
        · rw [HS.out, ← HB.out, ← List.append_assoc]; exact hown'
        · exact (hb.alloc (by omega) _).grown hgrow (by simp; omega) (fun j e => by simp [Value.ownBlock] at e; omega)
      case measure => simp [intOf]; omega
    · obtain rfl : k = 8 := by omega
      go_wp2
      go_ret
      exact ⟨g', cap', rfl, hrow, hb⟩
/-- The bytes of the first k words, as values. -/
def splitVals (l : List Nat) : Nat → List Value
  | 0 => []
  | k + 1 => splitVals l k ++ byteVals (l[k]?.getD 0) 8
theorem splitVals_eq (l : List Nat) : ∀ k, splitVals l k = (List.range (8 * k)).map fun j => Value.int .u8 (WM.byteAt l j : Nat)
  | 0 => rfl
  | k + 1 => by
    rw [splitVals, splitVals_eq l k, show 8 * (k + 1) = 8 * k + 8 by omega, List.range_add, List.map_append]
    congr 1
    unfold byteVals
    rw [List.map_map]
    apply List.map_congr_left
    intro j hj
    have hj8 : j < 8 := List.mem_range.1 hj
    show Value.int .u8 _ = Value.int .u8 (WM.byteAt l (8 * k + j) : Nat)
    unfold WM.byteAt
    rw [show (8 * k + j) / 8 = k by omega, show (8 * k + j) % 8 = j by omega]
def Words64 (l : List Nat) : Prop := ∀ i : Nat, l[i]?.getD 0 < 18446744073709551616
set_option maxHeartbeats 1000000 in
theorem fold2_any (v : Value) (l : List Nat) (n₀ g cap : Nat) (hl : l.length ≤ 4096) (h64 : Words64 l) (w : World) (hn : n₀ ≤ w.heap.size) (hs : Sl w .u64 v l) (hlow : ∀ b off c, v = .slice (some ⟨b, off, none⟩) l.length c → 0 < l.length → b < n₀)
    (hown : w.ownsRow n₀ 5 1 (.slice (some ⟨g, 0, none⟩) 0 cap) 0 []) :
    Calls Try.prog 60 #[.slice (some ⟨g, 0, none⟩) 0 cap, v, .func (.func 61) #[] #[]] w fun e w' => ∃ g' cap', e = .returned (.slice (some ⟨g', 0, none⟩) (8 * l.length) cap') ∧ w'.ownsRow n₀ 5 1 (.slice (some ⟨g', 0, none⟩) (8 * l.length) cap') (8 * l.length) (splitVals l l.length) ∧ Below n₀ w w' := by
  obtain ⟨a, c, b, off, rfl, hlc, ha, hc⟩ := hs.cell
  clear hs
  have HC := Lib.hid hc; clear hc
  have HLow := Lib.hid hlow; clear hlow
  generalize hm : l.length = m at *
  have HM := Lib.hid hm; clear hm
  have h1 : (m : Int) ≤ 4096 := by omega
  go_enter Try.func60, Try.ntmps60
  go_wp2
  go_loopw [0, 8, 11] (fun v _ i wr => ∃ (k g' cap' : Nat), k ≤ m ∧ i = .int .i64 k ∧ v = .slice (some ⟨g', 0, none⟩) (8 * k) cap' ∧ wr.ownsRow n₀ 5 1 (.slice (some ⟨g', 0, none⟩) (8 * k) cap') (8 * k) (splitVals l k) ∧ Below n₀ w wr) (fun _ _ i _ => m - (intOf i).toNat)
  case atStart => exact ⟨0, g, cap, by omega, rfl, rfl, hown, Below.refl _ _⟩
  case round =>
    obtain ⟨k, g', cap', hk, rfl, rfl, hrow, hb⟩ := hrel
    have z := hb.size
    by_cases hlt : k < m
    · obtain rfl := ha (by omega)
      have hbn := HLow.out b off c rfl (by omega)
      have c1 : wr.cell? ⟨b, off + k, none⟩ = some (.int .u64 (l[k]?.getD 0 : Nat)) := (hb.cell (p := ⟨b, off + k, none⟩) hbn).trans ((HC.out (by omega)).2 k hlt)
      have hx := h64 k
      obtain ⟨x, hx1⟩ : ∃ x, x = l[k]?.getD 0 := ⟨_, rfl⟩
      rw [← hx1] at c1 hx
      have hsp := Lib.hid (split1_any x (8 * k) n₀ g' cap' (splitVals l k) hx (by omega) wr (by omega) hrow)
      have HX := Lib.hid hx1; clear hx1
      go_wp2_with fail
      refine hsp.out.mono ?_
      rintro e w1 ⟨g2, cap2, rfl, hrow2, hb2⟩
      go_wp2_with fail
      go_roundw
      case rel => exact ⟨k + 1, g2, cap2, by omega, by go_num, rfl, by rw [splitVals, ← HX.out]; exact hrow2, hb.trans hb2⟩
      case measure => simp [intOf]; omega
    · obtain rfl : k = m := by omega
      go_wp2
      go_ret
      exact ⟨g', cap', rfl, hrow, hb⟩
theorem split_any (v : Value) (l : List Nat) (hl : l.length ≤ 4096) (h64 : Words64 l) (w : World) (hs : Sl w .u64 v l) :
    Calls Try.prog 47 #[v] w fun e w' => ∃ g' cap', e = .returned (.slice (some ⟨g', 0, none⟩) (8 * l.length) cap') ∧ w'.ownsRow w.heap.size 5 1 (.slice (some ⟨g', 0, none⟩) (8 * l.length) cap') (8 * l.length) (splitVals l l.length) ∧ Below w.heap.size w w' := by
  obtain ⟨i0, hi, hz0, hz1, hz2⟩ := info_parts infoU8
  have hlow : ∀ b off c, v = .slice (some ⟨b, off, none⟩) l.length c → 0 < l.length → b < w.heap.size := by
    rintro b off c rfl h0
    obtain ⟨a, cap, e, _, h⟩ := hs
    obtain ⟨b', off', ea, hlt, _⟩ := h h0
    simp only [Value.slice.injEq] at e
    obtain ⟨e1, _, _⟩ := e
    rw [ea] at e1; simp at e1; omega
  have HF : ∀ (w1 : World) (g cap : Nat), Below w.heap.size w w1 → w1.ownsRow w.heap.size 5 1 (.slice (some ⟨g, 0, none⟩) 0 cap) 0 [] → Calls Try.prog 60 #[.slice (some ⟨g, 0, none⟩) 0 cap, v, .func (.func 61) #[] #[]] w1 fun e w' => ∃ g' cap', e = .returned (.slice (some ⟨g', 0, none⟩) (8 * l.length) cap') ∧ w'.ownsRow w.heap.size 5 1 (.slice (some ⟨g', 0, none⟩) (8 * l.length) cap') (8 * l.length) (splitVals l l.length) ∧ Below w.heap.size w1 w' :=
    fun w1 g cap hb ho => fold2_any v l w.heap.size g cap hl h64 w1 hb.size (hs.below hb) hlow ho
  have HF' := Lib.hid HF; clear HF hlow
  obtain ⟨a, c, b, off, rfl, -, -, -⟩ := hs.cell
  clear hs
  have h1 : (l.length : Int) ≤ 4096 := by omega
  go_enter Try.func47, Try.ntmps47
  go_wp2_with (at_make; refine wpList_make_own _ rfl _ _ 58 rfl w.heap.size 5 i0 (.int .u8 0) 1 Try.underlying58 hi hz0 hz1 .i64 .i64 _ (8 * l.length) rfl rfl (by simp) (by rw [hz2]; omega) (by unfold maxLen; omega) (by omega) ?_; intro w2 hown2 hgrow2)
  have b2 : Below w.heap.size w w2 := (Below.refl _ _).grown hgrow2 (Nat.le_refl _) (fun k e => by cases e)
  refine (HF'.out _ _ _ b2 hown2).mono ?_
  rintro e w3 ⟨g', cap', rfl, hrow3, hb3⟩
  go_wp2_with fail
  go_ret
  exact ⟨g', cap', rfl, hrow3, b2.trans hb3⟩
end Go.Proofs.Ytoaloeipgadkjaa
