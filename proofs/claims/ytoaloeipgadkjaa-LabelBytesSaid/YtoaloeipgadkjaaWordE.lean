/-
  Contracts of slices.ContainsFunc at word's predicate, and of word.Bytes.
-/
import Derived.Test.YtoaloeipgadkjaaWordD
import Derived.ScopeJumps
import Derived.WalkMore
import Derived.Test.YtoaloeipgadkjaaBase
namespace Go.Proofs.Ytoaloeipgadkjaa
open Go.RowKit Go.Shelf

theorem pred_any (x : Nat) (w : World) : Calls Try.prog 49 #[.int .u8 x] w fun e w' => e = .returned (.bool (decide (x ≠ 0))) ∧ w = w' := by
  go_enter Try.func49, Try.ntmps49
  go_wp2
  go_ret
  exact ⟨ret_bool (by rw [Bool.eq_iff_iff, bne_iff_ne, decide_eq_true_iff]; omega), rfl⟩
/-- What IndexFunc answers: at least 0 just where a byte is not nought. -/
def IdxOut (xs : List Nat) (e : Ending) : Prop := ∃ r : Int, e = .returned (.int .i64 r) ∧ -1 ≤ r ∧ r ≤ 4611686018427387904 ∧ (0 ≤ r ↔ ∃ j, j < xs.length ∧ xs[j]?.getD 0 ≠ 0)
theorem index_any (v : Value) (xs : List Nat) (hl : xs.length ≤ 140737488351232) (w : World) (hs : Sl w .u8 v xs) :
    Calls Try.prog 62 #[v, .func (.func 49) #[] #[]] w fun e w' => IdxOut xs e ∧ w = w' := by
  obtain ⟨a, c, b, off, rfl, hlc, ha, hc⟩ := hs.cell
  clear hs
  have HC := Lib.hid hc; clear hc
  generalize hm : xs.length = m at *
  have HM := Lib.hid hm; clear hm
  go_enter Try.func62, Try.ntmps62
  go_wp2
  go_loop [5, 8] (fun _ i => ∃ k : Nat, k ≤ m ∧ i = .int .i64 k ∧ (∀ j, j < k → xs[j]?.getD 0 = 0)) (fun _ i => m - (intOf i).toNat)
  case atStart => exact ⟨0, by omega, rfl, fun j h => by omega⟩
  case round =>
    obtain ⟨k, hk, rfl, hz⟩ := hrel
    have HZ := Lib.hid hz; clear hz
    by_cases hlt : k < m
    · obtain rfl := ha (by omega)
      have c1 : w.cell? ⟨b, off + k, none⟩ = some (.int .u8 (xs[k]?.getD 0 : Nat)) := (HC.out (by omega)).2 k hlt
      obtain ⟨x, hx1⟩ : ∃ x, x = xs[k]?.getD 0 := ⟨_, rfl⟩
      rw [← hx1] at c1
      have HX := Lib.hid hx1; clear hx1
      by_cases hx0 : x = 0
      · have HD := Lib.hid (show decide (x ≠ 0) = false from decide_eq_false (by omega))
        have HX0 := Lib.hid hx0; clear hx0
        go_wp2_with fail
        refine (pred_any x _).mono ?_
        rintro e w1 ⟨rfl, rfl⟩
        rw [HD.out]
        go_wp2_with fail
        go_round
        case rel => exact ⟨k + 1, by omega, by go_num, fun j hj => by
          by_cases hjk : j = k
          · rw [hjk, ← HX.out]; exact HX0.out
          · exact HZ.out j (by omega)⟩
        case measure => simp [intOf]; omega
      · have HD := Lib.hid (show decide (x ≠ 0) = true from decide_eq_true hx0)
        go_wp2_with fail
        refine (pred_any x _).mono ?_
        rintro e w1 ⟨rfl, rfl⟩
        rw [HD.out]
        go_wp2_with fail
        go_ret
        exact ⟨⟨k, rfl, by omega, by omega, ⟨fun _ => ⟨k, by rw [HM.out]; omega, by rw [← HX.out]; exact hx0⟩, fun _ => by omega⟩⟩, rfl⟩
    · obtain rfl : k = m := by omega
      go_wp2
      go_ret
      exact ⟨⟨-1, rfl, by omega, by omega, ⟨fun h => by omega, fun ⟨j, h1, h2⟩ => absurd (HZ.out j (by rw [HM.out] at h1; exact h1)) h2⟩⟩, rfl⟩
theorem contains_any (v : Value) (xs : List Nat) (hl : xs.length ≤ 140737488351232) (w : World) (hs : Sl w .u8 v xs) :
    Calls Try.prog 48 #[v, .func (.func 49) #[] #[]] w fun e w' => e = .returned (.bool (xs.any (· != 0))) ∧ w = w' := by
  have HI := Lib.hid (index_any v xs hl w hs)
  obtain ⟨a, c, b, off, rfl, -, -, -⟩ := hs.cell
  clear hs
  go_enter Try.func48, Try.ntmps48
  go_wp2_with fail
  refine HI.out.mono ?_
  rintro e w1 ⟨⟨r, rfl, hr1, hr2, hr3⟩, rfl⟩
  have HR := Lib.hid hr3; clear hr3
  go_wp2_with fail
  go_ret
  refine ⟨ret_bool ?_, rfl⟩
  rw [Bool.eq_iff_iff, decide_eq_true_iff, HR.out, List.any_eq_true]
  constructor
  · rintro ⟨j, h1, h2⟩
    refine ⟨xs[j], List.getElem_mem h1, ?_⟩
    rw [List.getElem?_eq_getElem h1] at h2
    simpa using h2
  · rintro ⟨x, h1, h2⟩
    obtain ⟨j, hj, rfl⟩ := List.getElem_of_mem h1
    exact ⟨j, hj, by rw [List.getElem?_eq_getElem hj]; simpa using h2⟩
set_option maxHeartbeats 1000000 in
theorem bytes_neg (v : Value) (l : List Nat) (many : Int) (h : many < 0) (_ : -9223372036854775808 ≤ many) (w : World) (hs : Sl w .u64 v l) :
    Calls Try.prog 35 #[v, .int .i64 many] w fun e w' => e = .returned (.tuple #[.slice none 0 0, .int .i64 2]) ∧ Below w.heap.size w w' := by
  obtain ⟨a, c, b, off, rfl, -, -, -⟩ := hs.cell
  clear hs
  go_enter Try.func35, Try.ntmps35
  go_wp2
  refine wp_scope_forward 0 rfl ?_
  go_wp2
  go_step3
  refine ⟨rfl, ?_⟩
  go_wp2
  rw [Exit.jump_ret]
  go_ret2
  exact ⟨rfl, Below.refl _ _⟩
set_option maxHeartbeats 1000000 in
theorem bytes_long1 (v : Value) (l : List Nat) (many : Int) (h : 4096 < many) (w : World) (hs : Sl w .u64 v l) :
    Calls Try.prog 35 #[v, .int .i64 many] w fun e w' => e = .returned (.tuple #[.slice none 0 0, .int .i64 3]) ∧ Below w.heap.size w w' := by
  obtain ⟨a, c, b, off, rfl, -, -, -⟩ := hs.cell
  clear hs
  go_enter Try.func35, Try.ntmps35
  go_wp2
  refine wp_scope_forward 0 rfl ?_
  go_wp2
  go_step3
  refine ⟨rfl, ?_⟩
  go_wp2
  rw [Exit.jump_ret]
  go_ret2
  exact ⟨rfl, Below.refl _ _⟩
set_option maxHeartbeats 1000000 in
theorem bytes_long2 (v : Value) (l : List Nat) (many : Int) (h0 : 0 ≤ many) (h : many ≤ 4096) (h2 : 4096 < l.length) (h3 : l.length ≤ 140737488351232) (w : World) (hs : Sl w .u64 v l) :
    Calls Try.prog 35 #[v, .int .i64 many] w fun e w' => e = .returned (.tuple #[.slice none 0 0, .int .i64 3]) ∧ Below w.heap.size w w' := by
  obtain ⟨a, c, b, off, rfl, -, -, -⟩ := hs.cell
  clear hs
  have h2' : (4096 : Int) < (l.length : Int) := by omega
  go_enter Try.func35, Try.ntmps35
  go_wp2
  refine wp_scope_forward 0 rfl ?_
  go_wp2
  go_step3
  refine ⟨rfl, ?_⟩
  go_wp2
  rw [Exit.jump_ret]
  go_ret2
  exact ⟨rfl, Below.refl _ _⟩
set_option maxHeartbeats 1000000 in
theorem bytes_range (v : Value) (l : List Nat) (many : Int) (h0 : 0 ≤ many) (h : many ≤ 4096) (h2 : l.length ≤ 4096) (h3 : 8 * (l.length : Int) < many) (w : World) (hs : Sl w .u64 v l) :
    Calls Try.prog 35 #[v, .int .i64 many] w fun e w' => e = .returned (.tuple #[.slice none 0 0, .int .i64 4]) ∧ Below w.heap.size w w' := by
  obtain ⟨a, c, b, off, rfl, -, -, -⟩ := hs.cell
  clear hs
  have h2' : (l.length : Int) ≤ 4096 := by omega
  go_enter Try.func35, Try.ntmps35
  go_wp2
  refine wp_scope_forward 0 rfl ?_
  go_wp2
  go_step3
  refine ⟨rfl, ?_⟩
  go_wp2
  rw [Exit.jump_ret]
  go_ret2
  exact ⟨rfl, Below.refl _ _⟩
set_option maxHeartbeats 1000000 in
theorem bytes_tail1 (v : Value) (l : List Nat) (many : Nat) (h : many ≤ 4096) (h2 : l.length ≤ 4096) (h3 : many ≤ 8 * l.length) (h4 : WM.need many < l.length) (w : World) (hs : Sl w .u64 v l) :
    Calls Try.prog 35 #[v, .int .i64 many] w fun e w' => e = .returned (.tuple #[.slice none 0 0, .int .i64 110]) ∧ Below w.heap.size w w' := by
  obtain ⟨a, c, b, off, rfl, -, -, -⟩ := hs.cell
  clear hs
  have k1 : (many : Int) ≤ 4096 := by omega
  have k2 : (l.length : Int) ≤ 4096 := by omega
  have k3 : (many : Int) ≤ 8 * (l.length : Int) := by omega
  have k4 : ((WM.need many : Nat) : Int) < (l.length : Int) := by omega
  go_enter Try.func35, Try.ntmps35
  go_wp2
  refine wp_scope_forward 0 rfl ?_
  go_wp2_with fail
  refine (need_any many h _).mono ?_
  rintro e w1 ⟨rfl, rfl⟩
  go_wp2_with fail
  go_step3
  refine ⟨rfl, ?_⟩
  go_wp2
  rw [Exit.jump_ret]
  go_ret2
  exact ⟨rfl, Below.refl _ _⟩
theorem drop_sl {W : World} {n₀ g cap n many : Nat} {l : List Nat} (hn : n = 8 * l.length) (hrow : W.ownsRow n₀ 5 1 (.slice (some ⟨g, 0, none⟩) n cap) n (splitVals l l.length)) (hm : many ≤ n) :
    Sl W .u8 (.slice (some ⟨g, if many = cap then 0 else many, none⟩) (n - many) (cap - many)) ((WM.bytesOf l).drop many) := by
  subst hn
  have hlen : ((WM.bytesOf l).drop many).length = 8 * l.length - many := by rw [List.length_drop, WM.bytesOf_length]
  have hcap : 8 * l.length ≤ cap := by
    rcases hrow.2 with ⟨h0, _⟩ | ⟨g', cap', cur, h0, _, _, hc, _⟩
    · cases h0
    · simp at h0; omega
  refine ⟨_, cap - many, by rw [hlen], by omega, fun h0 => ⟨g, many, ?_, ?_, fun j hj => ?_⟩⟩
  · rw [if_neg (by omega)]
  · exact (hrow.lt g rfl).2
  · rw [World.ownsRow.cellAt hrow (many + j) (by omega), splitVals_eq, List.getElem?_map, List.getElem?_range (by omega)]
    have e : ((WM.bytesOf l).drop many)[j]?.getD 0 = WM.byteAt l (many + j) := (WM.at_drop _ _ _).trans (WM.bytesOf_at l _ (by omega))
    rw [e]; rfl
theorem take_sl {W : World} {n₀ g cap n many c : Nat} {l : List Nat} (hn : n = 8 * l.length) (hrow : W.ownsRow n₀ 5 1 (.slice (some ⟨g, 0, none⟩) n cap) n (splitVals l l.length)) (hm : many ≤ n) (hc : many ≤ c) :
    Sl W .u8 (.slice (some ⟨g, 0, none⟩) many c) ((WM.bytesOf l).take many) := by
  subst hn
  have hlen : ((WM.bytesOf l).take many).length = many := by rw [List.length_take, WM.bytesOf_length]; omega
  refine ⟨_, c, by rw [hlen], by omega, fun h0 => ⟨g, 0, rfl, (hrow.lt g rfl).2, fun j hj => ?_⟩⟩
  rw [Nat.zero_add, World.ownsRow.cellAt hrow j (by omega), splitVals_eq, List.getElem?_map, List.getElem?_range (by omega)]
  have e : ((WM.bytesOf l).take many)[j]?.getD 0 = WM.byteAt l j := (WM.at_take _ _ _ (by omega)).trans (WM.bytesOf_at l _ (by omega))
  rw [e]; rfl
set_option maxHeartbeats 2000000 in
theorem bytes_rest (v : Value) (l : List Nat) (many : Nat) (h64 : Words64 l) (h : many ≤ 4096) (h2 : l.length ≤ 4096) (h3 : many ≤ 8 * l.length) (h4 : l.length ≤ WM.need many) (w : World) (hs : Sl w .u64 v l) :
    Calls Try.prog 35 #[v, .int .i64 many] w fun e w' => ((((WM.bytesOf l).drop many).any (· != 0) = true → e = .returned (.tuple #[.slice none 0 0, .int .i64 110])) ∧
      (((WM.bytesOf l).drop many).any (· != 0) = false → ∃ r, e = .returned (.tuple #[r, .int .i64 0]) ∧ Sl w' .u8 r ((WM.bytesOf l).take many))) ∧ Below w.heap.size w w' := by
  have HS := Lib.hid (split_any v l h2 h64 w hs)
  obtain ⟨a, c, b, off, rfl, -, -, -⟩ := hs.cell
  clear hs
  have k1 : (many : Int) ≤ 4096 := by omega
  have k2 : (l.length : Int) ≤ 4096 := by omega
  have k3 : (many : Int) ≤ 8 * (l.length : Int) := by omega
  have k4 : (l.length : Int) ≤ ((WM.need many : Nat) : Int) := by omega
  go_enter Try.func35, Try.ntmps35
  go_wp2
  refine wp_scope_forward 0 rfl ?_
  go_wp2_with fail
  refine (need_any many h _).mono ?_
  rintro e w1 ⟨rfl, rfl⟩
  go_wp2_with fail
  refine HS.out.mono ?_
  rintro e w2 ⟨g, cap, rfl, hrow, hb2⟩
  have hcap : 8 * l.length ≤ cap := by
    rcases hrow.2 with ⟨h0, _⟩ | ⟨g', cap', cur, h0, _, _, hc, _⟩
    · cases h0
    · simp at h0; omega
  have hsl := Lib.hid (drop_sl rfl hrow h3)
  have HR := Lib.hid hrow; clear hrow
  have k5 : (many : Int) ≤ ((8 * l.length : Nat) : Int) := by omega
  have k6 : ((8 * l.length : Nat) : Int) ≤ (cap : Int) := by omega
  have k7 : (many : Int) ≤ (cap : Int) := by omega
  by_cases hmc : many = cap
  · have HSL : Hid (Sl w2 .u8 (.slice (some ⟨g, 0, none⟩) 0 0) ((WM.bytesOf l).drop many)) := by
      have := hsl.out; rw [if_pos hmc, show 8 * l.length - many = 0 by omega, show cap - many = 0 by omega] at this; exact this
    clear hsl
    subst hmc
    go_wp2_with fail
    refine (contains_any _ _ (by rw [List.length_drop, WM.bytesOf_length]; omega) _ HSL.out).mono ?_
    rintro e w3 ⟨rfl, rfl⟩
    by_cases hany : ((WM.bytesOf l).drop many).any (· != 0) = true
    · have HA := Lib.hid hany
      rw [hany]
      clear hany
      go_wp2_with fail
      go_step3
      refine ⟨rfl, ?_⟩
      go_wp2
      rw [Exit.jump_ret]
      go_ret2
      exact ⟨⟨fun _ => rfl, fun hf => by rw [HA.out] at hf; cases hf⟩, hb2⟩
    · have hany' : ((WM.bytesOf l).drop many).any (· != 0) = false := by simpa using hany
      have HA := Lib.hid hany'
      rw [hany']
      clear hany hany'
      go_wp2_with fail
      rw [Exit.jump_ret]
      go_ret2
      exact ⟨⟨(fun hf => by rw [HA.out] at hf; cases hf), fun _ => ⟨_, rfl, take_sl rfl HR.out h3 (by omega)⟩⟩, hb2⟩
  · have hmc' : ¬ ((many : Nat) = cap) := hmc
    have HSL : Hid (Sl w2 .u8 (.slice (some ⟨g, many, none⟩) (8 * l.length - many) (cap - many)) ((WM.bytesOf l).drop many)) := by
      have := hsl.out; rw [if_neg hmc] at this; exact this
    clear hsl
    go_wp2_with fail
    refine (contains_any _ _ (by rw [List.length_drop, WM.bytesOf_length]; omega) _ HSL.out).mono ?_
    rintro e w3 ⟨rfl, rfl⟩
    by_cases hany : ((WM.bytesOf l).drop many).any (· != 0) = true
    · have HA := Lib.hid hany
      rw [hany]
      clear hany
      go_wp2_with fail
      go_step3
      refine ⟨rfl, ?_⟩
      go_wp2
      rw [Exit.jump_ret]
      go_ret2
      exact ⟨⟨fun _ => rfl, fun hf => by rw [HA.out] at hf; cases hf⟩, hb2⟩
    · have hany' : ((WM.bytesOf l).drop many).any (· != 0) = false := by simpa using hany
      have HA := Lib.hid hany'
      rw [hany']
      clear hany hany'
      go_wp2_with fail
      rw [Exit.jump_ret]
      go_ret2
      exact ⟨⟨(fun hf => by rw [HA.out] at hf; cases hf), fun _ => ⟨_, rfl, take_sl rfl HR.out h3 (by omega)⟩⟩, hb2⟩
end Go.Proofs.Ytoaloeipgadkjaa
