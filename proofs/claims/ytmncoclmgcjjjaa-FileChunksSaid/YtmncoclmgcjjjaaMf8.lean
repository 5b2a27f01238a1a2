/-
  Texts WordR to FlM, as one.
-/
import Derived.Test.YtmncoclmgcjjjaaMf7
import Derived.StillTailTactics
import Derived.Deep.DeepMust
/-
  Contract of the document's Words (waterlineref01).
-/
namespace Go.Proofs.Ytmncoclmgcjjjaa
open Go.RowKit

/-- What the slice holds, as values. -/
def upVals (bs : List Nat) (n m : Nat) : List Value := (WM.upTo bs n m).map fun y : Nat => Value.int .u64 (y : Nat)
theorem upVals_length (bs : List Nat) (n m : Nat) : (upVals bs n m).length = n := by simp [upVals, WM.upTo_length]
theorem upVals_at (bs : List Nat) (n m j : Nat) (h : j < n) : (upVals bs n m)[j]? = some (.int .u64 ((WM.wordAt bs j % 2 ^ (m - 64 * j) : Nat) : Int)) := by
  unfold upVals WM.upTo
  rw [List.getElem?_map, List.getElem?_map, List.getElem?_range h]; rfl
theorem upVals_more (bs : List Nat) (n : Nat) : upVals bs (n + 1) (64 * n) = upVals bs n (64 * n) ++ [.int .u64 0] := by
  unfold upVals
  rw [WM.upTo_more, List.map_append]; rfl
theorem upVals_step (bs : List Nat) (hb : WM.Bytes256 bs) (i k : Nat) (hk : k < 8) :
    upVals bs (i / 8 + 1) (8 * i + k + 1) = (upVals bs (i / 8 + 1) (8 * i + k)).set (i / 8) (.int .u64 ((WM.withN (WM.wordAt bs (i / 8) % 2 ^ (8 * (i % 8) + k)) (8 * (i % 8) + k) ((WM.at' bs i).testBit k) : Nat) : Int)) := by
  unfold upVals
  rw [WM.upTo_step bs hb i k hk, List.map_set]
set_option maxRecDepth 100000 in
set_option maxHeartbeats 1000000 in
theorem refWords_own (v : Value) (xs : List Nat) (hl : xs.length ≤ 4096) (hx : WM.Bytes256 xs) (w : World) (hs : Sl w .u8 v xs) :
    Calls Try.prog 36 #[v] w fun e w' => ∃ r, e = .returned r ∧ w'.ownsRow w.heap.size 42 1 r (WM.wordsOf xs).length (valsOf .u64 (WM.wordsOf xs)) ∧ Below w.heap.size w w' := by
  obtain ⟨i0, hi, hz0, hz1, hz2⟩ := info_parts infoU64
  obtain ⟨a, c, b, off, rfl, hlc, ha, hc⟩ := hs.cell
  clear hs
  have k1 : (xs.length : Int) ≤ 4096 := by omega
  have HA := Lib.hid ha; clear ha
  have HC := Lib.hid hc; clear hc
  have HX := Lib.hid hx; clear hx
  go_enter Try.func36, Try.ntmps36
  go_wp2
  go_loopw [3, 4] (fun r i wr => ∃ (k : Nat) (q : Value), q = r ∧ k ≤ xs.length ∧ i = .int .i64 k ∧ wr.ownsRow w.heap.size 42 1 r (WM.need k) (upVals xs (WM.need k) (8 * k)) ∧ Below w.heap.size w wr) (fun _ i _ => xs.length - (intOf i).toNat)
  case atStart => exact ⟨0, _, rfl, Nat.zero_le _, rfl, by simp [upVals, WM.upTo, WM.need, World.ownsRow_nil], Below.refl _ _⟩
  case round =>
    obtain ⟨k, r, rfl, hk, rfl, hrow, hb⟩ := hrel
    have z := hb.size
    by_cases hlt : k < xs.length
    · have k5 : (k : Int) < (xs.length : Int) := by omega
      obtain rfl := HA.out (by omega)
      have hbW := (HC.out (by omega)).1
      have hxk := HX.out k
      obtain ⟨x, hx1⟩ : ∃ x, x = xs[k]?.getD 0 := ⟨_, rfl⟩
      have HCX : Hid (∀ W', Below w.heap.size w W' → W'.cell? ⟨b, off + k, none⟩ = some (.int .u8 (x : Nat))) := fun W' hb' => by
        rw [hx1]; exact (hb'.cell (p := ⟨b, off + k, none⟩) hbW).trans ((HC.out (by omega)).2 k hlt)
      have hx256 : x < 256 := by rw [hx1]; exact hxk
      have HX1 := Lib.hid hx1; clear hx1 hxk
      by_cases h8 : k % 8 = 0
      · have k6 : (k : Int) % 8 = 0 := by omega
        have hn : WM.need k = k / 8 := by unfold WM.need; omega
        have HU := Lib.hid (upVals_more xs (k / 8))
        rw [hn, show 8 * k = 64 * (k / 8) by omega] at hrow
        have hk8 : k / 8 ≤ 512 := by omega
        go_wp2_with (at_builtin; go_must (refine wpList_append_own _ rfl _ _ 71 rfl w.heap.size 42 i0 (.int .u64 0) 1 8 Try.underlying71 hi hz0 hz1 hz2 rfl (by decide) r (k / 8) _ rfl (hrow.alloc _) ⟨wr.heap.size, 0, none⟩ 1 1 [.int .u64 0] rfl rfl (cell_one_new _ _ _) (by simp [Value.oneCell']) (by unfold maxLen; omega) (by omega) (by simp; omega) ?_); intro v' w2 hown' hgrow _)
        obtain ⟨g, cap, rfl⟩ := ownsRow_succ hown'
        rw [← HU.out] at hown'
        have hb2 : Below w.heap.size w w2 := (hb.alloc (by omega) _).grown hgrow (by simp; omega) (fun j e => by have := hrow.lt j e; omega)
        have hn1 : Hid (k / 8 + 1 = WM.need (k + 1)) := by show _ = _; unfold WM.need; omega
        clear hgrow hb hrow z
        have hrow2 : Hid (w2.ownsRow w.heap.size 42 1 (.slice (some ⟨g, 0, none⟩) (k / 8 + 1) cap) (k / 8 + 1) (upVals xs (k / 8 + 1) (8 * k + 0))) := by
          rw [show 8 * k + 0 = 64 * (k / 8) by omega]; exact hown'
        clear hown'
        generalize w2 = wq at *
        go_loopw [5] (fun j wt => ∃ t : Nat, t ≤ 8 ∧ j = .int .i64 t ∧ wt.ownsRow w.heap.size 42 1 (.slice (some ⟨g, 0, none⟩) (k / 8 + 1) cap) (k / 8 + 1) (upVals xs (k / 8 + 1) (8 * k + t)) ∧ Below w.heap.size w wt) (fun j _ => 8 - (intOf j).toNat)
        case atStart => exact ⟨0, by omega, rfl, hrow2.out, hb2⟩
        case round =>
          obtain ⟨t, ht, rfl, hrow3, hb3⟩ := hrel
          by_cases htl : t < 8
          · have c1 := HCX.out wr hb3
            have c2 : wr.cell? ⟨g, k / 8, none⟩ = some (.int .u64 ((WM.wordAt xs (k / 8) % 2 ^ (8 * (k % 8) + t) : Nat) : Int)) := by
              have := World.ownsRow.cellAt hrow3 (k / 8) (by omega)
              rw [upVals_at _ _ _ _ (by omega), show 8 * k + t - 64 * (k / 8) = 8 * (k % 8) + t by omega] at this
              exact this
            have hy := WM.upTo_lt xs (k / 8) (8 * (k % 8) + t)
            have HUS := upVals_step xs HX.out k t htl
            rw [show WM.at' xs k = x from HX1.out.symm] at HUS
            have hlt3 := ownsRow_lt hrow3
            have hfz : wr.frozen? ⟨g, k / 8, none⟩ = false := World.ownsRow.frozenAt hrow3 _
            have hrow4 := Lib.hid (ownsRow_set hrow3.drew (j := k / 8) (.int .u64 ((WM.withN (WM.wordAt xs (k / 8) % 2 ^ (8 * (k % 8) + t)) (8 * (k % 8) + t) (x.testBit t) : Nat) : Int)))
            rw [← HUS] at hrow4
            have hb4 := Lib.hid (hb3.drew.setCell (p := ⟨g, k / 8, none⟩) hlt3.1 (.int .u64 ((WM.withN (WM.wordAt xs (k / 8) % 2 ^ (8 * (k % 8) + t)) (8 * (k % 8) + t) (x.testBit t) : Nat) : Int)))
            have hs64 : 8 * (k % 8) + t < 64 := by omega
            have ew : IntKind.i64.wrap (8 * ((k : Int) % 8) + (t : Int)) = ((8 * (k % 8) + t : Nat) : Int) := (IntWalk.i64_in _ (by omega)).trans (by omega)
            have ew2 : IntKind.i64.wrap (8 * ((k : Int) % 8)) = 8 * ((k : Int) % 8) := IntWalk.i64_in _ (by omega)
            have eq8 : IntKind.i64.wrap ((k : Int) / 8) = ((k / 8 : Nat) : Int) := (IntWalk.i64_in _ (by omega)).trans (by omega)
            have exu : IntKind.u64.wrap (x : Int) = (x : Int) := IntWalk.u64_in _ (by omega)
            have htd : ((k : Int)).tmod 8 = (k : Int) % 8 := Int.tmod_eq_emod_of_nonneg (by omega)
            have htq : ((k : Int)).tdiv 8 = (k : Int) / 8 := Int.tdiv_eq_ediv_of_nonneg (by omega)
            have hq8 : k / 8 < k / 8 + 1 := by omega
            clear hrow3 HUS k6 h8 hn
            generalize hyy : WM.wordAt xs (k / 8) % 2 ^ (8 * (k % 8) + t) = y at *
            generalize hss : 8 * (k % 8) + t = s at *
            clear hyy
            have HSS := Lib.hid hss; clear hss
            have HN1 := hn1
            clear hn1
            generalize hqq : k / 8 = q at *
            have HQQ := Lib.hid hqq; clear hqq
            have hqi : (q : Int) < (q : Int) + 1 := by omega
            go_wp2
            refine wp_region_still_tail 21 (by kernel_rfl) (by kernel_rfl) ?_
            simp only [List.take_succ_cons, List.take_zero, List.drop_succ_cons, List.drop_zero]
            repeat still_step
            still_call ((bit_any x t (Nat.lt_of_lt_of_le htl (by decide)) _).mono fun _ _ ⟨h1, h2⟩ => ⟨h1, h2.symm⟩)
            repeat still_step
            still_call ((with_any' y s _ hs64 hy _).mono fun _ _ ⟨h1, h2⟩ => ⟨h1, h2.symm⟩)
            refine wpStill_nil ?_
            change wpList _ _ _ _ _ wr.drew
            go_wp2
            go_roundw
            case rel => exact ⟨t + 1, by omega, by go_num, hrow4.out, hb4.out⟩
            case measure => simp [intOf]; omega
          · obtain rfl : t = 8 := by omega
            have hrow4 := Lib.hid hrow3
            clear hrow3
            go_wp2
            go_roundw
            case rel => exact ⟨k + 1, _, rfl, by omega, by go_num, by rw [← hn1.out]; exact hrow4.out, hb3⟩
            case measure => simp [intOf]; omega
      · have k6 : ¬ (k : Int) % 8 = 0 := by omega
        have hn : WM.need k = k / 8 + 1 := by unfold WM.need; omega
        rw [hn] at hrow
        obtain ⟨g, cap, rfl⟩ := ownsRow_succ hrow
        have hb2 := hb
        have hn1 : Hid (k / 8 + 1 = WM.need (k + 1)) := by show _ = _; unfold WM.need; omega
        clear hb z
        have hrow2 : Hid (wr.ownsRow w.heap.size 42 1 (.slice (some ⟨g, 0, none⟩) (k / 8 + 1) cap) (k / 8 + 1) (upVals xs (k / 8 + 1) (8 * k + 0))) := hrow
        clear hrow
        go_wp2
        go_loopw [5] (fun j wt => ∃ t : Nat, t ≤ 8 ∧ j = .int .i64 t ∧ wt.ownsRow w.heap.size 42 1 (.slice (some ⟨g, 0, none⟩) (k / 8 + 1) cap) (k / 8 + 1) (upVals xs (k / 8 + 1) (8 * k + t)) ∧ Below w.heap.size w wt) (fun j _ => 8 - (intOf j).toNat)
        case atStart => exact ⟨0, by omega, rfl, hrow2.out, hb2⟩
        case round =>
          obtain ⟨t, ht, rfl, hrow3, hb3⟩ := hrel
          by_cases htl : t < 8
          · have c1 := HCX.out wr hb3
            have c2 : wr.cell? ⟨g, k / 8, none⟩ = some (.int .u64 ((WM.wordAt xs (k / 8) % 2 ^ (8 * (k % 8) + t) : Nat) : Int)) := by
              have := World.ownsRow.cellAt hrow3 (k / 8) (by omega)
              rw [upVals_at _ _ _ _ (by omega), show 8 * k + t - 64 * (k / 8) = 8 * (k % 8) + t by omega] at this
              exact this
            have hy := WM.upTo_lt xs (k / 8) (8 * (k % 8) + t)
            have HUS := upVals_step xs HX.out k t htl
            rw [show WM.at' xs k = x from HX1.out.symm] at HUS
            have hlt3 := ownsRow_lt hrow3
            have hfz : wr.frozen? ⟨g, k / 8, none⟩ = false := World.ownsRow.frozenAt hrow3 _
            have hrow4 := Lib.hid (ownsRow_set hrow3.drew (j := k / 8) (.int .u64 ((WM.withN (WM.wordAt xs (k / 8) % 2 ^ (8 * (k % 8) + t)) (8 * (k % 8) + t) (x.testBit t) : Nat) : Int)))
            rw [← HUS] at hrow4
            have hb4 := Lib.hid (hb3.drew.setCell (p := ⟨g, k / 8, none⟩) hlt3.1 (.int .u64 ((WM.withN (WM.wordAt xs (k / 8) % 2 ^ (8 * (k % 8) + t)) (8 * (k % 8) + t) (x.testBit t) : Nat) : Int)))
            have hs64 : 8 * (k % 8) + t < 64 := by omega
            have ew : IntKind.i64.wrap (8 * ((k : Int) % 8) + (t : Int)) = ((8 * (k % 8) + t : Nat) : Int) := (IntWalk.i64_in _ (by omega)).trans (by omega)
            have ew2 : IntKind.i64.wrap (8 * ((k : Int) % 8)) = 8 * ((k : Int) % 8) := IntWalk.i64_in _ (by omega)
            have eq8 : IntKind.i64.wrap ((k : Int) / 8) = ((k / 8 : Nat) : Int) := (IntWalk.i64_in _ (by omega)).trans (by omega)
            have exu : IntKind.u64.wrap (x : Int) = (x : Int) := IntWalk.u64_in _ (by omega)
            have htd : ((k : Int)).tmod 8 = (k : Int) % 8 := Int.tmod_eq_emod_of_nonneg (by omega)
            have htq : ((k : Int)).tdiv 8 = (k : Int) / 8 := Int.tdiv_eq_ediv_of_nonneg (by omega)
            have hq8 : k / 8 < k / 8 + 1 := by omega
            clear hrow3 HUS k6 h8 hn
            generalize hyy : WM.wordAt xs (k / 8) % 2 ^ (8 * (k % 8) + t) = y at *
            generalize hss : 8 * (k % 8) + t = s at *
            clear hyy
            have HSS := Lib.hid hss; clear hss
            have HN1 := hn1
            clear hn1
            generalize hqq : k / 8 = q at *
            have HQQ := Lib.hid hqq; clear hqq
            have hqi : (q : Int) < (q : Int) + 1 := by omega
            go_wp2
            refine wp_region_still_tail 21 (by kernel_rfl) (by kernel_rfl) ?_
            simp only [List.take_succ_cons, List.take_zero, List.drop_succ_cons, List.drop_zero]
            repeat still_step
            still_call ((bit_any x t (Nat.lt_of_lt_of_le htl (by decide)) _).mono fun _ _ ⟨h1, h2⟩ => ⟨h1, h2.symm⟩)
            repeat still_step
            still_call ((with_any' y s _ hs64 hy _).mono fun _ _ ⟨h1, h2⟩ => ⟨h1, h2.symm⟩)
            refine wpStill_nil ?_
            change wpList _ _ _ _ _ wr.drew
            go_wp2
            go_roundw
            case rel => exact ⟨t + 1, by omega, by go_num, hrow4.out, hb4.out⟩
            case measure => simp [intOf]; omega
          · obtain rfl : t = 8 := by omega
            have hrow4 := Lib.hid hrow3
            clear hrow3
            go_wp2
            go_roundw
            case rel => exact ⟨k + 1, _, rfl, by omega, by go_num, by rw [← hn1.out]; exact hrow4.out, hb3⟩
            case measure => simp [intOf]; omega
    · obtain rfl : k = xs.length := by omega
      go_wp2
      go_ret
      refine ⟨r, rfl, ?_, hb⟩
      rw [← WM.upTo_end xs HX.out]
      rw [WM.upTo_length]; exact hrow
theorem refWords_any (v : Value) (xs : List Nat) (hl : xs.length ≤ 4096) (hx : WM.Bytes256 xs) (w : World) (hs : Sl w .u8 v xs) :
    Calls Try.prog 36 #[v] w fun e w' => ∃ r, e = .returned r ∧ Sl w' .u64 r (WM.wordsOf xs) ∧ Below w.heap.size w w' :=
  (refWords_own v xs hl hx w hs).mono fun _ _ ⟨r, h1, h2, h3⟩ => ⟨r, h1, own_sl h2, h3⟩
end Go.Proofs.Ytmncoclmgcjjjaa

/-
  Contracts of sum.Text and of the document's Text.
-/
namespace Go.Proofs.Ytmncoclmgcjjjaa
open Go.RowKit Go.Shelf

theorem u64s_words (xs : List Nat) : U64s (WM.wordsOf xs) := fun x hx => by
  unfold WM.wordsOf at hx
  obtain ⟨i, _, rfl⟩ := List.mem_map.1 hx
  exact WM.wordAt_lt xs i
/-- The words of bytes, and how many bytes they are. -/
def textWords (xs : List Nat) : List Nat := WM.wordsOf xs ++ [xs.length]
theorem textWords_len (xs : List Nat) (hl : xs.length ≤ 4096) : (textWords xs).length ≤ 513 := by
  unfold textWords
  rw [List.length_append, WM.wordsOf_length]
  unfold WM.need
  simp; omega
theorem u64s_text (xs : List Nat) (hl : xs.length ≤ 4096) : U64s (textWords xs) := fun x hx => by
  unfold textWords at hx
  rcases List.mem_append.1 hx with h | h
  · exact u64s_words xs x h
  · simp at h; omega
theorem oneSl' (w : World) (x : Nat) : Sl (w.alloc (.cells #[.int .u64 x] 42)) .u64 (.slice (some ⟨w.heap.size, 0, none⟩) 1 1) [x] := by
  refine ⟨_, 1, rfl, Nat.le_refl _, fun _ => ⟨w.heap.size, 0, rfl, by simp, fun j hj => ?_⟩⟩
  have hj1 : j < 1 := hj
  obtain rfl : j = 0 := by omega
  simp [go_sem]
end Go.Proofs.Ytmncoclmgcjjjaa

/-
  label: five words compared; Words, Same, Bucket.
-/
namespace Go.Proofs.Ytmncoclmgcjjjaa
open Go.RowKit Go.Shelf Go.Sort

def laVals (L : List Int) : List Value := L.map (Value.int .u64)
theorem laAll_range : ∀ (xs ys : List Int), xs.length = ys.length → ((List.range xs.length).all fun i => xs.getD i 0 == ys.getD i 0) = (xs == ys)
  | [], [], _ => rfl
  | x :: xs, y :: ys, h => by
    have ih := laAll_range xs ys (by simpa using h)
    rw [List.length_cons, List.range_succ_eq_map, List.all_cons, List.all_map]
    simp only [List.getD_cons_zero, Function.comp_def, List.getD_cons_succ, ih]
    simp [List.cons_beq_cons]
  | [], _ :: _, h => by simp at h
  | _ :: _, [], h => by simp at h
theorem laEq_items {P : Program} (d : Nat) (e : TypeId) (he : P.underlying e = some (.int .u64)) (xs ys : List Int) (w : World) :
    ∀ l : List Nat, (∀ i ∈ l, i < xs.length ∧ i < ys.length) → (Op.eqItems (d + 1) e 1 (laVals xs).toArray (laVals ys).toArray l).run P w = .ok (l.all fun i => xs.getD i 0 == ys.getD i 0) w
  | [], _ => by simp [Op.eqItems]
  | i :: l, h => by
    obtain ⟨hx, hy⟩ := h i (by simp)
    have px : (part e (laVals xs).toArray (i * 1)).run P w = .ok (.int .u64 (xs.getD i 0)) w := by
      simp [part, isAgg, run_underlying he, List.getD, laVals, List.getElem?_eq_getElem hx]
    have py : (part e (laVals ys).toArray (i * 1)).run P w = .ok (.int .u64 (ys.getD i 0)) w := by
      simp [part, isAgg, run_underlying he, List.getD, laVals, List.getElem?_eq_getElem hy]
    have ih := laEq_items d e he xs ys w l (fun j hj => h j (by simp [hj]))
    simp only [Op.eqItems, Sem.run_bind, px, py, Result.andThen_ok, run_equalIn_int w d e .u64 .u64 _ _ he, List.all_cons]
    cases hb : (xs.getD i 0 == ys.getD i 0)
    · simp
    · simpa using ih
theorem laEqual {t : TypeId} {n : Nat} (ht : Try.prog.underlying t = some (.array n 42)) (d : Nat) (L M : List Int) (hL : L.length = n) (hM : M.length = n) (w : World) :
    (Op.equalIn (d + 2) t (.agg (laVals L).toArray) (.agg (laVals M).toArray)).run Try.prog w = .ok (L == M) w := by
  obtain ⟨i, hi⟩ := Option.isSome_iff_exists.1 (show (Try.prog.info? 42).isSome = true by kernel_rfl)
  rw [run_equalIn_array (w := w) (d + 1) _ _ ht hi, show Try.prog.cellsOf 42 = 1 by kernel_rfl, laEq_items d 42 Try.underlying42 L M w _ (fun i hi => by rw [List.mem_range] at hi; omega), ← laAll_range L M (by omega), hL]
/-- Are five words the same? -/
def same5 (l m : List Nat) : Bool := decide (∀ i, i < 5 → l[i]?.getD 0 = m[i]?.getD 0)
theorem five_same (l m : List Nat) : (([(l[0]?.getD 0 : Nat), (l[1]?.getD 0 : Nat), (l[2]?.getD 0 : Nat), (l[3]?.getD 0 : Nat), (l[4]?.getD 0 : Nat)] : List Int) == [((m[0]?.getD 0 : Nat) : Int), (m[1]?.getD 0 : Nat), (m[2]?.getD 0 : Nat), (m[3]?.getD 0 : Nat), (m[4]?.getD 0 : Nat)]) = same5 l m := by
  unfold same5
  rw [Bool.eq_iff_iff]
  simp only [beq_iff_eq, decide_eq_true_eq, List.cons.injEq, and_true]
  constructor
  · rintro ⟨h0, h1, h2, h3, h4⟩ i hi
    have : i = 0 ∨ i = 1 ∨ i = 2 ∨ i = 3 ∨ i = 4 := by omega
    rcases this with rfl | rfl | rfl | rfl | rfl
    · exact Int.ofNat_inj.1 h0
    · exact Int.ofNat_inj.1 h1
    · exact Int.ofNat_inj.1 h2
    · exact Int.ofNat_inj.1 h3
    · exact Int.ofNat_inj.1 h4
  · intro h
    exact ⟨congrArg _ (h 0 (by omega)), congrArg _ (h 1 (by omega)), congrArg _ (h 2 (by omega)), congrArg _ (h 3 (by omega)), congrArg _ (h 4 (by omega))⟩
/-- Five stores. -/
def set5 (W : World) (b : Nat) (m : List Nat) : World := ((((W.setCell ⟨b, 0, none⟩ (.int .u64 (m[0]?.getD 0 : Nat))).setCell ⟨b, 1, none⟩ (.int .u64 (m[1]?.getD 0 : Nat))).setCell ⟨b, 2, none⟩ (.int .u64 (m[2]?.getD 0 : Nat))).setCell ⟨b, 3, none⟩ (.int .u64 (m[3]?.getD 0 : Nat))).setCell ⟨b, 4, none⟩ (.int .u64 (m[4]?.getD 0 : Nat))
theorem set5_below {B b : Nat} {w W : World} (h : Below B w W) (hb : B ≤ b) (m : List Nat) : Below B w (set5 W b m) := by
  unfold set5
  exact ((((h.setCell (p := ⟨b, 0, none⟩) hb _).setCell (p := ⟨b, 1, none⟩) hb _).setCell (p := ⟨b, 2, none⟩) hb _).setCell (p := ⟨b, 3, none⟩) hb _).setCell (p := ⟨b, 4, none⟩) hb _
/-- What Words tells. -/
def wordsOut (s : List UInt8) : List Nat := if rightN s then wordsN s else []
/-- Are these a name's words, of so many bytes? -/
def sameOut (s : List UInt8) (l : List Nat) (many : Int) : Bool := rightN s && (many == (s.length : Int)) && same5 (wordsN s) l
end Go.Proofs.Ytmncoclmgcjjjaa

/-
  node: bounds, numbers, chunks.
-/
namespace Go.Proofs.Ytmncoclmgcjjjaa
open Go.RowKit Go.Shelf Go.Sort
attribute [local go_sem] Oper.semAt_some

/-- Does a number lie between? -/
def inB (t : Int × Int × Int) : Bool := decide (t.2.1 ≤ t.1 ∧ t.1 ≤ t.2.2)
/-- Bounds in a block. -/
def BoundsAt (w : World) (g : Nat) (L : List (Int × Int × Int)) : Prop := g < w.heap.size ∧ ∀ k (hk : k < L.length), w.cell? ⟨g, k * 3, none⟩ = some (.int .i64 L[k].1) ∧ w.cell? ⟨g, k * 3 + 1, none⟩ = some (.int .i64 L[k].2.1) ∧ w.cell? ⟨g, k * 3 + 2, none⟩ = some (.int .i64 L[k].2.2)
set_option maxRecDepth 100000 in
theorem within_any (L : List (Int × Int × Int)) (hl : L.length ≤ 100) (g : Nat) (w : World) (h : BoundsAt w g L) :
    Calls Try.prog 49 #[.slice (some ⟨g, 0, none⟩) L.length L.length] w fun e w' => e = .returned (.bool (L.all inB)) ∧ Below w.heap.size w w' := by
  have HC := Lib.hid h
  clear h
  obtain ⟨M, hM⟩ : ∃ M, L.length = M := ⟨_, rfl⟩
  have HM := Lib.hid hM
  rw [hM] at hl ⊢
  clear hM
  go_enter Try.func49, Try.ntmps49
  go_wp2_with fail
  go_loopw [7] (fun i wr => ∃ k : Nat, k ≤ M ∧ i = .int .i64 (k : Nat) ∧ Hid ((L.take k).all inB = true) ∧ Hid (Below w.heap.size w wr)) (fun i _ => M - (intOf i).toNat)
  case atStart => exact ⟨0, Nat.zero_le _, rfl, (show _ = _ from rfl), (show Below _ _ _ from Below.refl _ _)⟩
  case round =>
    obtain ⟨k, hk, rfl, HT, HB⟩ := hrel
    by_cases hlt : k < M
    · have hkl : k < L.length := by rw [HM.out]; exact hlt
      obtain ⟨c0, c1, c2⟩ := HC.out.2 k hkl
      have cw : ∀ o, wr.cell? ⟨g, o, none⟩ = w.cell? ⟨g, o, none⟩ := fun o => HB.out.cell (p := ⟨g, o, none⟩) HC.out.1
      rw [← cw] at c0 c1 c2
      have HA : Hid ((L.take (k + 1)).all inB = inB L[k]) := show _ = _ by
        rw [List.take_succ_eq_append_getElem hkl, List.all_append, HT.out, List.all_cons]; simp
      have HALL : Hid (inB L[k] = false → L.all inB = false) := show _ → _ from fun h => by
        rw [Bool.eq_false_iff]
        intro hh
        rw [(List.all_eq_true.1 hh) _ (List.getElem_mem hkl)] at h
        cases h
      obtain ⟨⟨a, b, c⟩, hx⟩ : ∃ x, L[k] = x := ⟨_, rfl⟩
      rw [hx] at c0 c1 c2 HA HALL
      have k2 : (k : Int) < (M : Int) := by omega
      clear cw hx
      by_cases hab : a < b
      · have HR : Hid (L.all inB = false) := show _ = _ from HALL.out (by unfold inB; simp; omega)
        clear HALL
        go_wp2_with fail
        go_ret
        exact ⟨by rw [HR.out]; rfl, HB.out.alloc HB.out.size _⟩
      · by_cases hca : c < a
        · have HR : Hid (L.all inB = false) := show _ = _ from HALL.out (by unfold inB; simp; omega)
          clear HALL
          go_wp2_with fail
          go_ret
          exact ⟨by rw [HR.out]; rfl, HB.out.alloc HB.out.size _⟩
        · have HT2 : Hid ((L.take (k + 1)).all inB = true) := show _ = _ by rw [HA.out]; unfold inB; simp; omega
          clear HALL HA
          go_wp2_with fail
          go_roundw
          case rel => exact ⟨k + 1, by omega, by go_num, HT2, (show Below _ _ _ from HB.out.alloc HB.out.size _)⟩
          case measure => simp [intOf]; omega
    · obtain rfl : k = M := by omega
      have HR : Hid (L.all inB = true) := show _ = _ by have h := HT.out; rwa [List.take_of_length_le (by rw [HM.out]; exact Nat.le_refl _)] at h
      go_wp2_with fail
      go_ret
      exact ⟨by rw [HR.out]; rfl, HB.out⟩
/-- What a number lies between, by which function. -/
def LiesAt (f : FuncId) (lo hi : Int) : Prop := Enters Try.prog f ∧ ∀ (n : Int) (W : World), Calls Try.prog f #[.int .i64 n] W fun e w' => e = .returned (.agg #[.int .i64 n, .int .i64 lo, .int .i64 hi]) ∧ Below W.heap.size W w'
theorem sized_lies : LiesAt 50 0 448 := ⟨enters_of Try.func50 (by kernel_rfl) rfl, fun n W => by
  go_enter Try.func50, Try.ntmps50
  go_wp2
  refine bodyPost_ret (v := .agg #[.int .i64 n, .int .i64 0, .int .i64 448]) (by simp [results, Try.results50, go_sem]) rfl ⟨rfl, (by repeat (first | exact Below.refl _ _ | assumption | refine Below.drew ?_ | refine below_drewN ?_ _ | refine Below.alloc ?_ (by (try simp) <;> omega) _ | refine Below.setCell ?_ (by (try simp) <;> omega) _ | refine Below.trans ?_ (Below.mono (by assumption) (by (try simp) <;> omega))))⟩⟩
/-- A number among cells. -/
def numAt (x : Array Value) (i : Nat) : Int := match x[i]? with
  | some (.int _ n) => n
  | _ => 0
def rdNum (y : Int) (x : Array Value) (i : Nat) : Option (Array Value) := if y ≤ 1024 then some (x.setIfInBounds i (.int .i64 y)) else none
/-- What a number's part does. -/
def numS (wd i : Nat) (lo hi : Int) : NdS :=
  { ok := fun x => inB (numAt x i, lo, hi), wr := fun x l => l.set wd (numAt x i % 18446744073709551616), rd := fun l x => rdNum (l[wd]?.getD 0) x i }
/-- A closure that tells where a field is. -/
def FieldAt (w : World) (f : FuncId) (lb : Array Value) (i : Nat) : Prop := Enters Try.prog f ∧ ∀ (b : Nat) (W : World), Below w.heap.size w W → Calls Try.prog f (#[.pointer (some ⟨b, 0, none⟩)] ++ lb) W fun e w' => e = .returned (.pointer (some ⟨b, i, none⟩)) ∧ Below W.heap.size W w'
theorem FieldAt.below {w w1 : World} {f : FuncId} {lb : Array Value} {i : Nat} (h : FieldAt w f lb i) (hb : Below w.heap.size w w1) : FieldAt w1 f lb i := ⟨h.1, fun b W hW => h.2 b W (hb.trans (hW.mono hb.size))⟩
structure NumGood (Good : Array Value → Prop) (i : Nat) : Prop where
  at_ : ∀ x, Good x → ∃ n, x[i]? = some (.int .i64 n) ∧ -9223372036854775808 ≤ n ∧ n < 9223372036854775808
  set : ∀ x n, Good x → 0 ≤ n → n ≤ 1024 → Good (x.setIfInBounds i (.int .i64 n))
theorem numAt_of {x : Array Value} {i : Nat} {n : Int} (h : x[i]? = some (.int .i64 n)) : numAt x i = n := by unfold numAt; rw [h]
theorem bounds_one {W : World} (a b c : Int) : BoundsAt (W.alloc (.cells #[.int .i64 a, .int .i64 b, .int .i64 c] 92)) W.heap.size [(a, b, c)] :=
  ⟨by simp, fun k hk => by
    have h0 : k = 0 := by simpa using hk
    subst h0
    have h := Blk.new W 92 #[.int .i64 a, .int .i64 b, .int .i64 c]
    exact ⟨h.cell rfl, h.cell rfl, h.cell rfl⟩⟩
theorem bounds_two {W : World} (a b c d e f : Int) : BoundsAt (W.alloc (.cells #[.int .i64 a, .int .i64 b, .int .i64 c, .int .i64 d, .int .i64 e, .int .i64 f] 92)) W.heap.size [(a, b, c), (d, e, f)] :=
  ⟨by simp, fun k hk => by
    have h := Blk.new W 92 #[.int .i64 a, .int .i64 b, .int .i64 c, .int .i64 d, .int .i64 e, .int .i64 f]
    match k, hk with
    | 0, _ => exact ⟨h.cell rfl, h.cell rfl, h.cell rfl⟩
    | 1, _ => exact ⟨h.cell rfl, h.cell rfl, h.cell rfl⟩⟩
end Go.Proofs.Ytmncoclmgcjjjaa

/-
  file: node.Chunks; Chunks; chunks read, compared; which are nought.
-/
namespace Go.Proofs.Ytmncoclmgcjjjaa
open Go.RowKit Go.Shelf
attribute [local go_sem] Oper.semAt_some

theorem ndList_load9 {P : Program} {ops : Array Oper} {rest : List Oper} {op : Oper} {a : Act} {w : World} {Q : Exit → Act → World → Prop} (hgd : op.guard = none) (ty : TypeId) (x : Operand) (ho : op.op = .load ty x)
    (p v : Value) (hx : a.eval x = p) (hr : (Instr.loadAt ty p).run P w = .ok v w) (h : wpList P ops Q rest (a.put op.dst v) w) : wpList P ops Q (op :: rest) a w :=
  wpList_plain hgd fun _ hK => by
    unfold Oper.wp execOp
    simp only [ho, hx, hr, Sem.run_bind, Result.andThen_ok]
    exact hK _ _ h
theorem ndList_store9 {P : Program} {ops : Array Oper} {rest : List Oper} {op : Oper} {a : Act} {w w' : World} {Q : Exit → Act → World → Prop} (hgd : op.guard = none) (ty : TypeId) (x y : Operand) (ho : op.op = .store ty x y)
    (p v : Value) (hx : a.eval x = p) (hy : a.eval y = v) (hr : (Instr.storeAt ty p v).run P w = .ok () w') (h : wpList P ops Q rest (a.put op.dst undef) w') : wpList P ops Q (op :: rest) a w :=
  wpList_plain hgd fun _ hK => by
    unfold Oper.wp execOp
    simp only [ho, hx, hy, hr, Sem.run_bind, Result.andThen_ok]
    exact hK _ _ h
def chunksN9 (n : Int) : Int := if 0 ≤ n ∧ n ≤ 448 then (n + 63) / 64 else 0
def chunksErr9 (n : Int) : Int := if 0 ≤ n ∧ n ≤ 448 then 0 else 2
set_option maxRecDepth 100000 in
theorem nodeChunks9_any (n : Int) (w : World) : Calls Try.prog 37 #[.int .i64 n] w fun e w' => e = .returned (.tuple #[.int .i64 (chunksN9 n), .int .i64 (chunksErr9 n)]) ∧ Below w.heap.size w w' := by
  have HS := Lib.hid sized_lies
  have HB := Lib.hid (fun V => bounds_one (W := V) n 0 448)
  have HWI := Lib.hid (fun g V h => within_any [(n, 0, 448)] (by simp) g V h)
  by_cases h : 0 ≤ n ∧ n ≤ 448
  · have hin : [(n, (0 : Int), (448 : Int))].all inB = true := by simp [inB, h]
    have HO : Hid (chunksN9 n = (n + 63) / 64 ∧ chunksErr9 n = 0) := show _ ∧ _ from ⟨if_pos h, if_pos h⟩
    rw [hin] at HWI
    obtain ⟨h0, h1⟩ := h
    have w1 : wrap64 (n + 64) = n + 64 := by unfold wrap64; omega
    have w2 : wrap64 (n + 64 - 1) = n + 63 := by unfold wrap64; omega
    have hdv : (n + 63).tdiv 64 = (n + 63) / 64 := by rw [Int.tdiv_eq_ediv_of_nonneg (by omega)]
    have w3 : wrap64 ((n + 63) / 64) = (n + 63) / 64 := by unfold wrap64; omega
    clear hin
    go_enter Try.func37, Try.ntmps37
    go_wp2_with fail
    refine (HS.out.2 n _).mono ?_
    rintro e wA ⟨rfl, hbA⟩
    have HBA := Lib.hid hbA
    clear hbA
    go_wp2_with fail
    refine (HWI.out _ _ (HB.out _)).mono ?_
    rintro e wB ⟨rfl, hbB⟩
    have HBB := Lib.hid (HBA.out.trans ((((Below.refl _ wA).alloc (Nat.le_refl _) _).trans (hbB.mono (by simp))).mono HBA.out.size))
    clear hbB
    go_wp2_with fail
    go_ret2
    exact ⟨by rw [HO.out.1, HO.out.2, show (n + 63 : Int) = n + 64 - 1 by omega]; rfl, HBB.out⟩
  · have hin : [(n, (0 : Int), (448 : Int))].all inB = false := by simp [inB]; omega
    have HO : Hid (chunksN9 n = 0 ∧ chunksErr9 n = 2) := show _ ∧ _ from ⟨if_neg h, if_neg h⟩
    rw [hin] at HWI
    clear hin h
    go_enter Try.func37, Try.ntmps37
    go_wp2_with fail
    refine (HS.out.2 n _).mono ?_
    rintro e wA ⟨rfl, hbA⟩
    have HBA := Lib.hid hbA
    clear hbA
    go_wp2_with fail
    refine (HWI.out _ _ (HB.out _)).mono ?_
    rintro e wB ⟨rfl, hbB⟩
    have HBB := Lib.hid (HBA.out.trans ((((Below.refl _ wA).alloc (Nat.le_refl _) _).trans (hbB.mono (by simp))).mono HBA.out.size))
    clear hbB
    go_wp2_with fail
    go_ret2
    exact ⟨by rw [HO.out.1, HO.out.2]; rfl, HBB.out⟩
/-- A slice of chunks. -/
def VecC (W : World) (u : Value) (L : List (List Int)) : Prop := Vec W u L.length 8 (flatC cL L)
theorem VecC.below {W W' : World} {u : Value} {L : List (List Int)} (h : VecC W u L) (hb : Below W.heap.size W W') : VecC W' u L := Vec.below h hb
theorem vecC_nil (W : World) : VecC W (.slice none 0 0) [] := ⟨by simp [flatC], none, 0, rfl, Nat.le_refl _, fun h => absurd h (by simp)⟩
theorem vecC_load {W : World} {u : Value} {L : List (List Int)} (h : VecC W u L) (h8 : ∀ l ∈ L, l.length = 8) :
    ∃ a cap, u = .slice a L.length cap ∧ L.length ≤ cap ∧ (0 < L.length → ∃ b off, a = some ⟨b, off, none⟩ ∧ b < W.heap.size ∧ ∀ W', Below W.heap.size W W' → ∀ k, k < L.length → (Instr.loadAt 43 (.pointer (some ⟨b, off + k * 8, none⟩))).run Try.prog W' = .ok (.agg (lnA (L[k]?.getD []))) W') := by
  obtain ⟨hlen, a, cap, hv, hc, hx⟩ := id h
  refine ⟨a, cap, hv, hc, fun h0 => ?_⟩
  obtain ⟨b, off, ha, hb, hj⟩ := hx h0
  refine ⟨b, off, ha, hb, fun W' hW' k hk => ?_⟩
  have hl8 : (L[k]?.getD []).length = 8 := by rw [List.getElem?_eq_getElem hk]; exact h8 _ (List.getElem_mem hk)
  have hr : W'.rangeAt b (off + k * 8) (cL (L[k]?.getD [])) := fun j y hy => by
    have hjs : j < 8 := by have := (List.getElem?_eq_some_iff.1 hy).1; rwa [cL_len] at this
    rw [Nat.add_assoc]
    refine (hW'.cell (p := ⟨b, off + (k * 8 + j), none⟩) hb).trans (hj _ _ ?_)
    rw [flatC_at cL_len L k hk j hjs]
    rw [List.getElem?_eq_getElem hk] at hy
    exact hy
  have := run_loadVar_mid (P := Try.prog) W' b (off + k * 8) 43 (cL (L[k]?.getD [])) _ hr Try.underlying43 rfl (by rw [cL_len]; kernel_rfl)
  have e : (cL (L[k]?.getD [])).toArray = lnA (L[k]?.getD []) := by rw [← cL_eq hl8]
  rw [e] at this
  simp only [Instr.loadAt, Instr.sureAddr, Sem.run_bind, Sem.run_pure, Result.andThen_ok, this]
def errK (n : Nat) : Int := if 448 < n then 190 else 0
def outK (xs : List Nat) : List (List Int) := if 448 < xs.length then [] else chF xs
theorem outK_8 (xs : List Nat) : ∀ l ∈ outK xs, l.length = 8 := by
  unfold outK
  split
  · simp
  · exact chF_8 xs
theorem fileChunks_any {v : Value} {xs : List Nat} (w : World) (hv : FB w v xs) :
    Calls Try.prog 18 #[v] w fun e w' => ∃ u, e = .returned (.tuple #[u, .int .i64 (errK xs.length)]) ∧ VecC w' u (outK xs) ∧ Below w.heap.size w w' := by
  have HG := Lib.hid isBig_any
  by_cases h4 : 448 < xs.length
  · have HX : Hid (errK xs.length = 190) := show _ = _ from if_pos h4
    have HY : Hid (outK xs = []) := show _ = _ from if_pos h4
    obtain ⟨a, c, rfl, -⟩ := hv.form
    obtain ⟨n, hn⟩ : ∃ n, xs.length = n := ⟨_, rfl⟩
    rw [hn] at hv HX h4 ⊢
    rw [HX.out, HY.out]
    have hd : decide (448 < (n : Int)) = true := decide_eq_true (by omega)
    clear hv hn h4
    go_enter Try.func18, Try.ntmps18
    go_wp2_with (go_at_call 30; refine (HG.out _ _ _ _).mono ?_; rintro e w' ⟨rfl, rfl⟩; rw [hd])
    go_ret2
    exact ⟨_, rfl, vecC_nil _, (by repeat (first | exact Below.refl _ _ | assumption | refine Below.drew ?_ | refine below_drewN ?_ _ | refine Below.alloc ?_ (by (try simp) <;> omega) _ | refine Below.setCell ?_ (by (try simp) <;> omega) _ | refine Below.trans ?_ (Below.mono (by assumption) (by (try simp) <;> omega))))⟩
  · have HX : Hid (errK xs.length = 0) := show _ = _ from if_neg h4
    have HY : Hid (outK xs = chF xs) := show _ = _ from if_neg h4
    have HP : Hid (∀ W1, w.alloc (.cells #[v, .slice none 0 0] 61) = W1 → Calls Try.prog 32 #[v] W1 fun e w' => ∃ u, e = .returned u ∧ VecC w' u (chF xs) ∧ Below w.heap.size w w') := show ∀ W1, _ from by
      rintro W1 rfl
      have hb : Below w.heap.size w (w.alloc (.cells #[v, .slice none 0 0] 61)) := (Below.refl _ _).alloc (Nat.le_refl _) _
      refine (chunksF_any (by omega) _ (hv.below hb)).mono ?_
      rintro e w' ⟨u, he, hr, hb'⟩
      exact ⟨u, he, by unfold VecC; rw [chF_length]; exact vec_of_own hr, hb.trans (hb'.mono hb.size)⟩
    obtain ⟨a, c, rfl, -⟩ := hv.form
    obtain ⟨n, hn⟩ : ∃ n, xs.length = n := ⟨_, rfl⟩
    rw [hn] at hv HX HP h4 ⊢
    rw [HX.out, HY.out]
    have hd : decide (448 < (n : Int)) = false := decide_eq_false (by omega)
    clear hv hn h4
    go_enter Try.func18, Try.ntmps18
    go_wp2_with (go_at_call 30; refine (HG.out _ _ _ _).mono ?_; rintro e w' ⟨rfl, rfl⟩; rw [hd])
    refine (HP.out _ rfl).mono ?_
    rintro e w' ⟨r, rfl, hr, hb⟩
    go_wp2_with fail
    go_ret2
    exact ⟨r, rfl, hr, hb⟩
set_option maxRecDepth 100000 in
theorem isNought_any (l : List Int) (hl : l.length = 8) (w : World) : Calls Try.prog 35 #[.agg (lnA l)] w fun e w' => e = .returned (.bool (l == zeros8)) ∧ Below w.heap.size w w' := by
  have HE := Lib.hid (fun W => eql_line Try.underlying43 l zeros8 hl rfl W)
  have hz8 : lnA zeros8 = #[.int .u64 0, .int .u64 0, .int .u64 0, .int .u64 0, .int .u64 0, .int .u64 0, .int .u64 0, .int .u64 0] := rfl
  rw [hz8] at HE
  have hle := HE.out
  obtain ⟨bb, hbb⟩ : ∃ bb, (l == zeros8) = bb := ⟨_, rfl⟩
  rw [hbb] at hle ⊢
  have hlo := (Blk.new w 43 (lnA l)).load (P := Try.prog) (tt := 43) Try.underlying43 rfl (by rw [lnA_size, hl]; kernel_rfl)
  obtain ⟨X, hX⟩ : ∃ X, lnA l = X := ⟨_, rfl⟩
  rw [hX] at hle hlo ⊢
  clear hbb hX hl HE hz8
  go_enter Try.func35, Try.ntmps35
  go_wp2_with (refine ndList_load9 rfl 43 _ rfl _ _ rfl hlo ?_)
  go_ret
  exact ⟨rfl, (by repeat (first | exact Below.refl _ _ | assumption | refine Below.drew ?_ | refine below_drewN ?_ _ | refine Below.alloc ?_ (by (try simp) <;> omega) _ | refine Below.setCell ?_ (by (try simp) <;> omega) _ | refine Below.trans ?_ (Below.mono (by assumption) (by (try simp) <;> omega))))⟩
end Go.Proofs.Ytmncoclmgcjjjaa

/-
  file: slices.Equal at chunks; cmp.Or at two errors; the law's num.
-/
namespace Go.Proofs.Ytmncoclmgcjjjaa
open Go.RowKit Go.Shelf
attribute [local go_sem] Oper.semAt_some

theorem exec_load9 {P : Program} {w : World} {o : Oper} {a : Act} {ty : TypeId} {x : Operand} (ho : o.op = .load ty x) {p v : Value} (hx : a.eval x = p) (hr : (Instr.loadAt ty p).run P w = .ok v w) : (execOp a.eval o).run P w = .ok (.value v) w := by
  unfold execOp
  simp only [ho, hx, hr, Sem.run_bind, Result.andThen_ok]
  rfl
theorem num9_any (x : Int) (w : World) : Calls Try.prog 17 #[.int .i64 x] w fun e w' => e = .returned (.int .i64 x) ∧ w = w' := by
  go_enter Try.func17, Try.ntmps17
  go_wp2
  go_ret
  exact ⟨rfl, rfl⟩
set_option maxRecDepth 100000 in
theorem neqLine9 {t : TypeId} (ht : Try.prog.underlying t = some (.array 8 42)) (l m : List Int) (hl : l.length = 8) (hm : m.length = 8) (W : World) : (binOp .neq t (.agg (lnA l)) (.agg (lnA m))).run Try.prog W = .ok (.bool (!(l == m))) W := by
  have h := eql_line ht l m hl hm W
  simp only [binOp, Op.equal, Sem.run_bind]
  rw [show Op.maxDepth = 10000 from rfl, h]
  rfl
set_option maxRecDepth 100000 in
set_option maxHeartbeats 4000000 in
theorem equalC_any {u v : Value} {L M : List (List Int)} (hL : L.length ≤ 100000) (_hM : M.length ≤ 100000) (hL8 : ∀ l ∈ L, l.length = 8) (hM8 : ∀ l ∈ M, l.length = 8) (w : World) (hu : VecC w u L) (hv : VecC w v M) :
    Calls Try.prog 39 #[u, v] w fun e w' => e = .returned (.bool (L == M)) ∧ Below w.heap.size w w' := by
  obtain ⟨a, c, rfl, hac, hA⟩ := vecC_load hu hL8
  obtain ⟨a', c', rfl, hac', hB⟩ := vecC_load hv hM8
  have HA := Lib.hid hA
  have HB := Lib.hid hB
  have HL8 := Lib.hid hL8
  have HM8 := Lib.hid hM8
  clear hA hB hu hv hL8 hM8
  by_cases hl : L.length = M.length
  · have HLM := Lib.hid hl
    obtain ⟨n, hn⟩ : ∃ n, L.length = n := ⟨_, rfl⟩
    have HN := Lib.hid hn
    rw [← hl] at hac' HB ⊢
    rw [hn] at hac hac' HA HB hL ⊢
    have HX : Hid ((∀ k, k < n → L[k]?.getD [] = M[k]?.getD []) → (L == M) = true) := show (_ → _) from fun h => by
      rw [beq_iff_eq]
      apply List.ext_getElem hl
      intro k h1 h2
      have := h k (by omega)
      rwa [List.getElem?_eq_getElem h1, List.getElem?_eq_getElem h2] at this
    have HY : Hid (∀ k, k < n → L[k]?.getD [] ≠ M[k]?.getD [] → (L == M) = false) := show ∀ k, _ from fun k _ h => by
      rw [beq_eq_false_iff_ne]
      rintro rfl
      exact h rfl
    clear hl hn
    go_enter Try.func39, Try.ntmps39
    go_wp2_with fail
    go_loopw [5, 13] (fun x i wr => ∃ k : Nat, k ≤ n ∧ i = .int .i64 k ∧ Hid (∀ j, j < k → L[j]?.getD [] = M[j]?.getD []) ∧ Below w.heap.size w wr) (fun _ i _ => n - (intOf i).toNat)
    case atStart => exact ⟨0, Nat.zero_le _, rfl, (show ∀ j, _ from fun j h => by omega), Below.refl _ _⟩
    case round =>
      obtain ⟨k, hk, rfl, HE, hb⟩ := hrel
      by_cases hlt : k < n
      · obtain ⟨b, off, rfl, hbl, hld⟩ := HA.out (by omega)
        obtain ⟨b', off', rfl, hbl', hld'⟩ := HB.out (by omega)
        have h1 := fun W (hW : Below w.heap.size w W) => hld W hW k hlt
        have h2 := fun W (hW : Below w.heap.size w W) => hld' W hW k hlt
        have h3 := fun W => neqLine9 Try.underlying43 (L[k]?.getD []) (M[k]?.getD []) (by rw [List.getElem?_eq_getElem (by rw [HN.out]; exact hlt)]; exact HL8.out _ (List.getElem_mem _)) (by rw [List.getElem?_eq_getElem (by rw [← HLM.out, HN.out]; exact hlt)]; exact HM8.out _ (List.getElem_mem _)) W
        obtain ⟨X, hX⟩ : ∃ X, lnA (L[k]?.getD []) = X := ⟨_, rfl⟩
        obtain ⟨Y, hY⟩ : ∃ Y, lnA (M[k]?.getD []) = Y := ⟨_, rfl⟩
        rw [hX, hY] at h3
        simp only [hX] at h1
        simp only [hY] at h2
        have hR : (fun W : World => Below w.heap.size w W) wr.drew := Below.drew hb
        have HBQ := Lib.hid hR
        by_cases heq : L[k]?.getD [] = M[k]?.getD []
        · have HE2 : Hid (∀ j, j < k + 1 → L[j]?.getD [] = M[j]?.getD []) := show ∀ j, _ from fun j hj => by
            by_cases hjk : j = k
            · rw [hjk]; exact heq
            · exact HE.out j (by omega)
          have h4 : ∀ W, (binOp .neq 43 (.agg X) (.agg Y)).run Try.prog W = .ok (.bool false) W := fun W => by rw [h3 W, heq]; simp
          clear h3 heq hX hY HA HB
          go_wp2_with fail
          refine wp_region_M 8 (fun W : World => Below w.heap.size w W) (by kernel_rfl) ?_
          (refine wpAnyM_take2 8 (i := 0) (v := ?_) rfl (by kernel_rfl) (by kernel_rfl) (fun _ _ _ h => h) (Or.inl ⟨by rfl, ?_⟩) hR ?_; rotate_left; (focus (intro w hSw; (try dsimp only at hSw); go_simp; (try with_reducible rfl))); (try simp only [put_laws])); (refine wpAnyM_take2 8 (i := 1) (v := ?_) rfl (by kernel_rfl) (by kernel_rfl) (fun _ _ _ h => h) (Or.inl ⟨by rfl, ?_⟩) hR ?_; rotate_left; (focus (intro w hSw; (try dsimp only at hSw); go_simp; (try with_reducible rfl))); (try simp only [put_laws])); (refine wpAnyM_take2 8 (i := 4) (v := ?_) rfl (by kernel_rfl) (by kernel_rfl) (fun _ _ _ h => h) (Or.inl ⟨by rfl, ?_⟩) hR ?_; rotate_left; (focus (intro w hSw; (try dsimp only at hSw); go_simp; (try with_reducible rfl))); (try simp only [put_laws])); (refine wpAnyM_take2 8 (i := 5) (v := ?_) rfl (by kernel_rfl) (by kernel_rfl) (fun _ _ _ h => h) (Or.inl ⟨by rfl, ?_⟩) hR ?_; rotate_left; (focus (intro w hSw; (try dsimp only at hSw); go_simp; (try with_reducible rfl))); (try simp only [put_laws])); (refine wpAnyM_take2 8 (i := 2) (v := ?_) rfl (by kernel_rfl) (by kernel_rfl) (fun _ _ _ h => h) (Or.inl ⟨by rfl, ?_⟩) hR ?_; rotate_left; (focus (intro w hSw; (try dsimp only at hSw); go_simp; (try with_reducible rfl))); (try simp only [put_laws])); (refine wpAnyM_take2 8 (i := 6) (v := ?_) rfl (by kernel_rfl) (by kernel_rfl) (fun _ _ _ h => h) (Or.inl ⟨by rfl, ?_⟩) hR ?_; rotate_left; (focus (intro w hSw; (try dsimp only at hSw); go_simp; (try with_reducible rfl))); (try simp only [put_laws]))
          (refine wpAnyM_take2 8 (i := 3) (v := _) rfl (by kernel_rfl) (by kernel_rfl) (fun _ _ _ h => h) (Or.inl ⟨by rfl, fun w hSw => exec_load9 rfl rfl (h1 w hSw)⟩) hR ?_; (try simp only [put_laws]))
          (refine wpAnyM_take2 8 (i := 7) (v := _) rfl (by kernel_rfl) (by kernel_rfl) (fun _ _ _ h => h) (Or.inl ⟨by rfl, fun w hSw => exec_load9 rfl rfl (h2 w hSw)⟩) hR ?_; (try simp only [put_laws]))
          (refine wpAnyM_last rfl (by kernel_rfl) (fun K hK => ?_); rw [if_pos (by rfl)]; (try simp only [elem_laws]))
          go_simp
          refine hK _ _ ?_
          clear hK K hR
          (try simp only [put_laws])
          refine wpAnyM_done (by kernel_rfl) ?_ _
          go_wp2_with fail
          go_roundw
          case rel => exact ⟨k + 1, by omega, by go_num, HE2, HBQ.out⟩
          case measure => simp [intOf]; omega
        · have HF : Hid ((L == M) = false) := show _ = _ from HY.out k hlt heq
          have h4 : ∀ W, (binOp .neq 43 (.agg X) (.agg Y)).run Try.prog W = .ok (.bool true) W := fun W => by rw [h3 W, beq_eq_false_iff_ne.2 heq]; rfl
          clear h3 heq hX hY HA HB
          go_wp2_with fail
          refine wp_region_M 8 (fun W : World => Below w.heap.size w W) (by kernel_rfl) ?_
          (refine wpAnyM_take2 8 (i := 0) (v := ?_) rfl (by kernel_rfl) (by kernel_rfl) (fun _ _ _ h => h) (Or.inl ⟨by rfl, ?_⟩) hR ?_; rotate_left; (focus (intro w hSw; (try dsimp only at hSw); go_simp; (try with_reducible rfl))); (try simp only [put_laws])); (refine wpAnyM_take2 8 (i := 1) (v := ?_) rfl (by kernel_rfl) (by kernel_rfl) (fun _ _ _ h => h) (Or.inl ⟨by rfl, ?_⟩) hR ?_; rotate_left; (focus (intro w hSw; (try dsimp only at hSw); go_simp; (try with_reducible rfl))); (try simp only [put_laws])); (refine wpAnyM_take2 8 (i := 4) (v := ?_) rfl (by kernel_rfl) (by kernel_rfl) (fun _ _ _ h => h) (Or.inl ⟨by rfl, ?_⟩) hR ?_; rotate_left; (focus (intro w hSw; (try dsimp only at hSw); go_simp; (try with_reducible rfl))); (try simp only [put_laws])); (refine wpAnyM_take2 8 (i := 5) (v := ?_) rfl (by kernel_rfl) (by kernel_rfl) (fun _ _ _ h => h) (Or.inl ⟨by rfl, ?_⟩) hR ?_; rotate_left; (focus (intro w hSw; (try dsimp only at hSw); go_simp; (try with_reducible rfl))); (try simp only [put_laws])); (refine wpAnyM_take2 8 (i := 2) (v := ?_) rfl (by kernel_rfl) (by kernel_rfl) (fun _ _ _ h => h) (Or.inl ⟨by rfl, ?_⟩) hR ?_; rotate_left; (focus (intro w hSw; (try dsimp only at hSw); go_simp; (try with_reducible rfl))); (try simp only [put_laws])); (refine wpAnyM_take2 8 (i := 6) (v := ?_) rfl (by kernel_rfl) (by kernel_rfl) (fun _ _ _ h => h) (Or.inl ⟨by rfl, ?_⟩) hR ?_; rotate_left; (focus (intro w hSw; (try dsimp only at hSw); go_simp; (try with_reducible rfl))); (try simp only [put_laws]))
          (refine wpAnyM_take2 8 (i := 3) (v := _) rfl (by kernel_rfl) (by kernel_rfl) (fun _ _ _ h => h) (Or.inl ⟨by rfl, fun w hSw => exec_load9 rfl rfl (h1 w hSw)⟩) hR ?_; (try simp only [put_laws]))
          (refine wpAnyM_take2 8 (i := 7) (v := _) rfl (by kernel_rfl) (by kernel_rfl) (fun _ _ _ h => h) (Or.inl ⟨by rfl, fun w hSw => exec_load9 rfl rfl (h2 w hSw)⟩) hR ?_; (try simp only [put_laws]))
          (refine wpAnyM_last rfl (by kernel_rfl) (fun K hK => ?_); rw [if_pos (by rfl)]; (try simp only [elem_laws]))
          go_simp
          refine hK _ _ ?_
          clear hK K hR
          (try simp only [put_laws])
          refine wpAnyM_done (by kernel_rfl) ?_ _
          go_wp2_with fail
          go_ret
          exact ⟨ret_bool HF.out.symm, HBQ.out⟩
      · obtain rfl : k = n := by omega
        go_wp2_with fail
        go_ret
        exact ⟨ret_bool (HX.out HE.out).symm, hb⟩
  · have HX : Hid ((L == M) = false) := show _ = _ by rw [beq_eq_false_iff_ne]; exact fun e => hl (by rw [e])
    rw [HX.out]
    obtain ⟨n, hn⟩ : ∃ n, L.length = n := ⟨_, rfl⟩
    obtain ⟨m, hm⟩ : ∃ m, M.length = m := ⟨_, rfl⟩
    rw [hn, hm] at hl ⊢
    have hne : ((n : Int) != (m : Int)) = true := by rw [bne_iff_ne]; omega
    clear hn hm
    go_enter Try.func39, Try.ntmps39
    go_wp2_with fail
    go_ret
    exact ⟨rfl, Below.refl _ _⟩
set_option maxRecDepth 100000 in
set_option maxHeartbeats 2000000 in
theorem or2_any (x y : Int) (B : Nat) (w : World) (h : Blk w B 24 #[.int .i64 x, .int .i64 y]) : Calls Try.prog 41 #[.slice (some ⟨B, 0, none⟩) 2 2] w fun e w' => e = .returned (.int .i64 (if x ≠ 0 then x else y)) ∧ Below w.heap.size w w' := by
  have c0 : w.cell? ⟨B, 0, none⟩ = some (.int .i64 x) := h.cell rfl
  have c1 : w.cell? ⟨B, 1, none⟩ = some (.int .i64 y) := h.cell rfl
  clear h
  go_enter Try.func41, Try.ntmps41
  go_wp2_with fail
  go_loopw [5, 8] (fun z i wr => wr = w ∧ ((i = .int .i64 0) ∨ (i = .int .i64 1 ∧ x = 0) ∨ (i = .int .i64 2 ∧ x = 0 ∧ y = 0))) (fun _ i _ => 2 - (intOf i).toNat)
  case atStart => exact ⟨rfl, .inl rfl⟩
  case round =>
    obtain ⟨rfl, rfl | ⟨rfl, hx⟩ | ⟨rfl, hx, hy⟩⟩ := hrel
    · by_cases hx : x = 0
      · subst hx
        go_wp2_with fail
        go_roundw
        case rel => exact ⟨by first | trivial | rfl, .inr (.inl ⟨by first | trivial | rfl, by first | trivial | rfl⟩)⟩
        case measure => simp [intOf]
      · have hne : (x != 0) = true := by rw [bne_iff_ne]; exact hx
        go_wp2_with fail
        go_ret
        exact ⟨by first | rfl | rw [if_pos hx], Below.refl _ _⟩
    · subst hx
      by_cases hy : y = 0
      · subst hy
        go_wp2_with fail
        go_roundw
        case rel => exact ⟨by first | trivial | rfl, .inr (.inr ⟨by first | trivial | rfl, by first | trivial | rfl, by first | trivial | rfl⟩)⟩
        case measure => simp [intOf]
      · have hne : (y != 0) = true := by rw [bne_iff_ne]; exact hy
        go_wp2_with fail
        go_ret
        exact ⟨rfl, Below.refl _ _⟩
    · subst hx
      subst hy
      go_wp2_with fail
      go_ret
      exact ⟨rfl, Below.refl _ _⟩
end Go.Proofs.Ytmncoclmgcjjjaa
