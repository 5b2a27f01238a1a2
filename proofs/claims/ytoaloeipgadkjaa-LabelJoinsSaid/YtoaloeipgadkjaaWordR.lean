/-
  Contract of the document's Words (waterlineref01).
-/
import Derived.Test.YtoaloeipgadkjaaWordB
import Derived.Test.YtoaloeipgadkjaaWordW
import Derived.Test.YtoaloeipgadkjaaWordS
import Derived.Test.YtoaloeipgadkjaaWordQ
import Derived.Test.YtoaloeipgadkjaaApp
import Derived.StillTailTactics
import Derived.Deep.DeepMust
namespace Go.Proofs.Ytoaloeipgadkjaa
open Go.RowKit

/-- What the slice holds, as values. -/
def upVals (bs : List Nat) (n m : Nat) : List Value := (WM.upTo bs n m).map fun y : Nat => Value.int .u64 (y : Nat)
theorem upVals_length (bs : List Nat) (n m : Nat) : (upVals bs n m).length = n := by simp [upVals, WM.upTo_length]
theorem upVals_at (bs : List Nat) (n m j : Nat) (h : j < n) : (upVals bs n m)[j]? = some (.int .u64 ((WM.wordAt bs j % 2 ^ (m - 64 * j) : Nat) : Int)) := by
  unfold upVals WM.upTo
  rw [List.getElem?_map, List.getElem?_map, List.getElem?_range h]; rfl
theorem upVals_more (bs : List Nat) (n : Nat) : upVals bs (n + 1) (64 * n) = upVals bs n (64 * n) ++ [.int .u64 0] := by
  unfold upVals
  rw [WM.upTo_more, List.map_append]; rfl
theorem upVals_step (bs : List Nat) (hb : WM.Bytes256 bs) (i k : Nat) (hk : k < 8) :
    upVals bs (i / 8 + 1) (8 * i + k + 1) = (upVals bs (i / 8 + 1) (8 * i + k)).set (i / 8) (.int .u64 ((WM.withN (WM.wordAt bs (i / 8) % 2 ^ (8 * (i % 8) + k)) (8 * (i % 8) + k) ((WM.at' bs i).testBit k) : Nat) : Int)) := by
  unfold upVals
  rw [WM.upTo_step bs hb i k hk, List.map_set]
set_option maxRecDepth 100000 in
set_option maxHeartbeats 1000000 in
theorem refWords_own (v : Value) (xs : List Nat) (hl : xs.length ≤ 4096) (hx : WM.Bytes256 xs) (w : World) (hs : Sl w .u8 v xs) :
    Calls Try.prog 29 #[v] w fun e w' => ∃ r, e = .returned r ∧ w'.ownsRow w.heap.size 23 1 r (WM.wordsOf xs).length (valsOf .u64 (WM.wordsOf xs)) ∧ Below w.heap.size w w' := by
  obtain ⟨i0, hi, hz0, hz1, hz2⟩ := info_parts infoU64
  obtain ⟨a, c, b, off, rfl, hlc, ha, hc⟩ := hs.cell
  clear hs
  have k1 : (xs.length : Int) ≤ 4096 := by omega
  have HA := Lib.hid ha; clear ha
  have HC := Lib.hid hc; clear hc
  have HX := Lib.hid hx; clear hx
  go_enter Try.func29, Try.ntmps29
  go_wp2
  go_loopw [3, 4] (fun r i wr => ∃ (k : Nat) (q : Value), q = r ∧ k ≤ xs.length ∧ i = .int .i64 k ∧ wr.ownsRow w.heap.size 23 1 r (WM.need k) (upVals xs (WM.need k) (8 * k)) ∧ Below w.heap.size w wr) (fun _ i _ => xs.length - (intOf i).toNat)
  case atStart => exact ⟨0, _, rfl, Nat.zero_le _, rfl, by simp [upVals, WM.upTo, WM.need, World.ownsRow_nil], Below.refl _ _⟩
  case round =>
    obtain ⟨k, r, rfl, hk, rfl, hrow, hb⟩ := hrel
    have z := hb.size
    by_cases hlt : k < xs.length
    · have k5 : (k : Int) < (xs.length : Int) := by omega
      obtain rfl := HA.out (by omega)
      have hbW := (HC.out (by omega)).1
      have hxk := HX.out k
      obtain ⟨x, hx1⟩ : ∃ x, x = xs[k]?.getD 0 := ⟨_, rfl⟩
      have HCX : Hid (∀ W', Below w.heap.size w W' → W'.cell? ⟨b, off + k, none⟩ = some (.int .u8 (x : Nat))) := fun W' hb' => by
        rw [hx1]; exact (hb'.cell (p := ⟨b, off + k, none⟩) hbW).trans ((HC.out (by omega)).2 k hlt)
      have hx256 : x < 256 := by rw [hx1]; exact hxk
      have HX1 := Lib.hid hx1; clear hx1 hxk
      by_cases h8 : k % 8 = 0
      · have k6 : (k : Int) % 8 = 0 := by omega
        have hn : WM.need k = k / 8 := by unfold WM.need; omega
        have HU := Lib.hid (upVals_more xs (k / 8))
        rw [hn, show 8 * k = 64 * (k / 8) by omega] at hrow
        have hk8 : k / 8 ≤ 512 := by omega
        go_wp2_with (at_builtin; go_must (refine wpList_append_own _ rfl _ _ 62 rfl w.heap.size 23 i0 (.int .u64 0) 1 8 Try.underlying62 hi hz0 hz1 hz2 rfl (by decide) r (k / 8) _ rfl (hrow.alloc _) ⟨wr.heap.size, 0, none⟩ 1 1 [.int .u64 0] rfl rfl (cell_one_new _ _ _) (by simp [Value.oneCell']) (by unfold maxLen; omega) (by omega) (by simp; omega) ?_); intro v' w2 hown' hgrow _)
        obtain ⟨g, cap, rfl⟩ := ownsRow_succ hown'
        rw [← HU.out] at hown'
        have hb2 : Below w.heap.size w w2 := (hb.alloc (by omega) _).grown hgrow (by simp; omega) (fun j e => by have := hrow.lt j e; omega)
        have hn1 : Hid (k / 8 + 1 = WM.need (k + 1)) := by show _ = _; unfold WM.need; omega
        clear hgrow hb hrow z
        have hrow2 : Hid (w2.ownsRow w.heap.size 23 1 (.slice (some ⟨g, 0, none⟩) (k / 8 + 1) cap) (k / 8 + 1) (upVals xs (k / 8 + 1) (8 * k + 0))) := by
          rw [show 8 * k + 0 = 64 * (k / 8) by omega]; exact hown'
        clear hown'
        generalize w2 = wq at *
        go_loopw [5] (fun j wt => ∃ t : Nat, t ≤ 8 ∧ j = .int .i64 t ∧ wt.ownsRow w.heap.size 23 1 (.slice (some ⟨g, 0, none⟩) (k / 8 + 1) cap) (k / 8 + 1) (upVals xs (k / 8 + 1) (8 * k + t)) ∧ Below w.heap.size w wt) (fun j _ => 8 - (intOf j).toNat)
        case atStart => exact ⟨0, by omega, rfl, hrow2.out, hb2⟩
        case round =>
          obtain ⟨t, ht, rfl, hrow3, hb3⟩ := hrel
          by_cases htl : t < 8
          · have c1 := HCX.out wr hb3
            have c2 : wr.cell? ⟨g, k / 8, none⟩ = some (.int .u64 ((WM.wordAt xs (k / 8) % 2 ^ (8 * (k % 8) + t) : Nat) : Int)) := by
              have := World.ownsRow.cellAt hrow3 (k / 8) (by omega)
              rw [upVals_at _ _ _ _ (by omega), show 8 * k + t - 64 * (k / 8) = 8 * (k % 8) + t by omega] at this
              exact this
            have hy := WM.upTo_lt xs (k / 8) (8 * (k % 8) + t)
            have HUS := upVals_step xs HX.out k t htl
            rw [show WM.at' xs k = x from HX1.out.symm] at HUS
            have hlt3 := ownsRow_lt hrow3
            have hfz : wr.frozen? ⟨g, k / 8, none⟩ = false := World.ownsRow.frozenAt hrow3 _
            have hrow4 := Lib.hid (ownsRow_set hrow3.drew (j := k / 8) (.int .u64 ((WM.withN (WM.wordAt xs (k / 8) % 2 ^ (8 * (k % 8) + t)) (8 * (k % 8) + t) (x.testBit t) : Nat) : Int)))
            rw [← HUS] at hrow4
            have hb4 := Lib.hid (hb3.drew.setCell (p := ⟨g, k / 8, none⟩) hlt3.1 (.int .u64 ((WM.withN (WM.wordAt xs (k / 8) % 2 ^ (8 * (k % 8) + t)) (8 * (k % 8) + t) (x.testBit t) : Nat) : Int)))
            have hs64 : 8 * (k % 8) + t < 64 := by omega
            have ew : IntKind.i64.wrap (8 * ((k : Int) % 8) + (t : Int)) = ((8 * (k % 8) + t : Nat) : Int) := (IntWalk.i64_in _ (by omega)).trans (by omega)
            have ew2 : IntKind.i64.wrap (8 * ((k : Int) % 8)) = 8 * ((k : Int) % 8) := IntWalk.i64_in _ (by omega)
            have eq8 : IntKind.i64.wrap ((k : Int) / 8) = ((k / 8 : Nat) : Int) := (IntWalk.i64_in _ (by omega)).trans (by omega)
            have exu : IntKind.u64.wrap (x : Int) = (x : Int) := IntWalk.u64_in _ (by omega)
            have htd : ((k : Int)).tmod 8 = (k : Int) % 8 := Int.tmod_eq_emod_of_nonneg (by omega)
            have htq : ((k : Int)).tdiv 8 = (k : Int) / 8 := Int.tdiv_eq_ediv_of_nonneg (by omega)
            have hq8 : k / 8 < k / 8 + 1 := by omega
            clear hrow3 HUS k6 h8 hn
            generalize hyy : WM.wordAt xs (k / 8) % 2 ^ (8 * (k % 8) + t) = y at *
            generalize hss : 8 * (k % 8) + t = s at *
            clear hyy
            have HSS := Lib.hid hss; clear hss
            have HN1 := hn1
            clear hn1
            generalize hqq : k / 8 = q at *
            have HQQ := Lib.hid hqq; clear hqq
            have hqi : (q : Int) < (q : Int) + 1 := by omega
            go_wp2
            refine wp_region_still_tail 21 (by kernel_rfl) (by kernel_rfl) ?_
            simp only [List.take_succ_cons, List.take_zero, List.drop_succ_cons, List.drop_zero]
            repeat still_step
            still_call ((bit_any x t (Nat.lt_of_lt_of_le htl (by decide)) _).mono fun _ _ ⟨h1, h2⟩ => ⟨h1, h2.symm⟩)
            repeat still_step
            still_call ((with_any' y s _ hs64 hy _).mono fun _ _ ⟨h1, h2⟩ => ⟨h1, h2.symm⟩)
            refine wpStill_nil ?_
            change wpList _ _ _ _ _ wr.drew
            go_wp2
            go_roundw
            case rel => exact ⟨t + 1, by omega, by go_num, hrow4.out, hb4.out⟩
            case measure => simp [intOf]; omega
          · obtain rfl : t = 8 := by omega
            have hrow4 := Lib.hid hrow3
            clear hrow3
            go_wp2
            go_roundw
            case rel => exact ⟨k + 1, _, rfl, by omega, by go_num, by rw [← hn1.out]; exact hrow4.out, hb3⟩
            case measure => simp [intOf]; omega
      · have k6 : ¬ (k : Int) % 8 = 0 := by omega
        have hn : WM.need k = k / 8 + 1 := by unfold WM.need; omega
        rw [hn] at hrow
        obtain ⟨g, cap, rfl⟩ := ownsRow_succ hrow
        have hb2 := hb
        have hn1 : Hid (k / 8 + 1 = WM.need (k + 1)) := by show _ = _; unfold WM.need; omega
        clear hb z
        have hrow2 : Hid (wr.ownsRow w.heap.size 23 1 (.slice (some ⟨g, 0, none⟩) (k / 8 + 1) cap) (k / 8 + 1) (upVals xs (k / 8 + 1) (8 * k + 0))) := hrow
        clear hrow
        go_wp2
        go_loopw [5] (fun j wt => ∃ t : Nat, t ≤ 8 ∧ j = .int .i64 t ∧ wt.ownsRow w.heap.size 23 1 (.slice (some ⟨g, 0, none⟩) (k / 8 + 1) cap) (k / 8 + 1) (upVals xs (k / 8 + 1) (8 * k + t)) ∧ Below w.heap.size w wt) (fun j _ => 8 - (intOf j).toNat)
        case atStart => exact ⟨0, by omega, rfl, hrow2.out, hb2⟩
        case round =>
          obtain ⟨t, ht, rfl, hrow3, hb3⟩ := hrel
          by_cases htl : t < 8
          · have c1 := HCX.out wr hb3
            have c2 : wr.cell? ⟨g, k / 8, none⟩ = some (.int .u64 ((WM.wordAt xs (k / 8) % 2 ^ (8 * (k % 8) + t) : Nat) : Int)) := by
              have := World.ownsRow.cellAt hrow3 (k / 8) (by omega)
              rw [upVals_at _ _ _ _ (by omega), show 8 * k + t - 64 * (k / 8) = 8 * (k % 8) + t by omega] at this
              exact this
            have hy := WM.upTo_lt xs (k / 8) (8 * (k % 8) + t)
            have HUS := upVals_step xs HX.out k t htl
            rw [show WM.at' xs k = x from HX1.out.symm] at HUS
            have hlt3 := ownsRow_lt hrow3
            have hfz : wr.frozen? ⟨g, k / 8, none⟩ = false := World.ownsRow.frozenAt hrow3 _
            have hrow4 := Lib.hid (ownsRow_set hrow3.drew (j := k / 8) (.int .u64 ((WM.withN (WM.wordAt xs (k / 8) % 2 ^ (8 * (k % 8) + t)) (8 * (k % 8) + t) (x.testBit t) : Nat) : Int)))
            rw [← HUS] at hrow4
            have hb4 := Lib.hid (hb3.drew.setCell (p := ⟨g, k / 8, none⟩) hlt3.1 (.int .u64 ((WM.withN (WM.wordAt xs (k / 8) % 2 ^ (8 * (k % 8) + t)) (8 * (k % 8) + t) (x.testBit t) : Nat) : Int)))
            have hs64 : 8 * (k % 8) + t < 64 := by omega
            have ew : IntKind.i64.wrap (8 * ((k : Int) % 8) + (t : Int)) = ((8 * (k % 8) + t : Nat) : Int) := (IntWalk.i64_in _ (by omega)).trans (by omega)
            have ew2 : IntKind.i64.wrap (8 * ((k : Int) % 8)) = 8 * ((k : Int) % 8) := IntWalk.i64_in _ (by omega)
            have eq8 : IntKind.i64.wrap ((k : Int) / 8) = ((k / 8 : Nat) : Int) := (IntWalk.i64_in _ (by omega)).trans (by omega)
            have exu : IntKind.u64.wrap (x : Int) = (x : Int) := IntWalk.u64_in _ (by omega)
            have htd : ((k : Int)).tmod 8 = (k : Int) % 8 := Int.tmod_eq_emod_of_nonneg (by omega)
            have htq : ((k : Int)).tdiv 8 = (k : Int) / 8 := Int.tdiv_eq_ediv_of_nonneg (by omega)
            have hq8 : k / 8 < k / 8 + 1 := by omega
            clear hrow3 HUS k6 h8 hn
            generalize hyy : WM.wordAt xs (k / 8) % 2 ^ (8 * (k % 8) + t) = y at *
            generalize hss : 8 * (k % 8) + t = s at *
            clear hyy
            have HSS := Lib.hid hss; clear hss
            have HN1 := hn1
            clear hn1
            generalize hqq : k / 8 = q at *
            have HQQ := Lib.hid hqq; clear hqq
            have hqi : (q : Int) < (q : Int) + 1 := by omega
            go_wp2
            refine wp_region_still_tail 21 (by kernel_rfl) (by kernel_rfl) ?_
            simp only [List.take_succ_cons, List.take_zero, List.drop_succ_cons, List.drop_zero]
            repeat still_step
            still_call ((bit_any x t (Nat.lt_of_lt_of_le htl (by decide)) _).mono fun _ _ ⟨h1, h2⟩ => ⟨h1, h2.symm⟩)
            repeat still_step
            still_call ((with_any' y s _ hs64 hy _).mono fun _ _ ⟨h1, h2⟩ => ⟨h1, h2.symm⟩)
            refine wpStill_nil ?_
            change wpList _ _ _ _ _ wr.drew
            go_wp2
            go_roundw
            case rel => exact ⟨t + 1, by omega, by go_num, hrow4.out, hb4.out⟩
            case measure => simp [intOf]; omega
          · obtain rfl : t = 8 := by omega
            have hrow4 := Lib.hid hrow3
            clear hrow3
            go_wp2
            go_roundw
            case rel => exact ⟨k + 1, _, rfl, by omega, by go_num, by rw [← hn1.out]; exact hrow4.out, hb3⟩
            case measure => simp [intOf]; omega
    · obtain rfl : k = xs.length := by omega
      go_wp2
      go_ret
      refine ⟨r, rfl, ?_, hb⟩
      rw [← WM.upTo_end xs HX.out]
      rw [WM.upTo_length]; exact hrow
theorem refWords_any (v : Value) (xs : List Nat) (hl : xs.length ≤ 4096) (hx : WM.Bytes256 xs) (w : World) (hs : Sl w .u8 v xs) :
    Calls Try.prog 29 #[v] w fun e w' => ∃ r, e = .returned r ∧ Sl w' .u64 r (WM.wordsOf xs) ∧ Below w.heap.size w w' :=
  (refWords_own v xs hl hx w hs).mono fun _ _ ⟨r, h1, h2, h3⟩ => ⟨r, h1, own_sl h2, h3⟩
end Go.Proofs.Ytoaloeipgadkjaa
