/-
  file: the document's Holes.
-/
import Derived.Test.YtmncoclmgcjjjaaMf11
namespace Go.Proofs.Ytmncoclmgcjjjaa
open Go.RowKit Go.Shelf
attribute [local go_sem] Oper.semAt_some

/-- The numbers of chunks that are nought. -/
def holK (L : List (List Int)) (k : Nat) : List Nat := (List.range k).filter fun j => L[j]?.getD [] == zeros8
def holF (L : List (List Int)) : List Nat := holK L L.length
theorem holK_yes {L : List (List Int)} {k : Nat} (h : (L[k]?.getD [] == zeros8) = true) : holK L (k + 1) = holK L k ++ [k] := by
  unfold holK
  rw [List.range_succ, List.filter_append]
  simp [h]
theorem holK_no {L : List (List Int)} {k : Nat} (h : (L[k]?.getD [] == zeros8) = false) : holK L (k + 1) = holK L k := by
  unfold holK
  rw [List.range_succ, List.filter_append]
  simp [h]
theorem holK_length (L : List (List Int)) (k : Nat) : (holK L k).length ≤ k := by
  unfold holK
  exact Nat.le_trans (List.length_filter_le _ _) (by simp)
set_option maxRecDepth 100000 in
set_option maxHeartbeats 8000000 in
theorem refHoles9_any {v : Value} {xs : List Nat} (hx : xs.length ≤ 448) (hx2 : WM.Bytes256 xs) (w : World) (hv : Sl w .u8 v xs) :
    Calls Try.prog 22 #[v] w fun e w' => ∃ r, e = .returned r ∧ Sl w' .i64 r (holF (chF xs)) ∧ Below w.heap.size w w' := by
  obtain ⟨i0, hi, hz0, hz1, hz2⟩ := info_parts infoI9
  have HC1 := Lib.hid (refChunks9_any hx hx2 w hv)
  have HX8 := Lib.hid (chF_8 xs)
  have hl7 := chF_le xs hx
  obtain ⟨L, hL⟩ : ∃ L, chF xs = L := ⟨_, rfl⟩
  rw [hL] at HC1 HX8 hl7 ⊢
  obtain ⟨a, c, rfl, -⟩ := hv
  clear hL hx hx2
  go_enter Try.func22, Try.ntmps22
  go_wp2_with fail
  refine HC1.out.mono ?_
  rintro e w1 ⟨r1, rfl, hv1, hb1⟩
  have HB1 := Lib.hid hb1
  obtain ⟨a1, c1, rfl, hac, hA⟩ := vecC_load hv1 HX8.out
  have HA := Lib.hid hA
  have HEQ := Lib.hid (fun k (h1 : k < L.length) W => eql_line Try.underlying43 (L[k]?.getD []) zeros8 (by rw [List.getElem?_eq_getElem h1]; exact HX8.out _ (List.getElem_mem h1)) rfl W)
  have hz8 : lnA zeros8 = #[.int .u64 0, .int .u64 0, .int .u64 0, .int .u64 0, .int .u64 0, .int .u64 0, .int .u64 0, .int .u64 0] := rfl
  rw [hz8] at HEQ
  have HCY := Lib.hid (fun k h => @holK_yes L k h)
  have HCN := Lib.hid (fun k h => @holK_no L k h)
  have HCL := Lib.hid (fun k => holK_length L k)
  obtain ⟨l, hl⟩ : ∃ l, L.length = l := ⟨_, rfl⟩
  have HLL := Lib.hid hl
  rw [hl] at HA HEQ hl7 hac ⊢
  clear hv1 hb1 hA hl hz8
  go_wp2_with fail
  go_loopw [3, 5] (fun v i wr => ∃ (k : Nat) (q : Value), k ≤ l ∧ i = .int .i64 k ∧ q = v ∧ wr.ownsRow w1.heap.size 3 1 q (holK L k).length (valsOf .i64 (holK L k)) ∧ Below w1.heap.size w1 wr) (fun _ i _ => l - (intOf i).toNat)
  case atStart => exact ⟨0, _, Nat.zero_le _, rfl, rfl, World.ownsRow_nil _ _ _ _, Below.refl _ _⟩
  case round =>
    obtain ⟨k, q, hk, rfl, rfl, hrow, hb⟩ := hrel
    have z := hb.size
    by_cases hlt : k < l
    · obtain ⟨b, off, rfl, hbl, hld⟩ := HA.out (by omega)
      have h1 := hld wr hb k hlt
      have h2 := HEQ.out k hlt
      have hlk := HCL.out k
      have HY := Lib.hid (fun h => HCY.out k h)
      have HN := Lib.hid (fun h => HCN.out k h)
      obtain ⟨s0, hs0⟩ : ∃ s, holK L k = s := ⟨_, rfl⟩
      rw [hs0] at hrow hlk HY HN
      obtain ⟨bb, hbb⟩ : ∃ bb, (L[k]?.getD [] == zeros8) = bb := ⟨_, rfl⟩
      rw [hbb] at h2 HY HN
      obtain ⟨X, hX⟩ : ∃ X, lnA (L[k]?.getD []) = X := ⟨_, rfl⟩
      rw [hX] at h1 h2
      clear hs0 hbb hX hld HEQ HA
      cases bb with
      | true =>
        have hy := HY.out rfl
        have HYY := Lib.hid hy
        clear hy HY HN
        go_wp2_with (first | (refine ndList_load9 rfl 43 _ rfl _ _ rfl h1 ?_) | (at_builtin; refine wpList_append_own _ rfl _ _ 45 rfl w1.heap.size 3 i0 (.int .i64 0) 1 8 Try.underlying45 hi hz0 hz1 hz2 rfl (by decide) q _ _ rfl (hrow.alloc _) ⟨wr.heap.size, 0, none⟩ 1 1 [.int .i64 (k : Nat)] rfl rfl (cell_one_new _ _ _) (by simp [Value.oneCell']) (by unfold maxLen; omega) (by omega) (by rw [World.size_alloc]; omega) ?_; intro v' w4 hown' hgrow _))
        go_roundw
        case rel =>
          refine ⟨k + 1, _, by omega, by go_num, rfl, ?_, ?_⟩
          · rw [HYY.out, List.length_append, valsOf_append]; exact hown'
          · exact (hb.alloc z _).grown hgrow (by rw [World.size_alloc]; omega) (fun j e => (hrow.lt j e).1)
        case measure => simp [intOf]; omega
      | false =>
        have hn := HN.out rfl
        have HNN := Lib.hid hn
        clear hn HY HN
        go_wp2_with (first | (refine ndList_load9 rfl 43 _ rfl _ _ rfl h1 ?_))
        go_roundw
        case rel => exact ⟨k + 1, _, by omega, by go_num, rfl, by rw [HNN.out]; exact hrow, hb⟩
        case measure => simp [intOf]; omega
    · obtain rfl : k = l := by omega
      have HS : Hid (Sl wr .i64 q (holF L)) := show Sl _ _ _ _ from by
        unfold holF
        rw [HLL.out]
        exact own_sl hrow
      have HBB : Hid (Below w.heap.size w wr) := show Below _ _ _ from HB1.out.trans (hb.mono HB1.out.size)
      clear hrow hb
      go_wp2_with fail
      go_ret
      exact ⟨_, rfl, HS.out, HBB.out⟩
end Go.Proofs.Ytmncoclmgcjjjaa
