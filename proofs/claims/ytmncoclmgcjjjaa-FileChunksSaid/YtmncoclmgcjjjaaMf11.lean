/-
  Texts FlW to FlW, as one.
-/
import Derived.Test.YtmncoclmgcjjjaaMf10
/-
  file: the document's Changed. Written by gen_flw.py.
-/
namespace Go.Proofs.Ytmncoclmgcjjjaa
open Go.RowKit Go.Shelf
attribute [local go_sem] Oper.semAt_some

def chgP (L M : List (List Int)) (j : Nat) : Bool := decide (L.length ≤ j) || decide (M.length ≤ j) || !(L[j]?.getD [] == M[j]?.getD [])
def chgM (L M : List (List Int)) (k : Nat) : List Nat := (List.range k).filter (chgP L M)
theorem chgM_yes {L M : List (List Int)} {k : Nat} (h : chgP L M k = true) : chgM L M (k + 1) = chgM L M k ++ [k] := by
  unfold chgM
  rw [List.range_succ, List.filter_append]
  simp [h]
theorem chgM_no {L M : List (List Int)} {k : Nat} (h : chgP L M k = false) : chgM L M (k + 1) = chgM L M k := by
  unfold chgM
  rw [List.range_succ, List.filter_append]
  simp [h]
theorem chgM_length (L M : List (List Int)) (k : Nat) : (chgM L M k).length ≤ k := by
  unfold chgM
  exact Nat.le_trans (List.length_filter_le _ _) (by simp)
theorem chgM_all (L M : List (List Int)) : chgM L M (max L.length M.length) = chgS L M := by
  unfold chgS chgM chgK
  by_cases h : L.length < M.length
  · rw [if_pos h, Nat.max_eq_right (by omega)]
    apply List.filter_congr
    intro j hj
    rw [List.mem_range] at hj
    unfold chgP chgB
    rw [decide_eq_false (show ¬ M.length ≤ j by omega), Bool.or_false, Bool.beq_comm]
  · rw [if_neg h, Nat.max_eq_left (by omega)]
    apply List.filter_congr
    intro j hj
    rw [List.mem_range] at hj
    unfold chgP chgB
    rw [decide_eq_false (show ¬ L.length ≤ j by omega), Bool.false_or]
theorem chF_le (xs : List Nat) (h : xs.length ≤ 448) : (chF xs).length ≤ 7 := by rw [chF_length]; unfold chN; omega
set_option maxRecDepth 100000 in
set_option maxHeartbeats 8000000 in
theorem refChanged9_any {v u : Value} {xs ys : List Nat} (hx : xs.length ≤ 448) (hy : ys.length ≤ 448) (hx2 : WM.Bytes256 xs) (hy2 : WM.Bytes256 ys) (w : World) (hv : Sl w .u8 v xs) (hu : Sl w .u8 u ys) :
    Calls Try.prog 26 #[v, u] w fun e w' => ∃ r, e = .returned r ∧ Sl w' .i64 r (chgS (chF xs) (chF ys)) ∧ Below w.heap.size w w' := by
  obtain ⟨i0, hi, hz0, hz1, hz2⟩ := info_parts infoI9
  have HC1 := Lib.hid (refChunks9_any hx hx2 w hv)
  have HC2 : Hid (∀ W, Below w.heap.size w W → Calls Try.prog 20 #[u] W fun e w' => ∃ r, e = .returned r ∧ VecC w' r (chF ys) ∧ Below W.heap.size W w') := show ∀ W, _ from fun W hW => refChunks9_any hy hy2 W (hu.below hW)
  have HX8 := Lib.hid (chF_8 xs)
  have HY8 := Lib.hid (chF_8 ys)
  have hl7 := chF_le xs hx
  have hm7 := chF_le ys hy
  obtain ⟨L, hL⟩ : ∃ L, chF xs = L := ⟨_, rfl⟩
  obtain ⟨M, hM⟩ : ∃ M, chF ys = M := ⟨_, rfl⟩
  rw [hL] at HC1 HX8 hl7 ⊢
  rw [hM] at HC2 HY8 hm7 ⊢
  rw [← chgM_all]
  obtain ⟨a, c, rfl, -⟩ := hv
  obtain ⟨a', c', rfl, -⟩ := hu
  clear hL hM hx hy hx2 hy2
  go_enter Try.func26, Try.ntmps26
  go_wp2_with fail
  refine HC1.out.mono ?_
  rintro e w1 ⟨r1, rfl, hv1, hb1⟩
  have HB1 := Lib.hid hb1
  have HV1 := Lib.hid hv1
  clear hv1 hb1
  go_wp2_with fail
  refine (HC2.out w1 HB1.out).mono ?_
  rintro e w2 ⟨r2, rfl, hv2, hb2⟩
  have HB2 : Hid (Below w.heap.size w w2) := show Below _ _ _ from HB1.out.trans (hb2.mono HB1.out.size)
  obtain ⟨a1, c1, rfl, hac, hA⟩ := vecC_load (HV1.out.below hb2) HX8.out
  obtain ⟨a2, c2, rfl, hac', hA'⟩ := vecC_load hv2 HY8.out
  have HA := Lib.hid hA
  have HA' := Lib.hid hA'
  have HNE := Lib.hid (fun k (h1 : k < L.length) (h2 : k < M.length) W => neqLine9 Try.underlying43 (L[k]?.getD []) (M[k]?.getD []) (by rw [List.getElem?_eq_getElem h1]; exact HX8.out _ (List.getElem_mem h1)) (by rw [List.getElem?_eq_getElem h2]; exact HY8.out _ (List.getElem_mem h2)) W)
  have HP1 := Lib.hid (fun k (h : L.length ≤ k) => show chgP L M k = true by unfold chgP; rw [decide_eq_true h]; rfl)
  have HP2 := Lib.hid (fun k (h1 : ¬ L.length ≤ k) (h : M.length ≤ k) => show chgP L M k = true by unfold chgP; rw [decide_eq_false h1, decide_eq_true h]; rfl)
  have HP3 := Lib.hid (fun k (h1 : ¬ L.length ≤ k) (h2 : ¬ M.length ≤ k) => show chgP L M k = !(L[k]?.getD [] == M[k]?.getD []) by unfold chgP; rw [decide_eq_false h1, decide_eq_false h2]; rfl)
  have HCY := Lib.hid (fun k h => @chgM_yes L M k h)
  have HCN := Lib.hid (fun k h => @chgM_no L M k h)
  have HCL := Lib.hid (fun k => chgM_length L M k)
  obtain ⟨l, hl⟩ : ∃ l, L.length = l := ⟨_, rfl⟩
  obtain ⟨m, hm⟩ : ∃ m, M.length = m := ⟨_, rfl⟩
  rw [hl] at HA HNE HP1 HP2 HP3 hl7 hac ⊢
  rw [hm] at HA' HNE HP2 HP3 hm7 hac' ⊢
  have HLM : Hid (max L.length M.length = max l m) := show _ = _ by rw [hl, hm]
  clear hv2 hb2 hA hA' hl hm
  go_wp2_with fail
  go_loopw [7, 8] (fun v i wr => ∃ (k : Nat) (q : Value), k ≤ max l m ∧ i = .int .i64 k ∧ q = v ∧ wr.ownsRow w2.heap.size 3 1 q (chgM L M k).length (valsOf .i64 (chgM L M k)) ∧ Below w2.heap.size w2 wr) (fun _ i _ => max l m - (intOf i).toNat)
  case atStart => exact ⟨0, _, Nat.zero_le _, rfl, rfl, World.ownsRow_nil _ _ _ _, Below.refl _ _⟩
  case round =>
    obtain ⟨k, q, hk, rfl, rfl, hrow, hb⟩ := hrel
    have HBW : Hid (Below w2.heap.size w2 wr.drew) := show Below _ _ _ from Below.drew hb
    have HRW : Hid (wr.drew.ownsRow w2.heap.size 3 1 q (chgM L M k).length (valsOf .i64 (chgM L M k))) := show World.ownsRow _ _ _ _ _ _ _ from ownsRow_below hrow (Below.drew (Below.refl _ _))
    have hz : w2.heap.size ≤ wr.drew.heap.size := HBW.out.size
    have hlk := HCL.out k
    have hR : (fun W : World => Below w2.heap.size w2 W) wr.drew := Below.drew hb
    obtain ⟨wq, hwq⟩ : ∃ wq, wr.drew = wq := ⟨_, rfl⟩
    rw [hwq] at HBW HRW hz
    have hrw := HRW.out
    by_cases hlt : k < max l m
    · have HY := Lib.hid (fun h => HCY.out k h)
      have HN := Lib.hid (fun h => HCN.out k h)
      have HQ1 := Lib.hid (fun h => HP1.out k h)
      have HQ2 := Lib.hid (fun h h' => HP2.out k h h')
      have HQ3 := Lib.hid (fun h h' => HP3.out k h h')
      obtain ⟨s0, hs0⟩ : ∃ s, chgM L M k = s := ⟨_, rfl⟩
      rw [hs0] at HRW hlk HY HN hrw
      clear hs0 hrow hb
      by_cases h1 : l ≤ k
      · have hge : (l : Int) ≤ (k : Int) := by omega
        have hlt2 : (k : Int) < (m : Int) := by omega
        have hlt1 : ¬ (k : Int) < (l : Int) := by omega
        go_wp2_with fail
        refine wp_region_M 20 (fun W : World => Below w2.heap.size w2 W) (by kernel_rfl) ?_
        (refine wpAnyM_take2 8 (i := 0) (v := ?_) rfl (by kernel_rfl) (by kernel_rfl) (fun _ _ _ h => h) (Or.inl ⟨by rfl, ?_⟩) hR ?_; rotate_left; (focus (intro w hSw; (try dsimp only at hSw); go_simp; (try with_reducible rfl))); (try simp only [put_laws])); (refine wpAnyM_take2 8 (i := 1) (v := ?_) rfl (by kernel_rfl) (by kernel_rfl) (fun _ _ _ h => h) (Or.inl ⟨by rfl, ?_⟩) hR ?_; rotate_left; (focus (intro w hSw; (try dsimp only at hSw); go_simp; (try with_reducible rfl))); (try simp only [put_laws])); (refine wpAnyM_take2 8 (i := 2) (v := ?_) rfl (by kernel_rfl) (by kernel_rfl) (fun _ _ _ h => h) (Or.inl ⟨by rfl, ?_⟩) hR ?_; rotate_left; (focus (intro w hSw; (try dsimp only at hSw); go_simp; (try with_reducible rfl))); (try simp only [put_laws]))
        (refine wpAnyM_take2 8 (i := 3) (v := .bool true) rfl (by kernel_rfl) (by kernel_rfl) (fun _ _ _ h => h) (Or.inl ⟨by rfl, ?_⟩) hR ?_; (focus (intro w hSw; (try dsimp only at hSw); go_simp; (try simp [*]))); (try simp only [put_laws]))
        (refine wpAnyM_take2 8 (i := 4) (v := ?_) rfl (by kernel_rfl) (by kernel_rfl) (fun _ _ _ h => h) (Or.inl ⟨by rfl, ?_⟩) hR ?_; rotate_left; (focus (intro w hSw; (try dsimp only at hSw); go_simp; (try with_reducible rfl))); (try simp only [put_laws]))
        (refine wpAnyM_take2 8 (i := 5) (v := undef) rfl (by kernel_rfl) (by kernel_rfl) (fun _ _ _ h => h) (Or.inr ⟨by rfl, rfl⟩) hR ?_; (try simp only [put_laws])); (refine wpAnyM_take2 8 (i := 6) (v := undef) rfl (by kernel_rfl) (by kernel_rfl) (fun _ _ _ h => h) (Or.inr ⟨by rfl, rfl⟩) hR ?_; (try simp only [put_laws])); (refine wpAnyM_take2 8 (i := 7) (v := undef) rfl (by kernel_rfl) (by kernel_rfl) (fun _ _ _ h => h) (Or.inr ⟨by rfl, rfl⟩) hR ?_; (try simp only [put_laws])); (refine wpAnyM_take2 8 (i := 8) (v := undef) rfl (by kernel_rfl) (by kernel_rfl) (fun _ _ _ h => h) (Or.inr ⟨by rfl, rfl⟩) hR ?_; (try simp only [put_laws]))
        (refine wpAnyM_take2 8 (i := 9) (v := ?_) rfl (by kernel_rfl) (by kernel_rfl) (fun _ _ _ h => h) (Or.inl ⟨by rfl, ?_⟩) hR ?_; rotate_left; (focus (intro w hSw; (try dsimp only at hSw); go_simp; (try with_reducible rfl))); (try simp only [put_laws])); (refine wpAnyM_take2 8 (i := 10) (v := ?_) rfl (by kernel_rfl) (by kernel_rfl) (fun _ _ _ h => h) (Or.inl ⟨by rfl, ?_⟩) hR ?_; rotate_left; (focus (intro w hSw; (try dsimp only at hSw); go_simp; (try with_reducible rfl))); (try simp only [put_laws]))
        (refine wpAnyM_take2 8 (i := 11) (v := undef) rfl (by kernel_rfl) (by kernel_rfl) (fun _ _ _ h => h) (Or.inr ⟨by rfl, rfl⟩) hR ?_; (try simp only [put_laws])); (refine wpAnyM_take2 8 (i := 12) (v := undef) rfl (by kernel_rfl) (by kernel_rfl) (fun _ _ _ h => h) (Or.inr ⟨by rfl, rfl⟩) hR ?_; (try simp only [put_laws])); (refine wpAnyM_take2 8 (i := 13) (v := undef) rfl (by kernel_rfl) (by kernel_rfl) (fun _ _ _ h => h) (Or.inr ⟨by rfl, rfl⟩) hR ?_; (try simp only [put_laws])); (refine wpAnyM_take2 8 (i := 14) (v := undef) rfl (by kernel_rfl) (by kernel_rfl) (fun _ _ _ h => h) (Or.inr ⟨by rfl, rfl⟩) hR ?_; (try simp only [put_laws])); (refine wpAnyM_take2 8 (i := 15) (v := undef) rfl (by kernel_rfl) (by kernel_rfl) (fun _ _ _ h => h) (Or.inr ⟨by rfl, rfl⟩) hR ?_; (try simp only [put_laws])); (refine wpAnyM_take2 8 (i := 16) (v := undef) rfl (by kernel_rfl) (by kernel_rfl) (fun _ _ _ h => h) (Or.inr ⟨by rfl, rfl⟩) hR ?_; (try simp only [put_laws])); (refine wpAnyM_take2 8 (i := 17) (v := undef) rfl (by kernel_rfl) (by kernel_rfl) (fun _ _ _ h => h) (Or.inr ⟨by rfl, rfl⟩) hR ?_; (try simp only [put_laws])); (refine wpAnyM_take2 8 (i := 18) (v := undef) rfl (by kernel_rfl) (by kernel_rfl) (fun _ _ _ h => h) (Or.inr ⟨by rfl, rfl⟩) hR ?_; (try simp only [put_laws])); (refine wpAnyM_take2 8 (i := 19) (v := undef) rfl (by kernel_rfl) (by kernel_rfl) (fun _ _ _ h => h) (Or.inr ⟨by rfl, rfl⟩) hR ?_; (try simp only [put_laws]))
        (refine wpAnyM_last rfl (by kernel_rfl) (fun K hK => ?_); rw [if_pos (by rfl)]; (try simp only [elem_laws]))
        go_simp
        refine hK _ _ ?_
        clear hK K hR
        (try simp only [put_laws])
        refine wpAnyM_done (by kernel_rfl) ?_ _
        (try rw [hwq])
        have hY := HY.out (HQ1.out h1)
        have HYY := Lib.hid hY
        clear hY HY HN
        go_wp2_with (at_builtin; refine wpList_append_own _ rfl _ _ 45 rfl w2.heap.size 3 i0 (.int .i64 0) 1 8 Try.underlying45 hi hz0 hz1 hz2 rfl (by decide) q _ _ rfl (hrw.alloc _) ⟨wq.heap.size, 0, none⟩ 1 1 [.int .i64 (k : Nat)] rfl rfl (cell_one_new _ _ _) (by simp [Value.oneCell']) (by unfold maxLen; omega) (by omega) (by rw [World.size_alloc]; omega) ?_; intro v' w4 hown' hgrow _)
        go_roundw
        case rel =>
          refine ⟨k + 1, _, by omega, by go_num, rfl, ?_, ?_⟩
          · rw [HYY.out, List.length_append, valsOf_append]; exact hown'
          · exact (HBW.out.alloc HBW.out.size _).grown hgrow (by have := HBW.out.size; rw [World.size_alloc]; omega) (fun j e => (hrw.lt j e).1)
        case measure => simp [intOf]; omega
      by_cases h2 : m ≤ k
      · have hge : (m : Int) ≤ (k : Int) := by omega
        have hlt1 : (k : Int) < (l : Int) := by omega
        have hnl : ¬ (l : Int) ≤ (k : Int) := by omega
        go_wp2_with fail
        refine wp_region_M 20 (fun W : World => Below w2.heap.size w2 W) (by kernel_rfl) ?_
        (refine wpAnyM_take2 8 (i := 0) (v := ?_) rfl (by kernel_rfl) (by kernel_rfl) (fun _ _ _ h => h) (Or.inl ⟨by rfl, ?_⟩) hR ?_; rotate_left; (focus (intro w hSw; (try dsimp only at hSw); go_simp; (try with_reducible rfl))); (try simp only [put_laws])); (refine wpAnyM_take2 8 (i := 1) (v := ?_) rfl (by kernel_rfl) (by kernel_rfl) (fun _ _ _ h => h) (Or.inl ⟨by rfl, ?_⟩) hR ?_; rotate_left; (focus (intro w hSw; (try dsimp only at hSw); go_simp; (try with_reducible rfl))); (try simp only [put_laws])); (refine wpAnyM_take2 8 (i := 2) (v := ?_) rfl (by kernel_rfl) (by kernel_rfl) (fun _ _ _ h => h) (Or.inl ⟨by rfl, ?_⟩) hR ?_; rotate_left; (focus (intro w hSw; (try dsimp only at hSw); go_simp; (try with_reducible rfl))); (try simp only [put_laws]))
        (refine wpAnyM_take2 8 (i := 3) (v := .bool false) rfl (by kernel_rfl) (by kernel_rfl) (fun _ _ _ h => h) (Or.inl ⟨by rfl, ?_⟩) hR ?_; (focus (intro w hSw; (try dsimp only at hSw); go_simp; (try simp [*]))); (try simp only [put_laws]))
        (refine wpAnyM_take2 8 (i := 4) (v := ?_) rfl (by kernel_rfl) (by kernel_rfl) (fun _ _ _ h => h) (Or.inl ⟨by rfl, ?_⟩) hR ?_; rotate_left; (focus (intro w hSw; (try dsimp only at hSw); go_simp; (try with_reducible rfl))); (try simp only [put_laws])); (refine wpAnyM_take2 8 (i := 5) (v := ?_) rfl (by kernel_rfl) (by kernel_rfl) (fun _ _ _ h => h) (Or.inl ⟨by rfl, ?_⟩) hR ?_; rotate_left; (focus (intro w hSw; (try dsimp only at hSw); go_simp; (try with_reducible rfl))); (try simp only [put_laws])); (refine wpAnyM_take2 8 (i := 6) (v := ?_) rfl (by kernel_rfl) (by kernel_rfl) (fun _ _ _ h => h) (Or.inl ⟨by rfl, ?_⟩) hR ?_; rotate_left; (focus (intro w hSw; (try dsimp only at hSw); go_simp; (try with_reducible rfl))); (try simp only [put_laws])); (refine wpAnyM_take2 8 (i := 7) (v := ?_) rfl (by kernel_rfl) (by kernel_rfl) (fun _ _ _ h => h) (Or.inl ⟨by rfl, ?_⟩) hR ?_; rotate_left; (focus (intro w hSw; (try dsimp only at hSw); go_simp; (try with_reducible rfl))); (try simp only [put_laws]))
        (refine wpAnyM_take2 8 (i := 8) (v := .bool true) rfl (by kernel_rfl) (by kernel_rfl) (fun _ _ _ h => h) (Or.inl ⟨by rfl, ?_⟩) hR ?_; (focus (intro w hSw; (try dsimp only at hSw); go_simp; (try simp [*]))); (try simp only [put_laws]))
        (refine wpAnyM_take2 8 (i := 9) (v := ?_) rfl (by kernel_rfl) (by kernel_rfl) (fun _ _ _ h => h) (Or.inl ⟨by rfl, ?_⟩) hR ?_; rotate_left; (focus (intro w hSw; (try dsimp only at hSw); go_simp; (try with_reducible rfl))); (try simp only [put_laws])); (refine wpAnyM_take2 8 (i := 10) (v := ?_) rfl (by kernel_rfl) (by kernel_rfl) (fun _ _ _ h => h) (Or.inl ⟨by rfl, ?_⟩) hR ?_; rotate_left; (focus (intro w hSw; (try dsimp only at hSw); go_simp; (try with_reducible rfl))); (try simp only [put_laws]))
        (refine wpAnyM_take2 8 (i := 11) (v := undef) rfl (by kernel_rfl) (by kernel_rfl) (fun _ _ _ h => h) (Or.inr ⟨by rfl, rfl⟩) hR ?_; (try simp only [put_laws])); (refine wpAnyM_take2 8 (i := 12) (v := undef) rfl (by kernel_rfl) (by kernel_rfl) (fun _ _ _ h => h) (Or.inr ⟨by rfl, rfl⟩) hR ?_; (try simp only [put_laws])); (refine wpAnyM_take2 8 (i := 13) (v := undef) rfl (by kernel_rfl) (by kernel_rfl) (fun _ _ _ h => h) (Or.inr ⟨by rfl, rfl⟩) hR ?_; (try simp only [put_laws])); (refine wpAnyM_take2 8 (i := 14) (v := undef) rfl (by kernel_rfl) (by kernel_rfl) (fun _ _ _ h => h) (Or.inr ⟨by rfl, rfl⟩) hR ?_; (try simp only [put_laws])); (refine wpAnyM_take2 8 (i := 15) (v := undef) rfl (by kernel_rfl) (by kernel_rfl) (fun _ _ _ h => h) (Or.inr ⟨by rfl, rfl⟩) hR ?_; (try simp only [put_laws])); (refine wpAnyM_take2 8 (i := 16) (v := undef) rfl (by kernel_rfl) (by kernel_rfl) (fun _ _ _ h => h) (Or.inr ⟨by rfl, rfl⟩) hR ?_; (try simp only [put_laws])); (refine wpAnyM_take2 8 (i := 17) (v := undef) rfl (by kernel_rfl) (by kernel_rfl) (fun _ _ _ h => h) (Or.inr ⟨by rfl, rfl⟩) hR ?_; (try simp only [put_laws])); (refine wpAnyM_take2 8 (i := 18) (v := undef) rfl (by kernel_rfl) (by kernel_rfl) (fun _ _ _ h => h) (Or.inr ⟨by rfl, rfl⟩) hR ?_; (try simp only [put_laws])); (refine wpAnyM_take2 8 (i := 19) (v := undef) rfl (by kernel_rfl) (by kernel_rfl) (fun _ _ _ h => h) (Or.inr ⟨by rfl, rfl⟩) hR ?_; (try simp only [put_laws]))
        (refine wpAnyM_last rfl (by kernel_rfl) (fun K hK => ?_); rw [if_pos (by rfl)]; (try simp only [elem_laws]))
        go_simp
        refine hK _ _ ?_
        clear hK K hR
        (try simp only [put_laws])
        refine wpAnyM_done (by kernel_rfl) ?_ _
        (try rw [hwq])
        have hY := HY.out (HQ2.out h1 h2)
        have HYY := Lib.hid hY
        clear hY HY HN
        go_wp2_with (at_builtin; refine wpList_append_own _ rfl _ _ 45 rfl w2.heap.size 3 i0 (.int .i64 0) 1 8 Try.underlying45 hi hz0 hz1 hz2 rfl (by decide) q _ _ rfl (hrw.alloc _) ⟨wq.heap.size, 0, none⟩ 1 1 [.int .i64 (k : Nat)] rfl rfl (cell_one_new _ _ _) (by simp [Value.oneCell']) (by unfold maxLen; omega) (by omega) (by rw [World.size_alloc]; omega) ?_; intro v' w4 hown' hgrow _)
        go_roundw
        case rel =>
          refine ⟨k + 1, _, by omega, by go_num, rfl, ?_, ?_⟩
          · rw [HYY.out, List.length_append, valsOf_append]; exact hown'
          · exact (HBW.out.alloc HBW.out.size _).grown hgrow (by have := HBW.out.size; rw [World.size_alloc]; omega) (fun j e => (hrw.lt j e).1)
        case measure => simp [intOf]; omega
      obtain ⟨b1, o1, rfl, hbl, hld⟩ := HA.out (by omega)
      obtain ⟨b2, o2, rfl, hbl', hld'⟩ := HA'.out (by omega)
      have hd1 := fun W (hW : Below w2.heap.size w2 W) => hld W hW k (by omega)
      have hd2 := fun W (hW : Below w2.heap.size w2 W) => hld' W hW k (by omega)
      have hd3 := HNE.out k (by omega) (by omega)
      have hq := HQ3.out h1 h2
      obtain ⟨X, hX⟩ : ∃ X, lnA (L[k]?.getD []) = X := ⟨_, rfl⟩
      obtain ⟨Y, hY⟩ : ∃ Y, lnA (M[k]?.getD []) = Y := ⟨_, rfl⟩
      obtain ⟨bb, hbb⟩ : ∃ bb, (!(L[k]?.getD [] == M[k]?.getD [])) = bb := ⟨_, rfl⟩
      simp only [hX] at hd1
      simp only [hY] at hd2
      rw [hX, hY, hbb] at hd3
      rw [hbb] at hq
      have HQQ := Lib.hid hq
      have hlt1 : (k : Int) < (l : Int) := by omega
      have hnl : ¬ (l : Int) ≤ (k : Int) := by omega
      have hnm : ¬ (m : Int) ≤ (k : Int) := by omega
      have hlt2 : (k : Int) < (m : Int) := by omega
      clear hq hX hY hbb hld hld' HA HA' HNE
      go_wp2_with fail
      refine wp_region_M 20 (fun W : World => Below w2.heap.size w2 W) (by kernel_rfl) ?_
      (refine wpAnyM_take2 8 (i := 0) (v := ?_) rfl (by kernel_rfl) (by kernel_rfl) (fun _ _ _ h => h) (Or.inl ⟨by rfl, ?_⟩) hR ?_; rotate_left; (focus (intro w hSw; (try dsimp only at hSw); go_simp; (try with_reducible rfl))); (try simp only [put_laws])); (refine wpAnyM_take2 8 (i := 1) (v := ?_) rfl (by kernel_rfl) (by kernel_rfl) (fun _ _ _ h => h) (Or.inl ⟨by rfl, ?_⟩) hR ?_; rotate_left; (focus (intro w hSw; (try dsimp only at hSw); go_simp; (try with_reducible rfl))); (try simp only [put_laws])); (refine wpAnyM_take2 8 (i := 2) (v := ?_) rfl (by kernel_rfl) (by kernel_rfl) (fun _ _ _ h => h) (Or.inl ⟨by rfl, ?_⟩) hR ?_; rotate_left; (focus (intro w hSw; (try dsimp only at hSw); go_simp; (try with_reducible rfl))); (try simp only [put_laws]))
      (refine wpAnyM_take2 8 (i := 3) (v := .bool false) rfl (by kernel_rfl) (by kernel_rfl) (fun _ _ _ h => h) (Or.inl ⟨by rfl, ?_⟩) hR ?_; (focus (intro w hSw; (try dsimp only at hSw); go_simp; (try simp [*]))); (try simp only [put_laws]))
      (refine wpAnyM_take2 8 (i := 4) (v := ?_) rfl (by kernel_rfl) (by kernel_rfl) (fun _ _ _ h => h) (Or.inl ⟨by rfl, ?_⟩) hR ?_; rotate_left; (focus (intro w hSw; (try dsimp only at hSw); go_simp; (try with_reducible rfl))); (try simp only [put_laws])); (refine wpAnyM_take2 8 (i := 5) (v := ?_) rfl (by kernel_rfl) (by kernel_rfl) (fun _ _ _ h => h) (Or.inl ⟨by rfl, ?_⟩) hR ?_; rotate_left; (focus (intro w hSw; (try dsimp only at hSw); go_simp; (try with_reducible rfl))); (try simp only [put_laws])); (refine wpAnyM_take2 8 (i := 6) (v := ?_) rfl (by kernel_rfl) (by kernel_rfl) (fun _ _ _ h => h) (Or.inl ⟨by rfl, ?_⟩) hR ?_; rotate_left; (focus (intro w hSw; (try dsimp only at hSw); go_simp; (try with_reducible rfl))); (try simp only [put_laws])); (refine wpAnyM_take2 8 (i := 7) (v := ?_) rfl (by kernel_rfl) (by kernel_rfl) (fun _ _ _ h => h) (Or.inl ⟨by rfl, ?_⟩) hR ?_; rotate_left; (focus (intro w hSw; (try dsimp only at hSw); go_simp; (try with_reducible rfl))); (try simp only [put_laws]))
      (refine wpAnyM_take2 8 (i := 8) (v := .bool false) rfl (by kernel_rfl) (by kernel_rfl) (fun _ _ _ h => h) (Or.inl ⟨by rfl, ?_⟩) hR ?_; (focus (intro w hSw; (try dsimp only at hSw); go_simp; (try simp [*]))); (try simp only [put_laws]))
      (refine wpAnyM_take2 8 (i := 9) (v := ?_) rfl (by kernel_rfl) (by kernel_rfl) (fun _ _ _ h => h) (Or.inl ⟨by rfl, ?_⟩) hR ?_; rotate_left; (focus (intro w hSw; (try dsimp only at hSw); go_simp; (try with_reducible rfl))); (try simp only [put_laws])); (refine wpAnyM_take2 8 (i := 10) (v := ?_) rfl (by kernel_rfl) (by kernel_rfl) (fun _ _ _ h => h) (Or.inl ⟨by rfl, ?_⟩) hR ?_; rotate_left; (focus (intro w hSw; (try dsimp only at hSw); go_simp; (try with_reducible rfl))); (try simp only [put_laws])); (refine wpAnyM_take2 8 (i := 11) (v := ?_) rfl (by kernel_rfl) (by kernel_rfl) (fun _ _ _ h => h) (Or.inl ⟨by rfl, ?_⟩) hR ?_; rotate_left; (focus (intro w hSw; (try dsimp only at hSw); go_simp; (try with_reducible rfl))); (try simp only [put_laws])); (refine wpAnyM_take2 8 (i := 12) (v := ?_) rfl (by kernel_rfl) (by kernel_rfl) (fun _ _ _ h => h) (Or.inl ⟨by rfl, ?_⟩) hR ?_; rotate_left; (focus (intro w hSw; (try dsimp only at hSw); go_simp; (try with_reducible rfl))); (try simp only [put_laws])); (refine wpAnyM_take2 8 (i := 13) (v := ?_) rfl (by kernel_rfl) (by kernel_rfl) (fun _ _ _ h => h) (Or.inl ⟨by rfl, ?_⟩) hR ?_; rotate_left; (focus (intro w hSw; (try dsimp only at hSw); go_simp; (try with_reducible rfl))); (try simp only [put_laws]))
      (refine wpAnyM_take2 8 (i := 14) (v := _) rfl (by kernel_rfl) (by kernel_rfl) (fun _ _ _ h => h) (Or.inl ⟨by rfl, fun w hSw => exec_load9 rfl rfl (hd1 w hSw)⟩) hR ?_; (try simp only [put_laws]))
      (refine wpAnyM_take2 8 (i := 15) (v := ?_) rfl (by kernel_rfl) (by kernel_rfl) (fun _ _ _ h => h) (Or.inl ⟨by rfl, ?_⟩) hR ?_; rotate_left; (focus (intro w hSw; (try dsimp only at hSw); go_simp; (try with_reducible rfl))); (try simp only [put_laws])); (refine wpAnyM_take2 8 (i := 16) (v := ?_) rfl (by kernel_rfl) (by kernel_rfl) (fun _ _ _ h => h) (Or.inl ⟨by rfl, ?_⟩) hR ?_; rotate_left; (focus (intro w hSw; (try dsimp only at hSw); go_simp; (try with_reducible rfl))); (try simp only [put_laws])); (refine wpAnyM_take2 8 (i := 17) (v := ?_) rfl (by kernel_rfl) (by kernel_rfl) (fun _ _ _ h => h) (Or.inl ⟨by rfl, ?_⟩) hR ?_; rotate_left; (focus (intro w hSw; (try dsimp only at hSw); go_simp; (try with_reducible rfl))); (try simp only [put_laws]))
      (refine wpAnyM_take2 8 (i := 18) (v := _) rfl (by kernel_rfl) (by kernel_rfl) (fun _ _ _ h => h) (Or.inl ⟨by rfl, fun w hSw => exec_load9 rfl rfl (hd2 w hSw)⟩) hR ?_; (try simp only [put_laws]))
      (refine wpAnyM_take2 8 (i := 19) (v := ?_) rfl (by kernel_rfl) (by kernel_rfl) (fun _ _ _ h => h) (Or.inl ⟨by rfl, ?_⟩) hR ?_; rotate_left; (focus (intro w hSw; (try dsimp only at hSw); go_simp; (try with_reducible rfl))); (try simp only [put_laws]))
      (refine wpAnyM_last rfl (by kernel_rfl) (fun K hK => ?_); rw [if_pos (by rfl)]; (try simp only [elem_laws]))
      go_simp
      refine hK _ _ ?_
      clear hK K hR
      (try simp only [put_laws])
      refine wpAnyM_done (by kernel_rfl) ?_ _
      (try rw [hwq])
      clear hd1 hd2 hd3
      cases bb with
      | true =>
        have hY := HY.out HQQ.out
        have HYY := Lib.hid hY
        clear hY HY HN
        go_wp2_with (at_builtin; refine wpList_append_own _ rfl _ _ 45 rfl w2.heap.size 3 i0 (.int .i64 0) 1 8 Try.underlying45 hi hz0 hz1 hz2 rfl (by decide) q _ _ rfl (hrw.alloc _) ⟨wq.heap.size, 0, none⟩ 1 1 [.int .i64 (k : Nat)] rfl rfl (cell_one_new _ _ _) (by simp [Value.oneCell']) (by unfold maxLen; omega) (by omega) (by rw [World.size_alloc]; omega) ?_; intro v' w4 hown' hgrow _)
        go_roundw
        case rel =>
          refine ⟨k + 1, _, by omega, by go_num, rfl, ?_, ?_⟩
          · rw [HYY.out, List.length_append, valsOf_append]; exact hown'
          · exact (HBW.out.alloc HBW.out.size _).grown hgrow (by have := HBW.out.size; rw [World.size_alloc]; omega) (fun j e => (hrw.lt j e).1)
        case measure => simp [intOf]; omega
      | false =>
        have hN := HN.out HQQ.out
        have HNN := Lib.hid hN
        clear hN HY HN
        go_wp2_with fail
        go_roundw
        case rel => exact ⟨k + 1, _, by omega, by go_num, rfl, by rw [HNN.out]; exact hrw, HBW.out⟩
        case measure => simp [intOf]; omega
    · obtain rfl : k = max l m := by omega
      have HS : Hid (Sl wr .i64 q (chgM L M (max L.length M.length))) := show Sl _ _ _ _ from by
        rw [HLM.out]
        exact own_sl hrow
      obtain ⟨kk, hkk⟩ : ∃ kk, max l m = kk := ⟨_, rfl⟩
      have hl1 : ¬ (kk : Int) < (l : Int) := by omega
      have hl2 : ¬ (kk : Int) < (m : Int) := by omega
      have HKK := Lib.hid hkk
      have HBB : Hid (Below w.heap.size w wr) := show Below _ _ _ from HB2.out.trans (hb.mono HB2.out.size)
      rw [hkk]
      clear hkk hrw hR hrow hlt hk
      go_wp2_with fail
      go_ret
      exact ⟨_, rfl, HS.out, HBB.out⟩
end Go.Proofs.Ytmncoclmgcjjjaa
