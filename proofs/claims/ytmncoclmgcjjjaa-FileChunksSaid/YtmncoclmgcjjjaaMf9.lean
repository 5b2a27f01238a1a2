/-
  Texts FlN to FlG, as one.
-/
import Derived.Test.YtmncoclmgcjjjaaMf8
import Derived.Lib.SmallJoins
/-
  file: the closure of Changed; numbers.
-/
namespace Go.Proofs.Ytmncoclmgcjjjaa
open Go.RowKit Go.Shelf
attribute [local go_sem] Oper.semAt_some

/-- Is a chunk unlike the one of that number in another list, or alone? -/
def chgB (M : List (List Int)) (k : Nat) (l : List Int) : Bool := decide (M.length ≤ k) || !(l == M[k]?.getD [])
/-- The numbers of those. -/
def chgK (L M : List (List Int)) (k : Nat) : List Nat := (List.range k).filter fun j => chgB M j (L[j]?.getD [])
theorem chgK_zero (L M : List (List Int)) : chgK L M 0 = [] := rfl
theorem chgK_yes {L M : List (List Int)} {k : Nat} (h : chgB M k (L[k]?.getD []) = true) : chgK L M (k + 1) = chgK L M k ++ [k] := by
  unfold chgK
  rw [List.range_succ, List.filter_append]
  simp [h]
theorem chgK_no {L M : List (List Int)} {k : Nat} (h : chgB M k (L[k]?.getD []) = false) : chgK L M (k + 1) = chgK L M k := by
  unfold chgK
  rw [List.range_succ, List.filter_append]
  simp [h]
theorem chgK_length (L M : List (List Int)) (k : Nat) : (chgK L M k).length ≤ k := by
  unfold chgK
  exact Nat.le_trans (List.length_filter_le _ _) (by simp)
set_option maxRecDepth 100000 in
set_option maxHeartbeats 4000000 in
theorem changed1_any {u : Value} {M : List (List Int)} {l : List Int} (k B : Nat) (hk : k ≤ 100000) (hM : M.length ≤ 100000) (hM8 : ∀ l ∈ M, l.length = 8) (hl : l.length = 8) (w : World) (hB : Boxed w B 35 u) (hu : VecC w u M) :
    Calls Try.prog 43 #[.int .i64 k, .agg (lnA l), .pointer (some ⟨B, 0, none⟩)] w fun e w' => e = .returned (.bool (chgB M k l)) ∧ Below w.heap.size w w' := by
  obtain ⟨a, c, rfl, hac, hA⟩ := vecC_load hu hM8
  have HA := Lib.hid hA
  have h3 := fun (h : k < M.length) W => neqLine9 Try.underlying43 l (M[k]?.getD []) hl (by rw [List.getElem?_eq_getElem h]; exact hM8 _ (List.getElem_mem h)) W
  have HC := Lib.hid (show (k < M.length → chgB M k l = !(l == M[k]?.getD [])) ∧ (M.length ≤ k → chgB M k l = true) from ⟨fun h => by unfold chgB; rw [decide_eq_false (by omega)]; rfl, fun h => by unfold chgB; rw [decide_eq_true h]; rfl⟩)
  obtain ⟨m, hm⟩ : ∃ m, M.length = m := ⟨_, rfl⟩
  have HB := Lib.hid hB
  rw [hm] at hac HA HC HB h3 hM
  have hXs : (lnA l).size = 8 := by rw [lnA_size, hl]
  obtain ⟨W1, hW1⟩ : ∃ W1, w.alloc (.cells (lnA l) 43) = W1 := ⟨_, rfl⟩
  have hb1 : Below w.heap.size w W1 := by rw [← hW1]; exact (Below.refl _ _).alloc (Nat.le_refl _) _
  have hx1 : Blk W1 w.heap.size 43 (lnA l) := by rw [← hW1]; exact Blk.new _ _ _
  have HLD : Hid (∀ W, Below W1.heap.size W1 W → (Instr.loadAt 43 (.pointer (some ⟨w.heap.size, 0, none⟩))).run Try.prog W = .ok (.agg (lnA l)) W) := show ∀ W, _ from fun W hW => (hx1.below hW hx1.lt).load Try.underlying43 rfl (by rw [hXs]; kernel_rfl)
  obtain ⟨X, hX⟩ : ∃ X, lnA l = X := ⟨_, rfl⟩
  simp only [hX] at HLD h3 hW1
  rw [hX]
  have HB1 := Lib.hid hb1
  have hcB : ∀ W, Below W1.heap.size W1 W → W.cell? ⟨B, 0, none⟩ = some (.slice a m c) := fun W hW => (hW.cell (p := ⟨B, 0, none⟩) (Nat.lt_of_lt_of_le HB.out.lt hb1.size)).trans ((hb1.cell (p := ⟨B, 0, none⟩) HB.out.lt).trans HB.out.cell)
  have hdr : Below W1.heap.size W1 W1.drew := Below.drew (Below.refl _ _)
  have hR : (fun W : World => Below W1.heap.size W1 W ∧ W.cell? ⟨B, 0, none⟩ = some (.slice a m c)) W1.drew := ⟨hdr, hcB _ hdr⟩
  have HBD : Hid (Below w.heap.size w W1.drew) := show Below _ _ _ from hb1.trans (hdr.mono hb1.size)
  have HW := Lib.hid hW1
  clear hA hB hu hM8 hm hXs hW1 hb1 hx1 hX hcB hdr
  by_cases hlt : k < m
  · obtain ⟨b, off, rfl, hbl, hld⟩ := HA.out (by omega)
    have h2 : ∀ W, Below W1.heap.size W1 W → (Instr.loadAt 43 (.pointer (some ⟨b, off + k * 8, none⟩))).run Try.prog W = .ok (.agg (lnA (M[k]?.getD []))) W := fun W hW => hld W (HB1.out.trans (hW.mono HB1.out.size)) k hlt
    have h4 := h3 hlt
    have HO := Lib.hid (HC.out.1 hlt)
    obtain ⟨Y, hY⟩ : ∃ Y, lnA (M[k]?.getD []) = Y := ⟨_, rfl⟩
    simp only [hY] at h2 h4
    obtain ⟨bb, hbb⟩ : ∃ bb, (!(l == M[k]?.getD [])) = bb := ⟨_, rfl⟩
    rw [hbb] at h4 HO
    have h5 := HLD.out
    have hge : ¬ (m : Int) ≤ (k : Int) := by omega
    clear hld h3 hY hbb HA
    go_enter Try.func43, Try.ntmps43
    go_wp2_with fail
    rw [HW.out]
    refine wp_region_M 12 (fun W : World => Below W1.heap.size W1 W ∧ W.cell? ⟨B, 0, none⟩ = some (.slice (some ⟨b, off, none⟩) m c)) (by kernel_rfl) ?_
    (refine wpAnyM_take2 8 (i := 0) (v := ?_) rfl (by kernel_rfl) (by kernel_rfl) (fun _ _ _ h => h) (Or.inl ⟨by rfl, ?_⟩) hR ?_; rotate_left; (focus (intro w hSw; (try dsimp only at hSw); go_simp; (try with_reducible rfl))); (try simp only [put_laws])); (refine wpAnyM_take2 8 (i := 1) (v := ?_) rfl (by kernel_rfl) (by kernel_rfl) (fun _ _ _ h => h) (Or.inl ⟨by rfl, ?_⟩) hR ?_; rotate_left; (focus (intro w hSw; (try dsimp only at hSw); go_simp; (try with_reducible rfl))); (try simp only [put_laws])); (refine wpAnyM_take2 8 (i := 2) (v := ?_) rfl (by kernel_rfl) (by kernel_rfl) (fun _ _ _ h => h) (Or.inl ⟨by rfl, ?_⟩) hR ?_; rotate_left; (focus (intro w hSw; (try dsimp only at hSw); go_simp; (try with_reducible rfl))); (try simp only [put_laws]))
    (refine wpAnyM_take2 8 (i := 3) (v := .bool false) rfl (by kernel_rfl) (by kernel_rfl) (fun _ _ _ h => h) (Or.inl ⟨by rfl, ?_⟩) hR ?_; (focus (intro w hSw; (try dsimp only at hSw); go_simp; (try simp [hge]))); (try simp only [put_laws]))
    (refine wpAnyM_take2 8 (i := 4) (v := ?_) rfl (by kernel_rfl) (by kernel_rfl) (fun _ _ _ h => h) (Or.inl ⟨by rfl, ?_⟩) hR ?_; rotate_left; (focus (intro w hSw; (try dsimp only at hSw); go_simp; (try with_reducible rfl))); (try simp only [put_laws]))
    (refine wpAnyM_take2 8 (i := 5) (v := _) rfl (by kernel_rfl) (by kernel_rfl) (fun _ _ _ h => h) (Or.inl ⟨by rfl, fun w hSw => exec_load9 rfl rfl (h5 w hSw.1)⟩) hR ?_; (try simp only [put_laws]))
    (refine wpAnyM_take2 8 (i := 6) (v := ?_) rfl (by kernel_rfl) (by kernel_rfl) (fun _ _ _ h => h) (Or.inl ⟨by rfl, ?_⟩) hR ?_; rotate_left; (focus (intro w hSw; (try dsimp only at hSw); go_simp; (try with_reducible rfl))); (try simp only [put_laws])); (refine wpAnyM_take2 8 (i := 7) (v := ?_) rfl (by kernel_rfl) (by kernel_rfl) (fun _ _ _ h => h) (Or.inl ⟨by rfl, ?_⟩) hR ?_; rotate_left; (focus (intro w hSw; (try dsimp only at hSw); go_simp; (try with_reducible rfl))); (try simp only [put_laws])); (refine wpAnyM_take2 8 (i := 8) (v := ?_) rfl (by kernel_rfl) (by kernel_rfl) (fun _ _ _ h => h) (Or.inl ⟨by rfl, ?_⟩) hR ?_; rotate_left; (focus (intro w hSw; (try dsimp only at hSw); go_simp; (try with_reducible rfl))); (try simp only [put_laws]))
    (refine wpAnyM_take2 8 (i := 9) (v := _) rfl (by kernel_rfl) (by kernel_rfl) (fun _ _ _ h => h) (Or.inl ⟨by rfl, fun w hSw => exec_load9 rfl rfl (h2 w hSw.1)⟩) hR ?_; (try simp only [put_laws]))
    (refine wpAnyM_take2 8 (i := 10) (v := ?_) rfl (by kernel_rfl) (by kernel_rfl) (fun _ _ _ h => h) (Or.inl ⟨by rfl, ?_⟩) hR ?_; rotate_left; (focus (intro w hSw; (try dsimp only at hSw); go_simp; (try with_reducible rfl))); (try simp only [put_laws])); (refine wpAnyM_take2 8 (i := 11) (v := ?_) rfl (by kernel_rfl) (by kernel_rfl) (fun _ _ _ h => h) (Or.inl ⟨by rfl, ?_⟩) hR ?_; rotate_left; (focus (intro w hSw; (try dsimp only at hSw); go_simp; (try with_reducible rfl))); (try simp only [put_laws]))
    (refine wpAnyM_last rfl (by kernel_rfl) (fun K hK => ?_); rw [if_pos (by rfl)]; (try simp only [elem_laws]))
    go_simp
    refine hK _ _ ?_
    clear hK K hR
    (try simp only [put_laws])
    refine wpAnyM_done (by kernel_rfl) ?_ _
    go_wp2_with fail
    go_ret
    exact ⟨ret_bool HO.out.symm, HBD.out⟩
  · have HO := Lib.hid (HC.out.2 (by omega))
    have hge : (m : Int) ≤ (k : Int) := by omega
    clear h3 HA HLD
    go_enter Try.func43, Try.ntmps43
    go_wp2_with fail
    rw [HW.out]
    refine wp_region_M 12 (fun W : World => Below W1.heap.size W1 W ∧ W.cell? ⟨B, 0, none⟩ = some (.slice a m c)) (by kernel_rfl) ?_
    (refine wpAnyM_take2 8 (i := 0) (v := ?_) rfl (by kernel_rfl) (by kernel_rfl) (fun _ _ _ h => h) (Or.inl ⟨by rfl, ?_⟩) hR ?_; rotate_left; (focus (intro w hSw; (try dsimp only at hSw); go_simp; (try with_reducible rfl))); (try simp only [put_laws])); (refine wpAnyM_take2 8 (i := 1) (v := ?_) rfl (by kernel_rfl) (by kernel_rfl) (fun _ _ _ h => h) (Or.inl ⟨by rfl, ?_⟩) hR ?_; rotate_left; (focus (intro w hSw; (try dsimp only at hSw); go_simp; (try with_reducible rfl))); (try simp only [put_laws])); (refine wpAnyM_take2 8 (i := 2) (v := ?_) rfl (by kernel_rfl) (by kernel_rfl) (fun _ _ _ h => h) (Or.inl ⟨by rfl, ?_⟩) hR ?_; rotate_left; (focus (intro w hSw; (try dsimp only at hSw); go_simp; (try with_reducible rfl))); (try simp only [put_laws]))
    (refine wpAnyM_take2 8 (i := 3) (v := .bool true) rfl (by kernel_rfl) (by kernel_rfl) (fun _ _ _ h => h) (Or.inl ⟨by rfl, ?_⟩) hR ?_; (focus (intro w hSw; (try dsimp only at hSw); go_simp; (try simp [hge]))); (try simp only [put_laws]))
    (refine wpAnyM_take2 8 (i := 4) (v := ?_) rfl (by kernel_rfl) (by kernel_rfl) (fun _ _ _ h => h) (Or.inl ⟨by rfl, ?_⟩) hR ?_; rotate_left; (focus (intro w hSw; (try dsimp only at hSw); go_simp; (try with_reducible rfl))); (try simp only [put_laws]))
    (refine wpAnyM_take2 8 (i := 5) (v := undef) rfl (by kernel_rfl) (by kernel_rfl) (fun _ _ _ h => h) (Or.inr ⟨by rfl, rfl⟩) hR ?_; (try simp only [put_laws])); (refine wpAnyM_take2 8 (i := 6) (v := undef) rfl (by kernel_rfl) (by kernel_rfl) (fun _ _ _ h => h) (Or.inr ⟨by rfl, rfl⟩) hR ?_; (try simp only [put_laws])); (refine wpAnyM_take2 8 (i := 7) (v := undef) rfl (by kernel_rfl) (by kernel_rfl) (fun _ _ _ h => h) (Or.inr ⟨by rfl, rfl⟩) hR ?_; (try simp only [put_laws])); (refine wpAnyM_take2 8 (i := 8) (v := undef) rfl (by kernel_rfl) (by kernel_rfl) (fun _ _ _ h => h) (Or.inr ⟨by rfl, rfl⟩) hR ?_; (try simp only [put_laws])); (refine wpAnyM_take2 8 (i := 9) (v := undef) rfl (by kernel_rfl) (by kernel_rfl) (fun _ _ _ h => h) (Or.inr ⟨by rfl, rfl⟩) hR ?_; (try simp only [put_laws])); (refine wpAnyM_take2 8 (i := 10) (v := undef) rfl (by kernel_rfl) (by kernel_rfl) (fun _ _ _ h => h) (Or.inr ⟨by rfl, rfl⟩) hR ?_; (try simp only [put_laws]))
    (refine wpAnyM_take2 8 (i := 11) (v := ?_) rfl (by kernel_rfl) (by kernel_rfl) (fun _ _ _ h => h) (Or.inl ⟨by rfl, ?_⟩) hR ?_; rotate_left; (focus (intro w hSw; (try dsimp only at hSw); go_simp; (try with_reducible rfl))); (try simp only [put_laws]))
    (refine wpAnyM_last rfl (by kernel_rfl) (fun K hK => ?_); rw [if_pos (by rfl)]; (try simp only [elem_laws]))
    go_simp
    refine hK _ _ ?_
    clear hK K hR
    (try simp only [put_laws])
    refine wpAnyM_done (by kernel_rfl) ?_ _
    go_wp2_with fail
    go_ret
    exact ⟨ret_bool HO.out.symm, HBD.out⟩
theorem infoI9 : (Try.prog.info? 3).map (fun i => (i.zero, i.size, i.bytes)) = some (some (.int .i64 0), 1, 8) := by kernel_rfl
set_option maxRecDepth 100000 in
set_option maxHeartbeats 4000000 in
theorem numbers_any {u v : Value} {L M : List (List Int)} (B : Nat) (hL : L.length ≤ 1000) (hM : M.length ≤ 1000) (hL8 : ∀ l ∈ L, l.length = 8) (hM8 : ∀ l ∈ M, l.length = 8) (w : World) (hB : Boxed w B 35 u) (hu : VecC w u M) (hv : VecC w v L) :
    Calls Try.prog 42 #[v, .func (.func 43) #[] #[.pointer (some ⟨B, 0, none⟩)]] w fun e w' => ∃ r, e = .returned r ∧ Sl w' .i64 r (chgK L M L.length) ∧ Below w.heap.size w w' := by
  obtain ⟨i0, hi, hz0, hz1, hz2⟩ := info_parts infoI9
  have HCH : Hid (∀ W, Below w.heap.size w W → ∀ k l, k ≤ 100000 → l.length = 8 → Calls Try.prog 43 #[.int .i64 (k : Nat), .agg (lnA l), .pointer (some ⟨B, 0, none⟩)] W fun e w' => e = .returned (.bool (chgB M k l)) ∧ Below W.heap.size W w') := show ∀ W, _ from fun W hW k l hk hl =>
    changed1_any k B hk (by omega) hM8 hl W ((hW.block _ hB.lt).trans hB) (hu.below hW)
  obtain ⟨a, c, rfl, hac, hA⟩ := vecC_load hv hL8
  have HA := Lib.hid hA
  have HL8 : Hid (∀ k, k < L.length → (L[k]?.getD []).length = 8) := show ∀ k, _ from fun k hk => by rw [List.getElem?_eq_getElem hk]; exact hL8 _ (List.getElem_mem hk)
  obtain ⟨n, hn⟩ : ∃ n, L.length = n := ⟨_, rfl⟩
  rw [hn] at hac HA HL8 hL ⊢
  clear hA hB hu hv hL8 hM8 hn
  go_enter Try.func42, Try.ntmps42
  go_wp2_with fail
  go_loopw [5, 6, 7, 10] (fun v x p i wr => ∃ (k : Nat) (q : Value), k ≤ n ∧ i = .int .i64 k ∧ q = v ∧ wr.ownsRow w.heap.size 3 1 q (chgK L M k).length (valsOf .i64 (chgK L M k)) ∧ Below w.heap.size w wr) (fun _ _ _ i _ => n - (intOf i).toNat)
  case atStart => exact ⟨0, _, Nat.zero_le _, rfl, rfl, World.ownsRow_nil _ _ _ _, Below.refl _ _⟩
  case round =>
    obtain ⟨k, q, hk, rfl, rfl, hrow, hb⟩ := hrel
    have z := hb.size
    by_cases hlt : k < n
    · obtain ⟨b, off, rfl, hbl, hld⟩ := HA.out (by omega)
      have h1 := hld wr hb k hlt
      have h8 := HL8.out k hlt
      have hlk := chgK_length L M k
      have HY := Lib.hid (fun h => @chgK_yes L M k h)
      have HN := Lib.hid (fun h => @chgK_no L M k h)
      have HCK := Lib.hid (fun W hW => HCH.out W hW k (L[k]?.getD []) (by omega) h8)
      have hb1 : Below wr.heap.size wr (wr.alloc (.cells (lnA zeros8) 43)) := (Below.refl _ _).alloc (Nat.le_refl _) _
      have hXs : (lnA (L[k]?.getD [])).size = 8 := by rw [lnA_size, h8]
      obtain ⟨W2, hst, hx2, ht2⟩ := (Blk.new wr 43 (lnA zeros8)).store (P := Try.prog) (tt := 43) (Y := lnA (L[k]?.getD [])) (by rw [hXs]; kernel_rfl) (by rw [hXs]; rfl) (lnA_one _)
      have hl2 := hx2.load (P := Try.prog) (tt := 43) Try.underlying43 rfl (by rw [hXs]; kernel_rfl)
      have hb2 : Below wr.heap.size wr W2 := hb1.trans (ht2.below (B := wr.heap.size) (fun k hk => by omega) hb1.size)
      have HBW : Hid (Below w.heap.size w W2) := show Below _ _ _ from hb.trans (hb2.mono z)
      have HRW : Hid (W2.ownsRow w.heap.size 3 1 q (chgK L M k).length (valsOf .i64 (chgK L M k))) := show World.ownsRow _ _ _ _ _ _ _ from ownsRow_below hrow hb2
      have hz8 : lnA zeros8 = #[.int .u64 0, .int .u64 0, .int .u64 0, .int .u64 0, .int .u64 0, .int .u64 0, .int .u64 0, .int .u64 0] := rfl
      rw [hz8] at hst
      obtain ⟨s0, hs0⟩ : ∃ s, chgK L M k = s := ⟨_, rfl⟩
      rw [hs0] at HRW hlk HY HN
      obtain ⟨bb, hbb⟩ : ∃ bb, chgB M k (L[k]?.getD []) = bb := ⟨_, rfl⟩
      rw [hbb] at HCK HY HN
      obtain ⟨X, hX⟩ : ∃ X, lnA (L[k]?.getD []) = X := ⟨_, rfl⟩
      rw [hX] at h1 hst hl2 HCK
      clear hx2 ht2 hb1 hb2 hz8 hs0 hbb hX hXs hld hrow hb h8
      go_wp2_with (first | (refine ndList_load9 rfl 43 _ rfl _ _ rfl h1 ?_) | (refine ndList_load9 rfl 43 _ rfl _ _ rfl hl2 ?_) | (refine ndList_store9 rfl 43 _ _ rfl _ _ rfl rfl hst ?_))
      refine (HCK.out W2 HBW.out).mono ?_
      rintro e W3 ⟨rfl, hb3⟩
      have HB3 : Hid (Below w.heap.size w W3) := show Below _ _ _ from HBW.out.trans (hb3.mono HBW.out.size)
      have hrow3 := ownsRow_below HRW.out hb3
      have z3 := HB3.out.size
      cases bb with
      | true =>
        have HYE := HY.out rfl
        have HYH := Lib.hid HYE
        clear HYE HY HN h1 hl2 hst hb3
        go_wp2_with (at_builtin; refine wpList_append_own _ rfl _ _ 45 rfl w.heap.size 3 i0 (.int .i64 0) 1 8 Try.underlying45 hi hz0 hz1 hz2 rfl (by decide) q _ _ rfl (hrow3.alloc _) ⟨W3.heap.size, 0, none⟩ 1 1 [.int .i64 (k : Nat)] rfl rfl (cell_one_new _ _ _) (by simp [Value.oneCell']) (by unfold maxLen; omega) (by omega) (by simp; omega) ?_; intro v' w4 hown' hgrow _)
        go_roundw
        case rel =>
          refine ⟨k + 1, _, by omega, by go_num, rfl, ?_, (HB3.out.alloc (by omega) _).grown hgrow (by simp; omega) (fun j e => (hrow3.lt j e).1)⟩
          rw [HYH.out, List.length_append, valsOf_append]; exact hown'
        case measure => simp [intOf]; omega
      | false =>
        have HNE := HN.out rfl
        have HNH := Lib.hid HNE
        clear HNE HY HN h1 hl2 hst hb3
        go_wp2_with fail
        go_roundw
        case rel => exact ⟨k + 1, _, by omega, by go_num, rfl, by rw [HNH.out]; exact hrow3, HB3.out⟩
        case measure => simp [intOf]; omega
    · obtain rfl : k = n := by omega
      have HR : Hid (Sl wr .i64 q (chgK L M k)) := show Sl _ _ _ _ from own_sl hrow
      go_wp2_with fail
      go_ret
      exact ⟨_, rfl, HR.out, hb⟩
end Go.Proofs.Ytmncoclmgcjjjaa

/-
  file: the contract of Changed.
-/
namespace Go.Proofs.Ytmncoclmgcjjjaa
open Go.RowKit Go.Shelf
attribute [local go_sem] Oper.semAt_some

/-- The numbers of chunks that change. -/
def chgS (L M : List (List Int)) : List Nat := if L.length < M.length then chgK M L M.length else chgK L M L.length
def errC (xs ys : List Nat) : Int := if errK xs.length ≠ 0 then errK xs.length else errK ys.length
def outCh (xs ys : List Nat) : List Nat := if errC xs ys = 0 then chgS (chF xs) (chF ys) else []
theorem outK_length (xs : List Nat) : (outK xs).length ≤ 7 := by
  unfold outK
  split
  · simp
  · rw [chF_length]; unfold chN; omega
set_option maxRecDepth 100000 in
set_option maxHeartbeats 4000000 in
theorem fileChanged_any {v u : Value} {xs ys : List Nat} (w : World) (hv : FB w v xs) (hu : FB w u ys) :
    Calls Try.prog 24 #[v, u] w fun e w' => ∃ r, e = .returned (.tuple #[r, .int .i64 (errC xs ys)]) ∧ Sl w' .i64 r (outCh xs ys) ∧ Below w.heap.size w w' := by
  have HC1 := Lib.hid (fileChunks_any w hv)
  have HC2 : Hid (∀ W, Below w.heap.size w W → Calls Try.prog 18 #[u] W fun e w' => ∃ r, e = .returned (.tuple #[r, .int .i64 (errK ys.length)]) ∧ VecC w' r (outK ys) ∧ Below W.heap.size W w') := show ∀ W, _ from fun W hW => fileChunks_any W (hu.below hW)
  have HE : Hid (errC xs ys = if errK xs.length ≠ 0 then errK xs.length else errK ys.length) := show _ = _ from rfl
  obtain ⟨e1, he1⟩ : ∃ e, errK xs.length = e := ⟨_, rfl⟩
  obtain ⟨e2, he2⟩ : ∃ e, errK ys.length = e := ⟨_, rfl⟩
  obtain ⟨e3, he3⟩ : ∃ e, errC xs ys = e := ⟨_, rfl⟩
  have HX1 : Hid (e1 = 0 → outK xs = chF xs) := show _ → _ from fun h => by unfold outK; rw [if_neg]; intro hh; rw [← he1] at h; unfold errK at h; rw [if_pos hh] at h; omega
  have HX2 : Hid (e2 = 0 → outK ys = chF ys) := show _ → _ from fun h => by unfold outK; rw [if_neg]; intro hh; rw [← he2] at h; unfold errK at h; rw [if_pos hh] at h; omega
  have HO : Hid (outCh xs ys = if e3 = 0 then chgS (chF xs) (chF ys) else []) := show _ = _ by unfold outCh; rw [he3]
  rw [he1] at HC1 HE
  rw [he2] at HC2 HE
  rw [he3] at HE ⊢
  have HOR := Lib.hid (or2_any e1 e2)
  rw [← HE.out] at HOR
  obtain ⟨a, c, rfl, -⟩ := hv.form
  obtain ⟨a', c', rfl, -⟩ := hu.form
  obtain ⟨n, hn⟩ : ∃ n, xs.length = n := ⟨_, rfl⟩
  obtain ⟨m, hm⟩ : ∃ m, ys.length = m := ⟨_, rfl⟩
  rw [hn] at HC1 ⊢
  rw [hm] at HC2 ⊢
  clear hv hu he1 he2 he3 hn hm
  go_enter Try.func24, Try.ntmps24
  go_wp2_with fail
  refine HC1.out.mono ?_
  rintro e w1 ⟨r1, rfl, hv1, hb1⟩
  have HB1 := Lib.hid hb1
  have HV1 := Lib.hid hv1
  clear hv1 hb1
  go_wp2_with fail
  refine (HC2.out w1 HB1.out).mono ?_
  rintro e w2 ⟨r2, rfl, hv2, hb2⟩
  have HB2 : Hid (Below w.heap.size w w2) := show Below _ _ _ from HB1.out.trans (hb2.mono HB1.out.size)
  have HV2 : Hid (VecC w2 r1 (outK xs)) := show VecC _ _ _ from HV1.out.below hb2
  have HV3 := Lib.hid hv2
  obtain ⟨a1, c1, hr1, -⟩ := vecC_load HV2.out (outK_8 xs)
  obtain ⟨a2, c2, hr2, -⟩ := vecC_load HV3.out (outK_8 ys)
  subst hr1
  subst hr2
  obtain ⟨l1, hl1⟩ : ∃ l, (outK xs).length = l := ⟨_, rfl⟩
  obtain ⟨l2, hl2⟩ : ∃ l, (outK ys).length = l := ⟨_, rfl⟩
  rw [hl1] at HV2 ⊢
  rw [hl2] at HV3 ⊢
  have HL := Lib.hid (And.intro hl1 hl2)
  clear hv2 hb2 hl1 hl2
  obtain ⟨W3, hW3⟩ : ∃ W3, w2.alloc (.cells #[.slice a2 l2 c2] 35) = W3 := ⟨_, rfl⟩
  have hb3 : Below w2.heap.size w2 W3 := by rw [← hW3]; exact (Below.refl _ _).alloc (Nat.le_refl _) _
  have hB3 : Boxed W3 w2.heap.size 35 (.slice a2 l2 c2) := by rw [← hW3]; exact Boxed.new _ _ _
  have hO3 : Blk (W3.alloc (.cells #[.int .i64 e1, .int .i64 e2] 24)) W3.heap.size 24 #[.int .i64 e1, .int .i64 e2] := Blk.new _ _ _
  have hb4 : Below W3.heap.size W3 (W3.alloc (.cells #[.int .i64 e1, .int .i64 e2] 24)) := (Below.refl _ _).alloc (Nat.le_refl _) _
  have HW3 := Lib.hid hW3
  have HB3 := Lib.hid hb3
  have HX3 := Lib.hid hB3
  have HOC := Lib.hid (HOR.out _ _ hO3)
  have HB4 := Lib.hid hb4
  have z3 : W3.heap.size = w2.heap.size + 1 := by rw [← hW3]; simp
  rw [z3] at HOC
  clear hW3 hb3 hB3 hO3 hb4
  go_wp2_with fail
  rw [HW3.out]
  refine HOC.out.mono ?_
  rintro e w5 ⟨rfl, hb5⟩
  have hb35 : Below W3.heap.size W3 w5 := HB4.out.trans (hb5.mono HB4.out.size)
  have hb25 : Below w2.heap.size w2 w5 := HB3.out.trans (hb35.mono HB3.out.size)
  have HX5 : Hid (Boxed w5 w2.heap.size 35 (.slice a2 l2 c2)) := show Boxed _ _ _ _ from (hb35.block _ HX3.out.lt).trans HX3.out
  have HB25 := Lib.hid hb25
  have HB5 : Hid (Below w.heap.size w w5) := show Below _ _ _ from HB2.out.trans (hb25.mono HB2.out.size)
  clear hb5 hb35 hb25 z3
  by_cases h3 : e3 = 0
  · have h1 : e1 = 0 := by have := HE.out; rw [h3] at this; by_cases h : e1 = 0; exact h; rw [if_pos h] at this; exact absurd this.symm h
    have h2 : e2 = 0 := by have := HE.out; rw [h3, h1] at this; simpa using this.symm
    have hk1 := HX1.out h1
    have hk2 := HX2.out h2
    have ho := HO.out
    rw [if_pos h3] at ho
    have HOO := Lib.hid ho
    have hlen := HL.out
    rw [hk1, hk2] at hlen
    have hl7 := outK_length xs
    have hl7' := outK_length ys
    rw [hk1] at hl7
    rw [hk2] at hl7'
    have HV2' : Hid (VecC w2 (.slice a1 l1 c1) (chF xs)) := show VecC _ _ _ by rw [← hk1]; exact HV2.out
    have HV3' : Hid (VecC w2 (.slice a2 l2 c2) (chF ys)) := show VecC _ _ _ by rw [← hk2]; exact HV3.out
    have c5 := HX5.out.cell
    have f5 := HX5.out.frozen
    have g5 := HX5.out.lt
    subst h3
    clear ho hk1 hk2 h1 h2 HE HX1 HX2 HO HV2 HV3 HOR HOC HC1 HC2
    by_cases hlt : l1 < l2
    · have hn : Calls Try.prog 42 #[.slice a2 l2 c2, .func (.func 43) #[] #[.pointer (some ⟨w2.heap.size, 0, none⟩)]] (w5.setCell ⟨w2.heap.size, 0, none⟩ (.slice a1 l1 c1)) fun e w' => ∃ r, e = .returned r ∧ Sl w' .i64 r (outCh xs ys) ∧ Below w.heap.size w w' := by
        have hb6 : Below w2.heap.size w2 (w5.setCell ⟨w2.heap.size, 0, none⟩ (.slice a1 l1 c1)) := HB25.out.setCell (Nat.le_refl _) _
        refine (numbers_any w2.heap.size (L := chF ys) (M := chF xs) (by omega) (by omega) (chF_8 _) (chF_8 _) _ (HX5.out.set _) (HV2'.out.below hb6) (HV3'.out.below hb6)).mono ?_
        rintro e w' ⟨r, he, hr, hb⟩
        refine ⟨r, he, ?_, ?_⟩
        · rw [HOO.out]
          unfold chgS
          rw [if_pos (by omega)]
          exact hr
        · exact (HB2.out.trans (hb6.mono HB2.out.size)).trans (hb.mono (HB2.out.trans (hb6.mono HB2.out.size)).size)
      have HN := Lib.hid hn
      clear hn hl7 hl7' hlen
      go_wp2_with fail
      refine HN.out.mono ?_
      rintro e w7 ⟨r, rfl, hr, hb⟩
      go_wp2_with fail
      go_ret2
      exact ⟨r, rfl, hr, hb⟩
    · have hn : Calls Try.prog 42 #[.slice a1 l1 c1, .func (.func 43) #[] #[.pointer (some ⟨w2.heap.size, 0, none⟩)]] w5 fun e w' => ∃ r, e = .returned r ∧ Sl w' .i64 r (outCh xs ys) ∧ Below w.heap.size w w' := by
        refine (numbers_any w2.heap.size (L := chF xs) (M := chF ys) (by omega) (by omega) (chF_8 _) (chF_8 _) _ HX5.out (HV3'.out.below HB25.out) (HV2'.out.below HB25.out)).mono ?_
        rintro e w' ⟨r, he, hr, hb⟩
        refine ⟨r, he, ?_, ?_⟩
        · rw [HOO.out]
          unfold chgS
          rw [if_neg (by omega)]
          exact hr
        · exact HB5.out.trans (hb.mono HB5.out.size)
      have HN := Lib.hid hn
      clear hn hl7 hl7' hlen
      go_wp2_with fail
      refine HN.out.mono ?_
      rintro e w7 ⟨r, rfl, hr, hb⟩
      go_wp2_with fail
      go_ret2
      exact ⟨r, rfl, hr, hb⟩
  · have ho := HO.out
    rw [if_neg h3] at ho
    have HOO := Lib.hid ho
    have hne : (e3 != 0) = true := by rw [bne_iff_ne]; exact h3
    clear ho HE HX1 HX2 HO HOR HOC HC1 HC2 HX5 HX3
    go_wp2_with fail
    go_ret2
    exact ⟨_, rfl, by rw [HOO.out]; exact nil_sl _ _, HB5.out⟩
end Go.Proofs.Ytmncoclmgcjjjaa

/-
  waterlineref03.Ints: are two lists of numbers the same?
-/
namespace Go.Proofs.Ytmncoclmgcjjjaa
open Go.RowKit Go.Shelf

theorem intsL_any (v u : Value) (xs ys : List Nat) (hx : xs.length ≤ 140737488351232) (_ : ys.length ≤ 140737488351232) (w : World) (hv : Sl w .i64 v xs) (hu : Sl w .i64 u ys) :
    Calls Try.prog 25 #[v, u] w fun e w' => e = .returned (.bool (decide (xs = ys))) ∧ Below w.heap.size w w' := by
  obtain ⟨a, cap, b, off, rfl, hlc, ha, hc⟩ := hv.cell
  obtain ⟨a', cap', b', off', rfl, hlc', ha', hc'⟩ := hu.cell
  clear hv hu
  have HC := Lib.hid hc; clear hc
  have HC' := Lib.hid hc'; clear hc'
  by_cases hl : xs.length = ys.length
  · have HL := Lib.hid hl
    have hne : ((xs.length : Int) != (xs.length : Int)) = false := by simp
    rw [← hl] at ha' hlc' ⊢
    clear hl hne
    generalize hn : xs.length = n at *
    go_enter Try.func25, Try.ntmps25
    go_wp2
    go_loopw [5] (fun i wr => ∃ k : Nat, k ≤ n ∧ i = .int .i64 k ∧ (∀ j, j < k → xs[j]?.getD 0 = ys[j]?.getD 0) ∧ Below w.heap.size w wr) (fun i _ => n - (intOf i).toNat)
    case atStart => exact ⟨0, Nat.zero_le _, rfl, fun j h => by omega, Below.refl _ _⟩
    case round =>
      obtain ⟨k, hk, rfl, heq, hb⟩ := hrel
      have HE := Lib.hid heq; clear heq
      by_cases hlt : k < n
      · obtain rfl := ha (by omega)
        obtain rfl := ha' (by omega)
        have c1 : wr.cell? ⟨b, off + k, none⟩ = some (.int .i64 (xs[k]?.getD 0 : Nat)) := (hb.cell (p := ⟨b, off + k, none⟩) (HC.out (by omega)).1).trans ((HC.out (by omega)).2 k (by omega))
        have c2 : wr.cell? ⟨b', off' + k, none⟩ = some (.int .i64 (ys[k]?.getD 0 : Nat)) := (hb.cell (p := ⟨b', off' + k, none⟩) (HC'.out (by rw [← HL.out]; omega)).1).trans ((HC'.out (by rw [← HL.out]; omega)).2 k (by rw [← HL.out]; omega))
        have hn' : ((k : Nat) : Int) < (n : Int) := by omega
        obtain ⟨x, hx1⟩ : ∃ x, x = xs[k]?.getD 0 := ⟨_, rfl⟩
        obtain ⟨y, hy1⟩ : ∃ y, y = ys[k]?.getD 0 := ⟨_, rfl⟩
        rw [← hx1] at c1
        rw [← hy1] at c2
        have HX1 := Lib.hid hx1; clear hx1
        have HY1 := Lib.hid hy1; clear hy1
        by_cases hxy : x = y
        · have HX : Hid (xs[k]?.getD 0 = ys[k]?.getD 0) := HX1.out.symm.trans (hxy.trans HY1.out)
          subst hxy
          go_wp2
          go_quiet (fail)
          go_wp2
          go_roundw
          case rel => exact ⟨k + 1, by omega, by go_num, fun j hj => by
            by_cases hjk : j = k
            · rw [hjk]; exact HX.out
            · exact HE.out j (by omega), below_drewN hb _⟩
          case measure => simp [intOf]; omega
        · have hne : ((x : Int) != (y : Int)) = true := by rw [bne_iff_ne]; omega
          have HX := Lib.hid (ne_of_at xs ys k (by rw [← HX1.out, ← HY1.out]; exact hxy))
          clear hxy
          go_wp2
          go_quiet (fail)
          go_wp2
          go_ret
          exact ⟨ret_bool (by rw [HX.out]), below_drewN hb _⟩
      · go_wp2
        go_ret
        exact ⟨ret_bool (by rw [eq_of_at xs ys (by rw [hn]; exact HL.out) (fun j hj => HE.out j (by omega))]), hb⟩
  · have hne : ((xs.length : Int) != (ys.length : Int)) = true := by rw [bne_iff_ne]; omega
    have HX := Lib.hid (show decide (xs = ys) = false from decide_eq_false fun e => hl (by rw [e]))
    clear hl
    go_enter Try.func25, Try.ntmps25
    go_wp2
    go_ret
    exact ⟨ret_bool (by rw [HX.out]), Below.refl _ _⟩
end Go.Proofs.Ytmncoclmgcjjjaa

/-
  file: the chapter's rows. Written by gen_flp.py.
-/
namespace Go.Proofs.Ytmncoclmgcjjjaa
open Go.RowKit Go.Shelf
attribute [local go_sem] Oper.semAt_some

theorem lit_fb (W : World) (fr : Nat × Nat) (ds : List Nat) (h : ∀ x ∈ ds, x < 256) (hl : ds.length ≤ 1000) : FB (W.alloc (.cells (byA ds) 5 fr)) (.slice (some ⟨W.heap.size, 0, none⟩) ds.length ds.length) ds := by
  refine ⟨⟨_, _, rfl, Nat.le_refl _, fun _ => ⟨W.heap.size, 0, rfl, by simp, fun j hj => ?_⟩⟩, fun i => ?_, fun a n c e => by cases e; omega⟩
  · rw [Nat.zero_add, World.cell?_alloc_mark]
    exact byA_at ds j hj
  unfold WM.at'
  by_cases hi : i < ds.length
  · rw [List.getElem?_eq_getElem hi]; exact h _ (List.getElem_mem hi)
  · rw [List.getElem?_eq_none (by omega)]; decide
theorem lit_int (W : World) (x : Nat) : Sl (W.alloc (.cells #[.int .i64 (x : Nat)] 3)) .i64 (.slice (some ⟨W.heap.size, 0, none⟩) 1 1) [x] :=
  ⟨_, 1, rfl, by simp, fun _ => ⟨W.heap.size, 0, rfl, by simp, fun j hj => by
    have : j = 0 := by simpa using hj
    subst this
    simp [go_sem]⟩⟩

theorem row9_1 (W : World) : Calls Try.prog 11 #[.slice (some ⟨W.heap.size, 0, none⟩) 2 2, .int .i64 4, .slice (some ⟨W.heap.size + 1, 0, none⟩) 1 1] ((W.alloc (.cells #[.int .u8 97, .int .u8 98] 5 (2, 3))).alloc (.cells #[.int .u8 99] 5 (1, 2))) fun e w' => ∃ r, e = .returned (.tuple #[r, .int .i64 0]) ∧ FB w' r [97, 98, 0, 0, 99] ∧ Below W.heap.size W w' := by
  have h1 := (lit_fb W (2, 3) [97, 98] (by decide) (by decide)).below ((Below.refl _ _).alloc (Nat.le_refl _) (.cells (byA [99]) 5 (1, 2)))
  have h2 := lit_fb (W.alloc (.cells (byA [97, 98]) 5 (2, 3))) (1, 2) [99] (by decide) (by decide)
  rw [World.size_alloc] at h2
  have hb0 : Below W.heap.size W ((W.alloc (.cells #[.int .u8 97, .int .u8 98] 5 (2, 3))).alloc (.cells #[.int .u8 99] 5 (1, 2))) := ((Below.refl _ _).alloc (Nat.le_refl _) _).alloc (by simp) _
  have he : errW 2 4 1 = 0 := by decide +kernel
  have ho : outW [97, 98] 4 [99] = [97, 98, 0, 0, 99] := by decide +kernel
  refine (write_any 4 (by decide) (by decide) _ h1 h2).mono ?_
  rintro e w' ⟨r, rfl, hr, hb⟩
  rw [ho] at hr
  refine ⟨r, ?_, hr, hb0.trans (hb.mono hb0.size)⟩
  exact congrArg (fun z => Ending.returned (.tuple #[r, .int .i64 z])) he
theorem row9_2 (W : World) : Calls Try.prog 11 #[.slice (some ⟨W.heap.size, 0, none⟩) 3 3, .int .i64 1, .slice (some ⟨W.heap.size + 1, 0, none⟩) 1 1] ((W.alloc (.cells #[.int .u8 97, .int .u8 98, .int .u8 99] 5 (3, 4))).alloc (.cells #[.int .u8 120] 5 (1, 2))) fun e w' => ∃ r, e = .returned (.tuple #[r, .int .i64 0]) ∧ FB w' r [97, 120, 99] ∧ Below W.heap.size W w' := by
  have h1 := (lit_fb W (3, 4) [97, 98, 99] (by decide) (by decide)).below ((Below.refl _ _).alloc (Nat.le_refl _) (.cells (byA [120]) 5 (1, 2)))
  have h2 := lit_fb (W.alloc (.cells (byA [97, 98, 99]) 5 (3, 4))) (1, 2) [120] (by decide) (by decide)
  rw [World.size_alloc] at h2
  have hb0 : Below W.heap.size W ((W.alloc (.cells #[.int .u8 97, .int .u8 98, .int .u8 99] 5 (3, 4))).alloc (.cells #[.int .u8 120] 5 (1, 2))) := ((Below.refl _ _).alloc (Nat.le_refl _) _).alloc (by simp) _
  have he : errW 3 1 1 = 0 := by decide +kernel
  have ho : outW [97, 98, 99] 1 [120] = [97, 120, 99] := by decide +kernel
  refine (write_any 1 (by decide) (by decide) _ h1 h2).mono ?_
  rintro e w' ⟨r, rfl, hr, hb⟩
  rw [ho] at hr
  refine ⟨r, ?_, hr, hb0.trans (hb.mono hb0.size)⟩
  exact congrArg (fun z => Ending.returned (.tuple #[r, .int .i64 z])) he
theorem row9_3 (W : World) : Calls Try.prog 11 #[.slice (some ⟨W.heap.size, 0, none⟩) 2 2, .int .i64 9, .slice none 0 0] (W.alloc (.cells #[.int .u8 97, .int .u8 98] 5 (2, 3))) fun e w' => ∃ r, e = .returned (.tuple #[r, .int .i64 0]) ∧ FB w' r [97, 98] ∧ Below W.heap.size W w' := by
  have h1 := lit_fb W (2, 3) [97, 98] (by decide) (by decide)
  have h2 := nil_fb (W.alloc (.cells (byA [97, 98]) 5 (2, 3)))
  have hb0 : Below W.heap.size W (W.alloc (.cells #[.int .u8 97, .int .u8 98] 5 (2, 3))) := (Below.refl _ _).alloc (Nat.le_refl _) _
  have he : errW 2 9 0 = 0 := by decide +kernel
  have ho : outW [97, 98] 9 [] = [97, 98] := by decide +kernel
  refine (write_any 9 (by decide) (by decide) _ h1 h2).mono ?_
  rintro e w' ⟨r, rfl, hr, hb⟩
  rw [ho] at hr
  refine ⟨r, ?_, hr, hb0.trans (hb.mono hb0.size)⟩
  exact congrArg (fun z => Ending.returned (.tuple #[r, .int .i64 z])) he
theorem row9_4 (W : World) : Calls Try.prog 11 #[.slice none 0 0, .int .i64 448, .slice (some ⟨W.heap.size, 0, none⟩) 1 1] (W.alloc (.cells #[.int .u8 99] 5 (1, 2))) fun e w' => ∃ r, e = .returned (.tuple #[r, .int .i64 190]) ∧ FB w' r [] ∧ Below W.heap.size W w' := by
  have h2 := lit_fb W (1, 2) [99] (by decide) (by decide)
  have h1 := nil_fb (W.alloc (.cells (byA [99]) 5 (1, 2)))
  have hb0 : Below W.heap.size W (W.alloc (.cells #[.int .u8 99] 5 (1, 2))) := (Below.refl _ _).alloc (Nat.le_refl _) _
  have he : errW 0 448 1 = 190 := by decide +kernel
  have ho : outW [] 448 [99] = [] := by decide +kernel
  refine (write_any 448 (by decide) (by decide) _ h1 h2).mono ?_
  rintro e w' ⟨r, rfl, hr, hb⟩
  rw [ho] at hr
  refine ⟨r, ?_, hr, hb0.trans (hb.mono hb0.size)⟩
  exact congrArg (fun z => Ending.returned (.tuple #[r, .int .i64 z])) he
theorem row9_5 (W : World) : Calls Try.prog 12 #[.slice (some ⟨W.heap.size, 0, none⟩) 3 3, .int .i64 1] (W.alloc (.cells #[.int .u8 97, .int .u8 98, .int .u8 99] 5 (3, 4))) fun e w' => ∃ r, e = .returned (.tuple #[r, .int .i64 0]) ∧ FB w' r [97] ∧ Below W.heap.size W w' := by
  have h1 := lit_fb W (3, 4) [97, 98, 99] (by decide) (by decide)
  have hb0 : Below W.heap.size W (W.alloc (.cells #[.int .u8 97, .int .u8 98, .int .u8 99] 5 (3, 4))) := (Below.refl _ _).alloc (Nat.le_refl _) _
  have he : errW 3 1 0 = 0 := by decide +kernel
  have ho : outC [97, 98, 99] 1 = [97] := by decide +kernel
  refine (cut_any 1 (by decide) (by decide) _ h1).mono ?_
  rintro e w' ⟨r, rfl, hr, hb⟩
  rw [ho] at hr
  refine ⟨r, ?_, hr, hb0.trans (hb.mono hb0.size)⟩
  exact congrArg (fun z => Ending.returned (.tuple #[r, .int .i64 z])) he
theorem row9_6 (W : World) : Calls Try.prog 12 #[.slice (some ⟨W.heap.size, 0, none⟩) 1 1, .int .i64 3] (W.alloc (.cells #[.int .u8 97] 5 (1, 2))) fun e w' => ∃ r, e = .returned (.tuple #[r, .int .i64 0]) ∧ FB w' r [97, 0, 0] ∧ Below W.heap.size W w' := by
  have h1 := lit_fb W (1, 2) [97] (by decide) (by decide)
  have hb0 : Below W.heap.size W (W.alloc (.cells #[.int .u8 97] 5 (1, 2))) := (Below.refl _ _).alloc (Nat.le_refl _) _
  have he : errW 1 3 0 = 0 := by decide +kernel
  have ho : outC [97] 3 = [97, 0, 0] := by decide +kernel
  refine (cut_any 3 (by decide) (by decide) _ h1).mono ?_
  rintro e w' ⟨r, rfl, hr, hb⟩
  rw [ho] at hr
  refine ⟨r, ?_, hr, hb0.trans (hb.mono hb0.size)⟩
  exact congrArg (fun z => Ending.returned (.tuple #[r, .int .i64 z])) he
theorem row9_7 (W : World) : Calls Try.prog 13 #[.slice (some ⟨W.heap.size, 0, none⟩) 3 3, .int .i64 1, .int .i64 9] (W.alloc (.cells #[.int .u8 97, .int .u8 98, .int .u8 99] 5 (3, 4))) fun e w' => ∃ r, e = .returned (.tuple #[r, .int .i64 0]) ∧ FB w' r [98, 99] ∧ Below W.heap.size W w' := by
  have h1 := lit_fb W (3, 4) [97, 98, 99] (by decide) (by decide)
  have hb0 : Below W.heap.size W (W.alloc (.cells #[.int .u8 97, .int .u8 98, .int .u8 99] 5 (3, 4))) := (Below.refl _ _).alloc (Nat.le_refl _) _
  have he : errR 3 1 9 = 0 := by decide +kernel
  have ho : outR [97, 98, 99] 1 9 = [98, 99] := by decide +kernel
  refine (readF_any 1 9 _ h1).mono ?_
  rintro e w' ⟨r, rfl, hr, hb⟩
  rw [ho] at hr
  refine ⟨r, ?_, hr, hb0.trans (hb.mono hb0.size)⟩
  exact congrArg (fun z => Ending.returned (.tuple #[r, .int .i64 z])) he
theorem row9_8 (W : World) : Calls Try.prog 13 #[.slice (some ⟨W.heap.size, 0, none⟩) 3 3, .int .i64 3, .int .i64 1] (W.alloc (.cells #[.int .u8 97, .int .u8 98, .int .u8 99] 5 (3, 4))) fun e w' => ∃ r, e = .returned (.tuple #[r, .int .i64 0]) ∧ FB w' r [] ∧ Below W.heap.size W w' := by
  have h1 := lit_fb W (3, 4) [97, 98, 99] (by decide) (by decide)
  have hb0 : Below W.heap.size W (W.alloc (.cells #[.int .u8 97, .int .u8 98, .int .u8 99] 5 (3, 4))) := (Below.refl _ _).alloc (Nat.le_refl _) _
  have he : errR 3 3 1 = 0 := by decide +kernel
  have ho : outR [97, 98, 99] 3 1 = [] := by decide +kernel
  refine (readF_any 3 1 _ h1).mono ?_
  rintro e w' ⟨r, rfl, hr, hb⟩
  rw [ho] at hr
  refine ⟨r, ?_, hr, hb0.trans (hb.mono hb0.size)⟩
  exact congrArg (fun z => Ending.returned (.tuple #[r, .int .i64 z])) he
theorem row9_9 (W : World) : Calls Try.prog 18 #[.slice (some ⟨W.heap.size, 0, none⟩) 65 65] (W.alloc (.cells (byA (List.replicate 65 0)) 5)) fun e w' => ∃ a c, e = .returned (.tuple #[.slice a 2 c, .int .i64 0]) ∧ Below W.heap.size W w' := by
  have h := lit_fb W (0, 0) (List.replicate 65 0) (by intro x hx; rw [List.mem_replicate] at hx; omega) (by simp)
  rw [List.length_replicate] at h
  refine (fileChunks_any _ h).mono ?_
  rintro e w' ⟨u, rfl, hv, hb⟩
  obtain ⟨a, c, rfl, -⟩ := vecC_load hv (outK_8 _)
  have hl : (outK (List.replicate 65 0)).length = 2 := by unfold outK; rw [List.length_replicate, if_neg (by decide), chF_length, List.length_replicate]; rfl
  rw [hl]
  refine ⟨a, c, by rw [List.length_replicate]; rfl, ((Below.refl _ _).alloc (Nat.le_refl _) _).trans (hb.mono (by simp))⟩
theorem row9_10 (W : World) : Calls Try.prog 24 #[.slice (some ⟨W.heap.size, 0, none⟩) 3 3, .slice (some ⟨W.heap.size + 1, 0, none⟩) 3 3] ((W.alloc (.cells #[.int .u8 97, .int .u8 98, .int .u8 99] 5 (3, 4))).alloc (.cells #[.int .u8 97, .int .u8 98, .int .u8 100] 5 (3, 4))) fun e w' => ∃ r, e = .returned (.tuple #[r, .int .i64 0]) ∧ Sl w' .i64 r [0] ∧ Below W.heap.size W w' := by
  have h1 := (lit_fb W (3, 4) [97, 98, 99] (by decide) (by decide)).below ((Below.refl _ _).alloc (Nat.le_refl _) (.cells (byA [97, 98, 100]) 5 (3, 4)))
  have h2 := lit_fb (W.alloc (.cells (byA [97, 98, 99]) 5 (3, 4))) (3, 4) [97, 98, 100] (by decide) (by decide)
  rw [World.size_alloc] at h2
  have hb0 : Below W.heap.size W ((W.alloc (.cells #[.int .u8 97, .int .u8 98, .int .u8 99] 5 (3, 4))).alloc (.cells #[.int .u8 97, .int .u8 98, .int .u8 100] 5 (3, 4))) := ((Below.refl _ _).alloc (Nat.le_refl _) _).alloc (by simp) _
  have he : errC [97, 98, 99] [97, 98, 100] = 0 := by decide +kernel
  have ho : outCh [97, 98, 99] [97, 98, 100] = [0] := by decide +kernel
  refine (fileChanged_any _ h1 h2).mono ?_
  rintro e w' ⟨r, rfl, hr, hb⟩
  rw [ho] at hr
  refine ⟨r, ?_, hr, hb0.trans (hb.mono hb0.size)⟩
  exact congrArg (fun z => Ending.returned (.tuple #[r, .int .i64 z])) he
theorem row9_11 (W : World) : Calls Try.prog 24 #[.slice (some ⟨W.heap.size, 0, none⟩) 3 3, .slice none 0 0] (W.alloc (.cells #[.int .u8 97, .int .u8 98, .int .u8 99] 5 (3, 4))) fun e w' => ∃ r, e = .returned (.tuple #[r, .int .i64 0]) ∧ Sl w' .i64 r [0] ∧ Below W.heap.size W w' := by
  have h1 := lit_fb W (3, 4) [97, 98, 99] (by decide) (by decide)
  have h2 := nil_fb (W.alloc (.cells (byA [97, 98, 99]) 5 (3, 4)))
  have hb0 : Below W.heap.size W (W.alloc (.cells #[.int .u8 97, .int .u8 98, .int .u8 99] 5 (3, 4))) := (Below.refl _ _).alloc (Nat.le_refl _) _
  have he : errC [97, 98, 99] [] = 0 := by decide +kernel
  have ho : outCh [97, 98, 99] [] = [0] := by decide +kernel
  refine (fileChanged_any _ h1 h2).mono ?_
  rintro e w' ⟨r, rfl, hr, hb⟩
  rw [ho] at hr
  refine ⟨r, ?_, hr, hb0.trans (hb.mono hb0.size)⟩
  exact congrArg (fun z => Ending.returned (.tuple #[r, .int .i64 z])) he
theorem str9 {W : World} {v : Value} {xs : List Nat} (h : FB W v xs) (s : ByteArray) (hs : strOf xs = s) : (convert 22 9 v).run Try.prog W = .ok (.string s) W := by rw [← hs]; exact conv_sl h.sl
set_option maxRecDepth 100000 in
set_option maxHeartbeats 8000000 in
theorem works9_any (w : World) : Calls Try.prog 10 #[] w fun e w' => e = .returned (.bool true) ∧ Below w.heap.size w w' := by
  have R1 := Lib.hid row9_1
  have R2 := Lib.hid row9_2
  have R3 := Lib.hid row9_3
  have R4 := Lib.hid row9_4
  have R5 := Lib.hid row9_5
  have R6 := Lib.hid row9_6
  have R7 := Lib.hid row9_7
  have R8 := Lib.hid row9_8
  have R9 := Lib.hid row9_9
  have R10 := Lib.hid row9_10
  have R11 := Lib.hid row9_11
  have HN := Lib.hid num9_any
  have HM : Hid (∀ W : World, (Instr.makeSlice 22 (.int .i64 65) (.int .i64 65)).run Try.prog W = .ok (.slice (some ⟨W.heap.size, 0, none⟩) 65 65) (W.alloc (.cells (byA (List.replicate 65 0)) 5))) := show ∀ W, _ from fun W => make_bytes 22 Try.underlying22 65 (by decide) W
  have HB0 : Hid (Below w.heap.size w w) := show Below _ _ _ from Below.refl _ _
  go_enter Try.func10, Try.ntmps10
  have kc1 := Go.Joins.run_convert_bytes_const_at (P := Try.prog) w 22 5 #[.int .u8 97, .int .u8 98] 2 2 _ rfl Try.underlying22 Try.underlying5
  have kc2 := Go.Joins.run_convert_bytes_const_at (P := Try.prog) (w.alloc (.cells #[.int .u8 97, .int .u8 98] 5 (2, 3))) 22 5 #[.int .u8 99] 1 1 (w.heap.size + 1) (by simp) Try.underlying22 Try.underlying5
  go_wp2_with fail
  clear kc1 kc2
  refine (R1.out w).mono ?_
  rintro e w1 ⟨r1, rfl, hr, hb⟩
  have F1 := Lib.hid hr
  have HB1 : Hid (Below w.heap.size w w1) := show Below _ _ _ from HB0.out.trans (hb.mono HB0.out.size)
  clear hb hr
  have kc1 := Go.Joins.run_convert_bytes_const_at (P := Try.prog) w1 22 5 #[.int .u8 97, .int .u8 98, .int .u8 99] 3 3 _ rfl Try.underlying22 Try.underlying5
  have kc2 := Go.Joins.run_convert_bytes_const_at (P := Try.prog) (w1.alloc (.cells #[.int .u8 97, .int .u8 98, .int .u8 99] 5 (3, 4))) 22 5 #[.int .u8 120] 1 1 (w1.heap.size + 1) (by simp) Try.underlying22 Try.underlying5
  go_wp2_with fail
  clear kc1 kc2
  refine (R2.out w1).mono ?_
  rintro e w2 ⟨r2, rfl, hr, hb⟩
  have F1 := Lib.hid (F1.out.below hb)
  have F2 := Lib.hid hr
  have HB2 : Hid (Below w.heap.size w w2) := show Below _ _ _ from HB1.out.trans (hb.mono HB1.out.size)
  clear hb hr
  have kc1 := Go.Joins.run_convert_bytes_const_at (P := Try.prog) w2 22 5 #[.int .u8 97, .int .u8 98] 2 2 _ rfl Try.underlying22 Try.underlying5
  go_wp2_with fail
  clear kc1
  refine (R3.out w2).mono ?_
  rintro e w3 ⟨r3, rfl, hr, hb⟩
  have F1 := Lib.hid (F1.out.below hb)
  have F2 := Lib.hid (F2.out.below hb)
  have F3 := Lib.hid hr
  have HB3 : Hid (Below w.heap.size w w3) := show Below _ _ _ from HB2.out.trans (hb.mono HB2.out.size)
  clear hb hr
  have kc1 := Go.Joins.run_convert_bytes_const_at (P := Try.prog) w3 22 5 #[.int .u8 99] 1 1 _ rfl Try.underlying22 Try.underlying5
  go_wp2_with fail
  clear kc1
  refine (R4.out w3).mono ?_
  rintro e w4 ⟨r4, rfl, hr, hb⟩
  have F1 := Lib.hid (F1.out.below hb)
  have F2 := Lib.hid (F2.out.below hb)
  have F3 := Lib.hid (F3.out.below hb)
  have F4 := Lib.hid hr
  have HB4 : Hid (Below w.heap.size w w4) := show Below _ _ _ from HB3.out.trans (hb.mono HB3.out.size)
  clear hb hr
  have kc1 := Go.Joins.run_convert_bytes_const_at (P := Try.prog) w4 22 5 #[.int .u8 97, .int .u8 98, .int .u8 99] 3 3 _ rfl Try.underlying22 Try.underlying5
  go_wp2_with fail
  clear kc1
  refine (R5.out w4).mono ?_
  rintro e w5 ⟨r5, rfl, hr, hb⟩
  have F1 := Lib.hid (F1.out.below hb)
  have F2 := Lib.hid (F2.out.below hb)
  have F3 := Lib.hid (F3.out.below hb)
  have F4 := Lib.hid (F4.out.below hb)
  have F5 := Lib.hid hr
  have HB5 : Hid (Below w.heap.size w w5) := show Below _ _ _ from HB4.out.trans (hb.mono HB4.out.size)
  clear hb hr
  have kc1 := Go.Joins.run_convert_bytes_const_at (P := Try.prog) w5 22 5 #[.int .u8 97] 1 1 _ rfl Try.underlying22 Try.underlying5
  go_wp2_with fail
  clear kc1
  refine (R6.out w5).mono ?_
  rintro e w6 ⟨r6, rfl, hr, hb⟩
  have F1 := Lib.hid (F1.out.below hb)
  have F2 := Lib.hid (F2.out.below hb)
  have F3 := Lib.hid (F3.out.below hb)
  have F4 := Lib.hid (F4.out.below hb)
  have F5 := Lib.hid (F5.out.below hb)
  have F6 := Lib.hid hr
  have HB6 : Hid (Below w.heap.size w w6) := show Below _ _ _ from HB5.out.trans (hb.mono HB5.out.size)
  clear hb hr
  have kc1 := Go.Joins.run_convert_bytes_const_at (P := Try.prog) w6 22 5 #[.int .u8 97, .int .u8 98, .int .u8 99] 3 3 _ rfl Try.underlying22 Try.underlying5
  go_wp2_with fail
  clear kc1
  refine (R7.out w6).mono ?_
  rintro e w7 ⟨r7, rfl, hr, hb⟩
  have F1 := Lib.hid (F1.out.below hb)
  have F2 := Lib.hid (F2.out.below hb)
  have F3 := Lib.hid (F3.out.below hb)
  have F4 := Lib.hid (F4.out.below hb)
  have F5 := Lib.hid (F5.out.below hb)
  have F6 := Lib.hid (F6.out.below hb)
  have F7 := Lib.hid hr
  have HB7 : Hid (Below w.heap.size w w7) := show Below _ _ _ from HB6.out.trans (hb.mono HB6.out.size)
  clear hb hr
  have kc1 := Go.Joins.run_convert_bytes_const_at (P := Try.prog) w7 22 5 #[.int .u8 97, .int .u8 98, .int .u8 99] 3 3 _ rfl Try.underlying22 Try.underlying5
  go_wp2_with fail
  clear kc1
  refine (R8.out w7).mono ?_
  rintro e w8 ⟨r8, rfl, hr, hb⟩
  have F1 := Lib.hid (F1.out.below hb)
  have F2 := Lib.hid (F2.out.below hb)
  have F3 := Lib.hid (F3.out.below hb)
  have F4 := Lib.hid (F4.out.below hb)
  have F5 := Lib.hid (F5.out.below hb)
  have F6 := Lib.hid (F6.out.below hb)
  have F7 := Lib.hid (F7.out.below hb)
  have F8 := Lib.hid hr
  have HB8 : Hid (Below w.heap.size w w8) := show Below _ _ _ from HB7.out.trans (hb.mono HB7.out.size)
  clear hb hr
  have hm := HM.out w8
  go_wp2_with fail
  clear hm
  refine (R9.out w8).mono ?_
  rintro e w9 ⟨a9, c9, rfl, hb⟩
  have F1 := Lib.hid (F1.out.below hb)
  have F2 := Lib.hid (F2.out.below hb)
  have F3 := Lib.hid (F3.out.below hb)
  have F4 := Lib.hid (F4.out.below hb)
  have F5 := Lib.hid (F5.out.below hb)
  have F6 := Lib.hid (F6.out.below hb)
  have F7 := Lib.hid (F7.out.below hb)
  have F8 := Lib.hid (F8.out.below hb)
  have HB9 : Hid (Below w.heap.size w w9) := show Below _ _ _ from HB8.out.trans (hb.mono HB8.out.size)
  clear hb
  have kc1 := Go.Joins.run_convert_bytes_const_at (P := Try.prog) w9 22 5 #[.int .u8 97, .int .u8 98, .int .u8 99] 3 3 _ rfl Try.underlying22 Try.underlying5
  have kc2 := Go.Joins.run_convert_bytes_const_at (P := Try.prog) (w9.alloc (.cells #[.int .u8 97, .int .u8 98, .int .u8 99] 5 (3, 4))) 22 5 #[.int .u8 97, .int .u8 98, .int .u8 100] 3 3 (w9.heap.size + 1) (by simp) Try.underlying22 Try.underlying5
  go_wp2_with fail
  clear kc1 kc2
  refine (R10.out w9).mono ?_
  rintro e w10 ⟨r10, rfl, hr, hb⟩
  have F1 := Lib.hid (F1.out.below hb)
  have F2 := Lib.hid (F2.out.below hb)
  have F3 := Lib.hid (F3.out.below hb)
  have F4 := Lib.hid (F4.out.below hb)
  have F5 := Lib.hid (F5.out.below hb)
  have F6 := Lib.hid (F6.out.below hb)
  have F7 := Lib.hid (F7.out.below hb)
  have F8 := Lib.hid (F8.out.below hb)
  have F10 := Lib.hid hr
  have HB10 : Hid (Below w.heap.size w w10) := show Below _ _ _ from HB9.out.trans (hb.mono HB9.out.size)
  clear hb hr
  have kc1 := Go.Joins.run_convert_bytes_const_at (P := Try.prog) w10 22 5 #[.int .u8 97, .int .u8 98, .int .u8 99] 3 3 _ rfl Try.underlying22 Try.underlying5
  go_wp2_with fail
  clear kc1
  refine (R11.out w10).mono ?_
  rintro e w11 ⟨r11, rfl, hr, hb⟩
  have F1 := Lib.hid (F1.out.below hb)
  have F2 := Lib.hid (F2.out.below hb)
  have F3 := Lib.hid (F3.out.below hb)
  have F4 := Lib.hid (F4.out.below hb)
  have F5 := Lib.hid (F5.out.below hb)
  have F6 := Lib.hid (F6.out.below hb)
  have F7 := Lib.hid (F7.out.below hb)
  have F8 := Lib.hid (F8.out.below hb)
  have F10 := Lib.hid (F10.out.below hb)
  have F11 := Lib.hid hr
  have HB11 : Hid (Below w.heap.size w w11) := show Below _ _ _ from HB10.out.trans (hb.mono HB10.out.size)
  clear hb hr
  have c1 := str9 F1.out ⟨#[97, 98, 0, 0, 99]⟩ (by decide +kernel)
  have c2 := str9 F2.out ⟨#[97, 120, 99]⟩ (by decide +kernel)
  have c3 := str9 F3.out ⟨#[97, 98]⟩ (by decide +kernel)
  have c5 := str9 F5.out ⟨#[97]⟩ (by decide +kernel)
  have c6 := str9 F6.out ⟨#[97, 0, 0]⟩ (by decide +kernel)
  have c7 := str9 F7.out ⟨#[98, 99]⟩ (by decide +kernel)
  obtain ⟨a8, c8, hr8, -⟩ := F8.out.form
  rw [show (([] : List Nat).length) = 0 from rfl] at hr8
  subst hr8
  have hi1 := intsL_any r10 _ [0] [0] (by decide) (by decide) _ (F10.out.below ((Below.refl _ _).alloc (Nat.le_refl _) (.cells #[.int .i64 ((0 : Nat) : Int)] 3))) (lit_int w11 0)
  rw [show decide (([0] : List Nat) = [0]) = true from rfl] at hi1
  have HI1 := Lib.hid hi1
  have HB12 : Hid (Below w11.heap.size w11 (w11.alloc (.cells #[.int .i64 ((0 : Nat) : Int)] 3))) := show Below _ _ _ from (Below.refl _ _).alloc (Nat.le_refl _) _
  clear hi1
  go_wp2_with (first | (go_at_call 17; refine (HN.out _ _).mono ?_; rintro e w' ⟨rfl, rfl⟩) | (go_at_call 25; refine park ?_))
  unfold Park
  refine HI1.out.mono ?_
  rintro e w12 ⟨rfl, hb⟩
  have HB13 : Hid (Below w11.heap.size w11 w12) := show Below _ _ _ from HB12.out.trans (hb.mono HB12.out.size)
  have HB14 : Hid (Below w.heap.size w w12) := show Below _ _ _ from HB11.out.trans (HB13.out.mono HB11.out.size)
  have hi2 := intsL_any r11 _ [0] [0] (by decide) (by decide) _ ((F11.out.below HB13.out).below ((Below.refl _ _).alloc (Nat.le_refl _) (.cells #[.int .i64 ((0 : Nat) : Int)] 3))) (lit_int w12 0)
  rw [show decide (([0] : List Nat) = [0]) = true from rfl] at hi2
  have HI2 := Lib.hid hi2
  clear hi2 hb
  go_wp2_with (first | (go_at_call 17; refine (HN.out _ _).mono ?_; rintro e w' ⟨rfl, rfl⟩) | (go_at_call 25; refine park ?_))
  unfold Park
  refine HI2.out.mono ?_
  rintro e w13 ⟨rfl, hb⟩
  have HB15 : Hid (Below w.heap.size w w13) := show Below _ _ _ from HB14.out.trans (((Below.refl _ _).alloc (Nat.le_refl _) _ |>.trans (hb.mono (by simp))).mono HB14.out.size)
  clear hb
  go_wp2_with fail
  go_ret
  exact ⟨rfl, HB15.out⟩
end Go.Proofs.Ytmncoclmgcjjjaa

/-
  file: the document's answers: Write, Cut, Read.
-/
namespace Go.Proofs.Ytmncoclmgcjjjaa
open Go.RowKit Go.Shelf
attribute [local go_sem] Oper.semAt_some

theorem cutF_at (xs : List Nat) (n j : Nat) : (cutF xs n)[j]?.getD 0 = if j < n then xs[j]?.getD 0 else 0 := by
  unfold cutF
  rw [List.getElem?_append]
  by_cases h : j < (xs.take n).length
  · rw [List.length_take] at h
    rw [if_pos (by rw [List.length_take]; exact h), if_pos (by omega), List.getElem?_take_of_lt (by omega)]
  · rw [List.length_take] at h
    rw [if_neg (by rw [List.length_take]; exact h), List.getElem?_replicate]
    by_cases h2 : j < n
    · rw [if_pos h2, List.getElem?_eq_none (show xs.length ≤ j by omega)]
      split <;> rfl
    · rw [if_neg h2]
      split <;> rfl
theorem cutF_succ (xs : List Nat) (k : Nat) : cutF xs (k + 1) = cutF xs k ++ [xs[k]?.getD 0] := by
  apply WM.list_ext _ _ (by rw [cutF_length, List.length_append, cutF_length]; rfl)
  intro j hj
  rw [cutF_length] at hj
  unfold WM.at'
  rw [cutF_at, if_pos hj, List.getElem?_append, cutF_length]
  by_cases h : j < k
  · rw [if_pos h, cutF_at, if_pos h]
  · obtain rfl : j = k := by omega
    rw [if_neg h]
    simp
theorem cutF_zero (xs : List Nat) : cutF xs 0 = [] := by simp [cutF]
theorem writeF_at (xs : List Nat) (p : Nat) (ds : List Nat) (h0 : ds.length ≠ 0) (j : Nat) (hj : j < max xs.length (p + ds.length)) :
    (writeF xs p ds)[j]?.getD 0 = if p ≤ j ∧ j < p + ds.length then ds[j - p]?.getD 0 else xs[j]?.getD 0 := by
  unfold writeF spliceN
  rw [if_neg h0, List.append_assoc, List.getElem?_append, List.length_take, cutF_length]
  by_cases h1 : j < p
  · rw [if_pos (by omega), if_neg (by omega), List.getElem?_take_of_lt h1, cutF_at, if_pos hj]
  · rw [if_neg (by omega), List.getElem?_append]
    by_cases h2 : j < p + ds.length
    · rw [if_pos (by omega), if_pos ⟨by omega, h2⟩]
      congr 2
      omega
    · rw [if_neg (by omega), if_neg (by omega), List.getElem?_drop, cutF_at, if_pos (by omega)]
      congr 2
      omega
/-- A list of which the first k are there, noughts behind. -/
def partF (t : List Nat) (k : Nat) : List Nat := t.take k ++ List.replicate (t.length - k) 0
theorem partF_length (t : List Nat) (k : Nat) (h : k ≤ t.length) : (partF t k).length = t.length := by simp [partF]; omega
theorem partF_succ (t : List Nat) (k : Nat) (h : k < t.length) : (partF t k).set k (t[k]?.getD 0) = partF t (k + 1) := by
  unfold partF
  have hl : (t.take k).length = k := by rw [List.length_take]; omega
  rw [List.set_append_right _ _ (by omega), hl, Nat.sub_self, show t.length - k = (t.length - (k + 1)) + 1 by omega, List.replicate_succ, List.set_cons_zero, List.take_succ_eq_append_getElem h, List.append_assoc, List.getElem?_eq_getElem h]
  rfl
theorem partF_stay (t : List Nat) (k : Nat) (h : k < t.length) (h0 : t[k]?.getD 0 = 0) : partF t k = partF t (k + 1) := by
  rw [← partF_succ t k h, h0]
  unfold partF
  have hl : (t.take k).length = k := by rw [List.length_take]; omega
  rw [List.set_append_right _ _ (by omega), hl, Nat.sub_self, show t.length - k = (t.length - (k + 1)) + 1 by omega, List.replicate_succ, List.set_cons_zero]
theorem partF_all (t : List Nat) : partF t t.length = t := by simp [partF]
theorem partF_zero (t : List Nat) : partF t 0 = List.replicate t.length 0 := by simp [partF]
theorem byA_set (ys : List Nat) (k x : Nat) : (byA ys).setIfInBounds k (.int .u8 (x : Nat)) = byA (ys.set k x) := by
  simp [byA, valsOf, List.map_set]
set_option maxRecDepth 100000 in
set_option maxHeartbeats 2000000 in
theorem refCut_ok {v : Value} {xs : List Nat} (n : Nat) (hx : xs.length ≤ 448) (hn : n ≤ 448) (w : World) (hv : Sl w .u8 v xs) :
    Calls Try.prog 15 #[v, .int .i64 n] w fun e w' => ∃ r, e = .returned (.tuple #[r, .int .i64 0]) ∧ Sl w' .u8 r (cutF xs n) ∧ Below w.heap.size w w' := by
  obtain ⟨i0, hi, hz0, hz1, hz2⟩ := info_parts infoU8
  obtain ⟨a, c, b, off, rfl, hlc, ha, hc⟩ := hv.cell
  have HC := Lib.hid hc
  obtain ⟨l, hl⟩ : ∃ l, xs.length = l := ⟨_, rfl⟩
  have HL := Lib.hid hl
  rw [hl] at hx hlc ha HC ⊢
  have g1 : ¬ (448 : Int) < (l : Int) := by omega
  have g2 : ¬ (448 : Int) < (n : Int) := by omega
  clear hv hc hl
  go_enter Try.func15, Try.ntmps15
  go_wp2
  go_loopw [6, 7] (fun v i wr => ∃ (k : Nat) (q : Value), k ≤ n ∧ i = .int .i64 k ∧ q = v ∧ wr.ownsRow w.heap.size 5 1 q k (valsOf .u8 (cutF xs k)) ∧ Below w.heap.size w wr) (fun _ i _ => n - (intOf i).toNat)
  case atStart => exact ⟨0, _, Nat.zero_le _, rfl, rfl, by rw [cutF_zero]; exact World.ownsRow_nil _ _ _ _, Below.refl _ _⟩
  case round =>
    obtain ⟨k, q, hk, rfl, rfl, hrow, hb⟩ := hrel
    have z := hb.size
    by_cases hlt : k < n
    · have HS := Lib.hid (cutF_succ xs k)
      by_cases hkl : k < l
      · obtain rfl := ha (by omega)
        have c1 : wr.cell? ⟨b, off + k, none⟩ = some (.int .u8 (xs[k]?.getD 0 : Nat)) := (hb.cell (p := ⟨b, off + k, none⟩) (HC.out (by omega)).1).trans ((HC.out (by omega)).2 k hkl)
        obtain ⟨x, hx1⟩ : ∃ x, x = xs[k]?.getD 0 := ⟨_, rfl⟩
        rw [← hx1] at c1 HS
        clear hx1
        go_wp2_with (at_builtin; refine wpList_append_own _ rfl _ _ 22 rfl w.heap.size 5 i0 (.int .u8 0) 1 1 Try.underlying22 hi hz0 hz1 hz2 rfl (by decide) q _ _ rfl (hrow.alloc _) ⟨wr.heap.size, 0, none⟩ 1 1 [.int .u8 (x : Nat)] rfl rfl (cell_one_new _ _ _) (by simp [Value.oneCell']) (by unfold maxLen; omega) (by omega) (by simp; omega) ?_; intro v' w1 hown' hgrow _)
        go_roundw
        case rel =>
          refine ⟨k + 1, _, by omega, by go_num, rfl, ?_, (hb.alloc (by omega) _).grown hgrow (by simp; omega) (fun j e => (hrow.lt j e).1)⟩
          rw [HS.out, valsOf_append]; exact hown'
        case measure => simp [intOf]; omega
      · have h0 : xs[k]?.getD 0 = 0 := by rw [List.getElem?_eq_none (by rw [HL.out]; omega)]; rfl
        rw [h0] at HS
        clear h0
        go_wp2_with (at_builtin; refine wpList_append_own _ rfl _ _ 22 rfl w.heap.size 5 i0 (.int .u8 0) 1 1 Try.underlying22 hi hz0 hz1 hz2 rfl (by decide) q _ _ rfl (hrow.alloc _) ⟨wr.heap.size, 0, none⟩ 1 1 [.int .u8 0] rfl rfl (cell_one_new _ _ _) (by simp [Value.oneCell']) (by unfold maxLen; omega) (by omega) (by simp; omega) ?_; intro v' w1 hown' hgrow _)
        go_roundw
        case rel =>
          refine ⟨k + 1, _, by omega, by go_num, rfl, ?_, (hb.alloc (by omega) _).grown hgrow (by simp; omega) (fun j e => (hrow.lt j e).1)⟩
          rw [HS.out, valsOf_append]; exact hown'
        case measure => simp [intOf]; omega
    · obtain rfl : k = n := by omega
      have HR : Hid (Sl wr .u8 q (cutF xs k)) := show Sl _ _ _ _ from own_sl (by rw [cutF_length]; exact hrow)
      go_wp2
      go_ret2
      exact ⟨_, rfl, HR.out, hb⟩
end Go.Proofs.Ytmncoclmgcjjjaa
