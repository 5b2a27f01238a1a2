/-
  label: the document's Right, Bucket, Words.
-/
import Derived.Test.YtoaloeipgadkjaaLaF
import Derived.Test.YtoaloeipgadkjaaWordR
import Derived.Test.YtoaloeipgadkjaaWordT
namespace Go.Proofs.Ytoaloeipgadkjaa
open Go.RowKit Go.Shelf Go.Sort

theorem refRight_early (s : List UInt8) (w : World) (h : s.length < 1 ∨ 40 < s.length ∨ s = [46] ∨ s = [46, 46]) :
    Calls Try.prog 12 #[encStr s] w fun e w' => e = .returned (.bool false) ∧ w = w' := by
  by_cases k1 : (s.length : Int) < 1
  · go_enter Try.func12, Try.ntmps12
    go_wp2
    go_ret
    exact ⟨rfl, rfl⟩
  by_cases k2 : 40 < (s.length : Int)
  · go_enter Try.func12, Try.ntmps12
    go_wp2
    go_ret
    exact ⟨rfl, rfl⟩
  have h' : s = [46] ∨ s = [46, 46] := by
    rcases h with h | h | h
    · omega
    · omega
    · exact h
  rcases h' with rfl | rfl
  · go_enter Try.func12, Try.ntmps12
    go_wp2
    go_ret
    exact ⟨rfl, rfl⟩
  · go_enter Try.func12, Try.ntmps12
    go_wp2
    go_ret
    exact ⟨rfl, rfl⟩
set_option maxRecDepth 100000 in
set_option maxHeartbeats 2000000 in
theorem refRight_late (s : List UInt8) (w : World) (k1 : 1 ≤ s.length) (k2 : s.length ≤ 40) (k3 : ¬ s = [46]) (k4 : ¬ s = [46, 46]) :
    Calls Try.prog 12 #[encStr s] w fun e w' => e = .returned (.bool (s.all byteN)) ∧ w = w' := by
  have q1 : ¬ (s.length : Int) < 1 := by omega
  have q2 : ¬ (40 : Int) < (s.length : Int) := by omega
  have q3 : (s == [46]) = false := by simp [k3]
  have q4 : (s == [46, 46]) = false := by simp [k4]
  clear k3 k4
  go_enter Try.func12, Try.ntmps12
  go_wp2
  go_loopw [3] (fun i wr => ∃ k : Nat, k ≤ s.length ∧ i = .int .i64 (k : Nat) ∧ w = wr ∧ Hid ((s.take k).all byteN = true)) (fun i _ => s.length - (intOf i).toNat)
  case atStart => exact ⟨0, Nat.zero_le _, rfl, rfl, Lib.hid rfl⟩
  case round =>
    obtain ⟨k, hk, rfl, rfl, HA⟩ := hrel
    by_cases hlt : k < s.length
    · have HT := Lib.hid (show s.take (k + 1) = s.take k ++ [s[k]] from List.take_succ_eq_append_getElem hlt)
      have HM := Lib.hid (List.getElem_mem hlt)
      obtain ⟨z, hz⟩ : ∃ z : Nat, s[k].toNat = z := ⟨_, rfl⟩
      have hzz : ∀ h : k < (⟨s.toArray⟩ : ByteArray).size, ((⟨s.toArray⟩ : ByteArray)[k]'h).toNat = z := fun _ => hz
      have hbz : byteN s[k] = true ↔ 33 ≤ z ∧ z ≤ 126 ∧ z ≠ 47 := by
        unfold byteN
        rw [hz]
        simp only [Bool.and_eq_true, decide_eq_true_eq, and_assoc]
      have k3 : (k : Int) < (s.length : Int) := by omega
      clear hz
      by_cases hg : byteN s[k] = true
      · obtain ⟨g1, g2, g3⟩ := hbz.1 hg
        have e1 : ¬ ((z : Int) < 33) := by omega
        have e2 : ¬ ((126 : Int) < z) := by omega
        have e3 : ((z : Int) == 47) = false := by simp; omega
        have HG := Lib.hid hg
        clear hg hbz g1 g2 g3
        go_wp2
        go_roundw
        case rel => exact ⟨k + 1, by omega, by go_num, by trivial, Lib.hid (by rw [HT.out, List.all_append, HA.out]; simp [HG.out])⟩
        case measure => simp [intOf]; omega
      · have HN : Hid (s.all byteN = false) := show _ = _ from List.all_eq_false.2 ⟨s[k], HM.out, by simpa using hg⟩
        have hn : ((decide ((z : Int) < 33) || decide ((126 : Int) < z) || ((z : Int) == 47))) = true := by
          have : ¬ (33 ≤ z ∧ z ≤ 126 ∧ z ≠ 47) := fun h => hg (hbz.2 h)
          simp only [Bool.or_eq_true, decide_eq_true_eq, beq_iff_eq]
          omega
        clear hg hbz
        go_wp2
        all_goals
          go_ret
          exact ⟨by rw [HN.out]; rfl, rfl⟩
    · obtain rfl : k = s.length := by omega
      have hall : s.all byteN = true := by rw [List.take_length] at HA; exact HA.out
      go_wp2
      go_ret
      exact ⟨by rw [hall]; rfl, rfl⟩
theorem refRight6_any (s : List UInt8) (w : World) : Calls Try.prog 12 #[encStr s] w fun e w' => e = .returned (.bool (rightN s)) ∧ w = w' := by
  by_cases h : s.length < 1 ∨ 40 < s.length ∨ s = [46] ∨ s = [46, 46]
  · have hr : rightN s = false := by
      cases hr : rightN s with
      | false => rfl
      | true =>
        obtain ⟨h1, h2, h3, h4, -⟩ := (rightN_iff s).1 hr
        rcases h with h | h | h | h
        · omega
        · omega
        · exact absurd h h3
        · exact absurd h h4
    rw [hr]
    exact refRight_early s w h
  · have h1 : 1 ≤ s.length := by
      rcases Nat.lt_or_ge s.length 1 with k | k
      · exact absurd (.inl k) h
      · exact k
    have h2 : s.length ≤ 40 := by
      rcases Nat.lt_or_ge 40 s.length with k | k
      · exact absurd (.inr (.inl k)) h
      · exact k
    have h3 : ¬ s = [46] := fun k => h (.inr (.inr (.inl k)))
    have h4 : ¬ s = [46, 46] := fun k => h (.inr (.inr (.inr k)))
    have hr : rightN s = s.all byteN := by
      unfold rightN
      simp [h1, h2, h3, h4]
    rw [hr]
    exact refRight_late s w h1 h2 h3 h4
set_option maxRecDepth 100000 in
theorem refBucket_any (s : List UInt8) (hl : s.length ≤ 4096) (w : World) :
    Calls Try.prog 17 #[encStr s] w fun e w' => e = .returned (.int .i64 (bucketN s : Nat)) ∧ Below w.heap.size w w' := by
  have HT := Lib.hid (refText2_any _ (bsN s) (by rw [bsN_length]; omega) (bsN_256 s) (bytesW w s) (bytesW_sl w s))
  have hcv := fun W => conv_bytes 9 Try.underlying9 s W
  have HBB := Lib.hid (bytesW_below w s)
  unfold bucketN
  obtain ⟨z, hz⟩ : ∃ z, SM.sumOf (textWords (bsN s)) = z := ⟨_, rfl⟩
  rw [hz] at HT ⊢
  obtain ⟨y, hy⟩ : ∃ y : Nat, z % 7 = y := ⟨_, rfl⟩
  rw [hy]
  have hy2 : (z : Int) % 7 = (y : Int) := by omega
  have hzl : (z : Int) < 18446744073709551616 := by have := SM.sumOf_lt (textWords (bsN s)); rw [hz] at this; omega
  clear hz hl hy
  go_enter Try.func17, Try.ntmps17
  go_wp2_with fail
  refine HT.out.mono ?_
  rintro e w1 ⟨rfl, hb⟩
  have HB1 : Hid (Below w.heap.size w w1) := show Below _ _ _ from HBB.out.trans (hb.mono HBB.out.size)
  clear hb
  go_wp2_with fail
  go_ret
  exact ⟨rfl, HB1.out⟩
theorem five_step (xs : List Nat) (k : Nat) (hk : k < xs.length) (h5 : xs.length ≤ 5) : (arr5 (xs.take k)).setIfInBounds k (.int .u64 (xs[k]?.getD 0 : Nat)) = arr5 (xs.take (k + 1)) := by
  have : k = 0 ∨ k = 1 ∨ k = 2 ∨ k = 3 ∨ k = 4 := by omega
  rcases this with rfl | rfl | rfl | rfl | rfl <;> simp [List.getElem?_take]
theorem five_cell (xs : List Nat) (k : Nat) (h5 : k < 5) (W : World) (b : Nat) (h : Box5 W b xs) : W.cell? ⟨b, k, none⟩ = some (.int .u64 (xs[k]?.getD 0 : Nat)) ∧ W.frozen? ⟨b, k, none⟩ = false := by
  obtain ⟨c0, c1, c2, c3, c4⟩ := h.cells
  obtain ⟨f0, f1, f2, f3, f4⟩ := h.frozen
  have : k = 0 ∨ k = 1 ∨ k = 2 ∨ k = 3 ∨ k = 4 := by omega
  rcases this with rfl | rfl | rfl | rfl | rfl
  · exact ⟨c0, f0⟩
  · exact ⟨c1, f1⟩
  · exact ⟨c2, f2⟩
  · exact ⟨c3, f3⟩
  · exact ⟨c4, f4⟩
theorem Box5.set {W : World} {b : Nat} {xs : List Nat} {k : Nat} (h : Box5 W b (xs.take k)) (hk : k < xs.length) (h5 : xs.length ≤ 5) : Box5 (W.setCell ⟨b, k, none⟩ (.int .u64 (xs[k]?.getD 0 : Nat))) b (xs.take (k + 1)) := by
  unfold Box5
  rw [setCell_eq_setRow W b k _ _ _ _ h, ← five_step xs k hk h5]
  exact setRow_heap W b _ _ _ _ h
set_option maxRecDepth 100000 in
set_option maxHeartbeats 2000000 in
theorem refWords6_any (s : List UInt8) (hl : s.length ≤ 40) (w : World) :
    Calls Try.prog 16 #[encStr s] w fun e w' => e = .returned (.agg (arr5 (wordsN s))) ∧ Below w.heap.size w w' := by
  obtain ⟨W2, hW2⟩ : ∃ W2, (w.alloc (.cells (arr5 []) 24)).alloc (.cells (arr5 []) 24) = W2 := ⟨_, rfl⟩
  have HB2 : Hid (Below w.heap.size w W2) := show Below _ _ _ by rw [← hW2]; exact (by repeat (first | exact Below.refl _ _ | assumption | refine Below.drew ?_ | refine below_drewN ?_ _ | refine Below.alloc ?_ (by (try simp) <;> omega) _ | refine Below.setCell ?_ (by (try simp) <;> omega) _ | refine Below.trans ?_ (Below.mono (by assumption) (by (try simp) <;> omega))))
  have HX2 : Hid (Box5 W2 w.heap.size []) := show Box5 _ _ _ by rw [← hW2]; exact (Box5.new w []).below ((Below.refl _ _).alloc (Nat.le_refl _) _)
  have HY2 : Hid (Box5 W2 (w.heap.size + 1) []) := show Box5 _ _ _ by
    rw [← hW2]
    have := Box5.new (w.alloc (.cells (arr5 []) 24)) []
    rwa [World.size_alloc] at this
  have HR := Lib.hid (refWords_own _ (bsN s) (by rw [bsN_length]; omega) (bsN_256 s) (bytesW W2 s) (bytesW_sl W2 s))
  have hcv := fun W => conv_bytes 9 Try.underlying9 s W
  have HBB := Lib.hid (bytesW_below W2 s)
  have HW2 : Hid ((w.alloc (.cells #[.int .u64 0, .int .u64 0, .int .u64 0, .int .u64 0, .int .u64 0] 24)).alloc (.cells #[.int .u64 0, .int .u64 0, .int .u64 0, .int .u64 0, .int .u64 0] 24) = W2) := show _ = _ from hW2
  have hln := wordsN_len s hl
  obtain ⟨xs, hxs⟩ : ∃ xs, wordsN s = xs := ⟨_, rfl⟩
  rw [hxs] at hln ⊢
  rw [show WM.wordsOf (bsN s) = xs from hxs] at HR
  have HLN := Lib.hid hln
  clear hln hxs
  have hz2 : W2.heap.size = w.heap.size + 2 := by rw [← hW2]; simp
  clear hW2
  go_enter Try.func16, Try.ntmps16
  go_wp2_with fail
  rw [HW2.out, show w.heap.size + 1 + 1 = W2.heap.size from hz2.symm]
  refine HR.out.mono ?_
  rintro e w5 ⟨r, rfl, hrow, hb5⟩
  have hB5 : Below W2.heap.size W2 w5 := HBB.out.trans (hb5.mono HBB.out.size)
  have hx5 := HX2.out.below hB5
  have hy5 := HY2.out.below hB5
  have HB5 : Hid (Below w.heap.size w w5) := show Below _ _ _ from HB2.out.trans (hB5.mono HB2.out.size)
  have hs5 := own_sl hrow
  obtain ⟨a, c, rfl⟩ := laOwn_slice hrow
  have hbs := bytesW_size W2 s
  have HG := Lib.hid (fun (h0 : 0 < xs.length) => own_form hrow h0)
  have HROW := Lib.hid hrow
  obtain ⟨n, hn⟩ : ∃ n, xs.length = n := ⟨_, rfl⟩
  have HN := Lib.hid hn
  have HX5 := Lib.hid hx5
  have HY5 := Lib.hid hy5
  have h5 : n ≤ 5 := by rw [← hn]; exact HLN.out
  rw [hn]
  have HL5 := Lib.hid (show xs.length ≤ 5 from HLN.out)
  clear hrow hb5 hB5 hx5 hy5 hs5 hn HLN hcv HR
  go_wp2_with fail
  go_loopw [5] (fun i wr => ∃ k : Nat, k ≤ n ∧ i = .int .i64 (k : Nat) ∧ Hid (Box5 wr (w.heap.size + 1) (xs.take k) ∧ Box5 wr w.heap.size [] ∧ Below w.heap.size w wr ∧ ∀ j, W2.heap.size ≤ j → wr.heap[j]? = w5.heap[j]?)) (fun i _ => n - (intOf i).toNat)
  case atStart => exact ⟨0, Nat.zero_le _, rfl, Lib.hid ⟨HY5.out, HX5.out, HB5.out, fun _ _ => rfl⟩⟩
  case round =>
    obtain ⟨k, hk, rfl, HI⟩ := hrel
    by_cases hlt : k < n
    · have hkx : k < xs.length := by rw [HN.out]; exact hlt
      obtain ⟨g, cap, e0, hg1, hg2, -⟩ := HG.out (by omega)
      simp only [Value.slice.injEq] at e0
      obtain ⟨rfl, -, rfl⟩ := e0
      have ck : wr.cell? ⟨g, k, none⟩ = some (.int .u64 (xs[k]?.getD 0 : Nat)) := (World.cell?_of_block (a := ⟨g, k, none⟩) (HI.out.2.2.2 g (by omega))).trans (own_cell HROW.out k hkx)
      obtain ⟨c1, f1⟩ := five_cell _ k (by omega) wr _ HI.out.1
      have l1 := HI.out.1.lt
      have HNX := Lib.hid (HI.out.1.set hkx HL5.out)
      obtain ⟨z, hz⟩ : ∃ z, xs[k]?.getD 0 = z := ⟨_, rfl⟩
      rw [hz] at ck HNX
      have k5 : (k : Int) < 5 := by omega
      have k2 : (k : Int) < (n : Int) := by omega
      clear hz
      go_wp2_with fail
      go_roundw
      case rel =>
        refine ⟨k + 1, by omega, by go_num, Lib.hid ⟨HNX.out, (Below.heap_setCell _ _ _ _ (by simp)).trans HI.out.2.1, HI.out.2.2.1.setCell (p := ⟨w.heap.size + 1, k, none⟩) (Nat.le_succ _) _, fun j hj => (Below.heap_setCell _ _ _ _ (by simp; omega)).trans (HI.out.2.2.2 j hj)⟩⟩
      case measure => simp [intOf]; omega
    · obtain rfl : k = n := by omega
      have h1 : Box5 wr (w.heap.size + 1) xs := by have := HI.out.1; rwa [List.take_of_length_le (by rw [HN.out]; exact Nat.le_refl _)] at this
      have h2 := HI.out.2.1
      obtain ⟨c0, c1, c2, c3, c4⟩ := h1.cells
      obtain ⟨d0, d1, d2, d3, d4⟩ := h2.cells
      obtain ⟨f0, f1, f2, f3, f4⟩ := h2.frozen
      have l2 := h2.lt
      clear h1 h2
      go_wp2_with fail
      refine bodyPost_ret (v := .agg (arr5 xs)) (by simp [results, Try.results16, go_sem, World.cell?_setCell_same', d0, d1, d2, d3, d4]) rfl ⟨rfl, ?_⟩
      exact set5_below (m := xs) HI.out.2.2.1 (Nat.le_refl _)
end Go.Proofs.Ytoaloeipgadkjaa
