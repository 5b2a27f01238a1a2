/-
  The walks of the laws TraceChecks, TraceCounts.
-/
import Derived.Test.YtkpiehejkhjhlaaTsD
namespace Go.Proofs.Ytkpiehejkhjhlaa
open Go.RowKit Go.Shelf Go.Maps

set_option maxRecDepth 100000 in
set_option maxHeartbeats 4000000 in
theorem checks5_any {v : Value} {ts : List Tch} (q : Int) (w : World) (hok : ∀ t ∈ ts, okT t) (hs : SlT w v ts) :
    Calls Try.prog 3 #[v, .int .i64 q] w fun e w' => e = .returned (.bool true) ∧ Below w.heap.size w w' := by
  have HW := Lib.hid works5_any
  have HNU := Lib.hid num5_any
  obtain ⟨a, cap, rfl, -⟩ := id hs
  obtain ⟨N, hN⟩ : ∃ N, ts.length = N := ⟨_, rfl⟩
  by_cases hl : 200 < N
  · have hl' : (200 : Int) < (N : Int) := by omega
    rw [hN]
    clear hs hok hN
    go_enter Try.func3, Try.ntmps3
    go_wp2_with fail
    refine (HW.out w).mono ?_
    rintro e w' ⟨rfl, hb⟩
    go_wp2_with fail
    go_ret
    exact ⟨rfl, hb⟩
  · have hl' : ¬ (200 : Int) < (N : Int) := by omega
    have hlN : N ≤ 90000 := by omega
    have HS := Lib.hid (fun W (hb : Below w.heap.size w W) => hs.below hb)
    have HLI := Lib.hid (linesT_any w (by omega) hs)
    have HRC := Lib.hid (fun W (hb : Below w.heap.size w W) => refCheck_any W (by omega) (hs.below hb))
    have HCK := Lib.hid (fun W (hb : Below w.heap.size w W) => checkT_any W (by omega) (hs.below hb))
    have HCO := Lib.hid (fun W (hb : Below w.heap.size w W) => countT_any q W (by omega) (hs.below hb))
    have HRL := Lib.hid (fun W (hb : Below w.heap.size w W) => ref5Lines_any W (by omega) hok (hs.below hb))
    have HAT := Lib.hid (fun k (hk : k < N) => SlT.at_ hN (by rw [hN] at hs; exact hs) k hk)
    have HN := Lib.hid hN
    have HLV := Lib.hid (linesV_short hasL ts)
    have HCL := Lib.hid (fun k => List.countP_le_length (p := fun t : Tch => t.kind == q) (l := ts.take k))
    rw [hN] at HLI HRC HCK HCO HRL ⊢
    obtain ⟨c, hc⟩ : ∃ c, checkT ts = c := ⟨_, rfl⟩
    rw [hc] at HLI HRC HCK
    obtain ⟨C, hC⟩ : ∃ C, ts.countP (fun t => t.kind == q) = C := ⟨_, rfl⟩
    rw [hC] at HCO
    have HC := Lib.hid hC
    clear hs hok hN hc hC
    go_enter Try.func3, Try.ntmps3
    go_wp2_with fail
    refine HLI.out.mono ?_
    rintro e w1 ⟨u, rfl, hsl, hb1⟩
    have hsl' := hsl
    obtain ⟨ua, uc, rfl, -⟩ := hsl'
    have HSL := Lib.hid hsl
    have HB1 := Lib.hid hb1
    obtain ⟨M, hM⟩ : ∃ M, (if c = 0 then linesV hasL ts else []).length = M := ⟨_, rfl⟩
    have HM := Lib.hid hM
    rw [hM] at HSL ⊢
    clear hsl hb1 hM
    go_wp2_with fail
    refine (HRC.out w1 HB1.out).mono ?_
    rintro e w2 ⟨rfl, hb2⟩
    have HB2 : Hid (Below w.heap.size w w2) := show Below _ _ _ from HB1.out.trans (hb2.mono HB1.out.size)
    have HS2 := Lib.hid (HSL.out.below hb2)
    clear hb2
    go_wp2_with fail
    go_loopw [8, 9] (fun n i wr => ∃ k m : Nat, k ≤ N ∧ m ≤ k ∧ i = .int .i64 (k : Nat) ∧ n = .int .i64 (m : Nat) ∧ Hid (m = (ts.take k).countP (fun t => t.kind == q)) ∧ wr = w2) (fun _ i _ => N - (intOf i).toNat)
    case atStart => exact ⟨0, 0, by omega, by omega, rfl, rfl, (show _ = _ from rfl), rfl⟩
    case round =>
      obtain ⟨k, m, hk, hm, rfl, rfl, HJ, rfl⟩ := hrel
      by_cases hlt : k < N
      · obtain ⟨b, off, t, ht, -, rfl, hat⟩ := HAT.out k hlt
        obtain ⟨c0, c1, c2⟩ := hat wr HB2.out
        have HTK := Lib.hid (count_takeT (f := fun t : Tch => t.kind == q) ht)
        have k2 : (k : Int) < (N : Int) := by omega
        clear ht hat
        by_cases hq : t.kind = q
        · have hq2 : (t.kind == q) = true := by simp [hq]
          have HJ1 : Hid (m + 1 = (ts.take (k + 1)).countP (fun t => t.kind == q)) := show _ = _ by rw [HTK.out, ← HJ.out]; simp [hq]
          clear hq
          go_wp2_with fail
          go_roundw
          case rel => exact ⟨k + 1, m + 1, by omega, by omega, by go_num, by go_num, HJ1, by first | trivial | rfl⟩
          case measure => simp [intOf]; omega
        · have hq2 : (t.kind == q) = false := by simp [hq]
          have HJ1 : Hid (m = (ts.take (k + 1)).countP (fun t => t.kind == q)) := show _ = _ by rw [HTK.out, ← HJ.out]; simp [hq]
          clear hq
          go_wp2_with fail
          go_roundw
          case rel => exact ⟨k + 1, m, by omega, by omega, by go_num, rfl, HJ1, by first | trivial | rfl⟩
          case measure => simp [intOf]; omega
      · obtain rfl : k = N := by omega
        have hmC : m = C := by rw [HJ.out, List.take_of_length_le (Nat.le_of_eq HN.out)]; exact HC.out
        subst hmC
        have hcc : (c != c) = false := by simp
        have hmm : ((m : Int) != (m : Int)) = false := by simp
        go_wp2_with fail
        refine (HCK.out wr HB2.out).mono ?_
        rintro e w3 ⟨rfl, hb3⟩
        have HB3 : Hid (Below w.heap.size w w3) := show Below _ _ _ from HB2.out.trans (hb3.mono HB2.out.size)
        have HS3 := Lib.hid (HS2.out.below hb3)
        clear hb3
        go_wp2_with fail
        refine (HNU.out c w3).mono ?_
        rintro e w4 ⟨rfl, hw⟩
        rw [hw]
        clear hw w4
        go_wp2_with fail
        refine (HNU.out c w3).mono ?_
        rintro e w4 ⟨rfl, hw⟩
        rw [hw]
        clear hw w4
        go_wp2_with fail
        refine (HCO.out w3 HB3.out).mono ?_
        rintro e w4 ⟨rfl, hb4⟩
        have HB4 : Hid (Below w.heap.size w w4) := show Below _ _ _ from HB3.out.trans (hb4.mono HB3.out.size)
        have HS4 := Lib.hid (HS3.out.below hb4)
        clear hb4
        by_cases hc0 : c = 0
        · subst hc0
          rw [if_pos rfl] at HS4 HM
          go_wp2_with fail
          refine (HRL.out w4 HB4.out).mono ?_
          rintro e w5 ⟨x, rfl, hg, hb5⟩
          have hx := sl_of_vec hg.vec
          have hx' := hg.slice
          obtain ⟨xa, xc, rfl⟩ := hx'
          have HIN := Lib.hid (intsL_any _ _ _ _ (Nat.le_trans HLV.out (by decide)) (Nat.le_trans HLV.out (by decide)) w5 (HS4.out.below hb5) hx)
          have HB5 : Hid (Below w.heap.size w w5) := show Below _ _ _ from HB4.out.trans (hb5.mono HB4.out.size)
          rw [HM.out] at HIN ⊢
          clear hb5 hg hx
          go_wp2_with fail
          refine HIN.out.mono ?_
          rintro e w6 ⟨rfl, hb6⟩
          have HB6 : Hid (Below w.heap.size w w6) := show Below _ _ _ from HB5.out.trans (hb6.mono HB5.out.size)
          rw [show decide True = true from rfl]
          clear hb6
          go_wp2_with fail
          refine (HW.out w6).mono ?_
          rintro e w7 ⟨rfl, hb7⟩
          go_wp2_with fail
          go_ret
          exact ⟨rfl, HB6.out.trans (hb7.mono HB6.out.size)⟩
        · have hc1 : (c != 0) = true := by simp [hc0]
          rw [if_neg hc0] at HM
          obtain rfl : M = 0 := HM.out.symm
          go_wp2_with fail
          refine (HW.out w4).mono ?_
          rintro e w7 ⟨rfl, hb7⟩
          go_wp2_with fail
          go_ret
          exact ⟨rfl, HB4.out.trans (hb7.mono HB4.out.size)⟩
/-- No list has more lines than touches. -/
theorem any_count : ∀ (xs : List Int) (n : Nat), ((List.range n).filter fun k : Nat => xs.any fun x => x == (k : Int)).length ≤ xs.length
  | [], n => by simp
  | x :: xs, n => by
    have ih := any_count xs n
    rw [← List.countP_eq_length_filter] at ih ⊢
    have h1 : (List.range n).countP (fun k : Nat => (x :: xs).any fun x => x == (k : Int)) ≤ (List.range n).countP (fun k : Nat => x == (k : Int)) + (List.range n).countP (fun k : Nat => xs.any fun x => x == (k : Int)) := by
      generalize List.range n = l
      induction l with
      | nil => simp
      | cons y l ih2 =>
        rw [List.countP_cons, List.countP_cons, List.countP_cons]
        simp only [List.any_cons] at ih2 ⊢
        by_cases hx : (x == (y : Int)) = true <;> by_cases hy : (xs.any fun x => x == (y : Int)) = true <;> simp [hx, hy] <;> omega
    have h2 : (List.range n).countP (fun k : Nat => x == (k : Int)) ≤ 1 := by
      rw [List.countP_eq_length_filter]
      have hn : ((List.range n).filter fun k : Nat => x == (k : Int)).Nodup := List.Pairwise.filter _ List.nodup_range
      have ha : ∀ k ∈ (List.range n).filter fun k : Nat => x == (k : Int), (k : Int) = x := fun k hk => by
        have := (List.mem_filter.1 hk).2
        rw [beq_iff_eq] at this
        exact this.symm
      generalize (List.range n).filter (fun k : Nat => x == (k : Int)) = l at hn ha
      rcases l with _ | ⟨a, _ | ⟨b, l⟩⟩
      · simp
      · simp
      · have := ha a (by simp)
        have := ha b (by simp)
        simp at hn
        omega
    simp only [List.length_cons]
    omega
theorem lines_few (p : Tch → Bool) (ts : List Tch) : (linesV p ts).length ≤ ts.length := by
  unfold linesV anyL
  refine Nat.le_trans ?_ (Nat.le_trans (any_count ((ts.filter p).map lineT) 1024) (by rw [List.length_map]; exact List.length_filter_le _ _))
  refine Nat.le_of_eq (congrArg List.length (List.filter_congr fun k _ => ?_))
  rw [List.any_map, List.any_filter]
  rfl
theorem kinds_all {ts : List Tch} (hr : ts.all rightT = true) : ts.countP (fun t => t.kind == 1) + ts.countP (fun t => t.kind == 2) + ts.countP (fun t => t.kind == 3) + ts.countP (fun t => t.kind == 4) = ts.length ∧ ts.countP (fun t => t.kind == 0) = 0 := by
  induction ts with
  | nil => simp
  | cons t ts ih =>
    rw [List.all_cons, Bool.and_eq_true] at hr
    obtain ⟨ih1, ih2⟩ := ih hr.2
    have hk : t.kind = 1 ∨ t.kind = 2 ∨ t.kind = 3 ∨ t.kind = 4 := by
      have h := hr.1
      unfold rightT at h
      by_cases h1 : t.kind = 1 ∨ t.kind = 2
      · omega
      · rw [if_neg h1] at h
        by_cases h3 : t.kind = 3
        · omega
        · rw [if_neg h3] at h
          exact .inr (.inr (.inr (of_decide_eq_true h).1))
    simp only [List.countP_cons, List.length_cons]
    rcases hk with h | h | h | h <;> simp only [h, Int.reduceBEq, if_true, Bool.false_eq_true, if_false] <;> omega
theorem sum_le (f : Nat → Nat) (N : Nat) (h : ∀ i, f i ≤ N) : ∀ j, ((List.range j).map f).sum ≤ j * N
  | 0 => by simp
  | j + 1 => by
    rw [List.range_succ, List.map_append, List.sum_append, Nat.add_mul]
    have := sum_le f N h j
    have := h j
    simp
    omega
set_option maxRecDepth 100000 in
set_option maxHeartbeats 4000000 in
theorem counts5_any {v : Value} {ts : List Tch} (w : World) (hs : SlT w v ts) :
    Calls Try.prog 9 #[v] w fun e w' => e = .returned (.bool true) ∧ Below w.heap.size w w' := by
  have HW := Lib.hid works5_any
  have HNU := Lib.hid num5_any
  obtain ⟨a, cap, rfl, -⟩ := id hs
  obtain ⟨N, hN⟩ : ∃ N, ts.length = N := ⟨_, rfl⟩
  by_cases hl : 60 < N
  · have hl' : (60 : Int) < (N : Int) := by omega
    rw [hN]
    clear hs hN
    go_enter Try.func9, Try.ntmps9
    go_wp2_with fail
    refine (HW.out w).mono ?_
    rintro e w' ⟨rfl, hb⟩
    go_wp2_with fail
    go_ret
    exact ⟨rfl, hb⟩
  · have hl' : ¬ (60 : Int) < (N : Int) := by omega
    have HLI := Lib.hid (fun W (hb : Below w.heap.size w W) => linesT_any W (by omega) (hs.below hb))
    have HCK := Lib.hid (checkT_any w (by omega) hs)
    have HCO := Lib.hid (fun q W (hb : Below w.heap.size w W) => countT_any q W (by omega) (hs.below hb))
    have HN := Lib.hid hN
    by_cases hc0 : checkT ts = 0
    · have HKA := Lib.hid (kinds_all (check_right hc0).1)
      have HLF := Lib.hid (lines_few hasL ts)
      have HLE := Lib.hid (fun q : Int => List.countP_le_length (p := fun t : Tch => t.kind == q) (l := ts))
      rw [hc0] at HCK HLI
      rw [hN] at HLI HCK HCO HKA HLF HLE ⊢
      obtain ⟨C, hC⟩ : ∃ C : Int → Nat, (fun q => ts.countP (fun t => t.kind == q)) = C := ⟨_, rfl⟩
      have hCq : ∀ q : Int, ts.countP (fun t => t.kind == q) = C q := fun q => congrFun hC q
      have HCO2 : Hid (∀ (q : Int) (W : World), Below w.heap.size w W → Calls Try.prog 15 #[.int .i64 q, .slice a N cap] W fun e w' => e = .returned (.int .i64 (C q : Nat)) ∧ Below W.heap.size W w') := show ∀ q W, _ from fun q W hb => by
        rw [← hCq q]; exact HCO.out q W hb
      have HK1 : Hid (C 1 + C 2 + C 3 + C 4 = N ∧ C 0 = 0) := show _ ∧ _ by
        rw [← hCq 1, ← hCq 2, ← hCq 3, ← hCq 4, ← hCq 0]; exact HKA.out
      have HK2 : Hid (∀ q, C q ≤ N) := show ∀ q, _ from fun q => by rw [← hCq q]; exact HLE.out q
      clear hs hN hc0 hC hCq
      go_enter Try.func9, Try.ntmps9
      go_wp2_with fail
      refine HCK.out.mono ?_
      rintro e w1 ⟨rfl, hb1⟩
      have HB1 := Lib.hid hb1
      clear hb1
      go_wp2_with fail
      refine (HNU.out 0 w1).mono ?_
      rintro e w2 ⟨rfl, hw⟩
      rw [hw]
      clear hw w2
      go_wp2_with fail
      go_loopw [3, 4] (fun n k wr => ∃ j m : Nat, j ≤ 4 ∧ k = .int .i64 ((j + 1 : Nat) : Int) ∧ n = .int .i64 (m : Nat) ∧ Hid (m = ((List.range j).map fun i : Nat => C ((i + 1 : Nat) : Int)).sum) ∧ m ≤ 4 * N ∧ Hid (Below w.heap.size w wr)) (fun _ k _ => 5 - (intOf k).toNat)
      case atStart => exact ⟨0, 0, by omega, rfl, rfl, (show _ = _ from rfl), by omega, HB1⟩
      case round =>
        obtain ⟨j, m, hj, rfl, rfl, HM, hm, HB⟩ := hrel
        by_cases hlt : j < 4
        · have k2 : ((j + 1 : Nat) : Int) ≤ 4 := by omega
          have HS : Hid (m + C ((j + 1 : Nat) : Int) = ((List.range (j + 1)).map fun i : Nat => C ((i + 1 : Nat) : Int)).sum) := show _ = _ by
            rw [List.range_succ, List.map_append, List.sum_append, ← HM.out]
            simp
          have hcq := HK2.out ((j + 1 : Nat) : Int)
          have HC1 := Lib.hid (HCO2.out ((j + 1 : Nat) : Int) wr HB.out)
          have hm4 : m ≤ j * N := by rw [HM.out]; exact sum_le (fun i : Nat => C ((i + 1 : Nat) : Int)) N (fun i => HK2.out _) j
          have hjn : j * N ≤ 3 * N := Nat.mul_le_mul_right _ (by omega)
          obtain ⟨x, hx⟩ : ∃ x, C ((j + 1 : Nat) : Int) = x := ⟨_, rfl⟩
          rw [hx] at HS HC1 hcq
          have hms : m + x ≤ 4 * N := by omega
          clear hx hm4 hjn
          go_wp2_with fail
          refine HC1.out.mono ?_
          rintro e w3 ⟨rfl, hb3⟩
          have HB3 : Hid (Below w.heap.size w w3) := show Below _ _ _ from HB.out.trans (hb3.mono HB.out.size)
          clear hb3
          go_wp2_with fail
          go_roundw
          case rel => exact ⟨j + 1, m + x, by omega, by go_num, by go_num, HS, hms, HB3⟩
          case measure => simp [intOf]; omega
        · obtain rfl : j = 4 := by omega
          have k2 : ¬ ((4 + 1 : Nat) : Int) ≤ 4 := by omega
          have hmN : m = N := by
            rw [HM.out]
            have := HK1.out.1
            show C 1 + (C 2 + (C 3 + (C 4 + 0))) = N
            omega
          subst hmN
          have HLX := Lib.hid (HLI.out wr HB.out)
          have HZ := HK1.out.2
          go_wp2_with fail
          refine HLX.out.mono ?_
          rintro e w3 ⟨u, rfl, hsl, hb3⟩
          rw [if_pos trivial] at hsl
          obtain ⟨ua, uc, rfl, -⟩ := hsl
          have HB3 : Hid (Below w.heap.size w w3) := show Below _ _ _ from HB.out.trans (hb3.mono HB.out.size)
          obtain ⟨L, hL⟩ : ∃ L, (linesV hasL ts).length = L := ⟨_, rfl⟩
          rw [hL] at HLF ⊢
          have hlf : (L : Int) ≤ (m : Int) := by have := HLF.out; omega
          clear hb3 hL
          go_wp2_with fail
          refine (HNU.out 0 w3).mono ?_
          rintro e w4 ⟨rfl, hw⟩
          rw [hw]
          clear hw w4
          go_wp2_with fail
          refine (HCO2.out 0 w3 HB3.out).mono ?_
          rintro e w5 ⟨rfl, hb5⟩
          have HB5 : Hid (Below w.heap.size w w5) := show Below _ _ _ from HB3.out.trans (hb5.mono HB3.out.size)
          rw [HZ]
          clear hb5
          go_wp2_with fail
          refine (HW.out w5).mono ?_
          rintro e w7 ⟨rfl, hb7⟩
          go_wp2_with fail
          go_ret
          exact ⟨rfl, HB5.out.trans (hb7.mono HB5.out.size)⟩
    · rw [hN] at HCK ⊢
      obtain ⟨c, hc⟩ : ∃ c, checkT ts = c := ⟨_, rfl⟩
      rw [hc] at HCK hc0
      have hc1 : (c != 0) = true := by simp [hc0]
      clear hs hN hc
      go_enter Try.func9, Try.ntmps9
      go_wp2_with fail
      refine HCK.out.mono ?_
      rintro e w1 ⟨rfl, hb1⟩
      have HB1 := Lib.hid hb1
      clear hb1
      go_wp2_with fail
      refine (HNU.out c w1).mono ?_
      rintro e w2 ⟨rfl, hw⟩
      rw [hw]
      clear hw w2
      go_wp2_with fail
      refine (HW.out w1).mono ?_
      rintro e w7 ⟨rfl, hb7⟩
      go_wp2_with fail
      go_ret
      exact ⟨rfl, HB1.out.trans (hb7.mono HB1.out.size)⟩
end Go.Proofs.Ytkpiehejkhjhlaa
