/-
  trace: which lists are right, how many of a Kind.
-/
import Derived.Test.YtkpiehejkhjhlaaTrA
namespace Go.Proofs.Ytkpiehejkhjhlaa
open Go.RowKit Go.Shelf

/-- What Check tells. -/
def checkT (ts : List Tch) : Int := if ts.all rightT then (if 4096 < ts.length then 3 else 0) else 2
theorem all_takeT {ts : List Tch} {f : Tch → Bool} {k : Nat} {t : Tch} (h : ts[k]? = some t) : (ts.take (k + 1)).all f = ((ts.take k).all f && f t) := by
  obtain ⟨hk, rfl⟩ := List.getElem?_eq_some_iff.1 h
  rw [List.take_succ_eq_append_getElem hk, List.all_append]
  simp
theorem count_takeT {ts : List Tch} {f : Tch → Bool} {k : Nat} {t : Tch} (h : ts[k]? = some t) : (ts.take (k + 1)).countP f = (ts.take k).countP f + if f t then 1 else 0 := by
  obtain ⟨hk, rfl⟩ := List.getElem?_eq_some_iff.1 h
  rw [List.take_succ_eq_append_getElem hk, List.countP_append]
  simp [List.countP_cons]
set_option maxHeartbeats 1000000 in
theorem checkT_any {v : Value} {ts : List Tch} (w : World) (hl : ts.length ≤ 9223372036854775807) (hs : SlT w v ts) :
    Calls Try.prog 14 #[v] w fun e w' => e = .returned (.int .i64 (checkT ts)) ∧ Below w.heap.size w w' := by
  obtain ⟨a, cap, rfl, -⟩ := id hs
  obtain ⟨N, hN⟩ : ∃ N, ts.length = N := ⟨_, rfl⟩
  rw [hN] at hs hl ⊢
  have HAT := Lib.hid (hs.at_ hN)
  have HN := Lib.hid hN
  obtain ⟨R, hR⟩ : ∃ R, checkT ts = R := ⟨_, rfl⟩
  have HR := Lib.hid hR
  rw [hR]
  clear hs hN hR
  go_enter Try.func14, Try.ntmps14
  go_wp2_with fail
  go_loopw [7] (fun i wr => ∃ k : Nat, k ≤ N ∧ i = .int .i64 (k : Nat) ∧ Hid ((ts.take k).all rightT = true) ∧ Hid (Below w.heap.size w wr)) (fun i _ => N - (intOf i).toNat)
  case atStart => exact ⟨0, by omega, rfl, (show _ = _ from rfl), (show Below _ _ _ from Below.refl _ _)⟩
  case round =>
    obtain ⟨k, hk, rfl, HJ, HB⟩ := hrel
    by_cases hlt : k < N
    · obtain ⟨b, off, t, ht, -, rfl, hat⟩ := HAT.out k hlt
      obtain ⟨c0, c1, c2⟩ := hat wr HB.out
      have HTK := Lib.hid (all_takeT (f := rightT) ht)
      have HT := Lib.hid ht
      have k2 : (k : Int) < (N : Int) := by omega
      have hbx : Below wr.heap.size wr (wr.alloc (.cells #[.int .i64 t.kind, .int .i64 t.at_, .int .u64 t.word] 32)) := (Below.refl _ _).alloc (Nat.le_refl _) _
      have HM := Lib.hid (mayT_any t (wr.alloc (.cells #[.int .i64 t.kind, .int .i64 t.at_, .int .u64 t.word] 32)))
      have HBX := Lib.hid (HB.out.trans (hbx.mono HB.out.size))
      clear ht hat hbx
      go_wp2_with fail
      refine HM.out.mono ?_
      rintro e w1 ⟨rfl, hb1⟩
      have HB1 : Hid (Below w.heap.size w w1) := show Below _ _ _ from HBX.out.trans (hb1.mono HBX.out.size)
      clear hb1
      cases hr : rightT t with
      | true =>
        have HJ1 : Hid ((ts.take (k + 1)).all rightT = true) := show _ = _ by rw [HTK.out, HJ.out, hr]; rfl
        go_wp2_with fail
        go_roundw
        case rel => exact ⟨k + 1, by omega, by go_num, HJ1, HB1⟩
        case measure => simp [intOf]; omega
      | false =>
        have HRR : Hid (R = 2) := show _ = _ by
          rw [← HR.out]
          unfold checkT
          rw [if_neg]
          rw [← List.take_append_drop (k + 1) ts, List.all_append, HTK.out, hr]
          simp
        go_wp2_with fail
        go_ret
        exact ⟨by rw [HRR.out]; rfl, HB1.out⟩
    · obtain rfl : k = N := by omega
      have HRR : Hid (R = if 4096 < k then 3 else 0) := show _ = _ by
        have := HJ.out
        rw [List.take_of_length_le (Nat.le_of_eq HN.out)] at this
        rw [← HR.out]
        unfold checkT
        rw [if_pos this, HN.out]
      by_cases h4 : 4096 < k
      · have h4' : (4096 : Int) < (k : Int) := by omega
        rw [if_pos h4] at HRR
        go_wp2_with fail
        go_ret
        exact ⟨by rw [HRR.out]; rfl, HB.out⟩
      · have h4' : ¬ (4096 : Int) < (k : Int) := by omega
        rw [if_neg h4] at HRR
        go_wp2_with fail
        go_ret
        exact ⟨by rw [HRR.out]; rfl, HB.out⟩
set_option maxHeartbeats 1000000 in
theorem countT_any {v : Value} {ts : List Tch} (q : Int) (w : World) (hl : ts.length ≤ 9223372036854775807) (hs : SlT w v ts) :
    Calls Try.prog 15 #[.int .i64 q, v] w fun e w' => e = .returned (.int .i64 (ts.countP (fun t => t.kind == q) : Nat)) ∧ Below w.heap.size w w' := by
  obtain ⟨a, cap, rfl, -⟩ := id hs
  obtain ⟨N, hN⟩ : ∃ N, ts.length = N := ⟨_, rfl⟩
  rw [hN] at hs hl ⊢
  have HAT := Lib.hid (hs.at_ hN)
  have HN := Lib.hid hN
  have HLE := Lib.hid (fun k => List.countP_le_length (p := fun t : Tch => t.kind == q) (l := ts.take k))
  clear hs hN
  go_enter Try.func15, Try.ntmps15
  go_wp2_with fail
  go_loopw [5, 10] (fun c i wr => ∃ k m : Nat, k ≤ N ∧ m ≤ k ∧ i = .int .i64 (k : Nat) ∧ c = .int .i64 (m : Nat) ∧ Hid (m = (ts.take k).countP (fun t => t.kind == q)) ∧ Hid (Below w.heap.size w wr)) (fun _ i _ => N - (intOf i).toNat)
  case atStart => exact ⟨0, 0, by omega, by omega, rfl, rfl, (show _ = _ from rfl), (show Below _ _ _ from Below.refl _ _)⟩
  case round =>
    obtain ⟨k, m, hk, hm, rfl, rfl, HJ, HB⟩ := hrel
    by_cases hlt : k < N
    · obtain ⟨b, off, t, ht, -, rfl, hat⟩ := HAT.out k hlt
      obtain ⟨c0, c1, c2⟩ := hat wr HB.out
      have HTK := Lib.hid (count_takeT (f := fun t : Tch => t.kind == q) ht)
      have k2 : (k : Int) < (N : Int) := by omega
      have hbx : Below w.heap.size w (wr.alloc (.cells #[.int .i64 t.kind, .int .i64 t.at_, .int .u64 t.word] 32)) := HB.out.alloc HB.out.size _
      have HBX := Lib.hid hbx
      clear ht hat hbx
      by_cases hq : t.kind = q
      · have hq2 : (t.kind == q) = true := by simp [hq]
        have HJ1 : Hid (m + 1 = (ts.take (k + 1)).countP (fun t => t.kind == q)) := show _ = _ by rw [HTK.out, ← HJ.out]; simp [hq]
        go_wp2_with fail
        go_roundw
        case rel => exact ⟨k + 1, m + 1, by omega, by omega, by go_num, by go_num, HJ1, by rw [← hq]; exact HBX⟩
        case measure => simp [intOf]; omega
      · have hq2 : (t.kind == q) = false := by simp [hq]
        have HJ1 : Hid (m = (ts.take (k + 1)).countP (fun t => t.kind == q)) := show _ = _ by rw [HTK.out, ← HJ.out]; simp [hq]
        go_wp2_with fail
        go_roundw
        case rel => exact ⟨k + 1, m, by omega, by omega, by go_num, rfl, HJ1, HBX⟩
        case measure => simp [intOf]; omega
    · obtain rfl : k = N := by omega
      have HM : Hid (m = ts.countP (fun t => t.kind == q)) := show _ = _ by rw [HJ.out, List.take_of_length_le (Nat.le_of_eq HN.out)]
      go_wp2_with fail
      go_ret
      exact ⟨by rw [← HM.out]; rfl, HB.out⟩
end Go.Proofs.Ytkpiehejkhjhlaa
