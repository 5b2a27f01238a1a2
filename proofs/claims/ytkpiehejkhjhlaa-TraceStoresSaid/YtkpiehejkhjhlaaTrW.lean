/-
  The document's answers for trace: Right, Line, Check; the law's touches; lists that are the same.
-/
import Derived.Test.YtkpiehejkhjhlaaTrV
import Derived.Test.YtkpiehejkhjhlaaInts
namespace Go.Proofs.Ytkpiehejkhjhlaa
open Go.RowKit Go.Shelf Go.Maps

set_option maxHeartbeats 1000000 in
theorem refRight_any (t : Tch) (w : World) : Calls Try.prog 31 #[.agg (touchA t)] w fun e w' => e = .returned (.bool (rightT t)) ∧ Below w.heap.size w w' := by
  obtain ⟨k, a, x⟩ := t
  have hb1 : Below w.heap.size w (w.alloc (.cells #[.int .i64 k, .int .i64 a, .int .u64 x] 32)) := (Below.refl _ _).alloc (Nat.le_refl _) _
  have HB := Lib.hid hb1
  clear hb1
  obtain ⟨R, hR⟩ : ∃ R, rightT ⟨k, a, x⟩ = R := ⟨_, rfl⟩
  rw [hR]
  by_cases h1 : k = 1
  · subst h1
    by_cases ha : 0 ≤ a
    · by_cases hb : a < 8192
      · have HA : Hid (R = true) := show _ = _ from hR.symm.trans ((rightT_12 (.inl rfl)).trans (decide_eq_true ⟨ha, hb⟩))
        clear hR
        go_enter Try.func31, Try.ntmps31
        go_wp2_with fail
        go_ret
        exact ⟨by rw [HA.out]; rfl, HB.out⟩
      · have HA : Hid (R = false) := show _ = _ from hR.symm.trans ((rightT_12 (.inl rfl)).trans (decide_eq_false fun h => hb h.2))
        clear hR
        go_enter Try.func31, Try.ntmps31
        go_wp2_with fail
        go_ret
        exact ⟨by rw [HA.out]; rfl, HB.out⟩
    · have HA : Hid (R = false) := show _ = _ from hR.symm.trans ((rightT_12 (.inl rfl)).trans (decide_eq_false fun h => ha h.1))
      clear hR
      go_enter Try.func31, Try.ntmps31
      go_wp2_with fail
      go_ret
      exact ⟨by rw [HA.out]; rfl, HB.out⟩
  by_cases h2 : k = 2
  · subst h2
    by_cases ha : 0 ≤ a
    · by_cases hb : a < 8192
      · have HA : Hid (R = true) := show _ = _ from hR.symm.trans ((rightT_12 (.inr rfl)).trans (decide_eq_true ⟨ha, hb⟩))
        clear hR
        go_enter Try.func31, Try.ntmps31
        go_wp2_with fail
        go_ret
        exact ⟨by rw [HA.out]; rfl, HB.out⟩
      · have HA : Hid (R = false) := show _ = _ from hR.symm.trans ((rightT_12 (.inr rfl)).trans (decide_eq_false fun h => hb h.2))
        clear hR
        go_enter Try.func31, Try.ntmps31
        go_wp2_with fail
        go_ret
        exact ⟨by rw [HA.out]; rfl, HB.out⟩
    · have HA : Hid (R = false) := show _ = _ from hR.symm.trans ((rightT_12 (.inr rfl)).trans (decide_eq_false fun h => ha h.1))
      clear hR
      go_enter Try.func31, Try.ntmps31
      go_wp2_with fail
      go_ret
      exact ⟨by rw [HA.out]; rfl, HB.out⟩
  by_cases h3 : k = 3
  · subst h3
    by_cases ha : 0 ≤ a
    · by_cases hb : a < 1024
      · by_cases hc : x = 0
        · subst hc
          have HA : Hid (R = true) := show _ = _ from hR.symm.trans (rightT_3.trans (decide_eq_true ⟨ha, hb, rfl⟩))
          clear hR
          go_enter Try.func31, Try.ntmps31
          go_wp2_with fail
          go_ret
          exact ⟨by rw [HA.out]; rfl, HB.out⟩
        · have hc2 : (x == 0) = false := by simp [hc]
          have HA : Hid (R = false) := show _ = _ from hR.symm.trans (rightT_3.trans (decide_eq_false fun h => hc h.2.2))
          clear hR
          go_enter Try.func31, Try.ntmps31
          go_wp2_with fail
          go_ret
          exact ⟨by rw [HA.out]; rfl, HB.out⟩
      · have HA : Hid (R = false) := show _ = _ from hR.symm.trans (rightT_3.trans (decide_eq_false fun h => hb h.2.1))
        clear hR
        go_enter Try.func31, Try.ntmps31
        go_wp2_with fail
        go_ret
        exact ⟨by rw [HA.out]; rfl, HB.out⟩
    · have HA : Hid (R = false) := show _ = _ from hR.symm.trans (rightT_3.trans (decide_eq_false fun h => ha h.1))
      clear hR
      go_enter Try.func31, Try.ntmps31
      go_wp2_with fail
      go_ret
      exact ⟨by rw [HA.out]; rfl, HB.out⟩
  have e1 : (k == 1) = false := by simp [h1]
  have e2 : (k == 2) = false := by simp [h2]
  have e3 : (k == 3) = false := by simp [h3]
  by_cases h4 : k = 4
  · subst h4
    by_cases ha : a = 0
    · subst ha
      by_cases hc : x = 0
      · subst hc
        have HA : Hid (R = true) := show _ = _ from hR.symm.trans ((rightT_4 h1 h2 h3).trans (decide_eq_true ⟨rfl, rfl, rfl⟩))
        clear hR h1 h2 h3 e1 e2 e3
        go_enter Try.func31, Try.ntmps31
        go_wp2_with fail
        go_ret
        exact ⟨by rw [HA.out]; rfl, HB.out⟩
      · have hc2 : (x == 0) = false := by simp [hc]
        have HA : Hid (R = false) := show _ = _ from hR.symm.trans ((rightT_4 h1 h2 h3).trans (decide_eq_false fun h => hc h.2.2))
        clear hR h1 h2 h3 e1 e2 e3
        go_enter Try.func31, Try.ntmps31
        go_wp2_with fail
        go_ret
        exact ⟨by rw [HA.out]; rfl, HB.out⟩
    · have ha2 : (a == 0) = false := by simp [ha]
      have HA : Hid (R = false) := show _ = _ from hR.symm.trans ((rightT_4 h1 h2 h3).trans (decide_eq_false fun h => ha h.2.1))
      clear hR h1 h2 h3 e1 e2 e3
      go_enter Try.func31, Try.ntmps31
      go_wp2_with fail
      go_ret
      exact ⟨by rw [HA.out]; rfl, HB.out⟩
  · have e4 : (k == 4) = false := by simp [h4]
    have HA : Hid (R = false) := show _ = _ from hR.symm.trans ((rightT_4 h1 h2 h3).trans (decide_eq_false fun h => h4 h.1))
    clear hR
    go_enter Try.func31, Try.ntmps31
    go_wp2_with fail
    go_ret
    exact ⟨by rw [HA.out]; rfl, HB.out⟩
/-- A touch's line; -1: it has none. -/
def lineR (t : Tch) : Int := if t.kind = 3 then t.at_ else if t.kind = 4 then -1 else t.at_.tdiv 8
theorem refLine_any (t : Tch) (ha : in64 t.at_) (w : World) : Calls Try.prog 33 #[.agg (touchA t)] w fun e w' => e = .returned (.int .i64 (lineR t)) ∧ Below w.heap.size w w' := by
  obtain ⟨k, a, x⟩ := t
  have hb1 : Below w.heap.size w (w.alloc (.cells #[.int .i64 k, .int .i64 a, .int .u64 x] 32)) := (Below.refl _ _).alloc (Nat.le_refl _) _
  have HB := Lib.hid hb1
  clear hb1
  obtain ⟨R, hR⟩ : ∃ R, lineR ⟨k, a, x⟩ = R := ⟨_, rfl⟩
  rw [hR]
  have hq : IntKind.i64.wrap (a.tdiv 8) = a.tdiv 8 := by
    unfold in64 at ha
    simp only at ha
    have h : (a.tdiv 8).natAbs = a.natAbs / 8 := Int.natAbs_tdiv a 8
    exact IntWalk.i64_in _ (by omega)
  by_cases h3 : k = 3
  · subst h3
    have HA : Hid (R = a) := show _ = _ from hR.symm
    clear hR
    go_enter Try.func33, Try.ntmps33
    go_wp2_with fail
    go_ret
    exact ⟨by rw [HA.out]; rfl, HB.out⟩
  · have e3 : (k == 3) = false := by simp [h3]
    by_cases h4 : k = 4
    · subst h4
      have HA : Hid (R = -1) := show _ = _ from hR.symm
      clear hR
      go_enter Try.func33, Try.ntmps33
      go_wp2_with fail
      go_ret
      exact ⟨by rw [HA.out]; rfl, HB.out⟩
    · have e4 : (k == 4) = false := by simp [h4]
      have HA : Hid (R = a.tdiv 8) := show _ = _ from hR.symm.trans ((if_neg h3).trans (if_neg h4))
      clear hR
      go_enter Try.func33, Try.ntmps33
      go_wp2_with fail
      go_ret
      exact ⟨by rw [HA.out]; rfl, HB.out⟩
theorem num5_any (k : Int) (w : World) : Calls Try.prog 13 #[.int .i64 k] w fun e w' => e = .returned (.int .i64 k) ∧ w' = w := by
  go_enter Try.func13, Try.ntmps13
  go_wp2_with fail
  go_ret
  exact ⟨rfl, rfl⟩
theorem storeL_any (p x : Int) (w : World) : Calls Try.prog 26 #[.int .i64 p, .int .u64 x] w fun e w' => e = .returned (.agg (touchA ⟨2, p, x⟩)) ∧ Below w.heap.size w w' := by
  go_enter Try.func26, Try.ntmps26
  go_wp2_with fail
  refine bodyPost_ret (v := .agg (touchA ⟨2, p, x⟩)) (by simp [results, Try.results26, go_sem]) rfl ⟨rfl, (by repeat (first | exact Below.refl _ _ | assumption | refine Below.drew ?_ | refine below_drewN ?_ _ | refine Below.alloc ?_ (by (try simp) <;> omega) _ | refine Below.setCell ?_ (by (try simp) <;> omega) _ | refine Below.trans ?_ (Below.mono (by assumption) (by (try simp) <;> omega))))⟩
theorem flushL_any (p : Int) (w : World) : Calls Try.prog 28 #[.int .i64 p] w fun e w' => e = .returned (.agg (touchA ⟨3, p, 0⟩)) ∧ Below w.heap.size w w' := by
  go_enter Try.func28, Try.ntmps28
  go_wp2_with fail
  refine bodyPost_ret (v := .agg (touchA ⟨3, p, 0⟩)) (by simp [results, Try.results28, go_sem]) rfl ⟨rfl, (by repeat (first | exact Below.refl _ _ | assumption | refine Below.drew ?_ | refine below_drewN ?_ _ | refine Below.alloc ?_ (by (try simp) <;> omega) _ | refine Below.setCell ?_ (by (try simp) <;> omega) _ | refine Below.trans ?_ (Below.mono (by assumption) (by (try simp) <;> omega))))⟩
theorem fenceL_any (w : World) : Calls Try.prog 25 #[] w fun e w' => e = .returned (.agg (touchA ⟨4, 0, 0⟩)) ∧ Below w.heap.size w w' := by
  go_enter Try.func25, Try.ntmps25
  go_wp2_with fail
  refine bodyPost_ret (v := .agg (touchA ⟨4, 0, 0⟩)) (by simp [results, Try.results25, go_sem]) rfl ⟨rfl, (by repeat (first | exact Below.refl _ _ | assumption | refine Below.drew ?_ | refine below_drewN ?_ _ | refine Below.alloc ?_ (by (try simp) <;> omega) _ | refine Below.setCell ?_ (by (try simp) <;> omega) _ | refine Below.trans ?_ (Below.mono (by assumption) (by (try simp) <;> omega))))⟩
set_option maxHeartbeats 1000000 in
theorem refCheck_any {v : Value} {ts : List Tch} (w : World) (hl : ts.length ≤ 9223372036854775807) (hs : SlT w v ts) :
    Calls Try.prog 12 #[v] w fun e w' => e = .returned (.int .i64 (checkT ts)) ∧ Below w.heap.size w w' := by
  obtain ⟨a, cap, rfl, -⟩ := id hs
  obtain ⟨N, hN⟩ : ∃ N, ts.length = N := ⟨_, rfl⟩
  rw [hN] at hs hl ⊢
  have HAT := Lib.hid (hs.at_ hN)
  have HN := Lib.hid hN
  obtain ⟨R, hR⟩ : ∃ R, checkT ts = R := ⟨_, rfl⟩
  have HR := Lib.hid hR
  rw [hR]
  clear hs hN hR
  go_enter Try.func12, Try.ntmps12
  go_wp2_with fail
  go_loopw [3] (fun i wr => ∃ k : Nat, k ≤ N ∧ i = .int .i64 (k : Nat) ∧ Hid ((ts.take k).all rightT = true) ∧ Hid (Below w.heap.size w wr)) (fun i _ => N - (intOf i).toNat)
  case atStart => exact ⟨0, by omega, rfl, (show _ = _ from rfl), (show Below _ _ _ from Below.refl _ _)⟩
  case round =>
    obtain ⟨k, hk, rfl, HJ, HB⟩ := hrel
    by_cases hlt : k < N
    · obtain ⟨b, off, t, ht, -, rfl, hat⟩ := HAT.out k hlt
      obtain ⟨c0, c1, c2⟩ := hat wr HB.out
      have HTK := Lib.hid (all_takeT (f := rightT) ht)
      have HT := Lib.hid ht
      have k2 : (k : Int) < (N : Int) := by omega
      have HM := Lib.hid (refRight_any t wr)
      have HBX := Lib.hid HB.out
      clear ht hat
      go_wp2_with fail
      refine HM.out.mono ?_
      rintro e w1 ⟨rfl, hb1⟩
      have HB1 : Hid (Below w.heap.size w w1) := show Below _ _ _ from HBX.out.trans (hb1.mono HBX.out.size)
      clear hb1
      cases hr : rightT t with
      | true =>
        have HJ1 : Hid ((ts.take (k + 1)).all rightT = true) := show _ = _ by rw [HTK.out, HJ.out, hr]; rfl
        go_wp2_with fail
        go_roundw
        case rel => exact ⟨k + 1, by omega, by go_num, HJ1, HB1⟩
        case measure => simp [intOf]; omega
      | false =>
        have HRR : Hid (R = 2) := show _ = _ by
          rw [← HR.out]
          unfold checkT
          rw [if_neg]
          rw [← List.take_append_drop (k + 1) ts, List.all_append, HTK.out, hr]
          simp
        go_wp2_with fail
        go_ret
        exact ⟨by rw [HRR.out]; rfl, HB1.out⟩
    · obtain rfl : k = N := by omega
      have HRR : Hid (R = if 4096 < k then 3 else 0) := show _ = _ by
        have := HJ.out
        rw [List.take_of_length_le (Nat.le_of_eq HN.out)] at this
        rw [← HR.out]
        unfold checkT
        rw [if_pos this, HN.out]
      by_cases h4 : 4096 < k
      · have h4' : (4096 : Int) < (k : Int) := by omega
        rw [if_pos h4] at HRR
        go_wp2_with fail
        go_ret
        exact ⟨by rw [HRR.out]; rfl, HB.out⟩
      · have h4' : ¬ (4096 : Int) < (k : Int) := by omega
        rw [if_neg h4] at HRR
        go_wp2_with fail
        go_ret
        exact ⟨by rw [HRR.out]; rfl, HB.out⟩
theorem fieldsTc : (Try.prog.fieldsOf 32).toList.map (fun f => (f.name, f.type, f.offset)) = [("Kind", 29, 0), ("At", 3, 1), ("Word", 30, 2)] := by kernel_rfl
theorem three_map {α β : Type} {g : α → β} {l : List α} {a b c : β} (h : l.map g = [a, b, c]) : ∃ x y z, l = [x, y, z] ∧ g x = a ∧ g y = b ∧ g z = c := by
  match l, h with
  | [x, y, z], h => simp at h; exact ⟨x, y, z, rfl, h.1, h.2.1, h.2.2⟩
theorem equal_touch (a b c a' b' c' : Int) (w : World) : (Op.equalIn 10000 32 (.agg #[.int .i64 a, .int .i64 b, .int .u64 c]) (.agg #[.int .i64 a', .int .i64 b', .int .u64 c'])).run Try.prog w = .ok (a == a' && (b == b' && c == c')) w := by
  obtain ⟨f1, f2, f3, hf, h1, h2, h3⟩ := three_map fieldsTc
  rw [run_equalIn_agg w 9999 32 _ _ (by kernel_rfl) (by kernel_rfl), hf]
  simp only [Prod.mk.injEq] at h1 h2 h3
  obtain ⟨n1, t1, o1⟩ := h1
  obtain ⟨n2, t2, o2⟩ := h2
  obtain ⟨n3, t3, o3⟩ := h3
  have e0 : ∀ x y z : Int, (part 29 #[.int .i64 x, .int .i64 y, .int .u64 z] 0).run Try.prog w = .ok (.int .i64 x) w := fun x y z => by simp [part, isAgg, run_underlying Try.underlying29]
  have e1 : ∀ x y z : Int, (part 3 #[.int .i64 x, .int .i64 y, .int .u64 z] 1).run Try.prog w = .ok (.int .i64 y) w := fun x y z => by simp [part, isAgg, run_underlying Try.underlying3]
  have e2 : ∀ x y z : Int, (part 30 #[.int .i64 x, .int .i64 y, .int .u64 z] 2).run Try.prog w = .ok (.int .u64 z) w := fun x y z => by simp [part, isAgg, run_underlying Try.underlying30]
  have q0 := fun x y : Int => run_equalIn_int (P := Try.prog) w 9998 29 .i64 .i64 x y Try.underlying29
  have q := fun x y : Int => run_equalIn_int (P := Try.prog) w 9998 3 .i64 .i64 x y Try.underlying3
  have q2 := fun x y : Int => run_equalIn_int (P := Try.prog) w 9998 30 .u64 .u64 x y Try.underlying30
  simp only [Op.eqFields, n1, n2, n3, t1, t2, t3, o1, o2, o3, ne_eq, String.reduceEq, not_false_eq_true, if_true, Sem.run_bind, e0, q0, Result.andThen_ok]
  cases h1 : (a == a') with
  | false => simp
  | true =>
    simp only [Bool.not_true, Bool.false_eq_true, if_false, Sem.run_bind, e1, q, Result.andThen_ok]
    cases h2 : (b == b') with
    | false => simp
    | true =>
      simp only [Bool.not_true, Bool.false_eq_true, if_false, Sem.run_bind, e2, q2, Result.andThen_ok]
      cases h3 : (c == c') <;> simp
theorem neq_touch (t u : Tch) (w : World) : (binOp .neq 32 (.agg #[.int .i64 t.kind, .int .i64 t.at_, .int .u64 t.word]) (.agg #[.int .i64 u.kind, .int .i64 u.at_, .int .u64 u.word])).run Try.prog w = .ok (.bool (!decide (t = u))) w := by
  rw [run_neq_struct, equal_touch]
  obtain ⟨a, b, c⟩ := t
  obtain ⟨a', b', c'⟩ := u
  have : (a == a' && (b == b' && c == c')) = decide ((⟨a, b, c⟩ : Tch) = ⟨a', b', c'⟩) := by
    simp only [Tch.mk.injEq, Bool.decide_and]
    rfl
  simp only [this]
  rfl
set_option maxRecDepth 100000 in
set_option maxHeartbeats 2000000 in
theorem sameT_any {v u : Value} {ts us : List Tch} (w : World) (hl : ts.length ≤ 90000) (hs : SlT w v ts) (hu : SlT w u us) :
    Calls Try.prog 22 #[v, u] w fun e w' => e = .returned (.bool (decide (ts = us))) ∧ Below w.heap.size w w' := by
  obtain ⟨a, cap, rfl, -⟩ := id hs
  obtain ⟨a', cap', rfl, -⟩ := id hu
  obtain ⟨N, hN⟩ : ∃ N, ts.length = N := ⟨_, rfl⟩
  obtain ⟨M, hM⟩ : ∃ M, us.length = M := ⟨_, rfl⟩
  rw [hN] at hs hl ⊢
  rw [hM] at hu ⊢
  have HAT := Lib.hid (hs.at_ hN)
  have HAU := Lib.hid (hu.at_ hM)
  have HN := Lib.hid hN
  have HM := Lib.hid hM
  clear hs hu hN hM
  by_cases hl2 : N = M
  · have hne : ((N : Int) != (M : Int)) = false := by simp [hl2]
    subst hl2
    go_enter Try.func22, Try.ntmps22
    go_wp2_with fail
    go_loopw [5] (fun i wr => ∃ k : Nat, k ≤ N ∧ i = .int .i64 (k : Nat) ∧ Hid (∀ j, j < k → ts[j]? = us[j]?) ∧ Hid (Below w.heap.size w wr)) (fun i _ => N - (intOf i).toNat)
    case atStart => exact ⟨0, by omega, rfl, (show ∀ _, _ from fun j h => by omega), (show Below _ _ _ from Below.refl _ _)⟩
    case round =>
      obtain ⟨k, hk, rfl, HJ, HB⟩ := hrel
      by_cases hlt : k < N
      · obtain ⟨b, off, t, ht, -, rfl, hat⟩ := HAT.out k hlt
        obtain ⟨b', off', x, hx, -, rfl, hau⟩ := HAU.out k hlt
        have hdr : Below wr.heap.size wr wr.drew := Below.drew (Below.refl _ _)
        have HB1 : Hid (Below w.heap.size w wr.drew) := show Below _ _ _ from HB.out.trans (hdr.mono HB.out.size)
        have k2 : (k : Int) < (N : Int) := by omega
        have HT := Lib.hid ht
        have HX := Lib.hid hx
        have hR : (fun W : World => (W.cell? ⟨b, off + k * 3, none⟩ = some (.int .i64 t.kind) ∧ W.cell? ⟨b, off + k * 3 + 1, none⟩ = some (.int .i64 t.at_) ∧ W.cell? ⟨b, off + k * 3 + 2, none⟩ = some (.int .u64 t.word)) ∧ (W.cell? ⟨b', off' + k * 3, none⟩ = some (.int .i64 x.kind) ∧ W.cell? ⟨b', off' + k * 3 + 1, none⟩ = some (.int .i64 x.at_) ∧ W.cell? ⟨b', off' + k * 3 + 2, none⟩ = some (.int .u64 x.word))) wr.drew := ⟨hat _ HB1.out, hau _ HB1.out⟩
        obtain ⟨r, hr⟩ : ∃ r, decide (t = x) = r := ⟨_, rfl⟩
        have hnq := fun W => (neq_touch t x W).trans (by rw [hr])
        have HRD := Lib.hid hr
        clear ht hx hat hau hdr hr
        go_wp2_with fail
        refine wp_region_M 8 (fun W : World => (W.cell? ⟨b, off + k * 3, none⟩ = some (.int .i64 t.kind) ∧ W.cell? ⟨b, off + k * 3 + 1, none⟩ = some (.int .i64 t.at_) ∧ W.cell? ⟨b, off + k * 3 + 2, none⟩ = some (.int .u64 t.word)) ∧ (W.cell? ⟨b', off' + k * 3, none⟩ = some (.int .i64 x.kind) ∧ W.cell? ⟨b', off' + k * 3 + 1, none⟩ = some (.int .i64 x.at_) ∧ W.cell? ⟨b', off' + k * 3 + 2, none⟩ = some (.int .u64 x.word))) (by kernel_rfl) ?_
        (refine wpAnyM_take2 8 (i := 0) (v := ?_) rfl (by kernel_rfl) (by kernel_rfl) (fun _ _ _ h => h) (Or.inl ⟨by rfl, ?_⟩) hR ?_; rotate_left; (focus (intro w hSw; (try dsimp only at hSw); go_simp; (try with_reducible rfl))); (try simp only [put_laws])); (refine wpAnyM_take2 8 (i := 1) (v := ?_) rfl (by kernel_rfl) (by kernel_rfl) (fun _ _ _ h => h) (Or.inl ⟨by rfl, ?_⟩) hR ?_; rotate_left; (focus (intro w hSw; (try dsimp only at hSw); go_simp; (try with_reducible rfl))); (try simp only [put_laws])); (refine wpAnyM_take2 8 (i := 2) (v := ?_) rfl (by kernel_rfl) (by kernel_rfl) (fun _ _ _ h => h) (Or.inl ⟨by rfl, ?_⟩) hR ?_; rotate_left; (focus (intro w hSw; (try dsimp only at hSw); go_simp; (try with_reducible rfl))); (try simp only [put_laws])); (refine wpAnyM_take2 8 (i := 3) (v := ?_) rfl (by kernel_rfl) (by kernel_rfl) (fun _ _ _ h => h) (Or.inl ⟨by rfl, ?_⟩) hR ?_; rotate_left; (focus (intro w hSw; (try dsimp only at hSw); go_simp; (try with_reducible rfl))); (try simp only [put_laws])); (refine wpAnyM_take2 8 (i := 4) (v := ?_) rfl (by kernel_rfl) (by kernel_rfl) (fun _ _ _ h => h) (Or.inl ⟨by rfl, ?_⟩) hR ?_; rotate_left; (focus (intro w hSw; (try dsimp only at hSw); go_simp; (try with_reducible rfl))); (try simp only [put_laws])); (refine wpAnyM_take2 8 (i := 5) (v := ?_) rfl (by kernel_rfl) (by kernel_rfl) (fun _ _ _ h => h) (Or.inl ⟨by rfl, ?_⟩) hR ?_; rotate_left; (focus (intro w hSw; (try dsimp only at hSw); go_simp; (try with_reducible rfl))); (try simp only [put_laws])); (refine wpAnyM_take2 8 (i := 6) (v := ?_) rfl (by kernel_rfl) (by kernel_rfl) (fun _ _ _ h => h) (Or.inl ⟨by rfl, ?_⟩) hR ?_; rotate_left; (focus (intro w hSw; (try dsimp only at hSw); go_simp; (try with_reducible rfl))); (try simp only [put_laws])); (refine wpAnyM_take2 8 (i := 7) (v := ?_) rfl (by kernel_rfl) (by kernel_rfl) (fun _ _ _ h => h) (Or.inl ⟨by rfl, ?_⟩) hR ?_; rotate_left; (focus (intro w hSw; (try dsimp only at hSw); go_simp; (try with_reducible rfl))); (try simp only [put_laws]))
        (refine wpAnyM_last rfl (by kernel_rfl) (fun K hK => ?_); rw [if_pos (by rfl)]; (try simp only [elem_laws]))
        clear hR
        go_simp
        refine hK _ _ ?_
        clear hK K hnq
        (try simp only [put_laws])
        refine wpAnyM_done (by kernel_rfl) ?_ _
        cases r with
        | true =>
          have htx : t = x := of_decide_eq_true HRD.out
          have HJ1 : Hid (∀ j, j < k + 1 → ts[j]? = us[j]?) := show ∀ _, _ from fun j hj => by
            by_cases hjk : j = k
            · rw [hjk, HT.out, HX.out, htx]
            · exact HJ.out j (by omega)
          clear htx
          go_wp2_with fail
          go_roundw
          case rel => exact ⟨k + 1, by omega, by go_num, HJ1, HB1⟩
          case measure => simp [intOf]; omega
        | false =>
          have htx : ¬ t = x := of_decide_eq_false HRD.out
          have HE : Hid (decide (ts = us) = false) := show _ = _ from decide_eq_false fun e => htx (by
            have := HT.out.symm.trans ((by rw [e] : ts[k]? = us[k]?).trans HX.out)
            exact Option.some.inj this)
          clear htx
          go_wp2_with fail
          go_ret
          exact ⟨by rw [HE.out]; rfl, HB1.out⟩
      · obtain rfl : k = N := by omega
        have HE : Hid (decide (ts = us) = true) := show _ = _ from decide_eq_true (List.ext_getElem? fun j => by
          by_cases hj : j < k
          · exact HJ.out j hj
          · rw [List.getElem?_eq_none (by rw [HN.out]; omega), List.getElem?_eq_none (by rw [HM.out]; omega)])
        go_wp2_with fail
        go_ret
        exact ⟨by rw [HE.out]; rfl, HB.out⟩
  · have hne : ((N : Int) != (M : Int)) = true := by rw [bne_iff_ne]; omega
    have HE : Hid (decide (ts = us) = false) := show _ = _ from decide_eq_false fun e => hl2 (by rw [← HN.out, ← HM.out, e])
    go_enter Try.func22, Try.ntmps22
    go_wp2_with fail
    go_ret
    exact ⟨by rw [HE.out]; rfl, Below.refl _ _⟩
end Go.Proofs.Ytkpiehejkhjhlaa
