/-
  trace: touches, lists of them, which may be.
-/
import Derived.Test.YtkpiehejkhjhlaaHeldFar
import Derived.Test.YtkpiehejkhjhlaaCut
namespace Go.Proofs.Ytkpiehejkhjhlaa
open Go.RowKit Go.Shelf

/-- A touch. -/
structure Tch where
  kind : Int
  at_ : Int
  word : Int
deriving DecidableEq
/-- Its three cells. -/
abbrev touchA (t : Tch) : Array Value := #[.int .i64 t.kind, .int .i64 t.at_, .int .u64 t.word]
/-- A list of touches in memory. -/
def SlT (W : World) (v : Value) (ts : List Tch) : Prop :=
  ∃ a cap, v = .slice a ts.length cap ∧ ts.length ≤ cap ∧ (0 < ts.length → ∃ b off, a = some ⟨b, off, none⟩ ∧ b < W.heap.size ∧ ∀ (k : Nat) (hk : k < ts.length), W.rangeAt b (off + k * 3) (touchA ts[k]).toList)
theorem SlT.below {W W' : World} {v : Value} {ts : List Tch} (h : SlT W v ts) (hb : Below W.heap.size W W') : SlT W' v ts := by
  obtain ⟨a, cap, hv, hl, hc⟩ := h
  refine ⟨a, cap, hv, hl, fun h0 => ?_⟩
  obtain ⟨b, off, ha, hbl, hj⟩ := hc h0
  exact ⟨b, off, ha, Nat.lt_of_lt_of_le hbl hb.size, fun k hk j v hv => (hb.cell (p := ⟨b, off + k * 3 + j, none⟩) hbl).trans (hj k hk j v hv)⟩
/-- The touches of a list, one by one, wherever the walk stands. -/
theorem SlT.at_ {w : World} {a : Option Addr} {cap N : Nat} {ts : List Tch} (hN : ts.length = N) (hs : SlT w (.slice a N cap) ts) (k : Nat) (hk : k < N) :
    ∃ b off t, ts[k]? = some t ∧ t ∈ ts ∧ a = some ⟨b, off, none⟩ ∧ ∀ W, Below w.heap.size w W → W.cell? ⟨b, off + k * 3, none⟩ = some (.int .i64 t.kind) ∧ W.cell? ⟨b, off + k * 3 + 1, none⟩ = some (.int .i64 t.at_) ∧ W.cell? ⟨b, off + k * 3 + 2, none⟩ = some (.int .u64 t.word) := by
  subst hN
  obtain ⟨a', cap', e, hl, hc⟩ := hs
  simp only [Value.slice.injEq, true_and] at e
  obtain ⟨rfl, rfl⟩ := e
  obtain ⟨b, off, ha, hb, hj⟩ := hc (by omega)
  refine ⟨b, off, ts[k], List.getElem?_eq_getElem hk, List.getElem_mem hk, ha, fun W hW => ?_⟩
  have h := hj k hk
  exact ⟨(hW.cell (p := ⟨b, off + k * 3, none⟩) hb).trans (h 0 _ rfl), (hW.cell (p := ⟨b, off + k * 3 + 1, none⟩) hb).trans (h 1 _ rfl), (hW.cell (p := ⟨b, off + k * 3 + 2, none⟩) hb).trans (h 2 _ rfl)⟩
/-- May there be such a touch? -/
def rightT (t : Tch) : Bool := if t.kind = 1 ∨ t.kind = 2 then decide (0 ≤ t.at_ ∧ t.at_ < 8192) else if t.kind = 3 then decide (0 ≤ t.at_ ∧ t.at_ < 1024 ∧ t.word = 0) else decide (t.kind = 4 ∧ t.at_ = 0 ∧ t.word = 0)
/-- A touch's line. -/
def lineT (t : Tch) : Int := if t.kind = 3 then t.at_ else t.at_.tdiv 8
theorem rightT_12 {k a x : Int} (h : k = 1 ∨ k = 2) : rightT ⟨k, a, x⟩ = decide (0 ≤ a ∧ a < 8192) := by unfold rightT; exact if_pos h
theorem rightT_3 {a x : Int} : rightT ⟨3, a, x⟩ = decide (0 ≤ a ∧ a < 1024 ∧ x = 0) := by unfold rightT; rw [if_neg (by simp), if_pos rfl]
theorem rightT_4 {k a x : Int} (h1 : ¬ k = 1) (h2 : ¬ k = 2) (h3 : ¬ k = 3) : rightT ⟨k, a, x⟩ = decide (k = 4 ∧ a = 0 ∧ x = 0) := by unfold rightT; rw [if_neg (fun h => h.elim h1 h2), if_neg h3]
set_option maxHeartbeats 1000000 in
theorem mayT_any (t : Tch) (w : World) : Calls Try.prog 32 #[.agg (touchA t)] w fun e w' => e = .returned (.bool (rightT t)) ∧ Below w.heap.size w w' := by
  obtain ⟨k, a, x⟩ := t
  have hb1 : Below w.heap.size w (w.alloc (.cells #[.int .i64 k, .int .i64 a, .int .u64 x] 62)) := (Below.refl _ _).alloc (Nat.le_refl _) _
  have HB := Lib.hid hb1
  clear hb1
  obtain ⟨R, hR⟩ : ∃ R, rightT ⟨k, a, x⟩ = R := ⟨_, rfl⟩
  rw [hR]
  by_cases h1 : k = 1
  · subst h1
    by_cases ha : 0 ≤ a
    · by_cases hb : a < 8192
      · have HA : Hid (R = true) := show _ = _ from hR.symm.trans ((rightT_12 (.inl rfl)).trans (decide_eq_true ⟨ha, hb⟩))
        clear hR
        go_enter Try.func32, Try.ntmps32
        go_wp2_with fail
        go_ret
        exact ⟨by rw [HA.out]; rfl, HB.out⟩
      · have HA : Hid (R = false) := show _ = _ from hR.symm.trans ((rightT_12 (.inl rfl)).trans (decide_eq_false fun h => hb h.2))
        clear hR
        go_enter Try.func32, Try.ntmps32
        go_wp2_with fail
        go_ret
        exact ⟨by rw [HA.out]; rfl, HB.out⟩
    · have HA : Hid (R = false) := show _ = _ from hR.symm.trans ((rightT_12 (.inl rfl)).trans (decide_eq_false fun h => ha h.1))
      clear hR
      go_enter Try.func32, Try.ntmps32
      go_wp2_with fail
      go_ret
      exact ⟨by rw [HA.out]; rfl, HB.out⟩
  by_cases h2 : k = 2
  · subst h2
    by_cases ha : 0 ≤ a
    · by_cases hb : a < 8192
      · have HA : Hid (R = true) := show _ = _ from hR.symm.trans ((rightT_12 (.inr rfl)).trans (decide_eq_true ⟨ha, hb⟩))
        clear hR
        go_enter Try.func32, Try.ntmps32
        go_wp2_with fail
        go_ret
        exact ⟨by rw [HA.out]; rfl, HB.out⟩
      · have HA : Hid (R = false) := show _ = _ from hR.symm.trans ((rightT_12 (.inr rfl)).trans (decide_eq_false fun h => hb h.2))
        clear hR
        go_enter Try.func32, Try.ntmps32
        go_wp2_with fail
        go_ret
        exact ⟨by rw [HA.out]; rfl, HB.out⟩
    · have HA : Hid (R = false) := show _ = _ from hR.symm.trans ((rightT_12 (.inr rfl)).trans (decide_eq_false fun h => ha h.1))
      clear hR
      go_enter Try.func32, Try.ntmps32
      go_wp2_with fail
      go_ret
      exact ⟨by rw [HA.out]; rfl, HB.out⟩
  by_cases h3 : k = 3
  · subst h3
    by_cases ha : 0 ≤ a
    · by_cases hb : a < 1024
      · by_cases hc : x = 0
        · subst hc
          have HA : Hid (R = true) := show _ = _ from hR.symm.trans (rightT_3.trans (decide_eq_true ⟨ha, hb, rfl⟩))
          clear hR
          go_enter Try.func32, Try.ntmps32
          go_wp2_with fail
          go_ret
          exact ⟨by rw [HA.out]; rfl, HB.out⟩
        · have hc2 : (x == 0) = false := by simp [hc]
          have HA : Hid (R = false) := show _ = _ from hR.symm.trans (rightT_3.trans (decide_eq_false fun h => hc h.2.2))
          clear hR
          go_enter Try.func32, Try.ntmps32
          go_wp2_with fail
          go_ret
          exact ⟨by rw [HA.out]; rfl, HB.out⟩
      · have HA : Hid (R = false) := show _ = _ from hR.symm.trans (rightT_3.trans (decide_eq_false fun h => hb h.2.1))
        clear hR
        go_enter Try.func32, Try.ntmps32
        go_wp2_with fail
        go_ret
        exact ⟨by rw [HA.out]; rfl, HB.out⟩
    · have HA : Hid (R = false) := show _ = _ from hR.symm.trans (rightT_3.trans (decide_eq_false fun h => ha h.1))
      clear hR
      go_enter Try.func32, Try.ntmps32
      go_wp2_with fail
      go_ret
      exact ⟨by rw [HA.out]; rfl, HB.out⟩
  have e1 : (k == 1) = false := by simp [h1]
  have e2 : (k == 2) = false := by simp [h2]
  have e3 : (k == 3) = false := by simp [h3]
  by_cases h4 : k = 4
  · subst h4
    by_cases ha : a = 0
    · subst ha
      by_cases hc : x = 0
      · subst hc
        have HA : Hid (R = true) := show _ = _ from hR.symm.trans ((rightT_4 h1 h2 h3).trans (decide_eq_true ⟨rfl, rfl, rfl⟩))
        clear hR h1 h2 h3 e1 e2 e3
        go_enter Try.func32, Try.ntmps32
        go_wp2_with fail
        go_ret
        exact ⟨by rw [HA.out]; rfl, HB.out⟩
      · have hc2 : (x == 0) = false := by simp [hc]
        have HA : Hid (R = false) := show _ = _ from hR.symm.trans ((rightT_4 h1 h2 h3).trans (decide_eq_false fun h => hc h.2.2))
        clear hR h1 h2 h3 e1 e2 e3
        go_enter Try.func32, Try.ntmps32
        go_wp2_with fail
        go_ret
        exact ⟨by rw [HA.out]; rfl, HB.out⟩
    · have ha2 : (a == 0) = false := by simp [ha]
      have HA : Hid (R = false) := show _ = _ from hR.symm.trans ((rightT_4 h1 h2 h3).trans (decide_eq_false fun h => ha h.2.1))
      clear hR h1 h2 h3 e1 e2 e3
      go_enter Try.func32, Try.ntmps32
      go_wp2_with fail
      go_ret
      exact ⟨by rw [HA.out]; rfl, HB.out⟩
  · have e4 : (k == 4) = false := by simp [h4]
    have HA : Hid (R = false) := show _ = _ from hR.symm.trans ((rightT_4 h1 h2 h3).trans (decide_eq_false fun h => h4 h.1))
    clear hR
    go_enter Try.func32, Try.ntmps32
    go_wp2_with fail
    go_ret
    exact ⟨by rw [HA.out]; rfl, HB.out⟩
/-- Three small ones. -/
theorem hasT_any (t : Tch) (w : World) : Calls Try.prog 30 #[.agg (touchA t)] w fun e w' => e = .returned (.bool (decide (t.kind ≠ 4))) ∧ Below w.heap.size w w' := by
  obtain ⟨k, a, x⟩ := t
  have hb1 : Below w.heap.size w (w.alloc (.cells #[.int .i64 k, .int .i64 a, .int .u64 x] 62)) := (Below.refl _ _).alloc (Nat.le_refl _) _
  have HB := Lib.hid hb1
  clear hb1
  obtain ⟨R, hR⟩ : ∃ R, decide (k ≠ 4) = R := ⟨_, rfl⟩
  have HA : Hid ((k != 4) = R) := show _ = _ by rw [← hR]; simp [bne, BEq.beq]
  rw [show decide ((⟨k, a, x⟩ : Tch).kind ≠ 4) = R from hR]
  clear hR
  go_enter Try.func30, Try.ntmps30
  go_wp2_with fail
  go_ret
  exact ⟨by rw [← HA.out]; rfl, HB.out⟩
theorem storesT_any (t : Tch) (w : World) : Calls Try.prog 39 #[.agg (touchA t)] w fun e w' => e = .returned (.bool (decide (t.kind = 2))) ∧ Below w.heap.size w w' := by
  obtain ⟨k, a, x⟩ := t
  have hb1 : Below w.heap.size w (w.alloc (.cells #[.int .i64 k, .int .i64 a, .int .u64 x] 62)) := (Below.refl _ _).alloc (Nat.le_refl _) _
  have HB := Lib.hid hb1
  clear hb1
  obtain ⟨R, hR⟩ : ∃ R, decide (k = 2) = R := ⟨_, rfl⟩
  have HA : Hid ((k == 2) = R) := show _ = _ by rw [← hR]; simp [BEq.beq]
  rw [show decide ((⟨k, a, x⟩ : Tch).kind = 2) = R from hR]
  clear hR
  go_enter Try.func39, Try.ntmps39
  go_wp2_with fail
  go_ret
  exact ⟨by rw [← HA.out]; rfl, HB.out⟩
theorem lineT_any (t : Tch) (ha : -9223372036854775808 ≤ t.at_ ∧ t.at_ ≤ 9223372036854775807) (w : World) : Calls Try.prog 42 #[.agg (touchA t)] w fun e w' => e = .returned (.int .i64 (lineT t)) ∧ Below w.heap.size w w' := by
  obtain ⟨k, a, x⟩ := t
  have hb1 : Below w.heap.size w (w.alloc (.cells #[.int .i64 k, .int .i64 a, .int .u64 x] 62)) := (Below.refl _ _).alloc (Nat.le_refl _) _
  have HB := Lib.hid hb1
  clear hb1
  obtain ⟨R, hR⟩ : ∃ R, lineT ⟨k, a, x⟩ = R := ⟨_, rfl⟩
  rw [hR]
  have hq : IntKind.i64.wrap (a.tdiv 8) = a.tdiv 8 := by
    simp only at ha
    have h : (a.tdiv 8).natAbs = a.natAbs / 8 := Int.natAbs_tdiv a 8
    exact IntWalk.i64_in _ (by omega)
  by_cases h3 : k = 3
  · subst h3
    have HA : Hid (R = a) := show _ = _ from hR.symm
    clear hR
    go_enter Try.func42, Try.ntmps42
    go_wp2_with fail
    go_ret
    exact ⟨by rw [HA.out]; rfl, HB.out⟩
  · have e3 : (k == 3) = false := by simp [h3]
    have HA : Hid (R = a.tdiv 8) := show _ = _ from hR.symm.trans (if_neg h3)
    clear hR
    go_enter Try.func42, Try.ntmps42
    go_wp2_with fail
    go_ret
    exact ⟨by rw [HA.out]; rfl, HB.out⟩
end Go.Proofs.Ytkpiehejkhjhlaa
