/-
  Texts MeB to LaO, as one.
-/
import Derived.Test.YtgoemaecdolioaaGreatDoorMo5
import Derived.Test.YtgoemaecdolioaaGreatDoorMo6
import Derived.Test.YtgoemaecdolioaaGreatDoorMo23
import Derived.Test.YtgoemaecdolioaaGreatDoorMo32
import Derived.Test.YtgoemaecdolioaaGreatDoorMo33
import Derived.Laws.EntriesVeiled
import Derived.ChangeMaps5
import Derived.Deep.Strs
import Derived.Lib.SmallJoins
/-
  model: the document's Check. (gen_meb.py)
-/
namespace Go.Proofs.YtgoemaecdolioaaGreatDoor
open Go.RowKit Go.Shelf
attribute [local go_sem] Oper.semAt_some

theorem num11_any (x : Int) (w : World) : Calls Tryz.prog 12 #[.int .i64 x] w fun e w' => e = .returned (.int .i64 x) ∧ w = w' := by
  go_enter Tryz.func12, Tryz.ntmps12
  go_wp2
  go_ret
  exact ⟨rfl, rfl⟩
theorem refTwo11_any (k : Int) (w : World) : Calls Tryz.prog 34 #[.int .i64 k] w fun e w' => e = .returned (.bool (decide (k = 8 ∨ k = 9))) ∧ w = w' := by
  by_cases h8 : k = 8
  · subst h8
    go_enter Tryz.func34, Tryz.ntmps34
    go_wp2
    go_ret
    exact ⟨by simp, rfl⟩
  by_cases h9 : k = 9
  · subst h9
    go_enter Tryz.func34, Tryz.ntmps34
    go_wp2
    go_ret
    exact ⟨by simp, rfl⟩
  have g8 : (k == 8) = false := by rw [beq_eq_false_iff_ne]; exact h8
  have g9 : (k == 9) = false := by rw [beq_eq_false_iff_ne]; exact h9
  go_enter Tryz.func34, Tryz.ntmps34
  go_wp2
  go_ret
  exact ⟨by simp [h8, h9], rfl⟩
theorem ret_i64 {a b : Int} (h : a = b) : (Ending.returned (.int .i64 a)) = .returned (.int .i64 b) := by rw [h]
set_option maxRecDepth 100000 in
set_option maxHeartbeats 16000000 in
theorem refCheck11_any (x : OpX) (w : World) (hp : x.path.length ≤ 1000) (ho : x.other.length ≤ 1000) (hu : FB w x.ub (bytesN x.bytes)) (p0 : -9223372036854775808 ≤ x.place) (p1 : x.place ≤ 9223372036854775807) :
    Calls Tryz.prog 14 #[.agg (opA x)] w fun e w' => e = .returned (.int .i64 (rightC x)) ∧ Below w.heap.size w w' := by
  obtain ⟨k, p, q, pl, mn, ub, bs⟩ := x
  dsimp only at hp ho hu p0 p1
  obtain ⟨ua, uc, rfl, huc, hum⟩ := hu.form
  have hbl : (bytesN bs).length = bs.length := by unfold bytesN; rw [List.length_map]
  rw [hbl] at huc
  unfold opA
  dsimp only
  rw [hbl]
  obtain ⟨bl, hblz⟩ : ∃ n, bs.length = n := ⟨_, rfl⟩
  have HS1 := Lib.hid (refSplit_any p hp)
  have HS2 := Lib.hid (refSplit_any q ho)
  have HTW := Lib.hid refTwo11_any
  obtain ⟨e1, he1⟩ : ∃ e, (splitE p).2 = e := ⟨_, rfl⟩
  obtain ⟨e2, he2⟩ : ∃ e, (splitE q).2 = e := ⟨_, rfl⟩
  obtain ⟨R, hR⟩ : ∃ R, rightC ⟨k, p, q, pl, mn, .slice ua bs.length uc, bs⟩ = R := ⟨_, rfl⟩
  have HR : Hid (R = if ¬ (1 ≤ k ∧ k ≤ 11) then 2 else if e1 ≠ 0 then e1 else if k = 8 ∨ k = 9 then e2 else if k = 3 then (if 0 ≤ pl ∧ 0 ≤ mn then 0 else 2) else if k = 10 then (if 0 ≤ pl then (if pl ≤ 448 ∧ (bl : Int) ≤ 448 - pl then 0 else 190) else 2) else if k = 11 then (if 0 ≤ mn then (if mn ≤ 448 then 0 else 190) else 2) else 0) := show _ = _ from by
    rw [← hR]
    unfold rightC
    dsimp only
    rw [he1, he2, hblz]
  rw [hR]
  rw [hblz] at huc ⊢
  clear hR
  rw [he1] at HS1
  rw [he2] at HS2
  obtain ⟨ps, hps⟩ : ∃ s, encStr p = s := ⟨_, rfl⟩
  obtain ⟨qs, hqs⟩ : ∃ s, encStr q = s := ⟨_, rfl⟩
  rw [hps] at HS1
  rw [hqs] at HS2
  rw [hps, hqs]
  obtain ⟨W1, hW1⟩ : ∃ W1, w.alloc (.cells #[.int .i64 k, ps, qs, .int .i64 pl, .int .i64 mn, .slice ua bl uc] 25) = W1 := ⟨_, rfl⟩
  have b1 : Below w.heap.size w W1 := by rw [← hW1]; exact (by repeat (first | exact Below.refl _ _ | assumption | refine Below.drew ?_ | refine below_drewN ?_ _ | refine Below.alloc ?_ (by (try simp) <;> omega) _ | refine Below.setCell ?_ (by (try simp) <;> omega) _ | refine Below.trans ?_ (Below.mono (by assumption) (by (try simp) <;> omega))))
  have x1 : Blk W1 w.heap.size 25 #[.int .i64 k, ps, qs, .int .i64 pl, .int .i64 mn, .slice ua bl uc] := by rw [← hW1]; exact Blk.new _ _ _
  have HB1 := Lib.hid b1
  have HX1 := Lib.hid x1
  have hbl2 : bl ≤ 9223372036854775807 := by have := hum; omega
  clear hu hp ho he1 he2 hps hqs b1 hblz hum huc hbl
  have k0 := x1.cell (j := 0) rfl
  have k1 := x1.cell (j := 1) rfl
  have k2 := x1.cell (j := 2) rfl
  clear x1
  go_enter Tryz.func14, Tryz.ntmps14
  by_cases h1 : k < 1
  · have h1' : ¬ (1 ≤ k ∧ k ≤ 11) := by omega
    go_wp2_with fail
    go_ret
    exact ⟨ret_i64 (by rw [HR.out, if_pos h1']), HB1.out⟩
  by_cases h2 : 11 < k
  · have h1' : ¬ (1 ≤ k ∧ k ≤ 11) := by omega
    go_wp2_with fail
    go_ret
    exact ⟨ret_i64 (by rw [HR.out, if_pos h1']), HB1.out⟩
  have h3 : 1 ≤ k ∧ k ≤ 11 := by omega
  go_wp2_with fail
  refine (HS1.out _).mono ?_
  rintro e w2 ⟨u, rfl, -, hb⟩
  have HB2 : Hid (Below w.heap.size w w2) := show Below _ _ _ from HB1.out.trans (hb.mono HB1.out.size)
  have HX2 : Hid (Blk w2 w.heap.size 25 #[.int .i64 k, ps, qs, .int .i64 pl, .int .i64 mn, .slice ua bl uc]) := show Blk _ _ _ _ from HX1.out.below hb HX1.out.lt
  clear hb k0 k1 k2 hW1
  by_cases g1 : e1 = 0
  rotate_left
  · have hne : (e1 != 0) = true := by rw [bne_iff_ne]; exact g1
    go_wp2_with fail
    go_ret
    exact ⟨ret_i64 (by rw [HR.out, if_neg (fun h => h h3), if_pos g1]), HB2.out⟩
  subst g1
  have k0 := HX2.out.cell (j := 0) rfl
  have k2 := HX2.out.cell (j := 2) rfl
  go_wp2_with fail
  refine (HS2.out _).mono ?_
  rintro e w3 ⟨u2, rfl, -, hb⟩
  have HB3 : Hid (Below w.heap.size w w3) := show Below _ _ _ from HB2.out.trans (hb.mono HB2.out.size)
  have HX3 : Hid (Blk w3 w.heap.size 25 #[.int .i64 k, ps, qs, .int .i64 pl, .int .i64 mn, .slice ua bl uc]) := show Blk _ _ _ _ from HX2.out.below hb HX2.out.lt
  clear hb k0 k2
  have k3 := HX3.out.cell (j := 3) rfl
  have k4 := HX3.out.cell (j := 4) rfl
  have k5 := HX3.out.cell (j := 5) rfl
  go_wp2_with fail
  refine (HTW.out _ _).mono ?_
  rintro e w4 ⟨rfl, rfl⟩
  clear h1 h2
  obtain rfl | rfl | rfl | rfl | rfl | rfl | rfl | rfl | rfl | rfl | rfl : k = 1 ∨ k = 2 ∨ k = 3 ∨ k = 4 ∨ k = 5 ∨ k = 6 ∨ k = 7 ∨ k = 8 ∨ k = 9 ∨ k = 10 ∨ k = 11 := by omega
  · rw [show decide ((1 : Int) = 8 ∨ (1 : Int) = 9) = false by decide]
    go_wp2_with fail
    go_ret
    exact ⟨ret_i64 (by rw [HR.out]; (repeat' split) <;> first | omega | simp_all), HB3.out⟩
  · rw [show decide ((2 : Int) = 8 ∨ (2 : Int) = 9) = false by decide]
    go_wp2_with fail
    go_ret
    exact ⟨ret_i64 (by rw [HR.out]; (repeat' split) <;> first | omega | simp_all), HB3.out⟩
  · rw [show decide ((3 : Int) = 8 ∨ (3 : Int) = 9) = false by decide]
    by_cases g2 : pl < 0
    · have g3 : ¬ 0 ≤ pl := by omega
      go_wp2_with fail
      go_ret
      exact ⟨ret_i64 (by rw [HR.out]; (repeat' split) <;> first | omega | simp_all), HB3.out⟩
    have g3 : 0 ≤ pl := by omega
    by_cases g4 : mn < 0
    · have g5 : ¬ 0 ≤ mn := by omega
      go_wp2_with fail
      go_ret
      exact ⟨ret_i64 (by rw [HR.out]; (repeat' split) <;> first | omega | simp_all), HB3.out⟩
    have g5 : 0 ≤ mn := by omega
    go_wp2_with fail
    go_ret
    exact ⟨ret_i64 (by rw [HR.out]; (repeat' split) <;> first | omega | simp_all), HB3.out⟩
  · rw [show decide ((4 : Int) = 8 ∨ (4 : Int) = 9) = false by decide]
    go_wp2_with fail
    go_ret
    exact ⟨ret_i64 (by rw [HR.out]; (repeat' split) <;> first | omega | simp_all), HB3.out⟩
  · rw [show decide ((5 : Int) = 8 ∨ (5 : Int) = 9) = false by decide]
    go_wp2_with fail
    go_ret
    exact ⟨ret_i64 (by rw [HR.out]; (repeat' split) <;> first | omega | simp_all), HB3.out⟩
  · rw [show decide ((6 : Int) = 8 ∨ (6 : Int) = 9) = false by decide]
    go_wp2_with fail
    go_ret
    exact ⟨ret_i64 (by rw [HR.out]; (repeat' split) <;> first | omega | simp_all), HB3.out⟩
  · rw [show decide ((7 : Int) = 8 ∨ (7 : Int) = 9) = false by decide]
    go_wp2_with fail
    go_ret
    exact ⟨ret_i64 (by rw [HR.out]; (repeat' split) <;> first | omega | simp_all), HB3.out⟩
  · rw [show decide ((8 : Int) = 8 ∨ (8 : Int) = 9) = true by decide]
    by_cases g2 : e2 = 0
    · subst g2
      go_wp2_with fail
      go_ret
      exact ⟨ret_i64 (by rw [HR.out]; (repeat' split) <;> first | omega | simp_all), HB3.out⟩
    · have hne : (e2 != 0) = true := by rw [bne_iff_ne]; exact g2
      go_wp2_with fail
      go_ret
      exact ⟨ret_i64 (by rw [HR.out]; (repeat' split) <;> first | omega | simp_all), HB3.out⟩
  · rw [show decide ((9 : Int) = 8 ∨ (9 : Int) = 9) = true by decide]
    by_cases g2 : e2 = 0
    · subst g2
      go_wp2_with fail
      go_ret
      exact ⟨ret_i64 (by rw [HR.out]; (repeat' split) <;> first | omega | simp_all), HB3.out⟩
    · have hne : (e2 != 0) = true := by rw [bne_iff_ne]; exact g2
      go_wp2_with fail
      go_ret
      exact ⟨ret_i64 (by rw [HR.out]; (repeat' split) <;> first | omega | simp_all), HB3.out⟩
  · rw [show decide ((10 : Int) = 8 ∨ (10 : Int) = 9) = false by decide]
    by_cases g2 : pl < 0
    · have g3 : ¬ 0 ≤ pl := by omega
      go_wp2_with fail
      go_ret
      exact ⟨ret_i64 (by rw [HR.out]; (repeat' split) <;> first | omega | simp_all), HB3.out⟩
    have g3 : 0 ≤ pl := by omega
    by_cases g4 : 448 < pl
    · have g5 : ¬ pl ≤ 448 := by omega
      go_wp2_with fail
      go_ret
      exact ⟨ret_i64 (by rw [HR.out]; (repeat' split) <;> first | omega | simp_all), HB3.out⟩
    have g5 : pl ≤ 448 := by omega
    have hwr : IntKind.i64.wrap (448 - pl) = 448 - pl := IntWalk.i64_in _ (by omega)
    by_cases g6 : 448 - pl < (bl : Int)
    · have g7 : ¬ (bl : Int) ≤ 448 - pl := by omega
      go_wp2_with fail
      go_ret
      exact ⟨ret_i64 (by rw [HR.out]; (repeat' split) <;> first | omega | simp_all), HB3.out⟩
    have g7 : (bl : Int) ≤ 448 - pl := by omega
    go_wp2_with fail
    go_ret
    exact ⟨ret_i64 (by rw [HR.out]; (repeat' split) <;> first | omega | simp_all), HB3.out⟩
  · rw [show decide ((11 : Int) = 8 ∨ (11 : Int) = 9) = false by decide]
    by_cases g2 : mn < 0
    · have g3 : ¬ 0 ≤ mn := by omega
      go_wp2_with fail
      go_ret
      exact ⟨ret_i64 (by rw [HR.out]; (repeat' split) <;> first | omega | simp_all), HB3.out⟩
    have g3 : 0 ≤ mn := by omega
    by_cases g4 : 448 < mn
    · have g5 : ¬ mn ≤ 448 := by omega
      go_wp2_with fail
      go_ret
      exact ⟨ret_i64 (by rw [HR.out]; (repeat' split) <;> first | omega | simp_all), HB3.out⟩
    have g5 : mn ≤ 448 := by omega
    go_wp2_with fail
    go_ret
    exact ⟨ret_i64 (by rw [HR.out]; (repeat' split) <;> first | omega | simp_all), HB3.out⟩
end Go.Proofs.YtgoemaecdolioaaGreatDoor

/-
  model: slices.Equal at bytes; slices.All at names.
-/
namespace Go.Proofs.YtgoemaecdolioaaGreatDoor
open Go.RowKit Go.Shelf
attribute [local go_sem] Oper.semAt_some

set_option maxRecDepth 100000 in
set_option maxHeartbeats 4000000 in
theorem equalB_any {u v : Value} {xs ys : List Nat} (w : World) (hu : FB w u xs) (hv : FB w v ys) :
    Calls Tryz.prog 49 #[u, v] w fun e w' => e = .returned (.bool (xs == ys)) ∧ Below w.heap.size w w' := by
  obtain ⟨a, c, rfl, hac, hcm⟩ := hu.form
  obtain ⟨a', c', rfl, hac', hcm'⟩ := hv.form
  have HA := Lib.hid (fun (h0 : 0 < xs.length) => show ∃ b off, a = some ⟨b, off, none⟩ ∧ b < w.heap.size ∧ ∀ j, j < xs.length → w.cell? ⟨b, off + j, none⟩ = some (.int .u8 (xs[j]?.getD 0 : Nat)) from by
    obtain ⟨ad, cap, e, -, h⟩ := hu.sl
    simp only [Value.slice.injEq] at e
    obtain ⟨rfl, -, -⟩ := e
    exact h h0)
  have HB := Lib.hid (fun (h0 : 0 < ys.length) => show ∃ b off, a' = some ⟨b, off, none⟩ ∧ b < w.heap.size ∧ ∀ j, j < ys.length → w.cell? ⟨b, off + j, none⟩ = some (.int .u8 (ys[j]?.getD 0 : Nat)) from by
    obtain ⟨ad, cap, e, -, h⟩ := hv.sl
    simp only [Value.slice.injEq] at e
    obtain ⟨rfl, -, -⟩ := e
    exact h h0)
  clear hu hv
  by_cases hl : xs.length = ys.length
  · obtain ⟨n, hn⟩ : ∃ n, xs.length = n := ⟨_, rfl⟩
    rw [← hl] at hac' HB ⊢
    rw [hn] at hac hac' HA HB ⊢
    have HX : Hid ((∀ k, k < n → xs[k]?.getD 0 = ys[k]?.getD 0) → (xs == ys) = true) := show (_ → _) from fun h => by
      rw [beq_iff_eq]
      apply List.ext_getElem hl
      intro k h1 h2
      have := h k (by omega)
      rwa [List.getElem?_eq_getElem h1, List.getElem?_eq_getElem h2] at this
    have HY : Hid (∀ k, k < n → xs[k]?.getD 0 ≠ ys[k]?.getD 0 → (xs == ys) = false) := show ∀ k, _ from fun k _ h => by
      rw [beq_eq_false_iff_ne]
      rintro rfl
      exact h rfl
    clear hl hn
    go_enter Tryz.func49, Tryz.ntmps49
    go_wp2_with fail
    go_loopw [5, 13] (fun x i wr => ∃ k : Nat, k ≤ n ∧ i = .int .i64 k ∧ Hid (∀ j, j < k → xs[j]?.getD 0 = ys[j]?.getD 0) ∧ Below w.heap.size w wr) (fun _ i _ => n - (intOf i).toNat)
    case atStart => exact ⟨0, Nat.zero_le _, rfl, (show ∀ j, _ from fun j h => by omega), Below.refl _ _⟩
    case round =>
      obtain ⟨k, hk, rfl, HE, hb⟩ := hrel
      by_cases hlt : k < n
      · obtain ⟨b, off, rfl, hbl, hld⟩ := HA.out (by omega)
        obtain ⟨b', off', rfl, hbl', hld'⟩ := HB.out (by omega)
        have c1 := (hb.cell (p := ⟨b, off + k, none⟩) hbl).trans (hld k hlt)
        have c2 := (hb.cell (p := ⟨b', off' + k, none⟩) hbl').trans (hld' k hlt)
        have HBQ := Lib.hid hb
        obtain ⟨x, hx⟩ : ∃ x, xs[k]?.getD 0 = x := ⟨_, rfl⟩
        obtain ⟨y, hy⟩ : ∃ y, ys[k]?.getD 0 = y := ⟨_, rfl⟩
        rw [hx] at c1
        rw [hy] at c2
        by_cases heq : x = y
        · have HE2 : Hid (∀ j, j < k + 1 → xs[j]?.getD 0 = ys[j]?.getD 0) := show ∀ j, _ from fun j hj => by
            by_cases hjk : j = k
            · rw [hjk, hx, hy]; exact heq
            · exact HE.out j (by omega)
          subst heq
          clear hx hy HA HB hld hld' hb
          go_wp2_with fail
          go_quiet (fail)
          go_wp2_with fail
          go_roundw
          case rel => exact ⟨k + 1, by omega, by go_num, HE2, (below_drewN HBQ.out _)⟩
          case measure => simp [intOf]; omega
        · have HF : Hid ((xs == ys) = false) := show _ = _ from HY.out k hlt (by rw [hx, hy]; exact heq)
          have hne : ((x : Int) != (y : Int)) = true := by rw [bne_iff_ne]; omega
          clear hx hy HA HB hld hld' hb
          go_wp2_with fail
          go_quiet (fail)
          go_wp2_with fail
          go_ret
          exact ⟨ret_bool HF.out.symm, (below_drewN HBQ.out _)⟩
      · obtain rfl : k = n := by omega
        go_wp2_with fail
        go_ret
        exact ⟨ret_bool (HX.out HE.out).symm, hb⟩
  · have HX : Hid ((xs == ys) = false) := show _ = _ by rw [beq_eq_false_iff_ne]; exact fun e => hl (by rw [e])
    rw [HX.out]
    obtain ⟨n, hn⟩ : ∃ n, xs.length = n := ⟨_, rfl⟩
    obtain ⟨m, hm⟩ : ∃ m, ys.length = m := ⟨_, rfl⟩
    rw [hn, hm] at hl ⊢
    have hne : ((n : Int) != (m : Int)) = true := by rw [bne_iff_ne]; omega
    clear hn hm
    go_enter Tryz.func49, Tryz.ntmps49
    go_wp2_with fail
    go_ret
    exact ⟨rfl, Below.refl _ _⟩
theorem allS_any (a : Option Addr) (n c : Nat) (w : World) : Calls Tryz.prog 78 #[.slice a n c] w fun e w' => e = .returned (.func (.func 110) #[] #[.pointer (some ⟨w.heap.size, 0, none⟩)]) ∧ w' = w.alloc (.cells #[.slice a n c] 42) := by
  go_enter Tryz.func78, Tryz.ntmps78
  go_wp2
  go_ret
  exact ⟨rfl, rfl⟩
abbrev encSt (l : List (List UInt8)) (k : Nat) : Array Value := #[.int .i64 (k : Nat), encStr (l[k]?.getD [])]
def stP (p b : Nat) (n : Nat) (k : Nat) : Prop := k = p ∨ (0 < n ∧ k = b)
theorem take_rangeS (n k : Nat) (h : k < n) : (List.range n).take k ++ [k] = (List.range n).take (k + 1) := by
  rw [List.take_succ_eq_append_getElem (by simpa using h)]; simp
set_option maxRecDepth 100000 in
set_option maxHeartbeats 4000000 in
theorem allS_seq (n : Nat) (_ : 1 ≤ n) {p b off c : Nat} {a : Option Addr} {l : List (List UInt8)} (w : World) (hn : l.length ≤ 1000000) (hlc : l.length ≤ c) (ha : 0 < l.length → a = some ⟨b, off, none⟩) (hx : 0 < l.length → b < w.heap.size ∧ ∀ j, j < l.length → w.cell? ⟨b, off + j, none⟩ = some (encStr (l[j]?.getD []))) (hbx : Boxed w p 42 (.slice a l.length c)) :
    SeqF (stP p b l.length) n Tryz.prog 110 #[.pointer (some ⟨p, 0, none⟩)] (encSt l) (fun ys => ys = List.range l.length) (fun pre => pre <+: List.range l.length) w := fun lp J Jx W hW hJ hJx hY h0 => by
  have c0 : W.cell? ⟨p, 0, none⟩ = some (.slice a l.length c) := Boxed.cell ((hW.block _ hbx.lt).trans hbx)
  have HC := Lib.hid (fun (k : Nat) (hk : k < l.length) => show b < W.heap.size ∧ W.cell? ⟨b, off + k, none⟩ = some (encStr (l[k]?.getD [])) from by
    obtain ⟨h1, h2⟩ := hx (by omega)
    exact ⟨Nat.lt_of_lt_of_le h1 hW.size, (hW.cell (p := ⟨b, off + k, none⟩) h1).trans (h2 k hk)⟩)
  have HY := Lib.hid hY
  have HT := Lib.hid (fun (k : Nat) (hk : k < l.length) => take_rangeS l.length k hk)
  have HAD := Lib.hid ha
  clear hY hJ hJx hx hbx hW ha
  obtain ⟨M, hM⟩ : ∃ M, l.length = M := ⟨_, rfl⟩
  rw [hM] at c0 HC hn hlc HT HY HAD ⊢
  clear hM
  refine callsIn_of_wp Tryz.func110 rfl trivial ?_ rfl
  simp only [Tryz.ntmps110, List.size_toArray, List.length_cons, List.length_nil, Nat.reduceAdd, Nat.reduceSub, Array.replicate_succ, Array.replicate_zero, List.push_toArray, List.append_toArray, List.nil_append, List.cons_append]
  gi_wp2_with fail
  gi_loopw [7] (fun i wr => ∃ k : Nat, k ≤ M ∧ i = .int .i64 (k : Nat) ∧ Hid (J ((List.range M).take k) (fun _ => False) wr) ∧ Hid (Keeps (stP p b M) W wr)) (fun i _ => M - (intOf i).toNat)
  case atStart => exact ⟨0, Nat.zero_le _, rfl, Lib.hid (by simpa using h0), Lib.hid (Keeps.refl _ _)⟩
  case round =>
    obtain ⟨k, hk, rfl, HJs, HKP⟩ := hrel
    clear c0
    by_cases hlt : k < M
    · have ck := (World.cell?_of_block (a := ⟨b, off + k, none⟩) (HKP.out.2 b (.inr ⟨by omega, rfl⟩) (HC.out k hlt).1)).trans (HC.out k hlt).2
      obtain rfl := HAD.out (by omega)
      have HF := Lib.hid (HT.out k hlt)
      obtain ⟨fn, tmps, assign, body, hy, hR⟩ := HY.out _ k _ _ HJs.out HKP.out.1 (fun q h => h.elim) (by rw [HF.out]; exact List.take_prefix _ _)
      rw [HF.out] at hR
      have HR := Lib.hid hR
      unfold encSt at hy
      obtain ⟨z, hz⟩ : ∃ z, encStr (l[k]?.getD []) = z := ⟨_, rfl⟩
      rw [hz] at hy ck
      have k2 : (k : Int) < (M : Int) := by omega
      clear hR hz
      gi_wp2_with fail
      refine HR.out.mono ?_
      rintro e W3 ⟨hk3, ⟨rfl, hJ3⟩ | ⟨rfl, hJx3⟩⟩
      · have HKP3 : Hid (Keeps (stP p b M) W W3) := show Keeps _ _ _ from HKP.out.trans (hk3.weaken fun k h => .inl h)
        have HJ3 := Lib.hid hJ3
        clear hy hk3 hJ3 ck
        gi_wp2_with fail
        go_roundw
        case rel => exact ⟨k + 1, by omega, by go_num, HJ3, HKP3⟩
        case measure => simp [intOf]; omega
      · clear hy ck
        gi_wp2_with fail
        refine bodyPost_ret (results_none rfl _ _ _) rfl ?_
        exact ⟨⟨_, rfl⟩, .inr ⟨_, List.take_prefix _ _, hJx3⟩⟩
    · obtain rfl : k = M := by omega
      gi_wp2_with fail
      go_end0
      exact ⟨⟨_, rfl⟩, .inl ⟨_, by rw [List.take_of_length_le (by simp)], HJs.out⟩⟩
end Go.Proofs.YtgoemaecdolioaaGreatDoor

/-
  model: sameNames.
-/
namespace Go.Proofs.YtgoemaecdolioaaGreatDoor
open Go.RowKit Go.Shelf Go.Sort
attribute [local go_sem] Oper.semAt_some

/-- Are they the same so far? -/
def sameB (l m : List (List UInt8)) (pre : List Nat) : Bool := decide (l.length = m.length) && pre.all fun k => l[k]?.getD [] == m[k]?.getD []
theorem sameB_snoc (l m : List (List UInt8)) (pre : List Nat) (k : Nat) : sameB l m (pre ++ [k]) = (sameB l m pre && (l[k]?.getD [] == m[k]?.getD [])) := by
  unfold sameB
  rw [List.all_append, Bool.and_assoc]
  simp
theorem sameB_all (l m : List (List UInt8)) : sameB l m (List.range l.length) = (l == m) := by
  rw [Bool.eq_iff_iff, beq_iff_eq]
  unfold sameB
  rw [Bool.and_eq_true, decide_eq_true_iff, List.all_eq_true]
  constructor
  · rintro ⟨h1, h2⟩
    apply List.ext_getElem h1
    intro k h3 h4
    have := h2 k (List.mem_range.2 h3)
    rw [beq_iff_eq, List.getElem?_eq_getElem h3, List.getElem?_eq_getElem h4] at this
    exact this
  · rintro rfl
    exact ⟨rfl, fun k _ => by simp⟩
theorem sameB_false (l m : List (List UInt8)) {pre : List Nat} (hp : pre <+: List.range l.length) (h : sameB l m pre = false) : (l == m) = false := by
  cases he : (l == m) with
  | false => rfl
  | true =>
    rw [← sameB_all] at he
    obtain ⟨r, hr⟩ := hp
    unfold sameB at he h
    rw [← hr, List.all_append, ← Bool.and_assoc, h] at he
    cases he
/-- In the rounds of sameNames. -/
def SamI (w : World) (l m : List (List UInt8)) (bb sb : Nat) (u : Value) (pre : List Nat) (q : Nat → Prop) (W : World) : Prop :=
  BoxF bb 42 u q W ∧ BoxF sb 4 (.bool (sameB l m pre)) q W ∧ BelowF w.heap.size w q W
theorem abides_sam (w : World) (l m : List (List UInt8)) (bb sb : Nat) (u : Value) : Abides (SamI w l m bb sb u) := Abides.and (Abides.box _ _ (fun _ => u)) (Abides.and (Abides.box _ _ (fun pre => .bool (sameB l m pre))) (Abides.below _ _))
def SamX (w : World) (l m : List (List UInt8)) (sb : Nat) (cd : Code) (ys : List Nat) (q : Nat → Prop) (W : World) : Prop :=
  (cd = .exit 0 ∧ sameB l m ys = false) ∧ BoxF sb 4 (.bool false) q W ∧ BelowF w.heap.size w q W
theorem abides_samx (w : World) (l m : List (List UInt8)) (sb : Nat) (cd : Code) : Abides (SamX w l m sb cd) := Abides.and (Abides.pure (fun ys : List Nat => cd = .exit 0 ∧ sameB l m ys = false)) (Abides.and (Abides.box _ _ (fun _ => .bool false)) (Abides.below _ _))
set_option maxRecDepth 100000 in
set_option maxHeartbeats 8000000 in
theorem sameNames_any {v u : Value} {l m : List (List UInt8)} (w : World) (hv : TxS w v l) (hu : TxS w u m) (hl : l.length ≤ 1000000) (hm : m.length ≤ 1000000) :
    Calls Tryz.prog 48 #[v, u] w fun e w' => e = .returned (.bool (l == m)) ∧ Below w.heap.size w w' := by
  obtain ⟨a, c, b, off, rfl, hlc, ha, hx⟩ := TxS.cell hv
  obtain ⟨a', c', b', off', rfl, hlc', ha', hx'⟩ := TxS.cell hu
  have hlm : ((l.length : Int) == (m.length : Int)) = sameB l m [] := by
    unfold sameB
    rw [List.all_nil, Bool.and_true, Bool.eq_iff_iff, beq_iff_eq, decide_eq_true_iff]
    omega
  obtain ⟨W0, hW0⟩ : ∃ W0, ((w.alloc (.cells #[.slice a' m.length c'] 42)).alloc (.cells #[.bool (sameB l m [])] 4)) = W0 := ⟨_, rfl⟩
  have HC' : Hid (∀ k, k < m.length → a' = some ⟨b', off', none⟩ ∧ b' < w.heap.size ∧ w.cell? ⟨b', off' + k, none⟩ = some (encStr (m[k]?.getD []))) := show ∀ k, _ from fun k hk => ⟨ha' (by omega), (hx' (by omega)).1, (hx' (by omega)).2 k hk⟩
  have b0 : Below w.heap.size w W0 := by rw [← hW0]; exact (by repeat (first | exact Below.refl _ _ | assumption | refine Below.drew ?_ | refine below_drewN ?_ _ | refine Below.alloc ?_ (by (try simp) <;> omega) _ | refine Below.setCell ?_ (by (try simp) <;> omega) _ | refine Below.trans ?_ (Below.mono (by assumption) (by (try simp) <;> omega))))
  have j0 : Boxed W0 w.heap.size 42 (.slice a' m.length c') := by rw [← hW0]; unfold Boxed; (simp only [heap_at, World.size_alloc]; repeat (first | rw [if_pos (by omega)] | rw [if_neg (by omega)] | rw [if_pos trivial]))
  have j1 : Boxed W0 (w.heap.size + 1) 4 (.bool (sameB l m [])) := by rw [← hW0]; unfold Boxed; (simp only [heap_at, World.size_alloc]; repeat (first | rw [if_pos (by omega)] | rw [if_neg (by omega)] | rw [if_pos trivial]))
  have z0 : W0.heap.size = w.heap.size + 2 := by rw [← hW0]; simp
  have HAL := Lib.hid (allS_any a l.length c W0)
  have HSQ : Hid (∀ W, Below w.heap.size w W → ∀ p, Boxed W p 42 (.slice a l.length c) → SeqF (stP p b l.length) 8 Tryz.prog 110 #[.pointer (some ⟨p, 0, none⟩)] (encSt l) (fun ys => ys = List.range l.length) (fun pre => pre <+: List.range l.length) W) := show ∀ W, _ from fun W hW p hp => allS_seq 8 (by decide) W hl hlc ha (fun h0 => ⟨Nat.lt_of_lt_of_le (hx h0).1 hW.size, fun j hj => (hW.cell (p := ⟨b, off + j, none⟩) (hx h0).1).trans ((hx h0).2 j hj)⟩) hp
  have HBL : Hid (0 < l.length → b < w.heap.size) := show _ → _ from fun h0 => (hx h0).1
  have HB0 := Lib.hid b0
  have HJ0 := Lib.hid j0
  have HJ1 := Lib.hid j1
  have HZ0 := Lib.hid z0
  have HW0 := Lib.hid hW0
  have HAA := Lib.hid (sameB_all l m)
  have HAF := Lib.hid (fun (pre : List Nat) => sameB_false l m (pre := pre))
  obtain ⟨n, hn⟩ : ∃ n, l.length = n := ⟨_, rfl⟩
  obtain ⟨k', hk'⟩ : ∃ n, m.length = n := ⟨_, rfl⟩
  have HNL := Lib.hid hn
  have HNM := Lib.hid hk'
  rw [hn] at hlm HAL HSQ HBL hl hlc HAA HAF
  rw [hk'] at hlm HW0 HC' HJ0 hm hlc'
  rw [hn, hk']
  clear hv hu ha hx ha' hx' hW0 b0 j0 j1 z0 hn hk'
  refine (callsIn_wide (n := 9)).1 ?_
  refine callsIn_of_wp_marks Tryz.func48 rfl trivial ?_ rfl
  simp only [Tryz.ntmps48, List.size_toArray, List.length_cons, List.length_nil, Nat.reduceAdd, Nat.reduceSub, Array.replicate_succ, Array.replicate_zero, List.push_toArray, List.append_toArray, List.nil_append, List.cons_append]
  gi_wp2_with fail
  refine wpIn_scope_straight ?_
  gi_wp2_with fail
  refine wpIn_label ?_
  gi_wp2_with fail
  rw [HW0.out]
  refine ⟨trivial, ?_⟩
  refine (callsIn_wide.2 HAL.out).mono ?_
  rintro e w1 ⟨rfl, rfl⟩
  have hb1 : Below W0.heap.size W0 (W0.alloc (.cells #[.slice a n c] 42)) := (Below.refl _ W0).alloc (Nat.le_refl _) _
  have hbp : Boxed (W0.alloc (.cells #[.slice a n c] 42)) W0.heap.size 42 (.slice a n c) := Boxed.new _ _ _
  obtain ⟨W1, hW1⟩ : ∃ W1, W0.alloc (.cells #[.slice a n c] 42) = W1 := ⟨_, rfl⟩
  rw [hW1] at hb1 hbp ⊢
  have HB1 : Hid (Below w.heap.size w W1) := show Below _ _ _ from HB0.out.trans (hb1.mono HB0.out.size)
  have hsq := HSQ.out W1 HB1.out W0.heap.size hbp
  have hplt : ∀ k, stP W0.heap.size b n k → k < W1.heap.size := fun k hk => by
    rcases hk with rfl | ⟨h0, rfl⟩
    · exact hbp.lt
    · exact Nat.lt_of_lt_of_le (HBL.out h0) HB1.out.size
  have HPN : Hid (∀ k, stP W0.heap.size b n k → k ≠ w.heap.size ∧ k ≠ w.heap.size + 1) := show ∀ k, _ from fun k hk => by
    have hz := HZ0.out
    rcases hk with rfl | ⟨h0, rfl⟩
    · omega
    · have := HBL.out h0; omega
  have HI0 : Hid (SamI w l m w.heap.size (w.heap.size + 1) (.slice a' k' c') [] (fun _ => False) W1) := show SamI _ _ _ _ _ _ _ _ _ from
    ⟨⟨(hb1.block _ HJ0.out.lt).trans HJ0.out, id⟩, ⟨(hb1.block _ HJ1.out.lt).trans HJ1.out, id⟩, ⟨HB1.out, HB1.out.size, fun _ h => h.elim⟩⟩
  clear hbp hb1 hW1
  gi_wp2_with fail
  generalize hA : ({ tmps := _, defers := _ } : Act) = A0
  refine wpIn_range_F (n := 9) (by decide) (gf := 110) (lb := #[.pointer (some ⟨W0.heap.size, 0, none⟩)]) (by rw [← hA]; rfl) (enters_of Tryz.func110 (by kernel_rfl) rfl) hsq hplt (Below.refl _ _) (fun _ => rfl)
    (SamI w l m w.heap.size (w.heap.size + 1) (.slice a' k' c')) (SamX w l m (w.heap.size + 1)) (abides_sam _ _ _ _ _ _) (abides_samx _ _ _ _) HI0.out
    (fun k a' _ => a' = { tmps := (((A0.tmps.setIfInBounds 15 (.int .i64 (k : Nat))).setIfInBounds 16 (encStr (l[k]?.getD []))).setIfInBounds 6 (.int .i64 (k : Nat))).setIfInBounds 7 (encStr (l[k]?.getD [])), defers := [] })
    (fun x a' W1 o h => h)
    ?assign ?body ?done ?stop
  case assign =>
    rintro l2 x W2 K hsz hK
    subst hA
    unfold encSt
    dsimp only
    gi_wp2_with fail
    refine hK _ _ ?_ (Below.refl _ _)
    rfl
  case body =>
    rintro l2 pre x a2 q2 W2 ⟨⟨hb, hbq⟩, ⟨hsb, hsq⟩, hB⟩ hs2 hqb hsp rfl
    subst hA
    have hxn : x < n := by
      obtain ⟨r, hr⟩ := hsp
      have hm : x ∈ List.range n := by rw [← hr]; simp
      exact List.mem_range.1 hm
    have cb := hb.cell
    have cs := hsb.cell
    have fs := hsb.frozen
    have HSB := Lib.hid hsb
    have HBB := Lib.hid hb
    have HBF := Lib.hid hB
    have HQ : Hid (¬ q2 w.heap.size ∧ ¬ q2 (w.heap.size + 1)) := show _ ∧ _ from ⟨hbq, hsq⟩
    have HSN := Lib.hid (sameB_snoc l m pre x)
    have HLL : Hid (sameB l m pre = true → n = k') := show _ → _ from fun h => by
      unfold sameB at h
      rw [Bool.and_eq_true, decide_eq_true_iff] at h
      rw [← HNL.out, ← HNM.out]
      exact h.1
    obtain ⟨sv, hsv⟩ : ∃ b, sameB l m pre = b := ⟨_, rfl⟩
    rw [hsv] at cs HSN HLL HSB
    clear hb hbq hsb hsq hB hqb hsp hsv
    have HKS : Hid (∀ v, Keeps (fun k => stP W0.heap.size b n k ∨ q2 k) W2 (W2.setCell ⟨w.heap.size + 1, 0, none⟩ v)) := show ∀ v, _ from fun v => ⟨by simp [World.setCell], fun k hk _ => Below.heap_setCell _ _ _ _ (by rcases hk with hk | hk; exact (HPN.out k hk).2; exact fun e => HQ.out.2 (by have e2 : k = w.heap.size + 1 := e; rw [← e2]; exact hk))⟩
    have HFS : Hid (∀ v, BelowF w.heap.size w q2 (W2.setCell ⟨w.heap.size + 1, 0, none⟩ v)) := show ∀ v, _ from fun v => ⟨HBF.out.1.setCell (p := ⟨w.heap.size + 1, 0, none⟩) (show w.heap.size ≤ w.heap.size + 1 by omega) _, by simp [World.setCell]; exact HBF.out.2.1, HBF.out.2.2⟩
    cases sv with
    | false =>
      gi_wp2_with fail
      refine ⟨HKS.out _, ⟨rfl, ?_⟩, ⟨HSB.out.set _, HQ.out.2⟩, HFS.out _⟩
      rw [HSN.out]; rfl
    | true =>
      obtain rfl := HLL.out rfl
      obtain ⟨rfl, hbl, hcell⟩ := HC'.out x hxn
      have cx := (HBF.out.1.cell (p := ⟨b', off' + x, none⟩) hbl).trans hcell
      have HBB2 : Hid (∀ v, Boxed (W2.setCell ⟨w.heap.size + 1, 0, none⟩ v) w.heap.size 42 (.slice (some ⟨b', off', none⟩) n c')) := show ∀ v, _ from fun v => (Below.heap_setCell _ _ _ _ (by show w.heap.size ≠ w.heap.size + 1; omega)).trans HBB.out
      obtain ⟨y, hy, hyl⟩ : ∃ y, encStr (m[x]?.getD []) = .string y ∧ y.toList = m[x]?.getD [] := ⟨_, rfl, Lib.toList_data _⟩
      obtain ⟨z, hz, hzl⟩ : ∃ y, encStr (l[x]?.getD []) = .string y ∧ y.toList = l[x]?.getD [] := ⟨_, rfl, Lib.toList_data _⟩
      obtain ⟨eq, heq⟩ : ∃ b, (l[x]?.getD [] == m[x]?.getD []) = b := ⟨_, rfl⟩
      rw [heq] at HSN
      rw [← hyl, ← hzl] at heq
      rw [hy] at cx
      rw [hz]
      have k2 : (x : Int) < (n : Int) := by omega
      clear hy hz hyl hzl hcell
      cases eq with
      | true =>
        gi_wp2_with fail
        refine ⟨HKS.out _, ⟨HBB2.out _, HQ.out.1⟩, ⟨?_, HQ.out.2⟩, HFS.out _⟩
        rw [HSN.out]
        exact HSB.out.set _
      | false =>
        gi_wp2_with fail
        refine ⟨HKS.out _, ⟨rfl, ?_⟩, ⟨HSB.out.set _, HQ.out.2⟩, HFS.out _⟩
        rw [HSN.out]; rfl
  case done =>
    rintro D ys W2 hD rfl ⟨⟨hb, hbq⟩, ⟨hsb, hsq⟩, hB⟩ hK'
    subst hA
    have cs := hsb.cell
    rw [HAA.out] at cs
    have HB2 := Lib.hid hB
    have HDD := Lib.hid hD
    have HK := Lib.hid hK'
    clear hb hbq hsb hsq hB hD hK'
    gi_wp2_with fail
    refine leaves_one (D := D) HK.out fun W' ht hc => ⟨.bool (l == m), ?_, rfl, ?_⟩
    · simp [results, Tryz.results48, go_sem]
    · exact HB2.out.1.trans (ht.below (B := w.heap.size) (fun k h => by have := HDD.out; have := HB1.out.size; omega) HB2.out.2.1)
  case stop =>
    rintro D cd pre W2 hD hpre ⟨⟨rfl, hf⟩, ⟨hsb, hsq⟩, hB⟩ hK'
    subst hA
    have HFF : Hid ((l == m) = false) := show _ = _ from HAF.out _ hpre hf
    have cs := hsb.cell
    have HB2 := Lib.hid hB
    have HDD := Lib.hid hD
    have HK := Lib.hid hK'
    clear hsb hsq hB hD hK' hpre hf
    gi_wp2_with fail
    refine leaves_one (D := D) HK.out fun W' ht hc => ⟨.bool false, ?_, by rw [HFF.out], ?_⟩
    · simp [results, Tryz.results48, go_sem]
    · exact HB2.out.1.trans (ht.below (B := w.heap.size) (fun k h => by have := HDD.out; have := HB1.out.size; omega) HB2.out.2.1)
end Go.Proofs.YtgoemaecdolioaaGreatDoor

/-
  label: arguments opened: a text, a slice of texts, five words.
-/
namespace Go.Proofs.YtgoemaecdolioaaGreatDoor
open Go.ChangeShapes Go.WideShapes Go.ChangeAt Go.RowKit Go.Joins

end Go.Proofs.YtgoemaecdolioaaGreatDoor
