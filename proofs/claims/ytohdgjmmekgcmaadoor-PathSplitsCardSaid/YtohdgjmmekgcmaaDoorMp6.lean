/-
  Texts PthJ to PthL, as one.
-/
import Derived.Test.YtohdgjmmekgcmaaDoorMp5
import Derived.BigQuiet
/-
  path: cmp.Or of two errors; the closure of next; every, asked of the closure.
-/
namespace Go.Proofs.YtohdgjmmekgcmaaDoor
open Go.RowKit Go.Shelf Go.Sort

set_option maxRecDepth 100000 in
set_option maxHeartbeats 2000000 in
theorem or2_any (B : Nat) (a b : Int) (w : World) (h0 : w.cell? ⟨B, 0, none⟩ = some (.int .i64 a)) (h1 : w.cell? ⟨B, 1, none⟩ = some (.int .i64 b)) :
    Calls Tryd.prog 79 #[.slice (some ⟨B, 0, none⟩) 2 2] w fun e w' => e = .returned (.int .i64 (if a = 0 then b else a)) ∧ w = w' := by
  go_enter Tryd.func79, Tryd.ntmps79
  go_wp2
  go_loopw [8] (fun i wr => (i = .int .i64 0 ∨ i = .int .i64 1 ∧ a = 0 ∨ i = .int .i64 2 ∧ a = 0 ∧ b = 0) ∧ wr = w) (fun i _ => 2 - (intOf i).toNat)
  case atStart => exact ⟨.inl rfl, rfl⟩
  case round =>
    obtain ⟨hk, rfl⟩ := hrel
    rcases hk with rfl | ⟨rfl, ha⟩ | ⟨rfl, ha, hb⟩
    · by_cases ha : a = 0
      · subst ha
        go_wp2_with fail
        go_roundw
        case rel => simp
        case measure => decide
      · have hq : (a == 0) = false := by simp [ha]
        go_wp2_with fail
        go_ret
        exact ⟨rfl, rfl⟩
    · subst ha
      by_cases hb : b = 0
      · subst hb
        go_wp2_with fail
        go_roundw
        case rel => simp
        case measure => decide
      · have hq : (b == 0) = false := by simp [hb]
        go_wp2_with fail
        go_ret
        exact ⟨rfl, rfl⟩
    · subst ha hb
      go_wp2_with fail
      go_ret
      exact ⟨rfl, rfl⟩
theorem TxS.set {w : World} {v : Value} {l : List (List UInt8)} (h : TxS w v l) {C : Nat} (hne : ∀ b off n c, v = .slice (some ⟨b, off, none⟩) n c → b ≠ C) (u : Value) : TxS (w.setCell ⟨C, 0, none⟩ u) v l := by
  obtain ⟨hl, a, cap, rfl, hc, hx⟩ := h
  refine ⟨hl, a, cap, rfl, hc, fun h0 => ?_⟩
  obtain ⟨b, off, rfl, hb, hj⟩ := hx h0
  have hbC := hne b off _ _ rfl
  refine ⟨b, off, rfl, by simpa using hb, fun j y hy => ?_⟩
  exact (World.cell?_of_block (a := ⟨b, off + j, none⟩) (Below.heap_setCell _ _ _ b hbC)).trans (hj j y hy)
/-- Is a name the next one of a list, of which so many were asked? -/
def nextE (l : List (List UInt8)) (k : Nat) (x : List UInt8) : Bool := decide (k < l.length) && ((l[k]?.getD []) == x)
set_option maxRecDepth 100000 in
set_option maxHeartbeats 2000000 in
theorem next1_any (C B k : Nat) (hk : k ≤ 1000) (v : Value) (l : List (List UInt8)) (hl : l.length ≤ 1000) (x : List UInt8) (w : World) (hc : Boxed w C 3 (.int .i64 (k : Nat))) (hb : Boxed w B 131 v) (hv : TxS w v l) (hne : ∀ b off n c, v = .slice (some ⟨b, off, none⟩) n c → b ≠ C) (hCB : C ≠ B) :
    Calls Tryd.prog 103 #[encStr x, .pointer (some ⟨C, 0, none⟩), .pointer (some ⟨B, 0, none⟩)] w fun e w' => e = .returned (.bool (nextE l k x)) ∧ w' = w.setCell ⟨C, 0, none⟩ (.int .i64 ((k : Int) + 1)) := by
  have hv2 := hv.set hne (.int .i64 ((k : Int) + 1))
  have hc2 := hc.set (.int .i64 ((k : Int) + 1))
  have hb2 := hb.other (Ne.symm hCB) (.int .i64 ((k : Int) + 1))
  have c0 := hc.cell
  have f0 := hc.frozen
  obtain ⟨a, cap, b, off, rfl, hlc, ha, hx⟩ := hv2.cell
  have e1 : (k : Int) + 1 - 1 = k := by omega
  by_cases h0 : k < l.length
  · obtain rfl := ha (by omega)
    have d3 := (hx (by omega)).2 k h0
    have hq : (k : Int) + 1 ≤ (l.length : Int) := by omega
    have HN : Hid (nextE l k x = ((l[k]?.getD []) == x)) := show _ = _ by unfold nextE; rw [decide_eq_true h0]; rfl
    obtain ⟨y, hy⟩ : ∃ y, l[k]?.getD [] = y := ⟨_, rfl⟩
    rw [hy] at d3 HN
    obtain ⟨W, hW⟩ : ∃ W, w.setCell ⟨C, 0, none⟩ (.int .i64 ((k : Int) + 1)) = W := ⟨_, rfl⟩
    rw [hW] at hv2 hc2 hb2 d3 ⊢
    have d0 := hc2.cell
    have d1 := hb2.cell
    have HH := Lib.hid hv2
    clear hx hv hv2 hc hc2 hb hb2 hy ha hne
    go_enter Tryd.func103, Tryd.ntmps103
    go_wp2_with fail
    go_ret
    exact ⟨ret_bool (by rw [HN.out]), rfl⟩
  · have hq : ¬ (k : Int) + 1 ≤ (l.length : Int) := by omega
    have HN : Hid (nextE l k x = false) := show _ = _ by unfold nextE; rw [decide_eq_false h0]; rfl
    obtain ⟨W, hW⟩ : ∃ W, w.setCell ⟨C, 0, none⟩ (.int .i64 ((k : Int) + 1)) = W := ⟨_, rfl⟩
    rw [hW] at hv2 hc2 hb2 ⊢
    have d0 := hc2.cell
    have d1 := hb2.cell
    clear hx hv hv2 hc hc2 hb hb2 ha hne
    go_enter Tryd.func103, Tryd.ntmps103
    go_wp2_with fail
    go_ret
    exact ⟨ret_bool (by rw [HN.out]), rfl⟩
/-- Is a list a beginning of another one? -/
def beginsE (l o : List (List UInt8)) : Bool := decide (o.length ≤ l.length) && (l.take o.length == o)
theorem beginsE_step (l o : List (List UInt8)) (k : Nat) (hk : k < o.length) (h : beginsE l (o.take k) = true) : beginsE l (o.take (k + 1)) = nextE l k (o[k]?.getD []) ∧ (nextE l k (o[k]?.getD []) = false → beginsE l o = false) := by
  have hx : o[k]?.getD [] = o[k] := by simp [hk]
  rw [hx]
  unfold beginsE at h
  rw [Bool.and_eq_true, decide_eq_true_iff, beq_iff_eq, List.length_take, Nat.min_eq_left (Nat.le_of_lt hk)] at h
  obtain ⟨h1, h2⟩ := h
  have e : o.take (k + 1) = o.take k ++ [o[k]] := List.take_succ_eq_append_getElem hk
  constructor
  · unfold beginsE nextE
    rw [List.length_take, Nat.min_eq_left hk]
    by_cases hl : k < l.length
    · have e2 : l.take (k + 1) = l.take k ++ [l[k]] := List.take_succ_eq_append_getElem hl
      rw [decide_eq_true (show k + 1 ≤ l.length from hl), decide_eq_true hl, e, e2, h2, Bool.true_and, Bool.true_and, Bool.eq_iff_iff, beq_iff_eq, beq_iff_eq, show l[k]?.getD [] = l[k] by simp [hl]]
      exact ⟨fun h => by simpa using List.append_cancel_left h, fun h => by rw [h]⟩
    · rw [decide_eq_false (show ¬ k + 1 ≤ l.length by omega), decide_eq_false hl]
      rfl
  · intro hn
    unfold beginsE
    unfold nextE at hn
    by_cases hlo : o.length ≤ l.length
    · have hl : k < l.length := by omega
      rw [decide_eq_true hl, Bool.true_and] at hn
      rw [decide_eq_true hlo, Bool.true_and]
      rw [beq_eq_false_iff_ne] at hn ⊢
      intro he
      apply hn
      have := congrArg (fun z => z[k]?.getD []) he
      simp only [List.getElem?_take, if_pos hk] at this
      rw [this, hx]
    · rw [decide_eq_false hlo]
      rfl
set_option maxRecDepth 100000 in
set_option maxHeartbeats 4000000 in
theorem evNext_any (C B : Nat) (v : Value) (l : List (List UInt8)) (hl : l.length ≤ 1000) (u : Value) (o : List (List UInt8)) (ho : o.length ≤ 1000) (w : World) (hc : Boxed w C 3 (.int .i64 0)) (hb : Boxed w B 131 v) (hv : TxS w v l) (hu : TxS w u o)
    (hne : ∀ b off n c, v = .slice (some ⟨b, off, none⟩) n c → b ≠ C) (hne2 : ∀ b off n c, u = .slice (some ⟨b, off, none⟩) n c → b ≠ C) (hCB : C ≠ B) :
    Calls Tryd.prog 81 #[.func (.func 103) #[] #[.pointer (some ⟨C, 0, none⟩), .pointer (some ⟨B, 0, none⟩)], u] w fun e w' => e = .returned (.bool (beginsE l o)) ∧ Below C w w' := by
  have HNE := Lib.hid hne
  have HNE2 := Lib.hid hne2
  have HLB := Lib.hid hl
  obtain ⟨a, cap, ub, uoff, rfl, hlc, ha, -⟩ := hu.cell
  have HU := Lib.hid hu
  have HV := Lib.hid hv
  have HC := Lib.hid hc
  have HB := Lib.hid hb
  clear hu hv hc hb hne hne2
  generalize hn : o.length = n at *
  go_enter Tryd.func81, Tryd.ntmps81
  go_wp2
  go_loopw [9] (fun i wr => ∃ k : Nat, k ≤ n ∧ i = .int .i64 k ∧ Hid (beginsE l (o.take k) = true) ∧ Hid (Boxed wr C 3 (.int .i64 (k : Nat)) ∧ Boxed wr B 131 v ∧ TxS wr v l ∧ TxS wr (.slice a n cap) o) ∧ Below C w wr) (fun i _ => n - (intOf i).toNat)
  case atStart => exact ⟨0, Nat.zero_le _, rfl, Lib.hid (by unfold beginsE; simp), ⟨HC.out, HB.out, HV.out, HU.out⟩, Below.refl _ _⟩
  case round =>
    obtain ⟨k, hk, rfl, HA, HI, hb⟩ := hrel
    have HBW := Lib.hid hb
    clear hb
    by_cases hlt : k < n
    · obtain rfl := ha (by omega)
      obtain ⟨a1, cap1, b1, o1, e1, -, ha1, hc1⟩ := HI.out.2.2.2.cell
      simp only [Value.slice.injEq] at e1
      obtain ⟨e1, -, rfl⟩ := e1
      have ha2 := ha1 (by omega)
      rw [← e1] at ha2
      simp only [Option.some.injEq, Addr.mk.injEq, and_true] at ha2
      obtain ⟨rfl, rfl⟩ := ha2
      have c1 := (hc1 (by omega)).2 k (by omega)
      have hn' : ((k : Nat) : Int) < (n : Int) := by omega
      obtain ⟨x, hx⟩ : ∃ x, x = o[k]?.getD [] := ⟨_, rfl⟩
      rw [← hx] at c1
      have HS := Lib.hid (beginsE_step l o k (by omega) HA.out)
      rw [← hx] at HS
      clear hx hc1 ha1 e1
      go_wp2_with fail
      refine (next1_any C B k (by omega) v l HLB.out x _ HI.out.1 HI.out.2.1 HI.out.2.2.1 HNE.out hCB).mono ?_
      rintro e w1 ⟨rfl, hw1⟩
      have HI1 : Hid (Boxed w1 C 3 (.int .i64 ((k : Int) + 1)) ∧ Boxed w1 B 131 v ∧ TxS w1 v l ∧ TxS w1 (.slice (some ⟨ub, uoff, none⟩) n cap) o) := show _ ∧ _ by
        rw [hw1]
        exact ⟨HI.out.1.set _, HI.out.2.1.other (Ne.symm hCB) _, HI.out.2.2.1.set HNE.out _, HI.out.2.2.2.set HNE2.out _⟩
      have HB1 : Hid (Below C w w1) := show Below _ _ _ by rw [hw1]; exact HBW.out.setCell (p := ⟨C, 0, none⟩) (Nat.le_refl _) _
      clear hw1
      cases hx : nextE l k x with
      | true =>
        have HA1 : Hid (beginsE l (o.take (k + 1)) = true) := show _ = _ by rw [HS.out.1, hx]
        clear hx
        go_wp2_with fail
        go_roundw
        case rel => exact ⟨k + 1, by omega, by go_num, HA1, by
          have h := HI1.out
          exact ⟨by rw [show ((k + 1 : Nat) : Int) = (k : Int) + 1 by omega]; exact h.1, h.2⟩, HB1.out⟩
        case measure => simp [intOf]; omega
      | false =>
        have HF : Hid (beginsE l o = false) := show _ = _ from HS.out.2 hx
        clear hx
        go_wp2_with fail
        go_ret
        exact ⟨ret_bool (by rw [HF.out]), HB1.out⟩
    · obtain rfl : k = n := by omega
      rw [List.take_of_length_le (by omega)] at HA
      go_wp2_with fail
      go_ret
      exact ⟨ret_bool (by rw [HA.out]), HBW.out⟩
end Go.Proofs.YtohdgjmmekgcmaaDoor

/-
  path: next; Within.
-/
namespace Go.Proofs.YtohdgjmmekgcmaaDoor
open Go.RowKit Go.Shelf Go.Sort

theorem lsNext_any (v : Value) (l : List (List UInt8)) (w : World) (hv : TxS w v l) :
    Calls Tryd.prog 82 #[v] w fun e w' => e = .returned (.func (.func 103) #[] #[.pointer (some ⟨w.heap.size + 1, 0, none⟩), .pointer (some ⟨w.heap.size, 0, none⟩)]) ∧ w' = (w.alloc (.cells #[v] 131)).alloc (.cells #[.int .i64 0] 3) := by
  obtain ⟨a, c, rfl⟩ := hv.slice
  clear hv
  go_enter Tryd.func82, Tryd.ntmps82
  go_wp2
  go_ret
  exact ⟨rfl, rfl⟩
theorem OwnT.block {W : World} {B : Nat} {u : Value} {l : List (List UInt8)} (h : OwnT W B u l) {b off n c : Nat} (e : u = .slice (some ⟨b, off, none⟩) n c) : b < W.heap.size := by
  rcases h.2 with ⟨rfl, _⟩ | ⟨g, cap, cur, rfl, _, hg, _⟩
  · cases e
  · simp only [Value.slice.injEq, Option.some.injEq, Addr.mk.injEq] at e
    rw [← e.1.1]
    exact (Array.getElem?_eq_some_iff.1 hg).1
theorem OwnT.below {W W' : World} {B : Nat} {u : Value} {l : List (List UInt8)} (h : OwnT W B u l) (hb : Below W.heap.size W W') : OwnT W' B u l := own_keptG h fun g _ hg => hb.block g hg
/-- Is a list of names within another one? -/
def isIn (l o : List (List UInt8)) : Bool := decide (o.length < l.length) && beginsE l o
/-- What Within tells. -/
def withinE (s t : List UInt8) : Bool × Int :=
  if (splitE s).2 ≠ 0 then (false, (splitE s).2) else if (splitE t).2 ≠ 0 then (false, (splitE t).2) else (isIn (splitE s).1 (splitE t).1, 0)
set_option maxRecDepth 100000 in
set_option maxHeartbeats 4000000 in
theorem paWithin_any (s t : List UInt8) (hs : s.length ≤ 1000000) (ht : t.length ≤ 1000000) (w : World) (hm : MaxC w) :
    Calls Tryd.prog 41 #[encStr s, encStr t] w fun e w' => e = .returned (.tuple #[.bool (withinE s t).1, .int .i64 (withinE s t).2]) ∧ Below w.heap.size w w' := by
  have HR := Lib.hid (read_any s hs w hm)
  have HR2 := Lib.hid (fun w hm => read_any t ht w hm)
  have HL := Lib.hid (splitE_len s)
  have HL2 := Lib.hid (splitE_len t)
  have HM := Lib.hid hm
  have HP : Hid (withinE s t = if (splitE s).2 ≠ 0 then (false, (splitE s).2) else if (splitE t).2 ≠ 0 then (false, (splitE t).2) else (isIn (splitE s).1 (splitE t).1, 0)) := show _ = _ from rfl
  obtain ⟨⟨l, no⟩, hx⟩ : ∃ x, splitE s = x := ⟨_, rfl⟩
  obtain ⟨⟨o, nt⟩, hy⟩ : ∃ x, splitE t = x := ⟨_, rfl⟩
  rw [hx] at HR HL
  rw [hx, hy] at HP
  rw [hy] at HR2 HL2
  dsimp only at HR HR2 HL HL2 HP
  clear hm hx hy
  go_enter Tryd.func41, Tryd.ntmps41
  go_wp2_with fail
  refine HR.out.mono ?_
  rintro e w1 ⟨v, rfl, hu, hb⟩
  obtain ⟨a1, c1, rfl⟩ := hu.txs.slice
  have hu1 := hu.below (W' := w1.alloc (.cells #[.slice a1 l.length c1] 133)) ((Below.refl _ _).alloc (Nat.le_refl _) _)
  have x1 := Boxed.new w1 133 (.slice a1 l.length c1)
  have b1 : Below w.heap.size w (w1.alloc (.cells #[.slice a1 l.length c1] 133)) := hb.alloc hb.size _
  have m1 := HM.out.below b1 HM.out.room
  have HU1 := Lib.hid hu1
  have HX1 := Lib.hid x1
  have HB1 := Lib.hid b1
  have HM1 := Lib.hid m1
  clear hu hb hu1 x1 b1 m1
  obtain ⟨wa, hwa⟩ : ∃ wa, w1.alloc (.cells #[.slice a1 l.length c1] 133) = wa := ⟨_, rfl⟩
  rw [hwa] at HU1 HX1 HB1 HM1
  go_wp2_with fail
  clear hwa
  refine (HR2.out _ HM1.out).mono ?_
  rintro e w2 ⟨u, rfl, hu, hb⟩
  obtain ⟨a2, c2, rfl⟩ := hu.txs.slice
  have hz2 := HB1.out.size
  have hz3 := hb.size
  have b2 : Below w.heap.size w w2 := HB1.out.trans (hb.mono hz2)
  have hu1 := HU1.out.below hb
  have x1 : Boxed w2 w1.heap.size 133 (.slice a1 l.length c1) := (hb.block _ HX1.out.lt).trans HX1.out
  have bb : Below w2.heap.size w2 (w2.alloc (.cells #[.slice a2 o.length c2] 133)) := (Below.refl _ _).alloc (Nat.le_refl _) _
  have hu3 := hu.below bb
  have hu4 := hu1.below bb
  have x3 := Boxed.new w2 133 (.slice a2 o.length c2)
  have x4 : Boxed (w2.alloc (.cells #[.slice a2 o.length c2] 133)) w1.heap.size 133 (.slice a1 l.length c1) := x1.alloc _
  have b3 : Below w.heap.size w (w2.alloc (.cells #[.slice a2 o.length c2] 133)) := b2.trans (bb.mono b2.size)
  clear hu hb hu1 x1 bb b2 hz2 hz3
  obtain ⟨wb, hwb⟩ : ∃ wb, w2.alloc (.cells #[.slice a2 o.length c2] 133) = wb := ⟨_, rfl⟩
  rw [hwb] at hu3 hu4 x3 x4 b3
  have bc : Below wb.heap.size wb (wb.alloc (.cells #[.int .i64 no, .int .i64 nt] 30)) := (Below.refl _ _).alloc (Nat.le_refl _) _
  have HC0 : Hid ((wb.alloc (.cells #[.int .i64 no, .int .i64 nt] 30)).cell? ⟨wb.heap.size, 0, none⟩ = some (.int .i64 no)) := Lib.hid (Box2.new wb 30 no nt).cell0
  have HC1 : Hid ((wb.alloc (.cells #[.int .i64 no, .int .i64 nt] 30)).cell? ⟨wb.heap.size, 1, none⟩ = some (.int .i64 nt)) := Lib.hid (Box2.new wb 30 no nt).cell1
  have HU3 := Lib.hid (hu3.below bc)
  have HU4 := Lib.hid (hu4.below bc)
  have HX3 := Lib.hid (x3.alloc (.cells #[.int .i64 no, .int .i64 nt] 30))
  have HX4 := Lib.hid (x4.alloc (.cells #[.int .i64 no, .int .i64 nt] 30))
  have HB3 := Lib.hid (b3.trans (bc.mono b3.size))
  clear hu3 hu4 x3 x4 b3 bc
  obtain ⟨wc, hwc⟩ : ∃ wc, wb.alloc (.cells #[.int .i64 no, .int .i64 nt] 30) = wc := ⟨_, rfl⟩
  rw [hwc] at HC0 HC1 HU3 HU4 HX3 HX4 HB3
  go_wp2_with fail
  clear hwc hwb
  refine (or2_any _ no nt _ HC0.out HC1.out).mono ?_
  rintro e w5 ⟨rfl, rfl⟩
  clear HC0 HC1
  by_cases h0 : no = 0
  · subst h0
    rw [if_pos rfl]
    by_cases h1 : nt = 0
    · subst h1
      have HE : Hid (withinE s t = (isIn l o, 0)) := show _ = _ by rw [HP.out]; rfl
      have HS := Lib.hid (fun W (hb : Below wc.heap.size wc W) => And.intro (Boxed.cell (show Boxed W w1.heap.size 133 (.slice a1 l.length c1) from (hb.block _ HX4.out.lt).trans HX4.out)) (Boxed.cell (show Boxed W w2.heap.size 133 (.slice a2 o.length c2) from (hb.block _ HX3.out.lt).trans HX3.out)))
      have HVL := Lib.hid (fun W (hb : Below wc.heap.size wc W) => (HU4.out.below hb).txs)
      have HVO := Lib.hid (fun W (hb : Below wc.heap.size wc W) => (HU3.out.below hb).txs)
      have HG := Lib.hid (fun W (hb : Below wc.heap.size wc W) => HB3.out.trans (hb.mono HB3.out.size))
      have bq : Below wc.heap.size wc wc := Below.refl _ _
      have zq := bq.size
      have d1 := HX4.out.cell
      have d2 := HX3.out.cell
      have lb1 := HL.out
      have lb2 := HL2.out
      by_cases hlt : o.length < l.length
      · have hq : (o.length : Int) < (l.length : Int) := by omega
        have HI : Hid (isIn l o = beginsE l o) := show _ = _ by unfold isIn; rw [decide_eq_true hlt]; rfl
        go_wp2_with fail
        have HNV := Lib.hid (fun b off n c (e : Value.slice a1 l.length c1 = .slice (some ⟨b, off, none⟩) n c) => HU4.out.block e)
        have HNO := Lib.hid (fun b off n c (e : Value.slice a2 o.length c2 = .slice (some ⟨b, off, none⟩) n c) => HU3.out.block e)
        go_region_held3 (fun w' => w'.cell? ⟨w1.heap.size, 0, none⟩ = some (.slice a1 l.length c1) ∧ w'.cell? ⟨w2.heap.size, 0, none⟩ = some (.slice a2 o.length c2)) (exact HS.out _ (by repeat (first | exact Below.refl _ _ | assumption | refine Below.drew ?_ | refine below_drewN ?_ _ | refine Below.alloc ?_ (by (try simp) <;> omega) _ | refine Below.setCell ?_ (by (try simp) <;> omega) _ | refine Below.trans ?_ (Below.mono (by assumption) (by (try simp) <;> omega)))))
          (first | (go_at_call 80; with_reducible refine (lsMany_any (.slice a1 l.length c1) l _ (HVL.out _ (by repeat (first | exact Below.refl _ _ | assumption | refine Below.drew ?_ | refine below_drewN ?_ _ | refine Below.alloc ?_ (by (try simp) <;> omega) _ | refine Below.setCell ?_ (by (try simp) <;> omega) _ | refine Below.trans ?_ (Below.mono (by assumption) (by (try simp) <;> omega)))))).mono ?_; rintro e wA ⟨rfl, rfl⟩) | (go_at_call 80; with_reducible refine (lsMany_any (.slice a2 o.length c2) o _ (HVO.out _ (by repeat (first | exact Below.refl _ _ | assumption | refine Below.drew ?_ | refine below_drewN ?_ _ | refine Below.alloc ?_ (by (try simp) <;> omega) _ | refine Below.setCell ?_ (by (try simp) <;> omega) _ | refine Below.trans ?_ (Below.mono (by assumption) (by (try simp) <;> omega)))))).mono ?_; rintro e wA ⟨rfl, rfl⟩) | (go_at_call 70; refine (lsNames_any _ _).mono ?_; rintro e wA ⟨rfl, rfl⟩) | (go_at_call 82; refine (lsNext_any (.slice a1 l.length c1) l _ (HVL.out _ (by repeat (first | exact Below.refl _ _ | assumption | refine Below.drew ?_ | refine below_drewN ?_ _ | refine Below.alloc ?_ (by (try simp) <;> omega) _ | refine Below.setCell ?_ (by (try simp) <;> omega) _ | refine Below.trans ?_ (Below.mono (by assumption) (by (try simp) <;> omega)))))).mono ?_; rintro e wA ⟨rfl, hA⟩; have HCI : Hid (Boxed wA (wc.drew.heap.size + 1) 3 (.int .i64 0)) := (show Boxed _ _ _ _ by rw [hA]; have h := Boxed.new (wc.drew.alloc (.cells #[.slice a1 l.length c1] 131)) 3 (.int .i64 0); rwa [World.size_alloc] at h); have HBI : Hid (Boxed wA wc.drew.heap.size 131 (.slice a1 l.length c1)) := (show Boxed _ _ _ _ by rw [hA]; exact (Boxed.new _ _ _).alloc _); have bq : Below wc.heap.size wc wA := (by rw [hA]; exact (by repeat (first | exact Below.refl _ _ | assumption | refine Below.drew ?_ | refine below_drewN ?_ _ | refine Below.alloc ?_ (by (try simp) <;> omega) _ | refine Below.setCell ?_ (by (try simp) <;> omega) _ | refine Below.trans ?_ (Below.mono (by assumption) (by (try simp) <;> omega))))); have zq := bq.size; clear hA) | (go_at_call 81; refine (evNext_any (wc.drew.heap.size + 1) wc.drew.heap.size (.slice a1 l.length c1) l (by omega) (.slice a2 o.length c2) o (by omega) _ HCI.out HBI.out (HVL.out _ (by repeat (first | exact Below.refl _ _ | assumption | refine Below.drew ?_ | refine below_drewN ?_ _ | refine Below.alloc ?_ (by (try simp) <;> omega) _ | refine Below.setCell ?_ (by (try simp) <;> omega) _ | refine Below.trans ?_ (Below.mono (by assumption) (by (try simp) <;> omega))))) (HVO.out _ (by repeat (first | exact Below.refl _ _ | assumption | refine Below.drew ?_ | refine below_drewN ?_ _ | refine Below.alloc ?_ (by (try simp) <;> omega) _ | refine Below.setCell ?_ (by (try simp) <;> omega) _ | refine Below.trans ?_ (Below.mono (by assumption) (by (try simp) <;> omega))))) (fun b off n c e => by have h := HNV.out b off n c e; show b ≠ wc.heap.size + 1; omega) (fun b off n c e => by have h := HNO.out b off n c e; show b ≠ wc.heap.size + 1; omega) (by omega)).mono ?_; rintro e wB ⟨rfl, hB⟩; have bq : Below wc.heap.size wc wB := bq.trans (hB.mono (by show wc.heap.size ≤ wc.heap.size + 1; omega)); have zq := bq.size; clear hB))
        all_goals
          go_wp2_with fail
          exact bodyPost_ret (v := .tuple #[.bool (beginsE l o), .int .i64 0]) (by simp [results, Tryd.results41, go_sem]) rfl ⟨by rw [HE.out, HI.out], HG.out _ (by repeat (first | exact Below.refl _ _ | assumption | refine Below.drew ?_ | refine below_drewN ?_ _ | refine Below.alloc ?_ (by (try simp) <;> omega) _ | refine Below.setCell ?_ (by (try simp) <;> omega) _ | refine Below.trans ?_ (Below.mono (by assumption) (by (try simp) <;> omega))))⟩
      · have hq : ¬ (o.length : Int) < (l.length : Int) := by omega
        have HI : Hid (isIn l o = false) := show _ = _ by unfold isIn; rw [decide_eq_false hlt]; rfl
        go_wp2_with fail
        go_quiet ((first | (go_at_call 80; with_reducible exact quiet_left (lsMany_any (.slice a1 l.length c1) l _ (HVL.out _ (by repeat (first | exact Below.refl _ _ | assumption | refine Below.drew ?_ | refine below_drewN ?_ _ | refine Below.alloc ?_ (by (try simp) <;> omega) _ | refine Below.setCell ?_ (by (try simp) <;> omega) _ | refine Below.trans ?_ (Below.mono (by assumption) (by (try simp) <;> omega))))))) | (go_at_call 80; with_reducible exact quiet_left (lsMany_any (.slice a2 o.length c2) o _ (HVO.out _ (by repeat (first | exact Below.refl _ _ | assumption | refine Below.drew ?_ | refine below_drewN ?_ _ | refine Below.alloc ?_ (by (try simp) <;> omega) _ | refine Below.setCell ?_ (by (try simp) <;> omega) _ | refine Below.trans ?_ (Below.mono (by assumption) (by (try simp) <;> omega)))))))))
        go_wp2_with fail
        exact bodyPost_ret (v := .tuple #[.bool false, .int .i64 0]) (by simp [results, Tryd.results41, go_sem]) rfl ⟨by rw [HE.out, HI.out], HG.out _ (by repeat (first | exact Below.refl _ _ | assumption | refine Below.drew ?_ | refine below_drewN ?_ _ | refine Below.alloc ?_ (by (try simp) <;> omega) _ | refine Below.setCell ?_ (by (try simp) <;> omega) _ | refine Below.trans ?_ (Below.mono (by assumption) (by (try simp) <;> omega))))⟩
    · have HE : Hid (withinE s t = (false, nt)) := show _ = _ by rw [HP.out, if_neg (by simp), if_pos h1]
      have hq : (nt == 0) = false := by simp [h1]
      clear h1
      go_wp2_with fail
      exact bodyPost_ret (v := .tuple #[.bool false, .int .i64 nt]) (by simp [results, Tryd.results41, go_sem]) rfl ⟨by rw [HE.out], HB3.out⟩
  · have HE : Hid (withinE s t = (false, no)) := show _ = _ by rw [HP.out, if_pos h0]
    rw [if_neg h0]
    have hq : (no == 0) = false := by simp [h0]
    clear h0
    go_wp2_with fail
    exact bodyPost_ret (v := .tuple #[.bool false, .int .i64 no]) (by simp [results, Tryd.results41, go_sem]) rfl ⟨by rw [HE.out], HB3.out⟩
end Go.Proofs.YtohdgjmmekgcmaaDoor

/-
  path: the document's Split, byte by byte, in plain words.
-/
namespace Go.Proofs.YtohdgjmmekgcmaaDoor
open Go.RowKit Go.Shelf Go.Sort

theorem partsP_end (a : List UInt8) : partsP (a ++ [47]) = partsP a ++ [[]] := partsP_app a []
theorem partsP_push : ∀ (a : List UInt8) (o : List (List UInt8)) (p : List UInt8) (c : UInt8), c ≠ 47 → partsP a = o ++ [p] → partsP (a ++ [c]) = o ++ [p ++ [c]]
  | [], o, p, c, hc, h => by
    have h' : [[]] = o ++ [p] := h
    cases o with
    | nil =>
      simp only [List.nil_append, List.cons.injEq, and_true] at h'
      subst h'
      exact partsP_other c [] [] [] hc rfl
    | cons x o => simp at h'
  | d :: a, o, p, c, hc, h => by
    obtain ⟨x, t, e⟩ := partsP_cons a
    by_cases hd : d = 47
    · subst hd
      rw [partsP_slash] at h
      cases o with
      | nil =>
        rw [e] at h
        simp at h
      | cons y o =>
        simp only [List.cons_append, List.cons.injEq] at h
        obtain ⟨rfl, h⟩ := h
        rw [List.cons_append, partsP_slash, partsP_push a o p c hc h]
        rfl
    · rw [partsP_other d a x t hd e] at h
      cases o with
      | nil =>
        simp only [List.nil_append, List.cons.injEq] at h
        obtain ⟨rfl, rfl⟩ := h
        have := partsP_push a [] x c hc e
        exact partsP_other d (a ++ [c]) (x ++ [c]) [] hd this
      | cons y o =>
        simp only [List.cons_append, List.cons.injEq] at h
        obtain ⟨rfl, rfl⟩ := h
        have := partsP_push a (x :: o) p c hc e
        exact partsP_other d (a ++ [c]) x (o ++ [p ++ [c]]) hd this
/-- How far a text was gone through: so many bytes of it (one more: the end, too); parts that are whole; the part under way. -/
structure Scan (r : List UInt8) (j : Nat) (o : List (List UInt8)) (p : List UInt8) : Prop where
  full : [] ∉ o
  few : o.length ≤ 16
  short : p.length ≤ j
  at_ : (j ≤ r.length ∧ partsP (r.take j) = o ++ [p]) ∨ (j = r.length + 1 ∧ o = partsP r)
theorem Scan.start (r : List UInt8) : Scan r 0 [] [] := ⟨by simp, by decide, Nat.zero_le _, .inl ⟨Nat.zero_le _, rfl⟩⟩
theorem Scan.char {r : List UInt8} {j : Nat} {o : List (List UInt8)} {p : List UInt8} (h : Scan r j o p) (hj : j < r.length) {c : UInt8} (hc : r[j] = c) (h47 : c ≠ 47) : Scan r (j + 1) o (p ++ [c]) := by
  refine ⟨h.full, h.few, by have := h.short; simp; omega, .inl ⟨hj, ?_⟩⟩
  rcases h.at_ with ⟨_, e⟩ | ⟨e, _⟩
  · rw [List.take_succ_eq_append_getElem hj, hc]
    exact partsP_push _ _ _ _ h47 e
  · omega
theorem Scan.cut {r : List UInt8} {j : Nat} {o : List (List UInt8)} {p : List UInt8} (h : Scan r j o p) (hj : j < r.length) (hc : r[j] = 47) (hp : p ≠ []) (ho : o.length ≠ 16) : Scan r (j + 1) (o ++ [p]) [] := by
  refine ⟨?_, by have := h.few; simp; omega, Nat.zero_le _, .inl ⟨hj, ?_⟩⟩
  · intro hm
    rcases List.mem_append.1 hm with k | k
    · exact h.full k
    · exact hp (List.mem_singleton.1 k).symm
  · rcases h.at_ with ⟨_, e⟩ | ⟨e, _⟩
    · rw [List.take_succ_eq_append_getElem hj, hc, partsP_end, e]
    · omega
theorem Scan.end_ {r : List UInt8} {o : List (List UInt8)} {p : List UInt8} (h : Scan r r.length o p) (hp : p ≠ []) (ho : o.length ≠ 16) : Scan r (r.length + 1) (o ++ [p]) [] := by
  refine ⟨?_, by have := h.few; simp; omega, Nat.zero_le _, .inr ⟨rfl, ?_⟩⟩
  · intro hm
    rcases List.mem_append.1 hm with k | k
    · exact h.full k
    · exact hp (List.mem_singleton.1 k).symm
  · rcases h.at_ with ⟨_, e⟩ | ⟨e, _⟩
    · rw [List.take_length] at e; exact e.symm
    · omega
theorem Scan.bad {r : List UInt8} {j : Nat} {o : List (List UInt8)} {p : List UInt8} (h : Scan r j o p) (hj : j ≤ r.length) (hc : ∀ h : j < r.length, r[j] = 47) (hb : p = [] ∨ o.length = 16) (hr : r ≠ []) : splitE (47 :: r) = ([], 170) := by
  have key : ∃ t, partsP r = (o ++ [p]) ++ t := by
    rcases h.at_ with ⟨_, e⟩ | ⟨e, _⟩
    · by_cases hl : j < r.length
      · refine ⟨partsP (r.drop (j + 1)), ?_⟩
        rw [← e, ← partsP_app, ← hc hl, ← List.drop_eq_getElem_cons hl, List.take_append_drop]
      · refine ⟨[], ?_⟩
        rw [List.append_nil, ← e, List.take_of_length_le (by omega)]
    · omega
  obtain ⟨t, ht⟩ := key
  have hne : (47 : UInt8) :: r ≠ [47] := by simp [hr]
  unfold splitE
  rw [if_neg hne]
  rcases hb with rfl | hb
  · rw [if_neg]
    rintro ⟨-, h2⟩
    apply h2
    show [] ∈ partsP r
    rw [ht]
    simp
  · rw [List.tail_cons]
    split
    · unfold underE
      rw [if_pos (by rw [ht]; simp; omega)]
    · rfl
theorem Scan.done {r : List UInt8} {o : List (List UInt8)} {p : List UInt8} (h : Scan r (r.length + 1) o p) (hr : r ≠ []) : splitE (47 :: r) = if o.all rightN then (o, 0) else ([], 160) := by
  have e : o = partsP r := by
    rcases h.at_ with ⟨e, _⟩ | ⟨_, e⟩
    · omega
    · exact e
  have hf := h.full
  have hw := h.few
  rw [e] at hf hw
  unfold splitE
  rw [if_neg (show (47 : UInt8) :: r ≠ [47] by simp [hr]), if_pos ⟨rfl, hf⟩]
  unfold underE
  rw [List.tail_cons, if_neg (by omega), e]
theorem splitE_other (s : List UInt8) (h : s ≠ [47]) (h2 : s.head? ≠ some 47) : splitE s = ([], 170) := by
  unfold splitE
  rw [if_neg h, if_neg fun k => h2 k.1]
theorem str_push (p s : List UInt8) (i : Nat) (hi : i < s.length) : Value.string ((⟨p.toArray⟩ : ByteArray) ++ (⟨s.toArray⟩ : ByteArray).extract i (i + 1)) = encStr (p ++ [s[i]]) := by
  unfold encStr
  congr 1
  apply ByteArray.ext
  rw [ByteArray.data_append, ByteArray.data_extract]
  apply Array.ext'
  have : (s.drop i).take 1 = [s[i]] := by rw [List.drop_eq_getElem_cons hi]; rfl
  simp [List.extract_eq_take_drop, this]
set_option maxRecDepth 100000 in
set_option maxHeartbeats 8000000 in
theorem refSplit_mid (r : List UInt8) (hr : r ≠ []) (hs : r.length + 1 ≤ 1000) (w : World) :
    Calls Tryd.prog 33 #[encStr (47 :: r)] w fun e w' => ∃ u, e = .returned (.tuple #[u, .int .i64 (splitE (47 :: r)).2]) ∧ OwnT w' w.heap.size u (splitE (47 :: r)).1 ∧ Below w.heap.size w w' := by
  obtain ⟨i0, hi, hz0, hz1, hz2⟩ := info_parts infoStr
  have HI := Lib.hid hi
  have hq : ((47 : UInt8) :: r == [47]) = false := by simp [hr]
  have HR := Lib.hid hr
  clear hi hr
  obtain ⟨s, hsr⟩ : ∃ s, (47 : UInt8) :: r = s := ⟨_, rfl⟩
  have HSR := Lib.hid hsr
  have hn : s.length = r.length + 1 := by rw [← hsr]; rfl
  have h0z : ∀ h : 0 < (⟨s.toArray⟩ : ByteArray).size, ((⟨s.toArray⟩ : ByteArray)[0]'h).toNat = 47 := fun h => by subst hsr; rfl
  have hne : (s == []) = false := by rw [← hsr]; rfl
  rw [hsr] at hq ⊢
  clear hsr
  obtain ⟨N, hN⟩ : ∃ N, r.length = N := ⟨_, rfl⟩
  rw [hN] at hn hs
  have HN := Lib.hid hN
  have HNS := Lib.hid hn
  clear hN
  go_enter Tryd.func33, Tryd.ntmps33
  go_wp2
  clear h0z hne hq
  go_loopw [4, 5, 6] (fun v pv i wr => ∃ (j : Nat) (o : List (List UInt8)) (p : List UInt8), j ≤ N + 1 ∧ i = .int .i64 ((j : Int) + 1) ∧ pv = encStr p ∧ Hid (Scan r j o p) ∧ Hid (OwnT wr w.heap.size v o) ∧ Hid (Below w.heap.size w wr)) (fun _ _ i _ => N + 2 - (intOf i).toNat)
  case atStart => exact ⟨0, [], [], Nat.zero_le _, rfl, rfl, Lib.hid (Scan.start r), Lib.hid (ownT_nil _ _), Lib.hid (Below.refl _ _)⟩
  case round =>
    obtain ⟨j, o, p, hj, rfl, rfl, HS, HO, HB⟩ := hrel
    obtain ⟨va, vc, rfl⟩ := HO.out.txs.slice
    have hpl := HS.out.short
    have hol := HS.out.few
    by_cases hjl : j ≤ N
    · by_cases hlt : j < N
      · have hjr : j < r.length := by rw [HN.out]; exact hlt
        obtain ⟨z, hz⟩ : ∃ z : Nat, r[j].toNat = z := ⟨_, rfl⟩
        have hzz : ∀ h : j + 1 < (⟨s.toArray⟩ : ByteArray).size, ((⟨s.toArray⟩ : ByteArray)[j + 1]'h).toNat = z := fun h => by
          have := HSR.out
          subst this
          exact hz
        have q1 : (j : Int) + 1 < (s.length : Int) := by omega
        have q2 : (j : Int) + 1 ≤ (s.length : Int) := by omega
        by_cases h47 : r[j] = 47
        · have hc : ((z : Int) == 47) = true := by
            rw [h47] at hz
            rw [← hz]
            rfl
          clear hz
          -- CUT1
          by_cases hp : p = []
          · have HE := Lib.hid (HS.out.bad (Nat.le_of_lt hjr) (fun _ => h47) (.inl hp) HR.out)
            rw [HSR.out] at HE
            subst hp
            go_wp2_with fail
            refine bodyPost_ret (v := .tuple #[.slice none 0 0, .int .i64 170]) (by simp [results, Tryd.results33, go_sem]) rfl ?_
            rw [HE.out]
            exact ⟨_, rfl, ownT_nil _ _, HB.out⟩
          have hpe : (p == []) = false := by simp [hp]
          by_cases ho : o.length = 16
          · have HE := Lib.hid (HS.out.bad (Nat.le_of_lt hjr) (fun _ => h47) (.inr ho) HR.out)
            rw [HSR.out] at HE
            have hoe : ((o.length : Int) == 16) = true := by simp [ho]
            have HHO := Lib.hid ho
            clear hp ho
            go_wp2_with fail
            refine bodyPost_ret (v := .tuple #[.slice none 0 0, .int .i64 170]) (by simp [results, Tryd.results33, go_sem]) rfl ?_
            rw [HE.out]
            exact ⟨_, rfl, ownT_nil _ _, HB.out⟩
          have hoe : ((o.length : Int) == 16) = false := by simp; omega
          have HS2 : Hid (Scan r (j + 1) (o ++ [p]) []) := show Scan _ _ _ _ from HS.out.cut hjr h47 hp ho
          have b2 : Below wr.heap.size wr (wr.alloc (.cells #[encStr p] 9)) := (Below.refl _ _).alloc (Nat.le_refl _) _
          have HO2 := Lib.hid (HO.out.below b2)
          have HV2 := Lib.hid (vec_newL wr #[encStr p] 9 1 1 rfl)
          have HB2 : Hid (Below w.heap.size w (wr.alloc (.cells #[encStr p] 9))) := show Below _ _ _ from HB.out.trans (b2.mono HB.out.size)
          have hs2 := HB2.out.size
          clear hp ho b2
          go_wp2_with (at_builtin; refine park ?_)
          unfold Park
          refine wpList_append_vec rfl _ _ 65 rfl 9 i0 _ 1 16 Tryd.underlying65 HI.out hz0 hz1 hz2 rfl (by decide) w.heap.size _ _ o.length 1 _ _ rfl rfl (.inr HO2.out) HV2.out (one_strs [p]) (by omega) (by omega) hs2 ?_
          rintro v3 w3 g3 b3 ⟨-, -, g6⟩
          have HO3 : Hid (OwnT w3 w.heap.size v3 (o ++ [p])) := show World.ownsRow _ _ _ _ _ _ _ by
            have := g6 HO2.out
            rw [List.length_append, List.map_append]
            exact this
          have HB3 : Hid (Below w.heap.size w w3) := show Below _ _ _ from HB2.out.trans b3
          clear g3 b3 g6 hs2
          go_wp2_with fail
          go_roundw
          case rel => exact ⟨j + 1, o ++ [p], [], by omega, by simp, rfl, HS2, HO3, HB3⟩
          case measure => simp [intOf]; omega
          -- ENDCUT1
        · have hc : ((z : Int) == 47) = false := by
            simp only [beq_eq_false_iff_ne, ne_eq]
            intro h
            apply h47
            exact UInt8.toNat_inj.1 (by rw [hz]; show z = 47; omega)
          have HS2 := Lib.hid (HS.out.char hjr rfl h47)
          have HPU := Lib.hid (str_push p s (j + 1) (by omega))
          have HCJ : Hid (s[j + 1]'(by omega) = r[j]) := show _ = _ by have := HSR.out; subst this; rfl
          clear hz h47
          go_wp2_with fail
          go_roundw
          case rel => exact ⟨j + 1, o, p ++ [r[j]], by omega, by simp, by rw [HPU.out, HCJ.out], HS2, HO, HB⟩
          case measure => simp [intOf]; omega
      · have q1 : ¬ (j : Int) + 1 < (s.length : Int) := by omega
        have q2 : (j : Int) + 1 ≤ (s.length : Int) := by omega
        -- CUT2
        by_cases hp : p = []
        · have HE := Lib.hid (HS.out.bad (by rw [HN.out]; exact hjl) (fun h => by rw [HN.out] at h; omega) (.inl hp) HR.out)
          rw [HSR.out] at HE
          subst hp
          go_wp2_with fail
          refine bodyPost_ret (v := .tuple #[.slice none 0 0, .int .i64 170]) (by simp [results, Tryd.results33, go_sem]) rfl ?_
          rw [HE.out]
          exact ⟨_, rfl, ownT_nil _ _, HB.out⟩
        have hpe : (p == []) = false := by simp [hp]
        by_cases ho : o.length = 16
        · have HE := Lib.hid (HS.out.bad (by rw [HN.out]; exact hjl) (fun h => by rw [HN.out] at h; omega) (.inr ho) HR.out)
          rw [HSR.out] at HE
          have hoe : ((o.length : Int) == 16) = true := by simp [ho]
          have HHO := Lib.hid ho
          clear hp ho
          go_wp2_with fail
          refine bodyPost_ret (v := .tuple #[.slice none 0 0, .int .i64 170]) (by simp [results, Tryd.results33, go_sem]) rfl ?_
          rw [HE.out]
          exact ⟨_, rfl, ownT_nil _ _, HB.out⟩
        have hoe : ((o.length : Int) == 16) = false := by simp; omega
        have HS2 : Hid (Scan r (j + 1) (o ++ [p]) []) := show Scan _ _ _ _ from (by have e : j = r.length := (by rw [HN.out]; omega); have h := HS.out; rw [e] at h ⊢; exact h.end_ hp ho)
        have b2 : Below wr.heap.size wr (wr.alloc (.cells #[encStr p] 9)) := (Below.refl _ _).alloc (Nat.le_refl _) _
        have HO2 := Lib.hid (HO.out.below b2)
        have HV2 := Lib.hid (vec_newL wr #[encStr p] 9 1 1 rfl)
        have HB2 : Hid (Below w.heap.size w (wr.alloc (.cells #[encStr p] 9))) := show Below _ _ _ from HB.out.trans (b2.mono HB.out.size)
        have hs2 := HB2.out.size
        clear hp ho b2
        go_wp2_with (at_builtin; refine park ?_)
        unfold Park
        refine wpList_append_vec rfl _ _ 65 rfl 9 i0 _ 1 16 Tryd.underlying65 HI.out hz0 hz1 hz2 rfl (by decide) w.heap.size _ _ o.length 1 _ _ rfl rfl (.inr HO2.out) HV2.out (one_strs [p]) (by omega) (by omega) hs2 ?_
        rintro v3 w3 g3 b3 ⟨-, -, g6⟩
        have HO3 : Hid (OwnT w3 w.heap.size v3 (o ++ [p])) := show World.ownsRow _ _ _ _ _ _ _ by
          have := g6 HO2.out
          rw [List.length_append, List.map_append]
          exact this
        have HB3 : Hid (Below w.heap.size w w3) := show Below _ _ _ from HB2.out.trans b3
        clear g3 b3 g6 hs2
        go_wp2_with fail
        go_roundw
        case rel => exact ⟨j + 1, o ++ [p], [], by omega, by simp, rfl, HS2, HO3, HB3⟩
        case measure => simp [intOf]; omega
        -- ENDCUT2
    · have q2 : ¬ (j : Int) + 1 ≤ (s.length : Int) := by omega
      have HD : Hid (splitE s = if o.all rightN then (o, 0) else ([], 160)) := show _ = _ by
        have e : j = r.length + 1 := by rw [HN.out]; omega
        have h := HS.out
        rw [e] at h
        rw [← HSR.out]
        exact h.done HR.out
      have hvs := HO.out.txs.cell
      obtain ⟨a1, cap1, b1, o1, e1, -, ha1, hc1⟩ := hvs
      simp only [Value.slice.injEq] at e1
      obtain ⟨rfl, -, rfl⟩ := e1
      have HHO := Lib.hid HO.out
      have HCC := Lib.hid hc1
      obtain ⟨n, hno⟩ : ∃ n, o.length = n := ⟨_, rfl⟩
      rw [hno] at HCC ha1 hol
      have HNO := Lib.hid hno
      clear hc1
      go_wp2_with fail
      clear hno
      go_loopw [7] (fun i wl => ∃ k : Nat, k ≤ n ∧ i = .int .i64 (k : Nat) ∧ wl = wr ∧ Hid ((o.take k).all rightN = true)) (fun i _ => n - (intOf i).toNat)
      case atStart => exact ⟨0, Nat.zero_le _, rfl, rfl, Lib.hid rfl⟩
      case round =>
        obtain ⟨k, hk, rfl, rfl, HA⟩ := hrel
        by_cases hlt : k < n
        · obtain rfl := ha1 (by omega)
          have c1 := (HCC.out (by omega)).2 k hlt
          have hn' : (k : Int) < (n : Int) := by omega
          obtain ⟨x, hx⟩ : ∃ x, x = o[k]?.getD [] := ⟨_, rfl⟩
          rw [← hx] at c1
          have HX := Lib.hid (all_take_succ (by rw [HNO.out]; exact hlt) hx rightN)
          clear hx
          go_wp2_with fail
          refine (refRight6_any x _).mono ?_
          rintro e wq ⟨rfl, rfl⟩
          cases hrx : rightN x with
          | true =>
            have HA1 : Hid ((o.take (k + 1)).all rightN = true) := show _ = _ by rw [HX.out.1, HA.out, hrx]; rfl
            clear hrx
            go_wp2_with fail
            go_roundw
            case rel => exact ⟨k + 1, by omega, by go_num, by trivial, HA1⟩
            case measure => simp [intOf]; omega
          | false =>
            have HE : Hid (splitE s = ([], 160)) := show _ = _ by
              rw [HD.out, all_false_of_take (k := k + 1) (by rw [HX.out.1, hrx]; simp)]
              rfl
            clear hrx
            go_wp2_with fail
            refine bodyPost_ret (v := .tuple #[.slice none 0 0, .int .i64 160]) (by simp [results, Tryd.results33, go_sem]) rfl ?_
            rw [HE.out]
            exact ⟨_, rfl, ownT_nil _ _, HB.out⟩
        · obtain rfl : k = n := by omega
          have HE : Hid (splitE s = (o, 0)) := show _ = _ by
            have := HA.out
            rw [List.take_of_length_le (by rw [HNO.out]; exact Nat.le_refl _)] at this
            rw [HD.out, this]
            rfl
          go_wp2_with fail
          refine bodyPost_ret (v := .tuple #[.slice va k vc, .int .i64 0]) (by simp [results, Tryd.results33, go_sem]) rfl ?_
          rw [HE.out]
          refine ⟨_, rfl, ?_, HB.out⟩
          have h := HHO.out
          rw [HNO.out] at h
          exact h
set_option maxRecDepth 100000 in
set_option maxHeartbeats 4000000 in
theorem refSplit_any (s : List UInt8) (hs : s.length ≤ 1000) (w : World) :
    Calls Tryd.prog 33 #[encStr s] w fun e w' => ∃ u, e = .returned (.tuple #[u, .int .i64 (splitE s).2]) ∧ OwnT w' w.heap.size u (splitE s).1 ∧ Below w.heap.size w w' := by
  by_cases h0 : s = [47]
  · subst h0
    go_enter Tryd.func33, Tryd.ntmps33
    go_wp2
    refine bodyPost_ret (v := .tuple #[.slice none 0 0, .int .i64 0]) (by simp [results, Tryd.results33, go_sem]) rfl ?_
    exact ⟨_, rfl, ownT_nil _ _, Below.refl _ _⟩
  · have hq : (s == [47]) = false := by simp [h0]
    by_cases h1 : s.head? = some 47
    · obtain ⟨r, rfl⟩ : ∃ r, s = 47 :: r := by
        cases s with
        | nil => cases h1
        | cons c r => exact ⟨r, by rw [show c = 47 by simpa using h1]⟩
      have hr : r ≠ [] := fun e => h0 (by rw [e])
      exact refSplit_mid r hr (by simpa using hs) w
    · have HE := Lib.hid (splitE_other s h0 h1)
      cases s with
      | nil =>
        go_enter Tryd.func33, Tryd.ntmps33
        go_wp2
        refine bodyPost_ret (v := .tuple #[.slice none 0 0, .int .i64 170]) (by simp [results, Tryd.results33, go_sem]) rfl ?_
        rw [HE.out]
        exact ⟨_, rfl, ownT_nil _ _, Below.refl _ _⟩
      | cons c r =>
        have hc : c ≠ 47 := fun e => h1 (by rw [e]; rfl)
        obtain ⟨z, hz⟩ : ∃ z : Nat, c.toNat = z := ⟨_, rfl⟩
        have hz47 : ((z : Int) == 47) = false := by
          simp only [beq_eq_false_iff_ne, ne_eq]
          intro h
          apply hc
          have : c.toNat = 47 := by omega
          exact UInt8.toNat_inj.1 (by rw [this]; rfl)
        have hzz : ∀ h : 0 < (⟨(c :: r).toArray⟩ : ByteArray).size, ((⟨(c :: r).toArray⟩ : ByteArray)[0]'h).toNat = z := fun _ => hz
        clear hc h1 h0
        go_enter Tryd.func33, Tryd.ntmps33
        go_wp2
        refine bodyPost_ret (v := .tuple #[.slice none 0 0, .int .i64 170]) (by simp [results, Tryd.results33, go_sem]) rfl ?_
        rw [HE.out]
        exact ⟨_, rfl, ownT_nil _ _, Below.refl _ _⟩
end Go.Proofs.YtohdgjmmekgcmaaDoor

/-
  path: the document's Join, Parent, Within; num, fails.
-/
namespace Go.Proofs.YtohdgjmmekgcmaaDoor
open Go.RowKit Go.Shelf Go.Sort

theorem num7_any (n : Int) (w : World) : Calls Tryd.prog 36 #[.int .i64 n] w fun e w' => e = .returned (.int .i64 n) ∧ w = w' := by
  go_enter Tryd.func36, Tryd.ntmps36
  go_wp2
  go_ret
  exact ⟨rfl, rfl⟩
theorem str_cat (a b : List UInt8) : Value.string ((⟨a.toArray⟩ : ByteArray) ++ (⟨b.toArray⟩ : ByteArray)) = encStr (a ++ b) := by
  unfold encStr
  congr 1
theorem str_cat3 (f x : List UInt8) : Value.string ((⟨f.toArray⟩ : ByteArray) ++ (⟨#[47]⟩ : ByteArray) ++ (⟨x.toArray⟩ : ByteArray)) = encStr (f ++ [47] ++ x) := by
  unfold encStr
  congr 1
theorem joinE_160 {l : List (List UInt8)} (h1 : l.length ≤ 16) (h2 : l.all rightN = false) : joinE l = ([], 160) := by
  have e : underE l = ([], 160) := by
    unfold underE
    rw [if_neg (show ¬ 16 < l.length by omega), if_neg (by simp [h2])]
  unfold joinE
  rw [e]
  rfl
theorem flatP_take {l : List (List UInt8)} {k : Nat} (hk : k < l.length) {x : List UInt8} (hx : x = l[k]?.getD []) : flatP (l.take (k + 1)) = flatP (l.take k) ++ [47] ++ x := by
  rw [(all_take_succ hk hx rightN).2]
  unfold flatP
  simp
theorem underE_zero' {l : List (List UInt8)} (h1 : l.length ≤ 16) (h2 : l.all rightN = true) : underE l = (l, 0) := by
  unfold underE
  rw [if_neg (by omega), if_pos h2]
set_option maxRecDepth 100000 in
set_option maxHeartbeats 4000000 in
theorem refJoin_any (v : Value) (l : List (List UInt8)) (w : World) (hv : TxS w v l) :
    Calls Tryd.prog 40 #[v] w fun e w' => e = .returned (.tuple #[encStr (joinE l).1, .int .i64 (joinE l).2]) ∧ w = w' := by
  obtain ⟨a, cap, b, off, rfl, hlc, ha, hx⟩ := hv.cell
  have HX := Lib.hid hx
  clear hv hx
  by_cases h16 : 16 < l.length
  · have HJ : Hid (joinE l = ([], 170)) := show _ = _ by unfold joinE underE; rw [if_pos h16]; rfl
    have hq : (16 : Int) < (l.length : Int) := by omega
    clear h16
    go_enter Tryd.func40, Tryd.ntmps40
    go_wp2
    refine bodyPost_ret (v := .tuple #[encStr [], .int .i64 170]) (by simp [results, Tryd.results40, go_sem]) rfl ?_
    rw [HJ.out]
    exact ⟨rfl, rfl⟩
  · have hq : ¬ (16 : Int) < (l.length : Int) := by omega
    have hn16 : l.length ≤ 16 := by omega
    clear h16
    obtain ⟨n, hn⟩ : ∃ n, l.length = n := ⟨_, rfl⟩
    rw [hn] at hq hn16 hlc ha HX
    have HN := Lib.hid hn
    go_enter Tryd.func40, Tryd.ntmps40
    go_wp2
    clear hn
    go_loopw [4, 5] (fun sv i wr => ∃ k : Nat, k ≤ n ∧ i = .int .i64 (k : Nat) ∧ sv = encStr (flatP (l.take k)) ∧ Hid ((l.take k).all rightN = true) ∧ wr = w) (fun _ i _ => n - (intOf i).toNat)
    case atStart => exact ⟨0, Nat.zero_le _, rfl, rfl, Lib.hid rfl, rfl⟩
    case round =>
      obtain ⟨k, hk, rfl, rfl, HA, rfl⟩ := hrel
      have hfl : (flatP (l.take k)).length ≤ 656 := by
        have := flatP_length _ HA.out
        rw [List.length_take] at this
        omega
      by_cases hlt : k < n
      · obtain rfl := ha (by omega)
        have c1 := (HX.out (by omega)).2 k hlt
        have hn' : (k : Int) < (n : Int) := by omega
        obtain ⟨x, hx⟩ : ∃ x, x = l[k]?.getD [] := ⟨_, rfl⟩
        rw [← hx] at c1
        have HS := Lib.hid (all_take_succ (by rw [HN.out]; exact hlt) hx rightN)
        have HF := Lib.hid (flatP_take (by rw [HN.out]; exact hlt) hx)
        have HC2 := Lib.hid (str_cat3 (flatP (l.take k)) x)
        clear hx
        obtain ⟨f, hf⟩ : ∃ f, flatP (l.take k) = f := ⟨_, rfl⟩
        rw [hf] at hfl HF HC2 ⊢
        clear hf
        cases hrx : rightN x with
        | true =>
          have hxl := ((rightN_iff x).1 hrx).2.1
          have HA1 : Hid ((l.take (k + 1)).all rightN = true) := show _ = _ by rw [HS.out.1, HA.out, hrx]; rfl
          have HRX := Lib.hid hrx
          clear hrx
          go_wp2_with fail
          refine (refRight6_any x _).mono ?_
          rintro e wq ⟨rfl, rfl⟩
          rw [HRX.out]
          go_wp2_with fail
          go_roundw
          case rel => exact ⟨k + 1, by omega, by go_num, by rw [HF.out, ← HC2.out], HA1, by trivial⟩
          case measure => simp [intOf]; omega
        | false =>
          have HJ : Hid (joinE l = ([], 160)) := show _ = _ from joinE_160 (by rw [HN.out]; exact hn16) (all_false_of_take (k := k + 1) (by rw [HS.out.1, hrx]; simp))
          have HRX := Lib.hid hrx
          clear hrx
          go_wp2_with fail
          refine (refRight6_any x _).mono ?_
          rintro e wq ⟨rfl, rfl⟩
          rw [HRX.out]
          go_wp2_with fail
          refine bodyPost_ret (v := .tuple #[encStr [], .int .i64 160]) (by simp [results, Tryd.results40, go_sem]) rfl ?_
          rw [HJ.out]
          exact ⟨rfl, rfl⟩
      · obtain rfl : k = n := by omega
        have hT : l.take k = l := List.take_of_length_le (by rw [HN.out]; exact Nat.le_refl _)
        rw [hT] at HA hfl ⊢
        have HJ : Hid (joinE l = (pathOf l, 0)) := show _ = _ by
          unfold joinE
          rw [underE_zero' (by rw [HN.out]; exact hn16) HA.out, if_pos rfl]
        clear hT
        by_cases h0 : l = []
        · subst h0
          go_wp2_with fail
          refine bodyPost_ret (v := .tuple #[encStr [47], .int .i64 0]) (by simp [results, Tryd.results40, go_sem]) rfl ?_
          rw [HJ.out]
          exact ⟨rfl, rfl⟩
        · have HP : Hid (pathOf l = flatP l) := show _ = _ from if_neg h0
          have hfe : (flatP l == []) = false := by
            cases l with
            | nil => exact absurd rfl h0
            | cons x l => simp [flatP]
          obtain ⟨f, hf⟩ : ∃ f, flatP l = f := ⟨_, rfl⟩
          rw [hf] at hfl hfe HP ⊢
          clear hf h0
          go_wp2_with fail
          refine bodyPost_ret (v := .tuple #[encStr f, .int .i64 0]) (by simp [results, Tryd.results40, go_sem]) rfl ?_
          rw [HJ.out, HP.out]
          exact ⟨rfl, rfl⟩
end Go.Proofs.YtohdgjmmekgcmaaDoor

/-
  path: the iterator over beginnings.
-/
namespace Go.Proofs.YtohdgjmmekgcmaaDoor
open Go.RowKit Go.Shelf Go.Sort
attribute [local go_sem] Oper.semAt_some

theorem lsFirst_eq (a : Option Addr) (cap : Nat) (l : List (List UInt8)) (k : Nat) (hk : k ≤ l.length) (w : World) (hc : l.length ≤ cap) :
    Calls Tryd.prog 99 #[.slice a l.length cap, .int .i64 (k : Nat)] w fun e w' => e = .returned (.slice a k k) ∧ w = w' := by
  obtain ⟨i0, hi, hz0, hz1, hz2⟩ := info_parts infoStr
  have ht : Tryd.prog.underlying 131 = some (.slice (Tryd.prog.elem 131)) := by
    have he : Tryd.prog.elem 131 = 9 := by simp [Program.elem]
    rw [he]; exact infoLs
  have hr : ∀ w, (Instr.sliceAt 131 (.slice a l.length cap) none (some (.int .i64 (k : Nat))) (some (.int .i64 (k : Nat)))).run Tryd.prog w = .ok (.slice a k k) w := fun w => by
    have he : Tryd.prog.elem 131 = 9 := by simp [Program.elem]
    rw [run_sliceAt_slice w _ _ _ _ _ ht, run_slice_hm w _ a l.length cap ht .i64 .i64 (k : Int) (k : Int) (by omega) (by omega) (by omega), he]
    simp [sizeOf, typeInfo, hi, hz1, sliced, Addr.add, Result.andThen]
  clear hi ht
  go_enter Tryd.func99, Tryd.ntmps99
  go_wp2
  go_ret
  exact ⟨rfl, rfl⟩
theorem TxS.cut {W : World} {a : Option Addr} {cap : Nat} {l : List (List UInt8)} (h : TxS W (.slice a l.length cap) l) {k : Nat} (hk : k ≤ l.length) : TxS W (.slice a k k) (l.take k) := by
  obtain ⟨hl, a', c', e', hl', hc⟩ := h
  simp only [Value.slice.injEq] at e'
  obtain ⟨rfl, _, rfl⟩ := e'
  have e : (l.take k).length = k := by rw [List.length_take]; omega
  refine ⟨by simp, a, k, by rw [e], by rw [e]; exact Nat.le_refl _, fun h0 => ?_⟩
  rw [e] at h0
  obtain ⟨b, off, h1, h2, h3⟩ := hc (by omega)
  refine ⟨b, off, h1, h2, fun j y hj => h3 j y ?_⟩
  rw [List.map_take] at hj
  have hjk : j < k := by
    have := (List.getElem?_eq_some_iff.1 hj).1
    rw [List.length_take] at this; omega
  rwa [List.getElem?_take_of_lt hjk] at hj
/-- How many names the beginnings of a list have. -/
def upTo (l : List (List UInt8)) : List Nat := if l = [] then [] else List.range (l.length + 1)
theorem upTo_nil : upTo [] = [] := rfl
theorem upTo_take {l : List (List UInt8)} (h : l ≠ []) (k : Nat) (hk : k < l.length + 1) : (upTo l).take k ++ [k] = (upTo l).take (k + 1) := by
  unfold upTo
  rw [if_neg h, List.take_succ_eq_append_getElem (by simpa using hk)]
  simp
theorem upTo_all {l : List (List UInt8)} (h : l ≠ []) : (upTo l).take (l.length + 1) = upTo l := by
  unfold upTo
  rw [if_neg h, List.take_of_length_le (by simp)]
theorem lsBegin_any (v : Value) (l : List (List UInt8)) (w : World) (hv : TxS w v l) :
    Calls Tryd.prog 77 #[v] w fun e w' => e = .returned (.func (.func 101) #[] #[.pointer (some ⟨w.heap.size, 0, none⟩)]) ∧ w' = w.alloc (.cells #[v] 131) := by
  obtain ⟨a, c, rfl⟩ := hv.slice
  clear hv
  go_enter Tryd.func77, Tryd.ntmps77
  go_wp2
  go_ret
  exact ⟨rfl, rfl⟩
/-- What the iterator over beginnings hands out. -/
def encK (a : Option Addr) (k : Nat) : Array Value := #[.int .i64 (k : Nat), .slice a k k]
set_option maxRecDepth 100000 in
set_option maxHeartbeats 4000000 in
theorem beg_seq (n : Nat) (hn : 3 ≤ n) (H : Nat) (a : Option Addr) (cap : Nat) (l : List (List UInt8)) (hl : l.length ≤ 1000) (w : World) (hH : Boxed w H 131 (.slice a l.length cap)) (hv : TxS w (.slice a l.length cap) l) (p : Nat → Prop) (hp : p H) :
    SeqF p n Tryd.prog 101 #[.pointer (some ⟨H, 0, none⟩)] (encK a) (fun ys => ys = upTo l) (fun pre => pre <+: upTo l) w := fun lp J Jx W hW hJ hJx hY h0 => by
  have hHW : Boxed W H 131 (.slice a l.length cap) := (hW.block _ hH.lt).trans hH
  have c0 := hHW.cell
  have hcap : l.length ≤ cap := by
    obtain ⟨-, a', c', e', hc, -⟩ := hv
    simp only [Value.slice.injEq] at e'
    rw [e'.2.2]; exact hc
  have HV := Lib.hid (hv.below hW)
  have HHW := Lib.hid hHW
  have HY := Lib.hid hY
  have HJ := Lib.hid hJ
  have HJX := Lib.hid hJx
  clear hY hJ hJx hH hHW hv
  refine callsIn_of_wp Tryd.func101 rfl trivial ?_ rfl
  simp only [Tryd.ntmps101, List.size_toArray, List.length_cons, List.length_nil, Nat.reduceAdd, Nat.reduceSub, Array.replicate_succ, Array.replicate_zero, List.push_toArray, List.append_toArray, List.nil_append, List.cons_append]
  gi_wp2_with fail
  refine ⟨trivial, fun _ => by omega, ?_⟩
  refine (callsIn_wide.2 (lsRoot_any _ l _ HV.out)).mono ?_
  rintro e w1 ⟨rfl, rfl⟩
  by_cases hl0 : l = []
  · subst hl0
    rw [show decide (([] : List (List UInt8)) = []) = true from rfl]
    gi_wp2_with fail
    refine bodyPost_ret (results_none rfl _ _ _) rfl ?_
    exact ⟨⟨_, rfl⟩, .inl ⟨[], rfl, h0⟩⟩
  · have HD : Hid (decide (l = []) = false) := show _ = _ from decide_eq_false hl0
    have HL0 := Lib.hid hl0
    clear hl0
    rw [HD.out]
    gi_wp2_with fail
    gi_loopw [9] (fun i wr => ∃ k : Nat, k ≤ l.length + 1 ∧ i = .int .i64 (k : Nat) ∧ J ((upTo l).take k) (fun _ => False) wr ∧ Hid (Boxed wr H 131 (.slice a l.length cap)) ∧ W.heap.size ≤ wr.heap.size) (fun i _ => l.length + 1 - (intOf i).toNat)
    case atStart => exact ⟨0, Nat.zero_le _, rfl, h0, HHW, Nat.le_refl _⟩
    case round =>
      obtain ⟨k, hk, rfl, hJs, HB, zk⟩ := hrel
      by_cases hlt : k < l.length + 1
      · have hk' : (k : Int) < (l.length : Int) + 1 := by omega
        have HF := Lib.hid (upTo_take HL0.out k hlt)
        have d0 := HB.out.cell
        have hkl : k ≤ l.length := by omega
        clear c0
        gi_wp2_with fail
        refine ⟨trivial, fun _ => by omega, ?_⟩
        refine (callsIn_wide.2 (lsFirst_eq a cap l k hkl _ hcap)).mono ?_
        rintro e w1 ⟨rfl, rfl⟩
        obtain ⟨fn, tmps, assign, body, hy, hR⟩ := HY.out _ k _ wr hJs zk (fun q h => h.elim) (by rw [HF.out]; exact List.take_prefix _ _)
        rw [HF.out] at hR
        have HR := Lib.hid hR; clear hR
        unfold encK at hy
        gi_wp2_with fail
        refine ⟨fun _ => by omega, ?_⟩
        refine HR.out.mono ?_
        rintro e W3 ⟨hk3, ⟨rfl, hJ3⟩ | ⟨rfl, hJx3⟩⟩
        · have hB3 : Hid (Boxed W3 H 131 (.slice a l.length cap)) := show Boxed _ _ _ _ from (hk3.2 H (.inl hp) HB.out.lt).trans HB.out
          have z3 := hk3.1
          clear hy d0 hk3
          gi_wp2_with fail
          refine ⟨⟨k + 1, by omega, by go_num, hJ3, hB3, Nat.le_trans zk z3⟩, ?_⟩
          simp [intOf]
          omega
        · clear hy d0
          gi_wp2
          refine bodyPost_ret (results_none rfl _ _ _) rfl ?_
          exact ⟨⟨_, rfl⟩, .inr ⟨_, List.take_prefix _ _, hJx3⟩⟩
      · obtain rfl : k = l.length + 1 := by omega
        rw [upTo_all HL0.out] at hJs
        gi_wp2_with fail
        go_end0
        exact ⟨⟨_, rfl⟩, .inl ⟨_, rfl, hJs⟩⟩
end Go.Proofs.YtohdgjmmekgcmaaDoor
