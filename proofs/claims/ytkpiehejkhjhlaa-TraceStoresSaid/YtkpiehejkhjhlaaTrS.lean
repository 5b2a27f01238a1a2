/-
  trace: Stores, what it makes (written by gen_trs.py).
-/
import Derived.Test.YtkpiehejkhjhlaaTrR
namespace Go.Proofs.Ytkpiehejkhjhlaa
open Go.RowKit Go.Shelf Go.Maps

/-- A map's store of which the run is known. -/
theorem wpList_mapUpdate_eq {P : Program} {ops : Array Oper} {rest : List Oper} {op : Oper} {a : Act} {w w' : World} {Q : Exit → Act → World → Prop} (hgd : op.guard = none) (m k x : Operand) (ty : TypeId) (ho : op.op = .mapUpdate ty m k x)
    (mv kv xv : Value) (hm : a.eval m = mv) (hk : a.eval k = kv) (hx : a.eval x = xv) (hr : (Instr.mapUpdate ty mv kv xv).run P w = .ok () w') (h : wpList P ops Q rest (a.put op.dst undef) w') : wpList P ops Q (op :: rest) a w :=
  wpList_plain hgd fun _ hK => by
    unfold Oper.wp execOp
    simp only [ho, hm, hk, hx, hr, Sem.run_bind, Result.andThen_ok]
    exact hK _ _ h
set_option maxRecDepth 100000 in
set_option maxHeartbeats 4000000 in
theorem stores_any {v : Value} {ts : List Tch} (w : World) (hl : ts.length ≤ 90000) (hok : ∀ t ∈ ts, okT t) (hs : SlT w v ts) :
    Calls Try.prog 24 #[v] w fun e w' => ∃ p m u c, e = .returned (.func (.func 41) #[] #[.pointer (some ⟨p, 0, none⟩), .pointer (some ⟨m, 0, none⟩)]) ∧ StoresAt w' w.heap.size p m u c ts ∧ c ≤ 90000 ∧ Below w.heap.size w w' := by
  have HC := Lib.hid (fun W (hb : Below w.heap.size w W) => checkT_any W (by omega) (hs.below hb))
  obtain ⟨a, cap, rfl, -⟩ := id hs
  obtain ⟨N, hN⟩ : ∃ N, ts.length = N := ⟨_, rfl⟩
  have HOK := Lib.hid hok
  rw [hN] at hs hl HC ⊢
  have HAT := Lib.hid (hs.at_ hN)
  have HN := Lib.hid hN
  have HND := Lib.hid (addrsV_nodup ts)
  have HSO := Lib.hid (addrsV_sorted ts)
  have HMV := Lib.hid (mem_addrsV ts)
  obtain ⟨W0, hW0⟩ : ∃ W0, (w.alloc (.map #[] 0)).alloc (.cells #[.map (some w.heap.size)] 56) = W0 := ⟨_, rfl⟩
  have HI0 : Hid (StI w 0 (fun _ => none) W0) := show StI _ _ _ _ by
    rw [← hW0]
    exact ⟨(NumMap.new 30 .u64 w).below ((Below.refl _ _).alloc (Nat.le_refl _) _), by have h := Boxed.new (w.alloc (.map #[] 0)) 56 (.map (some w.heap.size)); rw [World.size_alloc] at h; exact h, (by repeat (first | exact Below.refl _ _ | assumption | refine Below.drew ?_ | refine below_drewN ?_ _ | refine Below.alloc ?_ (by (try simp) <;> omega) _ | refine Below.setCell ?_ (by (try simp) <;> omega) _ | refine Below.trans ?_ (Below.mono (by assumption) (by (try simp) <;> omega))))⟩
  have HW := Lib.hid hW0
  have hmk := run_makeMap (P := Try.prog) 56 w
  by_cases hc : checkT ts = 0
  · have HR := Lib.hid (check_right hc)
    have HEW : Hid (stAt ts N = wordsV ts) := show _ = _ by unfold wordsV; rw [if_pos hc, HN.out]
    rw [hc] at HC
    clear hs hok hN hW0 hc
    go_enter Try.func24, Try.ntmps24
    go_wp2_with fail
    clear hmk
    rw [HW.out]
    refine (HC.out W0 HI0.out.below).mono ?_
    rintro e w0 ⟨rfl, hb0⟩
    have HI1 : Hid (StI w 0 (stAt ts 0) w0) := show StI _ _ _ _ from HI0.out.turn hb0
    clear hb0
    go_wp2_with fail
    go_loopw [13] (fun i wr => ∃ k : Nat, k ≤ N ∧ i = .int .i64 (k : Nat) ∧ Hid (StI w k (stAt ts k) wr)) (fun i _ => N - (intOf i).toNat)
    case atStart => exact ⟨0, by omega, rfl, HI1⟩
    case round =>
      obtain ⟨k, hk, rfl, HI⟩ := hrel
      by_cases hlt : k < N
      · obtain ⟨b, off, t, ht, hmem, rfl, hat⟩ := HAT.out k hlt
        obtain ⟨c0, c1, c2⟩ := hat wr HI.out.below
        have k2 : (k : Int) < (N : Int) := by omega
        have HST : Hid (stAt ts (k + 1) = stStep (stAt ts k) t) := show _ = _ from stAt_succ ht
        obtain ⟨s, hs⟩ : ∃ s, stAt ts k = s := ⟨_, rfl⟩
        rw [hs] at HI HST
        have HO := Lib.hid (HOK.out t hmem)
        obtain ⟨x, y, z⟩ := t
        simp only at c0 c1 c2
        obtain ⟨W7, hW7⟩ : ∃ W7, wr.alloc (.cells #[.int .i64 x, .int .i64 y, .int .u64 z] 32) = W7 := ⟨_, rfl⟩
        have b7 : Below wr.heap.size wr W7 := by rw [← hW7]; exact (by repeat (first | exact Below.refl _ _ | assumption | refine Below.drew ?_ | refine below_drewN ?_ _ | refine Below.alloc ?_ (by (try simp) <;> omega) _ | refine Below.setCell ?_ (by (try simp) <;> omega) _ | refine Below.trans ?_ (Below.mono (by assumption) (by (try simp) <;> omega))))
        have hX : Tri W7 wr.heap.size 32 (.int .i64 x) (.int .i64 y) (.int .u64 z) := by rw [← hW7]; exact Tri.new _ _ _ _ _
        have HI7 := Lib.hid (HI.out.turn b7)
        have HX := Lib.hid hX
        have HW7 := Lib.hid hW7
        have HSK := Lib.hid (storesT_any ⟨x, y, z⟩ W7)
        clear ht hmem hat hs b7 hX hW7
        go_wp2_with fail
        rw [HW7.out]
        refine HSK.out.mono ?_
        rintro e w8 ⟨rfl, hb8⟩
        have HI8 := Lib.hid (HI7.out.turn hb8)
        have HX8 := Lib.hid (HX.out.below hb8 HX.out.lt)
        clear hb8
        by_cases h2 : x = 2
        · have hq' : decide ((⟨x, y, z⟩ : Tch).kind = 2) = true := by simp [h2]
          have hq2 : storesL ⟨x, y, z⟩ = true := hq'
          have HS1 : Hid (stAt ts (k + 1) = upd s y z) := show _ = _ by rw [HST.out]; unfold stStep; rw [hq2, if_pos rfl]
          obtain ⟨d0, d1, d2, -⟩ := HX8.out.cells
          have d3 := HI8.out.box.cell
          obtain ⟨wD, hrun, hm, hg⟩ := HI8.out.map.store (t := 56) Try.underlying56 Try.underlying30 (by omega) (y := y) (z := z) HO.out.1 (by have := HO.out.2; simp [Lit.wf, IntKind.min, IntKind.max, IntKind.signed, IntKind.bits]; simp only at this; omega)
          have HID := Lib.hid (HI8.out.stored hm hg)
          clear hm hg hq2
          go_wp2_with (at_mapUpdate; refine park ?_)
          unfold Park
          refine wpList_mapUpdate_eq rfl _ _ _ 56 rfl _ _ _ rfl rfl rfl hrun ?_
          clear hrun
          go_wp2_with fail
          go_roundw
          case rel => exact ⟨k + 1, by omega, by go_num, by rw [HS1.out]; exact HID⟩
          case measure => simp [intOf]; omega
        · have hq' : decide ((⟨x, y, z⟩ : Tch).kind = 2) = false := by simp [h2]
          have hq2 : storesL ⟨x, y, z⟩ = false := hq'
          have HS1 : Hid (stAt ts (k + 1) = s) := show _ = _ by rw [HST.out]; unfold stStep; rw [hq2]; rfl
          clear hq2
          go_wp2_with fail
          go_roundw
          case rel => exact ⟨k + 1, by omega, by go_num, by rw [HS1.out]; exact Lib.hid (HI8.out.mono (by omega))⟩
          case measure => simp [intOf]; omega
      · obtain rfl : k = N := by omega
        have k2 : ¬ (k : Int) < (k : Int) := by omega
        have HEQ := HEW
        have hbx := HI.out.box.cell
        obtain ⟨D, h1, h2⟩ := HI.out.map
        have hp := perm_keys h1 HND.out (fun x => by rw [HMV.out x, (h2 x).1, HEQ.out])
        have hsz := h1.size_le
        have HRI := Lib.hid (risingB_any w.heap.size k D (plainElem Try.prog 30) wr h1 (by unfold maxLen; omega) (by omega))
        have HP := Lib.hid hp
        clear h1 h2 hp hsz
        go_wp2_with fail
        refine HRI.out.mono ?_
        rintro e w1 ⟨u, ss, rfl, hpe, hrow, -, hb1⟩
        have hsl := own_slice2 hrow
        have e1 : ss.mergeSort leI = (addrsV ts).map (fun k : Nat => (k : Int)) := sorted_eq (hpe.trans HP.out.symm) HSO.out
        have e2 : ss.length = (addrsV ts).length := by
          have := (hpe.trans HP.out.symm).length_eq
          rw [this, List.length_map]
        obtain ⟨ua, uc, rfl⟩ := hsl
        rw [show (fun x y : Int => decide (x ≤ y)) = leI from rfl, e1, vals_int, e2] at hrow
        rw [e2]
        obtain ⟨M, hM⟩ : ∃ M, (addrsV ts).length = M := ⟨_, rfl⟩
        have HMM := Lib.hid hM
        rw [hM] at hrow ⊢
        have HRW := Lib.hid hrow
        have HI1 := Lib.hid (HI.out.turn hb1)
        have HB1 := Lib.hid hb1
        clear hrow hb1 e1 hpe e2 hM
        go_wp2_with fail
        go_ret
        have bx : Below w1.heap.size w1 (w1.alloc (.cells #[.slice ua M uc] 24)) := (Below.refl _ _).alloc (Nat.le_refl _) _
        have h3 := HI1.out.turn bx
        have h4 := HI.out.below.size
        refine ⟨_, _, _, k, rfl, ⟨?_, Boxed.new w1 24 _, ?_, ?_, h3.box, by omega⟩, by omega, h3.below⟩
        · rw [HMM.out]
          exact own_low (World.ownsRow.alloc HRW.out _) h4
        · have := HI1.out.below.size; omega
        · rw [← HEQ.out]; exact h3.map
  · have HEQ : Hid ((fun _ => none) = wordsV ts) := show _ = _ by unfold wordsV; rw [if_neg hc]
    obtain ⟨q, hq⟩ : ∃ q, checkT ts = q := ⟨_, rfl⟩
    rw [hq] at HC hc
    have hq2 : (q == 0) = false := by simp [hc]
    clear hs hok hN hW0 hc hq
    go_enter Try.func24, Try.ntmps24
    go_wp2_with fail
    clear hmk
    rw [HW.out]
    refine (HC.out W0 HI0.out.below).mono ?_
    rintro e wr ⟨rfl, hb0⟩
    have HI : Hid (StI w 0 (fun _ => none) wr) := show StI _ _ _ _ from HI0.out.turn hb0
    clear hb0
    have hbx := HI.out.box.cell
    obtain ⟨D, h1, h2⟩ := HI.out.map
    have hp := perm_keys h1 HND.out (fun x => by rw [HMV.out x, (h2 x).1, HEQ.out])
    have hsz := h1.size_le
    have HRI := Lib.hid (risingB_any w.heap.size 0 D (plainElem Try.prog 30) wr h1 (by unfold maxLen; omega) (by omega))
    have HP := Lib.hid hp
    clear h1 h2 hp hsz
    go_wp2_with fail
    refine HRI.out.mono ?_
    rintro e w1 ⟨u, ss, rfl, hpe, hrow, -, hb1⟩
    have hsl := own_slice2 hrow
    have e1 : ss.mergeSort leI = (addrsV ts).map (fun k : Nat => (k : Int)) := sorted_eq (hpe.trans HP.out.symm) HSO.out
    have e2 : ss.length = (addrsV ts).length := by
      have := (hpe.trans HP.out.symm).length_eq
      rw [this, List.length_map]
    obtain ⟨ua, uc, rfl⟩ := hsl
    rw [show (fun x y : Int => decide (x ≤ y)) = leI from rfl, e1, vals_int, e2] at hrow
    rw [e2]
    obtain ⟨M, hM⟩ : ∃ M, (addrsV ts).length = M := ⟨_, rfl⟩
    have HMM := Lib.hid hM
    rw [hM] at hrow ⊢
    have HRW := Lib.hid hrow
    have HI1 := Lib.hid (HI.out.turn hb1)
    have HB1 := Lib.hid hb1
    clear hrow hb1 e1 hpe e2 hM
    go_wp2_with fail
    go_ret
    have bx : Below w1.heap.size w1 (w1.alloc (.cells #[.slice ua M uc] 24)) := (Below.refl _ _).alloc (Nat.le_refl _) _
    have h3 := HI1.out.turn bx
    have h4 := HI.out.below.size
    refine ⟨_, _, _, 0, rfl, ⟨?_, Boxed.new w1 24 _, ?_, ?_, h3.box, by omega⟩, by omega, h3.below⟩
    · rw [HMM.out]
      exact own_low (World.ownsRow.alloc HRW.out _) h4
    · have := HI1.out.below.size; omega
    · rw [← HEQ.out]; exact h3.map
end Go.Proofs.Ytkpiehejkhjhlaa
