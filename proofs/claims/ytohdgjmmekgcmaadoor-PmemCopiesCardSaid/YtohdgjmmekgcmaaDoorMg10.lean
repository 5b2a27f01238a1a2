/-
  Texts PnD to PnI, as one.
-/
import Derived.Test.YtohdgjmmekgcmaaDoorMg9
/-
  The document's device: Load.
-/
namespace Go.Proofs.YtohdgjmmekgcmaaDoor
open Go.RowKit Go.Shelf

theorem refLoad_any {F : Nat → Prop} {S T n cS cT : Nat} {q : Value} {d : Dv} (i : Int) (hi1 : -9223372036854775808 ≤ i) (hi2 : i ≤ 9223372036854775807) (w : World) (h : RefV w F S T n cS cT q d) :
    Calls Tryd.prog 45 #[.agg (refA S T n cS cT q), .int .i64 i] w fun e w' => e = .returned (.tuple #[.int .u64 (d.load n i), .int .i64 (errR (inR (n * 8) i))]) ∧ Below w.heap.size w w' := by
  obtain ⟨a, c, rfl⟩ := h.waits.slice_n
  have HT := Lib.hid (there_any i hi1 hi2 (w.alloc (.cells (refA S T n cS cT (.slice a d.waits.length c)) 36)) h.most (.slice (some ⟨S, 0, none⟩) n cS) (.slice (some ⟨T, 0, none⟩) n cT) (.slice a d.waits.length c) _ rfl)
  have H := Lib.hid h
  have hm := h.most
  clear h
  cases hr : inR (n * 8) i with
  | false =>
    have HL : Hid (d.load n i = 0) := show _ = _ by unfold Dv.load; rw [hr]; rfl
    rw [hr] at HT
    go_enter Tryd.func45, Tryd.ntmps45
    go_wp2_with fail
    refine HT.out.mono ?_
    rintro e w1 ⟨rfl, hb⟩
    have z1 := hb.size
    go_wp2_with fail
    go_ret2
    exact ⟨by rw [HL.out]; rfl, (by repeat (first | exact Below.refl _ _ | assumption | refine Below.drew ?_ | refine below_drewN ?_ _ | refine Below.alloc ?_ (by (try simp) <;> omega) _ | refine Below.setCell ?_ (by (try simp) <;> omega) _ | refine Below.trans ?_ (Below.mono (by assumption) (by (try simp) <;> omega))))⟩
  | true =>
    have hr' := inR_iff.1 hr
    obtain ⟨j, rfl⟩ := Int.eq_ofNat_of_zero_le hr'.1
    have hj : j < n * 8 := by omega
    have hc := H.out.seen.cellAt j hj
    have HL : Hid (d.load n (j : Int) = d.seen[j]?.getD 0) := show _ = _ by unfold Dv.load; rw [hr]; rfl
    rw [hr] at HT
    go_enter Tryd.func45, Tryd.ntmps45
    go_wp2_with fail
    refine HT.out.mono ?_
    rintro e w1 ⟨rfl, hb⟩
    have z1 := hb.size
    simp only [World.size_alloc] at z1
    have c0 : w1.cell? ⟨w.heap.size, 0, none⟩ = some (.slice (some ⟨S, 0, none⟩) n cS) := (cell_of_row w1 w.heap.size 0 _ _ _ ((hb.block _ (by simp)).trans (World.alloc_heap_new _ _))).trans rfl
    have b1 : Below w.heap.size w w1 := (by repeat (first | exact Below.refl _ _ | assumption | refine Below.drew ?_ | refine below_drewN ?_ _ | refine Below.alloc ?_ (by (try simp) <;> omega) _ | refine Below.setCell ?_ (by (try simp) <;> omega) _ | refine Below.trans ?_ (Below.mono (by assumption) (by (try simp) <;> omega))))
    have cw := row_word (H.out.below b1).seen (j / 8 * 8 + j % 8) (by omega)
    rw [show j / 8 * 8 + j % 8 = j by omega] at cw
    have hjj : j / 8 * 8 + j % 8 = j := by omega
    go_wp2_with fail
    go_ret2
    exact ⟨by rw [HL.out]; rfl, b1⟩
end Go.Proofs.YtohdgjmmekgcmaaDoor

/-
  The document's device: with.
-/
namespace Go.Proofs.YtohdgjmmekgcmaaDoor
open Go.RowKit Go.Shelf

set_option maxRecDepth 100000 in
theorem refWith_any {S n cS : Nat} {us : List Int} (j : Nat) (hj : j < n) (L : List Int) (hL : L.length = 8) (w : World) (hn : n ≤ 1024) (hS : w.ownsRow 0 48 8 (.slice (some ⟨S, 0, none⟩) n cS) n (vals us)) :
    Calls Tryd.prog 84 #[.slice (some ⟨S, 0, none⟩) n cS, .int .i64 (j : Nat), .agg (vals L).toArray] w fun e w' => ∃ S' c', e = .returned (.slice (some ⟨S', 0, none⟩) n c') ∧ w'.ownsRow 0 48 8 (.slice (some ⟨S', 0, none⟩) n c') n (vals (putLine us j L)) ∧ w.heap.size ≤ S' ∧ Below w.heap.size w w' := by
  obtain ⟨i0, hi, hz0, hz1, hz2⟩ := info_parts infoA
  have hinfo : (Tryd.prog.info? 48).map (·.size) = some (vals L).toArray.size := by rw [List.size_toArray, vals_length, hL]; kernel_rfl
  have hb1 : Below w.heap.size w (w.alloc (.cells (vals L).toArray 48)) := (Below.refl _ _).alloc (Nat.le_refl _) _
  have HN := Lib.hid (row_news (own_keeps hS fun hl => hb1.block S hl))
  have hbx : (w.alloc (.cells (vals L).toArray 48)).heap[w.heap.size]? = some (.cells (vals L).toArray 48 (0, 0)) := World.alloc_heap_new w _
  have HINFO := Lib.hid hinfo
  obtain ⟨X, hX⟩ : ∃ X, (vals L).toArray = X := ⟨_, rfl⟩
  have HST := Lib.hid (fun (W : World) (g c : Nat) (h : W.ownsRow 0 48 8 (.slice (some ⟨g, 0, none⟩) n c) n (vals us)) => store_line (t := 48) (by kernel_rfl) h j hj hL)
  rw [hX] at hb1 HN hbx HST HINFO ⊢
  have HBX := Lib.hid hbx
  have HL := Lib.hid hL
  clear hX hS hinfo hbx hL
  have h0 : 0 < n := by omega
  have hjI : (j : Int) < (n : Int) := by omega
  go_enter Tryd.func84, Tryd.ntmps84
  go_wp2_with (at_builtin; refine park ?_)
  unfold Park
  refine wpList_append_V rfl _ _ 33 rfl 48 i0 (.agg zero8) 8 64 Tryd.underlying33 hi hz0 hz1 hz2 rfl (by decide) _ _ _ rfl (.inr (World.ownsRow_nil _ _ _ _)) ⟨S, 0, none⟩ n cS rfl h0 (vals us) HN.out.1 HN.out.2 (vals_one _) (by omega) (by omega) ?_
  intro v2 w2 g2 t2 o2
  have hO := o2 (fun _ => False) (.inr fun g hg => by cases hg)
  have hB12 : Below (w.heap.size + 1) (w.alloc (.cells X 48)) w2 := Turn.below (t2.mono (q' := fun _ => False) fun k hk => by cases hk.1) (fun _ h => h.elim) (by simp)
  have hB2 : Below w.heap.size w w2 := hb1.trans (hB12.mono (by omega))
  rw [Nat.zero_add, List.nil_append] at g2
  obtain ⟨b, c', rfl⟩ := g2.slice
  obtain ⟨S', rfl, hr⟩ := g2.row h0
  have hS' : w.heap.size + 1 ≤ S' := by
    rcases hO with ⟨ad, e⟩ | h
    · simp only [Value.slice.injEq] at e; omega
    · rcases h S' rfl with h | h
      · exact h.elim
      · have := h.1; simp only [World.size_alloc] at this; omega
  have HLX := Lib.hid (load_blk Tryd.underlying48 rfl HINFO.out ((hB12.block _ (by omega)).trans HBX.out))
  have HSX := Lib.hid (HST.out w2 S' c' hr)
  have HPUT := Lib.hid (row_putLine hr j hj L HL.out)
  have HB := Lib.hid hB2
  clear g2 t2 o2 hr hO hB2 hb1 hB12
  go_wp2_with (first | (refine wpList_load_eq rfl 48 _ rfl _ _ rfl HLX.out ?_) | (refine wpList_store_eq rfl 48 _ _ rfl _ _ rfl rfl HSX.out ?_))
  go_ret
  exact ⟨S', c', rfl, HPUT.out.1, by omega, HB.out.trans (Turn.below HPUT.out.2 (fun k hk => by subst hk; omega) HB.out.size)⟩
end Go.Proofs.YtohdgjmmekgcmaaDoor

/-
  The document's device: without.
-/
namespace Go.Proofs.YtohdgjmmekgcmaaDoor
open Go.RowKit Go.Shelf

theorem wait_cells {W : World} {e : TypeId} {g n c : Nat} {l : List (Nat × List Int)} (h : W.ownsRow 0 e 9 (.slice (some ⟨g, 0, none⟩) n c) n (cellsW l)) (hl : ∀ x ∈ l, x.2.length = 8) (j : Nat) (hj : j < l.length) :
    W.cell? ⟨g, j * 9, none⟩ = some (.int .i64 ((ithW l j).1 : Nat)) ∧ W.rangeAt g (j * 9 + 1) (vals (ithW l j).2) := by
  have hr := row_range h (j * 9) 9
  rw [cellsW_cut l hl j hj] at hr
  refine ⟨hr 0 _ rfl, fun k v hv => ?_⟩
  have := hr (k + 1) v (by rw [List.getElem?_cons_succ]; exact hv)
  rw [show j * 9 + 1 + k = j * 9 + (k + 1) by omega]
  exact this
theorem slice_refW (x : Nat × List Int) (h : x.2.length = 8) (W : World) : (Instr.buildSlice 34 1 #[(0, .agg (waitA x))]).run Tryd.prog W = .ok (.slice (some ⟨W.heap.size, 0, none⟩) 1 1) (W.alloc (.cells (waitA x) 50)) := by
  obtain ⟨i, L⟩ := x
  obtain ⟨a, b, c, d, e, f, g, k, rfl⟩ := list8 h
  kernel_rfl
theorem wpList_slice_eq {P : Program} {w w' : World} {ops : Array Oper} {rest : List Oper} {o : Oper} {a : Act} {Q : Exit → Act → World → Prop} (hgd : o.guard = none) (ty : TypeId) (x : Operand)
    (ho : o.op = .buildSlice ty 1 #[(0, x)]) (u r : Value) (hx : a.eval x = u) (hr : (Instr.buildSlice ty 1 #[(0, u)]).run P w = .ok r w') (h : wpList P ops Q rest (a.put o.dst r) w') : wpList P ops Q (o :: rest) a w :=
  wpList_plain hgd fun K hK => by
    unfold Oper.wp execOp
    simp only [ho, List.map_toArray, List.map_cons, List.map_nil, hx, Sem.run_bind, hr, Result.andThen_ok]
    exact hK _ _ h
theorem infoV : (Tryd.prog.info? 50).map (fun i => (i.zero, i.size, i.bytes)) = some (some (.agg zero9), 9, 72) := by kernel_rfl
set_option maxRecDepth 100000 in
set_option maxHeartbeats 400000 in
theorem without_any {F : Nat → Prop} {S T n cS cT : Nat} {q : Value} {d : Dv} (i : Int) (w : World) (h : RefV w F S T n cS cT q d) :
    Calls Tryd.prog 86 #[.agg (refA S T n cS cT q), .int .i64 i] w fun e w' => ∃ q', e = .returned q' ∧ GrowV w' 50 9 q' (keepW d.waits i).length (cellsW (keepW d.waits i)) ∧ OwnIn (fun k => w.heap.size ≤ k ∧ k < w'.heap.size) q' ∧ Below w.heap.size w w' := by
  obtain ⟨i0, hi, hz0, hz1, hz2⟩ := info_parts infoV
  obtain ⟨a, c, rfl⟩ := h.waits.slice_n
  have b0 : Below w.heap.size w (w.alloc (.cells (refA S T n cS cT (.slice a d.waits.length c)) 36)) := (Below.refl _ _).alloc (Nat.le_refl _) _
  have H := Lib.hid (h.below b0)
  have HBX := Lib.hid (World.alloc_heap_new w (.cells (refA S T n cS cT (.slice a d.waits.length c)) 36))
  obtain ⟨N, hN⟩ : ∃ N, d.waits.length = N := ⟨_, rfl⟩
  have HN := Lib.hid hN
  rw [hN] at b0 H HBX ⊢
  have hm : N ≤ 1024 := by have := h.ok.few; have := h.most; omega
  have HB0 := Lib.hid b0
  clear h hN b0
  obtain ⟨W0, hW0⟩ : ∃ W0, w.alloc (.cells (refA S T n cS cT (.slice a N c)) 36) = W0 := ⟨_, rfl⟩
  have HSZ : Hid (W0.heap.size = w.heap.size + 1) := show _ = _ by rw [← hW0]; simp
  go_enter Tryd.func86, Tryd.ntmps86
  go_wp2_with fail
  rw [hW0] at H HBX HB0
  clear hW0
  go_loopw [5, 6] (fun o i' wr => ∃ k m : Nat, k ≤ N ∧ m ≤ k ∧ i' = .int .i64 (k : Nat) ∧ Hid (m = (keepW (d.waits.take k) i).length) ∧ GrowV wr 50 9 o m (cellsW (keepW (d.waits.take k) i)) ∧ OwnIn (fun k => W0.heap.size ≤ k ∧ k < wr.heap.size) o ∧ Hid (Below W0.heap.size W0 wr)) (fun _ i' _ => N - (intOf i').toNat)
  case atStart => exact ⟨0, 0, by omega, by omega, rfl, (show 0 = _ from rfl), .inr (World.ownsRow_nil _ _ _ _), .inr (fun g hg => by cases hg), Lib.hid (Below.refl _ _)⟩
  case round =>
    obtain ⟨k, m, hk, hmk, rfl, HM, hG, hO, HB⟩ := hrel
    have zb := HB.out.size
    have hsz := HSZ.out
    have c2 : wr.cell? ⟨w.heap.size, 2, none⟩ = some (.slice a N c) := (cell_of_row wr w.heap.size 2 _ _ _ ((HB.out.block _ (by omega)).trans HBX.out)).trans rfl
    obtain ⟨oa, oc, rfl⟩ := hG.slice_n
    have HG := Lib.hid hG
    have HO := Lib.hid hO
    clear hG hO
    by_cases hlt : k < N
    · have hkl : k < d.waits.length := by rw [HN.out]; exact hlt
      have hD := H.out.below HB.out
      have hDW := hD.waits
      rw [HN.out] at hDW
      obtain ⟨g, rfl, hr⟩ := hDW.row (by omega)
      have hx8 : ∀ x ∈ d.waits, x.2.length = 8 := fun x hx => (H.out.ok.waits x hx).2
      have hwc := (wait_cells hr hx8 k hkl).1
      have HLD := Lib.hid (load_wait Tryd.underlying50 rfl (by kernel_rfl) hr hx8 k hkl)
      have HTK := Lib.hid (take_snoc d.waits k hkl)
      have hxx : (d.waits[k]?.getD (0, [])).2.length = 8 := by rw [List.getElem?_eq_getElem hkl]; exact hx8 _ (List.getElem_mem hkl)
      rw [show ithW d.waits k = d.waits[k]?.getD (0, []) from rfl] at hwc
      obtain ⟨x, hx⟩ : ∃ x, d.waits[k]?.getD (0, []) = x := ⟨_, rfl⟩
      rw [hx] at hwc HLD HTK hxx
      have HSL := Lib.hid (slice_refW x hxx wr)
      have HXL := Lib.hid hxx
      have HC := Lib.hid (show (cellsW [x]).length = 1 * 9 ∧ ∀ j y, (cellsW [x])[j]? = some y → (wr.alloc (.cells (waitA x) 50)).cell? ((⟨wr.heap.size, 0, none⟩ : Addr).add j) = some y from
        ⟨cellsW_length [x] (by simpa using HXL.out), fun j y hy => by
          rw [Addr.add_mid, Nat.zero_add, cell_of_row _ wr.heap.size j _ _ _ (World.alloc_heap_new wr _), ← hy, cellsW_cons]
          simp [cellsW]⟩)
      obtain ⟨X, hX⟩ : ∃ X, waitA x = X := ⟨_, rfl⟩
      rw [hX] at HLD HSL HC
      clear hX
      obtain ⟨z, hz⟩ : ∃ z, x.1 = z := ⟨_, rfl⟩
      rw [hz] at hwc
      have HZ := Lib.hid hz
      have k2 : (k : Int) < (N : Int) := by omega
      clear hr hx hxx hz hx8 hD hkl hDW
      by_cases hne : (z : Int) = i
      · have HE : Hid (isAt i x = true) := show _ = _ by unfold isAt; rw [HZ.out]; exact decide_eq_true hne
        have hb : ((z : Int) != i) = false := by simp [hne]
        go_wp2_with fail
        go_roundw
        case rel =>
          refine ⟨k + 1, m, by omega, by omega, by go_num, ?_, ?_, HO.out, HB⟩
          · show m = _
            rw [HTK.out, keepW_snoc, HE.out, if_pos rfl]
            exact HM.out
          · rw [HTK.out, keepW_snoc, HE.out, if_pos rfl]
            exact HG.out
        case measure => simp [intOf]; omega
      · have HE : Hid (isAt i x = false) := show _ = _ by unfold isAt; rw [HZ.out]; exact decide_eq_false hne
        have hb : ((z : Int) != i) = true := bne_iff_ne.2 hne
        go_wp2_with (first | (refine wpList_load_eq rfl 50 _ rfl _ _ rfl HLD.out ?_) | (refine wpList_slice_eq rfl 34 _ rfl (.agg X) _ (by rfl) HSL.out ?_) | (at_builtin; refine park ?_))
        unfold Park
        refine wpList_append_V rfl _ _ 34 rfl 50 i0 (.agg zero9) 9 72 Tryd.underlying34 hi hz0 hz1 hz2 rfl (by decide) _ m _ rfl (HG.out.keeps (F := fun _ => True) (.inr fun _ _ => trivial) fun k _ hl => Below.heap_alloc _ _ _ hl) ⟨wr.heap.size, 0, none⟩ 1 1 rfl (by decide) (cellsW [x]) HC.out.1 HC.out.2 (cellsW_one _) (by omega) (by omega) ?_
        intro v4 w4 g4 t4 o4
        have z4 := t4.size
        simp only [World.size_alloc] at z4
        have hO4 := o4 _ HO.out
        have hq4 : ∀ k, ownB (.slice oa m oc) k → W0.heap.size ≤ k := fun k hk => by
          rcases HO.out with ⟨ad, e⟩ | h
          · exact absurd e (hk.2 ad)
          · exact (h k hk.1).1
        have hs4 : W0.heap.size ≤ (wr.alloc (.cells X 50)).heap.size := by rw [World.size_alloc]; omega
        have hB5 := Turn.below t4 hq4 hs4
        have hB4 := (HB.out.alloc zb (.cells X 50)).trans hB5
        have HO4 : Hid (OwnIn (fun k => W0.heap.size ≤ k ∧ k < w4.heap.size) v4) := show OwnIn _ _ from hO4.imp id fun h g hg => by
          rcases h g hg with h | h
          · exact ⟨h.1, by have := h.2; omega⟩
          · exact ⟨by have := h.1; simp only [World.size_alloc] at this; omega, h.2⟩
        have HB4 := Lib.hid hB4
        obtain ⟨b4, c4, rfl⟩ := g4.slice
        have HG4 := Lib.hid g4
        clear t4 o4 hO4 hB4 hB5 hq4 hs4 g4
        go_wp2_with fail
        go_roundw
        case rel =>
          refine ⟨k + 1, m + 1, by omega, by omega, by go_num, ?_, ?_, HO4.out, HB4⟩
          · show m + 1 = _
            rw [HTK.out, keepW_snoc, HE.out, if_neg (by decide), List.length_append, ← HM.out]
            rfl
          · rw [HTK.out, keepW_snoc, HE.out, if_neg (by decide), cellsW_append]
            exact HG4.out
        case measure => simp [intOf]; omega
    · obtain rfl : k = N := by omega
      go_wp2_with fail
      go_ret
      have hm2 := HM.out
      rw [List.take_of_length_le (Nat.le_of_eq HN.out)] at hm2
      have hg2 := HG.out
      rw [List.take_of_length_le (Nat.le_of_eq HN.out), hm2] at hg2
      exact ⟨_, rfl, by rw [← hm2] at hg2 ⊢; exact hg2, HO.out.imp id fun h g hg => ⟨by have := (h g hg).1; omega, (h g hg).2⟩, HB0.out.trans (HB.out.mono (by omega))⟩
end Go.Proofs.YtohdgjmmekgcmaaDoor

/-
  The document's device: Store.
-/
namespace Go.Proofs.YtohdgjmmekgcmaaDoor
open Go.RowKit Go.Shelf

theorem putLine_set {us : List Int} {n j : Nat} (h : us.length = n * 8) (hj : j < n * 8) (x : Int) : putLine us (j / 8) ((lineAt us (j / 8)).set (j % 8) x) = us.set j x := by
  have hl := lineAt_length h (show j / 8 < n by omega)
  unfold putLine
  apply List.ext_getElem?
  intro k
  by_cases h1 : k < j / 8 * 8
  · rw [List.append_assoc, List.getElem?_append_left (by rw [List.length_take]; omega), List.getElem?_take, if_pos h1, List.getElem?_set_ne (by omega)]
  · by_cases h2 : k < j / 8 * 8 + 8
    · rw [List.append_assoc, List.getElem?_append_right (by rw [List.length_take]; omega), List.getElem?_append_left (by rw [List.length_set, hl, List.length_take]; omega), List.length_take, Nat.min_eq_left (by omega)]
      by_cases h3 : k = j
      · subst h3
        rw [List.getElem?_set, List.getElem?_set, if_pos (by omega), if_pos rfl, if_pos (by omega), if_pos (by omega)]
      · rw [List.getElem?_set_ne (by omega), List.getElem?_set_ne (by omega)]
        unfold lineAt
        rw [List.getElem?_take, if_pos (by omega), List.getElem?_drop]
        congr 1
        omega
    · rw [List.getElem?_append_right (by rw [List.length_append, List.length_set, hl, List.length_take]; omega), List.length_append, List.length_set, hl, List.length_take, Nat.min_eq_left (by omega), List.getElem?_drop, List.getElem?_set_ne (by omega)]
      congr 1
      omega
theorem block_set {W : World} {b o : Nat} {cs : Array Value} {t : TypeId} {f : Nat × Nat} (h : W.heap[b]? = some (.cells cs t f)) (u : Value) : (W.setCell ⟨b, o, none⟩ u).heap[b]? = some (.cells (cs.setIfInBounds o u) t f) := by
  simp [World.setCell, Array.getElem?_modify, h]
theorem frozen_of {W : World} {b : Nat} {cs : Array Value} {t : TypeId} (h : W.heap[b]? = some (.cells cs t (0, 0))) (o : Nat) : W.frozen? ⟨b, o, none⟩ = false := by simp [World.frozen?, h]
theorem valsA_set (L : List Int) (v : Nat) (x : Int) : (vals L).toArray.setIfInBounds v (.int .u64 x) = (vals (L.set v x)).toArray := by
  simp [vals, List.map_set]
/-- A block of three cells. -/
def Box3 (W : World) (B : Nat) (t : TypeId) (x y z : Value) : Prop := W.heap[B]? = some (.cells #[x, y, z] t (0, 0))
section
variable {W W' : World} {B : Nat} {t : TypeId} {x y z : Value}
theorem Box3.lt (h : Box3 W B t x y z) : B < W.heap.size := (Array.getElem?_eq_some_iff.1 h).1
theorem Box3.cells (h : Box3 W B t x y z) : W.cell? ⟨B, 0, none⟩ = some x ∧ W.cell? ⟨B, 1, none⟩ = some y ∧ W.cell? ⟨B, 2, none⟩ = some z ∧ W.frozen? ⟨B, 0, none⟩ = false ∧ W.frozen? ⟨B, 1, none⟩ = false ∧ W.frozen? ⟨B, 2, none⟩ = false := by
  unfold Box3 at h
  simp [World.cell?, World.frozen?, h]
theorem Box3.new (W : World) (t : TypeId) (x y z : Value) : Box3 (W.alloc (.cells #[x, y, z] t)) W.heap.size t x y z := World.alloc_heap_new W _
theorem Box3.below {n : Nat} (h : Box3 W B t x y z) (hb : Below n W W') (hl : B < n) : Box3 W' B t x y z := (hb.block B hl).trans h
theorem Box3.set0 (h : Box3 W B t x y z) (u : Value) : Box3 (W.setCell ⟨B, 0, none⟩ u) B t u y z := block_set h u
theorem Box3.set1 (h : Box3 W B t x y z) (u : Value) : Box3 (W.setCell ⟨B, 1, none⟩ u) B t x u z := block_set h u
theorem Box3.set2 (h : Box3 W B t x y z) (u : Value) : Box3 (W.setCell ⟨B, 2, none⟩ u) B t x y u := block_set h u
theorem Box3.other (h : Box3 W B t x y z) {k o : Nat} (hk : B ≠ k) (u : Value) : Box3 (W.setCell ⟨k, o, none⟩ u) B t x y z := (Below.heap_setCell _ _ _ B hk).trans h
end
theorem RefV.set_seen {W : World} {F : Nat → Prop} {S T n cS cT S' cS' : Nat} {q : Value} {d : Dv} {us : List Int} (h : RefV W F S T n cS cT q d) (ho : W.ownsRow 0 48 8 (.slice (some ⟨S', 0, none⟩) n cS') n (vals us)) (hF : ¬ F S') : RefV W F S' T n cS' cT q { d with seen := us } :=
  ⟨⟨by have := ho.1; rw [vals_length] at this; exact this, h.ok.stays, h.ok.waits, h.ok.apart⟩, h.pos, h.most, ho, h.stays, h.waits, hF, h.outT, h.outQ⟩
theorem RefV.set_stays {W : World} {F : Nat → Prop} {S T n cS cT T' cT' : Nat} {q : Value} {d : Dv} {us : List Int} (h : RefV W F S T n cS cT q d) (ho : W.ownsRow 0 48 8 (.slice (some ⟨T', 0, none⟩) n cT') n (vals us)) (hF : ¬ F T') : RefV W F S T' n cS cT' q { d with stays := us } :=
  ⟨⟨h.ok.seen, by have := ho.1; rw [vals_length] at this; exact this, h.ok.waits, h.ok.apart⟩, h.pos, h.most, h.seen, ho, h.waits, h.outS, hF, h.outQ⟩
theorem RefV.set_waits {W : World} {F : Nat → Prop} {S T n cS cT : Nat} {q q' : Value} {d : Dv} {l : List (Nat × List Int)} (h : RefV W F S T n cS cT q d) (ho : GrowV W 50 9 q' l.length (cellsW l)) (hF : OwnIn (fun k => ¬ F k) q') (ok : Dv.Ok n { d with waits := l }) : RefV W F S T n cS cT q' { d with waits := l } :=
  ⟨ok, h.pos, h.most, h.seen, h.stays, ho, h.outS, h.outT, hF⟩
set_option maxRecDepth 100000 in
set_option maxHeartbeats 2000000 in
theorem refStore_any {F : Nat → Prop} {S T n cS cT : Nat} {q : Value} {d : Dv} (i x : Int) (hi1 : -9223372036854775808 ≤ i) (hi2 : i ≤ 9223372036854775807) (w : World) (hF : ∀ k, F k → k < w.heap.size) (h : RefV w F S T n cS cT q d) :
    Calls Tryd.prog 46 #[.agg (refA S T n cS cT q), .int .i64 i, .int .u64 x] w fun e w' => Below w.heap.size w w' ∧ ∃ S' cS', e = .returned (.tuple #[.agg (refA S' T n cS' cT q), .int .i64 (errR (inR (n * 8) i))]) ∧ RefV w' F S' T n cS' cT q (d.store n i x) := by
  obtain ⟨a, c, rfl⟩ := h.waits.slice_n
  have b0 : Below w.heap.size w ((w.alloc (.cells (refA S T n cS cT (.slice a d.waits.length c)) 36)).alloc (.cells #[.slice none 0 0, .slice none 0 0, .slice none 0 0] 36)) := (by repeat (first | exact Below.refl _ _ | assumption | refine Below.drew ?_ | refine below_drewN ?_ _ | refine Below.alloc ?_ (by (try simp) <;> omega) _ | refine Below.setCell ?_ (by (try simp) <;> omega) _ | refine Below.trans ?_ (Below.mono (by assumption) (by (try simp) <;> omega))))
  have HT := Lib.hid (there_any i hi1 hi2 ((w.alloc (.cells (refA S T n cS cT (.slice a d.waits.length c)) 36)).alloc (.cells #[.slice none 0 0, .slice none 0 0, .slice none 0 0] 36)) h.most (.slice (some ⟨S, 0, none⟩) n cS) (.slice (some ⟨T, 0, none⟩) n cT) (.slice a d.waits.length c) _ rfl)
  have HX := Lib.hid ((Box3.new w 36 (.slice (some ⟨S, 0, none⟩) n cS) (.slice (some ⟨T, 0, none⟩) n cT) (.slice a d.waits.length c)).below ((Below.refl (w.heap.size + 1) _).alloc (by simp) (.cells #[.slice none 0 0, .slice none 0 0, .slice none 0 0] 36)) (by omega))
  have HY := Lib.hid (Box3.new (w.alloc (.cells (refA S T n cS cT (.slice a d.waits.length c)) 36)) 36 (.slice none 0 0) (.slice none 0 0) (.slice none 0 0))
  rw [World.size_alloc] at HY
  have H := Lib.hid h
  have HFF := Lib.hid hF
  have hm := h.most
  obtain ⟨W0, hW0⟩ : ∃ W0, ((w.alloc (.cells (refA S T n cS cT (.slice a d.waits.length c)) 36)).alloc (.cells #[.slice none 0 0, .slice none 0 0, .slice none 0 0] 36)) = W0 := ⟨_, rfl⟩
  have hz0 : W0.heap.size = w.heap.size + 2 := by rw [← hW0]; simp
  rw [hW0] at HT b0
  have HB0 := Lib.hid b0
  have HX1 : Hid (Box3 W0 w.heap.size 36 (.slice (some ⟨S, 0, none⟩) n cS) (.slice (some ⟨T, 0, none⟩) n cT) (.slice a d.waits.length c)) := show Box3 _ _ _ _ _ _ by rw [← hW0]; exact HX.out
  have HY1 : Hid (Box3 W0 (w.heap.size + 1) 36 (.slice none 0 0) (.slice none 0 0) (.slice none 0 0)) := show Box3 _ _ _ _ _ _ by rw [← hW0]; exact HY.out
  clear h b0 HX HY hF
  cases hr : inR (n * 8) i with
  | false =>
    have HL : Hid (d.store n i x = d) := show _ = _ by unfold Dv.store; rw [hr]; rfl
    rw [hr] at HT
    obtain ⟨x0, x1, x2, -⟩ := HX1.out.cells
    go_enter Tryd.func46, Tryd.ntmps46
    go_wp2_with fail
    refine HT.out.mono ?_
    rintro e w1 ⟨rfl, hb⟩
    clear hW0 x0 x1 x2
    have z1 := hb.size
    obtain ⟨c0, c1, c2, -⟩ := (HX1.out.below hb (by omega)).cells
    obtain ⟨e0, e1, e2, f0, f1, f2⟩ := (HY1.out.below hb (by omega)).cells
    have HB1 : Hid (Below w.heap.size w w1) := show Below _ _ _ from HB0.out.trans (hb.mono (by omega))
    clear hb
    go_wp2_with fail
    refine bodyPost_ret (v := .tuple #[.agg (refA S T n cS cT (.slice a d.waits.length c)), .int .i64 4]) (by simp [results, Tryd.results46, go_sem, World.cell?_setCell_same', e0, e1, e2]) rfl ?_
    have hB2 := ((HB1.out.setCell (p := ⟨w.heap.size + 1, 0, none⟩) (by show w.heap.size ≤ w.heap.size + 1; omega) (.slice (some ⟨S, 0, none⟩) n cS)).setCell (p := ⟨w.heap.size + 1, 1, none⟩) (by show w.heap.size ≤ w.heap.size + 1; omega) (.slice (some ⟨T, 0, none⟩) n cT)).setCell (p := ⟨w.heap.size + 1, 2, none⟩) (by show w.heap.size ≤ w.heap.size + 1; omega) (.slice a d.waits.length c)
    refine ⟨hB2, S, cS, rfl, ?_⟩
    rw [HL.out]
    exact H.out.below hB2
  | true =>
    have hr' := inR_iff.1 hr
    obtain ⟨j, rfl⟩ := Int.eq_ofNat_of_zero_le hr'.1
    have hj : j < n * 8 := by omega
    have hl := H.out.ok.seen
    have hL := lineAt_length hl (show j / 8 < n by omega)
    have HL : Hid (d.store n (j : Int) x = { d with seen := putLine d.seen (j / 8) ((lineAt d.seen (j / 8)).set (j % 8) x) }) := show _ = _ by unfold Dv.store; rw [hr, if_pos rfl, Int.toNat_natCast, putLine_set hl hj]
    rw [hr] at HT
    obtain ⟨x0, x1, x2, -⟩ := HX1.out.cells
    obtain ⟨L, hLL⟩ : ∃ L, lineAt d.seen (j / 8) = L := ⟨_, rfl⟩
    have hinfo : (Tryd.prog.info? 48).map (·.size) = some (vals L).toArray.size := by rw [List.size_toArray, vals_length, ← hLL, hL]; kernel_rfl
    have HINFO := Lib.hid hinfo
    have hinfo2 : (Tryd.prog.info? 48).map (·.size) = some (vals (L.set (j % 8) x)).toArray.size := by rw [List.size_toArray, vals_length, List.length_set, ← hLL, hL]; kernel_rfl
    have HINFO2 := Lib.hid hinfo2
    have HLD := Lib.hid (fun (W : World) (hb : Below W0.heap.size W0 W) => load_line Tryd.underlying48 rfl (by kernel_rfl) ((H.out.below HB0.out).below hb).seen (j / 8) (by omega))
    have HSN := Lib.hid (fun (W : World) => run_storeAt_new (P := Tryd.prog) W 48 zero8 (vals L).toArray hinfo (by simp [zero8, vals_length, ← hLL, hL]) (all_oneCell_toArray (vals_one _)))
    have HW := Lib.hid (fun (W : World) (hb : Below W0.heap.size W0 W) => refWith_any (j / 8) (by omega) (L.set (j % 8) x) (by rw [List.length_set, ← hLL, hL]) W hm ((H.out.below HB0.out).below hb).seen)
    rw [hLL] at HLD HL hL
    have h8 := hL
    clear hinfo hinfo2 hL hl hLL
    unfold zero8 at HSN
    go_enter Tryd.func46, Tryd.ntmps46
    go_wp2_with fail
    refine HT.out.mono ?_
    rintro e w1 ⟨rfl, hb⟩
    clear hW0 x0 x1 x2
    have z1 := hb.size
    have HC := Lib.hid (HX1.out.below hb (by omega))
    have HD := Lib.hid (HY1.out.below hb (by omega))
    have HLD1 := Lib.hid (HLD.out w1 hb)
    have HSN1 := Lib.hid (HSN.out w1)
    obtain ⟨c0, c1, c2, g0, g1, g2⟩ := HC.out.cells
    have HB1 := Lib.hid hb
    clear hb
    have jI : (j : Int) < (n : Int) * 8 := by omega
    have hlc := cell_of_row (w1.alloc (.cells (vals L).toArray 48)) w1.heap.size (j % 8) _ _ _ (World.alloc_heap_new w1 _)
    have hlf : (w1.alloc (.cells (vals L).toArray 48)).frozen? ⟨w1.heap.size, j % 8, none⟩ = false := frozen_of (World.alloc_heap_new w1 _) _
    rw [List.getElem?_toArray, vals_at L (j % 8) (by omega)] at hlc
    have hWX := block_set (W := w1.alloc (.cells (vals L).toArray 48)) (o := j % 8) (World.alloc_heap_new w1 _) (.int .u64 x)
    rw [valsA_set] at hWX
    have hXB := ((HC.out.below (n := w1.heap.size) ((Below.refl _ _).alloc (Nat.le_refl _) (.cells (vals L).toArray 48)) (by omega))).other (k := w1.heap.size) (o := j % 8) (by omega) (.int .u64 x)
    have hYB := ((HD.out.below (n := w1.heap.size) ((Below.refl _ _).alloc (Nat.le_refl _) (.cells (vals L).toArray 48)) (by omega))).other (k := w1.heap.size) (o := j % 8) (by omega) (.int .u64 x)
    have hBB : Below W0.heap.size W0 ((w1.alloc (.cells (vals L).toArray 48)).setCell ⟨w1.heap.size, j % 8, none⟩ (.int .u64 x)) := (HB1.out.alloc z1 _).setCell (p := ⟨w1.heap.size, j % 8, none⟩) z1 _
    have hsz : ((w1.alloc (.cells (vals L).toArray 48)).setCell ⟨w1.heap.size, j % 8, none⟩ (.int .u64 x)).heap.size = w1.heap.size + 1 := by simp [World.setCell]
    obtain ⟨WB, hWB⟩ : ∃ WB, (w1.alloc (.cells (vals L).toArray 48)).setCell ⟨w1.heap.size, j % 8, none⟩ (.int .u64 x) = WB := ⟨_, rfl⟩
    rw [hWB] at hWX hXB hYB hBB hsz
    have HLX := Lib.hid (load_blk Tryd.underlying48 rfl HINFO2.out hWX)
    have HWC := Lib.hid (HW.out WB hBB)
    have HXB := Lib.hid hXB
    have HYB := Lib.hid hYB
    have HBB := Lib.hid hBB
    obtain ⟨c0', -, -, -⟩ := hXB.cells
    clear hWX hXB hYB hBB
    go_wp2_with (first | (refine wpList_load_eq rfl 48 _ rfl _ _ rfl HLD1.out ?_) | (refine wpList_store_eq rfl 48 _ _ rfl _ _ rfl rfl HSN1.out ?_) | (refine wpList_load_eq rfl 48 _ rfl _ _ rfl HLX.out ?_))
    refine HWC.out.mono ?_
    rintro e wC ⟨S', cS', rfl, oC, gC, bC⟩
    have zC := bC.size
    clear hWB
    obtain ⟨c0, c1, c2, g0, g1, g2⟩ := (HXB.out.below bC (by omega)).cells
    obtain ⟨e0, e1, e2, f0, f1, f2⟩ := (HYB.out.below bC (by omega)).cells
    have HOC := Lib.hid oC
    have HBC : Hid (Below w.heap.size w wC) := show Below _ _ _ from HB0.out.trans ((HBB.out.trans (bC.mono (by omega))).mono (by omega))
    clear oC bC c0'
    go_wp2_with fail
    refine bodyPost_ret (v := .tuple #[.agg (refA S' T n cS' cT (.slice a d.waits.length c)), .int .i64 0]) (by simp [results, Tryd.results46, go_sem, World.cell?_setCell_same', e0, e1, e2]) rfl ?_
    have hBf := (((HBC.out.setCell (p := ⟨w.heap.size, 0, none⟩) (Nat.le_refl _) (.slice (some ⟨S', 0, none⟩) n cS')).setCell (p := ⟨w.heap.size + 1, 0, none⟩) (by show w.heap.size ≤ w.heap.size + 1; omega) (.slice (some ⟨S', 0, none⟩) n cS')).setCell (p := ⟨w.heap.size + 1, 1, none⟩) (by show w.heap.size ≤ w.heap.size + 1; omega) (.slice (some ⟨T, 0, none⟩) n cT)).setCell (p := ⟨w.heap.size + 1, 2, none⟩) (by show w.heap.size ≤ w.heap.size + 1; omega) (.slice a d.waits.length c)
    refine ⟨hBf, S', cS', rfl, ?_⟩
    rw [HL.out]
    refine (H.out.below hBf).set_seen (own_keeps HOC.out fun _ => ?_) (fun h => by have := HFF.out S' h; omega) 
    rw [Below.heap_setCell _ _ _ S' (show S' ≠ w.heap.size + 1 by omega), Below.heap_setCell _ _ _ S' (show S' ≠ w.heap.size + 1 by omega), Below.heap_setCell _ _ _ S' (show S' ≠ w.heap.size + 1 by omega), Below.heap_setCell _ _ _ S' (show S' ≠ w.heap.size by omega)]
end Go.Proofs.YtohdgjmmekgcmaaDoor

/-
  The document's device: Swap.
-/
namespace Go.Proofs.YtohdgjmmekgcmaaDoor
open Go.RowKit Go.Shelf

/-- Two blocks of three cells, laid one behind the other. -/
theorem two_box3 (w : World) (t : TypeId) (x y z x' y' z' : Value) : Below w.heap.size w ((w.alloc (.cells #[x, y, z] t)).alloc (.cells #[x', y', z'] t)) ∧ ((w.alloc (.cells #[x, y, z] t)).alloc (.cells #[x', y', z'] t)).heap.size = w.heap.size + 2 ∧
    Box3 ((w.alloc (.cells #[x, y, z] t)).alloc (.cells #[x', y', z'] t)) w.heap.size t x y z ∧ Box3 ((w.alloc (.cells #[x, y, z] t)).alloc (.cells #[x', y', z'] t)) (w.heap.size + 1) t x' y' z' := by
  refine ⟨((Below.refl _ _).alloc (Nat.le_refl _) _).alloc (by simp) _, by simp, (Box3.new w t x y z).below ((Below.refl (w.heap.size + 1) _).alloc (by simp) _) (by omega), ?_⟩
  have := Box3.new (w.alloc (.cells #[x, y, z] t)) t x' y' z'
  rw [World.size_alloc] at this
  exact this
theorem below_set3 {B b : Nat} {w W : World} (h : Below B w W) (hb : B ≤ b) (x y z : Value) : Below B w (((W.setCell ⟨b, 0, none⟩ x).setCell ⟨b, 1, none⟩ y).setCell ⟨b, 2, none⟩ z) := ((h.setCell (p := ⟨b, 0, none⟩) hb x).setCell (p := ⟨b, 1, none⟩) hb y).setCell (p := ⟨b, 2, none⟩) hb z
theorem heap_set3 (W : World) (b k : Nat) (hk : k ≠ b) (x y z : Value) : (((W.setCell ⟨b, 0, none⟩ x).setCell ⟨b, 1, none⟩ y).setCell ⟨b, 2, none⟩ z).heap[k]? = W.heap[k]? := by
  rw [Below.heap_setCell _ _ _ k hk, Below.heap_setCell _ _ _ k hk, Below.heap_setCell _ _ _ k hk]
section
variable {W W' : World} {F F' : Nat → Prop} {S T n cS cT : Nat} {q : Value} {d : Dv}
theorem RefV.weak (h : RefV W F' S T n cS cT q d) (hF : ∀ k, F k → F' k) : RefV W F S T n cS cT q d :=
  ⟨h.ok, h.pos, h.most, h.seen, h.stays, h.waits, fun k => h.outS (hF _ k), fun k => h.outT (hF _ k), h.outQ.imp id fun g k e hk => g k e (hF _ hk)⟩
theorem RefV.wide (h : RefV W F S T n cS cT q d) (p : Nat → Prop) (hp : ∀ k, p k → W.heap.size ≤ k) : RefV W (fun k => F k ∨ p k) S T n cS cT q d :=
  ⟨h.ok, h.pos, h.most, h.seen, h.stays, h.waits, fun k => k.elim h.outS fun k => by have := hp _ k; have := own_lt2 h.seen; omega, fun k => k.elim h.outT fun k => by have := hp _ k; have := own_lt2 h.stays; omega, by
    rcases h.waits with ⟨_, _, ad, rfl⟩ | hq
    · exact .inl ⟨ad, rfl⟩
    · refine h.outQ.imp id fun g k e hk => hk.elim (g k e) fun hk => ?_
      have := hp _ hk
      have := (hq.lt k e).2
      omega⟩
end
/-- F, and two more. -/
abbrev two (F : Nat → Prop) (s : Nat) (k : Nat) : Prop := F k ∨ (k = s ∨ k = s + 1)
set_option maxRecDepth 100000 in
set_option maxHeartbeats 2000000 in
theorem refSwap_any {F : Nat → Prop} {S T n cS cT : Nat} {q : Value} {d : Dv} (i x y : Int) (hi1 : -9223372036854775808 ≤ i) (hi2 : i ≤ 9223372036854775807) (w : World) (hF : ∀ k, F k → k < w.heap.size) (h : RefV w F S T n cS cT q d) :
    Calls Tryd.prog 47 #[.agg (refA S T n cS cT q), .int .i64 i, .int .u64 x, .int .u64 y] w fun e w' => Below w.heap.size w w' ∧ ∃ S' cS', e = .returned (.tuple #[.agg (refA S' T n cS' cT q), .bool (d.swaps n i x), .int .i64 (errR (inR (n * 8) i))]) ∧ RefV w' F S' T n cS' cT q (d.swap n i x y) := by
  obtain ⟨a, c, rfl⟩ := h.waits.slice_n
  obtain ⟨b0, hz0, bX, bY⟩ := two_box3 w 36 (.slice (some ⟨S, 0, none⟩) n cS) (.slice (some ⟨T, 0, none⟩) n cT) (.slice a d.waits.length c) (.slice none 0 0) (.slice none 0 0) (.slice none 0 0)
  obtain ⟨W0, hW0⟩ : ∃ W0, ((w.alloc (.cells (refA S T n cS cT (.slice a d.waits.length c)) 36)).alloc (.cells #[.slice none 0 0, .slice none 0 0, .slice none 0 0] 36)) = W0 := ⟨_, rfl⟩
  unfold refA at hW0
  rw [hW0] at b0 hz0 bX bY
  change ((w.alloc (.cells (refA S T n cS cT (.slice a d.waits.length c)) 36)).alloc (.cells #[.slice none 0 0, .slice none 0 0, .slice none 0 0] 36)) = W0 at hW0
  have HLO := Lib.hid (refLoad_any i hi1 hi2 W0 (h.below b0))
  have HST := Lib.hid (fun (W : World) (hb : Below W0.heap.size W0 W) => refStore_any (F := two F w.heap.size) i y hi1 hi2 W (fun k hk => by
    have h1 := hb.size
    rcases hk with hk | hk | hk
    · have := hF k hk; omega
    · omega
    · omega) (((h.wide (fun k => k = w.heap.size ∨ k = w.heap.size + 1) (fun k hk => by omega)).below b0).below hb))
  have H := Lib.hid h
  have HB0 := Lib.hid b0
  have HX := Lib.hid bX
  have HY := Lib.hid bY
  obtain ⟨x0, x1, x2, -⟩ := bX.cells
  clear h b0 hF bX bY
  obtain ⟨v, hv⟩ : ∃ v, d.load n i = v := ⟨_, rfl⟩
  obtain ⟨r, hr⟩ : ∃ r, inR (n * 8) i = r := ⟨_, rfl⟩
  have HSW : Hid (d.swaps n i x = (r && decide (v = x))) := show _ = _ by unfold Dv.swaps; rw [hr, hv]
  have HSD : Hid (d.swap n i x y = if d.swaps n i x then d.store n i y else d) := rfl
  rw [hr, hv] at HLO
  rw [hr] at HST ⊢
  have no : ∀ w1, Below W0.heap.size W0 w1 → d.swaps n i x = false → Below w.heap.size w (((w1.setCell ⟨w.heap.size + 1, 0, none⟩ (.slice (some ⟨S, 0, none⟩) n cS)).setCell ⟨w.heap.size + 1, 1, none⟩ (.slice (some ⟨T, 0, none⟩) n cT)).setCell ⟨w.heap.size + 1, 2, none⟩ (.slice a d.waits.length c)) ∧
      RefV (((w1.setCell ⟨w.heap.size + 1, 0, none⟩ (.slice (some ⟨S, 0, none⟩) n cS)).setCell ⟨w.heap.size + 1, 1, none⟩ (.slice (some ⟨T, 0, none⟩) n cT)).setCell ⟨w.heap.size + 1, 2, none⟩ (.slice a d.waits.length c)) F S T n cS cT (.slice a d.waits.length c) (d.swap n i x y) := fun w1 hb hs => by
    have hB := below_set3 (HB0.out.trans (hb.mono (by omega))) (show w.heap.size ≤ w.heap.size + 1 by omega) (.slice (some ⟨S, 0, none⟩) n cS) (.slice (some ⟨T, 0, none⟩) n cT) (.slice a d.waits.length c)
    refine ⟨hB, ?_⟩
    rw [HSD.out, hs, if_neg (by decide)]
    exact H.out.below hB
  have NO := Lib.hid no
  clear no hv hr
  cases r with
  | false =>
    go_enter Tryd.func47, Tryd.ntmps47
    go_wp2_with fail
    refine HLO.out.mono ?_
    rintro e w1 ⟨rfl, hb⟩
    clear hW0 x0 x1 x2
    have z1 := hb.size
    obtain ⟨c0, c1, c2, -⟩ := (HX.out.below hb (by omega)).cells
    obtain ⟨e0, e1, e2, f0, f1, f2⟩ := (HY.out.below hb (by omega)).cells
    have HB1 := Lib.hid hb
    clear hb
    rw [show errR false = 4 from rfl]
    go_wp2_with fail
    refine bodyPost_ret (v := .tuple #[.agg (refA S T n cS cT (.slice a d.waits.length c)), .bool false, .int .i64 4]) (by simp [results, Tryd.results47, go_sem, World.cell?_setCell_same', e0, e1, e2]) rfl ?_
    obtain ⟨h1, h2⟩ := NO.out w1 HB1.out (by rw [HSW.out]; rfl)
    exact ⟨h1, S, cS, by rw [HSW.out]; rfl, h2⟩
  | true =>
    rw [show errR true = 0 from rfl] at *
    by_cases hvx : v = x
    · subst hvx
      have HN : Hid (d.swaps n i v = true) := show _ = _ by rw [HSW.out, decide_eq_true rfl]; rfl
      go_enter Tryd.func47, Tryd.ntmps47
      go_wp2_with fail
      refine HLO.out.mono ?_
      rintro e w1 ⟨rfl, hb⟩
      clear hW0 x0 x1 x2
      have z1 := hb.size
      obtain ⟨c0, c1, c2, -⟩ := (HX.out.below hb (by omega)).cells
      have HB1 := Lib.hid hb
      have HS1 := Lib.hid (HST.out w1 hb)
      clear hb
      go_wp2_with fail
      refine HS1.out.mono ?_
      rintro e w2 ⟨hb2, S', cS', rfl, hd⟩
      have z2 := hb2.size
      have hb3 : Below W0.heap.size W0 (w2.alloc (.cells (refA S' T n cS' cT (.slice a d.waits.length c)) 36)) := (HB1.out.trans (hb2.mono z1)).alloc (Nat.le_trans z1 z2) _
      have hd3 := hd.below ((Below.refl _ _).alloc (Nat.le_refl _) (.cells (refA S' T n cS' cT (.slice a d.waits.length c)) 36))
      obtain ⟨k0, k1, k2, -⟩ := (Box3.new w2 36 (.slice (some ⟨S', 0, none⟩) n cS') (.slice (some ⟨T, 0, none⟩) n cT) (.slice a d.waits.length c)).cells
      obtain ⟨e0, e1, e2, f0, f1, f2⟩ := (HY.out.below hb3 (by omega)).cells
      have HB3 := Lib.hid hb3
      have HD3 := Lib.hid hd3
      clear hb2 hb3 hd hd3 c0 c1 c2
      go_wp2_with fail
      refine bodyPost_ret (v := .tuple #[.agg (refA S' T n cS' cT (.slice a d.waits.length c)), .bool true, .int .i64 0]) (by simp [results, Tryd.results47, go_sem, World.cell?_setCell_same', e0, e1, e2]) rfl ?_
      refine ⟨below_set3 (HB0.out.trans (HB3.out.mono (by omega))) (by omega) _ _ _, S', cS', by rw [HN.out], ?_⟩
      rw [HSD.out, HN.out, if_pos rfl]
      exact (HD3.out.keeps fun k hk _ => heap_set3 _ _ k (fun e => hk (.inr (.inr e))) _ _ _).weak fun k hk => .inl hk
    · have hb2 : (v != x) = true := bne_iff_ne.2 hvx
      have HN : Hid (d.swaps n i x = false) := show _ = _ by rw [HSW.out, decide_eq_false hvx]; rfl
      go_enter Tryd.func47, Tryd.ntmps47
      go_wp2_with fail
      refine HLO.out.mono ?_
      rintro e w1 ⟨rfl, hb⟩
      clear hW0 x0 x1 x2
      have z1 := hb.size
      obtain ⟨c0, c1, c2, -⟩ := (HX.out.below hb (by omega)).cells
      obtain ⟨e0, e1, e2, f0, f1, f2⟩ := (HY.out.below hb (by omega)).cells
      have HB1 := Lib.hid hb
      clear hb
      go_wp2_with fail
      refine bodyPost_ret (v := .tuple #[.agg (refA S T n cS cT (.slice a d.waits.length c)), .bool false, .int .i64 0]) (by simp [results, Tryd.results47, go_sem, World.cell?_setCell_same', e0, e1, e2]) rfl ?_
      obtain ⟨h1, h2⟩ := NO.out w1 HB1.out HN.out
      exact ⟨h1, S, cS, by rw [HN.out], h2⟩
end Go.Proofs.YtohdgjmmekgcmaaDoor

/-
  The document's device: Evict.
-/
namespace Go.Proofs.YtohdgjmmekgcmaaDoor
open Go.RowKit Go.Shelf

theorem keepW_forget (d : Dv) (i : Int) : (d.forget i).waits = keepW d.waits i := rfl
set_option maxRecDepth 100000 in
set_option maxHeartbeats 2000000 in
theorem refEvict_any {F : Nat → Prop} {S T n cS cT : Nat} {q : Value} {d : Dv} (i : Int) (w : World) (hF : ∀ k, F k → k < w.heap.size) (h : RefV w F S T n cS cT q d) :
    Calls Tryd.prog 50 #[.agg (refA S T n cS cT q), .int .i64 i] w fun e w' => Below w.heap.size w w' ∧ ∃ T' cT' q', e = .returned (.tuple #[.agg (refA S T' n cS cT' q'), .int .i64 (errR (inR n i))]) ∧ RefV w' F S T' n cS cT' q' (d.evict n i) := by
  obtain ⟨a, c, rfl⟩ := h.waits.slice_n
  obtain ⟨b0, hz0, bX, bY⟩ := two_box3 w 36 (.slice (some ⟨S, 0, none⟩) n cS) (.slice (some ⟨T, 0, none⟩) n cT) (.slice a d.waits.length c) (.slice none 0 0) (.slice none 0 0) (.slice none 0 0)
  obtain ⟨W0, hW0⟩ : ∃ W0, ((w.alloc (.cells (refA S T n cS cT (.slice a d.waits.length c)) 36)).alloc (.cells #[.slice none 0 0, .slice none 0 0, .slice none 0 0] 36)) = W0 := ⟨_, rfl⟩
  unfold refA at hW0
  rw [hW0] at b0 hz0 bX bY
  change ((w.alloc (.cells (refA S T n cS cT (.slice a d.waits.length c)) 36)).alloc (.cells #[.slice none 0 0, .slice none 0 0, .slice none 0 0] 36)) = W0 at hW0
  have HLI := Lib.hid (line_any (n := n) i W0 (.slice (some ⟨S, 0, none⟩) n cS) (.slice (some ⟨T, 0, none⟩) n cT) (.slice a d.waits.length c) _ rfl)
  have H2 := Lib.hid ((h.wide (fun k => k = w.heap.size ∨ k = w.heap.size + 1) (fun k hk => by omega)).below b0)
  have HFF := Lib.hid hF
  have hm := h.most
  have H := Lib.hid h
  have HB0 := Lib.hid b0
  have HX := Lib.hid bX
  have HY := Lib.hid bY
  obtain ⟨x0, x1, x2, -⟩ := bX.cells
  clear h b0 hF bX bY
  cases hr : inR n i with
  | false =>
    have HD : Hid (d.evict n i = d) := show _ = _ by unfold Dv.evict; rw [hr]; rfl
    rw [hr] at HLI
    go_enter Tryd.func50, Tryd.ntmps50
    go_wp2_with fail
    refine HLI.out.mono ?_
    rintro e w1 ⟨rfl, hb⟩
    clear hW0 x0 x1 x2
    have z1 := hb.size
    obtain ⟨c0, c1, c2, -⟩ := (HX.out.below hb (by omega)).cells
    obtain ⟨e0, e1, e2, f0, f1, f2⟩ := (HY.out.below hb (by omega)).cells
    have HB1 := Lib.hid hb
    clear hb
    go_wp2_with fail
    refine bodyPost_ret (v := .tuple #[.agg (refA S T n cS cT (.slice a d.waits.length c)), .int .i64 4]) (by simp [results, Tryd.results50, go_sem, World.cell?_setCell_same', e0, e1, e2]) rfl ?_
    refine ⟨below_set3 (HB0.out.trans (HB1.out.mono (by omega))) (by omega) _ _ _, T, cT, .slice a d.waits.length c, rfl, ?_⟩
    rw [HD.out]
    exact H.out.below (below_set3 (HB0.out.trans (HB1.out.mono (by omega))) (by omega) _ _ _)
  | true =>
    have hr' := inR_iff.1 hr
    obtain ⟨j, rfl⟩ := Int.eq_ofNat_of_zero_le hr'.1
    have hj : j < n := by omega
    have hL := lineAt_length H.out.ok.seen hj
    have HD : Hid (d.evict n (j : Int) = ⟨d.seen, putLine d.stays j (lineAt d.seen j), keepW d.waits (j : Int)⟩) := show _ = _ by unfold Dv.evict; rw [hr, if_pos rfl, Int.toNat_natCast]; rfl
    have HOK := Lib.hid (H.out.ok.evict (j : Int))
    obtain ⟨L, hLL⟩ : ∃ L, lineAt d.seen j = L := ⟨_, rfl⟩
    have HWO := Lib.hid (fun (W : World) (hb : Below W0.heap.size W0 W) => without_any (j : Int) W (H2.out.below hb))
    have HLD := Lib.hid (fun (W : World) (hk : RefV W (two F w.heap.size) S T n cS cT (.slice a d.waits.length c) d) => load_line Tryd.underlying48 rfl (by kernel_rfl) hk.seen j hj)
    have HW := Lib.hid (fun (W : World) (hk : RefV W (two F w.heap.size) S T n cS cT (.slice a d.waits.length c) d) => refWith_any j hj L (by rw [← hLL]; exact hL) W hm hk.stays)
    rw [hLL] at HLD HD
    rw [hr] at HLI
    have hjI : (j : Int) < (n : Int) := by omega
    clear hLL hL
    go_enter Tryd.func50, Tryd.ntmps50
    go_wp2_with fail
    refine HLI.out.mono ?_
    rintro e w1 ⟨rfl, hb⟩
    clear hW0 x0 x1 x2
    have z1 := hb.size
    obtain ⟨c0, c1, c2, -⟩ := (HX.out.below hb (by omega)).cells
    have HB1 := Lib.hid hb
    have HO1 := Lib.hid (HWO.out w1 hb)
    clear hb
    go_wp2_with fail
    refine HO1.out.mono ?_
    rintro e w2 ⟨q', rfl, hg2, ho2, hb2⟩
    have z2 := hb2.size
    have hB2 : Below W0.heap.size W0 w2 := HB1.out.trans (hb2.mono z1)
    obtain ⟨qa, qc, rfl⟩ := hg2.slice_n
    have hX2 := HX.out.below hB2 (by omega)
    obtain ⟨c0, c1, c2, g0, g1, g2⟩ := hX2.cells
    have HG2 := Lib.hid hg2
    have HO2 := Lib.hid ho2
    have HB2 := Lib.hid hB2
    have HX2 := Lib.hid (hX2.set2 (.slice qa (keepW d.waits (j : Int)).length qc))
    have HK2 := Lib.hid (H2.out.below hB2)
    clear hg2 ho2 hb2 hB2 hX2
    go_wp2_with fail
    obtain ⟨W3, hW3⟩ : ∃ W3, w2.setCell ⟨w.heap.size, 2, none⟩ (.slice qa (keepW d.waits (j : Int)).length qc) = W3 := ⟨_, rfl⟩
    have hK3 : RefV W3 (two F w.heap.size) S T n cS cT (.slice a d.waits.length c) d := by
      rw [← hW3]
      exact HK2.out.keeps fun k hk _ => Below.heap_setCell _ _ _ k (fun e => hk (.inr (.inl e)))
    have hX3 : Box3 W3 w.heap.size 36 (.slice (some ⟨S, 0, none⟩) n cS) (.slice (some ⟨T, 0, none⟩) n cT) (.slice qa (keepW d.waits (j : Int)).length qc) := by rw [← hW3]; exact HX2.out
    have hY3 : Box3 W3 (w.heap.size + 1) 36 (.slice none 0 0) (.slice none 0 0) (.slice none 0 0) := by
      rw [← hW3]
      exact (HY.out.below HB2.out (by omega)).other (by omega) _
    have hz3 : W3.heap.size = w2.heap.size := by rw [← hW3]; simp [World.setCell]
    have hB3 : Below w.heap.size w W3 := by
      rw [← hW3]
      exact (HB0.out.trans (HB2.out.mono (by omega))).setCell (p := ⟨w.heap.size, 2, none⟩) (Nat.le_refl _) _
    have hG3 : GrowV W3 50 9 (.slice qa (keepW d.waits (j : Int)).length qc) (keepW d.waits (j : Int)).length (cellsW (keepW d.waits (j : Int))) := by
      rw [← hW3]
      exact HG2.out.keeps HO2.out fun k hk _ => Below.heap_setCell _ _ _ k (show k ≠ w.heap.size by have := hk.1; omega)
    rw [hW3]
    clear hW3 HK2 HX2 HG2
    have hd : Below W3.heap.size W3 W3.drew := Below.drew (Below.refl _ _)
    have HK4 := Lib.hid (hK3.below hd)
    have HX4 := Lib.hid (hX3.below hd hX3.lt)
    have HY4 := Lib.hid (hY3.below hd hY3.lt)
    have HG4 := Lib.hid (hG3.keeps HO2.out fun k _ hl => hd.block k hl)
    have HB4 := Lib.hid (hB3.trans (hd.mono (by omega)))
    have hz4 : W3.drew.heap.size = w2.heap.size := hz3
    obtain ⟨W4, hW4⟩ : ∃ W4, W3.drew = W4 := ⟨_, rfl⟩
    have HLR := Lib.hid (fun (W : World) (hS : W.cell? ⟨w.heap.size, 0, none⟩ = some (.slice (some ⟨S, 0, none⟩) n cS) ∧ W.cell? ⟨w.heap.size, 1, none⟩ = some (.slice (some ⟨T, 0, none⟩) n cT) ∧ Below W3.drew.heap.size W3.drew W) => HLD.out W (HK4.out.below hS.2.2))
    have hR : (fun W : World => W.cell? ⟨w.heap.size, 0, none⟩ = some (.slice (some ⟨S, 0, none⟩) n cS) ∧ W.cell? ⟨w.heap.size, 1, none⟩ = some (.slice (some ⟨T, 0, none⟩) n cT) ∧ Below W3.drew.heap.size W3.drew W) W3.drew := ⟨HX4.out.cells.1, HX4.out.cells.2.1, Below.refl _ _⟩
    refine wp_region_M 10 (fun W : World => W.cell? ⟨w.heap.size, 0, none⟩ = some (.slice (some ⟨S, 0, none⟩) n cS) ∧ W.cell? ⟨w.heap.size, 1, none⟩ = some (.slice (some ⟨T, 0, none⟩) n cT) ∧ Below W3.drew.heap.size W3.drew W) (by kernel_rfl) ?_
    clear c0 c1 c2 g0 g1 g2 hK3 hX3 hY3 hG3 hB3 hd
    (refine wpAnyM_take (i := 0) (v := ?_) rfl (by kernel_rfl) (by kernel_rfl) (fun _ _ _ h => h) (Or.inl ⟨by rfl, ?_⟩) hR ?_; rotate_left; (focus (intro w hSw; (try dsimp only at hSw); go_simp; (try with_reducible rfl))); (try simp only [put_laws])); (refine wpAnyM_take (i := 1) (v := ?_) rfl (by kernel_rfl) (by kernel_rfl) (fun _ _ _ h => h) (Or.inl ⟨by rfl, ?_⟩) hR ?_; rotate_left; (focus (intro w hSw; (try dsimp only at hSw); go_simp; (try with_reducible rfl))); (try simp only [put_laws])); (refine wpAnyM_take (i := 2) (v := ?_) rfl (by kernel_rfl) (by kernel_rfl) (fun _ _ _ h => h) (Or.inl ⟨by rfl, ?_⟩) hR ?_; rotate_left; (focus (intro w hSw; (try dsimp only at hSw); go_simp; (try with_reducible rfl))); (try simp only [put_laws])); (refine wpAnyM_take (i := 3) (v := ?_) rfl (by kernel_rfl) (by kernel_rfl) (fun _ _ _ h => h) (Or.inl ⟨by rfl, ?_⟩) hR ?_; rotate_left; (focus (intro w hSw; (try dsimp only at hSw); go_simp; (try with_reducible rfl))); (try simp only [put_laws])); (refine wpAnyM_take (i := 4) (v := ?_) rfl (by kernel_rfl) (by kernel_rfl) (fun _ _ _ h => h) (Or.inl ⟨by rfl, ?_⟩) hR ?_; rotate_left; (focus (intro w hSw; (try dsimp only at hSw); go_simp; (try with_reducible rfl))); (try simp only [put_laws])); (refine wpAnyM_take (i := 5) (v := ?_) rfl (by kernel_rfl) (by kernel_rfl) (fun _ _ _ h => h) (Or.inl ⟨by rfl, ?_⟩) hR ?_; rotate_left; (focus (intro w hSw; (try dsimp only at hSw); go_simp; (try with_reducible rfl))); (try simp only [put_laws])); (refine wpAnyM_take (i := 6) (v := ?_) rfl (by kernel_rfl) (by kernel_rfl) (fun _ _ _ h => h) (Or.inl ⟨by rfl, ?_⟩) hR ?_; rotate_left; (focus (intro w hSw; (try dsimp only at hSw); go_simp; (try with_reducible rfl))); (try simp only [put_laws]))
    (refine wpAnyM_take (i := 7) (v := _) rfl (by kernel_rfl) (by kernel_rfl) (fun _ _ _ h => h) (Or.inl ⟨by rfl, fun w hSw => exec_load_eq rfl rfl (HLR.out w hSw)⟩) hR ?_; (try simp only [put_laws]))
    (refine wpAnyM_one (i := 8) rfl (by kernel_rfl) (fun K hK => ?_); rw [if_pos (by rfl)]; (try simp only [elem_laws]))
    go_simp
    have HW4 := HW.out _ HK4.out
    simp only [hW4] at HW4 HK4 HX4 HY4 HG4 HB4 hz4 ⊢
    refine HW4.mono ?_
    rintro e w5 ⟨T', cT', rfl, oT, gT, b5⟩
    have z5 := b5.size
    have hx5 := HX4.out.below b5 (by omega)
    have hR5 : (fun W : World => W.cell? ⟨w.heap.size, 0, none⟩ = some (.slice (some ⟨S, 0, none⟩) n cS) ∧ W.cell? ⟨w.heap.size, 1, none⟩ = some (.slice (some ⟨T, 0, none⟩) n cT) ∧ Below W3.drew.heap.size W3.drew W) w5 := ⟨hx5.cells.1, hx5.cells.2.1, by rw [hW4]; exact b5⟩
    refine hK _ _ (fun _ => hR5) ?_
    clear hK K hR HW4
    have hR := hR5
    clear hR5
    obtain ⟨c0, c1, c2, g0, g1, g2⟩ := hx5.cells
    obtain ⟨e0, e1, e2, f0, f1, f2⟩ := (HY4.out.below b5 (by omega)).cells
    have HOT := Lib.hid oT
    have HG5 := Lib.hid (HG4.out.keeps HO2.out fun k hk hl => b5.block k hl)
    have HK5 := Lib.hid (HK4.out.below b5)
    have HB5 := Lib.hid (HB4.out.trans (b5.mono (by omega)))
    have HX5 := Lib.hid hx5
    clear oT hx5 b5
    (try simp only [put_laws])
    (refine wpAnyM_take (i := 9) (v := ?_) rfl (by kernel_rfl) (by kernel_rfl) (fun _ _ _ h => h) (Or.inl ⟨by rfl, ?_⟩) hR ?_; rotate_left; (focus (intro w hSw; (try dsimp only at hSw); go_simp; (try with_reducible rfl))); (try simp only [put_laws]))
    (refine wpAnyM_last rfl (by kernel_rfl) (fun K hK => ?_); rw [if_pos (by rfl)]; (try simp only [elem_laws]))
    clear hR
    go_simp
    refine hK _ _ ?_
    clear hK K hW4
    (try simp only [put_laws])
    refine wpAnyM_done (by kernel_rfl) ?_ _
    go_wp2_with fail
    refine bodyPost_ret (v := .tuple #[.agg (refA S T' n cS cT' (.slice qa (keepW d.waits (j : Int)).length qc)), .int .i64 0]) (by simp [results, Tryd.results50, go_sem, World.cell?_setCell_same', e0, e1, e2]) rfl ?_
    have hBf := below_set3 (HB5.out.setCell (p := ⟨w.heap.size, 1, none⟩) (Nat.le_refl _) (.slice (some ⟨T', 0, none⟩) n cT')) (show w.heap.size ≤ w.heap.size + 1 by omega) (.slice (some ⟨S, 0, none⟩) n cS) (.slice (some ⟨T', 0, none⟩) n cT') (.slice qa (keepW d.waits (j : Int)).length qc)
    refine ⟨hBf, T', cT', _, rfl, ?_⟩
    have hk : ∀ k, ¬ two F w.heap.size k → ((((w5.setCell ⟨w.heap.size, 1, none⟩ (.slice (some ⟨T', 0, none⟩) n cT')).setCell ⟨w.heap.size + 1, 0, none⟩ (.slice (some ⟨S, 0, none⟩) n cS)).setCell ⟨w.heap.size + 1, 1, none⟩ (.slice (some ⟨T', 0, none⟩) n cT')).setCell ⟨w.heap.size + 1, 2, none⟩ (.slice qa (keepW d.waits (j : Int)).length qc)).heap[k]? = w5.heap[k]? := fun k hk =>
      (heap_set3 _ _ k (fun e => hk (.inr (.inr e))) _ _ _).trans (Below.heap_setCell _ _ _ k (fun e => hk (.inr (.inl e))))
    have nq : ∀ k, w1.heap.size ≤ k → ¬ two F w.heap.size k := fun k h1 h2 => by
      rcases h2 with h2 | h2 | h2
      · have := HFF.out k h2; omega
      · omega
      · omega
    have hG := HG5.out.keeps HO2.out fun k hkk _ => hk k (nq k hkk.1)
    have hT := own_keeps HOT.out fun _ => hk T' (nq T' (by omega))
    have hQ : OwnIn (fun k => ¬ two F w.heap.size k) (.slice qa (keepW d.waits (j : Int)).length qc) := HO2.out.imp id fun h g hg => nq g (h g hg).1
    have hA := (HK5.out.keeps (fun k hkk _ => hk k hkk)).set_stays hT (nq T' (by omega))
    have hOK := HOK.out
    rw [HD.out] at hOK ⊢
    exact (hA.set_waits hG hQ hOK).weak fun k h => .inl h
end Go.Proofs.YtohdgjmmekgcmaaDoor
