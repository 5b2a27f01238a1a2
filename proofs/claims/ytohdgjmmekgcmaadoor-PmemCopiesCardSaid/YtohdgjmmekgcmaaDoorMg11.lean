/-
  Texts PnJ to PnM, as one.
-/
import Derived.Test.YtohdgjmmekgcmaaDoorMg10
/-
  The document's device: Flush.
-/
namespace Go.Proofs.YtohdgjmmekgcmaaDoor
open Go.RowKit Go.Shelf

theorem build_refW (i : Int) {L : List Int} (h : L.length = 8) (W : World) : (Instr.build 50 #[(0, .int .i64 i), (1, .agg (vals L).toArray)]).run Tryd.prog W = .ok (.agg (.int .i64 i :: vals L).toArray) W := by
  obtain ⟨a, b, c, d, e, f, g, k, rfl⟩ := list8 h
  kernel_rfl
theorem exec_build_eq {P : Program} {w : World} {o : Oper} {a : Act} {ty : TypeId} {x y : Operand} (ho : o.op = .build ty #[(0, x), (1, y)]) {u v r : Value} (hx : a.eval x = u) (hy : a.eval y = v) (hr : (Instr.build ty #[(0, u), (1, v)]).run P w = .ok r w) : (execOp a.eval o).run P w = .ok (.value r) w := by
  unfold execOp
  simp only [ho, List.map_toArray, List.map_cons, List.map_nil, hx, hy, Sem.run_bind, hr, Result.andThen_ok]
  rfl
theorem wp_slice_eq {P : Program} {w w' : World} {o : Oper} {a : Act} {K : Act → World → Prop} {Q : Exit → Act → World → Prop} (ty : TypeId) (x : Operand)
    (ho : o.op = .buildSlice ty 1 #[(0, x)]) (u r : Value) (hx : a.eval x = u) (hr : (Instr.buildSlice ty 1 #[(0, u)]).run P w = .ok r w') (h : K (a.put o.dst r) w') : Oper.wp P o a w K Q := by
  unfold Oper.wp execOp
  simp only [ho, List.map_toArray, List.map_cons, List.map_nil, hx, Sem.run_bind, hr, Result.andThen_ok]
  exact h
set_option maxRecDepth 100000 in
set_option maxHeartbeats 400000 in
theorem refFlush_any {F : Nat → Prop} {S T n cS cT : Nat} {q : Value} {d : Dv} (i : Int) (w : World) (hF : ∀ k, F k → k < w.heap.size) (h : RefV w F S T n cS cT q d) :
    Calls Tryd.prog 48 #[.agg (refA S T n cS cT q), .int .i64 i] w fun e w' => Below w.heap.size w w' ∧ ∃ q', e = .returned (.tuple #[.agg (refA S T n cS cT q'), .int .i64 (errR (inR n i))]) ∧ RefV w' F S T n cS cT q' (d.flush n i) := by
  obtain ⟨a, c, rfl⟩ := h.waits.slice_n
  obtain ⟨b0, hz0, bX, bY⟩ := two_box3 w 36 (.slice (some ⟨S, 0, none⟩) n cS) (.slice (some ⟨T, 0, none⟩) n cT) (.slice a d.waits.length c) (.slice none 0 0) (.slice none 0 0) (.slice none 0 0)
  obtain ⟨W0, hW0⟩ : ∃ W0, ((w.alloc (.cells (refA S T n cS cT (.slice a d.waits.length c)) 36)).alloc (.cells #[.slice none 0 0, .slice none 0 0, .slice none 0 0] 36)) = W0 := ⟨_, rfl⟩
  unfold refA at hW0
  rw [hW0] at b0 hz0 bX bY
  change ((w.alloc (.cells (refA S T n cS cT (.slice a d.waits.length c)) 36)).alloc (.cells #[.slice none 0 0, .slice none 0 0, .slice none 0 0] 36)) = W0 at hW0
  have HLI := Lib.hid (line_any (n := n) i W0 (.slice (some ⟨S, 0, none⟩) n cS) (.slice (some ⟨T, 0, none⟩) n cT) (.slice a d.waits.length c) _ rfl)
  have H2 := Lib.hid ((h.wide (fun k => k = w.heap.size ∨ k = w.heap.size + 1) (fun k hk => by omega)).below b0)
  have HFF := Lib.hid hF
  have hm := h.most
  have H := Lib.hid h
  have HB0 := Lib.hid b0
  have HX := Lib.hid bX
  have HY := Lib.hid bY
  obtain ⟨x0, x1, x2, -⟩ := bX.cells
  clear h b0 hF bX bY
  cases hr : inR n i with
  | false =>
    have HD : Hid (d.flush n i = d) := show _ = _ by unfold Dv.flush; rw [hr]; rfl
    rw [hr] at HLI
    go_enter Tryd.func48, Tryd.ntmps48
    go_wp2_with fail
    refine HLI.out.mono ?_
    rintro e w1 ⟨rfl, hb⟩
    clear hW0 x0 x1 x2
    have z1 := hb.size
    obtain ⟨c0, c1, c2, -⟩ := (HX.out.below hb (by omega)).cells
    obtain ⟨e0, e1, e2, f0, f1, f2⟩ := (HY.out.below hb (by omega)).cells
    have HB1 := Lib.hid hb
    clear hb
    go_wp2_with fail
    refine bodyPost_ret (v := .tuple #[.agg (refA S T n cS cT (.slice a d.waits.length c)), .int .i64 4]) (by simp [results, Tryd.results48, go_sem, World.cell?_setCell_same', e0, e1, e2]) rfl ?_
    refine ⟨below_set3 (HB0.out.trans (HB1.out.mono (by omega))) (by omega) _ _ _, .slice a d.waits.length c, rfl, ?_⟩
    rw [HD.out]
    exact H.out.below (below_set3 (HB0.out.trans (HB1.out.mono (by omega))) (by omega) _ _ _)
  | true =>
    have hr' := inR_iff.1 hr
    obtain ⟨j, rfl⟩ := Int.eq_ofNat_of_zero_le hr'.1
    have hj : j < n := by omega
    have hL := lineAt_length H.out.ok.seen hj
    have HD : Hid (d.flush n (j : Int) = { d with waits := keepW d.waits (j : Int) ++ [(j, lineAt d.seen j)] }) := show _ = _ by unfold Dv.flush; rw [hr, if_pos rfl, Int.toNat_natCast]; rfl
    have HOK := Lib.hid (H.out.ok.flush (j : Int))
    obtain ⟨L, hLL⟩ : ∃ L, lineAt d.seen j = L := ⟨_, rfl⟩
    have HWO := Lib.hid (fun (W : World) (hb : Below W0.heap.size W0 W) => without_any (j : Int) W (H2.out.below hb))
    have HLD := Lib.hid (fun (W : World) (hk : RefV W (two F w.heap.size) S T n cS cT (.slice a d.waits.length c) d) => load_line Tryd.underlying48 rfl (by kernel_rfl) hk.seen j hj)
    rw [hLL] at HLD HD
    rw [hr] at HLI
    have hjI : (j : Int) < (n : Int) := by omega
    have h8 : L.length = 8 := by rw [← hLL]; exact hL
    have HL8 := Lib.hid h8
    clear hLL hL
    go_enter Tryd.func48, Tryd.ntmps48
    go_wp2_with fail
    refine HLI.out.mono ?_
    rintro e w1 ⟨rfl, hb⟩
    clear hW0 x0 x1 x2
    have z1 := hb.size
    have hd : Below w1.heap.size w1 w1.drew := Below.drew (Below.refl _ _)
    have hX1 := (HX.out.below hb (by omega))
    have HX2 := Lib.hid (hX1.below hd hX1.lt)
    have HY2 := Lib.hid ((HY.out.below hb (by omega)).below hd (by omega))
    have HB2 : Hid (Below W0.heap.size W0 w1.drew) := show Below _ _ _ from hb.trans (hd.mono z1)
    have HK2 : Hid (RefV w1.drew (two F w.heap.size) S T n cS cT (.slice a d.waits.length c) d) := show RefV _ _ _ _ _ _ _ _ _ from H2.out.below HB2.out
    clear hb hd hX1
    go_wp2_with fail
    refine wp_region_M 13 (fun W : World => W.cell? ⟨w.heap.size, 0, none⟩ = some (.slice (some ⟨S, 0, none⟩) n cS) ∧ W.cell? ⟨w.heap.size, 1, none⟩ = some (.slice (some ⟨T, 0, none⟩) n cT) ∧ W.cell? ⟨w.heap.size, 2, none⟩ = some (.slice a d.waits.length c) ∧ RefV W (two F w.heap.size) S T n cS cT (.slice a d.waits.length c) d) (by kernel_rfl) ?_
    have hR : (fun W : World => W.cell? ⟨w.heap.size, 0, none⟩ = some (.slice (some ⟨S, 0, none⟩) n cS) ∧ W.cell? ⟨w.heap.size, 1, none⟩ = some (.slice (some ⟨T, 0, none⟩) n cT) ∧ W.cell? ⟨w.heap.size, 2, none⟩ = some (.slice a d.waits.length c) ∧ RefV W (two F w.heap.size) S T n cS cT (.slice a d.waits.length c) d) w1.drew := ⟨HX2.out.cells.1, HX2.out.cells.2.1, HX2.out.cells.2.2.1, HK2.out⟩
    have HLR := Lib.hid (fun (W : World) (hS : W.cell? ⟨w.heap.size, 0, none⟩ = some (.slice (some ⟨S, 0, none⟩) n cS) ∧ W.cell? ⟨w.heap.size, 1, none⟩ = some (.slice (some ⟨T, 0, none⟩) n cT) ∧ W.cell? ⟨w.heap.size, 2, none⟩ = some (.slice a d.waits.length c) ∧ RefV W (two F w.heap.size) S T n cS cT (.slice a d.waits.length c) d) => HLD.out W hS.2.2.2)
    have HBU := Lib.hid (build_refW (j : Int) h8)
    have HSL := Lib.hid (slice_refW (j, L) h8)
    have HCC := Lib.hid (fun (W : World) => show (cellsW [(j, L)]).length = 1 * 9 ∧ ∀ jj y, (cellsW [(j, L)])[jj]? = some y → (W.alloc (.cells (waitA (j, L)) 50)).cell? ((⟨W.heap.size, 0, none⟩ : Addr).add jj) = some y from
      ⟨cellsW_length [(j, L)] (by simpa using h8), fun jj y hy => by
        rw [Addr.add_mid, Nat.zero_add, cell_of_row _ W.heap.size jj _ _ _ (World.alloc_heap_new W _), ← hy, cellsW_cons]
        simp [cellsW]⟩)
    obtain ⟨X, hX⟩ : ∃ X, (vals L).toArray = X := ⟨_, rfl⟩
    obtain ⟨Y, hY⟩ : ∃ Y, waitA (j, L) = Y := ⟨_, rfl⟩
    rw [show (Value.int .i64 (j : Int) :: vals L).toArray = Y from hY, hX] at HBU
    rw [hX] at HLR
    rw [hY] at HSL HCC
    clear hX hY
    (refine wpAnyM_take (i := 0) (v := ?_) rfl (by kernel_rfl) (by kernel_rfl) (fun _ _ _ h => h) (Or.inl ⟨by rfl, ?_⟩) hR ?_; rotate_left; (focus (intro w hSw; (try dsimp only at hSw); go_simp; (try with_reducible rfl))); (try simp only [put_laws])); (refine wpAnyM_take (i := 1) (v := ?_) rfl (by kernel_rfl) (by kernel_rfl) (fun _ _ _ h => h) (Or.inl ⟨by rfl, ?_⟩) hR ?_; rotate_left; (focus (intro w hSw; (try dsimp only at hSw); go_simp; (try with_reducible rfl))); (try simp only [put_laws])); (refine wpAnyM_take (i := 3) (v := ?_) rfl (by kernel_rfl) (by kernel_rfl) (fun _ _ _ h => h) (Or.inl ⟨by rfl, ?_⟩) hR ?_; rotate_left; (focus (intro w hSw; (try dsimp only at hSw); go_simp; (try with_reducible rfl))); (try simp only [put_laws])); (refine wpAnyM_take (i := 4) (v := ?_) rfl (by kernel_rfl) (by kernel_rfl) (fun _ _ _ h => h) (Or.inl ⟨by rfl, ?_⟩) hR ?_; rotate_left; (focus (intro w hSw; (try dsimp only at hSw); go_simp; (try with_reducible rfl))); (try simp only [put_laws])); (refine wpAnyM_take (i := 5) (v := ?_) rfl (by kernel_rfl) (by kernel_rfl) (fun _ _ _ h => h) (Or.inl ⟨by rfl, ?_⟩) hR ?_; rotate_left; (focus (intro w hSw; (try dsimp only at hSw); go_simp; (try with_reducible rfl))); (try simp only [put_laws])); (refine wpAnyM_take (i := 6) (v := ?_) rfl (by kernel_rfl) (by kernel_rfl) (fun _ _ _ h => h) (Or.inl ⟨by rfl, ?_⟩) hR ?_; rotate_left; (focus (intro w hSw; (try dsimp only at hSw); go_simp; (try with_reducible rfl))); (try simp only [put_laws])); (refine wpAnyM_take (i := 7) (v := ?_) rfl (by kernel_rfl) (by kernel_rfl) (fun _ _ _ h => h) (Or.inl ⟨by rfl, ?_⟩) hR ?_; rotate_left; (focus (intro w hSw; (try dsimp only at hSw); go_simp; (try with_reducible rfl))); (try simp only [put_laws]))
    (refine wpAnyM_take (i := 8) (v := _) rfl (by kernel_rfl) (by kernel_rfl) (fun _ _ _ h => h) (Or.inl ⟨by rfl, fun w hSw => exec_load_eq rfl rfl (HLR.out w hSw)⟩) hR ?_; (try simp only [put_laws]))
    refine wpAnyM_take (i := 9) (v := .agg Y) rfl (by kernel_rfl) (by kernel_rfl) (fun _ _ _ h => h) (Or.inl ⟨by rfl, fun w hSw => exec_build_eq (u := .int .i64 (j : Nat)) (v := .agg X) (r := .agg Y) rfl (by rfl) (by rfl) (HBU.out w)⟩) hR ?_
    (try simp only [put_laws])
    obtain ⟨i0, hi, hz0', hz1, hz2⟩ := info_parts infoV
    have hm5 : (keepW d.waits (j : Int)).length ≤ 1024 := by have := keepW_len d.waits (j : Int); have := H.out.ok.few; omega
    have HRR := Lib.hid (fun (W : World) (hb : Below W0.heap.size W0 W) => show W.cell? ⟨w.heap.size, 0, none⟩ = some (.slice (some ⟨S, 0, none⟩) n cS) ∧ W.cell? ⟨w.heap.size, 1, none⟩ = some (.slice (some ⟨T, 0, none⟩) n cT) ∧ W.cell? ⟨w.heap.size, 2, none⟩ = some (.slice a d.waits.length c) ∧ RefV W (two F w.heap.size) S T n cS cT (.slice a d.waits.length c) d from
      ⟨(HX.out.below hb (by omega)).cells.1, (HX.out.below hb (by omega)).cells.2.1, (HX.out.below hb (by omega)).cells.2.2.1, H2.out.below hb⟩)
    have hz1d : w1.drew.heap.size = w1.heap.size := rfl
    refine wpAnyM_two (i := 2) (j := 10) rfl rfl (by kernel_rfl) (fun K hK => ?_) (fun K hK => ?_)
    · rw [if_pos (by rfl)]
      (try simp only [List.getElem_toArray, List.getElem_cons_succ, List.getElem_cons_zero])
      go_simp
      refine (HWO.out _ HB2.out).mono ?_
      rintro e w2 ⟨q', rfl, hg2, ho2, hb2⟩
      have z2 := hb2.size
      obtain ⟨qa, qc, rfl⟩ := hg2.slice_n
      have hBB := HB2.out.trans (hb2.mono (by omega))
      refine hK _ _ (fun _ => HRR.out w2 hBB) ?_
      clear hK K hR
      have hR := HRR.out w2 hBB
      (try simp only [put_laws])
      (refine wpAnyM_one (i := 10) rfl (by kernel_rfl) (fun K hK => ?_); rw [if_pos (by rfl)]; (try simp only [elem_laws]))
      refine wp_slice_eq 34 _ rfl (.agg Y) _ (by rfl) (HSL.out w2) ?_
      have hza : (w2.alloc (.cells Y 50)).heap.size = w2.heap.size + 1 := by simp
      have HB3 := Lib.hid (hBB.alloc (by omega) (.cells Y 50))
      have HG3 := Lib.hid (hg2.keeps ho2 fun k _ hl => Below.heap_alloc w2 (.cells Y 50) k hl)
      have HC3 := Lib.hid (HCC.out w2)
      have HO3 : Hid (OwnIn (fun k => w1.heap.size ≤ k ∧ k < (w2.alloc (.cells Y 50)).heap.size) (.slice qa (keepW d.waits (j : Int)).length qc)) := show OwnIn _ _ from ho2.imp id fun h g hg => ⟨by have := (h g hg).1; omega, by have := (h g hg).2; simp; omega⟩
      refine hK _ _ (fun _ => HRR.out _ HB3.out) ?_
      clear hK K hR
      have hR := HRR.out _ HB3.out
      (try simp only [put_laws])
      have hB3' := HB3.out.size
      (refine wpAnyM_one (i := 11) rfl (by kernel_rfl) (fun K hK => ?_); rw [if_pos (by rfl)]; (try simp only [elem_laws]))
      refine wp_append_V _ _ 34 rfl 50 i0 (.agg zero9) 9 72 Tryd.underlying34 hi hz0' hz1 hz2 rfl (by decide) _ _ _ rfl HG3.out _ 1 1 rfl (by decide) (cellsW [(j, L)]) HC3.out.1 HC3.out.2 (cellsW_one _) (by omega) (by omega) ?_
      intro v4 w4 g4 t4 o4
      have z4 := t4.size
      have hO4 := o4 _ HO3.out
      have hq4 : ∀ k, ownB (.slice qa (keepW d.waits (j : Int)).length qc) k → W0.heap.size ≤ k := fun k hk => by
        rcases HO3.out with ⟨ad, e⟩ | h
        · exact absurd e (hk.2 ad)
        · have := (h k hk.1).1; omega
      have hB5 := HB3.out.trans (Turn.below t4 hq4 hB3')
      obtain ⟨va, vc, rfl⟩ := g4.slice
      have HO4 : Hid (OwnIn (fun k => w1.heap.size ≤ k) (.slice va ((keepW d.waits (j : Int)).length + 1) vc)) := show OwnIn _ _ from hO4.imp id fun h g hg => by
        rcases h g hg with h | h
        · exact h.1
        · have := h.1; omega
      have HG4 := Lib.hid g4
      have HB5 := Lib.hid hB5
      refine hK _ _ (fun _ => HRR.out w4 HB5.out) ?_
      clear hK K hR
      have hR := HRR.out w4 HB5.out
      clear g4 t4 o4 hO4 hq4 hB5
      (try simp only [put_laws])
      (refine wpAnyM_take (i := 12) (v := ?_) rfl (by kernel_rfl) (by kernel_rfl) (fun _ _ _ h => h) (Or.inl ⟨by rfl, ?_⟩) hR ?_; rotate_left; (focus (intro w hSw; (try dsimp only at hSw); go_simp; (try with_reducible rfl))); (try simp only [put_laws]))
      (refine wpAnyM_last rfl (by kernel_rfl) (fun K hK => ?_); rw [if_pos (by rfl)]; (try simp only [elem_laws]))
      clear hR
      obtain ⟨c0, c1, c2, g0, g1, g2⟩ := (HX.out.below HB5.out (by omega)).cells
      obtain ⟨e0, e1, e2, f0, f1, f2⟩ := (HY.out.below HB5.out (by omega)).cells
      go_simp
      refine hK _ _ ?_
      clear hK K
      (try simp only [put_laws])
      refine wpAnyM_done (by kernel_rfl) ?_ _
      go_wp2_with fail
      refine bodyPost_ret (v := .tuple #[.agg (refA S T n cS cT (.slice va ((keepW d.waits (j : Int)).length + 1) vc)), .int .i64 0]) (by simp [results, Tryd.results48, go_sem, World.cell?_setCell_same', e0, e1, e2]) rfl ?_
      have hBf := below_set3 ((HB0.out.trans (HB5.out.mono (by omega))).setCell (p := ⟨w.heap.size, 2, none⟩) (Nat.le_refl _) (.slice va ((keepW d.waits (j : Int)).length + 1) vc)) (show w.heap.size ≤ w.heap.size + 1 by omega) (.slice (some ⟨S, 0, none⟩) n cS) (.slice (some ⟨T, 0, none⟩) n cT) (.slice va ((keepW d.waits (j : Int)).length + 1) vc)
      refine ⟨hBf, _, rfl, ?_⟩
      have hk : ∀ k, ¬ two F w.heap.size k → ((((w4.setCell ⟨w.heap.size, 2, none⟩ (.slice va ((keepW d.waits (j : Int)).length + 1) vc)).setCell ⟨w.heap.size + 1, 0, none⟩ (.slice (some ⟨S, 0, none⟩) n cS)).setCell ⟨w.heap.size + 1, 1, none⟩ (.slice (some ⟨T, 0, none⟩) n cT)).setCell ⟨w.heap.size + 1, 2, none⟩ (.slice va ((keepW d.waits (j : Int)).length + 1) vc)).heap[k]? = w4.heap[k]? := fun k hk =>
        (heap_set3 _ _ k (fun e => hk (.inr (.inr e))) _ _ _).trans (Below.heap_setCell _ _ _ k (fun e => hk (.inr (.inl e))))
      have nq : ∀ k, w1.heap.size ≤ k → ¬ two F w.heap.size k := fun k h1 h2 => by
        rcases h2 with h2 | h2 | h2
        · have := HFF.out k h2; omega
        · omega
        · omega
      have hG := HG4.out.keeps HO4.out fun k hkk _ => hk k (nq k hkk)
      have hQ : OwnIn (fun k => ¬ two F w.heap.size k) (.slice va ((keepW d.waits (j : Int)).length + 1) vc) := HO4.out.imp id fun h g hg => nq g (h g hg)
      have hA := (H2.out.below HB5.out).keeps (fun k hkk _ => hk k hkk)
      have hOK := HOK.out
      rw [HD.out] at hOK ⊢
      exact (hA.set_waits (l := keepW d.waits (j : Int) ++ [(j, L)]) (by rw [List.length_append, cellsW_append]; exact hG) hQ hOK).weak fun k h => .inl h
    · rw [if_pos (by rfl)]
      (try simp only [List.getElem_toArray, List.getElem_cons_succ, List.getElem_cons_zero])
      refine wp_slice_eq 34 _ rfl (.agg Y) _ (by rfl) (HSL.out w1.drew) ?_
      have hBB := HB2.out.alloc (by omega) (.cells Y 50)
      refine hK _ _ (fun _ => HRR.out _ hBB) ?_
      clear hK K hR
      have hR := HRR.out _ hBB
      (try simp only [put_laws])
      (refine wpAnyM_one (i := 2) rfl (by kernel_rfl) (fun K hK => ?_); rw [if_pos (by rfl)]; (try simp only [elem_laws]))
      go_simp
      refine (HWO.out _ hBB).mono ?_
      rintro e w2 ⟨q', rfl, hg2, ho2, hb2⟩
      have z2 := hb2.size
      simp only [World.size_alloc] at z2
      obtain ⟨qa, qc, rfl⟩ := hg2.slice_n
      have HB3 := Lib.hid (hBB.trans (hb2.mono (by simp; omega)))
      have HG3 := Lib.hid hg2
      have HC3 : Hid ((cellsW [(j, L)]).length = 1 * 9 ∧ ∀ jj y, (cellsW [(j, L)])[jj]? = some y → w2.cell? ((⟨w1.drew.heap.size, 0, none⟩ : Addr).add jj) = some y) := show _ ∧ _ from
        ⟨(HCC.out w1.drew).1, fun jj y hy => by
          have := (HCC.out w1.drew).2 jj y hy
          rw [Addr.add_mid] at this ⊢
          exact (World.cell?_of_block (a := ⟨w1.drew.heap.size, 0 + jj, none⟩) (hb2.block _ (by simp))).trans this⟩
      have HO3 : Hid (OwnIn (fun k => w1.heap.size ≤ k ∧ k < w2.heap.size) (.slice qa (keepW d.waits (j : Int)).length qc)) := show OwnIn _ _ from ho2.imp id fun h g hg => ⟨by have := (h g hg).1; simp only [World.size_alloc] at this; omega, (h g hg).2⟩
      refine hK _ _ (fun _ => HRR.out _ HB3.out) ?_
      clear hK K hR
      have hR := HRR.out _ HB3.out
      (try simp only [put_laws])
      have hB3' := HB3.out.size
      (refine wpAnyM_one (i := 11) rfl (by kernel_rfl) (fun K hK => ?_); rw [if_pos (by rfl)]; (try simp only [elem_laws]))
      refine wp_append_V _ _ 34 rfl 50 i0 (.agg zero9) 9 72 Tryd.underlying34 hi hz0' hz1 hz2 rfl (by decide) _ _ _ rfl HG3.out _ 1 1 rfl (by decide) (cellsW [(j, L)]) HC3.out.1 HC3.out.2 (cellsW_one _) (by omega) (by omega) ?_
      intro v4 w4 g4 t4 o4
      have z4 := t4.size
      have hO4 := o4 _ HO3.out
      have hq4 : ∀ k, ownB (.slice qa (keepW d.waits (j : Int)).length qc) k → W0.heap.size ≤ k := fun k hk => by
        rcases HO3.out with ⟨ad, e⟩ | h
        · exact absurd e (hk.2 ad)
        · have := (h k hk.1).1; omega
      have hB5 := HB3.out.trans (Turn.below t4 hq4 hB3')
      obtain ⟨va, vc, rfl⟩ := g4.slice
      have HO4 : Hid (OwnIn (fun k => w1.heap.size ≤ k) (.slice va ((keepW d.waits (j : Int)).length + 1) vc)) := show OwnIn _ _ from hO4.imp id fun h g hg => by
        rcases h g hg with h | h
        · exact h.1
        · have := h.1; omega
      have HG4 := Lib.hid g4
      have HB5 := Lib.hid hB5
      refine hK _ _ (fun _ => HRR.out w4 HB5.out) ?_
      clear hK K hR
      have hR := HRR.out w4 HB5.out
      clear g4 t4 o4 hO4 hq4 hB5
      (try simp only [put_laws])
      (refine wpAnyM_take (i := 12) (v := ?_) rfl (by kernel_rfl) (by kernel_rfl) (fun _ _ _ h => h) (Or.inl ⟨by rfl, ?_⟩) hR ?_; rotate_left; (focus (intro w hSw; (try dsimp only at hSw); go_simp; (try with_reducible rfl))); (try simp only [put_laws]))
      (refine wpAnyM_last rfl (by kernel_rfl) (fun K hK => ?_); rw [if_pos (by rfl)]; (try simp only [elem_laws]))
      clear hR
      obtain ⟨c0, c1, c2, g0, g1, g2⟩ := (HX.out.below HB5.out (by omega)).cells
      obtain ⟨e0, e1, e2, f0, f1, f2⟩ := (HY.out.below HB5.out (by omega)).cells
      go_simp
      refine hK _ _ ?_
      clear hK K
      (try simp only [put_laws])
      refine wpAnyM_done (by kernel_rfl) ?_ _
      go_wp2_with fail
      refine bodyPost_ret (v := .tuple #[.agg (refA S T n cS cT (.slice va ((keepW d.waits (j : Int)).length + 1) vc)), .int .i64 0]) (by simp [results, Tryd.results48, go_sem, World.cell?_setCell_same', e0, e1, e2]) rfl ?_
      have hBf := below_set3 ((HB0.out.trans (HB5.out.mono (by omega))).setCell (p := ⟨w.heap.size, 2, none⟩) (Nat.le_refl _) (.slice va ((keepW d.waits (j : Int)).length + 1) vc)) (show w.heap.size ≤ w.heap.size + 1 by omega) (.slice (some ⟨S, 0, none⟩) n cS) (.slice (some ⟨T, 0, none⟩) n cT) (.slice va ((keepW d.waits (j : Int)).length + 1) vc)
      refine ⟨hBf, _, rfl, ?_⟩
      have hk : ∀ k, ¬ two F w.heap.size k → ((((w4.setCell ⟨w.heap.size, 2, none⟩ (.slice va ((keepW d.waits (j : Int)).length + 1) vc)).setCell ⟨w.heap.size + 1, 0, none⟩ (.slice (some ⟨S, 0, none⟩) n cS)).setCell ⟨w.heap.size + 1, 1, none⟩ (.slice (some ⟨T, 0, none⟩) n cT)).setCell ⟨w.heap.size + 1, 2, none⟩ (.slice va ((keepW d.waits (j : Int)).length + 1) vc)).heap[k]? = w4.heap[k]? := fun k hk =>
        (heap_set3 _ _ k (fun e => hk (.inr (.inr e))) _ _ _).trans (Below.heap_setCell _ _ _ k (fun e => hk (.inr (.inl e))))
      have nq : ∀ k, w1.heap.size ≤ k → ¬ two F w.heap.size k := fun k h1 h2 => by
        rcases h2 with h2 | h2 | h2
        · have := HFF.out k h2; omega
        · omega
        · omega
      have hG := HG4.out.keeps HO4.out fun k hkk _ => hk k (nq k hkk)
      have hQ : OwnIn (fun k => ¬ two F w.heap.size k) (.slice va ((keepW d.waits (j : Int)).length + 1) vc) := HO4.out.imp id fun h g hg => nq g (h g hg)
      have hA := (H2.out.below HB5.out).keeps (fun k hkk _ => hk k hkk)
      have hOK := HOK.out
      rw [HD.out] at hOK ⊢
      exact (hA.set_waits (l := keepW d.waits (j : Int) ++ [(j, L)]) (by rw [List.length_append, cellsW_append]; exact hG) hQ hOK).weak fun k h => .inl h
end Go.Proofs.YtohdgjmmekgcmaaDoor

/-
  The document's device: Fence.
-/
namespace Go.Proofs.YtohdgjmmekgcmaaDoor
open Go.RowKit Go.Shelf

/-- In the rounds of a fence, of a crash. -/
structure RfI (w : World) (F : Nat → Prop) (S n cS : Nat) (q : Value) (d : Dv) (us : List Int) (W : World) : Prop where
  ex : ∃ T cT, Box3 W w.heap.size 36 (.slice (some ⟨S, 0, none⟩) n cS) (.slice (some ⟨T, 0, none⟩) n cT) q ∧ RefV W (two F w.heap.size) S T n cS cT q { d with stays := us }
  res : Box3 W (w.heap.size + 1) 36 (.slice none 0 0) (.slice none 0 0) (.slice none 0 0)
  below : Below w.heap.size w W
  size : w.heap.size + 2 ≤ W.heap.size
set_option maxRecDepth 100000 in
set_option maxHeartbeats 1000000 in
theorem refFence_any {F : Nat → Prop} {S T n cS cT : Nat} {q : Value} {d : Dv} (w : World) (hF : ∀ k, F k → k < w.heap.size) (h : RefV w F S T n cS cT q d) :
    Calls Tryd.prog 49 #[.agg (refA S T n cS cT q)] w fun e w' => Below w.heap.size w w' ∧ ∃ T' cT', e = .returned (.agg (refA S T' n cS cT' (.slice none 0 0))) ∧ RefV w' F S T' n cS cT' (.slice none 0 0) d.fence := by
  obtain ⟨a, c, rfl⟩ := h.waits.slice_n
  obtain ⟨b0, hz0, bX, bY⟩ := two_box3 w 36 (.slice (some ⟨S, 0, none⟩) n cS) (.slice (some ⟨T, 0, none⟩) n cT) (.slice a d.waits.length c) (.slice none 0 0) (.slice none 0 0) (.slice none 0 0)
  obtain ⟨W0, hW0⟩ : ∃ W0, ((w.alloc (.cells (refA S T n cS cT (.slice a d.waits.length c)) 36)).alloc (.cells #[.slice none 0 0, .slice none 0 0, .slice none 0 0] 36)) = W0 := ⟨_, rfl⟩
  unfold refA at hW0
  rw [hW0] at b0 hz0 bX bY
  change ((w.alloc (.cells (refA S T n cS cT (.slice a d.waits.length c)) 36)).alloc (.cells #[.slice none 0 0, .slice none 0 0, .slice none 0 0] 36)) = W0 at hW0
  have H0 : Hid (RfI w F S n cS (.slice a d.waits.length c) d (putAll d.stays (d.waits.take 0)) W0) := show RfI _ _ _ _ _ _ _ _ _ from ⟨⟨T, cT, bX, (h.wide (fun k => k = w.heap.size ∨ k = w.heap.size + 1) (fun k hk => by omega)).below b0⟩, bY, b0, by omega⟩
  have HFF := Lib.hid hF
  have hm := h.most
  have HW8 := Lib.hid h.ok.waits
  obtain ⟨N, hN⟩ : ∃ N, d.waits.length = N := ⟨_, rfl⟩
  rw [hN] at H0 hW0 ⊢
  have HN := Lib.hid hN
  have hNN : N ≤ 1024 := by have := h.ok.few; omega
  clear h b0 hF bX bY hN hz0
  go_enter Tryd.func49, Tryd.ntmps49
  go_wp2_with fail
  clear hW0
  go_loopw [3] (fun i wr => ∃ k : Nat, k ≤ N ∧ i = .int .i64 (k : Nat) ∧ Hid (RfI w F S n cS (.slice a N c) d (putAll d.stays (d.waits.take k)) wr)) (fun i _ => N - (intOf i).toNat)
  case atStart => exact ⟨0, by omega, rfl, H0⟩
  case round =>
    obtain ⟨k, hk, rfl, HI⟩ := hrel
    clear H0
    obtain ⟨T1, cT1, hX1, hV1⟩ := HI.out.ex
    have hz1 := HI.out.size
    by_cases hlt : k < N
    · have hkl : k < d.waits.length := by rw [HN.out]; exact hlt
      have hDW := hV1.waits
      rw [HN.out] at hDW
      obtain ⟨g, rfl, hr⟩ := hDW.row (by omega)
      have hx8 : ∀ x ∈ d.waits, x.2.length = 8 := fun x hx => (HW8.out x hx).2
      have hith := HW8.out _ (List.getElem_mem hkl)
      have hie : d.waits[k] = ithW d.waits k := by unfold ithW; rw [List.getElem?_eq_getElem hkl]; rfl
      rw [hie] at hith
      have HTK := Lib.hid (take_snoc d.waits k hkl)
      rw [show d.waits[k]?.getD (0, []) = ithW d.waits k from rfl] at HTK
      have hgF : ¬ two F w.heap.size g := by
        rcases hV1.outQ with ⟨ad, e⟩ | h
        · simp only [Value.slice.injEq] at e; omega
        · exact h g rfl
      obtain ⟨x, hx⟩ : ∃ x, ithW d.waits k = x := ⟨_, rfl⟩
      have hcell : ∀ W : World, (∀ kk, ¬ two F w.heap.size kk → kk < wr.heap.size → W.heap[kk]? = wr.heap[kk]?) → W.cell? ⟨g, k * 9, none⟩ = some (.int .i64 (x.1 : Nat)) ∧ W.rangeAt g (k * 9 + 1) (vals x.2) := fun W hW => by
        have := wait_cells (own_keeps hr (fun hl => hW g hgF hl)) hx8 k hkl
        rw [hx] at this
        exact this
      rw [hx] at hith HTK
      obtain ⟨z, hz⟩ : ∃ z, x.1 = z := ⟨_, rfl⟩
      obtain ⟨L, hL⟩ : ∃ L, x.2 = L := ⟨_, rfl⟩
      rw [hz, hL] at hcell hith
      have HZL : Hid (x.1 = z ∧ x.2 = L) := show _ ∧ _ from ⟨hz, hL⟩
      have HITH := Lib.hid hith
      have hd : Below wr.heap.size wr wr.drew := Below.drew (Below.refl _ _)
      have HC := Lib.hid (fun (W : World) (hb : Below wr.drew.heap.size wr.drew W) => hcell W fun kk _ hl => hb.block kk hl)
      have HX1 := Lib.hid (hX1.below hd hX1.lt)
      have HV1 := Lib.hid (hV1.below hd)
      have HW := Lib.hid (refWith_any z hith.1 L hith.2 wr.drew hm HV1.out.stays)
      have HLR := Lib.hid (fun (W : World) (hS : W.cell? ⟨w.heap.size, 1, none⟩ = some (.slice (some ⟨T1, 0, none⟩) n cT1) ∧ W.cell? ⟨w.heap.size, 2, none⟩ = some (.slice (some ⟨g, 0, none⟩) N c) ∧ W.cell? ⟨g, k * 9, none⟩ = some (.int .i64 (z : Nat)) ∧ W.rangeAt g (k * 9 + 1) (vals L)) =>
        run_loadAt_mid (P := Tryd.prog) W g (k * 9 + 1) 48 _ _ hS.2.2.2 Tryd.underlying48 rfl (by rw [vals_length, hith.2]; kernel_rfl))
      have hc0 := HC.out wr.drew (Below.refl _ _)
      have hR : (fun W : World => W.cell? ⟨w.heap.size, 1, none⟩ = some (.slice (some ⟨T1, 0, none⟩) n cT1) ∧ W.cell? ⟨w.heap.size, 2, none⟩ = some (.slice (some ⟨g, 0, none⟩) N c) ∧ W.cell? ⟨g, k * 9, none⟩ = some (.int .i64 (z : Nat)) ∧ W.rangeAt g (k * 9 + 1) (vals L)) wr.drew := ⟨HX1.out.cells.2.1, HX1.out.cells.2.2.1, hc0.1, hc0.2⟩
      obtain ⟨c0, c1, c2, g0, g1, g2⟩ := hX1.cells
      have k2 : (k : Int) < (N : Int) := by omega
      have HB1 : Hid (Below w.heap.size w wr.drew) := show Below _ _ _ from HI.out.below.trans (hd.mono (by omega))
      have HY1 := Lib.hid (HI.out.res.below hd (by omega))
      clear hX1 hV1 hDW hr hx8 hie hx hcell hz hL hith hd hc0 hkl hgF
      go_wp2_with fail
      refine wp_region_M 16 (fun W : World => W.cell? ⟨w.heap.size, 1, none⟩ = some (.slice (some ⟨T1, 0, none⟩) n cT1) ∧ W.cell? ⟨w.heap.size, 2, none⟩ = some (.slice (some ⟨g, 0, none⟩) N c) ∧ W.cell? ⟨g, k * 9, none⟩ = some (.int .i64 (z : Nat)) ∧ W.rangeAt g (k * 9 + 1) (vals L)) (by kernel_rfl) ?_
      clear c0 c1 c2 g0 g1 g2
      (refine wpAnyM_take (i := 0) (v := ?_) rfl (by kernel_rfl) (by kernel_rfl) (fun _ _ _ h => h) (Or.inl ⟨by rfl, ?_⟩) hR ?_; rotate_left; (focus (intro w hSw; (try dsimp only at hSw); go_simp; (try with_reducible rfl))); (try simp only [put_laws])); (refine wpAnyM_take (i := 1) (v := ?_) rfl (by kernel_rfl) (by kernel_rfl) (fun _ _ _ h => h) (Or.inl ⟨by rfl, ?_⟩) hR ?_; rotate_left; (focus (intro w hSw; (try dsimp only at hSw); go_simp; (try with_reducible rfl))); (try simp only [put_laws])); (refine wpAnyM_take (i := 2) (v := ?_) rfl (by kernel_rfl) (by kernel_rfl) (fun _ _ _ h => h) (Or.inl ⟨by rfl, ?_⟩) hR ?_; rotate_left; (focus (intro w hSw; (try dsimp only at hSw); go_simp; (try with_reducible rfl))); (try simp only [put_laws])); (refine wpAnyM_take (i := 3) (v := ?_) rfl (by kernel_rfl) (by kernel_rfl) (fun _ _ _ h => h) (Or.inl ⟨by rfl, ?_⟩) hR ?_; rotate_left; (focus (intro w hSw; (try dsimp only at hSw); go_simp; (try with_reducible rfl))); (try simp only [put_laws])); (refine wpAnyM_take (i := 4) (v := ?_) rfl (by kernel_rfl) (by kernel_rfl) (fun _ _ _ h => h) (Or.inl ⟨by rfl, ?_⟩) hR ?_; rotate_left; (focus (intro w hSw; (try dsimp only at hSw); go_simp; (try with_reducible rfl))); (try simp only [put_laws])); (refine wpAnyM_take (i := 5) (v := ?_) rfl (by kernel_rfl) (by kernel_rfl) (fun _ _ _ h => h) (Or.inl ⟨by rfl, ?_⟩) hR ?_; rotate_left; (focus (intro w hSw; (try dsimp only at hSw); go_simp; (try with_reducible rfl))); (try simp only [put_laws])); (refine wpAnyM_take (i := 6) (v := ?_) rfl (by kernel_rfl) (by kernel_rfl) (fun _ _ _ h => h) (Or.inl ⟨by rfl, ?_⟩) hR ?_; rotate_left; (focus (intro w hSw; (try dsimp only at hSw); go_simp; (try with_reducible rfl))); (try simp only [put_laws])); (refine wpAnyM_take (i := 7) (v := ?_) rfl (by kernel_rfl) (by kernel_rfl) (fun _ _ _ h => h) (Or.inl ⟨by rfl, ?_⟩) hR ?_; rotate_left; (focus (intro w hSw; (try dsimp only at hSw); go_simp; (try with_reducible rfl))); (try simp only [put_laws])); (refine wpAnyM_take (i := 8) (v := ?_) rfl (by kernel_rfl) (by kernel_rfl) (fun _ _ _ h => h) (Or.inl ⟨by rfl, ?_⟩) hR ?_; rotate_left; (focus (intro w hSw; (try dsimp only at hSw); go_simp; (try with_reducible rfl))); (try simp only [put_laws])); (refine wpAnyM_take (i := 9) (v := ?_) rfl (by kernel_rfl) (by kernel_rfl) (fun _ _ _ h => h) (Or.inl ⟨by rfl, ?_⟩) hR ?_; rotate_left; (focus (intro w hSw; (try dsimp only at hSw); go_simp; (try with_reducible rfl))); (try simp only [put_laws])); (refine wpAnyM_take (i := 10) (v := ?_) rfl (by kernel_rfl) (by kernel_rfl) (fun _ _ _ h => h) (Or.inl ⟨by rfl, ?_⟩) hR ?_; rotate_left; (focus (intro w hSw; (try dsimp only at hSw); go_simp; (try with_reducible rfl))); (try simp only [put_laws])); (refine wpAnyM_take (i := 11) (v := ?_) rfl (by kernel_rfl) (by kernel_rfl) (fun _ _ _ h => h) (Or.inl ⟨by rfl, ?_⟩) hR ?_; rotate_left; (focus (intro w hSw; (try dsimp only at hSw); go_simp; (try with_reducible rfl))); (try simp only [put_laws])); (refine wpAnyM_take (i := 12) (v := ?_) rfl (by kernel_rfl) (by kernel_rfl) (fun _ _ _ h => h) (Or.inl ⟨by rfl, ?_⟩) hR ?_; rotate_left; (focus (intro w hSw; (try dsimp only at hSw); go_simp; (try with_reducible rfl))); (try simp only [put_laws]))
      (refine wpAnyM_take (i := 13) (v := _) rfl (by kernel_rfl) (by kernel_rfl) (fun _ _ _ h => h) (Or.inl ⟨by rfl, fun w hSw => exec_load_eq rfl rfl (HLR.out w hSw)⟩) hR ?_; (try simp only [put_laws]))
      (refine wpAnyM_one (i := 14) rfl (by kernel_rfl) (fun K hK => ?_); rw [if_pos (by rfl)]; (try simp only [elem_laws]))
      go_simp
      refine HW.out.mono ?_
      rintro e w5 ⟨T', cT', rfl, oT, gT, b5⟩
      have z5 := b5.size
      have hz5 : wr.drew.heap.size = wr.heap.size := rfl
      have hx5 := HX1.out.below b5 (by omega)
      have hc5 := HC.out w5 b5
      refine hK _ _ (fun _ => ⟨hx5.cells.2.1, hx5.cells.2.2.1, hc5.1, hc5.2⟩) ?_
      clear hK K hR
      have hR : (fun W : World => W.cell? ⟨w.heap.size, 1, none⟩ = some (.slice (some ⟨T1, 0, none⟩) n cT1) ∧ W.cell? ⟨w.heap.size, 2, none⟩ = some (.slice (some ⟨g, 0, none⟩) N c) ∧ W.cell? ⟨g, k * 9, none⟩ = some (.int .i64 (z : Nat)) ∧ W.rangeAt g (k * 9 + 1) (vals L)) w5 := ⟨hx5.cells.2.1, hx5.cells.2.2.1, hc5.1, hc5.2⟩
      obtain ⟨c0, c1, c2, g0, g1, g2⟩ := hx5.cells
      have HX5 := Lib.hid hx5
      have HI6 : Hid (RfI w F S n cS (.slice (some ⟨g, 0, none⟩) N c) d (putAll d.stays (d.waits.take (k + 1))) (w5.setCell ⟨w.heap.size, 1, none⟩ (.slice (some ⟨T', 0, none⟩) n cT'))) := show RfI _ _ _ _ _ _ _ _ _ from by
        have nT : ¬ two F w.heap.size T' := fun h2 => by
          rcases h2 with h2 | h2 | h2
          · have := HFF.out T' h2; omega
          · omega
          · omega
        rw [HTK.out, putAll_snoc, HZL.out.1, HZL.out.2]
        refine ⟨⟨T', cT', hx5.set1 _, ?_⟩, (HY1.out.below b5 (by omega)).other (by omega) _, (HB1.out.trans (b5.mono (by omega))).setCell (p := ⟨w.heap.size, 1, none⟩) (Nat.le_refl _) _, by simp [World.setCell]; omega⟩
        have hA := (HV1.out.below b5).set_stays oT nT
        exact hA.keeps fun kk hk _ => Below.heap_setCell _ _ _ kk (fun e => hk (.inr (.inl e)))
      clear oT b5 hx5 hc5
      (try simp only [put_laws])
      (refine wpAnyM_take (i := 15) (v := ?_) rfl (by kernel_rfl) (by kernel_rfl) (fun _ _ _ h => h) (Or.inl ⟨by rfl, ?_⟩) hR ?_; rotate_left; (focus (intro w hSw; (try dsimp only at hSw); go_simp; (try with_reducible rfl))); (try simp only [put_laws]))
      (refine wpAnyM_last rfl (by kernel_rfl) (fun K hK => ?_); rw [if_pos (by rfl)]; (try simp only [elem_laws]))
      clear hR
      go_simp
      refine hK _ _ ?_
      clear hK K
      (try simp only [put_laws])
      refine wpAnyM_done (by kernel_rfl) ?_ _
      go_wp2_with fail
      go_roundw
      case rel => exact ⟨k + 1, by omega, by go_num, HI6⟩
      case measure => simp [intOf]; omega
    · obtain rfl : k = N := by omega
      obtain ⟨c0, c1, c2, g0, g1, g2⟩ := hX1.cells
      obtain ⟨e0, e1, e2, f0, f1, f2⟩ := HI.out.res.cells
      have HV1 := Lib.hid hV1
      clear hX1 hV1
      go_wp2_with fail
      refine bodyPost_ret (v := .agg (refA S T1 n cS cT1 (.slice none 0 0))) (by simp [results, Tryd.results49, go_sem, World.cell?_setCell_same', e0, e1, e2]) rfl ?_
      have hBf := below_set3 (HI.out.below.setCell (p := ⟨w.heap.size, 2, none⟩) (Nat.le_refl _) (.slice none 0 0)) (show w.heap.size ≤ w.heap.size + 1 by omega) (.slice (some ⟨S, 0, none⟩) n cS) (.slice (some ⟨T1, 0, none⟩) n cT1) (.slice none 0 0)
      refine ⟨hBf, T1, cT1, rfl, ?_⟩
      have hA := HV1.out.keeps (W' := (((wr.setCell ⟨w.heap.size, 2, none⟩ (.slice none 0 0)).setCell ⟨w.heap.size + 1, 0, none⟩ (.slice (some ⟨S, 0, none⟩) n cS)).setCell ⟨w.heap.size + 1, 1, none⟩ (.slice (some ⟨T1, 0, none⟩) n cT1)).setCell ⟨w.heap.size + 1, 2, none⟩ (.slice none 0 0)) fun k hk _ =>
        (heap_set3 _ _ k (fun e => hk (.inr (.inr e))) _ _ _).trans (Below.heap_setCell _ _ _ k (fun e => hk (.inr (.inl e))))
      have hC := hA.set_waits (l := []) (q' := .slice none 0 0) (.inr (World.ownsRow_nil _ _ _ _)) (.inr fun g hg => by cases hg) ⟨hA.ok.seen, hA.ok.stays, (fun _ h => by cases h), List.Pairwise.nil⟩
      have he : d.fence = { ({ d with stays := putAll d.stays (d.waits.take k) } : Dv) with waits := [] } := by
        unfold Dv.fence
        rw [List.take_of_length_le (Nat.le_of_eq HN.out)]
      rw [he]
      exact hC.weak fun k h => .inl h
end Go.Proofs.YtohdgjmmekgcmaaDoor

/-
  The document's device: Crash.
-/
namespace Go.Proofs.YtohdgjmmekgcmaaDoor
open Go.RowKit Go.Shelf

set_option maxRecDepth 100000 in
set_option maxHeartbeats 1000000 in
theorem refCrash_any {F : Nat → Prop} {S T n cS cT : Nat} {q : Value} {d : Dv} (marks : List Bool) (hmk : marks.length ≤ 100000) (v : Value) (w : World) (hF : ∀ k, F k → k < w.heap.size) (h : RefV w F S T n cS cT q d) (hmm : SlB w F v marks) :
    Calls Tryd.prog 51 #[.agg (refA S T n cS cT q), v] w fun e w' => Below w.heap.size w w' ∧ ∃ S' cS' T' cT', e = .returned (.agg (refA S' T' n cS' cT' (.slice none 0 0))) ∧ RefV w' F S' T' n cS' cT' (.slice none 0 0) (d.crash marks) := by
  obtain ⟨a, c, rfl⟩ := h.waits.slice_n
  obtain ⟨b0, hz0, bX, bY⟩ := two_box3 w 36 (.slice (some ⟨S, 0, none⟩) n cS) (.slice (some ⟨T, 0, none⟩) n cT) (.slice a d.waits.length c) (.slice none 0 0) (.slice none 0 0) (.slice none 0 0)
  obtain ⟨W0, hW0⟩ : ∃ W0, ((w.alloc (.cells (refA S T n cS cT (.slice a d.waits.length c)) 36)).alloc (.cells #[.slice none 0 0, .slice none 0 0, .slice none 0 0] 36)) = W0 := ⟨_, rfl⟩
  unfold refA at hW0
  rw [hW0] at b0 hz0 bX bY
  change ((w.alloc (.cells (refA S T n cS cT (.slice a d.waits.length c)) 36)).alloc (.cells #[.slice none 0 0, .slice none 0 0, .slice none 0 0] 36)) = W0 at hW0
  have H0 : Hid (RfI w F S n cS (.slice a d.waits.length c) d (putSome marks d.stays (d.waits.take 0)) W0) := show RfI _ _ _ _ _ _ _ _ _ from ⟨⟨T, cT, bX, (h.wide (fun k => k = w.heap.size ∨ k = w.heap.size + 1) (fun k hk => by omega)).below b0⟩, bY, b0, by omega⟩
  have HFF := Lib.hid hF
  obtain ⟨ma, mc, rfl, hmc⟩ := hmm
  have HMC := Lib.hid hmc
  clear hmc
  have hpos := h.pos
  have hm := h.most
  have HW8 := Lib.hid h.ok.waits
  obtain ⟨N, hN⟩ : ∃ N, d.waits.length = N := ⟨_, rfl⟩
  rw [hN] at H0 hW0 ⊢
  have HN := Lib.hid hN
  have hNN : N ≤ 1024 := by have := h.ok.few; omega
  clear h b0 hF bX bY hN hz0
  go_enter Tryd.func51, Tryd.ntmps51
  go_wp2_with fail
  clear hW0
  go_loopw [5] (fun i wr => ∃ k : Nat, k ≤ N ∧ i = .int .i64 (k : Nat) ∧ Hid (RfI w F S n cS (.slice a N c) d (putSome marks d.stays (d.waits.take k)) wr)) (fun i _ => N - (intOf i).toNat)
  case atStart => exact ⟨0, by omega, rfl, H0⟩
  case round =>
    obtain ⟨k, hk, rfl, HI⟩ := hrel
    clear H0
    obtain ⟨T1, cT1, hX1, hV1⟩ := HI.out.ex
    have hz1 := HI.out.size
    by_cases hlt : k < N
    · have k2 : (k : Int) < (N : Int) := by omega
      have hkl0 : k < d.waits.length := by rw [HN.out]; exact hlt
      have HST := Lib.hid (putSome_step marks d.stays d.waits k hkl0)
      obtain ⟨t, ht⟩ : ∃ t, marks[k]?.getD false = t := ⟨_, rfl⟩
      rw [ht] at HST
      obtain ⟨c0, c1, c2, g0, g1, g2⟩ := hX1.cells
      by_cases hkm : k < marks.length
      · have k3 : (k : Int) < (marks.length : Int) := by omega
        obtain ⟨mb, mo, rfl, hmb, hmF, hmj⟩ := HMC.out (by omega)
        have cm : wr.cell? ⟨mb, mo + k, none⟩ = some (.bool t) := by rw [← ht]; exact (World.cell?_of_block (a := ⟨mb, mo + k, none⟩) (HI.out.below.block mb hmb)).trans (hmj k hkm)
        cases t with
        | false =>
          have HI1 : Hid (RfI w F S n cS (.slice a N c) d (putSome marks d.stays (d.waits.take (k + 1))) wr) := show RfI _ _ _ _ _ _ _ _ _ by rw [HST.out, if_neg (by decide)]; exact HI.out
          clear hX1 hV1 hmj
          go_wp2_with fail
          go_roundw
          case rel => exact ⟨k + 1, by omega, by go_num, HI1⟩
          case measure => simp [intOf]; omega
        | true =>
          have HMT := Lib.hid ht
          have hk3 := k3
          clear hmj hkl0 HST
          have HMC0 := HMC
          clear HMC
          have hkl : k < d.waits.length := by rw [HN.out]; exact hlt
          have hDW := hV1.waits
          rw [HN.out] at hDW
          obtain ⟨g, rfl, hr⟩ := hDW.row (by omega)
          have hx8 : ∀ x ∈ d.waits, x.2.length = 8 := fun x hx => (HW8.out x hx).2
          have hith := HW8.out _ (List.getElem_mem hkl)
          have hie : d.waits[k] = ithW d.waits k := by unfold ithW; rw [List.getElem?_eq_getElem hkl]; rfl
          rw [hie] at hith
          have HTK := Lib.hid (putSome_step marks d.stays d.waits k hkl)
          have hgF : ¬ two F w.heap.size g := by
            rcases hV1.outQ with ⟨ad, e⟩ | h
            · simp only [Value.slice.injEq] at e; omega
            · exact h g rfl
          obtain ⟨x, hx⟩ : ∃ x, ithW d.waits k = x := ⟨_, rfl⟩
          have hcell : ∀ W : World, (∀ kk, ¬ two F w.heap.size kk → kk < wr.heap.size → W.heap[kk]? = wr.heap[kk]?) → W.cell? ⟨g, k * 9, none⟩ = some (.int .i64 (x.1 : Nat)) ∧ W.rangeAt g (k * 9 + 1) (vals x.2) := fun W hW => by
            have := wait_cells (own_keeps hr (fun hl => hW g hgF hl)) hx8 k hkl
            rw [hx] at this
            exact this
          rw [hx] at hith HTK
          obtain ⟨z, hz⟩ : ∃ z, x.1 = z := ⟨_, rfl⟩
          obtain ⟨L, hL⟩ : ∃ L, x.2 = L := ⟨_, rfl⟩
          rw [hz, hL] at hcell hith
          have HZL : Hid (x.1 = z ∧ x.2 = L) := show _ ∧ _ from ⟨hz, hL⟩
          have HITH := Lib.hid hith
          have hd : Below wr.heap.size wr wr.drew := Below.drew (Below.refl _ _)
          have HC := Lib.hid (fun (W : World) (hb : Below wr.drew.heap.size wr.drew W) => hcell W fun kk _ hl => hb.block kk hl)
          have HX1 := Lib.hid (hX1.below hd hX1.lt)
          have HV1 := Lib.hid (hV1.below hd)
          have HW := Lib.hid (refWith_any z hith.1 L hith.2 wr.drew hm HV1.out.stays)
          have HLR := Lib.hid (fun (W : World) (hS : W.cell? ⟨w.heap.size, 1, none⟩ = some (.slice (some ⟨T1, 0, none⟩) n cT1) ∧ W.cell? ⟨w.heap.size, 2, none⟩ = some (.slice (some ⟨g, 0, none⟩) N c) ∧ W.cell? ⟨g, k * 9, none⟩ = some (.int .i64 (z : Nat)) ∧ W.rangeAt g (k * 9 + 1) (vals L)) =>
            run_loadAt_mid (P := Tryd.prog) W g (k * 9 + 1) 48 _ _ hS.2.2.2 Tryd.underlying48 rfl (by rw [vals_length, hith.2]; kernel_rfl))
          have hc0 := HC.out wr.drew (Below.refl _ _)
          have hR : (fun W : World => W.cell? ⟨w.heap.size, 1, none⟩ = some (.slice (some ⟨T1, 0, none⟩) n cT1) ∧ W.cell? ⟨w.heap.size, 2, none⟩ = some (.slice (some ⟨g, 0, none⟩) N c) ∧ W.cell? ⟨g, k * 9, none⟩ = some (.int .i64 (z : Nat)) ∧ W.rangeAt g (k * 9 + 1) (vals L)) wr.drew := ⟨HX1.out.cells.2.1, HX1.out.cells.2.2.1, hc0.1, hc0.2⟩
          have HB1 : Hid (Below w.heap.size w wr.drew) := show Below _ _ _ from HI.out.below.trans (hd.mono (by omega))
          have HY1 := Lib.hid (HI.out.res.below hd (by omega))
          clear hX1 hV1 hDW hr hx8 hie hx hcell hz hL hith hd hc0 hkl hgF
          go_wp2_with fail
          refine wp_region_M 16 (fun W : World => W.cell? ⟨w.heap.size, 1, none⟩ = some (.slice (some ⟨T1, 0, none⟩) n cT1) ∧ W.cell? ⟨w.heap.size, 2, none⟩ = some (.slice (some ⟨g, 0, none⟩) N c) ∧ W.cell? ⟨g, k * 9, none⟩ = some (.int .i64 (z : Nat)) ∧ W.rangeAt g (k * 9 + 1) (vals L)) (by kernel_rfl) ?_
          clear c0 c1 c2 g0 g1 g2
          (refine wpAnyM_take (i := 0) (v := ?_) rfl (by kernel_rfl) (by kernel_rfl) (fun _ _ _ h => h) (Or.inl ⟨by rfl, ?_⟩) hR ?_; rotate_left; (focus (intro w hSw; (try dsimp only at hSw); go_simp; (try with_reducible rfl))); (try simp only [put_laws])); (refine wpAnyM_take (i := 1) (v := ?_) rfl (by kernel_rfl) (by kernel_rfl) (fun _ _ _ h => h) (Or.inl ⟨by rfl, ?_⟩) hR ?_; rotate_left; (focus (intro w hSw; (try dsimp only at hSw); go_simp; (try with_reducible rfl))); (try simp only [put_laws])); (refine wpAnyM_take (i := 2) (v := ?_) rfl (by kernel_rfl) (by kernel_rfl) (fun _ _ _ h => h) (Or.inl ⟨by rfl, ?_⟩) hR ?_; rotate_left; (focus (intro w hSw; (try dsimp only at hSw); go_simp; (try with_reducible rfl))); (try simp only [put_laws])); (refine wpAnyM_take (i := 3) (v := ?_) rfl (by kernel_rfl) (by kernel_rfl) (fun _ _ _ h => h) (Or.inl ⟨by rfl, ?_⟩) hR ?_; rotate_left; (focus (intro w hSw; (try dsimp only at hSw); go_simp; (try with_reducible rfl))); (try simp only [put_laws])); (refine wpAnyM_take (i := 4) (v := ?_) rfl (by kernel_rfl) (by kernel_rfl) (fun _ _ _ h => h) (Or.inl ⟨by rfl, ?_⟩) hR ?_; rotate_left; (focus (intro w hSw; (try dsimp only at hSw); go_simp; (try with_reducible rfl))); (try simp only [put_laws])); (refine wpAnyM_take (i := 5) (v := ?_) rfl (by kernel_rfl) (by kernel_rfl) (fun _ _ _ h => h) (Or.inl ⟨by rfl, ?_⟩) hR ?_; rotate_left; (focus (intro w hSw; (try dsimp only at hSw); go_simp; (try with_reducible rfl))); (try simp only [put_laws])); (refine wpAnyM_take (i := 6) (v := ?_) rfl (by kernel_rfl) (by kernel_rfl) (fun _ _ _ h => h) (Or.inl ⟨by rfl, ?_⟩) hR ?_; rotate_left; (focus (intro w hSw; (try dsimp only at hSw); go_simp; (try with_reducible rfl))); (try simp only [put_laws])); (refine wpAnyM_take (i := 7) (v := ?_) rfl (by kernel_rfl) (by kernel_rfl) (fun _ _ _ h => h) (Or.inl ⟨by rfl, ?_⟩) hR ?_; rotate_left; (focus (intro w hSw; (try dsimp only at hSw); go_simp; (try with_reducible rfl))); (try simp only [put_laws])); (refine wpAnyM_take (i := 8) (v := ?_) rfl (by kernel_rfl) (by kernel_rfl) (fun _ _ _ h => h) (Or.inl ⟨by rfl, ?_⟩) hR ?_; rotate_left; (focus (intro w hSw; (try dsimp only at hSw); go_simp; (try with_reducible rfl))); (try simp only [put_laws])); (refine wpAnyM_take (i := 9) (v := ?_) rfl (by kernel_rfl) (by kernel_rfl) (fun _ _ _ h => h) (Or.inl ⟨by rfl, ?_⟩) hR ?_; rotate_left; (focus (intro w hSw; (try dsimp only at hSw); go_simp; (try with_reducible rfl))); (try simp only [put_laws])); (refine wpAnyM_take (i := 10) (v := ?_) rfl (by kernel_rfl) (by kernel_rfl) (fun _ _ _ h => h) (Or.inl ⟨by rfl, ?_⟩) hR ?_; rotate_left; (focus (intro w hSw; (try dsimp only at hSw); go_simp; (try with_reducible rfl))); (try simp only [put_laws])); (refine wpAnyM_take (i := 11) (v := ?_) rfl (by kernel_rfl) (by kernel_rfl) (fun _ _ _ h => h) (Or.inl ⟨by rfl, ?_⟩) hR ?_; rotate_left; (focus (intro w hSw; (try dsimp only at hSw); go_simp; (try with_reducible rfl))); (try simp only [put_laws])); (refine wpAnyM_take (i := 12) (v := ?_) rfl (by kernel_rfl) (by kernel_rfl) (fun _ _ _ h => h) (Or.inl ⟨by rfl, ?_⟩) hR ?_; rotate_left; (focus (intro w hSw; (try dsimp only at hSw); go_simp; (try with_reducible rfl))); (try simp only [put_laws]))
          (refine wpAnyM_take (i := 13) (v := _) rfl (by kernel_rfl) (by kernel_rfl) (fun _ _ _ h => h) (Or.inl ⟨by rfl, fun w hSw => exec_load_eq rfl rfl (HLR.out w hSw)⟩) hR ?_; (try simp only [put_laws]))
          (refine wpAnyM_one (i := 14) rfl (by kernel_rfl) (fun K hK => ?_); rw [if_pos (by rfl)]; (try simp only [elem_laws]))
          go_simp
          refine HW.out.mono ?_
          rintro e w5 ⟨T', cT', rfl, oT, gT, b5⟩
          have z5 := b5.size
          have hz5 : wr.drew.heap.size = wr.heap.size := rfl
          have hx5 := HX1.out.below b5 (by omega)
          have hc5 := HC.out w5 b5
          refine hK _ _ (fun _ => ⟨hx5.cells.2.1, hx5.cells.2.2.1, hc5.1, hc5.2⟩) ?_
          clear hK K hR
          have hR : (fun W : World => W.cell? ⟨w.heap.size, 1, none⟩ = some (.slice (some ⟨T1, 0, none⟩) n cT1) ∧ W.cell? ⟨w.heap.size, 2, none⟩ = some (.slice (some ⟨g, 0, none⟩) N c) ∧ W.cell? ⟨g, k * 9, none⟩ = some (.int .i64 (z : Nat)) ∧ W.rangeAt g (k * 9 + 1) (vals L)) w5 := ⟨hx5.cells.2.1, hx5.cells.2.2.1, hc5.1, hc5.2⟩
          obtain ⟨c0, c1, c2, g0, g1, g2⟩ := hx5.cells
          have HX5 := Lib.hid hx5
          have HI6 : Hid (RfI w F S n cS (.slice (some ⟨g, 0, none⟩) N c) d (putSome marks d.stays (d.waits.take (k + 1))) (w5.setCell ⟨w.heap.size, 1, none⟩ (.slice (some ⟨T', 0, none⟩) n cT'))) := show RfI _ _ _ _ _ _ _ _ _ from by
            have nT : ¬ two F w.heap.size T' := fun h2 => by
              rcases h2 with h2 | h2 | h2
              · have := HFF.out T' h2; omega
              · omega
              · omega
            rw [HTK.out, HMT.out, if_pos rfl, HZL.out.1, HZL.out.2]
            refine ⟨⟨T', cT', hx5.set1 _, ?_⟩, (HY1.out.below b5 (by omega)).other (by omega) _, (HB1.out.trans (b5.mono (by omega))).setCell (p := ⟨w.heap.size, 1, none⟩) (Nat.le_refl _) _, by simp [World.setCell]; omega⟩
            have hA := (HV1.out.below b5).set_stays oT nT
            exact hA.keeps fun kk hk _ => Below.heap_setCell _ _ _ kk (fun e => hk (.inr (.inl e)))
          clear oT b5 hx5 hc5
          (try simp only [put_laws])
          (refine wpAnyM_take (i := 15) (v := ?_) rfl (by kernel_rfl) (by kernel_rfl) (fun _ _ _ h => h) (Or.inl ⟨by rfl, ?_⟩) hR ?_; rotate_left; (focus (intro w hSw; (try dsimp only at hSw); go_simp; (try with_reducible rfl))); (try simp only [put_laws]))
          (refine wpAnyM_last rfl (by kernel_rfl) (fun K hK => ?_); rw [if_pos (by rfl)]; (try simp only [elem_laws]))
          clear hR
          go_simp
          refine hK _ _ ?_
          clear hK K
          (try simp only [put_laws])
          refine wpAnyM_done (by kernel_rfl) ?_ _
          go_wp2_with fail
          go_roundw
          case rel => exact ⟨k + 1, by omega, by go_num, HI6⟩
          case measure => simp [intOf]; omega
      · have k3 : ¬ (k : Int) < (marks.length : Int) := by omega
        have hb : decide ((k : Int) < (marks.length : Int)) = false := decide_eq_false k3
        have ht2 : t = false := by rw [← ht, List.getElem?_eq_none (by omega)]; rfl
        have HI1 : Hid (RfI w F S n cS (.slice a N c) d (putSome marks d.stays (d.waits.take (k + 1))) wr) := show RfI _ _ _ _ _ _ _ _ _ by rw [HST.out, ht2, if_neg (by decide)]; exact HI.out
        clear hX1 hV1 ht2
        go_wp2_with fail
        go_roundw
        case rel => exact ⟨k + 1, by omega, by go_num, HI1⟩
        case measure => simp [intOf]; omega
    · obtain rfl : k = N := by omega
      obtain ⟨c0, c1, c2, g0, g1, g2⟩ := hX1.cells
      obtain ⟨i0, hi, hz0, hz1', hz2⟩ := info_parts infoA
      have hXq := hX1.set2 (.slice none 0 0)
      have hYq := HI.out.res.other (k := w.heap.size) (o := 2) (by omega) (.slice none 0 0)
      have hVq : RefV (wr.setCell ⟨w.heap.size, 2, none⟩ (.slice none 0 0)) (two F w.heap.size) S T1 n cS cT1 (.slice a k c) { d with stays := putSome marks d.stays (d.waits.take k) } := hV1.keeps fun kk hk _ => Below.heap_setCell _ _ _ kk (fun e => hk (.inr (.inl e)))
      have hBq : Below w.heap.size w (wr.setCell ⟨w.heap.size, 2, none⟩ (.slice none 0 0)) := HI.out.below.setCell (p := ⟨w.heap.size, 2, none⟩) (Nat.le_refl _) _
      have hzq : (wr.setCell ⟨w.heap.size, 2, none⟩ (.slice none 0 0)).heap.size = wr.heap.size := by simp [World.setCell]
      have HXQ := Lib.hid hXq
      have HYQ := Lib.hid hYq
      have HVQ := Lib.hid hVq
      have HBQ := Lib.hid hBq
      have HNW := Lib.hid (row_news hVq.stays)
      have HUS : Hid (putSome marks d.stays (d.waits.take k) = putSome marks d.stays d.waits) := show _ = _ by rw [List.take_of_length_le (Nat.le_of_eq HN.out)]
      clear hX1 hV1 hXq hYq hVq hBq
      go_wp2_with (at_builtin; refine park ?_)
      unfold Park
      refine wpList_append_V rfl _ _ 33 rfl 48 i0 (.agg zero8) 8 64 Tryd.underlying33 hi hz0 hz1' hz2 rfl (by decide) _ _ _ rfl (.inr (World.ownsRow_nil _ _ _ _)) ⟨T1, 0, none⟩ n cT1 rfl hpos (vals (putSome marks d.stays (d.waits.take k))) HNW.out.1 HNW.out.2 (vals_one _) (by omega) (by omega) ?_
      intro v2 w2 g2 t2 o2
      have hO := o2 (fun _ => False) (.inr fun g hg => by cases hg)
      have hq2 : ∀ kk, ownB (.slice none 0 0) kk → wr.heap.size ≤ kk := fun kk hk => by cases hk.1
      have hB2 := Turn.below t2 hq2 (by omega)
      rw [Nat.zero_add, List.nil_append] at g2
      obtain ⟨b, c', rfl⟩ := g2.slice
      obtain ⟨S', rfl, hr⟩ := g2.row hpos
      have hS' : wr.heap.size ≤ S' := by
        rcases hO with ⟨ad, e⟩ | h
        · simp only [Value.slice.injEq] at e; omega
        · rcases h S' rfl with h | h
          · exact h.elim
          · have := h.1; omega
      have hX2 := HXQ.out.below hB2 (by omega)
      have hY2 := HYQ.out.below hB2 (by omega)
      obtain ⟨c0, c1, c2, g0, g1, g2'⟩ := hX2.cells
      obtain ⟨e0, e1, e2, f0, f1, f2⟩ := hY2.cells
      have HV2 := Lib.hid (HVQ.out.below (hB2.mono (by omega)))
      have HB2 := Lib.hid (HBQ.out.trans (hB2.mono (by omega)))
      have HR2 := Lib.hid hr
      clear g2 t2 o2 hr hO hB2 hq2 hX2 hY2
      go_wp2_with fail
      refine bodyPost_ret (v := .agg (refA S' T1 n c' cT1 (.slice none 0 0))) (by simp [results, Tryd.results51, go_sem, World.cell?_setCell_same', e0, e1, e2]) rfl ?_
      have hBf := below_set3 (HB2.out.setCell (p := ⟨w.heap.size, 0, none⟩) (Nat.le_refl _) (.slice (some ⟨S', 0, none⟩) n c')) (show w.heap.size ≤ w.heap.size + 1 by omega) (.slice (some ⟨S', 0, none⟩) n c') (.slice (some ⟨T1, 0, none⟩) n cT1) (.slice none 0 0)
      refine ⟨hBf, S', c', T1, cT1, rfl, ?_⟩
      have hk : ∀ kk, ¬ two F w.heap.size kk → ((((w2.setCell ⟨w.heap.size, 0, none⟩ (.slice (some ⟨S', 0, none⟩) n c')).setCell ⟨w.heap.size + 1, 0, none⟩ (.slice (some ⟨S', 0, none⟩) n c')).setCell ⟨w.heap.size + 1, 1, none⟩ (.slice (some ⟨T1, 0, none⟩) n cT1)).setCell ⟨w.heap.size + 1, 2, none⟩ (.slice none 0 0)).heap[kk]? = w2.heap[kk]? := fun kk hk =>
        (heap_set3 _ _ kk (fun e => hk (.inr (.inr e))) _ _ _).trans (Below.heap_setCell _ _ _ kk (fun e => hk (.inr (.inl e))))
      have nS : ¬ two F w.heap.size S' := fun h2 => by
        rcases h2 with h2 | h2 | h2
        · have := HFF.out S' h2; omega
        · omega
        · omega
      have hA := (HV2.out.keeps (fun kk hkk _ => hk kk hkk)).set_seen (own_keeps HR2.out fun _ => hk S' nS) nS
      have hC := hA.set_waits (l := []) (q' := .slice none 0 0) (.inr (World.ownsRow_nil _ _ _ _)) (.inr fun g hg => by cases hg) ⟨hA.ok.seen, hA.ok.stays, (fun _ h => by cases h), List.Pairwise.nil⟩
      rw [HUS.out] at hC
      exact hC.weak fun k h => .inl h
end Go.Proofs.YtohdgjmmekgcmaaDoor

/-
  The document's device: New, State.
-/
namespace Go.Proofs.YtohdgjmmekgcmaaDoor
open Go.RowKit Go.Shelf

set_option maxRecDepth 100000 in
theorem refNew_any {F : Nat → Prop} (n : Nat) (h1 : 0 < n) (h2 : n ≤ 1024) (w : World) (hF : ∀ k, F k → k < w.heap.size) :
    Calls Tryd.prog 14 #[.int .i64 n] w fun e w' => Below w.heap.size w w' ∧ ∃ S T cS cT q, e = .returned (.agg (refA S T n cS cT q)) ∧ RefV w' F S T n cS cT q (Dv.new n) := by
  have hm := fun W => run_make8 Tryd.underlying33 infoA n (by omega) W
  have fin : ∀ (W : World) (S T : Nat), W.heap[S]? = some (.cells (madeCells zero8 (n * 8)) 48 (0, 0)) → W.heap[T]? = some (.cells (madeCells zero8 (n * 8)) 48 (0, 0)) → w.heap.size ≤ S → w.heap.size ≤ T → RefV W F S T n n n (.slice none 0 0) (Dv.new n) := fun W S T hS hT lS lT =>
    ⟨Dv.ok_new n, h1, h2, own_made8 (by omega) hS, own_made8 (by omega) hT, .inr (World.ownsRow_nil _ _ _ _), fun h => by have := hF S h; omega, fun h => by have := hF T h; omega, .inr (fun g hg => by cases hg)⟩
  have HF := Lib.hid fin; clear fin
  go_enter Tryd.func14, Tryd.ntmps14
  go_wp2
  go_region
  all_goals go_wp2
  · refine bodyPost_ret (v := .agg (refA (w.heap.size + 1) (w.heap.size + 1 + 1) n n n (.slice none 0 0))) (by simp [results, Tryd.results14, go_sem]) rfl ⟨(by repeat (first | exact Below.refl _ _ | assumption | refine Below.drew ?_ | refine below_drewN ?_ _ | refine Below.alloc ?_ (by (try simp) <;> omega) _ | refine Below.setCell ?_ (by (try simp) <;> omega) _ | refine Below.trans ?_ (Below.mono (by assumption) (by (try simp) <;> omega)))), (w.heap.size + 1), (w.heap.size + 1 + 1), n, n, .slice none 0 0, rfl, HF.out _ _ _ ?_ ?_ (by omega) (by omega)⟩ <;> (rw [heap_drew]; (simp only [heap_at, World.size_alloc]; repeat (first | rw [if_pos (by omega)] | rw [if_neg (by omega)] | rw [if_pos trivial])))
  · refine bodyPost_ret (v := .agg (refA (w.heap.size + 1 + 1) (w.heap.size + 1) n n n (.slice none 0 0))) (by simp [results, Tryd.results14, go_sem]) rfl ⟨(by repeat (first | exact Below.refl _ _ | assumption | refine Below.drew ?_ | refine below_drewN ?_ _ | refine Below.alloc ?_ (by (try simp) <;> omega) _ | refine Below.setCell ?_ (by (try simp) <;> omega) _ | refine Below.trans ?_ (Below.mono (by assumption) (by (try simp) <;> omega)))), (w.heap.size + 1 + 1), (w.heap.size + 1), n, n, .slice none 0 0, rfl, HF.out _ _ _ ?_ ?_ (by omega) (by omega)⟩ <;> (rw [heap_drew]; (simp only [heap_at, World.size_alloc]; repeat (first | rw [if_pos (by omega)] | rw [if_neg (by omega)] | rw [if_pos trivial])))
theorem num4_any (i : Int) (w : World) : Calls Tryd.prog 19 #[.int .i64 i] w fun e w' => e = .returned (.int .i64 i) ∧ w' = w := by
  go_enter Tryd.func19, Tryd.ntmps19
  go_wp2
  go_ret
  exact ⟨rfl, rfl⟩
end Go.Proofs.YtohdgjmmekgcmaaDoor
