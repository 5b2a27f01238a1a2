/-
  PmemCopies: the walk (written by gen_pqb.py).
-/
import Derived.Test.YtohdgjmmekgcmaaDoorQPqB
namespace Go.Proofs.YtohdgjmmekgcmaaDoor
open Go.RowKit Go.Shelf
attribute [local go_sem] Oper.semAt_some

theorem wpIn_slice0 {F : Fence} {nF : Nat} {P : Program} {w w' : World} {o : Oper} {a : Act} {K : Act → World → Prop} {Q : Exit → Act → World → Prop} (ty : TypeId) (ho : o.op = .buildSlice ty 0 #[]) {r : Value} (hr : (Instr.buildSlice ty 0 #[]).run P w = .ok r w') (h : K (a.put o.dst r) w') : o.wpIn F nF P a w K Q := by
  unfold Oper.wpIn
  refine ⟨by simp [Oper.about, ho], ?_⟩
  rw [Oper.semAt_plain F _ _ (by rw [ho]; intro c hc; cases hc)]
  unfold execOp
  simp only [ho, List.map_toArray, List.map_nil, Sem.run_bind, hr, Result.andThen_ok]
  exact h
theorem wpIn_slice2 {F : Fence} {nF : Nat} {P : Program} {w w' : World} {o : Oper} {a : Act} {K : Act → World → Prop} {Q : Exit → Act → World → Prop} (ty : TypeId) (x y : Operand) (ho : o.op = .buildSlice ty 2 #[(0, x), (1, y)]) {u v r : Value} (hx : a.eval x = u) (hy : a.eval y = v) (hr : (Instr.buildSlice ty 2 #[(0, u), (1, v)]).run P w = .ok r w') (h : K (a.put o.dst r) w') : o.wpIn F nF P a w K Q := by
  unfold Oper.wpIn
  refine ⟨by simp [Oper.about, ho], ?_⟩
  rw [Oper.semAt_plain F _ _ (by rw [ho]; intro c hc; cases hc)]
  unfold execOp
  simp only [ho, List.map_toArray, List.map_cons, List.map_nil, hx, hy, Sem.run_bind, hr, Result.andThen_ok]
  exact h
theorem range_box {W : World} {b : Nat} {x : Ask} {m : Value} {t : TypeId} {fr : Nat × Nat} (hb : W.heap[b]? = some (.cells (askA x m) t fr)) : W.rangeAt b (0 + 0 * 6) (askA x m).toList := World.rangeAt_of_block hb 0 6
theorem vec_newA (W : World) (cs : Array Value) (t : TypeId) (n s : Nat) (h : cs.size = n * s) : Vec (W.alloc (.cells cs t)) (.slice (some ⟨W.heap.size, 0, none⟩) n n) n s cs.toList :=
  ⟨by rw [Array.length_toList]; exact h, _, _, rfl, Nat.le_refl _, fun _ => ⟨_, _, rfl, by simp, fun j y hy => by
    have e := World.alloc_heap_new W (.cells cs t)
    rw [Array.getElem?_toList] at hy
    unfold World.cell?
    simp only [e, Nat.zero_add]
    exact hy⟩⟩
set_option maxRecDepth 100000 in
set_option maxHeartbeats 8000000 in
theorem wpIn_append_runA {F : Fence} {nF : Nat} {P : Program} {w w1 : World} {o : Oper} {a : Act} {K : Act → World → Prop} {Q : Exit → Act → World → Prop} (sx x : Operand) (t : TypeId)
    (ho : o.op = .call { callee := .builtin .append, args := #[sx, x], argTypes := #[t, t] }) {v u r : Value} (hv : a.eval sx = v) (hu : a.eval x = u) (hr : (Builtin.append_ #[t, t] o.type #[v, u]).run P w = .ok r w1)
    (h : K (a.put o.dst r) w1) : Oper.wpIn F nF P o a w K Q := by
  unfold Oper.wpIn
  refine ⟨by simp [Oper.about, ho, resolve, Target.leads, Sem.run_pure], ?_⟩
  rw [Oper.semAt_plain F _ _ (by rw [ho]; intro c hc'; cases hc')]
  simp [execOp, ho, resolve, invoke, builtin, hv, hu, hr, Result.andThen]
  exact h
theorem SlB.slice_n {W : World} {F : Nat → Prop} {v : Value} {l : List Bool} (h : SlB W F v l) : ∃ a n c, v = .slice a n c := by
  obtain ⟨a, c, e, _⟩ := h
  exact ⟨_, _, _, e⟩
theorem cellsZ_one {z : Ask × Value} (h : ∃ a n c, z.2 = .slice a n c) : ∀ u ∈ cellsZ z, u.oneCell' = true := by
  obtain ⟨x, m⟩ := z
  obtain ⟨a, n, c, e⟩ := h
  simp only at e
  subst e
  simp [cellsZ, Value.oneCell']
/-- The run of an append to a slice of calls. -/
theorem append_acts {B : Nat} {v u : Value} {zs ys : List (Ask × Value)} {m : Nat} {w : World} (hG : GrowB w B 26 6 v zs.length (flatC cellsZ zs)) (hm : m = ys.length) (hu : ∃ ad cap, u = .slice ad m cap ∧ (0 < m → ∃ b off, ad = some ⟨b, off, none⟩ ∧ ∀ j y, (flatC cellsZ ys)[j]? = some y → w.cell? ⟨b, off + j, none⟩ = some y)) (hy : ∀ z ∈ ys, ∃ a n c, z.2 = .slice a n c) (hl : 64 * (zs.length + m) ≤ 140737488355328) (hB : B ≤ w.heap.size) :
    ∃ v' w', (Builtin.append_ #[22, 22] 22 #[v, u]).run Tryd.prog w = .ok v' w' ∧ GrowB w' B 26 6 v' (zs ++ ys).length (flatC cellsZ (zs ++ ys)) ∧ Below B w w' := by
  obtain ⟨i0, hi, hz0, hz1, hz2⟩ := info_parts infoAct
  obtain ⟨v', w', h1, h2, h3⟩ := append_wide (P := Tryd.prog) w 22 22 26 i0 _ 6 64 Tryd.underlying22 hi hz0 hz1 hz2 rfl (by decide) B v u zs.length m _ (flatC cellsZ ys) hG (by rw [flatC_length cellsZ_length, hm]) hu (fun x hx => by
    obtain ⟨z, hz, hx⟩ := List.mem_flatMap.1 hx
    exact cellsZ_one (hy z hz) x hx) (by omega) (by omega) hB
  refine ⟨v', w', h1, ?_, h3⟩
  rw [List.length_append, flatC_append, ← hm]
  exact h2

set_option maxRecDepth 100000 in
set_option maxHeartbeats 16000000 in
theorem copies4_any {v : Value} {xs : List Ask} (x y : Ask) {mx my : Value} (many : Int) (hm1 : -9223372036854775808 ≤ many) (hm2 : many ≤ 9223372036854775807) (w : World) (hen : Ends w) (hl : 64 * xs.length ≤ 140737488351232) (hx : ∀ z ∈ xs, -9223372036854775808 ≤ z.at_ ∧ z.at_ ≤ 9223372036854775807) (hxx : -9223372036854775808 ≤ x.at_ ∧ x.at_ ≤ 9223372036854775807) (hyy : -9223372036854775808 ≤ y.at_ ∧ y.at_ ≤ 9223372036854775807)
    (hs : SlA w (fun k => w.heap.size ≤ k) v xs) (hmx : SlB w (fun k => w.heap.size ≤ k) mx x.marks) (hmy : SlB w (fun k => w.heap.size ≤ k) my y.marks) :
    Calls Tryd.prog 3 #[v, .agg (askA x mx), .agg (askA y my), .int .i64 many] w fun e w' => e = .returned (.bool true) ∧ Below w.heap.size w w' := by
  obtain ⟨av, cap, rfl, -⟩ := id hs
  obtain ⟨N, hN⟩ : ∃ N, xs.length = N := ⟨_, rfl⟩
  obtain ⟨xa, xn, xc, rfl⟩ := hmx.slice_n
  obtain ⟨ya, yn, yc, rfl⟩ := hmy.slice_n
  obtain ⟨zs, hzs, ⟨av', cap', hav, hcell⟩, hmz⟩ := hs.flat
  have hzN : zs.length = N := by rw [← hN, ← hzs, List.length_map]
  rw [hzN, hN] at hav
  simp only [Value.slice.injEq, true_and] at hav
  obtain ⟨rfl, rfl⟩ := hav
  rw [hzN] at hcell
  have HZN := Lib.hid hzN
  have HMZ := Lib.hid hmz
  have HZS := Lib.hid hzs
  have HS := Lib.hid hs
  have HMX := Lib.hid hmx
  have HMY := Lib.hid hmy
  have HX := Lib.hid hx
  have HXX := Lib.hid hxx
  have HYY := Lib.hid hyy
  have HEN := Lib.hid hen
  have HW4 := Lib.hid (fun W (hb : Below w.heap.size w W) => works4_any W (hen.below hb hen.room))
  rw [hN] at hl ⊢
  have HN := Lib.hid hN
  have HL := Lib.hid hl
  obtain ⟨W0, hW0⟩ : ∃ W0, (((w.alloc (.cells (askA x (.slice xa xn xc)) 26)).alloc (.cells (askA y (.slice ya yn yc)) 26)).alloc (.cells #[.int .i64 many] 3)).alloc (.cells #[.bool false] 4) = W0 := ⟨_, rfl⟩
  have b0 : Below w.heap.size w W0 := by rw [← hW0]; exact (by repeat (first | exact Below.refl _ _ | assumption | refine Below.drew ?_ | refine below_drewN ?_ _ | refine Below.alloc ?_ (by (try simp) <;> omega) _ | refine Below.setCell ?_ (by (try simp) <;> omega) _ | refine Below.trans ?_ (Below.mono (by assumption) (by (try simp) <;> omega))))
  have z0 : W0.heap.size = w.heap.size + 4 := by rw [← hW0]; simp
  have hbx : W0.heap[w.heap.size]? = some (.cells (askA x (.slice xa xn xc)) 26 (0, 0)) := by rw [← hW0]; (simp only [heap_at, World.size_alloc]; repeat (first | rw [if_pos (by omega)] | rw [if_neg (by omega)] | rw [if_pos trivial]))
  have hby : W0.heap[w.heap.size + 1]? = some (.cells (askA y (.slice ya yn yc)) 26 (0, 0)) := by rw [← hW0]; (simp only [heap_at, World.size_alloc]; repeat (first | rw [if_pos (by omega)] | rw [if_neg (by omega)] | rw [if_pos trivial]))
  have hbm : Boxed W0 (w.heap.size + 1 + 1) 3 (.int .i64 many) := by rw [← hW0]; unfold Boxed; (simp only [heap_at, World.size_alloc]; repeat (first | rw [if_pos (by omega)] | rw [if_neg (by omega)] | rw [if_pos trivial]))
  have hbr : Boxed W0 (w.heap.size + 1 + 1 + 1) 4 (.bool false) := by rw [← hW0]; unfold Boxed; (simp only [heap_at, World.size_alloc]; repeat (first | rw [if_pos (by omega)] | rw [if_neg (by omega)] | rw [if_pos trivial]))
  have HW0 := Lib.hid hW0
  have HB0 := Lib.hid b0
  have HZ0 := Lib.hid z0
  have HBX := Lib.hid hbx
  have HBY := Lib.hid hby
  have HBM := Lib.hid hbm
  have HBR := Lib.hid hbr
  have HCX := Lib.hid (fun W (hb : Below W0.heap.size W0 W) => And.intro (range_box ((hb.block _ (by omega)).trans hbx)) (range_box ((hb.block _ (by omega)).trans hby)))
  have HCL := Lib.hid (fun W (hb : Below w.heap.size w W) (h0 : 0 < N) => (hcell h0).imp fun b h => h.imp fun off h => And.intro h.1 fun j y' hj => (World.cell?_of_block (a := ⟨b, off + j, none⟩) (hb.block b h.2.1)).trans (h.2.2 j y' hj))
  clear hs hmx hmy hx hxx hyy hen hN hW0 hl hcell hzs hmz hzN b0 z0 hbx hby hbm hbr
  refine (callsIn_wide (n := 20)).1 ?_
  refine callsIn_of_wp_marks Tryd.func3 rfl trivial ?_ rfl
  simp only [Tryd.ntmps3, List.size_toArray, List.length_cons, List.length_nil, Nat.reduceAdd, Nat.reduceSub, Array.replicate_succ, Array.replicate_zero, List.push_toArray, List.append_toArray, List.nil_append, List.cons_append]
  gi_wp2_with fail
  rw [HW0.out]

  refine wpIn_via (fun a A W => ∃ v22 v24 v27 v28, A = (((((((((a.put (some 22) v22).put (some 23) (.slice av N cap)).put (some 24) v24).put (some 25) (.agg (askA x (.slice xa xn xc)))).put (some 26) (.agg (askA y (.slice ya yn yc)))).put (some 27) v27).put (some 28) v28).put (some 29) (.bool (fewA (xs ++ [x, y]) 22))).put (some 30) (.bool (!fewA (xs ++ [x, y]) 22))) ∧ Below W0.heap.size W0 W) ?_ ?_
  · obtain ⟨X, hX⟩ : ∃ X, Value.agg (askA x (.slice xa xn xc)) = X := ⟨_, rfl⟩
    obtain ⟨Y, hY⟩ : ∃ Y, Value.agg (askA y (.slice ya yn yc)) = Y := ⟨_, rfl⟩
    have HLX := Lib.hid (fun (W : World) (h : (fun W : World => W.rangeAt w.heap.size (0 + 0 * 6) (askA x (.slice xa xn xc)).toList ∧ W.rangeAt (w.heap.size + 1) (0 + 0 * 6) (askA y (.slice ya yn yc)).toList) W) => (load_ask (k := 0) h.1).trans (by rw [hX]))
    have HLY := Lib.hid (fun (W : World) (h : (fun W : World => W.rangeAt w.heap.size (0 + 0 * 6) (askA x (.slice xa xn xc)).toList ∧ W.rangeAt (w.heap.size + 1) (0 + 0 * 6) (askA y (.slice ya yn yc)).toList) W) => (load_ask (k := 0) h.2).trans (by rw [hY]))
    have HS2 := Lib.hid (fun W => slice_acts2 x y (.slice xa xn xc) (.slice ya yn yc) W)
    rw [hX, hY] at HS2 ⊢
    clear hX hY
    obtain ⟨FW, hFW⟩ : ∃ FW, fewA (xs ++ [x, y]) 22 = FW := ⟨_, rfl⟩
    rw [hFW]
    have HFW := Lib.hid hFW
    clear hFW
    refine wpIn_region_N 8 (fun W : World => W.rangeAt w.heap.size (0 + 0 * 6) (askA x (.slice xa xn xc)).toList ∧ W.rangeAt (w.heap.size + 1) (0 + 0 * 6) (askA y (.slice ya yn yc)).toList) (by kernel_rfl) ?_
    have HBD : Hid (Below W0.heap.size W0 W0.drew) := show Below _ _ _ from Below.drew (Below.refl _ _)
    have hR : (fun W : World => W.rangeAt w.heap.size (0 + 0 * 6) (askA x (.slice xa xn xc)).toList ∧ W.rangeAt (w.heap.size + 1) (0 + 0 * 6) (askA y (.slice ya yn yc)).toList) W0.drew := HCX.out _ HBD.out
    obtain ⟨WD, hWD⟩ : ∃ WD, W0.drew = WD := ⟨_, rfl⟩
    rw [hWD] at HBD hR ⊢
    clear hWD
    (refine wpAnyN_take2 8 (i := 1) (v := ?_) (noDefers_of (by kernel_rfl)) rfl (by kernel_rfl) (by kernel_rfl) (fun _ _ _ h => by first | exact h | cases h.1) (fun _ => by first | rfl | simp [Oper.about]) (Or.inl ⟨by rfl, ?_⟩) hR ?_; rotate_left; (focus (intro w hSw; (try dsimp only at hSw); go_simp; (try with_reducible rfl))); (try simp only [put_laws]))
    (refine wpAnyN_take2 8 (i := 3) (v := _) (noDefers_of (by kernel_rfl)) rfl (by kernel_rfl) (by kernel_rfl) (fun _ _ _ h => by first | exact h | cases h.1) (fun _ => by first | rfl | simp [Oper.about]) (Or.inl ⟨by rfl, fun w hSw => exec_load_eq rfl rfl (HLX.out w hSw)⟩) hR ?_; (try simp only [put_laws]))
    (refine wpAnyN_take2 8 (i := 4) (v := _) (noDefers_of (by kernel_rfl)) rfl (by kernel_rfl) (by kernel_rfl) (fun _ _ _ h => by first | exact h | cases h.1) (fun _ => by first | rfl | simp [Oper.about]) (Or.inl ⟨by rfl, fun w hSw => exec_load_eq rfl rfl (HLY.out w hSw)⟩) hR ?_; (try simp only [put_laws]))
    refine wpAnyN_two (i := 0) (j := 5) rfl rfl (by kernel_rfl) (by rfl) (by rfl) (fun K hK => ?_) (fun K hK => ?_)
    · refine wpIn_slice0 22 rfl (slice_acts0 _) ?_
      obtain ⟨W1, hW1⟩ : ∃ W', WD.alloc (.cells #[] 26) = W' := ⟨_, rfl⟩
      have hbW1 : Below WD.heap.size WD W1 := by rw [← hW1]; exact (Below.refl _ _).alloc (Nat.le_refl _) _
      rw [hW1]
      have HBW1 : Hid (Below W0.heap.size W0 W1) := show Below _ _ _ from HBD.out.trans (hbW1.mono HBD.out.size)
      refine hK _ _ (fun _ => HCX.out _ HBW1.out) ?_
      clear hK K hR
      have hR : (fun W : World => W.rangeAt w.heap.size (0 + 0 * 6) (askA x (.slice xa xn xc)).toList ∧ W.rangeAt (w.heap.size + 1) (0 + 0 * 6) (askA y (.slice ya yn yc)).toList) W1 := HCX.out _ HBW1.out
      obtain ⟨v22, hv22⟩ : ∃ v22, Value.slice (some ⟨WD.heap.size, 0, none⟩) 0 0 = v22 := ⟨_, rfl⟩
      rw [hv22]
      have HG0E : Hid (∀ V B, GrowB V B 26 6 v22 ([] : List (Ask × Value)).length (flatC cellsZ ([] : List (Ask × Value)))) := show ∀ V B, GrowB _ _ _ _ _ _ _ from fun _ _ => .inl ⟨rfl, rfl, _, hv22.symm⟩

      clear hW1 hv22 hbW1
      (try simp only [put_laws])
      refine wpAnyN_two (i := 2) (j := 5) rfl rfl (by kernel_rfl) (by rfl) (by rfl) (fun K hK => ?_) (fun K hK => ?_)
      · obtain ⟨v24, W2, hrun, hgW2, hbW2⟩ := append_acts (ys := zs) (m := N) (HG0E.out W1 W1.heap.size) HZN.out.symm ⟨av, cap, rfl, fun h0 => HCL.out _ (HB0.out.trans (HBW1.out.mono (by have := HZ0.out; omega))) h0⟩ (fun z hz => (HMZ.out z hz).slice_n) (by have := HL.out; simp only [List.length_nil]; omega) (Nat.le_refl _)
        rw [List.nil_append] at hgW2
        refine wpIn_append_runA _ _ 22 rfl (by rfl) (by rfl) hrun ?_
        have HBW2 : Hid (Below W0.heap.size W0 W2) := show Below _ _ _ from HBW1.out.trans (hbW2.mono HBW1.out.size)
        have HG1 := Lib.hid (show GrowB W2 W0.heap.size 26 6 v24 zs.length (flatC cellsZ zs) from hgW2.low HBW1.out.size)
        refine hK _ _ (fun _ => HCX.out _ HBW2.out) ?_
        clear hK K hR
        have hR : (fun W : World => W.rangeAt w.heap.size (0 + 0 * 6) (askA x (.slice xa xn xc)).toList ∧ W.rangeAt (w.heap.size + 1) (0 + 0 * 6) (askA y (.slice ya yn yc)).toList) W2 := HCX.out _ HBW2.out

        clear hrun hgW2 hbW2 HG0E
        (try simp only [put_laws])
        (refine wpAnyN_one (i := 5) rfl (by kernel_rfl) (by rfl) (fun K hK => ?_); (try simp only [elem_laws]))
        refine wpIn_slice2 22 _ _ rfl (by rfl) (by rfl) (HS2.out _) ?_
        obtain ⟨W3, hW3⟩ : ∃ W', W2.alloc (.cells (askA x (.slice xa xn xc) ++ askA y (.slice ya yn yc)) 26) = W' := ⟨_, rfl⟩
        have hbW3 : Below W2.heap.size W2 W3 := by rw [← hW3]; exact (Below.refl _ _).alloc (Nat.le_refl _) _
        have HBW3 : Hid (Below W0.heap.size W0 W3) := show Below _ _ _ from HBW2.out.trans (hbW3.mono HBW2.out.size)
        have hv2 : Vec W3 (.slice (some ⟨W2.heap.size, 0, none⟩) 2 2) 2 6 (askA x (.slice xa xn xc) ++ askA y (.slice ya yn yc)).toList := by rw [← hW3]; exact vec_newA _ _ _ 2 6 rfl
        rw [hW3]
        refine hK _ _ (fun _ => HCX.out _ HBW3.out) ?_
        clear hK K hR
        have hR : (fun W : World => W.rangeAt w.heap.size (0 + 0 * 6) (askA x (.slice xa xn xc)).toList ∧ W.rangeAt (w.heap.size + 1) (0 + 0 * 6) (askA y (.slice ya yn yc)).toList) W3 := HCX.out _ HBW3.out
        obtain ⟨v27, hv27⟩ : ∃ v27, Value.slice (some ⟨W2.heap.size, 0, none⟩) 2 2 = v27 := ⟨_, rfl⟩
        rw [hv27] at hv2 ⊢
        have HV2 := Lib.hid hv2
        have HG1 := Lib.hid (show GrowB W3 W0.heap.size 26 6 v24 zs.length (flatC cellsZ zs) from GrowB.below HG1.out hbW3)
        clear hW3 hv27 hbW3 hv2
        (try simp only [put_laws])
        (refine wpAnyN_one (i := 6) rfl (by kernel_rfl) (by rfl) (fun K hK => ?_); (try simp only [elem_laws]))
        obtain ⟨_, a27, c27, e27, _, hc27⟩ := id HV2.out
        obtain ⟨v28, WE, hrun, hg, hb⟩ := append_acts (ys := [(x, .slice xa xn xc), (y, .slice ya yn yc)]) (m := 2) HG1.out rfl ⟨a27, c27, e27, fun h0 => (hc27 h0).imp fun b h => h.imp fun off h => ⟨h.1, h.2.2⟩⟩ (fun z hz => by
          rcases List.mem_cons.1 hz with rfl | hz
          · exact ⟨_, _, _, rfl⟩
          · rw [List.mem_singleton.1 hz]
            exact ⟨_, _, _, rfl⟩) (by have := HL.out; have := HZN.out; omega) HBW3.out.size
        have HBE : Hid (Below W0.heap.size W0 WE) := show Below _ _ _ from HBW3.out.trans hb
        refine wpIn_append_runA _ _ 22 rfl (by rfl) (by rfl) hrun ?_
        refine hK _ _ (fun _ => HCX.out _ HBE.out) ?_
        have HFA := Lib.hid (few_any (F := fun _ => False) (v := v28) (xs := xs ++ [x, y]) 22 WE (by have := HL.out; have := HN.out; rw [List.length_append]; simp only [List.length_cons, List.length_nil]; omega) (by
          have h := slA_of_flat (F := fun k => w.heap.size ≤ k) hg.vec fun z hz => by
            have hbw : Below w.heap.size w WE := HB0.out.trans (HBE.out.mono (by have := HZ0.out; omega))
            rcases List.mem_append.1 hz with hz | hz
            · exact (HMZ.out z hz).low hbw
            · rcases List.mem_cons.1 hz with rfl | hz
              · exact HMX.out.low hbw
              · rw [List.mem_singleton.1 hz]
                exact HMY.out.low hbw
          rw [List.map_append, HZS.out] at h
          exact h))
        rw [HFW.out] at HFA
        clear hK K hR hrun hg hb e27 hc27
        have hR : (fun W : World => W.rangeAt w.heap.size (0 + 0 * 6) (askA x (.slice xa xn xc)).toList ∧ W.rangeAt (w.heap.size + 1) (0 + 0 * 6) (askA y (.slice ya yn yc)).toList) WE := HCX.out _ HBE.out
        (try simp only [put_laws])
        (refine wpAnyN_one (i := 7) rfl (by kernel_rfl) (by rfl) (fun K hK => ?_); (try simp only [elem_laws]))
        go_simp
        refine ⟨trivial, ?_⟩
        refine (callsIn_wide.2 HFA.out).mono ?_
        rintro e w9 ⟨rfl, hw9⟩
        rw [hw9]
        clear hw9 w9
        refine hK _ _ (fun _ => hR) ?_
        clear hK K
        (try simp only [put_laws])
        (refine wpAnyN_last rfl (by kernel_rfl) (by rfl) (fun K hK => ?_); (try simp only [elem_laws]))
        clear hR
        go_simp
        refine hK _ _ ?_
        clear hK K
        (try simp only [put_laws])
        refine wpAnyN_done (by kernel_rfl) ?_ _
        exact ⟨rfl, _, _, _, _, rfl, HBE.out⟩
      · refine wpIn_slice2 22 _ _ rfl (by rfl) (by rfl) (HS2.out _) ?_
        obtain ⟨W2, hW2⟩ : ∃ W', W1.alloc (.cells (askA x (.slice xa xn xc) ++ askA y (.slice ya yn yc)) 26) = W' := ⟨_, rfl⟩
        have hbW2 : Below W1.heap.size W1 W2 := by rw [← hW2]; exact (Below.refl _ _).alloc (Nat.le_refl _) _
        have HBW2 : Hid (Below W0.heap.size W0 W2) := show Below _ _ _ from HBW1.out.trans (hbW2.mono HBW1.out.size)
        have hv2 : Vec W2 (.slice (some ⟨W1.heap.size, 0, none⟩) 2 2) 2 6 (askA x (.slice xa xn xc) ++ askA y (.slice ya yn yc)).toList := by rw [← hW2]; exact vec_newA _ _ _ 2 6 rfl
        rw [hW2]
        refine hK _ _ (fun _ => HCX.out _ HBW2.out) ?_
        clear hK K hR
        have hR : (fun W : World => W.rangeAt w.heap.size (0 + 0 * 6) (askA x (.slice xa xn xc)).toList ∧ W.rangeAt (w.heap.size + 1) (0 + 0 * 6) (askA y (.slice ya yn yc)).toList) W2 := HCX.out _ HBW2.out
        obtain ⟨v27, hv27⟩ : ∃ v27, Value.slice (some ⟨W1.heap.size, 0, none⟩) 2 2 = v27 := ⟨_, rfl⟩
        rw [hv27] at hv2 ⊢
        have HV2 := Lib.hid hv2

        clear hW2 hv27 hbW2 hv2
        (try simp only [put_laws])
        (refine wpAnyN_one (i := 2) rfl (by kernel_rfl) (by rfl) (fun K hK => ?_); (try simp only [elem_laws]))
        obtain ⟨v24, W3, hrun, hgW3, hbW3⟩ := append_acts (ys := zs) (m := N) (HG0E.out W2 W2.heap.size) HZN.out.symm ⟨av, cap, rfl, fun h0 => HCL.out _ (HB0.out.trans (HBW2.out.mono (by have := HZ0.out; omega))) h0⟩ (fun z hz => (HMZ.out z hz).slice_n) (by have := HL.out; simp only [List.length_nil]; omega) (Nat.le_refl _)
        rw [List.nil_append] at hgW3
        refine wpIn_append_runA _ _ 22 rfl (by rfl) (by rfl) hrun ?_
        have HBW3 : Hid (Below W0.heap.size W0 W3) := show Below _ _ _ from HBW2.out.trans (hbW3.mono HBW2.out.size)
        have HG1 := Lib.hid (show GrowB W3 W0.heap.size 26 6 v24 zs.length (flatC cellsZ zs) from hgW3.low HBW2.out.size)
        refine hK _ _ (fun _ => HCX.out _ HBW3.out) ?_
        clear hK K hR
        have hR : (fun W : World => W.rangeAt w.heap.size (0 + 0 * 6) (askA x (.slice xa xn xc)).toList ∧ W.rangeAt (w.heap.size + 1) (0 + 0 * 6) (askA y (.slice ya yn yc)).toList) W3 := HCX.out _ HBW3.out
        have HV2 := Lib.hid (show Vec W3 v27 2 6 (askA x (.slice xa xn xc) ++ askA y (.slice ya yn yc)).toList from Vec.below HV2.out hbW3)
        clear hrun hgW3 hbW3 HG0E
        (try simp only [put_laws])
        (refine wpAnyN_one (i := 6) rfl (by kernel_rfl) (by rfl) (fun K hK => ?_); (try simp only [elem_laws]))
        obtain ⟨_, a27, c27, e27, _, hc27⟩ := id HV2.out
        obtain ⟨v28, WE, hrun, hg, hb⟩ := append_acts (ys := [(x, .slice xa xn xc), (y, .slice ya yn yc)]) (m := 2) HG1.out rfl ⟨a27, c27, e27, fun h0 => (hc27 h0).imp fun b h => h.imp fun off h => ⟨h.1, h.2.2⟩⟩ (fun z hz => by
          rcases List.mem_cons.1 hz with rfl | hz
          · exact ⟨_, _, _, rfl⟩
          · rw [List.mem_singleton.1 hz]
            exact ⟨_, _, _, rfl⟩) (by have := HL.out; have := HZN.out; omega) HBW3.out.size
        have HBE : Hid (Below W0.heap.size W0 WE) := show Below _ _ _ from HBW3.out.trans hb
        refine wpIn_append_runA _ _ 22 rfl (by rfl) (by rfl) hrun ?_
        refine hK _ _ (fun _ => HCX.out _ HBE.out) ?_
        have HFA := Lib.hid (few_any (F := fun _ => False) (v := v28) (xs := xs ++ [x, y]) 22 WE (by have := HL.out; have := HN.out; rw [List.length_append]; simp only [List.length_cons, List.length_nil]; omega) (by
          have h := slA_of_flat (F := fun k => w.heap.size ≤ k) hg.vec fun z hz => by
            have hbw : Below w.heap.size w WE := HB0.out.trans (HBE.out.mono (by have := HZ0.out; omega))
            rcases List.mem_append.1 hz with hz | hz
            · exact (HMZ.out z hz).low hbw
            · rcases List.mem_cons.1 hz with rfl | hz
              · exact HMX.out.low hbw
              · rw [List.mem_singleton.1 hz]
                exact HMY.out.low hbw
          rw [List.map_append, HZS.out] at h
          exact h))
        rw [HFW.out] at HFA
        clear hK K hR hrun hg hb e27 hc27
        have hR : (fun W : World => W.rangeAt w.heap.size (0 + 0 * 6) (askA x (.slice xa xn xc)).toList ∧ W.rangeAt (w.heap.size + 1) (0 + 0 * 6) (askA y (.slice ya yn yc)).toList) WE := HCX.out _ HBE.out
        (try simp only [put_laws])
        (refine wpAnyN_one (i := 7) rfl (by kernel_rfl) (by rfl) (fun K hK => ?_); (try simp only [elem_laws]))
        go_simp
        refine ⟨trivial, ?_⟩
        refine (callsIn_wide.2 HFA.out).mono ?_
        rintro e w9 ⟨rfl, hw9⟩
        rw [hw9]
        clear hw9 w9
        refine hK _ _ (fun _ => hR) ?_
        clear hK K
        (try simp only [put_laws])
        (refine wpAnyN_last rfl (by kernel_rfl) (by rfl) (fun K hK => ?_); (try simp only [elem_laws]))
        clear hR
        go_simp
        refine hK _ _ ?_
        clear hK K
        (try simp only [put_laws])
        refine wpAnyN_done (by kernel_rfl) ?_ _
        exact ⟨rfl, _, _, _, _, rfl, HBE.out⟩
    · refine wpIn_slice2 22 _ _ rfl (by rfl) (by rfl) (HS2.out _) ?_
      obtain ⟨W1, hW1⟩ : ∃ W', WD.alloc (.cells (askA x (.slice xa xn xc) ++ askA y (.slice ya yn yc)) 26) = W' := ⟨_, rfl⟩
      have hbW1 : Below WD.heap.size WD W1 := by rw [← hW1]; exact (Below.refl _ _).alloc (Nat.le_refl _) _
      have HBW1 : Hid (Below W0.heap.size W0 W1) := show Below _ _ _ from HBD.out.trans (hbW1.mono HBD.out.size)
      have hv2 : Vec W1 (.slice (some ⟨WD.heap.size, 0, none⟩) 2 2) 2 6 (askA x (.slice xa xn xc) ++ askA y (.slice ya yn yc)).toList := by rw [← hW1]; exact vec_newA _ _ _ 2 6 rfl
      rw [hW1]
      refine hK _ _ (fun _ => HCX.out _ HBW1.out) ?_
      clear hK K hR
      have hR : (fun W : World => W.rangeAt w.heap.size (0 + 0 * 6) (askA x (.slice xa xn xc)).toList ∧ W.rangeAt (w.heap.size + 1) (0 + 0 * 6) (askA y (.slice ya yn yc)).toList) W1 := HCX.out _ HBW1.out
      obtain ⟨v27, hv27⟩ : ∃ v27, Value.slice (some ⟨WD.heap.size, 0, none⟩) 2 2 = v27 := ⟨_, rfl⟩
      rw [hv27] at hv2 ⊢
      have HV2 := Lib.hid hv2

      clear hW1 hv27 hbW1 hv2
      (try simp only [put_laws])
      (refine wpAnyN_one (i := 0) rfl (by kernel_rfl) (by rfl) (fun K hK => ?_); (try simp only [elem_laws]))
      refine wpIn_slice0 22 rfl (slice_acts0 _) ?_
      obtain ⟨W2, hW2⟩ : ∃ W', W1.alloc (.cells #[] 26) = W' := ⟨_, rfl⟩
      have hbW2 : Below W1.heap.size W1 W2 := by rw [← hW2]; exact (Below.refl _ _).alloc (Nat.le_refl _) _
      rw [hW2]
      have HBW2 : Hid (Below W0.heap.size W0 W2) := show Below _ _ _ from HBW1.out.trans (hbW2.mono HBW1.out.size)
      refine hK _ _ (fun _ => HCX.out _ HBW2.out) ?_
      clear hK K hR
      have hR : (fun W : World => W.rangeAt w.heap.size (0 + 0 * 6) (askA x (.slice xa xn xc)).toList ∧ W.rangeAt (w.heap.size + 1) (0 + 0 * 6) (askA y (.slice ya yn yc)).toList) W2 := HCX.out _ HBW2.out
      obtain ⟨v22, hv22⟩ : ∃ v22, Value.slice (some ⟨W1.heap.size, 0, none⟩) 0 0 = v22 := ⟨_, rfl⟩
      rw [hv22]
      have HG0E : Hid (∀ V B, GrowB V B 26 6 v22 ([] : List (Ask × Value)).length (flatC cellsZ ([] : List (Ask × Value)))) := show ∀ V B, GrowB _ _ _ _ _ _ _ from fun _ _ => .inl ⟨rfl, rfl, _, hv22.symm⟩
      have HV2 := Lib.hid (show Vec W2 v27 2 6 (askA x (.slice xa xn xc) ++ askA y (.slice ya yn yc)).toList from Vec.below HV2.out hbW2)
      clear hW2 hv22 hbW2
      (try simp only [put_laws])
      (refine wpAnyN_one (i := 2) rfl (by kernel_rfl) (by rfl) (fun K hK => ?_); (try simp only [elem_laws]))
      obtain ⟨v24, W3, hrun, hgW3, hbW3⟩ := append_acts (ys := zs) (m := N) (HG0E.out W2 W2.heap.size) HZN.out.symm ⟨av, cap, rfl, fun h0 => HCL.out _ (HB0.out.trans (HBW2.out.mono (by have := HZ0.out; omega))) h0⟩ (fun z hz => (HMZ.out z hz).slice_n) (by have := HL.out; simp only [List.length_nil]; omega) (Nat.le_refl _)
      rw [List.nil_append] at hgW3
      refine wpIn_append_runA _ _ 22 rfl (by rfl) (by rfl) hrun ?_
      have HBW3 : Hid (Below W0.heap.size W0 W3) := show Below _ _ _ from HBW2.out.trans (hbW3.mono HBW2.out.size)
      have HG1 := Lib.hid (show GrowB W3 W0.heap.size 26 6 v24 zs.length (flatC cellsZ zs) from hgW3.low HBW2.out.size)
      refine hK _ _ (fun _ => HCX.out _ HBW3.out) ?_
      clear hK K hR
      have hR : (fun W : World => W.rangeAt w.heap.size (0 + 0 * 6) (askA x (.slice xa xn xc)).toList ∧ W.rangeAt (w.heap.size + 1) (0 + 0 * 6) (askA y (.slice ya yn yc)).toList) W3 := HCX.out _ HBW3.out
      have HV2 := Lib.hid (show Vec W3 v27 2 6 (askA x (.slice xa xn xc) ++ askA y (.slice ya yn yc)).toList from Vec.below HV2.out hbW3)
      clear hrun hgW3 hbW3 HG0E
      (try simp only [put_laws])
      (refine wpAnyN_one (i := 6) rfl (by kernel_rfl) (by rfl) (fun K hK => ?_); (try simp only [elem_laws]))
      obtain ⟨_, a27, c27, e27, _, hc27⟩ := id HV2.out
      obtain ⟨v28, WE, hrun, hg, hb⟩ := append_acts (ys := [(x, .slice xa xn xc), (y, .slice ya yn yc)]) (m := 2) HG1.out rfl ⟨a27, c27, e27, fun h0 => (hc27 h0).imp fun b h => h.imp fun off h => ⟨h.1, h.2.2⟩⟩ (fun z hz => by
        rcases List.mem_cons.1 hz with rfl | hz
        · exact ⟨_, _, _, rfl⟩
        · rw [List.mem_singleton.1 hz]
          exact ⟨_, _, _, rfl⟩) (by have := HL.out; have := HZN.out; omega) HBW3.out.size
      have HBE : Hid (Below W0.heap.size W0 WE) := show Below _ _ _ from HBW3.out.trans hb
      refine wpIn_append_runA _ _ 22 rfl (by rfl) (by rfl) hrun ?_
      refine hK _ _ (fun _ => HCX.out _ HBE.out) ?_
      have HFA := Lib.hid (few_any (F := fun _ => False) (v := v28) (xs := xs ++ [x, y]) 22 WE (by have := HL.out; have := HN.out; rw [List.length_append]; simp only [List.length_cons, List.length_nil]; omega) (by
        have h := slA_of_flat (F := fun k => w.heap.size ≤ k) hg.vec fun z hz => by
          have hbw : Below w.heap.size w WE := HB0.out.trans (HBE.out.mono (by have := HZ0.out; omega))
          rcases List.mem_append.1 hz with hz | hz
          · exact (HMZ.out z hz).low hbw
          · rcases List.mem_cons.1 hz with rfl | hz
            · exact HMX.out.low hbw
            · rw [List.mem_singleton.1 hz]
              exact HMY.out.low hbw
        rw [List.map_append, HZS.out] at h
        exact h))
      rw [HFW.out] at HFA
      clear hK K hR hrun hg hb e27 hc27
      have hR : (fun W : World => W.rangeAt w.heap.size (0 + 0 * 6) (askA x (.slice xa xn xc)).toList ∧ W.rangeAt (w.heap.size + 1) (0 + 0 * 6) (askA y (.slice ya yn yc)).toList) WE := HCX.out _ HBE.out
      (try simp only [put_laws])
      (refine wpAnyN_one (i := 7) rfl (by kernel_rfl) (by rfl) (fun K hK => ?_); (try simp only [elem_laws]))
      go_simp
      refine ⟨trivial, ?_⟩
      refine (callsIn_wide.2 HFA.out).mono ?_
      rintro e w9 ⟨rfl, hw9⟩
      rw [hw9]
      clear hw9 w9
      refine hK _ _ (fun _ => hR) ?_
      clear hK K
      (try simp only [put_laws])
      (refine wpAnyN_last rfl (by kernel_rfl) (by rfl) (fun K hK => ?_); (try simp only [elem_laws]))
      clear hR
      go_simp
      refine hK _ _ ?_
      clear hK K
      (try simp only [put_laws])
      refine wpAnyN_done (by kernel_rfl) ?_ _
      exact ⟨rfl, _, _, _, _, rfl, HBE.out⟩
  · rintro A W ⟨v22, v24, v27, v28, rfl, hB⟩
    (try simp only [put_laws])
    have HBA : Hid (Below W0.heap.size W0 W) := show Below _ _ _ from hB
    have HB1 : Hid (Below w.heap.size w W) := show Below _ _ _ from HB0.out.trans (hB.mono (by have := HZ0.out; omega))
    clear hB
    obtain ⟨FW, hFW⟩ : ∃ FW, fewA (xs ++ [x, y]) 22 = FW := ⟨_, rfl⟩
    rw [hFW]
    cases FW with
    | false =>
      have HW := Lib.hid (HW4.out W HB1.out)
      clear hFW
      gi_wp2_with fail
      refine ⟨trivial, ?_⟩
      refine (callsIn_wide.2 HW.out).mono ?_
      rintro e wz ⟨rfl, hbz⟩
      have hRz : Boxed wz (w.heap.size + 1 + 1 + 1) 4 (.bool false) := (hbz.block _ (by have := HBA.out.size; have := HZ0.out; omega)).trans ((HBA.out.block _ (by have := HZ0.out; omega)).trans HBR.out)
      have cr := Boxed.cell hRz
      have fr := Boxed.frozen hRz
      have lr := Boxed.lt hRz
      have HRZ := Lib.hid hRz
      have HBZ : Hid (Below w.heap.size w wz) := show Below _ _ _ from HB1.out.trans (hbz.mono HB1.out.size)
      clear hbz hRz
      gi_wp2_with fail
      refine leaves_marks (B := w.heap.size) [] 0 _ trivial fun W' hs => ⟨.bool true, ?_, rfl, (HBZ.out.setCell (p := ⟨w.heap.size + 1 + 1 + 1, 0, none⟩) (show w.heap.size ≤ w.heap.size + 1 + 1 + 1 by omega) _).trans hs.1⟩
      have hc4 : Boxed W' (w.heap.size + 1 + 1 + 1) 4 (.bool true) := hs.2 _ _ _ _ (HRZ.out.set (.bool true))
      simp [results, Tryd.results3, go_sem, hc4.cell]
    | true =>
      have HFW := Lib.hid hFW
      have HMK : Hid (∀ y ∈ xs, y.marks.length ≤ 60) := show ∀ _, _ from fun z hz => few_marks hFW (List.mem_append_left _ hz)
      have HMKX : Hid (x.marks.length ≤ 60) := show _ ≤ _ from few_marks hFW (List.mem_append_right _ (List.mem_cons_self ..))
      have HMKY : Hid (y.marks.length ≤ 60) := show _ ≤ _ from few_marks hFW (List.mem_append_right _ (List.mem_cons_of_mem _ (List.mem_cons_self ..)))
      clear hFW
      have HAK := Lib.hid (ask_at HN.out (by have h := HS.out; rw [HN.out] at h; exact h))
      gi_wp2_with fail
      refine ⟨trivial, ?_⟩
      refine (callsIn_wide.2 (new_any 5 (by decide) (by decide) W (HEN.out.below HB1.out HEN.out.room).room)).mono ?_
      rintro e w1 ⟨B, rfl, hb1, S, T, cS, cT, q, hd1⟩
      have HD1 := Lib.hid hd1
      have HBB1 : Hid (Below W0.heap.size W0 w1) := show Below _ _ _ from HBA.out.trans (hb1.mono HBA.out.size)
      have HSW1 : Hid (W.heap.size ≤ w1.heap.size) := show _ ≤ _ from hb1.size
      clear hb1 hd1
      gi_wp2_with fail
      refine ⟨trivial, ?_⟩
      refine (callsIn_wide.2 (refNew_any 5 (by decide) (by decide) w1 HD1.out.live)).mono ?_
      rintro e w2 ⟨hb2, S', T', cS', cT', q', rfl, hv2⟩
      have hb3 : Below w2.heap.size w2 (w2.alloc (.cells (refA S' T' 5 cS' cT' q') 36)) := (Below.refl _ _).alloc (Nat.le_refl _) _
      have hz0 := HZ0.out
      have hz1 := HBA.out.size
      have hz2 := hb2.size
      have hz3 := HSW1.out
      have HI0 : Hid (BothQ W0 5 w2.heap.size (w.heap.size + 1 + 1 + 1) B (w2.alloc (.cells (refA S' T' 5 cS' cT' q') 36))) := show BothQ _ _ _ _ _ _ from
        ⟨⟨_, S, T, cS, cT, q, S', T', cS', cT', q', _, (HD1.out.below hb2).below hb3, hv2.below hb3, fun k hk => by omega, fun hk => by omega, fun hk => by omega, Box3.new w2 _ _ _ _⟩, (hb3.block _ (by omega)).trans ((hb2.block _ (by omega)).trans ((HBB1.out.block _ (by omega)).trans HBR.out)), (HBB1.out.trans (hb2.mono HBB1.out.size)).trans (hb3.mono (by have := HBB1.out.size; omega))⟩
      have hq' : ∃ a c, q' = .slice a (Dv.new 5).waits.length c := hv2.waits.slice_n
      obtain ⟨qa, qc, rfl⟩ := hq'
      have HLW : Hid (W0.heap.size ≤ w2.heap.size) := show _ ≤ _ by omega
      clear hv2 hb2 hb3
      gi_wp2_with fail
      obtain ⟨b7, hb7⟩ : ∃ b7, w2.heap.size = b7 := ⟨_, rfl⟩
      rw [hb7] at HI0 HLW ⊢
      clear hb7
      have hNb : N ≤ 9223372036854775807 := by have := HL.out; omega
      gi_loopw [9, 12] (fun dv i wr => ∃ (k B : Nat), k ≤ N ∧ dv = .pointer (some ⟨B, 0, none⟩) ∧ i = .int .i64 (k : Nat) ∧ Hid (BothQ W0 5 b7 (w.heap.size + 1 + 1 + 1) B wr)) (fun _ i _ => N - (intOf i).toNat)
      case atStart => exact ⟨0, B, by omega, rfl, rfl, HI0⟩
      case round =>
        obtain ⟨k, B1, hk, rfl, rfl, HI⟩ := hrel
        by_cases hlt : k < N
        · obtain ⟨bz, off, m, z, hz, rfl, hat⟩ := HAK.out k hlt
          obtain ⟨F, S, T, cS, cT, q, S', T', cS', cT', q', d, hd, hv, hF, hFb, hFr, hbx⟩ := HI.out.ex
          obtain ⟨qa, qc, rfl⟩ := hv.waits.slice_n
          obtain ⟨ql, hql⟩ : ∃ ql, d.waits.length = ql := ⟨_, rfl⟩
          rw [hql] at hv hbx
          have HZX := Lib.hid (HX.out z hz)
          have HZ6 := Lib.hid (HMK.out z hz)
          have HAT := Lib.hid hat
          have hbl := HI.out.below
          have k2 : (k : Int) < (N : Int) := by omega
          have hdr : Below wr.heap.size wr wr.drew := Below.drew (Below.refl _ _)
          have HB : Hid (Below W0.heap.size W0 wr.drew) := show Below _ _ _ from hbl.trans (hdr.mono hbl.size)
          have HBw : Hid (Below w.heap.size w wr.drew) := show Below _ _ _ from HB0.out.trans (HB.out.mono (by have := HZ0.out; omega))
          have HD := Lib.hid (hd.below hdr)
          have HV := Lib.hid (hv.below hdr)
          have HB7 := Lib.hid (hbx.below hdr hbx.lt)
          have HRS : Hid (Boxed wr.drew (w.heap.size + 1 + 1 + 1) 4 (.bool false)) := show Boxed _ _ _ _ from (hdr.block _ HI.out.res.lt).trans HI.out.res
          have HF := Lib.hid hF
          have HFb := Lib.hid hFb
          have HFr := Lib.hid hFr
          obtain ⟨c0, c1, c2, -⟩ := HB7.out.cells
          have hR : (fun W : World => W.cell? ⟨b7, 0, none⟩ = some (.slice (some ⟨S', 0, none⟩) 5 cS') ∧ W.cell? ⟨b7, 1, none⟩ = some (.slice (some ⟨T', 0, none⟩) 5 cT') ∧ W.cell? ⟨b7, 2, none⟩ = some (.slice qa ql qc) ∧ W.rangeAt bz (off + k * 6) (askA z m).toList) wr.drew := ⟨c0, c1, c2, (hat _ HBw.out).1⟩
          obtain ⟨X, hX⟩ : ∃ X, Value.agg (askA z m) = X := ⟨_, rfl⟩
          have HLR := Lib.hid (fun (W : World) (h : W.cell? ⟨b7, 0, none⟩ = some (.slice (some ⟨S', 0, none⟩) 5 cS') ∧ W.cell? ⟨b7, 1, none⟩ = some (.slice (some ⟨T', 0, none⟩) 5 cT') ∧ W.cell? ⟨b7, 2, none⟩ = some (.slice qa ql qc) ∧ W.rangeAt bz (off + k * 6) (askA z m).toList) => (load_ask h.2.2.2).trans (by rw [hX]))
          have HA := Lib.hid (act_any z HZX.out.1 HZX.out.2 (by have := HZ6.out; omega) wr.drew (HEN.out.below HBw.out HEN.out.room) HD.out HV.out ((HAT.out _ HBw.out).2.mono fun k hk => Nat.le_trans HB0.out.size (HF.out k hk)))
          rw [hX] at HA
          clear hd hv hF hFb hFr hbx hbl hdr hat hX hz hql c0 c1 c2 HI0
          gi_wp2_with fail
          refine wpIn_normal ?_
          refine wpIn_region_N 12 (fun W : World => W.cell? ⟨b7, 0, none⟩ = some (.slice (some ⟨S', 0, none⟩) 5 cS') ∧ W.cell? ⟨b7, 1, none⟩ = some (.slice (some ⟨T', 0, none⟩) 5 cT') ∧ W.cell? ⟨b7, 2, none⟩ = some (.slice qa ql qc) ∧ W.rangeAt bz (off + k * 6) (askA z m).toList) (by kernel_rfl) ?_
          (refine wpAnyN_take (i := 0) (v := ?_) (noDefers_of (by kernel_rfl)) rfl (by kernel_rfl) (by kernel_rfl) (fun _ _ _ h => by first | exact h | cases h.1) (fun _ => by first | rfl | simp [Oper.about]) (Or.inl ⟨by rfl, ?_⟩) hR ?_; rotate_left; (focus (intro w hSw; (try dsimp only at hSw); go_simp; (try with_reducible rfl))); (try simp only [put_laws])); (refine wpAnyN_take (i := 1) (v := ?_) (noDefers_of (by kernel_rfl)) rfl (by kernel_rfl) (by kernel_rfl) (fun _ _ _ h => by first | exact h | cases h.1) (fun _ => by first | rfl | simp [Oper.about]) (Or.inl ⟨by rfl, ?_⟩) hR ?_; rotate_left; (focus (intro w hSw; (try dsimp only at hSw); go_simp; (try with_reducible rfl))); (try simp only [put_laws])); (refine wpAnyN_take (i := 2) (v := ?_) (noDefers_of (by kernel_rfl)) rfl (by kernel_rfl) (by kernel_rfl) (fun _ _ _ h => by first | exact h | cases h.1) (fun _ => by first | rfl | simp [Oper.about]) (Or.inl ⟨by rfl, ?_⟩) hR ?_; rotate_left; (focus (intro w hSw; (try dsimp only at hSw); go_simp; (try with_reducible rfl))); (try simp only [put_laws])); (refine wpAnyN_take (i := 3) (v := ?_) (noDefers_of (by kernel_rfl)) rfl (by kernel_rfl) (by kernel_rfl) (fun _ _ _ h => by first | exact h | cases h.1) (fun _ => by first | rfl | simp [Oper.about]) (Or.inl ⟨by rfl, ?_⟩) hR ?_; rotate_left; (focus (intro w hSw; (try dsimp only at hSw); go_simp; (try with_reducible rfl))); (try simp only [put_laws])); (refine wpAnyN_take (i := 4) (v := ?_) (noDefers_of (by kernel_rfl)) rfl (by kernel_rfl) (by kernel_rfl) (fun _ _ _ h => by first | exact h | cases h.1) (fun _ => by first | rfl | simp [Oper.about]) (Or.inl ⟨by rfl, ?_⟩) hR ?_; rotate_left; (focus (intro w hSw; (try dsimp only at hSw); go_simp; (try with_reducible rfl))); (try simp only [put_laws]))
          (refine wpAnyN_take (i := 5) (v := _) (noDefers_of (by kernel_rfl)) rfl (by kernel_rfl) (by kernel_rfl) (fun _ _ _ h => by first | exact h | cases h.1) (fun _ => by first | rfl | simp [Oper.about]) (Or.inl ⟨by rfl, fun w hSw => exec_load_eq rfl rfl (HLR.out w hSw)⟩) hR ?_; (try simp only [put_laws]))
          (refine wpAnyN_one (i := 6) rfl (by kernel_rfl) (by rfl) (fun K hK => ?_); (try simp only [elem_laws]))
          try simp only [elem_laws]
          go_simp
          refine ⟨trivial, ?_⟩
          refine (callsIn_wide.2 HA.out).mono ?_
          rintro e w6 ⟨F', B2, S2, T2, cS2, cT2, q2, S3, T3, cS3, cT3, q3, bb, rfl, hg, hd', hv', ht, hF'⟩
          obtain rfl := hg (by first | rfl | trivial)
          obtain ⟨qa3, qc3, rfl⟩ := hv'.waits.slice_n
          obtain ⟨ql3, hql3⟩ : ∃ ql3, (d.step 5 z).waits.length = ql3 := ⟨_, rfl⟩
          rw [hql3] at hv' ⊢
          clear hql3 hg
          have hsz := HB7.out.lt
          have hsz2 := HRS.out.lt
          have hsz3 := ht.size
          have hlb := HLW.out
          have hz0' := HZ0.out
          have HF2 : Hid (∀ k, F' k → W0.heap.size ≤ k) := show ∀ k, _ from fun k hk => (hF' k hk).elim (HF.out k) fun h => by have := HB.out.size; omega
          have HFb2 : Hid (¬ F' b7) := show ¬ _ from fun h => (hF' _ h).elim HFb.out fun h => by omega
          have HFr2 : Hid (¬ F' (w.heap.size + 1 + 1 + 1)) := show ¬ _ from fun h => (hF' _ h).elim HFr.out fun h => by omega
          have HDE := Lib.hid hd'
          have HVE := Lib.hid hv'
          have HB6 : Hid (Below W0.heap.size W0 w6) := show Below _ _ _ from HB.out.trans (ht.below HF.out HB.out.size)
          have HB76 : Hid (Box3 w6 b7 36 (.slice (some ⟨S', 0, none⟩) 5 cS') (.slice (some ⟨T', 0, none⟩) 5 cT') (.slice qa ql qc)) := show Box3 _ _ _ _ _ _ from (ht.block b7 HB7.out.lt HFb.out).trans HB7.out
          have HR6 : Hid (Boxed w6 (w.heap.size + 1 + 1 + 1) 4 (.bool false)) := show Boxed _ _ _ _ from (ht.block _ HRS.out.lt HFr.out).trans HRS.out
          have HB6w : Hid (Below w.heap.size w w6) := show Below _ _ _ from HB0.out.trans (HB6.out.mono (by omega))
          obtain ⟨i0, i1, i2, g0, g1, g2⟩ := HB76.out.cells
          refine hK _ _ (fun _ => ⟨i0, i1, i2, (HAT.out _ HB6w.out).1⟩) ?_
          clear hK K hR hd' hv' hF' hsz hsz2 hlb
          have hR : (fun W : World => W.cell? ⟨b7, 0, none⟩ = some (.slice (some ⟨S', 0, none⟩) 5 cS') ∧ W.cell? ⟨b7, 1, none⟩ = some (.slice (some ⟨T', 0, none⟩) 5 cT') ∧ W.cell? ⟨b7, 2, none⟩ = some (.slice qa ql qc) ∧ W.rangeAt bz (off + k * 6) (askA z m).toList) w6 := ⟨i0, i1, i2, (HAT.out _ HB6w.out).1⟩
          (try simp only [put_laws])
          (refine wpAnyN_take (i := 7) (v := ?_) (noDefers_of (by kernel_rfl)) rfl (by kernel_rfl) (by kernel_rfl) (fun _ _ _ h => by first | exact h | cases h.1) (fun _ => by first | rfl | simp [Oper.about]) (Or.inl ⟨by rfl, ?_⟩) hR ?_; rotate_left; (focus (intro w hSw; (try dsimp only at hSw); go_simp; (try with_reducible rfl))); (try simp only [put_laws])); (refine wpAnyN_take (i := 8) (v := ?_) (noDefers_of (by kernel_rfl)) rfl (by kernel_rfl) (by kernel_rfl) (fun _ _ _ h => by first | exact h | cases h.1) (fun _ => by first | rfl | simp [Oper.about]) (Or.inl ⟨by rfl, ?_⟩) hR ?_; rotate_left; (focus (intro w hSw; (try dsimp only at hSw); go_simp; (try with_reducible rfl))); (try simp only [put_laws])); (refine wpAnyN_take (i := 9) (v := ?_) (noDefers_of (by kernel_rfl)) rfl (by kernel_rfl) (by kernel_rfl) (fun _ _ _ h => by first | exact h | cases h.1) (fun _ => by first | rfl | simp [Oper.about]) (Or.inl ⟨by rfl, ?_⟩) hR ?_; rotate_left; (focus (intro w hSw; (try dsimp only at hSw); go_simp; (try with_reducible rfl))); (try simp only [put_laws]))
          have HEND : Hid (BothQ W0 5 b7 (w.heap.size + 1 + 1 + 1) B2 (((w6.setCell ⟨b7, 0, none⟩ (.slice (some ⟨S3, 0, none⟩) 5 cS3)).setCell ⟨b7, 1, none⟩ (.slice (some ⟨T3, 0, none⟩) 5 cT3)).setCell ⟨b7, 2, none⟩ (.slice qa3 ql3 qc3))) := show BothQ _ _ _ _ _ _ from
            bothQ_set HDE.out HVE.out HF2.out HFb2.out HFr2.out HB76.out HR6.out HB6.out (by have := HLW.out; omega) HLW.out
          refine wpAnyN_two (i := 10) (j := 11) rfl rfl (by kernel_rfl) (by rfl) (by rfl) (fun K hK => ?_) (fun K hK => ?_)
          · try simp only [elem_laws]
            go_simp
            refine hK _ _ (fun h => hR) ?_
            clear hK K
            (try simp only [put_laws])
            (refine wpAnyN_one (i := 11) rfl (by kernel_rfl) (by rfl) (fun K hK => ?_); (try simp only [elem_laws]))
            try simp only [elem_laws]
            go_simp
            refine hK _ _ (fun h => hR) ?_
            clear hK K
            (try simp only [put_laws])
            (refine wpAnyN_last rfl (by kernel_rfl) (by rfl) (fun K hK => ?_); (try simp only [elem_laws]))
            go_simp
            refine hK _ _ ?_
            clear hK K
            (try simp only [put_laws])
            refine wpAnyN_done (by kernel_rfl) ?_ _
            refine ⟨rfl, ?_⟩
            gi_wp2_with fail
            go_roundw
            case rel => exact ⟨k + 1, B2, by omega, rfl, by go_num, HEND⟩
            case measure => simp [intOf]; omega
          · try simp only [elem_laws]
            go_simp
            refine hK _ _ (fun h => hR) ?_
            clear hK K
            (try simp only [put_laws])
            refine wpAnyN_two (i := 10) (j := 12) rfl rfl (by kernel_rfl) (by rfl) (by rfl) (fun K hK => ?_) (fun K hK => ?_)
            · try simp only [elem_laws]
              go_simp
              refine hK _ _ (fun h => hR) ?_
              clear hK K
              (try simp only [put_laws])
              (refine wpAnyN_last rfl (by kernel_rfl) (by rfl) (fun K hK => ?_); (try simp only [elem_laws]))
              go_simp
              refine hK _ _ ?_
              clear hK K
              (try simp only [put_laws])
              refine wpAnyN_done (by kernel_rfl) ?_ _
              refine ⟨rfl, ?_⟩
              gi_wp2_with fail
              go_roundw
              case rel => exact ⟨k + 1, B2, by omega, rfl, by go_num, HEND⟩
              case measure => simp [intOf]; omega
            · try simp only [elem_laws]
              go_simp
              refine hK _ _ (fun h => by cases h) ?_
              clear hK K
              (try simp only [put_laws])
              (refine wpAnyN_one (i := 10) rfl (by kernel_rfl) (by rfl) (fun K hK => ?_); (try simp only [elem_laws]))
              try simp only [elem_laws]
              go_simp
              refine hK _ _ (fun h => by cases h) ?_
              clear hK K
              (try simp only [put_laws])
              refine wpAnyN_done (by kernel_rfl) ?_ _
              refine ⟨rfl, ?_⟩
              gi_wp2_with fail
              go_roundw
              case rel => exact ⟨k + 1, B2, by omega, rfl, by go_num, HEND⟩
              case measure => simp [intOf]; omega
        · have k2 : ¬ (k : Int) < (N : Int) := by omega
          obtain ⟨F, S, T, cS, cT, q, S', T', cS', cT', q', d, hd, hv, hF, hFb, hFr, hbx⟩ := HI.out.ex
          obtain ⟨qa, qc, rfl⟩ := hv.waits.slice_n
          obtain ⟨ql, hql⟩ : ∃ ql, d.waits.length = ql := ⟨_, rfl⟩
          rw [hql] at hv hbx
          have HQL := Lib.hid hql
          have HD := Lib.hid hd
          have HV := Lib.hid hv
          have HB7 := Lib.hid hbx
          have HRS := Lib.hid HI.out.res
          have HB : Hid (Below W0.heap.size W0 wr) := show Below _ _ _ from HI.out.below
          have HF := Lib.hid hF
          have HFb := Lib.hid hFb
          have HFr := Lib.hid hFr
          have HCP := Lib.hid (copy_any wr hd)
          clear hd hv hF hFb hFr hbx hql HI0 HI
          gi_wp2_with fail
          refine ⟨trivial, ?_⟩
          refine (callsIn_wide.2 HCP.out).mono ?_
          rintro e w3 ⟨hb3, Bc, Sc, Tc, cSc, cTc, qc', rfl, hdc⟩
          have HB3 := Lib.hid hb3
          have HDC := Lib.hid hdc
          have HWT := Lib.hid (waits_any w3 (HD.out.below hb3))
          clear hb3 hdc
          gi_wp2_with fail
          refine ⟨trivial, ?_⟩
          refine (callsIn_wide.2 HWT.out).mono ?_
          rintro e w4 ⟨Ps, us, rfl, hPs, hbs, hqs, hb4⟩
          have HPS := Lib.hid hPs
          have HBS := Lib.hid hbs
          have HQS := Lib.hid hqs
          have HB4 := Lib.hid hb4
          have hb34 : Below wr.heap.size wr w4 := HB3.out.trans (hb4.mono HB3.out.size)
          have HB34 := Lib.hid hb34
          have HB04 : Hid (Below W0.heap.size W0 w4) := show Below _ _ _ from HB.out.trans (hb34.mono HB.out.size)
          have HB04w : Hid (Below w.heap.size w w4) := show Below _ _ _ from HB0.out.trans (HB04.out.mono (by have := HZ0.out; omega))
          have HB74 := Lib.hid (HB7.out.below hb34 HB7.out.lt)
          obtain ⟨c0, c1, c2, -⟩ := HB74.out.cells
          have hx4 := (HCX.out _ HB04.out).1
          have d0 : w4.cell? ⟨w.heap.size, 0, none⟩ = some (.int .i64 x.what) := hx4 0 _ rfl
          have d1 : w4.cell? ⟨w.heap.size, 1, none⟩ = some (.int .i64 x.at_) := hx4 1 _ rfl
          have d2 : w4.cell? ⟨w.heap.size, 2, none⟩ = some (.int .i64 x.line) := hx4 2 _ rfl
          have d3 : w4.cell? ⟨w.heap.size, 3, none⟩ = some (.int .u64 x.word) := hx4 3 _ rfl
          have d4 : w4.cell? ⟨w.heap.size, 4, none⟩ = some (.int .u64 x.from_) := hx4 4 _ rfl
          have d5 : w4.cell? ⟨w.heap.size, 5, none⟩ = some (.slice xa xn xc) := hx4 5 _ rfl
          have HVF : Hid (RefV w4 F S' T' 5 cS' cT' (.slice qa ql qc) d) := show RefV _ _ _ _ _ _ _ _ _ from HV.out.below hb34
          have HVC : Hid (RefV w4 (fun k => wr.heap.size ≤ k ∧ k < w3.heap.size) S' T' 5 cS' cT' (.slice qa ql qc) d) := show RefV _ _ _ _ _ _ _ _ _ from ((HV.out.wide (fun k => wr.heap.size ≤ k ∧ k < w3.heap.size) fun k hk => hk.1).weak fun k hk => .inr hk).below hb34
          have HAC := Lib.hid (act_any x HXX.out.1 HXX.out.2 (by have := HMKX.out; omega) w4 (HEN.out.below HB04w.out HEN.out.room) (HDC.out.below hb4) HVC.out ((HMX.out.low HB04w.out).mono fun k hk => by have := HB.out.size; have := HZ0.out; have := HB0.out.size; omega))
          clear hPs hbs hqs hb4 hb34 hx4
          gi_wp2_with fail
          refine ⟨trivial, ?_⟩
          refine (callsIn_wide.2 HAC.out).mono ?_
          rintro e v5 ⟨Fc, B5, S5, T5, cS5, cT5, q5, So, To, cSo, cTo, qo, bb, rfl, hg, hdv5, hov5, htv5, hFc⟩
          obtain rfl := hg (by first | rfl | trivial)
          obtain ⟨qoa, qoc, rfl⟩ := hov5.waits.slice_n
          obtain ⟨qol, hqol⟩ : ∃ ql, (d.step 5 x).waits.length = ql := ⟨_, rfl⟩
          rw [hqol] at hov5 ⊢
          obtain ⟨w5, hw5⟩ : ∃ W, v5.alloc (.cells #[.slice (some ⟨So, 0, none⟩) 5 cSo, .slice (some ⟨To, 0, none⟩) 5 cTo, .slice qoa qol qoc] 36) = W := ⟨_, rfl⟩
          have hbv : Below v5.heap.size v5 w5 := by rw [← hw5]; exact (Below.refl _ _).alloc (Nat.le_refl _) _
          have hzv : w5.heap.size = v5.heap.size + 1 := by rw [← hw5]; simp
          have hdc5 := hdv5.below hbv
          have ho5 := hov5.below hbv
          have ht5 := htv5.trans (Turn.of_below hbv (Nat.le_refl _))
          obtain ⟨bo, hbo⟩ : ∃ bo, v5.heap.size = bo := ⟨_, rfl⟩
          have HBO5 : Hid (Box3 w5 bo 36 (.slice (some ⟨So, 0, none⟩) 5 cSo) (.slice (some ⟨To, 0, none⟩) 5 cTo) (.slice qoa qol qoc)) := show Box3 _ _ _ _ _ _ from by rw [← hw5, ← hbo]; exact Box3.new _ _ _ _ _
          have HBOr : Hid (wr.heap.size ≤ bo) := show _ ≤ _ by have := HB34.out.size; have := htv5.size; omega
          clear c0 c1 c2 d0 d1 d2 d3 d4 d5 hqol hg HAC HVC HVF
          have hz34 := HB4.out.size
          have hz3r := HB3.out.size
          have hz5 := ht5.size
          have hb5 : Below wr.heap.size w4 w5 := ht5.below (fun k hk => hk.1) HB34.out.size
          have hbr5 : Below wr.heap.size wr w5 := HB34.out.trans hb5
          have HBR5 := Lib.hid hbr5
          have HC5 := Lib.hid hdc5
          have HO5 := Lib.hid ho5
          have HFC : Hid (∀ k, Fc k → wr.heap.size ≤ k) := show ∀ k, _ from fun k hk => by rcases hFc k hk with h | h <;> omega
          have HD5 := Lib.hid (HD.out.below hbr5)
          have HV5 := Lib.hid ((HV.out.below hbr5).weak HD5.out.leastF_le)
          have HOD := Lib.hid (ho5.apart HD5.out.least_types)
          have HBS5 : Hid (Boxed w5 Ps 114 us) := show Boxed _ _ _ _ from (ht5.block Ps HBS.out.lt (fun h => by have := HPS.out; omega)).trans HBS.out
          have HQS5 : Hid (QueAt w5 w3.heap.size us (linesOf d.waits)) := show QueAt _ _ _ _ from ownsRow_block HQS.out fun g hb hl => ht5.block g hl (fun h => by have := (HQS.out.lt g hb).1; omega)
          have HB05 : Hid (Below W0.heap.size W0 w5) := show Below _ _ _ from HB.out.trans (hbr5.mono HB.out.size)
          have HB05w : Hid (Below w.heap.size w w5) := show Below _ _ _ from HB0.out.trans (HB05.out.mono (by have := HZ0.out; omega))
          have HB75 := Lib.hid (HB7.out.below hbr5 HB7.out.lt)
          obtain ⟨c0, c1, c2, -⟩ := HB75.out.cells
          have hy5 := (HCX.out _ HB05.out).2
          have d0 : w5.cell? ⟨w.heap.size + 1, 0, none⟩ = some (.int .i64 y.what) := hy5 0 _ rfl
          have d1 : w5.cell? ⟨w.heap.size + 1, 1, none⟩ = some (.int .i64 y.at_) := hy5 1 _ rfl
          have d2 : w5.cell? ⟨w.heap.size + 1, 2, none⟩ = some (.int .i64 y.line) := hy5 2 _ rfl
          have d3 : w5.cell? ⟨w.heap.size + 1, 3, none⟩ = some (.int .u64 y.word) := hy5 3 _ rfl
          have d4 : w5.cell? ⟨w.heap.size + 1, 4, none⟩ = some (.int .u64 y.from_) := hy5 4 _ rfl
          have d5 : w5.cell? ⟨w.heap.size + 1, 5, none⟩ = some (.slice ya yn yc) := hy5 5 _ rfl
          have HAD := Lib.hid (act_any y HYY.out.1 HYY.out.2 (by have := HMKY.out; omega) w5 (HEN.out.below HB05w.out HEN.out.room) HD5.out.least HV5.out ((HMY.out.low HB05w.out).mono fun k hk => by have := HF.out k (HD5.out.leastF_le k hk); have := HZ0.out; omega))
          clear hdc5 ho5 ht5 hFc hb5 hbr5 hy5 hdv5 hov5 htv5 hbv hzv
          rw [← hw5] at c0 c1 c2 d0 d1 d2 d3 d4 d5
          have HW5 := Lib.hid hw5
          have HBOE := Lib.hid hbo
          clear hw5 hbo
          gi_wp2_with fail
          rw [HW5.out, HBOE.out]
          refine ⟨trivial, ?_⟩
          refine (callsIn_wide.2 HAD.out).mono ?_
          rintro e v6 ⟨Fd, B6, S6, T6, cS6, cT6, q6, Sp, Tp, cSp, cTp, qp, bb, rfl, hg, hdv6, hpv6, htv6, hFd⟩
          obtain rfl := hg (by first | rfl | trivial)
          obtain ⟨qpa, qpc, rfl⟩ := hpv6.waits.slice_n
          obtain ⟨qpl, hqpl⟩ : ∃ ql, (d.step 5 y).waits.length = ql := ⟨_, rfl⟩
          rw [hqpl] at hpv6 ⊢
          obtain ⟨w6, hw6⟩ : ∃ W, v6.alloc (.cells #[.slice (some ⟨Sp, 0, none⟩) 5 cSp, .slice (some ⟨Tp, 0, none⟩) 5 cTp, .slice qpa qpl qpc] 36) = W := ⟨_, rfl⟩
          have hbv : Below v6.heap.size v6 w6 := by rw [← hw6]; exact (Below.refl _ _).alloc (Nat.le_refl _) _
          have hd6 := hdv6.below hbv
          have hp6 := hpv6.below hbv
          have ht6 := htv6.trans (Turn.of_below hbv (Nat.le_refl _))
          obtain ⟨bp, hbp⟩ : ∃ bp, v6.heap.size = bp := ⟨_, rfl⟩
          have HBP6 : Hid (Box3 w6 bp 36 (.slice (some ⟨Sp, 0, none⟩) 5 cSp) (.slice (some ⟨Tp, 0, none⟩) 5 cTp) (.slice qpa qpl qpc)) := show Box3 _ _ _ _ _ _ from by rw [← hw6, ← hbp]; exact Box3.new _ _ _ _ _
          clear c0 c1 c2 d0 d1 d2 d3 d4 d5 hqpl hg HAD
          have hlive : ∀ k, leastF F B1 S T q k → W0.heap.size ≤ k ∧ k < wr.heap.size := fun k hk => ⟨HF.out k (HD.out.leastF_le k hk), HD.out.live k (HD.out.leastF_le k hk)⟩
          have hz6 := ht6.size
          have HC6 := Lib.hid (HC5.out.turn ht6 fun k hk _ h => by have := HFC.out k hk; have := (hlive k h).2; omega)
          have HO6 := Lib.hid (HO5.out.turn2 HOD.out ht6)
          have HD6 := Lib.hid hd6
          have HP6 := Lib.hid hp6
          have HBS6 : Hid (Boxed w6 Ps 114 us) := show Boxed _ _ _ _ from (ht6.block Ps HBS5.out.lt (fun h => by have := HPS.out; have := (hlive _ h).2; omega)).trans HBS5.out
          have HQS6 : Hid (QueAt w6 w3.heap.size us (linesOf d.waits)) := show QueAt _ _ _ _ from ownsRow_block HQS5.out fun g hb hl => ht6.block g hl (fun h => by have := (hlive _ h).2; have := (HQS5.out.lt g hb).1; omega)
          have hb6 : Below W0.heap.size w5 w6 := ht6.below (fun k hk => (hlive k hk).1) (by have := HB05.out.size; omega)
          have HB06 : Hid (Below W0.heap.size W0 w6) := show Below _ _ _ from HB05.out.trans hb6
          have HB06w : Hid (Below w.heap.size w w6) := show Below _ _ _ from HB0.out.trans (HB06.out.mono (by have := HZ0.out; omega))
          have HB76 : Hid (Box3 w6 b7 36 (.slice (some ⟨S', 0, none⟩) 5 cS') (.slice (some ⟨T', 0, none⟩) 5 cT') (.slice qa ql qc)) := show Box3 _ _ _ _ _ _ from (ht6.block b7 HB75.out.lt (fun h => HFb.out (HD.out.leastF_le _ h))).trans HB75.out
          have HVW : Hid (RefV w6 (leastF F B1 S T q) S' T' 5 cS' cT' (.slice qa ql qc) d) := show RefV _ _ _ _ _ _ _ _ _ from HV5.out.turn ht6
          have HBO6 : Hid (Box3 w6 bo 36 (.slice (some ⟨So, 0, none⟩) 5 cSo) (.slice (some ⟨To, 0, none⟩) 5 cTo) (.slice qoa qol qoc)) := show Box3 _ _ _ _ _ _ from (ht6.block bo HBO5.out.lt (fun h => by have := (hlive _ h).2; have := HBOr.out; omega)).trans HBO5.out
          have HOC := Lib.hid (fun W (hb : Below w6.heap.size w6 W) => (HBO6.out.below hb HBO6.out.lt).cells)
          have HPC := Lib.hid (fun W (hb : Below w6.heap.size w6 W) => (HBP6.out.below hb HBP6.out.lt).cells)
          have HEW := Lib.hid (fun W (hb : Below w6.heap.size w6 W) => (HEN.out.below HB06w.out HEN.out.room).below hb (HEN.out.below HB06w.out HEN.out.room).room)
          obtain ⟨sm, hsm⟩ : ∃ sm, (d.step 5 x).same (d.step 5 y) = sm := ⟨_, rfl⟩
          have HSA := Lib.hid (refSame_any w6 HO6.out HP6.out)
          have HSX := Lib.hid (fun W (hb : Below w6.heap.size w6 W) => sameD_any W (HC6.out.below hb) (HD6.out.below hb))
          have HSY := Lib.hid (fun W (hb : Below w6.heap.size w6 W) => sameD_any W (HD6.out.below hb) (HC6.out.below hb))
          rw [hsm] at HSA HSX
          rw [Dv.same_comm, hsm] at HSY
          have HISC := Lib.hid (fun W (hb : Below w6.heap.size w6 W) => is_any W (HEW.out W hb) (HC6.out.below hb) (HO6.out.below hb))
          have HISD := Lib.hid (fun W (hb : Below w6.heap.size w6 W) => is_any W (HEW.out W hb) (HD6.out.below hb) (HP6.out.below hb))
          obtain ⟨c0, c1, c2, -⟩ := HOC.out w6 (Below.refl _ _)
          obtain ⟨d0, d1, d2, -⟩ := HPC.out w6 (Below.refl _ _)
          rw [← hw6] at c0 c1 c2 d0 d1 d2
          have HW6 := Lib.hid hw6
          have HBPE := Lib.hid hbp
          clear hd6 hp6 ht6 hFd hb6 hlive hsm hw6 hbp hbv hdv6 hpv6 htv6
          gi_wp2_with fail
          rw [HW6.out, HBPE.out]
          refine ⟨trivial, ?_⟩
          refine (callsIn_wide.2 HSA.out).mono ?_
          rintro e w7 ⟨rfl, hb7⟩
          have HB7L := Lib.hid hb7
          clear hb7 c0 c1 c2 d0 d1 d2
          gi_wp2_with fail
          refine ⟨trivial, ?_⟩
          refine (callsIn_wide.2 (num4_any _ _)).mono ?_
          rintro e wn ⟨rfl, hwn⟩
          rw [hwn]
          clear hwn wn
          obtain ⟨c0, c1, c2, -⟩ := HOC.out w7 HB7L.out
          gi_wp2_with fail
          refine ⟨trivial, ?_⟩
          refine (callsIn_wide.2 (HISC.out w7 HB7L.out)).mono ?_
          rintro e w8 ⟨rfl, hb8⟩
          have HB8 : Hid (Below w6.heap.size w6 w8) := show Below _ _ _ from HB7L.out.trans (hb8.mono HB7L.out.size)
          clear hb8 c0 c1 c2
          obtain ⟨c0, c1, c2, -⟩ := HPC.out w8 HB8.out
          gi_wp2_with fail
          refine ⟨trivial, ?_⟩
          refine (callsIn_wide.2 (HISD.out w8 HB8.out)).mono ?_
          rintro e w9 ⟨rfl, hb9⟩
          have HB9 : Hid (Below w6.heap.size w6 w9) := show Below _ _ _ from HB8.out.trans (hb9.mono HB8.out.size)
          clear hb9 c0 c1 c2
          gi_wp2_with fail
          refine ⟨trivial, ?_⟩
          refine (callsIn_wide.2 (HSX.out w9 HB9.out)).mono ?_
          rintro e wa ⟨rfl, m1, hwa⟩
          have HBa : Hid (Below w6.heap.size w6 wa) := show Below _ _ _ from by rw [hwa]; exact below_drewN HB9.out m1
          clear hwa m1
          gi_wp2_with fail
          refine ⟨trivial, ?_⟩
          refine (callsIn_wide.2 (HSY.out wa HBa.out)).mono ?_
          rintro e wb ⟨rfl, m1, hwb⟩
          have hbb : Below w6.heap.size w6 wb := by rw [hwb]; exact below_drewN HBa.out m1
          clear hwb m1
          have HBb := Lib.hid hbb
          have hHV := HVW.out.below hbb
          have hbs := (hbb.block _ HBS6.out.lt).trans HBS6.out
          have hqs : QueAt wb w3.heap.size us (linesOf d.waits) := ownsRow_block HQS6.out fun g _ hl => hbb.block g hl
          have hb7 := HB76.out.below hbb HB76.out.lt
          have hb0b : Below W0.heap.size W0 wb := HB06.out.trans (hbb.mono HB06.out.size)
          have hrb : Boxed wb (w.heap.size + 1 + 1 + 1) 4 (.bool false) := (hb0b.block _ (by have := HZ0.out; omega)).trans HBR.out
          have hmb : Boxed wb (w.heap.size + 1 + 1) 3 (.int .i64 many) := (hb0b.block _ (by have := HZ0.out; omega)).trans HBM.out
          have HB0b := Lib.hid hb0b
          have HRB := Lib.hid hrb
          have HMB := Lib.hid hmb
          have HVb := Lib.hid hHV
          have HB7b := Lib.hid hb7
          obtain ⟨ua, uc, rfl⟩ := own_slice hqs
          have HQL2 := Lib.hid (show (linesOf d.waits).length = ql from (List.length_map _).trans HQL.out)
          have hwc : Below wb.heap.size wb (wb.alloc (.cells #[.int .i64 0] 3)) := (Below.refl _ _).alloc (Nat.le_refl _) _
          have hlP : Ps < (wb.alloc (.cells #[.int .i64 0] 3)).heap.size := Nat.lt_of_lt_of_le (Boxed.lt hbs) hwc.size
          obtain ⟨g, hgl, hgA, hga⟩ := que_block (Boxed.lt hbs) hqs
          have hgl2 : g < (wb.alloc (.cells #[.int .i64 0] 3)).heap.size := Nat.lt_of_lt_of_le hgl hwc.size
          have hq1024 : ql ≤ 5 := by have h1 := HVb.out.ok.few; have h2 := HQL.out; omega
          have hls : (linesOf d.waits).length ≤ 100000 := by rw [HQL2.out]; omega
          have hsq := waits_seq 19 (by decide) Ps g uc w3.heap.size ua (linesOf d.waits) hls (wb.alloc (.cells #[.int .i64 0] 3)) (fun h => ⟨(hga h).1, ownsRow_block (hga h).2 fun g' _ hl => hwc.block g' hl⟩) ((hwc.block _ (Boxed.lt hbs)).trans hbs) hgl2
          have hi0 : CopI wb many wb.heap.size b7 (w.heap.size + 1 + 1 + 1) (.cells #[.slice (some ⟨S', 0, none⟩) 5 cS', .slice (some ⟨T', 0, none⟩) 5 cT', .slice qa ql qc] 36 (0, 0)) [] (fun _ => False) (wb.alloc (.cells #[.int .i64 0] 3)) :=
            ⟨⟨⟨Boxed.new wb 3 _, id⟩, ⟨(hwc.block _ hb7.lt).trans hb7, id⟩, ⟨(hwc.block _ (Boxed.lt hrb)).trans hrb, id⟩, ⟨hwc, hwc.size, fun _ h => h.elim⟩⟩, .inl rfl⟩
          have HI0 := Lib.hid hi0
          have HSQ := Lib.hid hsq
          have HGL := Lib.hid hgl
          have HG8 : Hid (∀ k, k = g → k < (wb.alloc (.cells #[.int .i64 0] 3)).heap.size) := show ∀ _, _ from fun k hk => by rw [hk]; exact hgl2
          have HWZ : Hid ((wb.alloc (.cells #[.int .i64 0] 3)).heap.size = wb.heap.size + 1) := show _ = _ by simp
          clear hbb hHV hbs hqs hb7 hb0b hrb hmb hwc hlP hga hgA hgl2 hls hsq hi0
          gi_wp2_with fail
          generalize hA : ({ tmps := _, defers := _ } : Act) = A0
          refine wpIn_range_F (n := 20) (by decide) (gf := 56) (lb := #[.pointer (some ⟨Ps, 0, none⟩)]) (by rw [← hA]; rfl) (enters_of Tryd.func56 (by kernel_rfl) rfl) HSQ.out HG8.out (Below.refl _ _) (fun _ => rfl)
            (CopI wb many wb.heap.size b7 (w.heap.size + 1 + 1 + 1) (.cells #[.slice (some ⟨S', 0, none⟩) 5 cS', .slice (some ⟨T', 0, none⟩) 5 cT', .slice qa ql qc] 36 (0, 0))) (CopX wb many wb.heap.size b7 (w.heap.size + 1 + 1 + 1) (.cells #[.slice (some ⟨S', 0, none⟩) 5 cS', .slice (some ⟨T', 0, none⟩) 5 cT', .slice qa ql qc] 36 (0, 0))) (abides_cop _ _ _ _ _ _) (abides_copx _ _ _ _ _ _) HI0.out
            (fun x a' _ => a' = { tmps := (A0.tmps.setIfInBounds 115 (.int .i64 (x : Nat))).setIfInBounds 21 (.int .i64 (x : Nat)), defers := [] })
            (fun x a' W1 o h => h)
            ?assign ?body ?done ?stop
          case assign =>
            rintro l2 x W2 K hsz hK
            subst hA
            unfold encI
            dsimp only
            gi_wp2_with fail
            refine hK _ _ ?_ (Below.refl _ _)
            rfl
          case body =>
            rintro l2 pre x a' q2 W2 ⟨⟨⟨hnb, hqn⟩, ⟨hso, hqs⟩, ⟨hr, hqr⟩, hB, hBs, hBq⟩, hcnt⟩ hs2 hqb hsp rfl
            subst hA
            have hln : pre.length < ql := by
              have := hsp.length_le
              rw [List.length_append, HQL2.out, List.length_singleton] at this
              omega
            have hln2 : pre.length < d.waits.length := by rw [HQL.out]; exact hln
            have hx : x = (ithW d.waits pre.length).1 := by
              have h := hsp.getElem (i := pre.length) (by simp)
              simp at h
              rw [h]
              unfold linesOf ithW
              rw [List.getElem_map, List.getElem?_eq_getElem hln2]
              rfl
            have hDW := (HVb.out.below hB).waits
            rw [HQL.out] at hDW
            obtain ⟨g', rfl, hrow⟩ := hDW.row (by omega)
            have cw := (wait_cells hrow (fun y hy => (HVb.out.ok.waits y hy).2) pre.length hln2).1
            rw [← hx] at cw
            have k2 : ((pre.length : Nat) : Int) < (ql : Int) := by omega
            have hm : Boxed W2 (w.heap.size + 1 + 1) 3 (.int .i64 many) := (hB.block _ (Boxed.lt HMB.out)).trans HMB.out
            have cn := Boxed.cell hnb
            have fn := Boxed.frozen hnb
            have ln := Boxed.lt hnb
            have cm := Boxed.cell hm
            have lMn : w.heap.size + 1 + 1 ≠ wb.heap.size := by have := Boxed.lt HMB.out; omega
            obtain ⟨c0, c1, c2, -⟩ := Box3.cells hso
            have hPL : (pre ++ [x]).length = pre.length + 1 := by simp
            have HKP : Hid (Keeps (fun k => k = g ∨ q2 k) W2 (W2.setCell ⟨wb.heap.size, 0, none⟩ (.int .i64 ((pre.length : Int) + 1)))) := show Keeps _ _ _ from Keeps.set _ _ (fun h => h.elim (fun h => by have := HGL.out; omega) hqn)
            have HIS : Hid (IsI wb wb.heap.size b7 (w.heap.size + 1 + 1 + 1) (.cells #[.slice (some ⟨S', 0, none⟩) 5 cS', .slice (some ⟨T', 0, none⟩) 5 cT', .slice (some ⟨g', 0, none⟩) ql qc] 36 (0, 0)) (pre ++ [x]) q2 (W2.setCell ⟨wb.heap.size, 0, none⟩ (.int .i64 ((pre.length : Int) + 1)))) := show IsI _ _ _ _ _ _ _ _ from by
              refine ⟨⟨?_, hqn⟩, ⟨(Below.heap_setCell _ _ _ _ (show b7 ≠ wb.heap.size by have := HB7b.out.lt; omega)).trans hso, hqs⟩, ⟨(Below.heap_setCell _ _ _ _ (show w.heap.size + 1 + 1 + 1 ≠ wb.heap.size by have := Boxed.lt HRB.out; omega)).trans hr, hqr⟩, hB.setCell (p := ⟨wb.heap.size, 0, none⟩) (Nat.le_refl _) _, by simp [World.setCell]; exact hBs, hBq⟩
              rw [hPL]
              exact hnb.set _
            have HPL : Hid ((pre ++ [x]).length = pre.length + 1) := hPL
            have HCN := Lib.hid hcnt
            obtain ⟨k', hk'⟩ : ∃ k', pre.length = k' := ⟨_, rfl⟩
            rw [hk'] at cw k2 cn HPL HKP HIS HCN
            have hk5 : k' ≤ 5 := by omega
            have hxx : ((x : Int) != (x : Int)) = false := by simp
            clear hnb hso hr hB hBs hBq hqn hqs hqr hsp hDW hrow hx hk' hln hln2 hqb hs2 hcnt hPL hm HI0
            by_cases hmany : many ≤ (k' : Int) + 1
            · gi_wp2_with fail
              exact ⟨HKP.out, ⟨rfl, by rw [HPL.out]; omega, by rw [HPL.out]; omega, by rw [HPL.out]; have := HCN.out; omega⟩, HIS.out⟩
            · have hmany' : (k' : Int) + 1 < many := by omega
              gi_wp2_with fail
              exact ⟨HKP.out, HIS.out, .inr (by rw [HPL.out]; omega)⟩
          case done =>
            rintro D ys W2 hD rfl ⟨⟨⟨hnb, -⟩, ⟨hso, -⟩, ⟨hr, -⟩, hB, hBs, -⟩, hcnt⟩ hK'
            subst hA
            have cn := Boxed.cell hnb
            rw [HQL2.out] at cn hcnt
            obtain ⟨c0, c1, c2, -⟩ := Box3.cells hso
            have hmin : min (ql : Int) (max 1 many) = (ql : Int) := by omega
            have hm : Boxed W2 (w.heap.size + 1 + 1) 3 (.int .i64 many) := (hB.block _ (Boxed.lt HMB.out)).trans HMB.out
            have cm := Boxed.cell hm
            have hnn : ((ql : Int) == (ql : Int)) = true := by simp
            have hb02 : Below W0.heap.size W0 W2 := HB0b.out.trans (hB.mono HB0b.out.size)
            have HBW2 : Hid (Below w.heap.size w W2) := show Below _ _ _ from HB0.out.trans (hb02.mono (by have := HZ0.out; omega))
            have HR := Lib.hid hr
            have HK := Lib.hid hK'
            have HDR : Hid (w.heap.size + 1 + 1 + 1 < D) := show _ < _ by have := HWZ.out; have := HB0b.out.size; have := HZ0.out; omega
            clear hnb hso hr hB hBs hcnt hK' hD hm hb02 HI0
            gi_wp2_with fail
            all_goals
              refine ⟨trivial, ?_⟩
              refine (callsIn_wide.2 (HW4.out W2 HBW2.out)).mono ?_
              rintro e wz ⟨rfl, hbz⟩
              have hRz : Boxed wz (w.heap.size + 1 + 1 + 1) 4 (.bool false) := (hbz.block _ HR.out.lt).trans HR.out
              have cr := Boxed.cell hRz
              have fr := Boxed.frozen hRz
              have lr := Boxed.lt hRz
              have HRZ := Lib.hid hRz
              have HKZ : Hid (wz.heap[D]? = some (.deferred (some []))) := show _ = _ from (hbz.block D (Array.getElem?_eq_some_iff.1 HK.out).1).trans HK.out
              have HBZ : Hid (Below w.heap.size w wz) := show Below _ _ _ from HBW2.out.trans (hbz.mono HBW2.out.size)
              clear hbz hRz
              gi_wp2_with fail
              have hdr := HDR.out
              refine leaves_marks (B := w.heap.size) [_] (D + 1) _ ⟨D, rfl, by omega, by omega, (Below.heap_setCell _ _ _ D (show D ≠ w.heap.size + 1 + 1 + 1 by omega)).trans HKZ.out, trivial⟩ fun W' hs => ⟨.bool true, ?_, rfl, (HBZ.out.setCell (p := ⟨w.heap.size + 1 + 1 + 1, 0, none⟩) (show w.heap.size ≤ w.heap.size + 1 + 1 + 1 by omega) _).trans hs.1⟩
              have hc4 : Boxed W' (w.heap.size + 1 + 1 + 1) 4 (.bool true) := hs.2 _ _ _ _ (HRZ.out.set (.bool true))
              simp [results, Tryd.results3, go_sem, hc4.cell]
          case stop =>
            rintro D cd pre W2 hD hpre ⟨⟨rfl, hp1, hp2, hp3⟩, ⟨hnb, -⟩, ⟨hso, -⟩, ⟨hr, -⟩, hB, hBs, -⟩ hK'
            subst hA
            have hcnt : pre.length ≤ ql := by
              have := hpre.length_le
              rwa [HQL2.out] at this
            obtain ⟨k', hk'⟩ : ∃ k', pre.length = k' := ⟨_, rfl⟩
            rw [hk'] at hnb hp1 hp2 hp3 hcnt
            have cn := Boxed.cell hnb
            obtain ⟨c0, c1, c2, -⟩ := Box3.cells hso
            have hmin : min (ql : Int) (max 1 many) = (k' : Int) := by omega
            have hm : Boxed W2 (w.heap.size + 1 + 1) 3 (.int .i64 many) := (hB.block _ (Boxed.lt HMB.out)).trans HMB.out
            have cm := Boxed.cell hm
            have hnn : ((k' : Int) == (k' : Int)) = true := by simp
            have hb02 : Below W0.heap.size W0 W2 := HB0b.out.trans (hB.mono HB0b.out.size)
            have HBW2 : Hid (Below w.heap.size w W2) := show Below _ _ _ from HB0.out.trans (hb02.mono (by have := HZ0.out; omega))
            have HR := Lib.hid hr
            have HK := Lib.hid hK'
            have HDR : Hid (w.heap.size + 1 + 1 + 1 < D) := show _ < _ by have := HWZ.out; have := HB0b.out.size; have := HZ0.out; omega
            clear hnb hso hr hB hBs hcnt hK' hD hm hb02 HI0
            gi_wp2_with fail
            all_goals
              refine ⟨trivial, ?_⟩
              refine (callsIn_wide.2 (HW4.out W2 HBW2.out)).mono ?_
              rintro e wz ⟨rfl, hbz⟩
              have hRz : Boxed wz (w.heap.size + 1 + 1 + 1) 4 (.bool false) := (hbz.block _ HR.out.lt).trans HR.out
              have cr := Boxed.cell hRz
              have fr := Boxed.frozen hRz
              have lr := Boxed.lt hRz
              have HRZ := Lib.hid hRz
              have HKZ : Hid (wz.heap[D]? = some (.deferred (some []))) := show _ = _ from (hbz.block D (Array.getElem?_eq_some_iff.1 HK.out).1).trans HK.out
              have HBZ : Hid (Below w.heap.size w wz) := show Below _ _ _ from HBW2.out.trans (hbz.mono HBW2.out.size)
              clear hbz hRz
              gi_wp2_with fail
              have hdr := HDR.out
              refine leaves_marks (B := w.heap.size) [_] (D + 1) _ ⟨D, rfl, by omega, by omega, (Below.heap_setCell _ _ _ D (show D ≠ w.heap.size + 1 + 1 + 1 by omega)).trans HKZ.out, trivial⟩ fun W' hs => ⟨.bool true, ?_, rfl, (HBZ.out.setCell (p := ⟨w.heap.size + 1 + 1 + 1, 0, none⟩) (show w.heap.size ≤ w.heap.size + 1 + 1 + 1 by omega) _).trans hs.1⟩
              have hc4 : Boxed W' (w.heap.size + 1 + 1 + 1) 4 (.bool true) := hs.2 _ _ _ _ (HRZ.out.set (.bool true))
              simp [results, Tryd.results3, go_sem, hc4.cell]
end Go.Proofs.YtohdgjmmekgcmaaDoor
