/-
  The document's device: Same.
-/
import Derived.Test.YtohdgjmmekgcmaaDoorMg17
namespace Go.Proofs.YtohdgjmmekgcmaaDoor
open Go.RowKit Go.Shelf

/-- A load under a guard that lets it run. -/
theorem wpStill_load_w {P : Program} {ops : Array Oper} {w : World} {Q : Act → Prop} {a : Act} {o : Oper} {rest : List Oper} (k : Nat) (hg : o.guard = some (k, false)) (hy : yielded ops a.tmps k = some false) (ty : TypeId) (x : Operand) (ho : o.op = .load ty x)
    (p v : Value) (hx : a.eval x = p) (hr : (Instr.loadAt ty p).run P w = .ok v w) (h : wpStill P ops w Q rest (a.put o.dst v)) : wpStill P ops w Q (o :: rest) a := by
  have hgd : Region.wanted o (yielded ops a.tmps) = true := by
    unfold Region.wanted
    rw [hg]
    simp [hy]
  unfold wpStill
  rw [if_pos hgd]
  unfold Oper.still execOp
  simp only [ho, hx, hr, Sem.run_bind, Result.andThen_ok]
  exact ⟨rfl, h⟩
/-- An operation whose guard shuts it. -/
theorem wpStill_shut {P : Program} {ops : Array Oper} {w : World} {Q : Act → Prop} {a : Act} {o : Oper} {rest : List Oper} (k : Nat) (hg : o.guard = some (k, false)) (hy : yielded ops a.tmps k = some true)
    (h : wpStill P ops w Q rest (a.put o.dst undef)) : wpStill P ops w Q (o :: rest) a := by
  have hgd : Region.wanted o (yielded ops a.tmps) = false := by
    unfold Region.wanted
    rw [hg]
    simp [hy]
  unfold wpStill
  rw [if_neg (by rw [hgd]; decide)]
  exact h
/-- An operation whose guard lets it run. -/
theorem wpStill_open {P : Program} {ops : Array Oper} {w : World} {Q : Act → Prop} {a : Act} {o : Oper} {rest : List Oper} (k : Nat) (hg : o.guard = some (k, false)) (hy : yielded ops a.tmps k = some false)
    (h : ∀ K : Act → Prop, (∀ a, wpStill P ops w Q rest a → K a) → o.still P a w K) : wpStill P ops w Q (o :: rest) a := by
  have hgd : Region.wanted o (yielded ops a.tmps) = true := by
    unfold Region.wanted
    rw [hg]
    simp [hy]
  unfold wpStill
  rw [if_pos hgd]
  exact h _ fun _ h => h
theorem wpStill_shutK {P : Program} {ops : Array Oper} {w : World} {Q : Act → Prop} {a : Act} {o : Oper} {rest : List Oper} (k : Nat) (hg : o.guard = some (k, false)) (hy : yielded ops a.tmps k = some true)
    (h : ∀ K : Act → Prop, (∀ a, wpStill P ops w Q rest a → K a) → K (a.put o.dst undef)) : wpStill P ops w Q (o :: rest) a :=
  wpStill_shut k hg hy (h _ fun _ h => h)
theorem fieldsW4 : (Tryd.prog.fieldsOf 50).toList.map (fun f => (f.name, f.type, f.offset)) = [("Line", 3, 0), ("Words", 48, 1)] := by kernel_rfl
theorem infoL4 : (Tryd.prog.info? 48).map (·.size) = some 8 := by kernel_rfl
theorem equal_wait4 (x y : Nat × List Int) (hx : x.2.length = 8) (hy : y.2.length = 8) (w : World) : (Op.equalIn 10000 50 (.agg (waitA x)) (.agg (waitA y))).run Tryd.prog w = .ok (decide (x = y)) w := by
  obtain ⟨f1, f2, hf, h1, h2⟩ := two_of_map fieldsW4
  obtain ⟨i0, hi, hz1⟩ := Option.map_eq_some_iff.1 infoL4
  rw [run_equalIn_agg w 9999 50 _ _ (by kernel_rfl) (by kernel_rfl), hf]
  simp only [Prod.mk.injEq] at h1 h2
  obtain ⟨n1, t1, o1⟩ := h1
  obtain ⟨n2, t2, o2⟩ := h2
  have e1 : ∀ z : Nat × List Int, (part 3 (waitA z) 0).run Tryd.prog w = .ok (.int .i64 (z.1 : Nat)) w := fun z => by
    simp [part, isAgg, run_underlying Tryd.underlying3, waitA]
  have e2 : ∀ z : Nat × List Int, z.2.length = 8 → (part 48 (waitA z) 1).run Tryd.prog w = .ok (.agg (vals z.2).toArray) w := fun z hz => by
    simp [part, isAgg, run_underlying Tryd.underlying48, waitA, sizeOf, typeInfo, hi, hz1]
    exact List.take_of_length_le (by rw [vals_length, hz]; decide)
  simp only [Op.eqFields, n1, n2, t1, t2, o1, o2, ne_eq, String.reduceEq, not_false_eq_true, if_true, Sem.run_bind, e1, Result.andThen_ok, run_equalIn_int w 9998 3 .i64 .i64 _ _ Tryd.underlying3]
  cases he : ((x.1 : Int) == (y.1 : Int)) with
  | false =>
    have hne : ¬ x = y := fun h => by rw [h] at he; simp at he
    simp [decide_eq_false hne]
  | true =>
    have h1 : x.1 = y.1 := by have := eq_of_beq he; omega
    simp only [Bool.not_true, Bool.false_eq_true, if_false, Sem.run_bind, e2 x hx, e2 y hy, Result.andThen_ok, equal_line Tryd.underlying48 9997 x.2 y.2 hx hy w]
    cases hl : (x.2 == y.2) with
    | false =>
      have hne : ¬ x = y := fun h => by rw [h] at hl; simp at hl
      simp [decide_eq_false hne]
    | true =>
      have h2 := eq_of_beq hl
      have hxy : x = y := Prod.ext h1 h2
      simp [decide_eq_true hxy]
theorem neq_wait4 (x y : Nat × List Int) (hx : x.2.length = 8) (hy : y.2.length = 8) (w : World) : (binOp .neq 50 (.agg (waitA x)) (.agg (waitA y))).run Tryd.prog w = .ok (.bool (!decide (x = y))) w := by
  rw [run_neq_struct, equal_wait4 x y hx hy w]
  rfl
/-- What a round of the lines knows. -/
structure LinesInv (us ws ss ts : List Int) (k : Nat) : Prop where
  seen : ∀ j, j < k → lineAt us j = lineAt ws j
  stays : ∀ j, j < k → lineAt ss j = lineAt ts j
theorem LinesInv.step {us ws ss ts : List Int} {k : Nat} (h : LinesInv us ws ss ts k) (h1 : lineAt us k = lineAt ws k) (h2 : lineAt ss k = lineAt ts k) : LinesInv us ws ss ts (k + 1) :=
  ⟨fun j hj => by
    rcases Nat.lt_or_ge j k with h' | h'
    · exact h.seen j h'
    · rw [show j = k by omega]; exact h1, fun j hj => by
    rcases Nat.lt_or_ge j k with h' | h'
    · exact h.stays j h'
    · rw [show j = k by omega]; exact h2⟩
theorem Dv.same_iff {d d' : Dv} : d.same d' = true ↔ d.seen = d'.seen ∧ d.stays = d'.stays ∧ d.waits = d'.waits := by
  simp [Dv.same, and_assoc]
theorem Dv.same_no {d d' : Dv} (h : ¬ (d.seen = d'.seen ∧ d.stays = d'.stays ∧ d.waits = d'.waits)) : d.same d' = false := by
  cases hs : d.same d' with
  | false => rfl
  | true => exact absurd (Dv.same_iff.1 hs) h
attribute [local irreducible] wpStill
set_option maxRecDepth 100000 in
set_option maxHeartbeats 4000000 in
theorem refSame_any {F F' : Nat → Prop} {S T n cS cT S' T' cS' cT' : Nat} {q q' : Value} {d d' : Dv} (w : World) (h : RefV w F S T n cS cT q d) (h' : RefV w F' S' T' n cS' cT' q' d') :
    Calls Tryd.prog 18 #[.agg (refA S T n cS cT q), .agg (refA S' T' n cS' cT' q')] w fun e w' => e = .returned (.bool (d.same d')) ∧ Below w.heap.size w w' := by
  obtain ⟨a, c, rfl⟩ := h.waits.slice_n
  obtain ⟨a', c', rfl⟩ := h'.waits.slice_n
  obtain ⟨b0, hz0, bX, bY⟩ := two_box3 w 36 (.slice (some ⟨S, 0, none⟩) n cS) (.slice (some ⟨T, 0, none⟩) n cT) (.slice a d.waits.length c) (.slice (some ⟨S', 0, none⟩) n cS') (.slice (some ⟨T', 0, none⟩) n cT') (.slice a' d'.waits.length c')
  obtain ⟨W0, hW0⟩ : ∃ W0, ((w.alloc (.cells (refA S T n cS cT (.slice a d.waits.length c)) 36)).alloc (.cells (refA S' T' n cS' cT' (.slice a' d'.waits.length c')) 36)) = W0 := ⟨_, rfl⟩
  unfold refA at hW0
  rw [hW0] at b0 hz0 bX bY
  have hn := h.most
  have HV := Lib.hid (h.below b0)
  have HV' := Lib.hid (h'.below b0)
  have HB := Lib.hid (fun m => below_drewN b0 m)
  have HCX := Lib.hid (fun m => (show Box3 (W0.drewN m) _ _ _ _ _ from bX).cells)
  have HCY := Lib.hid (fun m => (show Box3 (W0.drewN m) _ _ _ _ _ from bY).cells)
  have HL : Hid ((d.seen.length = n * 8 ∧ d'.seen.length = n * 8) ∧ d.stays.length = n * 8 ∧ d'.stays.length = n * 8) := show _ ∧ _ from ⟨⟨h.ok.seen, h'.ok.seen⟩, h.ok.stays, h'.ok.stays⟩
  have HX8 : Hid (∀ x ∈ d.waits, x.2.length = 8) := show ∀ _, _ from fun x hx => (h.ok.waits x hx).2
  have HY8 : Hid (∀ x ∈ d'.waits, x.2.length = 8) := show ∀ _, _ from fun x hx => (h'.ok.waits x hx).2
  have hfew : d.waits.length ≤ 1024 := by have := h.ok.few; omega
  have hfew' : d'.waits.length ≤ 1024 := by have := h'.ok.few; omega
  obtain ⟨M, hM⟩ : ∃ M, d.waits.length = M := ⟨_, rfl⟩
  obtain ⟨M', hM'⟩ : ∃ M', d'.waits.length = M' := ⟨_, rfl⟩
  have HM : Hid (d.waits.length = M ∧ d'.waits.length = M') := show _ ∧ _ from ⟨hM, hM'⟩
  rw [hM] at HCX hW0 hfew ⊢
  rw [hM'] at HCY hW0 hfew' ⊢
  clear h h' b0 bX bY hM hM' hz0
  have hne0 : ((n : Int) != (n : Int)) = false := by simp
  obtain ⟨x0, x1, x2, -⟩ := HCX.out 0
  obtain ⟨y0, y1, y2, -⟩ := HCY.out 0
  rw [show W0.drewN 0 = W0 from rfl] at x0 x1 x2 y0 y1 y2
  by_cases hMM : M = M'
  · subst hMM
    have hne1 : ((M : Int) != (M : Int)) = false := by simp
    go_enter Tryd.func18, Tryd.ntmps18
    go_wp2_with fail
    clear x0 x1 x2 y0 y1 y2
    go_loopw [5] (fun i wr => ∃ k : Nat, k ≤ n ∧ i = .int .i64 (k : Nat) ∧ Hid (LinesInv d.seen d'.seen d.stays d'.stays k) ∧ ∃ m, wr = W0.drewN m) (fun i _ => n - (intOf i).toNat)
    case atStart => exact ⟨0, by omega, rfl, (show LinesInv _ _ _ _ 0 from ⟨fun j hj => absurd hj (by omega), fun j hj => absurd hj (by omega)⟩), 0, rfl⟩
    case round =>
      obtain ⟨k, hk, rfl, HJ, m, hm⟩ := hrel
      obtain ⟨x0, x1, x2, -⟩ := HCX.out m
      obtain ⟨y0, y1, y2, -⟩ := HCY.out m
      have HW := Lib.hid hm
      rw [← hm] at x0 x1 x2 y0 y1 y2
      clear hm
      have hdr : wr.drew = W0.drewN (m + 1) := by rw [HW.out]; rfl
      by_cases hlt : k < n
      · have hL := lineAt_length HL.out.1.1 hlt
        have hM := lineAt_length HL.out.1.2 hlt
        have hP := lineAt_length HL.out.2.1 hlt
        have hQ := lineAt_length HL.out.2.2 hlt
        have HLX := Lib.hid (load_line (W := wr.drew) Tryd.underlying48 rfl (by kernel_rfl) (show (wr.drew).ownsRow 0 48 8 _ n (vals d.seen) by rw [hdr]; exact HV.out.seen) k hlt)
        have HLY := Lib.hid (load_line (W := wr.drew) Tryd.underlying48 rfl (by kernel_rfl) (show (wr.drew).ownsRow 0 48 8 _ n (vals d'.seen) by rw [hdr]; exact HV'.out.seen) k hlt)
        have HLP := Lib.hid (load_line (W := wr.drew) Tryd.underlying48 rfl (by kernel_rfl) (show (wr.drew).ownsRow 0 48 8 _ n (vals d.stays) by rw [hdr]; exact HV.out.stays) k hlt)
        have HLQ := Lib.hid (load_line (W := wr.drew) Tryd.underlying48 rfl (by kernel_rfl) (show (wr.drew).ownsRow 0 48 8 _ n (vals d'.stays) by rw [hdr]; exact HV'.out.stays) k hlt)
        have HNE := neq_lineA (lineAt d.seen k) (lineAt d'.seen k) hL hM
        have HNF := neq_lineA (lineAt d.stays k) (lineAt d'.stays k) hP hQ
        obtain ⟨X, hX⟩ : ∃ X, (vals (lineAt d.seen k)).toArray = X := ⟨_, rfl⟩
        obtain ⟨Y, hY⟩ : ∃ Y, (vals (lineAt d'.seen k)).toArray = Y := ⟨_, rfl⟩
        obtain ⟨Z, hZ⟩ : ∃ Z, (vals (lineAt d.stays k)).toArray = Z := ⟨_, rfl⟩
        obtain ⟨V, hV⟩ : ∃ V, (vals (lineAt d'.stays k)).toArray = V := ⟨_, rfl⟩
        obtain ⟨t, ht⟩ : ∃ t, (lineAt d.seen k == lineAt d'.seen k) = t := ⟨_, rfl⟩
        obtain ⟨u, hu⟩ : ∃ u, (lineAt d.stays k == lineAt d'.stays k) = u := ⟨_, rfl⟩
        rw [hX] at HLX HNE
        rw [hY] at HLY HNE
        rw [hZ] at HLP HNF
        rw [hV] at HLQ HNF
        rw [ht] at HNE
        rw [hu] at HNF
        have HTT := Lib.hid ht
        have HUU := Lib.hid hu
        have k2 : (k : Int) < (n : Int) := by omega
        have HD := Lib.hid hdr
        clear hdr hX hY hZ hV ht hu hL hM hP hQ
        have x0' : wr.drew.cell? ⟨w.heap.size, 0, none⟩ = some (.slice (some ⟨S, 0, none⟩) n cS) := x0
        have x1' : wr.drew.cell? ⟨w.heap.size, 1, none⟩ = some (.slice (some ⟨T, 0, none⟩) n cT) := x1
        have y0' : wr.drew.cell? ⟨w.heap.size + 1, 0, none⟩ = some (.slice (some ⟨S', 0, none⟩) n cS') := y0
        have y1' : wr.drew.cell? ⟨w.heap.size + 1, 1, none⟩ = some (.slice (some ⟨T', 0, none⟩) n cT') := y1
        cases t with
        | false =>
          have HE : Hid (d.same d' = false) := show _ = _ from Dv.same_no fun e => ne_of_beq_false HTT.out (by rw [e.1])
          have HNE' : ∀ W : World, (binOp .neq 48 (.agg X) (.agg Y)).run Tryd.prog W = .ok (.bool true) W := HNE
          clear HNE HNF
          go_wp2_with fail
          refine wp_region_still_lit (by kernel_rfl) (by kernel_rfl) ?_
          still_step
          still_step
          still_step
          still_step
          refine wpStill_load_eq rfl 48 _ rfl _ _ rfl HLX.out ?_
          still_step
          still_step
          still_step
          still_step
          refine wpStill_load_eq rfl 48 _ rfl _ _ rfl HLY.out ?_
          still_step
          still_step
          refine wpStill_shutK 11 rfl rfl fun K hK => ?_
          go_simp
          refine hK _ ?_
          clear hK K
          refine wpStill_shutK 11 rfl rfl fun K hK => ?_
          go_simp
          refine hK _ ?_
          clear hK K
          refine wpStill_shutK 11 rfl rfl fun K hK => ?_
          go_simp
          refine hK _ ?_
          clear hK K
          refine wpStill_shutK 11 rfl rfl fun K hK => ?_
          go_simp
          refine hK _ ?_
          clear hK K
          refine wpStill_shutK 11 rfl rfl fun K hK => ?_
          go_simp
          refine hK _ ?_
          clear hK K
          refine wpStill_shutK 11 rfl rfl fun K hK => ?_
          go_simp
          refine hK _ ?_
          clear hK K
          refine wpStill_shutK 11 rfl rfl fun K hK => ?_
          go_simp
          refine hK _ ?_
          clear hK K
          refine wpStill_shutK 11 rfl rfl fun K hK => ?_
          go_simp
          refine hK _ ?_
          clear hK K
          refine wpStill_shutK 11 rfl rfl fun K hK => ?_
          go_simp
          refine hK _ ?_
          clear hK K
          refine wpStill_shutK 11 rfl rfl fun K hK => ?_
          go_simp
          refine hK _ ?_
          clear hK K
          refine wpStill_shutK 11 rfl rfl fun K hK => ?_
          go_simp
          refine hK _ ?_
          clear hK K
          still_step
          refine wpStill_nil ?_
          go_wp2_with fail
          go_ret
          exact ⟨by rw [HE.out]; rfl, show Below w.heap.size w wr.drew by rw [HD.out]; exact HB.out (m + 1)⟩
        | true =>
          have HNE' : ∀ W : World, (binOp .neq 48 (.agg X) (.agg Y)).run Tryd.prog W = .ok (.bool false) W := HNE
          clear HNE
          cases u with
          | false =>
            have HE : Hid (d.same d' = false) := show _ = _ from Dv.same_no fun e => ne_of_beq_false HUU.out (by rw [e.2.1])
            have HNF' : ∀ W : World, (binOp .neq 48 (.agg Z) (.agg V)).run Tryd.prog W = .ok (.bool true) W := HNF
            clear HNF
            go_wp2_with fail
            refine wp_region_still_lit (by kernel_rfl) (by kernel_rfl) ?_
            still_step
            still_step
            still_step
            still_step
            refine wpStill_load_eq rfl 48 _ rfl _ _ rfl HLX.out ?_
            still_step
            still_step
            still_step
            still_step
            refine wpStill_load_eq rfl 48 _ rfl _ _ rfl HLY.out ?_
            still_step
            still_step
            refine wpStill_open 11 rfl rfl fun K hK => ?_
            go_simp
            refine hK _ ?_
            clear hK K
            refine wpStill_open 11 rfl rfl fun K hK => ?_
            go_simp
            refine hK _ ?_
            clear hK K
            refine wpStill_open 11 rfl rfl fun K hK => ?_
            go_simp
            refine hK _ ?_
            clear hK K
            refine wpStill_open 11 rfl rfl fun K hK => ?_
            go_simp
            refine hK _ ?_
            clear hK K
            refine wpStill_load_w 11 rfl rfl 48 _ rfl _ _ rfl HLP.out ?_
            refine wpStill_open 11 rfl rfl fun K hK => ?_
            go_simp
            refine hK _ ?_
            clear hK K
            refine wpStill_open 11 rfl rfl fun K hK => ?_
            go_simp
            refine hK _ ?_
            clear hK K
            refine wpStill_open 11 rfl rfl fun K hK => ?_
            go_simp
            refine hK _ ?_
            clear hK K
            refine wpStill_open 11 rfl rfl fun K hK => ?_
            go_simp
            refine hK _ ?_
            clear hK K
            refine wpStill_load_w 11 rfl rfl 48 _ rfl _ _ rfl HLQ.out ?_
            refine wpStill_open 11 rfl rfl fun K hK => ?_
            go_simp
            refine hK _ ?_
            clear hK K
            still_step
            refine wpStill_nil ?_
            go_wp2_with fail
            go_ret
            exact ⟨by rw [HE.out]; rfl, show Below w.heap.size w wr.drew by rw [HD.out]; exact HB.out (m + 1)⟩
          | true =>
            have HNF' : ∀ W : World, (binOp .neq 48 (.agg Z) (.agg V)).run Tryd.prog W = .ok (.bool false) W := HNF
            clear HNF
            have HJ1 : Hid (LinesInv d.seen d'.seen d.stays d'.stays (k + 1)) := show LinesInv _ _ _ _ _ from HJ.out.step (eq_of_beq HTT.out) (eq_of_beq HUU.out)
            go_wp2_with fail
            refine wp_region_still_lit (by kernel_rfl) (by kernel_rfl) ?_
            still_step
            still_step
            still_step
            still_step
            refine wpStill_load_eq rfl 48 _ rfl _ _ rfl HLX.out ?_
            still_step
            still_step
            still_step
            still_step
            refine wpStill_load_eq rfl 48 _ rfl _ _ rfl HLY.out ?_
            still_step
            still_step
            refine wpStill_open 11 rfl rfl fun K hK => ?_
            go_simp
            refine hK _ ?_
            clear hK K
            refine wpStill_open 11 rfl rfl fun K hK => ?_
            go_simp
            refine hK _ ?_
            clear hK K
            refine wpStill_open 11 rfl rfl fun K hK => ?_
            go_simp
            refine hK _ ?_
            clear hK K
            refine wpStill_open 11 rfl rfl fun K hK => ?_
            go_simp
            refine hK _ ?_
            clear hK K
            refine wpStill_load_w 11 rfl rfl 48 _ rfl _ _ rfl HLP.out ?_
            refine wpStill_open 11 rfl rfl fun K hK => ?_
            go_simp
            refine hK _ ?_
            clear hK K
            refine wpStill_open 11 rfl rfl fun K hK => ?_
            go_simp
            refine hK _ ?_
            clear hK K
            refine wpStill_open 11 rfl rfl fun K hK => ?_
            go_simp
            refine hK _ ?_
            clear hK K
            refine wpStill_open 11 rfl rfl fun K hK => ?_
            go_simp
            refine hK _ ?_
            clear hK K
            refine wpStill_load_w 11 rfl rfl 48 _ rfl _ _ rfl HLQ.out ?_
            refine wpStill_open 11 rfl rfl fun K hK => ?_
            go_simp
            refine hK _ ?_
            clear hK K
            still_step
            refine wpStill_nil ?_
            go_wp2_with fail
            go_roundw
            case rel => exact ⟨k + 1, by omega, by go_num, HJ1, m + 1, HD.out⟩
            case measure => simp [intOf]; omega
      · obtain rfl : k = n := by omega
        have HSE : Hid (d.seen = d'.seen ∧ d.stays = d'.stays) := show _ ∧ _ from ⟨lines_eq HL.out.1.1 HL.out.1.2 HJ.out.seen, lines_eq HL.out.2.1 HL.out.2.2 HJ.out.stays⟩
        go_wp2_with fail
        clear x0 x1 x2 y0 y1 y2
        go_loopw [6] (fun i w2 => ∃ j : Nat, j ≤ M ∧ i = .int .i64 (j : Nat) ∧ Hid (d.waits.take j = d'.waits.take j) ∧ ∃ m, w2 = W0.drewN m) (fun i _ => M - (intOf i).toNat)
        case atStart => exact ⟨0, by omega, rfl, (show d.waits.take 0 = d'.waits.take 0 from rfl), m, HW.out⟩
        case round =>
          clear HW hdr
          obtain ⟨j, hj, rfl, HJ2, m, hm⟩ := hrel
          obtain ⟨x0, x1, x2, -⟩ := HCX.out m
          obtain ⟨y0, y1, y2, -⟩ := HCY.out m
          have HW := Lib.hid hm
          rw [← hm] at x0 x1 x2 y0 y1 y2
          clear hm
          have hdr : wr.drew = W0.drewN (m + 1) := by rw [HW.out]; rfl
          by_cases hlt : j < M
          · have hkl : j < d.waits.length := by rw [HM.out.1]; exact hlt
            have hkl' : j < d'.waits.length := by rw [HM.out.2]; exact hlt
            obtain ⟨g, hg, hr⟩ := HV.out.waits.row (by omega)
            obtain ⟨g', hg', hr'⟩ := HV'.out.waits.row (by omega)
            have HLX := Lib.hid (load_wait (W := wr.drew) Tryd.underlying50 rfl (by kernel_rfl) (show (wr.drew).ownsRow 0 50 9 _ d.waits.length (cellsW d.waits) by rw [hdr]; exact hr) HX8.out j hkl)
            have HLY := Lib.hid (load_wait (W := wr.drew) Tryd.underlying50 rfl (by kernel_rfl) (show (wr.drew).ownsRow 0 50 9 _ d'.waits.length (cellsW d'.waits) by rw [hdr]; exact hr') HY8.out j hkl')
            have HTK := Lib.hid (take_snoc d.waits j hkl)
            have HTK' := Lib.hid (take_snoc d'.waits j hkl')
            have hx1 := HX8.out _ (List.getElem_mem hkl)
            have hy1 := HY8.out _ (List.getElem_mem hkl')
            have ex : d.waits[j] = d.waits[j]?.getD (0, []) := by rw [List.getElem?_eq_getElem hkl]; rfl
            have ey : d'.waits[j] = d'.waits[j]?.getD (0, []) := by rw [List.getElem?_eq_getElem hkl']; rfl
            rw [ex] at hx1
            rw [ey] at hy1
            have HGX : Hid (d.waits[j]? = some (d.waits[j]?.getD (0, []))) := show _ = _ by rw [List.getElem?_eq_getElem hkl]; rfl
            have HGY : Hid (d'.waits[j]? = some (d'.waits[j]?.getD (0, []))) := show _ = _ by rw [List.getElem?_eq_getElem hkl']; rfl
            obtain ⟨x, hx⟩ : ∃ x, d.waits[j]?.getD (0, []) = x := ⟨_, rfl⟩
            obtain ⟨y, hy⟩ : ∃ y, d'.waits[j]?.getD (0, []) = y := ⟨_, rfl⟩
            rw [hx] at HLX HTK hx1 HGX
            rw [hy] at HLY HTK' hy1 HGY
            have HNE := neq_wait4 x y hx1 hy1
            obtain ⟨X, hX⟩ : ∃ X, waitA x = X := ⟨_, rfl⟩
            obtain ⟨Y, hY⟩ : ∃ Y, waitA y = Y := ⟨_, rfl⟩
            obtain ⟨t, ht⟩ : ∃ t, decide (x = y) = t := ⟨_, rfl⟩
            rw [hX] at HLX HNE
            rw [hY] at HLY HNE
            rw [ht] at HNE
            have HTT := Lib.hid ht
            have HD := Lib.hid hdr
            have k2 : (j : Int) < (M : Int) := by omega
            have x2' : wr.drew.cell? ⟨w.heap.size, 2, none⟩ = some (.slice (some ⟨g, 0, none⟩) M c) := by rw [← hg]; exact x2
            have y2' : wr.drew.cell? ⟨w.heap.size + 1, 2, none⟩ = some (.slice (some ⟨g', 0, none⟩) M c') := by rw [← hg']; exact y2
            subst hg hg'
            clear hX hY ht hx hy hx1 hy1 ex ey hr hr' hkl hkl' hdr
            go_wp2_with fail
            refine wp_region_still_lit (by kernel_rfl) (by kernel_rfl) ?_
            still_step
            still_step
            still_step
            still_step
            refine wpStill_load_eq rfl 50 _ rfl _ _ rfl HLX.out ?_
            still_step
            still_step
            still_step
            still_step
            refine wpStill_load_eq rfl 50 _ rfl _ _ rfl HLY.out ?_
            still_step
            refine wpStill_nil ?_
            cases t with
            | true =>
              have HJ1 : Hid (d.waits.take (j + 1) = d'.waits.take (j + 1)) := show d.waits.take (j + 1) = d'.waits.take (j + 1) by rw [HTK.out, HTK'.out, HJ2.out, of_decide_eq_true HTT.out]
              go_wp2_with fail
              go_roundw
              case rel => exact ⟨j + 1, by omega, by go_num, HJ1, m + 1, HD.out⟩
              case measure => simp [intOf]; omega
            | false =>
              have HE : Hid (d.same d' = false) := show _ = _ from Dv.same_no fun e => of_decide_eq_false HTT.out (by have := HGX.out; rw [e.2.2, HGY.out] at this; exact (Option.some.inj this).symm)
              go_wp2_with fail
              go_ret
              exact ⟨by rw [HE.out]; rfl, show Below w.heap.size w wr.drew by rw [HD.out]; exact HB.out (m + 1)⟩
          · obtain rfl : j = M := by omega
            have HE : Hid (d.same d' = true) := show _ = _ from Dv.same_iff.2 ⟨HSE.out.1, HSE.out.2, by
              have := HJ2.out
              rw [List.take_of_length_le (Nat.le_of_eq HM.out.1), List.take_of_length_le (Nat.le_of_eq HM.out.2)] at this
              exact this⟩
            go_wp2_with fail
            go_ret
            exact ⟨by rw [HE.out]; rfl, by rw [HW.out]; exact HB.out m⟩
  · have hne1 : ((M : Int) != (M' : Int)) = true := by rw [bne_iff_ne]; omega
    have HE : Hid (d.same d' = false) := show _ = _ from Dv.same_no fun e => hMM (by rw [← HM.out.1, ← HM.out.2, e.2.2])
    go_enter Tryd.func18, Tryd.ntmps18
    go_wp2_with fail
    go_ret
    exact ⟨by rw [HE.out]; rfl, HB.out 0⟩
end Go.Proofs.YtohdgjmmekgcmaaDoor
