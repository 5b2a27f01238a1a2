/-
  Texts NdII to NdEI, as one.
-/
import Derived.Test.YtaebipopmefkpaaGreatDoorMn10
import Derived.Laws.EntriesVeiled
import Derived.RangeFuncCalls
/-
  node: numbers of a line of api.Inode. Written by gen_nd.py.
-/
namespace Go.Proofs.YtaebipopmefkpaaGreatDoor
open Go.RowKit Go.Shelf Go.Sort
attribute [local go_sem] Oper.semAt_some

set_option maxRecDepth 100000 in
set_option maxHeartbeats 4000000 in
theorem numMay_I {ff fl : FuncId} {lbf : Array Value} {i : Nat} {lo hi n : Int} (w : World) (pl pf : Nat) (hF : FieldAt w ff lbf i) (hL : LiesAt fl lo hi) (x : Array Value) (hn : x[i]? = some (.int .i64 n))
    (hbl : Boxed w pl 110 (.func (.func fl) #[] #[])) (hbf : Boxed w pf 130 (.func (.func ff) #[] lbf)) :
    Calls Tryz.prog 96 #[.agg x, .pointer (some ⟨pl, 0, none⟩), .pointer (some ⟨pf, 0, none⟩)] w fun e w' => e = .returned (.bool (inB (n, lo, hi))) ∧ Below w.heap.size w w' := by
  obtain ⟨W1, hW1⟩ : ∃ W1, (w.alloc (.cells x 31)).drew = W1 := ⟨_, rfl⟩
  have hb1 : Below w.heap.size w W1 := by rw [← hW1]; exact (by repeat (first | exact Below.refl _ _ | assumption | refine Below.drew ?_ | refine below_drewN ?_ _ | refine Below.alloc ?_ (by (try simp) <;> omega) _ | refine Below.setCell ?_ (by (try simp) <;> omega) _ | refine Below.trans ?_ (Below.mono (by assumption) (by (try simp) <;> omega))))
  have hx1 : Blk W1 w.heap.size 31 x := by rw [← hW1]; exact Blk.new _ _ _
  have hbl1 : Boxed W1 pl 110 (.func (.func fl) #[] #[]) := (hb1.block _ hbl.lt).trans hbl
  have hbf1 : Boxed W1 pf 130 (.func (.func ff) #[] lbf) := (hb1.block _ hbf.lt).trans hbf
  have HFC := Lib.hid ((hF.below hb1).2 w.heap.size W1 (Below.refl _ _))
  have HLC := Lib.hid (fun W => hL.2 n W)
  have eF : ∀ args W, (callFunc ff args).run Tryz.prog W = .ok (.enter ff args) W := hF.1
  have eL : ∀ args W, (callFunc fl args).run Tryz.prog W = .ok (.enter fl args) W := hL.1
  have HW1 := Lib.hid hW1
  have HB1 := Lib.hid hb1
  have HX1 := Lib.hid hx1
  have HN := Lib.hid hn
  have hR : (fun W : World => W.cell? ⟨pl, 0, none⟩ = some (.func (.func fl) #[] #[]) ∧ W.cell? ⟨pf, 0, none⟩ = some (.func (.func ff) #[] lbf)) W1 := ⟨hbl1.cell, hbf1.cell⟩
  have HBL := Lib.hid hbl1
  have HBF := Lib.hid hbf1
  clear hW1 hb1 hx1 hbl1 hbf1 hF hL hn hbl hbf
  go_enter Tryz.func96, Tryz.ntmps96
  go_wp2_with fail
  refine wp_region_M 8 (fun W : World => W.cell? ⟨pl, 0, none⟩ = some (.func (.func fl) #[] #[]) ∧ W.cell? ⟨pf, 0, none⟩ = some (.func (.func ff) #[] lbf)) (by kernel_rfl) ?_
  rw [HW1.out]
  (refine wpAnyM_take2 8 (i := 0) (v := ?_) rfl (by kernel_rfl) (by kernel_rfl) (fun _ _ _ h => h) (Or.inl ⟨by rfl, ?_⟩) hR ?_; rotate_left; (focus (intro w hSw; (try dsimp only at hSw); go_simp; (try with_reducible rfl))); (try simp only [put_laws])); (refine wpAnyM_take2 8 (i := 1) (v := ?_) rfl (by kernel_rfl) (by kernel_rfl) (fun _ _ _ h => h) (Or.inl ⟨by rfl, ?_⟩) hR ?_; rotate_left; (focus (intro w hSw; (try dsimp only at hSw); go_simp; (try with_reducible rfl))); (try simp only [put_laws]))
  (refine wpAnyM_one (i := 2) rfl (by kernel_rfl) (fun K hK => ?_); rw [if_pos (by rfl)]; (try simp only [elem_laws]))
  go_simp
  refine HFC.out.mono ?_
  rintro e w2 ⟨rfl, hb2⟩
  have h2l : Boxed w2 pl 110 (.func (.func fl) #[] #[]) := (hb2.block _ HBL.out.lt).trans HBL.out
  have h2f : Boxed w2 pf 130 (.func (.func ff) #[] lbf) := (hb2.block _ HBF.out.lt).trans HBF.out
  have hx2 := HX1.out.below hb2 HX1.out.lt
  have hR2 : (fun W : World => W.cell? ⟨pl, 0, none⟩ = some (.func (.func fl) #[] #[]) ∧ W.cell? ⟨pf, 0, none⟩ = some (.func (.func ff) #[] lbf)) w2 := ⟨h2l.cell, h2f.cell⟩
  refine hK _ _ (fun _ => hR2) ?_
  clear hK K hR
  have HB2 := Lib.hid (HB1.out.trans (hb2.mono HB1.out.size))
  have H2L := Lib.hid h2l
  have H2F := Lib.hid h2f
  have cx := hx2.cell HN.out
  clear hb2 h2l h2f hx2
  (try simp only [put_laws])
  (refine wpAnyM_one (i := 3) rfl (by kernel_rfl) (fun K hK => ?_); rw [if_pos (by rfl)]; (try simp only [elem_laws]))
  go_simp
  refine hK _ _ (fun _ => hR2) ?_
  clear hK K
  (try simp only [put_laws])
  (refine wpAnyM_one (i := 4) rfl (by kernel_rfl) (fun K hK => ?_); rw [if_pos (by rfl)]; (try simp only [elem_laws]))
  go_simp
  refine hK _ _ (fun _ => hR2) ?_
  clear hK K
  (try simp only [put_laws])
  (refine wpAnyM_one (i := 5) rfl (by kernel_rfl) (fun K hK => ?_); rw [if_pos (by rfl)]; (try simp only [elem_laws]))
  go_simp
  refine (HLC.out w2).mono ?_
  rintro e w3 ⟨rfl, hb3⟩
  have h3l : Boxed w3 pl 110 (.func (.func fl) #[] #[]) := (hb3.block _ H2L.out.lt).trans H2L.out
  have h3f : Boxed w3 pf 130 (.func (.func ff) #[] lbf) := (hb3.block _ H2F.out.lt).trans H2F.out
  have hR3 : (fun W : World => W.cell? ⟨pl, 0, none⟩ = some (.func (.func fl) #[] #[]) ∧ W.cell? ⟨pf, 0, none⟩ = some (.func (.func ff) #[] lbf)) w3 := ⟨h3l.cell, h3f.cell⟩
  refine hK _ _ (fun _ => hR3) ?_
  clear hK K hR2 cx
  have HB3 := Lib.hid (HB2.out.trans (hb3.mono HB2.out.size))
  have H3L := Lib.hid h3l
  have H3F := Lib.hid h3f
  clear hb3 h3l h3f
  (try simp only [put_laws])
  (refine wpAnyM_one (i := 6) rfl (by kernel_rfl) (fun K hK => ?_); rw [if_pos (by rfl)]; (try simp only [elem_laws]))
  go_simp
  obtain ⟨W4, hW4⟩ : ∃ W4, w3.alloc (.cells #[.int .i64 n, .int .i64 lo, .int .i64 hi] 112) = W4 := ⟨_, rfl⟩
  have hb4 : Below w3.heap.size w3 W4 := by rw [← hW4]; exact (Below.refl _ _).alloc (Nat.le_refl _) _
  have hbd : BoundsAt W4 w3.heap.size [(n, lo, hi)] := by rw [← hW4]; exact bounds_one n lo hi
  have h4l : Boxed W4 pl 110 (.func (.func fl) #[] #[]) := (hb4.block _ H3L.out.lt).trans H3L.out
  have h4f : Boxed W4 pf 130 (.func (.func ff) #[] lbf) := (hb4.block _ H3F.out.lt).trans H3F.out
  have hR4 : (fun W : World => W.cell? ⟨pl, 0, none⟩ = some (.func (.func fl) #[] #[]) ∧ W.cell? ⟨pf, 0, none⟩ = some (.func (.func ff) #[] lbf)) W4 := ⟨h4l.cell, h4f.cell⟩
  rw [hW4]
  refine hK _ _ (fun _ => hR4) ?_
  clear hK K hR3
  have HB4 := Lib.hid (HB3.out.trans (hb4.mono HB3.out.size))
  have H4L := Lib.hid h4l
  have H4F := Lib.hid h4f
  have HWI := Lib.hid (within_any [(n, lo, hi)] (by simp) w3.heap.size W4 hbd)
  clear hb4 h4l h4f hW4 hbd
  (try simp only [put_laws])
  (refine wpAnyM_one (i := 7) rfl (by kernel_rfl) (fun K hK => ?_); rw [if_pos (by rfl)]; (try simp only [elem_laws]))
  go_simp
  refine HWI.out.mono ?_
  rintro e w5 ⟨rfl, hb5⟩
  have h5l : Boxed w5 pl 110 (.func (.func fl) #[] #[]) := (hb5.block _ H4L.out.lt).trans H4L.out
  have h5f : Boxed w5 pf 130 (.func (.func ff) #[] lbf) := (hb5.block _ H4F.out.lt).trans H4F.out
  have hR5 : (fun W : World => W.cell? ⟨pl, 0, none⟩ = some (.func (.func fl) #[] #[]) ∧ W.cell? ⟨pf, 0, none⟩ = some (.func (.func ff) #[] lbf)) w5 := ⟨h5l.cell, h5f.cell⟩
  refine hK _ _ (fun _ => hR5) ?_
  clear hK K hR4 hR5
  have HB5 := Lib.hid (HB4.out.trans (hb5.mono HB4.out.size))
  clear hb5 h5l h5f
  (try simp only [put_laws])
  (refine wpAnyM_last rfl (by kernel_rfl) (fun K hK => ?_); rw [if_pos (by rfl)]; (try simp only [elem_laws]))
  go_simp
  refine hK _ _ ?_
  clear hK K
  (try simp only [put_laws])
  refine wpAnyM_done (by kernel_rfl) ?_ _
  go_wp2_with fail
  go_ret
  exact ⟨by simp [], HB5.out⟩
set_option maxRecDepth 100000 in
set_option maxHeartbeats 4000000 in
theorem numWrite_I {ff : FuncId} {lbf : Array Value} {i wd : Nat} {n : Int} (hwd : wd < 8) (w : World) (pa pf b : Nat) (l : List Int) (hl : Line8 l) (hF : FieldAt w ff lbf i) (x : Array Value) (hn : x[i]? = some (.int .i64 n)) (_hn0 : -9223372036854775808 ≤ n ∧ n < 9223372036854775808)
    (hba : Boxed w pa 3 (.int .i64 (wd : Nat))) (hbf : Boxed w pf 130 (.func (.func ff) #[] lbf)) (hbl : Blk w b 113 (lnA l)) :
    Calls Tryz.prog 97 #[.agg x, .pointer (some ⟨b, 0, none⟩), .pointer (some ⟨pf, 0, none⟩), .pointer (some ⟨pa, 0, none⟩)] w fun e w' => (∃ u, e = .returned u) ∧ Blk w' b 113 (lnA (l.set wd (n % 18446744073709551616))) ∧ Turn (fun k => k = b) w w' := by
  obtain ⟨W1, hW1⟩ : ∃ W1, (w.alloc (.cells x 31)).drew = W1 := ⟨_, rfl⟩
  have hb1 : Below w.heap.size w W1 := by rw [← hW1]; exact (by repeat (first | exact Below.refl _ _ | assumption | refine Below.drew ?_ | refine below_drewN ?_ _ | refine Below.alloc ?_ (by (try simp) <;> omega) _ | refine Below.setCell ?_ (by (try simp) <;> omega) _ | refine Below.trans ?_ (Below.mono (by assumption) (by (try simp) <;> omega))))
  have hx1 : Blk W1 w.heap.size 31 x := by rw [← hW1]; exact Blk.new _ _ _
  have hba1 : Boxed W1 pa 3 (.int .i64 (wd : Nat)) := (hb1.block _ hba.lt).trans hba
  have hbf1 : Boxed W1 pf 130 (.func (.func ff) #[] lbf) := (hb1.block _ hbf.lt).trans hbf
  have hbl1 := hbl.below hb1 hbl.lt
  have HFC := Lib.hid ((hF.below hb1).2 w.heap.size W1 (Below.refl _ _))
  have eF : ∀ args W, (callFunc ff args).run Tryz.prog W = .ok (.enter ff args) W := hF.1
  have HW1 := Lib.hid hW1
  have HB1 := Lib.hid hb1
  have HX1 := Lib.hid hx1
  have HN := Lib.hid hn
  have HL1 := Lib.hid hbl1
  have HL8 := Lib.hid hl
  have hw2 : (wd : Int) < 8 := by omega
  have hR : (fun W : World => W.cell? ⟨pa, 0, none⟩ = some (.int .i64 (wd : Nat)) ∧ W.cell? ⟨pf, 0, none⟩ = some (.func (.func ff) #[] lbf)) W1 := ⟨hba1.cell, hbf1.cell⟩
  have HBA := Lib.hid hba1
  have HBF := Lib.hid hbf1
  have HLB := Lib.hid hbl.lt
  clear hW1 hb1 hx1 hba1 hbf1 hbl1 hF hn hba hbf hbl hl
  go_enter Tryz.func97, Tryz.ntmps97
  go_wp2_with fail
  refine wp_region_M 9 (fun W : World => W.cell? ⟨pa, 0, none⟩ = some (.int .i64 (wd : Nat)) ∧ W.cell? ⟨pf, 0, none⟩ = some (.func (.func ff) #[] lbf)) (by kernel_rfl) ?_
  rw [HW1.out]
  (refine wpAnyM_take2 8 (i := 0) (v := ?_) rfl (by kernel_rfl) (by kernel_rfl) (fun _ _ _ h => h) (Or.inl ⟨by rfl, ?_⟩) hR ?_; rotate_left; (focus (intro w hSw; (try dsimp only at hSw); go_simp; (try with_reducible rfl))); (try simp only [put_laws])); (refine wpAnyM_take2 8 (i := 1) (v := ?_) rfl (by kernel_rfl) (by kernel_rfl) (fun _ _ _ h => h) (Or.inl ⟨by rfl, ?_⟩) hR ?_; rotate_left; (focus (intro w hSw; (try dsimp only at hSw); go_simp; (try with_reducible rfl))); (try simp only [put_laws])); (refine wpAnyM_take2 8 (i := 2) (v := ?_) rfl (by kernel_rfl) (by kernel_rfl) (fun _ _ _ h => h) (Or.inl ⟨by rfl, ?_⟩) hR ?_; rotate_left; (focus (intro w hSw; (try dsimp only at hSw); go_simp; (try with_reducible rfl))); (try simp only [put_laws])); (refine wpAnyM_take2 8 (i := 7) (v := ?_) rfl (by kernel_rfl) (by kernel_rfl) (fun _ _ _ h => h) (Or.inl ⟨by rfl, ?_⟩) hR ?_; rotate_left; (focus (intro w hSw; (try dsimp only at hSw); go_simp; (try with_reducible rfl))); (try simp only [put_laws]))
  (refine wpAnyM_one (i := 3) rfl (by kernel_rfl) (fun K hK => ?_); rw [if_pos (by rfl)]; (try simp only [elem_laws]))
  go_simp
  refine HFC.out.mono ?_
  rintro e w2 ⟨rfl, hb2⟩
  have h2a : Boxed w2 pa 3 (.int .i64 (wd : Nat)) := (hb2.block _ HBA.out.lt).trans HBA.out
  have h2f : Boxed w2 pf 130 (.func (.func ff) #[] lbf) := (hb2.block _ HBF.out.lt).trans HBF.out
  have hx2 := HX1.out.below hb2 HX1.out.lt
  have hl2 := HL1.out.below hb2 HL1.out.lt
  have hR2 : (fun W : World => W.cell? ⟨pa, 0, none⟩ = some (.int .i64 (wd : Nat)) ∧ W.cell? ⟨pf, 0, none⟩ = some (.func (.func ff) #[] lbf)) w2 := ⟨h2a.cell, h2f.cell⟩
  refine hK _ _ (fun _ => hR2) ?_
  clear hK K hR
  have HB2 := Lib.hid (HB1.out.trans (hb2.mono HB1.out.size))
  have cx := hx2.cell HN.out
  have cl := hl2.cell (lnA_at l wd (by rw [HL8.out.1]; exact hwd))
  have fl := hl2.frozen wd
  have ll := hl2.lt
  have HL2 := Lib.hid hl2
  clear hb2 h2a h2f hx2 hl2
  (try simp only [put_laws])
  (refine wpAnyM_one (i := 4) rfl (by kernel_rfl) (fun K hK => ?_); rw [if_pos (by rfl)]; (try simp only [elem_laws]))
  go_simp
  refine hK _ _ (fun _ => hR2) ?_
  clear hK K
  (try simp only [put_laws])
  (refine wpAnyM_one (i := 5) rfl (by kernel_rfl) (fun K hK => ?_); rw [if_pos (by rfl)]; (try simp only [elem_laws]))
  go_simp
  refine hK _ _ (fun _ => hR2) ?_
  clear hK K
  (try simp only [put_laws])
  (refine wpAnyM_one (i := 6) rfl (by kernel_rfl) (fun K hK => ?_); rw [if_pos (by rfl)]; (try simp only [elem_laws]))
  go_simp
  refine hK _ _ (fun _ => hR2) ?_
  clear hK K
  (try simp only [put_laws])
  (refine wpAnyM_one (i := 8) rfl (by kernel_rfl) (fun K hK => ?_); rw [if_pos (by rfl)]; (try simp only [elem_laws]))
  go_simp
  refine hK _ _ (fun _ => hR2) ?_
  clear hK K
  (try simp only [put_laws])
  (refine wpAnyM_last rfl (by kernel_rfl) (fun K hK => ?_); rw [if_pos (by rfl)]; (try simp only [elem_laws]))
  clear hR2
  go_simp
  refine hK _ _ ?_
  clear hK K
  (try simp only [put_laws])
  refine wpAnyM_done (by kernel_rfl) ?_ _
  go_wp2_with fail
  first
  | go_end0
  | refine bodyPost_ret (results_none rfl _ _ _) rfl ?_
  have h1 : Blk (w2.setCell ⟨b, wd, none⟩ (.int .u64 (IntKind.u64.wrap n))) b 113 (lnA (l.set wd (n % 18446744073709551616))) := by
    have h2 := HL2.out.set wd (.int .u64 (IntKind.u64.wrap n))
    rw [lnA_set] at h2
    exact h2
  exact ⟨⟨_, rfl⟩, h1, ((Turn.of_below HB2.out (Nat.le_refl _)).mono (fun k h => h)).trans (Turn.setCell w2 _ rfl)⟩
set_option maxRecDepth 100000 in
set_option maxHeartbeats 4000000 in
theorem numRead_I {ff : FuncId} {lbf : Array Value} {i wd : Nat} {n : Int} (hwd : wd < 8) (w : World) (pa pf b : Nat) (l : List Int) (hl : Line8 l) (hF : FieldAt w ff lbf i) (x : Array Value) (hn : x[i]? = some (.int .i64 n))
    (hba : Boxed w pa 3 (.int .i64 (wd : Nat))) (hbf : Boxed w pf 130 (.func (.func ff) #[] lbf)) (hbx : Blk w b 31 x) :
    Calls Tryz.prog 98 #[.agg (lnA l), .pointer (some ⟨b, 0, none⟩), .pointer (some ⟨pa, 0, none⟩), .pointer (some ⟨pf, 0, none⟩)] w fun e w' => Turn (fun k => k = b) w w' ∧
      ((∃ u y, e = .returned u ∧ rdNum (l[wd]?.getD 0) x i = some y ∧ Blk w' b 31 y) ∨ (e = .panicked noLine ∧ rdNum (l[wd]?.getD 0) x i = none ∧ Blk w' b 31 x)) := by
  obtain ⟨W1, hW1⟩ : ∃ W1, (w.alloc (.cells (lnA l) 113)).drew = W1 := ⟨_, rfl⟩
  have hb1 : Below w.heap.size w W1 := by rw [← hW1]; exact (by repeat (first | exact Below.refl _ _ | assumption | refine Below.drew ?_ | refine below_drewN ?_ _ | refine Below.alloc ?_ (by (try simp) <;> omega) _ | refine Below.setCell ?_ (by (try simp) <;> omega) _ | refine Below.trans ?_ (Below.mono (by assumption) (by (try simp) <;> omega))))
  have hl1 : Blk W1 w.heap.size 113 (lnA l) := by rw [← hW1]; exact Blk.new _ _ _
  have hba1 : Boxed W1 pa 3 (.int .i64 (wd : Nat)) := (hb1.block _ hba.lt).trans hba
  have hbf1 : Boxed W1 pf 130 (.func (.func ff) #[] lbf) := (hb1.block _ hbf.lt).trans hbf
  have hbx1 := hbx.below hb1 hbx.lt
  have hwl : wd < l.length := by rw [hl.1]; exact hwd
  have hy0 : 0 ≤ l[wd]?.getD 0 := by
    rw [List.getElem?_eq_getElem hwl, Option.getD_some]
    exact (hl.2 _ (List.getElem_mem hwl)).1
  have cly := hl1.cell (lnA_at l wd hwl)
  obtain ⟨y, hy⟩ : ∃ y, l[wd]?.getD 0 = y := ⟨_, rfl⟩
  rw [hy] at cly hy0 ⊢
  have HFC := Lib.hid ((hF.below hb1).2 b W1 (Below.refl _ _))
  have eF : ∀ args W, (callFunc ff args).run Tryz.prog W = .ok (.enter ff args) W := hF.1
  have HNU := Lib.hid (fun W => number_anyN y hy0 W)
  have HW1 := Lib.hid hW1
  have HB1 := Lib.hid hb1
  have HX1 := Lib.hid hbx1
  have HL1 := Lib.hid hl1
  have HN := Lib.hid hn
  have hw2 : (wd : Int) < 8 := by omega
  have hR : (fun W : World => W.cell? ⟨pa, 0, none⟩ = some (.int .i64 (wd : Nat)) ∧ W.cell? ⟨pf, 0, none⟩ = some (.func (.func ff) #[] lbf) ∧ W.cell? ⟨w.heap.size, wd, none⟩ = some (.int .u64 y)) W1 := ⟨hba1.cell, hbf1.cell, cly⟩
  have HBA := Lib.hid hba1
  have HBF := Lib.hid hbf1
  have HLB := Lib.hid hbx.lt
  clear hW1 hb1 hl1 hba1 hbf1 hbx1 hF hn hba hbf hbx hl hy hwl cly
  go_enter Tryz.func98, Tryz.ntmps98
  go_wp2_with fail
  refine wp_region_M 8 (fun W : World => W.cell? ⟨pa, 0, none⟩ = some (.int .i64 (wd : Nat)) ∧ W.cell? ⟨pf, 0, none⟩ = some (.func (.func ff) #[] lbf) ∧ W.cell? ⟨w.heap.size, wd, none⟩ = some (.int .u64 y)) (by kernel_rfl) ?_
  rw [HW1.out]
  (refine wpAnyM_take2 8 (i := 0) (v := ?_) rfl (by kernel_rfl) (by kernel_rfl) (fun _ _ _ h => h) (Or.inl ⟨by rfl, ?_⟩) hR ?_; rotate_left; (focus (intro w hSw; (try dsimp only at hSw); go_simp; (try with_reducible rfl))); (try simp only [put_laws])); (refine wpAnyM_take2 8 (i := 1) (v := ?_) rfl (by kernel_rfl) (by kernel_rfl) (fun _ _ _ h => h) (Or.inl ⟨by rfl, ?_⟩) hR ?_; rotate_left; (focus (intro w hSw; (try dsimp only at hSw); go_simp; (try with_reducible rfl))); (try simp only [put_laws])); (refine wpAnyM_take2 8 (i := 3) (v := ?_) rfl (by kernel_rfl) (by kernel_rfl) (fun _ _ _ h => h) (Or.inl ⟨by rfl, ?_⟩) hR ?_; rotate_left; (focus (intro w hSw; (try dsimp only at hSw); go_simp; (try with_reducible rfl))); (try simp only [put_laws])); (refine wpAnyM_take2 8 (i := 4) (v := ?_) rfl (by kernel_rfl) (by kernel_rfl) (fun _ _ _ h => h) (Or.inl ⟨by rfl, ?_⟩) hR ?_; rotate_left; (focus (intro w hSw; (try dsimp only at hSw); go_simp; (try with_reducible rfl))); (try simp only [put_laws])); (refine wpAnyM_take2 8 (i := 5) (v := ?_) rfl (by kernel_rfl) (by kernel_rfl) (fun _ _ _ h => h) (Or.inl ⟨by rfl, ?_⟩) hR ?_; rotate_left; (focus (intro w hSw; (try dsimp only at hSw); go_simp; (try with_reducible rfl))); (try simp only [put_laws]))
  (refine wpAnyM_one (i := 2) rfl (by kernel_rfl) (fun K hK => ?_); rw [if_pos (by rfl)]; (try simp only [elem_laws]))
  go_simp
  refine HFC.out.mono ?_
  rintro e w2 ⟨rfl, hb2⟩
  have h2a : Boxed w2 pa 3 (.int .i64 (wd : Nat)) := (hb2.block _ HBA.out.lt).trans HBA.out
  have h2f : Boxed w2 pf 130 (.func (.func ff) #[] lbf) := (hb2.block _ HBF.out.lt).trans HBF.out
  have h2l : w2.cell? ⟨w.heap.size, wd, none⟩ = some (.int .u64 y) := (hb2.cell (p := ⟨w.heap.size, wd, none⟩) HL1.out.lt).trans hR.2.2
  have hx2 := HX1.out.below hb2 HX1.out.lt
  have hR2 : (fun W : World => W.cell? ⟨pa, 0, none⟩ = some (.int .i64 (wd : Nat)) ∧ W.cell? ⟨pf, 0, none⟩ = some (.func (.func ff) #[] lbf) ∧ W.cell? ⟨w.heap.size, wd, none⟩ = some (.int .u64 y)) w2 := ⟨h2a.cell, h2f.cell, h2l⟩
  refine hK _ _ (fun _ => hR2) ?_
  clear hK K hR
  have HT2 : Hid (Turn (fun k => k = b) w w2) := show Turn _ _ _ from Turn.of_below (HB1.out.trans (hb2.mono HB1.out.size)) (Nat.le_refl _)
  have cx := hx2.cell HN.out
  have fx := hx2.frozen i
  have lx := hx2.lt
  have HX2 := Lib.hid hx2
  clear hb2 h2a h2f h2l hx2
  (try simp only [put_laws])
  (refine wpAnyM_one (i := 6) rfl (by kernel_rfl) (fun K hK => ?_); rw [if_pos (by rfl)]; (try simp only [elem_laws]))
  go_simp
  refine (HNU.out w2).mono ?_
  rintro e w3 ⟨rfl, ⟨hle, rfl⟩ | ⟨hgt, rfl⟩⟩
  · have HLE := Lib.hid hle
    clear hle
    refine hK _ _ (fun _ => hR2) ?_
    clear hK K
    (try simp only [put_laws])
    (refine wpAnyM_one (i := 7) rfl (by kernel_rfl) (fun K hK => ?_); rw [if_pos (by rfl)]; (try simp only [elem_laws]))
    go_simp
    refine hK _ _ (fun _ => hR2) ?_
    clear hK K
    (try simp only [put_laws])
    (refine wpAnyM_last rfl (by kernel_rfl) (fun K hK => ?_); rw [if_pos (by rfl)]; (try simp only [elem_laws]))
    clear hR2
    go_simp
    refine hK _ _ ?_
    clear hK K
    (try simp only [put_laws])
    refine wpAnyM_done (by kernel_rfl) ?_ _
    go_wp2_with fail
    first
    | go_end0
    | refine bodyPost_ret (results_none rfl _ _ _) rfl ?_
    exact ⟨HT2.out.trans (Turn.setCell w3 _ rfl), .inl ⟨_, _, rfl, if_pos HLE.out, HX2.out.set _ _⟩⟩
  · exact ⟨rfl, HT2.out, .inr ⟨rfl, if_neg (by omega), HX2.out⟩⟩
end Go.Proofs.YtaebipopmefkpaaGreatDoor

/-
  node: the part that is one number of a line of api.Inode. Written by gen_nd.py.
-/
namespace Go.Proofs.YtaebipopmefkpaaGreatDoor
open Go.RowKit Go.Shelf Go.Sort
attribute [local go_sem] Oper.semAt_some

theorem numPart_I {Good : Array Value → Prop} {i wd : Nat} {lo hi : Int} {ff fl : FuncId} {lbf : Array Value} (hwd : wd < 8) (hG : NumGood Good i) (w : World) (hF : FieldAt w ff lbf i) (hL : LiesAt fl lo hi) (pa pf pl : Nat)
    (hba : Boxed w pa 3 (.int .i64 (wd : Nat))) (hbf : Boxed w pf 130 (.func (.func ff) #[] lbf)) (hbl : Boxed w pl 110 (.func (.func fl) #[] #[])) :
    NdPart Good 31 w ⟨96, #[.pointer (some ⟨pl, 0, none⟩), .pointer (some ⟨pf, 0, none⟩)], 97, #[.pointer (some ⟨pf, 0, none⟩), .pointer (some ⟨pa, 0, none⟩)], 98, #[.pointer (some ⟨pa, 0, none⟩), .pointer (some ⟨pf, 0, none⟩)], numS wd i lo hi⟩ where
  e0 := enters_of Tryz.func96 (by kernel_rfl) rfl
  e1 := enters_of Tryz.func97 (by kernel_rfl) rfl
  e2 := enters_of Tryz.func98 (by kernel_rfl) rfl
  mayBe x W hx hW := by
    obtain ⟨n, hn, h0, h1⟩ := hG.at_ x hx
    have h := numMay_I W pl pf (hF.below hW) hL x hn ((hW.block _ hbl.lt).trans hbl) ((hW.block _ hbf.lt).trans hbf)
    show Calls _ _ _ _ fun e w' => e = .returned (.bool (inB (numAt x i, lo, hi))) ∧ _
    rw [numAt_of hn]
    exact h
  write x l b W hx _ hl hW _ hb := by
    obtain ⟨n, hn, h0⟩ := hG.at_ x hx
    have h := numWrite_I hwd W pa pf b l hl (hF.below hW) x hn h0 ((hW.block _ hba.lt).trans hba) ((hW.block _ hbf.lt).trans hbf) hb
    show Calls _ _ _ _ fun e w' => (∃ u, e = .returned u) ∧ Blk w' b _ (lnA (l.set wd (numAt x i % 18446744073709551616))) ∧ _
    rw [numAt_of hn]
    exact h
  read x l b W hx hl hW _ hb := by
    obtain ⟨n, hn, h0⟩ := hG.at_ x hx
    exact numRead_I hwd W pa pf b l hl (hF.below hW) x hn ((hW.block _ hba.lt).trans hba) ((hW.block _ hbf.lt).trans hbf) hb
  wrLine x l _ _ hl := hl.set wd (Int.emod_nonneg _ (by decide)) (Int.emod_lt_of_pos _ (by decide))
  rdGood x l y hx hl h := by
    have h2 : rdNum (l[wd]?.getD 0) x i = some y := h
    unfold rdNum at h2
    have hwl : wd < l.length := by rw [hl.1]; exact hwd
    rw [List.getElem?_eq_getElem hwl, Option.getD_some] at h2
    have h3 := (hl.2 _ (List.getElem_mem hwl)).1
    split at h2
    · rename_i h4
      rw [← Option.some.inj h2]
      exact hG.set x _ hx h3 h4
    · cases h2
/-- What numbered tells, by its boxes. -/
abbrev numVI (n wd i : Nat) (lo hi : Int) : PartV := ⟨96, #[.pointer (some ⟨n + 1 + 1, 0, none⟩), .pointer (some ⟨n + 1, 0, none⟩)], 97, #[.pointer (some ⟨n + 1, 0, none⟩), .pointer (some ⟨n, 0, none⟩)], 98, #[.pointer (some ⟨n, 0, none⟩), .pointer (some ⟨n + 1, 0, none⟩)], numS wd i lo hi⟩
def NumBoxI (W : World) (n wd : Nat) (ff fl : FuncId) (lbf : Array Value) : Prop := Boxed W n 3 (.int .i64 (wd : Nat)) ∧ Boxed W (n + 1) 130 (.func (.func ff) #[] lbf) ∧ Boxed W (n + 1 + 1) 110 (.func (.func fl) #[] #[])
theorem numBox_partI {Good : Array Value → Prop} {i wd n : Nat} {lo hi : Int} {ff fl : FuncId} {lbf : Array Value} (hwd : wd < 8) (hG : NumGood Good i) (W : World) (hF : FieldAt W ff lbf i) (hL : LiesAt fl lo hi) (hB : NumBoxI W n wd ff fl lbf) : NdPart Good 31 W (numVI n wd i lo hi) :=
  numPart_I hwd hG W hF hL _ _ _ hB.1 hB.2.1 hB.2.2
theorem numberedX_I (i wd : Nat) (lo hi : Int) (ff fl : FuncId) (lbf : Array Value) (w : World) :
    Calls Tryz.prog 50 #[.int .i64 (wd : Nat), .func (.func ff) #[] lbf, .func (.func fl) #[] #[]] w fun e w' => e = .returned (.agg #[(numVI w.heap.size wd i lo hi).v0, (numVI w.heap.size wd i lo hi).v1, (numVI w.heap.size wd i lo hi).v2]) ∧ Below w.heap.size w w' ∧ NumBoxI w' w.heap.size wd ff fl lbf := by
  go_enter Tryz.func50, Tryz.ntmps50
  go_wp2
  generalize hW : World.alloc _ _ = W
  have hB : Below w.heap.size w W := by rw [← hW]; exact (by repeat (first | exact Below.refl _ _ | assumption | refine Below.drew ?_ | refine below_drewN ?_ _ | refine Below.alloc ?_ (by (try simp) <;> omega) _ | refine Below.setCell ?_ (by (try simp) <;> omega) _ | refine Below.trans ?_ (Below.mono (by assumption) (by (try simp) <;> omega))))
  have h0 : Boxed W w.heap.size 3 (.int .i64 (wd : Nat)) := by unfold Boxed; rw [← hW]; (simp only [heap_at, World.size_alloc]; repeat (first | rw [if_pos (by omega)] | rw [if_neg (by omega)] | rw [if_pos trivial]))
  have h1 : Boxed W (w.heap.size + 1) 130 (.func (.func ff) #[] lbf) := by unfold Boxed; rw [← hW]; (simp only [heap_at, World.size_alloc]; repeat (first | rw [if_pos (by omega)] | rw [if_neg (by omega)] | rw [if_pos trivial]))
  have h2 : Boxed W (w.heap.size + 1 + 1) 110 (.func (.func fl) #[] #[]) := by unfold Boxed; rw [← hW]; (simp only [heap_at, World.size_alloc]; repeat (first | rw [if_pos (by omega)] | rw [if_neg (by omega)] | rw [if_pos trivial]))
  have h3 : Blk W (w.heap.size + 1 + 1 + 1) 126 #[(numVI w.heap.size wd i lo hi).v0, (numVI w.heap.size wd i lo hi).v1, (numVI w.heap.size wd i lo hi).v2] := by unfold Blk; rw [← hW]; (simp only [heap_at, World.size_alloc]; repeat (first | rw [if_pos (by omega)] | rw [if_neg (by omega)] | rw [if_pos trivial]))
  exact bodyPost_ret (results_cell (fn := Tryz.f50) rfl rfl (h3.loadVar (tt := 126) Tryz.underlying126 rfl (by kernel_rfl))) rfl ⟨rfl, hB, h0, h1, h2⟩
theorem numbered_I {Good : Array Value → Prop} {i wd : Nat} {lo hi : Int} {ff fl : FuncId} {lbf : Array Value} (hwd : wd < 8) (hG : NumGood Good i) (w : World) (hF : FieldAt w ff lbf i) (hL : LiesAt fl lo hi) :
    Calls Tryz.prog 50 #[.int .i64 (wd : Nat), .func (.func ff) #[] lbf, .func (.func fl) #[] #[]] w fun e w' => ∃ p : PartV, e = .returned (.agg #[p.v0, p.v1, p.v2]) ∧ Below w.heap.size w w' ∧ NdPart Good 31 w' p ∧ p.S = numS wd i lo hi :=
  (numberedX_I i wd lo hi ff fl lbf w).mono fun _e w' ⟨he, hb, hx⟩ => ⟨_, he, hb, numBox_partI hwd hG w' (hF.below hb) hL hx, rfl⟩
end Go.Proofs.YtaebipopmefkpaaGreatDoor

/-
  node: the parts of a line of api.Inode as an iterator. Written by gen_nd.py.
-/
namespace Go.Proofs.YtaebipopmefkpaaGreatDoor
open Go.RowKit Go.Shelf Go.Sort
attribute [local go_sem] Oper.semAt_some

def ndOwnI (p g : Nat) (k : Nat) : Prop := k = p ∨ k = g
/-- A slice of parts. -/
structure KindAtI (w : World) (v : Value) (ps : List PartV) : Prop where
  at_ : ∃ g c, v = .slice (some ⟨g, 0, none⟩) ps.length c ∧ g < w.heap.size ∧ ∀ k (hk : k < ps.length), w.cell? ⟨g, k * 3, none⟩ = some ps[k].v0 ∧ w.cell? ⟨g, k * 3 + 1, none⟩ = some ps[k].v1 ∧ w.cell? ⟨g, k * 3 + 2, none⟩ = some ps[k].v2
  most : ps.length ≤ 100
theorem KindAtI.below {w w' : World} {v : Value} {ps : List PartV} (h : KindAtI w v ps) (hb : Below w.heap.size w w') : KindAtI w' v ps := by
  obtain ⟨⟨g, c, hv, hg, hc⟩, hm⟩ := h
  exact ⟨⟨g, c, hv, Nat.lt_of_lt_of_le hg hb.size, fun k hk => by
    obtain ⟨h1, h2, h3⟩ := hc k hk
    exact ⟨(hb.cell (p := ⟨g, k * 3, none⟩) hg).trans h1, (hb.cell (p := ⟨g, k * 3 + 1, none⟩) hg).trans h2, (hb.cell (p := ⟨g, k * 3 + 2, none⟩) hg).trans h3⟩⟩, hm⟩
set_option maxRecDepth 100000 in
set_option maxHeartbeats 4000000 in
theorem valuesE_I (n : Nat) (_ : 1 ≤ n) {p g c : Nat} {ps : List PartV} (w : World) (hbx : Boxed w p 68 (.slice (some ⟨g, 0, none⟩) ps.length c)) (hg : g < w.heap.size)
    (hc : ∀ k (hk : k < ps.length), w.cell? ⟨g, k * 3, none⟩ = some ps[k].v0 ∧ w.cell? ⟨g, k * 3 + 1, none⟩ = some ps[k].v1 ∧ w.cell? ⟨g, k * 3 + 2, none⟩ = some ps[k].v2) (hl : ps.length ≤ 100) :
    SeqE (ndOwnI p g) n Tryz.prog 132 #[.pointer (some ⟨p, 0, none⟩)] encPart (fun ys => ys = ps) (fun pre => pre <+: ps) w := fun lp J Jx Jp W hW hJ hJx hJp hY h0 => by
  have c0 : W.cell? ⟨p, 0, none⟩ = some (.slice (some ⟨g, 0, none⟩) ps.length c) := Boxed.cell ((hW.block _ hbx.lt).trans hbx)
  have HC := Lib.hid (fun k (hk : k < ps.length) => show W.cell? ⟨g, k * 3, none⟩ = some ps[k].v0 ∧ W.cell? ⟨g, k * 3 + 1, none⟩ = some ps[k].v1 ∧ W.cell? ⟨g, k * 3 + 2, none⟩ = some ps[k].v2 from by
    obtain ⟨h1, h2, h3⟩ := hc k hk
    exact ⟨(hW.cell (p := ⟨g, k * 3, none⟩) hg).trans h1, (hW.cell (p := ⟨g, k * 3 + 1, none⟩) hg).trans h2, (hW.cell (p := ⟨g, k * 3 + 2, none⟩) hg).trans h3⟩)
  have hgW : g < W.heap.size := Nat.lt_of_lt_of_le hg hW.size
  have HY := Lib.hid hY
  have HJA := Lib.hid hJ
  clear hY hJ hJx hJp hc hbx hW
  obtain ⟨M, hM⟩ : ∃ M, ps.length = M := ⟨_, rfl⟩
  have HM := Lib.hid hM
  rw [hM] at c0 hl
  have HT := Lib.hid (fun (k : Nat) (hk : k < ps.length) => show ps.take k ++ [ps[k]] = ps.take (k + 1) from by
    rw [List.take_succ_eq_append_getElem hk])
  clear hM
  refine callsIn_of_wp Tryz.func132 rfl trivial ?_ rfl
  simp only [Tryz.ntmps132, List.size_toArray, List.length_cons, List.length_nil, Nat.reduceAdd, Nat.reduceSub, Array.replicate_succ, Array.replicate_zero, List.push_toArray, List.append_toArray, List.nil_append, List.cons_append]
  gi_wp2_with fail
  gi_loopw [7] (fun i wr => ∃ k : Nat, k ≤ M ∧ i = .int .i64 (k : Nat) ∧ Hid (J (ps.take k) (fun _ => False) wr) ∧ Hid (Keeps (ndOwnI p g) W wr)) (fun i _ => M - (intOf i).toNat)
  case atStart => exact ⟨0, Nat.zero_le _, rfl, Lib.hid (by simpa using h0), Lib.hid (Keeps.refl _ _)⟩
  case round =>
    obtain ⟨k, hk, rfl, HJs, HKP⟩ := hrel
    clear c0
    by_cases hlt : k < M
    · have hkp : k < ps.length := by rw [HM.out]; exact hlt
      obtain ⟨d0, d1, d2⟩ := HC.out k hkp
      have hbk := HKP.out.2 g (.inr rfl) hgW
      have ck0 := (World.cell?_of_block (a := ⟨g, k * 3, none⟩) hbk).trans d0
      have ck1 := (World.cell?_of_block (a := ⟨g, k * 3 + 1, none⟩) hbk).trans d1
      have ck2 := (World.cell?_of_block (a := ⟨g, k * 3 + 2, none⟩) hbk).trans d2
      clear d0 d1 d2 hbk
      have HF := Lib.hid (HT.out k hkp)
      obtain ⟨z0, hz0⟩ : ∃ z, ps[k].f0 = z := ⟨_, rfl⟩
      obtain ⟨y0, hy0⟩ : ∃ z, ps[k].l0 = z := ⟨_, rfl⟩
      obtain ⟨z1, hz1⟩ : ∃ z, ps[k].f1 = z := ⟨_, rfl⟩
      obtain ⟨y1, hy1⟩ : ∃ z, ps[k].l1 = z := ⟨_, rfl⟩
      obtain ⟨z2, hz2⟩ : ∃ z, ps[k].f2 = z := ⟨_, rfl⟩
      obtain ⟨y2, hy2⟩ : ∃ z, ps[k].l2 = z := ⟨_, rfl⟩
      have hbv : Below wr.heap.size wr (wr.alloc (.cells #[.func (.func z0) #[] y0, .func (.func z1) #[] y1, .func (.func z2) #[] y2] 126)) := (Below.refl _ _).alloc (Nat.le_refl _) _
      have HKV : Hid (Keeps (ndOwnI p g) W (wr.alloc (.cells #[.func (.func z0) #[] y0, .func (.func z1) #[] y1, .func (.func z2) #[] y2] 126))) := show Keeps _ _ _ from HKP.out.trans ⟨hbv.size, fun k _ hl => hbv.block k hl⟩
      obtain ⟨fn, tmps, assign, body, hy, hR⟩ := HY.out _ ps[k] (fun _ => False) _ (HJA.out _ _ (fun _ => False) _ _ HJs.out (Turn.of_below hbv (Nat.le_refl _)) (fun k h => h.elim)) HKV.out.1 (fun q h => h.elim) (by rw [HF.out]; exact List.take_prefix _ _)
      rw [HF.out] at hR
      have HR := Lib.hid hR
      unfold encPart PartV.v0 PartV.v1 PartV.v2 at hy
      unfold PartV.v0 at ck0
      unfold PartV.v1 at ck1
      unfold PartV.v2 at ck2
      rw [hz0, hy0, hz1, hy1, hz2, hy2] at hy
      rw [hz0, hy0] at ck0
      rw [hz1, hy1] at ck1
      rw [hz2, hy2] at ck2
      have k2 : (k : Int) < (M : Int) := by omega
      clear hR hz0 hz1 hz2 hy0 hy1 hy2 HF hbv
      gi_wp2_with fail
      refine HR.out.mono ?_
      rintro e W3 (⟨hk3, ⟨rfl, hJ3⟩ | ⟨rfl, hJx3⟩⟩ | ⟨ch, rfl, hp3⟩)
      · have HKP3 : Hid (Keeps (ndOwnI p g) W W3) := show Keeps _ _ _ from HKV.out.trans (hk3.weaken fun k h => .inl h)
        have HJ3 := Lib.hid hJ3
        clear hy hk3 hJ3 ck0 ck1 ck2
        gi_wp2_with fail
        go_roundw
        case rel => exact ⟨k + 1, by omega, by go_num, HJ3, HKP3⟩
        case measure => simp [intOf]; omega
      · clear hy ck0 ck1 ck2
        gi_wp2_with fail
        refine bodyPost_ret (results_none rfl _ _ _) rfl ?_
        exact .inl ⟨⟨_, rfl⟩, .inr ⟨_, List.take_prefix _ _, hJx3⟩⟩
      · clear hy ck0 ck1 ck2
        gi_wp2_with fail
        exact ⟨rfl, .inr ⟨ch, _, rfl, List.take_prefix _ _, hp3⟩⟩
    · obtain rfl : k = M := by omega
      gi_wp2_with fail
      go_end0
      exact .inl ⟨⟨_, rfl⟩, .inl ⟨_, by rw [List.take_of_length_le (by rw [HM.out]; exact Nat.le_refl _)], HJs.out⟩⟩
theorem parts_I (a : Option Addr) (n c : Nat) (w : World) : Calls Tryz.prog 53 #[.slice a n c] w fun e w' => e = .returned (.func (.func 132) #[] #[.pointer (some ⟨w.heap.size, 0, none⟩)]) ∧ w' = w.alloc (.cells #[.slice a n c] 68) := by
  go_enter Tryz.func53, Tryz.ntmps53
  go_wp2
  go_ret
  exact ⟨rfl, rfl⟩
end Go.Proofs.YtaebipopmefkpaaGreatDoor

/-
  node: may a line of api.Inode be. Written by gen_nd.py.
-/
namespace Go.Proofs.YtaebipopmefkpaaGreatDoor
open Go.RowKit Go.Shelf Go.Sort
attribute [local go_sem] Oper.semAt_some

/-- What a round of a range over parts begins with. -/
def PartAxI (A0 : Act) (t s u : Nat) (p : PartV) (n : Nat) (a' : Act) (W : World) : Prop :=
  ∃ b, a' = { tmps := (A0.tmps.setIfInBounds s (.agg #[p.v0, p.v1, p.v2])).setIfInBounds u (.pointer (some ⟨b, 0, none⟩)), defers := [] } ∧ n ≤ b ∧ Tri W b t p.v0 p.v1 p.v2
/-- In the rounds of mayBe. -/
def MayII (w : World) (x : Array Value) (b : Nat) (X : Nat) (pre : List PartV) (q : Nat → Prop) (W : World) : Prop :=
  (Blk W X 31 x ∧ ¬ q X) ∧ BoxF b 4 (.bool true) q W ∧ BelowF w.heap.size w q W ∧ okAll pre x = true
theorem abides_mayI (w : World) (x : Array Value) (b X : Nat) : Abides (MayII w x b X) := Abides.and (abides_blk _ _ _) (Abides.and (Abides.box _ _ (fun _ => .bool true)) (Abides.and (Abides.below _ _) (Abides.pure (fun pre : List PartV => okAll pre x = true))))
def MayXI (w : World) (x : Array Value) (b : Nat) (cd : Code) (pre : List PartV) (q : Nat → Prop) (W : World) : Prop :=
  (cd = .exit 0 ∧ okAll pre x = false) ∧ BoxF b 4 (.bool false) q W ∧ BelowF w.heap.size w q W
theorem abides_mayXI (w : World) (x : Array Value) (b : Nat) (cd : Code) : Abides (MayXI w x b cd) := Abides.and (Abides.pure (fun pre : List PartV => cd = .exit 0 ∧ okAll pre x = false)) (Abides.and (Abides.box _ _ (fun _ => .bool false)) (Abides.below _ _))
set_option maxRecDepth 100000 in
set_option maxHeartbeats 4000000 in
theorem mayK_I {Good : Array Value → Prop} {v : Value} {ps : List PartV} (x : Array Value) (hx : Good x) (hsz : x.size = 3) (w : World) (hk : KindAtI w v ps) (hp : ∀ p ∈ ps, NdPart Good 31 w p) :
    Calls Tryz.prog 100 #[v, .agg x] w fun e w' => e = .returned (.bool (okAll ps x)) ∧ Below w.heap.size w w' := by
  obtain ⟨⟨g, c, rfl, hg, hc⟩, hl⟩ := hk
  have HVE := Lib.hid (fun (W : World) (p : Nat) (hb : Below w.heap.size w W) (hbx : Boxed W p 68 (.slice (some ⟨g, 0, none⟩) ps.length c)) => valuesE_I 8 (by decide) (p := p) W hbx (Nat.lt_of_lt_of_le hg hb.size) (fun k hk => by
    obtain ⟨h1, h2, h3⟩ := hc k hk
    exact ⟨(hb.cell (p := ⟨g, k * 3, none⟩) hg).trans h1, (hb.cell (p := ⟨g, k * 3 + 1, none⟩) hg).trans h2, (hb.cell (p := ⟨g, k * 3 + 2, none⟩) hg).trans h3⟩) hl)
  clear hc hl
  obtain ⟨N, hN⟩ : ∃ N, ps.length = N := ⟨_, rfl⟩
  have HPT := Lib.hid (parts_I (some ⟨g, 0, none⟩) N c)
  rw [hN] at HVE
  rw [hN]
  clear hN
  have HP := Lib.hid (fun (W : World) (hb : Below w.heap.size w W) (p : PartV) (hm : p ∈ ps) => (hp p hm).below hb)
  obtain ⟨W2, hW2⟩ : ∃ W2, (w.alloc (.cells x 31)).alloc (.cells #[.bool true] 4) = W2 := ⟨_, rfl⟩
  have HB2 : Hid (Below w.heap.size w W2) := show Below _ _ _ by rw [← hW2]; exact (by repeat (first | exact Below.refl _ _ | assumption | refine Below.drew ?_ | refine below_drewN ?_ _ | refine Below.alloc ?_ (by (try simp) <;> omega) _ | refine Below.setCell ?_ (by (try simp) <;> omega) _ | refine Below.trans ?_ (Below.mono (by assumption) (by (try simp) <;> omega))))
  have HX2 : Hid (Blk W2 w.heap.size 31 x) := show Blk _ _ _ _ by unfold Blk; rw [← hW2]; (simp only [heap_at, World.size_alloc]; repeat (first | rw [if_pos (by omega)] | rw [if_neg (by omega)] | rw [if_pos trivial]))
  have HM2 : Hid (Boxed W2 (w.heap.size + 1) 4 (.bool true)) := show Boxed _ _ _ _ by unfold Boxed; rw [← hW2]; (simp only [heap_at, World.size_alloc]; repeat (first | rw [if_pos (by omega)] | rw [if_neg (by omega)] | rw [if_pos trivial]))
  have HZ2 : Hid (W2.heap.size = w.heap.size + 2) := show _ = _ by rw [← hW2]; simp
  have HW2 := Lib.hid hW2
  have HX := Lib.hid hx
  have HSZ := Lib.hid hsz
  have HGG := Lib.hid hg
  clear hW2 hp hx hsz hg
  refine (callsIn_wide (n := 9)).1 ?_
  refine callsIn_of_wp_marks Tryz.func100 rfl trivial ?_ rfl
  simp only [Tryz.ntmps100, List.size_toArray, List.length_cons, List.length_nil, Nat.reduceAdd, Nat.reduceSub, Array.replicate_succ, Array.replicate_zero, List.push_toArray, List.append_toArray, List.nil_append, List.cons_append]
  gi_wp2_with fail
  refine wpIn_scope_straight ?_
  gi_wp2_with fail
  refine wpIn_label ?_
  gi_wp2_with fail
  rw [HW2.out]
  refine ⟨trivial, ?_⟩
  refine (callsIn_wide.2 (HPT.out W2)).mono ?_
  rintro e w1 ⟨rfl, hw1⟩
  have hz2 := HZ2.out
  have hb1 : Below W2.heap.size W2 w1 := by rw [hw1]; exact (Below.refl _ _).alloc (Nat.le_refl _) _
  have hz1 : w1.heap.size = w.heap.size + 3 := by rw [hw1, World.size_alloc]; omega
  have HB1 : Hid (Below w.heap.size w w1) := show Below _ _ _ from HB2.out.trans (hb1.mono HB2.out.size)
  have hx1 : Blk w1 w.heap.size 31 x := (hb1.block _ (by omega)).trans HX2.out
  have hm1 : Boxed w1 (w.heap.size + 1) 4 (.bool true) := (hb1.block _ (by omega)).trans HM2.out
  have hs1 : Boxed w1 (w.heap.size + 2) 68 (.slice (some ⟨g, 0, none⟩) N c) := by rw [hw1, ← hz2]; exact Boxed.new _ _ _
  have HSQ := Lib.hid ((HVE.out w1 (w.heap.size + 2) HB1.out hs1).seqF)
  have HGL : Hid (g < w.heap.size) := HGG
  have HI0 : Hid (MayII w x (w.heap.size + 1) w.heap.size [] (fun _ => False) w1) := show MayII _ _ _ _ _ _ _ from ⟨⟨hx1, id⟩, ⟨hm1, id⟩, ⟨HB1.out, HB1.out.size, fun _ h => h.elim⟩, rfl⟩
  have HZ1 := Lib.hid hz1
  clear hs1 hm1 hx1 hb1 hw1 hz1 HVE
  gi_wp2_with fail
  generalize hA : ({ tmps := _, defers := _ } : Act) = A0
  refine wpIn_range_F (n := 9) (by decide) (gf := 132) (lb := #[.pointer (some ⟨w.heap.size + 2, 0, none⟩)]) (by rw [← hA]; rfl) (enters_of Tryz.func132 (by kernel_rfl) rfl) HSQ.out
    (fun k hk => by have := HZ1.out; have := HGL.out; rcases hk with rfl | rfl <;> omega) (Below.refl _ _) (fun _ => rfl)
    (MayII w x (w.heap.size + 1) w.heap.size) (MayXI w x (w.heap.size + 1)) (abides_mayI _ _ _ _) (abides_mayXI _ _ _) HI0.out
    (PartAxI A0 126 9 6 · (w1.heap.size + 2))
    (fun p a' W o ⟨b, e, hb, h⟩ => ⟨b, e, hb, (World.putObj_heap_other (by omega)).trans h⟩)
    ?assign ?body ?done ?stop
  case assign =>
    rintro l2 p W3 K hsz3 hK
    subst hA
    unfold encPart
    dsimp only
    gi_wp2_with fail
    refine hK _ _ ⟨W3.heap.size, rfl, hsz3, Tri.new _ _ _ _ _⟩ ((Below.refl _ _).alloc (Nat.le_refl _) _)
  case body =>
    rintro l2 pre p a' q2 W3 ⟨⟨hbx, hqx⟩, ⟨hm, hqm⟩, hB, hok⟩ hs2 hqb hsp ⟨b, rfl, hb, ht⟩
    subst hA
    have hmem : p ∈ ps := hsp.subset (by simp)
    have hpt := HP.out W3 hB.1 p hmem
    obtain ⟨c0, c1, c2, -, -, -⟩ := ht.cells
    have hlb := ht.lt
    have HLD := Lib.hid (hbx.load (tt := 31) Tryz.underlying31 rfl (by rw [HSZ.out]; kernel_rfl))
    have HMB := Lib.hid (hpt.mayBe x W3 HX.out (Below.refl _ _))
    have e0 : ∀ args W, (callFunc p.f0 args).run Tryz.prog W = .ok (.enter p.f0 args) W := hpt.e0
    obtain ⟨F, hF⟩ : ∃ F, p.f0 = F := ⟨_, rfl⟩
    obtain ⟨L, hL⟩ : ∃ L, p.l0 = L := ⟨_, rfl⟩
    obtain ⟨o, ho⟩ : ∃ o, p.S.ok x = o := ⟨_, rfl⟩
    unfold PartV.v0 at c0
    rw [hF, hL] at c0
    rw [hF] at e0
    rw [hF, hL, ho] at HMB
    have HO := Lib.hid ho
    have HBX := Lib.hid hbx
    have HQX := Lib.hid hqx
    have HM := Lib.hid hm
    have HQM := Lib.hid hqm
    have HBB := Lib.hid hB
    have HOK := Lib.hid hok
    have HQB := Lib.hid hqb
    clear hpt hmem ht c1 c2 hF hL ho hbx hqx hm hqm hB hok hqb hsp
    gi_wp2_with (refine wpListIn_load_eq rfl 31 _ rfl _ _ rfl HLD.out ?_)
    refine ⟨trivial, (CallsIn.inRound l2 (callsIn_wide.2 HMB.out)).mono ?_⟩
    rintro e w3 ⟨rfl, hb3⟩
    have hm3 : Boxed w3 (w.heap.size + 1) 4 (.bool true) := (hb3.block _ HM.out.lt).trans HM.out
    cases o with
    | false =>
      have cm := hm3.cell
      have fm := hm3.frozen
      have lm := hm3.lt
      have HM3 := Lib.hid hm3
      have HB3 := Lib.hid hb3
      clear hm3 hb3 c0 e0
      gi_wp2_with fail
      refine ⟨⟨by simp [World.setCell]; exact HB3.out.size, fun k hk hl => (Below.heap_setCell _ _ _ _ (fun h => ?_)).trans (HB3.out.block k hl)⟩, ⟨rfl, ?_⟩, ⟨HM3.out.set (.bool false), HQM.out⟩, (HBB.out.1.trans (HB3.out.mono HBB.out.1.size)).setCell (p := ⟨w.heap.size + 1, 0, none⟩) (Nat.le_succ _) _, ?_, HBB.out.2.2⟩
      · rcases hk with (h2 | h2) | h2
        · have h3 : w.heap.size + 1 = w.heap.size + 2 := h.symm.trans h2
          omega
        · have h3 : w.heap.size + 1 = g := h.symm.trans h2
          have := HGL.out
          omega
        · exact HQM.out (by rwa [show k = w.heap.size + 1 from h] at h2)
      · unfold okAll
        rw [List.all_append, List.all_cons, HO.out]; simp
      · have := HBB.out.2.1; have := HB3.out.size; simp [World.setCell]; omega
    | true =>
      have HB3 := Lib.hid hb3
      clear hm3 hb3 c0 e0
      gi_wp2_with fail
      have h4 := abides_mayI w x (w.heap.size + 1) w.heap.size pre q2 q2 W3 w3 ⟨⟨HBX.out, HQX.out⟩, ⟨HM.out, HQM.out⟩, HBB.out, HOK.out⟩ (Turn.of_below HB3.out (Nat.le_refl _)) (fun k h => .inl h)
      refine ⟨⟨HB3.out.size, fun k _ hl => HB3.out.block k hl⟩, h4.1, h4.2.1, h4.2.2.1, ?_⟩
      have h5 := HOK.out
      unfold okAll at h5 ⊢
      rw [List.all_append, h5, List.all_cons, HO.out]; rfl
  case done =>
    rintro D ys W3 hD rfl ⟨-, ⟨hm, hqm⟩, hB, hok⟩ hK'
    subst hA
    have cm := hm.cell
    have HOK := Lib.hid hok
    have HBB := Lib.hid hB
    have HDD := Lib.hid hD
    have HK := Lib.hid hK'
    clear hm hqm hB hok hD hK'
    gi_wp2_with fail
    refine leaves_one (D := D) HK.out fun W' ht hc => ⟨_, results_tmp rfl _ _ _, by rw [HOK.out]; rfl, ?_⟩
    exact HBB.out.1.trans (ht.below (B := w.heap.size) (fun k h => by have := HDD.out; have := HB1.out.size; omega) HBB.out.2.1)
  case stop =>
    rintro D cd pre W3 hD hpre ⟨⟨rfl, hno⟩, ⟨hm, hqm⟩, hB⟩ hK'
    subst hA
    have cm := hm.cell
    have HOK : Hid (okAll ps x = false) := show _ = _ by
      obtain ⟨r, rfl⟩ := hpre
      unfold okAll at hno ⊢
      rw [List.all_append, hno]; rfl
    have HBB := Lib.hid hB
    have HDD := Lib.hid hD
    have HK := Lib.hid hK'
    clear hm hqm hB hno hD hK' hpre
    gi_wp2_with fail
    refine leaves_one (D := D) HK.out fun W' ht hc => ⟨_, results_tmp rfl _ _ _, by rw [HOK.out]; rfl, ?_⟩
    exact HBB.out.1.trans (ht.below (B := w.heap.size) (fun k h => by have := HDD.out; have := HB1.out.size; omega) HBB.out.2.1)
end Go.Proofs.YtaebipopmefkpaaGreatDoor

/-
  node: the words of a line of api.Inode. Written by gen_nd.py.
-/
namespace Go.Proofs.YtaebipopmefkpaaGreatDoor
open Go.RowKit Go.Shelf Go.Sort
attribute [local go_sem] Oper.semAt_some

/-- In the rounds of put. -/
def PutII (w : World) (x : Array Value) (X B R : Nat) (pre : List PartV) (q : Nat → Prop) (W : World) : Prop :=
  (Blk W X 31 x ∧ ¬ q X) ∧ (Blk W B 113 (lnA (wrAll pre x zeros8)) ∧ ¬ q B) ∧ (Blk W R 113 (lnA zeros8) ∧ ¬ q R) ∧ BelowF w.heap.size w q W
theorem abides_putI (w : World) (x : Array Value) (X B R : Nat) : Abides (PutII w x X B R) := Abides.and (abides_blkF _ _ _) (Abides.and (abides_blkF B 113 (fun pre => lnA (wrAll pre x zeros8))) (Abides.and (abides_blkF R 113 (fun _ => lnA zeros8)) (Abides.below _ _)))
set_option maxRecDepth 100000 in
set_option maxHeartbeats 4000000 in
theorem putK_I {Good : Array Value → Prop} {v : Value} {ps : List PartV} (x : Array Value) (hx : Good x) (hsz : x.size = 3) (w : World) (hk : KindAtI w v ps) (hp : ∀ p ∈ ps, NdPart Good 31 w p) :
    Calls Tryz.prog 54 #[v, .agg x] w fun e w' => e = .returned (.tuple #[.agg (lnA (putOut ps x)), .int .i64 (putErr ps x)]) ∧ Below w.heap.size w w' := by
  have HMK := Lib.hid (fun (W : World) (hb : Below w.heap.size w W) => mayK_I x hx hsz W (hk.below hb) (fun p hm => (hp p hm).below hb))
  obtain ⟨⟨g, c, rfl, hg, hc⟩, hl⟩ := hk
  have HVE := Lib.hid (fun (W : World) (p : Nat) (hb : Below w.heap.size w W) (hbx : Boxed W p 68 (.slice (some ⟨g, 0, none⟩) ps.length c)) => valuesE_I 8 (by decide) (p := p) W hbx (Nat.lt_of_lt_of_le hg hb.size) (fun k hk => by
    obtain ⟨h1, h2, h3⟩ := hc k hk
    exact ⟨(hb.cell (p := ⟨g, k * 3, none⟩) hg).trans h1, (hb.cell (p := ⟨g, k * 3 + 1, none⟩) hg).trans h2, (hb.cell (p := ⟨g, k * 3 + 2, none⟩) hg).trans h3⟩) hl)
  clear hc hl
  obtain ⟨N, hN⟩ : ∃ N, ps.length = N := ⟨_, rfl⟩
  have HPT := Lib.hid (parts_I (some ⟨g, 0, none⟩) N c)
  rw [hN] at HVE HMK
  rw [hN]
  clear hN
  have HP := Lib.hid (fun (W : World) (hb : Below w.heap.size w W) (p : PartV) (hm : p ∈ ps) => (hp p hm).below hb)
  have HLN := Lib.hid (fun pre (hpre : pre <+: ps) (ho : okAll ps x = true) => show Line8 (wrAll pre x zeros8) from wrAll_line hx pre zeros8 (fun p hm => hp p (hpre.subset hm)) (by
    obtain ⟨r, rfl⟩ := hpre
    unfold okAll at ho ⊢
    rw [List.all_append, Bool.and_eq_true] at ho
    exact ho.1) zeros8_line)
  obtain ⟨W2, hW2⟩ : ∃ W2, ((w.alloc (.cells x 31)).alloc (.cells (lnA zeros8) 113)).alloc (.cells (lnA zeros8) 113) = W2 := ⟨_, rfl⟩
  have HB2 : Hid (Below w.heap.size w W2) := show Below _ _ _ by rw [← hW2]; exact (by repeat (first | exact Below.refl _ _ | assumption | refine Below.drew ?_ | refine below_drewN ?_ _ | refine Below.alloc ?_ (by (try simp) <;> omega) _ | refine Below.setCell ?_ (by (try simp) <;> omega) _ | refine Below.trans ?_ (Below.mono (by assumption) (by (try simp) <;> omega))))
  have HX2 : Hid (Blk W2 w.heap.size 31 x) := show Blk _ _ _ _ by unfold Blk; rw [← hW2]; (simp only [heap_at, World.size_alloc]; repeat (first | rw [if_pos (by omega)] | rw [if_neg (by omega)] | rw [if_pos trivial]))
  have HM2 : Hid (Blk W2 (w.heap.size + 1) 113 (lnA zeros8)) := show Blk _ _ _ _ by unfold Blk; rw [← hW2]; (simp only [heap_at, World.size_alloc]; repeat (first | rw [if_pos (by omega)] | rw [if_neg (by omega)] | rw [if_pos trivial]))
  have HR2 : Hid (Blk W2 (w.heap.size + 1 + 1) 113 (lnA zeros8)) := show Blk _ _ _ _ by unfold Blk; rw [← hW2]; (simp only [heap_at, World.size_alloc]; repeat (first | rw [if_pos (by omega)] | rw [if_neg (by omega)] | rw [if_pos trivial]))
  have HZ2 : Hid (W2.heap.size = w.heap.size + 3) := show _ = _ by rw [← hW2]; simp
  have HW2 : Hid (((w.alloc (.cells x 31)).alloc (.cells #[.int .u64 0, .int .u64 0, .int .u64 0, .int .u64 0, .int .u64 0, .int .u64 0, .int .u64 0, .int .u64 0] 113)).alloc (.cells #[.int .u64 0, .int .u64 0, .int .u64 0, .int .u64 0, .int .u64 0, .int .u64 0, .int .u64 0, .int .u64 0] 113) = W2) := show _ = _ from hW2
  have HBW : Hid (Below w.heap.size w w) := show Below _ _ _ from Below.refl _ _
  have HX := Lib.hid hx
  have HSZ := Lib.hid hsz
  have HGG := Lib.hid hg
  have HLD2 := Lib.hid (HX2.out.load (tt := 31) Tryz.underlying31 rfl (by rw [hsz]; kernel_rfl))
  have HLD1 : Hid ((Instr.loadAt 31 (.pointer (some ⟨w.heap.size, 0, none⟩))).run Tryz.prog (((w.alloc (.cells x 31)).alloc (.cells #[.int .u64 0, .int .u64 0, .int .u64 0, .int .u64 0, .int .u64 0, .int .u64 0, .int .u64 0, .int .u64 0] 113)).alloc (.cells #[.int .u64 0, .int .u64 0, .int .u64 0, .int .u64 0, .int .u64 0, .int .u64 0, .int .u64 0, .int .u64 0] 113)) = .ok (.agg x) (((w.alloc (.cells x 31)).alloc (.cells #[.int .u64 0, .int .u64 0, .int .u64 0, .int .u64 0, .int .u64 0, .int .u64 0, .int .u64 0, .int .u64 0] 113)).alloc (.cells #[.int .u64 0, .int .u64 0, .int .u64 0, .int .u64 0, .int .u64 0, .int .u64 0, .int .u64 0, .int .u64 0] 113))) := show _ = _ by rw [HW2.out]; exact HLD2.out
  clear hW2 hp hx hsz hg
  refine (callsIn_wide (n := 9)).1 ?_
  refine callsIn_of_wp_marks Tryz.func54 rfl trivial ?_ rfl
  simp only [Tryz.ntmps54, List.size_toArray, List.length_cons, List.length_nil, Nat.reduceAdd, Nat.reduceSub, Array.replicate_succ, Array.replicate_zero, List.push_toArray, List.append_toArray, List.nil_append, List.cons_append]
  gi_wp2_with fail
  refine wpIn_scope_forward 0 rfl ?_
  gi_wp2_with (refine wpListIn_load_eq rfl 31 _ rfl _ _ rfl HLD1.out ?_)
  rw [HW2.out]
  refine ⟨trivial, ?_⟩
  refine (callsIn_wide.2 (HMK.out W2 HB2.out)).mono ?_
  rintro e w3 ⟨rfl, hb3⟩
  have hz2 := HZ2.out
  have hz3 := hb3.size
  have HB3 : Hid (Below w.heap.size w w3) := show Below _ _ _ from HB2.out.trans (hb3.mono HB2.out.size)
  have HX3 : Hid (Blk w3 w.heap.size 31 x) := show Blk _ _ _ _ from HX2.out.below hb3 (by omega)
  have HM3 : Hid (Blk w3 (w.heap.size + 1) 113 (lnA zeros8)) := show Blk _ _ _ _ from HM2.out.below hb3 (by omega)
  have HR3 : Hid (Blk w3 (w.heap.size + 1 + 1) 113 (lnA zeros8)) := show Blk _ _ _ _ from HR2.out.below hb3 (by omega)
  have HZ3 := Lib.hid hz3
  clear hb3 HW2 HLD2 HLD1 hz3
  obtain ⟨o, ho⟩ : ∃ o, okAll ps x = o := ⟨_, rfl⟩
  have HO := Lib.hid ho
  have HPO : Hid (putOut ps x = if o then wrAll ps x zeros8 else zeros8) := show _ = _ by unfold putOut; rw [ho]
  have HPE : Hid (putErr ps x = if o then 0 else 2) := show _ = _ by unfold putErr; rw [ho]
  rw [ho]
  clear ho
  have HXX : ∀ {q : Nat → Prop} {W W' : World}, Turn q W W' → (∀ k, q k → w.heap.size ≤ k) → Below w.heap.size w W → Below w.heap.size w W' := fun ht hq hb => hb.trans (ht.below hq hb.size)
  cases o with
  | false =>
    obtain ⟨W4, hst, hb4, ht4⟩ := HM3.out.store (P := Tryz.prog) (tt := 113) (Y := lnA zeros8) (by kernel_rfl) rfl (lnA_one _)
    have hlv := hb4.loadVar (tt := 113) Tryz.underlying113 rfl (by kernel_rfl)
    have HST : Hid ((Instr.storeAt 113 (.pointer (some ⟨w.heap.size + 1, 0, none⟩)) (.agg #[.int .u64 0, .int .u64 0, .int .u64 0, .int .u64 0, .int .u64 0, .int .u64 0, .int .u64 0, .int .u64 0])).run Tryz.prog w3 = .ok () W4) := show _ = _ from hst
    have HT4 := Lib.hid ht4
    have HLV := Lib.hid hlv
    clear hst hb4 ht4 hlv
    gi_wp2_with fail
    refine wpIn_goto ?_
    refine ⟨rfl, ?_⟩
    gi_wp2_with (first | (refine wpIn_label ?_) | (refine wpListIn_store_eq rfl 113 _ _ rfl _ _ rfl rfl HST.out ?_))
    rw [Exit.jump_ret]
    refine ⟨.tuple #[.agg (lnA zeros8), .int .i64 2], results_cell_tmp rfl rfl HLV.out rfl, by rw [HPO.out, HPE.out]; rfl, ?_⟩
    exact HXX HT4.out (fun k h => by omega) HB3.out
  | true =>
    gi_wp2_with fail
    refine ⟨trivial, ?_⟩
    refine (callsIn_wide.2 (HPT.out w3)).mono ?_
    rintro e w1 ⟨rfl, hw1⟩
    have hb1 : Below w3.heap.size w3 w1 := by rw [hw1]; exact (Below.refl _ _).alloc (Nat.le_refl _) _
    have hz1 : w1.heap.size = w3.heap.size + 1 := by rw [hw1, World.size_alloc]
    have HB1 : Hid (Below w.heap.size w w1) := show Below _ _ _ from HB3.out.trans (hb1.mono HB3.out.size)
    have hz3 := HZ3.out
    have hx1 := HX3.out.below hb1 (by omega)
    have hm1 := HM3.out.below hb1 (by omega)
    have hr1 := HR3.out.below hb1 (by omega)
    have hs1 : Boxed w1 w3.heap.size 68 (.slice (some ⟨g, 0, none⟩) N c) := by rw [hw1]; exact Boxed.new _ _ _
    have HSQ := Lib.hid ((HVE.out w1 w3.heap.size HB1.out hs1).seqF)
    have HI0 : Hid (PutII w x w.heap.size (w.heap.size + 1 + 1) (w.heap.size + 1) [] (fun _ => False) w1) := show PutII _ _ _ _ _ _ _ _ from ⟨⟨hx1, id⟩, ⟨hr1, id⟩, ⟨hm1, id⟩, ⟨HB1.out, HB1.out.size, fun _ h => h.elim⟩⟩
    have HZ1 := Lib.hid hz1
    clear hs1 hm1 hx1 hr1 hb1 hw1 hz1 HVE
    gi_wp2_with fail
    generalize hA : ({ tmps := _, defers := _ } : Act) = A0
    refine wpIn_range_F (n := 9) (by decide) (gf := 132) (lb := #[.pointer (some ⟨w3.heap.size, 0, none⟩)]) (by rw [← hA]; rfl) (enters_of Tryz.func132 (by kernel_rfl) rfl) HSQ.out
      (fun k hk => by have := HZ1.out; have := HGG.out; rcases hk with rfl | rfl <;> omega) (Below.refl _ _) (fun _ => rfl)
      (PutII w x w.heap.size (w.heap.size + 1 + 1) (w.heap.size + 1)) (fun _ _ _ _ => False) (abides_putI _ _ _ _ _) (fun _ _ _ _ _ _ h _ _ => h) HI0.out
      (PartAxI A0 126 14 7 · (w1.heap.size + 2))
      (fun p a' W o ⟨b, e, hb, h⟩ => ⟨b, e, hb, (World.putObj_heap_other (by omega)).trans h⟩)
      ?assign ?body ?done ?stop
    case assign =>
      rintro l2 p W3 K hsz3 hK
      subst hA
      unfold encPart
      dsimp only
      gi_wp2_with fail
      refine hK _ _ ⟨W3.heap.size, rfl, hsz3, Tri.new _ _ _ _ _⟩ ((Below.refl _ _).alloc (Nat.le_refl _) _)
    case body =>
      rintro l2 pre p a' q2 W3 ⟨⟨hbx, hqx⟩, ⟨hbl, hql⟩, ⟨hbr, hqr⟩, hB⟩ hs2 hqb hsp ⟨b, rfl, hb, ht⟩
      subst hA
      have hmem : p ∈ ps := hsp.subset (by simp)
      have hpt := HP.out W3 hB.1 p hmem
      obtain ⟨-, c1, -, -, -, -⟩ := ht.cells
      have hlb := ht.lt
      have hokp : p.S.ok x = true := by
        have h := HO.out
        unfold okAll at h
        exact (List.all_eq_true.1 h) p hmem
      have HLD := Lib.hid (hbx.load (tt := 31) Tryz.underlying31 rfl (by rw [HSZ.out]; kernel_rfl))
      have HMB := Lib.hid ((HP.out w HBW.out p hmem).write x (wrAll pre x zeros8) (w.heap.size + 1 + 1) W3 HX.out hokp (HLN.out pre ((List.prefix_append _ _).trans hsp) HO.out) hB.1 (by omega) hbl)
      have e0 : ∀ args W, (callFunc p.f1 args).run Tryz.prog W = .ok (.enter p.f1 args) W := hpt.e1
      have HWA : Hid (wrAll (pre ++ [p]) x zeros8 = p.S.wr x (wrAll pre x zeros8)) := show _ = _ by rw [wrAll_append]; rfl
      obtain ⟨F, hF⟩ : ∃ F, p.f1 = F := ⟨_, rfl⟩
      obtain ⟨L, hL⟩ : ∃ L, p.l1 = L := ⟨_, rfl⟩
      unfold PartV.v1 at c1
      rw [hF, hL] at c1
      rw [hF] at e0
      rw [hF, hL] at HMB
      have HBX := Lib.hid hbx
      have HQX := Lib.hid hqx
      have HBR := Lib.hid hbr
      have HQR := Lib.hid hqr
      have HQL := Lib.hid hql
      have HBB := Lib.hid hB
      have HQB := Lib.hid hqb
      clear hpt hmem ht hF hL hbx hqx hbl hql hbr hqr hB hqb hsp hokp
      gi_wp2_with (refine wpListIn_load_eq rfl 31 _ rfl _ _ rfl HLD.out ?_)
      refine ⟨trivial, (CallsIn.inRound l2 (callsIn_wide.2 HMB.out)).mono ?_⟩
      rintro e w5 ⟨⟨u, rfl⟩, hb5, ht5⟩
      have HB5 := Lib.hid hb5
      have HT5 := Lib.hid ht5
      clear hb5 ht5 c1 e0
      gi_wp2_with fail
      refine ⟨⟨HT5.out.size, fun k hk hl => HT5.out.block k hl (fun h => ?_)⟩, ?_⟩
      · have h3 := HZ3.out
        rcases hk with (h2 | h2) | h2
        · have h4 : w.heap.size + 1 + 1 = w3.heap.size := h.symm.trans h2
          omega
        · have h4 : w.heap.size + 1 + 1 = g := h.symm.trans h2
          have := HGG.out
          omega
        · exact HQL.out (by rwa [show k = w.heap.size + 1 + 1 from h] at h2)
      · refine ⟨⟨HBX.out.turn HT5.out (by omega), HQX.out⟩, ⟨by rw [HWA.out]; exact HB5.out, HQL.out⟩, ⟨HBR.out.turn HT5.out (by omega), HQR.out⟩, HXX HT5.out (fun k h => by omega) HBB.out.1, Nat.le_trans HBB.out.2.1 HT5.out.size, HBB.out.2.2⟩
    case done =>
      rintro D ys W3 hD rfl ⟨-, ⟨hbl, hql⟩, ⟨hbr, hqr⟩, hB⟩ hK'
      subst hA
      have HLD := Lib.hid (hbl.load (tt := 113) Tryz.underlying113 rfl (by rw [lnA_size, (HLN.out ys (List.prefix_refl _) HO.out).1]; kernel_rfl))
      obtain ⟨W4, hst, hb4, ht4⟩ := hbr.store (P := Tryz.prog) (tt := 113) (Y := lnA (wrAll ys x zeros8)) (by rw [lnA_size, (HLN.out ys (List.prefix_refl _) HO.out).1]; kernel_rfl) (by rw [lnA_size, lnA_size, (HLN.out ys (List.prefix_refl _) HO.out).1]; rfl) (lnA_one _)
      have hD4 : W4.heap[D]? = some (.deferred (some [])) := (ht4.block D (Array.getElem?_eq_some_iff.1 hK').1 (fun h => hqr h.symm)).trans hK'
      have HST := Lib.hid hst
      have HB4 := Lib.hid hb4
      have HT4 := Lib.hid ht4
      have HBB := Lib.hid hB
      have HDD := Lib.hid hD
      have HK := Lib.hid hD4
      clear hst hb4 ht4 hB hD hD4 hK' hbl hql hbr hqr
      gi_wp2_with (first | (refine wpListIn_load_eq rfl 113 _ rfl _ _ rfl HLD.out ?_) | (refine wpListIn_store_eq rfl 113 _ _ rfl _ _ rfl rfl HST.out ?_))
      rw [Exit.jump_ret]
      refine leaves_one (D := D) HK.out fun W' ht hc => ?_
      have hb5 : Blk W' (w.heap.size + 1) 113 (lnA (wrAll ys x zeros8)) := hc _ _ _ _ HB4.out
      have hlv := hb5.loadVar (tt := 113) Tryz.underlying113 rfl (by rw [lnA_size, (HLN.out ys (List.prefix_refl _) HO.out).1]; kernel_rfl)
      refine ⟨.tuple #[.agg (lnA (wrAll ys x zeros8)), .int .i64 0], results_cell_tmp rfl rfl hlv rfl, by rw [HPO.out, HPE.out]; rfl, ?_⟩
      have h1 := HXX HT4.out (fun k h => by omega) HBB.out.1
      exact h1.trans (ht.below (B := w.heap.size) (fun k h => by have := HDD.out; have := HB1.out.size; omega) h1.size)
    case stop =>
      rintro D cd pre W3 hD hpre h
      exact h.elim
end Go.Proofs.YtaebipopmefkpaaGreatDoor
