/-
  Texts NdMI to NdLE, as one.
-/
import Derived.Test.YtfdnlgmgjmbafaaGreatDoorMh11
/-
  node: GetInode. Written by gen_nd.py.
-/
namespace Go.Proofs.YtfdnlgmgjmbafaaGreatDoor
open Go.RowKit Go.Shelf Go.Sort
attribute [local go_sem] Oper.semAt_some

set_option maxRecDepth 100000 in
set_option maxHeartbeats 4000000 in
theorem getInode_any (l : List Int) (hl : Line8 l) (w : World) (ht : Tabs w) :
    Calls Tryz.prog 28 #[.agg (lnA l)] w fun e w' => e = .returned (.tuple #[.agg ((getSp inodeSpecs l ndZeroI).getD ndZeroI), .int .i64 (getErr (getSp inodeSpecs l ndZeroI))]) ∧ (GoodI 3) ((getSp inodeSpecs l ndZeroI).getD ndZeroI) ∧ Below w.heap.size w w' := by
  obtain ⟨W1, hW1⟩ : ∃ W1, ((w.alloc (.cells (lnA l) 31)).alloc (.cells ndZeroI 26)).drew = W1 := ⟨_, rfl⟩
  have hb1 : Below w.heap.size w W1 := by rw [← hW1]; exact (by repeat (first | exact Below.refl _ _ | assumption | refine Below.drew ?_ | refine below_drewN ?_ _ | refine Below.alloc ?_ (by (try simp) <;> omega) _ | refine Below.setCell ?_ (by (try simp) <;> omega) _ | refine Below.trans ?_ (Below.mono (by assumption) (by (try simp) <;> omega))))
  have hx1 : Blk W1 w.heap.size 31 (lnA l) := by rw [← hW1]; exact (Blk.new w _ _).below (n := w.heap.size + 1) (by refine Below.drew ?_; exact (Below.refl _ _).alloc (by simp) _) (Nat.lt_succ_self _)
  have hr1 : Blk W1 (w.heap.size + 1) 26 ndZeroI := by
    rw [← hW1]
    have h := Blk.new (w.alloc (.cells (lnA l) 31)) 26 ndZeroI
    rwa [World.size_alloc] at h
  have HW1 : Hid (((w.alloc (.cells (lnA l) 31)).alloc (.cells #[.int .i64 0, .int .i64 0, .int .i64 0] 26)).drew = W1) := show _ = _ from hW1
  have HLN := Lib.hid (fun V (ht : Tabs V) => inodeLine_any V ht)
  have HT1 : Hid (Tabs W1) := show Tabs _ from ht.below hb1 ht.room
  have hl8 := hl.1
  have HLD := Lib.hid (fun V (h : Blk V w.heap.size 31 (lnA l)) => h.load (tt := 31) Tryz.underlying31 rfl (by rw [lnA_size, hl8]; kernel_rfl))
  have HX1 := Lib.hid hx1
  have HR1 := Lib.hid hr1
  have HB1 := Lib.hid hb1
  have HL := Lib.hid hl
  have hR : (fun V : World => (Instr.loadAt 31 (.pointer (some ⟨w.heap.size, 0, none⟩))).run Tryz.prog V = .ok (.agg (lnA l)) V) W1 := HLD.out _ hx1
  clear hW1 hb1 hx1 hr1 ht hl hl8
  go_enter Tryz.func28, Tryz.ntmps28
  go_wp2_with fail
  refine wp_region_M 5 (fun V : World => (Instr.loadAt 31 (.pointer (some ⟨w.heap.size, 0, none⟩))).run Tryz.prog V = .ok (.agg (lnA l)) V) (by kernel_rfl) ?_
  rw [HW1.out]
  refine wpAnyM_take2 8 (i := 1) (v := _) rfl (by kernel_rfl) (by kernel_rfl) (fun _ _ _ h => h) (Or.inl ⟨by rfl, fun w hSw => nd_exec_load rfl rfl hSw⟩) hR ?_
  (try simp only [put_laws])
  (refine wpAnyM_one (i := 0) rfl (by kernel_rfl) (fun K hK => ?_); rw [if_pos (by rfl)]; (try simp only [elem_laws]))
  go_simp
  refine (HLN.out W1 HT1.out).mono ?_
  rintro e w2 ⟨v, ps, rfl, hb2, hk2, hp2, hs2⟩
  have hx2 := HX1.out.below hb2 HX1.out.lt
  have hr2 := HR1.out.below hb2 HR1.out.lt
  have hR2 : (fun V : World => (Instr.loadAt 31 (.pointer (some ⟨w.heap.size, 0, none⟩))).run Tryz.prog V = .ok (.agg (lnA l)) V) w2 := HLD.out _ hx2
  refine hK _ _ (fun _ => hR2) ?_
  clear hK K hR
  have hgz : (GoodI 3) ndZeroI := goodI_zero3
  have HPK := Lib.hid (getK_I l HL.out hgz (fun x h => ⟨h.1, goodI_one h⟩) w2 hk2 hp2)
  have hgg : (GoodI 3) ((getSp inodeSpecs l ndZeroI).getD ndZeroI) := by
    unfold getSp
    rw [← hs2, ← rd_sp]
    cases hr : rdAll l ps ndZeroI with
    | none => exact hgz
    | some y =>
      have hy := rdAll_good HL.out ps ndZeroI y hp2 hgz hr
      simp only [Option.bind_some]
      split
      · exact hy
      · exact hgz
  rw [get_sp, hs2] at HPK
  have HG := Lib.hid hgg
  have HX2 := Lib.hid hx2
  have HR2 := Lib.hid hr2
  have HB2 := Lib.hid (HB1.out.trans (hb2.mono HB1.out.size))
  clear hb2 hk2 hp2 hs2 hx2 hr2 hgg hgz
  obtain ⟨O, hO⟩ : ∃ O, (getSp inodeSpecs l ndZeroI).getD ndZeroI = O := ⟨_, rfl⟩
  obtain ⟨E, hE⟩ : ∃ E, getErr (getSp inodeSpecs l ndZeroI) = E := ⟨_, rfl⟩
  have HO := Lib.hid hO
  have HE := Lib.hid hE
  rw [hO, hE] at HPK
  rw [hO] at HG
  clear hO hE
  (try simp only [put_laws])
  (refine wpAnyM_one (i := 2) rfl (by kernel_rfl) (fun K hK => ?_); rw [if_pos (by rfl)]; (try simp only [elem_laws]))
  go_simp
  refine HPK.out.mono ?_
  rintro e w3 ⟨rfl, hb3⟩
  have hx3 := HX2.out.below hb3 HX2.out.lt
  have hr3 := HR2.out.below hb3 HR2.out.lt
  have hR3 : (fun V : World => (Instr.loadAt 31 (.pointer (some ⟨w.heap.size, 0, none⟩))).run Tryz.prog V = .ok (.agg (lnA l)) V) w3 := HLD.out _ hx3
  refine hK _ _ (fun _ => hR3) ?_
  clear hK K hR2
  have hR := hR3
  clear hR3
  have HR3 := Lib.hid hr3
  have HB3 := Lib.hid (HB2.out.trans (hb3.mono HB2.out.size))
  clear hb3 hx3 hr3
  (try simp only [put_laws])
  (refine wpAnyM_take2 8 (i := 3) (v := ?_) rfl (by kernel_rfl) (by kernel_rfl) (fun _ _ _ h => h) (Or.inl ⟨by rfl, ?_⟩) hR ?_; rotate_left; (focus (intro w hSw; (try dsimp only at hSw); go_simp; (try with_reducible rfl))); (try simp only [put_laws])); (refine wpAnyM_take2 8 (i := 4) (v := ?_) rfl (by kernel_rfl) (by kernel_rfl) (fun _ _ _ h => h) (Or.inl ⟨by rfl, ?_⟩) hR ?_; rotate_left; (focus (intro w hSw; (try dsimp only at hSw); go_simp; (try with_reducible rfl))); (try simp only [put_laws]))
  (refine wpAnyM_last rfl (by kernel_rfl) (fun K hK => ?_); rw [if_pos (by rfl)]; (try simp only [elem_laws]))
  clear hR
  have hos := HG.out.1
  have ho1 : O.all (·.oneCell') = true := by have h := HG.out; exact goodI_one h
  obtain ⟨W4, hst, hr4, ht4⟩ := HR3.out.store (P := Tryz.prog) (tt := 26) (Y := O) (by rw [hos]; kernel_rfl) (by rw [hos]; rfl) ho1
  refine nd_store_eq 26 _ _ rfl _ _ rfl rfl hst ?_
  refine hK _ _ ?_
  clear hK K
  (try simp only [put_laws])
  (refine wpAnyM_one (i := 6) rfl (by kernel_rfl) (fun K hK => ?_); rw [if_pos (by rfl)]; (try simp only [elem_laws]))
  go_simp
  refine hK _ _ (fun h => by cases h) ?_
  clear hK K
  (try simp only [put_laws])
  refine wpAnyM_done (by kernel_rfl) ?_ _
  have HR4 := Lib.hid hr4
  have HT4 := Lib.hid ht4
  have HOS := Lib.hid hos
  clear hst hr4 ht4 ho1 hos
  go_wp2_with fail
  exact bodyPost_ret (results_cell_tmp (fn := Tryz.f28) rfl rfl (HR4.out.loadVar (tt := 26) Tryz.underlying26 rfl (by rw [HOS.out]; kernel_rfl)) rfl) rfl ⟨by rw [HO.out, HE.out]; rfl, by rw [HO.out]; exact HG.out, HB3.out.trans (HT4.out.below (B := w.heap.size) (fun k h => by omega) HB3.out.size)⟩
end Go.Proofs.YtfdnlgmgjmbafaaGreatDoor

/-
  node: a name written and read.
-/
namespace Go.Proofs.YtfdnlgmgjmbafaaGreatDoor
open Go.RowKit Go.Shelf Go.Sort
attribute [local go_sem] Oper.semAt_some

theorem namedMay (w : World) (x : Array Value) (s : List UInt8) (hs : x[2]? = some (encStr s)) : Calls Tryz.prog 129 #[.agg x] w fun e w' => e = .returned (.bool (rightN s)) ∧ Below w.heap.size w w' := by
  have HC := Lib.hid (fun V => laCheck_any s V)
  have hb1 : Below w.heap.size w (w.alloc (.cells x 49)) := (by repeat (first | exact Below.refl _ _ | assumption | refine Below.drew ?_ | refine below_drewN ?_ _ | refine Below.alloc ?_ (by (try simp) <;> omega) _ | refine Below.setCell ?_ (by (try simp) <;> omega) _ | refine Below.trans ?_ (Below.mono (by assumption) (by (try simp) <;> omega))))
  have c2 := (Blk.new w 49 x).cell hs
  have HB1 := Lib.hid hb1
  obtain ⟨r, hr⟩ : ∃ r, rightN s = r := ⟨_, rfl⟩
  have he : errN s = if r then 0 else 160 := by unfold errN; rw [hr]
  rw [he] at HC
  rw [hr]
  clear hs hb1 hr he
  cases r with
  | false =>
    go_enter Tryz.func129, Tryz.ntmps129
    go_wp2_with fail
    refine (HC.out _).mono ?_
    rintro e w2 ⟨rfl, hb2⟩
    have HB2 := Lib.hid (HB1.out.trans (hb2.mono HB1.out.size))
    clear hb2 c2
    go_wp2_with fail
    go_ret
    exact ⟨rfl, HB2.out⟩
  | true =>
    go_enter Tryz.func129, Tryz.ntmps129
    go_wp2_with fail
    refine (HC.out _).mono ?_
    rintro e w2 ⟨rfl, hb2⟩
    have HB2 := Lib.hid (HB1.out.trans (hb2.mono HB1.out.size))
    clear hb2 c2
    go_wp2_with fail
    go_ret
    exact ⟨rfl, HB2.out⟩
set_option maxRecDepth 100000 in
set_option maxHeartbeats 4000000 in
theorem namedWrite (w : World) (x : Array Value) (s : List UInt8) (hs : x[2]? = some (encStr s)) (hr : rightN s = true) (b : Nat) (l : List Int) (hl : Line8 l) (hb : Blk w b 84 (lnA l)) :
    Calls Tryz.prog 131 #[.agg x, .pointer (some ⟨b, 0, none⟩)] w fun e w' => (∃ u, e = .returned u) ∧ Blk w' b 84 (lnA ((l.set 2 (s.length : Nat)).take 3 ++ fiveI s)) ∧ Turn (fun k => k = b) w w' := by
  have hls : s.length ≤ 40 := by
    unfold rightN at hr
    simp only [Bool.and_eq_true, decide_eq_true_eq] at hr
    exact hr.1.1.1.2
  have hwo : wordsOut s = wordsN s := by unfold wordsOut; rw [hr]; rfl
  have heo : errN s = 0 := by unfold errN; rw [hr]; rfl
  have HC := Lib.hid (fun V => laWords_any s V)
  rw [hwo, heo, ← lnA_five] at HC
  have hb1 : Below w.heap.size w (w.alloc (.cells x 49)) := (by repeat (first | exact Below.refl _ _ | assumption | refine Below.drew ?_ | refine below_drewN ?_ _ | refine Below.alloc ?_ (by (try simp) <;> omega) _ | refine Below.setCell ?_ (by (try simp) <;> omega) _ | refine Below.trans ?_ (Below.mono (by assumption) (by (try simp) <;> omega))))
  have hx1 := Blk.new w 49 x
  have c2 := hx1.cell hs
  have HB1 := Lib.hid hb1
  have HX1 := Lib.hid hx1
  have HL1 := Lib.hid (hb.below hb1 hb.lt)
  have HS := Lib.hid hs
  have HLB := Lib.hid hb.lt
  have HL8 := Lib.hid hl.1
  have wl : IntKind.u64.wrap ((s.length : Nat) : Int) = ((s.length : Nat) : Int) := by simp [IntKind.wrap, IntKind.bits, IntKind.signed]; omega
  obtain ⟨F, hF⟩ : ∃ F, fiveI s = F := ⟨_, rfl⟩
  have hFl : F.length = 5 := by rw [← hF]; exact fiveI_length s
  rw [hF] at HC ⊢
  have HFL := Lib.hid hFl
  obtain ⟨S, hS⟩ : ∃ S, encStr s = S := ⟨_, rfl⟩
  clear hs hb1 hx1 hb hl hr hwo heo hF hFl hls hS
  go_enter Tryz.func131, Tryz.ntmps131
  go_wp2_with fail
  refine (HC.out _).mono ?_
  rintro e w2 ⟨rfl, hb2⟩
  obtain ⟨W3, hW3⟩ : ∃ W3, w2.alloc (.cells (lnA F) 114) = W3 := ⟨_, rfl⟩
  have HST : Hid ((Instr.storeAt 114 (.pointer (some ⟨w2.heap.size, 0, none⟩)) (.agg (lnA F))).run Tryz.prog (w2.alloc (.cells #[.int .u64 0, .int .u64 0, .int .u64 0, .int .u64 0, .int .u64 0] 114)) = .ok () W3) := show _ = _ by
    rw [← hW3]
    exact run_storeAt_new w2 114 _ (lnA F) (by rw [lnA_size, HFL.out]; kernel_rfl) (by rw [lnA_size, HFL.out]; rfl) (lnA_one _)
  have hb3 : Below w2.heap.size w2 W3 := by rw [← hW3]; exact (by repeat (first | exact Below.refl _ _ | assumption | refine Below.drew ?_ | refine below_drewN ?_ _ | refine Below.alloc ?_ (by (try simp) <;> omega) _ | refine Below.setCell ?_ (by (try simp) <;> omega) _ | refine Below.trans ?_ (Below.mono (by assumption) (by (try simp) <;> omega))))
  have hf3 : Blk W3 w2.heap.size 114 (lnA F) := by rw [← hW3]; exact Blk.new _ _ _
  have hb23 := hb2.trans (hb3.mono hb2.size)
  have HB3 := Lib.hid (HB1.out.trans (hb23.mono HB1.out.size))
  have HF3 := Lib.hid hf3
  have HX3 := Lib.hid (HX1.out.below hb23 HX1.out.lt)
  have HL3 := Lib.hid (HL1.out.below hb23 HL1.out.lt)
  have hlb2 := HLB.out
  have hz2 : w.heap.size + 1 ≤ w2.heap.size := by have := hb2.size; simpa using this
  have HZ2 := Lib.hid hz2
  clear hb2 hb3 hf3 hb23 hW3 c2 hlb2 hz2
  go_wp2_with (refine ndList_store rfl 114 _ _ rfl _ _ rfl rfl HST.out ?_)
  obtain ⟨W4, hW4⟩ : ∃ W4, W3.drew = W4 := ⟨_, rfl⟩
  have hb4 : Below W3.heap.size W3 W4 := by rw [← hW4]; exact (by repeat (first | exact Below.refl _ _ | assumption | refine Below.drew ?_ | refine below_drewN ?_ _ | refine Below.alloc ?_ (by (try simp) <;> omega) _ | refine Below.setCell ?_ (by (try simp) <;> omega) _ | refine Below.trans ?_ (Below.mono (by assumption) (by (try simp) <;> omega))))
  have hx4 := HX3.out.below hb4 HX3.out.lt
  have hl4 := HL3.out.below hb4 HL3.out.lt
  have HF4 := Lib.hid (HF3.out.below hb4 HF3.out.lt)
  have HB4 := Lib.hid (HB3.out.trans (hb4.mono HB3.out.size))
  have hR : (fun W : World => W.cell? ⟨w.heap.size, 2, none⟩ = some (encStr s)) W4 := hx4.cell HS.out
  have cl := hl4.cell (lnA_at l 2 (by rw [HL8.out]; decide))
  have fl := hl4.frozen 2
  have ll := hl4.lt
  have HL4 := Lib.hid hl4
  clear hb4 hx4 hl4
  refine wp_region_M 7 (fun W : World => W.cell? ⟨w.heap.size, 2, none⟩ = some (encStr s)) (by kernel_rfl) ?_
  rw [hW4]
  clear hW4
  (refine wpAnyM_take2 8 (i := 0) (v := ?_) rfl (by kernel_rfl) (by kernel_rfl) (fun _ _ _ h => h) (Or.inl ⟨by rfl, ?_⟩) hR ?_; rotate_left; (focus (intro w hSw; (try dsimp only at hSw); go_simp; (try with_reducible rfl))); (try simp only [put_laws])); (refine wpAnyM_take2 8 (i := 1) (v := ?_) rfl (by kernel_rfl) (by kernel_rfl) (fun _ _ _ h => h) (Or.inl ⟨by rfl, ?_⟩) hR ?_; rotate_left; (focus (intro w hSw; (try dsimp only at hSw); go_simp; (try with_reducible rfl))); (try simp only [put_laws])); (refine wpAnyM_take2 8 (i := 2) (v := ?_) rfl (by kernel_rfl) (by kernel_rfl) (fun _ _ _ h => h) (Or.inl ⟨by rfl, ?_⟩) hR ?_; rotate_left; (focus (intro w hSw; (try dsimp only at hSw); go_simp; (try with_reducible rfl))); (try simp only [put_laws])); (refine wpAnyM_take2 8 (i := 3) (v := ?_) rfl (by kernel_rfl) (by kernel_rfl) (fun _ _ _ h => h) (Or.inl ⟨by rfl, ?_⟩) hR ?_; rotate_left; (focus (intro w hSw; (try dsimp only at hSw); go_simp; (try with_reducible rfl))); (try simp only [put_laws])); (refine wpAnyM_take2 8 (i := 4) (v := ?_) rfl (by kernel_rfl) (by kernel_rfl) (fun _ _ _ h => h) (Or.inl ⟨by rfl, ?_⟩) hR ?_; rotate_left; (focus (intro w hSw; (try dsimp only at hSw); go_simp; (try with_reducible rfl))); (try simp only [put_laws])); (refine wpAnyM_take2 8 (i := 5) (v := ?_) rfl (by kernel_rfl) (by kernel_rfl) (fun _ _ _ h => h) (Or.inl ⟨by rfl, ?_⟩) hR ?_; rotate_left; (focus (intro w hSw; (try dsimp only at hSw); go_simp; (try with_reducible rfl))); (try simp only [put_laws])); (refine wpAnyM_take2 8 (i := 6) (v := ?_) rfl (by kernel_rfl) (by kernel_rfl) (fun _ _ _ h => h) (Or.inl ⟨by rfl, ?_⟩) hR ?_; rotate_left; (focus (intro w hSw; (try dsimp only at hSw); go_simp; (try with_reducible rfl))); (try simp only [put_laws]))
  (refine wpAnyM_last rfl (by kernel_rfl) (fun K hK => ?_); rw [if_pos (by rfl)]; (try simp only [elem_laws]))
  clear hR
  go_simp
  refine hK _ _ ?_
  clear hK K
  (try simp only [put_laws])
  refine wpAnyM_done (by kernel_rfl) ?_ _
  obtain ⟨W5, hW5⟩ : ∃ W5, (W4.setCell ⟨b, 2, none⟩ (.int .u64 ((s.length : Nat) : Int))).drew = W5 := ⟨_, rfl⟩
  have hl5 : Blk W5 b 84 (lnA (l.set 2 ((s.length : Nat) : Int))) := by
    rw [← hW5, ← lnA_set]
    exact HL4.out.set 2 _
  have ht5 : Turn (fun k => k = b) W4 W5 := by rw [← hW5]; exact (Turn.setCell (q := fun k => k = b) W4 _ rfl).trans (Turn.of_below (Below.drew (Below.refl _ _)) (Nat.le_refl _))
  have hlb := HLB.out
  have hz2 := HZ2.out
  have hf5 := HF4.out.turn ht5 (by omega)
  have hcp := fun ty => blk_copy hl5 hf5 (o := 3) (s := 0) (n := 5) (by rw [List.length_set, HL8.out]; decide) (by rw [HFL.out]; decide) 5 5 ty
  have HTT := Lib.hid ((Turn.of_below HB4.out (Nat.le_refl _) : Turn (fun k => k = b) w W4).trans ht5)
  have HCP := Lib.hid hcp
  clear hl5 ht5 hf5 hcp cl fl ll
  go_wp2_with fail
  have hR : (fun _ : World => True) W5 := trivial
  refine wp_region_M 4 (fun _ : World => True) (by kernel_rfl) ?_
  rw [hW5]
  clear hW5
  (refine wpAnyM_take2 8 (i := 0) (v := ?_) rfl (by kernel_rfl) (by kernel_rfl) (fun _ _ _ h => h) (Or.inl ⟨by rfl, ?_⟩) hR ?_; rotate_left; (focus (intro w hSw; (try dsimp only at hSw); go_simp; (try with_reducible rfl))); (try simp only [put_laws])); (refine wpAnyM_take2 8 (i := 1) (v := ?_) rfl (by kernel_rfl) (by kernel_rfl) (fun _ _ _ h => h) (Or.inl ⟨by rfl, ?_⟩) hR ?_; rotate_left; (focus (intro w hSw; (try dsimp only at hSw); go_simp; (try with_reducible rfl))); (try simp only [put_laws])); (refine wpAnyM_take2 8 (i := 2) (v := ?_) rfl (by kernel_rfl) (by kernel_rfl) (fun _ _ _ h => h) (Or.inl ⟨by rfl, ?_⟩) hR ?_; rotate_left; (focus (intro w hSw; (try dsimp only at hSw); go_simp; (try with_reducible rfl))); (try simp only [put_laws])); (refine wpAnyM_take2 8 (i := 3) (v := ?_) rfl (by kernel_rfl) (by kernel_rfl) (fun _ _ _ h => h) (Or.inl ⟨by rfl, ?_⟩) hR ?_; rotate_left; (focus (intro w hSw; (try dsimp only at hSw); go_simp; (try with_reducible rfl))); (try simp only [put_laws]))
  (refine wpAnyM_last rfl (by kernel_rfl) (fun K hK => ?_); rw [if_pos (by rfl)]; (try simp only [elem_laws]))
  clear hR
  obtain ⟨W6, hrun, hl6, ht6⟩ := HCP.out 3
  refine nd_copy_eq _ _ _ rfl _ _ _ rfl rfl hrun ?_
  refine hK _ _ ?_
  clear hK K
  (try simp only [put_laws])
  refine wpAnyM_done (by kernel_rfl) ?_ _
  have HL6 := Lib.hid hl6
  have HT6 := Lib.hid (HTT.out.trans ht6)
  clear hrun hl6 ht6
  go_wp2_with fail
  first
  | go_end0
  | refine bodyPost_ret (results_none rfl _ _ _) rfl ?_
  refine ⟨⟨_, rfl⟩, ?_, HT6.out⟩
  have h := HL6.out
  rw [List.drop_zero, List.take_of_length_le (l := F) (by rw [HFL.out]; decide), List.drop_of_length_le (by rw [List.length_set, HL8.out]; decide), List.append_nil] at h
  exact h
theorem Turn.narrow {q q' : Nat → Prop} {A B : World} (h : Turn q A B) (hq : ∀ k, k < A.heap.size → q k → q' k) : Turn q' A B := ⟨h.os, h.tape, h.output, h.size, fun i hi hn => h.block i hi fun hk => hn (hq i hi hk)⟩
theorem arr5_lnA (m : List Int) (hm : m.length = 5) (h : ∀ x ∈ m, 0 ≤ x) : lnA m = arr5 (m.map Int.toNat) := by
  match m, hm with
  | [a, b, c, d, e], _ =>
    have ha := h a (by simp)
    have hb := h b (by simp)
    have hc := h c (by simp)
    have hd := h d (by simp)
    have he := h e (by simp)
    simp [lnA, arr5]
    omega
theorem nat5_length {l : List Int} (hl : Line8 l) : (nat5 l).length = 5 := by simp [nat5, hl.1]
theorem nat5_64 {l : List Int} (hl : Line8 l) : Words64 (nat5 l) := fun i => by
  unfold nat5
  by_cases h : i < 5
  · have hlt : 3 + i < l.length := by rw [hl.1]; omega
    rw [List.getElem?_map, List.getElem?_drop, List.getElem?_eq_getElem hlt, Option.map_some, Option.getD_some]
    have := hl.2 _ (List.getElem_mem hlt)
    omega
  · rw [List.getElem?_eq_none (by simp [hl.1]; omega)]
    decide
set_option maxRecDepth 100000 in
set_option maxHeartbeats 4000000 in
theorem namedRead (w : World) (x : Array Value) (s0 : List UInt8) (hs : x[2]? = some (encStr s0)) (b : Nat) (l : List Int) (hl : Line8 l) (hb : Blk w b 49 x) :
    Calls Tryz.prog 133 #[.agg (lnA l), .pointer (some ⟨b, 0, none⟩)] w fun e w' => Turn (fun k => k = b) w w' ∧
      ((∃ u y, e = .returned u ∧ namedS.rd l x = some y ∧ Blk w' b 49 y) ∨ (e = .panicked noLine ∧ namedS.rd l x = none ∧ Blk w' b 49 x)) := by
  have h2l : 2 < l.length := by rw [hl.1]; decide
  obtain ⟨y, hy⟩ : ∃ y, l[2]?.getD 0 = y := ⟨_, rfl⟩
  have hy0 : 0 ≤ y := by
    rw [← hy, List.getElem?_eq_getElem h2l, Option.getD_some]
    exact (hl.2 _ (List.getElem_mem h2l)).1
  have HRD : Hid (namedS.rd l x = if y ≤ 1024 ∧ isRead (nat5 l) y = true then some (x.setIfInBounds 2 (encStr (readN (nat5 l) y))) else none) := show _ = _ by rw [← hy]; rfl
  have h5 : (l.drop 3).length = 5 := by rw [List.length_drop, hl.1]
  have harr : lnA (l.drop 3) = arr5 (nat5 l) := arr5_lnA _ h5 (fun z hz => (hl.2 z (List.mem_of_mem_drop hz)).1)
  have HRE := Lib.hid (fun V => laRead_any (nat5 l) (nat5_length hl) (nat5_64 hl) y V)
  rw [← harr] at HRE
  have HNU := Lib.hid (fun V => number_anyN y hy0 V)
  have hb1 : Below w.heap.size w (w.alloc (.cells (lnA l) 84)) := (by repeat (first | exact Below.refl _ _ | assumption | refine Below.drew ?_ | refine below_drewN ?_ _ | refine Below.alloc ?_ (by (try simp) <;> omega) _ | refine Below.setCell ?_ (by (try simp) <;> omega) _ | refine Below.trans ?_ (Below.mono (by assumption) (by (try simp) <;> omega))))
  obtain ⟨W1, hW1⟩ : ∃ W1, ((w.alloc (.cells (lnA l) 84)).alloc (.cells (lnA [0, 0, 0, 0, 0]) 114)).drew = W1 := ⟨_, rfl⟩
  have hb1 : Below w.heap.size w W1 := by rw [← hW1]; exact (by repeat (first | exact Below.refl _ _ | assumption | refine Below.drew ?_ | refine below_drewN ?_ _ | refine Below.alloc ?_ (by (try simp) <;> omega) _ | refine Below.setCell ?_ (by (try simp) <;> omega) _ | refine Below.trans ?_ (Below.mono (by assumption) (by (try simp) <;> omega))))
  have hl1 : Blk W1 w.heap.size 84 (lnA l) := by rw [← hW1]; exact (Blk.new w _ _).below (n := w.heap.size + 1) (by refine Below.drew ?_; exact (Below.refl _ _).alloc (by simp) _) (Nat.lt_succ_self _)
  have hf1 : Blk W1 (w.heap.size + 1) 114 (lnA [0, 0, 0, 0, 0]) := by
    rw [← hW1]
    have h := Blk.new (w.alloc (.cells (lnA l) 84)) 114 (lnA [0, 0, 0, 0, 0])
    rwa [World.size_alloc] at h
  have HX1 := Lib.hid (hb.below hb1 hb.lt)
  have HCP := Lib.hid (fun ty => blk_copy hf1 hl1 (o := 0) (s := 3) (n := 5) (by decide) (by rw [hl.1]; decide) 5 5 ty)
  have HW1 : Hid (((w.alloc (.cells (lnA l) 84)).alloc (.cells #[.int .u64 0, .int .u64 0, .int .u64 0, .int .u64 0, .int .u64 0] 114)).drew = W1) := show _ = _ from hW1
  have HB1 := Lib.hid hb1
  have HL1 := Lib.hid hl1
  have HL8 := Lib.hid hl.1
  have HLB := Lib.hid hb.lt
  have HS0 := Lib.hid hs
  have H5 := Lib.hid h5
  have HAR := Lib.hid harr
  have HY := Lib.hid hy
  obtain ⟨F, hF⟩ : ∃ F, l.drop 3 = F := ⟨_, rfl⟩
  have HF := Lib.hid hF
  rw [hF] at HRE
  obtain ⟨rok, hrok⟩ : ∃ rok, isRead (nat5 l) y = rok := ⟨_, rfl⟩
  obtain ⟨rs, hrs⟩ : ∃ rs, readN (nat5 l) y = rs := ⟨_, rfl⟩
  rw [hrok, hrs] at HRD HRE
  clear hW1 hb1 hl1 hf1 hb hl hs h5 harr hy hF hrok hrs h2l
  have hR : (fun _ : World => True) W1 := trivial
  go_enter Tryz.func133, Tryz.ntmps133
  go_wp2_with fail
  refine wp_region_M 2 (fun _ : World => True) (by kernel_rfl) ?_
  rw [HW1.out]
  (refine wpAnyM_take2 8 (i := 0) (v := ?_) rfl (by kernel_rfl) (by kernel_rfl) (fun _ _ _ h => h) (Or.inl ⟨by rfl, ?_⟩) hR ?_; rotate_left; (focus (intro w hSw; (try dsimp only at hSw); go_simp; (try with_reducible rfl))); (try simp only [put_laws])); (refine wpAnyM_take2 8 (i := 1) (v := ?_) rfl (by kernel_rfl) (by kernel_rfl) (fun _ _ _ h => h) (Or.inl ⟨by rfl, ?_⟩) hR ?_; rotate_left; (focus (intro w hSw; (try dsimp only at hSw); go_simp; (try with_reducible rfl))); (try simp only [put_laws]))
  (refine wpAnyM_last rfl (by kernel_rfl) (fun K hK => ?_); rw [if_pos (by rfl)]; (try simp only [elem_laws]))
  clear hR
  obtain ⟨W2, hrun, hf2, ht2⟩ := HCP.out 3
  refine nd_copy_eq _ _ _ rfl _ _ _ rfl rfl hrun ?_
  refine hK _ _ ?_
  clear hK K
  (try simp only [put_laws])
  refine wpAnyM_done (by kernel_rfl) ?_ _
  rw [List.take_zero, List.nil_append, HF.out, List.take_of_length_le (by rw [← HF.out, H5.out]; decide), List.drop_of_length_le (by decide), List.append_nil] at hf2
  obtain ⟨W3, hW3⟩ : ∃ W3, W2.drew = W3 := ⟨_, rfl⟩
  have hb3 : Below W2.heap.size W2 W3 := by rw [← hW3]; exact (by repeat (first | exact Below.refl _ _ | assumption | refine Below.drew ?_ | refine below_drewN ?_ _ | refine Below.alloc ?_ (by (try simp) <;> omega) _ | refine Below.setCell ?_ (by (try simp) <;> omega) _ | refine Below.trans ?_ (Below.mono (by assumption) (by (try simp) <;> omega))))
  have HT3 := Lib.hid (((Turn.of_below HB1.out (Nat.le_refl _) : Turn (fun k => k = w.heap.size + 1) w W1).trans ht2).trans (Turn.of_below hb3 (Nat.le_refl _)))
  have hf3 := hf2.below hb3 hf2.lt
  have hl3 := (HL1.out.turn ht2 (by omega)).below hb3 (Nat.lt_of_lt_of_le HL1.out.lt ht2.size)
  have hlb := HLB.out
  have HX3 := Lib.hid ((HX1.out.turn ht2 (by omega)).below hb3 (Nat.lt_of_lt_of_le HX1.out.lt ht2.size))
  have HLF := Lib.hid (hf3.load (tt := 114) Tryz.underlying114 rfl (by rw [lnA_size, ← HF.out, H5.out]; kernel_rfl))
  have c2 := hl3.cell (lnA_at l 2 (by rw [HL8.out]; decide))
  rw [HY.out] at c2
  have HF3 := Lib.hid hf3
  have HL3 := Lib.hid hl3
  have HW3 := Lib.hid hW3
  clear hrun hf2 ht2 hb3 hf3 hl3 HCP HX1 hW3
  go_wp2_with fail
  obtain ⟨W4, hW4⟩ : ∃ W4, W2.drew = W4 := ⟨_, rfl⟩
  have hb4 : Below W3.heap.size W3 W4 := by rw [← hW4, HW3.out]; exact Below.refl _ _
  have hR : (fun W : World => (Instr.loadAt 114 (.pointer (some ⟨w.heap.size + 1, 0, none⟩))).run Tryz.prog W = .ok (.agg (lnA F)) W ∧ W.cell? ⟨w.heap.size, 2, none⟩ = some (.int .u64 y)) W4 :=
    ⟨(HF3.out.below hb4 HF3.out.lt).load (tt := 114) Tryz.underlying114 rfl (by rw [lnA_size, ← HF.out, H5.out]; kernel_rfl), (hb4.cell (p := ⟨w.heap.size, 2, none⟩) HL3.out.lt).trans c2⟩
  have HX4 := Lib.hid (HX3.out.below hb4 HX3.out.lt)
  have HT4 := Lib.hid (HT3.out.trans (Turn.of_below hb4 (Nat.le_refl _)))
  have HF4 := Lib.hid (HF3.out.below hb4 HF3.out.lt)
  have HL4 := Lib.hid (HL3.out.below hb4 HL3.out.lt)
  clear hb4 c2
  refine wp_region_M 9 (fun W : World => (Instr.loadAt 114 (.pointer (some ⟨w.heap.size + 1, 0, none⟩))).run Tryz.prog W = .ok (.agg (lnA F)) W ∧ W.cell? ⟨w.heap.size, 2, none⟩ = some (.int .u64 y)) (by kernel_rfl) ?_
  rw [hW4]
  clear hW4
  refine wpAnyM_take2 8 (i := 0) (v := _) rfl (by kernel_rfl) (by kernel_rfl) (fun _ _ _ h => h) (Or.inl ⟨by rfl, fun w hSw => nd_exec_load rfl rfl hSw.1⟩) hR ?_
  (try simp only [put_laws])
  (refine wpAnyM_take2 8 (i := 1) (v := ?_) rfl (by kernel_rfl) (by kernel_rfl) (fun _ _ _ h => h) (Or.inl ⟨by rfl, ?_⟩) hR ?_; rotate_left; (focus (intro w hSw; (try dsimp only at hSw); go_simp; (try with_reducible rfl))); (try simp only [put_laws])); (refine wpAnyM_take2 8 (i := 2) (v := ?_) rfl (by kernel_rfl) (by kernel_rfl) (fun _ _ _ h => h) (Or.inl ⟨by rfl, ?_⟩) hR ?_; rotate_left; (focus (intro w hSw; (try dsimp only at hSw); go_simp; (try with_reducible rfl))); (try simp only [put_laws]))
  (refine wpAnyM_one (i := 3) rfl (by kernel_rfl) (fun K hK => ?_); rw [if_pos (by rfl)]; (try simp only [elem_laws]))
  go_simp
  refine (HNU.out W4).mono ?_
  rintro e w5 ⟨rfl, ⟨hle, rfl⟩ | ⟨hgt, rfl⟩⟩
  · have HLE := Lib.hid hle
    clear hle
    refine hK _ _ (fun _ => hR) ?_
    clear hK K
    (try simp only [put_laws])
    (refine wpAnyM_one (i := 4) rfl (by kernel_rfl) (fun K hK => ?_); rw [if_pos (by rfl)]; (try simp only [elem_laws]))
    go_simp
    refine (HRE.out w5).mono ?_
    rintro e w6 ⟨rfl, hb6⟩
    have hR6 : (fun W : World => (Instr.loadAt 114 (.pointer (some ⟨w.heap.size + 1, 0, none⟩))).run Tryz.prog W = .ok (.agg (lnA F)) W ∧ W.cell? ⟨w.heap.size, 2, none⟩ = some (.int .u64 y)) w6 :=
      ⟨(HF4.out.below hb6 HF4.out.lt).load (tt := 114) Tryz.underlying114 rfl (by rw [lnA_size, ← HF.out, H5.out]; kernel_rfl), (hb6.cell (p := ⟨w.heap.size, 2, none⟩) HL4.out.lt).trans hR.2⟩
    refine hK _ _ (fun _ => hR6) ?_
    clear hK K hR
    have hR := hR6
    clear hR6
    (try simp only [put_laws])
    (refine wpAnyM_take2 8 (i := 5) (v := ?_) rfl (by kernel_rfl) (by kernel_rfl) (fun _ _ _ h => h) (Or.inl ⟨by rfl, ?_⟩) hR ?_; rotate_left; (focus (intro w hSw; (try dsimp only at hSw); go_simp; (try with_reducible rfl))); (try simp only [put_laws])); (refine wpAnyM_take2 8 (i := 6) (v := ?_) rfl (by kernel_rfl) (by kernel_rfl) (fun _ _ _ h => h) (Or.inl ⟨by rfl, ?_⟩) hR ?_; rotate_left; (focus (intro w hSw; (try dsimp only at hSw); go_simp; (try with_reducible rfl))); (try simp only [put_laws])); (refine wpAnyM_take2 8 (i := 7) (v := ?_) rfl (by kernel_rfl) (by kernel_rfl) (fun _ _ _ h => h) (Or.inl ⟨by rfl, ?_⟩) hR ?_; rotate_left; (focus (intro w hSw; (try dsimp only at hSw); go_simp; (try with_reducible rfl))); (try simp only [put_laws])); (refine wpAnyM_take2 8 (i := 8) (v := ?_) rfl (by kernel_rfl) (by kernel_rfl) (fun _ _ _ h => h) (Or.inl ⟨by rfl, ?_⟩) hR ?_; rotate_left; (focus (intro w hSw; (try dsimp only at hSw); go_simp; (try with_reducible rfl))); (try simp only [put_laws]))
    (refine wpAnyM_last rfl (by kernel_rfl) (fun K hK => ?_); rw [if_pos (by rfl)]; (try simp only [elem_laws]))
    clear hR
    go_simp
    refine hK _ _ ?_
    clear hK K
    (try simp only [put_laws])
    refine wpAnyM_done (by kernel_rfl) ?_ _
    have hx6 := HX4.out.below hb6 HX4.out.lt
    have HT6 := Lib.hid (HT4.out.trans (Turn.of_below hb6 (Nat.le_refl _)))
    have HX6 := Lib.hid hx6
    have cx := hx6.cell HS0.out
    have fx := hx6.frozen 2
    have lx := hx6.lt
    have HMU := Lib.hid (fun c V => mustBe_any c V)
    clear hb6 hx6
    cases rok with
    | false =>
      go_wp2_with (go_at_call 92; refine (HMU.out _ _).mono ?_; rintro e w' (⟨h2, -, -⟩ | ⟨-, rfl, rfl⟩); · cases h2)
      refine ⟨rfl, HT6.out.narrow (fun k hk h => by omega), .inr ⟨rfl, ?_, HX6.out⟩⟩
      rw [HRD.out, if_neg (by rintro ⟨-, h⟩; cases h)]
    | true =>
      go_wp2_with (go_at_call 92; refine (HMU.out _ _).mono ?_; rintro e w' (⟨-, ⟨u, rfl⟩, rfl⟩ | ⟨h2, -, -⟩); rotate_left; · cases h2)
      first
      | go_end0
      | refine bodyPost_ret (results_none rfl _ _ _) rfl ?_
      refine ⟨(HT6.out.narrow (fun k hk h => by omega)).trans (Turn.setCell (q := fun k => k = b) w' _ rfl), .inl ⟨_, x.setIfInBounds 2 (encStr rs), rfl, ?_, HX6.out.set 2 _⟩⟩
      rw [HRD.out, if_pos ⟨HLE.out, by first | rfl | trivial⟩]
  · have HGT := Lib.hid hgt
    refine ⟨rfl, HT4.out.narrow (fun k hk h => by omega), .inr ⟨rfl, ?_, HX4.out⟩⟩
    rw [HRD.out, if_neg (by rintro ⟨h, -⟩; have := HGT.out; omega)]
theorem namedS_good {l : List Int} (hl : Line8 l) {x y : Array Value} (hx : GoodE x) (h : namedS.rd l x = some y) : GoodE y := by
  have h2 : (if l[2]?.getD 0 ≤ 1024 ∧ isRead (nat5 l) (l[2]?.getD 0) = true then some (x.setIfInBounds 2 (encStr (readN (nat5 l) (l[2]?.getD 0)))) else none) = some y := h
  split at h2
  · rw [← Option.some.inj h2]
    refine ⟨by rw [Array.size_setIfInBounds]; exact hx.1, fun j hj => ?_, readN (nat5 l) (l[2]?.getD 0), ?_, ?_⟩
    · obtain ⟨m, hm, h3⟩ := hx.2.1 j hj
      exact ⟨m, by rw [Array.getElem?_setIfInBounds_ne (by omega)]; exact hm, h3⟩
    · rw [Array.getElem?_setIfInBounds_self]; simp [hx.1]
    · unfold readN
      rw [List.length_take, txtN_length, nat5_length hl]
      omega
  · cases h2
theorem named_part (w : World) : NdPart GoodE 49 w ⟨129, #[], 131, #[], 133, #[], namedS⟩ where
  e0 := enters_of Tryz.func129 (by kernel_rfl) rfl
  e1 := enters_of Tryz.func131 (by kernel_rfl) rfl
  e2 := enters_of Tryz.func133 (by kernel_rfl) rfl
  mayBe x W hx _ := by
    obtain ⟨s, hs, -⟩ := hx.2.2
    have h := namedMay W x s hs
    show Calls _ _ _ _ fun e w' => e = .returned (.bool (rightN (txtAt x 2))) ∧ _
    rw [txtAt_of hs]
    exact h
  write x l b W hx ho hl _ _ hb := by
    obtain ⟨s, hs, -⟩ := hx.2.2
    have ho2 : rightN (txtAt x 2) = true := ho
    rw [txtAt_of hs] at ho2
    have h := namedWrite W x s hs ho2 b l hl hb
    show Calls _ _ _ _ fun e w' => (∃ u, e = .returned u) ∧ Blk w' b _ (lnA ((l.set 2 ((txtAt x 2).length : Nat)).take 3 ++ fiveI (txtAt x 2))) ∧ _
    rw [txtAt_of hs]
    exact h
  read x l b W hx hl _ _ hb := by
    obtain ⟨s, hs, -⟩ := hx.2.2
    exact namedRead W x s hs b l hl hb
  wrLine x l hx ho hl := by
    obtain ⟨s, hs, hls⟩ := hx.2.2
    show Line8 ((l.set 2 ((txtAt x 2).length : Nat)).take 3 ++ fiveI (txtAt x 2))
    rw [txtAt_of hs]
    refine ⟨by rw [List.length_append, List.length_take, List.length_set, fiveI_length, hl.1]; rfl, fun z hz => ?_⟩
    rcases List.mem_append.1 hz with hz | hz
    · exact (hl.set 2 (x := ((s.length : Nat) : Int)) (by omega) (by omega)).2 z (List.mem_of_mem_take hz)
    · obtain ⟨i, -, rfl⟩ := List.mem_map.1 hz
      have := wordsN_64 s i
      omega
  rdGood x l y hx hl h := namedS_good hl hx h
def entrySpecs : List NdS := [numS 0 0 0 1023, numS 1 1 1 1023, namedS]
set_option maxRecDepth 100000 in
set_option maxHeartbeats 4000000 in
theorem entryLine_any (w : World) : Calls Tryz.prog 49 #[] w fun e w' => ∃ v ps, e = .returned v ∧ Below w.heap.size w w' ∧ KindAtE w' v ps ∧ (∀ p ∈ ps, NdPart GoodE 49 w' p) ∧ ps.map (·.S) = entrySpecs := by
  have hmg : ∀ W, Calls Tryz.prog 87 #[] W fun e w' => e = .returned (.agg #[.func (.func 129) #[] #[], .func (.func 131) #[] #[], .func (.func 133) #[] #[]]) ∧ Below W.heap.size W w' := fun W => by
    go_enter Tryz.func87, Tryz.ntmps87
    go_wp2
    refine bodyPost_ret (v := .agg #[.func (.func 129) #[] #[], .func (.func 131) #[] #[], .func (.func 133) #[] #[]]) (by simp [results, Tryz.results87, go_sem]) rfl ⟨rfl, (by repeat (first | exact Below.refl _ _ | assumption | refine Below.drew ?_ | refine below_drewN ?_ _ | refine Below.alloc ?_ (by (try simp) <;> omega) _ | refine Below.setCell ?_ (by (try simp) <;> omega) _ | refine Below.trans ?_ (Below.mono (by assumption) (by (try simp) <;> omega))))⟩
  have HMG := Lib.hid hmg
  have HN1 := Lib.hid (fun W => numbered_E (Good := GoodE) (wd := 0) (by decide) (goodE_num (by decide)) W (field_next W) pointed_lies)
  have HN2 := Lib.hid (fun W => numbered_E (Good := GoodE) (wd := 1) (by decide) (goodE_num (by decide)) W (field_node W) needed_lies)
  clear hmg
  go_enter Tryz.func49, Tryz.ntmps49
  go_wp2_with fail
  refine (HN1.out _).mono ?_
  rintro e w1 ⟨p1, rfl, hb1, hp1, hs1⟩
  have HB1 := Lib.hid hb1
  have HP1 := Lib.hid hp1
  have HS1 := Lib.hid hs1
  clear hb1 hp1 hs1
  go_wp2_with fail
  refine (HN2.out _).mono ?_
  rintro e w2 ⟨p2, rfl, hb2, hp2, hs2⟩
  have HB2 := Lib.hid (HB1.out.trans (hb2.mono HB1.out.size))
  have HP12 := Lib.hid (HP1.out.below hb2)
  have HP2 := Lib.hid hp2
  have HS2 := Lib.hid hs2
  clear hb2 hp2 hs2
  go_wp2_with fail
  refine (HMG.out _).mono ?_
  rintro e w3 ⟨rfl, hb3⟩
  have HB3 := Lib.hid (HB2.out.trans (hb3.mono HB2.out.size))
  have HP13 := Lib.hid (HP12.out.below hb3)
  have HP23 := Lib.hid (HP2.out.below hb3)
  clear hb3
  go_wp2_with fail
  have hb4 : Below w3.heap.size w3 (w3.alloc (.cells (flatC partC [p1, p2, ⟨129, #[], 131, #[], 133, #[], namedS⟩]).toArray 176)) := (Below.refl _ _).alloc (Nat.le_refl _) _
  refine bodyPost_ret (results_tmp rfl _ _ _) rfl ⟨_, [p1, p2, ⟨129, #[], 131, #[], 133, #[], namedS⟩], rfl, HB3.out.trans (hb4.mono HB3.out.size), ⟨⟨w3.heap.size, 3, rfl, by simp, fun k hk => cells_new w3 _ _ k hk⟩, by simp⟩, ?_, ?_⟩
  · intro p hp
    rcases List.mem_cons.1 hp with rfl | hp
    · exact HP13.out.below hb4
    rcases List.mem_cons.1 hp with rfl | hp
    · exact HP23.out.below hb4
    rcases List.mem_cons.1 hp with rfl | hp
    · exact named_part _
    · cases hp
  · simp only [List.map_cons, List.map_nil, HS1.out, HS2.out]
    rfl
end Go.Proofs.YtfdnlgmgjmbafaaGreatDoor

/-
  node: PutEntry, GetEntry. Written by gen_nd.py.
-/
namespace Go.Proofs.YtfdnlgmgjmbafaaGreatDoor
open Go.RowKit Go.Shelf Go.Sort
attribute [local go_sem] Oper.semAt_some

set_option maxRecDepth 100000 in
set_option maxHeartbeats 4000000 in
theorem putEntry_any (x : Array Value) (hx : GoodE x) (w : World) (ht : Tabs w) :
    Calls Tryz.prog 22 #[.agg x] w fun e w' => e = .returned (.tuple #[.agg (lnA (putSp entrySpecs x)), .int .i64 (putSpE entrySpecs x)]) ∧ Line8 (putSp entrySpecs x) ∧ Below w.heap.size w w' := by
  obtain ⟨W1, hW1⟩ : ∃ W1, ((w.alloc (.cells x 49)).alloc (.cells (lnA zeros8) 31)).drew = W1 := ⟨_, rfl⟩
  have hb1 : Below w.heap.size w W1 := by rw [← hW1]; exact (by repeat (first | exact Below.refl _ _ | assumption | refine Below.drew ?_ | refine below_drewN ?_ _ | refine Below.alloc ?_ (by (try simp) <;> omega) _ | refine Below.setCell ?_ (by (try simp) <;> omega) _ | refine Below.trans ?_ (Below.mono (by assumption) (by (try simp) <;> omega))))
  have hx1 : Blk W1 w.heap.size 49 x := by rw [← hW1]; exact (Blk.new w _ _).below (n := w.heap.size + 1) (by refine Below.drew ?_; exact (Below.refl _ _).alloc (by simp) _) (Nat.lt_succ_self _)
  have hr1 : Blk W1 (w.heap.size + 1) 31 (lnA zeros8) := by
    rw [← hW1]
    have h := Blk.new (w.alloc (.cells x 49)) 31 (lnA zeros8)
    rwa [World.size_alloc] at h
  have HW1 : Hid (((w.alloc (.cells x 49)).alloc (.cells #[.int .u64 0, .int .u64 0, .int .u64 0, .int .u64 0, .int .u64 0, .int .u64 0, .int .u64 0, .int .u64 0] 31)).drew = W1) := show _ = _ from hW1
  have HLN := Lib.hid (fun V (ht : Tabs V) => entryLine_any V)
  have HT1 : Hid (Tabs W1) := show Tabs _ from ht.below hb1 ht.room
  have HX := Lib.hid hx
  have hsz : x.size = 3 := hx.1
  have HLD := Lib.hid (fun V (h : Blk V w.heap.size 49 x) => h.load (tt := 49) Tryz.underlying49 rfl (by rw [hsz]; kernel_rfl))
  have HX1 := Lib.hid hx1
  have HR1 := Lib.hid hr1
  have HB1 := Lib.hid hb1
  have HSZ := Lib.hid hsz
  have hR : (fun V : World => (Instr.loadAt 49 (.pointer (some ⟨w.heap.size, 0, none⟩))).run Tryz.prog V = .ok (.agg x) V) W1 := HLD.out _ hx1
  clear hW1 hb1 hx1 hr1 ht hx hsz
  go_enter Tryz.func22, Tryz.ntmps22
  go_wp2_with fail
  refine wp_region_M 5 (fun V : World => (Instr.loadAt 49 (.pointer (some ⟨w.heap.size, 0, none⟩))).run Tryz.prog V = .ok (.agg x) V) (by kernel_rfl) ?_
  rw [HW1.out]
  refine wpAnyM_take2 8 (i := 1) (v := _) rfl (by kernel_rfl) (by kernel_rfl) (fun _ _ _ h => h) (Or.inl ⟨by rfl, fun w hSw => nd_exec_load rfl rfl hSw⟩) hR ?_
  (try simp only [put_laws])
  (refine wpAnyM_one (i := 0) rfl (by kernel_rfl) (fun K hK => ?_); rw [if_pos (by rfl)]; (try simp only [elem_laws]))
  go_simp
  refine (HLN.out W1 HT1.out).mono ?_
  rintro e w2 ⟨v, ps, rfl, hb2, hk2, hp2, hs2⟩
  have hx2 := HX1.out.below hb2 HX1.out.lt
  have hr2 := HR1.out.below hb2 HR1.out.lt
  have hR2 : (fun V : World => (Instr.loadAt 49 (.pointer (some ⟨w.heap.size, 0, none⟩))).run Tryz.prog V = .ok (.agg x) V) w2 := HLD.out _ hx2
  refine hK _ _ (fun _ => hR2) ?_
  clear hK K hR
  have HPK := Lib.hid (putK_E x HX.out HSZ.out w2 hk2 hp2)
  have h8 := putOut_len HX.out ps hp2
  rw [put_sp, hs2] at h8
  rw [put_sp, putE_sp, hs2] at HPK
  have H8 := Lib.hid h8
  have HX2 := Lib.hid hx2
  have HR2 := Lib.hid hr2
  have HB2 := Lib.hid (HB1.out.trans (hb2.mono HB1.out.size))
  clear hb2 hk2 hp2 hs2 hx2 hr2 h8
  obtain ⟨O, hO⟩ : ∃ O, putSp entrySpecs x = O := ⟨_, rfl⟩
  obtain ⟨E, hE⟩ : ∃ E, putSpE entrySpecs x = E := ⟨_, rfl⟩
  have HO := Lib.hid hO
  have HE := Lib.hid hE
  rw [hO, hE] at HPK
  rw [hO] at H8
  clear hO hE
  (try simp only [put_laws])
  (refine wpAnyM_one (i := 2) rfl (by kernel_rfl) (fun K hK => ?_); rw [if_pos (by rfl)]; (try simp only [elem_laws]))
  go_simp
  refine HPK.out.mono ?_
  rintro e w3 ⟨rfl, hb3⟩
  have hx3 := HX2.out.below hb3 HX2.out.lt
  have hr3 := HR2.out.below hb3 HR2.out.lt
  have hR3 : (fun V : World => (Instr.loadAt 49 (.pointer (some ⟨w.heap.size, 0, none⟩))).run Tryz.prog V = .ok (.agg x) V) w3 := HLD.out _ hx3
  refine hK _ _ (fun _ => hR3) ?_
  clear hK K hR2
  have hR := hR3
  clear hR3
  have HR3 := Lib.hid hr3
  have HB3 := Lib.hid (HB2.out.trans (hb3.mono HB2.out.size))
  clear hb3 hx3 hr3
  (try simp only [put_laws])
  (refine wpAnyM_take2 8 (i := 3) (v := ?_) rfl (by kernel_rfl) (by kernel_rfl) (fun _ _ _ h => h) (Or.inl ⟨by rfl, ?_⟩) hR ?_; rotate_left; (focus (intro w hSw; (try dsimp only at hSw); go_simp; (try with_reducible rfl))); (try simp only [put_laws])); (refine wpAnyM_take2 8 (i := 4) (v := ?_) rfl (by kernel_rfl) (by kernel_rfl) (fun _ _ _ h => h) (Or.inl ⟨by rfl, ?_⟩) hR ?_; rotate_left; (focus (intro w hSw; (try dsimp only at hSw); go_simp; (try with_reducible rfl))); (try simp only [put_laws]))
  (refine wpAnyM_last rfl (by kernel_rfl) (fun K hK => ?_); rw [if_pos (by rfl)]; (try simp only [elem_laws]))
  clear hR
  obtain ⟨W4, hst, hr4, ht4⟩ := HR3.out.store (P := Tryz.prog) (tt := 31) (Y := lnA O) (by rw [lnA_size, H8.out.1]; kernel_rfl) (by rw [lnA_size, lnA_size, H8.out.1]; rfl) (lnA_one _)
  refine nd_store_eq 31 _ _ rfl _ _ rfl rfl hst ?_
  refine hK _ _ ?_
  clear hK K
  (try simp only [put_laws])
  (refine wpAnyM_one (i := 6) rfl (by kernel_rfl) (fun K hK => ?_); rw [if_pos (by rfl)]; (try simp only [elem_laws]))
  go_simp
  refine hK _ _ (fun h => by cases h) ?_
  clear hK K
  (try simp only [put_laws])
  refine wpAnyM_done (by kernel_rfl) ?_ _
  have HR4 := Lib.hid hr4
  have HT4 := Lib.hid ht4
  clear hst hr4 ht4
  go_wp2_with fail
  exact bodyPost_ret (results_cell_tmp (fn := Tryz.f22) rfl rfl (HR4.out.loadVar (tt := 31) Tryz.underlying31 rfl (by rw [lnA_size, H8.out.1]; kernel_rfl)) rfl) rfl ⟨by rw [HO.out, HE.out]; rfl, by rw [HO.out]; exact H8.out, HB3.out.trans (HT4.out.below (B := w.heap.size) (fun k h => by omega) HB3.out.size)⟩
end Go.Proofs.YtfdnlgmgjmbafaaGreatDoor
