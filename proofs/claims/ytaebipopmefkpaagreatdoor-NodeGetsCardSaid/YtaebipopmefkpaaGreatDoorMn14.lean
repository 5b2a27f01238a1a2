/-
  Texts NdKF to NdJM, as one.
-/
import Derived.Test.YtaebipopmefkpaaGreatDoorMn13
import Derived.Laws.EntriesVeiled
/-
  node: a name written and read.
-/
namespace Go.Proofs.YtaebipopmefkpaaGreatDoor
open Go.RowKit Go.Shelf Go.Sort
attribute [local go_sem] Oper.semAt_some

theorem namedMay (w : World) (x : Array Value) (s : List UInt8) (hs : x[2]? = some (encStr s)) : Calls Tryz.prog 116 #[.agg x] w fun e w' => e = .returned (.bool (rightN s)) ∧ Below w.heap.size w w' := by
  have HC := Lib.hid (fun V => laCheck_any s V)
  have hb1 : Below w.heap.size w (w.alloc (.cells x 44)) := (by repeat (first | exact Below.refl _ _ | assumption | refine Below.drew ?_ | refine below_drewN ?_ _ | refine Below.alloc ?_ (by (try simp) <;> omega) _ | refine Below.setCell ?_ (by (try simp) <;> omega) _ | refine Below.trans ?_ (Below.mono (by assumption) (by (try simp) <;> omega))))
  have c2 := (Blk.new w 44 x).cell hs
  have HB1 := Lib.hid hb1
  obtain ⟨r, hr⟩ : ∃ r, rightN s = r := ⟨_, rfl⟩
  have he : errN s = if r then 0 else 160 := by unfold errN; rw [hr]
  rw [he] at HC
  rw [hr]
  clear hs hb1 hr he
  cases r with
  | false =>
    go_enter Tryz.func116, Tryz.ntmps116
    go_wp2_with fail
    refine (HC.out _).mono ?_
    rintro e w2 ⟨rfl, hb2⟩
    have HB2 := Lib.hid (HB1.out.trans (hb2.mono HB1.out.size))
    clear hb2 c2
    go_wp2_with fail
    go_ret
    exact ⟨rfl, HB2.out⟩
  | true =>
    go_enter Tryz.func116, Tryz.ntmps116
    go_wp2_with fail
    refine (HC.out _).mono ?_
    rintro e w2 ⟨rfl, hb2⟩
    have HB2 := Lib.hid (HB1.out.trans (hb2.mono HB1.out.size))
    clear hb2 c2
    go_wp2_with fail
    go_ret
    exact ⟨rfl, HB2.out⟩
set_option maxRecDepth 100000 in
set_option maxHeartbeats 4000000 in
theorem namedWrite (w : World) (x : Array Value) (s : List UInt8) (hs : x[2]? = some (encStr s)) (hr : rightN s = true) (b : Nat) (l : List Int) (hl : Line8 l) (hb : Blk w b 113 (lnA l)) :
    Calls Tryz.prog 118 #[.agg x, .pointer (some ⟨b, 0, none⟩)] w fun e w' => (∃ u, e = .returned u) ∧ Blk w' b 113 (lnA ((l.set 2 (s.length : Nat)).take 3 ++ fiveI s)) ∧ Turn (fun k => k = b) w w' := by
  have hls : s.length ≤ 40 := by
    unfold rightN at hr
    simp only [Bool.and_eq_true, decide_eq_true_eq] at hr
    exact hr.1.1.1.2
  have hwo : wordsOut s = wordsN s := by unfold wordsOut; rw [hr]; rfl
  have heo : errN s = 0 := by unfold errN; rw [hr]; rfl
  have HC := Lib.hid (fun V => laWords_any s V)
  rw [hwo, heo, ← lnA_five] at HC
  have hb1 : Below w.heap.size w (w.alloc (.cells x 44)) := (by repeat (first | exact Below.refl _ _ | assumption | refine Below.drew ?_ | refine below_drewN ?_ _ | refine Below.alloc ?_ (by (try simp) <;> omega) _ | refine Below.setCell ?_ (by (try simp) <;> omega) _ | refine Below.trans ?_ (Below.mono (by assumption) (by (try simp) <;> omega))))
  have hx1 := Blk.new w 44 x
  have c2 := hx1.cell hs
  have HB1 := Lib.hid hb1
  have HX1 := Lib.hid hx1
  have HL1 := Lib.hid (hb.below hb1 hb.lt)
  have HS := Lib.hid hs
  have HLB := Lib.hid hb.lt
  have HL8 := Lib.hid hl.1
  have wl : IntKind.u64.wrap ((s.length : Nat) : Int) = ((s.length : Nat) : Int) := by simp [IntKind.wrap, IntKind.bits, IntKind.signed]; omega
  obtain ⟨F, hF⟩ : ∃ F, fiveI s = F := ⟨_, rfl⟩
  have hFl : F.length = 5 := by rw [← hF]; exact fiveI_length s
  rw [hF] at HC ⊢
  have HFL := Lib.hid hFl
  obtain ⟨S, hS⟩ : ∃ S, encStr s = S := ⟨_, rfl⟩
  clear hs hb1 hx1 hb hl hr hwo heo hF hFl hls hS
  go_enter Tryz.func118, Tryz.ntmps118
  go_wp2_with fail
  refine (HC.out _).mono ?_
  rintro e w2 ⟨rfl, hb2⟩
  obtain ⟨W3, hW3⟩ : ∃ W3, w2.alloc (.cells (lnA F) 92) = W3 := ⟨_, rfl⟩
  have HST : Hid ((Instr.storeAt 92 (.pointer (some ⟨w2.heap.size, 0, none⟩)) (.agg (lnA F))).run Tryz.prog (w2.alloc (.cells #[.int .u64 0, .int .u64 0, .int .u64 0, .int .u64 0, .int .u64 0] 92)) = .ok () W3) := show _ = _ by
    rw [← hW3]
    exact run_storeAt_new w2 92 _ (lnA F) (by rw [lnA_size, HFL.out]; kernel_rfl) (by rw [lnA_size, HFL.out]; rfl) (lnA_one _)
  have hb3 : Below w2.heap.size w2 W3 := by rw [← hW3]; exact (by repeat (first | exact Below.refl _ _ | assumption | refine Below.drew ?_ | refine below_drewN ?_ _ | refine Below.alloc ?_ (by (try simp) <;> omega) _ | refine Below.setCell ?_ (by (try simp) <;> omega) _ | refine Below.trans ?_ (Below.mono (by assumption) (by (try simp) <;> omega))))
  have hf3 : Blk W3 w2.heap.size 92 (lnA F) := by rw [← hW3]; exact Blk.new _ _ _
  have hb23 := hb2.trans (hb3.mono hb2.size)
  have HB3 := Lib.hid (HB1.out.trans (hb23.mono HB1.out.size))
  have HF3 := Lib.hid hf3
  have HX3 := Lib.hid (HX1.out.below hb23 HX1.out.lt)
  have HL3 := Lib.hid (HL1.out.below hb23 HL1.out.lt)
  have hlb2 := HLB.out
  have hz2 : w.heap.size + 1 ≤ w2.heap.size := by have := hb2.size; simpa using this
  have HZ2 := Lib.hid hz2
  clear hb2 hb3 hf3 hb23 hW3 c2 hlb2 hz2
  go_wp2_with (refine ndList_store rfl 92 _ _ rfl _ _ rfl rfl HST.out ?_)
  obtain ⟨W4, hW4⟩ : ∃ W4, W3.drew = W4 := ⟨_, rfl⟩
  have hb4 : Below W3.heap.size W3 W4 := by rw [← hW4]; exact (by repeat (first | exact Below.refl _ _ | assumption | refine Below.drew ?_ | refine below_drewN ?_ _ | refine Below.alloc ?_ (by (try simp) <;> omega) _ | refine Below.setCell ?_ (by (try simp) <;> omega) _ | refine Below.trans ?_ (Below.mono (by assumption) (by (try simp) <;> omega))))
  have hx4 := HX3.out.below hb4 HX3.out.lt
  have hl4 := HL3.out.below hb4 HL3.out.lt
  have HF4 := Lib.hid (HF3.out.below hb4 HF3.out.lt)
  have HB4 := Lib.hid (HB3.out.trans (hb4.mono HB3.out.size))
  have hR : (fun W : World => W.cell? ⟨w.heap.size, 2, none⟩ = some (encStr s)) W4 := hx4.cell HS.out
  have cl := hl4.cell (lnA_at l 2 (by rw [HL8.out]; decide))
  have fl := hl4.frozen 2
  have ll := hl4.lt
  have HL4 := Lib.hid hl4
  clear hb4 hx4 hl4
  refine wp_region_M 7 (fun W : World => W.cell? ⟨w.heap.size, 2, none⟩ = some (encStr s)) (by kernel_rfl) ?_
  rw [hW4]
  clear hW4
  (refine wpAnyM_take2 8 (i := 0) (v := ?_) rfl (by kernel_rfl) (by kernel_rfl) (fun _ _ _ h => h) (Or.inl ⟨by rfl, ?_⟩) hR ?_; rotate_left; (focus (intro w hSw; (try dsimp only at hSw); go_simp; (try with_reducible rfl))); (try simp only [put_laws])); (refine wpAnyM_take2 8 (i := 1) (v := ?_) rfl (by kernel_rfl) (by kernel_rfl) (fun _ _ _ h => h) (Or.inl ⟨by rfl, ?_⟩) hR ?_; rotate_left; (focus (intro w hSw; (try dsimp only at hSw); go_simp; (try with_reducible rfl))); (try simp only [put_laws])); (refine wpAnyM_take2 8 (i := 2) (v := ?_) rfl (by kernel_rfl) (by kernel_rfl) (fun _ _ _ h => h) (Or.inl ⟨by rfl, ?_⟩) hR ?_; rotate_left; (focus (intro w hSw; (try dsimp only at hSw); go_simp; (try with_reducible rfl))); (try simp only [put_laws])); (refine wpAnyM_take2 8 (i := 3) (v := ?_) rfl (by kernel_rfl) (by kernel_rfl) (fun _ _ _ h => h) (Or.inl ⟨by rfl, ?_⟩) hR ?_; rotate_left; (focus (intro w hSw; (try dsimp only at hSw); go_simp; (try with_reducible rfl))); (try simp only [put_laws])); (refine wpAnyM_take2 8 (i := 4) (v := ?_) rfl (by kernel_rfl) (by kernel_rfl) (fun _ _ _ h => h) (Or.inl ⟨by rfl, ?_⟩) hR ?_; rotate_left; (focus (intro w hSw; (try dsimp only at hSw); go_simp; (try with_reducible rfl))); (try simp only [put_laws])); (refine wpAnyM_take2 8 (i := 5) (v := ?_) rfl (by kernel_rfl) (by kernel_rfl) (fun _ _ _ h => h) (Or.inl ⟨by rfl, ?_⟩) hR ?_; rotate_left; (focus (intro w hSw; (try dsimp only at hSw); go_simp; (try with_reducible rfl))); (try simp only [put_laws])); (refine wpAnyM_take2 8 (i := 6) (v := ?_) rfl (by kernel_rfl) (by kernel_rfl) (fun _ _ _ h => h) (Or.inl ⟨by rfl, ?_⟩) hR ?_; rotate_left; (focus (intro w hSw; (try dsimp only at hSw); go_simp; (try with_reducible rfl))); (try simp only [put_laws]))
  (refine wpAnyM_last rfl (by kernel_rfl) (fun K hK => ?_); rw [if_pos (by rfl)]; (try simp only [elem_laws]))
  clear hR
  go_simp
  refine hK _ _ ?_
  clear hK K
  (try simp only [put_laws])
  refine wpAnyM_done (by kernel_rfl) ?_ _
  obtain ⟨W5, hW5⟩ : ∃ W5, (W4.setCell ⟨b, 2, none⟩ (.int .u64 ((s.length : Nat) : Int))).drew = W5 := ⟨_, rfl⟩
  have hl5 : Blk W5 b 113 (lnA (l.set 2 ((s.length : Nat) : Int))) := by
    rw [← hW5, ← lnA_set]
    exact HL4.out.set 2 _
  have ht5 : Turn (fun k => k = b) W4 W5 := by rw [← hW5]; exact (Turn.setCell (q := fun k => k = b) W4 _ rfl).trans (Turn.of_below (Below.drew (Below.refl _ _)) (Nat.le_refl _))
  have hlb := HLB.out
  have hz2 := HZ2.out
  have hf5 := HF4.out.turn ht5 (by omega)
  have hcp := fun ty => blk_copy hl5 hf5 (o := 3) (s := 0) (n := 5) (by rw [List.length_set, HL8.out]; decide) (by rw [HFL.out]; decide) 5 5 ty
  have HTT := Lib.hid ((Turn.of_below HB4.out (Nat.le_refl _) : Turn (fun k => k = b) w W4).trans ht5)
  have HCP := Lib.hid hcp
  clear hl5 ht5 hf5 hcp cl fl ll
  go_wp2_with fail
  have hR : (fun _ : World => True) W5 := trivial
  refine wp_region_M 4 (fun _ : World => True) (by kernel_rfl) ?_
  rw [hW5]
  clear hW5
  (refine wpAnyM_take2 8 (i := 0) (v := ?_) rfl (by kernel_rfl) (by kernel_rfl) (fun _ _ _ h => h) (Or.inl ⟨by rfl, ?_⟩) hR ?_; rotate_left; (focus (intro w hSw; (try dsimp only at hSw); go_simp; (try with_reducible rfl))); (try simp only [put_laws])); (refine wpAnyM_take2 8 (i := 1) (v := ?_) rfl (by kernel_rfl) (by kernel_rfl) (fun _ _ _ h => h) (Or.inl ⟨by rfl, ?_⟩) hR ?_; rotate_left; (focus (intro w hSw; (try dsimp only at hSw); go_simp; (try with_reducible rfl))); (try simp only [put_laws])); (refine wpAnyM_take2 8 (i := 2) (v := ?_) rfl (by kernel_rfl) (by kernel_rfl) (fun _ _ _ h => h) (Or.inl ⟨by rfl, ?_⟩) hR ?_; rotate_left; (focus (intro w hSw; (try dsimp only at hSw); go_simp; (try with_reducible rfl))); (try simp only [put_laws])); (refine wpAnyM_take2 8 (i := 3) (v := ?_) rfl (by kernel_rfl) (by kernel_rfl) (fun _ _ _ h => h) (Or.inl ⟨by rfl, ?_⟩) hR ?_; rotate_left; (focus (intro w hSw; (try dsimp only at hSw); go_simp; (try with_reducible rfl))); (try simp only [put_laws]))
  (refine wpAnyM_last rfl (by kernel_rfl) (fun K hK => ?_); rw [if_pos (by rfl)]; (try simp only [elem_laws]))
  clear hR
  obtain ⟨W6, hrun, hl6, ht6⟩ := HCP.out 3
  refine nd_copy_eq _ _ _ rfl _ _ _ rfl rfl hrun ?_
  refine hK _ _ ?_
  clear hK K
  (try simp only [put_laws])
  refine wpAnyM_done (by kernel_rfl) ?_ _
  have HL6 := Lib.hid hl6
  have HT6 := Lib.hid (HTT.out.trans ht6)
  clear hrun hl6 ht6
  go_wp2_with fail
  first
  | go_end0
  | refine bodyPost_ret (results_none rfl _ _ _) rfl ?_
  refine ⟨⟨_, rfl⟩, ?_, HT6.out⟩
  have h := HL6.out
  rw [List.drop_zero, List.take_of_length_le (l := F) (by rw [HFL.out]; decide), List.drop_of_length_le (by rw [List.length_set, HL8.out]; decide), List.append_nil] at h
  exact h
theorem Turn.narrow {q q' : Nat → Prop} {A B : World} (h : Turn q A B) (hq : ∀ k, k < A.heap.size → q k → q' k) : Turn q' A B := ⟨h.os, h.tape, h.output, h.size, fun i hi hn => h.block i hi fun hk => hn (hq i hi hk)⟩
theorem arr5_lnA (m : List Int) (hm : m.length = 5) (h : ∀ x ∈ m, 0 ≤ x) : lnA m = arr5 (m.map Int.toNat) := by
  match m, hm with
  | [a, b, c, d, e], _ =>
    have ha := h a (by simp)
    have hb := h b (by simp)
    have hc := h c (by simp)
    have hd := h d (by simp)
    have he := h e (by simp)
    simp [lnA, arr5]
    omega
theorem nat5_length {l : List Int} (hl : Line8 l) : (nat5 l).length = 5 := by simp [nat5, hl.1]
theorem nat5_64 {l : List Int} (hl : Line8 l) : Words64 (nat5 l) := fun i => by
  unfold nat5
  by_cases h : i < 5
  · have hlt : 3 + i < l.length := by rw [hl.1]; omega
    rw [List.getElem?_map, List.getElem?_drop, List.getElem?_eq_getElem hlt, Option.map_some, Option.getD_some]
    have := hl.2 _ (List.getElem_mem hlt)
    omega
  · rw [List.getElem?_eq_none (by simp [hl.1]; omega)]
    decide
set_option maxRecDepth 100000 in
set_option maxHeartbeats 4000000 in
theorem namedRead (w : World) (x : Array Value) (s0 : List UInt8) (hs : x[2]? = some (encStr s0)) (b : Nat) (l : List Int) (hl : Line8 l) (hb : Blk w b 44 x) :
    Calls Tryz.prog 120 #[.agg (lnA l), .pointer (some ⟨b, 0, none⟩)] w fun e w' => Turn (fun k => k = b) w w' ∧
      ((∃ u y, e = .returned u ∧ namedS.rd l x = some y ∧ Blk w' b 44 y) ∨ (e = .panicked noLine ∧ namedS.rd l x = none ∧ Blk w' b 44 x)) := by
  have h2l : 2 < l.length := by rw [hl.1]; decide
  obtain ⟨y, hy⟩ : ∃ y, l[2]?.getD 0 = y := ⟨_, rfl⟩
  have hy0 : 0 ≤ y := by
    rw [← hy, List.getElem?_eq_getElem h2l, Option.getD_some]
    exact (hl.2 _ (List.getElem_mem h2l)).1
  have HRD : Hid (namedS.rd l x = if y ≤ 1024 ∧ isRead (nat5 l) y = true then some (x.setIfInBounds 2 (encStr (readN (nat5 l) y))) else none) := show _ = _ by rw [← hy]; rfl
  have h5 : (l.drop 3).length = 5 := by rw [List.length_drop, hl.1]
  have harr : lnA (l.drop 3) = arr5 (nat5 l) := arr5_lnA _ h5 (fun z hz => (hl.2 z (List.mem_of_mem_drop hz)).1)
  have HRE := Lib.hid (fun V => laRead_any (nat5 l) (nat5_length hl) (nat5_64 hl) y V)
  rw [← harr] at HRE
  have HNU := Lib.hid (fun V => number_anyN y hy0 V)
  have hb1 : Below w.heap.size w (w.alloc (.cells (lnA l) 113)) := (by repeat (first | exact Below.refl _ _ | assumption | refine Below.drew ?_ | refine below_drewN ?_ _ | refine Below.alloc ?_ (by (try simp) <;> omega) _ | refine Below.setCell ?_ (by (try simp) <;> omega) _ | refine Below.trans ?_ (Below.mono (by assumption) (by (try simp) <;> omega))))
  obtain ⟨W1, hW1⟩ : ∃ W1, ((w.alloc (.cells (lnA l) 113)).alloc (.cells (lnA [0, 0, 0, 0, 0]) 92)).drew = W1 := ⟨_, rfl⟩
  have hb1 : Below w.heap.size w W1 := by rw [← hW1]; exact (by repeat (first | exact Below.refl _ _ | assumption | refine Below.drew ?_ | refine below_drewN ?_ _ | refine Below.alloc ?_ (by (try simp) <;> omega) _ | refine Below.setCell ?_ (by (try simp) <;> omega) _ | refine Below.trans ?_ (Below.mono (by assumption) (by (try simp) <;> omega))))
  have hl1 : Blk W1 w.heap.size 113 (lnA l) := by rw [← hW1]; exact (Blk.new w _ _).below (n := w.heap.size + 1) (by refine Below.drew ?_; exact (Below.refl _ _).alloc (by simp) _) (Nat.lt_succ_self _)
  have hf1 : Blk W1 (w.heap.size + 1) 92 (lnA [0, 0, 0, 0, 0]) := by
    rw [← hW1]
    have h := Blk.new (w.alloc (.cells (lnA l) 113)) 92 (lnA [0, 0, 0, 0, 0])
    rwa [World.size_alloc] at h
  have HX1 := Lib.hid (hb.below hb1 hb.lt)
  have HCP := Lib.hid (fun ty => blk_copy hf1 hl1 (o := 0) (s := 3) (n := 5) (by decide) (by rw [hl.1]; decide) 5 5 ty)
  have HW1 : Hid (((w.alloc (.cells (lnA l) 113)).alloc (.cells #[.int .u64 0, .int .u64 0, .int .u64 0, .int .u64 0, .int .u64 0] 92)).drew = W1) := show _ = _ from hW1
  have HB1 := Lib.hid hb1
  have HL1 := Lib.hid hl1
  have HL8 := Lib.hid hl.1
  have HLB := Lib.hid hb.lt
  have HS0 := Lib.hid hs
  have H5 := Lib.hid h5
  have HAR := Lib.hid harr
  have HY := Lib.hid hy
  obtain ⟨F, hF⟩ : ∃ F, l.drop 3 = F := ⟨_, rfl⟩
  have HF := Lib.hid hF
  rw [hF] at HRE
  obtain ⟨rok, hrok⟩ : ∃ rok, isRead (nat5 l) y = rok := ⟨_, rfl⟩
  obtain ⟨rs, hrs⟩ : ∃ rs, readN (nat5 l) y = rs := ⟨_, rfl⟩
  rw [hrok, hrs] at HRD HRE
  clear hW1 hb1 hl1 hf1 hb hl hs h5 harr hy hF hrok hrs h2l
  have hR : (fun _ : World => True) W1 := trivial
  go_enter Tryz.func120, Tryz.ntmps120
  go_wp2_with fail
  refine wp_region_M 2 (fun _ : World => True) (by kernel_rfl) ?_
  rw [HW1.out]
  (refine wpAnyM_take2 8 (i := 0) (v := ?_) rfl (by kernel_rfl) (by kernel_rfl) (fun _ _ _ h => h) (Or.inl ⟨by rfl, ?_⟩) hR ?_; rotate_left; (focus (intro w hSw; (try dsimp only at hSw); go_simp; (try with_reducible rfl))); (try simp only [put_laws])); (refine wpAnyM_take2 8 (i := 1) (v := ?_) rfl (by kernel_rfl) (by kernel_rfl) (fun _ _ _ h => h) (Or.inl ⟨by rfl, ?_⟩) hR ?_; rotate_left; (focus (intro w hSw; (try dsimp only at hSw); go_simp; (try with_reducible rfl))); (try simp only [put_laws]))
  (refine wpAnyM_last rfl (by kernel_rfl) (fun K hK => ?_); rw [if_pos (by rfl)]; (try simp only [elem_laws]))
  clear hR
  obtain ⟨W2, hrun, hf2, ht2⟩ := HCP.out 3
  refine nd_copy_eq _ _ _ rfl _ _ _ rfl rfl hrun ?_
  refine hK _ _ ?_
  clear hK K
  (try simp only [put_laws])
  refine wpAnyM_done (by kernel_rfl) ?_ _
  rw [List.take_zero, List.nil_append, HF.out, List.take_of_length_le (by rw [← HF.out, H5.out]; decide), List.drop_of_length_le (by decide), List.append_nil] at hf2
  obtain ⟨W3, hW3⟩ : ∃ W3, W2.drew = W3 := ⟨_, rfl⟩
  have hb3 : Below W2.heap.size W2 W3 := by rw [← hW3]; exact (by repeat (first | exact Below.refl _ _ | assumption | refine Below.drew ?_ | refine below_drewN ?_ _ | refine Below.alloc ?_ (by (try simp) <;> omega) _ | refine Below.setCell ?_ (by (try simp) <;> omega) _ | refine Below.trans ?_ (Below.mono (by assumption) (by (try simp) <;> omega))))
  have HT3 := Lib.hid (((Turn.of_below HB1.out (Nat.le_refl _) : Turn (fun k => k = w.heap.size + 1) w W1).trans ht2).trans (Turn.of_below hb3 (Nat.le_refl _)))
  have hf3 := hf2.below hb3 hf2.lt
  have hl3 := (HL1.out.turn ht2 (by omega)).below hb3 (Nat.lt_of_lt_of_le HL1.out.lt ht2.size)
  have hlb := HLB.out
  have HX3 := Lib.hid ((HX1.out.turn ht2 (by omega)).below hb3 (Nat.lt_of_lt_of_le HX1.out.lt ht2.size))
  have HLF := Lib.hid (hf3.load (tt := 92) Tryz.underlying92 rfl (by rw [lnA_size, ← HF.out, H5.out]; kernel_rfl))
  have c2 := hl3.cell (lnA_at l 2 (by rw [HL8.out]; decide))
  rw [HY.out] at c2
  have HF3 := Lib.hid hf3
  have HL3 := Lib.hid hl3
  have HW3 := Lib.hid hW3
  clear hrun hf2 ht2 hb3 hf3 hl3 HCP HX1 hW3
  go_wp2_with fail
  obtain ⟨W4, hW4⟩ : ∃ W4, W2.drew = W4 := ⟨_, rfl⟩
  have hb4 : Below W3.heap.size W3 W4 := by rw [← hW4, HW3.out]; exact Below.refl _ _
  have hR : (fun W : World => (Instr.loadAt 92 (.pointer (some ⟨w.heap.size + 1, 0, none⟩))).run Tryz.prog W = .ok (.agg (lnA F)) W ∧ W.cell? ⟨w.heap.size, 2, none⟩ = some (.int .u64 y)) W4 :=
    ⟨(HF3.out.below hb4 HF3.out.lt).load (tt := 92) Tryz.underlying92 rfl (by rw [lnA_size, ← HF.out, H5.out]; kernel_rfl), (hb4.cell (p := ⟨w.heap.size, 2, none⟩) HL3.out.lt).trans c2⟩
  have HX4 := Lib.hid (HX3.out.below hb4 HX3.out.lt)
  have HT4 := Lib.hid (HT3.out.trans (Turn.of_below hb4 (Nat.le_refl _)))
  have HF4 := Lib.hid (HF3.out.below hb4 HF3.out.lt)
  have HL4 := Lib.hid (HL3.out.below hb4 HL3.out.lt)
  clear hb4 c2
  refine wp_region_M 9 (fun W : World => (Instr.loadAt 92 (.pointer (some ⟨w.heap.size + 1, 0, none⟩))).run Tryz.prog W = .ok (.agg (lnA F)) W ∧ W.cell? ⟨w.heap.size, 2, none⟩ = some (.int .u64 y)) (by kernel_rfl) ?_
  rw [hW4]
  clear hW4
  refine wpAnyM_take2 8 (i := 0) (v := _) rfl (by kernel_rfl) (by kernel_rfl) (fun _ _ _ h => h) (Or.inl ⟨by rfl, fun w hSw => nd_exec_load rfl rfl hSw.1⟩) hR ?_
  (try simp only [put_laws])
  (refine wpAnyM_take2 8 (i := 1) (v := ?_) rfl (by kernel_rfl) (by kernel_rfl) (fun _ _ _ h => h) (Or.inl ⟨by rfl, ?_⟩) hR ?_; rotate_left; (focus (intro w hSw; (try dsimp only at hSw); go_simp; (try with_reducible rfl))); (try simp only [put_laws])); (refine wpAnyM_take2 8 (i := 2) (v := ?_) rfl (by kernel_rfl) (by kernel_rfl) (fun _ _ _ h => h) (Or.inl ⟨by rfl, ?_⟩) hR ?_; rotate_left; (focus (intro w hSw; (try dsimp only at hSw); go_simp; (try with_reducible rfl))); (try simp only [put_laws]))
  (refine wpAnyM_one (i := 3) rfl (by kernel_rfl) (fun K hK => ?_); rw [if_pos (by rfl)]; (try simp only [elem_laws]))
  go_simp
  refine (HNU.out W4).mono ?_
  rintro e w5 ⟨rfl, ⟨hle, rfl⟩ | ⟨hgt, rfl⟩⟩
  · have HLE := Lib.hid hle
    clear hle
    refine hK _ _ (fun _ => hR) ?_
    clear hK K
    (try simp only [put_laws])
    (refine wpAnyM_one (i := 4) rfl (by kernel_rfl) (fun K hK => ?_); rw [if_pos (by rfl)]; (try simp only [elem_laws]))
    go_simp
    refine (HRE.out w5).mono ?_
    rintro e w6 ⟨rfl, hb6⟩
    have hR6 : (fun W : World => (Instr.loadAt 92 (.pointer (some ⟨w.heap.size + 1, 0, none⟩))).run Tryz.prog W = .ok (.agg (lnA F)) W ∧ W.cell? ⟨w.heap.size, 2, none⟩ = some (.int .u64 y)) w6 :=
      ⟨(HF4.out.below hb6 HF4.out.lt).load (tt := 92) Tryz.underlying92 rfl (by rw [lnA_size, ← HF.out, H5.out]; kernel_rfl), (hb6.cell (p := ⟨w.heap.size, 2, none⟩) HL4.out.lt).trans hR.2⟩
    refine hK _ _ (fun _ => hR6) ?_
    clear hK K hR
    have hR := hR6
    clear hR6
    (try simp only [put_laws])
    (refine wpAnyM_take2 8 (i := 5) (v := ?_) rfl (by kernel_rfl) (by kernel_rfl) (fun _ _ _ h => h) (Or.inl ⟨by rfl, ?_⟩) hR ?_; rotate_left; (focus (intro w hSw; (try dsimp only at hSw); go_simp; (try with_reducible rfl))); (try simp only [put_laws])); (refine wpAnyM_take2 8 (i := 6) (v := ?_) rfl (by kernel_rfl) (by kernel_rfl) (fun _ _ _ h => h) (Or.inl ⟨by rfl, ?_⟩) hR ?_; rotate_left; (focus (intro w hSw; (try dsimp only at hSw); go_simp; (try with_reducible rfl))); (try simp only [put_laws])); (refine wpAnyM_take2 8 (i := 7) (v := ?_) rfl (by kernel_rfl) (by kernel_rfl) (fun _ _ _ h => h) (Or.inl ⟨by rfl, ?_⟩) hR ?_; rotate_left; (focus (intro w hSw; (try dsimp only at hSw); go_simp; (try with_reducible rfl))); (try simp only [put_laws])); (refine wpAnyM_take2 8 (i := 8) (v := ?_) rfl (by kernel_rfl) (by kernel_rfl) (fun _ _ _ h => h) (Or.inl ⟨by rfl, ?_⟩) hR ?_; rotate_left; (focus (intro w hSw; (try dsimp only at hSw); go_simp; (try with_reducible rfl))); (try simp only [put_laws]))
    (refine wpAnyM_last rfl (by kernel_rfl) (fun K hK => ?_); rw [if_pos (by rfl)]; (try simp only [elem_laws]))
    clear hR
    go_simp
    refine hK _ _ ?_
    clear hK K
    (try simp only [put_laws])
    refine wpAnyM_done (by kernel_rfl) ?_ _
    have hx6 := HX4.out.below hb6 HX4.out.lt
    have HT6 := Lib.hid (HT4.out.trans (Turn.of_below hb6 (Nat.le_refl _)))
    have HX6 := Lib.hid hx6
    have cx := hx6.cell HS0.out
    have fx := hx6.frozen 2
    have lx := hx6.lt
    have HMU := Lib.hid (fun c V => mustBe_any c V)
    clear hb6 hx6
    cases rok with
    | false =>
      go_wp2_with (go_at_call 48; refine (HMU.out _ _).mono ?_; rintro e w' (⟨h2, -, -⟩ | ⟨-, rfl, rfl⟩); · cases h2)
      refine ⟨rfl, HT6.out.narrow (fun k hk h => by omega), .inr ⟨rfl, ?_, HX6.out⟩⟩
      rw [HRD.out, if_neg (by rintro ⟨-, h⟩; cases h)]
    | true =>
      go_wp2_with (go_at_call 48; refine (HMU.out _ _).mono ?_; rintro e w' (⟨-, ⟨u, rfl⟩, rfl⟩ | ⟨h2, -, -⟩); rotate_left; · cases h2)
      first
      | go_end0
      | refine bodyPost_ret (results_none rfl _ _ _) rfl ?_
      refine ⟨(HT6.out.narrow (fun k hk h => by omega)).trans (Turn.setCell (q := fun k => k = b) w' _ rfl), .inl ⟨_, x.setIfInBounds 2 (encStr rs), rfl, ?_, HX6.out.set 2 _⟩⟩
      rw [HRD.out, if_pos ⟨HLE.out, by first | rfl | trivial⟩]
  · have HGT := Lib.hid hgt
    refine ⟨rfl, HT4.out.narrow (fun k hk h => by omega), .inr ⟨rfl, ?_, HX4.out⟩⟩
    rw [HRD.out, if_neg (by rintro ⟨h, -⟩; have := HGT.out; omega)]
theorem namedS_good {l : List Int} (hl : Line8 l) {x y : Array Value} (hx : GoodE x) (h : namedS.rd l x = some y) : GoodE y := by
  have h2 : (if l[2]?.getD 0 ≤ 1024 ∧ isRead (nat5 l) (l[2]?.getD 0) = true then some (x.setIfInBounds 2 (encStr (readN (nat5 l) (l[2]?.getD 0)))) else none) = some y := h
  split at h2
  · rw [← Option.some.inj h2]
    refine ⟨by rw [Array.size_setIfInBounds]; exact hx.1, fun j hj => ?_, readN (nat5 l) (l[2]?.getD 0), ?_, ?_⟩
    · obtain ⟨m, hm, h3⟩ := hx.2.1 j hj
      exact ⟨m, by rw [Array.getElem?_setIfInBounds_ne (by omega)]; exact hm, h3⟩
    · rw [Array.getElem?_setIfInBounds_self]; simp [hx.1]
    · unfold readN
      rw [List.length_take, txtN_length, nat5_length hl]
      omega
  · cases h2
theorem named_part (w : World) : NdPart GoodE 44 w ⟨116, #[], 118, #[], 120, #[], namedS⟩ where
  e0 := enters_of Tryz.func116 (by kernel_rfl) rfl
  e1 := enters_of Tryz.func118 (by kernel_rfl) rfl
  e2 := enters_of Tryz.func120 (by kernel_rfl) rfl
  mayBe x W hx _ := by
    obtain ⟨s, hs, -⟩ := hx.2.2
    have h := namedMay W x s hs
    show Calls _ _ _ _ fun e w' => e = .returned (.bool (rightN (txtAt x 2))) ∧ _
    rw [txtAt_of hs]
    exact h
  write x l b W hx ho hl _ _ hb := by
    obtain ⟨s, hs, -⟩ := hx.2.2
    have ho2 : rightN (txtAt x 2) = true := ho
    rw [txtAt_of hs] at ho2
    have h := namedWrite W x s hs ho2 b l hl hb
    show Calls _ _ _ _ fun e w' => (∃ u, e = .returned u) ∧ Blk w' b _ (lnA ((l.set 2 ((txtAt x 2).length : Nat)).take 3 ++ fiveI (txtAt x 2))) ∧ _
    rw [txtAt_of hs]
    exact h
  read x l b W hx hl _ _ hb := by
    obtain ⟨s, hs, -⟩ := hx.2.2
    exact namedRead W x s hs b l hl hb
  wrLine x l hx ho hl := by
    obtain ⟨s, hs, hls⟩ := hx.2.2
    show Line8 ((l.set 2 ((txtAt x 2).length : Nat)).take 3 ++ fiveI (txtAt x 2))
    rw [txtAt_of hs]
    refine ⟨by rw [List.length_append, List.length_take, List.length_set, fiveI_length, hl.1]; rfl, fun z hz => ?_⟩
    rcases List.mem_append.1 hz with hz | hz
    · exact (hl.set 2 (x := ((s.length : Nat) : Int)) (by omega) (by omega)).2 z (List.mem_of_mem_take hz)
    · obtain ⟨i, -, rfl⟩ := List.mem_map.1 hz
      have := wordsN_64 s i
      omega
  rdGood x l y hx hl h := namedS_good hl hx h
def entrySpecs : List NdS := [numS 0 0 0 1023, numS 1 1 1 1023, namedS]
set_option maxRecDepth 100000 in
set_option maxHeartbeats 4000000 in
theorem entryLine_any (w : World) : Calls Tryz.prog 24 #[] w fun e w' => ∃ v ps, e = .returned v ∧ Below w.heap.size w w' ∧ KindAtE w' v ps ∧ (∀ p ∈ ps, NdPart GoodE 44 w' p) ∧ ps.map (·.S) = entrySpecs := by
  have hmg : ∀ W, Calls Tryz.prog 71 #[] W fun e w' => e = .returned (.agg #[.func (.func 116) #[] #[], .func (.func 118) #[] #[], .func (.func 120) #[] #[]]) ∧ Below W.heap.size W w' := fun W => by
    go_enter Tryz.func71, Tryz.ntmps71
    go_wp2
    refine bodyPost_ret (v := .agg #[.func (.func 116) #[] #[], .func (.func 118) #[] #[], .func (.func 120) #[] #[]]) (by simp [results, Tryz.results71, go_sem]) rfl ⟨rfl, (by repeat (first | exact Below.refl _ _ | assumption | refine Below.drew ?_ | refine below_drewN ?_ _ | refine Below.alloc ?_ (by (try simp) <;> omega) _ | refine Below.setCell ?_ (by (try simp) <;> omega) _ | refine Below.trans ?_ (Below.mono (by assumption) (by (try simp) <;> omega))))⟩
  have HMG := Lib.hid hmg
  have HN1 := Lib.hid (fun W => numbered_E (Good := GoodE) (wd := 0) (by decide) (goodE_num (by decide)) W (field_next W) pointed_lies)
  have HN2 := Lib.hid (fun W => numbered_E (Good := GoodE) (wd := 1) (by decide) (goodE_num (by decide)) W (field_node W) needed_lies)
  clear hmg
  go_enter Tryz.func24, Tryz.ntmps24
  go_wp2_with fail
  refine (HN1.out _).mono ?_
  rintro e w1 ⟨p1, rfl, hb1, hp1, hs1⟩
  have HB1 := Lib.hid hb1
  have HP1 := Lib.hid hp1
  have HS1 := Lib.hid hs1
  clear hb1 hp1 hs1
  go_wp2_with fail
  refine (HN2.out _).mono ?_
  rintro e w2 ⟨p2, rfl, hb2, hp2, hs2⟩
  have HB2 := Lib.hid (HB1.out.trans (hb2.mono HB1.out.size))
  have HP12 := Lib.hid (HP1.out.below hb2)
  have HP2 := Lib.hid hp2
  have HS2 := Lib.hid hs2
  clear hb2 hp2 hs2
  go_wp2_with fail
  refine (HMG.out _).mono ?_
  rintro e w3 ⟨rfl, hb3⟩
  have HB3 := Lib.hid (HB2.out.trans (hb3.mono HB2.out.size))
  have HP13 := Lib.hid (HP12.out.below hb3)
  have HP23 := Lib.hid (HP2.out.below hb3)
  clear hb3
  go_wp2_with fail
  have hb4 : Below w3.heap.size w3 (w3.alloc (.cells (flatC partC [p1, p2, ⟨116, #[], 118, #[], 120, #[], namedS⟩]).toArray 161)) := (Below.refl _ _).alloc (Nat.le_refl _) _
  refine bodyPost_ret (results_tmp rfl _ _ _) rfl ⟨_, [p1, p2, ⟨116, #[], 118, #[], 120, #[], namedS⟩], rfl, HB3.out.trans (hb4.mono HB3.out.size), ⟨⟨w3.heap.size, 3, rfl, by simp, fun k hk => cells_new w3 _ _ k hk⟩, by simp⟩, ?_, ?_⟩
  · intro p hp
    rcases List.mem_cons.1 hp with rfl | hp
    · exact HP13.out.below hb4
    rcases List.mem_cons.1 hp with rfl | hp
    · exact HP23.out.below hb4
    rcases List.mem_cons.1 hp with rfl | hp
    · exact named_part _
    · cases hp
  · simp only [List.map_cons, List.map_nil, HS1.out, HS2.out]
    rfl
end Go.Proofs.YtaebipopmefkpaaGreatDoor

/-
  node: PutEntry, GetEntry. Written by gen_nd.py.
-/
namespace Go.Proofs.YtaebipopmefkpaaGreatDoor
open Go.RowKit Go.Shelf Go.Sort
attribute [local go_sem] Oper.semAt_some

set_option maxRecDepth 100000 in
set_option maxHeartbeats 4000000 in
theorem putEntry_any (x : Array Value) (hx : GoodE x) (w : World) (ht : Tabs w) :
    Calls Tryz.prog 37 #[.agg x] w fun e w' => e = .returned (.tuple #[.agg (lnA (putSp entrySpecs x)), .int .i64 (putSpE entrySpecs x)]) ∧ Line8 (putSp entrySpecs x) ∧ Below w.heap.size w w' := by
  obtain ⟨W1, hW1⟩ : ∃ W1, ((w.alloc (.cells x 44)).alloc (.cells (lnA zeros8) 23)).drew = W1 := ⟨_, rfl⟩
  have hb1 : Below w.heap.size w W1 := by rw [← hW1]; exact (by repeat (first | exact Below.refl _ _ | assumption | refine Below.drew ?_ | refine below_drewN ?_ _ | refine Below.alloc ?_ (by (try simp) <;> omega) _ | refine Below.setCell ?_ (by (try simp) <;> omega) _ | refine Below.trans ?_ (Below.mono (by assumption) (by (try simp) <;> omega))))
  have hx1 : Blk W1 w.heap.size 44 x := by rw [← hW1]; exact (Blk.new w _ _).below (n := w.heap.size + 1) (by refine Below.drew ?_; exact (Below.refl _ _).alloc (by simp) _) (Nat.lt_succ_self _)
  have hr1 : Blk W1 (w.heap.size + 1) 23 (lnA zeros8) := by
    rw [← hW1]
    have h := Blk.new (w.alloc (.cells x 44)) 23 (lnA zeros8)
    rwa [World.size_alloc] at h
  have HW1 : Hid (((w.alloc (.cells x 44)).alloc (.cells #[.int .u64 0, .int .u64 0, .int .u64 0, .int .u64 0, .int .u64 0, .int .u64 0, .int .u64 0, .int .u64 0] 23)).drew = W1) := show _ = _ from hW1
  have HLN := Lib.hid (fun V (ht : Tabs V) => entryLine_any V)
  have HT1 : Hid (Tabs W1) := show Tabs _ from ht.below hb1 ht.room
  have HX := Lib.hid hx
  have hsz : x.size = 3 := hx.1
  have HLD := Lib.hid (fun V (h : Blk V w.heap.size 44 x) => h.load (tt := 44) Tryz.underlying44 rfl (by rw [hsz]; kernel_rfl))
  have HX1 := Lib.hid hx1
  have HR1 := Lib.hid hr1
  have HB1 := Lib.hid hb1
  have HSZ := Lib.hid hsz
  have hR : (fun V : World => (Instr.loadAt 44 (.pointer (some ⟨w.heap.size, 0, none⟩))).run Tryz.prog V = .ok (.agg x) V) W1 := HLD.out _ hx1
  clear hW1 hb1 hx1 hr1 ht hx hsz
  go_enter Tryz.func37, Tryz.ntmps37
  go_wp2_with fail
  refine wp_region_M 5 (fun V : World => (Instr.loadAt 44 (.pointer (some ⟨w.heap.size, 0, none⟩))).run Tryz.prog V = .ok (.agg x) V) (by kernel_rfl) ?_
  rw [HW1.out]
  refine wpAnyM_take2 8 (i := 1) (v := _) rfl (by kernel_rfl) (by kernel_rfl) (fun _ _ _ h => h) (Or.inl ⟨by rfl, fun w hSw => nd_exec_load rfl rfl hSw⟩) hR ?_
  (try simp only [put_laws])
  (refine wpAnyM_one (i := 0) rfl (by kernel_rfl) (fun K hK => ?_); rw [if_pos (by rfl)]; (try simp only [elem_laws]))
  go_simp
  refine (HLN.out W1 HT1.out).mono ?_
  rintro e w2 ⟨v, ps, rfl, hb2, hk2, hp2, hs2⟩
  have hx2 := HX1.out.below hb2 HX1.out.lt
  have hr2 := HR1.out.below hb2 HR1.out.lt
  have hR2 : (fun V : World => (Instr.loadAt 44 (.pointer (some ⟨w.heap.size, 0, none⟩))).run Tryz.prog V = .ok (.agg x) V) w2 := HLD.out _ hx2
  refine hK _ _ (fun _ => hR2) ?_
  clear hK K hR
  have HPK := Lib.hid (putK_E x HX.out HSZ.out w2 hk2 hp2)
  have h8 := putOut_len HX.out ps hp2
  rw [put_sp, hs2] at h8
  rw [put_sp, putE_sp, hs2] at HPK
  have H8 := Lib.hid h8
  have HX2 := Lib.hid hx2
  have HR2 := Lib.hid hr2
  have HB2 := Lib.hid (HB1.out.trans (hb2.mono HB1.out.size))
  clear hb2 hk2 hp2 hs2 hx2 hr2 h8
  obtain ⟨O, hO⟩ : ∃ O, putSp entrySpecs x = O := ⟨_, rfl⟩
  obtain ⟨E, hE⟩ : ∃ E, putSpE entrySpecs x = E := ⟨_, rfl⟩
  have HO := Lib.hid hO
  have HE := Lib.hid hE
  rw [hO, hE] at HPK
  rw [hO] at H8
  clear hO hE
  (try simp only [put_laws])
  (refine wpAnyM_one (i := 2) rfl (by kernel_rfl) (fun K hK => ?_); rw [if_pos (by rfl)]; (try simp only [elem_laws]))
  go_simp
  refine HPK.out.mono ?_
  rintro e w3 ⟨rfl, hb3⟩
  have hx3 := HX2.out.below hb3 HX2.out.lt
  have hr3 := HR2.out.below hb3 HR2.out.lt
  have hR3 : (fun V : World => (Instr.loadAt 44 (.pointer (some ⟨w.heap.size, 0, none⟩))).run Tryz.prog V = .ok (.agg x) V) w3 := HLD.out _ hx3
  refine hK _ _ (fun _ => hR3) ?_
  clear hK K hR2
  have hR := hR3
  clear hR3
  have HR3 := Lib.hid hr3
  have HB3 := Lib.hid (HB2.out.trans (hb3.mono HB2.out.size))
  clear hb3 hx3 hr3
  (try simp only [put_laws])
  (refine wpAnyM_take2 8 (i := 3) (v := ?_) rfl (by kernel_rfl) (by kernel_rfl) (fun _ _ _ h => h) (Or.inl ⟨by rfl, ?_⟩) hR ?_; rotate_left; (focus (intro w hSw; (try dsimp only at hSw); go_simp; (try with_reducible rfl))); (try simp only [put_laws])); (refine wpAnyM_take2 8 (i := 4) (v := ?_) rfl (by kernel_rfl) (by kernel_rfl) (fun _ _ _ h => h) (Or.inl ⟨by rfl, ?_⟩) hR ?_; rotate_left; (focus (intro w hSw; (try dsimp only at hSw); go_simp; (try with_reducible rfl))); (try simp only [put_laws]))
  (refine wpAnyM_last rfl (by kernel_rfl) (fun K hK => ?_); rw [if_pos (by rfl)]; (try simp only [elem_laws]))
  clear hR
  obtain ⟨W4, hst, hr4, ht4⟩ := HR3.out.store (P := Tryz.prog) (tt := 23) (Y := lnA O) (by rw [lnA_size, H8.out.1]; kernel_rfl) (by rw [lnA_size, lnA_size, H8.out.1]; rfl) (lnA_one _)
  refine nd_store_eq 23 _ _ rfl _ _ rfl rfl hst ?_
  refine hK _ _ ?_
  clear hK K
  (try simp only [put_laws])
  (refine wpAnyM_one (i := 6) rfl (by kernel_rfl) (fun K hK => ?_); rw [if_pos (by rfl)]; (try simp only [elem_laws]))
  go_simp
  refine hK _ _ (fun h => by cases h) ?_
  clear hK K
  (try simp only [put_laws])
  refine wpAnyM_done (by kernel_rfl) ?_ _
  have HR4 := Lib.hid hr4
  have HT4 := Lib.hid ht4
  clear hst hr4 ht4
  go_wp2_with fail
  exact bodyPost_ret (results_cell_tmp (fn := Tryz.f37) rfl rfl (HR4.out.loadVar (tt := 23) Tryz.underlying23 rfl (by rw [lnA_size, H8.out.1]; kernel_rfl)) rfl) rfl ⟨by rw [HO.out, HE.out]; rfl, by rw [HO.out]; exact H8.out, HB3.out.trans (HT4.out.below (B := w.heap.size) (fun k h => by omega) HB3.out.size)⟩
end Go.Proofs.YtaebipopmefkpaaGreatDoor

/-
  node: numbers of a line of api.Map. Written by gen_nd.py.
-/
namespace Go.Proofs.YtaebipopmefkpaaGreatDoor
open Go.RowKit Go.Shelf Go.Sort
attribute [local go_sem] Oper.semAt_some

set_option maxRecDepth 100000 in
set_option maxHeartbeats 4000000 in
theorem numMay_M {ff fl : FuncId} {lbf : Array Value} {i : Nat} {lo hi n : Int} (w : World) (pl pf : Nat) (hF : FieldAt w ff lbf i) (hL : LiesAt fl lo hi) (x : Array Value) (hn : x[i]? = some (.int .i64 n))
    (hbl : Boxed w pl 110 (.func (.func fl) #[] #[])) (hbf : Boxed w pf 141 (.func (.func ff) #[] lbf)) :
    Calls Tryz.prog 101 #[.agg x, .pointer (some ⟨pl, 0, none⟩), .pointer (some ⟨pf, 0, none⟩)] w fun e w' => e = .returned (.bool (inB (n, lo, hi))) ∧ Below w.heap.size w w' := by
  obtain ⟨W1, hW1⟩ : ∃ W1, (w.alloc (.cells x 36)).drew = W1 := ⟨_, rfl⟩
  have hb1 : Below w.heap.size w W1 := by rw [← hW1]; exact (by repeat (first | exact Below.refl _ _ | assumption | refine Below.drew ?_ | refine below_drewN ?_ _ | refine Below.alloc ?_ (by (try simp) <;> omega) _ | refine Below.setCell ?_ (by (try simp) <;> omega) _ | refine Below.trans ?_ (Below.mono (by assumption) (by (try simp) <;> omega))))
  have hx1 : Blk W1 w.heap.size 36 x := by rw [← hW1]; exact Blk.new _ _ _
  have hbl1 : Boxed W1 pl 110 (.func (.func fl) #[] #[]) := (hb1.block _ hbl.lt).trans hbl
  have hbf1 : Boxed W1 pf 141 (.func (.func ff) #[] lbf) := (hb1.block _ hbf.lt).trans hbf
  have HFC := Lib.hid ((hF.below hb1).2 w.heap.size W1 (Below.refl _ _))
  have HLC := Lib.hid (fun W => hL.2 n W)
  have eF : ∀ args W, (callFunc ff args).run Tryz.prog W = .ok (.enter ff args) W := hF.1
  have eL : ∀ args W, (callFunc fl args).run Tryz.prog W = .ok (.enter fl args) W := hL.1
  have HW1 := Lib.hid hW1
  have HB1 := Lib.hid hb1
  have HX1 := Lib.hid hx1
  have HN := Lib.hid hn
  have hR : (fun W : World => W.cell? ⟨pl, 0, none⟩ = some (.func (.func fl) #[] #[]) ∧ W.cell? ⟨pf, 0, none⟩ = some (.func (.func ff) #[] lbf)) W1 := ⟨hbl1.cell, hbf1.cell⟩
  have HBL := Lib.hid hbl1
  have HBF := Lib.hid hbf1
  clear hW1 hb1 hx1 hbl1 hbf1 hF hL hn hbl hbf
  go_enter Tryz.func101, Tryz.ntmps101
  go_wp2_with fail
  refine wp_region_M 8 (fun W : World => W.cell? ⟨pl, 0, none⟩ = some (.func (.func fl) #[] #[]) ∧ W.cell? ⟨pf, 0, none⟩ = some (.func (.func ff) #[] lbf)) (by kernel_rfl) ?_
  rw [HW1.out]
  (refine wpAnyM_take2 8 (i := 0) (v := ?_) rfl (by kernel_rfl) (by kernel_rfl) (fun _ _ _ h => h) (Or.inl ⟨by rfl, ?_⟩) hR ?_; rotate_left; (focus (intro w hSw; (try dsimp only at hSw); go_simp; (try with_reducible rfl))); (try simp only [put_laws])); (refine wpAnyM_take2 8 (i := 1) (v := ?_) rfl (by kernel_rfl) (by kernel_rfl) (fun _ _ _ h => h) (Or.inl ⟨by rfl, ?_⟩) hR ?_; rotate_left; (focus (intro w hSw; (try dsimp only at hSw); go_simp; (try with_reducible rfl))); (try simp only [put_laws]))
  (refine wpAnyM_one (i := 2) rfl (by kernel_rfl) (fun K hK => ?_); rw [if_pos (by rfl)]; (try simp only [elem_laws]))
  go_simp
  refine HFC.out.mono ?_
  rintro e w2 ⟨rfl, hb2⟩
  have h2l : Boxed w2 pl 110 (.func (.func fl) #[] #[]) := (hb2.block _ HBL.out.lt).trans HBL.out
  have h2f : Boxed w2 pf 141 (.func (.func ff) #[] lbf) := (hb2.block _ HBF.out.lt).trans HBF.out
  have hx2 := HX1.out.below hb2 HX1.out.lt
  have hR2 : (fun W : World => W.cell? ⟨pl, 0, none⟩ = some (.func (.func fl) #[] #[]) ∧ W.cell? ⟨pf, 0, none⟩ = some (.func (.func ff) #[] lbf)) w2 := ⟨h2l.cell, h2f.cell⟩
  refine hK _ _ (fun _ => hR2) ?_
  clear hK K hR
  have HB2 := Lib.hid (HB1.out.trans (hb2.mono HB1.out.size))
  have H2L := Lib.hid h2l
  have H2F := Lib.hid h2f
  have cx := hx2.cell HN.out
  clear hb2 h2l h2f hx2
  (try simp only [put_laws])
  (refine wpAnyM_one (i := 3) rfl (by kernel_rfl) (fun K hK => ?_); rw [if_pos (by rfl)]; (try simp only [elem_laws]))
  go_simp
  refine hK _ _ (fun _ => hR2) ?_
  clear hK K
  (try simp only [put_laws])
  (refine wpAnyM_one (i := 4) rfl (by kernel_rfl) (fun K hK => ?_); rw [if_pos (by rfl)]; (try simp only [elem_laws]))
  go_simp
  refine hK _ _ (fun _ => hR2) ?_
  clear hK K
  (try simp only [put_laws])
  (refine wpAnyM_one (i := 5) rfl (by kernel_rfl) (fun K hK => ?_); rw [if_pos (by rfl)]; (try simp only [elem_laws]))
  go_simp
  refine (HLC.out w2).mono ?_
  rintro e w3 ⟨rfl, hb3⟩
  have h3l : Boxed w3 pl 110 (.func (.func fl) #[] #[]) := (hb3.block _ H2L.out.lt).trans H2L.out
  have h3f : Boxed w3 pf 141 (.func (.func ff) #[] lbf) := (hb3.block _ H2F.out.lt).trans H2F.out
  have hR3 : (fun W : World => W.cell? ⟨pl, 0, none⟩ = some (.func (.func fl) #[] #[]) ∧ W.cell? ⟨pf, 0, none⟩ = some (.func (.func ff) #[] lbf)) w3 := ⟨h3l.cell, h3f.cell⟩
  refine hK _ _ (fun _ => hR3) ?_
  clear hK K hR2 cx
  have HB3 := Lib.hid (HB2.out.trans (hb3.mono HB2.out.size))
  have H3L := Lib.hid h3l
  have H3F := Lib.hid h3f
  clear hb3 h3l h3f
  (try simp only [put_laws])
  (refine wpAnyM_one (i := 6) rfl (by kernel_rfl) (fun K hK => ?_); rw [if_pos (by rfl)]; (try simp only [elem_laws]))
  go_simp
  obtain ⟨W4, hW4⟩ : ∃ W4, w3.alloc (.cells #[.int .i64 n, .int .i64 lo, .int .i64 hi] 112) = W4 := ⟨_, rfl⟩
  have hb4 : Below w3.heap.size w3 W4 := by rw [← hW4]; exact (Below.refl _ _).alloc (Nat.le_refl _) _
  have hbd : BoundsAt W4 w3.heap.size [(n, lo, hi)] := by rw [← hW4]; exact bounds_one n lo hi
  have h4l : Boxed W4 pl 110 (.func (.func fl) #[] #[]) := (hb4.block _ H3L.out.lt).trans H3L.out
  have h4f : Boxed W4 pf 141 (.func (.func ff) #[] lbf) := (hb4.block _ H3F.out.lt).trans H3F.out
  have hR4 : (fun W : World => W.cell? ⟨pl, 0, none⟩ = some (.func (.func fl) #[] #[]) ∧ W.cell? ⟨pf, 0, none⟩ = some (.func (.func ff) #[] lbf)) W4 := ⟨h4l.cell, h4f.cell⟩
  rw [hW4]
  refine hK _ _ (fun _ => hR4) ?_
  clear hK K hR3
  have HB4 := Lib.hid (HB3.out.trans (hb4.mono HB3.out.size))
  have H4L := Lib.hid h4l
  have H4F := Lib.hid h4f
  have HWI := Lib.hid (within_any [(n, lo, hi)] (by simp) w3.heap.size W4 hbd)
  clear hb4 h4l h4f hW4 hbd
  (try simp only [put_laws])
  (refine wpAnyM_one (i := 7) rfl (by kernel_rfl) (fun K hK => ?_); rw [if_pos (by rfl)]; (try simp only [elem_laws]))
  go_simp
  refine HWI.out.mono ?_
  rintro e w5 ⟨rfl, hb5⟩
  have h5l : Boxed w5 pl 110 (.func (.func fl) #[] #[]) := (hb5.block _ H4L.out.lt).trans H4L.out
  have h5f : Boxed w5 pf 141 (.func (.func ff) #[] lbf) := (hb5.block _ H4F.out.lt).trans H4F.out
  have hR5 : (fun W : World => W.cell? ⟨pl, 0, none⟩ = some (.func (.func fl) #[] #[]) ∧ W.cell? ⟨pf, 0, none⟩ = some (.func (.func ff) #[] lbf)) w5 := ⟨h5l.cell, h5f.cell⟩
  refine hK _ _ (fun _ => hR5) ?_
  clear hK K hR4 hR5
  have HB5 := Lib.hid (HB4.out.trans (hb5.mono HB4.out.size))
  clear hb5 h5l h5f
  (try simp only [put_laws])
  (refine wpAnyM_last rfl (by kernel_rfl) (fun K hK => ?_); rw [if_pos (by rfl)]; (try simp only [elem_laws]))
  go_simp
  refine hK _ _ ?_
  clear hK K
  (try simp only [put_laws])
  refine wpAnyM_done (by kernel_rfl) ?_ _
  go_wp2_with fail
  go_ret
  exact ⟨by simp [], HB5.out⟩
set_option maxRecDepth 100000 in
set_option maxHeartbeats 4000000 in
theorem numWrite_M {ff : FuncId} {lbf : Array Value} {i wd : Nat} {n : Int} (hwd : wd < 8) (w : World) (pa pf b : Nat) (l : List Int) (hl : Line8 l) (hF : FieldAt w ff lbf i) (x : Array Value) (hn : x[i]? = some (.int .i64 n)) (_hn0 : -9223372036854775808 ≤ n ∧ n < 9223372036854775808)
    (hba : Boxed w pa 3 (.int .i64 (wd : Nat))) (hbf : Boxed w pf 141 (.func (.func ff) #[] lbf)) (hbl : Blk w b 113 (lnA l)) :
    Calls Tryz.prog 102 #[.agg x, .pointer (some ⟨b, 0, none⟩), .pointer (some ⟨pf, 0, none⟩), .pointer (some ⟨pa, 0, none⟩)] w fun e w' => (∃ u, e = .returned u) ∧ Blk w' b 113 (lnA (l.set wd (n % 18446744073709551616))) ∧ Turn (fun k => k = b) w w' := by
  obtain ⟨W1, hW1⟩ : ∃ W1, (w.alloc (.cells x 36)).drew = W1 := ⟨_, rfl⟩
  have hb1 : Below w.heap.size w W1 := by rw [← hW1]; exact (by repeat (first | exact Below.refl _ _ | assumption | refine Below.drew ?_ | refine below_drewN ?_ _ | refine Below.alloc ?_ (by (try simp) <;> omega) _ | refine Below.setCell ?_ (by (try simp) <;> omega) _ | refine Below.trans ?_ (Below.mono (by assumption) (by (try simp) <;> omega))))
  have hx1 : Blk W1 w.heap.size 36 x := by rw [← hW1]; exact Blk.new _ _ _
  have hba1 : Boxed W1 pa 3 (.int .i64 (wd : Nat)) := (hb1.block _ hba.lt).trans hba
  have hbf1 : Boxed W1 pf 141 (.func (.func ff) #[] lbf) := (hb1.block _ hbf.lt).trans hbf
  have hbl1 := hbl.below hb1 hbl.lt
  have HFC := Lib.hid ((hF.below hb1).2 w.heap.size W1 (Below.refl _ _))
  have eF : ∀ args W, (callFunc ff args).run Tryz.prog W = .ok (.enter ff args) W := hF.1
  have HW1 := Lib.hid hW1
  have HB1 := Lib.hid hb1
  have HX1 := Lib.hid hx1
  have HN := Lib.hid hn
  have HL1 := Lib.hid hbl1
  have HL8 := Lib.hid hl
  have hw2 : (wd : Int) < 8 := by omega
  have hR : (fun W : World => W.cell? ⟨pa, 0, none⟩ = some (.int .i64 (wd : Nat)) ∧ W.cell? ⟨pf, 0, none⟩ = some (.func (.func ff) #[] lbf)) W1 := ⟨hba1.cell, hbf1.cell⟩
  have HBA := Lib.hid hba1
  have HBF := Lib.hid hbf1
  have HLB := Lib.hid hbl.lt
  clear hW1 hb1 hx1 hba1 hbf1 hbl1 hF hn hba hbf hbl hl
  go_enter Tryz.func102, Tryz.ntmps102
  go_wp2_with fail
  refine wp_region_M 9 (fun W : World => W.cell? ⟨pa, 0, none⟩ = some (.int .i64 (wd : Nat)) ∧ W.cell? ⟨pf, 0, none⟩ = some (.func (.func ff) #[] lbf)) (by kernel_rfl) ?_
  rw [HW1.out]
  (refine wpAnyM_take2 8 (i := 0) (v := ?_) rfl (by kernel_rfl) (by kernel_rfl) (fun _ _ _ h => h) (Or.inl ⟨by rfl, ?_⟩) hR ?_; rotate_left; (focus (intro w hSw; (try dsimp only at hSw); go_simp; (try with_reducible rfl))); (try simp only [put_laws])); (refine wpAnyM_take2 8 (i := 1) (v := ?_) rfl (by kernel_rfl) (by kernel_rfl) (fun _ _ _ h => h) (Or.inl ⟨by rfl, ?_⟩) hR ?_; rotate_left; (focus (intro w hSw; (try dsimp only at hSw); go_simp; (try with_reducible rfl))); (try simp only [put_laws])); (refine wpAnyM_take2 8 (i := 2) (v := ?_) rfl (by kernel_rfl) (by kernel_rfl) (fun _ _ _ h => h) (Or.inl ⟨by rfl, ?_⟩) hR ?_; rotate_left; (focus (intro w hSw; (try dsimp only at hSw); go_simp; (try with_reducible rfl))); (try simp only [put_laws])); (refine wpAnyM_take2 8 (i := 7) (v := ?_) rfl (by kernel_rfl) (by kernel_rfl) (fun _ _ _ h => h) (Or.inl ⟨by rfl, ?_⟩) hR ?_; rotate_left; (focus (intro w hSw; (try dsimp only at hSw); go_simp; (try with_reducible rfl))); (try simp only [put_laws]))
  (refine wpAnyM_one (i := 3) rfl (by kernel_rfl) (fun K hK => ?_); rw [if_pos (by rfl)]; (try simp only [elem_laws]))
  go_simp
  refine HFC.out.mono ?_
  rintro e w2 ⟨rfl, hb2⟩
  have h2a : Boxed w2 pa 3 (.int .i64 (wd : Nat)) := (hb2.block _ HBA.out.lt).trans HBA.out
  have h2f : Boxed w2 pf 141 (.func (.func ff) #[] lbf) := (hb2.block _ HBF.out.lt).trans HBF.out
  have hx2 := HX1.out.below hb2 HX1.out.lt
  have hl2 := HL1.out.below hb2 HL1.out.lt
  have hR2 : (fun W : World => W.cell? ⟨pa, 0, none⟩ = some (.int .i64 (wd : Nat)) ∧ W.cell? ⟨pf, 0, none⟩ = some (.func (.func ff) #[] lbf)) w2 := ⟨h2a.cell, h2f.cell⟩
  refine hK _ _ (fun _ => hR2) ?_
  clear hK K hR
  have HB2 := Lib.hid (HB1.out.trans (hb2.mono HB1.out.size))
  have cx := hx2.cell HN.out
  have cl := hl2.cell (lnA_at l wd (by rw [HL8.out.1]; exact hwd))
  have fl := hl2.frozen wd
  have ll := hl2.lt
  have HL2 := Lib.hid hl2
  clear hb2 h2a h2f hx2 hl2
  (try simp only [put_laws])
  (refine wpAnyM_one (i := 4) rfl (by kernel_rfl) (fun K hK => ?_); rw [if_pos (by rfl)]; (try simp only [elem_laws]))
  go_simp
  refine hK _ _ (fun _ => hR2) ?_
  clear hK K
  (try simp only [put_laws])
  (refine wpAnyM_one (i := 5) rfl (by kernel_rfl) (fun K hK => ?_); rw [if_pos (by rfl)]; (try simp only [elem_laws]))
  go_simp
  refine hK _ _ (fun _ => hR2) ?_
  clear hK K
  (try simp only [put_laws])
  (refine wpAnyM_one (i := 6) rfl (by kernel_rfl) (fun K hK => ?_); rw [if_pos (by rfl)]; (try simp only [elem_laws]))
  go_simp
  refine hK _ _ (fun _ => hR2) ?_
  clear hK K
  (try simp only [put_laws])
  (refine wpAnyM_one (i := 8) rfl (by kernel_rfl) (fun K hK => ?_); rw [if_pos (by rfl)]; (try simp only [elem_laws]))
  go_simp
  refine hK _ _ (fun _ => hR2) ?_
  clear hK K
  (try simp only [put_laws])
  (refine wpAnyM_last rfl (by kernel_rfl) (fun K hK => ?_); rw [if_pos (by rfl)]; (try simp only [elem_laws]))
  clear hR2
  go_simp
  refine hK _ _ ?_
  clear hK K
  (try simp only [put_laws])
  refine wpAnyM_done (by kernel_rfl) ?_ _
  go_wp2_with fail
  first
  | go_end0
  | refine bodyPost_ret (results_none rfl _ _ _) rfl ?_
  have h1 : Blk (w2.setCell ⟨b, wd, none⟩ (.int .u64 (IntKind.u64.wrap n))) b 113 (lnA (l.set wd (n % 18446744073709551616))) := by
    have h2 := HL2.out.set wd (.int .u64 (IntKind.u64.wrap n))
    rw [lnA_set] at h2
    exact h2
  exact ⟨⟨_, rfl⟩, h1, ((Turn.of_below HB2.out (Nat.le_refl _)).mono (fun k h => h)).trans (Turn.setCell w2 _ rfl)⟩
set_option maxRecDepth 100000 in
set_option maxHeartbeats 4000000 in
theorem numRead_M {ff : FuncId} {lbf : Array Value} {i wd : Nat} {n : Int} (hwd : wd < 8) (w : World) (pa pf b : Nat) (l : List Int) (hl : Line8 l) (hF : FieldAt w ff lbf i) (x : Array Value) (hn : x[i]? = some (.int .i64 n))
    (hba : Boxed w pa 3 (.int .i64 (wd : Nat))) (hbf : Boxed w pf 141 (.func (.func ff) #[] lbf)) (hbx : Blk w b 36 x) :
    Calls Tryz.prog 103 #[.agg (lnA l), .pointer (some ⟨b, 0, none⟩), .pointer (some ⟨pa, 0, none⟩), .pointer (some ⟨pf, 0, none⟩)] w fun e w' => Turn (fun k => k = b) w w' ∧
      ((∃ u y, e = .returned u ∧ rdNum (l[wd]?.getD 0) x i = some y ∧ Blk w' b 36 y) ∨ (e = .panicked noLine ∧ rdNum (l[wd]?.getD 0) x i = none ∧ Blk w' b 36 x)) := by
  obtain ⟨W1, hW1⟩ : ∃ W1, (w.alloc (.cells (lnA l) 113)).drew = W1 := ⟨_, rfl⟩
  have hb1 : Below w.heap.size w W1 := by rw [← hW1]; exact (by repeat (first | exact Below.refl _ _ | assumption | refine Below.drew ?_ | refine below_drewN ?_ _ | refine Below.alloc ?_ (by (try simp) <;> omega) _ | refine Below.setCell ?_ (by (try simp) <;> omega) _ | refine Below.trans ?_ (Below.mono (by assumption) (by (try simp) <;> omega))))
  have hl1 : Blk W1 w.heap.size 113 (lnA l) := by rw [← hW1]; exact Blk.new _ _ _
  have hba1 : Boxed W1 pa 3 (.int .i64 (wd : Nat)) := (hb1.block _ hba.lt).trans hba
  have hbf1 : Boxed W1 pf 141 (.func (.func ff) #[] lbf) := (hb1.block _ hbf.lt).trans hbf
  have hbx1 := hbx.below hb1 hbx.lt
  have hwl : wd < l.length := by rw [hl.1]; exact hwd
  have hy0 : 0 ≤ l[wd]?.getD 0 := by
    rw [List.getElem?_eq_getElem hwl, Option.getD_some]
    exact (hl.2 _ (List.getElem_mem hwl)).1
  have cly := hl1.cell (lnA_at l wd hwl)
  obtain ⟨y, hy⟩ : ∃ y, l[wd]?.getD 0 = y := ⟨_, rfl⟩
  rw [hy] at cly hy0 ⊢
  have HFC := Lib.hid ((hF.below hb1).2 b W1 (Below.refl _ _))
  have eF : ∀ args W, (callFunc ff args).run Tryz.prog W = .ok (.enter ff args) W := hF.1
  have HNU := Lib.hid (fun W => number_anyN y hy0 W)
  have HW1 := Lib.hid hW1
  have HB1 := Lib.hid hb1
  have HX1 := Lib.hid hbx1
  have HL1 := Lib.hid hl1
  have HN := Lib.hid hn
  have hw2 : (wd : Int) < 8 := by omega
  have hR : (fun W : World => W.cell? ⟨pa, 0, none⟩ = some (.int .i64 (wd : Nat)) ∧ W.cell? ⟨pf, 0, none⟩ = some (.func (.func ff) #[] lbf) ∧ W.cell? ⟨w.heap.size, wd, none⟩ = some (.int .u64 y)) W1 := ⟨hba1.cell, hbf1.cell, cly⟩
  have HBA := Lib.hid hba1
  have HBF := Lib.hid hbf1
  have HLB := Lib.hid hbx.lt
  clear hW1 hb1 hl1 hba1 hbf1 hbx1 hF hn hba hbf hbx hl hy hwl cly
  go_enter Tryz.func103, Tryz.ntmps103
  go_wp2_with fail
  refine wp_region_M 8 (fun W : World => W.cell? ⟨pa, 0, none⟩ = some (.int .i64 (wd : Nat)) ∧ W.cell? ⟨pf, 0, none⟩ = some (.func (.func ff) #[] lbf) ∧ W.cell? ⟨w.heap.size, wd, none⟩ = some (.int .u64 y)) (by kernel_rfl) ?_
  rw [HW1.out]
  (refine wpAnyM_take2 8 (i := 0) (v := ?_) rfl (by kernel_rfl) (by kernel_rfl) (fun _ _ _ h => h) (Or.inl ⟨by rfl, ?_⟩) hR ?_; rotate_left; (focus (intro w hSw; (try dsimp only at hSw); go_simp; (try with_reducible rfl))); (try simp only [put_laws])); (refine wpAnyM_take2 8 (i := 1) (v := ?_) rfl (by kernel_rfl) (by kernel_rfl) (fun _ _ _ h => h) (Or.inl ⟨by rfl, ?_⟩) hR ?_; rotate_left; (focus (intro w hSw; (try dsimp only at hSw); go_simp; (try with_reducible rfl))); (try simp only [put_laws])); (refine wpAnyM_take2 8 (i := 3) (v := ?_) rfl (by kernel_rfl) (by kernel_rfl) (fun _ _ _ h => h) (Or.inl ⟨by rfl, ?_⟩) hR ?_; rotate_left; (focus (intro w hSw; (try dsimp only at hSw); go_simp; (try with_reducible rfl))); (try simp only [put_laws])); (refine wpAnyM_take2 8 (i := 4) (v := ?_) rfl (by kernel_rfl) (by kernel_rfl) (fun _ _ _ h => h) (Or.inl ⟨by rfl, ?_⟩) hR ?_; rotate_left; (focus (intro w hSw; (try dsimp only at hSw); go_simp; (try with_reducible rfl))); (try simp only [put_laws])); (refine wpAnyM_take2 8 (i := 5) (v := ?_) rfl (by kernel_rfl) (by kernel_rfl) (fun _ _ _ h => h) (Or.inl ⟨by rfl, ?_⟩) hR ?_; rotate_left; (focus (intro w hSw; (try dsimp only at hSw); go_simp; (try with_reducible rfl))); (try simp only [put_laws]))
  (refine wpAnyM_one (i := 2) rfl (by kernel_rfl) (fun K hK => ?_); rw [if_pos (by rfl)]; (try simp only [elem_laws]))
  go_simp
  refine HFC.out.mono ?_
  rintro e w2 ⟨rfl, hb2⟩
  have h2a : Boxed w2 pa 3 (.int .i64 (wd : Nat)) := (hb2.block _ HBA.out.lt).trans HBA.out
  have h2f : Boxed w2 pf 141 (.func (.func ff) #[] lbf) := (hb2.block _ HBF.out.lt).trans HBF.out
  have h2l : w2.cell? ⟨w.heap.size, wd, none⟩ = some (.int .u64 y) := (hb2.cell (p := ⟨w.heap.size, wd, none⟩) HL1.out.lt).trans hR.2.2
  have hx2 := HX1.out.below hb2 HX1.out.lt
  have hR2 : (fun W : World => W.cell? ⟨pa, 0, none⟩ = some (.int .i64 (wd : Nat)) ∧ W.cell? ⟨pf, 0, none⟩ = some (.func (.func ff) #[] lbf) ∧ W.cell? ⟨w.heap.size, wd, none⟩ = some (.int .u64 y)) w2 := ⟨h2a.cell, h2f.cell, h2l⟩
  refine hK _ _ (fun _ => hR2) ?_
  clear hK K hR
  have HT2 : Hid (Turn (fun k => k = b) w w2) := show Turn _ _ _ from Turn.of_below (HB1.out.trans (hb2.mono HB1.out.size)) (Nat.le_refl _)
  have cx := hx2.cell HN.out
  have fx := hx2.frozen i
  have lx := hx2.lt
  have HX2 := Lib.hid hx2
  clear hb2 h2a h2f h2l hx2
  (try simp only [put_laws])
  (refine wpAnyM_one (i := 6) rfl (by kernel_rfl) (fun K hK => ?_); rw [if_pos (by rfl)]; (try simp only [elem_laws]))
  go_simp
  refine (HNU.out w2).mono ?_
  rintro e w3 ⟨rfl, ⟨hle, rfl⟩ | ⟨hgt, rfl⟩⟩
  · have HLE := Lib.hid hle
    clear hle
    refine hK _ _ (fun _ => hR2) ?_
    clear hK K
    (try simp only [put_laws])
    (refine wpAnyM_one (i := 7) rfl (by kernel_rfl) (fun K hK => ?_); rw [if_pos (by rfl)]; (try simp only [elem_laws]))
    go_simp
    refine hK _ _ (fun _ => hR2) ?_
    clear hK K
    (try simp only [put_laws])
    (refine wpAnyM_last rfl (by kernel_rfl) (fun K hK => ?_); rw [if_pos (by rfl)]; (try simp only [elem_laws]))
    clear hR2
    go_simp
    refine hK _ _ ?_
    clear hK K
    (try simp only [put_laws])
    refine wpAnyM_done (by kernel_rfl) ?_ _
    go_wp2_with fail
    first
    | go_end0
    | refine bodyPost_ret (results_none rfl _ _ _) rfl ?_
    exact ⟨HT2.out.trans (Turn.setCell w3 _ rfl), .inl ⟨_, _, rfl, if_pos HLE.out, HX2.out.set _ _⟩⟩
  · exact ⟨rfl, HT2.out, .inr ⟨rfl, if_neg (by omega), HX2.out⟩⟩
end Go.Proofs.YtaebipopmefkpaaGreatDoor

/-
  node: the part that is one number of a line of api.Map. Written by gen_nd.py.
-/
namespace Go.Proofs.YtaebipopmefkpaaGreatDoor
open Go.RowKit Go.Shelf Go.Sort
attribute [local go_sem] Oper.semAt_some

theorem numPart_M {Good : Array Value → Prop} {i wd : Nat} {lo hi : Int} {ff fl : FuncId} {lbf : Array Value} (hwd : wd < 8) (hG : NumGood Good i) (w : World) (hF : FieldAt w ff lbf i) (hL : LiesAt fl lo hi) (pa pf pl : Nat)
    (hba : Boxed w pa 3 (.int .i64 (wd : Nat))) (hbf : Boxed w pf 141 (.func (.func ff) #[] lbf)) (hbl : Boxed w pl 110 (.func (.func fl) #[] #[])) :
    NdPart Good 36 w ⟨101, #[.pointer (some ⟨pl, 0, none⟩), .pointer (some ⟨pf, 0, none⟩)], 102, #[.pointer (some ⟨pf, 0, none⟩), .pointer (some ⟨pa, 0, none⟩)], 103, #[.pointer (some ⟨pa, 0, none⟩), .pointer (some ⟨pf, 0, none⟩)], numS wd i lo hi⟩ where
  e0 := enters_of Tryz.func101 (by kernel_rfl) rfl
  e1 := enters_of Tryz.func102 (by kernel_rfl) rfl
  e2 := enters_of Tryz.func103 (by kernel_rfl) rfl
  mayBe x W hx hW := by
    obtain ⟨n, hn, h0, h1⟩ := hG.at_ x hx
    have h := numMay_M W pl pf (hF.below hW) hL x hn ((hW.block _ hbl.lt).trans hbl) ((hW.block _ hbf.lt).trans hbf)
    show Calls _ _ _ _ fun e w' => e = .returned (.bool (inB (numAt x i, lo, hi))) ∧ _
    rw [numAt_of hn]
    exact h
  write x l b W hx _ hl hW _ hb := by
    obtain ⟨n, hn, h0⟩ := hG.at_ x hx
    have h := numWrite_M hwd W pa pf b l hl (hF.below hW) x hn h0 ((hW.block _ hba.lt).trans hba) ((hW.block _ hbf.lt).trans hbf) hb
    show Calls _ _ _ _ fun e w' => (∃ u, e = .returned u) ∧ Blk w' b _ (lnA (l.set wd (numAt x i % 18446744073709551616))) ∧ _
    rw [numAt_of hn]
    exact h
  read x l b W hx hl hW _ hb := by
    obtain ⟨n, hn, h0⟩ := hG.at_ x hx
    exact numRead_M hwd W pa pf b l hl (hF.below hW) x hn ((hW.block _ hba.lt).trans hba) ((hW.block _ hbf.lt).trans hbf) hb
  wrLine x l _ _ hl := hl.set wd (Int.emod_nonneg _ (by decide)) (Int.emod_lt_of_pos _ (by decide))
  rdGood x l y hx hl h := by
    have h2 : rdNum (l[wd]?.getD 0) x i = some y := h
    unfold rdNum at h2
    have hwl : wd < l.length := by rw [hl.1]; exact hwd
    rw [List.getElem?_eq_getElem hwl, Option.getD_some] at h2
    have h3 := (hl.2 _ (List.getElem_mem hwl)).1
    split at h2
    · rename_i h4
      rw [← Option.some.inj h2]
      exact hG.set x _ hx h3 h4
    · cases h2
/-- What numbered tells, by its boxes. -/
abbrev numVM (n wd i : Nat) (lo hi : Int) : PartV := ⟨101, #[.pointer (some ⟨n + 1 + 1, 0, none⟩), .pointer (some ⟨n + 1, 0, none⟩)], 102, #[.pointer (some ⟨n + 1, 0, none⟩), .pointer (some ⟨n, 0, none⟩)], 103, #[.pointer (some ⟨n, 0, none⟩), .pointer (some ⟨n + 1, 0, none⟩)], numS wd i lo hi⟩
def NumBoxM (W : World) (n wd : Nat) (ff fl : FuncId) (lbf : Array Value) : Prop := Boxed W n 3 (.int .i64 (wd : Nat)) ∧ Boxed W (n + 1) 141 (.func (.func ff) #[] lbf) ∧ Boxed W (n + 1 + 1) 110 (.func (.func fl) #[] #[])
theorem numBox_partM {Good : Array Value → Prop} {i wd n : Nat} {lo hi : Int} {ff fl : FuncId} {lbf : Array Value} (hwd : wd < 8) (hG : NumGood Good i) (W : World) (hF : FieldAt W ff lbf i) (hL : LiesAt fl lo hi) (hB : NumBoxM W n wd ff fl lbf) : NdPart Good 36 W (numVM n wd i lo hi) :=
  numPart_M hwd hG W hF hL _ _ _ hB.1 hB.2.1 hB.2.2
theorem numberedX_M (i wd : Nat) (lo hi : Int) (ff fl : FuncId) (lbf : Array Value) (w : World) :
    Calls Tryz.prog 55 #[.int .i64 (wd : Nat), .func (.func ff) #[] lbf, .func (.func fl) #[] #[]] w fun e w' => e = .returned (.agg #[(numVM w.heap.size wd i lo hi).v0, (numVM w.heap.size wd i lo hi).v1, (numVM w.heap.size wd i lo hi).v2]) ∧ Below w.heap.size w w' ∧ NumBoxM w' w.heap.size wd ff fl lbf := by
  go_enter Tryz.func55, Tryz.ntmps55
  go_wp2
  generalize hW : World.alloc _ _ = W
  have hB : Below w.heap.size w W := by rw [← hW]; exact (by repeat (first | exact Below.refl _ _ | assumption | refine Below.drew ?_ | refine below_drewN ?_ _ | refine Below.alloc ?_ (by (try simp) <;> omega) _ | refine Below.setCell ?_ (by (try simp) <;> omega) _ | refine Below.trans ?_ (Below.mono (by assumption) (by (try simp) <;> omega))))
  have h0 : Boxed W w.heap.size 3 (.int .i64 (wd : Nat)) := by unfold Boxed; rw [← hW]; (simp only [heap_at, World.size_alloc]; repeat (first | rw [if_pos (by omega)] | rw [if_neg (by omega)] | rw [if_pos trivial]))
  have h1 : Boxed W (w.heap.size + 1) 141 (.func (.func ff) #[] lbf) := by unfold Boxed; rw [← hW]; (simp only [heap_at, World.size_alloc]; repeat (first | rw [if_pos (by omega)] | rw [if_neg (by omega)] | rw [if_pos trivial]))
  have h2 : Boxed W (w.heap.size + 1 + 1) 110 (.func (.func fl) #[] #[]) := by unfold Boxed; rw [← hW]; (simp only [heap_at, World.size_alloc]; repeat (first | rw [if_pos (by omega)] | rw [if_neg (by omega)] | rw [if_pos trivial]))
  have h3 : Blk W (w.heap.size + 1 + 1 + 1) 138 #[(numVM w.heap.size wd i lo hi).v0, (numVM w.heap.size wd i lo hi).v1, (numVM w.heap.size wd i lo hi).v2] := by unfold Blk; rw [← hW]; (simp only [heap_at, World.size_alloc]; repeat (first | rw [if_pos (by omega)] | rw [if_neg (by omega)] | rw [if_pos trivial]))
  exact bodyPost_ret (results_cell (fn := Tryz.f55) rfl rfl (h3.loadVar (tt := 138) Tryz.underlying138 rfl (by kernel_rfl))) rfl ⟨rfl, hB, h0, h1, h2⟩
theorem numbered_M {Good : Array Value → Prop} {i wd : Nat} {lo hi : Int} {ff fl : FuncId} {lbf : Array Value} (hwd : wd < 8) (hG : NumGood Good i) (w : World) (hF : FieldAt w ff lbf i) (hL : LiesAt fl lo hi) :
    Calls Tryz.prog 55 #[.int .i64 (wd : Nat), .func (.func ff) #[] lbf, .func (.func fl) #[] #[]] w fun e w' => ∃ p : PartV, e = .returned (.agg #[p.v0, p.v1, p.v2]) ∧ Below w.heap.size w w' ∧ NdPart Good 36 w' p ∧ p.S = numS wd i lo hi :=
  (numberedX_M i wd lo hi ff fl lbf w).mono fun _e w' ⟨he, hb, hx⟩ => ⟨_, he, hb, numBox_partM hwd hG w' (hF.below hb) hL hx, rfl⟩
end Go.Proofs.YtaebipopmefkpaaGreatDoor
