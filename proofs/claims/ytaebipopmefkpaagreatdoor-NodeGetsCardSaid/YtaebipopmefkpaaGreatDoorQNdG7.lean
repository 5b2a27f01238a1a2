/-
  node: the document's answers: GetEntry. Written by gen_ndg7.py.
-/
import Derived.Test.YtaebipopmefkpaaGreatDoorQNdG4
import Derived.Test.YtaebipopmefkpaaGreatDoorMn22
namespace Go.Proofs.YtaebipopmefkpaaGreatDoor
open Go.RowKit Go.Shelf
attribute [local go_sem] Oper.semAt_some

/-- What Read told. -/
def rdTxt (l : List Int) : List UInt8 := if isRead (nat5 l) (smN (l[2]?.getD 0)) then readN (nat5 l) (smN (l[2]?.getD 0)) else []
def rdIs (l : List Int) : Bool := isRead (nat5 l) (smN (l[2]?.getD 0))
theorem smN_low (x : Int) (h : 0 ≤ x) : -9223372036854775808 ≤ smN x := by
  unfold smN
  split <;> omega
set_option maxRecDepth 100000 in
set_option maxHeartbeats 16000000 in
theorem refGetEntry_any (l : List Int) (hl : Line8 l) (x0 x1 : Int) (h0 : smN (l[0]?.getD 0) = x0) (h1 : smN (l[1]?.getD 0) = x1) (s : List UInt8) (hs : rdTxt l = s) (q r : Bool) (hq : rdIs l = q) (hr : okSp entrySpecs #[.int .i64 x0, .int .i64 x1, encStr s] = r) (w : World) :
    Calls Tryz.prog 13 #[.agg (lnA l)] w fun e w' => e = .returned (.tuple #[.agg (if (q && r) = true then #[.int .i64 x0, .int .i64 x1, encStr s] else ndZeroE), .bool (q && r)]) ∧ Below w.heap.size w w' := by
  obtain ⟨X, hX⟩ : ∃ X, lnA l = X := ⟨_, rfl⟩
  obtain ⟨x2, h2⟩ : ∃ x, smN (l[2]?.getD 0) = x := ⟨_, rfl⟩
  have hx2 := smN_low _ (line8_nat hl 2)
  rw [h2] at hx2
  obtain ⟨t, hS⟩ : ∃ t, encStr s = .string t := ⟨_, rfl⟩
  have HRE : Hid (∀ W, Calls Tryz.prog 34 #[.agg #[.int .i64 x0, .int .i64 x1, .string t]] W fun e w' => e = .returned (.bool r) ∧ Below W.heap.size W w') := show ∀ W, _ from fun W => by
    rw [← hr, ← hS]
    exact refRightEntry_any x0 x1 s W
  have HS0 : Hid (∀ W, Calls Tryz.prog 26 #[.int .u64 (l[0]?.getD 0)] W fun e w' => e = .returned (.int .i64 x0) ∧ W = w') := show ∀ W, _ from fun W => by
    rw [← h0]
    exact refSmall_any _ (line8_nat hl 0) W
  have HS1 : Hid (∀ W, Calls Tryz.prog 26 #[.int .u64 (l[1]?.getD 0)] W fun e w' => e = .returned (.int .i64 x1) ∧ W = w') := show ∀ W, _ from fun W => by
    rw [← h1]
    exact refSmall_any _ (line8_nat hl 1) W
  have HS2 : Hid (∀ W, Calls Tryz.prog 26 #[.int .u64 (l[2]?.getD 0)] W fun e w' => e = .returned (.int .i64 x2) ∧ W = w') := show ∀ W, _ from fun W => by
    rw [← h2]
    exact refSmall_any _ (line8_nat hl 2) W
  have h5 : (l.drop 3).length = 5 := by rw [List.length_drop, hl.1]
  have harr : lnA (l.drop 3) = arr5 (nat5 l) := arr5_lnA _ h5 (fun z hz => (hl.2 z (List.mem_of_mem_drop hz)).1)
  have hdr : l.drop 3 = [l[3]?.getD 0, l[4]?.getD 0, l[5]?.getD 0, l[6]?.getD 0, l[7]?.getD 0] := by
    match l, hl.1 with
    | [_, _, _, _, _, _, _, _], _ => rfl
  have HRD : Hid (∀ W, Calls Tryz.prog 33 #[.agg #[.int .u64 (l[3]?.getD 0), .int .u64 (l[4]?.getD 0), .int .u64 (l[5]?.getD 0), .int .u64 (l[6]?.getD 0), .int .u64 (l[7]?.getD 0)], .int .i64 x2] W fun e w' => e = .returned (.tuple #[.string t, .bool q]) ∧ Below W.heap.size W w') := show ∀ W, _ from fun W => by
    have h := refRead_any (nat5 l) (nat5_length hl) (nat5_64 hl) x2 hx2 W
    rw [← harr, hdr] at h
    unfold rdTxt at hs
    unfold rdIs at hq
    rw [h2] at hs hq
    rw [hs, hq, hS] at h
    exact h
  rw [hX, hS]
  obtain ⟨W1, hW1⟩ : ∃ W1, (w.alloc (.cells X 23)).alloc (.cells #[.int .i64 0, .int .i64 0, .string ⟨#[]⟩] 44) = W1 := ⟨_, rfl⟩
  have HB1 : Hid (Below w.heap.size w W1) := show Below _ _ _ by rw [← hW1]; exact (by repeat (first | exact Below.refl _ _ | assumption | refine Below.drew ?_ | refine below_drewN ?_ _ | refine Below.alloc ?_ (by (try simp) <;> omega) _ | refine Below.setCell ?_ (by (try simp) <;> omega) _ | refine Below.trans ?_ (Below.mono (by assumption) (by (try simp) <;> omega))))
  have HX1 : Hid (Blk W1 w.heap.size 23 X) := show Blk _ _ _ _ by rw [← hW1]; exact (Blk.new w _ _).below (n := w.heap.size + 1) ((Below.refl _ _).alloc (by simp) _) (by omega)
  have HZ1 : Hid (Blk W1 (w.heap.size + 1) 44 ndZeroE) := show Blk _ _ _ _ by
    rw [← hW1]
    have := Blk.new (w.alloc (.cells X 23)) 44 #[.int .i64 0, .int .i64 0, .string ⟨#[]⟩]
    rw [World.size_alloc] at this
    exact this
  obtain ⟨y0, hy0⟩ : ∃ y, l[0]?.getD 0 = y := ⟨_, rfl⟩
  obtain ⟨y1, hy1⟩ : ∃ y, l[1]?.getD 0 = y := ⟨_, rfl⟩
  obtain ⟨y2, hy2⟩ : ∃ y, l[2]?.getD 0 = y := ⟨_, rfl⟩
  obtain ⟨y3, hy3⟩ : ∃ y, l[3]?.getD 0 = y := ⟨_, rfl⟩
  obtain ⟨y4, hy4⟩ : ∃ y, l[4]?.getD 0 = y := ⟨_, rfl⟩
  obtain ⟨y5, hy5⟩ : ∃ y, l[5]?.getD 0 = y := ⟨_, rfl⟩
  obtain ⟨y6, hy6⟩ : ∃ y, l[6]?.getD 0 = y := ⟨_, rfl⟩
  obtain ⟨y7, hy7⟩ : ∃ y, l[7]?.getD 0 = y := ⟨_, rfl⟩
  have hcc : ∀ V, Below W1.heap.size W1 V → ∀ j, j < 8 → V.cell? ⟨w.heap.size, j, none⟩ = some (.int .u64 (l[j]?.getD 0)) := fun V hV j hj => (HX1.out.below hV HX1.out.lt).cell (by rw [← hX]; exact lnA_at l j (by rw [hl.1]; exact hj))
  have HRR : Hid (∀ V, Below W1.heap.size W1 V → (fun V : World => V.cell? ⟨w.heap.size, 0, none⟩ = some (.int .u64 y0) ∧ V.cell? ⟨w.heap.size, 1, none⟩ = some (.int .u64 y1) ∧ V.cell? ⟨w.heap.size, 2, none⟩ = some (.int .u64 y2) ∧ V.cell? ⟨w.heap.size, 3, none⟩ = some (.int .u64 y3) ∧ V.cell? ⟨w.heap.size, 4, none⟩ = some (.int .u64 y4) ∧ V.cell? ⟨w.heap.size, 5, none⟩ = some (.int .u64 y5) ∧ V.cell? ⟨w.heap.size, 6, none⟩ = some (.int .u64 y6) ∧ V.cell? ⟨w.heap.size, 7, none⟩ = some (.int .u64 y7) ∧ Below W1.heap.size W1 V) V) := show ∀ V, _ from fun V hV => ⟨by rw [← hy0]; exact hcc V hV 0 (by decide), by rw [← hy1]; exact hcc V hV 1 (by decide), by rw [← hy2]; exact hcc V hV 2 (by decide), by rw [← hy3]; exact hcc V hV 3 (by decide), by rw [← hy4]; exact hcc V hV 4 (by decide), by rw [← hy5]; exact hcc V hV 5 (by decide), by rw [← hy6]; exact hcc V hV 6 (by decide), by rw [← hy7]; exact hcc V hV 7 (by decide), hV⟩
  rw [hy0] at HS0
  rw [hy1] at HS1
  rw [hy2] at HS2
  rw [hy3, hy4, hy5, hy6, hy7] at HRD
  have HSS := Lib.hid hS
  have HW := Lib.hid hW1
  clear hcc hW1 hX hl h0 h1 h2 hr hq hs hS hx2 h5 harr hdr hy0 hy1 hy2 hy3 hy4 hy5 hy6 hy7
  go_enter Tryz.func13, Tryz.ntmps13
  go_wp2_with fail
  rw [HW.out]
  have hR : (fun V : World => V.cell? ⟨w.heap.size, 0, none⟩ = some (.int .u64 y0) ∧ V.cell? ⟨w.heap.size, 1, none⟩ = some (.int .u64 y1) ∧ V.cell? ⟨w.heap.size, 2, none⟩ = some (.int .u64 y2) ∧ V.cell? ⟨w.heap.size, 3, none⟩ = some (.int .u64 y3) ∧ V.cell? ⟨w.heap.size, 4, none⟩ = some (.int .u64 y4) ∧ V.cell? ⟨w.heap.size, 5, none⟩ = some (.int .u64 y5) ∧ V.cell? ⟨w.heap.size, 6, none⟩ = some (.int .u64 y6) ∧ V.cell? ⟨w.heap.size, 7, none⟩ = some (.int .u64 y7) ∧ Below W1.heap.size W1 V) W1.drew := HRR.out _ (Below.refl _ _).drew
  refine wp_region_M 19 (fun V : World => V.cell? ⟨w.heap.size, 0, none⟩ = some (.int .u64 y0) ∧ V.cell? ⟨w.heap.size, 1, none⟩ = some (.int .u64 y1) ∧ V.cell? ⟨w.heap.size, 2, none⟩ = some (.int .u64 y2) ∧ V.cell? ⟨w.heap.size, 3, none⟩ = some (.int .u64 y3) ∧ V.cell? ⟨w.heap.size, 4, none⟩ = some (.int .u64 y4) ∧ V.cell? ⟨w.heap.size, 5, none⟩ = some (.int .u64 y5) ∧ V.cell? ⟨w.heap.size, 6, none⟩ = some (.int .u64 y6) ∧ V.cell? ⟨w.heap.size, 7, none⟩ = some (.int .u64 y7) ∧ Below W1.heap.size W1 V) (by kernel_rfl) ?_
  (refine wpAnyM_take2 8 (i := 0) (v := ?_) rfl (by kernel_rfl) (by kernel_rfl) (fun _ _ _ h => h) (Or.inl ⟨by rfl, ?_⟩) hR ?_; rotate_left; (focus (intro w hSw; (try dsimp only at hSw); go_simp; (try with_reducible rfl))); (try simp only [put_laws])); (refine wpAnyM_take2 8 (i := 2) (v := ?_) rfl (by kernel_rfl) (by kernel_rfl) (fun _ _ _ h => h) (Or.inl ⟨by rfl, ?_⟩) hR ?_; rotate_left; (focus (intro w hSw; (try dsimp only at hSw); go_simp; (try with_reducible rfl))); (try simp only [put_laws])); (refine wpAnyM_take2 8 (i := 4) (v := ?_) rfl (by kernel_rfl) (by kernel_rfl) (fun _ _ _ h => h) (Or.inl ⟨by rfl, ?_⟩) hR ?_; rotate_left; (focus (intro w hSw; (try dsimp only at hSw); go_simp; (try with_reducible rfl))); (try simp only [put_laws])); (refine wpAnyM_take2 8 (i := 6) (v := ?_) rfl (by kernel_rfl) (by kernel_rfl) (fun _ _ _ h => h) (Or.inl ⟨by rfl, ?_⟩) hR ?_; rotate_left; (focus (intro w hSw; (try dsimp only at hSw); go_simp; (try with_reducible rfl))); (try simp only [put_laws])); (refine wpAnyM_take2 8 (i := 8) (v := ?_) rfl (by kernel_rfl) (by kernel_rfl) (fun _ _ _ h => h) (Or.inl ⟨by rfl, ?_⟩) hR ?_; rotate_left; (focus (intro w hSw; (try dsimp only at hSw); go_simp; (try with_reducible rfl))); (try simp only [put_laws])); (refine wpAnyM_take2 8 (i := 11) (v := ?_) rfl (by kernel_rfl) (by kernel_rfl) (fun _ _ _ h => h) (Or.inl ⟨by rfl, ?_⟩) hR ?_; rotate_left; (focus (intro w hSw; (try dsimp only at hSw); go_simp; (try with_reducible rfl))); (try simp only [put_laws])); (refine wpAnyM_take2 8 (i := 1) (v := ?_) rfl (by kernel_rfl) (by kernel_rfl) (fun _ _ _ h => h) (Or.inl ⟨by rfl, ?_⟩) hR ?_; rotate_left; (focus (intro w hSw; (try dsimp only at hSw); go_simp; (try with_reducible rfl))); (try simp only [put_laws])); (refine wpAnyM_take2 8 (i := 3) (v := ?_) rfl (by kernel_rfl) (by kernel_rfl) (fun _ _ _ h => h) (Or.inl ⟨by rfl, ?_⟩) hR ?_; rotate_left; (focus (intro w hSw; (try dsimp only at hSw); go_simp; (try with_reducible rfl))); (try simp only [put_laws])); (refine wpAnyM_take2 8 (i := 5) (v := ?_) rfl (by kernel_rfl) (by kernel_rfl) (fun _ _ _ h => h) (Or.inl ⟨by rfl, ?_⟩) hR ?_; rotate_left; (focus (intro w hSw; (try dsimp only at hSw); go_simp; (try with_reducible rfl))); (try simp only [put_laws])); (refine wpAnyM_take2 8 (i := 7) (v := ?_) rfl (by kernel_rfl) (by kernel_rfl) (fun _ _ _ h => h) (Or.inl ⟨by rfl, ?_⟩) hR ?_; rotate_left; (focus (intro w hSw; (try dsimp only at hSw); go_simp; (try with_reducible rfl))); (try simp only [put_laws])); (refine wpAnyM_take2 8 (i := 9) (v := ?_) rfl (by kernel_rfl) (by kernel_rfl) (fun _ _ _ h => h) (Or.inl ⟨by rfl, ?_⟩) hR ?_; rotate_left; (focus (intro w hSw; (try dsimp only at hSw); go_simp; (try with_reducible rfl))); (try simp only [put_laws])); (refine wpAnyM_take2 8 (i := 12) (v := ?_) rfl (by kernel_rfl) (by kernel_rfl) (fun _ _ _ h => h) (Or.inl ⟨by rfl, ?_⟩) hR ?_; rotate_left; (focus (intro w hSw; (try dsimp only at hSw); go_simp; (try with_reducible rfl))); (try simp only [put_laws])); (refine wpAnyM_take2 8 (i := 10) (v := ?_) rfl (by kernel_rfl) (by kernel_rfl) (fun _ _ _ h => h) (Or.inl ⟨by rfl, ?_⟩) hR ?_; rotate_left; (focus (intro w hSw; (try dsimp only at hSw); go_simp; (try with_reducible rfl))); (try simp only [put_laws]))
  (refine wpAnyM_one (i := 13) rfl (by kernel_rfl) (fun K hK => ?_); rw [if_pos (by rfl)]; (try simp only [elem_laws]))
  go_simp
  refine (HS2.out _).mono ?_
  rintro e w' ⟨rfl, rfl⟩
  refine hK _ _ (fun _ => hR) ?_
  clear hK K
  (try simp only [put_laws])
  (refine wpAnyM_one (i := 14) rfl (by kernel_rfl) (fun K hK => ?_); rw [if_pos (by rfl)]; (try simp only [elem_laws]))
  go_simp
  refine (HRD.out _).mono ?_
  rintro e w2 ⟨rfl, hb⟩
  have hR' := HRR.out _ (((Below.refl _ _).drew).trans (hb.mono (Nat.le_refl _)))
  refine hK _ _ (fun _ => hR') ?_
  clear hK K hR hb
  have hR := hR'
  clear hR'
  (try simp only [put_laws])
  (refine wpAnyM_take2 8 (i := 15) (v := ?_) rfl (by kernel_rfl) (by kernel_rfl) (fun _ _ _ h => h) (Or.inl ⟨by rfl, ?_⟩) hR ?_; rotate_left; (focus (intro w hSw; (try dsimp only at hSw); go_simp; (try with_reducible rfl))); (try simp only [put_laws])); (refine wpAnyM_take2 8 (i := 16) (v := ?_) rfl (by kernel_rfl) (by kernel_rfl) (fun _ _ _ h => h) (Or.inl ⟨by rfl, ?_⟩) hR ?_; rotate_left; (focus (intro w hSw; (try dsimp only at hSw); go_simp; (try with_reducible rfl))); (try simp only [put_laws])); (refine wpAnyM_take2 8 (i := 17) (v := ?_) rfl (by kernel_rfl) (by kernel_rfl) (fun _ _ _ h => h) (Or.inl ⟨by rfl, ?_⟩) hR ?_; rotate_left; (focus (intro w hSw; (try dsimp only at hSw); go_simp; (try with_reducible rfl))); (try simp only [put_laws])); (refine wpAnyM_take2 8 (i := 18) (v := ?_) rfl (by kernel_rfl) (by kernel_rfl) (fun _ _ _ h => h) (Or.inl ⟨by rfl, ?_⟩) hR ?_; rotate_left; (focus (intro w hSw; (try dsimp only at hSw); go_simp; (try with_reducible rfl))); (try simp only [put_laws]))
  (refine wpAnyM_last rfl (by kernel_rfl) (fun K hK => ?_); rw [if_pos (by rfl)]; (try simp only [elem_laws]))
  go_simp
  refine hK _ _ ?_
  clear hK K
  (try simp only [put_laws])
  refine wpAnyM_done (by kernel_rfl) ?_ _
  go_wp2_with fail
  have hb2 := (hR.2.2.2.2.2.2.2.2 : Below W1.heap.size W1 w2)
  have HB2 := Lib.hid hb2
  clear hR hb2
  have hRB : ∀ {V}, (fun V : World => V.cell? ⟨w.heap.size, 0, none⟩ = some (.int .u64 y0) ∧ V.cell? ⟨w.heap.size, 1, none⟩ = some (.int .u64 y1) ∧ V.cell? ⟨w.heap.size, 2, none⟩ = some (.int .u64 y2) ∧ V.cell? ⟨w.heap.size, 3, none⟩ = some (.int .u64 y3) ∧ V.cell? ⟨w.heap.size, 4, none⟩ = some (.int .u64 y4) ∧ V.cell? ⟨w.heap.size, 5, none⟩ = some (.int .u64 y5) ∧ V.cell? ⟨w.heap.size, 6, none⟩ = some (.int .u64 y6) ∧ V.cell? ⟨w.heap.size, 7, none⟩ = some (.int .u64 y7) ∧ Below W1.heap.size W1 V) V → Below W1.heap.size W1 V := fun h => h.2.2.2.2.2.2.2.2
  have hR : (fun V : World => V.cell? ⟨w.heap.size, 0, none⟩ = some (.int .u64 y0) ∧ V.cell? ⟨w.heap.size, 1, none⟩ = some (.int .u64 y1) ∧ V.cell? ⟨w.heap.size, 2, none⟩ = some (.int .u64 y2) ∧ V.cell? ⟨w.heap.size, 3, none⟩ = some (.int .u64 y3) ∧ V.cell? ⟨w.heap.size, 4, none⟩ = some (.int .u64 y4) ∧ V.cell? ⟨w.heap.size, 5, none⟩ = some (.int .u64 y5) ∧ V.cell? ⟨w.heap.size, 6, none⟩ = some (.int .u64 y6) ∧ V.cell? ⟨w.heap.size, 7, none⟩ = some (.int .u64 y7) ∧ Below W1.heap.size W1 V) w2.drew := HRR.out _ HB2.out.drew
  refine wp_region_M 9 (fun V : World => V.cell? ⟨w.heap.size, 0, none⟩ = some (.int .u64 y0) ∧ V.cell? ⟨w.heap.size, 1, none⟩ = some (.int .u64 y1) ∧ V.cell? ⟨w.heap.size, 2, none⟩ = some (.int .u64 y2) ∧ V.cell? ⟨w.heap.size, 3, none⟩ = some (.int .u64 y3) ∧ V.cell? ⟨w.heap.size, 4, none⟩ = some (.int .u64 y4) ∧ V.cell? ⟨w.heap.size, 5, none⟩ = some (.int .u64 y5) ∧ V.cell? ⟨w.heap.size, 6, none⟩ = some (.int .u64 y6) ∧ V.cell? ⟨w.heap.size, 7, none⟩ = some (.int .u64 y7) ∧ Below W1.heap.size W1 V) (by kernel_rfl) ?_
  (refine wpAnyM_take2 8 (i := 0) (v := ?_) rfl (by kernel_rfl) (by kernel_rfl) (fun _ _ _ h => h) (Or.inl ⟨by rfl, ?_⟩) hR ?_; rotate_left; (focus (intro w hSw; (try dsimp only at hSw); go_simp; (try with_reducible rfl))); (try simp only [put_laws])); (refine wpAnyM_take2 8 (i := 3) (v := ?_) rfl (by kernel_rfl) (by kernel_rfl) (fun _ _ _ h => h) (Or.inl ⟨by rfl, ?_⟩) hR ?_; rotate_left; (focus (intro w hSw; (try dsimp only at hSw); go_simp; (try with_reducible rfl))); (try simp only [put_laws])); (refine wpAnyM_take2 8 (i := 6) (v := ?_) rfl (by kernel_rfl) (by kernel_rfl) (fun _ _ _ h => h) (Or.inl ⟨by rfl, ?_⟩) hR ?_; rotate_left; (focus (intro w hSw; (try dsimp only at hSw); go_simp; (try with_reducible rfl))); (try simp only [put_laws])); (refine wpAnyM_take2 8 (i := 1) (v := ?_) rfl (by kernel_rfl) (by kernel_rfl) (fun _ _ _ h => h) (Or.inl ⟨by rfl, ?_⟩) hR ?_; rotate_left; (focus (intro w hSw; (try dsimp only at hSw); go_simp; (try with_reducible rfl))); (try simp only [put_laws])); (refine wpAnyM_take2 8 (i := 4) (v := ?_) rfl (by kernel_rfl) (by kernel_rfl) (fun _ _ _ h => h) (Or.inl ⟨by rfl, ?_⟩) hR ?_; rotate_left; (focus (intro w hSw; (try dsimp only at hSw); go_simp; (try with_reducible rfl))); (try simp only [put_laws]))
  refine wpAnyM_two (i := 2) (j := 8) rfl rfl (by kernel_rfl) (fun K hK => ?_) (fun K hK => ?_)
  · rw [if_pos (by rfl)]
    (try simp only [elem_laws])
    go_simp
    refine (HS0.out _).mono ?_
    rintro e w' ⟨rfl, rfl⟩
    refine hK _ _ (fun _ => hR) ?_
    clear hK K
    (try simp only [put_laws])
    refine wpAnyM_two (i := 5) (j := 8) rfl rfl (by kernel_rfl) (fun K hK => ?_) (fun K hK => ?_)
    · rw [if_pos (by rfl)]
      (try simp only [elem_laws])
      go_simp
      refine (HS1.out _).mono ?_
      rintro e w' ⟨rfl, rfl⟩
      refine hK _ _ (fun _ => hR) ?_
      clear hK K
      (try simp only [put_laws])
      (refine wpAnyM_take (i := 7) (v := ?_) rfl (by kernel_rfl) (by kernel_rfl) (fun _ _ _ h => h) (Or.inl ⟨by rfl, ?_⟩) hR ?_; rotate_left; (focus (intro w hSw; (try dsimp only at hSw); go_simp; (try with_reducible rfl))); (try simp only [put_laws]))
      (refine wpAnyM_one (i := 8) rfl (by kernel_rfl) (fun K hK => ?_); rw [if_pos (by rfl)]; (try simp only [elem_laws]))
      go_simp
      have hR' := HRR.out _ ((hRB hR).alloc (hRB hR).size (.cells #[.int .i64 0, .int .i64 0, .string ⟨#[]⟩] 44))
      refine hK _ _ (fun _ => hR') ?_
      clear hK K hR
      have hR := hR'
      clear hR'
      (try simp only [put_laws])
      (refine wpAnyM_last rfl (by kernel_rfl) (fun K hK => ?_); rw [if_pos (by rfl)]; (try simp only [elem_laws]))
      go_simp
      refine hK _ _ ?_
      clear hK K hR
      (try simp only [put_laws])
      refine wpAnyM_done (by kernel_rfl) ?_ _
      obtain ⟨W2, hW2⟩ : ∃ W2, (w2.alloc (.cells #[.int .i64 x0, .int .i64 x1, .string t] 44)).drew = W2 := ⟨_, rfl⟩
      have h12 : Below W1.heap.size W1 W2 := by rw [← hW2]; exact (HB2.out.alloc HB2.out.size _).drew
      have HX2 := Lib.hid (HX1.out.below h12 HX1.out.lt)
      have HZ2 := Lib.hid (HZ1.out.below h12 HZ1.out.lt)
      have HBB := Lib.hid (HB1.out.trans (h12.mono HB1.out.size))
      have hy : Blk W2 w2.heap.size 44 #[.int .i64 x0, .int .i64 x1, .string t] := by
        rw [← hW2]
        exact (Blk.new w2 _ _).below (n := w2.heap.size + 1) (Below.refl _ _).drew (by omega)
      have HLY : Hid (∀ V, Below W2.heap.size W2 V → (Instr.loadAt 44 (.pointer (some ⟨w2.heap.size, 0, none⟩))).run Tryz.prog V = .ok (.agg #[.int .i64 x0, .int .i64 x1, .string t]) V) := show ∀ V, _ from fun V hV => (hy.below hV hy.lt).load (tt := 44) Tryz.underlying44 rfl (by kernel_rfl)
      rw [hW2]
      clear hW2 h12 hy
      cases q
      · have HZ3 := HZ2
        have HB3 := HBB
        obtain ⟨W5, hs5, hx5, ht5⟩ := HZ3.out.store (tt := 44) (P := Tryz.prog) (Y := ndZeroE) (by kernel_rfl) rfl (by kernel_rfl)
        have HST := Lib.hid hs5
        have HX5 := Lib.hid hx5
        have HB5 : Hid (Below w.heap.size w W5) := show Below _ _ _ from HB3.out.trans (ht5.below (B := w.heap.size) (fun k h => by omega) HB3.out.size)
        clear hs5 hx5 ht5
        go_wp2_with (first | (refine ndList_store rfl 44 _ _ rfl _ _ rfl rfl HST.out ?_))
        exact bodyPost_ret (results_cell_tmp (fn := Tryz.f13) rfl rfl (HX5.out.loadVar (tt := 44) Tryz.underlying44 rfl (by kernel_rfl)) rfl) rfl ⟨rfl, HB5.out⟩
      have HLY2 := Lib.hid (HLY.out _ (Below.refl _ _))
      go_wp2_with (first | (refine ndList_loadW (by rfl) 44 _ rfl _ _ rfl HLY2.out ?_))
      refine (HRE.out _).mono ?_
      rintro e w3 ⟨rfl, hb⟩
      have HZ3 := Lib.hid (HZ2.out.below hb HZ2.out.lt)
      have HB3 := Lib.hid (HBB.out.trans (hb.mono HBB.out.size))
      have HY3 := Lib.hid (HLY.out _ hb)
      clear hb HLY2
      cases r
      · obtain ⟨W5, hs5, hx5, ht5⟩ := HZ3.out.store (tt := 44) (P := Tryz.prog) (Y := ndZeroE) (by kernel_rfl) rfl (by kernel_rfl)
        have HST := Lib.hid hs5
        have HX5 := Lib.hid hx5
        have HB5 : Hid (Below w.heap.size w W5) := show Below _ _ _ from HB3.out.trans (ht5.below (B := w.heap.size) (fun k h => by omega) HB3.out.size)
        clear hs5 hx5 ht5
        go_wp2_with (first | (refine ndList_store rfl 44 _ _ rfl _ _ rfl rfl HST.out ?_))
        exact bodyPost_ret (results_cell_tmp (fn := Tryz.f13) rfl rfl (HX5.out.loadVar (tt := 44) Tryz.underlying44 rfl (by kernel_rfl)) rfl) rfl ⟨rfl, HB5.out⟩
      · obtain ⟨W5, hs5, hx5, ht5⟩ := HZ3.out.store (tt := 44) (P := Tryz.prog) (Y := #[.int .i64 x0, .int .i64 x1, .string t]) (by kernel_rfl) rfl (by simp [Value.oneCell'])
        have HST := Lib.hid hs5
        have HX5 := Lib.hid hx5
        have HB5 : Hid (Below w.heap.size w W5) := show Below _ _ _ from HB3.out.trans (ht5.below (B := w.heap.size) (fun k h => by omega) HB3.out.size)
        clear hs5 hx5 ht5
        go_wp2_with (first | (refine ndList_store rfl 44 _ _ rfl _ _ rfl rfl HST.out ?_) | (refine ndList_load rfl 44 _ rfl _ _ rfl HY3.out ?_))
        exact bodyPost_ret (results_cell_tmp (fn := Tryz.f13) rfl rfl (HX5.out.loadVar (tt := 44) Tryz.underlying44 rfl (by kernel_rfl)) rfl) rfl ⟨rfl, HB5.out⟩
    · rw [if_pos (by rfl)]
      (try simp only [elem_laws])
      go_simp
      have hR' := HRR.out _ ((hRB hR).alloc (hRB hR).size (.cells #[.int .i64 0, .int .i64 0, .string ⟨#[]⟩] 44))
      refine hK _ _ (fun _ => hR') ?_
      clear hK K hR
      have hR := hR'
      clear hR'
      (try simp only [put_laws])
      (refine wpAnyM_one (i := 5) rfl (by kernel_rfl) (fun K hK => ?_); rw [if_pos (by rfl)]; (try simp only [elem_laws]))
      go_simp
      refine (HS1.out _).mono ?_
      rintro e w' ⟨rfl, rfl⟩
      refine hK _ _ (fun _ => hR) ?_
      clear hK K
      (try simp only [put_laws])
      (refine wpAnyM_take (i := 7) (v := ?_) rfl (by kernel_rfl) (by kernel_rfl) (fun _ _ _ h => h) (Or.inl ⟨by rfl, ?_⟩) hR ?_; rotate_left; (focus (intro w hSw; (try dsimp only at hSw); go_simp; (try with_reducible rfl))); (try simp only [put_laws]))
      (refine wpAnyM_last rfl (by kernel_rfl) (fun K hK => ?_); rw [if_pos (by rfl)]; (try simp only [elem_laws]))
      go_simp
      refine hK _ _ ?_
      clear hK K hR
      (try simp only [put_laws])
      refine wpAnyM_done (by kernel_rfl) ?_ _
      obtain ⟨W2, hW2⟩ : ∃ W2, (w2.alloc (.cells #[.int .i64 x0, .int .i64 x1, .string t] 44)).drew = W2 := ⟨_, rfl⟩
      have h12 : Below W1.heap.size W1 W2 := by rw [← hW2]; exact (HB2.out.alloc HB2.out.size _).drew
      have HX2 := Lib.hid (HX1.out.below h12 HX1.out.lt)
      have HZ2 := Lib.hid (HZ1.out.below h12 HZ1.out.lt)
      have HBB := Lib.hid (HB1.out.trans (h12.mono HB1.out.size))
      have hy : Blk W2 w2.heap.size 44 #[.int .i64 x0, .int .i64 x1, .string t] := by
        rw [← hW2]
        exact (Blk.new w2 _ _).below (n := w2.heap.size + 1) (Below.refl _ _).drew (by omega)
      have HLY : Hid (∀ V, Below W2.heap.size W2 V → (Instr.loadAt 44 (.pointer (some ⟨w2.heap.size, 0, none⟩))).run Tryz.prog V = .ok (.agg #[.int .i64 x0, .int .i64 x1, .string t]) V) := show ∀ V, _ from fun V hV => (hy.below hV hy.lt).load (tt := 44) Tryz.underlying44 rfl (by kernel_rfl)
      rw [hW2]
      clear hW2 h12 hy
      cases q
      · have HZ3 := HZ2
        have HB3 := HBB
        obtain ⟨W5, hs5, hx5, ht5⟩ := HZ3.out.store (tt := 44) (P := Tryz.prog) (Y := ndZeroE) (by kernel_rfl) rfl (by kernel_rfl)
        have HST := Lib.hid hs5
        have HX5 := Lib.hid hx5
        have HB5 : Hid (Below w.heap.size w W5) := show Below _ _ _ from HB3.out.trans (ht5.below (B := w.heap.size) (fun k h => by omega) HB3.out.size)
        clear hs5 hx5 ht5
        go_wp2_with (first | (refine ndList_store rfl 44 _ _ rfl _ _ rfl rfl HST.out ?_))
        exact bodyPost_ret (results_cell_tmp (fn := Tryz.f13) rfl rfl (HX5.out.loadVar (tt := 44) Tryz.underlying44 rfl (by kernel_rfl)) rfl) rfl ⟨rfl, HB5.out⟩
      have HLY2 := Lib.hid (HLY.out _ (Below.refl _ _))
      go_wp2_with (first | (refine ndList_loadW (by rfl) 44 _ rfl _ _ rfl HLY2.out ?_))
      refine (HRE.out _).mono ?_
      rintro e w3 ⟨rfl, hb⟩
      have HZ3 := Lib.hid (HZ2.out.below hb HZ2.out.lt)
      have HB3 := Lib.hid (HBB.out.trans (hb.mono HBB.out.size))
      have HY3 := Lib.hid (HLY.out _ hb)
      clear hb HLY2
      cases r
      · obtain ⟨W5, hs5, hx5, ht5⟩ := HZ3.out.store (tt := 44) (P := Tryz.prog) (Y := ndZeroE) (by kernel_rfl) rfl (by kernel_rfl)
        have HST := Lib.hid hs5
        have HX5 := Lib.hid hx5
        have HB5 : Hid (Below w.heap.size w W5) := show Below _ _ _ from HB3.out.trans (ht5.below (B := w.heap.size) (fun k h => by omega) HB3.out.size)
        clear hs5 hx5 ht5
        go_wp2_with (first | (refine ndList_store rfl 44 _ _ rfl _ _ rfl rfl HST.out ?_))
        exact bodyPost_ret (results_cell_tmp (fn := Tryz.f13) rfl rfl (HX5.out.loadVar (tt := 44) Tryz.underlying44 rfl (by kernel_rfl)) rfl) rfl ⟨rfl, HB5.out⟩
      · obtain ⟨W5, hs5, hx5, ht5⟩ := HZ3.out.store (tt := 44) (P := Tryz.prog) (Y := #[.int .i64 x0, .int .i64 x1, .string t]) (by kernel_rfl) rfl (by simp [Value.oneCell'])
        have HST := Lib.hid hs5
        have HX5 := Lib.hid hx5
        have HB5 : Hid (Below w.heap.size w W5) := show Below _ _ _ from HB3.out.trans (ht5.below (B := w.heap.size) (fun k h => by omega) HB3.out.size)
        clear hs5 hx5 ht5
        go_wp2_with (first | (refine ndList_store rfl 44 _ _ rfl _ _ rfl rfl HST.out ?_) | (refine ndList_load rfl 44 _ rfl _ _ rfl HY3.out ?_))
        exact bodyPost_ret (results_cell_tmp (fn := Tryz.f13) rfl rfl (HX5.out.loadVar (tt := 44) Tryz.underlying44 rfl (by kernel_rfl)) rfl) rfl ⟨rfl, HB5.out⟩
  · rw [if_pos (by rfl)]
    (try simp only [elem_laws])
    go_simp
    have hR' := HRR.out _ ((hRB hR).alloc (hRB hR).size (.cells #[.int .i64 0, .int .i64 0, .string ⟨#[]⟩] 44))
    refine hK _ _ (fun _ => hR') ?_
    clear hK K hR
    have hR := hR'
    clear hR'
    (try simp only [put_laws])
    (refine wpAnyM_one (i := 2) rfl (by kernel_rfl) (fun K hK => ?_); rw [if_pos (by rfl)]; (try simp only [elem_laws]))
    go_simp
    refine (HS0.out _).mono ?_
    rintro e w' ⟨rfl, rfl⟩
    refine hK _ _ (fun _ => hR) ?_
    clear hK K
    (try simp only [put_laws])
    (refine wpAnyM_one (i := 5) rfl (by kernel_rfl) (fun K hK => ?_); rw [if_pos (by rfl)]; (try simp only [elem_laws]))
    go_simp
    refine (HS1.out _).mono ?_
    rintro e w' ⟨rfl, rfl⟩
    refine hK _ _ (fun _ => hR) ?_
    clear hK K
    (try simp only [put_laws])
    (refine wpAnyM_take (i := 7) (v := ?_) rfl (by kernel_rfl) (by kernel_rfl) (fun _ _ _ h => h) (Or.inl ⟨by rfl, ?_⟩) hR ?_; rotate_left; (focus (intro w hSw; (try dsimp only at hSw); go_simp; (try with_reducible rfl))); (try simp only [put_laws]))
    (refine wpAnyM_last rfl (by kernel_rfl) (fun K hK => ?_); rw [if_pos (by rfl)]; (try simp only [elem_laws]))
    go_simp
    refine hK _ _ ?_
    clear hK K hR
    (try simp only [put_laws])
    refine wpAnyM_done (by kernel_rfl) ?_ _
    obtain ⟨W2, hW2⟩ : ∃ W2, (w2.alloc (.cells #[.int .i64 x0, .int .i64 x1, .string t] 44)).drew = W2 := ⟨_, rfl⟩
    have h12 : Below W1.heap.size W1 W2 := by rw [← hW2]; exact (HB2.out.alloc HB2.out.size _).drew
    have HX2 := Lib.hid (HX1.out.below h12 HX1.out.lt)
    have HZ2 := Lib.hid (HZ1.out.below h12 HZ1.out.lt)
    have HBB := Lib.hid (HB1.out.trans (h12.mono HB1.out.size))
    have hy : Blk W2 w2.heap.size 44 #[.int .i64 x0, .int .i64 x1, .string t] := by
      rw [← hW2]
      exact (Blk.new w2 _ _).below (n := w2.heap.size + 1) (Below.refl _ _).drew (by omega)
    have HLY : Hid (∀ V, Below W2.heap.size W2 V → (Instr.loadAt 44 (.pointer (some ⟨w2.heap.size, 0, none⟩))).run Tryz.prog V = .ok (.agg #[.int .i64 x0, .int .i64 x1, .string t]) V) := show ∀ V, _ from fun V hV => (hy.below hV hy.lt).load (tt := 44) Tryz.underlying44 rfl (by kernel_rfl)
    rw [hW2]
    clear hW2 h12 hy
    cases q
    · have HZ3 := HZ2
      have HB3 := HBB
      obtain ⟨W5, hs5, hx5, ht5⟩ := HZ3.out.store (tt := 44) (P := Tryz.prog) (Y := ndZeroE) (by kernel_rfl) rfl (by kernel_rfl)
      have HST := Lib.hid hs5
      have HX5 := Lib.hid hx5
      have HB5 : Hid (Below w.heap.size w W5) := show Below _ _ _ from HB3.out.trans (ht5.below (B := w.heap.size) (fun k h => by omega) HB3.out.size)
      clear hs5 hx5 ht5
      go_wp2_with (first | (refine ndList_store rfl 44 _ _ rfl _ _ rfl rfl HST.out ?_))
      exact bodyPost_ret (results_cell_tmp (fn := Tryz.f13) rfl rfl (HX5.out.loadVar (tt := 44) Tryz.underlying44 rfl (by kernel_rfl)) rfl) rfl ⟨rfl, HB5.out⟩
    have HLY2 := Lib.hid (HLY.out _ (Below.refl _ _))
    go_wp2_with (first | (refine ndList_loadW (by rfl) 44 _ rfl _ _ rfl HLY2.out ?_))
    refine (HRE.out _).mono ?_
    rintro e w3 ⟨rfl, hb⟩
    have HZ3 := Lib.hid (HZ2.out.below hb HZ2.out.lt)
    have HB3 := Lib.hid (HBB.out.trans (hb.mono HBB.out.size))
    have HY3 := Lib.hid (HLY.out _ hb)
    clear hb HLY2
    cases r
    · obtain ⟨W5, hs5, hx5, ht5⟩ := HZ3.out.store (tt := 44) (P := Tryz.prog) (Y := ndZeroE) (by kernel_rfl) rfl (by kernel_rfl)
      have HST := Lib.hid hs5
      have HX5 := Lib.hid hx5
      have HB5 : Hid (Below w.heap.size w W5) := show Below _ _ _ from HB3.out.trans (ht5.below (B := w.heap.size) (fun k h => by omega) HB3.out.size)
      clear hs5 hx5 ht5
      go_wp2_with (first | (refine ndList_store rfl 44 _ _ rfl _ _ rfl rfl HST.out ?_))
      exact bodyPost_ret (results_cell_tmp (fn := Tryz.f13) rfl rfl (HX5.out.loadVar (tt := 44) Tryz.underlying44 rfl (by kernel_rfl)) rfl) rfl ⟨rfl, HB5.out⟩
    · obtain ⟨W5, hs5, hx5, ht5⟩ := HZ3.out.store (tt := 44) (P := Tryz.prog) (Y := #[.int .i64 x0, .int .i64 x1, .string t]) (by kernel_rfl) rfl (by simp [Value.oneCell'])
      have HST := Lib.hid hs5
      have HX5 := Lib.hid hx5
      have HB5 : Hid (Below w.heap.size w W5) := show Below _ _ _ from HB3.out.trans (ht5.below (B := w.heap.size) (fun k h => by omega) HB3.out.size)
      clear hs5 hx5 ht5
      go_wp2_with (first | (refine ndList_store rfl 44 _ _ rfl _ _ rfl rfl HST.out ?_) | (refine ndList_load rfl 44 _ rfl _ _ rfl HY3.out ?_))
      exact bodyPost_ret (results_cell_tmp (fn := Tryz.f13) rfl rfl (HX5.out.loadVar (tt := 44) Tryz.underlying44 rfl (by kernel_rfl)) rfl) rfl ⟨rfl, HB5.out⟩
end Go.Proofs.YtaebipopmefkpaaGreatDoor
