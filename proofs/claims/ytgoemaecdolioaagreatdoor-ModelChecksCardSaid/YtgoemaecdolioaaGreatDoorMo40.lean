/-
  Texts MeM to MeM, as one.
-/
import Derived.Test.YtgoemaecdolioaaGreatDoorMo39
/-
  The law ModelChecks: its walk. (gen_mem2.py)
-/
namespace Go.Proofs.YtgoemaecdolioaaGreatDoor
open Go.RowKit Go.Shelf
attribute [local go_sem] Oper.semAt_some

theorem loadK11 {V : World} {b o : Nat} {v : Value} (h : V.cell? ⟨b, o, none⟩ = some v) : (Instr.loadAt 22 (.pointer (some ⟨b, o, none⟩))).run Tryz.prog V = .ok v V := by go_simp
set_option maxRecDepth 100000 in
set_option maxHeartbeats 16000000 in
theorem checks11_lo (k : Int) (p q : List UInt8) (pl mn : Int) (ua : Option Addr) (un uc : Nat) (bs : List UInt8) (hk : k < 1) (w : World) (hm : MaxC w) (hx : OpOk w ⟨k, p, q, pl, mn, .slice ua un uc, bs⟩) :
    Calls Tryz.prog 3 #[.agg (opA ⟨k, p, q, pl, mn, .slice ua un uc, bs⟩)] w fun e w' => e = .returned (.bool true) ∧ Below w.heap.size w w' := by
  have HF := Lib.hid (fun W b hb => few11_one ⟨k, p, q, pl, mn, .slice ua un uc, bs⟩ rfl W (b := b) hb)
  have HCK := Lib.hid (fun W (hW : Below w.heap.size w W) => check11_any ⟨k, p, q, pl, mn, .slice ua un uc, bs⟩ hx.path hx.other W (hm.below hW hm.room) (hx.below hW).fb)
  have HRC := Lib.hid (fun W (hW : Below w.heap.size w W) (h1 : p.length ≤ 1000) (h2 : q.length ≤ 1000) => refCheck11_any ⟨k, p, q, pl, mn, .slice ua un uc, bs⟩ W h1 h2 (hx.below hW).fb hx.p0 hx.p1)
  have HWK := Lib.hid (fun W (hW : Below w.heap.size w W) => works11_any W (hm.below hW hm.room))
  have HAS := Lib.hid (fun W => asks11_any k W)
  have HNU := Lib.hid num11_any
  obtain ⟨rc, hrc⟩ : ∃ r, rightC ⟨k, p, q, pl, mn, .slice ua un uc, bs⟩ = r := ⟨_, rfl⟩
  rw [hrc] at HCK HRC
  unfold opA at HF HCK HRC ⊢
  dsimp only at HF HCK HRC ⊢
  obtain ⟨tp, htp⟩ : ∃ t, encStr p = .string t := ⟨_, rfl⟩
  obtain ⟨tq, htq⟩ : ∃ t, encStr q = .string t := ⟨_, rfl⟩
  rw [htp, htq] at HF HCK HRC ⊢
  obtain ⟨R, hR0⟩ : ∃ R, decide (p.length ≤ 200 ∧ q.length ≤ 200 ∧ un ≤ 500) = R := ⟨_, rfl⟩
  have HRR := Lib.hid hR0
  rw [hR0] at HF
  clear hm hx hrc htp htq hR0
  obtain ⟨W1, hW1⟩ : ∃ W1, w.alloc (.cells #[.int .i64 k, .string tp, .string tq, .int .i64 pl, .int .i64 mn, .slice ua un uc] 25) = W1 := ⟨_, rfl⟩
  have b1 : Below w.heap.size w W1 := by rw [← hW1]; exact (by repeat (first | exact Below.refl _ _ | assumption | refine Below.drew ?_ | refine below_drewN ?_ _ | refine Below.alloc ?_ (by (try simp) <;> omega) _ | refine Below.setCell ?_ (by (try simp) <;> omega) _ | refine Below.trans ?_ (Below.mono (by assumption) (by (try simp) <;> omega))))
  have x1 : Blk W1 w.heap.size 25 #[.int .i64 k, .string tp, .string tq, .int .i64 pl, .int .i64 mn, .slice ua un uc] := by rw [← hW1]; exact Blk.new _ _ _
  obtain ⟨W2, hW2⟩ : ∃ W2, W1.alloc (.cells #[.int .i64 k, .string tp, .string tq, .int .i64 pl, .int .i64 mn, .slice ua un uc] 25) = W2 := ⟨_, rfl⟩
  have b2 : Below W1.heap.size W1 W2 := by rw [← hW2]; exact (by repeat (first | exact Below.refl _ _ | assumption | refine Below.drew ?_ | refine below_drewN ?_ _ | refine Below.alloc ?_ (by (try simp) <;> omega) _ | refine Below.setCell ?_ (by (try simp) <;> omega) _ | refine Below.trans ?_ (Below.mono (by assumption) (by (try simp) <;> omega))))
  have x2 : Blk W2 W1.heap.size 25 #[.int .i64 k, .string tp, .string tq, .int .i64 pl, .int .i64 mn, .slice ua un uc] := by rw [← hW2]; exact Blk.new _ _ _
  have hz1 : W1.heap.size = w.heap.size + 1 := by rw [← hW1]; simp
  have HB1 := Lib.hid b1
  have HB2 := Lib.hid b2
  have HX1 := Lib.hid x1
  have hFF := HF.out W2 _ x2
  have HFF := Lib.hid hFF
  have HLX : Hid (∀ V, Below W1.heap.size W1 V → (Instr.loadAt 25 (.pointer (some ⟨w.heap.size, 0, none⟩))).run Tryz.prog V = .ok (.agg #[.int .i64 k, .string tp, .string tq, .int .i64 pl, .int .i64 mn, .slice ua un uc]) V) := show ∀ V, _ from fun V hV => (HX1.out.below hV HX1.out.lt).load (tt := 25) Tryz.underlying25 rfl (by kernel_rfl)
  have HW2 : Hid ((w.alloc (.cells #[.int .i64 k, .string tp, .string tq, .int .i64 pl, .int .i64 mn, .slice ua un uc] 25)).alloc (.cells #[.int .i64 k, .string tp, .string tq, .int .i64 pl, .int .i64 mn, .slice ua un uc] 25) = W2) := show _ = _ by rw [hW1]; exact hW2
  have HZ1 := Lib.hid hz1
  clear HF b1 x1 b2 x2 hFF hW1 hW2 hz1
  go_enter Tryz.func3, Tryz.ntmps3
  go_wp2_with fail
  rw [HW2.out, ← HZ1.out]
  refine HFF.out.mono ?_
  rintro e w3 ⟨rfl, hb⟩
  have hb3 : Below W1.heap.size W1 w3 := HB2.out.trans (hb.mono HB2.out.size)
  have HB3 := Lib.hid hb3
  have HBW : Hid (∀ V, Below W1.heap.size W1 V → Below w.heap.size w V) := show ∀ V, _ from fun V hV => HB1.out.trans (hV.mono HB1.out.size)
  clear hb hb3
  cases R with
  | false =>
    go_wp2_with fail
    refine (HWK.out _ (HBW.out _ HB3.out)).mono ?_
    rintro e w4 ⟨rfl, hb⟩
    go_wp2_with fail
    go_ret
    exact ⟨rfl, (HBW.out _ HB3.out).trans (hb.mono (HBW.out _ HB3.out).size)⟩
  | true =>
    have hlen : p.length ≤ 200 ∧ q.length ≤ 200 ∧ un ≤ 500 := of_decide_eq_true HRR.out
    have HPQ : Hid (p.length ≤ 1000 ∧ q.length ≤ 1000) := show _ ∧ _ from ⟨by omega, by omega⟩
    have c0 := (HX1.out.below HB3.out HX1.out.lt).cell (j := 0) rfl
    have HC0 : Hid (∀ V, Below W1.heap.size W1 V → V.cell? ⟨w.heap.size, 0, none⟩ = some (.int .i64 k)) := show ∀ V, _ from fun V hV => (HX1.out.below hV HX1.out.lt).cell rfl
    have HL0 : Hid (∀ V, Below W1.heap.size W1 V → (Instr.loadAt 22 (.pointer (some ⟨w.heap.size, 0, none⟩))).run Tryz.prog V = .ok (.int .i64 k) V) := show ∀ V, _ from fun V hV => loadK11 ((HX1.out.below hV HX1.out.lt).cell rfl)
    clear hlen
    go_wp2_with fail
    clear c0
    have hR : Below W1.heap.size W1 w3.drew := HB3.out.drew
    refine wp_region_M 21 (fun V : World => Below W1.heap.size W1 V) (by kernel_rfl) ?_
    (refine wpAnyM_take2 8 (i := 0) (v := _) rfl (by kernel_rfl) (by kernel_rfl) (fun _ _ _ h => h) (Or.inl ⟨by rfl, fun V hSw => exec_load11 rfl rfl (HLX.out V hSw)⟩) hR ?_; (try simp only [put_laws]))
    (refine wpAnyM_take2 8 (i := 3) (v := _) rfl (by kernel_rfl) (by kernel_rfl) (fun _ _ _ h => h) (Or.inl ⟨by rfl, fun V hSw => exec_load11 rfl rfl (HLX.out V hSw)⟩) hR ?_; (try simp only [put_laws]))
    (refine wpAnyM_one (i := 1) rfl (by kernel_rfl) (fun K hK => ?_); rw [if_pos (by rfl)]; (try simp only [elem_laws]))
    go_simp
    refine (HCK.out _ (HBW.out _ hR)).mono ?_
    rintro e w4 ⟨rfl, hb⟩
    have hR2 := hR.trans (hb.mono hR.size)
    clear hb hR
    have hR := hR2
    clear hR2
    refine hK _ _ (fun h => by first | exact hR | cases h) ?_
    clear hK K
    (try simp only [put_laws])
    (refine wpAnyM_one (i := 2) rfl (by kernel_rfl) (fun K hK => ?_); rw [if_pos (by rfl)]; (try simp only [elem_laws]))
    go_simp
    refine (HNU.out _ _).mono ?_
    rintro e w' ⟨rfl, rfl⟩
    refine hK _ _ (fun h => by first | exact hR | cases h) ?_
    clear hK K
    (try simp only [put_laws])
    (refine wpAnyM_one (i := 4) rfl (by kernel_rfl) (fun K hK => ?_); rw [if_pos (by rfl)]; (try simp only [elem_laws]))
    go_simp
    refine (HRC.out _ (HBW.out _ hR) HPQ.out.1 HPQ.out.2).mono ?_
    rintro e w5 ⟨rfl, hb⟩
    have hR2 := hR.trans (hb.mono hR.size)
    clear hb hR
    have hR := hR2
    clear hR2
    refine hK _ _ (fun h => by first | exact hR | cases h) ?_
    clear hK K
    (try simp only [put_laws])
    (refine wpAnyM_take2 8 (i := 5) (v := .bool true) rfl (by kernel_rfl) (by kernel_rfl) (fun _ _ _ h => h) (Or.inl ⟨by rfl, fun w hSw => by (try dsimp only at hSw); go_simp⟩) hR ?_; (try simp only [put_laws]))
    (refine wpAnyM_take2 8 (i := 6) (v := ?_) rfl (by kernel_rfl) (by kernel_rfl) (fun _ _ _ h => h) (Or.inl ⟨by rfl, ?_⟩) hR ?_; rotate_left; (focus (intro w hSw; (try dsimp only at hSw); go_simp; (try with_reducible rfl))); (try simp only [put_laws]))
    (refine wpAnyM_take2 8 (i := 7) (v := ?_) rfl (by kernel_rfl) (by kernel_rfl) (fun _ _ _ h => h) (Or.inl ⟨by rfl, ?_⟩) hR ?_; rotate_left; (focus (intro w hSw; (try dsimp only at hSw); go_simp; (try with_reducible rfl))); (try simp only [put_laws]))
    (refine wpAnyM_take2 8 (i := 8) (v := _) rfl (by kernel_rfl) (by kernel_rfl) (fun _ _ _ h => h) (Or.inl ⟨by rfl, fun V hSw => exec_load11 rfl rfl (HL0.out V hSw)⟩) hR ?_; (try simp only [put_laws]))
    (refine wpAnyM_take2 8 (i := 10) (v := ?_) rfl (by kernel_rfl) (by kernel_rfl) (fun _ _ _ h => h) (Or.inl ⟨by rfl, ?_⟩) hR ?_; rotate_left; (focus (intro w hSw; (try dsimp only at hSw); go_simp; (try with_reducible rfl))); (try simp only [put_laws]))
    (refine wpAnyM_take2 8 (i := 11) (v := .bool false) rfl (by kernel_rfl) (by kernel_rfl) (fun _ _ _ h => h) (Or.inl ⟨by rfl, fun w hSw => by (try dsimp only at hSw); go_simp⟩) hR ?_; (try simp only [put_laws]))
    (refine wpAnyM_one (i := 9) rfl (by kernel_rfl) (fun K hK => ?_); rw [if_pos (by rfl)]; (try simp only [elem_laws]))
    go_simp
    refine (HAS.out _).mono ?_
    rintro e w' ⟨rfl, rfl⟩
    rw [show decide (k = 1 ∨ k = 2 ∨ k = 3) = false from decide_eq_false (by omega)]
    refine hK _ _ (fun h => by first | exact hR | cases h) ?_
    clear hK K
    (try simp only [put_laws])
    (refine wpAnyM_take2 8 (i := 12) (v := ?_) rfl (by kernel_rfl) (by kernel_rfl) (fun _ _ _ h => h) (Or.inl ⟨by rfl, ?_⟩) hR ?_; rotate_left; (focus (intro w hSw; (try dsimp only at hSw); go_simp; (try with_reducible rfl))); (try simp only [put_laws]))
    (refine wpAnyM_take2 8 (i := 13) (v := undef) rfl (by kernel_rfl) (by kernel_rfl) (fun _ _ _ h => h) (Or.inr ⟨by rfl, rfl⟩) hR ?_; (try simp only [put_laws]))
    (refine wpAnyM_take2 8 (i := 14) (v := undef) rfl (by kernel_rfl) (by kernel_rfl) (fun _ _ _ h => h) (Or.inr ⟨by rfl, rfl⟩) hR ?_; (try simp only [put_laws]))
    (refine wpAnyM_take2 8 (i := 15) (v := .bool false) rfl (by kernel_rfl) (by kernel_rfl) (fun _ _ _ h => h) (Or.inl ⟨by rfl, fun w hSw => by (try dsimp only at hSw); go_simp⟩) hR ?_; (try simp only [put_laws]))
    (refine wpAnyM_take2 8 (i := 16) (v := .bool true) rfl (by kernel_rfl) (by kernel_rfl) (fun _ _ _ h => h) (Or.inl ⟨by rfl, fun w hSw => by (try dsimp only at hSw); go_simp⟩) hR ?_; (try simp only [put_laws]))
    (refine wpAnyM_take2 8 (i := 17) (v := .bool true) rfl (by kernel_rfl) (by kernel_rfl) (fun _ _ _ h => h) (Or.inl ⟨by rfl, fun w hSw => by (try dsimp only at hSw); go_simp⟩) hR ?_; (try simp only [put_laws]))
    (refine wpAnyM_take2 8 (i := 18) (v := ?_) rfl (by kernel_rfl) (by kernel_rfl) (fun _ _ _ h => h) (Or.inl ⟨by rfl, ?_⟩) hR ?_; rotate_left; (focus (intro w hSw; (try dsimp only at hSw); go_simp; (try with_reducible rfl))); (try simp only [put_laws]))
    (refine wpAnyM_one (i := 19) rfl (by kernel_rfl) (fun K hK => ?_); rw [if_pos (by rfl)]; (try simp only [elem_laws]))
    go_simp
    refine (HWK.out _ (HBW.out _ hR)).mono ?_
    rintro e w6 ⟨rfl, hb⟩
    have hR2 := hR.trans (hb.mono hR.size)
    clear hb hR
    have hR := hR2
    clear hR2
    refine hK _ _ (fun h => by first | exact hR | cases h) ?_
    clear hK K
    (try simp only [put_laws])
    (refine wpAnyM_take2 8 (i := 20) (v := .bool true) rfl (by kernel_rfl) (by kernel_rfl) (fun _ _ _ h => h) (Or.inl ⟨by rfl, fun w hSw => by (try dsimp only at hSw); go_simp⟩) hR ?_; (try simp only [put_laws]))
    (refine wpAnyM_last rfl (by kernel_rfl) (fun K hK => ?_); rw [if_pos (by rfl)]; (try simp only [elem_laws]))
    go_simp
    refine hK _ _ ?_
    clear hK K
    (try simp only [put_laws])
    refine wpAnyM_done (by kernel_rfl) ?_ _
    go_wp2_with fail
    go_ret
    exact ⟨rfl, HBW.out _ hR⟩
set_option maxRecDepth 100000 in
set_option maxHeartbeats 16000000 in
theorem checks11_in (k : Int) (p q : List UInt8) (pl mn : Int) (ua : Option Addr) (un uc : Nat) (bs : List UInt8) (hk : 1 ≤ k) (hk2 : k ≤ 3) (w : World) (hm : MaxC w) (hx : OpOk w ⟨k, p, q, pl, mn, .slice ua un uc, bs⟩) :
    Calls Tryz.prog 3 #[.agg (opA ⟨k, p, q, pl, mn, .slice ua un uc, bs⟩)] w fun e w' => e = .returned (.bool true) ∧ Below w.heap.size w w' := by
  have HF := Lib.hid (fun W b hb => few11_one ⟨k, p, q, pl, mn, .slice ua un uc, bs⟩ rfl W (b := b) hb)
  have HCK := Lib.hid (fun W (hW : Below w.heap.size w W) => check11_any ⟨k, p, q, pl, mn, .slice ua un uc, bs⟩ hx.path hx.other W (hm.below hW hm.room) (hx.below hW).fb)
  have HRC := Lib.hid (fun W (hW : Below w.heap.size w W) (h1 : p.length ≤ 1000) (h2 : q.length ≤ 1000) => refCheck11_any ⟨k, p, q, pl, mn, .slice ua un uc, bs⟩ W h1 h2 (hx.below hW).fb hx.p0 hx.p1)
  have HWK := Lib.hid (fun W (hW : Below w.heap.size w W) => works11_any W (hm.below hW hm.room))
  have HAS := Lib.hid (fun W => asks11_any k W)
  have HNU := Lib.hid num11_any
  obtain ⟨rc, hrc⟩ : ∃ r, rightC ⟨k, p, q, pl, mn, .slice ua un uc, bs⟩ = r := ⟨_, rfl⟩
  rw [hrc] at HCK HRC
  unfold opA at HF HCK HRC ⊢
  dsimp only at HF HCK HRC ⊢
  obtain ⟨tp, htp⟩ : ∃ t, encStr p = .string t := ⟨_, rfl⟩
  obtain ⟨tq, htq⟩ : ∃ t, encStr q = .string t := ⟨_, rfl⟩
  rw [htp, htq] at HF HCK HRC ⊢
  obtain ⟨R, hR0⟩ : ∃ R, decide (p.length ≤ 200 ∧ q.length ≤ 200 ∧ un ≤ 500) = R := ⟨_, rfl⟩
  have HRR := Lib.hid hR0
  rw [hR0] at HF
  clear hm hx hrc htp htq hR0
  obtain ⟨W1, hW1⟩ : ∃ W1, w.alloc (.cells #[.int .i64 k, .string tp, .string tq, .int .i64 pl, .int .i64 mn, .slice ua un uc] 25) = W1 := ⟨_, rfl⟩
  have b1 : Below w.heap.size w W1 := by rw [← hW1]; exact (by repeat (first | exact Below.refl _ _ | assumption | refine Below.drew ?_ | refine below_drewN ?_ _ | refine Below.alloc ?_ (by (try simp) <;> omega) _ | refine Below.setCell ?_ (by (try simp) <;> omega) _ | refine Below.trans ?_ (Below.mono (by assumption) (by (try simp) <;> omega))))
  have x1 : Blk W1 w.heap.size 25 #[.int .i64 k, .string tp, .string tq, .int .i64 pl, .int .i64 mn, .slice ua un uc] := by rw [← hW1]; exact Blk.new _ _ _
  obtain ⟨W2, hW2⟩ : ∃ W2, W1.alloc (.cells #[.int .i64 k, .string tp, .string tq, .int .i64 pl, .int .i64 mn, .slice ua un uc] 25) = W2 := ⟨_, rfl⟩
  have b2 : Below W1.heap.size W1 W2 := by rw [← hW2]; exact (by repeat (first | exact Below.refl _ _ | assumption | refine Below.drew ?_ | refine below_drewN ?_ _ | refine Below.alloc ?_ (by (try simp) <;> omega) _ | refine Below.setCell ?_ (by (try simp) <;> omega) _ | refine Below.trans ?_ (Below.mono (by assumption) (by (try simp) <;> omega))))
  have x2 : Blk W2 W1.heap.size 25 #[.int .i64 k, .string tp, .string tq, .int .i64 pl, .int .i64 mn, .slice ua un uc] := by rw [← hW2]; exact Blk.new _ _ _
  have hz1 : W1.heap.size = w.heap.size + 1 := by rw [← hW1]; simp
  have HB1 := Lib.hid b1
  have HB2 := Lib.hid b2
  have HX1 := Lib.hid x1
  have hFF := HF.out W2 _ x2
  have HFF := Lib.hid hFF
  have HLX : Hid (∀ V, Below W1.heap.size W1 V → (Instr.loadAt 25 (.pointer (some ⟨w.heap.size, 0, none⟩))).run Tryz.prog V = .ok (.agg #[.int .i64 k, .string tp, .string tq, .int .i64 pl, .int .i64 mn, .slice ua un uc]) V) := show ∀ V, _ from fun V hV => (HX1.out.below hV HX1.out.lt).load (tt := 25) Tryz.underlying25 rfl (by kernel_rfl)
  have HW2 : Hid ((w.alloc (.cells #[.int .i64 k, .string tp, .string tq, .int .i64 pl, .int .i64 mn, .slice ua un uc] 25)).alloc (.cells #[.int .i64 k, .string tp, .string tq, .int .i64 pl, .int .i64 mn, .slice ua un uc] 25) = W2) := show _ = _ by rw [hW1]; exact hW2
  have HZ1 := Lib.hid hz1
  clear HF b1 x1 b2 x2 hFF hW1 hW2 hz1
  go_enter Tryz.func3, Tryz.ntmps3
  go_wp2_with fail
  rw [HW2.out, ← HZ1.out]
  refine HFF.out.mono ?_
  rintro e w3 ⟨rfl, hb⟩
  have hb3 : Below W1.heap.size W1 w3 := HB2.out.trans (hb.mono HB2.out.size)
  have HB3 := Lib.hid hb3
  have HBW : Hid (∀ V, Below W1.heap.size W1 V → Below w.heap.size w V) := show ∀ V, _ from fun V hV => HB1.out.trans (hV.mono HB1.out.size)
  clear hb hb3
  cases R with
  | false =>
    go_wp2_with fail
    refine (HWK.out _ (HBW.out _ HB3.out)).mono ?_
    rintro e w4 ⟨rfl, hb⟩
    go_wp2_with fail
    go_ret
    exact ⟨rfl, (HBW.out _ HB3.out).trans (hb.mono (HBW.out _ HB3.out).size)⟩
  | true =>
    have hlen : p.length ≤ 200 ∧ q.length ≤ 200 ∧ un ≤ 500 := of_decide_eq_true HRR.out
    have HPQ : Hid (p.length ≤ 1000 ∧ q.length ≤ 1000) := show _ ∧ _ from ⟨by omega, by omega⟩
    have c0 := (HX1.out.below HB3.out HX1.out.lt).cell (j := 0) rfl
    have HC0 : Hid (∀ V, Below W1.heap.size W1 V → V.cell? ⟨w.heap.size, 0, none⟩ = some (.int .i64 k)) := show ∀ V, _ from fun V hV => (HX1.out.below hV HX1.out.lt).cell rfl
    have HL0 : Hid (∀ V, Below W1.heap.size W1 V → (Instr.loadAt 22 (.pointer (some ⟨w.heap.size, 0, none⟩))).run Tryz.prog V = .ok (.int .i64 k) V) := show ∀ V, _ from fun V hV => loadK11 ((HX1.out.below hV HX1.out.lt).cell rfl)
    clear hlen
    go_wp2_with fail
    clear c0
    have hR : Below W1.heap.size W1 w3.drew := HB3.out.drew
    refine wp_region_M 21 (fun V : World => Below W1.heap.size W1 V) (by kernel_rfl) ?_
    (refine wpAnyM_take2 8 (i := 0) (v := _) rfl (by kernel_rfl) (by kernel_rfl) (fun _ _ _ h => h) (Or.inl ⟨by rfl, fun V hSw => exec_load11 rfl rfl (HLX.out V hSw)⟩) hR ?_; (try simp only [put_laws]))
    (refine wpAnyM_take2 8 (i := 3) (v := _) rfl (by kernel_rfl) (by kernel_rfl) (fun _ _ _ h => h) (Or.inl ⟨by rfl, fun V hSw => exec_load11 rfl rfl (HLX.out V hSw)⟩) hR ?_; (try simp only [put_laws]))
    (refine wpAnyM_one (i := 1) rfl (by kernel_rfl) (fun K hK => ?_); rw [if_pos (by rfl)]; (try simp only [elem_laws]))
    go_simp
    refine (HCK.out _ (HBW.out _ hR)).mono ?_
    rintro e w4 ⟨rfl, hb⟩
    have hR2 := hR.trans (hb.mono hR.size)
    clear hb hR
    have hR := hR2
    clear hR2
    refine hK _ _ (fun h => by first | exact hR | cases h) ?_
    clear hK K
    (try simp only [put_laws])
    (refine wpAnyM_one (i := 2) rfl (by kernel_rfl) (fun K hK => ?_); rw [if_pos (by rfl)]; (try simp only [elem_laws]))
    go_simp
    refine (HNU.out _ _).mono ?_
    rintro e w' ⟨rfl, rfl⟩
    refine hK _ _ (fun h => by first | exact hR | cases h) ?_
    clear hK K
    (try simp only [put_laws])
    (refine wpAnyM_one (i := 4) rfl (by kernel_rfl) (fun K hK => ?_); rw [if_pos (by rfl)]; (try simp only [elem_laws]))
    go_simp
    refine (HRC.out _ (HBW.out _ hR) HPQ.out.1 HPQ.out.2).mono ?_
    rintro e w5 ⟨rfl, hb⟩
    have hR2 := hR.trans (hb.mono hR.size)
    clear hb hR
    have hR := hR2
    clear hR2
    refine hK _ _ (fun h => by first | exact hR | cases h) ?_
    clear hK K
    (try simp only [put_laws])
    (refine wpAnyM_take2 8 (i := 5) (v := .bool true) rfl (by kernel_rfl) (by kernel_rfl) (fun _ _ _ h => h) (Or.inl ⟨by rfl, fun w hSw => by (try dsimp only at hSw); go_simp⟩) hR ?_; (try simp only [put_laws]))
    (refine wpAnyM_take2 8 (i := 6) (v := ?_) rfl (by kernel_rfl) (by kernel_rfl) (fun _ _ _ h => h) (Or.inl ⟨by rfl, ?_⟩) hR ?_; rotate_left; (focus (intro w hSw; (try dsimp only at hSw); go_simp; (try with_reducible rfl))); (try simp only [put_laws]))
    (refine wpAnyM_take2 8 (i := 7) (v := ?_) rfl (by kernel_rfl) (by kernel_rfl) (fun _ _ _ h => h) (Or.inl ⟨by rfl, ?_⟩) hR ?_; rotate_left; (focus (intro w hSw; (try dsimp only at hSw); go_simp; (try with_reducible rfl))); (try simp only [put_laws]))
    (refine wpAnyM_take2 8 (i := 8) (v := _) rfl (by kernel_rfl) (by kernel_rfl) (fun _ _ _ h => h) (Or.inl ⟨by rfl, fun V hSw => exec_load11 rfl rfl (HL0.out V hSw)⟩) hR ?_; (try simp only [put_laws]))
    (refine wpAnyM_take2 8 (i := 10) (v := ?_) rfl (by kernel_rfl) (by kernel_rfl) (fun _ _ _ h => h) (Or.inl ⟨by rfl, ?_⟩) hR ?_; rotate_left; (focus (intro w hSw; (try dsimp only at hSw); go_simp; (try with_reducible rfl))); (try simp only [put_laws]))
    (refine wpAnyM_take2 8 (i := 11) (v := .bool true) rfl (by kernel_rfl) (by kernel_rfl) (fun _ _ _ h => h) (Or.inl ⟨by rfl, fun w hSw => by (try dsimp only at hSw); go_simp⟩) hR ?_; (try simp only [put_laws]))
    (refine wpAnyM_one (i := 9) rfl (by kernel_rfl) (fun K hK => ?_); rw [if_pos (by rfl)]; (try simp only [elem_laws]))
    go_simp
    refine (HAS.out _).mono ?_
    rintro e w' ⟨rfl, rfl⟩
    rw [show decide (k = 1 ∨ k = 2 ∨ k = 3) = true from decide_eq_true (by omega)]
    refine hK _ _ (fun h => by first | exact hR | cases h) ?_
    clear hK K
    (try simp only [put_laws])
    (refine wpAnyM_take2 8 (i := 12) (v := ?_) rfl (by kernel_rfl) (by kernel_rfl) (fun _ _ _ h => h) (Or.inl ⟨by rfl, ?_⟩) hR ?_; rotate_left; (focus (intro w hSw; (try dsimp only at hSw); go_simp; (try with_reducible rfl))); (try simp only [put_laws]))
    (refine wpAnyM_take2 8 (i := 13) (v := ?_) rfl (by kernel_rfl) (by kernel_rfl) (fun _ _ _ h => h) (Or.inl ⟨by rfl, ?_⟩) hR ?_; rotate_left; (focus (intro w hSw; (try dsimp only at hSw); go_simp; (try with_reducible rfl))); (try simp only [put_laws]))
    (refine wpAnyM_take2 8 (i := 14) (v := .bool true) rfl (by kernel_rfl) (by kernel_rfl) (fun _ _ _ h => h) (Or.inl ⟨by rfl, fun w hSw => by (try dsimp only at hSw); go_simp⟩) hR ?_; (try simp only [put_laws]))
    (refine wpAnyM_take2 8 (i := 15) (v := .bool true) rfl (by kernel_rfl) (by kernel_rfl) (fun _ _ _ h => h) (Or.inl ⟨by rfl, fun w hSw => by (try dsimp only at hSw); go_simp⟩) hR ?_; (try simp only [put_laws]))
    (refine wpAnyM_take2 8 (i := 16) (v := .bool true) rfl (by kernel_rfl) (by kernel_rfl) (fun _ _ _ h => h) (Or.inl ⟨by rfl, fun w hSw => by (try dsimp only at hSw); go_simp⟩) hR ?_; (try simp only [put_laws]))
    (refine wpAnyM_take2 8 (i := 17) (v := .bool true) rfl (by kernel_rfl) (by kernel_rfl) (fun _ _ _ h => h) (Or.inl ⟨by rfl, fun w hSw => by (try dsimp only at hSw); go_simp⟩) hR ?_; (try simp only [put_laws]))
    (refine wpAnyM_take2 8 (i := 18) (v := ?_) rfl (by kernel_rfl) (by kernel_rfl) (fun _ _ _ h => h) (Or.inl ⟨by rfl, ?_⟩) hR ?_; rotate_left; (focus (intro w hSw; (try dsimp only at hSw); go_simp; (try with_reducible rfl))); (try simp only [put_laws]))
    (refine wpAnyM_one (i := 19) rfl (by kernel_rfl) (fun K hK => ?_); rw [if_pos (by rfl)]; (try simp only [elem_laws]))
    go_simp
    refine (HWK.out _ (HBW.out _ hR)).mono ?_
    rintro e w6 ⟨rfl, hb⟩
    have hR2 := hR.trans (hb.mono hR.size)
    clear hb hR
    have hR := hR2
    clear hR2
    refine hK _ _ (fun h => by first | exact hR | cases h) ?_
    clear hK K
    (try simp only [put_laws])
    (refine wpAnyM_take2 8 (i := 20) (v := .bool true) rfl (by kernel_rfl) (by kernel_rfl) (fun _ _ _ h => h) (Or.inl ⟨by rfl, fun w hSw => by (try dsimp only at hSw); go_simp⟩) hR ?_; (try simp only [put_laws]))
    (refine wpAnyM_last rfl (by kernel_rfl) (fun K hK => ?_); rw [if_pos (by rfl)]; (try simp only [elem_laws]))
    go_simp
    refine hK _ _ ?_
    clear hK K
    (try simp only [put_laws])
    refine wpAnyM_done (by kernel_rfl) ?_ _
    go_wp2_with fail
    go_ret
    exact ⟨rfl, HBW.out _ hR⟩
set_option maxRecDepth 100000 in
set_option maxHeartbeats 16000000 in
theorem checks11_hi (k : Int) (p q : List UInt8) (pl mn : Int) (ua : Option Addr) (un uc : Nat) (bs : List UInt8) (hk : 1 ≤ k) (hk2 : 3 < k) (w : World) (hm : MaxC w) (hx : OpOk w ⟨k, p, q, pl, mn, .slice ua un uc, bs⟩) :
    Calls Tryz.prog 3 #[.agg (opA ⟨k, p, q, pl, mn, .slice ua un uc, bs⟩)] w fun e w' => e = .returned (.bool true) ∧ Below w.heap.size w w' := by
  have HF := Lib.hid (fun W b hb => few11_one ⟨k, p, q, pl, mn, .slice ua un uc, bs⟩ rfl W (b := b) hb)
  have HCK := Lib.hid (fun W (hW : Below w.heap.size w W) => check11_any ⟨k, p, q, pl, mn, .slice ua un uc, bs⟩ hx.path hx.other W (hm.below hW hm.room) (hx.below hW).fb)
  have HRC := Lib.hid (fun W (hW : Below w.heap.size w W) (h1 : p.length ≤ 1000) (h2 : q.length ≤ 1000) => refCheck11_any ⟨k, p, q, pl, mn, .slice ua un uc, bs⟩ W h1 h2 (hx.below hW).fb hx.p0 hx.p1)
  have HWK := Lib.hid (fun W (hW : Below w.heap.size w W) => works11_any W (hm.below hW hm.room))
  have HAS := Lib.hid (fun W => asks11_any k W)
  have HNU := Lib.hid num11_any
  obtain ⟨rc, hrc⟩ : ∃ r, rightC ⟨k, p, q, pl, mn, .slice ua un uc, bs⟩ = r := ⟨_, rfl⟩
  rw [hrc] at HCK HRC
  unfold opA at HF HCK HRC ⊢
  dsimp only at HF HCK HRC ⊢
  obtain ⟨tp, htp⟩ : ∃ t, encStr p = .string t := ⟨_, rfl⟩
  obtain ⟨tq, htq⟩ : ∃ t, encStr q = .string t := ⟨_, rfl⟩
  rw [htp, htq] at HF HCK HRC ⊢
  obtain ⟨R, hR0⟩ : ∃ R, decide (p.length ≤ 200 ∧ q.length ≤ 200 ∧ un ≤ 500) = R := ⟨_, rfl⟩
  have HRR := Lib.hid hR0
  rw [hR0] at HF
  clear hm hx hrc htp htq hR0
  obtain ⟨W1, hW1⟩ : ∃ W1, w.alloc (.cells #[.int .i64 k, .string tp, .string tq, .int .i64 pl, .int .i64 mn, .slice ua un uc] 25) = W1 := ⟨_, rfl⟩
  have b1 : Below w.heap.size w W1 := by rw [← hW1]; exact (by repeat (first | exact Below.refl _ _ | assumption | refine Below.drew ?_ | refine below_drewN ?_ _ | refine Below.alloc ?_ (by (try simp) <;> omega) _ | refine Below.setCell ?_ (by (try simp) <;> omega) _ | refine Below.trans ?_ (Below.mono (by assumption) (by (try simp) <;> omega))))
  have x1 : Blk W1 w.heap.size 25 #[.int .i64 k, .string tp, .string tq, .int .i64 pl, .int .i64 mn, .slice ua un uc] := by rw [← hW1]; exact Blk.new _ _ _
  obtain ⟨W2, hW2⟩ : ∃ W2, W1.alloc (.cells #[.int .i64 k, .string tp, .string tq, .int .i64 pl, .int .i64 mn, .slice ua un uc] 25) = W2 := ⟨_, rfl⟩
  have b2 : Below W1.heap.size W1 W2 := by rw [← hW2]; exact (by repeat (first | exact Below.refl _ _ | assumption | refine Below.drew ?_ | refine below_drewN ?_ _ | refine Below.alloc ?_ (by (try simp) <;> omega) _ | refine Below.setCell ?_ (by (try simp) <;> omega) _ | refine Below.trans ?_ (Below.mono (by assumption) (by (try simp) <;> omega))))
  have x2 : Blk W2 W1.heap.size 25 #[.int .i64 k, .string tp, .string tq, .int .i64 pl, .int .i64 mn, .slice ua un uc] := by rw [← hW2]; exact Blk.new _ _ _
  have hz1 : W1.heap.size = w.heap.size + 1 := by rw [← hW1]; simp
  have HB1 := Lib.hid b1
  have HB2 := Lib.hid b2
  have HX1 := Lib.hid x1
  have hFF := HF.out W2 _ x2
  have HFF := Lib.hid hFF
  have HLX : Hid (∀ V, Below W1.heap.size W1 V → (Instr.loadAt 25 (.pointer (some ⟨w.heap.size, 0, none⟩))).run Tryz.prog V = .ok (.agg #[.int .i64 k, .string tp, .string tq, .int .i64 pl, .int .i64 mn, .slice ua un uc]) V) := show ∀ V, _ from fun V hV => (HX1.out.below hV HX1.out.lt).load (tt := 25) Tryz.underlying25 rfl (by kernel_rfl)
  have HW2 : Hid ((w.alloc (.cells #[.int .i64 k, .string tp, .string tq, .int .i64 pl, .int .i64 mn, .slice ua un uc] 25)).alloc (.cells #[.int .i64 k, .string tp, .string tq, .int .i64 pl, .int .i64 mn, .slice ua un uc] 25) = W2) := show _ = _ by rw [hW1]; exact hW2
  have HZ1 := Lib.hid hz1
  clear HF b1 x1 b2 x2 hFF hW1 hW2 hz1
  go_enter Tryz.func3, Tryz.ntmps3
  go_wp2_with fail
  rw [HW2.out, ← HZ1.out]
  refine HFF.out.mono ?_
  rintro e w3 ⟨rfl, hb⟩
  have hb3 : Below W1.heap.size W1 w3 := HB2.out.trans (hb.mono HB2.out.size)
  have HB3 := Lib.hid hb3
  have HBW : Hid (∀ V, Below W1.heap.size W1 V → Below w.heap.size w V) := show ∀ V, _ from fun V hV => HB1.out.trans (hV.mono HB1.out.size)
  clear hb hb3
  cases R with
  | false =>
    go_wp2_with fail
    refine (HWK.out _ (HBW.out _ HB3.out)).mono ?_
    rintro e w4 ⟨rfl, hb⟩
    go_wp2_with fail
    go_ret
    exact ⟨rfl, (HBW.out _ HB3.out).trans (hb.mono (HBW.out _ HB3.out).size)⟩
  | true =>
    have hlen : p.length ≤ 200 ∧ q.length ≤ 200 ∧ un ≤ 500 := of_decide_eq_true HRR.out
    have HPQ : Hid (p.length ≤ 1000 ∧ q.length ≤ 1000) := show _ ∧ _ from ⟨by omega, by omega⟩
    have c0 := (HX1.out.below HB3.out HX1.out.lt).cell (j := 0) rfl
    have HC0 : Hid (∀ V, Below W1.heap.size W1 V → V.cell? ⟨w.heap.size, 0, none⟩ = some (.int .i64 k)) := show ∀ V, _ from fun V hV => (HX1.out.below hV HX1.out.lt).cell rfl
    have HL0 : Hid (∀ V, Below W1.heap.size W1 V → (Instr.loadAt 22 (.pointer (some ⟨w.heap.size, 0, none⟩))).run Tryz.prog V = .ok (.int .i64 k) V) := show ∀ V, _ from fun V hV => loadK11 ((HX1.out.below hV HX1.out.lt).cell rfl)
    clear hlen
    go_wp2_with fail
    clear c0
    have hR : Below W1.heap.size W1 w3.drew := HB3.out.drew
    refine wp_region_M 21 (fun V : World => Below W1.heap.size W1 V) (by kernel_rfl) ?_
    (refine wpAnyM_take2 8 (i := 0) (v := _) rfl (by kernel_rfl) (by kernel_rfl) (fun _ _ _ h => h) (Or.inl ⟨by rfl, fun V hSw => exec_load11 rfl rfl (HLX.out V hSw)⟩) hR ?_; (try simp only [put_laws]))
    (refine wpAnyM_take2 8 (i := 3) (v := _) rfl (by kernel_rfl) (by kernel_rfl) (fun _ _ _ h => h) (Or.inl ⟨by rfl, fun V hSw => exec_load11 rfl rfl (HLX.out V hSw)⟩) hR ?_; (try simp only [put_laws]))
    (refine wpAnyM_one (i := 1) rfl (by kernel_rfl) (fun K hK => ?_); rw [if_pos (by rfl)]; (try simp only [elem_laws]))
    go_simp
    refine (HCK.out _ (HBW.out _ hR)).mono ?_
    rintro e w4 ⟨rfl, hb⟩
    have hR2 := hR.trans (hb.mono hR.size)
    clear hb hR
    have hR := hR2
    clear hR2
    refine hK _ _ (fun h => by first | exact hR | cases h) ?_
    clear hK K
    (try simp only [put_laws])
    (refine wpAnyM_one (i := 2) rfl (by kernel_rfl) (fun K hK => ?_); rw [if_pos (by rfl)]; (try simp only [elem_laws]))
    go_simp
    refine (HNU.out _ _).mono ?_
    rintro e w' ⟨rfl, rfl⟩
    refine hK _ _ (fun h => by first | exact hR | cases h) ?_
    clear hK K
    (try simp only [put_laws])
    (refine wpAnyM_one (i := 4) rfl (by kernel_rfl) (fun K hK => ?_); rw [if_pos (by rfl)]; (try simp only [elem_laws]))
    go_simp
    refine (HRC.out _ (HBW.out _ hR) HPQ.out.1 HPQ.out.2).mono ?_
    rintro e w5 ⟨rfl, hb⟩
    have hR2 := hR.trans (hb.mono hR.size)
    clear hb hR
    have hR := hR2
    clear hR2
    refine hK _ _ (fun h => by first | exact hR | cases h) ?_
    clear hK K
    (try simp only [put_laws])
    (refine wpAnyM_take2 8 (i := 5) (v := .bool true) rfl (by kernel_rfl) (by kernel_rfl) (fun _ _ _ h => h) (Or.inl ⟨by rfl, fun w hSw => by (try dsimp only at hSw); go_simp⟩) hR ?_; (try simp only [put_laws]))
    (refine wpAnyM_take2 8 (i := 6) (v := ?_) rfl (by kernel_rfl) (by kernel_rfl) (fun _ _ _ h => h) (Or.inl ⟨by rfl, ?_⟩) hR ?_; rotate_left; (focus (intro w hSw; (try dsimp only at hSw); go_simp; (try with_reducible rfl))); (try simp only [put_laws]))
    (refine wpAnyM_take2 8 (i := 7) (v := ?_) rfl (by kernel_rfl) (by kernel_rfl) (fun _ _ _ h => h) (Or.inl ⟨by rfl, ?_⟩) hR ?_; rotate_left; (focus (intro w hSw; (try dsimp only at hSw); go_simp; (try with_reducible rfl))); (try simp only [put_laws]))
    (refine wpAnyM_take2 8 (i := 8) (v := _) rfl (by kernel_rfl) (by kernel_rfl) (fun _ _ _ h => h) (Or.inl ⟨by rfl, fun V hSw => exec_load11 rfl rfl (HL0.out V hSw)⟩) hR ?_; (try simp only [put_laws]))
    (refine wpAnyM_take2 8 (i := 10) (v := ?_) rfl (by kernel_rfl) (by kernel_rfl) (fun _ _ _ h => h) (Or.inl ⟨by rfl, ?_⟩) hR ?_; rotate_left; (focus (intro w hSw; (try dsimp only at hSw); go_simp; (try with_reducible rfl))); (try simp only [put_laws]))
    (refine wpAnyM_take2 8 (i := 11) (v := .bool true) rfl (by kernel_rfl) (by kernel_rfl) (fun _ _ _ h => h) (Or.inl ⟨by rfl, fun w hSw => by (try dsimp only at hSw); go_simp⟩) hR ?_; (try simp only [put_laws]))
    (refine wpAnyM_one (i := 9) rfl (by kernel_rfl) (fun K hK => ?_); rw [if_pos (by rfl)]; (try simp only [elem_laws]))
    go_simp
    refine (HAS.out _).mono ?_
    rintro e w' ⟨rfl, rfl⟩
    rw [show decide (k = 1 ∨ k = 2 ∨ k = 3) = false from decide_eq_false (by omega)]
    refine hK _ _ (fun h => by first | exact hR | cases h) ?_
    clear hK K
    (try simp only [put_laws])
    (refine wpAnyM_take2 8 (i := 12) (v := ?_) rfl (by kernel_rfl) (by kernel_rfl) (fun _ _ _ h => h) (Or.inl ⟨by rfl, ?_⟩) hR ?_; rotate_left; (focus (intro w hSw; (try dsimp only at hSw); go_simp; (try with_reducible rfl))); (try simp only [put_laws]))
    (refine wpAnyM_take2 8 (i := 13) (v := ?_) rfl (by kernel_rfl) (by kernel_rfl) (fun _ _ _ h => h) (Or.inl ⟨by rfl, ?_⟩) hR ?_; rotate_left; (focus (intro w hSw; (try dsimp only at hSw); go_simp; (try with_reducible rfl))); (try simp only [put_laws]))
    (refine wpAnyM_take2 8 (i := 14) (v := .bool false) rfl (by kernel_rfl) (by kernel_rfl) (fun _ _ _ h => h) (Or.inl ⟨by rfl, fun w hSw => by (try dsimp only at hSw); go_simp⟩) hR ?_; (try simp only [put_laws]))
    (refine wpAnyM_take2 8 (i := 15) (v := .bool false) rfl (by kernel_rfl) (by kernel_rfl) (fun _ _ _ h => h) (Or.inl ⟨by rfl, fun w hSw => by (try dsimp only at hSw); go_simp⟩) hR ?_; (try simp only [put_laws]))
    (refine wpAnyM_take2 8 (i := 16) (v := .bool true) rfl (by kernel_rfl) (by kernel_rfl) (fun _ _ _ h => h) (Or.inl ⟨by rfl, fun w hSw => by (try dsimp only at hSw); go_simp⟩) hR ?_; (try simp only [put_laws]))
    (refine wpAnyM_take2 8 (i := 17) (v := .bool true) rfl (by kernel_rfl) (by kernel_rfl) (fun _ _ _ h => h) (Or.inl ⟨by rfl, fun w hSw => by (try dsimp only at hSw); go_simp⟩) hR ?_; (try simp only [put_laws]))
    (refine wpAnyM_take2 8 (i := 18) (v := ?_) rfl (by kernel_rfl) (by kernel_rfl) (fun _ _ _ h => h) (Or.inl ⟨by rfl, ?_⟩) hR ?_; rotate_left; (focus (intro w hSw; (try dsimp only at hSw); go_simp; (try with_reducible rfl))); (try simp only [put_laws]))
    (refine wpAnyM_one (i := 19) rfl (by kernel_rfl) (fun K hK => ?_); rw [if_pos (by rfl)]; (try simp only [elem_laws]))
    go_simp
    refine (HWK.out _ (HBW.out _ hR)).mono ?_
    rintro e w6 ⟨rfl, hb⟩
    have hR2 := hR.trans (hb.mono hR.size)
    clear hb hR
    have hR := hR2
    clear hR2
    refine hK _ _ (fun h => by first | exact hR | cases h) ?_
    clear hK K
    (try simp only [put_laws])
    (refine wpAnyM_take2 8 (i := 20) (v := .bool true) rfl (by kernel_rfl) (by kernel_rfl) (fun _ _ _ h => h) (Or.inl ⟨by rfl, fun w hSw => by (try dsimp only at hSw); go_simp⟩) hR ?_; (try simp only [put_laws]))
    (refine wpAnyM_last rfl (by kernel_rfl) (fun K hK => ?_); rw [if_pos (by rfl)]; (try simp only [elem_laws]))
    go_simp
    refine hK _ _ ?_
    clear hK K
    (try simp only [put_laws])
    refine wpAnyM_done (by kernel_rfl) ?_ _
    go_wp2_with fail
    go_ret
    exact ⟨rfl, HBW.out _ hR⟩
theorem checks11_any (x : OpX) (w : World) (hm : MaxC w) (hx : OpOk w x) : Calls Tryz.prog 3 #[.agg (opA x)] w fun e w' => e = .returned (.bool true) ∧ Below w.heap.size w w' := by
  obtain ⟨k, p, q, pl, mn, ub, bs⟩ := x
  obtain ⟨ua, uc, hu, -⟩ := hx.fb.form
  have hu2 : ub = .slice ua (bytesN bs).length uc := hu
  subst hu2
  by_cases h1 : k < 1
  · exact checks11_lo k p q pl mn ua _ uc bs h1 w hm hx
  by_cases h2 : k ≤ 3
  · exact checks11_in k p q pl mn ua _ uc bs (by omega) h2 w hm hx
  · exact checks11_hi k p q pl mn ua _ uc bs (by omega) (by omega) w hm hx
set_option maxRecDepth 100000 in
set_option maxHeartbeats 16000000 in
theorem checks11_far (x : OpX) (w : World) (hm : MaxC w) (hfb : FB w x.ub (bytesN x.bytes)) (hlong : ¬ (x.path.length ≤ 200 ∧ x.other.length ≤ 200)) : Calls Tryz.prog 3 #[.agg (opA x)] w fun e w' => e = .returned (.bool true) ∧ Below w.heap.size w w' := by
  obtain ⟨k, p, q, pl, mn, ub, bs⟩ := x
  obtain ⟨ua, uc, hu, -⟩ := hfb.form
  have hu2 : ub = .slice ua (bytesN bs).length uc := hu
  subst hu2
  obtain ⟨un, hun⟩ : ∃ n, (bytesN bs).length = n := ⟨_, rfl⟩
  rw [hun]
  dsimp only at hlong
  have HF := Lib.hid (fun W b hb => few11_one ⟨k, p, q, pl, mn, .slice ua un uc, bs⟩ rfl W (b := b) hb)
  have HWK := Lib.hid (fun W (hW : Below w.heap.size w W) => works11_any W (hm.below hW hm.room))
  unfold opA at HF ⊢
  dsimp only at HF ⊢
  rw [show decide (p.length ≤ 200 ∧ q.length ≤ 200 ∧ un ≤ 500) = false from decide_eq_false (fun h => hlong ⟨h.1, h.2.1⟩)] at HF
  obtain ⟨tp, htp⟩ : ∃ t, encStr p = .string t := ⟨_, rfl⟩
  obtain ⟨tq, htq⟩ : ∃ t, encStr q = .string t := ⟨_, rfl⟩
  rw [htp, htq] at HF ⊢
  clear hm htp htq hfb hu hun hlong
  obtain ⟨W1, hW1⟩ : ∃ W1, w.alloc (.cells #[.int .i64 k, .string tp, .string tq, .int .i64 pl, .int .i64 mn, .slice ua un uc] 25) = W1 := ⟨_, rfl⟩
  have b1 : Below w.heap.size w W1 := by rw [← hW1]; exact (by repeat (first | exact Below.refl _ _ | assumption | refine Below.drew ?_ | refine below_drewN ?_ _ | refine Below.alloc ?_ (by (try simp) <;> omega) _ | refine Below.setCell ?_ (by (try simp) <;> omega) _ | refine Below.trans ?_ (Below.mono (by assumption) (by (try simp) <;> omega))))
  obtain ⟨W2, hW2⟩ : ∃ W2, W1.alloc (.cells #[.int .i64 k, .string tp, .string tq, .int .i64 pl, .int .i64 mn, .slice ua un uc] 25) = W2 := ⟨_, rfl⟩
  have b2 : Below W1.heap.size W1 W2 := by rw [← hW2]; exact (by repeat (first | exact Below.refl _ _ | assumption | refine Below.drew ?_ | refine below_drewN ?_ _ | refine Below.alloc ?_ (by (try simp) <;> omega) _ | refine Below.setCell ?_ (by (try simp) <;> omega) _ | refine Below.trans ?_ (Below.mono (by assumption) (by (try simp) <;> omega))))
  have x2 : Blk W2 W1.heap.size 25 #[.int .i64 k, .string tp, .string tq, .int .i64 pl, .int .i64 mn, .slice ua un uc] := by rw [← hW2]; exact Blk.new _ _ _
  have hz1 : W1.heap.size = w.heap.size + 1 := by rw [← hW1]; simp
  have HB2 : Hid (Below w.heap.size w W2) := show Below _ _ _ from b1.trans (b2.mono b1.size)
  have hFF := HF.out W2 _ x2
  have HFF := Lib.hid hFF
  have HW2 : Hid ((w.alloc (.cells #[.int .i64 k, .string tp, .string tq, .int .i64 pl, .int .i64 mn, .slice ua un uc] 25)).alloc (.cells #[.int .i64 k, .string tp, .string tq, .int .i64 pl, .int .i64 mn, .slice ua un uc] 25) = W2) := show _ = _ by rw [hW1]; exact hW2
  have HZ1 := Lib.hid hz1
  clear HF b1 b2 x2 hFF hW1 hW2 hz1
  go_enter Tryz.func3, Tryz.ntmps3
  go_wp2_with fail
  rw [HW2.out, ← HZ1.out]
  refine HFF.out.mono ?_
  rintro e w3 ⟨rfl, hb⟩
  have HB3 : Hid (Below w.heap.size w w3) := show Below _ _ _ from HB2.out.trans (hb.mono HB2.out.size)
  clear hb
  go_wp2_with fail
  refine (HWK.out _ HB3.out).mono ?_
  rintro e w4 ⟨rfl, hb⟩
  go_wp2_with fail
  go_ret
  exact ⟨rfl, HB3.out.trans (hb.mono HB3.out.size)⟩
theorem checks11_all (x : OpX) (w : World) (hm : MaxC w) (hp : -9223372036854775808 ≤ x.place ∧ x.place ≤ 9223372036854775807) (hn : -9223372036854775808 ≤ x.many ∧ x.many ≤ 9223372036854775807) (hfb : FB w x.ub (bytesN x.bytes)) : Calls Tryz.prog 3 #[.agg (opA x)] w fun e w' => e = .returned (.bool true) ∧ Below w.heap.size w w' := by
  by_cases h : x.path.length ≤ 200 ∧ x.other.length ≤ 200
  · exact checks11_any x w hm ⟨by omega, by omega, hp.1, hp.2, hn.1, hn.2, hfb⟩
  · exact checks11_far x w hm hfb h
end Go.Proofs.YtgoemaecdolioaaGreatDoor
