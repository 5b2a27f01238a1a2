/-
  Texts MeI to MeI, as one.
-/
import Derived.Test.YtgoemaecdolioaaGreatDoorMo33
import Derived.Test.YtgoemaecdolioaaGreatDoorMo34
import Derived.Test.YtgoemaecdolioaaGreatDoorMo35
import Derived.Test.YtgoemaecdolioaaGreatDoorMo37
import Derived.Lib.SmallJoins
/-
  model: the chapter's rows. (gen_mei.py)
-/
namespace Go.Proofs.YtgoemaecdolioaaGreatDoor
open Go.RowKit Go.Shelf
attribute [local go_sem] Oper.semAt_some

theorem two_res (W : World) (X Y : Array Value) : Below W.heap.size W ((W.alloc (.cells X 44)).alloc (.cells Y 44)) ∧ Blk ((W.alloc (.cells X 44)).alloc (.cells Y 44)) W.heap.size 44 X ∧ Blk ((W.alloc (.cells X 44)).alloc (.cells Y 44)) (W.heap.size + 1) 44 Y := by
  have h1 := Blk.new W 44 X
  have h2 := Blk.new (W.alloc (.cells X 44)) 44 Y
  rw [World.size_alloc] at h2
  exact ⟨((Below.refl _ _).alloc (Nat.le_refl _) _).alloc (by simp) _, h1.below ((Below.refl _ _).alloc (Nat.le_refl _) _) h1.lt, h2⟩
theorem one_res (W : World) (X : Array Value) : Below W.heap.size W (W.alloc (.cells X 44)) ∧ Blk (W.alloc (.cells X 44)) W.heap.size 44 X := ⟨(Below.refl _ _).alloc (Nat.le_refl _) _, Blk.new _ _ _⟩
theorem lit_txs11 (W : World) (s : List UInt8) : TxS (W.alloc (.cells #[encStr s] 9)) (.slice (some ⟨W.heap.size, 0, none⟩) 1 1) [s] := by
  refine ⟨rfl, _, 1, rfl, Nat.le_refl _, fun _ => ⟨W.heap.size, 0, rfl, by simp, fun j y hj => ?_⟩⟩
  match j, hj with
  | 0, hj =>
    simp at hj
    subst hj
    simp [go_sem]
theorem texts_f11 (a : Option Addr) (c : Nat) (W : World) (h : TxS W (.slice a 1 c) [[102]]) : Calls Tryz.prog 29 #[.slice a 1 c, .slice (some ⟨W.heap.size, 0, none⟩) 1 1] (W.alloc (.cells #[.string { data := #[102] }] 9)) fun e w' => e = .returned (.bool true) ∧ Below W.heap.size W w' := by
  have hb : Below W.heap.size W (W.alloc (.cells #[encStr [102]] 9)) := (Below.refl _ _).alloc (Nat.le_refl _) _
  refine (refTexts_any (.slice a 1 c) (.slice (some ⟨W.heap.size, 0, none⟩) 1 1) [[102]] [[102]] (by decide) (by decide) (W.alloc (.cells #[encStr [102]] 9)) (Vec.below h hb) (lit_txs11 W [102])).mono ?_
  rintro e w' ⟨rfl, h2⟩
  exact ⟨by rw [decide_eq_true rfl], hb.trans (h2.mono hb.size)⟩
theorem load11_0 {V : World} {b o : Nat} {v : Value} (h : V.cell? ⟨b, o, none⟩ = some v) : (Instr.loadAt 30 (.pointer (some ⟨b, o, none⟩))).run Tryz.prog V = .ok v V := by go_simp
theorem load11_1 {V : World} {b o : Nat} {v : Value} (h : V.cell? ⟨b, o, none⟩ = some v) : (Instr.loadAt 41 (.pointer (some ⟨b, o, none⟩))).run Tryz.prog V = .ok v V := by go_simp
theorem load11_2 {V : World} {b o : Nat} {v : Value} (h : V.cell? ⟨b, o, none⟩ = some v) : (Instr.loadAt 3 (.pointer (some ⟨b, o, none⟩))).run Tryz.prog V = .ok v V := by go_simp
theorem load11_3 {V : World} {b o : Nat} {v : Value} (h : V.cell? ⟨b, o, none⟩ = some v) : (Instr.loadAt 3 (.pointer (some ⟨b, o, none⟩))).run Tryz.prog V = .ok v V := by go_simp
theorem load11_4 {V : World} {b o : Nat} {v : Value} (h : V.cell? ⟨b, o, none⟩ = some v) : (Instr.loadAt 42 (.pointer (some ⟨b, o, none⟩))).run Tryz.prog V = .ok v V := by go_simp
theorem load11_5 {V : World} {b o : Nat} {v : Value} (h : V.cell? ⟨b, o, none⟩ = some v) : (Instr.loadAt 23 (.pointer (some ⟨b, o, none⟩))).run Tryz.prog V = .ok v V := by go_simp
theorem exec_load11 {P : Program} {w : World} {o : Oper} {a : Act} {ty : TypeId} {x : Operand} (ho : o.op = .load ty x) {p v : Value} (hx : a.eval x = p) (hr : (Instr.loadAt ty p).run P w = .ok v w) : (execOp a.eval o).run P w = .ok (.value v) w := by
  unfold execOp
  simp only [ho, hx, hr, Sem.run_bind, Result.andThen_ok]
  rfl
theorem set0_11 {α : Type} (x y : α) (l : List α) : (x :: l).set 0 y = y :: l := rfl
theorem setS_11 {α : Type} (x y : α) (l : List α) (i : Nat) : (x :: l).set (i + 1) y = x :: l.set i y := rfl
theorem start12 {P : Program} {md : Region.Mode} {ops : Array Oper} {Q : Exit → Act → World → Prop} {m : Nat} {R : World → Prop} {ops' : Array Oper} {f f' : Nat} {l : Array Bool} {B : List Bool} {a : Act} {w : World} (ho : ops = ops') (hf : f = f') (hl : l = B.toArray) (h : ops = ops' → wpAnyM P md ops Q m R f' B.toArray a w) : wpAnyM P md ops Q m R f l a w := by
  subst hf hl
  exact h ho
theorem RowM11.mod_below {lo B T r m : Nat} {t : RT} {w W V : World} (h : RowM11 lo B T r m t w W) (hb : Below W.heap.size W V) : ∃ G, ModR lo V B T r G m t := by
  obtain ⟨G, hg⟩ := h.mod
  exact ⟨G, hg.below hb⟩
set_option maxRecDepth 100000 in
set_option maxHeartbeats 16000000 in
theorem works11_any (w : World) (hm : MaxC w) : Calls Tryz.prog 11 #[] w fun e w' => e = .returned (.bool true) ∧ Below w.heap.size w w' := by
  have HN := Lib.hid (newM_any w hm)
  have HNU := Lib.hid num11_any
  have R1 := Lib.hid (fun B T r W => row11_1 (lo := w.heap.size) (B := B) (T := T) (r := r) W)
  have R2 := Lib.hid (fun B T r W => row11_2 (lo := w.heap.size) (B := B) (T := T) (r := r) W)
  have R3 := Lib.hid (fun B T r W => row11_3 (lo := w.heap.size) (B := B) (T := T) (r := r) W)
  have R4 := Lib.hid (fun B T r W => row11_4 (lo := w.heap.size) (B := B) (T := T) (r := r) W)
  have R5 := Lib.hid (fun B T r W => row11_5 (lo := w.heap.size) (B := B) (T := T) (r := r) W)
  have R6 := Lib.hid (fun B T r W => row11_6 (lo := w.heap.size) (B := B) (T := T) (r := r) W)
  have R7 := Lib.hid (fun B T r W => row11_7 (lo := w.heap.size) (B := B) (T := T) (r := r) W)
  have R8 := Lib.hid (fun B T r W => row11_8 (lo := w.heap.size) (B := B) (T := T) (r := r) W)
  have R9 := Lib.hid (fun B T r W => row11_9 (lo := w.heap.size) (B := B) (T := T) (r := r) W)
  have R10 := Lib.hid (fun B T r W => row11_10 (lo := w.heap.size) (B := B) (T := T) (r := r) W)
  have R11 := Lib.hid (fun B T r W => row11_11 (lo := w.heap.size) (B := B) (T := T) (r := r) W)
  have R12 := Lib.hid (fun B T r W => row11_12 (lo := w.heap.size) (B := B) (T := T) (r := r) W)
  have R13 := Lib.hid (fun B T r W => row11_13 (lo := w.heap.size) (B := B) (T := T) (r := r) W)
  have HTX := Lib.hid texts_f11
  clear hm
  go_enter Tryz.func11, Tryz.ntmps11
  go_wp2_with fail
  refine HN.out.mono ?_
  rintro e w0 ⟨B, T, r, G, rfl, hM, hb0⟩
  have HB0 := Lib.hid hb0
  have HM0 : Hid (∃ G, ModR w.heap.size w0 B T r G 0 tr11_0) := show ∃ G, _ from ⟨G, hM⟩
  clear hM hb0
  go_wp2_with fail
  refine (R1.out B T r w0 (HM0.out)).mono ?_
  rintro e w1 ⟨L1, rfl⟩
  have HL1 := Lib.hid L1
  have HB1 : Hid (Below w.heap.size w w1) := show Below _ _ _ from HB0.out.trans HL1.out.below
  clear L1
  unfold resA
  have kc1 := Go.Joins.run_convert_bytes_const_at (P := Tryz.prog) w1 23 5 #[.int .u8 104, .int .u8 105] 2 2 _ rfl Tryz.underlying23 Tryz.underlying5
  go_wp2_with fail
  clear kc1
  refine (R2.out B T r w1 (HL1.out.mod)).mono ?_
  rintro e w2 ⟨L2, rfl⟩
  have HL2 := Lib.hid L2
  have HB2 : Hid (Below w.heap.size w w2) := show Below _ _ _ from HB1.out.trans HL2.out.below
  clear L2
  unfold resA
  have tr := two_res w2 #[.int .i64 0, .int .i64 0, .int .i64 0, .int .i64 0, .slice none 0 0, .slice none 0 0] #[.int .i64 0, .int .i64 0, .int .i64 0, .int .i64 0, .slice none 0 0, .slice none 0 0]
  obtain ⟨v1, hV⟩ : ∃ V, ((w2.alloc (.cells #[.int .i64 0, .int .i64 0, .int .i64 0, .int .i64 0, .slice none 0 0, .slice none 0 0] 44)).alloc (.cells #[.int .i64 0, .int .i64 0, .int .i64 0, .int .i64 0, .slice none 0 0, .slice none 0 0] 44)) = V := ⟨_, rfl⟩
  rw [hV] at tr
  obtain ⟨t1, t2, t3⟩ := tr
  have HVB1 : Hid (Below w2.heap.size w2 v1) := show Below _ _ _ from t1
  have HX1 := Lib.hid t2
  have HX2 := Lib.hid t3
  have HVW1 : Hid (Below w.heap.size w v1) := show Below _ _ _ from HB2.out.trans (t1.mono HB2.out.size)
  clear t1 t2 t3
  have HVE1 := Lib.hid hV
  clear hV
  go_wp2_with fail
  rw [HVE1.out]
  refine (R3.out B T r v1 (HL2.out.mod_below HVB1.out)).mono ?_
  rintro e w3 ⟨L3, a3, c3, rfl, F3⟩
  have HF3 := Lib.hid F3
  have HL3 := Lib.hid L3
  have HB3 : Hid (Below w.heap.size w w3) := show Below _ _ _ from HVW1.out.trans HL3.out.below
  clear L3 F3
  unfold resA
  go_wp2_with fail
  refine (R4.out B T r w3 (HL3.out.mod)).mono ?_
  rintro e w4 ⟨L4, rfl⟩
  have HL4 := Lib.hid L4
  have HB4 : Hid (Below w.heap.size w w4) := show Below _ _ _ from HB3.out.trans HL4.out.below
  clear L4
  unfold resA
  have tr := two_res w4 #[.int .i64 0, .int .i64 0, .int .i64 0, .int .i64 0, .slice none 0 0, .slice a3 4 c3] #[.int .i64 0, .int .i64 1, .int .i64 1, .int .i64 4, .slice none 0 0, .slice none 0 0]
  obtain ⟨v2, hV⟩ : ∃ V, ((w4.alloc (.cells #[.int .i64 0, .int .i64 0, .int .i64 0, .int .i64 0, .slice none 0 0, .slice a3 4 c3] 44)).alloc (.cells #[.int .i64 0, .int .i64 1, .int .i64 1, .int .i64 4, .slice none 0 0, .slice none 0 0] 44)) = V := ⟨_, rfl⟩
  rw [hV] at tr
  obtain ⟨t1, t2, t3⟩ := tr
  have HVB2 : Hid (Below w4.heap.size w4 v2) := show Below _ _ _ from t1
  have HX3 := Lib.hid t2
  have HX4 := Lib.hid t3
  have HVW2 : Hid (Below w.heap.size w v2) := show Below _ _ _ from HB4.out.trans (t1.mono HB4.out.size)
  clear t1 t2 t3
  have HVE2 := Lib.hid hV
  clear hV
  go_wp2_with fail
  rw [HVE2.out]
  refine (R5.out B T r v2 (HL4.out.mod_below HVB2.out)).mono ?_
  rintro e w5 ⟨L5, a5, c5, rfl, F5⟩
  have HF5 := Lib.hid F5
  have HL5 := Lib.hid L5
  have HB5 : Hid (Below w.heap.size w w5) := show Below _ _ _ from HVW2.out.trans HL5.out.below
  clear L5 F5
  unfold resA
  go_wp2_with fail
  refine (R6.out B T r w5 (HL5.out.mod)).mono ?_
  rintro e w6 ⟨L6, rfl⟩
  have HL6 := Lib.hid L6
  have HB6 : Hid (Below w.heap.size w w6) := show Below _ _ _ from HB5.out.trans HL6.out.below
  clear L6
  unfold resA
  have tr := two_res w6 #[.int .i64 0, .int .i64 0, .int .i64 0, .int .i64 0, .slice a5 1 c5, .slice none 0 0] #[.int .i64 0, .int .i64 2, .int .i64 1, .int .i64 1, .slice none 0 0, .slice none 0 0]
  obtain ⟨v3, hV⟩ : ∃ V, ((w6.alloc (.cells #[.int .i64 0, .int .i64 0, .int .i64 0, .int .i64 0, .slice a5 1 c5, .slice none 0 0] 44)).alloc (.cells #[.int .i64 0, .int .i64 2, .int .i64 1, .int .i64 1, .slice none 0 0, .slice none 0 0] 44)) = V := ⟨_, rfl⟩
  rw [hV] at tr
  obtain ⟨t1, t2, t3⟩ := tr
  have HVB3 : Hid (Below w6.heap.size w6 v3) := show Below _ _ _ from t1
  have HX5 := Lib.hid t2
  have HX6 := Lib.hid t3
  have HVW3 : Hid (Below w.heap.size w v3) := show Below _ _ _ from HB6.out.trans (t1.mono HB6.out.size)
  clear t1 t2 t3
  have HVE3 := Lib.hid hV
  clear hV
  go_wp2_with fail
  rw [HVE3.out]
  refine (R7.out B T r v3 (HL6.out.mod_below HVB3.out)).mono ?_
  rintro e w7 ⟨L7, rfl⟩
  have HL7 := Lib.hid L7
  have HB7 : Hid (Below w.heap.size w w7) := show Below _ _ _ from HVW3.out.trans HL7.out.below
  clear L7
  unfold resA
  go_wp2_with fail
  refine (R8.out B T r w7 (HL7.out.mod)).mono ?_
  rintro e w8 ⟨L8, rfl⟩
  have HL8 := Lib.hid L8
  have HB8 : Hid (Below w.heap.size w w8) := show Below _ _ _ from HB7.out.trans HL8.out.below
  clear L8
  unfold resA
  have tr := two_res w8 #[.int .i64 0, .int .i64 0, .int .i64 0, .int .i64 0, .slice none 0 0, .slice none 0 0] #[.int .i64 2, .int .i64 0, .int .i64 0, .int .i64 0, .slice none 0 0, .slice none 0 0]
  obtain ⟨v4, hV⟩ : ∃ V, ((w8.alloc (.cells #[.int .i64 0, .int .i64 0, .int .i64 0, .int .i64 0, .slice none 0 0, .slice none 0 0] 44)).alloc (.cells #[.int .i64 2, .int .i64 0, .int .i64 0, .int .i64 0, .slice none 0 0, .slice none 0 0] 44)) = V := ⟨_, rfl⟩
  rw [hV] at tr
  obtain ⟨t1, t2, t3⟩ := tr
  have HVB4 : Hid (Below w8.heap.size w8 v4) := show Below _ _ _ from t1
  have HX7 := Lib.hid t2
  have HX8 := Lib.hid t3
  have HVW4 : Hid (Below w.heap.size w v4) := show Below _ _ _ from HB8.out.trans (t1.mono HB8.out.size)
  clear t1 t2 t3
  have HVE4 := Lib.hid hV
  clear hV
  go_wp2_with fail
  rw [HVE4.out]
  refine (R9.out B T r v4 (HL8.out.mod_below HVB4.out)).mono ?_
  rintro e w9 ⟨L9, rfl⟩
  have HL9 := Lib.hid L9
  have HB9 : Hid (Below w.heap.size w w9) := show Below _ _ _ from HVW4.out.trans HL9.out.below
  clear L9
  unfold resA
  go_wp2_with fail
  refine (R10.out B T r w9 (HL9.out.mod)).mono ?_
  rintro e w10 ⟨L10, rfl⟩
  have HL10 := Lib.hid L10
  have HB10 : Hid (Below w.heap.size w w10) := show Below _ _ _ from HB9.out.trans HL10.out.below
  clear L10
  unfold resA
  have tr := two_res w10 #[.int .i64 202, .int .i64 0, .int .i64 0, .int .i64 0, .slice none 0 0, .slice none 0 0] #[.int .i64 190, .int .i64 0, .int .i64 0, .int .i64 0, .slice none 0 0, .slice none 0 0]
  obtain ⟨v5, hV⟩ : ∃ V, ((w10.alloc (.cells #[.int .i64 202, .int .i64 0, .int .i64 0, .int .i64 0, .slice none 0 0, .slice none 0 0] 44)).alloc (.cells #[.int .i64 190, .int .i64 0, .int .i64 0, .int .i64 0, .slice none 0 0, .slice none 0 0] 44)) = V := ⟨_, rfl⟩
  rw [hV] at tr
  obtain ⟨t1, t2, t3⟩ := tr
  have HVB5 : Hid (Below w10.heap.size w10 v5) := show Below _ _ _ from t1
  have HX9 := Lib.hid t2
  have HX10 := Lib.hid t3
  have HVW5 : Hid (Below w.heap.size w v5) := show Below _ _ _ from HB10.out.trans (t1.mono HB10.out.size)
  clear t1 t2 t3
  have HVE5 := Lib.hid hV
  clear hV
  go_wp2_with fail
  rw [HVE5.out]
  refine (R11.out B T r v5 (HL10.out.mod_below HVB5.out)).mono ?_
  rintro e w11 ⟨L11, rfl⟩
  have HL11 := Lib.hid L11
  have HB11 : Hid (Below w.heap.size w w11) := show Below _ _ _ from HVW5.out.trans HL11.out.below
  clear L11
  unfold resA
  go_wp2_with fail
  refine (R12.out B T r w11 (HL11.out.mod)).mono ?_
  rintro e w12 ⟨L12, rfl⟩
  have HL12 := Lib.hid L12
  have HB12 : Hid (Below w.heap.size w w12) := show Below _ _ _ from HB11.out.trans HL12.out.below
  clear L12
  unfold resA
  have tr := two_res w12 #[.int .i64 2, .int .i64 0, .int .i64 0, .int .i64 0, .slice none 0 0, .slice none 0 0] #[.int .i64 0, .int .i64 0, .int .i64 0, .int .i64 0, .slice none 0 0, .slice none 0 0]
  obtain ⟨v6, hV⟩ : ∃ V, ((w12.alloc (.cells #[.int .i64 2, .int .i64 0, .int .i64 0, .int .i64 0, .slice none 0 0, .slice none 0 0] 44)).alloc (.cells #[.int .i64 0, .int .i64 0, .int .i64 0, .int .i64 0, .slice none 0 0, .slice none 0 0] 44)) = V := ⟨_, rfl⟩
  rw [hV] at tr
  obtain ⟨t1, t2, t3⟩ := tr
  have HVB6 : Hid (Below w12.heap.size w12 v6) := show Below _ _ _ from t1
  have HX11 := Lib.hid t2
  have HX12 := Lib.hid t3
  have HVW6 : Hid (Below w.heap.size w v6) := show Below _ _ _ from HB12.out.trans (t1.mono HB12.out.size)
  clear t1 t2 t3
  have HVE6 := Lib.hid hV
  clear hV
  go_wp2_with fail
  rw [HVE6.out]
  refine (R13.out B T r v6 (HL12.out.mod_below HVB6.out)).mono ?_
  rintro e w13 ⟨L13, rfl⟩
  have HL13 := Lib.hid L13
  have HB13 : Hid (Below w.heap.size w w13) := show Below _ _ _ from HVW6.out.trans HL13.out.below
  clear L13
  unfold resA
  have tr := one_res w13 #[.int .i64 0, .int .i64 1, .int .i64 2, .int .i64 1, .slice none 0 0, .slice none 0 0]
  obtain ⟨v7, hV⟩ : ∃ V, (w13.alloc (.cells #[.int .i64 0, .int .i64 1, .int .i64 2, .int .i64 1, .slice none 0 0, .slice none 0 0] 44)) = V := ⟨_, rfl⟩
  rw [hV] at tr
  obtain ⟨t1, t2⟩ := tr
  have HVB7 : Hid (Below w13.heap.size w13 v7) := show Below _ _ _ from t1
  have HVE7 := Lib.hid hV
  clear hV
  have HX13 := Lib.hid t2
  have HVW7 : Hid (Below w.heap.size w v7) := show Below _ _ _ from HB13.out.trans (t1.mono HB13.out.size)
  clear t1 t2
  have KV7 : Hid (KeptM v7 v7) := show KeptM _ _ from KeptM.of_below (Below.refl _ _)
  have K_w13 : Hid (KeptM w13 v7) := show KeptM _ _ from ((KeptM.of_below HVB7.out)).trans KV7.out
  have K_v6 : Hid (KeptM v6 v7) := show KeptM _ _ from (HL13.out.kept).trans K_w13.out
  have K_w12 : Hid (KeptM w12 v7) := show KeptM _ _ from ((KeptM.of_below HVB6.out)).trans K_v6.out
  have K_w11 : Hid (KeptM w11 v7) := show KeptM _ _ from (HL12.out.kept).trans K_w12.out
  have K_v5 : Hid (KeptM v5 v7) := show KeptM _ _ from (HL11.out.kept).trans K_w11.out
  have K_w10 : Hid (KeptM w10 v7) := show KeptM _ _ from ((KeptM.of_below HVB5.out)).trans K_v5.out
  have K_w9 : Hid (KeptM w9 v7) := show KeptM _ _ from (HL10.out.kept).trans K_w10.out
  have K_v4 : Hid (KeptM v4 v7) := show KeptM _ _ from (HL9.out.kept).trans K_w9.out
  have K_w8 : Hid (KeptM w8 v7) := show KeptM _ _ from ((KeptM.of_below HVB4.out)).trans K_v4.out
  have K_w7 : Hid (KeptM w7 v7) := show KeptM _ _ from (HL8.out.kept).trans K_w8.out
  have K_v3 : Hid (KeptM v3 v7) := show KeptM _ _ from (HL7.out.kept).trans K_w7.out
  have K_w6 : Hid (KeptM w6 v7) := show KeptM _ _ from ((KeptM.of_below HVB3.out)).trans K_v3.out
  have K_w5 : Hid (KeptM w5 v7) := show KeptM _ _ from (HL6.out.kept).trans K_w6.out
  have K_v2 : Hid (KeptM v2 v7) := show KeptM _ _ from (HL5.out.kept).trans K_w5.out
  have K_w4 : Hid (KeptM w4 v7) := show KeptM _ _ from ((KeptM.of_below HVB2.out)).trans K_v2.out
  have K_w3 : Hid (KeptM w3 v7) := show KeptM _ _ from (HL4.out.kept).trans K_w4.out
  have K_v1 : Hid (KeptM v1 v7) := show KeptM _ _ from (HL3.out.kept).trans K_w3.out
  have HY1 : Hid (Blk v7 (w2.heap.size) 44 #[.int .i64 0, .int .i64 0, .int .i64 0, .int .i64 0, .slice none 0 0, .slice none 0 0]) := show Blk _ _ _ _ from (K_v1.out).res _ _ HX1.out
  have HY2 : Hid (Blk v7 (w2.heap.size + 1) 44 #[.int .i64 0, .int .i64 0, .int .i64 0, .int .i64 0, .slice none 0 0, .slice none 0 0]) := show Blk _ _ _ _ from (K_v1.out).res _ _ HX2.out
  have HY3 : Hid (Blk v7 (w4.heap.size) 44 #[.int .i64 0, .int .i64 0, .int .i64 0, .int .i64 0, .slice none 0 0, .slice a3 4 c3]) := show Blk _ _ _ _ from (K_v2.out).res _ _ HX3.out
  have HY4 : Hid (Blk v7 (w4.heap.size + 1) 44 #[.int .i64 0, .int .i64 1, .int .i64 1, .int .i64 4, .slice none 0 0, .slice none 0 0]) := show Blk _ _ _ _ from (K_v2.out).res _ _ HX4.out
  have HY5 : Hid (Blk v7 (w6.heap.size) 44 #[.int .i64 0, .int .i64 0, .int .i64 0, .int .i64 0, .slice a5 1 c5, .slice none 0 0]) := show Blk _ _ _ _ from (K_v3.out).res _ _ HX5.out
  have HY6 : Hid (Blk v7 (w6.heap.size + 1) 44 #[.int .i64 0, .int .i64 2, .int .i64 1, .int .i64 1, .slice none 0 0, .slice none 0 0]) := show Blk _ _ _ _ from (K_v3.out).res _ _ HX6.out
  have HY7 : Hid (Blk v7 (w8.heap.size) 44 #[.int .i64 0, .int .i64 0, .int .i64 0, .int .i64 0, .slice none 0 0, .slice none 0 0]) := show Blk _ _ _ _ from (K_v4.out).res _ _ HX7.out
  have HY8 : Hid (Blk v7 (w8.heap.size + 1) 44 #[.int .i64 2, .int .i64 0, .int .i64 0, .int .i64 0, .slice none 0 0, .slice none 0 0]) := show Blk _ _ _ _ from (K_v4.out).res _ _ HX8.out
  have HY9 : Hid (Blk v7 (w10.heap.size) 44 #[.int .i64 202, .int .i64 0, .int .i64 0, .int .i64 0, .slice none 0 0, .slice none 0 0]) := show Blk _ _ _ _ from (K_v5.out).res _ _ HX9.out
  have HY10 : Hid (Blk v7 (w10.heap.size + 1) 44 #[.int .i64 190, .int .i64 0, .int .i64 0, .int .i64 0, .slice none 0 0, .slice none 0 0]) := show Blk _ _ _ _ from (K_v5.out).res _ _ HX10.out
  have HY11 : Hid (Blk v7 (w12.heap.size) 44 #[.int .i64 2, .int .i64 0, .int .i64 0, .int .i64 0, .slice none 0 0, .slice none 0 0]) := show Blk _ _ _ _ from (K_v6.out).res _ _ HX11.out
  have HY12 : Hid (Blk v7 (w12.heap.size + 1) 44 #[.int .i64 0, .int .i64 0, .int .i64 0, .int .i64 0, .slice none 0 0, .slice none 0 0]) := show Blk _ _ _ _ from (K_v6.out).res _ _ HX12.out
  have HY13 : Hid (Blk v7 (w13.heap.size) 44 #[.int .i64 0, .int .i64 1, .int .i64 2, .int .i64 1, .slice none 0 0, .slice none 0 0]) := show Blk _ _ _ _ from (KV7.out).res _ _ HX13.out
  have HCV : Hid (∀ V, Below v7.heap.size v7 V → (convert 23 9 (.slice a3 4 c3)).run Tryz.prog V = .ok (.string ⟨#[0, 0, 104, 105]⟩) V) := show ∀ V, _ from fun V hV => by
    have h := conv_sl ((K_w3.out.fb _ _ HF3.out).below hV).sl
    rw [show strOf [0, 0, 104, 105] = ⟨#[0, 0, 104, 105]⟩ by decide +kernel] at h
    exact h
  have HT7 : Hid (TxS v7 (.slice a5 1 c5) [[102]]) := show TxS _ _ _ from K_w5.out.txs _ _ HF5.out
  have HLD1_0 : Hid (∀ V, Below v7.heap.size v7 V → (Instr.loadAt 30 (.pointer (some ⟨w2.heap.size, 0, none⟩))).run Tryz.prog V = .ok (.int .i64 0) V) := show ∀ V, _ from fun V hV => load11_0 ((HY1.out.below hV HY1.out.lt).cell rfl)
  have HLD2_0 : Hid (∀ V, Below v7.heap.size v7 V → (Instr.loadAt 30 (.pointer (some ⟨w2.heap.size + 1, 0, none⟩))).run Tryz.prog V = .ok (.int .i64 0) V) := show ∀ V, _ from fun V hV => load11_0 ((HY2.out.below hV HY2.out.lt).cell rfl)
  have HLD3_0 : Hid (∀ V, Below v7.heap.size v7 V → (Instr.loadAt 30 (.pointer (some ⟨w4.heap.size, 0, none⟩))).run Tryz.prog V = .ok (.int .i64 0) V) := show ∀ V, _ from fun V hV => load11_0 ((HY3.out.below hV HY3.out.lt).cell rfl)
  have HLD3_5 : Hid (∀ V, Below v7.heap.size v7 V → (Instr.loadAt 23 (.pointer (some ⟨w4.heap.size, 5, none⟩))).run Tryz.prog V = .ok (.slice a3 4 c3) V) := show ∀ V, _ from fun V hV => load11_5 ((HY3.out.below hV HY3.out.lt).cell rfl)
  have HLD4_0 : Hid (∀ V, Below v7.heap.size v7 V → (Instr.loadAt 30 (.pointer (some ⟨w4.heap.size + 1, 0, none⟩))).run Tryz.prog V = .ok (.int .i64 0) V) := show ∀ V, _ from fun V hV => load11_0 ((HY4.out.below hV HY4.out.lt).cell rfl)
  have HLD4_1 : Hid (∀ V, Below v7.heap.size v7 V → (Instr.loadAt 41 (.pointer (some ⟨w4.heap.size + 1, 1, none⟩))).run Tryz.prog V = .ok (.int .i64 1) V) := show ∀ V, _ from fun V hV => load11_1 ((HY4.out.below hV HY4.out.lt).cell rfl)
  have HLD4_2 : Hid (∀ V, Below v7.heap.size v7 V → (Instr.loadAt 3 (.pointer (some ⟨w4.heap.size + 1, 2, none⟩))).run Tryz.prog V = .ok (.int .i64 1) V) := show ∀ V, _ from fun V hV => load11_2 ((HY4.out.below hV HY4.out.lt).cell rfl)
  have HLD4_3 : Hid (∀ V, Below v7.heap.size v7 V → (Instr.loadAt 3 (.pointer (some ⟨w4.heap.size + 1, 3, none⟩))).run Tryz.prog V = .ok (.int .i64 4) V) := show ∀ V, _ from fun V hV => load11_3 ((HY4.out.below hV HY4.out.lt).cell rfl)
  have HLD5_0 : Hid (∀ V, Below v7.heap.size v7 V → (Instr.loadAt 30 (.pointer (some ⟨w6.heap.size, 0, none⟩))).run Tryz.prog V = .ok (.int .i64 0) V) := show ∀ V, _ from fun V hV => load11_0 ((HY5.out.below hV HY5.out.lt).cell rfl)
  have HLD5_4 : Hid (∀ V, Below v7.heap.size v7 V → (Instr.loadAt 42 (.pointer (some ⟨w6.heap.size, 4, none⟩))).run Tryz.prog V = .ok (.slice a5 1 c5) V) := show ∀ V, _ from fun V hV => load11_4 ((HY5.out.below hV HY5.out.lt).cell rfl)
  have HLD6_0 : Hid (∀ V, Below v7.heap.size v7 V → (Instr.loadAt 30 (.pointer (some ⟨w6.heap.size + 1, 0, none⟩))).run Tryz.prog V = .ok (.int .i64 0) V) := show ∀ V, _ from fun V hV => load11_0 ((HY6.out.below hV HY6.out.lt).cell rfl)
  have HLD6_1 : Hid (∀ V, Below v7.heap.size v7 V → (Instr.loadAt 41 (.pointer (some ⟨w6.heap.size + 1, 1, none⟩))).run Tryz.prog V = .ok (.int .i64 2) V) := show ∀ V, _ from fun V hV => load11_1 ((HY6.out.below hV HY6.out.lt).cell rfl)
  have HLD6_2 : Hid (∀ V, Below v7.heap.size v7 V → (Instr.loadAt 3 (.pointer (some ⟨w6.heap.size + 1, 2, none⟩))).run Tryz.prog V = .ok (.int .i64 1) V) := show ∀ V, _ from fun V hV => load11_2 ((HY6.out.below hV HY6.out.lt).cell rfl)
  have HLD6_3 : Hid (∀ V, Below v7.heap.size v7 V → (Instr.loadAt 3 (.pointer (some ⟨w6.heap.size + 1, 3, none⟩))).run Tryz.prog V = .ok (.int .i64 1) V) := show ∀ V, _ from fun V hV => load11_3 ((HY6.out.below hV HY6.out.lt).cell rfl)
  have HLD7_0 : Hid (∀ V, Below v7.heap.size v7 V → (Instr.loadAt 30 (.pointer (some ⟨w8.heap.size, 0, none⟩))).run Tryz.prog V = .ok (.int .i64 0) V) := show ∀ V, _ from fun V hV => load11_0 ((HY7.out.below hV HY7.out.lt).cell rfl)
  have HLD8_0 : Hid (∀ V, Below v7.heap.size v7 V → (Instr.loadAt 30 (.pointer (some ⟨w8.heap.size + 1, 0, none⟩))).run Tryz.prog V = .ok (.int .i64 2) V) := show ∀ V, _ from fun V hV => load11_0 ((HY8.out.below hV HY8.out.lt).cell rfl)
  have HLD9_0 : Hid (∀ V, Below v7.heap.size v7 V → (Instr.loadAt 30 (.pointer (some ⟨w10.heap.size, 0, none⟩))).run Tryz.prog V = .ok (.int .i64 202) V) := show ∀ V, _ from fun V hV => load11_0 ((HY9.out.below hV HY9.out.lt).cell rfl)
  have HLD10_0 : Hid (∀ V, Below v7.heap.size v7 V → (Instr.loadAt 30 (.pointer (some ⟨w10.heap.size + 1, 0, none⟩))).run Tryz.prog V = .ok (.int .i64 190) V) := show ∀ V, _ from fun V hV => load11_0 ((HY10.out.below hV HY10.out.lt).cell rfl)
  have HLD11_0 : Hid (∀ V, Below v7.heap.size v7 V → (Instr.loadAt 30 (.pointer (some ⟨w12.heap.size, 0, none⟩))).run Tryz.prog V = .ok (.int .i64 2) V) := show ∀ V, _ from fun V hV => load11_0 ((HY11.out.below hV HY11.out.lt).cell rfl)
  have HLD12_0 : Hid (∀ V, Below v7.heap.size v7 V → (Instr.loadAt 30 (.pointer (some ⟨w12.heap.size + 1, 0, none⟩))).run Tryz.prog V = .ok (.int .i64 0) V) := show ∀ V, _ from fun V hV => load11_0 ((HY12.out.below hV HY12.out.lt).cell rfl)
  have HLD13_0 : Hid (∀ V, Below v7.heap.size v7 V → (Instr.loadAt 30 (.pointer (some ⟨w13.heap.size, 0, none⟩))).run Tryz.prog V = .ok (.int .i64 0) V) := show ∀ V, _ from fun V hV => load11_0 ((HY13.out.below hV HY13.out.lt).cell rfl)
  have HLD13_2 : Hid (∀ V, Below v7.heap.size v7 V → (Instr.loadAt 3 (.pointer (some ⟨w13.heap.size, 2, none⟩))).run Tryz.prog V = .ok (.int .i64 2) V) := show ∀ V, _ from fun V hV => load11_2 ((HY13.out.below hV HY13.out.lt).cell rfl)
  have HLD13_3 : Hid (∀ V, Below v7.heap.size v7 V → (Instr.loadAt 3 (.pointer (some ⟨w13.heap.size, 3, none⟩))).run Tryz.prog V = .ok (.int .i64 1) V) := show ∀ V, _ from fun V hV => load11_3 ((HY13.out.below hV HY13.out.lt).cell rfl)
  clear R1 R2 R3 R4 R5 R6 R7 R8 R9 R10 R11 R12 R13 HY1 HY2 HY3 HY4 HY5 HY6 HY7 HY8 HY9 HY10 HY11 HY12 HY13 HX1 HX2 HX3 HX4 HX5 HX6 HX7 HX8 HX9 HX10 HX11 HX12 HX13 HL1 HL2 HL3 HL4 HL5 HL6 HL7 HL8 HL9 HL10 HL11 HL12 HB1 HB2 HB3 HB4 HB5 HB6 HB7 HB8 HB9 HB10 HB11 HB12 HB13 HVB1 HVW1 HVE1 HVB2 HVW2 HVE2 HVB3 HVW3 HVE3 HVB4 HVW4 HVE4 HVB5 HVW5 HVE5 HVB6 HVW6 HVE6 HN HM0 HB0
  go_wp2_with fail
  rw [HVE7.out]
  have hR : Below v7.heap.size v7 v7.drew := (Below.refl _ v7).drew
  refine wp_region_M 112 (fun V : World => Below v7.heap.size v7 V) (by kernel_rfl) ?_
  simp only [List.append_eq, List.cons_append, List.nil_append]
  refine start12 (ops' := opsW11) (f' := 113) (B := [false, false, false, false, false, false, false, false, false, false, false, false, false, false, false, false, false, false, false, false, false, false, false, false, false, false, false, false, false, false, false, false, false, false, false, false, false, false, false, false, false, false, false, false, false, false, false, false, false, false, false, false, false, false, false, false, false, false, false, false, false, false, false, false, false, false, false, false, false, false, false, false, false, false, false, false, false, false, false, false, false, false, false, false, false, false, false, false, false, false, false, false, false, false, false, false, false, false, false, false, false, false, false, false, false, false, false, false, false, false, false, false, false]) (by kernel_rfl) (by kernel_rfl) (by kernel_rfl) ?_
  intro hO
  have HO := Lib.hid hO
  clear hO
  (refine take11 (i := 0) (d := 57) (v := ?_) rfl rfl (by rw [HO.out]; exact ns11) (by rw [HO.out]; exact fr11_0) (fun _ _ _ h => h) (Or.inl ⟨by rfl, ?_⟩) hR ?_; rotate_left; (focus (intro w hSw; go_simp; (try with_reducible rfl))); dsimp only [set0_11, setS_11])
  (refine take11 (i := 1) (d := 58) (v := _) rfl rfl (by rw [HO.out]; exact ns11) (by rw [HO.out]; exact fr11_1) (fun _ _ _ h => h) (Or.inl ⟨by rfl, fun V hSw => exec_load11 rfl rfl (HLD1_0.out V hSw)⟩) hR ?_; dsimp only [set0_11, setS_11])
  (refine take11 (i := 3) (d := 60) (v := ?_) rfl rfl (by rw [HO.out]; exact ns11) (by rw [HO.out]; exact fr11_3) (fun _ _ _ h => h) (Or.inl ⟨by rfl, ?_⟩) hR ?_; rotate_left; (focus (intro w hSw; go_simp; (try with_reducible rfl))); dsimp only [set0_11, setS_11])
  (refine take11 (i := 4) (d := 61) (v := _) rfl rfl (by rw [HO.out]; exact ns11) (by rw [HO.out]; exact fr11_4) (fun _ _ _ h => h) (Or.inl ⟨by rfl, fun V hSw => exec_load11 rfl rfl (HLD2_0.out V hSw)⟩) hR ?_; dsimp only [set0_11, setS_11])
  (refine take11 (i := 7) (d := 64) (v := ?_) rfl rfl (by rw [HO.out]; exact ns11) (by rw [HO.out]; exact fr11_7) (fun _ _ _ h => h) (Or.inl ⟨by rfl, ?_⟩) hR ?_; rotate_left; (focus (intro w hSw; go_simp; (try with_reducible rfl))); dsimp only [set0_11, setS_11])
  (refine take11 (i := 8) (d := 65) (v := _) rfl rfl (by rw [HO.out]; exact ns11) (by rw [HO.out]; exact fr11_8) (fun _ _ _ h => h) (Or.inl ⟨by rfl, fun V hSw => exec_load11 rfl rfl (HLD3_0.out V hSw)⟩) hR ?_; dsimp only [set0_11, setS_11])
  (refine take11 (i := 11) (d := 68) (v := ?_) rfl rfl (by rw [HO.out]; exact ns11) (by rw [HO.out]; exact fr11_11) (fun _ _ _ h => h) (Or.inl ⟨by rfl, ?_⟩) hR ?_; rotate_left; (focus (intro w hSw; go_simp; (try with_reducible rfl))); dsimp only [set0_11, setS_11])
  (refine take11 (i := 12) (d := 69) (v := _) rfl rfl (by rw [HO.out]; exact ns11) (by rw [HO.out]; exact fr11_12) (fun _ _ _ h => h) (Or.inl ⟨by rfl, fun V hSw => exec_load11 rfl rfl (HLD4_0.out V hSw)⟩) hR ?_; dsimp only [set0_11, setS_11])
  (refine take11 (i := 15) (d := 72) (v := ?_) rfl rfl (by rw [HO.out]; exact ns11) (by rw [HO.out]; exact fr11_15) (fun _ _ _ h => h) (Or.inl ⟨by rfl, ?_⟩) hR ?_; rotate_left; (focus (intro w hSw; go_simp; (try with_reducible rfl))); dsimp only [set0_11, setS_11])
  (refine take11 (i := 16) (d := 73) (v := _) rfl rfl (by rw [HO.out]; exact ns11) (by rw [HO.out]; exact fr11_16) (fun _ _ _ h => h) (Or.inl ⟨by rfl, fun V hSw => exec_load11 rfl rfl (HLD5_0.out V hSw)⟩) hR ?_; dsimp only [set0_11, setS_11])
  (refine take11 (i := 19) (d := 76) (v := ?_) rfl rfl (by rw [HO.out]; exact ns11) (by rw [HO.out]; exact fr11_19) (fun _ _ _ h => h) (Or.inl ⟨by rfl, ?_⟩) hR ?_; rotate_left; (focus (intro w hSw; go_simp; (try with_reducible rfl))); dsimp only [set0_11, setS_11])
  (refine take11 (i := 20) (d := 77) (v := _) rfl rfl (by rw [HO.out]; exact ns11) (by rw [HO.out]; exact fr11_20) (fun _ _ _ h => h) (Or.inl ⟨by rfl, fun V hSw => exec_load11 rfl rfl (HLD6_0.out V hSw)⟩) hR ?_; dsimp only [set0_11, setS_11])
  (refine take11 (i := 23) (d := 80) (v := ?_) rfl rfl (by rw [HO.out]; exact ns11) (by rw [HO.out]; exact fr11_23) (fun _ _ _ h => h) (Or.inl ⟨by rfl, ?_⟩) hR ?_; rotate_left; (focus (intro w hSw; go_simp; (try with_reducible rfl))); dsimp only [set0_11, setS_11])
  (refine take11 (i := 24) (d := 81) (v := _) rfl rfl (by rw [HO.out]; exact ns11) (by rw [HO.out]; exact fr11_24) (fun _ _ _ h => h) (Or.inl ⟨by rfl, fun V hSw => exec_load11 rfl rfl (HLD7_0.out V hSw)⟩) hR ?_; dsimp only [set0_11, setS_11])
  (refine take11 (i := 27) (d := 84) (v := ?_) rfl rfl (by rw [HO.out]; exact ns11) (by rw [HO.out]; exact fr11_27) (fun _ _ _ h => h) (Or.inl ⟨by rfl, ?_⟩) hR ?_; rotate_left; (focus (intro w hSw; go_simp; (try with_reducible rfl))); dsimp only [set0_11, setS_11])
  (refine take11 (i := 28) (d := 85) (v := _) rfl rfl (by rw [HO.out]; exact ns11) (by rw [HO.out]; exact fr11_28) (fun _ _ _ h => h) (Or.inl ⟨by rfl, fun V hSw => exec_load11 rfl rfl (HLD12_0.out V hSw)⟩) hR ?_; dsimp only [set0_11, setS_11])
  (refine take11 (i := 31) (d := 88) (v := ?_) rfl rfl (by rw [HO.out]; exact ns11) (by rw [HO.out]; exact fr11_31) (fun _ _ _ h => h) (Or.inl ⟨by rfl, ?_⟩) hR ?_; rotate_left; (focus (intro w hSw; go_simp; (try with_reducible rfl))); dsimp only [set0_11, setS_11])
  (refine take11 (i := 32) (d := 89) (v := _) rfl rfl (by rw [HO.out]; exact ns11) (by rw [HO.out]; exact fr11_32) (fun _ _ _ h => h) (Or.inl ⟨by rfl, fun V hSw => exec_load11 rfl rfl (HLD13_0.out V hSw)⟩) hR ?_; dsimp only [set0_11, setS_11])
  (refine one11 (i := 2) rfl (by rw [HO.out]; exact rd11_2) (fun K hK => ?_); rw [if_pos (by rfl)]; (try simp only [elem_laws]))
  go_simp
  refine (HNU.out _ _).mono ?_
  rintro e w' ⟨rfl, rfl⟩
  refine hK _ _ (fun h => by first | exact hR | cases h) ?_
  clear hK K
  (first | refine then11 ?_ | skip)
  dsimp only [set0_11, setS_11]
  (refine one11 (i := 5) rfl (by rw [HO.out]; exact rd11_5) (fun K hK => ?_); rw [if_pos (by rfl)]; (try simp only [elem_laws]))
  go_simp
  refine (HNU.out _ _).mono ?_
  rintro e w' ⟨rfl, rfl⟩
  refine hK _ _ (fun h => by first | exact hR | cases h) ?_
  clear hK K
  (first | refine then11 ?_ | skip)
  dsimp only [set0_11, setS_11]
  (refine take11 (i := 6) (d := 63) (v := ?_) rfl rfl (by rw [HO.out]; exact ns11) (by rw [HO.out]; exact fr11_6) (fun _ _ _ h => h) (Or.inl ⟨by rfl, ?_⟩) hR ?_; rotate_left; (focus (intro w hSw; go_simp; (try with_reducible rfl))); dsimp only [set0_11, setS_11])
  (refine one11 (i := 9) rfl (by rw [HO.out]; exact rd11_9) (fun K hK => ?_); rw [if_pos (by rfl)]; (try simp only [elem_laws]))
  go_simp
  refine (HNU.out _ _).mono ?_
  rintro e w' ⟨rfl, rfl⟩
  refine hK _ _ (fun h => by first | exact hR | cases h) ?_
  clear hK K
  (first | refine then11 ?_ | skip)
  dsimp only [set0_11, setS_11]
  (refine take11 (i := 10) (d := 67) (v := ?_) rfl rfl (by rw [HO.out]; exact ns11) (by rw [HO.out]; exact fr11_10) (fun _ _ _ h => h) (Or.inl ⟨by rfl, ?_⟩) hR ?_; rotate_left; (focus (intro w hSw; go_simp; (try with_reducible rfl))); dsimp only [set0_11, setS_11])
  (refine one11 (i := 13) rfl (by rw [HO.out]; exact rd11_13) (fun K hK => ?_); rw [if_pos (by rfl)]; (try simp only [elem_laws]))
  go_simp
  refine (HNU.out _ _).mono ?_
  rintro e w' ⟨rfl, rfl⟩
  refine hK _ _ (fun h => by first | exact hR | cases h) ?_
  clear hK K
  (first | refine then11 ?_ | skip)
  dsimp only [set0_11, setS_11]
  (refine take11 (i := 14) (d := 71) (v := ?_) rfl rfl (by rw [HO.out]; exact ns11) (by rw [HO.out]; exact fr11_14) (fun _ _ _ h => h) (Or.inl ⟨by rfl, ?_⟩) hR ?_; rotate_left; (focus (intro w hSw; go_simp; (try with_reducible rfl))); dsimp only [set0_11, setS_11])
  (refine one11 (i := 17) rfl (by rw [HO.out]; exact rd11_17) (fun K hK => ?_); rw [if_pos (by rfl)]; (try simp only [elem_laws]))
  go_simp
  refine (HNU.out _ _).mono ?_
  rintro e w' ⟨rfl, rfl⟩
  refine hK _ _ (fun h => by first | exact hR | cases h) ?_
  clear hK K
  (first | refine then11 ?_ | skip)
  dsimp only [set0_11, setS_11]
  (refine take11 (i := 18) (d := 75) (v := ?_) rfl rfl (by rw [HO.out]; exact ns11) (by rw [HO.out]; exact fr11_18) (fun _ _ _ h => h) (Or.inl ⟨by rfl, ?_⟩) hR ?_; rotate_left; (focus (intro w hSw; go_simp; (try with_reducible rfl))); dsimp only [set0_11, setS_11])
  (refine one11 (i := 21) rfl (by rw [HO.out]; exact rd11_21) (fun K hK => ?_); rw [if_pos (by rfl)]; (try simp only [elem_laws]))
  go_simp
  refine (HNU.out _ _).mono ?_
  rintro e w' ⟨rfl, rfl⟩
  refine hK _ _ (fun h => by first | exact hR | cases h) ?_
  clear hK K
  (first | refine then11 ?_ | skip)
  dsimp only [set0_11, setS_11]
  (refine take11 (i := 22) (d := 79) (v := ?_) rfl rfl (by rw [HO.out]; exact ns11) (by rw [HO.out]; exact fr11_22) (fun _ _ _ h => h) (Or.inl ⟨by rfl, ?_⟩) hR ?_; rotate_left; (focus (intro w hSw; go_simp; (try with_reducible rfl))); dsimp only [set0_11, setS_11])
  (refine one11 (i := 25) rfl (by rw [HO.out]; exact rd11_25) (fun K hK => ?_); rw [if_pos (by rfl)]; (try simp only [elem_laws]))
  go_simp
  refine (HNU.out _ _).mono ?_
  rintro e w' ⟨rfl, rfl⟩
  refine hK _ _ (fun h => by first | exact hR | cases h) ?_
  clear hK K
  (first | refine then11 ?_ | skip)
  dsimp only [set0_11, setS_11]
  (refine take11 (i := 26) (d := 83) (v := ?_) rfl rfl (by rw [HO.out]; exact ns11) (by rw [HO.out]; exact fr11_26) (fun _ _ _ h => h) (Or.inl ⟨by rfl, ?_⟩) hR ?_; rotate_left; (focus (intro w hSw; go_simp; (try with_reducible rfl))); dsimp only [set0_11, setS_11])
  (refine one11 (i := 29) rfl (by rw [HO.out]; exact rd11_29) (fun K hK => ?_); rw [if_pos (by rfl)]; (try simp only [elem_laws]))
  go_simp
  refine (HNU.out _ _).mono ?_
  rintro e w' ⟨rfl, rfl⟩
  refine hK _ _ (fun h => by first | exact hR | cases h) ?_
  clear hK K
  (first | refine then11 ?_ | skip)
  dsimp only [set0_11, setS_11]
  (refine take11 (i := 30) (d := 87) (v := ?_) rfl rfl (by rw [HO.out]; exact ns11) (by rw [HO.out]; exact fr11_30) (fun _ _ _ h => h) (Or.inl ⟨by rfl, ?_⟩) hR ?_; rotate_left; (focus (intro w hSw; go_simp; (try with_reducible rfl))); dsimp only [set0_11, setS_11])
  (refine one11 (i := 33) rfl (by rw [HO.out]; exact rd11_33) (fun K hK => ?_); rw [if_pos (by rfl)]; (try simp only [elem_laws]))
  go_simp
  refine (HNU.out _ _).mono ?_
  rintro e w' ⟨rfl, rfl⟩
  refine hK _ _ (fun h => by first | exact hR | cases h) ?_
  clear hK K
  (first | refine then11 ?_ | skip)
  dsimp only [set0_11, setS_11]
  (refine take11 (i := 34) (d := 91) (v := ?_) rfl rfl (by rw [HO.out]; exact ns11) (by rw [HO.out]; exact fr11_34) (fun _ _ _ h => h) (Or.inl ⟨by rfl, ?_⟩) hR ?_; rotate_left; (focus (intro w hSw; go_simp; (try with_reducible rfl))); dsimp only [set0_11, setS_11])
  (refine take11 (i := 35) (d := 92) (v := ?_) rfl rfl (by rw [HO.out]; exact ns11) (by rw [HO.out]; exact fr11_35) (fun _ _ _ h => h) (Or.inl ⟨by rfl, ?_⟩) hR ?_; rotate_left; (focus (intro w hSw; go_simp; (try with_reducible rfl))); dsimp only [set0_11, setS_11])
  (refine take11 (i := 36) (d := 93) (v := ?_) rfl rfl (by rw [HO.out]; exact ns11) (by rw [HO.out]; exact fr11_36) (fun _ _ _ h => h) (Or.inl ⟨by rfl, ?_⟩) hR ?_; rotate_left; (focus (intro w hSw; go_simp; (try with_reducible rfl))); dsimp only [set0_11, setS_11])
  (refine take11 (i := 37) (d := 94) (v := ?_) rfl rfl (by rw [HO.out]; exact ns11) (by rw [HO.out]; exact fr11_37) (fun _ _ _ h => h) (Or.inl ⟨by rfl, ?_⟩) hR ?_; rotate_left; (focus (intro w hSw; go_simp; (try with_reducible rfl))); dsimp only [set0_11, setS_11])
  (refine take11 (i := 38) (d := 95) (v := _) rfl rfl (by rw [HO.out]; exact ns11) (by rw [HO.out]; exact fr11_38) (fun _ _ _ h => h) (Or.inl ⟨by rfl, fun V hSw => exec_load11 rfl rfl (HLD3_5.out V hSw)⟩) hR ?_; dsimp only [set0_11, setS_11])
  (refine take11 (i := 39) (d := 96) (v := .string ⟨#[0, 0, 104, 105]⟩) rfl rfl (by rw [HO.out]; exact ns11) (by rw [HO.out]; exact fr11_39) (fun _ _ _ h => h) (Or.inl ⟨by rfl, fun V hSw => by have hcv := HCV.out V hSw; go_simp⟩) hR ?_; dsimp only [set0_11, setS_11])
  (refine take11 (i := 40) (d := 97) (v := ?_) rfl rfl (by rw [HO.out]; exact ns11) (by rw [HO.out]; exact fr11_40) (fun _ _ _ h => h) (Or.inl ⟨by rfl, ?_⟩) hR ?_; rotate_left; (focus (intro w hSw; go_simp; (try with_reducible rfl))); dsimp only [set0_11, setS_11])
  (refine take11 (i := 41) (d := 98) (v := ?_) rfl rfl (by rw [HO.out]; exact ns11) (by rw [HO.out]; exact fr11_41) (fun _ _ _ h => h) (Or.inl ⟨by rfl, ?_⟩) hR ?_; rotate_left; (focus (intro w hSw; go_simp; (try with_reducible rfl))); dsimp only [set0_11, setS_11])
  (refine take11 (i := 42) (d := 99) (v := ?_) rfl rfl (by rw [HO.out]; exact ns11) (by rw [HO.out]; exact fr11_42) (fun _ _ _ h => h) (Or.inl ⟨by rfl, ?_⟩) hR ?_; rotate_left; (focus (intro w hSw; go_simp; (try with_reducible rfl))); dsimp only [set0_11, setS_11])
  (refine take11 (i := 43) (d := 100) (v := ?_) rfl rfl (by rw [HO.out]; exact ns11) (by rw [HO.out]; exact fr11_43) (fun _ _ _ h => h) (Or.inl ⟨by rfl, ?_⟩) hR ?_; rotate_left; (focus (intro w hSw; go_simp; (try with_reducible rfl))); dsimp only [set0_11, setS_11])
  (refine take11 (i := 44) (d := 101) (v := _) rfl rfl (by rw [HO.out]; exact ns11) (by rw [HO.out]; exact fr11_44) (fun _ _ _ h => h) (Or.inl ⟨by rfl, fun V hSw => exec_load11 rfl rfl (HLD4_1.out V hSw)⟩) hR ?_; dsimp only [set0_11, setS_11])
  (refine take11 (i := 45) (d := 102) (v := ?_) rfl rfl (by rw [HO.out]; exact ns11) (by rw [HO.out]; exact fr11_45) (fun _ _ _ h => h) (Or.inl ⟨by rfl, ?_⟩) hR ?_; rotate_left; (focus (intro w hSw; go_simp; (try with_reducible rfl))); dsimp only [set0_11, setS_11])
  (refine take11 (i := 46) (d := 103) (v := ?_) rfl rfl (by rw [HO.out]; exact ns11) (by rw [HO.out]; exact fr11_46) (fun _ _ _ h => h) (Or.inl ⟨by rfl, ?_⟩) hR ?_; rotate_left; (focus (intro w hSw; go_simp; (try with_reducible rfl))); dsimp only [set0_11, setS_11])
  (refine take11 (i := 47) (d := 104) (v := ?_) rfl rfl (by rw [HO.out]; exact ns11) (by rw [HO.out]; exact fr11_47) (fun _ _ _ h => h) (Or.inl ⟨by rfl, ?_⟩) hR ?_; rotate_left; (focus (intro w hSw; go_simp; (try with_reducible rfl))); dsimp only [set0_11, setS_11])
  (refine take11 (i := 48) (d := 105) (v := ?_) rfl rfl (by rw [HO.out]; exact ns11) (by rw [HO.out]; exact fr11_48) (fun _ _ _ h => h) (Or.inl ⟨by rfl, ?_⟩) hR ?_; rotate_left; (focus (intro w hSw; go_simp; (try with_reducible rfl))); dsimp only [set0_11, setS_11])
  (refine take11 (i := 49) (d := 106) (v := _) rfl rfl (by rw [HO.out]; exact ns11) (by rw [HO.out]; exact fr11_49) (fun _ _ _ h => h) (Or.inl ⟨by rfl, fun V hSw => exec_load11 rfl rfl (HLD4_2.out V hSw)⟩) hR ?_; dsimp only [set0_11, setS_11])
  (refine take11 (i := 50) (d := 107) (v := ?_) rfl rfl (by rw [HO.out]; exact ns11) (by rw [HO.out]; exact fr11_50) (fun _ _ _ h => h) (Or.inl ⟨by rfl, ?_⟩) hR ?_; rotate_left; (focus (intro w hSw; go_simp; (try with_reducible rfl))); dsimp only [set0_11, setS_11])
  (refine take11 (i := 51) (d := 108) (v := ?_) rfl rfl (by rw [HO.out]; exact ns11) (by rw [HO.out]; exact fr11_51) (fun _ _ _ h => h) (Or.inl ⟨by rfl, ?_⟩) hR ?_; rotate_left; (focus (intro w hSw; go_simp; (try with_reducible rfl))); dsimp only [set0_11, setS_11])
  (refine take11 (i := 52) (d := 109) (v := ?_) rfl rfl (by rw [HO.out]; exact ns11) (by rw [HO.out]; exact fr11_52) (fun _ _ _ h => h) (Or.inl ⟨by rfl, ?_⟩) hR ?_; rotate_left; (focus (intro w hSw; go_simp; (try with_reducible rfl))); dsimp only [set0_11, setS_11])
  (refine take11 (i := 53) (d := 110) (v := ?_) rfl rfl (by rw [HO.out]; exact ns11) (by rw [HO.out]; exact fr11_53) (fun _ _ _ h => h) (Or.inl ⟨by rfl, ?_⟩) hR ?_; rotate_left; (focus (intro w hSw; go_simp; (try with_reducible rfl))); dsimp only [set0_11, setS_11])
  (refine take11 (i := 54) (d := 111) (v := _) rfl rfl (by rw [HO.out]; exact ns11) (by rw [HO.out]; exact fr11_54) (fun _ _ _ h => h) (Or.inl ⟨by rfl, fun V hSw => exec_load11 rfl rfl (HLD4_3.out V hSw)⟩) hR ?_; dsimp only [set0_11, setS_11])
  (refine take11 (i := 55) (d := 112) (v := ?_) rfl rfl (by rw [HO.out]; exact ns11) (by rw [HO.out]; exact fr11_55) (fun _ _ _ h => h) (Or.inl ⟨by rfl, ?_⟩) hR ?_; rotate_left; (focus (intro w hSw; go_simp; (try with_reducible rfl))); dsimp only [set0_11, setS_11])
  (refine take11 (i := 56) (d := 113) (v := ?_) rfl rfl (by rw [HO.out]; exact ns11) (by rw [HO.out]; exact fr11_56) (fun _ _ _ h => h) (Or.inl ⟨by rfl, ?_⟩) hR ?_; rotate_left; (focus (intro w hSw; go_simp; (try with_reducible rfl))); dsimp only [set0_11, setS_11])
  (refine take11 (i := 57) (d := 114) (v := ?_) rfl rfl (by rw [HO.out]; exact ns11) (by rw [HO.out]; exact fr11_57) (fun _ _ _ h => h) (Or.inl ⟨by rfl, ?_⟩) hR ?_; rotate_left; (focus (intro w hSw; go_simp; (try with_reducible rfl))); dsimp only [set0_11, setS_11])
  (refine take11 (i := 58) (d := 115) (v := ?_) rfl rfl (by rw [HO.out]; exact ns11) (by rw [HO.out]; exact fr11_58) (fun _ _ _ h => h) (Or.inl ⟨by rfl, ?_⟩) hR ?_; rotate_left; (focus (intro w hSw; go_simp; (try with_reducible rfl))); dsimp only [set0_11, setS_11])
  (refine take11 (i := 59) (d := 116) (v := _) rfl rfl (by rw [HO.out]; exact ns11) (by rw [HO.out]; exact fr11_59) (fun _ _ _ h => h) (Or.inl ⟨by rfl, fun V hSw => exec_load11 rfl rfl (HLD5_4.out V hSw)⟩) hR ?_; dsimp only [set0_11, setS_11])
  (refine one11 (i := 60) rfl (by rw [HO.out]; exact rd11_60) (fun K hK => ?_); rw [if_pos (by rfl)]; (try simp only [elem_laws]))
  go_simp
  have hR2 : Below v7.heap.size v7 ((v7.alloc (.cells #[.string { data := #[102] }] 9)).drew) := ((Below.refl _ v7).alloc (Nat.le_refl _) _).drew
  clear hR
  have hR := hR2
  refine hK _ _ (fun h => by first | exact hR | cases h) ?_
  clear hK K hR2
  (first | refine then11 ?_ | skip)
  dsimp only [set0_11, setS_11]
  (refine one11 (i := 61) rfl (by rw [HO.out]; exact rd11_61) (fun K hK => ?_); rw [if_pos (by rfl)]; (try simp only [elem_laws]))
  go_simp
  refine Calls.mono (show Calls Tryz.prog 29 #[.slice a5 1 c5, .slice (some ⟨v7.heap.size, 0, none⟩) 1 1] ((v7.alloc (.cells #[.string { data := #[102] }] 9)).drew) _ from HTX.out a5 c5 v7.drew (HT7.out.below ((Below.refl _ v7).drew))) ?_
  rintro e w8 ⟨rfl, hb8⟩
  have hR2 : Below v7.heap.size v7 w8 := ((Below.refl _ v7).drew).trans hb8
  clear hR
  have hR := hR2
  refine hK _ _ (fun h => by first | exact hR | cases h) ?_
  clear hK K hR2
  (first | refine then11 ?_ | skip)
  dsimp only [set0_11, setS_11]
  (refine take11 (i := 62) (d := 119) (v := ?_) rfl rfl (by rw [HO.out]; exact ns11) (by rw [HO.out]; exact fr11_62) (fun _ _ _ h => h) (Or.inl ⟨by rfl, ?_⟩) hR ?_; rotate_left; (focus (intro w hSw; go_simp; (try with_reducible rfl))); dsimp only [set0_11, setS_11])
  (refine take11 (i := 63) (d := 120) (v := ?_) rfl rfl (by rw [HO.out]; exact ns11) (by rw [HO.out]; exact fr11_63) (fun _ _ _ h => h) (Or.inl ⟨by rfl, ?_⟩) hR ?_; rotate_left; (focus (intro w hSw; go_simp; (try with_reducible rfl))); dsimp only [set0_11, setS_11])
  (refine take11 (i := 64) (d := 121) (v := ?_) rfl rfl (by rw [HO.out]; exact ns11) (by rw [HO.out]; exact fr11_64) (fun _ _ _ h => h) (Or.inl ⟨by rfl, ?_⟩) hR ?_; rotate_left; (focus (intro w hSw; go_simp; (try with_reducible rfl))); dsimp only [set0_11, setS_11])
  (refine take11 (i := 65) (d := 122) (v := _) rfl rfl (by rw [HO.out]; exact ns11) (by rw [HO.out]; exact fr11_65) (fun _ _ _ h => h) (Or.inl ⟨by rfl, fun V hSw => exec_load11 rfl rfl (HLD6_1.out V hSw)⟩) hR ?_; dsimp only [set0_11, setS_11])
  (refine take11 (i := 66) (d := 123) (v := ?_) rfl rfl (by rw [HO.out]; exact ns11) (by rw [HO.out]; exact fr11_66) (fun _ _ _ h => h) (Or.inl ⟨by rfl, ?_⟩) hR ?_; rotate_left; (focus (intro w hSw; go_simp; (try with_reducible rfl))); dsimp only [set0_11, setS_11])
  (refine take11 (i := 67) (d := 124) (v := ?_) rfl rfl (by rw [HO.out]; exact ns11) (by rw [HO.out]; exact fr11_67) (fun _ _ _ h => h) (Or.inl ⟨by rfl, ?_⟩) hR ?_; rotate_left; (focus (intro w hSw; go_simp; (try with_reducible rfl))); dsimp only [set0_11, setS_11])
  (refine take11 (i := 68) (d := 125) (v := ?_) rfl rfl (by rw [HO.out]; exact ns11) (by rw [HO.out]; exact fr11_68) (fun _ _ _ h => h) (Or.inl ⟨by rfl, ?_⟩) hR ?_; rotate_left; (focus (intro w hSw; go_simp; (try with_reducible rfl))); dsimp only [set0_11, setS_11])
  (refine take11 (i := 69) (d := 126) (v := ?_) rfl rfl (by rw [HO.out]; exact ns11) (by rw [HO.out]; exact fr11_69) (fun _ _ _ h => h) (Or.inl ⟨by rfl, ?_⟩) hR ?_; rotate_left; (focus (intro w hSw; go_simp; (try with_reducible rfl))); dsimp only [set0_11, setS_11])
  (refine take11 (i := 70) (d := 127) (v := _) rfl rfl (by rw [HO.out]; exact ns11) (by rw [HO.out]; exact fr11_70) (fun _ _ _ h => h) (Or.inl ⟨by rfl, fun V hSw => exec_load11 rfl rfl (HLD6_2.out V hSw)⟩) hR ?_; dsimp only [set0_11, setS_11])
  (refine take11 (i := 71) (d := 128) (v := ?_) rfl rfl (by rw [HO.out]; exact ns11) (by rw [HO.out]; exact fr11_71) (fun _ _ _ h => h) (Or.inl ⟨by rfl, ?_⟩) hR ?_; rotate_left; (focus (intro w hSw; go_simp; (try with_reducible rfl))); dsimp only [set0_11, setS_11])
  (refine take11 (i := 72) (d := 129) (v := ?_) rfl rfl (by rw [HO.out]; exact ns11) (by rw [HO.out]; exact fr11_72) (fun _ _ _ h => h) (Or.inl ⟨by rfl, ?_⟩) hR ?_; rotate_left; (focus (intro w hSw; go_simp; (try with_reducible rfl))); dsimp only [set0_11, setS_11])
  (refine take11 (i := 73) (d := 130) (v := ?_) rfl rfl (by rw [HO.out]; exact ns11) (by rw [HO.out]; exact fr11_73) (fun _ _ _ h => h) (Or.inl ⟨by rfl, ?_⟩) hR ?_; rotate_left; (focus (intro w hSw; go_simp; (try with_reducible rfl))); dsimp only [set0_11, setS_11])
  (refine take11 (i := 74) (d := 131) (v := ?_) rfl rfl (by rw [HO.out]; exact ns11) (by rw [HO.out]; exact fr11_74) (fun _ _ _ h => h) (Or.inl ⟨by rfl, ?_⟩) hR ?_; rotate_left; (focus (intro w hSw; go_simp; (try with_reducible rfl))); dsimp only [set0_11, setS_11])
  (refine take11 (i := 75) (d := 132) (v := _) rfl rfl (by rw [HO.out]; exact ns11) (by rw [HO.out]; exact fr11_75) (fun _ _ _ h => h) (Or.inl ⟨by rfl, fun V hSw => exec_load11 rfl rfl (HLD6_3.out V hSw)⟩) hR ?_; dsimp only [set0_11, setS_11])
  (refine take11 (i := 76) (d := 133) (v := ?_) rfl rfl (by rw [HO.out]; exact ns11) (by rw [HO.out]; exact fr11_76) (fun _ _ _ h => h) (Or.inl ⟨by rfl, ?_⟩) hR ?_; rotate_left; (focus (intro w hSw; go_simp; (try with_reducible rfl))); dsimp only [set0_11, setS_11])
  (refine take11 (i := 77) (d := 134) (v := ?_) rfl rfl (by rw [HO.out]; exact ns11) (by rw [HO.out]; exact fr11_77) (fun _ _ _ h => h) (Or.inl ⟨by rfl, ?_⟩) hR ?_; rotate_left; (focus (intro w hSw; go_simp; (try with_reducible rfl))); dsimp only [set0_11, setS_11])
  (refine take11 (i := 78) (d := 135) (v := ?_) rfl rfl (by rw [HO.out]; exact ns11) (by rw [HO.out]; exact fr11_78) (fun _ _ _ h => h) (Or.inl ⟨by rfl, ?_⟩) hR ?_; rotate_left; (focus (intro w hSw; go_simp; (try with_reducible rfl))); dsimp only [set0_11, setS_11])
  (refine take11 (i := 79) (d := 136) (v := ?_) rfl rfl (by rw [HO.out]; exact ns11) (by rw [HO.out]; exact fr11_79) (fun _ _ _ h => h) (Or.inl ⟨by rfl, ?_⟩) hR ?_; rotate_left; (focus (intro w hSw; go_simp; (try with_reducible rfl))); dsimp only [set0_11, setS_11])
  (refine take11 (i := 80) (d := 137) (v := _) rfl rfl (by rw [HO.out]; exact ns11) (by rw [HO.out]; exact fr11_80) (fun _ _ _ h => h) (Or.inl ⟨by rfl, fun V hSw => exec_load11 rfl rfl (HLD8_0.out V hSw)⟩) hR ?_; dsimp only [set0_11, setS_11])
  (refine one11 (i := 81) rfl (by rw [HO.out]; exact rd11_81) (fun K hK => ?_); rw [if_pos (by rfl)]; (try simp only [elem_laws]))
  go_simp
  refine (HNU.out _ _).mono ?_
  rintro e w' ⟨rfl, rfl⟩
  refine hK _ _ (fun h => by first | exact hR | cases h) ?_
  clear hK K
  (first | refine then11 ?_ | skip)
  dsimp only [set0_11, setS_11]
  (refine take11 (i := 82) (d := 139) (v := ?_) rfl rfl (by rw [HO.out]; exact ns11) (by rw [HO.out]; exact fr11_82) (fun _ _ _ h => h) (Or.inl ⟨by rfl, ?_⟩) hR ?_; rotate_left; (focus (intro w hSw; go_simp; (try with_reducible rfl))); dsimp only [set0_11, setS_11])
  (refine take11 (i := 83) (d := 140) (v := ?_) rfl rfl (by rw [HO.out]; exact ns11) (by rw [HO.out]; exact fr11_83) (fun _ _ _ h => h) (Or.inl ⟨by rfl, ?_⟩) hR ?_; rotate_left; (focus (intro w hSw; go_simp; (try with_reducible rfl))); dsimp only [set0_11, setS_11])
  (refine take11 (i := 84) (d := 141) (v := ?_) rfl rfl (by rw [HO.out]; exact ns11) (by rw [HO.out]; exact fr11_84) (fun _ _ _ h => h) (Or.inl ⟨by rfl, ?_⟩) hR ?_; rotate_left; (focus (intro w hSw; go_simp; (try with_reducible rfl))); dsimp only [set0_11, setS_11])
  (refine take11 (i := 85) (d := 142) (v := ?_) rfl rfl (by rw [HO.out]; exact ns11) (by rw [HO.out]; exact fr11_85) (fun _ _ _ h => h) (Or.inl ⟨by rfl, ?_⟩) hR ?_; rotate_left; (focus (intro w hSw; go_simp; (try with_reducible rfl))); dsimp only [set0_11, setS_11])
  (refine take11 (i := 86) (d := 143) (v := _) rfl rfl (by rw [HO.out]; exact ns11) (by rw [HO.out]; exact fr11_86) (fun _ _ _ h => h) (Or.inl ⟨by rfl, fun V hSw => exec_load11 rfl rfl (HLD9_0.out V hSw)⟩) hR ?_; dsimp only [set0_11, setS_11])
  (refine one11 (i := 87) rfl (by rw [HO.out]; exact rd11_87) (fun K hK => ?_); rw [if_pos (by rfl)]; (try simp only [elem_laws]))
  go_simp
  refine (HNU.out _ _).mono ?_
  rintro e w' ⟨rfl, rfl⟩
  refine hK _ _ (fun h => by first | exact hR | cases h) ?_
  clear hK K
  (first | refine then11 ?_ | skip)
  dsimp only [set0_11, setS_11]
  (refine take11 (i := 88) (d := 145) (v := ?_) rfl rfl (by rw [HO.out]; exact ns11) (by rw [HO.out]; exact fr11_88) (fun _ _ _ h => h) (Or.inl ⟨by rfl, ?_⟩) hR ?_; rotate_left; (focus (intro w hSw; go_simp; (try with_reducible rfl))); dsimp only [set0_11, setS_11])
  (refine take11 (i := 89) (d := 146) (v := ?_) rfl rfl (by rw [HO.out]; exact ns11) (by rw [HO.out]; exact fr11_89) (fun _ _ _ h => h) (Or.inl ⟨by rfl, ?_⟩) hR ?_; rotate_left; (focus (intro w hSw; go_simp; (try with_reducible rfl))); dsimp only [set0_11, setS_11])
  (refine take11 (i := 90) (d := 147) (v := ?_) rfl rfl (by rw [HO.out]; exact ns11) (by rw [HO.out]; exact fr11_90) (fun _ _ _ h => h) (Or.inl ⟨by rfl, ?_⟩) hR ?_; rotate_left; (focus (intro w hSw; go_simp; (try with_reducible rfl))); dsimp only [set0_11, setS_11])
  (refine take11 (i := 91) (d := 148) (v := ?_) rfl rfl (by rw [HO.out]; exact ns11) (by rw [HO.out]; exact fr11_91) (fun _ _ _ h => h) (Or.inl ⟨by rfl, ?_⟩) hR ?_; rotate_left; (focus (intro w hSw; go_simp; (try with_reducible rfl))); dsimp only [set0_11, setS_11])
  (refine take11 (i := 92) (d := 149) (v := _) rfl rfl (by rw [HO.out]; exact ns11) (by rw [HO.out]; exact fr11_92) (fun _ _ _ h => h) (Or.inl ⟨by rfl, fun V hSw => exec_load11 rfl rfl (HLD10_0.out V hSw)⟩) hR ?_; dsimp only [set0_11, setS_11])
  (refine one11 (i := 93) rfl (by rw [HO.out]; exact rd11_93) (fun K hK => ?_); rw [if_pos (by rfl)]; (try simp only [elem_laws]))
  go_simp
  refine (HNU.out _ _).mono ?_
  rintro e w' ⟨rfl, rfl⟩
  refine hK _ _ (fun h => by first | exact hR | cases h) ?_
  clear hK K
  (first | refine then11 ?_ | skip)
  dsimp only [set0_11, setS_11]
  (refine take11 (i := 94) (d := 151) (v := ?_) rfl rfl (by rw [HO.out]; exact ns11) (by rw [HO.out]; exact fr11_94) (fun _ _ _ h => h) (Or.inl ⟨by rfl, ?_⟩) hR ?_; rotate_left; (focus (intro w hSw; go_simp; (try with_reducible rfl))); dsimp only [set0_11, setS_11])
  (refine take11 (i := 95) (d := 152) (v := ?_) rfl rfl (by rw [HO.out]; exact ns11) (by rw [HO.out]; exact fr11_95) (fun _ _ _ h => h) (Or.inl ⟨by rfl, ?_⟩) hR ?_; rotate_left; (focus (intro w hSw; go_simp; (try with_reducible rfl))); dsimp only [set0_11, setS_11])
  (refine take11 (i := 96) (d := 153) (v := ?_) rfl rfl (by rw [HO.out]; exact ns11) (by rw [HO.out]; exact fr11_96) (fun _ _ _ h => h) (Or.inl ⟨by rfl, ?_⟩) hR ?_; rotate_left; (focus (intro w hSw; go_simp; (try with_reducible rfl))); dsimp only [set0_11, setS_11])
  (refine take11 (i := 97) (d := 154) (v := ?_) rfl rfl (by rw [HO.out]; exact ns11) (by rw [HO.out]; exact fr11_97) (fun _ _ _ h => h) (Or.inl ⟨by rfl, ?_⟩) hR ?_; rotate_left; (focus (intro w hSw; go_simp; (try with_reducible rfl))); dsimp only [set0_11, setS_11])
  (refine take11 (i := 98) (d := 155) (v := _) rfl rfl (by rw [HO.out]; exact ns11) (by rw [HO.out]; exact fr11_98) (fun _ _ _ h => h) (Or.inl ⟨by rfl, fun V hSw => exec_load11 rfl rfl (HLD11_0.out V hSw)⟩) hR ?_; dsimp only [set0_11, setS_11])
  (refine one11 (i := 99) rfl (by rw [HO.out]; exact rd11_99) (fun K hK => ?_); rw [if_pos (by rfl)]; (try simp only [elem_laws]))
  go_simp
  refine (HNU.out _ _).mono ?_
  rintro e w' ⟨rfl, rfl⟩
  refine hK _ _ (fun h => by first | exact hR | cases h) ?_
  clear hK K
  (first | refine then11 ?_ | skip)
  dsimp only [set0_11, setS_11]
  (refine take11 (i := 100) (d := 157) (v := ?_) rfl rfl (by rw [HO.out]; exact ns11) (by rw [HO.out]; exact fr11_100) (fun _ _ _ h => h) (Or.inl ⟨by rfl, ?_⟩) hR ?_; rotate_left; (focus (intro w hSw; go_simp; (try with_reducible rfl))); dsimp only [set0_11, setS_11])
  (refine take11 (i := 101) (d := 158) (v := ?_) rfl rfl (by rw [HO.out]; exact ns11) (by rw [HO.out]; exact fr11_101) (fun _ _ _ h => h) (Or.inl ⟨by rfl, ?_⟩) hR ?_; rotate_left; (focus (intro w hSw; go_simp; (try with_reducible rfl))); dsimp only [set0_11, setS_11])
  (refine take11 (i := 102) (d := 159) (v := ?_) rfl rfl (by rw [HO.out]; exact ns11) (by rw [HO.out]; exact fr11_102) (fun _ _ _ h => h) (Or.inl ⟨by rfl, ?_⟩) hR ?_; rotate_left; (focus (intro w hSw; go_simp; (try with_reducible rfl))); dsimp only [set0_11, setS_11])
  (refine take11 (i := 103) (d := 160) (v := ?_) rfl rfl (by rw [HO.out]; exact ns11) (by rw [HO.out]; exact fr11_103) (fun _ _ _ h => h) (Or.inl ⟨by rfl, ?_⟩) hR ?_; rotate_left; (focus (intro w hSw; go_simp; (try with_reducible rfl))); dsimp only [set0_11, setS_11])
  (refine take11 (i := 104) (d := 161) (v := _) rfl rfl (by rw [HO.out]; exact ns11) (by rw [HO.out]; exact fr11_104) (fun _ _ _ h => h) (Or.inl ⟨by rfl, fun V hSw => exec_load11 rfl rfl (HLD13_2.out V hSw)⟩) hR ?_; dsimp only [set0_11, setS_11])
  (refine take11 (i := 105) (d := 162) (v := ?_) rfl rfl (by rw [HO.out]; exact ns11) (by rw [HO.out]; exact fr11_105) (fun _ _ _ h => h) (Or.inl ⟨by rfl, ?_⟩) hR ?_; rotate_left; (focus (intro w hSw; go_simp; (try with_reducible rfl))); dsimp only [set0_11, setS_11])
  (refine take11 (i := 106) (d := 163) (v := ?_) rfl rfl (by rw [HO.out]; exact ns11) (by rw [HO.out]; exact fr11_106) (fun _ _ _ h => h) (Or.inl ⟨by rfl, ?_⟩) hR ?_; rotate_left; (focus (intro w hSw; go_simp; (try with_reducible rfl))); dsimp only [set0_11, setS_11])
  (refine take11 (i := 107) (d := 164) (v := ?_) rfl rfl (by rw [HO.out]; exact ns11) (by rw [HO.out]; exact fr11_107) (fun _ _ _ h => h) (Or.inl ⟨by rfl, ?_⟩) hR ?_; rotate_left; (focus (intro w hSw; go_simp; (try with_reducible rfl))); dsimp only [set0_11, setS_11])
  (refine take11 (i := 108) (d := 165) (v := ?_) rfl rfl (by rw [HO.out]; exact ns11) (by rw [HO.out]; exact fr11_108) (fun _ _ _ h => h) (Or.inl ⟨by rfl, ?_⟩) hR ?_; rotate_left; (focus (intro w hSw; go_simp; (try with_reducible rfl))); dsimp only [set0_11, setS_11])
  (refine take11 (i := 109) (d := 166) (v := _) rfl rfl (by rw [HO.out]; exact ns11) (by rw [HO.out]; exact fr11_109) (fun _ _ _ h => h) (Or.inl ⟨by rfl, fun V hSw => exec_load11 rfl rfl (HLD13_3.out V hSw)⟩) hR ?_; dsimp only [set0_11, setS_11])
  (refine take11 (i := 110) (d := 167) (v := ?_) rfl rfl (by rw [HO.out]; exact ns11) (by rw [HO.out]; exact fr11_110) (fun _ _ _ h => h) (Or.inl ⟨by rfl, ?_⟩) hR ?_; rotate_left; (focus (intro w hSw; go_simp; (try with_reducible rfl))); dsimp only [set0_11, setS_11])
  (refine take11 (i := 111) (d := 168) (v := ?_) rfl rfl (by rw [HO.out]; exact ns11) (by rw [HO.out]; exact fr11_111) (fun _ _ _ h => h) (Or.inl ⟨by rfl, ?_⟩) hR ?_; rotate_left; (focus (intro w hSw; go_simp; (try with_reducible rfl))); dsimp only [set0_11, setS_11])
  (refine wpAnyM_last rfl (by rw [HO.out]; exact rd11_112) (fun K hK => ?_); rw [if_pos (by rfl)]; (try simp only [elem_laws]))
  go_simp
  refine hK _ _ ?_
  clear hK K
  (try simp only [put_laws])
  refine wpAnyM_done (by rw [HO.out]; exact rd11_end) ?_ _
  go_wp2_with fail
  go_ret
  exact ⟨rfl, HVW7.out.trans (hR.mono HVW7.out.size)⟩
end Go.Proofs.YtgoemaecdolioaaGreatDoor
