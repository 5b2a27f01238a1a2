/-
  Texts MeD to PthN, as one.
-/
import Derived.Test.YtgoemaecdolioaaGreatDoorMo15
import Derived.Test.YtgoemaecdolioaaGreatDoorMo32
/-
  model: Do, and what of others stays.
-/
namespace Go.Proofs.YtgoemaecdolioaaGreatDoor
open Go.RowKit Go.Shelf
attribute [local go_sem] Oper.semAt_some

/-- Bytes and names of others stay. -/
structure KeptM (W W' : World) : Prop where
  fb : ∀ v xs, FB W v xs → FB W' v xs
  txs : ∀ v l, TxS W v l → TxS W' v l
  res : ∀ b X, Blk W b 44 X → Blk W' b 44 X
theorem KeptM.trans {W W1 W2 : World} (h : KeptM W W1) (k : KeptM W1 W2) : KeptM W W2 := ⟨fun v xs hx => k.fb v xs (h.fb v xs hx), fun v xs hx => k.txs v xs (h.txs v xs hx), fun b X hx => k.res b X (h.res b X hx)⟩
theorem KeptM.of_below {W W' : World} (h : Below W.heap.size W W') : KeptM W W' := ⟨fun _ _ hx => hx.below h, fun _ _ hx => Vec.below hx h, fun _ _ hx => hx.below h hx.lt⟩
theorem kept_foot {lo T r m : Nat} {G : Gr} {t : RT} {w w' : World} (h : TreeR lo w T r G m t) (ht : Turn (fun j => Foot G j ∨ w.heap.size ≤ j) w w') : KeptM w w' := by
  refine ⟨fun v xs hx => hx.turn8 ht (fun j hj hl => ?_), fun v l hx => txs_turn hx ht (fun j hj hl => ?_), fun b X hx => hx.turn ht ?_⟩
  · rcases hj with ⟨c, y, hy, rfl | rfl⟩ | hj
    · exact (h.tree.nodes _ y hy).noU8
    · exact (h.tree.nodes _ y hy).mapU8
    · omega
  · rcases hj with hj | hj
    · exact Foot.noStr h.tree.nodes hj
    · omega
  · rintro (⟨c, y, hy, hj⟩ | hj)
    · have hn := h.tree.nodes c y hy
      rcases hj with rfl | rfl
      · have h1 := hn.blk
        have h2 : (Obj.cells y.cells 108 : Obj) = Obj.cells X 44 := Option.some.inj (h1.symm.trans hx)
        cases h2
      · obtain ⟨es, clock, hm, -⟩ := hn.names
        have h2 := hm.symm.trans hx
        cases h2
    · have := hx.lt
      omega
theorem ModR.below {lo : Nat} {W W' : World} {B T r : Nat} {G : Gr} {m : Nat} {t : RT} (h : ModR lo W B T r G m t) (hb : Below W.heap.size W W') : ModR lo W' B T r G m t := ⟨boxed_low h.box hb, h.tree.below hb, h.low⟩
/-- Do, of a model. -/
theorem doK_any {lo B T r m : Nat} {G : Gr} {t : RT} {w : World} (h : ModR lo w B T r G m t) (hm : m ≤ 1000) {x : OpX} (hx : OpOk w x) :
    Calls Tryz.prog 17 #[.pointer (some ⟨B, 0, none⟩), .agg (opA x)] w fun e w' => (∃ G', ModR lo w' B T r G' (m + 1) (doT t x)) ∧ Below lo w w' ∧ KeptM w w' ∧ ∃ X, e = .returned (.agg X) ∧ (∃ e k l n a1 n1 c1 a2 n2 c2, X = resA e k l n a1 n1 c1 a2 n2 c2) ∧ doQ t x X w' := by
  refine (do11_any h.tree hm hx h.box).mono fun e w' ⟨⟨G', g1, g2, _⟩, hX⟩ => ?_
  have hb := h.box.lt
  have hT := h.tree.tree.at_.lt
  have hl := h.tree.lowT
  refine ⟨⟨G', ⟨(g2.block B hb (fun hh => ?_)).trans h.box, g1, h.low⟩⟩, g2.below (fun k hk => ?_) (by omega), kept_foot h.tree g2, hX⟩
  · rcases hh with hh | hh
    · exact mod_not_foot h.tree h.box hh
    · omega
  · rcases hk with hk | hk
    · exact h.tree.low k hk
    · omega
end Go.Proofs.YtgoemaecdolioaaGreatDoor

/-
  model: the chapter's rows, call by call. (gen_meh.py)
-/
namespace Go.Proofs.YtgoemaecdolioaaGreatDoor
open Go.RowKit Go.Shelf
attribute [local go_sem] Oper.semAt_some

theorem lit_fb11 (W : World) (fr : Nat × Nat) (ds : List Nat) (h : ∀ x ∈ ds, x < 256) (hl : ds.length ≤ 1000) : FB (W.alloc (.cells (byA ds) 5 fr)) (.slice (some ⟨W.heap.size, 0, none⟩) ds.length ds.length) ds := by
  refine ⟨⟨_, _, rfl, Nat.le_refl _, fun _ => ⟨W.heap.size, 0, rfl, by simp, fun j hj => ?_⟩⟩, fun i => ?_, fun a n c e => by cases e; omega⟩
  · rw [Nat.zero_add, World.cell?_alloc_mark]
    exact byA_at ds j hj
  unfold WM.at'
  by_cases hi : i < ds.length
  · rw [List.getElem?_eq_getElem hi]; exact h _ (List.getElem_mem hi)
  · rw [List.getElem?_eq_none (by omega)]; decide
/-- What a call of the rows leaves: the tree, and what of others stays. -/
structure RowM11 (lo B T r m : Nat) (t : RT) (w w' : World) : Prop where
  mod : ∃ G', ModR lo w' B T r G' m t
  below : Below lo w w'
  kept : KeptM w w'
theorem row11_1 {lo B T r : Nat} (W : World) (h : ∃ G, ModR lo W B T r G 0 tr11_0) : Calls Tryz.prog 17 #[.pointer (some ⟨B, 0, none⟩), .agg #[.int .i64 4, .string { data := #[47, 102] }, .string { data := #[] }, .int .i64 0, .int .i64 0, .slice none 0 0]] W fun e w' => RowM11 lo B T r 1 tr11_1 W w' ∧ e = .returned (.agg (resA 0 0 0 0 none 0 0 none 0 0)) := by
  obtain ⟨G, h⟩ := h
  have hb0 : Below W.heap.size W W := Below.refl _ _
  have hx : OpOk W (op11_1 (.slice none 0 0)) := ⟨(by decide : (2 : Nat) ≤ 1000000), (by decide : (0 : Nat) ≤ 1000000), (by decide : (-9223372036854775808 : Int) ≤ 0), (by decide : (0 : Int) ≤ 9223372036854775807), (by decide : (-9223372036854775808 : Int) ≤ 0), (by decide : (0 : Int) ≤ 9223372036854775807), nil_fb _⟩
  refine (doK_any (h.below hb0) (by omega) hx).mono ?_
  rintro e w' ⟨h1, h2, h3, X, rfl, -, hq⟩
  rw [do11_t1] at h1
  have hL : RowM11 lo B T r 1 tr11_1 W w' := ⟨h1, h2, (KeptM.of_below hb0).trans h3⟩
  have hX := do11_q1 hq
  exact ⟨hL, by rw [hX]⟩
theorem row11_2 {lo B T r : Nat} (W : World) (h : ∃ G, ModR lo W B T r G 1 tr11_1) : Calls Tryz.prog 17 #[.pointer (some ⟨B, 0, none⟩), .agg #[.int .i64 10, .string { data := #[47, 102] }, .string { data := #[] }, .int .i64 2, .int .i64 0, .slice (some ⟨W.heap.size, 0, none⟩) 2 2]] (W.alloc (.cells #[.int .u8 104, .int .u8 105] 5 (2, 3))) fun e w' => RowM11 lo B T r 2 tr11_2 W w' ∧ e = .returned (.agg (resA 0 0 0 0 none 0 0 none 0 0)) := by
  obtain ⟨G, h⟩ := h
  have hb0 : Below W.heap.size W (W.alloc (.cells #[.int .u8 104, .int .u8 105] 5 (2, 3))) := (Below.refl _ _).alloc (Nat.le_refl _) _
  have hx : OpOk (W.alloc (.cells #[.int .u8 104, .int .u8 105] 5 (2, 3))) (op11_2 (.slice (some ⟨W.heap.size, 0, none⟩) 2 2)) := ⟨(by decide : (2 : Nat) ≤ 1000000), (by decide : (0 : Nat) ≤ 1000000), (by decide : (-9223372036854775808 : Int) ≤ 2), (by decide : (2 : Int) ≤ 9223372036854775807), (by decide : (-9223372036854775808 : Int) ≤ 0), (by decide : (0 : Int) ≤ 9223372036854775807), lit_fb11 W (2, 3) [104, 105] (by decide) (by decide)⟩
  refine (doK_any (h.below hb0) (by omega) hx).mono ?_
  rintro e w' ⟨h1, h2, h3, X, rfl, -, hq⟩
  rw [do11_t2] at h1
  have hlo : lo ≤ W.heap.size := Nat.le_trans h.low (Nat.le_of_lt h.box.lt)
  have hb1 : Below lo W (W.alloc (.cells #[.int .u8 104, .int .u8 105] 5 (2, 3))) := (Below.refl _ _).alloc hlo _
  have hL : RowM11 lo B T r 2 tr11_2 W w' := ⟨h1, hb1.trans h2, (KeptM.of_below hb0).trans h3⟩
  have hX := do11_q2 hq
  exact ⟨hL, by rw [hX]⟩
theorem row11_3 {lo B T r : Nat} (W : World) (h : ∃ G, ModR lo W B T r G 2 tr11_2) : Calls Tryz.prog 17 #[.pointer (some ⟨B, 0, none⟩), .agg #[.int .i64 3, .string { data := #[47, 102] }, .string { data := #[] }, .int .i64 0, .int .i64 9, .slice none 0 0]] W fun e w' => RowM11 lo B T r 3 tr11_2 W w' ∧ ∃ a c, e = .returned (.agg (resA 0 0 0 0 none 0 0 a 4 c)) ∧ FB w' (.slice a 4 c) [0, 0, 104, 105] := by
  obtain ⟨G, h⟩ := h
  have hb0 : Below W.heap.size W W := Below.refl _ _
  have hx : OpOk W (op11_3 (.slice none 0 0)) := ⟨(by decide : (2 : Nat) ≤ 1000000), (by decide : (0 : Nat) ≤ 1000000), (by decide : (-9223372036854775808 : Int) ≤ 0), (by decide : (0 : Int) ≤ 9223372036854775807), (by decide : (-9223372036854775808 : Int) ≤ 9), (by decide : (9 : Int) ≤ 9223372036854775807), nil_fb _⟩
  refine (doK_any (h.below hb0) (by omega) hx).mono ?_
  rintro e w' ⟨h1, h2, h3, X, rfl, -, hq⟩
  rw [do11_t3] at h1
  have hL : RowM11 lo B T r 3 tr11_2 W w' := ⟨h1, h2, (KeptM.of_below hb0).trans h3⟩
  obtain ⟨a, c, rfl, hv⟩ := do11_q3 hq
  exact ⟨hL, a, c, rfl, hv⟩
theorem row11_4 {lo B T r : Nat} (W : World) (h : ∃ G, ModR lo W B T r G 3 tr11_2) : Calls Tryz.prog 17 #[.pointer (some ⟨B, 0, none⟩), .agg #[.int .i64 1, .string { data := #[47, 102] }, .string { data := #[] }, .int .i64 0, .int .i64 0, .slice none 0 0]] W fun e w' => RowM11 lo B T r 4 tr11_2 W w' ∧ e = .returned (.agg (resA 0 1 1 4 none 0 0 none 0 0)) := by
  obtain ⟨G, h⟩ := h
  have hb0 : Below W.heap.size W W := Below.refl _ _
  have hx : OpOk W (op11_4 (.slice none 0 0)) := ⟨(by decide : (2 : Nat) ≤ 1000000), (by decide : (0 : Nat) ≤ 1000000), (by decide : (-9223372036854775808 : Int) ≤ 0), (by decide : (0 : Int) ≤ 9223372036854775807), (by decide : (-9223372036854775808 : Int) ≤ 0), (by decide : (0 : Int) ≤ 9223372036854775807), nil_fb _⟩
  refine (doK_any (h.below hb0) (by omega) hx).mono ?_
  rintro e w' ⟨h1, h2, h3, X, rfl, -, hq⟩
  rw [do11_t4] at h1
  have hL : RowM11 lo B T r 4 tr11_2 W w' := ⟨h1, h2, (KeptM.of_below hb0).trans h3⟩
  have hX := do11_q4 hq
  exact ⟨hL, by rw [hX]⟩
theorem row11_5 {lo B T r : Nat} (W : World) (h : ∃ G, ModR lo W B T r G 4 tr11_2) : Calls Tryz.prog 17 #[.pointer (some ⟨B, 0, none⟩), .agg #[.int .i64 2, .string { data := #[47] }, .string { data := #[] }, .int .i64 0, .int .i64 0, .slice none 0 0]] W fun e w' => RowM11 lo B T r 5 tr11_2 W w' ∧ ∃ a c, e = .returned (.agg (resA 0 0 0 0 a 1 c none 0 0)) ∧ TxS w' (.slice a 1 c) [[102]] := by
  obtain ⟨G, h⟩ := h
  have hb0 : Below W.heap.size W W := Below.refl _ _
  have hx : OpOk W (op11_5 (.slice none 0 0)) := ⟨(by decide : (1 : Nat) ≤ 1000000), (by decide : (0 : Nat) ≤ 1000000), (by decide : (-9223372036854775808 : Int) ≤ 0), (by decide : (0 : Int) ≤ 9223372036854775807), (by decide : (-9223372036854775808 : Int) ≤ 0), (by decide : (0 : Int) ≤ 9223372036854775807), nil_fb _⟩
  refine (doK_any (h.below hb0) (by omega) hx).mono ?_
  rintro e w' ⟨h1, h2, h3, X, rfl, -, hq⟩
  rw [do11_t5] at h1
  have hL : RowM11 lo B T r 5 tr11_2 W w' := ⟨h1, h2, (KeptM.of_below hb0).trans h3⟩
  obtain ⟨a, c, rfl, hv⟩ := do11_q5 hq
  exact ⟨hL, a, c, rfl, hv⟩
theorem row11_6 {lo B T r : Nat} (W : World) (h : ∃ G, ModR lo W B T r G 5 tr11_2) : Calls Tryz.prog 17 #[.pointer (some ⟨B, 0, none⟩), .agg #[.int .i64 1, .string { data := #[47] }, .string { data := #[] }, .int .i64 0, .int .i64 0, .slice none 0 0]] W fun e w' => RowM11 lo B T r 6 tr11_2 W w' ∧ e = .returned (.agg (resA 0 2 1 1 none 0 0 none 0 0)) := by
  obtain ⟨G, h⟩ := h
  have hb0 : Below W.heap.size W W := Below.refl _ _
  have hx : OpOk W (op11_6 (.slice none 0 0)) := ⟨(by decide : (1 : Nat) ≤ 1000000), (by decide : (0 : Nat) ≤ 1000000), (by decide : (-9223372036854775808 : Int) ≤ 0), (by decide : (0 : Int) ≤ 9223372036854775807), (by decide : (-9223372036854775808 : Int) ≤ 0), (by decide : (0 : Int) ≤ 9223372036854775807), nil_fb _⟩
  refine (doK_any (h.below hb0) (by omega) hx).mono ?_
  rintro e w' ⟨h1, h2, h3, X, rfl, -, hq⟩
  rw [do11_t6] at h1
  have hL : RowM11 lo B T r 6 tr11_2 W w' := ⟨h1, h2, (KeptM.of_below hb0).trans h3⟩
  have hX := do11_q6 hq
  exact ⟨hL, by rw [hX]⟩
theorem row11_7 {lo B T r : Nat} (W : World) (h : ∃ G, ModR lo W B T r G 6 tr11_2) : Calls Tryz.prog 17 #[.pointer (some ⟨B, 0, none⟩), .agg #[.int .i64 11, .string { data := #[47, 102] }, .string { data := #[] }, .int .i64 0, .int .i64 1, .slice none 0 0]] W fun e w' => RowM11 lo B T r 7 tr11_3 W w' ∧ e = .returned (.agg (resA 0 0 0 0 none 0 0 none 0 0)) := by
  obtain ⟨G, h⟩ := h
  have hb0 : Below W.heap.size W W := Below.refl _ _
  have hx : OpOk W (op11_7 (.slice none 0 0)) := ⟨(by decide : (2 : Nat) ≤ 1000000), (by decide : (0 : Nat) ≤ 1000000), (by decide : (-9223372036854775808 : Int) ≤ 0), (by decide : (0 : Int) ≤ 9223372036854775807), (by decide : (-9223372036854775808 : Int) ≤ 1), (by decide : (1 : Int) ≤ 9223372036854775807), nil_fb _⟩
  refine (doK_any (h.below hb0) (by omega) hx).mono ?_
  rintro e w' ⟨h1, h2, h3, X, rfl, -, hq⟩
  rw [do11_t7] at h1
  have hL : RowM11 lo B T r 7 tr11_3 W w' := ⟨h1, h2, (KeptM.of_below hb0).trans h3⟩
  have hX := do11_q7 hq
  exact ⟨hL, by rw [hX]⟩
theorem row11_8 {lo B T r : Nat} (W : World) (h : ∃ G, ModR lo W B T r G 7 tr11_3) : Calls Tryz.prog 17 #[.pointer (some ⟨B, 0, none⟩), .agg #[.int .i64 10, .string { data := #[47, 102] }, .string { data := #[] }, .int .i64 (-1), .int .i64 0, .slice none 0 0]] W fun e w' => RowM11 lo B T r 8 tr11_3 W w' ∧ e = .returned (.agg (resA 2 0 0 0 none 0 0 none 0 0)) := by
  obtain ⟨G, h⟩ := h
  have hb0 : Below W.heap.size W W := Below.refl _ _
  have hx : OpOk W (op11_8 (.slice none 0 0)) := ⟨(by decide : (2 : Nat) ≤ 1000000), (by decide : (0 : Nat) ≤ 1000000), (by decide : (-9223372036854775808 : Int) ≤ -1), (by decide : (-1 : Int) ≤ 9223372036854775807), (by decide : (-9223372036854775808 : Int) ≤ 0), (by decide : (0 : Int) ≤ 9223372036854775807), nil_fb _⟩
  refine (doK_any (h.below hb0) (by omega) hx).mono ?_
  rintro e w' ⟨h1, h2, h3, X, rfl, -, hq⟩
  rw [do11_t8] at h1
  have hL : RowM11 lo B T r 8 tr11_3 W w' := ⟨h1, h2, (KeptM.of_below hb0).trans h3⟩
  have hX := do11_q8 hq
  exact ⟨hL, by rw [hX]⟩
theorem row11_9 {lo B T r : Nat} (W : World) (h : ∃ G, ModR lo W B T r G 8 tr11_3) : Calls Tryz.prog 17 #[.pointer (some ⟨B, 0, none⟩), .agg #[.int .i64 3, .string { data := #[47, 120] }, .string { data := #[] }, .int .i64 0, .int .i64 1, .slice none 0 0]] W fun e w' => RowM11 lo B T r 9 tr11_3 W w' ∧ e = .returned (.agg (resA 202 0 0 0 none 0 0 none 0 0)) := by
  obtain ⟨G, h⟩ := h
  have hb0 : Below W.heap.size W W := Below.refl _ _
  have hx : OpOk W (op11_9 (.slice none 0 0)) := ⟨(by decide : (2 : Nat) ≤ 1000000), (by decide : (0 : Nat) ≤ 1000000), (by decide : (-9223372036854775808 : Int) ≤ 0), (by decide : (0 : Int) ≤ 9223372036854775807), (by decide : (-9223372036854775808 : Int) ≤ 1), (by decide : (1 : Int) ≤ 9223372036854775807), nil_fb _⟩
  refine (doK_any (h.below hb0) (by omega) hx).mono ?_
  rintro e w' ⟨h1, h2, h3, X, rfl, -, hq⟩
  rw [do11_t9] at h1
  have hL : RowM11 lo B T r 9 tr11_3 W w' := ⟨h1, h2, (KeptM.of_below hb0).trans h3⟩
  have hX := do11_q9 hq
  exact ⟨hL, by rw [hX]⟩
theorem row11_10 {lo B T r : Nat} (W : World) (h : ∃ G, ModR lo W B T r G 9 tr11_3) : Calls Tryz.prog 17 #[.pointer (some ⟨B, 0, none⟩), .agg #[.int .i64 11, .string { data := #[47, 102] }, .string { data := #[] }, .int .i64 0, .int .i64 449, .slice none 0 0]] W fun e w' => RowM11 lo B T r 10 tr11_3 W w' ∧ e = .returned (.agg (resA 190 0 0 0 none 0 0 none 0 0)) := by
  obtain ⟨G, h⟩ := h
  have hb0 : Below W.heap.size W W := Below.refl _ _
  have hx : OpOk W (op11_10 (.slice none 0 0)) := ⟨(by decide : (2 : Nat) ≤ 1000000), (by decide : (0 : Nat) ≤ 1000000), (by decide : (-9223372036854775808 : Int) ≤ 0), (by decide : (0 : Int) ≤ 9223372036854775807), (by decide : (-9223372036854775808 : Int) ≤ 449), (by decide : (449 : Int) ≤ 9223372036854775807), nil_fb _⟩
  refine (doK_any (h.below hb0) (by omega) hx).mono ?_
  rintro e w' ⟨h1, h2, h3, X, rfl, -, hq⟩
  rw [do11_t10] at h1
  have hL : RowM11 lo B T r 10 tr11_3 W w' := ⟨h1, h2, (KeptM.of_below hb0).trans h3⟩
  have hX := do11_q10 hq
  exact ⟨hL, by rw [hX]⟩
theorem row11_11 {lo B T r : Nat} (W : World) (h : ∃ G, ModR lo W B T r G 10 tr11_3) : Calls Tryz.prog 17 #[.pointer (some ⟨B, 0, none⟩), .agg #[.int .i64 0, .string { data := #[47, 102] }, .string { data := #[] }, .int .i64 0, .int .i64 0, .slice none 0 0]] W fun e w' => RowM11 lo B T r 11 tr11_3 W w' ∧ e = .returned (.agg (resA 2 0 0 0 none 0 0 none 0 0)) := by
  obtain ⟨G, h⟩ := h
  have hb0 : Below W.heap.size W W := Below.refl _ _
  have hx : OpOk W (op11_11 (.slice none 0 0)) := ⟨(by decide : (2 : Nat) ≤ 1000000), (by decide : (0 : Nat) ≤ 1000000), (by decide : (-9223372036854775808 : Int) ≤ 0), (by decide : (0 : Int) ≤ 9223372036854775807), (by decide : (-9223372036854775808 : Int) ≤ 0), (by decide : (0 : Int) ≤ 9223372036854775807), nil_fb _⟩
  refine (doK_any (h.below hb0) (by omega) hx).mono ?_
  rintro e w' ⟨h1, h2, h3, X, rfl, -, hq⟩
  rw [do11_t11] at h1
  have hL : RowM11 lo B T r 11 tr11_3 W w' := ⟨h1, h2, (KeptM.of_below hb0).trans h3⟩
  have hX := do11_q11 hq
  exact ⟨hL, by rw [hX]⟩
theorem row11_12 {lo B T r : Nat} (W : World) (h : ∃ G, ModR lo W B T r G 11 tr11_3) : Calls Tryz.prog 17 #[.pointer (some ⟨B, 0, none⟩), .agg #[.int .i64 9, .string { data := #[47, 102] }, .string { data := #[47, 103] }, .int .i64 0, .int .i64 0, .slice none 0 0]] W fun e w' => RowM11 lo B T r 12 tr11_4 W w' ∧ e = .returned (.agg (resA 0 0 0 0 none 0 0 none 0 0)) := by
  obtain ⟨G, h⟩ := h
  have hb0 : Below W.heap.size W W := Below.refl _ _
  have hx : OpOk W (op11_12 (.slice none 0 0)) := ⟨(by decide : (2 : Nat) ≤ 1000000), (by decide : (2 : Nat) ≤ 1000000), (by decide : (-9223372036854775808 : Int) ≤ 0), (by decide : (0 : Int) ≤ 9223372036854775807), (by decide : (-9223372036854775808 : Int) ≤ 0), (by decide : (0 : Int) ≤ 9223372036854775807), nil_fb _⟩
  refine (doK_any (h.below hb0) (by omega) hx).mono ?_
  rintro e w' ⟨h1, h2, h3, X, rfl, -, hq⟩
  rw [do11_t12] at h1
  have hL : RowM11 lo B T r 12 tr11_4 W w' := ⟨h1, h2, (KeptM.of_below hb0).trans h3⟩
  have hX := do11_q12 hq
  exact ⟨hL, by rw [hX]⟩
theorem row11_13 {lo B T r : Nat} (W : World) (h : ∃ G, ModR lo W B T r G 12 tr11_4) : Calls Tryz.prog 17 #[.pointer (some ⟨B, 0, none⟩), .agg #[.int .i64 1, .string { data := #[47, 103] }, .string { data := #[] }, .int .i64 0, .int .i64 0, .slice none 0 0]] W fun e w' => RowM11 lo B T r 13 tr11_4 W w' ∧ e = .returned (.agg (resA 0 1 2 1 none 0 0 none 0 0)) := by
  obtain ⟨G, h⟩ := h
  have hb0 : Below W.heap.size W W := Below.refl _ _
  have hx : OpOk W (op11_13 (.slice none 0 0)) := ⟨(by decide : (2 : Nat) ≤ 1000000), (by decide : (0 : Nat) ≤ 1000000), (by decide : (-9223372036854775808 : Int) ≤ 0), (by decide : (0 : Int) ≤ 9223372036854775807), (by decide : (-9223372036854775808 : Int) ≤ 0), (by decide : (0 : Int) ≤ 9223372036854775807), nil_fb _⟩
  refine (doK_any (h.below hb0) (by omega) hx).mono ?_
  rintro e w' ⟨h1, h2, h3, X, rfl, -, hq⟩
  rw [do11_t13] at h1
  have hL : RowM11 lo B T r 13 tr11_4 W w' := ⟨h1, h2, (KeptM.of_below hb0).trans h3⟩
  have hX := do11_q13 hq
  exact ⟨hL, by rw [hX]⟩
end Go.Proofs.YtgoemaecdolioaaGreatDoor

/-
  path: the document's Split, byte by byte, in plain words.
-/
namespace Go.Proofs.YtgoemaecdolioaaGreatDoor
open Go.RowKit Go.Shelf Go.Sort

theorem partsP_end (a : List UInt8) : partsP (a ++ [47]) = partsP a ++ [[]] := partsP_app a []
theorem partsP_push : ∀ (a : List UInt8) (o : List (List UInt8)) (p : List UInt8) (c : UInt8), c ≠ 47 → partsP a = o ++ [p] → partsP (a ++ [c]) = o ++ [p ++ [c]]
  | [], o, p, c, hc, h => by
    have h' : [[]] = o ++ [p] := h
    cases o with
    | nil =>
      simp only [List.nil_append, List.cons.injEq, and_true] at h'
      subst h'
      exact partsP_other c [] [] [] hc rfl
    | cons x o => simp at h'
  | d :: a, o, p, c, hc, h => by
    obtain ⟨x, t, e⟩ := partsP_cons a
    by_cases hd : d = 47
    · subst hd
      rw [partsP_slash] at h
      cases o with
      | nil =>
        rw [e] at h
        simp at h
      | cons y o =>
        simp only [List.cons_append, List.cons.injEq] at h
        obtain ⟨rfl, h⟩ := h
        rw [List.cons_append, partsP_slash, partsP_push a o p c hc h]
        rfl
    · rw [partsP_other d a x t hd e] at h
      cases o with
      | nil =>
        simp only [List.nil_append, List.cons.injEq] at h
        obtain ⟨rfl, rfl⟩ := h
        have := partsP_push a [] x c hc e
        exact partsP_other d (a ++ [c]) (x ++ [c]) [] hd this
      | cons y o =>
        simp only [List.cons_append, List.cons.injEq] at h
        obtain ⟨rfl, rfl⟩ := h
        have := partsP_push a (x :: o) p c hc e
        exact partsP_other d (a ++ [c]) x (o ++ [p ++ [c]]) hd this
/-- How far a text was gone through: so many bytes of it (one more: the end, too); parts that are whole; the part under way. -/
structure Scan (r : List UInt8) (j : Nat) (o : List (List UInt8)) (p : List UInt8) : Prop where
  full : [] ∉ o
  few : o.length ≤ 16
  short : p.length ≤ j
  at_ : (j ≤ r.length ∧ partsP (r.take j) = o ++ [p]) ∨ (j = r.length + 1 ∧ o = partsP r)
theorem Scan.start (r : List UInt8) : Scan r 0 [] [] := ⟨by simp, by decide, Nat.zero_le _, .inl ⟨Nat.zero_le _, rfl⟩⟩
theorem Scan.char {r : List UInt8} {j : Nat} {o : List (List UInt8)} {p : List UInt8} (h : Scan r j o p) (hj : j < r.length) {c : UInt8} (hc : r[j] = c) (h47 : c ≠ 47) : Scan r (j + 1) o (p ++ [c]) := by
  refine ⟨h.full, h.few, by have := h.short; simp; omega, .inl ⟨hj, ?_⟩⟩
  rcases h.at_ with ⟨_, e⟩ | ⟨e, _⟩
  · rw [List.take_succ_eq_append_getElem hj, hc]
    exact partsP_push _ _ _ _ h47 e
  · omega
theorem Scan.cut {r : List UInt8} {j : Nat} {o : List (List UInt8)} {p : List UInt8} (h : Scan r j o p) (hj : j < r.length) (hc : r[j] = 47) (hp : p ≠ []) (ho : o.length ≠ 16) : Scan r (j + 1) (o ++ [p]) [] := by
  refine ⟨?_, by have := h.few; simp; omega, Nat.zero_le _, .inl ⟨hj, ?_⟩⟩
  · intro hm
    rcases List.mem_append.1 hm with k | k
    · exact h.full k
    · exact hp (List.mem_singleton.1 k).symm
  · rcases h.at_ with ⟨_, e⟩ | ⟨e, _⟩
    · rw [List.take_succ_eq_append_getElem hj, hc, partsP_end, e]
    · omega
theorem Scan.end_ {r : List UInt8} {o : List (List UInt8)} {p : List UInt8} (h : Scan r r.length o p) (hp : p ≠ []) (ho : o.length ≠ 16) : Scan r (r.length + 1) (o ++ [p]) [] := by
  refine ⟨?_, by have := h.few; simp; omega, Nat.zero_le _, .inr ⟨rfl, ?_⟩⟩
  · intro hm
    rcases List.mem_append.1 hm with k | k
    · exact h.full k
    · exact hp (List.mem_singleton.1 k).symm
  · rcases h.at_ with ⟨_, e⟩ | ⟨e, _⟩
    · rw [List.take_length] at e; exact e.symm
    · omega
theorem Scan.bad {r : List UInt8} {j : Nat} {o : List (List UInt8)} {p : List UInt8} (h : Scan r j o p) (hj : j ≤ r.length) (hc : ∀ h : j < r.length, r[j] = 47) (hb : p = [] ∨ o.length = 16) (hr : r ≠ []) : splitE (47 :: r) = ([], 170) := by
  have key : ∃ t, partsP r = (o ++ [p]) ++ t := by
    rcases h.at_ with ⟨_, e⟩ | ⟨e, _⟩
    · by_cases hl : j < r.length
      · refine ⟨partsP (r.drop (j + 1)), ?_⟩
        rw [← e, ← partsP_app, ← hc hl, ← List.drop_eq_getElem_cons hl, List.take_append_drop]
      · refine ⟨[], ?_⟩
        rw [List.append_nil, ← e, List.take_of_length_le (by omega)]
    · omega
  obtain ⟨t, ht⟩ := key
  have hne : (47 : UInt8) :: r ≠ [47] := by simp [hr]
  unfold splitE
  rw [if_neg hne]
  rcases hb with rfl | hb
  · rw [if_neg]
    rintro ⟨-, h2⟩
    apply h2
    show [] ∈ partsP r
    rw [ht]
    simp
  · rw [List.tail_cons]
    split
    · unfold underE
      rw [if_pos (by rw [ht]; simp; omega)]
    · rfl
theorem Scan.done {r : List UInt8} {o : List (List UInt8)} {p : List UInt8} (h : Scan r (r.length + 1) o p) (hr : r ≠ []) : splitE (47 :: r) = if o.all rightN then (o, 0) else ([], 160) := by
  have e : o = partsP r := by
    rcases h.at_ with ⟨e, _⟩ | ⟨_, e⟩
    · omega
    · exact e
  have hf := h.full
  have hw := h.few
  rw [e] at hf hw
  unfold splitE
  rw [if_neg (show (47 : UInt8) :: r ≠ [47] by simp [hr]), if_pos ⟨rfl, hf⟩]
  unfold underE
  rw [List.tail_cons, if_neg (by omega), e]
theorem splitE_other (s : List UInt8) (h : s ≠ [47]) (h2 : s.head? ≠ some 47) : splitE s = ([], 170) := by
  unfold splitE
  rw [if_neg h, if_neg fun k => h2 k.1]
theorem str_push (p s : List UInt8) (i : Nat) (hi : i < s.length) : Value.string ((⟨p.toArray⟩ : ByteArray) ++ (⟨s.toArray⟩ : ByteArray).extract i (i + 1)) = encStr (p ++ [s[i]]) := by
  unfold encStr
  congr 1
  apply ByteArray.ext
  rw [ByteArray.data_append, ByteArray.data_extract]
  apply Array.ext'
  have : (s.drop i).take 1 = [s[i]] := by rw [List.drop_eq_getElem_cons hi]; rfl
  simp [List.extract_eq_take_drop, this]
set_option maxRecDepth 100000 in
set_option maxHeartbeats 8000000 in
theorem refSplit_mid (r : List UInt8) (hr : r ≠ []) (hs : r.length + 1 ≤ 1000) (w : World) :
    Calls Tryz.prog 33 #[encStr (47 :: r)] w fun e w' => ∃ u, e = .returned (.tuple #[u, .int .i64 (splitE (47 :: r)).2]) ∧ OwnT w' w.heap.size u (splitE (47 :: r)).1 ∧ Below w.heap.size w w' := by
  obtain ⟨i0, hi, hz0, hz1, hz2⟩ := info_parts infoStr
  have HI := Lib.hid hi
  have hq : ((47 : UInt8) :: r == [47]) = false := by simp [hr]
  have HR := Lib.hid hr
  clear hi hr
  obtain ⟨s, hsr⟩ : ∃ s, (47 : UInt8) :: r = s := ⟨_, rfl⟩
  have HSR := Lib.hid hsr
  have hn : s.length = r.length + 1 := by rw [← hsr]; rfl
  have h0z : ∀ h : 0 < (⟨s.toArray⟩ : ByteArray).size, ((⟨s.toArray⟩ : ByteArray)[0]'h).toNat = 47 := fun h => by subst hsr; rfl
  have hne : (s == []) = false := by rw [← hsr]; rfl
  rw [hsr] at hq ⊢
  clear hsr
  obtain ⟨N, hN⟩ : ∃ N, r.length = N := ⟨_, rfl⟩
  rw [hN] at hn hs
  have HN := Lib.hid hN
  have HNS := Lib.hid hn
  clear hN
  go_enter Tryz.func33, Tryz.ntmps33
  go_wp2
  clear h0z hne hq
  go_loopw [4, 5, 6] (fun v pv i wr => ∃ (j : Nat) (o : List (List UInt8)) (p : List UInt8), j ≤ N + 1 ∧ i = .int .i64 ((j : Int) + 1) ∧ pv = encStr p ∧ Hid (Scan r j o p) ∧ Hid (OwnT wr w.heap.size v o) ∧ Hid (Below w.heap.size w wr)) (fun _ _ i _ => N + 2 - (intOf i).toNat)
  case atStart => exact ⟨0, [], [], Nat.zero_le _, rfl, rfl, Lib.hid (Scan.start r), Lib.hid (ownT_nil _ _), Lib.hid (Below.refl _ _)⟩
  case round =>
    obtain ⟨j, o, p, hj, rfl, rfl, HS, HO, HB⟩ := hrel
    obtain ⟨va, vc, rfl⟩ := HO.out.txs.slice
    have hpl := HS.out.short
    have hol := HS.out.few
    by_cases hjl : j ≤ N
    · by_cases hlt : j < N
      · have hjr : j < r.length := by rw [HN.out]; exact hlt
        obtain ⟨z, hz⟩ : ∃ z : Nat, r[j].toNat = z := ⟨_, rfl⟩
        have hzz : ∀ h : j + 1 < (⟨s.toArray⟩ : ByteArray).size, ((⟨s.toArray⟩ : ByteArray)[j + 1]'h).toNat = z := fun h => by
          have := HSR.out
          subst this
          exact hz
        have q1 : (j : Int) + 1 < (s.length : Int) := by omega
        have q2 : (j : Int) + 1 ≤ (s.length : Int) := by omega
        by_cases h47 : r[j] = 47
        · have hc : ((z : Int) == 47) = true := by
            rw [h47] at hz
            rw [← hz]
            rfl
          clear hz
          -- CUT1
          by_cases hp : p = []
          · have HE := Lib.hid (HS.out.bad (Nat.le_of_lt hjr) (fun _ => h47) (.inl hp) HR.out)
            rw [HSR.out] at HE
            subst hp
            go_wp2_with fail
            refine bodyPost_ret (v := .tuple #[.slice none 0 0, .int .i64 170]) (by simp [results, Tryz.results33, go_sem]) rfl ?_
            rw [HE.out]
            exact ⟨_, rfl, ownT_nil _ _, HB.out⟩
          have hpe : (p == []) = false := by simp [hp]
          by_cases ho : o.length = 16
          · have HE := Lib.hid (HS.out.bad (Nat.le_of_lt hjr) (fun _ => h47) (.inr ho) HR.out)
            rw [HSR.out] at HE
            have hoe : ((o.length : Int) == 16) = true := by simp [ho]
            have HHO := Lib.hid ho
            clear hp ho
            go_wp2_with fail
            refine bodyPost_ret (v := .tuple #[.slice none 0 0, .int .i64 170]) (by simp [results, Tryz.results33, go_sem]) rfl ?_
            rw [HE.out]
            exact ⟨_, rfl, ownT_nil _ _, HB.out⟩
          have hoe : ((o.length : Int) == 16) = false := by simp; omega
          have HS2 : Hid (Scan r (j + 1) (o ++ [p]) []) := show Scan _ _ _ _ from HS.out.cut hjr h47 hp ho
          have b2 : Below wr.heap.size wr (wr.alloc (.cells #[encStr p] 9)) := (Below.refl _ _).alloc (Nat.le_refl _) _
          have HO2 := Lib.hid (HO.out.below b2)
          have HV2 := Lib.hid (vec_newL wr #[encStr p] 9 1 1 rfl)
          have HB2 : Hid (Below w.heap.size w (wr.alloc (.cells #[encStr p] 9))) := show Below _ _ _ from HB.out.trans (b2.mono HB.out.size)
          have hs2 := HB2.out.size
          clear hp ho b2
          go_wp2_with (at_builtin; refine park ?_)
          unfold Park
          refine wpList_append_vec rfl _ _ 42 rfl 9 i0 _ 1 16 Tryz.underlying42 HI.out hz0 hz1 hz2 rfl (by decide) w.heap.size _ _ o.length 1 _ _ rfl rfl (.inr HO2.out) HV2.out (one_strs [p]) (by omega) (by omega) hs2 ?_
          rintro v3 w3 g3 b3 ⟨-, -, g6⟩
          have HO3 : Hid (OwnT w3 w.heap.size v3 (o ++ [p])) := show World.ownsRow _ _ _ _ _ _ _ by
            have := g6 HO2.out
            rw [List.length_append, List.map_append]
            exact this
          have HB3 : Hid (Below w.heap.size w w3) := show Below _ _ _ from HB2.out.trans b3
          clear g3 b3 g6 hs2
          go_wp2_with fail
          go_roundw
          case rel => exact ⟨j + 1, o ++ [p], [], by omega, by simp, rfl, HS2, HO3, HB3⟩
          case measure => simp [intOf]; omega
          -- ENDCUT1
        · have hc : ((z : Int) == 47) = false := by
            simp only [beq_eq_false_iff_ne, ne_eq]
            intro h
            apply h47
            exact UInt8.toNat_inj.1 (by rw [hz]; show z = 47; omega)
          have HS2 := Lib.hid (HS.out.char hjr rfl h47)
          have HPU := Lib.hid (str_push p s (j + 1) (by omega))
          have HCJ : Hid (s[j + 1]'(by omega) = r[j]) := show _ = _ by have := HSR.out; subst this; rfl
          clear hz h47
          go_wp2_with fail
          go_roundw
          case rel => exact ⟨j + 1, o, p ++ [r[j]], by omega, by simp, by rw [HPU.out, HCJ.out], HS2, HO, HB⟩
          case measure => simp [intOf]; omega
      · have q1 : ¬ (j : Int) + 1 < (s.length : Int) := by omega
        have q2 : (j : Int) + 1 ≤ (s.length : Int) := by omega
        -- CUT2
        by_cases hp : p = []
        · have HE := Lib.hid (HS.out.bad (by rw [HN.out]; exact hjl) (fun h => by rw [HN.out] at h; omega) (.inl hp) HR.out)
          rw [HSR.out] at HE
          subst hp
          go_wp2_with fail
          refine bodyPost_ret (v := .tuple #[.slice none 0 0, .int .i64 170]) (by simp [results, Tryz.results33, go_sem]) rfl ?_
          rw [HE.out]
          exact ⟨_, rfl, ownT_nil _ _, HB.out⟩
        have hpe : (p == []) = false := by simp [hp]
        by_cases ho : o.length = 16
        · have HE := Lib.hid (HS.out.bad (by rw [HN.out]; exact hjl) (fun h => by rw [HN.out] at h; omega) (.inr ho) HR.out)
          rw [HSR.out] at HE
          have hoe : ((o.length : Int) == 16) = true := by simp [ho]
          have HHO := Lib.hid ho
          clear hp ho
          go_wp2_with fail
          refine bodyPost_ret (v := .tuple #[.slice none 0 0, .int .i64 170]) (by simp [results, Tryz.results33, go_sem]) rfl ?_
          rw [HE.out]
          exact ⟨_, rfl, ownT_nil _ _, HB.out⟩
        have hoe : ((o.length : Int) == 16) = false := by simp; omega
        have HS2 : Hid (Scan r (j + 1) (o ++ [p]) []) := show Scan _ _ _ _ from (by have e : j = r.length := (by rw [HN.out]; omega); have h := HS.out; rw [e] at h ⊢; exact h.end_ hp ho)
        have b2 : Below wr.heap.size wr (wr.alloc (.cells #[encStr p] 9)) := (Below.refl _ _).alloc (Nat.le_refl _) _
        have HO2 := Lib.hid (HO.out.below b2)
        have HV2 := Lib.hid (vec_newL wr #[encStr p] 9 1 1 rfl)
        have HB2 : Hid (Below w.heap.size w (wr.alloc (.cells #[encStr p] 9))) := show Below _ _ _ from HB.out.trans (b2.mono HB.out.size)
        have hs2 := HB2.out.size
        clear hp ho b2
        go_wp2_with (at_builtin; refine park ?_)
        unfold Park
        refine wpList_append_vec rfl _ _ 42 rfl 9 i0 _ 1 16 Tryz.underlying42 HI.out hz0 hz1 hz2 rfl (by decide) w.heap.size _ _ o.length 1 _ _ rfl rfl (.inr HO2.out) HV2.out (one_strs [p]) (by omega) (by omega) hs2 ?_
        rintro v3 w3 g3 b3 ⟨-, -, g6⟩
        have HO3 : Hid (OwnT w3 w.heap.size v3 (o ++ [p])) := show World.ownsRow _ _ _ _ _ _ _ by
          have := g6 HO2.out
          rw [List.length_append, List.map_append]
          exact this
        have HB3 : Hid (Below w.heap.size w w3) := show Below _ _ _ from HB2.out.trans b3
        clear g3 b3 g6 hs2
        go_wp2_with fail
        go_roundw
        case rel => exact ⟨j + 1, o ++ [p], [], by omega, by simp, rfl, HS2, HO3, HB3⟩
        case measure => simp [intOf]; omega
        -- ENDCUT2
    · have q2 : ¬ (j : Int) + 1 ≤ (s.length : Int) := by omega
      have HD : Hid (splitE s = if o.all rightN then (o, 0) else ([], 160)) := show _ = _ by
        have e : j = r.length + 1 := by rw [HN.out]; omega
        have h := HS.out
        rw [e] at h
        rw [← HSR.out]
        exact h.done HR.out
      have hvs := HO.out.txs.cell
      obtain ⟨a1, cap1, b1, o1, e1, -, ha1, hc1⟩ := hvs
      simp only [Value.slice.injEq] at e1
      obtain ⟨rfl, -, rfl⟩ := e1
      have HHO := Lib.hid HO.out
      have HCC := Lib.hid hc1
      obtain ⟨n, hno⟩ : ∃ n, o.length = n := ⟨_, rfl⟩
      rw [hno] at HCC ha1 hol
      have HNO := Lib.hid hno
      clear hc1
      go_wp2_with fail
      clear hno
      go_loopw [7] (fun i wl => ∃ k : Nat, k ≤ n ∧ i = .int .i64 (k : Nat) ∧ wl = wr ∧ Hid ((o.take k).all rightN = true)) (fun i _ => n - (intOf i).toNat)
      case atStart => exact ⟨0, Nat.zero_le _, rfl, rfl, Lib.hid rfl⟩
      case round =>
        obtain ⟨k, hk, rfl, rfl, HA⟩ := hrel
        by_cases hlt : k < n
        · obtain rfl := ha1 (by omega)
          have c1 := (HCC.out (by omega)).2 k hlt
          have hn' : (k : Int) < (n : Int) := by omega
          obtain ⟨x, hx⟩ : ∃ x, x = o[k]?.getD [] := ⟨_, rfl⟩
          rw [← hx] at c1
          have HX := Lib.hid (all_take_succ (by rw [HNO.out]; exact hlt) hx rightN)
          clear hx
          go_wp2_with fail
          refine (refRight6_any x _).mono ?_
          rintro e wq ⟨rfl, rfl⟩
          cases hrx : rightN x with
          | true =>
            have HA1 : Hid ((o.take (k + 1)).all rightN = true) := show _ = _ by rw [HX.out.1, HA.out, hrx]; rfl
            clear hrx
            go_wp2_with fail
            go_roundw
            case rel => exact ⟨k + 1, by omega, by go_num, by trivial, HA1⟩
            case measure => simp [intOf]; omega
          | false =>
            have HE : Hid (splitE s = ([], 160)) := show _ = _ by
              rw [HD.out, all_false_of_take (k := k + 1) (by rw [HX.out.1, hrx]; simp)]
              rfl
            clear hrx
            go_wp2_with fail
            refine bodyPost_ret (v := .tuple #[.slice none 0 0, .int .i64 160]) (by simp [results, Tryz.results33, go_sem]) rfl ?_
            rw [HE.out]
            exact ⟨_, rfl, ownT_nil _ _, HB.out⟩
        · obtain rfl : k = n := by omega
          have HE : Hid (splitE s = (o, 0)) := show _ = _ by
            have := HA.out
            rw [List.take_of_length_le (by rw [HNO.out]; exact Nat.le_refl _)] at this
            rw [HD.out, this]
            rfl
          go_wp2_with fail
          refine bodyPost_ret (v := .tuple #[.slice va k vc, .int .i64 0]) (by simp [results, Tryz.results33, go_sem]) rfl ?_
          rw [HE.out]
          refine ⟨_, rfl, ?_, HB.out⟩
          have h := HHO.out
          rw [HNO.out] at h
          exact h
set_option maxRecDepth 100000 in
set_option maxHeartbeats 4000000 in
theorem refSplit_any (s : List UInt8) (hs : s.length ≤ 1000) (w : World) :
    Calls Tryz.prog 33 #[encStr s] w fun e w' => ∃ u, e = .returned (.tuple #[u, .int .i64 (splitE s).2]) ∧ OwnT w' w.heap.size u (splitE s).1 ∧ Below w.heap.size w w' := by
  by_cases h0 : s = [47]
  · subst h0
    go_enter Tryz.func33, Tryz.ntmps33
    go_wp2
    refine bodyPost_ret (v := .tuple #[.slice none 0 0, .int .i64 0]) (by simp [results, Tryz.results33, go_sem]) rfl ?_
    exact ⟨_, rfl, ownT_nil _ _, Below.refl _ _⟩
  · have hq : (s == [47]) = false := by simp [h0]
    by_cases h1 : s.head? = some 47
    · obtain ⟨r, rfl⟩ : ∃ r, s = 47 :: r := by
        cases s with
        | nil => cases h1
        | cons c r => exact ⟨r, by rw [show c = 47 by simpa using h1]⟩
      have hr : r ≠ [] := fun e => h0 (by rw [e])
      exact refSplit_mid r hr (by simpa using hs) w
    · have HE := Lib.hid (splitE_other s h0 h1)
      cases s with
      | nil =>
        go_enter Tryz.func33, Tryz.ntmps33
        go_wp2
        refine bodyPost_ret (v := .tuple #[.slice none 0 0, .int .i64 170]) (by simp [results, Tryz.results33, go_sem]) rfl ?_
        rw [HE.out]
        exact ⟨_, rfl, ownT_nil _ _, Below.refl _ _⟩
      | cons c r =>
        have hc : c ≠ 47 := fun e => h1 (by rw [e]; rfl)
        obtain ⟨z, hz⟩ : ∃ z : Nat, c.toNat = z := ⟨_, rfl⟩
        have hz47 : ((z : Int) == 47) = false := by
          simp only [beq_eq_false_iff_ne, ne_eq]
          intro h
          apply hc
          have : c.toNat = 47 := by omega
          exact UInt8.toNat_inj.1 (by rw [this]; rfl)
        have hzz : ∀ h : 0 < (⟨(c :: r).toArray⟩ : ByteArray).size, ((⟨(c :: r).toArray⟩ : ByteArray)[0]'h).toNat = z := fun _ => hz
        clear hc h1 h0
        go_enter Tryz.func33, Tryz.ntmps33
        go_wp2
        refine bodyPost_ret (v := .tuple #[.slice none 0 0, .int .i64 170]) (by simp [results, Tryz.results33, go_sem]) rfl ?_
        rw [HE.out]
        exact ⟨_, rfl, ownT_nil _ _, Below.refl _ _⟩
end Go.Proofs.YtgoemaecdolioaaGreatDoor
