/-
  Texts MdJ to MdK, as one.
-/
import Derived.Test.YtgoemaecdolioaaGreatDoorMo29
/-
  model: a deed that changes something, and its result.
-/
namespace Go.Proofs.YtgoemaecdolioaaGreatDoor
open Go.RowKit Go.Shelf
attribute [local go_sem] Oper.semAt_some

theorem fillW_any {W : World} {Rb : Nat} {X : Array Value} (h : Blk W Rb 44 X) {v : Value} (hv : X[0]? = some v) (c : Int) : Calls Tryz.prog 86 #[.pointer (some ⟨Rb, 0, none⟩), .int .i64 c] W fun e w' => (∃ u, e = .returned u) ∧ w' = W.setCell ⟨Rb, 0, none⟩ (.int .i64 c) := by
  have c0 := h.cell hv
  have f0 := h.frozen 0
  clear h hv
  go_enter Tryz.func86, Tryz.ntmps86
  go_wp2_with fail
  first
  | go_end0
  | refine bodyPost_ret (results_none rfl _ _ _) rfl ?_
  exact ⟨⟨_, rfl⟩, rfl⟩
theorem zeroRes_noU8 {W : World} {Rb : Nat} (h : Blk W Rb 44 zeroRes) : NoU8 W Rb := fun off z e => by
  have := cell_of_row W Rb off _ 44 (0, 0) h
  rw [this] at e
  unfold zeroRes at e
  rcases off with _ | _ | _ | _ | _ | _ | off <;> simp at e
theorem cell_turn {q : Nat → Prop} {W W' : World} (ht : Turn q W W') {b o : Nat} {v : Value} (hb : b < W.heap.size) (hn : ¬ q b) (hc : W.cell? ⟨b, o, none⟩ = some v) : W'.cell? ⟨b, o, none⟩ = some v := by
  have h := ht.block b hb hn
  rw [← hc]
  simp only [World.cell?, h]
def resE (c : Int) : Array Value := #[.int .i64 c, .int .i64 0, .int .i64 0, .int .i64 0, .slice none 0 0, .slice none 0 0]
/-- What a deed leaves, its result put where Rb is. -/
def FillR (lo T r m : Nat) (G : Gr) (R : RT × Int) (Q : Array Value → World → Prop) (Rb : Nat) (w : World) (e : Ending) (w' : World) : Prop :=
  (∃ G', TreeR lo w' T r G' (m + 1) R.1 ∧ Turn (fun j => Foot G j ∨ j = Rb ∨ w.heap.size ≤ j) w w' ∧ ∀ j, Foot G' j → Foot G j ∨ w.heap.size ≤ j) ∧
  ((∃ X u, e = .returned u ∧ Blk w' Rb 44 X ∧ Q X w') ∨ (R.2 ≠ 0 ∧ e = .panicked (refuseM R.2)))
set_option maxRecDepth 100000 in
set_option maxHeartbeats 8000000 in
theorem fillE_any {lo T r m : Nat} {G : Gr} {t : RT} {w : World} (h : TreeR lo w T r G m t) (x : OpX) {ua : Option Addr} {un uc : Nat} (hu : x.ub = .slice ua un uc) {R : RT × Int} {f1 : Nat} (he : Enters Tryz.prog f1)
    (hf : ∀ W, Below w.heap.size w W → Calls Tryz.prog f1 #[.agg #[.pointer (some ⟨T, 0, none⟩)], .agg (opA x)] W (DeedR lo T r m G R W)) {b Rb : Nat}
    (hb1 : Boxed w b 155 (fnV f1)) (hb2 : Boxed w (b + 1) 142 (fnV 86)) (hr : Blk w Rb 44 zeroRes) (n1 : ¬ Foot G b) (n2 : ¬ Foot G (b + 1)) (n3 : ¬ Foot G Rb) (nT : Rb ≠ T) (hl : lo ≤ Rb) :
    Calls Tryz.prog 126 #[.agg #[.pointer (some ⟨T, 0, none⟩)], .agg (opA x), .pointer (some ⟨Rb, 0, none⟩), .pointer (some ⟨b + 1, 0, none⟩), .pointer (some ⟨b, 0, none⟩)] w (FillR lo T r m G R (fun X _ => X = resE R.2) Rb w) := by
  obtain ⟨W2, hW2, hb, hA⟩ := argsAt_new w T x
  have HF := Lib.hid hf
  have HB := Lib.hid hb
  have HFW := Lib.hid (fun W Rb X (h : Blk W Rb 44 X) v (hv : X[0]? = some v) c => fillW_any h hv c)
  have e0 : ∀ args W, (callFunc f1 args).run Tryz.prog W = .ok (.enter f1 args) W := he
  have hs2 : w.heap.size ≤ W2.heap.size := hb.size
  have HRB : Hid (Blk w Rb 44 zeroRes ∧ ¬ Foot G Rb ∧ Rb ≠ T ∧ lo ≤ Rb) := show _ ∧ _ from ⟨hr, n3, nT, hl⟩
  have hft : ∀ j, Foot G j → j < w.heap.size := by
    rintro j ⟨c, y, hy, hj⟩
    rcases hj with rfl | rfl
    · exact (h.tree.nodes _ _ hy).blk.lt
    · exact (h.tree.nodes _ _ hy).names.lt
  have hs3 : w.heap.size + 1 < W2.heap.size := by
    rw [← hW2, World.size_alloc, World.size_alloc]
    omega
  have HA : Hid (∀ W W', Below W2.heap.size W2 W → Turn (fun j => Foot G j ∨ W.heap.size ≤ j) W W' → (W'.cell? ⟨w.heap.size, 0, none⟩ = some (.pointer (some ⟨T, 0, none⟩)) ∧ W'.cell? ⟨w.heap.size + 1, 0, none⟩ = some (.int .i64 x.kind) ∧ W'.cell? ⟨w.heap.size + 1, 1, none⟩ = some (encStr x.path) ∧ W'.cell? ⟨w.heap.size + 1, 2, none⟩ = some (encStr x.other) ∧ W'.cell? ⟨w.heap.size + 1, 3, none⟩ = some (.int .i64 x.place) ∧ W'.cell? ⟨w.heap.size + 1, 4, none⟩ = some (.int .i64 x.many) ∧ W'.cell? ⟨w.heap.size + 1, 5, none⟩ = some x.ub ∧ W'.cell? ⟨b, 0, none⟩ = some (fnV f1) ∧ W'.cell? ⟨b + 1, 0, none⟩ = some (fnV 86))) := show ∀ W W', _ from fun W W' hW ht => by
    have hw : Below w.heap.size w W := hb.trans (hW.mono hs2)
    have g := hW.size
    have gb := hb1.lt
    have gb2 := hb2.lt
    have k : ∀ j, w.heap.size ≤ j → j < W2.heap.size → ¬ (Foot G j ∨ W.heap.size ≤ j) := fun j h1 h2 h3 => by
      rcases h3 with h3 | h3
      · have := hft j h3; omega
      · omega
    have l : ∀ j, j < w.heap.size → ¬ Foot G j → ¬ (Foot G j ∨ W.heap.size ≤ j) := fun j h1 h2 h3 => by
      rcases h3 with h3 | h3
      · exact h2 h3
      · omega
    have a := hA W hW
    exact ⟨cell_turn ht (by omega) (k _ (by omega) (by omega)) a.w, cell_turn ht (by omega) (k _ (by omega) (by omega)) a.c0, cell_turn ht (by omega) (k _ (by omega) (by omega)) a.c1, cell_turn ht (by omega) (k _ (by omega) (by omega)) a.c2, cell_turn ht (by omega) (k _ (by omega) (by omega)) a.c3, cell_turn ht (by omega) (k _ (by omega) (by omega)) a.c4, cell_turn ht (by omega) (k _ (by omega) (by omega)) a.c5, cell_turn ht (by omega) (l _ gb n1) (boxed_low hb1 hw).cell, cell_turn ht (by omega) (l _ gb2 n2) (boxed_low hb2 hw).cell⟩
  obtain ⟨p, hp2⟩ : ∃ p, encStr x.path = p := ⟨_, rfl⟩
  obtain ⟨q, hq⟩ : ∃ p, encStr x.other = p := ⟨_, rfl⟩
  obtain ⟨pl, hpl⟩ : ∃ y, x.place = y := ⟨_, rfl⟩
  obtain ⟨mn, hmn⟩ : ∃ y, x.many = y := ⟨_, rfl⟩
  obtain ⟨kd, hkd⟩ : ∃ y, x.kind = y := ⟨_, rfl⟩
  unfold opA at hW2 HF ⊢
  rw [hu, hp2, hq, hpl, hmn, hkd] at HF
  rw [hu, hp2, hq, hpl, hmn, hkd] at HA
  rw [hu, hp2, hq, hpl, hmn, hkd] at hW2 ⊢
  clear h hb hA hp2 hq hpl hmn hkd hu he hf hb1 hb2 hr n1 n2 n3 nT hl hs2 hs3 hft
  go_enter Tryz.func126, Tryz.ntmps126
  go_wp2_with fail
  clear hW2
  have hR := HA.out _ _ (Below.refl _ W2).drew (Turn.refl _ _)
  refine wp_region_M 6 (fun V : World => V.cell? ⟨w.heap.size, 0, none⟩ = some (.pointer (some ⟨T, 0, none⟩)) ∧ V.cell? ⟨w.heap.size + 1, 0, none⟩ = some (.int .i64 kd) ∧ V.cell? ⟨w.heap.size + 1, 1, none⟩ = some p ∧ V.cell? ⟨w.heap.size + 1, 2, none⟩ = some q ∧ V.cell? ⟨w.heap.size + 1, 3, none⟩ = some (.int .i64 pl) ∧ V.cell? ⟨w.heap.size + 1, 4, none⟩ = some (.int .i64 mn) ∧ V.cell? ⟨w.heap.size + 1, 5, none⟩ = some (.slice ua un uc) ∧ V.cell? ⟨b, 0, none⟩ = some (fnV f1) ∧ V.cell? ⟨b + 1, 0, none⟩ = some (fnV 86)) (by kernel_rfl) ?_
  (refine wpAnyM_take2 8 (i := 1) (v := ?_) rfl (by kernel_rfl) (by kernel_rfl) (fun _ _ _ h => h) (Or.inl ⟨by rfl, ?_⟩) hR ?_; rotate_left; (focus (intro w hSw; (try dsimp only at hSw); go_simp; (try with_reducible rfl))); (try simp only [put_laws])); (refine wpAnyM_take2 8 (i := 0) (v := ?_) rfl (by kernel_rfl) (by kernel_rfl) (fun _ _ _ h => h) (Or.inl ⟨by rfl, ?_⟩) hR ?_; rotate_left; (focus (intro w hSw; (try dsimp only at hSw); go_simp; (try with_reducible rfl))); (try simp only [put_laws])); (refine wpAnyM_take2 8 (i := 2) (v := ?_) rfl (by kernel_rfl) (by kernel_rfl) (fun _ _ _ h => h) (Or.inl ⟨by rfl, ?_⟩) hR ?_; rotate_left; (focus (intro w hSw; (try dsimp only at hSw); go_simp; (try with_reducible rfl))); (try simp only [put_laws])); (refine wpAnyM_take2 8 (i := 3) (v := ?_) rfl (by kernel_rfl) (by kernel_rfl) (fun _ _ _ h => h) (Or.inl ⟨by rfl, ?_⟩) hR ?_; rotate_left; (focus (intro w hSw; (try dsimp only at hSw); go_simp; (try with_reducible rfl))); (try simp only [put_laws])); (refine wpAnyM_take2 8 (i := 4) (v := ?_) rfl (by kernel_rfl) (by kernel_rfl) (fun _ _ _ h => h) (Or.inl ⟨by rfl, ?_⟩) hR ?_; rotate_left; (focus (intro w hSw; (try dsimp only at hSw); go_simp; (try with_reducible rfl))); (try simp only [put_laws]))
  have HD : Hid (Below W2.heap.size W2 W2.drew) := show Below _ _ _ from (Below.refl _ W2).drew
  obtain ⟨V0, hV0⟩ : ∃ V0, W2.drew = V0 := ⟨_, rfl⟩
  rw [hV0] at hR HD ⊢
  clear hV0
  have HV0 : Hid (Below w.heap.size w V0) := show Below _ _ _ from HB.out.trans (HD.out.mono HB.out.size)
  (refine wpAnyM_one (i := 5) rfl (by kernel_rfl) (fun K hK => ?_); rw [if_pos (by rfl)]; (try simp only [elem_laws]))
  go_simp
  refine (HF.out V0 HV0.out).mono ?_
  rintro e w1 ⟨⟨G', g1, g2, g3⟩, rfl | ⟨hc, rfl⟩⟩
  rotate_left
  · exact ⟨rfl, ⟨G', g1, (turn_behind HV0.out g2).mono (fun j hj => hj.elim .inl fun h => .inr (.inr h)), foot_behind HV0.out g3⟩, .inr ⟨hc, rfl⟩⟩
  have hR' := HA.out _ _ HD.out g2
  refine hK _ _ (fun _ => hR') ?_
  obtain ⟨hr0, n3, nT, hl⟩ := HRB.out
  have ht1 := turn_behind HV0.out g2
  have hr1 : Blk w1 Rb 44 zeroRes := hr0.turn ht1 (fun h => h.elim n3 fun h => by have := hr0.lt; omega)
  have nf1 : ¬ Foot G' Rb := fun h => (foot_behind HV0.out g3 Rb h).elim n3 fun h => by have := hr0.lt; omega
  have ht2 : Turn (fun j => j = Rb) w1 (w1.setCell ⟨Rb, 0, none⟩ (.int .i64 R.2)) := Turn.setCell _ _ rfl
  have g4 : TreeR lo (w1.setCell ⟨Rb, 0, none⟩ (.int .i64 R.2)) T r G' (m + 1) R.1 := g1.turn ht2 (fun j hj _ => by rw [hj]; exact zeroRes_noU8 hr1) (fun j hj => by rw [hj]; exact nf1) (fun e => nT e.symm) (fun j hj => by rw [hj]; exact hl)
  have HG : Hid (∃ G', TreeR lo (w1.setCell ⟨Rb, 0, none⟩ (.int .i64 R.2)) T r G' (m + 1) R.1 ∧ Turn (fun j => Foot G j ∨ j = Rb ∨ w.heap.size ≤ j) w (w1.setCell ⟨Rb, 0, none⟩ (.int .i64 R.2)) ∧ ∀ j, Foot G' j → Foot G j ∨ w.heap.size ≤ j) := show ∃ _, _ from ⟨G', g4, (ht1.mono fun j hj => hj.elim .inl fun h => .inr (.inr h)).trans (ht2.mono fun j hj => .inr (.inl hj)), foot_behind HV0.out g3⟩
  have HX : Hid (Blk (w1.setCell ⟨Rb, 0, none⟩ (.int .i64 R.2)) Rb 44 (resE R.2)) := show Blk _ _ _ _ from hr1.set 0 _
  have HR1 := Lib.hid hr1
  clear hK K hR g1 g2 g3 g4 hr0 n3 nT hl ht1 ht2 hr1 nf1
  have hR := hR'
  clear hR'
  (try simp only [put_laws])
  (refine wpAnyM_last rfl (by kernel_rfl) (fun K hK => ?_); rw [if_pos (by rfl)]; (try simp only [elem_laws]))
  go_simp
  refine (HFW.out _ _ _ HR1.out (.int .i64 0) rfl R.2).mono ?_
  rintro e w2 ⟨⟨u, rfl⟩, rfl⟩
  refine hK _ _ ?_
  clear hK K hR
  (try simp only [put_laws])
  refine wpAnyM_done (by kernel_rfl) ?_ _
  go_wp2_with fail
  first
  | go_end0
  | refine bodyPost_ret (results_none rfl _ _ _) rfl ?_
  exact ⟨HG.out, .inl ⟨_, _, rfl, HX.out, rfl⟩⟩
end Go.Proofs.YtgoemaecdolioaaGreatDoor

/-
  model: a deed that asks, and its result. (gen_mdk.py)
-/
namespace Go.Proofs.YtgoemaecdolioaaGreatDoor
open Go.RowKit Go.Shelf
attribute [local go_sem] Oper.semAt_some

theorem zeroRes_noStr {W : World} {Rb : Nat} (h : Blk W Rb 44 zeroRes) : NoStr W Rb := fun off z e => by
  have := cell_of_row W Rb off _ 44 (0, 0) h
  rw [this] at e
  unfold zeroRes at e
  rcases off with _ | _ | _ | _ | _ | _ | off <;> simp at e
theorem fillWS_any {W : World} {Rb : Nat} (h : Blk W Rb 44 zeroRes) (a : Option Addr) (n c : Nat) : Calls Tryz.prog 92 #[.pointer (some ⟨Rb, 0, none⟩), .slice a n c] W fun e w' => (∃ u, e = .returned u) ∧ w' = W.setCell ⟨Rb, 4, none⟩ (.slice a n c) := by
  have c0 : W.cell? ⟨Rb, 4, none⟩ = some (.slice none 0 0) := h.cell rfl
  have f0 := h.frozen 4
  clear h
  go_enter Tryz.func92, Tryz.ntmps92
  go_wp2_with fail
  first
  | go_end0
  | refine bodyPost_ret (results_none rfl _ _ _) rfl ?_
  exact ⟨⟨_, rfl⟩, rfl⟩
set_option maxRecDepth 100000 in
set_option maxHeartbeats 8000000 in
theorem fillS_any {lo T r m : Nat} {G : Gr} {t : RT} {w : World} (h : TreeR lo w T r G m t) (x : OpX) {ua : Option Addr} {un uc : Nat} (hu : x.ub = .slice ua un uc) {cc : Int} {P : Value → World → Prop} {f1 : Nat} (he : Enters Tryz.prog f1)
    (hf : ∀ W, Below w.heap.size w W → Calls Tryz.prog f1 #[.agg #[.pointer (some ⟨T, 0, none⟩)], .agg (opA x)] W (AskM cc P W)) {b Rb : Nat}
    (hb1 : Boxed w b 147 (fnV f1)) (hb2 : Boxed w (b + 1) 149 (fnV 92)) (hr : Blk w Rb 44 zeroRes) (n1 : ¬ Foot G b) (n2 : ¬ Foot G (b + 1)) (n3 : ¬ Foot G Rb) (nT : Rb ≠ T) (hl : lo ≤ Rb) (hPv : ∀ v W, P v W → ∃ a n c, v = .slice a n c) (hP : ∀ v W, Blk W Rb 44 zeroRes → P v W → P v (W.setCell ⟨Rb, 4, none⟩ v)) :
    Calls Tryz.prog 123 #[.agg #[.pointer (some ⟨T, 0, none⟩)], .agg (opA x), .pointer (some ⟨Rb, 0, none⟩), .pointer (some ⟨b + 1, 0, none⟩), .pointer (some ⟨b, 0, none⟩)] w (FillR lo T r m G (t, cc) (fun X W => cc = 0 ∧ ∃ v, X = zeroRes.setIfInBounds 4 v ∧ P v W) Rb w) := by
  obtain ⟨W2, hW2, hb, hA⟩ := argsAt_new w T x
  have HF := Lib.hid hf
  have HB := Lib.hid hb
  have HFW := Lib.hid (fun W Rb (h : Blk W Rb 44 zeroRes) a n c => fillWS_any h a n c)
  have HTG := Lib.hid (fun W (hW : Below w.heap.size w W) => h.below hW)
  have HPP : Hid ((∀ v W, P v W → ∃ a n c, v = .slice a n c) ∧ (∀ v W, Blk W Rb 44 zeroRes → P v W → P v (W.setCell ⟨Rb, 4, none⟩ v))) := show _ ∧ _ from ⟨hPv, hP⟩
  have e0 : ∀ args W, (callFunc f1 args).run Tryz.prog W = .ok (.enter f1 args) W := he
  have hs2 : w.heap.size ≤ W2.heap.size := hb.size
  have HRB : Hid (Blk w Rb 44 zeroRes ∧ ¬ Foot G Rb ∧ Rb ≠ T ∧ lo ≤ Rb) := show _ ∧ _ from ⟨hr, n3, nT, hl⟩
  have hft : ∀ j, Foot G j → j < w.heap.size := by
    rintro j ⟨c, y, hy, hj⟩
    rcases hj with rfl | rfl
    · exact (h.tree.nodes _ _ hy).blk.lt
    · exact (h.tree.nodes _ _ hy).names.lt
  have hs3 : w.heap.size + 1 < W2.heap.size := by
    rw [← hW2, World.size_alloc, World.size_alloc]
    omega
  have HA : Hid (∀ W W', Below W2.heap.size W2 W → Turn (fun j => Foot G j ∨ W.heap.size ≤ j) W W' → (W'.cell? ⟨w.heap.size, 0, none⟩ = some (.pointer (some ⟨T, 0, none⟩)) ∧ W'.cell? ⟨w.heap.size + 1, 0, none⟩ = some (.int .i64 x.kind) ∧ W'.cell? ⟨w.heap.size + 1, 1, none⟩ = some (encStr x.path) ∧ W'.cell? ⟨w.heap.size + 1, 2, none⟩ = some (encStr x.other) ∧ W'.cell? ⟨w.heap.size + 1, 3, none⟩ = some (.int .i64 x.place) ∧ W'.cell? ⟨w.heap.size + 1, 4, none⟩ = some (.int .i64 x.many) ∧ W'.cell? ⟨w.heap.size + 1, 5, none⟩ = some x.ub ∧ W'.cell? ⟨b, 0, none⟩ = some (fnV f1) ∧ W'.cell? ⟨b + 1, 0, none⟩ = some (fnV 92))) := show ∀ W W', _ from fun W W' hW ht => by
    have hw : Below w.heap.size w W := hb.trans (hW.mono hs2)
    have g := hW.size
    have gb := hb1.lt
    have gb2 := hb2.lt
    have k : ∀ j, w.heap.size ≤ j → j < W2.heap.size → ¬ (Foot G j ∨ W.heap.size ≤ j) := fun j h1 h2 h3 => by
      rcases h3 with h3 | h3
      · have := hft j h3; omega
      · omega
    have l : ∀ j, j < w.heap.size → ¬ Foot G j → ¬ (Foot G j ∨ W.heap.size ≤ j) := fun j h1 h2 h3 => by
      rcases h3 with h3 | h3
      · exact h2 h3
      · omega
    have a := hA W hW
    exact ⟨cell_turn ht (by omega) (k _ (by omega) (by omega)) a.w, cell_turn ht (by omega) (k _ (by omega) (by omega)) a.c0, cell_turn ht (by omega) (k _ (by omega) (by omega)) a.c1, cell_turn ht (by omega) (k _ (by omega) (by omega)) a.c2, cell_turn ht (by omega) (k _ (by omega) (by omega)) a.c3, cell_turn ht (by omega) (k _ (by omega) (by omega)) a.c4, cell_turn ht (by omega) (k _ (by omega) (by omega)) a.c5, cell_turn ht (by omega) (l _ gb n1) (boxed_low hb1 hw).cell, cell_turn ht (by omega) (l _ gb2 n2) (boxed_low hb2 hw).cell⟩
  obtain ⟨p, hp2⟩ : ∃ p, encStr x.path = p := ⟨_, rfl⟩
  obtain ⟨q, hq⟩ : ∃ p, encStr x.other = p := ⟨_, rfl⟩
  obtain ⟨pl, hpl⟩ : ∃ y, x.place = y := ⟨_, rfl⟩
  obtain ⟨mn, hmn⟩ : ∃ y, x.many = y := ⟨_, rfl⟩
  obtain ⟨kd, hkd⟩ : ∃ y, x.kind = y := ⟨_, rfl⟩
  unfold opA at hW2 HF ⊢
  rw [hu, hp2, hq, hpl, hmn, hkd] at HF
  rw [hu, hp2, hq, hpl, hmn, hkd] at HA
  rw [hu, hp2, hq, hpl, hmn, hkd] at hW2 ⊢
  clear h hb hA hp2 hq hpl hmn hkd hu he hf hb1 hb2 hr n1 n2 n3 nT hl hs2 hs3 hft hPv hP
  go_enter Tryz.func123, Tryz.ntmps123
  go_wp2_with fail
  clear hW2
  have hR := HA.out _ _ (Below.refl _ W2).drew (Turn.refl _ _)
  refine wp_region_M 6 (fun V : World => V.cell? ⟨w.heap.size, 0, none⟩ = some (.pointer (some ⟨T, 0, none⟩)) ∧ V.cell? ⟨w.heap.size + 1, 0, none⟩ = some (.int .i64 kd) ∧ V.cell? ⟨w.heap.size + 1, 1, none⟩ = some p ∧ V.cell? ⟨w.heap.size + 1, 2, none⟩ = some q ∧ V.cell? ⟨w.heap.size + 1, 3, none⟩ = some (.int .i64 pl) ∧ V.cell? ⟨w.heap.size + 1, 4, none⟩ = some (.int .i64 mn) ∧ V.cell? ⟨w.heap.size + 1, 5, none⟩ = some (.slice ua un uc) ∧ V.cell? ⟨b, 0, none⟩ = some (fnV f1) ∧ V.cell? ⟨b + 1, 0, none⟩ = some (fnV 92)) (by kernel_rfl) ?_
  (refine wpAnyM_take2 8 (i := 1) (v := ?_) rfl (by kernel_rfl) (by kernel_rfl) (fun _ _ _ h => h) (Or.inl ⟨by rfl, ?_⟩) hR ?_; rotate_left; (focus (intro w hSw; (try dsimp only at hSw); go_simp; (try with_reducible rfl))); (try simp only [put_laws])); (refine wpAnyM_take2 8 (i := 0) (v := ?_) rfl (by kernel_rfl) (by kernel_rfl) (fun _ _ _ h => h) (Or.inl ⟨by rfl, ?_⟩) hR ?_; rotate_left; (focus (intro w hSw; (try dsimp only at hSw); go_simp; (try with_reducible rfl))); (try simp only [put_laws])); (refine wpAnyM_take2 8 (i := 2) (v := ?_) rfl (by kernel_rfl) (by kernel_rfl) (fun _ _ _ h => h) (Or.inl ⟨by rfl, ?_⟩) hR ?_; rotate_left; (focus (intro w hSw; (try dsimp only at hSw); go_simp; (try with_reducible rfl))); (try simp only [put_laws])); (refine wpAnyM_take2 8 (i := 3) (v := ?_) rfl (by kernel_rfl) (by kernel_rfl) (fun _ _ _ h => h) (Or.inl ⟨by rfl, ?_⟩) hR ?_; rotate_left; (focus (intro w hSw; (try dsimp only at hSw); go_simp; (try with_reducible rfl))); (try simp only [put_laws])); (refine wpAnyM_take2 8 (i := 4) (v := ?_) rfl (by kernel_rfl) (by kernel_rfl) (fun _ _ _ h => h) (Or.inl ⟨by rfl, ?_⟩) hR ?_; rotate_left; (focus (intro w hSw; (try dsimp only at hSw); go_simp; (try with_reducible rfl))); (try simp only [put_laws]))
  have HD : Hid (Below W2.heap.size W2 W2.drew) := show Below _ _ _ from (Below.refl _ W2).drew
  obtain ⟨V0, hV0⟩ : ∃ V0, W2.drew = V0 := ⟨_, rfl⟩
  rw [hV0] at hR HD ⊢
  clear hV0
  have HV0 : Hid (Below w.heap.size w V0) := show Below _ _ _ from HB.out.trans (HD.out.mono HB.out.size)
  (refine wpAnyM_one (i := 5) rfl (by kernel_rfl) (fun K hK => ?_); rw [if_pos (by rfl)]; (try simp only [elem_laws]))
  go_simp
  refine (HF.out V0 HV0.out).mono ?_
  rintro e w1 ⟨hbb, ⟨rfl, v, rfl, hv⟩ | ⟨hc, rfl⟩⟩
  rotate_left
  · have hw1 := HV0.out.trans (hbb.mono HV0.out.size)
    exact ⟨rfl, ⟨G, (HTG.out _ hw1).mono (Nat.le_succ m), Turn.of_below hw1 (Nat.le_refl _), fun j hj => .inl hj⟩, .inr ⟨hc, rfl⟩⟩
  obtain ⟨va, vn, vc, rfl⟩ := HPP.out.1 v w1 hv
  have hR' := HA.out _ _ (HD.out.trans (hbb.mono HD.out.size)) (Turn.refl _ _)
  refine hK _ _ (fun _ => hR') ?_
  obtain ⟨hr0, n3, nT, hl⟩ := HRB.out
  have hw1 := HV0.out.trans (hbb.mono HV0.out.size)
  have hr1 : Blk w1 Rb 44 zeroRes := hr0.below hw1 hr0.lt
  have ht2 : Turn (fun j => j = Rb) w1 (w1.setCell ⟨Rb, 4, none⟩ (.slice va vn vc)) := Turn.setCell _ _ rfl
  have g4 : TreeR lo (w1.setCell ⟨Rb, 4, none⟩ (.slice va vn vc)) T r G m t := (HTG.out _ hw1).turn ht2 (fun j hj _ => by rw [hj]; exact zeroRes_noU8 hr1) (fun j hj => by rw [hj]; exact n3) (fun e => nT e.symm) (fun j hj => by rw [hj]; exact hl)
  have HG : Hid (∃ G', TreeR lo (w1.setCell ⟨Rb, 4, none⟩ (.slice va vn vc)) T r G' (m + 1) t ∧ Turn (fun j => Foot G j ∨ j = Rb ∨ w.heap.size ≤ j) w (w1.setCell ⟨Rb, 4, none⟩ (.slice va vn vc)) ∧ ∀ j, Foot G' j → Foot G j ∨ w.heap.size ≤ j) := show ∃ _, _ from ⟨G, g4.mono (Nat.le_succ m), (Turn.of_below hw1 (Nat.le_refl _)).trans (ht2.mono fun j hj => .inr (.inl hj)), fun j hj => .inl hj⟩
  have HX : Hid (Blk (w1.setCell ⟨Rb, 4, none⟩ (.slice va vn vc)) Rb 44 (zeroRes.setIfInBounds 4 (.slice va vn vc)) ∧ P (.slice va vn vc) (w1.setCell ⟨Rb, 4, none⟩ (.slice va vn vc))) := show _ ∧ _ from ⟨hr1.set 4 _, HPP.out.2 _ _ hr1 hv⟩
  have HR1 := Lib.hid hr1
  clear hK K hR g4 hr0 n3 nT hl ht2 hr1 hw1 hbb hv
  have hR := hR'
  clear hR'
  (try simp only [put_laws])
  (refine wpAnyM_last rfl (by kernel_rfl) (fun K hK => ?_); rw [if_pos (by rfl)]; (try simp only [elem_laws]))
  go_simp
  refine (HFW.out _ _ HR1.out _ _ _).mono ?_
  rintro e w2 ⟨⟨u, rfl⟩, rfl⟩
  refine hK _ _ ?_
  clear hK K hR
  (try simp only [put_laws])
  refine wpAnyM_done (by kernel_rfl) ?_ _
  go_wp2_with fail
  first
  | go_end0
  | refine bodyPost_ret (results_none rfl _ _ _) rfl ?_
  exact ⟨HG.out, .inl ⟨_, _, rfl, HX.out.1, _, rfl, HX.out.2⟩⟩
theorem fillWB_any {W : World} {Rb : Nat} (h : Blk W Rb 44 zeroRes) (a : Option Addr) (n c : Nat) : Calls Tryz.prog 95 #[.pointer (some ⟨Rb, 0, none⟩), .slice a n c] W fun e w' => (∃ u, e = .returned u) ∧ w' = W.setCell ⟨Rb, 5, none⟩ (.slice a n c) := by
  have c0 : W.cell? ⟨Rb, 5, none⟩ = some (.slice none 0 0) := h.cell rfl
  have f0 := h.frozen 5
  clear h
  go_enter Tryz.func95, Tryz.ntmps95
  go_wp2_with fail
  first
  | go_end0
  | refine bodyPost_ret (results_none rfl _ _ _) rfl ?_
  exact ⟨⟨_, rfl⟩, rfl⟩
set_option maxRecDepth 100000 in
set_option maxHeartbeats 8000000 in
theorem fillB_any {lo T r m : Nat} {G : Gr} {t : RT} {w : World} (h : TreeR lo w T r G m t) (x : OpX) {ua : Option Addr} {un uc : Nat} (hu : x.ub = .slice ua un uc) {cc : Int} {P : Value → World → Prop} {f1 : Nat} (he : Enters Tryz.prog f1)
    (hf : ∀ W, Below w.heap.size w W → Calls Tryz.prog f1 #[.agg #[.pointer (some ⟨T, 0, none⟩)], .agg (opA x)] W (AskM cc P W)) {b Rb : Nat}
    (hb1 : Boxed w b 151 (fnV f1)) (hb2 : Boxed w (b + 1) 153 (fnV 95)) (hr : Blk w Rb 44 zeroRes) (n1 : ¬ Foot G b) (n2 : ¬ Foot G (b + 1)) (n3 : ¬ Foot G Rb) (nT : Rb ≠ T) (hl : lo ≤ Rb) (hPv : ∀ v W, P v W → ∃ a n c, v = .slice a n c) (hP : ∀ v W, Blk W Rb 44 zeroRes → P v W → P v (W.setCell ⟨Rb, 5, none⟩ v)) :
    Calls Tryz.prog 124 #[.agg #[.pointer (some ⟨T, 0, none⟩)], .agg (opA x), .pointer (some ⟨Rb, 0, none⟩), .pointer (some ⟨b + 1, 0, none⟩), .pointer (some ⟨b, 0, none⟩)] w (FillR lo T r m G (t, cc) (fun X W => cc = 0 ∧ ∃ v, X = zeroRes.setIfInBounds 5 v ∧ P v W) Rb w) := by
  obtain ⟨W2, hW2, hb, hA⟩ := argsAt_new w T x
  have HF := Lib.hid hf
  have HB := Lib.hid hb
  have HFW := Lib.hid (fun W Rb (h : Blk W Rb 44 zeroRes) a n c => fillWB_any h a n c)
  have HTG := Lib.hid (fun W (hW : Below w.heap.size w W) => h.below hW)
  have HPP : Hid ((∀ v W, P v W → ∃ a n c, v = .slice a n c) ∧ (∀ v W, Blk W Rb 44 zeroRes → P v W → P v (W.setCell ⟨Rb, 5, none⟩ v))) := show _ ∧ _ from ⟨hPv, hP⟩
  have e0 : ∀ args W, (callFunc f1 args).run Tryz.prog W = .ok (.enter f1 args) W := he
  have hs2 : w.heap.size ≤ W2.heap.size := hb.size
  have HRB : Hid (Blk w Rb 44 zeroRes ∧ ¬ Foot G Rb ∧ Rb ≠ T ∧ lo ≤ Rb) := show _ ∧ _ from ⟨hr, n3, nT, hl⟩
  have hft : ∀ j, Foot G j → j < w.heap.size := by
    rintro j ⟨c, y, hy, hj⟩
    rcases hj with rfl | rfl
    · exact (h.tree.nodes _ _ hy).blk.lt
    · exact (h.tree.nodes _ _ hy).names.lt
  have hs3 : w.heap.size + 1 < W2.heap.size := by
    rw [← hW2, World.size_alloc, World.size_alloc]
    omega
  have HA : Hid (∀ W W', Below W2.heap.size W2 W → Turn (fun j => Foot G j ∨ W.heap.size ≤ j) W W' → (W'.cell? ⟨w.heap.size, 0, none⟩ = some (.pointer (some ⟨T, 0, none⟩)) ∧ W'.cell? ⟨w.heap.size + 1, 0, none⟩ = some (.int .i64 x.kind) ∧ W'.cell? ⟨w.heap.size + 1, 1, none⟩ = some (encStr x.path) ∧ W'.cell? ⟨w.heap.size + 1, 2, none⟩ = some (encStr x.other) ∧ W'.cell? ⟨w.heap.size + 1, 3, none⟩ = some (.int .i64 x.place) ∧ W'.cell? ⟨w.heap.size + 1, 4, none⟩ = some (.int .i64 x.many) ∧ W'.cell? ⟨w.heap.size + 1, 5, none⟩ = some x.ub ∧ W'.cell? ⟨b, 0, none⟩ = some (fnV f1) ∧ W'.cell? ⟨b + 1, 0, none⟩ = some (fnV 95))) := show ∀ W W', _ from fun W W' hW ht => by
    have hw : Below w.heap.size w W := hb.trans (hW.mono hs2)
    have g := hW.size
    have gb := hb1.lt
    have gb2 := hb2.lt
    have k : ∀ j, w.heap.size ≤ j → j < W2.heap.size → ¬ (Foot G j ∨ W.heap.size ≤ j) := fun j h1 h2 h3 => by
      rcases h3 with h3 | h3
      · have := hft j h3; omega
      · omega
    have l : ∀ j, j < w.heap.size → ¬ Foot G j → ¬ (Foot G j ∨ W.heap.size ≤ j) := fun j h1 h2 h3 => by
      rcases h3 with h3 | h3
      · exact h2 h3
      · omega
    have a := hA W hW
    exact ⟨cell_turn ht (by omega) (k _ (by omega) (by omega)) a.w, cell_turn ht (by omega) (k _ (by omega) (by omega)) a.c0, cell_turn ht (by omega) (k _ (by omega) (by omega)) a.c1, cell_turn ht (by omega) (k _ (by omega) (by omega)) a.c2, cell_turn ht (by omega) (k _ (by omega) (by omega)) a.c3, cell_turn ht (by omega) (k _ (by omega) (by omega)) a.c4, cell_turn ht (by omega) (k _ (by omega) (by omega)) a.c5, cell_turn ht (by omega) (l _ gb n1) (boxed_low hb1 hw).cell, cell_turn ht (by omega) (l _ gb2 n2) (boxed_low hb2 hw).cell⟩
  obtain ⟨p, hp2⟩ : ∃ p, encStr x.path = p := ⟨_, rfl⟩
  obtain ⟨q, hq⟩ : ∃ p, encStr x.other = p := ⟨_, rfl⟩
  obtain ⟨pl, hpl⟩ : ∃ y, x.place = y := ⟨_, rfl⟩
  obtain ⟨mn, hmn⟩ : ∃ y, x.many = y := ⟨_, rfl⟩
  obtain ⟨kd, hkd⟩ : ∃ y, x.kind = y := ⟨_, rfl⟩
  unfold opA at hW2 HF ⊢
  rw [hu, hp2, hq, hpl, hmn, hkd] at HF
  rw [hu, hp2, hq, hpl, hmn, hkd] at HA
  rw [hu, hp2, hq, hpl, hmn, hkd] at hW2 ⊢
  clear h hb hA hp2 hq hpl hmn hkd hu he hf hb1 hb2 hr n1 n2 n3 nT hl hs2 hs3 hft hPv hP
  go_enter Tryz.func124, Tryz.ntmps124
  go_wp2_with fail
  clear hW2
  have hR := HA.out _ _ (Below.refl _ W2).drew (Turn.refl _ _)
  refine wp_region_M 6 (fun V : World => V.cell? ⟨w.heap.size, 0, none⟩ = some (.pointer (some ⟨T, 0, none⟩)) ∧ V.cell? ⟨w.heap.size + 1, 0, none⟩ = some (.int .i64 kd) ∧ V.cell? ⟨w.heap.size + 1, 1, none⟩ = some p ∧ V.cell? ⟨w.heap.size + 1, 2, none⟩ = some q ∧ V.cell? ⟨w.heap.size + 1, 3, none⟩ = some (.int .i64 pl) ∧ V.cell? ⟨w.heap.size + 1, 4, none⟩ = some (.int .i64 mn) ∧ V.cell? ⟨w.heap.size + 1, 5, none⟩ = some (.slice ua un uc) ∧ V.cell? ⟨b, 0, none⟩ = some (fnV f1) ∧ V.cell? ⟨b + 1, 0, none⟩ = some (fnV 95)) (by kernel_rfl) ?_
  (refine wpAnyM_take2 8 (i := 1) (v := ?_) rfl (by kernel_rfl) (by kernel_rfl) (fun _ _ _ h => h) (Or.inl ⟨by rfl, ?_⟩) hR ?_; rotate_left; (focus (intro w hSw; (try dsimp only at hSw); go_simp; (try with_reducible rfl))); (try simp only [put_laws])); (refine wpAnyM_take2 8 (i := 0) (v := ?_) rfl (by kernel_rfl) (by kernel_rfl) (fun _ _ _ h => h) (Or.inl ⟨by rfl, ?_⟩) hR ?_; rotate_left; (focus (intro w hSw; (try dsimp only at hSw); go_simp; (try with_reducible rfl))); (try simp only [put_laws])); (refine wpAnyM_take2 8 (i := 2) (v := ?_) rfl (by kernel_rfl) (by kernel_rfl) (fun _ _ _ h => h) (Or.inl ⟨by rfl, ?_⟩) hR ?_; rotate_left; (focus (intro w hSw; (try dsimp only at hSw); go_simp; (try with_reducible rfl))); (try simp only [put_laws])); (refine wpAnyM_take2 8 (i := 3) (v := ?_) rfl (by kernel_rfl) (by kernel_rfl) (fun _ _ _ h => h) (Or.inl ⟨by rfl, ?_⟩) hR ?_; rotate_left; (focus (intro w hSw; (try dsimp only at hSw); go_simp; (try with_reducible rfl))); (try simp only [put_laws])); (refine wpAnyM_take2 8 (i := 4) (v := ?_) rfl (by kernel_rfl) (by kernel_rfl) (fun _ _ _ h => h) (Or.inl ⟨by rfl, ?_⟩) hR ?_; rotate_left; (focus (intro w hSw; (try dsimp only at hSw); go_simp; (try with_reducible rfl))); (try simp only [put_laws]))
  have HD : Hid (Below W2.heap.size W2 W2.drew) := show Below _ _ _ from (Below.refl _ W2).drew
  obtain ⟨V0, hV0⟩ : ∃ V0, W2.drew = V0 := ⟨_, rfl⟩
  rw [hV0] at hR HD ⊢
  clear hV0
  have HV0 : Hid (Below w.heap.size w V0) := show Below _ _ _ from HB.out.trans (HD.out.mono HB.out.size)
  (refine wpAnyM_one (i := 5) rfl (by kernel_rfl) (fun K hK => ?_); rw [if_pos (by rfl)]; (try simp only [elem_laws]))
  go_simp
  refine (HF.out V0 HV0.out).mono ?_
  rintro e w1 ⟨hbb, ⟨rfl, v, rfl, hv⟩ | ⟨hc, rfl⟩⟩
  rotate_left
  · have hw1 := HV0.out.trans (hbb.mono HV0.out.size)
    exact ⟨rfl, ⟨G, (HTG.out _ hw1).mono (Nat.le_succ m), Turn.of_below hw1 (Nat.le_refl _), fun j hj => .inl hj⟩, .inr ⟨hc, rfl⟩⟩
  obtain ⟨va, vn, vc, rfl⟩ := HPP.out.1 v w1 hv
  have hR' := HA.out _ _ (HD.out.trans (hbb.mono HD.out.size)) (Turn.refl _ _)
  refine hK _ _ (fun _ => hR') ?_
  obtain ⟨hr0, n3, nT, hl⟩ := HRB.out
  have hw1 := HV0.out.trans (hbb.mono HV0.out.size)
  have hr1 : Blk w1 Rb 44 zeroRes := hr0.below hw1 hr0.lt
  have ht2 : Turn (fun j => j = Rb) w1 (w1.setCell ⟨Rb, 5, none⟩ (.slice va vn vc)) := Turn.setCell _ _ rfl
  have g4 : TreeR lo (w1.setCell ⟨Rb, 5, none⟩ (.slice va vn vc)) T r G m t := (HTG.out _ hw1).turn ht2 (fun j hj _ => by rw [hj]; exact zeroRes_noU8 hr1) (fun j hj => by rw [hj]; exact n3) (fun e => nT e.symm) (fun j hj => by rw [hj]; exact hl)
  have HG : Hid (∃ G', TreeR lo (w1.setCell ⟨Rb, 5, none⟩ (.slice va vn vc)) T r G' (m + 1) t ∧ Turn (fun j => Foot G j ∨ j = Rb ∨ w.heap.size ≤ j) w (w1.setCell ⟨Rb, 5, none⟩ (.slice va vn vc)) ∧ ∀ j, Foot G' j → Foot G j ∨ w.heap.size ≤ j) := show ∃ _, _ from ⟨G, g4.mono (Nat.le_succ m), (Turn.of_below hw1 (Nat.le_refl _)).trans (ht2.mono fun j hj => .inr (.inl hj)), fun j hj => .inl hj⟩
  have HX : Hid (Blk (w1.setCell ⟨Rb, 5, none⟩ (.slice va vn vc)) Rb 44 (zeroRes.setIfInBounds 5 (.slice va vn vc)) ∧ P (.slice va vn vc) (w1.setCell ⟨Rb, 5, none⟩ (.slice va vn vc))) := show _ ∧ _ from ⟨hr1.set 5 _, HPP.out.2 _ _ hr1 hv⟩
  have HR1 := Lib.hid hr1
  clear hK K hR g4 hr0 n3 nT hl ht2 hr1 hw1 hbb hv
  have hR := hR'
  clear hR'
  (try simp only [put_laws])
  (refine wpAnyM_last rfl (by kernel_rfl) (fun K hK => ?_); rw [if_pos (by rfl)]; (try simp only [elem_laws]))
  go_simp
  refine (HFW.out _ _ HR1.out _ _ _).mono ?_
  rintro e w2 ⟨⟨u, rfl⟩, rfl⟩
  refine hK _ _ ?_
  clear hK K hR
  (try simp only [put_laws])
  refine wpAnyM_done (by kernel_rfl) ?_ _
  go_wp2_with fail
  first
  | go_end0
  | refine bodyPost_ret (results_none rfl _ _ _) rfl ?_
  exact ⟨HG.out, .inl ⟨_, _, rfl, HX.out.1, _, rfl, HX.out.2⟩⟩
end Go.Proofs.YtgoemaecdolioaaGreatDoor
