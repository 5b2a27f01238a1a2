/-
  Texts MdL to MdN, as one.
-/
import Derived.Test.YtgoemaecdolioaaGreatDoorMo30
/-
  model: the deed that tells what a node is, and its result. (gen_mdl.py)
-/
namespace Go.Proofs.YtgoemaecdolioaaGreatDoor
open Go.RowKit Go.Shelf
attribute [local go_sem] Oper.semAt_some

set_option maxRecDepth 100000 in
set_option maxHeartbeats 4000000 in
theorem fillWR_any {W : World} {Rb : Nat} (h : Blk W Rb 44 zeroRes) (k l n : Int) : Calls Tryz.prog 89 #[.pointer (some ⟨Rb, 0, none⟩), statV k l n] W fun e w' => (∃ u, e = .returned u) ∧ Blk w' Rb 44 #[.int .i64 0, .int .i64 k, .int .i64 l, .int .i64 n, .slice none 0 0, .slice none 0 0] ∧ Turn (fun j => j = Rb ∨ W.heap.size ≤ j) W w' := by
  have hb1 : Below W.heap.size W (W.alloc (.cells #[.int .i64 0, .int .i64 k, .int .i64 l, .int .i64 n, .slice none 0 0, .slice none 0 0] 44)) := (Below.refl _ W).alloc (Nat.le_refl _) _
  have hx1 : Blk (W.alloc (.cells #[.int .i64 0, .int .i64 k, .int .i64 l, .int .i64 n, .slice none 0 0, .slice none 0 0] 44)) W.heap.size 44 #[.int .i64 0, .int .i64 k, .int .i64 l, .int .i64 n, .slice none 0 0, .slice none 0 0] := Blk.new _ _ _
  have hr1 := h.below hb1 h.lt
  obtain ⟨W1, hW1⟩ : ∃ W1, W.alloc (.cells #[.int .i64 0, .int .i64 k, .int .i64 l, .int .i64 n, .slice none 0 0, .slice none 0 0] 44) = W1 := ⟨_, rfl⟩
  rw [hW1] at hb1 hx1 hr1
  have x0 := hx1.cell (j := 0) rfl
  have x1 := hx1.cell (j := 1) rfl
  have x2 := hx1.cell (j := 2) rfl
  have x3 := hx1.cell (j := 3) rfl
  have x4 := hx1.cell (j := 4) rfl
  have x5 := hx1.cell (j := 5) rfl
  have c0 := hr1.cell (j := 0) rfl
  have c1 := hr1.cell (j := 1) rfl
  have c2 := hr1.cell (j := 2) rfl
  have c3 := hr1.cell (j := 3) rfl
  have c4 := hr1.cell (j := 4) rfl
  have c5 := hr1.cell (j := 5) rfl
  have f0 := hr1.frozen 0
  have f1 := hr1.frozen 1
  have f2 := hr1.frozen 2
  have f3 := hr1.frozen 3
  have f4 := hr1.frozen 4
  have f5 := hr1.frozen 5
  have HX : Hid (Blk ((((((W1.setCell ⟨Rb, 0, none⟩ (.int .i64 0)).setCell ⟨Rb, 1, none⟩ (.int .i64 k)).setCell ⟨Rb, 2, none⟩ (.int .i64 l)).setCell ⟨Rb, 3, none⟩ (.int .i64 n)).setCell ⟨Rb, 4, none⟩ (.slice none 0 0)).setCell ⟨Rb, 5, none⟩ (.slice none 0 0)) Rb 44 #[.int .i64 0, .int .i64 k, .int .i64 l, .int .i64 n, .slice none 0 0, .slice none 0 0]) := show Blk _ _ _ _ from (((((hr1.set 0 (.int .i64 0)).set 1 (.int .i64 k)).set 2 (.int .i64 l)).set 3 (.int .i64 n)).set 4 (.slice none 0 0)).set 5 (.slice none 0 0)
  have HT : Hid (Turn (fun j => j = Rb ∨ W.heap.size ≤ j) W ((((((W1.setCell ⟨Rb, 0, none⟩ (.int .i64 0)).setCell ⟨Rb, 1, none⟩ (.int .i64 k)).setCell ⟨Rb, 2, none⟩ (.int .i64 l)).setCell ⟨Rb, 3, none⟩ (.int .i64 n)).setCell ⟨Rb, 4, none⟩ (.slice none 0 0)).setCell ⟨Rb, 5, none⟩ (.slice none 0 0))) := show Turn _ _ _ from
    ((((((Turn.of_below hb1 (Nat.le_refl _)).trans (Turn.setCell _ _ (.inl rfl))).trans (Turn.setCell _ _ (.inl rfl))).trans (Turn.setCell _ _ (.inl rfl))).trans (Turn.setCell _ _ (.inl rfl))).trans (Turn.setCell _ _ (.inl rfl))).trans (Turn.setCell _ _ (.inl rfl))
  unfold statV
  clear h hb1 hx1 hr1
  go_enter Tryz.func89, Tryz.ntmps89
  go_wp2_with fail
  first
  | go_end0
  | refine bodyPost_ret (results_none rfl _ _ _) rfl ?_
  exact ⟨⟨_, rfl⟩, HX.out, HT.out⟩
set_option maxRecDepth 100000 in
set_option maxHeartbeats 8000000 in
theorem fillR_any {lo T r m : Nat} {G : Gr} {t : RT} {w : World} (h : TreeR lo w T r G m t) (x : OpX) {ua : Option Addr} {un uc : Nat} (hu : x.ub = .slice ua un uc) {cc : Int} {k l n : Int} {f1 : Nat} (he : Enters Tryz.prog f1)
    (hf : ∀ W, Below w.heap.size w W → Calls Tryz.prog f1 #[.agg #[.pointer (some ⟨T, 0, none⟩)], .agg (opA x)] W (AskM cc (fun v _ => v = statV k l n) W)) {b Rb : Nat}
    (hb1 : Boxed w b 144 (fnV f1)) (hb2 : Boxed w (b + 1) 145 (fnV 89)) (hr : Blk w Rb 44 zeroRes) (n1 : ¬ Foot G b) (n2 : ¬ Foot G (b + 1)) (n3 : ¬ Foot G Rb) (nT : Rb ≠ T) (hl : lo ≤ Rb) :
    Calls Tryz.prog 115 #[.agg #[.pointer (some ⟨T, 0, none⟩)], .agg (opA x), .pointer (some ⟨Rb, 0, none⟩), .pointer (some ⟨b + 1, 0, none⟩), .pointer (some ⟨b, 0, none⟩)] w (FillR lo T r m G (t, cc) (fun X _ => cc = 0 ∧ X = #[.int .i64 0, .int .i64 k, .int .i64 l, .int .i64 n, .slice none 0 0, .slice none 0 0]) Rb w) := by
  obtain ⟨W2, hW2, hb, hA⟩ := argsAt_new w T x
  have HF := Lib.hid hf
  have HB := Lib.hid hb
  have HFW := Lib.hid (fun W Rb (h : Blk W Rb 44 zeroRes) a n c => fillWR_any h a n c)
  have HTG := Lib.hid (fun W (hW : Below w.heap.size w W) => h.below hW)
  have e0 : ∀ args W, (callFunc f1 args).run Tryz.prog W = .ok (.enter f1 args) W := he
  have hs2 : w.heap.size ≤ W2.heap.size := hb.size
  have HRB : Hid (Blk w Rb 44 zeroRes ∧ ¬ Foot G Rb ∧ Rb ≠ T ∧ lo ≤ Rb) := show _ ∧ _ from ⟨hr, n3, nT, hl⟩
  have hft : ∀ j, Foot G j → j < w.heap.size := by
    rintro j ⟨c, y, hy, hj⟩
    rcases hj with rfl | rfl
    · exact (h.tree.nodes _ _ hy).blk.lt
    · exact (h.tree.nodes _ _ hy).names.lt
  have hs3 : w.heap.size + 1 < W2.heap.size := by
    rw [← hW2, World.size_alloc, World.size_alloc]
    omega
  have HA : Hid (∀ W W', Below W2.heap.size W2 W → Turn (fun j => Foot G j ∨ W.heap.size ≤ j) W W' → (W'.cell? ⟨w.heap.size, 0, none⟩ = some (.pointer (some ⟨T, 0, none⟩)) ∧ W'.cell? ⟨w.heap.size + 1, 0, none⟩ = some (.int .i64 x.kind) ∧ W'.cell? ⟨w.heap.size + 1, 1, none⟩ = some (encStr x.path) ∧ W'.cell? ⟨w.heap.size + 1, 2, none⟩ = some (encStr x.other) ∧ W'.cell? ⟨w.heap.size + 1, 3, none⟩ = some (.int .i64 x.place) ∧ W'.cell? ⟨w.heap.size + 1, 4, none⟩ = some (.int .i64 x.many) ∧ W'.cell? ⟨w.heap.size + 1, 5, none⟩ = some x.ub ∧ W'.cell? ⟨b, 0, none⟩ = some (fnV f1) ∧ W'.cell? ⟨b + 1, 0, none⟩ = some (fnV 89))) := show ∀ W W', _ from fun W W' hW ht => by
    have hw : Below w.heap.size w W := hb.trans (hW.mono hs2)
    have g := hW.size
    have gb := hb1.lt
    have gb2 := hb2.lt
    have k : ∀ j, w.heap.size ≤ j → j < W2.heap.size → ¬ (Foot G j ∨ W.heap.size ≤ j) := fun j h1 h2 h3 => by
      rcases h3 with h3 | h3
      · have := hft j h3; omega
      · omega
    have l : ∀ j, j < w.heap.size → ¬ Foot G j → ¬ (Foot G j ∨ W.heap.size ≤ j) := fun j h1 h2 h3 => by
      rcases h3 with h3 | h3
      · exact h2 h3
      · omega
    have a := hA W hW
    exact ⟨cell_turn ht (by omega) (k _ (by omega) (by omega)) a.w, cell_turn ht (by omega) (k _ (by omega) (by omega)) a.c0, cell_turn ht (by omega) (k _ (by omega) (by omega)) a.c1, cell_turn ht (by omega) (k _ (by omega) (by omega)) a.c2, cell_turn ht (by omega) (k _ (by omega) (by omega)) a.c3, cell_turn ht (by omega) (k _ (by omega) (by omega)) a.c4, cell_turn ht (by omega) (k _ (by omega) (by omega)) a.c5, cell_turn ht (by omega) (l _ gb n1) (boxed_low hb1 hw).cell, cell_turn ht (by omega) (l _ gb2 n2) (boxed_low hb2 hw).cell⟩
  obtain ⟨p, hp2⟩ : ∃ p, encStr x.path = p := ⟨_, rfl⟩
  obtain ⟨q, hq⟩ : ∃ p, encStr x.other = p := ⟨_, rfl⟩
  obtain ⟨pl, hpl⟩ : ∃ y, x.place = y := ⟨_, rfl⟩
  obtain ⟨mn, hmn⟩ : ∃ y, x.many = y := ⟨_, rfl⟩
  obtain ⟨kd, hkd⟩ : ∃ y, x.kind = y := ⟨_, rfl⟩
  unfold opA at hW2 HF ⊢
  rw [hu, hp2, hq, hpl, hmn, hkd] at HF
  rw [hu, hp2, hq, hpl, hmn, hkd] at HA
  rw [hu, hp2, hq, hpl, hmn, hkd] at hW2 ⊢
  clear h hb hA hp2 hq hpl hmn hkd hu he hf hb1 hb2 hr n1 n2 n3 nT hl hs2 hs3 hft
  go_enter Tryz.func115, Tryz.ntmps115
  go_wp2_with fail
  clear hW2
  have hR := HA.out _ _ (Below.refl _ W2).drew (Turn.refl _ _)
  refine wp_region_M 6 (fun V : World => V.cell? ⟨w.heap.size, 0, none⟩ = some (.pointer (some ⟨T, 0, none⟩)) ∧ V.cell? ⟨w.heap.size + 1, 0, none⟩ = some (.int .i64 kd) ∧ V.cell? ⟨w.heap.size + 1, 1, none⟩ = some p ∧ V.cell? ⟨w.heap.size + 1, 2, none⟩ = some q ∧ V.cell? ⟨w.heap.size + 1, 3, none⟩ = some (.int .i64 pl) ∧ V.cell? ⟨w.heap.size + 1, 4, none⟩ = some (.int .i64 mn) ∧ V.cell? ⟨w.heap.size + 1, 5, none⟩ = some (.slice ua un uc) ∧ V.cell? ⟨b, 0, none⟩ = some (fnV f1) ∧ V.cell? ⟨b + 1, 0, none⟩ = some (fnV 89)) (by kernel_rfl) ?_
  (refine wpAnyM_take2 8 (i := 1) (v := ?_) rfl (by kernel_rfl) (by kernel_rfl) (fun _ _ _ h => h) (Or.inl ⟨by rfl, ?_⟩) hR ?_; rotate_left; (focus (intro w hSw; (try dsimp only at hSw); go_simp; (try with_reducible rfl))); (try simp only [put_laws])); (refine wpAnyM_take2 8 (i := 0) (v := ?_) rfl (by kernel_rfl) (by kernel_rfl) (fun _ _ _ h => h) (Or.inl ⟨by rfl, ?_⟩) hR ?_; rotate_left; (focus (intro w hSw; (try dsimp only at hSw); go_simp; (try with_reducible rfl))); (try simp only [put_laws])); (refine wpAnyM_take2 8 (i := 2) (v := ?_) rfl (by kernel_rfl) (by kernel_rfl) (fun _ _ _ h => h) (Or.inl ⟨by rfl, ?_⟩) hR ?_; rotate_left; (focus (intro w hSw; (try dsimp only at hSw); go_simp; (try with_reducible rfl))); (try simp only [put_laws])); (refine wpAnyM_take2 8 (i := 3) (v := ?_) rfl (by kernel_rfl) (by kernel_rfl) (fun _ _ _ h => h) (Or.inl ⟨by rfl, ?_⟩) hR ?_; rotate_left; (focus (intro w hSw; (try dsimp only at hSw); go_simp; (try with_reducible rfl))); (try simp only [put_laws])); (refine wpAnyM_take2 8 (i := 4) (v := ?_) rfl (by kernel_rfl) (by kernel_rfl) (fun _ _ _ h => h) (Or.inl ⟨by rfl, ?_⟩) hR ?_; rotate_left; (focus (intro w hSw; (try dsimp only at hSw); go_simp; (try with_reducible rfl))); (try simp only [put_laws]))
  have HD : Hid (Below W2.heap.size W2 W2.drew) := show Below _ _ _ from (Below.refl _ W2).drew
  obtain ⟨V0, hV0⟩ : ∃ V0, W2.drew = V0 := ⟨_, rfl⟩
  rw [hV0] at hR HD ⊢
  clear hV0
  have HV0 : Hid (Below w.heap.size w V0) := show Below _ _ _ from HB.out.trans (HD.out.mono HB.out.size)
  (refine wpAnyM_one (i := 5) rfl (by kernel_rfl) (fun K hK => ?_); rw [if_pos (by rfl)]; (try simp only [elem_laws]))
  go_simp
  refine (HF.out V0 HV0.out).mono ?_
  rintro e w1 ⟨hbb, ⟨rfl, v, rfl, rfl⟩ | ⟨hc, rfl⟩⟩
  rotate_left
  · have hw1 := HV0.out.trans (hbb.mono HV0.out.size)
    exact ⟨rfl, ⟨G, (HTG.out _ hw1).mono (Nat.le_succ m), Turn.of_below hw1 (Nat.le_refl _), fun j hj => .inl hj⟩, .inr ⟨hc, rfl⟩⟩
  have hR' := HA.out _ _ (HD.out.trans (hbb.mono HD.out.size)) (Turn.refl _ _)
  refine hK _ _ (fun _ => hR') ?_
  have hw1 := HV0.out.trans (hbb.mono HV0.out.size)
  have HW1 := Lib.hid hw1
  have HR1 := Lib.hid (HRB.out.1.below hw1 HRB.out.1.lt)
  clear hK K hR hw1 hbb
  have hR := hR'
  clear hR'
  (try simp only [put_laws])
  (refine wpAnyM_last rfl (by kernel_rfl) (fun K hK => ?_); rw [if_pos (by rfl)]; (try simp only [elem_laws]))
  go_simp
  refine (HFW.out _ _ HR1.out _ _ _).mono ?_
  rintro e w2 ⟨⟨u, rfl⟩, hx2, ht2⟩
  obtain ⟨hr0, n3, nT, hl⟩ := HRB.out
  have hsz := HW1.out.size
  have g4 : TreeR lo w2 T r G m t := (HTG.out _ HW1.out).turn ht2 (fun j hj hjl => by
    rcases hj with rfl | hj
    · exact zeroRes_noU8 HR1.out
    · omega) (fun j hj hjf => by
    rcases hj with rfl | hj
    · exact n3 hjf
    · obtain ⟨c, y, hy, he⟩ := hjf
      have := ((HTG.out _ HW1.out).tree.nodes c y hy)
      rcases he with rfl | rfl
      · have := this.blk.lt; omega
      · have := this.names.lt; omega) (fun e => by
    rcases e with e | e
    · exact nT e.symm
    · have := (HTG.out _ HW1.out).tree.at_.lt
      omega) (fun j hj => by
    rcases hj with rfl | hj
    · exact hl
    · have := (HTG.out _ HW1.out).lowT
      have := (HTG.out _ HW1.out).tree.at_.lt
      omega)
  have HG : Hid (∃ G', TreeR lo w2 T r G' (m + 1) t ∧ Turn (fun j => Foot G j ∨ j = Rb ∨ w.heap.size ≤ j) w w2 ∧ ∀ j, Foot G' j → Foot G j ∨ w.heap.size ≤ j) := show ∃ _, _ from ⟨G, g4.mono (Nat.le_succ m), (Turn.of_below HW1.out (Nat.le_refl _)).trans (ht2.mono fun j hj => .inr (hj.elim .inl fun h => .inr (by omega))), fun j hj => .inl hj⟩
  have HX := Lib.hid hx2
  refine hK _ _ ?_
  clear hr0 n3 nT hl hsz g4 hx2 ht2
  clear hK K hR
  (try simp only [put_laws])
  refine wpAnyM_done (by kernel_rfl) ?_ _
  go_wp2_with fail
  first
  | go_end0
  | refine bodyPost_ret (results_none rfl _ _ _) rfl ?_
  exact ⟨HG.out, .inl ⟨_, _, rfl, HX.out, rfl⟩⟩
end Go.Proofs.YtgoemaecdolioaaGreatDoor

/-
  model: each kind's deed. (gen_mdm.py)
-/
namespace Go.Proofs.YtgoemaecdolioaaGreatDoor
open Go.RowKit Go.Shelf

/-- What an operation makes of a tree, and its error. -/
def doneR (t : RT) (x : OpX) : RT × Int :=
  if x.kind = 1 then (t, (askR t x.path).1) else if x.kind = 2 then (t, namesC t x.path) else if x.kind = 3 then (t, readC t x) else
  if x.kind = 4 then rMake t x.path 1 else if x.kind = 5 then rMake t x.path 2 else if x.kind = 6 then rDrop t x.path else if x.kind = 7 then rRemove t x.path else
  if x.kind = 8 then rMove t x.path x.other else if x.kind = 9 then rLink t x.path x.other else if x.kind = 10 then writeR t x else cutR t x
/-- What it tells. -/
def resQ (t : RT) (x : OpX) (X : Array Value) (W : World) : Prop :=
  if x.kind = 1 then (doneR t x).2 = 0 ∧ X = #[.int .i64 0, .int .i64 (kindR t (askR t x.path).2), .int .i64 (linksR t (askR t x.path).2 : Nat), .int .i64 (statN t x.path : Nat), .slice none 0 0, .slice none 0 0] else
  if x.kind = 2 then (doneR t x).2 = 0 ∧ ∃ v, X = zeroRes.setIfInBounds 4 v ∧ TxS W v (namesR t x.path) else
  if x.kind = 3 then (doneR t x).2 = 0 ∧ ∃ v, X = zeroRes.setIfInBounds 5 v ∧ FB W v (outR (xsR t x.path) x.place x.many) else X = resE (doneR t x).2
theorem FillR.eq {lo T r m : Nat} {G : Gr} {R R' : RT × Int} {Q Q' : Array Value → World → Prop} {Rb : Nat} {w w' : World} {e : Ending} (h : FillR lo T r m G R Q Rb w e w') (hR : R = R') (hQ : ∀ X W, Q X W → Q' X W) : FillR lo T r m G R' Q' Rb w e w' := by
  subst hR
  obtain ⟨h1, h2⟩ := h
  refine ⟨h1, ?_⟩
  rcases h2 with ⟨X, u, h3, h4, h5⟩ | h2
  · exact .inl ⟨X, u, h3, h4, hQ X _ h5⟩
  · exact .inr h2
/-- An operation that may be looked at. -/
structure OpOk (W : World) (x : OpX) : Prop where
  path : x.path.length ≤ 1000000
  other : x.other.length ≤ 1000000
  p0 : -9223372036854775808 ≤ x.place
  p1 : x.place ≤ 9223372036854775807
  n0 : -9223372036854775808 ≤ x.many
  n1 : x.many ≤ 9223372036854775807
  fb : FB W x.ub (bytesN x.bytes)
theorem OpOk.below {W W' : World} {x : OpX} (h : OpOk W x) (hb : Below W.heap.size W W') : OpOk W' x := ⟨h.path, h.other, h.p0, h.p1, h.n0, h.n1, h.fb.below hb⟩
set_option maxHeartbeats 4000000 in
theorem deed11_any {lo T r m : Nat} {G : Gr} {t : RT} {w : World} (h : TreeR lo w T r G m t) (hm : m ≤ 1000) {x : OpX} (hx : OpOk w x) {lo' : Nat} {l : List (Int × Value)} (hd : Deeds w lo' l) (hft : ∀ j, Foot G j → j < lo') {Rb : Nat} (hr : Blk w Rb 44 zeroRes) (n3 : ¬ Foot G Rb) (nT : Rb ≠ T) (hl : lo ≤ Rb) {p : Int × Value} (hp : p ∈ l) (hk : p.1 = x.kind) :
    ∃ f b, p.2 = closV f b ∧ Enters Tryz.prog f ∧ Calls Tryz.prog f #[.agg #[.pointer (some ⟨T, 0, none⟩)], .agg (opA x), .pointer (some ⟨Rb, 0, none⟩), .pointer (some ⟨b + 1, 0, none⟩), .pointer (some ⟨b, 0, none⟩)] w (FillR lo T r m G (doneR t x) (resQ t x) Rb w) := by
  have hm' : m < 90000 := by omega
  obtain ⟨ua, uc, hu, -⟩ := hx.fb.form
  have nf : ∀ b, lo' ≤ b → ¬ Foot G b := fun b hb hf => by have := hft b hf; omega
  rcases hd p hp with ⟨hk2, b, hv, hlb, hb1, hb2⟩ | ⟨hk2, b, hv, hlb, hb1, hb2⟩ | ⟨hk2, b, hv, hlb, hb1, hb2⟩ | ⟨hk2, b, hv, hlb, hb1, hb2⟩ | ⟨hk2, b, hv, hlb, hb1, hb2⟩ | ⟨hk2, b, hv, hlb, hb1, hb2⟩ | ⟨hk2, b, hv, hlb, hb1, hb2⟩ | ⟨hk2, b, hv, hlb, hb1, hb2⟩ | ⟨hk2, b, hv, hlb, hb1, hb2⟩ | ⟨hk2, b, hv, hlb, hb1, hb2⟩ | ⟨hk2, b, hv, hlb, hb1, hb2⟩
  · have hkk : x.kind = 1 := by rw [← hk, hk2]
    refine ⟨_, b, hv, enters_of Tryz.func115 (by kernel_rfl) rfl, (fillR_any h x hu (enters_of Tryz.func88 (by kernel_rfl) rfl) (fun W hW => stat11_any (h.below hW) hm x hx.path) hb1 hb2 hr (nf _ hlb) (nf _ (by omega)) n3 nT hl).mono fun e w' he => he.eq (by simp [doneR, hkk]) (fun X W hq => ?_)⟩
    unfold resQ
    simp only [hkk]
    first
    | exact hq
    | (simp; exact hq)
    | (rw [hq]; simp [doneR, hkk])
    | (simpa [doneR, hkk] using hq)
    | simp_all [doneR]
  · have hkk : x.kind = 2 := by rw [← hk, hk2]
    refine ⟨_, b, hv, enters_of Tryz.func123 (by kernel_rfl) rfl, (fillS_any h x hu (enters_of Tryz.func91 (by kernel_rfl) rfl) (fun W hW => list11_any (h.below hW) hm x hx.path) hb1 hb2 hr (nf _ hlb) (nf _ (by omega)) n3 nT hl (fun v W hv => by obtain ⟨a, c, hv⟩ := hv.form; exact ⟨a, _, c, hv⟩) (fun v W hz hv => txs_turn hv (Turn.setCell (q := fun j => j = Rb) _ _ rfl) (fun j hj _ => by rw [hj]; exact zeroRes_noStr hz))).mono fun e w' he => he.eq (by simp [doneR, hkk]) (fun X W hq => ?_)⟩
    unfold resQ
    simp only [hkk]
    first
    | exact hq
    | (simp; exact hq)
    | (rw [hq]; simp [doneR, hkk])
    | (simpa [doneR, hkk] using hq)
    | simp_all [doneR]
  · have hkk : x.kind = 3 := by rw [← hk, hk2]
    refine ⟨_, b, hv, enters_of Tryz.func124 (by kernel_rfl) rfl, (fillB_any h x hu (enters_of Tryz.func94 (by kernel_rfl) rfl) (fun W hW => read11_any (h.below hW) x hx.path) hb1 hb2 hr (nf _ hlb) (nf _ (by omega)) n3 nT hl (fun v W hv => by obtain ⟨a, c, hv, -⟩ := hv.form; exact ⟨a, _, c, hv⟩) (fun v W hz hv => hv.turn8 (Turn.setCell (q := fun j => j = Rb) _ _ rfl) (fun j hj _ => by rw [hj]; exact zeroRes_noU8 hz))).mono fun e w' he => he.eq (by simp [doneR, hkk]) (fun X W hq => ?_)⟩
    unfold resQ
    simp only [hkk]
    first
    | exact hq
    | (simp; exact hq)
    | (rw [hq]; simp [doneR, hkk])
    | (simpa [doneR, hkk] using hq)
    | simp_all [doneR]
  · have hkk : x.kind = 4 := by rw [← hk, hk2]
    refine ⟨_, b, hv, enters_of Tryz.func126 (by kernel_rfl) rfl, (fillE_any h x hu (enters_of Tryz.func97 (by kernel_rfl) rfl) (fun W hW => newFile11_any (h.below hW) hm' x hx.path hx.other) hb1 hb2 hr (nf _ hlb) (nf _ (by omega)) n3 nT hl).mono fun e w' he => he.eq (by simp [doneR, hkk]) (fun X W hq => ?_)⟩
    unfold resQ
    simp only [hkk]
    first
    | exact hq
    | (simp; exact hq)
    | (rw [hq]; simp [doneR, hkk])
    | (simpa [doneR, hkk] using hq)
    | simp_all [doneR]
  · have hkk : x.kind = 5 := by rw [← hk, hk2]
    refine ⟨_, b, hv, enters_of Tryz.func126 (by kernel_rfl) rfl, (fillE_any h x hu (enters_of Tryz.func98 (by kernel_rfl) rfl) (fun W hW => newDir11_any (h.below hW) hm' x hx.path hx.other) hb1 hb2 hr (nf _ hlb) (nf _ (by omega)) n3 nT hl).mono fun e w' he => he.eq (by simp [doneR, hkk]) (fun X W hq => ?_)⟩
    unfold resQ
    simp only [hkk]
    first
    | exact hq
    | (simp; exact hq)
    | (rw [hq]; simp [doneR, hkk])
    | (simpa [doneR, hkk] using hq)
    | simp_all [doneR]
  · have hkk : x.kind = 6 := by rw [← hk, hk2]
    refine ⟨_, b, hv, enters_of Tryz.func126 (by kernel_rfl) rfl, (fillE_any h x hu (enters_of Tryz.func99 (by kernel_rfl) rfl) (fun W hW => unlink11_any (h.below hW) hm' x hx.path hx.other) hb1 hb2 hr (nf _ hlb) (nf _ (by omega)) n3 nT hl).mono fun e w' he => he.eq (by simp [doneR, hkk]) (fun X W hq => ?_)⟩
    unfold resQ
    simp only [hkk]
    first
    | exact hq
    | (simp; exact hq)
    | (rw [hq]; simp [doneR, hkk])
    | (simpa [doneR, hkk] using hq)
    | simp_all [doneR]
  · have hkk : x.kind = 7 := by rw [← hk, hk2]
    refine ⟨_, b, hv, enters_of Tryz.func126 (by kernel_rfl) rfl, (fillE_any h x hu (enters_of Tryz.func100 (by kernel_rfl) rfl) (fun W hW => rmdir11_any (h.below hW) hm' x hx.path hx.other) hb1 hb2 hr (nf _ hlb) (nf _ (by omega)) n3 nT hl).mono fun e w' he => he.eq (by simp [doneR, hkk]) (fun X W hq => ?_)⟩
    unfold resQ
    simp only [hkk]
    first
    | exact hq
    | (simp; exact hq)
    | (rw [hq]; simp [doneR, hkk])
    | (simpa [doneR, hkk] using hq)
    | simp_all [doneR]
  · have hkk : x.kind = 8 := by rw [← hk, hk2]
    refine ⟨_, b, hv, enters_of Tryz.func126 (by kernel_rfl) rfl, (fillE_any h x hu (enters_of Tryz.func101 (by kernel_rfl) rfl) (fun W hW => rename11_any (h.below hW) hm' x hx.path hx.other) hb1 hb2 hr (nf _ hlb) (nf _ (by omega)) n3 nT hl).mono fun e w' he => he.eq (by simp [doneR, hkk]) (fun X W hq => ?_)⟩
    unfold resQ
    simp only [hkk]
    first
    | exact hq
    | (simp; exact hq)
    | (rw [hq]; simp [doneR, hkk])
    | (simpa [doneR, hkk] using hq)
    | simp_all [doneR]
  · have hkk : x.kind = 9 := by rw [← hk, hk2]
    refine ⟨_, b, hv, enters_of Tryz.func126 (by kernel_rfl) rfl, (fillE_any h x hu (enters_of Tryz.func102 (by kernel_rfl) rfl) (fun W hW => link11_any (h.below hW) hm' x hx.path hx.other) hb1 hb2 hr (nf _ hlb) (nf _ (by omega)) n3 nT hl).mono fun e w' he => he.eq (by simp [doneR, hkk]) (fun X W hq => ?_)⟩
    unfold resQ
    simp only [hkk]
    first
    | exact hq
    | (simp; exact hq)
    | (rw [hq]; simp [doneR, hkk])
    | (simpa [doneR, hkk] using hq)
    | simp_all [doneR]
  · have hkk : x.kind = 10 := by rw [← hk, hk2]
    refine ⟨_, b, hv, enters_of Tryz.func126 (by kernel_rfl) rfl, (fillE_any h x hu (enters_of Tryz.func103 (by kernel_rfl) rfl) (fun W hW => write11_any (h.below hW) x hx.path (hx.fb.below hW) hx.p0 hx.p1) hb1 hb2 hr (nf _ hlb) (nf _ (by omega)) n3 nT hl).mono fun e w' he => he.eq (by simp [doneR, hkk]) (fun X W hq => ?_)⟩
    unfold resQ
    simp only [hkk]
    first
    | exact hq
    | (simp; exact hq)
    | (rw [hq]; simp [doneR, hkk])
    | (simpa [doneR, hkk] using hq)
    | simp_all [doneR]
  · have hkk : x.kind = 11 := by rw [← hk, hk2]
    refine ⟨_, b, hv, enters_of Tryz.func126 (by kernel_rfl) rfl, (fillE_any h x hu (enters_of Tryz.func104 (by kernel_rfl) rfl) (fun W hW => cut11_any (h.below hW) x hx.path (hx.fb.below hW) hx.n0 hx.n1) hb1 hb2 hr (nf _ hlb) (nf _ (by omega)) n3 nT hl).mono fun e w' he => he.eq (by simp [doneR, hkk]) (fun X W hq => ?_)⟩
    unfold resQ
    simp only [hkk]
    first
    | exact hq
    | (simp; exact hq)
    | (rw [hq]; simp [doneR, hkk])
    | (simpa [doneR, hkk] using hq)
    | simp_all [doneR]
end Go.Proofs.YtgoemaecdolioaaGreatDoor

/-
  model: what is done. (gen_mdn.py)
-/
namespace Go.Proofs.YtgoemaecdolioaaGreatDoor
open Go.RowKit Go.Shelf
attribute [local go_sem] Oper.semAt_some

def resA (e k l n : Int) (a1 : Option Addr) (n1 c1 : Nat) (a2 : Option Addr) (n2 c2 : Nat) : Array Value := #[.int .i64 e, .int .i64 k, .int .i64 l, .int .i64 n, .slice a1 n1 c1, .slice a2 n2 c2]
theorem resQ_form {t : RT} {x : OpX} {X : Array Value} {W : World} (h : resQ t x X W) : ∃ e k l n a1 n1 c1 a2 n2 c2, X = resA e k l n a1 n1 c1 a2 n2 c2 := by
  unfold resQ at h
  split at h
  · exact ⟨_, _, _, _, _, _, _, _, _, _, h.2⟩
  split at h
  · obtain ⟨-, v, h, hv⟩ := h
    obtain ⟨a, c, hv⟩ := hv.form
    rw [hv] at h
    exact ⟨_, _, _, _, _, _, _, _, _, _, h⟩
  split at h
  · obtain ⟨-, v, h, hv⟩ := h
    obtain ⟨a, c, hv, -⟩ := hv.form
    rw [hv] at h
    exact ⟨_, _, _, _, _, _, _, _, _, _, h⟩
  · exact ⟨_, _, _, _, _, _, _, _, _, _, h⟩
theorem resQ_turn {t : RT} {x : OpX} {X : Array Value} {W W' : World} {q : Nat → Prop} (h : resQ t x X W) (ht : Turn q W W') (h1 : ∀ j, q j → j < W.heap.size → NoStr W j) (h2 : ∀ j, q j → j < W.heap.size → NoU8 W j) : resQ t x X W' := by
  unfold resQ at h ⊢
  split
  · rename_i e
    rwa [if_pos e] at h
  rename_i e1
  rw [if_neg e1] at h
  split
  · rename_i e
    rw [if_pos e] at h
    obtain ⟨h0, v, hv, hw⟩ := h
    exact ⟨h0, v, hv, txs_turn hw ht h1⟩
  rename_i e2
  rw [if_neg e2] at h
  split
  · rename_i e
    rw [if_pos e] at h
    obtain ⟨h0, v, hv, hw⟩ := h
    exact ⟨h0, v, hv, hw.turn8 ht h2⟩
  · rename_i e
    rwa [if_neg e] at h
/-- What is done: the tree, and what is told or given up with. -/
def DoneR (lo T r m : Nat) (G : Gr) (t : RT) (x : OpX) (w : World) (e : Ending) (w' : World) : Prop :=
  (∃ G', TreeR lo w' T r G' (m + 1) (doneR t x).1 ∧ Turn (fun j => Foot G j ∨ w.heap.size ≤ j) w w' ∧ ∀ j, Foot G' j → Foot G j ∨ w.heap.size ≤ j) ∧
  ((∃ X, e = .returned (.agg X) ∧ resQ t x X w') ∨ ((doneR t x).2 ≠ 0 ∧ e = .panicked (refuseM (doneR t x).2)))
set_option maxRecDepth 100000 in
set_option maxHeartbeats 8000000 in
theorem done11_any {lo T r m : Nat} {G : Gr} {t : RT} {w : World} (h : TreeR lo w T r G m t) (hm : m ≤ 1000) {x : OpX} (hx : OpOk w x) (hk : 1 ≤ x.kind ∧ x.kind ≤ 11) :
    Calls Tryz.prog 39 #[.agg #[.pointer (some ⟨T, 0, none⟩)], .agg (opA x)] w (DoneR lo T r m G t x w) := by
  obtain ⟨W2, hW2, hb, hA⟩ := argsAt_new w T x
  have hb3 : Below W2.heap.size W2 (W2.alloc (.cells zeroRes 44)) := (Below.refl _ W2).alloc (Nat.le_refl _) _
  have hx3 : Blk (W2.alloc (.cells zeroRes 44)) W2.heap.size 44 zeroRes := Blk.new _ _ _
  obtain ⟨W3, hW3⟩ : ∃ W3, W2.alloc (.cells zeroRes 44) = W3 := ⟨_, rfl⟩
  rw [hW3] at hb3 hx3
  have hb4 : Below W3.heap.size W3 (W3.alloc (.cells zeroRes 44)) := (Below.refl _ W3).alloc (Nat.le_refl _) _
  have hx4 : Blk (W3.alloc (.cells zeroRes 44)) W3.heap.size 44 zeroRes := Blk.new _ _ _
  obtain ⟨W4, hW4⟩ : ∃ W4, W3.alloc (.cells zeroRes 44) = W4 := ⟨_, rfl⟩
  rw [hW4] at hb4 hx4
  have s2 := hb.size
  have s3 := hx3.lt
  have s4 := hx4.lt
  have hft : ∀ j, Foot G j → j < w.heap.size := by
    rintro j ⟨c, y, hy, hj⟩
    rcases hj with rfl | rfl
    · exact (h.tree.nodes _ _ hy).blk.lt
    · exact (h.tree.nodes _ _ hy).names.lt
  have hT := h.tree.at_.lt
  have hlo := h.lowT
  have hb24 : Below W2.heap.size W2 W4 := hb3.trans (hb4.mono hb3.size)
  have hb04 : Below w.heap.size w W4 := hb.trans (hb24.mono hb.size)
  have hx34 : Blk W4 W2.heap.size 44 zeroRes := hx3.below hb4 hx3.lt
  have HKI := Lib.hid kinds_any
  have HDD : Hid (∀ V W l, Below W4.heap.size W4 V → KinI V 11 W l → ∃ f b, (Instr.lookup 98 (.map (some V.heap.size)) (.int .i64 x.kind) false).run Tryz.prog W = .ok (closV f b) W ∧ Enters Tryz.prog f ∧ Calls Tryz.prog f #[.agg #[.pointer (some ⟨T, 0, none⟩)], .agg (opA x), .pointer (some ⟨W3.heap.size, 0, none⟩), .pointer (some ⟨b + 1, 0, none⟩), .pointer (some ⟨b, 0, none⟩)] W (FillR lo T r m G (doneR t x) (resQ t x) W3.heap.size W)) := show ∀ V W l, _ from fun V W l hV hki => by
    have hbV := hb04.trans (hV.mono hb04.size)
    have hbW := hbV.trans (hki.below.mono hbV.size)
    have hb4W := hV.trans (hki.below.mono hV.size)
    have sV := hV.size
    rcases hki.at_ x.kind with ⟨-, -, p, hp, hpk, hlk⟩ | ⟨hn, -⟩
    · obtain ⟨f, b, hv, he, hc⟩ := deed11_any (h.below hbW) hm (hx.below hbW) hki.deeds (fun j hj => by have := hft j hj; omega) (hx4.below hb4W hx4.lt) (fun hf => by have := hft _ hf; omega) (by omega) (by omega) hp hpk
      rw [hv] at hlk
      exact ⟨f, b, hlk, he, hc⟩
    · exact absurd hk hn
  have HB := Lib.hid hb04
  have HZ : Hid (∀ V, Below W4.heap.size W4 V → Blk V W2.heap.size 44 zeroRes) := show ∀ V, _ from fun V hV => hx34.below hV hx34.lt
  have HN : Hid ((∀ j, Foot G j → j < w.heap.size) ∧ w.heap.size ≤ W2.heap.size ∧ W2.heap.size < W3.heap.size ∧ W3.heap.size < W4.heap.size ∧ T < w.heap.size ∧ lo ≤ T) := show _ ∧ _ from ⟨hft, s2, s3, s4, hT, hlo⟩
  have HA : Hid (∀ W, Below W4.heap.size W4 W → W.cell? ⟨w.heap.size, 0, none⟩ = some (.pointer (some ⟨T, 0, none⟩)) ∧ W.cell? ⟨w.heap.size + 1, 0, none⟩ = some (.int .i64 x.kind) ∧ W.cell? ⟨w.heap.size + 1, 1, none⟩ = some (encStr x.path) ∧ W.cell? ⟨w.heap.size + 1, 2, none⟩ = some (encStr x.other) ∧ W.cell? ⟨w.heap.size + 1, 3, none⟩ = some (.int .i64 x.place) ∧ W.cell? ⟨w.heap.size + 1, 4, none⟩ = some (.int .i64 x.many) ∧ W.cell? ⟨w.heap.size + 1, 5, none⟩ = some x.ub ∧ Below W4.heap.size W4 W) := show ∀ W, _ from fun W hW => by
    have a := hA W (hb24.trans (hW.mono hb24.size))
    exact ⟨a.w, a.c0, a.c1, a.c2, a.c3, a.c4, a.c5, hW⟩
  obtain ⟨ua, uc, hu, -⟩ := hx.fb.form
  obtain ⟨p, hp2⟩ : ∃ p, encStr x.path = p := ⟨_, rfl⟩
  obtain ⟨q, hq⟩ : ∃ p, encStr x.other = p := ⟨_, rfl⟩
  obtain ⟨pl, hpl⟩ : ∃ y, x.place = y := ⟨_, rfl⟩
  obtain ⟨mn, hmn⟩ : ∃ y, x.many = y := ⟨_, rfl⟩
  obtain ⟨kd, hkd⟩ : ∃ y, x.kind = y := ⟨_, rfl⟩
  obtain ⟨un, hun⟩ : ∃ y, (bytesN x.bytes).length = y := ⟨_, rfl⟩
  obtain ⟨R, hR⟩ : ∃ y, doneR t x = y := ⟨_, rfl⟩
  unfold DoneR
  unfold opA at hW2 HDD ⊢
  rw [hu, hp2, hq, hpl, hmn, hkd, hun, hR] at HDD
  rw [hu, hp2, hq, hpl, hmn, hkd, hun] at HA
  rw [hu, hp2, hq, hpl, hmn, hkd, hun] at hW2
  rw [hu, hp2, hq, hpl, hmn, hkd, hun, hR]
  obtain ⟨Q, hQ⟩ : ∃ Q, resQ t x = Q := ⟨_, rfl⟩
  have HQT : Hid (∀ X W, Q X W → ∃ e k l n a1 n1 c1 a2 n2 c2, X = resA e k l n a1 n1 c1 a2 n2 c2) := show ∀ X W, _ from fun X W hq => by rw [← hQ] at hq; exact resQ_form hq
  have HQS : Hid (∀ X (W W' : World) (q : Nat → Prop), Q X W → Turn q W W' → (∀ j, q j → j < W.heap.size → NoStr W j) → (∀ j, q j → j < W.heap.size → NoU8 W j) → Q X W') := show ∀ X W W' q, _ from fun X W W' q hq a b c => by
    rw [← hQ] at hq ⊢
    exact resQ_turn hq a b c
  rw [hQ] at HDD ⊢
  clear h hm hx hk hb hA hb3 hx3 hb4 hx4 s2 s3 s4 hft hT hlo hb24 hb04 hx34 hu hp2 hq hpl hmn hkd hun hR hQ
  unfold zeroRes at hW3 hW4
  go_enter Tryz.func39, Tryz.ntmps39
  go_wp2_with fail
  clear hW2 hW3 hW4
  have hR := HA.out _ (Below.refl _ W4).drew
  refine wp_region_M 6 (fun V : World => V.cell? ⟨w.heap.size, 0, none⟩ = some (.pointer (some ⟨T, 0, none⟩)) ∧ V.cell? ⟨w.heap.size + 1, 0, none⟩ = some (.int .i64 kd) ∧ V.cell? ⟨w.heap.size + 1, 1, none⟩ = some p ∧ V.cell? ⟨w.heap.size + 1, 2, none⟩ = some q ∧ V.cell? ⟨w.heap.size + 1, 3, none⟩ = some (.int .i64 pl) ∧ V.cell? ⟨w.heap.size + 1, 4, none⟩ = some (.int .i64 mn) ∧ V.cell? ⟨w.heap.size + 1, 5, none⟩ = some (.slice ua un uc) ∧ Below W4.heap.size W4 V) (by kernel_rfl) ?_
  (refine wpAnyM_take2 8 (i := 1) (v := ?_) rfl (by kernel_rfl) (by kernel_rfl) (fun _ _ _ h => h) (Or.inl ⟨by rfl, ?_⟩) hR ?_; rotate_left; (focus (intro w hSw; (try dsimp only at hSw); go_simp; (try with_reducible rfl))); (try simp only [put_laws])); (refine wpAnyM_take2 8 (i := 2) (v := ?_) rfl (by kernel_rfl) (by kernel_rfl) (fun _ _ _ h => h) (Or.inl ⟨by rfl, ?_⟩) hR ?_; rotate_left; (focus (intro w hSw; (try dsimp only at hSw); go_simp; (try with_reducible rfl))); (try simp only [put_laws])); (refine wpAnyM_take2 8 (i := 4) (v := ?_) rfl (by kernel_rfl) (by kernel_rfl) (fun _ _ _ h => h) (Or.inl ⟨by rfl, ?_⟩) hR ?_; rotate_left; (focus (intro w hSw; (try dsimp only at hSw); go_simp; (try with_reducible rfl))); (try simp only [put_laws])); (refine wpAnyM_take2 8 (i := 5) (v := ?_) rfl (by kernel_rfl) (by kernel_rfl) (fun _ _ _ h => h) (Or.inl ⟨by rfl, ?_⟩) hR ?_; rotate_left; (focus (intro w hSw; (try dsimp only at hSw); go_simp; (try with_reducible rfl))); (try simp only [put_laws]))
  have HD : Hid (Below W4.heap.size W4 W4.drew) := show Below _ _ _ from (Below.refl _ W4).drew
  obtain ⟨V0, hV0⟩ : ∃ V0, W4.drew = V0 := ⟨_, rfl⟩
  rw [hV0] at hR HD ⊢
  clear hV0
  (refine wpAnyM_one (i := 0) rfl (by kernel_rfl) (fun K hK => ?_); rw [if_pos (by rfl)]; (try simp only [elem_laws]))
  go_simp
  refine (HKI.out V0).mono ?_
  rintro e w1 ⟨l, rfl, hki⟩
  have hbw1 := HD.out.trans (hki.below.mono HD.out.size)
  have hR' := HA.out _ hbw1
  obtain ⟨f, b, hlk, he, hc⟩ := HDD.out V0 w1 l HD.out hki
  have HC := Lib.hid hc
  have HW1 := Lib.hid hbw1
  have e0 : ∀ args W, (callFunc f args).run Tryz.prog W = .ok (.enter f args) W := he
  refine hK _ _ (fun _ => hR') ?_
  clear hK K hR hki hc he hbw1
  have hR := hR'
  clear hR'
  (try simp only [put_laws])
  (refine wpAnyM_one (i := 3) rfl (by kernel_rfl) (fun K hK => ?_); rw [if_pos (by rfl)]; (try simp only [elem_laws]))
  go_simp
  refine hK _ _ (fun _ => hR) ?_
  clear hK K hlk
  (try simp only [put_laws])
  (refine wpAnyM_last rfl (by kernel_rfl) (fun K hK => ?_); rw [if_pos (by rfl)]; (try simp only [elem_laws]))
  go_simp
  refine HC.out.mono ?_
  rintro e w2 ⟨⟨G', g1, g2, g3⟩, ⟨X, u, rfl, hX, hq⟩ | ⟨hc, rfl⟩⟩
  · obtain ⟨hft, s2, s3, s4, hT, hlo⟩ := HN.out
    have hw1 := HB.out.trans (HW1.out.mono HB.out.size)
    have sw1 := HW1.out.size
    have sw0 := HB.out.size
    have hz1 := HZ.out w1 HW1.out
    have hz2 : Blk w2 W2.heap.size 44 zeroRes := hz1.turn g2 (fun hh => by
      rcases hh with hh | hh | hh
      · have := hft _ hh; omega
      · omega
      · have := hz1.lt; omega)
    obtain ⟨e1, k1, l1, n1, a1, m1, c1, a2, m2, c2, rfl⟩ := HQT.out _ _ hq
    have st : ∀ (W : World) (k : Nat) (v : Value), Turn (fun j => j = W2.heap.size) W (W.setCell ⟨W2.heap.size, k, none⟩ v) := fun W k v => Turn.setCell W v rfl
    have ht : Turn (fun j => j = W2.heap.size) w2 ((((((w2.setCell ⟨W2.heap.size, 0, none⟩ (.int .i64 e1)).setCell ⟨W2.heap.size, 1, none⟩ (.int .i64 k1)).setCell ⟨W2.heap.size, 2, none⟩ (.int .i64 l1)).setCell ⟨W2.heap.size, 3, none⟩ (.int .i64 n1)).setCell ⟨W2.heap.size, 4, none⟩ (.slice a1 m1 c1)).setCell ⟨W2.heap.size, 5, none⟩ (.slice a2 m2 c2)) :=
      (((((st _ _ _).trans (st _ _ _)).trans (st _ _ _)).trans (st _ _ _)).trans (st _ _ _)).trans (st _ _ _)
    clear st
    have hbx : Blk ((((((w2.setCell ⟨W2.heap.size, 0, none⟩ (.int .i64 e1)).setCell ⟨W2.heap.size, 1, none⟩ (.int .i64 k1)).setCell ⟨W2.heap.size, 2, none⟩ (.int .i64 l1)).setCell ⟨W2.heap.size, 3, none⟩ (.int .i64 n1)).setCell ⟨W2.heap.size, 4, none⟩ (.slice a1 m1 c1)).setCell ⟨W2.heap.size, 5, none⟩ (.slice a2 m2 c2)) W2.heap.size 44 (resA e1 k1 l1 n1 a1 m1 c1 a2 m2 c2) := (((((hz2.set 0 _).set 1 _).set 2 _).set 3 _).set 4 _).set 5 _
    have hq2 := HQS.out _ _ _ _ hq ht (fun j hj _ => by rw [hj]; exact zeroRes_noStr hz2) (fun j hj _ => by rw [hj]; exact zeroRes_noU8 hz2)
    have gf : ∀ j, Foot G' j → Foot G j ∨ w.heap.size ≤ j := fun j hj => (g3 j hj).imp id fun h => by omega
    have ng : ¬ Foot G' W2.heap.size := fun hh => by
      rcases g3 _ hh with hh | hh
      · have := hft _ hh; omega
      · omega
    have g5 := g1.turn ht (fun j hj _ => by rw [hj]; exact zeroRes_noU8 hz2) (fun j hj => by rw [hj]; exact ng) (fun ee => by omega) (fun j hj => by rw [hj]; omega)
    have ht5 : Turn (fun j => Foot G j ∨ w.heap.size ≤ j) w _ := ((Turn.of_below hw1 (Nat.le_refl _)).trans (g2.mono fun j hj => by
      rcases hj with hj | hj | hj
      · exact .inl hj
      · exact .inr (by omega)
      · exact .inr (by omega))).trans (ht.mono fun j hj => .inr (by omega))
    have HG : Hid ((∃ G', TreeR lo _ T r G' (m + 1) R.1 ∧ Turn (fun j => Foot G j ∨ w.heap.size ≤ j) w _ ∧ ∀ j, Foot G' j → Foot G j ∨ w.heap.size ≤ j) ∧ Q (resA e1 k1 l1 n1 a1 m1 c1 a2 m2 c2) _) := show _ ∧ _ from ⟨⟨G', g5, ht5, gf⟩, hq2⟩
    have HBX := Lib.hid hbx
    refine hK _ _ ?_
    have hX2 : Blk w2 W3.heap.size 44 #[.int .i64 e1, .int .i64 k1, .int .i64 l1, .int .i64 n1, .slice a1 m1 c1, .slice a2 m2 c2] := hX
    have y0 := hX2.cell (j := 0) rfl
    have y1 := hX2.cell (j := 1) rfl
    have y2 := hX2.cell (j := 2) rfl
    have y3 := hX2.cell (j := 3) rfl
    have y4 := hX2.cell (j := 4) rfl
    have y5 := hX2.cell (j := 5) rfl
    clear hX2
    have z0 := hz2.cell (j := 0) rfl
    have z1 := hz2.cell (j := 1) rfl
    have z2 := hz2.cell (j := 2) rfl
    have z3 := hz2.cell (j := 3) rfl
    have z4 := hz2.cell (j := 4) rfl
    have z5 := hz2.cell (j := 5) rfl
    have f0 := hz2.frozen 0
    have f1 := hz2.frozen 1
    have f2 := hz2.frozen 2
    have f3 := hz2.frozen 3
    have f4 := hz2.frozen 4
    have f5 := hz2.frozen 5
    clear hK K hR hft s2 s3 s4 hT hlo hw1 sw1 sw0 hz1 hz2 ht hbx hq2 gf ng g5 ht5 g1 g2 g3 hq hX
    (try simp only [put_laws])
    refine wpAnyM_done (by kernel_rfl) ?_ _
    go_wp2_with fail
    exact bodyPost_ret (results_cell (fn := Tryz.f39) rfl rfl (HBX.out.loadVar (tt := 44) Tryz.underlying44 rfl (by kernel_rfl))) rfl ⟨HG.out.1, .inl ⟨_, rfl, HG.out.2⟩⟩
  · obtain ⟨hft, s2, s3, s4, hT, hlo⟩ := HN.out
    have hw1 := HB.out.trans (HW1.out.mono HB.out.size)
    have sw1 := HW1.out.size
    have sw0 := HB.out.size
    exact ⟨rfl, ⟨G', g1, (Turn.of_below hw1 (Nat.le_refl _)).trans (g2.mono fun j hj => by
      rcases hj with hj | hj | hj
      · exact .inl hj
      · exact .inr (by omega)
      · exact .inr (by omega)), fun j hj => (g3 j hj).imp id fun h => by omega⟩, .inr ⟨hc, rfl⟩⟩
end Go.Proofs.YtgoemaecdolioaaGreatDoor
