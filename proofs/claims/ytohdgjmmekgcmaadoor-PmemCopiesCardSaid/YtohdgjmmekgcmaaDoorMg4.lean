/-
  Texts PmD to PmE, as one.
-/
import Derived.Test.YtohdgjmmekgcmaaDoorMg3
/-
  pmem: where a device lies.
-/
namespace Go.Proofs.YtohdgjmmekgcmaaDoor
open Go.RowKit Go.Shelf

/-- A load of which the run is known. -/
theorem wpList_load_eq {P : Program} {ops : Array Oper} {rest : List Oper} {op : Oper} {a : Act} {w : World} {Q : Exit → Act → World → Prop} (hgd : op.guard = none) (ty : TypeId) (x : Operand) (ho : op.op = .load ty x)
    (p v : Value) (hx : a.eval x = p) (hr : (Instr.loadAt ty p).run P w = .ok v w) (h : wpList P ops Q rest (a.put op.dst v) w) : wpList P ops Q (op :: rest) a w :=
  wpList_plain hgd fun _ hK => by
    unfold Oper.wp execOp
    simp only [ho, hx, hr, Sem.run_bind, Result.andThen_ok]
    exact hK _ _ h
/-- A store of which the run is known. -/
theorem wpList_store_eq {P : Program} {ops : Array Oper} {rest : List Oper} {op : Oper} {a : Act} {w w' : World} {Q : Exit → Act → World → Prop} (hgd : op.guard = none) (ty : TypeId) (x y : Operand) (ho : op.op = .store ty x y)
    (p v : Value) (hx : a.eval x = p) (hy : a.eval y = v) (hr : (Instr.storeAt ty p v).run P w = .ok () w') (h : wpList P ops Q rest (a.put op.dst undef) w') : wpList P ops Q (op :: rest) a w :=
  wpList_plain hgd fun _ hK => by
    unfold Oper.wp execOp
    simp only [ho, hx, hy, hr, Sem.run_bind, Result.andThen_ok]
    exact hK _ _ h
/-- A slice of elements of so many cells: empty with no room, or a row that a call owns. -/
def GrowV (W : World) (e : TypeId) (size : Nat) (v : Value) (n : Nat) (xs : List Value) : Prop :=
  (n = 0 ∧ xs = [] ∧ ∃ ad, v = .slice (some ad) 0 0) ∨ W.ownsRow 0 e size v n xs
/-- Its block, if it has one. -/
def OwnIn (F : Nat → Prop) (v : Value) : Prop := (∃ ad, v = .slice (some ad) 0 0) ∨ ∀ g, v.ownBlock = some g → F g
/-- A device that lies in block B, with lines in S and T; q: what waits. -/
structure DevB (W : World) (F : Nat → Prop) (B S T n cS cT : Nat) (q : Value) (d : Dv) : Prop where
  ok : d.Ok n
  pos : 0 < n
  most : n ≤ 1024
  dev : W.heap[B]? = some (.cells #[.slice (some ⟨S, 0, none⟩) n cS, .slice (some ⟨T, 0, none⟩) n cT, q] 99 (0, 0))
  seen : W.ownsRow 0 110 8 (.slice (some ⟨S, 0, none⟩) n cS) n (vals d.seen)
  stays : W.ownsRow 0 110 8 (.slice (some ⟨T, 0, none⟩) n cT) n (vals d.stays)
  waits : GrowV W 113 9 q d.waits.length (cellsW d.waits)
  apart : S ≠ T
  inB : F B
  inS : F S
  inT : F T
  inQ : OwnIn F q
  far : ∀ k, F k → 0 < k
  live : ∀ k, F k → k < W.heap.size
def DevAt (W : World) (F : Nat → Prop) (B n : Nat) (d : Dv) : Prop := ∃ S T cS cT q, DevB W F B S T n cS cT q d
/-- F, and what is new. -/
def more (F : Nat → Prop) (W W' : World) : Nat → Prop := fun k => F k ∨ (W.heap.size ≤ k ∧ k < W'.heap.size)
theorem GrowV.keeps {W W' : World} {e : TypeId} {size : Nat} {v : Value} {n : Nat} {xs : List Value} {F : Nat → Prop} (h : GrowV W e size v n xs) (hF : OwnIn F v) (hk : ∀ k, F k → k < W.heap.size → W'.heap[k]? = W.heap[k]?) : GrowV W' e size v n xs := by
  rcases h with h | h
  · exact .inl h
  · rcases hF with ⟨ad, rfl⟩ | hF
    · refine .inl ?_
      rcases h.2 with ⟨e0, _⟩ | ⟨g, cap, cur, e0, _, _, h1, _, h2, _⟩
      · cases e0
      · simp only [Value.slice.injEq] at e0
        obtain ⟨-, rfl, rfl⟩ := e0
        refine ⟨rfl, ?_, ad, rfl⟩
        have := h.1
        rw [Nat.zero_mul] at this
        exact List.eq_nil_of_length_eq_zero this
    · refine .inr ⟨h.1, h.2.imp id fun ⟨g, cap, cur, hv, hb, hg, hr⟩ => ⟨g, cap, cur, hv, hb, ?_, hr⟩⟩
      rw [hk g (hF g (by rw [hv]; rfl)) (Array.getElem?_eq_some_iff.1 hg).1]
      exact hg
theorem own_keeps {W W' : World} {e : TypeId} {size B c : Nat} {n : Nat} {xs : List Value} (h : W.ownsRow 0 e size (.slice (some ⟨B, 0, none⟩) n c) n xs) (hk : B < W.heap.size → W'.heap[B]? = W.heap[B]?) : W'.ownsRow 0 e size (.slice (some ⟨B, 0, none⟩) n c) n xs := by
  refine ⟨h.1, h.2.imp id fun ⟨g, cap, cur, hv, hb, hg, hr⟩ => ⟨g, cap, cur, hv, hb, ?_, hr⟩⟩
  simp only [Value.slice.injEq, Option.some.injEq, Addr.mk.injEq, and_true, true_and] at hv
  obtain ⟨rfl, rfl⟩ := hv
  rw [hk (Array.getElem?_eq_some_iff.1 hg).1]
  exact hg
theorem own_lt2 {W : World} {e : TypeId} {size B c : Nat} {n : Nat} {xs : List Value} (h : W.ownsRow 0 e size (.slice (some ⟨B, 0, none⟩) n c) n xs) : B < W.heap.size := (h.lt B rfl).2
section
variable {W W' : World} {F : Nat → Prop} {B S T n cS cT : Nat} {q : Value} {d : Dv}
theorem DevB.lt (h : DevB W F B S T n cS cT q d) : B < W.heap.size ∧ S < W.heap.size ∧ T < W.heap.size := ⟨(Array.getElem?_eq_some_iff.1 h.dev).1, own_lt2 h.seen, own_lt2 h.stays⟩
theorem DevB.keeps (h : DevB W F B S T n cS cT q d) (hk : ∀ k, F k → k < W.heap.size → W'.heap[k]? = W.heap[k]?) (hs : W.heap.size ≤ W'.heap.size) : DevB W' F B S T n cS cT q d :=
  ⟨h.ok, h.pos, h.most, (hk B h.inB h.lt.1).trans h.dev, own_keeps h.seen (hk S h.inS), own_keeps h.stays (hk T h.inT), h.waits.keeps h.inQ hk, h.apart, h.inB, h.inS, h.inT, h.inQ, h.far, fun k hk => Nat.lt_of_lt_of_le (h.live k hk) hs⟩
theorem DevB.mono {F' : Nat → Prop} (h : DevB W F B S T n cS cT q d) (hF : ∀ k, F k → F' k) (hf : ∀ k, F' k → 0 < k ∧ k < W.heap.size) : DevB W F' B S T n cS cT q d :=
  ⟨h.ok, h.pos, h.most, h.dev, h.seen, h.stays, h.waits, h.apart, hF _ h.inB, hF _ h.inS, hF _ h.inT, h.inQ.imp id fun g k hk => hF _ (g k hk), fun k hk => (hf k hk).1, fun k hk => (hf k hk).2⟩
theorem DevB.cell0 (h : DevB W F B S T n cS cT q d) : W.cell? ⟨B, 0, none⟩ = some (.slice (some ⟨S, 0, none⟩) n cS) := by simp [World.cell?, h.dev]
theorem DevB.cell1 (h : DevB W F B S T n cS cT q d) : W.cell? ⟨B, 1, none⟩ = some (.slice (some ⟨T, 0, none⟩) n cT) := by simp [World.cell?, h.dev]
theorem DevB.cell2 (h : DevB W F B S T n cS cT q d) : W.cell? ⟨B, 2, none⟩ = some q := by simp [World.cell?, h.dev]
theorem DevB.frozen (h : DevB W F B S T n cS cT q d) (o : Nat) : W.frozen? ⟨B, o, none⟩ = false := by simp [World.frozen?, h.dev]
theorem row_word {e : TypeId} {c : Nat} {ws : List Int} (h : W.ownsRow 0 e 8 (.slice (some ⟨S, 0, none⟩) n c) n (vals ws)) (k : Nat) (hk : k < n * 8) : W.cell? ⟨S, k, none⟩ = some (.int .u64 (ws[k]?.getD 0)) := by
  rw [h.cellAt k (by omega)]
  exact vals_at ws k (by have := h.1; rw [vals_length] at this; omega)
theorem row_frozen {e : TypeId} {size c : Nat} {xs : List Value} (h : W.ownsRow 0 e size (.slice (some ⟨S, 0, none⟩) n c) n xs) (k : Nat) : W.frozen? ⟨S, k, none⟩ = false := h.frozenAt k
/-- The cells of a row from o on. -/
theorem row_range {e : TypeId} {size c : Nat} {xs : List Value} (h : W.ownsRow 0 e size (.slice (some ⟨S, 0, none⟩) n c) n xs) (o k : Nat) : W.rangeAt S o ((xs.drop o).take k) := fun j v hv => by
  have hj : o + j < n * size := by
    have := (List.getElem?_eq_some_iff.1 hv).1
    rw [List.length_take, List.length_drop, h.1] at this
    omega
  rw [h.cellAt _ hj]
  rw [List.getElem?_take] at hv
  split at hv
  · rw [List.getElem?_drop] at hv
    exact hv
  · cases hv
theorem vals_line {ws : List Int} (j : Nat) : ((vals ws).drop (j * 8)).take 8 = vals (lineAt ws j) := by simp [vals, lineAt, List.map_take, List.map_drop]
/-- Cells put into a row. -/
theorem row_cells {e : TypeId} {size c : Nat} : ∀ (vs : List Value) (o : Nat) (W : World) (xs : List Value), o + vs.length ≤ n * size → W.ownsRow 0 e size (.slice (some ⟨S, 0, none⟩) n c) n xs →
      (W.setCells S o vs).ownsRow 0 e size (.slice (some ⟨S, 0, none⟩) n c) n (xs.take o ++ vs ++ xs.drop (o + vs.length)) ∧ Turn (fun k => k = S) W (W.setCells S o vs) := by
  intro vs
  induction vs with
  | nil => intro o W xs ho hx; exact ⟨by simpa [World.setCells] using hx, Turn.refl _ _⟩
  | cons v r ih =>
    intro o W xs ho hx
    rw [List.length_cons] at ho
    have h1 := (hx.stored o v).1
    obtain ⟨h2, h3⟩ := ih (o + 1) _ _ (by omega) h1
    rw [World.setCells]
    refine ⟨?_, (Turn.setCell (q := fun k => k = S) W v rfl).trans h3⟩
    have hxl := hx.1
    have e1 : (xs.set o v).take (o + 1) = xs.take o ++ [v] := by
      rw [List.take_set, List.take_add_one, List.getElem?_eq_getElem (by omega)]
      rw [List.set_append_right _ _ (by rw [List.length_take]; omega), List.length_take, Nat.min_eq_left (by omega)]
      simp
    have e2 : (xs.set o v).drop (o + 1 + r.length) = xs.drop (o + (v :: r).length) := by
      rw [List.drop_set_of_lt (by omega), List.length_cons]; congr 1; omega
    rw [e1, e2] at h2
    simpa using h2
theorem row_there {e : TypeId} {size c : Nat} {xs : List Value} (h : W.ownsRow 0 e size (.slice (some ⟨S, 0, none⟩) n c) n xs) (o k : Nat) (hk : o + k ≤ n * size) : W.there S o k := fun j hj => by
  refine ⟨?_, h.frozenAt _⟩
  rw [h.cellAt _ (by omega), List.getElem?_eq_getElem (by have := h.1; omega)]
  rfl
/-- A row's beginning. -/
theorem row_to {e : TypeId} {size c : Nat} {xs : List Value} (h : W.ownsRow 0 e size (.slice (some ⟨S, 0, none⟩) n c) n xs) (k : Nat) (hk : k ≤ n) : W.ownsRow 0 e size (.slice (some ⟨S, 0, none⟩) k c) k (xs.take (k * size)) := by
  obtain ⟨h0, h1⟩ := h
  have hm : k * size ≤ n * size := Nat.mul_le_mul_right _ hk
  refine ⟨by rw [List.length_take, h0, Nat.min_eq_left hm], ?_⟩
  rcases h1 with ⟨e0, _⟩ | ⟨g, cap, cur, e0, hb, hg, hc, hmx, hs, ht⟩
  · cases e0
  · simp only [Value.slice.injEq, Option.some.injEq, Addr.mk.injEq, and_true, true_and] at e0
    obtain ⟨rfl, rfl⟩ := e0
    refine .inr ⟨S, c, cur, rfl, hb, hg, Nat.le_trans hk hc, hmx, hs, ?_⟩
    rw [← ht, List.take_take, Nat.min_eq_left hm]
/-- A line put into a row. -/
theorem row_putLine {e : TypeId} {c : Nat} {ws : List Int} (h : W.ownsRow 0 e 8 (.slice (some ⟨S, 0, none⟩) n c) n (vals ws)) (j : Nat) (hj : j < n) (l : List Int) (hl : l.length = 8) :
    (W.setCells S (j * 8) (vals l)).ownsRow 0 e 8 (.slice (some ⟨S, 0, none⟩) n c) n (vals (putLine ws j l)) ∧ Turn (fun k => k = S) W (W.setCells S (j * 8) (vals l)) := by
  have := row_cells (vals l) (j * 8) W (vals ws) (by rw [vals_length, hl]; omega) h
  refine ⟨?_, this.2⟩
  have e1 : vals (putLine ws j l) = (vals ws).take (j * 8) ++ vals l ++ (vals ws).drop (j * 8 + (vals l).length) := by
    unfold putLine; rw [vals_append, vals_append, vals_take, vals_drop, vals_length, hl]
  rw [e1]
  exact this.1
end
end Go.Proofs.YtohdgjmmekgcmaaDoor

/-
  pmem: what is missing, what is beyond; a word asked and put.
-/
namespace Go.Proofs.YtohdgjmmekgcmaaDoor
open Go.RowKit Go.Shelf

theorem quiet_eq {P : Program} {f : FuncId} {args : Array Value} {w : World} {n : Nat} {v : Value}
    (h : Calls P f args (w.drewN n) fun e w' => e = .returned v ∧ w.drewN n = w') : Calls P f args (w.drewN n) fun e w'' => e = .returned v ∧ ∃ m, w'' = w.drewN m :=
  h.mono fun _ _ ⟨he, hm⟩ => ⟨he, n, hm.symm⟩
/-- No device: nil, or a zero one. -/
def NoDev (W : World) (v : Value) : Prop := v = .pointer none ∨ ∃ B, v = .pointer (some ⟨B, 0, none⟩) ∧ W.heap[B]? = some (.cells #[.slice none 0 0, .slice none 0 0, .slice none 0 0] 99 (0, 0))
theorem NoDev.below {W W' : World} {v : Value} (h : NoDev W v) (hb : Below W.heap.size W W') : NoDev W' v :=
  h.imp id fun ⟨B, hv, hB⟩ => ⟨B, hv, (hb.block B (Array.getElem?_eq_some_iff.1 hB).1).trans hB⟩
theorem missing_any {F : Nat → Prop} {B S T n cS cT : Nat} {q : Value} {d : Dv} (w : World) (h : DevB w F B S T n cS cT q d) :
    Calls Tryd.prog 52 #[.pointer (some ⟨B, 0, none⟩)] w fun e w' => e = .returned (.int .i64 0) ∧ w = w' := by
  have c0 := h.cell0
  have hB := h.lt.1
  have hn : ((n : Int) == 0) = false := by have := h.pos; simp; omega
  clear h
  go_enter Tryd.func52, Tryd.ntmps52
  go_wp2
  go_ret
  exact ⟨rfl, rfl⟩
theorem missing_no {v : Value} (w : World) (h : NoDev w v) :
    Calls Tryd.prog 52 #[v] w fun e w' => e = .returned (.int .i64 1) ∧ w = w' := by
  rcases h with rfl | ⟨B, rfl, hB⟩
  · go_enter Tryd.func52, Tryd.ntmps52
    go_wp2
    go_ret
    exact ⟨rfl, rfl⟩
  · have c0 : w.cell? ⟨B, 0, none⟩ = some (.slice none 0 0) := by simp [World.cell?, hB]
    have hlt := (Array.getElem?_eq_some_iff.1 hB).1
    clear hB
    go_enter Tryd.func52, Tryd.ntmps52
    go_wp2
    go_ret
    exact ⟨rfl, rfl⟩
theorem beyond_any (a : Option Addr) (n c : Nat) (i : Int) (w : World) :
    Calls Tryd.prog 92 #[.slice a n c, .int .i64 i] w fun e w' => e = .returned (.int .i64 (errR (inR n i))) ∧ w = w' := by
  unfold errR
  by_cases h1 : i < 0
  · have hi : inR n i = false := decide_eq_false (by omega)
    rw [hi]; clear hi
    go_enter Tryd.func92, Tryd.ntmps92
    go_wp2
    go_ret
    exact ⟨rfl, rfl⟩
  · by_cases h2 : (n : Int) ≤ i
    · have hi : inR n i = false := decide_eq_false (by omega)
      rw [hi]; clear hi
      go_enter Tryd.func92, Tryd.ntmps92
      go_wp2
      go_ret
      exact ⟨rfl, rfl⟩
    · have hi : inR n i = true := decide_eq_true (by omega)
      rw [hi]; clear hi
      go_enter Tryd.func92, Tryd.ntmps92
      go_wp2
      go_ret
      exact ⟨rfl, rfl⟩
theorem word_any {n c S : Nat} {ws : List Int} (j v : Nat) (hj : j < n) (hv : v < 8) (w : World) (h : w.ownsRow 0 110 8 (.slice (some ⟨S, 0, none⟩) n c) n (vals ws)) :
    Calls Tryd.prog 63 #[.slice (some ⟨S, 0, none⟩) n c, .agg #[.int .i64 j, .int .i64 v]] w fun e w' => e = .returned (.int .u64 (ws[j * 8 + v]?.getD 0)) ∧ Below w.heap.size w w' := by
  have c0 := row_word h (j * 8 + v) (by omega)
  have hS := own_lt2 h
  have hv' : (v : Int) < 8 := by omega
  clear h
  go_enter Tryd.func63, Tryd.ntmps63
  go_wp2
  go_region
  all_goals go_wp2
  all_goals go_ret
  all_goals exact ⟨rfl, (by repeat (first | exact Below.refl _ _ | assumption | refine Below.drew ?_ | refine below_drewN ?_ _ | refine Below.alloc ?_ (by (try simp) <;> omega) _ | refine Below.setCell ?_ (by (try simp) <;> omega) _ | refine Below.trans ?_ (Below.mono (by assumption) (by (try simp) <;> omega))))⟩
theorem put_any {n c S : Nat} {ws : List Int} (j v : Nat) (x : Int) (hj : j < n) (hv : v < 8) (w : World) (h : w.ownsRow 0 110 8 (.slice (some ⟨S, 0, none⟩) n c) n (vals ws)) :
    Calls Tryd.prog 62 #[.slice (some ⟨S, 0, none⟩) n c, .agg #[.int .i64 j, .int .i64 v], .int .u64 x] w fun e w' => (∃ u, e = .returned u) ∧ Turn (fun k => k = S) w w' ∧ w'.ownsRow 0 110 8 (.slice (some ⟨S, 0, none⟩) n c) n (vals (ws.set (j * 8 + v) x)) := by
  have c0 := row_word h (j * 8 + v) (by omega)
  have f0 := row_frozen h (j * 8 + v)
  have hS := own_lt2 h
  have hv' : (v : Int) < 8 := by omega
  have HW := Lib.hid h
  clear h
  go_enter Tryd.func62, Tryd.ntmps62
  go_wp2
  go_region
  all_goals go_wp2
  all_goals go_end0
  all_goals refine ⟨⟨_, rfl⟩, (Turn.setCell (q := fun k => k = S) w _ rfl).trans (Turn.of_below (((Below.refl _ _).alloc (Nat.le_refl _) _).drew) (Nat.le_refl _)), ?_⟩
  all_goals rw [vals_set]; exact (((HW.out.stored _ _).1.alloc _).drew)
end Go.Proofs.YtohdgjmmekgcmaaDoor

/-
  pmem: questions asked in order; a place found; what a line's number says.
-/
namespace Go.Proofs.YtohdgjmmekgcmaaDoor
open Go.RowKit Go.Shelf

set_option maxHeartbeats 1000000 in
theorem first_any (fs : List Value) (A0 : Nat) (hm : fs.length ≤ 1000) (J : Nat → World → Prop) (R : Int → World → Prop) (w : World)
    (hcell : ∀ k W, J k W → ∀ j v, fs[j]? = some v → W.cell? ⟨A0, j, none⟩ = some v)
    (hstep : ∀ k W, k < fs.length → J k W → ∃ g pre post, fs[k]? = some (.func (.func g) pre post) ∧ (∀ args w, (callFunc g args).run Tryd.prog w = .ok (.enter g args) w) ∧
      Calls Tryd.prog g (pre ++ post) W fun e W' => ∃ a, e = .returned (.int .i64 a) ∧ (a = 0 → J (k + 1) W') ∧ (a ≠ 0 → R a W'))
    (hend : ∀ W, J fs.length W → R 0 W) (h0 : J 0 w) :
    Calls Tryd.prog 88 #[.int .i64 0, .slice (some ⟨A0, 0, none⟩) fs.length fs.length] w fun e w' => ∃ a, e = .returned (.int .i64 a) ∧ R a w' := by
  have HC := Lib.hid hcell
  have HS := Lib.hid hstep
  have HE := Lib.hid hend
  have H0 := Lib.hid h0
  clear hcell hstep hend h0
  obtain ⟨m, hm'⟩ : ∃ m, fs.length = m := ⟨_, rfl⟩
  rw [hm'] at hm HE ⊢
  have HM := Lib.hid hm'; clear hm'
  go_enter Tryd.func88, Tryd.ntmps88
  go_wp2_with fail
  go_loopw [10] (fun i wr => ∃ k : Nat, k ≤ m ∧ i = .int .i64 (k : Nat) ∧ Hid (J k wr)) (fun i _ => m - (intOf i).toNat)
  case atStart => exact ⟨0, by omega, rfl, H0⟩
  case round =>
    obtain ⟨k, hk, rfl, HJ⟩ := hrel
    by_cases hlt : k < m
    · obtain ⟨g, pre, post, hf, eg, hc⟩ := HS.out k wr (by rw [HM.out]; exact hlt) HJ.out
      have hc0 := HC.out k wr HJ.out k _ hf
      have HCC := Lib.hid hc
      have k2 : (k : Int) < (m : Int) := by omega
      clear hc hf
      go_wp2_with fail
      refine HCC.out.mono ?_
      rintro e W' ⟨a, rfl, ha0, ha1⟩
      have HA0 := Lib.hid ha0
      have HA1 := Lib.hid ha1
      clear ha0 ha1 hc0
      by_cases ha : a = 0
      · have HJ' : Hid (J (k + 1) W') := HA0.out ha
        subst ha
        go_wp2_with fail
        go_roundw
        case rel => exact ⟨k + 1, by omega, by go_num, HJ'⟩
        case measure => simp [intOf]; omega
      · have HR : Hid (R a W') := HA1.out ha
        have ha' : (a == 0) = false := by simpa using ha
        go_wp2_with fail
        go_ret
        exact ⟨_, rfl, HR.out⟩
    · go_wp2_with fail
      go_ret
      obtain rfl : k = m := by omega
      exact ⟨_, rfl, HE.out _ HJ.out⟩
/-- A block that holds one device's pointer, or a number. -/
theorem refuses1_any {F : Nat → Prop} {B S T n cS cT : Nat} {q : Value} {d : Dv} (P0 P1 : Nat) (i : Int) (w : World) (h : DevB w F B S T n cS cT q d) (h0 : Boxed w P0 29 (.pointer (some ⟨B, 0, none⟩))) (h1 : Boxed w P1 3 (.int .i64 i)) :
    Calls Tryd.prog 93 #[.pointer (some ⟨P0, 0, none⟩), .pointer (some ⟨P1, 0, none⟩)] w fun e w' => e = .returned (.int .i64 (errR (inR n i))) ∧ Below w.heap.size w w' := by
  have c0 := h.cell0
  have hB := h.lt.1
  have e0 := h0.cell
  have e1 := h1.cell
  have hl0 := h0.lt
  have hl1 := h1.lt
  clear h h0 h1
  go_enter Tryd.func93, Tryd.ntmps93
  go_wp2
  go_quiet ((go_at_call 92; refine quiet_eq (beyond_any _ _ _ _ _)))
  all_goals go_wp2
  all_goals go_ret
  all_goals exact ⟨rfl, (by repeat (first | exact Below.refl _ _ | assumption | refine Below.drew ?_ | refine below_drewN ?_ _ | refine Below.alloc ?_ (by (try simp) <;> omega) _ | refine Below.setCell ?_ (by (try simp) <;> omega) _ | refine Below.trans ?_ (Below.mono (by assumption) (by (try simp) <;> omega))))⟩
theorem DevB.below {W W' : World} {F : Nat → Prop} {B S T n cS cT : Nat} {q : Value} {d : Dv} (h : DevB W F B S T n cS cT q d) (hb : Below W.heap.size W W') : DevB W' F B S T n cS cT q d := h.keeps (fun k _ hk => hb.block k hk) hb.size
theorem errR_zero {b : Bool} (h : errR b = 0) : b = true := by cases b with
  | true => rfl
  | false => exact absurd h (by decide)
theorem refuses_any {F : Nat → Prop} {B S T n cS cT : Nat} {q : Value} {d : Dv} (i : Int) (w : World) (h : DevB w F B S T n cS cT q d) :
    Calls Tryd.prog 64 #[.pointer (some ⟨B, 0, none⟩), .int .i64 i] w fun e w' => e = .returned (.int .i64 (errR (inR n i))) ∧ Below w.heap.size w w' := by
  have HD := Lib.hid h; clear h
  go_enter Tryd.func64, Tryd.ntmps64
  go_wp2_with fail
  have j0 : Boxed (((w.alloc (.cells #[.pointer (some ⟨B, 0, none⟩)] 29)).alloc (.cells #[.int .i64 i] 3)).alloc (.cells #[.func (.func 52) #[.pointer (some ⟨B, 0, none⟩)] #[], .func (.func 93) #[] #[.pointer (some ⟨w.heap.size, 0, none⟩), .pointer (some ⟨w.heap.size + 1, 0, none⟩)]] 59)) w.heap.size 29 (.pointer (some ⟨B, 0, none⟩)) := by
    unfold Boxed; simp only [heap_at, World.size_alloc]; repeat (first | rw [if_pos (by omega)] | rw [if_neg (by omega)] | rw [if_pos trivial])
  have j1 : Boxed (((w.alloc (.cells #[.pointer (some ⟨B, 0, none⟩)] 29)).alloc (.cells #[.int .i64 i] 3)).alloc (.cells #[.func (.func 52) #[.pointer (some ⟨B, 0, none⟩)] #[], .func (.func 93) #[] #[.pointer (some ⟨w.heap.size, 0, none⟩), .pointer (some ⟨w.heap.size + 1, 0, none⟩)]] 59)) (w.heap.size + 1) 3 (.int .i64 i) := by
    unfold Boxed; simp only [heap_at, World.size_alloc]; repeat (first | rw [if_pos (by omega)] | rw [if_neg (by omega)] | rw [if_pos trivial])
  have j2 : (((w.alloc (.cells #[.pointer (some ⟨B, 0, none⟩)] 29)).alloc (.cells #[.int .i64 i] 3)).alloc (.cells #[.func (.func 52) #[.pointer (some ⟨B, 0, none⟩)] #[], .func (.func 93) #[] #[.pointer (some ⟨w.heap.size, 0, none⟩), .pointer (some ⟨w.heap.size + 1, 0, none⟩)]] 59)).heap[w.heap.size + 1 + 1]? = some (.cells #[.func (.func 52) #[.pointer (some ⟨B, 0, none⟩)] #[], .func (.func 93) #[] #[.pointer (some ⟨w.heap.size, 0, none⟩), .pointer (some ⟨w.heap.size + 1, 0, none⟩)]] 59 (0, 0)) := by
    simp only [heap_at, World.size_alloc]; repeat (first | rw [if_pos (by omega)] | rw [if_neg (by omega)] | rw [if_pos trivial])
  have b0 : Below w.heap.size w (((w.alloc (.cells #[.pointer (some ⟨B, 0, none⟩)] 29)).alloc (.cells #[.int .i64 i] 3)).alloc (.cells #[.func (.func 52) #[.pointer (some ⟨B, 0, none⟩)] #[], .func (.func 93) #[] #[.pointer (some ⟨w.heap.size, 0, none⟩), .pointer (some ⟨w.heap.size + 1, 0, none⟩)]] 59)) := (by repeat (first | exact Below.refl _ _ | assumption | refine Below.drew ?_ | refine below_drewN ?_ _ | refine Below.alloc ?_ (by (try simp) <;> omega) _ | refine Below.setCell ?_ (by (try simp) <;> omega) _ | refine Below.trans ?_ (Below.mono (by assumption) (by (try simp) <;> omega))))
  generalize (((w.alloc (.cells #[.pointer (some ⟨B, 0, none⟩)] 29)).alloc (.cells #[.int .i64 i] 3)).alloc (.cells #[.func (.func 52) #[.pointer (some ⟨B, 0, none⟩)] #[], .func (.func 93) #[] #[.pointer (some ⟨w.heap.size, 0, none⟩), .pointer (some ⟨w.heap.size + 1, 0, none⟩)]] 59)) = W0 at *
  have HD0 := Lib.hid (HD.out.below b0)
  have l2 := (Array.getElem?_eq_some_iff.1 j2).1
  refine (first_any [.func (.func 52) #[.pointer (some ⟨B, 0, none⟩)] #[], .func (.func 93) #[] #[.pointer (some ⟨w.heap.size, 0, none⟩), .pointer (some ⟨w.heap.size + 1, 0, none⟩)]] (w.heap.size + 1 + 1) (by simp)
    (fun k W => Below W0.heap.size W0 W ∧ (k = 2 → inR n i = true)) (fun a W => a = errR (inR n i) ∧ Below W0.heap.size W0 W) W0 ?_ ?_ ?_ ⟨Below.refl _ _, fun h => by cases h⟩).mono ?_
  · rintro k W ⟨hb, -⟩ j v hv
    rw [cell_of_row W _ j _ _ _ ((hb.block _ l2).trans j2)]
    simpa using hv
  · rintro k W hk ⟨hb, -⟩
    have hk2 : k < 2 := hk
    have hk3 : k = 0 ∨ k = 1 := by omega
    rcases hk3 with rfl | rfl
    · refine ⟨_, _, _, rfl, enters_of Tryd.func52 (by kernel_rfl) rfl, ?_⟩
      refine (missing_any W (HD0.out.below hb)).mono ?_
      rintro e w' ⟨rfl, rfl⟩
      exact ⟨_, rfl, fun _ => ⟨hb, fun h => by cases h⟩, fun h => absurd rfl h⟩
    · refine ⟨_, _, _, rfl, enters_of Tryd.func93 (by kernel_rfl) rfl, ?_⟩
      refine (refuses1_any _ _ i W (HD0.out.below hb) ((hb.block _ j0.lt).trans j0) ((hb.block _ j1.lt).trans j1)).mono ?_
      rintro e w' ⟨rfl, hb2⟩
      have hb3 := hb.trans (hb2.mono hb.size)
      exact ⟨_, rfl, fun h => ⟨hb3, fun _ => errR_zero h⟩, fun h => ⟨rfl, hb3⟩⟩
  · rintro W ⟨hb, h⟩
    exact ⟨by rw [h rfl]; rfl, hb⟩
  · rintro e w' ⟨a, rfl, rfl, hb⟩
    go_wp2_with fail
    go_ret
    exact ⟨rfl, b0.trans (hb.mono b0.size)⟩
theorem refuses_no {v : Value} (i : Int) (w : World) (h : NoDev w v) :
    Calls Tryd.prog 64 #[v, .int .i64 i] w fun e w' => e = .returned (.int .i64 1) ∧ Below w.heap.size w w' := by
  have HD := Lib.hid h
  obtain ⟨p, rfl⟩ : ∃ p, v = .pointer p := by
    rcases h with rfl | ⟨B, rfl, _⟩
    · exact ⟨_, rfl⟩
    · exact ⟨_, rfl⟩
  clear h
  go_enter Tryd.func64, Tryd.ntmps64
  go_wp2_with fail
  obtain ⟨W0, hW0⟩ : ∃ W0, (((w.alloc (.cells #[.pointer p] 29)).alloc (.cells #[.int .i64 i] 3)).alloc (.cells #[.func (.func 52) #[.pointer p] #[], .func (.func 93) #[] #[.pointer (some ⟨w.heap.size, 0, none⟩), .pointer (some ⟨w.heap.size + 1, 0, none⟩)]] 59)) = W0 := ⟨_, rfl⟩
  have j2 : W0.heap[w.heap.size + 1 + 1]? = some (.cells #[.func (.func 52) #[.pointer p] #[], .func (.func 93) #[] #[.pointer (some ⟨w.heap.size, 0, none⟩), .pointer (some ⟨w.heap.size + 1, 0, none⟩)]] 59 (0, 0)) := by
    rw [← hW0]; simp only [heap_at, World.size_alloc]; repeat (first | rw [if_pos (by omega)] | rw [if_neg (by omega)] | rw [if_pos trivial])
  have b0 : Below w.heap.size w W0 := by rw [← hW0]; exact (by repeat (first | exact Below.refl _ _ | assumption | refine Below.drew ?_ | refine below_drewN ?_ _ | refine Below.alloc ?_ (by (try simp) <;> omega) _ | refine Below.setCell ?_ (by (try simp) <;> omega) _ | refine Below.trans ?_ (Below.mono (by assumption) (by (try simp) <;> omega))))
  rw [hW0]
  clear hW0
  have HD0 := Lib.hid (HD.out.below b0)
  have l2 := (Array.getElem?_eq_some_iff.1 j2).1
  refine (first_any [.func (.func 52) #[.pointer p] #[], .func (.func 93) #[] #[.pointer (some ⟨w.heap.size, 0, none⟩), .pointer (some ⟨w.heap.size + 1, 0, none⟩)]] (w.heap.size + 1 + 1) (by simp)
    (fun k W => Below W0.heap.size W0 W ∧ k = 0) (fun a W => a = 1 ∧ Below W0.heap.size W0 W) W0 ?_ ?_ ?_ ⟨Below.refl _ _, rfl⟩).mono ?_
  · rintro k W ⟨hb, -⟩ j v hv
    rw [cell_of_row W _ j _ _ _ ((hb.block _ l2).trans j2)]
    simpa using hv
  · rintro k W hk ⟨hb, rfl⟩
    refine ⟨_, _, _, rfl, enters_of Tryd.func52 (by kernel_rfl) rfl, ?_⟩
    refine (missing_no W (HD0.out.below hb)).mono ?_
    rintro e w' ⟨rfl, rfl⟩
    exact ⟨_, rfl, fun h => absurd h (by decide), fun h => ⟨rfl, hb⟩⟩
  · rintro W ⟨hb, h⟩
    cases h
  · rintro e w' ⟨a, rfl, rfl, hb⟩
    go_wp2_with fail
    go_ret
    exact ⟨rfl, b0.trans (hb.mono b0.size)⟩
theorem find1_any (P1 Pp : Nat) (i x y : Int) (w : World) (ht : Ends w) (h1 : Boxed w P1 3 (.int .i64 i)) (hp : Box2 w Pp 121 x y) (_hz : 0 < Pp) :
    Calls Tryd.prog 89 #[.pointer (some ⟨P1, 0, none⟩), .pointer (some ⟨Pp, 0, none⟩)] w fun e w' => e = .returned (.int .i64 (moveE 0 0 i)) ∧ Turn (fun k => k = Pp) w w' ∧ Box2 w' Pp 121 (moveL 0 0 i) (moveV 0 0 i) := by
  have e1 := h1.cell
  have l1 := h1.lt
  have lp := hp.lt
  have HT := Lib.hid ht
  have HP := Lib.hid hp
  have HO := Lib.hid (show moveOut 0 0 i = .tuple #[.agg #[.int .i64 (moveL 0 0 i), .int .i64 (moveV 0 0 i)], .int .i64 (moveE 0 0 i)] from rfl)
  have HA := Lib.hid (at_any i)
  generalize moveL 0 0 i = X at *
  generalize moveV 0 0 i = Y at *
  generalize moveE 0 0 i = E at *
  clear ht hp h1
  go_enter Tryd.func89, Tryd.ntmps89
  go_wp2_with fail
  refine (HA.out _ HT.out).mono ?_
  rintro e w1 ⟨rfl, hb⟩
  rw [HO.out]
  have jp := HP.out.below hb lp
  have f0 := jp.frozen0
  have f1 := jp.frozen1
  have g0 := jp.cell0
  have g1 := jp.cell1
  have l3 := jp.lt
  go_wp2_with fail
  go_ret
  have hs := jp.set X Y
  refine ⟨rfl, ?_, hs⟩
  exact (Turn.of_below hb (Nat.le_refl _)).trans ((Turn.setCell (q := fun k => k = Pp) w1 _ rfl).trans (Turn.setCell _ _ rfl))
theorem find2_any {F : Nat → Prop} {B S T n cS cT : Nat} {q : Value} {d : Dv} (P0 Pp : Nat) (x y : Int) (w : World) (h : DevB w F B S T n cS cT q d) (h0 : Boxed w P0 29 (.pointer (some ⟨B, 0, none⟩))) (hp : Box2 w Pp 121 x y) :
    Calls Tryd.prog 91 #[.pointer (some ⟨P0, 0, none⟩), .pointer (some ⟨Pp, 0, none⟩)] w fun e w' => e = .returned (.int .i64 (errR (inR n x))) ∧ Below w.heap.size w w' := by
  have c0 := h.cell0
  have hB := h.lt.1
  have e0 := h0.cell
  have e1 := hp.cell0
  have hl0 := h0.lt
  have hl1 := hp.lt
  clear h h0 hp
  go_enter Tryd.func91, Tryd.ntmps91
  go_wp2
  go_quiet ((go_at_call 92; refine quiet_eq (beyond_any _ _ _ _ _)))
  all_goals go_wp2
  all_goals go_ret
  all_goals exact ⟨rfl, (by repeat (first | exact Below.refl _ _ | assumption | refine Below.drew ?_ | refine below_drewN ?_ _ | refine Below.alloc ?_ (by (try simp) <;> omega) _ | refine Below.setCell ?_ (by (try simp) <;> omega) _ | refine Below.trans ?_ (Below.mono (by assumption) (by (try simp) <;> omega))))⟩
end Go.Proofs.YtohdgjmmekgcmaaDoor

/-
  pmem: the place that has an address.
-/
namespace Go.Proofs.YtohdgjmmekgcmaaDoor
open Go.RowKit Go.Shelf

theorem Turn.box {q : Nat → Prop} {W W' : World} {B : Nat} {t : TypeId} {v : Value} (ht : Turn q W W') (h : Boxed W B t v) (hq : ¬ q B) : Boxed W' B t v := (ht.block B h.lt hq).trans h
theorem Turn.ends {q : Nat → Prop} {W W' : World} (ht : Turn q W W') (h : Ends W) (hq : ¬ q 0) : Ends W' :=
  have e := ht.block 0 h.room hq
  ⟨(World.cell?_of_block (a := ⟨0, 0, none⟩) e).trans h.lines, (World.cell?_of_block (a := ⟨0, 1, none⟩) e).trans h.words, Nat.lt_of_lt_of_le h.room ht.size⟩
theorem DevB.turn {p : Nat → Prop} {W W' : World} {F : Nat → Prop} {B S T n cS cT : Nat} {q : Value} {d : Dv} (h : DevB W F B S T n cS cT q d) (ht : Turn p W W') (hp : ∀ k, F k → k < W.heap.size → ¬ p k) : DevB W' F B S T n cS cT q d := h.keeps (fun k hk hl => ht.block k hl (hp k hk hl)) ht.size
/-- What find answers. -/
def findOut (n : Nat) (i : Int) : Value := if inR (n * 8) i then .tuple #[.agg #[.int .i64 (i.toNat / 8 : Nat), .int .i64 (i.toNat % 8 : Nat)], .int .i64 0] else .tuple #[.agg #[.int .i64 0, .int .i64 0], .int .i64 4]
theorem find_ok {n : Nat} {i : Int} (hn : n ≤ 1024) (h : inR (n * 8) i = true) : moveL 0 0 i = (i.toNat / 8 : Nat) ∧ moveV 0 0 i = (i.toNat % 8 : Nat) ∧ moveE 0 0 i = 0 ∧ errR (inR n (moveL 0 0 i)) = 0 := by
  rw [inR_iff] at h
  have hk : moveOk 0 0 i = true := by unfold moveOk; rw [show okP 0 0 = true from by decide, Bool.true_and]; exact decide_eq_true (by omega)
  have e1 : moveL 0 0 i = (i.toNat / 8 : Nat) := by unfold moveL; rw [hk, if_pos rfl]; omega
  refine ⟨e1, ?_, ?_, ?_⟩
  · unfold moveV; rw [hk, if_pos rfl]; omega
  · unfold moveE; rw [hk, show okP 0 0 = true from by decide]; rfl
  · rw [e1, show inR n _ = true from decide_eq_true (by omega)]; rfl
theorem find_no {n : Nat} {i : Int} (h : inR (n * 8) i = false) : moveE 0 0 i = 4 ∨ (moveE 0 0 i = 0 ∧ errR (inR n (moveL 0 0 i)) = 4) := by
  have h' : ¬ (0 ≤ i ∧ i < ((n * 8 : Nat) : Int)) := of_decide_eq_false h
  cases hk : moveOk 0 0 i with
  | false => left; unfold moveE; rw [hk, show okP 0 0 = true from by decide]; rfl
  | true =>
    right
    have hk2 := hk
    unfold moveOk at hk2
    rw [show okP 0 0 = true from by decide, Bool.true_and, decide_eq_true_iff] at hk2
    refine ⟨by unfold moveE; rw [hk, show okP 0 0 = true from by decide]; rfl, ?_⟩
    unfold moveL
    rw [hk, if_pos rfl, show inR n _ = false from decide_eq_false (by omega)]
    rfl
theorem find_any {F : Nat → Prop} {B S T n cS cT : Nat} {q : Value} {d : Dv} (i : Int) (w : World) (ht : Ends w) (h : DevB w F B S T n cS cT q d) :
    Calls Tryd.prog 61 #[.pointer (some ⟨B, 0, none⟩), .int .i64 i] w fun e w' => e = .returned (findOut n i) ∧ Below w.heap.size w w' := by
  have hz := ht.room
  have hmost := h.most
  have HT := Lib.hid ht
  have HD := Lib.hid h; clear h ht
  have HO := Lib.hid (show findOut n i = if inR (n * 8) i then .tuple #[.agg #[.int .i64 (i.toNat / 8 : Nat), .int .i64 (i.toNat % 8 : Nat)], .int .i64 0] else .tuple #[.agg #[.int .i64 0, .int .i64 0], .int .i64 4] from rfl)
  go_enter Tryd.func61, Tryd.ntmps61
  go_wp2_with fail
  refine wp_scope_forward 0 rfl ?_
  go_wp2_with fail
  obtain ⟨W0, hW0⟩ : ∃ W0, (((((w.alloc (.cells #[.pointer (some ⟨B, 0, none⟩)] 29)).alloc (.cells #[.int .i64 i] 3)).alloc (.cells #[.int .i64 0, .int .i64 0] 121)).alloc (.cells #[.int .i64 0, .int .i64 0] 121)).alloc (.cells #[.func (.func 52) #[.pointer (some ⟨B, 0, none⟩)] #[], .func (.func 89) #[] #[.pointer (some ⟨w.heap.size + 1, 0, none⟩), .pointer (some ⟨w.heap.size + 1 + 1 + 1, 0, none⟩)], .func (.func 91) #[] #[.pointer (some ⟨w.heap.size, 0, none⟩), .pointer (some ⟨w.heap.size + 1 + 1 + 1, 0, none⟩)]] 59)) = W0 := ⟨_, rfl⟩
  have j0 : Boxed W0 w.heap.size 29 (.pointer (some ⟨B, 0, none⟩)) := by rw [← hW0]; unfold Boxed; (simp only [heap_at, World.size_alloc]; repeat (first | rw [if_pos (by omega)] | rw [if_neg (by omega)] | rw [if_pos trivial]))
  have j1 : Boxed W0 (w.heap.size + 1) 3 (.int .i64 i) := by rw [← hW0]; unfold Boxed; (simp only [heap_at, World.size_alloc]; repeat (first | rw [if_pos (by omega)] | rw [if_neg (by omega)] | rw [if_pos trivial]))
  have j2 : Box2 W0 (w.heap.size + 1 + 1) 121 0 0 := by rw [← hW0]; unfold Box2; (simp only [heap_at, World.size_alloc]; repeat (first | rw [if_pos (by omega)] | rw [if_neg (by omega)] | rw [if_pos trivial]))
  have j3 : Box2 W0 (w.heap.size + 1 + 1 + 1) 121 0 0 := by rw [← hW0]; unfold Box2; (simp only [heap_at, World.size_alloc]; repeat (first | rw [if_pos (by omega)] | rw [if_neg (by omega)] | rw [if_pos trivial]))
  have j4 : W0.heap[w.heap.size + 1 + 1 + 1 + 1]? = some (.cells #[.func (.func 52) #[.pointer (some ⟨B, 0, none⟩)] #[], .func (.func 89) #[] #[.pointer (some ⟨w.heap.size + 1, 0, none⟩), .pointer (some ⟨w.heap.size + 1 + 1 + 1, 0, none⟩)], .func (.func 91) #[] #[.pointer (some ⟨w.heap.size, 0, none⟩), .pointer (some ⟨w.heap.size + 1 + 1 + 1, 0, none⟩)]] 59 (0, 0)) := by
    rw [← hW0]; (simp only [heap_at, World.size_alloc]; repeat (first | rw [if_pos (by omega)] | rw [if_neg (by omega)] | rw [if_pos trivial]))
  have b0 : Below w.heap.size w W0 := by rw [← hW0]; exact (by repeat (first | exact Below.refl _ _ | assumption | refine Below.drew ?_ | refine below_drewN ?_ _ | refine Below.alloc ?_ (by (try simp) <;> omega) _ | refine Below.setCell ?_ (by (try simp) <;> omega) _ | refine Below.trans ?_ (Below.mono (by assumption) (by (try simp) <;> omega))))
  rw [hW0]
  clear hW0
  have HD0 := Lib.hid (HD.out.below b0)
  have HL := Lib.hid (HD.out.lt)
  have HT0 := Lib.hid (HT.out.below b0 hz)
  have l4 := (Array.getElem?_eq_some_iff.1 j4).1
  refine (first_any [.func (.func 52) #[.pointer (some ⟨B, 0, none⟩)] #[], .func (.func 89) #[] #[.pointer (some ⟨w.heap.size + 1, 0, none⟩), .pointer (some ⟨w.heap.size + 1 + 1 + 1, 0, none⟩)], .func (.func 91) #[] #[.pointer (some ⟨w.heap.size, 0, none⟩), .pointer (some ⟨w.heap.size + 1 + 1 + 1, 0, none⟩)]] (w.heap.size + 1 + 1 + 1 + 1) (by simp)
    (fun k W => Turn (fun b => w.heap.size + 1 + 1 + 1 = b) W0 W ∧ (k ≤ 1 → Box2 W (w.heap.size + 1 + 1 + 1) 121 0 0) ∧ (2 ≤ k → moveE 0 0 i = 0 ∧ Box2 W (w.heap.size + 1 + 1 + 1) 121 (moveL 0 0 i) (moveV 0 0 i)) ∧ (k = 3 → errR (inR n (moveL 0 0 i)) = 0))
    (fun a W => Turn (fun b => w.heap.size + 1 + 1 + 1 = b) W0 W ∧ ((inR (n * 8) i = true ∧ a = 0 ∧ Box2 W (w.heap.size + 1 + 1 + 1) 121 (i.toNat / 8 : Nat) (i.toNat % 8 : Nat)) ∨ (inR (n * 8) i = false ∧ a = 4))) W0 ?_ ?_ ?_ ⟨Turn.refl _ _, fun _ => j3, fun h => absurd h (by decide), fun h => by cases h⟩).mono ?_
  · rintro k W ⟨hb, -⟩ j v hv
    rw [cell_of_row W _ j _ _ _ ((hb.block _ l4 (by omega)).trans j4)]
    simpa using hv
  · rintro k W hk ⟨hb, g1, g2, -⟩
    have hDW : DevB W F B S T n cS cT q d := HD0.out.turn hb (fun k hk hl e => by
      have := HD.out.live k hk
      omega)
    have hTW : Ends W := hb.ends HT0.out (by omega)
    have hk2 : k < 3 := hk
    have hk3 : k = 0 ∨ k = 1 ∨ k = 2 := by omega
    rcases hk3 with rfl | rfl | rfl
    · refine ⟨_, _, _, rfl, enters_of Tryd.func52 (by kernel_rfl) rfl, ?_⟩
      refine (missing_any W hDW).mono ?_
      rintro e w' ⟨rfl, rfl⟩
      exact ⟨_, rfl, fun _ => ⟨hb, fun _ => g1 (by decide), fun h => absurd h (by decide), fun h => by cases h⟩, fun h => absurd rfl h⟩
    · refine ⟨_, _, _, rfl, enters_of Tryd.func89 (by kernel_rfl) rfl, ?_⟩
      refine (find1_any _ _ i 0 0 W hTW (hb.box j1 (by omega)) (g1 (by decide)) (by omega)).mono ?_
      rintro e w' ⟨rfl, hb2, hbx⟩
      have hb3 := hb.trans (hb2.mono (fun k e => e.symm))
      refine ⟨_, rfl, fun h => ⟨hb3, fun h => absurd h (by decide), fun _ => ⟨h, hbx⟩, fun h => by cases h⟩, fun h => ⟨hb3, .inr ?_⟩⟩
      cases hr : inR (n * 8) i with
      | true => exact absurd (find_ok hmost hr).2.2.1 h
      | false => exact ⟨rfl, (find_no hr).elim id fun h2 => absurd h2.1 h⟩
    · obtain ⟨g3, g4⟩ := g2 (by decide)
      refine ⟨_, _, _, rfl, enters_of Tryd.func91 (by kernel_rfl) rfl, ?_⟩
      refine (find2_any _ _ _ _ W hDW (hb.box j0 (by omega)) g4).mono ?_
      rintro e w' ⟨rfl, hb2⟩
      have hb3 := hb.trans (Turn.of_below hb2 (Nat.le_refl _))
      have g5 := g4.below hb2 g4.lt
      refine ⟨_, rfl, fun h => ⟨hb3, fun h => absurd h (by decide), fun _ => ⟨g3, g5⟩, fun _ => h⟩, fun h => ⟨hb3, .inr ?_⟩⟩
      cases hr : inR (n * 8) i with
      | true => exact absurd (find_ok hmost hr).2.2.2 h
      | false => exact ⟨rfl, (find_no hr).elim (fun h2 => by rw [g3] at h2; cases h2) fun h2 => h2.2⟩
  · rintro W ⟨hb, -, g2, g3⟩
    obtain ⟨g4, g5⟩ := g2 (by show 2 ≤ 3; decide)
    refine ⟨hb, ?_⟩
    cases hr : inR (n * 8) i with
    | true =>
      obtain ⟨e1, e2, -, -⟩ := find_ok hmost hr
      rw [e1, e2] at g5
      exact .inl ⟨rfl, rfl, g5⟩
    | false => exact ((find_no hr).elim (fun h2 => by rw [g4] at h2; cases h2) fun h2 => by have := g3 rfl; rw [h2.2] at this; cases this)
  · rintro e w1 ⟨a, rfl, hb, ⟨hr, rfl, g⟩ | ⟨hr, rfl⟩⟩
    · rw [hr, if_pos rfl] at HO
      have g0 := g.cell0
      have g1 := g.cell1
      have gl := g.lt
      have k2 : Box2 w1 (w.heap.size + 1 + 1) 121 0 0 := (hb.block _ j2.lt (by omega)).trans j2
      have f0 := k2.frozen0
      have f1 := k2.frozen1
      have d0 := k2.cell0
      have d1 := k2.cell1
      have kl := k2.lt
      have b1 : Below w.heap.size w w1 := b0.trans (hb.below (fun k e => by omega) b0.size)
      clear j0 j1 j2 j3 j4 hb
      go_wp2_with fail
      rw [Exit.jump_ret]
      refine bodyPost_ret (v := findOut n i) (by rw [HO.out]; simp [results, Tryd.results61, go_sem, World.cell?_setCell_same', d0, d1]) rfl ⟨rfl, ?_⟩
      exact (b1.setCell (p := ⟨w.heap.size + 1 + 1, 0, none⟩) (by show w.heap.size ≤ w.heap.size + 1 + 1; omega) _).setCell (p := ⟨w.heap.size + 1 + 1, 1, none⟩) (by show w.heap.size ≤ w.heap.size + 1 + 1; omega) _
    · rw [hr, if_neg (by decide)] at HO
      have k2 : Box2 w1 (w.heap.size + 1 + 1) 121 0 0 := (hb.block _ j2.lt (by omega)).trans j2
      have f0 := k2.frozen0
      have f1 := k2.frozen1
      have d0 := k2.cell0
      have d1 := k2.cell1
      have kl := k2.lt
      have b1 : Below w.heap.size w w1 := b0.trans (hb.below (fun k e => by omega) b0.size)
      clear j0 j1 j2 j3 j4 hb
      go_wp2_with fail
      go_step3
      refine ⟨rfl, ?_⟩
      go_wp2
      rw [Exit.jump_ret]
      refine bodyPost_ret (v := findOut n i) (by rw [HO.out]; simp [results, Tryd.results61, go_sem, World.cell?_setCell_same', d0, d1]) rfl ⟨rfl, ?_⟩
      exact (b1.setCell (p := ⟨w.heap.size + 1 + 1, 0, none⟩) (by show w.heap.size ≤ w.heap.size + 1 + 1; omega) _).setCell (p := ⟨w.heap.size + 1 + 1, 1, none⟩) (by show w.heap.size ≤ w.heap.size + 1 + 1; omega) _
end Go.Proofs.YtohdgjmmekgcmaaDoor

/-
  pmem: Load, Stays, Store, Swap.
-/
namespace Go.Proofs.YtohdgjmmekgcmaaDoor
open Go.RowKit Go.Shelf

theorem DevB.row_below {W W' : World} {F : Nat → Prop} {B S T n cS cT : Nat} {q : Value} {d : Dv} (h : DevB W F B S T n cS cT q d) (hb : Below W.heap.size W W') :
    W'.ownsRow 0 110 8 (.slice (some ⟨S, 0, none⟩) n cS) n (vals d.seen) ∧ W'.ownsRow 0 110 8 (.slice (some ⟨T, 0, none⟩) n cT) n (vals d.stays) := ⟨(h.below hb).seen, (h.below hb).stays⟩
theorem load_any {F : Nat → Prop} {B S T n cS cT : Nat} {q : Value} {d : Dv} (i : Int) (w : World) (ht : Ends w) (h : DevB w F B S T n cS cT q d) :
    Calls Tryd.prog 43 #[.pointer (some ⟨B, 0, none⟩), .int .i64 i] w fun e w' => e = .returned (.tuple #[.int .u64 (d.load n i), .int .i64 (errR (inR (n * 8) i))]) ∧ Below w.heap.size w w' := by
  have hz := ht.room
  have HF := Lib.hid (find_any i w ht h)
  have HD := Lib.hid h; clear h ht
  cases hr : inR (n * 8) i with
  | true =>
    have HO := Lib.hid (show findOut n i = .tuple #[.agg #[.int .i64 (i.toNat / 8 : Nat), .int .i64 (i.toNat % 8 : Nat)], .int .i64 0] by unfold findOut; rw [hr]; rfl)
    have HL := Lib.hid (show d.load n i = d.seen[i.toNat / 8 * 8 + i.toNat % 8]?.getD 0 by unfold Dv.load; rw [hr, if_pos rfl, show i.toNat / 8 * 8 + i.toNat % 8 = i.toNat by omega])
    rw [inR_iff] at hr
    obtain ⟨j, hj⟩ : ∃ j, i.toNat / 8 = j := ⟨_, rfl⟩
    obtain ⟨v, hv⟩ : ∃ v, i.toNat % 8 = v := ⟨_, rfl⟩
    have hj1 : j < n := by omega
    have hv1 : v < 8 := by omega
    rw [hj, hv] at HO HL
    clear hj hv
    go_enter Tryd.func43, Tryd.ntmps43
    go_wp2_with fail
    refine wp_scope_forward 0 rfl ?_
    go_wp2_with fail
    refine HF.out.mono ?_
    rintro e w1 ⟨rfl, hb⟩
    have z1 := hb.size
    rw [HO.out]
    have HD1 := HD.out.below hb
    go_wp2_with fail
    have j1 := Box2.new w1 121 (j : Int) (v : Int)
    have b1 : Below w.heap.size w (w1.alloc (.cells #[.int .i64 (j : Int), .int .i64 (v : Int)] 121)) := (by repeat (first | exact Below.refl _ _ | assumption | refine Below.drew ?_ | refine below_drewN ?_ _ | refine Below.alloc ?_ (by (try simp) <;> omega) _ | refine Below.setCell ?_ (by (try simp) <;> omega) _ | refine Below.trans ?_ (Below.mono (by assumption) (by (try simp) <;> omega))))
    have HD2 := HD1.below ((Below.refl _ _).alloc (Nat.le_refl _) (.cells #[.int .i64 (j : Int), .int .i64 (v : Int)] 121))
    obtain ⟨wq, hwq⟩ : ∃ wq, w1.alloc (.cells #[.int .i64 (j : Int), .int .i64 (v : Int)] 121) = wq := ⟨_, rfl⟩
    rw [hwq] at j1 b1 HD2
    rw [hwq]
    clear hwq HD1 hb
    have HR := Lib.hid (fun W (hb : Below wq.heap.size wq W) => (HD2.row_below hb).1)
    have HS := Lib.hid (fun W (hb : Below wq.heap.size wq W) => And.intro (HD2.below hb).cell0 (And.intro (j1.below hb j1.lt).cell0 (j1.below hb j1.lt).cell1))
    have bq : Below wq.heap.size wq wq := Below.refl _ _
    have c0 := HD2.cell0
    have d0 := j1.cell0
    have d1 := j1.cell1
    have hlB := HD2.lt.1
    have hl1 := j1.lt
    clear HD2 j1
    go_region_held3 (fun w' => w'.cell? ⟨B, 0, none⟩ = some (.slice (some ⟨S, 0, none⟩) n cS) ∧ w'.cell? ⟨w1.heap.size, 0, none⟩ = some (.int .i64 (j : Int)) ∧ w'.cell? ⟨w1.heap.size, 1, none⟩ = some (.int .i64 (v : Int))) (exact HS.out _ (by repeat (first | exact Below.refl _ _ | assumption | refine Below.drew ?_ | refine below_drewN ?_ _ | refine Below.alloc ?_ (by (try simp) <;> omega) _ | refine Below.setCell ?_ (by (try simp) <;> omega) _ | refine Below.trans ?_ (Below.mono (by assumption) (by (try simp) <;> omega)))))
      (first | (go_at_call 63; refine (word_any j v hj1 hv1 _ (HR.out _ (by repeat (first | exact Below.refl _ _ | assumption | refine Below.drew ?_ | refine below_drewN ?_ _ | refine Below.alloc ?_ (by (try simp) <;> omega) _ | refine Below.setCell ?_ (by (try simp) <;> omega) _ | refine Below.trans ?_ (Below.mono (by assumption) (by (try simp) <;> omega)))))).mono ?_; rintro e wA ⟨rfl, hbA⟩; have bq : Below wq.heap.size wq wA := (by repeat (first | exact Below.refl _ _ | assumption | refine Below.drew ?_ | refine below_drewN ?_ _ | refine Below.alloc ?_ (by (try simp) <;> omega) _ | refine Below.setCell ?_ (by (try simp) <;> omega) _ | refine Below.trans ?_ (Below.mono (by assumption) (by (try simp) <;> omega)))); clear hbA))
    all_goals
      go_wp2_with fail
      rw [Exit.jump_ret]
      go_ret2
      exact ⟨by rw [HL.out]; rfl, b1.trans (Below.mono (by repeat (first | exact Below.refl _ _ | assumption | refine Below.drew ?_ | refine below_drewN ?_ _ | refine Below.alloc ?_ (by (try simp) <;> omega) _ | refine Below.setCell ?_ (by (try simp) <;> omega) _ | refine Below.trans ?_ (Below.mono (by assumption) (by (try simp) <;> omega)))) b1.size)⟩
  | false =>
    have HO := Lib.hid (show findOut n i = .tuple #[.agg #[.int .i64 0, .int .i64 0], .int .i64 4] by unfold findOut; rw [hr]; rfl)
    have HL := Lib.hid (show d.load n i = 0 by unfold Dv.load; rw [hr]; rfl)
    go_enter Tryd.func43, Tryd.ntmps43
    go_wp2_with fail
    refine wp_scope_forward 0 rfl ?_
    go_wp2_with fail
    refine HF.out.mono ?_
    rintro e w1 ⟨rfl, hb⟩
    have z1 := hb.size
    rw [HO.out]
    go_wp2_with fail
    go_step3
    refine ⟨rfl, ?_⟩
    go_wp2
    rw [Exit.jump_ret]
    go_ret2
    exact ⟨by rw [HL.out]; rfl, (by repeat (first | exact Below.refl _ _ | assumption | refine Below.drew ?_ | refine below_drewN ?_ _ | refine Below.alloc ?_ (by (try simp) <;> omega) _ | refine Below.setCell ?_ (by (try simp) <;> omega) _ | refine Below.trans ?_ (Below.mono (by assumption) (by (try simp) <;> omega))))⟩
theorem stays_any {F : Nat → Prop} {B S T n cS cT : Nat} {q : Value} {d : Dv} (i : Int) (w : World) (ht : Ends w) (h : DevB w F B S T n cS cT q d) :
    Calls Tryd.prog 44 #[.pointer (some ⟨B, 0, none⟩), .int .i64 i] w fun e w' => e = .returned (.tuple #[.int .u64 (d.stay n i), .int .i64 (errR (inR (n * 8) i))]) ∧ Below w.heap.size w w' := by
  have hz := ht.room
  have HF := Lib.hid (find_any i w ht h)
  have HD := Lib.hid h; clear h ht
  cases hr : inR (n * 8) i with
  | true =>
    have HO := Lib.hid (show findOut n i = .tuple #[.agg #[.int .i64 (i.toNat / 8 : Nat), .int .i64 (i.toNat % 8 : Nat)], .int .i64 0] by unfold findOut; rw [hr]; rfl)
    have HL := Lib.hid (show d.stay n i = d.stays[i.toNat / 8 * 8 + i.toNat % 8]?.getD 0 by unfold Dv.stay; rw [hr, if_pos rfl, show i.toNat / 8 * 8 + i.toNat % 8 = i.toNat by omega])
    rw [inR_iff] at hr
    obtain ⟨j, hj⟩ : ∃ j, i.toNat / 8 = j := ⟨_, rfl⟩
    obtain ⟨v, hv⟩ : ∃ v, i.toNat % 8 = v := ⟨_, rfl⟩
    have hj1 : j < n := by omega
    have hv1 : v < 8 := by omega
    rw [hj, hv] at HO HL
    clear hj hv
    go_enter Tryd.func44, Tryd.ntmps44
    go_wp2_with fail
    refine wp_scope_forward 0 rfl ?_
    go_wp2_with fail
    refine HF.out.mono ?_
    rintro e w1 ⟨rfl, hb⟩
    have z1 := hb.size
    rw [HO.out]
    have HD1 := HD.out.below hb
    go_wp2_with fail
    have j1 := Box2.new w1 121 (j : Int) (v : Int)
    have b1 : Below w.heap.size w (w1.alloc (.cells #[.int .i64 (j : Int), .int .i64 (v : Int)] 121)) := (by repeat (first | exact Below.refl _ _ | assumption | refine Below.drew ?_ | refine below_drewN ?_ _ | refine Below.alloc ?_ (by (try simp) <;> omega) _ | refine Below.setCell ?_ (by (try simp) <;> omega) _ | refine Below.trans ?_ (Below.mono (by assumption) (by (try simp) <;> omega))))
    have HD2 := HD1.below ((Below.refl _ _).alloc (Nat.le_refl _) (.cells #[.int .i64 (j : Int), .int .i64 (v : Int)] 121))
    obtain ⟨wq, hwq⟩ : ∃ wq, w1.alloc (.cells #[.int .i64 (j : Int), .int .i64 (v : Int)] 121) = wq := ⟨_, rfl⟩
    rw [hwq] at j1 b1 HD2
    rw [hwq]
    clear hwq HD1 hb
    have HR := Lib.hid (fun W (hb : Below wq.heap.size wq W) => (HD2.row_below hb).2)
    have HS := Lib.hid (fun W (hb : Below wq.heap.size wq W) => And.intro (HD2.below hb).cell1 (And.intro (j1.below hb j1.lt).cell0 (j1.below hb j1.lt).cell1))
    have bq : Below wq.heap.size wq wq := Below.refl _ _
    have c0 := HD2.cell1
    have d0 := j1.cell0
    have d1 := j1.cell1
    have hlB := HD2.lt.1
    have hl1 := j1.lt
    clear HD2 j1
    go_region_held3 (fun w' => w'.cell? ⟨B, 1, none⟩ = some (.slice (some ⟨T, 0, none⟩) n cT) ∧ w'.cell? ⟨w1.heap.size, 0, none⟩ = some (.int .i64 (j : Int)) ∧ w'.cell? ⟨w1.heap.size, 1, none⟩ = some (.int .i64 (v : Int))) (exact HS.out _ (by repeat (first | exact Below.refl _ _ | assumption | refine Below.drew ?_ | refine below_drewN ?_ _ | refine Below.alloc ?_ (by (try simp) <;> omega) _ | refine Below.setCell ?_ (by (try simp) <;> omega) _ | refine Below.trans ?_ (Below.mono (by assumption) (by (try simp) <;> omega)))))
      (first | (go_at_call 63; refine (word_any j v hj1 hv1 _ (HR.out _ (by repeat (first | exact Below.refl _ _ | assumption | refine Below.drew ?_ | refine below_drewN ?_ _ | refine Below.alloc ?_ (by (try simp) <;> omega) _ | refine Below.setCell ?_ (by (try simp) <;> omega) _ | refine Below.trans ?_ (Below.mono (by assumption) (by (try simp) <;> omega)))))).mono ?_; rintro e wA ⟨rfl, hbA⟩; have bq : Below wq.heap.size wq wA := (by repeat (first | exact Below.refl _ _ | assumption | refine Below.drew ?_ | refine below_drewN ?_ _ | refine Below.alloc ?_ (by (try simp) <;> omega) _ | refine Below.setCell ?_ (by (try simp) <;> omega) _ | refine Below.trans ?_ (Below.mono (by assumption) (by (try simp) <;> omega)))); clear hbA))
    all_goals
      go_wp2_with fail
      rw [Exit.jump_ret]
      go_ret2
      exact ⟨by rw [HL.out]; rfl, b1.trans (Below.mono (by repeat (first | exact Below.refl _ _ | assumption | refine Below.drew ?_ | refine below_drewN ?_ _ | refine Below.alloc ?_ (by (try simp) <;> omega) _ | refine Below.setCell ?_ (by (try simp) <;> omega) _ | refine Below.trans ?_ (Below.mono (by assumption) (by (try simp) <;> omega)))) b1.size)⟩
  | false =>
    have HO := Lib.hid (show findOut n i = .tuple #[.agg #[.int .i64 0, .int .i64 0], .int .i64 4] by unfold findOut; rw [hr]; rfl)
    have HL := Lib.hid (show d.stay n i = 0 by unfold Dv.stay; rw [hr]; rfl)
    go_enter Tryd.func44, Tryd.ntmps44
    go_wp2_with fail
    refine wp_scope_forward 0 rfl ?_
    go_wp2_with fail
    refine HF.out.mono ?_
    rintro e w1 ⟨rfl, hb⟩
    have z1 := hb.size
    rw [HO.out]
    go_wp2_with fail
    go_step3
    refine ⟨rfl, ?_⟩
    go_wp2
    rw [Exit.jump_ret]
    go_ret2
    exact ⟨by rw [HL.out]; rfl, (by repeat (first | exact Below.refl _ _ | assumption | refine Below.drew ?_ | refine below_drewN ?_ _ | refine Below.alloc ?_ (by (try simp) <;> omega) _ | refine Below.setCell ?_ (by (try simp) <;> omega) _ | refine Below.trans ?_ (Below.mono (by assumption) (by (try simp) <;> omega))))⟩
end Go.Proofs.YtohdgjmmekgcmaaDoor
