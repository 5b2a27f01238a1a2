/-
  Texts PmT to PmV, as one.
-/
import Derived.Test.YtohdgjmmekgcmaaDoorMg7
import Derived.ChangeKeysEq
/-
  pmem: Crash.
-/
namespace Go.Proofs.YtohdgjmmekgcmaaDoor
open Go.RowKit Go.Shelf
attribute [local go_sem] Oper.semAt_some

/-- Marks, which lie in no block of F. -/
def SlB (W : World) (F : Nat → Prop) (v : Value) (l : List Bool) : Prop :=
  ∃ a cap, v = .slice a l.length cap ∧ (0 < l.length → ∃ b off, a = some ⟨b, off, none⟩ ∧ b < W.heap.size ∧ ¬ F b ∧ ∀ j, j < l.length → W.cell? ⟨b, off + j, none⟩ = some (.bool (l[j]?.getD false)))
theorem SlB.turn {W W' : World} {F : Nat → Prop} {v : Value} {l : List Bool} (h : SlB W F v l) (ht : Turn F W W') : SlB W' F v l := by
  obtain ⟨a, cap, hv, hc⟩ := h
  refine ⟨a, cap, hv, fun h0 => ?_⟩
  obtain ⟨b, off, ha, hb, hF, hj⟩ := hc h0
  exact ⟨b, off, ha, Nat.lt_of_lt_of_le hb ht.size, hF, fun j hl => (World.cell?_of_block (a := ⟨b, off + j, none⟩) (ht.block b hb hF)).trans (hj j hl)⟩
theorem Turn.tail {F q : Nat → Prop} {w A B : World} (h : Turn F w A) (ht : Turn q A B) (hq : ∀ k, q k → w.heap.size ≤ k) : Turn F w B :=
  ⟨ht.os.trans h.os, ht.tape.trans h.tape, ht.output.trans h.output, Nat.le_trans h.size ht.size, fun k hk hF => (ht.block k (Nat.lt_of_lt_of_le hk h.size) (fun hqk => by have := hq k hqk; omega)).trans (h.block k hk hF)⟩
theorem putSome_past (marks : List Bool) (s : List Int) (l : List (Nat × List Int)) (h : marks.length ≤ l.length) : ∀ j, putSome marks s (l.take (marks.length + j)) = putSome marks s (l.take marks.length)
  | 0 => rfl
  | j + 1 => by
    by_cases hj : marks.length + j < l.length
    · rw [← Nat.add_assoc, take_snoc l _ hj, putSome_snoc, List.length_take, Nat.min_eq_left (by omega), List.getElem?_eq_none (by omega)]
      exact putSome_past marks s l h j
    · rw [List.take_of_length_le (show l.length ≤ marks.length + (j + 1) by omega), ← putSome_past marks s l h j, List.take_of_length_le (by omega)]
theorem putSome_step (marks : List Bool) (s : List Int) (l : List (Nat × List Int)) (k : Nat) (h : k < l.length) : putSome marks s (l.take (k + 1)) = if marks[k]?.getD false then putLine (putSome marks s (l.take k)) (ithW l k).1 (ithW l k).2 else putSome marks s (l.take k) := by
  rw [take_snoc l k h, putSome_snoc, List.length_take, Nat.min_eq_left (by omega)]
  unfold ithW
  rw [List.getElem?_eq_getElem h, Option.getD_some]
/-- copy of a row of lines to another one. -/
theorem run_copy_lines {W : World} {S T n cS cT : Nat} {ws us : List Int} (hS : W.ownsRow 0 110 8 (.slice (some ⟨S, 0, none⟩) n cS) n (vals us)) (hT : W.ownsRow 0 110 8 (.slice (some ⟨T, 0, none⟩) n cT) n (vals ws)) (ty : TypeId) :
    (Builtin.copy_ #[94, 94] ty #[.slice (some ⟨S, 0, none⟩) n cS, .slice (some ⟨T, 0, none⟩) n cT]).run Tryd.prog W = .ok (goInt n) (W.setCells S 0 (vals ws)) := by
  obtain ⟨i0, hi, hz0, hz1, hz2⟩ := info_parts infoL
  have hlen : (vals ws).length = n * 8 := hT.1
  have hl := run_loadCells_list (P := Tryd.prog) W ⟨T, 0, none⟩ (vals ws) (fun j v hv => by
    have hj : j < n * 8 := by have := (List.getElem?_eq_some_iff.1 hv).1; omega
    rw [Addr.add_mid, Nat.zero_add, hT.cellAt j hj, hv])
  have hth := row_there hS 0 (n * 8) (by omega)
  have hst := run_storeCells_cells (P := Tryd.prog) S 0 (vals ws) 0 W (fun j hj => by have := (hth j (by omega)).1; simpa using this) (fun j hj => by have := (hth j (by omega)).2; simpa using this) (vals_one ws)
  simp only [Nat.add_zero] at hst
  rw [hlen] at hl
  simp [Builtin.copy_, run_underlying Tryd.underlying94, Builtin.lenOf, Builtin.firstCells, sizeOf, typeInfo, hi, hz1, hl, hst]
theorem wait_range {W : World} {b : Nat} {x : Nat × List Int} {e : TypeId} {f : Nat × Nat} (h : W.heap[b]? = some (.cells (waitA x) e f)) : W.cell? ⟨b, 0, none⟩ = some (.int .i64 (x.1 : Nat)) ∧ W.rangeAt b 1 (vals x.2) :=
  ⟨by simp [World.cell?, h, waitA], fun j v hv => by
    have e : 1 + j = j + 1 := by omega
    simp only [World.cell?, h, waitA, e, List.getElem?_toArray, List.getElem?_cons_succ]
    exact hv⟩
theorem wpIn_normal {Fc : Fence} {n : Nat} {P : Program} {c : Code} {Q : Exit → Act → World → Prop} {a : Act} {w : World} (h : c.wpIn Fc n P (fun e a w => e = .normal ∧ Q .normal a w) a w) : c.wpIn Fc n P Q a w := wpIn_mono h (by rintro _ _ _ ⟨rfl, h⟩; exact h)
/-- copy of which the run is known. -/
theorem wpIn_copy_eq {Fc : Fence} {n : Nat} {P : Program} {Q : Exit → Act → World → Prop} {w w' : World} {a : Act} {o : Oper} {K : Act → World → Prop} (s x : Operand) (ts : Array TypeId) (ho : o.op = .call { callee := .builtin .copy, args := #[s, x], argTypes := ts })
    (v u r : Value) (hs : a.eval s = v) (hx : a.eval x = u) (hr : (Builtin.copy_ ts o.type #[v, u]).run P w = .ok r w') (h : K (a.put o.dst r) w') : o.wpIn Fc n P a w K Q := by
  unfold Oper.wpIn
  refine ⟨by simp [Oper.about, ho, resolve, Sem.run_pure, Target.leads], ?_⟩
  rw [Oper.semAt_plain Fc _ _ (by rw [ho]; intro c hc; cases hc)]
  unfold execOp
  simp only [ho, resolve, invoke, builtin, Sem.run_bind, Sem.run_pure, Result.andThen_ok, List.map_toArray, List.map_cons, List.map_nil, hs, hx, hr]
  exact h
theorem row_full {W : World} {S n cS : Nat} {us ws : List Int} (h : W.ownsRow 0 110 8 (.slice (some ⟨S, 0, none⟩) n cS) n (vals us)) (hl : ws.length = n * 8) :
    (W.setCells S 0 (vals ws)).ownsRow 0 110 8 (.slice (some ⟨S, 0, none⟩) n cS) n (vals ws) ∧ Turn (fun k => k = S) W (W.setCells S 0 (vals ws)) := by
  have := row_cells (vals ws) 0 W (vals us) (by rw [vals_length, hl]; omega) h
  rw [List.take_zero, List.nil_append, List.drop_of_length_le (by rw [h.1, vals_length, hl]; omega), List.append_nil] at this
  exact this
/-- A crash, so far gone over. -/
structure CrI (w : World) (F : Nat → Prop) (B S T n cS cT : Nat) (a : Option Addr) (c : Nat) (ma : Option Addr) (mc : Nat) (d : Dv) (marks : List Bool) (pre : List (Fin d.waits.length)) (q : Nat → Prop) (W : World) : Prop where
  dev : DevB W F B S T n cS cT (.slice a d.waits.length c) { d with stays := putSome marks d.stays (d.waits.take pre.length) }
  turn : Turn F w W
  apart : ∀ k, q k → ¬ F k ∧ w.heap.size ≤ k
  live : ∀ k, F k → k < w.heap.size
  len : pre.length ≤ marks.length
  box0 : BoxF w.heap.size 29 (.pointer (some ⟨B, 0, none⟩)) q W
  box1 : BoxF (w.heap.size + 1) 24 (.slice ma marks.length mc) q W
theorem CrI.keep {w : World} {F : Nat → Prop} {B S T n cS cT : Nat} {a : Option Addr} {c : Nat} {ma : Option Addr} {mc : Nat} {d : Dv} {marks : List Bool} {pre : List (Fin d.waits.length)} {q : Nat → Prop} {W : World} (h : CrI w F B S T n cS cT a c ma mc d marks pre q W)
    (x : Fin d.waits.length) (hx : x.1 = pre.length) (hl : pre.length < marks.length) (hm : marks[pre.length]?.getD false = false) : CrI w F B S T n cS cT a c ma mc d marks (pre ++ [x]) q W := by
  have e := putSome_step marks d.stays d.waits pre.length (by have := x.2; omega)
  rw [hm, if_neg (by decide)] at e
  refine ⟨?_, h.turn, h.apart, h.live, by rw [List.length_append]; exact hl, h.box0, h.box1⟩
  rw [List.length_append, List.length_singleton, e]
  exact h.dev
theorem CrI.put {w : World} {F : Nat → Prop} {B S T n cS cT : Nat} {a : Option Addr} {c : Nat} {ma : Option Addr} {mc : Nat} {d : Dv} {marks : List Bool} {pre : List (Fin d.waits.length)} {q : Nat → Prop} {W W' : World} (h : CrI w F B S T n cS cT a c ma mc d marks pre q W)
    (x : Fin d.waits.length) (hx : x.1 = pre.length) (hl : pre.length < marks.length) (hm : marks[pre.length]?.getD false = true) (ht : Turn (fun k => k = T) W W')
    (ho : W'.ownsRow 0 110 8 (.slice (some ⟨T, 0, none⟩) n cT) n (vals (putLine (putSome marks d.stays (d.waits.take pre.length)) (ithW d.waits pre.length).1 (ithW d.waits pre.length).2))) : CrI w F B S T n cS cT a c ma mc d marks (pre ++ [x]) q W' := by
  have e := putSome_step marks d.stays d.waits pre.length (by have := x.2; omega)
  rw [hm, if_pos (by rfl)] at e
  refine ⟨?_, h.turn.trans (ht.mono fun k e => by rw [e]; exact h.dev.inT), h.apart, h.live, by rw [List.length_append]; exact hl, ⟨ht.box h.box0.1 ?_, h.box0.2⟩, ⟨ht.box h.box1.1 ?_, h.box1.2⟩⟩
  · rw [List.length_append, List.length_singleton, e]
    exact h.dev.set_stays ht ho
  · have := h.live T h.dev.inT
    omega
  · have := h.live T h.dev.inT
    omega
theorem abides_cr (w : World) (F : Nat → Prop) (B S T n cS cT : Nat) (a : Option Addr) (c : Nat) (ma : Option Addr) (mc : Nat) (d : Dv) (marks : List Bool) : Abides (CrI w F B S T n cS cT a c ma mc d marks) := fun pre q q' W W' h ht hq =>
  have hap : ∀ k, q' k → ¬ F k ∧ w.heap.size ≤ k := fun k hk => (hq k hk).elim (h.apart k) fun hl => ⟨fun hF => by have := h.dev.live k hF; omega, Nat.le_trans h.turn.size hl⟩
  ⟨h.dev.turn ht (fun k hF _ hqk => (h.apart k hqk).1 hF),
   ⟨ht.os.trans h.turn.os, ht.tape.trans h.turn.tape, ht.output.trans h.turn.output, Nat.le_trans h.turn.size ht.size, fun k hk hF => (ht.block k (Nat.lt_of_lt_of_le hk h.turn.size) (fun hqk => by have := (h.apart k hqk).2; omega)).trans (h.turn.block k hk hF)⟩,
   hap, h.live, h.len, Abides.box (β := Unit) _ _ (fun _ => .pointer (some ⟨B, 0, none⟩)) () q q' W W' h.box0 ht hq, Abides.box (β := Unit) _ _ (fun _ => .slice ma marks.length mc) () q q' W W' h.box1 ht hq⟩
/-- Where the rounds of a crash are left. -/
def CrX (w : World) (F : Nat → Prop) (B S T n cS cT : Nat) (a : Option Addr) (c : Nat) (ma : Option Addr) (mc : Nat) (d : Dv) (marks : List Bool) (cd : Code) (pre : List (Fin d.waits.length)) (q : Nat → Prop) (W : World) : Prop :=
  cd = .exit 0 ∧ ∃ p0 x, pre = p0 ++ [x] ∧ CrI w F B S T n cS cT a c ma mc d marks p0 q W ∧ p0.length = marks.length
theorem abides_crX (w : World) (F : Nat → Prop) (B S T n cS cT : Nat) (a : Option Addr) (c : Nat) (ma : Option Addr) (mc : Nat) (d : Dv) (marks : List Bool) (cd : Code) : Abides (CrX w F B S T n cS cT a c ma mc d marks cd) := fun _ q q' W W' ⟨h1, p0, x, h2, h3, h4⟩ ht hq =>
  ⟨h1, p0, x, h2, abides_cr w F B S T n cS cT a c ma mc d marks p0 q q' W W' h3 ht hq, h4⟩
/-- The activation in a round. -/
def CrA (w : World) (B : Nat) (a : Option Addr) (c : Nat) (ma : Option Addr) (mc : Nat) (d : Dv) (marks : List Bool) (B0 : Nat) (x : Fin d.waits.length) (a' : Act) (W : World) : Prop :=
  ∃ Bx, B0 ≤ Bx ∧ W.heap[Bx]? = some (.cells (waitA (ithW d.waits x.1)) 113 (0, 0)) ∧ a' = { tmps := #[.pointer (some ⟨B, 0, none⟩), .slice ma marks.length mc, .pointer (some ⟨w.heap.size, 0, none⟩), .pointer (some ⟨w.heap.size + 1, 0, none⟩), .int .i64 0, .int .i64 0, .int .i64 (x.1 : Nat), .pointer (some ⟨Bx, 0, none⟩), .pointer (some ⟨B, 0, none⟩), .int .i64 0, .int .i64 0, .bool false, .pointer (some ⟨B, 0, none⟩), .pointer (some ⟨B, 0, none⟩), .pointer (some ⟨B, 2, none⟩), .slice a d.waits.length c, .func (.func 96) #[] #[.pointer (some ⟨w.heap.size + 1 + 1, 0, none⟩)], .int .i64 (x.1 : Nat), .agg (waitA (ithW d.waits x.1)), undef, undef, undef, undef, undef, undef, undef, undef, undef, undef, undef, undef, undef, undef, undef, undef, undef, undef, undef, undef, undef, undef, undef, undef, undef, undef, undef, undef, undef, undef, undef], defers := [] }
theorem finRange_at (m : Nat) (pre : List (Fin m)) (x : Fin m) (h : pre ++ [x] <+: List.finRange m) : x.1 = pre.length := by
  have h2 := h.getElem (i := pre.length) (by simp)
  simp at h2
  rw [h2]
set_option maxRecDepth 100000 in
set_option maxHeartbeats 8000000 in
theorem crash_any {F : Nat → Prop} {B S T n cS cT : Nat} {q v : Value} {d : Dv} (marks : List Bool) (hmk : marks.length ≤ 100000) (w : World) (h : DevB w F B S T n cS cT q d) (hm : SlB w F v marks) :
    Calls Tryd.prog 28 #[.pointer (some ⟨B, 0, none⟩), v] w fun e w' => e = .returned (.int .i64 0) ∧ Turn F w w' ∧ ∃ q', DevB w' F B S T n cS cT q' (d.crash marks) := by
  obtain ⟨a, c, rfl⟩ := h.waits.slice_n
  obtain ⟨ma, mc, rfl, -⟩ := id hm
  have hb0 : Below w.heap.size w ((w.alloc (.cells #[.pointer (some ⟨B, 0, none⟩)] 29)).alloc (.cells #[.slice ma marks.length mc] 24)) := (by repeat (first | exact Below.refl _ _ | assumption | refine Below.drew ?_ | refine below_drewN ?_ _ | refine Below.alloc ?_ (by (try simp) <;> omega) _ | refine Below.setCell ?_ (by (try simp) <;> omega) _ | refine Below.trans ?_ (Below.mono (by assumption) (by (try simp) <;> omega))))
  have h0 := h.below hb0
  have HM := Lib.hid (missing_any _ h0)
  have HD := Lib.hid h
  have HK := Lib.hid hm
  have c2 := h.cell2
  have hlB := h.lt.1
  clear h hm h0
  refine (callsIn_wide (n := 6)).1 ?_
  refine callsIn_of_wp_marks Tryd.func28 rfl trivial ?_ rfl
  simp only [Tryd.ntmps28, List.size_toArray, List.length_cons, List.length_nil, Nat.reduceAdd, Nat.reduceSub, Array.replicate_succ, Array.replicate_zero, List.push_toArray, List.append_toArray, List.nil_append, List.cons_append]
  gi_wp2_with fail
  refine wpIn_scope_straight ?_
  gi_wp2_with fail
  refine ⟨trivial, ?_⟩
  refine (callsIn_wide.2 HM.out).mono ?_
  rintro e w1 ⟨rfl, rfl⟩
  gi_wp2_with fail
  refine wpIn_label ?_
  gi_wp2_with fail
  refine ⟨trivial, ?_⟩
  refine (callsIn_wide.2 (allW_any a _ c _)).mono ?_
  rintro e w1 ⟨rfl, rfl⟩
  gi_wp2_with fail
  obtain ⟨g, hgl, hga⟩ : ∃ g, g < w.heap.size ∧ (0 < d.waits.length → a = some ⟨g, 0, none⟩ ∧ w.ownsRow 0 113 9 (.slice (some ⟨g, 0, none⟩) d.waits.length c) d.waits.length (cellsW d.waits)) := by
    rcases Nat.eq_zero_or_pos d.waits.length with h0 | h0
    · exact ⟨B, hlB, fun h => by omega⟩
    · obtain ⟨g, e, hg⟩ := HD.out.waits.row h0
      exact ⟨g, own_lt2 hg, fun _ => ⟨e, hg⟩⟩
  have HGA := Lib.hid hga
  obtain ⟨W0, hW0⟩ : ∃ W0, (((w.alloc (.cells #[.pointer (some ⟨B, 0, none⟩)] 29)).alloc (.cells #[.slice ma marks.length mc] 24)).alloc (.cells #[.slice a d.waits.length c] 97)) = W0 := ⟨_, rfl⟩
  have b0 : Below w.heap.size w W0 := by rw [← hW0]; exact (by repeat (first | exact Below.refl _ _ | assumption | refine Below.drew ?_ | refine below_drewN ?_ _ | refine Below.alloc ?_ (by (try simp) <;> omega) _ | refine Below.setCell ?_ (by (try simp) <;> omega) _ | refine Below.trans ?_ (Below.mono (by assumption) (by (try simp) <;> omega))))
  have j0 : Boxed W0 w.heap.size 29 (.pointer (some ⟨B, 0, none⟩)) := by rw [← hW0]; unfold Boxed; (simp only [heap_at, World.size_alloc]; repeat (first | rw [if_pos (by omega)] | rw [if_neg (by omega)] | rw [if_pos trivial]))
  have j1 : Boxed W0 (w.heap.size + 1) 24 (.slice ma marks.length mc) := by rw [← hW0]; unfold Boxed; (simp only [heap_at, World.size_alloc]; repeat (first | rw [if_pos (by omega)] | rw [if_neg (by omega)] | rw [if_pos trivial]))
  have j2 : Boxed W0 (w.heap.size + 1 + 1) 97 (.slice a d.waits.length c) := by rw [← hW0]; unfold Boxed; (simp only [heap_at, World.size_alloc]; repeat (first | rw [if_pos (by omega)] | rw [if_neg (by omega)] | rw [if_pos trivial]))
  have HSZ : Hid (W0.heap.size = w.heap.size + 3) := by rw [← hW0]; show _ = _; simp
  rw [hW0]
  clear hW0 hga
  have hw8 : ∀ x ∈ d.waits, x.2.length = 8 := fun x hx => (HD.out.ok.waits x hx).2
  have hm5 : d.waits.length ≤ 100000 := by have := HD.out.ok.few; have := HD.out.most; omega
  have hsq := allW_seq 5 (by decide) (w.heap.size + 1 + 1) g c a d.waits hm5 hw8 W0 (fun h => ⟨(HGA.out h).1, own_keeps (HGA.out h).2 fun hl => b0.block g hl⟩) j2
  have HI0 : CrI w F B S T n cS cT a c ma mc d marks [] (fun _ => False) W0 := ⟨HD.out.below b0, Turn.of_below b0 (Nat.le_refl _), fun _ h => h.elim, HD.out.live, Nat.zero_le _, ⟨j0, id⟩, ⟨j1, id⟩⟩
  clear c2 hb0 j0 j1 j2 hw8
  refine wpIn_range_F (n := 6) (by decide) (gf := 96) (lb := #[.pointer (some ⟨w.heap.size + 1 + 1, 0, none⟩)]) rfl (enters_of Tryd.func96 (by kernel_rfl) rfl) hsq (fun k hk => by have := HSZ.out; subst hk; omega) (Below.refl _ _) (fun _ => rfl)
    (CrI w F B S T n cS cT a c ma mc d marks) (CrX w F B S T n cS cT a c ma mc d marks) (abides_cr _ _ _ _ _ _ _ _ _ _ _ _ _ _) (abides_crX _ _ _ _ _ _ _ _ _ _ _ _ _ _) HI0
    (CrA w B a c ma mc d marks (W0.heap.size + 2))
    (fun x a' W1 o ⟨Bx, h1, h2, h3⟩ => ⟨Bx, h1, (World.putObj_heap_other (by omega)).trans h2, h3⟩)
    ?assign ?body ?done ?stop
  case assign =>
    rintro l2 x W2 K hsz hK
    unfold encW
    dsimp only
    have hx8 : (ithW d.waits x.1).2.length = 8 := by
      unfold ithW
      rw [List.getElem?_eq_getElem x.2, Option.getD_some]
      exact (HD.out.ok.waits _ (List.getElem_mem x.2)).2
    have hinfo : (Tryd.prog.info? 113).map (·.size) = some (waitA (ithW d.waits x.1)).size := by rw [waitA_size hx8]; kernel_rfl
    have HX1 : Hid ((waitA (ithW d.waits x.1)).all (·.oneCell') = true) := show _ = true from Array.all_eq_true_iff_forall_mem.2 fun v hv => cellsW_one [ithW d.waits x.1] v (by rw [cellsW_cons]; simp [cellsW]; simpa using hv)
    have HSN := Lib.hid (run_storeAt_new (P := Tryd.prog) W2 113 #[.int .i64 0, .int .u64 0, .int .u64 0, .int .u64 0, .int .u64 0, .int .u64 0, .int .u64 0, .int .u64 0, .int .u64 0] (waitA (ithW d.waits x.1)) hinfo (by rw [waitA_size hx8]; rfl) HX1.out)
    clear hinfo hx8 HX1
    gi_wp2_with (first | (refine wpListIn_store_eq rfl 113 _ _ rfl _ _ rfl rfl HSN.out ?_))
    exact hK _ _ ⟨W2.heap.size, hsz, World.alloc_heap_new _ _, rfl⟩ ((Below.refl _ _).alloc (Nat.le_refl _) _)
  case body =>
    rintro l2 pre x a' q W2 hI hs2 hqb hsp ⟨Bx, hBx, bX, rfl⟩
    have hxl : x.1 = pre.length := finRange_at _ _ _ hsp
    have hlen := hI.len
    have bx0 := hI.box0.1.cell
    have bx1 := hI.box1.1.cell
    have HI := Lib.hid hI
    have HQ := Lib.hid hqb
    have HXL := Lib.hid hxl
    by_cases hk : pre.length = marks.length
    · have HKE := Lib.hid hk
      clear hI hqb hs2 bX hlen
      gi_wp2_with fail
      exact ⟨Keeps.refl _ _, rfl, pre, x, rfl, HI.out, HKE.out⟩
    · have k2 : ((pre.length : Nat) : Int) < (marks.length : Int) := by omega
      have k3 : ¬ ((pre.length : Nat) : Int) = (marks.length : Int) := by omega
      obtain ⟨ma', mc', e0, hc⟩ := HK.out
      simp only [Value.slice.injEq, true_and] at e0
      obtain ⟨rfl, rfl⟩ := e0
      obtain ⟨mb, mo, rfl, hmb, hmF, hmj⟩ := hc (by omega)
      have cm : W2.cell? ⟨mb, mo + pre.length, none⟩ = some (.bool (marks[pre.length]?.getD false)) := (World.cell?_of_block (a := ⟨mb, mo + pre.length, none⟩) (hI.turn.block mb hmb hmF)).trans (hmj _ (by omega))
      have HB := Lib.hid bX
      clear hI hqb hs2 hlen hk hc hmj bX
      cases hmk2 : marks[pre.length]?.getD false with
      | false =>
        rw [hmk2] at cm
        gi_wp2_with fail
        exact ⟨Keeps.refl _ _, HI.out.keep x HXL.out (by omega) hmk2⟩
      | true =>
        rw [hmk2] at cm
        gi_wp2_with fail
        have hD2 := HI.out.dev.below (Below.drew (Below.refl _ _))
        have hw := HD.out.ok.waits _ (List.getElem_mem (show pre.length < d.waits.length by omega))
        have hith : d.waits[pre.length]'(by omega) = ithW d.waits pre.length := by unfold ithW; rw [List.getElem?_eq_getElem (by omega), Option.getD_some]
        rw [hith] at hw
        have hBX := HB.out
        rw [HXL.out] at hBX
        have hBW := wait_range hBX
        have hPUT := row_putLine hD2.stays _ hw.1 _ hw.2
        have hST := store_line (t := 110) (by kernel_rfl) hD2.stays _ hw.1 hw.2
        have hGT : ∀ k, (k = g ∨ q k) → k < W2.heap.size → ¬ k = T := fun k hk hl => by
          rcases hk with rfl | hk
          · have h0 : 0 < d.waits.length := by omega
            obtain ⟨ea, hrw⟩ := HGA.out h0
            rcases HD.out.wait_ne with ⟨ad, e⟩ | hne
            · simp only [Value.slice.injEq] at e
              omega
            · exact (hne k (by rw [ea]; rfl)).2.2
          · rintro rfl
            exact (HI.out.apart _ hk).1 HD.out.inT
        obtain ⟨i, hi⟩ : ∃ i, (ithW d.waits pre.length).1 = i := ⟨_, rfl⟩
        obtain ⟨L, hL⟩ : ∃ L, (ithW d.waits pre.length).2 = L := ⟨_, rfl⟩
        rw [hi, hL] at hPUT hST hw hBW
        have HI1 := Lib.hid hi
        have HL1 := Lib.hid hL
        have HMK := Lib.hid hmk2
        have HLT := Lib.hid (show pre.length < marks.length by omega)
        have HPUT := Lib.hid hPUT
        have HST := Lib.hid hST
        have HGT := Lib.hid hGT
        have hin : (i : Int) < (n : Int) := by omega
        have hlr : ∀ w', (w'.cell? ⟨B, 1, none⟩ = some (.slice (some ⟨T, 0, none⟩) n cT) ∧ w'.cell? ⟨w.heap.size, 0, none⟩ = some (.pointer (some ⟨B, 0, none⟩)) ∧ w'.cell? ⟨Bx, 0, none⟩ = some (.int .i64 (i : Nat)) ∧ w'.rangeAt Bx 1 (vals L)) →
            (Instr.loadAt 110 (.pointer (some ⟨Bx, 1, none⟩))).run Tryd.prog w' = .ok (.agg (vals L).toArray) w' := fun w' h =>
          run_loadAt_mid w' Bx 1 110 _ _ h.2.2.2 Tryd.underlying110 rfl (by rw [vals_length, hw.2]; kernel_rfl)
        have HLR := Lib.hid hlr
        refine wpIn_region_N 9 (fun w' => w'.cell? ⟨B, 1, none⟩ = some (.slice (some ⟨T, 0, none⟩) n cT) ∧ w'.cell? ⟨w.heap.size, 0, none⟩ = some (.pointer (some ⟨B, 0, none⟩)) ∧ w'.cell? ⟨Bx, 0, none⟩ = some (.int .i64 (i : Nat)) ∧ w'.rangeAt Bx 1 (vals L)) (by kernel_rfl) ?_
        have hR : (fun w' : World => w'.cell? ⟨B, 1, none⟩ = some (.slice (some ⟨T, 0, none⟩) n cT) ∧ w'.cell? ⟨w.heap.size, 0, none⟩ = some (.pointer (some ⟨B, 0, none⟩)) ∧ w'.cell? ⟨Bx, 0, none⟩ = some (.int .i64 (i : Nat)) ∧ w'.rangeAt Bx 1 (vals L)) W2.drew := ⟨hD2.cell1, (World.cell?_of_block (a := ⟨w.heap.size, 0, none⟩) rfl).trans bx0, hBW.1, hBW.2⟩
        clear hD2 hw hith hBX hBW hPUT hST hGT hlr hi hL bx0 bx1 cm hmk2 k3 k2
        (refine wpAnyN_take (i := 0) (v := ?_) (noDefers_of (by kernel_rfl)) rfl (by kernel_rfl) (by kernel_rfl) (fun _ _ _ h => by first | exact h | cases h.1) (fun _ => by first | rfl | simp [Oper.about]) (Or.inl ⟨by rfl, ?_⟩) hR ?_; rotate_left; (focus (intro w hSw; (try dsimp only at hSw); go_simp; (try with_reducible rfl))); (try simp only [put_laws])); (refine wpAnyN_take (i := 1) (v := ?_) (noDefers_of (by kernel_rfl)) rfl (by kernel_rfl) (by kernel_rfl) (fun _ _ _ h => by first | exact h | cases h.1) (fun _ => by first | rfl | simp [Oper.about]) (Or.inl ⟨by rfl, ?_⟩) hR ?_; rotate_left; (focus (intro w hSw; (try dsimp only at hSw); go_simp; (try with_reducible rfl))); (try simp only [put_laws])); (refine wpAnyN_take (i := 2) (v := ?_) (noDefers_of (by kernel_rfl)) rfl (by kernel_rfl) (by kernel_rfl) (fun _ _ _ h => by first | exact h | cases h.1) (fun _ => by first | rfl | simp [Oper.about]) (Or.inl ⟨by rfl, ?_⟩) hR ?_; rotate_left; (focus (intro w hSw; (try dsimp only at hSw); go_simp; (try with_reducible rfl))); (try simp only [put_laws])); (refine wpAnyN_take (i := 3) (v := ?_) (noDefers_of (by kernel_rfl)) rfl (by kernel_rfl) (by kernel_rfl) (fun _ _ _ h => by first | exact h | cases h.1) (fun _ => by first | rfl | simp [Oper.about]) (Or.inl ⟨by rfl, ?_⟩) hR ?_; rotate_left; (focus (intro w hSw; (try dsimp only at hSw); go_simp; (try with_reducible rfl))); (try simp only [put_laws])); (refine wpAnyN_take (i := 4) (v := ?_) (noDefers_of (by kernel_rfl)) rfl (by kernel_rfl) (by kernel_rfl) (fun _ _ _ h => by first | exact h | cases h.1) (fun _ => by first | rfl | simp [Oper.about]) (Or.inl ⟨by rfl, ?_⟩) hR ?_; rotate_left; (focus (intro w hSw; (try dsimp only at hSw); go_simp; (try with_reducible rfl))); (try simp only [put_laws])); (refine wpAnyN_take (i := 5) (v := ?_) (noDefers_of (by kernel_rfl)) rfl (by kernel_rfl) (by kernel_rfl) (fun _ _ _ h => by first | exact h | cases h.1) (fun _ => by first | rfl | simp [Oper.about]) (Or.inl ⟨by rfl, ?_⟩) hR ?_; rotate_left; (focus (intro w hSw; (try dsimp only at hSw); go_simp; (try with_reducible rfl))); (try simp only [put_laws])); (refine wpAnyN_take (i := 6) (v := ?_) (noDefers_of (by kernel_rfl)) rfl (by kernel_rfl) (by kernel_rfl) (fun _ _ _ h => by first | exact h | cases h.1) (fun _ => by first | rfl | simp [Oper.about]) (Or.inl ⟨by rfl, ?_⟩) hR ?_; rotate_left; (focus (intro w hSw; (try dsimp only at hSw); go_simp; (try with_reducible rfl))); (try simp only [put_laws]))
        (refine wpAnyN_take (i := 7) (v := _) (noDefers_of (by kernel_rfl)) rfl (by kernel_rfl) (by kernel_rfl) (fun _ _ _ h => by first | exact h | cases h.1) (fun _ => by first | rfl | simp [Oper.about]) (Or.inl ⟨by rfl, fun w hSw => exec_load_eq rfl rfl (HLR.out w hSw)⟩) hR ?_; (try simp only [put_laws]))
        (refine wpAnyN_take (i := 8) (v := ?_) (noDefers_of (by kernel_rfl)) rfl (by kernel_rfl) (by kernel_rfl) (fun _ _ _ h => by first | exact h | cases h.1) (fun _ => by first | rfl | simp [Oper.about]) (Or.inl ⟨by rfl, ?_⟩) hR ?_; rotate_left; (focus (intro w hSw; (try dsimp only at hSw); go_simp; (try with_reducible rfl))); (try simp only [put_laws]))
        (refine wpAnyN_last rfl (by kernel_rfl) (by rfl) (fun K hK => ?_); (try simp only [elem_laws]))
        refine wpIn_store_eq 110 _ _ rfl _ _ rfl rfl HST.out ?_
        refine hK _ _ ?_
        clear hK K
        (try simp only [put_laws])
        refine wpAnyN_done (by kernel_rfl) ?_ _
        clear hR
        gi_wp2_with fail
        refine ⟨⟨HPUT.out.2.size, fun k hk hl => HPUT.out.2.block k hl (HGT.out k hk hl)⟩, HI.out.put x HXL.out HLT.out HMK.out ?_ ?_⟩
        · exact (Turn.of_below (Below.drew (Below.refl _ _)) (Nat.le_refl _)).trans HPUT.out.2
        · rw [HI1.out, HL1.out]
          exact HPUT.out.1
  case done =>
    rintro D ys W2 hD rfl hI hK'
    have hE := hI.dev
    rw [show d.waits.take (List.finRange d.waits.length).length = d.waits by rw [List.length_finRange]; exact List.take_length] at hE
    have hcl := hE.below (Below.refl _ _)
    have b0 := hI.box0.1.cell
    have hE3 := hE.set_waits (l := []) (Turn.refl (fun _ => False) _) ⟨id, id, id⟩ (.inr (World.ownsRow_nil _ _ _ _)) (fun _ h => h) (.inr fun g hg => by cases hg) (fun k hk => ⟨hE.far k hk, hE.live k hk⟩) ⟨hE.ok.seen, hE.ok.stays, (fun _ h => by cases h), List.Pairwise.nil⟩
    have HT := Lib.hid hI.turn
    have HLV := Lib.hid hI.live
    have c2 := hE.cell2
    have f2 := hE.frozen 2
    have hB' := hE.lt.1
    have hE4 := hE3.below (Below.drew (Below.refl _ _))
    have HE := Lib.hid hE
    have HE4 := Lib.hid hE4
    have HF := Lib.hid (row_full hE4.seen hE4.ok.stays)
    have HTT := Lib.hid (show Turn F w ((W2.setCell ⟨B, 2, none⟩ (.slice none 0 0)).drew.setCells S 0 (vals (putSome marks d.stays d.waits))) from
      HT.out.trans ((Turn.setCell W2 (o := 2) (.slice none 0 0) hE.inB).trans ((Turn.of_below (Below.drew (Below.refl _ _)) (Nat.le_refl _)).trans (HF.out.2.mono fun k e => by rw [e]; exact hE.inS))))
    have HDD := Lib.hid (HE4.out.set_seen HF.out.2 HF.out.1)
    have HKF := Lib.hid (show ((W2.setCell ⟨B, 2, none⟩ (.slice none 0 0)).drew.setCells S 0 (vals (putSome marks d.stays d.waits))).heap[D]? = some (.deferred (some [])) from
      (HF.out.2.block D (by have := (Array.getElem?_eq_some_iff.1 hK').1; simpa [World.setCell] using this) (by have := HLV.out S hE.inS; have := HSZ.out; omega)).trans ((Below.heap_setCell _ _ _ D (show D ≠ B by have := HSZ.out; omega)).trans hK'))
    have HC := Lib.hid (run_copy_lines hE4.seen hE4.stays 3)
    have cb : (W2.setCell ⟨B, 2, none⟩ (.slice none 0 0)).drew.cell? ⟨w.heap.size, 0, none⟩ = some (.pointer (some ⟨B, 0, none⟩)) := (World.cell?_of_block (a := ⟨w.heap.size, 0, none⟩) (Below.heap_setCell _ _ _ w.heap.size (show w.heap.size ≠ B by omega))).trans b0
    have hR : (fun w' : World => w'.cell? ⟨B, 0, none⟩ = some (.slice (some ⟨S, 0, none⟩) n cS) ∧ w'.cell? ⟨B, 1, none⟩ = some (.slice (some ⟨T, 0, none⟩) n cT) ∧ w'.cell? ⟨w.heap.size, 0, none⟩ = some (.pointer (some ⟨B, 0, none⟩))) (W2.setCell ⟨B, 2, none⟩ (.slice none 0 0)).drew := ⟨hE4.cell0, hE4.cell1, cb⟩
    clear hcl hE hE3 hE4 hI cb
    gi_wp2_with fail
    refine wpIn_normal ?_
    refine wpIn_region_N 9 (fun w' => w'.cell? ⟨B, 0, none⟩ = some (.slice (some ⟨S, 0, none⟩) n cS) ∧ w'.cell? ⟨B, 1, none⟩ = some (.slice (some ⟨T, 0, none⟩) n cT) ∧ w'.cell? ⟨w.heap.size, 0, none⟩ = some (.pointer (some ⟨B, 0, none⟩))) (by kernel_rfl) ?_
    (refine wpAnyN_take2 8 (i := 0) (v := ?_) (noDefers_of (by kernel_rfl)) rfl (by kernel_rfl) (by kernel_rfl) (fun _ _ _ h => by first | exact h | cases h.1) (fun _ => by first | rfl | simp [Oper.about]) (Or.inl ⟨by rfl, ?_⟩) hR ?_; rotate_left; (focus (intro w hSw; (try dsimp only at hSw); go_simp; (try with_reducible rfl))); (try simp only [put_laws])); (refine wpAnyN_take2 8 (i := 1) (v := ?_) (noDefers_of (by kernel_rfl)) rfl (by kernel_rfl) (by kernel_rfl) (fun _ _ _ h => by first | exact h | cases h.1) (fun _ => by first | rfl | simp [Oper.about]) (Or.inl ⟨by rfl, ?_⟩) hR ?_; rotate_left; (focus (intro w hSw; (try dsimp only at hSw); go_simp; (try with_reducible rfl))); (try simp only [put_laws])); (refine wpAnyN_take2 8 (i := 2) (v := ?_) (noDefers_of (by kernel_rfl)) rfl (by kernel_rfl) (by kernel_rfl) (fun _ _ _ h => by first | exact h | cases h.1) (fun _ => by first | rfl | simp [Oper.about]) (Or.inl ⟨by rfl, ?_⟩) hR ?_; rotate_left; (focus (intro w hSw; (try dsimp only at hSw); go_simp; (try with_reducible rfl))); (try simp only [put_laws])); (refine wpAnyN_take2 8 (i := 3) (v := ?_) (noDefers_of (by kernel_rfl)) rfl (by kernel_rfl) (by kernel_rfl) (fun _ _ _ h => by first | exact h | cases h.1) (fun _ => by first | rfl | simp [Oper.about]) (Or.inl ⟨by rfl, ?_⟩) hR ?_; rotate_left; (focus (intro w hSw; (try dsimp only at hSw); go_simp; (try with_reducible rfl))); (try simp only [put_laws])); (refine wpAnyN_take2 8 (i := 4) (v := ?_) (noDefers_of (by kernel_rfl)) rfl (by kernel_rfl) (by kernel_rfl) (fun _ _ _ h => by first | exact h | cases h.1) (fun _ => by first | rfl | simp [Oper.about]) (Or.inl ⟨by rfl, ?_⟩) hR ?_; rotate_left; (focus (intro w hSw; (try dsimp only at hSw); go_simp; (try with_reducible rfl))); (try simp only [put_laws])); (refine wpAnyN_take2 8 (i := 5) (v := ?_) (noDefers_of (by kernel_rfl)) rfl (by kernel_rfl) (by kernel_rfl) (fun _ _ _ h => by first | exact h | cases h.1) (fun _ => by first | rfl | simp [Oper.about]) (Or.inl ⟨by rfl, ?_⟩) hR ?_; rotate_left; (focus (intro w hSw; (try dsimp only at hSw); go_simp; (try with_reducible rfl))); (try simp only [put_laws])); (refine wpAnyN_take2 8 (i := 6) (v := ?_) (noDefers_of (by kernel_rfl)) rfl (by kernel_rfl) (by kernel_rfl) (fun _ _ _ h => by first | exact h | cases h.1) (fun _ => by first | rfl | simp [Oper.about]) (Or.inl ⟨by rfl, ?_⟩) hR ?_; rotate_left; (focus (intro w hSw; (try dsimp only at hSw); go_simp; (try with_reducible rfl))); (try simp only [put_laws])); (refine wpAnyN_take2 8 (i := 7) (v := ?_) (noDefers_of (by kernel_rfl)) rfl (by kernel_rfl) (by kernel_rfl) (fun _ _ _ h => by first | exact h | cases h.1) (fun _ => by first | rfl | simp [Oper.about]) (Or.inl ⟨by rfl, ?_⟩) hR ?_; rotate_left; (focus (intro w hSw; (try dsimp only at hSw); go_simp; (try with_reducible rfl))); (try simp only [put_laws])); (refine wpAnyN_take2 8 (i := 8) (v := ?_) (noDefers_of (by kernel_rfl)) rfl (by kernel_rfl) (by kernel_rfl) (fun _ _ _ h => by first | exact h | cases h.1) (fun _ => by first | rfl | simp [Oper.about]) (Or.inl ⟨by rfl, ?_⟩) hR ?_; rotate_left; (focus (intro w hSw; (try dsimp only at hSw); go_simp; (try with_reducible rfl))); (try simp only [put_laws]))
    (refine wpAnyN_last rfl (by kernel_rfl) (by rfl) (fun K hK => ?_); (try simp only [elem_laws]))
    refine wpIn_copy_eq _ _ _ rfl _ _ _ rfl rfl HC.out ?_
    refine hK _ _ ?_
    clear hK K
    (try simp only [put_laws])
    refine wpAnyN_done (by kernel_rfl) ?_ _
    clear hR
    refine ⟨rfl, ?_⟩
    gi_wp2_with fail
    refine wpIn_label ?_
    gi_wp2_with fail
    refine leaves_one HKF.out fun W' ht hc => ⟨_, results_tmp rfl _ _ _, rfl, HTT.out.tail ht ?_, _, HDD.out.turn ht ?_⟩
    · rintro k rfl
      have := HSZ.out
      omega
    · rintro k hF - rfl
      have := HSZ.out
      have := HLV.out k hF
      omega
  case stop =>
    rintro D cd pre W2 hD hpre ⟨rfl, p0, x, rfl, hI, hl0⟩ hK'
    have hE := hI.dev
    have hp1 := hpre.length_le
    rw [List.length_append, List.length_singleton, List.length_finRange] at hp1
    rw [hl0, ← putSome_past marks d.stays d.waits (by omega) (d.waits.length - marks.length), List.take_of_length_le (by omega)] at hE
    have hcl := hE.below (Below.refl _ _)
    have b0 := hI.box0.1.cell
    have hE3 := hE.set_waits (l := []) (Turn.refl (fun _ => False) _) ⟨id, id, id⟩ (.inr (World.ownsRow_nil _ _ _ _)) (fun _ h => h) (.inr fun g hg => by cases hg) (fun k hk => ⟨hE.far k hk, hE.live k hk⟩) ⟨hE.ok.seen, hE.ok.stays, (fun _ h => by cases h), List.Pairwise.nil⟩
    have HT := Lib.hid hI.turn
    have HLV := Lib.hid hI.live
    have c2 := hE.cell2
    have f2 := hE.frozen 2
    have hB' := hE.lt.1
    have hE4 := hE3.below (Below.drew (Below.refl _ _))
    have HE := Lib.hid hE
    have HE4 := Lib.hid hE4
    have HF := Lib.hid (row_full hE4.seen hE4.ok.stays)
    have HTT := Lib.hid (show Turn F w ((W2.setCell ⟨B, 2, none⟩ (.slice none 0 0)).drew.setCells S 0 (vals (putSome marks d.stays d.waits))) from
      HT.out.trans ((Turn.setCell W2 (o := 2) (.slice none 0 0) hE.inB).trans ((Turn.of_below (Below.drew (Below.refl _ _)) (Nat.le_refl _)).trans (HF.out.2.mono fun k e => by rw [e]; exact hE.inS))))
    have HDD := Lib.hid (HE4.out.set_seen HF.out.2 HF.out.1)
    have HKF := Lib.hid (show ((W2.setCell ⟨B, 2, none⟩ (.slice none 0 0)).drew.setCells S 0 (vals (putSome marks d.stays d.waits))).heap[D]? = some (.deferred (some [])) from
      (HF.out.2.block D (by have := (Array.getElem?_eq_some_iff.1 hK').1; simpa [World.setCell] using this) (by have := HLV.out S hE.inS; have := HSZ.out; omega)).trans ((Below.heap_setCell _ _ _ D (show D ≠ B by have := HSZ.out; omega)).trans hK'))
    have HC := Lib.hid (run_copy_lines hE4.seen hE4.stays 3)
    have cb : (W2.setCell ⟨B, 2, none⟩ (.slice none 0 0)).drew.cell? ⟨w.heap.size, 0, none⟩ = some (.pointer (some ⟨B, 0, none⟩)) := (World.cell?_of_block (a := ⟨w.heap.size, 0, none⟩) (Below.heap_setCell _ _ _ w.heap.size (show w.heap.size ≠ B by omega))).trans b0
    have hR : (fun w' : World => w'.cell? ⟨B, 0, none⟩ = some (.slice (some ⟨S, 0, none⟩) n cS) ∧ w'.cell? ⟨B, 1, none⟩ = some (.slice (some ⟨T, 0, none⟩) n cT) ∧ w'.cell? ⟨w.heap.size, 0, none⟩ = some (.pointer (some ⟨B, 0, none⟩))) (W2.setCell ⟨B, 2, none⟩ (.slice none 0 0)).drew := ⟨hE4.cell0, hE4.cell1, cb⟩
    clear hcl hE hE3 hE4 hI cb
    gi_wp2_with fail
    refine wpIn_normal ?_
    refine wpIn_region_N 9 (fun w' => w'.cell? ⟨B, 0, none⟩ = some (.slice (some ⟨S, 0, none⟩) n cS) ∧ w'.cell? ⟨B, 1, none⟩ = some (.slice (some ⟨T, 0, none⟩) n cT) ∧ w'.cell? ⟨w.heap.size, 0, none⟩ = some (.pointer (some ⟨B, 0, none⟩))) (by kernel_rfl) ?_
    (refine wpAnyN_take2 8 (i := 0) (v := ?_) (noDefers_of (by kernel_rfl)) rfl (by kernel_rfl) (by kernel_rfl) (fun _ _ _ h => by first | exact h | cases h.1) (fun _ => by first | rfl | simp [Oper.about]) (Or.inl ⟨by rfl, ?_⟩) hR ?_; rotate_left; (focus (intro w hSw; (try dsimp only at hSw); go_simp; (try with_reducible rfl))); (try simp only [put_laws])); (refine wpAnyN_take2 8 (i := 1) (v := ?_) (noDefers_of (by kernel_rfl)) rfl (by kernel_rfl) (by kernel_rfl) (fun _ _ _ h => by first | exact h | cases h.1) (fun _ => by first | rfl | simp [Oper.about]) (Or.inl ⟨by rfl, ?_⟩) hR ?_; rotate_left; (focus (intro w hSw; (try dsimp only at hSw); go_simp; (try with_reducible rfl))); (try simp only [put_laws])); (refine wpAnyN_take2 8 (i := 2) (v := ?_) (noDefers_of (by kernel_rfl)) rfl (by kernel_rfl) (by kernel_rfl) (fun _ _ _ h => by first | exact h | cases h.1) (fun _ => by first | rfl | simp [Oper.about]) (Or.inl ⟨by rfl, ?_⟩) hR ?_; rotate_left; (focus (intro w hSw; (try dsimp only at hSw); go_simp; (try with_reducible rfl))); (try simp only [put_laws])); (refine wpAnyN_take2 8 (i := 3) (v := ?_) (noDefers_of (by kernel_rfl)) rfl (by kernel_rfl) (by kernel_rfl) (fun _ _ _ h => by first | exact h | cases h.1) (fun _ => by first | rfl | simp [Oper.about]) (Or.inl ⟨by rfl, ?_⟩) hR ?_; rotate_left; (focus (intro w hSw; (try dsimp only at hSw); go_simp; (try with_reducible rfl))); (try simp only [put_laws])); (refine wpAnyN_take2 8 (i := 4) (v := ?_) (noDefers_of (by kernel_rfl)) rfl (by kernel_rfl) (by kernel_rfl) (fun _ _ _ h => by first | exact h | cases h.1) (fun _ => by first | rfl | simp [Oper.about]) (Or.inl ⟨by rfl, ?_⟩) hR ?_; rotate_left; (focus (intro w hSw; (try dsimp only at hSw); go_simp; (try with_reducible rfl))); (try simp only [put_laws])); (refine wpAnyN_take2 8 (i := 5) (v := ?_) (noDefers_of (by kernel_rfl)) rfl (by kernel_rfl) (by kernel_rfl) (fun _ _ _ h => by first | exact h | cases h.1) (fun _ => by first | rfl | simp [Oper.about]) (Or.inl ⟨by rfl, ?_⟩) hR ?_; rotate_left; (focus (intro w hSw; (try dsimp only at hSw); go_simp; (try with_reducible rfl))); (try simp only [put_laws])); (refine wpAnyN_take2 8 (i := 6) (v := ?_) (noDefers_of (by kernel_rfl)) rfl (by kernel_rfl) (by kernel_rfl) (fun _ _ _ h => by first | exact h | cases h.1) (fun _ => by first | rfl | simp [Oper.about]) (Or.inl ⟨by rfl, ?_⟩) hR ?_; rotate_left; (focus (intro w hSw; (try dsimp only at hSw); go_simp; (try with_reducible rfl))); (try simp only [put_laws])); (refine wpAnyN_take2 8 (i := 7) (v := ?_) (noDefers_of (by kernel_rfl)) rfl (by kernel_rfl) (by kernel_rfl) (fun _ _ _ h => by first | exact h | cases h.1) (fun _ => by first | rfl | simp [Oper.about]) (Or.inl ⟨by rfl, ?_⟩) hR ?_; rotate_left; (focus (intro w hSw; (try dsimp only at hSw); go_simp; (try with_reducible rfl))); (try simp only [put_laws])); (refine wpAnyN_take2 8 (i := 8) (v := ?_) (noDefers_of (by kernel_rfl)) rfl (by kernel_rfl) (by kernel_rfl) (fun _ _ _ h => by first | exact h | cases h.1) (fun _ => by first | rfl | simp [Oper.about]) (Or.inl ⟨by rfl, ?_⟩) hR ?_; rotate_left; (focus (intro w hSw; (try dsimp only at hSw); go_simp; (try with_reducible rfl))); (try simp only [put_laws]))
    (refine wpAnyN_last rfl (by kernel_rfl) (by rfl) (fun K hK => ?_); (try simp only [elem_laws]))
    refine wpIn_copy_eq _ _ _ rfl _ _ _ rfl rfl HC.out ?_
    refine hK _ _ ?_
    clear hK K
    (try simp only [put_laws])
    refine wpAnyN_done (by kernel_rfl) ?_ _
    clear hR
    refine ⟨rfl, ?_⟩
    gi_wp2_with fail
    refine wpIn_label ?_
    gi_wp2_with fail
    refine leaves_one HKF.out fun W' ht hc => ⟨_, results_tmp rfl _ _ _, rfl, HTT.out.tail ht ?_, _, HDD.out.turn ht ?_⟩
    · rintro k rfl
      have := HSZ.out
      omega
    · rintro k hF - rfl
      have := HSZ.out
      have := HLV.out k hF
      omega
end Go.Proofs.YtohdgjmmekgcmaaDoor

/-
  pmem: no device crashes; lines compared.
-/
namespace Go.Proofs.YtohdgjmmekgcmaaDoor
open Go.RowKit Go.Shelf

theorem crash_no {v : Value} (ma : Option Addr) (m mc : Nat) (w : World) (h : NoDev w v) :
    Calls Tryd.prog 28 #[v, .slice ma m mc] w fun e w' => e = .returned (.int .i64 1) ∧ Below w.heap.size w w' := by
  obtain ⟨p, rfl⟩ := h.ptr
  have hb0 : Below w.heap.size w ((w.alloc (.cells #[.pointer p] 29)).alloc (.cells #[.slice ma m mc] 24)) := (by repeat (first | exact Below.refl _ _ | assumption | refine Below.drew ?_ | refine below_drewN ?_ _ | refine Below.alloc ?_ (by (try simp) <;> omega) _ | refine Below.setCell ?_ (by (try simp) <;> omega) _ | refine Below.trans ?_ (Below.mono (by assumption) (by (try simp) <;> omega))))
  have HF := Lib.hid (missing_no _ (h.below hb0))
  clear h hb0
  go_enter Tryd.func28, Tryd.ntmps28
  go_wp2_with fail
  refine wp_scope_forward 0 rfl ?_
  go_wp2_with fail
  refine HF.out.mono ?_
  rintro e w1 ⟨rfl, rfl⟩
  go_wp2_with fail
  go_step3
  refine ⟨rfl, ?_⟩
  go_wp2
  rw [Exit.jump_ret]
  go_ret
  exact ⟨rfl, (by repeat (first | exact Below.refl _ _ | assumption | refine Below.drew ?_ | refine below_drewN ?_ _ | refine Below.alloc ?_ (by (try simp) <;> omega) _ | refine Below.setCell ?_ (by (try simp) <;> omega) _ | refine Below.trans ?_ (Below.mono (by assumption) (by (try simp) <;> omega))))⟩
theorem all_range_int : ∀ (xs ys : List Int), xs.length = ys.length → ((List.range xs.length).all fun i => xs.getD i 0 == ys.getD i 0) = (xs == ys)
  | [], [], _ => rfl
  | x :: xs, y :: ys, h => by
    have ih := all_range_int xs ys (by simpa using h)
    rw [List.length_cons, List.range_succ_eq_map, List.all_cons, List.all_map]
    simp only [List.getD_cons_zero, Function.comp_def, List.getD_cons_succ, ih]
    simp [List.cons_beq_cons]
  | [], _ :: _, h => by simp at h
  | _ :: _, [], h => by simp at h
theorem eqItems_vals {P : Program} (d : Nat) (e : TypeId) (he : P.underlying e = some (.int .u64)) (xs ys : List Int) (w : World) :
    ∀ l : List Nat, (∀ i ∈ l, i < xs.length ∧ i < ys.length) → (Op.eqItems (d + 1) e 1 (vals xs).toArray (vals ys).toArray l).run P w = .ok (l.all fun i => xs.getD i 0 == ys.getD i 0) w
  | [], _ => by simp [Op.eqItems]
  | i :: l, h => by
    obtain ⟨hx, hy⟩ := h i (by simp)
    have px : (part e (vals xs).toArray (i * 1)).run P w = .ok (.int .u64 (xs.getD i 0)) w := by
      simp [part, isAgg, run_underlying he, List.getD, vals, List.getElem?_eq_getElem hx]
    have py : (part e (vals ys).toArray (i * 1)).run P w = .ok (.int .u64 (ys.getD i 0)) w := by
      simp [part, isAgg, run_underlying he, List.getD, vals, List.getElem?_eq_getElem hy]
    have ih := eqItems_vals d e he xs ys w l (fun j hj => h j (by simp [hj]))
    simp only [Op.eqItems, Sem.run_bind, px, py, Result.andThen_ok, run_equalIn_int w d e .u64 .u64 _ _ he, List.all_cons]
    cases hb : (xs.getD i 0 == ys.getD i 0)
    · simp
    · simpa using ih
theorem equal_line {t : TypeId} (ht : Tryd.prog.underlying t = some (.array 8 23)) (d : Nat) (L M : List Int) (hL : L.length = 8) (hM : M.length = 8) (w : World) :
    (Op.equalIn (d + 2) t (.agg (vals L).toArray) (.agg (vals M).toArray)).run Tryd.prog w = .ok (L == M) w := by
  obtain ⟨i, hi⟩ := Option.isSome_iff_exists.1 (show (Tryd.prog.info? 23).isSome = true by kernel_rfl)
  rw [run_equalIn_array (w := w) (d + 1) _ _ ht hi, show Tryd.prog.cellsOf 23 = 1 by kernel_rfl, eqItems_vals d 23 Tryd.underlying23 L M w _ (fun i hi => by rw [List.mem_range] at hi; omega), ← all_range_int L M (by omega), hL]
theorem neq_line (L M : List Int) (hL : L.length = 8) (hM : M.length = 8) (w : World) : (binOp .neq 110 (.agg (vals L).toArray) (.agg (vals M).toArray)).run Tryd.prog w = .ok (.bool (!(L == M))) w := by
  rw [run_neq_struct, equal_line Tryd.underlying110 9998 L M hL hM w]
  rfl
theorem dirty_succ (a b : List Int) (k : Nat) : dirty a b (k + 1) = dirty a b k + if lineAt a k != lineAt b k then 1 else 0 := by
  unfold dirty
  rw [List.range_succ, List.countP_append]
  simp [List.countP_cons]
theorem dirty_le (a b : List Int) (k : Nat) : dirty a b k ≤ k := by
  unfold dirty
  have := List.countP_le_length (p := fun j => lineAt a j != lineAt b j) (l := List.range k)
  simpa using this
set_option maxRecDepth 100000 in
theorem unlike_any {S T n cS cT : Nat} {us ws : List Int} (w : World) (hn : n ≤ 1024) (hS : w.ownsRow 0 110 8 (.slice (some ⟨S, 0, none⟩) n cS) n (vals us)) (hT : w.ownsRow 0 110 8 (.slice (some ⟨T, 0, none⟩) n cT) n (vals ws)) :
    Calls Tryd.prog 67 #[.slice (some ⟨S, 0, none⟩) n cS, .slice (some ⟨T, 0, none⟩) n cT] w fun e w' => e = .returned (.int .i64 (dirty us ws n : Nat)) ∧ Below w.heap.size w w' := by
  have HS := Lib.hid hS
  have HT := Lib.hid hT
  clear hS hT
  go_enter Tryd.func67, Tryd.ntmps67
  go_wp2_with fail
  go_loopw [5, 10] (fun c i wr => ∃ k : Nat, k ≤ n ∧ i = .int .i64 (k : Nat) ∧ c = .int .i64 (dirty us ws k : Nat) ∧ Hid (Below w.heap.size w wr)) (fun _ i _ => n - (intOf i).toNat)
  case atStart => exact ⟨0, by omega, rfl, rfl, Lib.hid (Below.refl _ _)⟩
  case round =>
    obtain ⟨k, hk, rfl, rfl, HB⟩ := hrel
    by_cases hlt : k < n
    · have hSr := own_keeps HS.out fun hl => HB.out.block S hl
      have hTr := own_keeps HT.out fun hl => HB.out.block T hl
      have zr := HB.out.size
      have hL := lineAt_length (ws := us) (by have := hSr.1; rw [vals_length] at this; exact this) hlt
      have hM := lineAt_length (ws := ws) (by have := hTr.1; rw [vals_length] at this; exact this) hlt
      have hld := load_line Tryd.underlying110 rfl (by kernel_rfl) hSr k hlt
      have hdk := dirty_le us ws k
      have HDS := Lib.hid (dirty_succ us ws k)
      have hinfo : (Tryd.prog.info? 110).map (·.size) = some (vals (lineAt us k)).toArray.size := by rw [List.size_toArray, vals_length, hL]; kernel_rfl
      have HSN := Lib.hid (run_storeAt_new (P := Tryd.prog) wr 110 zero8 (vals (lineAt us k)).toArray hinfo (by simp [zero8, vals_length, hL]) (all_oneCell_toArray (vals_one _)))
      have hbd : Below wr.heap.size wr (wr.alloc (.cells (vals (lineAt us k)).toArray 110)).drew := Below.drew ((Below.refl _ _).alloc (Nat.le_refl _) _)
      have hlx := load_blk (W := (wr.alloc (.cells (vals (lineAt us k)).toArray 110)).drew) Tryd.underlying110 rfl hinfo (World.alloc_heap_new wr (.cells (vals (lineAt us k)).toArray 110))
      have hly := load_line Tryd.underlying110 rfl (by kernel_rfl) (own_keeps hTr fun hl => hbd.block T hl) k hlt
      have HNE := neq_line (lineAt us k) (lineAt ws k) hL hM
      obtain ⟨X, hX⟩ : ∃ X, (vals (lineAt us k)).toArray = X := ⟨_, rfl⟩
      obtain ⟨Y, hY⟩ : ∃ Y, (vals (lineAt ws k)).toArray = Y := ⟨_, rfl⟩
      obtain ⟨t, ht⟩ : ∃ t, (lineAt us k == lineAt ws k) = t := ⟨_, rfl⟩
      rw [hX] at hld HSN hlx HNE hbd hly
      rw [hY] at hly HNE
      rw [ht] at HNE
      have HTT := Lib.hid ht
      have HLD := Lib.hid hld
      have HLX := Lib.hid hlx
      have HLY := Lib.hid hly
      have HBD := Lib.hid hbd
      unfold zero8 at HSN
      have k2 : (k : Int) < (n : Int) := by omega
      clear hld hlx hly hX hY ht hinfo hL hM hSr hTr hbd
      go_wp2_with (first | (refine wpList_load_eq rfl 110 _ rfl _ _ rfl HLD.out ?_) | (refine wpList_store_eq rfl 110 _ _ rfl _ _ rfl rfl HSN.out ?_))
      refine wp_region_still_lit (by kernel_rfl) (by kernel_rfl) ?_
      refine wpStill_load_eq rfl 110 _ rfl _ _ rfl HLX.out ?_
      still_step
      still_step
      still_step
      refine wpStill_load_eq rfl 110 _ rfl _ _ rfl HLY.out ?_
      still_step
      refine wpStill_nil ?_
      have HK1 : Hid (Below w.heap.size w (wr.alloc (.cells X 110)).drew) := show Below _ _ _ from HB.out.trans (HBD.out.mono zr)
      have HB2 : Hid ((lineAt us k != lineAt ws k) = !t) := show _ = _ by rw [bne, HTT.out]
      cases t with
      | true =>
        go_wp2_with fail
        go_roundw
        case rel => exact ⟨k + 1, by omega, by go_num, by rw [HDS.out, HB2.out]; rfl, HK1⟩
        case measure => simp [intOf]; omega
      | false =>
        go_wp2_with fail
        go_roundw
        case rel => exact ⟨k + 1, by omega, by go_num, by rw [HDS.out, HB2.out]; go_num, HK1⟩
        case measure => simp [intOf]; omega
    · obtain rfl : k = n := by omega
      go_wp2_with fail
      go_ret
      exact ⟨rfl, HB.out⟩
end Go.Proofs.YtohdgjmmekgcmaaDoor

/-
  pmem: State.
-/
namespace Go.Proofs.YtohdgjmmekgcmaaDoor
open Go.RowKit Go.Shelf

set_option maxRecDepth 100000 in
set_option maxHeartbeats 2000000 in
theorem state_any {F : Nat → Prop} {B S T n cS cT : Nat} {q : Value} {d : Dv} (w : World) (h : DevB w F B S T n cS cT q d) :
    Calls Tryd.prog 29 #[.pointer (some ⟨B, 0, none⟩)] w fun e w' => e = .returned (.agg #[.int .i64 (n : Nat), .int .i64 (d.waits.length : Nat), .int .i64 (dirty d.seen d.stays n : Nat)]) ∧ Below w.heap.size w w' := by
  have b0 : Below w.heap.size w (w.alloc (.cells #[.int .i64 0, .int .i64 0, .int .i64 0] 62)) := (Below.refl _ _).alloc (Nat.le_refl _) _
  have HF := Lib.hid (missing_any _ (h.below b0))
  obtain ⟨a, c, rfl⟩ := h.waits.slice_n
  have hD1 := h.below (Below.drew b0)
  have HR : Hid (∀ w', Below (w.heap.size + 1) (w.alloc (.cells #[.int .i64 0, .int .i64 0, .int .i64 0] 62)).drew w' → DevB w' F B S T n cS cT (.slice a d.waits.length c) d) := show ∀ w', _ from fun w' hb => hD1.below (hb.mono (by simp))
  have HU := Lib.hid (unlike_any (w.alloc (.cells #[.int .i64 0, .int .i64 0, .int .i64 0] 62)).drew h.most hD1.seen hD1.stays)
  have hm := h.most
  clear h b0
  go_enter Tryd.func29, Tryd.ntmps29
  go_wp2_with fail
  refine HF.out.mono ?_
  rintro e w1 ⟨rfl, rfl⟩
  go_wp2_with fail
  have hR : (fun w' : World => w'.cell? ⟨B, 0, none⟩ = some (.slice (some ⟨S, 0, none⟩) n cS) ∧ w'.cell? ⟨B, 1, none⟩ = some (.slice (some ⟨T, 0, none⟩) n cT) ∧ w'.cell? ⟨B, 2, none⟩ = some (.slice a d.waits.length c)) (w.alloc (.cells #[.int .i64 0, .int .i64 0, .int .i64 0] 62)).drew := ⟨hD1.cell0, hD1.cell1, hD1.cell2⟩
  refine wp_region_M 22 (fun w' => w'.cell? ⟨B, 0, none⟩ = some (.slice (some ⟨S, 0, none⟩) n cS) ∧ w'.cell? ⟨B, 1, none⟩ = some (.slice (some ⟨T, 0, none⟩) n cT) ∧ w'.cell? ⟨B, 2, none⟩ = some (.slice a d.waits.length c)) (by kernel_rfl) ?_
  clear hD1
  (refine wpAnyM_take (i := 0) (v := ?_) rfl (by kernel_rfl) (by kernel_rfl) (fun _ _ _ h => h) (Or.inl ⟨by rfl, ?_⟩) hR ?_; rotate_left; (focus (intro w hSw; (try dsimp only at hSw); go_simp; (try with_reducible rfl))); (try simp only [put_laws])); (refine wpAnyM_take (i := 1) (v := ?_) rfl (by kernel_rfl) (by kernel_rfl) (fun _ _ _ h => h) (Or.inl ⟨by rfl, ?_⟩) hR ?_; rotate_left; (focus (intro w hSw; (try dsimp only at hSw); go_simp; (try with_reducible rfl))); (try simp only [put_laws])); (refine wpAnyM_take (i := 2) (v := ?_) rfl (by kernel_rfl) (by kernel_rfl) (fun _ _ _ h => h) (Or.inl ⟨by rfl, ?_⟩) hR ?_; rotate_left; (focus (intro w hSw; (try dsimp only at hSw); go_simp; (try with_reducible rfl))); (try simp only [put_laws])); (refine wpAnyM_take (i := 3) (v := ?_) rfl (by kernel_rfl) (by kernel_rfl) (fun _ _ _ h => h) (Or.inl ⟨by rfl, ?_⟩) hR ?_; rotate_left; (focus (intro w hSw; (try dsimp only at hSw); go_simp; (try with_reducible rfl))); (try simp only [put_laws])); (refine wpAnyM_take (i := 4) (v := ?_) rfl (by kernel_rfl) (by kernel_rfl) (fun _ _ _ h => h) (Or.inl ⟨by rfl, ?_⟩) hR ?_; rotate_left; (focus (intro w hSw; (try dsimp only at hSw); go_simp; (try with_reducible rfl))); (try simp only [put_laws])); (refine wpAnyM_take (i := 5) (v := ?_) rfl (by kernel_rfl) (by kernel_rfl) (fun _ _ _ h => h) (Or.inl ⟨by rfl, ?_⟩) hR ?_; rotate_left; (focus (intro w hSw; (try dsimp only at hSw); go_simp; (try with_reducible rfl))); (try simp only [put_laws])); (refine wpAnyM_take (i := 6) (v := ?_) rfl (by kernel_rfl) (by kernel_rfl) (fun _ _ _ h => h) (Or.inl ⟨by rfl, ?_⟩) hR ?_; rotate_left; (focus (intro w hSw; (try dsimp only at hSw); go_simp; (try with_reducible rfl))); (try simp only [put_laws])); (refine wpAnyM_take (i := 7) (v := ?_) rfl (by kernel_rfl) (by kernel_rfl) (fun _ _ _ h => h) (Or.inl ⟨by rfl, ?_⟩) hR ?_; rotate_left; (focus (intro w hSw; (try dsimp only at hSw); go_simp; (try with_reducible rfl))); (try simp only [put_laws])); (refine wpAnyM_take (i := 8) (v := ?_) rfl (by kernel_rfl) (by kernel_rfl) (fun _ _ _ h => h) (Or.inl ⟨by rfl, ?_⟩) hR ?_; rotate_left; (focus (intro w hSw; (try dsimp only at hSw); go_simp; (try with_reducible rfl))); (try simp only [put_laws])); (refine wpAnyM_take (i := 9) (v := ?_) rfl (by kernel_rfl) (by kernel_rfl) (fun _ _ _ h => h) (Or.inl ⟨by rfl, ?_⟩) hR ?_; rotate_left; (focus (intro w hSw; (try dsimp only at hSw); go_simp; (try with_reducible rfl))); (try simp only [put_laws])); (refine wpAnyM_take (i := 10) (v := ?_) rfl (by kernel_rfl) (by kernel_rfl) (fun _ _ _ h => h) (Or.inl ⟨by rfl, ?_⟩) hR ?_; rotate_left; (focus (intro w hSw; (try dsimp only at hSw); go_simp; (try with_reducible rfl))); (try simp only [put_laws])); (refine wpAnyM_take (i := 11) (v := ?_) rfl (by kernel_rfl) (by kernel_rfl) (fun _ _ _ h => h) (Or.inl ⟨by rfl, ?_⟩) hR ?_; rotate_left; (focus (intro w hSw; (try dsimp only at hSw); go_simp; (try with_reducible rfl))); (try simp only [put_laws])); (refine wpAnyM_take (i := 12) (v := ?_) rfl (by kernel_rfl) (by kernel_rfl) (fun _ _ _ h => h) (Or.inl ⟨by rfl, ?_⟩) hR ?_; rotate_left; (focus (intro w hSw; (try dsimp only at hSw); go_simp; (try with_reducible rfl))); (try simp only [put_laws])); (refine wpAnyM_take (i := 13) (v := ?_) rfl (by kernel_rfl) (by kernel_rfl) (fun _ _ _ h => h) (Or.inl ⟨by rfl, ?_⟩) hR ?_; rotate_left; (focus (intro w hSw; (try dsimp only at hSw); go_simp; (try with_reducible rfl))); (try simp only [put_laws])); (refine wpAnyM_take (i := 14) (v := ?_) rfl (by kernel_rfl) (by kernel_rfl) (fun _ _ _ h => h) (Or.inl ⟨by rfl, ?_⟩) hR ?_; rotate_left; (focus (intro w hSw; (try dsimp only at hSw); go_simp; (try with_reducible rfl))); (try simp only [put_laws])); (refine wpAnyM_take (i := 15) (v := ?_) rfl (by kernel_rfl) (by kernel_rfl) (fun _ _ _ h => h) (Or.inl ⟨by rfl, ?_⟩) hR ?_; rotate_left; (focus (intro w hSw; (try dsimp only at hSw); go_simp; (try with_reducible rfl))); (try simp only [put_laws])); (refine wpAnyM_take (i := 16) (v := ?_) rfl (by kernel_rfl) (by kernel_rfl) (fun _ _ _ h => h) (Or.inl ⟨by rfl, ?_⟩) hR ?_; rotate_left; (focus (intro w hSw; (try dsimp only at hSw); go_simp; (try with_reducible rfl))); (try simp only [put_laws])); (refine wpAnyM_take (i := 17) (v := ?_) rfl (by kernel_rfl) (by kernel_rfl) (fun _ _ _ h => h) (Or.inl ⟨by rfl, ?_⟩) hR ?_; rotate_left; (focus (intro w hSw; (try dsimp only at hSw); go_simp; (try with_reducible rfl))); (try simp only [put_laws])); (refine wpAnyM_take (i := 18) (v := ?_) rfl (by kernel_rfl) (by kernel_rfl) (fun _ _ _ h => h) (Or.inl ⟨by rfl, ?_⟩) hR ?_; rotate_left; (focus (intro w hSw; (try dsimp only at hSw); go_simp; (try with_reducible rfl))); (try simp only [put_laws])); (refine wpAnyM_take (i := 19) (v := ?_) rfl (by kernel_rfl) (by kernel_rfl) (fun _ _ _ h => h) (Or.inl ⟨by rfl, ?_⟩) hR ?_; rotate_left; (focus (intro w hSw; (try dsimp only at hSw); go_simp; (try with_reducible rfl))); (try simp only [put_laws]))
  (refine wpAnyM_one (i := 20) rfl (by kernel_rfl) (fun K hK => ?_); rw [if_pos (by rfl)]; (try simp only [elem_laws]))
  go_simp
  refine HU.out.mono ?_
  rintro e w3 ⟨rfl, hb3⟩
  have hb4 : Below (w.heap.size + 1) (w.alloc (.cells #[.int .i64 0, .int .i64 0, .int .i64 0] 62)).drew w3 := hb3.mono (by simp)
  have jb : w3.heap[w.heap.size]? = some (.cells #[.int .i64 0, .int .i64 0, .int .i64 0] 62 (0, 0)) := (hb4.block _ (by omega)).trans (World.alloc_heap_new w _)
  have e0 : w3.cell? ⟨w.heap.size, 0, none⟩ = some (.int .i64 0) := by simp [World.cell?, jb]
  have e1 : w3.cell? ⟨w.heap.size, 1, none⟩ = some (.int .i64 0) := by simp [World.cell?, jb]
  have e2 : w3.cell? ⟨w.heap.size, 2, none⟩ = some (.int .i64 0) := by simp [World.cell?, jb]
  have f0 : w3.frozen? ⟨w.heap.size, 0, none⟩ = false := by simp [World.frozen?, jb]
  have f1 : w3.frozen? ⟨w.heap.size, 1, none⟩ = false := by simp [World.frozen?, jb]
  have f2 : w3.frozen? ⟨w.heap.size, 2, none⟩ = false := by simp [World.frozen?, jb]
  have hd3 := HR.out w3 hb4
  have HB4 := Lib.hid (Below.trans (Below.drew ((Below.refl w.heap.size w).alloc (Nat.le_refl _) (.cells #[.int .i64 0, .int .i64 0, .int .i64 0] 62))) (hb4.mono (by omega)))
  have hR3 : w3.cell? ⟨B, 0, none⟩ = some (.slice (some ⟨S, 0, none⟩) n cS) ∧ w3.cell? ⟨B, 1, none⟩ = some (.slice (some ⟨T, 0, none⟩) n cT) ∧ w3.cell? ⟨B, 2, none⟩ = some (.slice a d.waits.length c) := ⟨hd3.cell0, hd3.cell1, hd3.cell2⟩
  clear jb hd3 hb3 hb4
  refine hK _ _ (fun _ => hR3) ?_
  clear hK K hR
  (try simp only [put_laws])
  (refine wpAnyM_one (i := 21) rfl (by kernel_rfl) (fun K hK => ?_); rw [if_pos (by rfl)]; (try simp only [elem_laws]))
  go_simp
  refine hK _ _ (fun _ => hR3) ?_
  clear hK K hR3
  (try simp only [put_laws])
  (refine wpAnyM_last rfl (by kernel_rfl) (fun K hK => ?_); rw [if_pos (by rfl)]; (try simp only [elem_laws]))
  go_simp
  refine hK _ _ ?_
  clear hK K
  (try simp only [put_laws])
  refine wpAnyM_done (by kernel_rfl) ?_ _
  go_wp2_with fail
  refine bodyPost_ret (v := .agg #[.int .i64 (n : Nat), .int .i64 (d.waits.length : Nat), .int .i64 (dirty d.seen d.stays n : Nat)]) (by simp [results, Tryd.results29, go_sem, World.cell?_setCell_same', e0, e1, e2]) rfl ⟨rfl, ?_⟩
  exact (((HB4.out.setCell (p := ⟨w.heap.size, 0, none⟩) (Nat.le_refl _) _).setCell (p := ⟨w.heap.size, 1, none⟩) (Nat.le_refl _) _).setCell (p := ⟨w.heap.size, 2, none⟩) (Nat.le_refl _) _)
end Go.Proofs.YtohdgjmmekgcmaaDoor
