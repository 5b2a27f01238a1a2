/-
  Texts LaS to NdCI, as one.
-/
import Derived.Test.YtfdnlgmgjmbafaaGreatDoorMh8
import Derived.Laws.EntriesVeiled
import Derived.RangeFuncCalls
/-
  label: what follows of names' words; plain.
-/
namespace Go.Proofs.YtfdnlgmgjmbafaaGreatDoor
open Go.RowKit Go.Shelf

theorem pad5_iff (l m : List Nat) : same5 l m = true ↔ pad5 l = pad5 m := by
  unfold same5
  rw [decide_eq_true_iff]
  constructor
  · intro h
    unfold pad5
    exact List.map_congr_left fun i hi => h i (List.mem_range.1 hi)
  · intro h i hi
    rw [← pad5_at l i hi, h, pad5_at m i hi]
theorem same5_refl (l : List Nat) : same5 l l = true := (pad5_iff l l).2 rfl
theorem byteAt_pad (l : List Nat) (i : Nat) (h : i < 40) : WM.byteAt (pad5 l) i = WM.byteAt l i := by
  unfold WM.byteAt WM.at'
  rw [pad5_at l (i / 8) (by omega)]
theorem read_words (s : List UInt8) (h : s.length ≤ 40) : readN (pad5 (wordsN s)) (s.length : Int) = s := by
  apply bsN_inj
  unfold readN
  rw [take_bsN, txtN_bs, Int.toNat_natCast]
  refine WM.list_ext _ _ ?_ fun i hi => ?_
  · rw [List.length_take, WM.bytesOf_length, pad5_length, bsN_length]; omega
  · rw [List.length_take, WM.bytesOf_length, pad5_length] at hi
    rw [WM.at_take _ _ _ (by omega), WM.bytesOf_at _ _ (by rw [pad5_length]; omega), byteAt_pad _ _ (by omega)]
    exact WM.byte_word (bsN s) (bsN_256 s) i
theorem words_inj {s t : List UInt8} (hs : s.length ≤ 40) (hl : s.length = t.length) (h : same5 (wordsN s) (wordsN t) = true) : s = t := by
  rw [← read_words s hs, ← read_words t (by omega), (pad5_iff _ _).1 h, hl]
theorem names_same (s t : List UInt8) (hs : s.length ≤ 40) (_ : t.length ≤ 40) : (same5 (wordsN s) (wordsN t) && ((s.length : Int) == (t.length : Int))) = (s == t) := by
  rw [Bool.eq_iff_iff]
  simp only [Bool.and_eq_true, beq_iff_eq]
  constructor
  · exact fun ⟨h1, h2⟩ => words_inj hs (by omega) h1
  · rintro rfl
    exact ⟨same5_refl _, rfl⟩
theorem same_own (s : List UInt8) (h : rightN s = true) : sameOut s (wordsN s) (s.length : Int) = true := by
  unfold sameOut
  rw [h, same5_refl]
  simp
theorem same_other (s t : List UInt8) (hs : rightN s = true) (ht : rightN t = true) : sameOut t (wordsN s) (s.length : Int) = (s == t) := by
  unfold sameOut
  rw [ht, same5_comm]
  have := names_same s t ((rightN_iff s).1 hs).2.1 ((rightN_iff t).1 ht).2.1
  rw [← this]
  cases same5 (wordsN s) (wordsN t) <;> simp
theorem isRead_own (s : List UInt8) (h : rightN s = true) : isRead (pad5 (wordsN s)) (s.length : Int) = true := by
  unfold isRead
  rw [read_words s ((rightN_iff s).1 h).2.1]
  have h2 := same_own s h
  unfold sameOut at h2 ⊢
  rwa [same5_pad]
theorem laRead_own (s : List UInt8) (h : rightN s = true) (w : World) :
    Calls Tryz.prog 134 #[.agg (arr5 (wordsN s)), .int .i64 (s.length : Nat)] w fun e w' => e = .returned (.tuple #[encStr s, .int .i64 0]) ∧ Below w.heap.size w w' := by
  have hr := laRead_any (pad5 (wordsN s)) rfl (pad5_64 _ (wordsN_64 s)) (s.length : Int) w
  rw [isRead_own s h, read_words s ((rightN_iff s).1 h).2.1, arr5_pad] at hr
  exact hr
theorem laWords_right (s : List UInt8) (h : rightN s = true) (w : World) :
    Calls Tryz.prog 132 #[encStr s] w fun e w' => e = .returned (.tuple #[.agg (arr5 (wordsN s)), .int .i64 0]) ∧ Below w.heap.size w w' := by
  have hw := laWords_any s w
  unfold wordsOut errN at hw
  rw [h] at hw
  exact hw
theorem laWords_wrong (s : List UInt8) (h : rightN s = false) (w : World) :
    Calls Tryz.prog 132 #[encStr s] w fun e w' => e = .returned (.tuple #[.agg (arr5 []), .int .i64 160]) ∧ Below w.heap.size w w' := by
  have hw := laWords_any s w
  unfold wordsOut errN at hw
  rw [h] at hw
  exact hw
end Go.Proofs.YtfdnlgmgjmbafaaGreatDoor

/-
  A region that draws its order: what reads no world at all comes first, whether the operation that waits for others waits for it or not.
-/
namespace Go.Proofs.YtfdnlgmgjmbafaaGreatDoor
open Go.RowKit Go.Shelf

section
variable {P : Program} {md : Region.Mode} {ops : Array Oper} {Q : Exit → Act → World → Prop} {m : Nat} {R : World → Prop}
theorem wpAnyM_firstP {i : Nat} {oi : Oper} {v : Value} (hi : ops[i]? = some oi) (hsel : ∀ (j : Nat) (o : Oper) cs b, ops[j]? = some o → o.op ≠ .select cs b)
    (hQ : ∀ c a w, Q (.panic c) (a.put oi.dst v) w → Q (.panic c) a w) (hmi : m ≠ i) : ∀ (f : Nat) (l : Array Bool) (a : Act) (w : World),
      (∀ j oj, ops[j]? = some oj → j ≠ i → l.getD j true = false → (∀ e ∈ oj.after, Region.binds md e = true → e.on ≠ i) → oi.apart ops oj = true) →
      i ∈ Region.ready md ops l → Yields P ops oi v a → Till m R l w →
      wpAnyM P md ops Q m R f (l.setIfInBounds i true) (a.put oi.dst v) w → wpAnyM P md ops Q m R (f + 1) l a w
  | f, l, a, w, hfree, hr, hy, hT, H => by
    have hil := (mem_ready.1 hr).1
    refine ⟨fun h => (by rw [h] at hr; cases hr), fun j hj => ?_⟩
    by_cases hji : j = i
    · subst hji
      exact hy.wpOp hi ⟨hT.set _, H⟩
    · have hrj := ready_mono hj hji
      cases f with
      | zero =>
        have h0 := H.1
        rw [h0] at hrj
        cases hrj
      | succ f =>
        obtain ⟨hjun, oj, hoj, -⟩ := mem_ready.1 hj
        have hnot := unlisted_not hj hoj hil
        have h2 := wpOp_put hoj (hfree j oj hoj hji hjun hnot) (fun cs b => hsel i oi cs b hi) (fun cs b => hsel j oj cs b hoj) hQ hy (H.2 j hrj)
        refine wpOp_mono (fun a' w' h3 => ?_) h2
        obtain ⟨hya, hTa, hMa⟩ := h3
        have hT2 : Till m R (l.setIfInBounds j true) w' := fun hl => hTa (by
          rw [Array.setIfInBounds_comm _ _ (Ne.symm hji), getD_set_ne true (Ne.symm hmi)]
          exact hl)
        refine ⟨hT2, wpAnyM_firstP hi hsel hQ hmi f (l.setIfInBounds j true) a' w' (fun k ok hk hki hku hno => ?_) (ready_mono hr (Ne.symm hji)) hya hT2 ?_⟩
        · exact hfree k ok hk hki (getD_set_true hku) hno
        · rw [Array.setIfInBounds_comm _ _ hji]; exact hMa
/-- Number i, which reads no world, comes first. -/
theorem wpAnyM_pure {i : Nat} {oi : Oper} {v : Value} {f : Nat} {l : Array Bool} {a : Act} {w : World} (hi : ops[i]? = some oi) (hs : Region.noSelect ops = true)
    (hc : (Region.free md ops l i && (Region.ready md ops l).contains i && (m != i)) = true)
    (hQ : ∀ c a w, Q (.panic c) (a.put oi.dst v) w → Q (.panic c) a w) (hy : Yields P ops oi v a) (hw : R w)
    (h : wpAnyM P md ops Q m R f (l.setIfInBounds i true) (a.put oi.dst v) w) : wpAnyM P md ops Q m R (f + 1) l a w := by
  simp only [Bool.and_eq_true, bne_iff_ne, ne_eq] at hc
  obtain ⟨⟨h1, h2⟩, h3⟩ := hc
  exact wpAnyM_firstP hi (Region.noSelect_spec hs) hQ h3 f l a w (Region.free_spec hi h1) (by simpa using h2) hy (fun _ => hw) h
/-- Of two that are ready either may come (inside a fence). -/
theorem wpAnyN_two {Fc : Fence} {n : Nat} {i j : Nat} {oi oj : Oper} {f : Nat} {l : Array Bool} {a : Act} {w : World} (hi : ops[i]? = some oi) (hj : ops[j]? = some oj) (hr : Region.ready md ops l = [i, j])
    (hgi : Region.wanted oi (yielded ops a.tmps) = true) (hgj : Region.wanted oj (yielded ops a.tmps) = true)
    (h : ∀ K : Act → World → Prop, (∀ a' w', ((l.setIfInBounds i true).getD m true = false → R w') → wpAnyN Fc n P md ops Q m R f (l.setIfInBounds i true) a' w' → K a' w') → Oper.wpIn Fc n P oi a w K Q)
    (h' : ∀ K : Act → World → Prop, (∀ a' w', ((l.setIfInBounds j true).getD m true = false → R w') → wpAnyN Fc n P md ops Q m R f (l.setIfInBounds j true) a' w' → K a' w') → Oper.wpIn Fc n P oj a w K Q) : wpAnyN Fc n P md ops Q m R (f + 1) l a w := by
  refine ⟨fun h0 => (by rw [h0] at hr; cases hr), fun k hk => ?_⟩
  rw [hr] at hk
  rcases (by simpa using hk : k = i ∨ k = j) with rfl | rfl
  · unfold wpOpIn
    simp only [hi]
    rw [if_pos hgi]
    exact h _ fun a' w' h1 h2 => ⟨h1, h2⟩
  · unfold wpOpIn
    simp only [hj]
    rw [if_pos hgj]
    exact h' _ fun a' w' h1 h2 => ⟨h1, h2⟩
end
end Go.Proofs.YtfdnlgmgjmbafaaGreatDoor

/-
  node: the part of an entry that is its name.
-/
namespace Go.Proofs.YtfdnlgmgjmbafaaGreatDoor
open Go.RowKit Go.Shelf Go.Sort
attribute [local go_sem] Oper.semAt_some

/-- A text among cells. -/
def txtOf : Value → List UInt8
  | .string b => b.data.toList
  | _ => []
def txtAt (x : Array Value) (i : Nat) : List UInt8 := txtOf (x[i]?.getD (.bool false))
/-- Two numbers and a text. -/
def GoodE (x : Array Value) : Prop := x.size = 3 ∧ (∀ j, j < 2 → ∃ n, x[j]? = some (.int .i64 n) ∧ -9223372036854775808 ≤ n ∧ n < 9223372036854775808) ∧ ∃ s : List UInt8, x[2]? = some (encStr s) ∧ s.length ≤ 1000
theorem txtAt_of {x : Array Value} {i : Nat} {s : List UInt8} (h : x[i]? = some (encStr s)) : txtAt x i = s := by unfold txtAt; rw [h]; rfl
theorem goodE_num {i : Nat} (hi : i < 2) : NumGood GoodE i where
  at_ x h := h.2.1 i hi
  set x n h h0 h1 := ⟨by rw [Array.size_setIfInBounds]; exact h.1, fun j hj => by
    by_cases e : i = j
    · subst e
      exact ⟨n, by rw [Array.getElem?_setIfInBounds_self]; simp [h.1]; omega, by omega, by omega⟩
    · obtain ⟨m, hm, h2⟩ := h.2.1 j hj
      exact ⟨m, by rw [Array.getElem?_setIfInBounds_ne e]; exact hm, h2⟩, by
    obtain ⟨s, hs, hl⟩ := h.2.2
    exact ⟨s, by rw [Array.getElem?_setIfInBounds_ne (by omega)]; exact hs, hl⟩⟩
theorem goodE_one {x : Array Value} (h : GoodE x) : x.all (·.oneCell') = true := by
  obtain ⟨h1, h2, s, hs, -⟩ := h
  refine Array.all_eq_true.2 fun i hi => ?_
  rw [h1] at hi
  by_cases h3 : i < 2
  · obtain ⟨n, hn, -⟩ := h2 i h3
    rw [Array.getElem?_eq_getElem (by omega)] at hn
    rw [Option.some.inj hn]
    rfl
  · obtain rfl : i = 2 := by omega
    rw [Array.getElem?_eq_getElem (by omega)] at hs
    rw [Option.some.inj hs]
    rfl
theorem goodE_zero : GoodE ndZeroE := ⟨rfl, fun j hj => by
  have : j = 0 ∨ j = 1 := by omega
  rcases this with rfl | rfl <;> exact ⟨0, rfl, by decide, by decide⟩, [], rfl, by decide⟩
/-- The words of a line from the third on. -/
def nat5 (l : List Int) : List Nat := (l.drop 3).map Int.toNat
def fiveI (s : List UInt8) : List Int := (List.range 5).map fun i => (((wordsN s)[i]?.getD 0 : Nat) : Int)
def namedS : NdS :=
  { ok := fun x => rightN (txtAt x 2), wr := fun x l => (l.set 2 ((txtAt x 2).length : Nat)).take 3 ++ fiveI (txtAt x 2),
    rd := fun l x => if l[2]?.getD 0 ≤ 1024 ∧ isRead (nat5 l) (l[2]?.getD 0) = true then some (x.setIfInBounds 2 (encStr (readN (nat5 l) (l[2]?.getD 0)))) else none }
theorem fiveI_length (s : List UInt8) : (fiveI s).length = 5 := by simp [fiveI]
theorem lnA_five (s : List UInt8) : lnA (fiveI s) = arr5 (wordsN s) := rfl
theorem lnA_toList (l : List Int) : (lnA l).toList = l.map (Value.int .u64) := rfl
theorem nd_exec_load {P : Program} {w : World} {o : Oper} {a : Act} {ty : TypeId} {x : Operand} (ho : o.op = .load ty x) {p v : Value} (hx : a.eval x = p) (hr : (Instr.loadAt ty p).run P w = .ok v w) : (execOp a.eval o).run P w = .ok (.value v) w := by
  unfold execOp
  simp only [ho, hx, hr, Sem.run_bind, Result.andThen_ok]
  rfl
/-- copy of which the run is known. -/
theorem nd_copy_eq {P : Program} {Q : Exit → Act → World → Prop} {w w' : World} {a : Act} {o : Oper} {K : Act → World → Prop} (s x : Operand) (ts : Array TypeId) (ho : o.op = .call { callee := .builtin .copy, args := #[s, x], argTypes := ts })
    (v u r : Value) (hs : a.eval s = v) (hx : a.eval x = u) (hr : (Builtin.copy_ ts o.type #[v, u]).run P w = .ok r w') (h : K (a.put o.dst r) w') : o.wp P a w K Q := by
  unfold Oper.wp execOp
  simp only [ho, resolve, invoke, builtin, Sem.run_bind, Sem.run_pure, Result.andThen_ok, List.map_toArray, List.map_cons, List.map_nil, hs, hx, hr]
  exact h
/-- copy of words of a block into another one. -/
theorem blk_copy {W : World} {b c : Nat} {t u : TypeId} {l m : List Int} {o s n : Nat} (h : Blk W b t (lnA l)) (hc : Blk W c u (lnA m)) (ho : o + n ≤ l.length) (hs : s + n ≤ m.length) (dc sc : Nat) (ty : TypeId) :
    ∃ W', (Builtin.copy_ #[184, 184] ty #[.slice (some ⟨b, o, none⟩) n dc, .slice (some ⟨c, s, none⟩) n sc]).run Tryz.prog W = .ok (goInt n) W' ∧ Blk W' b t (lnA (l.take o ++ (m.drop s).take n ++ l.drop (o + n))) ∧ Turn (fun k => k = b) W W' := by
  have hlen : (((m.drop s).take n).map (Value.int .u64)).length = n := by rw [List.length_map, List.length_take, List.length_drop]; omega
  obtain ⟨h1, h2⟩ := setCells_blk (((m.drop s).take n).map (Value.int .u64)) o W (lnA l) h (by rw [hlen, lnA_size]; exact ho)
  have hr := run_copy_cells (P := Tryz.prog) W 184 184 ty 30 b o n dc ⟨c, s, none⟩ n sc (((m.drop s).take n).map (Value.int .u64)) Tryz.underlying184 (by kernel_rfl) (by rw [hlen]; simp)
    (fun j v hv => by
      have hj : j < n := by rw [← hlen]; exact (List.getElem?_eq_some_iff.1 hv).1
      rw [Addr.add_mid, hc.cell]
      rw [List.getElem?_map, List.getElem?_take_of_lt hj, List.getElem?_drop] at hv
      rw [lnA, List.getElem?_toArray, List.getElem?_map]
      exact hv)
    (fun j hj => by
      rw [hlen] at hj
      rw [h.cell (lnA_at l (o + j) (by omega))]
      rfl)
    (fun j _ => h.frozen _)
    (fun v hv => by
      obtain ⟨x, -, rfl⟩ := List.mem_map.1 hv
      rfl)
  rw [hlen] at hr
  refine ⟨_, hr, ?_, h2⟩
  rw [hlen, lnA_toList] at h1
  have e : (List.take o (l.map (Value.int .u64)) ++ ((m.drop s).take n).map (Value.int .u64) ++ List.drop (o + n) (l.map (Value.int .u64))).toArray = lnA (l.take o ++ (m.drop s).take n ++ l.drop (o + n)) := by
    simp [lnA, List.map_take, List.map_drop]
  rw [e] at h1
  exact h1
end Go.Proofs.YtfdnlgmgjmbafaaGreatDoor

/-
  node: values that are the same; the laws' own small functions.
-/
namespace Go.Proofs.YtfdnlgmgjmbafaaGreatDoor
open Go.RowKit Go.Shelf
attribute [local go_sem] Oper.semAt_some

theorem num8_any (n : Int) (w : World) : Calls Tryz.prog 20 #[.int .i64 n] w fun e w' => e = .returned (.int .i64 n) ∧ w = w' := by
  go_enter Tryz.func20, Tryz.ntmps20
  go_wp2
  go_ret
  exact ⟨rfl, rfl⟩
theorem ndList_loadW {P : Program} {ops : Array Oper} {Q : Exit → Act → World → Prop} {w : World} {a : Act} {o : Oper} {rest : List Oper} (hwt : Region.wanted o (yielded ops a.tmps) = true) (ty : TypeId) (x : Operand) (ho : o.op = .load ty x) (p v : Value) (hx : a.eval x = p) (hr : (Instr.loadAt ty p).run P w = .ok v w) (h : wpList P ops Q rest (a.put o.dst v) w) : wpList P ops Q (o :: rest) a w :=
  BigFrame.wpList_want hwt fun _ hK => by
    unfold Oper.wp execOp
    simp only [ho, hx, hr, Sem.run_bind, Result.andThen_ok]
    exact hK _ _ h
/-- The numbers of cells. -/
def nums (x : Array Value) : List Int := (List.range x.size).map (numAt x)
theorem goodI_eq {k : Nat} {x : Array Value} (h : GoodI k x) : x = ints (nums x) := by
  refine Array.ext (by simp [ints, nums]) fun i h1 h2 => ?_
  obtain ⟨n, hn, -⟩ := h.2 i (by rw [← h.1]; exact h1)
  have e := numAt_of hn
  rw [Array.getElem?_eq_getElem h1] at hn
  simp only [ints, nums, List.getElem_toArray, List.getElem_map, List.getElem_range]
  rw [Option.some.inj hn, e]
theorem nums_length (x : Array Value) : (nums x).length = x.size := by simp [nums]
theorem refl_line {t : TypeId} (ht : Tryz.prog.underlying t = some (.array 8 30)) {l : List Int} (hl : Line8 l) (W : World) : (Op.equalIn 10000 t (.agg (lnA l)) (.agg (lnA l))).run Tryz.prog W = .ok true W := by
  rw [eql_line ht l l hl.1 hl.1]; simp
theorem refl_I {x : Array Value} (h : GoodI 3 x) (W : World) : (Op.equalIn 10000 26 (.agg x) (.agg x)).run Tryz.prog W = .ok true W := by
  obtain ⟨l, hl, rfl⟩ : ∃ l : List Int, l.length = 3 ∧ x = ints l := ⟨_, by rw [nums_length, h.1], goodI_eq h⟩
  match l, hl with
  | [a, b, c], _ =>
    simp [ints, go_sem]
theorem refl_S {x : Array Value} (h : GoodI 2 x) (W : World) : (Op.equalIn 10000 23 (.agg x) (.agg x)).run Tryz.prog W = .ok true W := by
  obtain ⟨l, hl, rfl⟩ : ∃ l : List Int, l.length = 2 ∧ x = ints l := ⟨_, by rw [nums_length, h.1], goodI_eq h⟩
  match l, hl with
  | [a, b], _ =>
    simp [ints, go_sem]
theorem refl_E {x : Array Value} (h : GoodE x) (W : World) : (Op.equalIn 10000 49 (.agg x) (.agg x)).run Tryz.prog W = .ok true W := by
  obtain ⟨h1, h2, s, hs, -⟩ := h
  obtain ⟨a, ha, -⟩ := h2 0 (by decide)
  obtain ⟨b, hb, -⟩ := h2 1 (by decide)
  have hx : x = #[.int .i64 a, .int .i64 b, encStr s] := by
    refine Array.ext (by rw [h1]; rfl) fun i g1 g2 => ?_
    rw [h1] at g1
    have hi : i = 0 ∨ i = 1 ∨ i = 2 := by omega
    rcases hi with rfl | rfl | rfl
    · rw [Array.getElem?_eq_getElem (by omega)] at ha
      exact Option.some.inj ha
    · rw [Array.getElem?_eq_getElem (by omega)] at hb
      exact Option.some.inj hb
    · rw [Array.getElem?_eq_getElem (by omega)] at hs
      exact Option.some.inj hs
  subst hx
  simp [go_sem]
theorem refl_7 (a b c d e f g : Int) (D : Nat) (W : World) : (Op.equalIn (D + 2) 27 (.agg #[.int .i64 a, .int .i64 b, .int .i64 c, .int .i64 d, .int .i64 e, .int .i64 f, .int .i64 g]) (.agg #[.int .i64 a, .int .i64 b, .int .i64 c, .int .i64 d, .int .i64 e, .int .i64 f, .int .i64 g])).run Tryz.prog W = .ok true W := by
  have h := ndEqual (k := .i64) Tryz.underlying3 (by kernel_rfl) (by kernel_rfl) (t := 27) Tryz.underlying27 D [a, b, c, d, e, f, g] [a, b, c, d, e, f, g] rfl rfl W
  rw [show ([a, b, c, d, e, f, g] == [a, b, c, d, e, f, g]) = true by simp] at h
  exact h
theorem refl_T {x : Array Value} (h : GoodI 7 x) (W : World) : (Op.equalIn 10000 29 (.agg x) (.agg x)).run Tryz.prog W = .ok true W := by
  obtain ⟨l, hl, rfl⟩ : ∃ l : List Int, l.length = 7 ∧ x = ints l := ⟨_, by rw [nums_length, h.1], goodI_eq h⟩
  match l, hl with
  | [a, b, c, d, e, f, g], _ =>
    have h7 := refl_7 a b c d e f g 9997 W
    simp [ints, go_sem, h7]
theorem refl_M {x : Array Value} (h : GoodI 8 x) (W : World) : (Op.equalIn 10000 47 (.agg x) (.agg x)).run Tryz.prog W = .ok true W := by
  obtain ⟨l, hl, rfl⟩ : ∃ l : List Int, l.length = 8 ∧ x = ints l := ⟨_, by rw [nums_length, h.1], goodI_eq h⟩
  match l, hl with
  | [z, a, b, c, d, e, f, g], _ =>
    have h7 := refl_7 a b c d e f g 9997 W
    simp [ints, go_sem, h7]
end Go.Proofs.YtfdnlgmgjmbafaaGreatDoor

/-
  node: numbers of a line of api.Inode. Written by gen_nd.py.
-/
namespace Go.Proofs.YtfdnlgmgjmbafaaGreatDoor
open Go.RowKit Go.Shelf Go.Sort
attribute [local go_sem] Oper.semAt_some

set_option maxRecDepth 100000 in
set_option maxHeartbeats 4000000 in
theorem numMay_I {ff fl : FuncId} {lbf : Array Value} {i : Nat} {lo hi n : Int} (w : World) (pl pf : Nat) (hF : FieldAt w ff lbf i) (hL : LiesAt fl lo hi) (x : Array Value) (hn : x[i]? = some (.int .i64 n))
    (hbl : Boxed w pl 108 (.func (.func fl) #[] #[])) (hbf : Boxed w pf 147 (.func (.func ff) #[] lbf)) :
    Calls Tryz.prog 112 #[.agg x, .pointer (some ⟨pl, 0, none⟩), .pointer (some ⟨pf, 0, none⟩)] w fun e w' => e = .returned (.bool (inB (n, lo, hi))) ∧ Below w.heap.size w w' := by
  obtain ⟨W1, hW1⟩ : ∃ W1, (w.alloc (.cells x 26)).drew = W1 := ⟨_, rfl⟩
  have hb1 : Below w.heap.size w W1 := by rw [← hW1]; exact (by repeat (first | exact Below.refl _ _ | assumption | refine Below.drew ?_ | refine below_drewN ?_ _ | refine Below.alloc ?_ (by (try simp) <;> omega) _ | refine Below.setCell ?_ (by (try simp) <;> omega) _ | refine Below.trans ?_ (Below.mono (by assumption) (by (try simp) <;> omega))))
  have hx1 : Blk W1 w.heap.size 26 x := by rw [← hW1]; exact Blk.new _ _ _
  have hbl1 : Boxed W1 pl 108 (.func (.func fl) #[] #[]) := (hb1.block _ hbl.lt).trans hbl
  have hbf1 : Boxed W1 pf 147 (.func (.func ff) #[] lbf) := (hb1.block _ hbf.lt).trans hbf
  have HFC := Lib.hid ((hF.below hb1).2 w.heap.size W1 (Below.refl _ _))
  have HLC := Lib.hid (fun W => hL.2 n W)
  have eF : ∀ args W, (callFunc ff args).run Tryz.prog W = .ok (.enter ff args) W := hF.1
  have eL : ∀ args W, (callFunc fl args).run Tryz.prog W = .ok (.enter fl args) W := hL.1
  have HW1 := Lib.hid hW1
  have HB1 := Lib.hid hb1
  have HX1 := Lib.hid hx1
  have HN := Lib.hid hn
  have hR : (fun W : World => W.cell? ⟨pl, 0, none⟩ = some (.func (.func fl) #[] #[]) ∧ W.cell? ⟨pf, 0, none⟩ = some (.func (.func ff) #[] lbf)) W1 := ⟨hbl1.cell, hbf1.cell⟩
  have HBL := Lib.hid hbl1
  have HBF := Lib.hid hbf1
  clear hW1 hb1 hx1 hbl1 hbf1 hF hL hn hbl hbf
  go_enter Tryz.func112, Tryz.ntmps112
  go_wp2_with fail
  refine wp_region_M 8 (fun W : World => W.cell? ⟨pl, 0, none⟩ = some (.func (.func fl) #[] #[]) ∧ W.cell? ⟨pf, 0, none⟩ = some (.func (.func ff) #[] lbf)) (by kernel_rfl) ?_
  rw [HW1.out]
  (refine wpAnyM_take2 8 (i := 0) (v := ?_) rfl (by kernel_rfl) (by kernel_rfl) (fun _ _ _ h => h) (Or.inl ⟨by rfl, ?_⟩) hR ?_; rotate_left; (focus (intro w hSw; (try dsimp only at hSw); go_simp; (try with_reducible rfl))); (try simp only [put_laws])); (refine wpAnyM_take2 8 (i := 1) (v := ?_) rfl (by kernel_rfl) (by kernel_rfl) (fun _ _ _ h => h) (Or.inl ⟨by rfl, ?_⟩) hR ?_; rotate_left; (focus (intro w hSw; (try dsimp only at hSw); go_simp; (try with_reducible rfl))); (try simp only [put_laws]))
  (refine wpAnyM_one (i := 2) rfl (by kernel_rfl) (fun K hK => ?_); rw [if_pos (by rfl)]; (try simp only [elem_laws]))
  go_simp
  refine HFC.out.mono ?_
  rintro e w2 ⟨rfl, hb2⟩
  have h2l : Boxed w2 pl 108 (.func (.func fl) #[] #[]) := (hb2.block _ HBL.out.lt).trans HBL.out
  have h2f : Boxed w2 pf 147 (.func (.func ff) #[] lbf) := (hb2.block _ HBF.out.lt).trans HBF.out
  have hx2 := HX1.out.below hb2 HX1.out.lt
  have hR2 : (fun W : World => W.cell? ⟨pl, 0, none⟩ = some (.func (.func fl) #[] #[]) ∧ W.cell? ⟨pf, 0, none⟩ = some (.func (.func ff) #[] lbf)) w2 := ⟨h2l.cell, h2f.cell⟩
  refine hK _ _ (fun _ => hR2) ?_
  clear hK K hR
  have HB2 := Lib.hid (HB1.out.trans (hb2.mono HB1.out.size))
  have H2L := Lib.hid h2l
  have H2F := Lib.hid h2f
  have cx := hx2.cell HN.out
  clear hb2 h2l h2f hx2
  (try simp only [put_laws])
  (refine wpAnyM_one (i := 3) rfl (by kernel_rfl) (fun K hK => ?_); rw [if_pos (by rfl)]; (try simp only [elem_laws]))
  go_simp
  refine hK _ _ (fun _ => hR2) ?_
  clear hK K
  (try simp only [put_laws])
  (refine wpAnyM_one (i := 4) rfl (by kernel_rfl) (fun K hK => ?_); rw [if_pos (by rfl)]; (try simp only [elem_laws]))
  go_simp
  refine hK _ _ (fun _ => hR2) ?_
  clear hK K
  (try simp only [put_laws])
  (refine wpAnyM_one (i := 5) rfl (by kernel_rfl) (fun K hK => ?_); rw [if_pos (by rfl)]; (try simp only [elem_laws]))
  go_simp
  refine (HLC.out w2).mono ?_
  rintro e w3 ⟨rfl, hb3⟩
  have h3l : Boxed w3 pl 108 (.func (.func fl) #[] #[]) := (hb3.block _ H2L.out.lt).trans H2L.out
  have h3f : Boxed w3 pf 147 (.func (.func ff) #[] lbf) := (hb3.block _ H2F.out.lt).trans H2F.out
  have hR3 : (fun W : World => W.cell? ⟨pl, 0, none⟩ = some (.func (.func fl) #[] #[]) ∧ W.cell? ⟨pf, 0, none⟩ = some (.func (.func ff) #[] lbf)) w3 := ⟨h3l.cell, h3f.cell⟩
  refine hK _ _ (fun _ => hR3) ?_
  clear hK K hR2 cx
  have HB3 := Lib.hid (HB2.out.trans (hb3.mono HB2.out.size))
  have H3L := Lib.hid h3l
  have H3F := Lib.hid h3f
  clear hb3 h3l h3f
  (try simp only [put_laws])
  (refine wpAnyM_one (i := 6) rfl (by kernel_rfl) (fun K hK => ?_); rw [if_pos (by rfl)]; (try simp only [elem_laws]))
  go_simp
  obtain ⟨W4, hW4⟩ : ∃ W4, w3.alloc (.cells #[.int .i64 n, .int .i64 lo, .int .i64 hi] 107) = W4 := ⟨_, rfl⟩
  have hb4 : Below w3.heap.size w3 W4 := by rw [← hW4]; exact (Below.refl _ _).alloc (Nat.le_refl _) _
  have hbd : BoundsAt W4 w3.heap.size [(n, lo, hi)] := by rw [← hW4]; exact bounds_one n lo hi
  have h4l : Boxed W4 pl 108 (.func (.func fl) #[] #[]) := (hb4.block _ H3L.out.lt).trans H3L.out
  have h4f : Boxed W4 pf 147 (.func (.func ff) #[] lbf) := (hb4.block _ H3F.out.lt).trans H3F.out
  have hR4 : (fun W : World => W.cell? ⟨pl, 0, none⟩ = some (.func (.func fl) #[] #[]) ∧ W.cell? ⟨pf, 0, none⟩ = some (.func (.func ff) #[] lbf)) W4 := ⟨h4l.cell, h4f.cell⟩
  rw [hW4]
  refine hK _ _ (fun _ => hR4) ?_
  clear hK K hR3
  have HB4 := Lib.hid (HB3.out.trans (hb4.mono HB3.out.size))
  have H4L := Lib.hid h4l
  have H4F := Lib.hid h4f
  have HWI := Lib.hid (within_any [(n, lo, hi)] (by simp) w3.heap.size W4 hbd)
  clear hb4 h4l h4f hW4 hbd
  (try simp only [put_laws])
  (refine wpAnyM_one (i := 7) rfl (by kernel_rfl) (fun K hK => ?_); rw [if_pos (by rfl)]; (try simp only [elem_laws]))
  go_simp
  refine HWI.out.mono ?_
  rintro e w5 ⟨rfl, hb5⟩
  have h5l : Boxed w5 pl 108 (.func (.func fl) #[] #[]) := (hb5.block _ H4L.out.lt).trans H4L.out
  have h5f : Boxed w5 pf 147 (.func (.func ff) #[] lbf) := (hb5.block _ H4F.out.lt).trans H4F.out
  have hR5 : (fun W : World => W.cell? ⟨pl, 0, none⟩ = some (.func (.func fl) #[] #[]) ∧ W.cell? ⟨pf, 0, none⟩ = some (.func (.func ff) #[] lbf)) w5 := ⟨h5l.cell, h5f.cell⟩
  refine hK _ _ (fun _ => hR5) ?_
  clear hK K hR4 hR5
  have HB5 := Lib.hid (HB4.out.trans (hb5.mono HB4.out.size))
  clear hb5 h5l h5f
  (try simp only [put_laws])
  (refine wpAnyM_last rfl (by kernel_rfl) (fun K hK => ?_); rw [if_pos (by rfl)]; (try simp only [elem_laws]))
  go_simp
  refine hK _ _ ?_
  clear hK K
  (try simp only [put_laws])
  refine wpAnyM_done (by kernel_rfl) ?_ _
  go_wp2_with fail
  go_ret
  exact ⟨by simp [], HB5.out⟩
set_option maxRecDepth 100000 in
set_option maxHeartbeats 4000000 in
theorem numWrite_I {ff : FuncId} {lbf : Array Value} {i wd : Nat} {n : Int} (hwd : wd < 8) (w : World) (pa pf b : Nat) (l : List Int) (hl : Line8 l) (hF : FieldAt w ff lbf i) (x : Array Value) (hn : x[i]? = some (.int .i64 n)) (_hn0 : -9223372036854775808 ≤ n ∧ n < 9223372036854775808)
    (hba : Boxed w pa 3 (.int .i64 (wd : Nat))) (hbf : Boxed w pf 147 (.func (.func ff) #[] lbf)) (hbl : Blk w b 84 (lnA l)) :
    Calls Tryz.prog 113 #[.agg x, .pointer (some ⟨b, 0, none⟩), .pointer (some ⟨pf, 0, none⟩), .pointer (some ⟨pa, 0, none⟩)] w fun e w' => (∃ u, e = .returned u) ∧ Blk w' b 84 (lnA (l.set wd (n % 18446744073709551616))) ∧ Turn (fun k => k = b) w w' := by
  obtain ⟨W1, hW1⟩ : ∃ W1, (w.alloc (.cells x 26)).drew = W1 := ⟨_, rfl⟩
  have hb1 : Below w.heap.size w W1 := by rw [← hW1]; exact (by repeat (first | exact Below.refl _ _ | assumption | refine Below.drew ?_ | refine below_drewN ?_ _ | refine Below.alloc ?_ (by (try simp) <;> omega) _ | refine Below.setCell ?_ (by (try simp) <;> omega) _ | refine Below.trans ?_ (Below.mono (by assumption) (by (try simp) <;> omega))))
  have hx1 : Blk W1 w.heap.size 26 x := by rw [← hW1]; exact Blk.new _ _ _
  have hba1 : Boxed W1 pa 3 (.int .i64 (wd : Nat)) := (hb1.block _ hba.lt).trans hba
  have hbf1 : Boxed W1 pf 147 (.func (.func ff) #[] lbf) := (hb1.block _ hbf.lt).trans hbf
  have hbl1 := hbl.below hb1 hbl.lt
  have HFC := Lib.hid ((hF.below hb1).2 w.heap.size W1 (Below.refl _ _))
  have eF : ∀ args W, (callFunc ff args).run Tryz.prog W = .ok (.enter ff args) W := hF.1
  have HW1 := Lib.hid hW1
  have HB1 := Lib.hid hb1
  have HX1 := Lib.hid hx1
  have HN := Lib.hid hn
  have HL1 := Lib.hid hbl1
  have HL8 := Lib.hid hl
  have hw2 : (wd : Int) < 8 := by omega
  have hR : (fun W : World => W.cell? ⟨pa, 0, none⟩ = some (.int .i64 (wd : Nat)) ∧ W.cell? ⟨pf, 0, none⟩ = some (.func (.func ff) #[] lbf)) W1 := ⟨hba1.cell, hbf1.cell⟩
  have HBA := Lib.hid hba1
  have HBF := Lib.hid hbf1
  have HLB := Lib.hid hbl.lt
  clear hW1 hb1 hx1 hba1 hbf1 hbl1 hF hn hba hbf hbl hl
  go_enter Tryz.func113, Tryz.ntmps113
  go_wp2_with fail
  refine wp_region_M 9 (fun W : World => W.cell? ⟨pa, 0, none⟩ = some (.int .i64 (wd : Nat)) ∧ W.cell? ⟨pf, 0, none⟩ = some (.func (.func ff) #[] lbf)) (by kernel_rfl) ?_
  rw [HW1.out]
  (refine wpAnyM_take2 8 (i := 0) (v := ?_) rfl (by kernel_rfl) (by kernel_rfl) (fun _ _ _ h => h) (Or.inl ⟨by rfl, ?_⟩) hR ?_; rotate_left; (focus (intro w hSw; (try dsimp only at hSw); go_simp; (try with_reducible rfl))); (try simp only [put_laws])); (refine wpAnyM_take2 8 (i := 1) (v := ?_) rfl (by kernel_rfl) (by kernel_rfl) (fun _ _ _ h => h) (Or.inl ⟨by rfl, ?_⟩) hR ?_; rotate_left; (focus (intro w hSw; (try dsimp only at hSw); go_simp; (try with_reducible rfl))); (try simp only [put_laws])); (refine wpAnyM_take2 8 (i := 2) (v := ?_) rfl (by kernel_rfl) (by kernel_rfl) (fun _ _ _ h => h) (Or.inl ⟨by rfl, ?_⟩) hR ?_; rotate_left; (focus (intro w hSw; (try dsimp only at hSw); go_simp; (try with_reducible rfl))); (try simp only [put_laws])); (refine wpAnyM_take2 8 (i := 7) (v := ?_) rfl (by kernel_rfl) (by kernel_rfl) (fun _ _ _ h => h) (Or.inl ⟨by rfl, ?_⟩) hR ?_; rotate_left; (focus (intro w hSw; (try dsimp only at hSw); go_simp; (try with_reducible rfl))); (try simp only [put_laws]))
  (refine wpAnyM_one (i := 3) rfl (by kernel_rfl) (fun K hK => ?_); rw [if_pos (by rfl)]; (try simp only [elem_laws]))
  go_simp
  refine HFC.out.mono ?_
  rintro e w2 ⟨rfl, hb2⟩
  have h2a : Boxed w2 pa 3 (.int .i64 (wd : Nat)) := (hb2.block _ HBA.out.lt).trans HBA.out
  have h2f : Boxed w2 pf 147 (.func (.func ff) #[] lbf) := (hb2.block _ HBF.out.lt).trans HBF.out
  have hx2 := HX1.out.below hb2 HX1.out.lt
  have hl2 := HL1.out.below hb2 HL1.out.lt
  have hR2 : (fun W : World => W.cell? ⟨pa, 0, none⟩ = some (.int .i64 (wd : Nat)) ∧ W.cell? ⟨pf, 0, none⟩ = some (.func (.func ff) #[] lbf)) w2 := ⟨h2a.cell, h2f.cell⟩
  refine hK _ _ (fun _ => hR2) ?_
  clear hK K hR
  have HB2 := Lib.hid (HB1.out.trans (hb2.mono HB1.out.size))
  have cx := hx2.cell HN.out
  have cl := hl2.cell (lnA_at l wd (by rw [HL8.out.1]; exact hwd))
  have fl := hl2.frozen wd
  have ll := hl2.lt
  have HL2 := Lib.hid hl2
  clear hb2 h2a h2f hx2 hl2
  (try simp only [put_laws])
  (refine wpAnyM_one (i := 4) rfl (by kernel_rfl) (fun K hK => ?_); rw [if_pos (by rfl)]; (try simp only [elem_laws]))
  go_simp
  refine hK _ _ (fun _ => hR2) ?_
  clear hK K
  (try simp only [put_laws])
  (refine wpAnyM_one (i := 5) rfl (by kernel_rfl) (fun K hK => ?_); rw [if_pos (by rfl)]; (try simp only [elem_laws]))
  go_simp
  refine hK _ _ (fun _ => hR2) ?_
  clear hK K
  (try simp only [put_laws])
  (refine wpAnyM_one (i := 6) rfl (by kernel_rfl) (fun K hK => ?_); rw [if_pos (by rfl)]; (try simp only [elem_laws]))
  go_simp
  refine hK _ _ (fun _ => hR2) ?_
  clear hK K
  (try simp only [put_laws])
  (refine wpAnyM_one (i := 8) rfl (by kernel_rfl) (fun K hK => ?_); rw [if_pos (by rfl)]; (try simp only [elem_laws]))
  go_simp
  refine hK _ _ (fun _ => hR2) ?_
  clear hK K
  (try simp only [put_laws])
  (refine wpAnyM_last rfl (by kernel_rfl) (fun K hK => ?_); rw [if_pos (by rfl)]; (try simp only [elem_laws]))
  clear hR2
  go_simp
  refine hK _ _ ?_
  clear hK K
  (try simp only [put_laws])
  refine wpAnyM_done (by kernel_rfl) ?_ _
  go_wp2_with fail
  first
  | go_end0
  | refine bodyPost_ret (results_none rfl _ _ _) rfl ?_
  have h1 : Blk (w2.setCell ⟨b, wd, none⟩ (.int .u64 (IntKind.u64.wrap n))) b 84 (lnA (l.set wd (n % 18446744073709551616))) := by
    have h2 := HL2.out.set wd (.int .u64 (IntKind.u64.wrap n))
    rw [lnA_set] at h2
    exact h2
  exact ⟨⟨_, rfl⟩, h1, ((Turn.of_below HB2.out (Nat.le_refl _)).mono (fun k h => h)).trans (Turn.setCell w2 _ rfl)⟩
set_option maxRecDepth 100000 in
set_option maxHeartbeats 4000000 in
theorem numRead_I {ff : FuncId} {lbf : Array Value} {i wd : Nat} {n : Int} (hwd : wd < 8) (w : World) (pa pf b : Nat) (l : List Int) (hl : Line8 l) (hF : FieldAt w ff lbf i) (x : Array Value) (hn : x[i]? = some (.int .i64 n))
    (hba : Boxed w pa 3 (.int .i64 (wd : Nat))) (hbf : Boxed w pf 147 (.func (.func ff) #[] lbf)) (hbx : Blk w b 26 x) :
    Calls Tryz.prog 114 #[.agg (lnA l), .pointer (some ⟨b, 0, none⟩), .pointer (some ⟨pa, 0, none⟩), .pointer (some ⟨pf, 0, none⟩)] w fun e w' => Turn (fun k => k = b) w w' ∧
      ((∃ u y, e = .returned u ∧ rdNum (l[wd]?.getD 0) x i = some y ∧ Blk w' b 26 y) ∨ (e = .panicked noLine ∧ rdNum (l[wd]?.getD 0) x i = none ∧ Blk w' b 26 x)) := by
  obtain ⟨W1, hW1⟩ : ∃ W1, (w.alloc (.cells (lnA l) 84)).drew = W1 := ⟨_, rfl⟩
  have hb1 : Below w.heap.size w W1 := by rw [← hW1]; exact (by repeat (first | exact Below.refl _ _ | assumption | refine Below.drew ?_ | refine below_drewN ?_ _ | refine Below.alloc ?_ (by (try simp) <;> omega) _ | refine Below.setCell ?_ (by (try simp) <;> omega) _ | refine Below.trans ?_ (Below.mono (by assumption) (by (try simp) <;> omega))))
  have hl1 : Blk W1 w.heap.size 84 (lnA l) := by rw [← hW1]; exact Blk.new _ _ _
  have hba1 : Boxed W1 pa 3 (.int .i64 (wd : Nat)) := (hb1.block _ hba.lt).trans hba
  have hbf1 : Boxed W1 pf 147 (.func (.func ff) #[] lbf) := (hb1.block _ hbf.lt).trans hbf
  have hbx1 := hbx.below hb1 hbx.lt
  have hwl : wd < l.length := by rw [hl.1]; exact hwd
  have hy0 : 0 ≤ l[wd]?.getD 0 := by
    rw [List.getElem?_eq_getElem hwl, Option.getD_some]
    exact (hl.2 _ (List.getElem_mem hwl)).1
  have cly := hl1.cell (lnA_at l wd hwl)
  obtain ⟨y, hy⟩ : ∃ y, l[wd]?.getD 0 = y := ⟨_, rfl⟩
  rw [hy] at cly hy0 ⊢
  have HFC := Lib.hid ((hF.below hb1).2 b W1 (Below.refl _ _))
  have eF : ∀ args W, (callFunc ff args).run Tryz.prog W = .ok (.enter ff args) W := hF.1
  have HNU := Lib.hid (fun W => number_anyN y hy0 W)
  have HW1 := Lib.hid hW1
  have HB1 := Lib.hid hb1
  have HX1 := Lib.hid hbx1
  have HL1 := Lib.hid hl1
  have HN := Lib.hid hn
  have hw2 : (wd : Int) < 8 := by omega
  have hR : (fun W : World => W.cell? ⟨pa, 0, none⟩ = some (.int .i64 (wd : Nat)) ∧ W.cell? ⟨pf, 0, none⟩ = some (.func (.func ff) #[] lbf) ∧ W.cell? ⟨w.heap.size, wd, none⟩ = some (.int .u64 y)) W1 := ⟨hba1.cell, hbf1.cell, cly⟩
  have HBA := Lib.hid hba1
  have HBF := Lib.hid hbf1
  have HLB := Lib.hid hbx.lt
  clear hW1 hb1 hl1 hba1 hbf1 hbx1 hF hn hba hbf hbx hl hy hwl cly
  go_enter Tryz.func114, Tryz.ntmps114
  go_wp2_with fail
  refine wp_region_M 8 (fun W : World => W.cell? ⟨pa, 0, none⟩ = some (.int .i64 (wd : Nat)) ∧ W.cell? ⟨pf, 0, none⟩ = some (.func (.func ff) #[] lbf) ∧ W.cell? ⟨w.heap.size, wd, none⟩ = some (.int .u64 y)) (by kernel_rfl) ?_
  rw [HW1.out]
  (refine wpAnyM_take2 8 (i := 0) (v := ?_) rfl (by kernel_rfl) (by kernel_rfl) (fun _ _ _ h => h) (Or.inl ⟨by rfl, ?_⟩) hR ?_; rotate_left; (focus (intro w hSw; (try dsimp only at hSw); go_simp; (try with_reducible rfl))); (try simp only [put_laws])); (refine wpAnyM_take2 8 (i := 1) (v := ?_) rfl (by kernel_rfl) (by kernel_rfl) (fun _ _ _ h => h) (Or.inl ⟨by rfl, ?_⟩) hR ?_; rotate_left; (focus (intro w hSw; (try dsimp only at hSw); go_simp; (try with_reducible rfl))); (try simp only [put_laws])); (refine wpAnyM_take2 8 (i := 3) (v := ?_) rfl (by kernel_rfl) (by kernel_rfl) (fun _ _ _ h => h) (Or.inl ⟨by rfl, ?_⟩) hR ?_; rotate_left; (focus (intro w hSw; (try dsimp only at hSw); go_simp; (try with_reducible rfl))); (try simp only [put_laws])); (refine wpAnyM_take2 8 (i := 4) (v := ?_) rfl (by kernel_rfl) (by kernel_rfl) (fun _ _ _ h => h) (Or.inl ⟨by rfl, ?_⟩) hR ?_; rotate_left; (focus (intro w hSw; (try dsimp only at hSw); go_simp; (try with_reducible rfl))); (try simp only [put_laws])); (refine wpAnyM_take2 8 (i := 5) (v := ?_) rfl (by kernel_rfl) (by kernel_rfl) (fun _ _ _ h => h) (Or.inl ⟨by rfl, ?_⟩) hR ?_; rotate_left; (focus (intro w hSw; (try dsimp only at hSw); go_simp; (try with_reducible rfl))); (try simp only [put_laws]))
  (refine wpAnyM_one (i := 2) rfl (by kernel_rfl) (fun K hK => ?_); rw [if_pos (by rfl)]; (try simp only [elem_laws]))
  go_simp
  refine HFC.out.mono ?_
  rintro e w2 ⟨rfl, hb2⟩
  have h2a : Boxed w2 pa 3 (.int .i64 (wd : Nat)) := (hb2.block _ HBA.out.lt).trans HBA.out
  have h2f : Boxed w2 pf 147 (.func (.func ff) #[] lbf) := (hb2.block _ HBF.out.lt).trans HBF.out
  have h2l : w2.cell? ⟨w.heap.size, wd, none⟩ = some (.int .u64 y) := (hb2.cell (p := ⟨w.heap.size, wd, none⟩) HL1.out.lt).trans hR.2.2
  have hx2 := HX1.out.below hb2 HX1.out.lt
  have hR2 : (fun W : World => W.cell? ⟨pa, 0, none⟩ = some (.int .i64 (wd : Nat)) ∧ W.cell? ⟨pf, 0, none⟩ = some (.func (.func ff) #[] lbf) ∧ W.cell? ⟨w.heap.size, wd, none⟩ = some (.int .u64 y)) w2 := ⟨h2a.cell, h2f.cell, h2l⟩
  refine hK _ _ (fun _ => hR2) ?_
  clear hK K hR
  have HT2 : Hid (Turn (fun k => k = b) w w2) := show Turn _ _ _ from Turn.of_below (HB1.out.trans (hb2.mono HB1.out.size)) (Nat.le_refl _)
  have cx := hx2.cell HN.out
  have fx := hx2.frozen i
  have lx := hx2.lt
  have HX2 := Lib.hid hx2
  clear hb2 h2a h2f h2l hx2
  (try simp only [put_laws])
  (refine wpAnyM_one (i := 6) rfl (by kernel_rfl) (fun K hK => ?_); rw [if_pos (by rfl)]; (try simp only [elem_laws]))
  go_simp
  refine (HNU.out w2).mono ?_
  rintro e w3 ⟨rfl, ⟨hle, rfl⟩ | ⟨hgt, rfl⟩⟩
  · have HLE := Lib.hid hle
    clear hle
    refine hK _ _ (fun _ => hR2) ?_
    clear hK K
    (try simp only [put_laws])
    (refine wpAnyM_one (i := 7) rfl (by kernel_rfl) (fun K hK => ?_); rw [if_pos (by rfl)]; (try simp only [elem_laws]))
    go_simp
    refine hK _ _ (fun _ => hR2) ?_
    clear hK K
    (try simp only [put_laws])
    (refine wpAnyM_last rfl (by kernel_rfl) (fun K hK => ?_); rw [if_pos (by rfl)]; (try simp only [elem_laws]))
    clear hR2
    go_simp
    refine hK _ _ ?_
    clear hK K
    (try simp only [put_laws])
    refine wpAnyM_done (by kernel_rfl) ?_ _
    go_wp2_with fail
    first
    | go_end0
    | refine bodyPost_ret (results_none rfl _ _ _) rfl ?_
    exact ⟨HT2.out.trans (Turn.setCell w3 _ rfl), .inl ⟨_, _, rfl, if_pos HLE.out, HX2.out.set _ _⟩⟩
  · exact ⟨rfl, HT2.out, .inr ⟨rfl, if_neg (by omega), HX2.out⟩⟩
end Go.Proofs.YtfdnlgmgjmbafaaGreatDoor

/-
  node: the part that is one number of a line of api.Inode. Written by gen_nd.py.
-/
namespace Go.Proofs.YtfdnlgmgjmbafaaGreatDoor
open Go.RowKit Go.Shelf Go.Sort
attribute [local go_sem] Oper.semAt_some

theorem numPart_I {Good : Array Value → Prop} {i wd : Nat} {lo hi : Int} {ff fl : FuncId} {lbf : Array Value} (hwd : wd < 8) (hG : NumGood Good i) (w : World) (hF : FieldAt w ff lbf i) (hL : LiesAt fl lo hi) (pa pf pl : Nat)
    (hba : Boxed w pa 3 (.int .i64 (wd : Nat))) (hbf : Boxed w pf 147 (.func (.func ff) #[] lbf)) (hbl : Boxed w pl 108 (.func (.func fl) #[] #[])) :
    NdPart Good 26 w ⟨112, #[.pointer (some ⟨pl, 0, none⟩), .pointer (some ⟨pf, 0, none⟩)], 113, #[.pointer (some ⟨pf, 0, none⟩), .pointer (some ⟨pa, 0, none⟩)], 114, #[.pointer (some ⟨pa, 0, none⟩), .pointer (some ⟨pf, 0, none⟩)], numS wd i lo hi⟩ where
  e0 := enters_of Tryz.func112 (by kernel_rfl) rfl
  e1 := enters_of Tryz.func113 (by kernel_rfl) rfl
  e2 := enters_of Tryz.func114 (by kernel_rfl) rfl
  mayBe x W hx hW := by
    obtain ⟨n, hn, h0, h1⟩ := hG.at_ x hx
    have h := numMay_I W pl pf (hF.below hW) hL x hn ((hW.block _ hbl.lt).trans hbl) ((hW.block _ hbf.lt).trans hbf)
    show Calls _ _ _ _ fun e w' => e = .returned (.bool (inB (numAt x i, lo, hi))) ∧ _
    rw [numAt_of hn]
    exact h
  write x l b W hx _ hl hW _ hb := by
    obtain ⟨n, hn, h0⟩ := hG.at_ x hx
    have h := numWrite_I hwd W pa pf b l hl (hF.below hW) x hn h0 ((hW.block _ hba.lt).trans hba) ((hW.block _ hbf.lt).trans hbf) hb
    show Calls _ _ _ _ fun e w' => (∃ u, e = .returned u) ∧ Blk w' b _ (lnA (l.set wd (numAt x i % 18446744073709551616))) ∧ _
    rw [numAt_of hn]
    exact h
  read x l b W hx hl hW _ hb := by
    obtain ⟨n, hn, h0⟩ := hG.at_ x hx
    exact numRead_I hwd W pa pf b l hl (hF.below hW) x hn ((hW.block _ hba.lt).trans hba) ((hW.block _ hbf.lt).trans hbf) hb
  wrLine x l _ _ hl := hl.set wd (Int.emod_nonneg _ (by decide)) (Int.emod_lt_of_pos _ (by decide))
  rdGood x l y hx hl h := by
    have h2 : rdNum (l[wd]?.getD 0) x i = some y := h
    unfold rdNum at h2
    have hwl : wd < l.length := by rw [hl.1]; exact hwd
    rw [List.getElem?_eq_getElem hwl, Option.getD_some] at h2
    have h3 := (hl.2 _ (List.getElem_mem hwl)).1
    split at h2
    · rename_i h4
      rw [← Option.some.inj h2]
      exact hG.set x _ hx h3 h4
    · cases h2
/-- What numbered tells, by its boxes. -/
abbrev numVI (n wd i : Nat) (lo hi : Int) : PartV := ⟨112, #[.pointer (some ⟨n + 1 + 1, 0, none⟩), .pointer (some ⟨n + 1, 0, none⟩)], 113, #[.pointer (some ⟨n + 1, 0, none⟩), .pointer (some ⟨n, 0, none⟩)], 114, #[.pointer (some ⟨n, 0, none⟩), .pointer (some ⟨n + 1, 0, none⟩)], numS wd i lo hi⟩
def NumBoxI (W : World) (n wd : Nat) (ff fl : FuncId) (lbf : Array Value) : Prop := Boxed W n 3 (.int .i64 (wd : Nat)) ∧ Boxed W (n + 1) 147 (.func (.func ff) #[] lbf) ∧ Boxed W (n + 1 + 1) 108 (.func (.func fl) #[] #[])
theorem numBox_partI {Good : Array Value → Prop} {i wd n : Nat} {lo hi : Int} {ff fl : FuncId} {lbf : Array Value} (hwd : wd < 8) (hG : NumGood Good i) (W : World) (hF : FieldAt W ff lbf i) (hL : LiesAt fl lo hi) (hB : NumBoxI W n wd ff fl lbf) : NdPart Good 26 W (numVI n wd i lo hi) :=
  numPart_I hwd hG W hF hL _ _ _ hB.1 hB.2.1 hB.2.2
theorem numberedX_I (i wd : Nat) (lo hi : Int) (ff fl : FuncId) (lbf : Array Value) (w : World) :
    Calls Tryz.prog 70 #[.int .i64 (wd : Nat), .func (.func ff) #[] lbf, .func (.func fl) #[] #[]] w fun e w' => e = .returned (.agg #[(numVI w.heap.size wd i lo hi).v0, (numVI w.heap.size wd i lo hi).v1, (numVI w.heap.size wd i lo hi).v2]) ∧ Below w.heap.size w w' ∧ NumBoxI w' w.heap.size wd ff fl lbf := by
  go_enter Tryz.func70, Tryz.ntmps70
  go_wp2
  generalize hW : World.alloc _ _ = W
  have hB : Below w.heap.size w W := by rw [← hW]; exact (by repeat (first | exact Below.refl _ _ | assumption | refine Below.drew ?_ | refine below_drewN ?_ _ | refine Below.alloc ?_ (by (try simp) <;> omega) _ | refine Below.setCell ?_ (by (try simp) <;> omega) _ | refine Below.trans ?_ (Below.mono (by assumption) (by (try simp) <;> omega))))
  have h0 : Boxed W w.heap.size 3 (.int .i64 (wd : Nat)) := by unfold Boxed; rw [← hW]; (simp only [heap_at, World.size_alloc]; repeat (first | rw [if_pos (by omega)] | rw [if_neg (by omega)] | rw [if_pos trivial]))
  have h1 : Boxed W (w.heap.size + 1) 147 (.func (.func ff) #[] lbf) := by unfold Boxed; rw [← hW]; (simp only [heap_at, World.size_alloc]; repeat (first | rw [if_pos (by omega)] | rw [if_neg (by omega)] | rw [if_pos trivial]))
  have h2 : Boxed W (w.heap.size + 1 + 1) 108 (.func (.func fl) #[] #[]) := by unfold Boxed; rw [← hW]; (simp only [heap_at, World.size_alloc]; repeat (first | rw [if_pos (by omega)] | rw [if_neg (by omega)] | rw [if_pos trivial]))
  have h3 : Blk W (w.heap.size + 1 + 1 + 1) 143 #[(numVI w.heap.size wd i lo hi).v0, (numVI w.heap.size wd i lo hi).v1, (numVI w.heap.size wd i lo hi).v2] := by unfold Blk; rw [← hW]; (simp only [heap_at, World.size_alloc]; repeat (first | rw [if_pos (by omega)] | rw [if_neg (by omega)] | rw [if_pos trivial]))
  exact bodyPost_ret (results_cell (fn := Tryz.f70) rfl rfl (h3.loadVar (tt := 143) Tryz.underlying143 rfl (by kernel_rfl))) rfl ⟨rfl, hB, h0, h1, h2⟩
theorem numbered_I {Good : Array Value → Prop} {i wd : Nat} {lo hi : Int} {ff fl : FuncId} {lbf : Array Value} (hwd : wd < 8) (hG : NumGood Good i) (w : World) (hF : FieldAt w ff lbf i) (hL : LiesAt fl lo hi) :
    Calls Tryz.prog 70 #[.int .i64 (wd : Nat), .func (.func ff) #[] lbf, .func (.func fl) #[] #[]] w fun e w' => ∃ p : PartV, e = .returned (.agg #[p.v0, p.v1, p.v2]) ∧ Below w.heap.size w w' ∧ NdPart Good 26 w' p ∧ p.S = numS wd i lo hi :=
  (numberedX_I i wd lo hi ff fl lbf w).mono fun _e w' ⟨he, hb, hx⟩ => ⟨_, he, hb, numBox_partI hwd hG w' (hF.below hb) hL hx, rfl⟩
end Go.Proofs.YtfdnlgmgjmbafaaGreatDoor

/-
  node: the parts of a line of api.Inode as an iterator. Written by gen_nd.py.
-/
namespace Go.Proofs.YtfdnlgmgjmbafaaGreatDoor
open Go.RowKit Go.Shelf Go.Sort
attribute [local go_sem] Oper.semAt_some

def ndOwnI (p g : Nat) (k : Nat) : Prop := k = p ∨ k = g
/-- A slice of parts. -/
structure KindAtI (w : World) (v : Value) (ps : List PartV) : Prop where
  at_ : ∃ g c, v = .slice (some ⟨g, 0, none⟩) ps.length c ∧ g < w.heap.size ∧ ∀ k (hk : k < ps.length), w.cell? ⟨g, k * 3, none⟩ = some ps[k].v0 ∧ w.cell? ⟨g, k * 3 + 1, none⟩ = some ps[k].v1 ∧ w.cell? ⟨g, k * 3 + 2, none⟩ = some ps[k].v2
  most : ps.length ≤ 100
theorem KindAtI.below {w w' : World} {v : Value} {ps : List PartV} (h : KindAtI w v ps) (hb : Below w.heap.size w w') : KindAtI w' v ps := by
  obtain ⟨⟨g, c, hv, hg, hc⟩, hm⟩ := h
  exact ⟨⟨g, c, hv, Nat.lt_of_lt_of_le hg hb.size, fun k hk => by
    obtain ⟨h1, h2, h3⟩ := hc k hk
    exact ⟨(hb.cell (p := ⟨g, k * 3, none⟩) hg).trans h1, (hb.cell (p := ⟨g, k * 3 + 1, none⟩) hg).trans h2, (hb.cell (p := ⟨g, k * 3 + 2, none⟩) hg).trans h3⟩⟩, hm⟩
set_option maxRecDepth 100000 in
set_option maxHeartbeats 4000000 in
theorem valuesE_I (n : Nat) (_ : 1 ≤ n) {p g c : Nat} {ps : List PartV} (w : World) (hbx : Boxed w p 93 (.slice (some ⟨g, 0, none⟩) ps.length c)) (hg : g < w.heap.size)
    (hc : ∀ k (hk : k < ps.length), w.cell? ⟨g, k * 3, none⟩ = some ps[k].v0 ∧ w.cell? ⟨g, k * 3 + 1, none⟩ = some ps[k].v1 ∧ w.cell? ⟨g, k * 3 + 2, none⟩ = some ps[k].v2) (hl : ps.length ≤ 100) :
    SeqE (ndOwnI p g) n Tryz.prog 145 #[.pointer (some ⟨p, 0, none⟩)] encPart (fun ys => ys = ps) (fun pre => pre <+: ps) w := fun lp J Jx Jp W hW hJ hJx hJp hY h0 => by
  have c0 : W.cell? ⟨p, 0, none⟩ = some (.slice (some ⟨g, 0, none⟩) ps.length c) := Boxed.cell ((hW.block _ hbx.lt).trans hbx)
  have HC := Lib.hid (fun k (hk : k < ps.length) => show W.cell? ⟨g, k * 3, none⟩ = some ps[k].v0 ∧ W.cell? ⟨g, k * 3 + 1, none⟩ = some ps[k].v1 ∧ W.cell? ⟨g, k * 3 + 2, none⟩ = some ps[k].v2 from by
    obtain ⟨h1, h2, h3⟩ := hc k hk
    exact ⟨(hW.cell (p := ⟨g, k * 3, none⟩) hg).trans h1, (hW.cell (p := ⟨g, k * 3 + 1, none⟩) hg).trans h2, (hW.cell (p := ⟨g, k * 3 + 2, none⟩) hg).trans h3⟩)
  have hgW : g < W.heap.size := Nat.lt_of_lt_of_le hg hW.size
  have HY := Lib.hid hY
  have HJA := Lib.hid hJ
  clear hY hJ hJx hJp hc hbx hW
  obtain ⟨M, hM⟩ : ∃ M, ps.length = M := ⟨_, rfl⟩
  have HM := Lib.hid hM
  rw [hM] at c0 hl
  have HT := Lib.hid (fun (k : Nat) (hk : k < ps.length) => show ps.take k ++ [ps[k]] = ps.take (k + 1) from by
    rw [List.take_succ_eq_append_getElem hk])
  clear hM
  refine callsIn_of_wp Tryz.func145 rfl trivial ?_ rfl
  simp only [Tryz.ntmps145, List.size_toArray, List.length_cons, List.length_nil, Nat.reduceAdd, Nat.reduceSub, Array.replicate_succ, Array.replicate_zero, List.push_toArray, List.append_toArray, List.nil_append, List.cons_append]
  gi_wp2_with fail
  gi_loopw [7] (fun i wr => ∃ k : Nat, k ≤ M ∧ i = .int .i64 (k : Nat) ∧ Hid (J (ps.take k) (fun _ => False) wr) ∧ Hid (Keeps (ndOwnI p g) W wr)) (fun i _ => M - (intOf i).toNat)
  case atStart => exact ⟨0, Nat.zero_le _, rfl, Lib.hid (by simpa using h0), Lib.hid (Keeps.refl _ _)⟩
  case round =>
    obtain ⟨k, hk, rfl, HJs, HKP⟩ := hrel
    clear c0
    by_cases hlt : k < M
    · have hkp : k < ps.length := by rw [HM.out]; exact hlt
      obtain ⟨d0, d1, d2⟩ := HC.out k hkp
      have hbk := HKP.out.2 g (.inr rfl) hgW
      have ck0 := (World.cell?_of_block (a := ⟨g, k * 3, none⟩) hbk).trans d0
      have ck1 := (World.cell?_of_block (a := ⟨g, k * 3 + 1, none⟩) hbk).trans d1
      have ck2 := (World.cell?_of_block (a := ⟨g, k * 3 + 2, none⟩) hbk).trans d2
      clear d0 d1 d2 hbk
      have HF := Lib.hid (HT.out k hkp)
      obtain ⟨z0, hz0⟩ : ∃ z, ps[k].f0 = z := ⟨_, rfl⟩
      obtain ⟨y0, hy0⟩ : ∃ z, ps[k].l0 = z := ⟨_, rfl⟩
      obtain ⟨z1, hz1⟩ : ∃ z, ps[k].f1 = z := ⟨_, rfl⟩
      obtain ⟨y1, hy1⟩ : ∃ z, ps[k].l1 = z := ⟨_, rfl⟩
      obtain ⟨z2, hz2⟩ : ∃ z, ps[k].f2 = z := ⟨_, rfl⟩
      obtain ⟨y2, hy2⟩ : ∃ z, ps[k].l2 = z := ⟨_, rfl⟩
      have hbv : Below wr.heap.size wr (wr.alloc (.cells #[.func (.func z0) #[] y0, .func (.func z1) #[] y1, .func (.func z2) #[] y2] 143)) := (Below.refl _ _).alloc (Nat.le_refl _) _
      have HKV : Hid (Keeps (ndOwnI p g) W (wr.alloc (.cells #[.func (.func z0) #[] y0, .func (.func z1) #[] y1, .func (.func z2) #[] y2] 143))) := show Keeps _ _ _ from HKP.out.trans ⟨hbv.size, fun k _ hl => hbv.block k hl⟩
      obtain ⟨fn, tmps, assign, body, hy, hR⟩ := HY.out _ ps[k] (fun _ => False) _ (HJA.out _ _ (fun _ => False) _ _ HJs.out (Turn.of_below hbv (Nat.le_refl _)) (fun k h => h.elim)) HKV.out.1 (fun q h => h.elim) (by rw [HF.out]; exact List.take_prefix _ _)
      rw [HF.out] at hR
      have HR := Lib.hid hR
      unfold encPart PartV.v0 PartV.v1 PartV.v2 at hy
      unfold PartV.v0 at ck0
      unfold PartV.v1 at ck1
      unfold PartV.v2 at ck2
      rw [hz0, hy0, hz1, hy1, hz2, hy2] at hy
      rw [hz0, hy0] at ck0
      rw [hz1, hy1] at ck1
      rw [hz2, hy2] at ck2
      have k2 : (k : Int) < (M : Int) := by omega
      clear hR hz0 hz1 hz2 hy0 hy1 hy2 HF hbv
      gi_wp2_with fail
      refine HR.out.mono ?_
      rintro e W3 (⟨hk3, ⟨rfl, hJ3⟩ | ⟨rfl, hJx3⟩⟩ | ⟨ch, rfl, hp3⟩)
      · have HKP3 : Hid (Keeps (ndOwnI p g) W W3) := show Keeps _ _ _ from HKV.out.trans (hk3.weaken fun k h => .inl h)
        have HJ3 := Lib.hid hJ3
        clear hy hk3 hJ3 ck0 ck1 ck2
        gi_wp2_with fail
        go_roundw
        case rel => exact ⟨k + 1, by omega, by go_num, HJ3, HKP3⟩
        case measure => simp [intOf]; omega
      · clear hy ck0 ck1 ck2
        gi_wp2_with fail
        refine bodyPost_ret (results_none rfl _ _ _) rfl ?_
        exact .inl ⟨⟨_, rfl⟩, .inr ⟨_, List.take_prefix _ _, hJx3⟩⟩
      · clear hy ck0 ck1 ck2
        gi_wp2_with fail
        exact ⟨rfl, .inr ⟨ch, _, rfl, List.take_prefix _ _, hp3⟩⟩
    · obtain rfl : k = M := by omega
      gi_wp2_with fail
      go_end0
      exact .inl ⟨⟨_, rfl⟩, .inl ⟨_, by rw [List.take_of_length_le (by rw [HM.out]; exact Nat.le_refl _)], HJs.out⟩⟩
theorem parts_I (a : Option Addr) (n c : Nat) (w : World) : Calls Tryz.prog 73 #[.slice a n c] w fun e w' => e = .returned (.func (.func 145) #[] #[.pointer (some ⟨w.heap.size, 0, none⟩)]) ∧ w' = w.alloc (.cells #[.slice a n c] 93) := by
  go_enter Tryz.func73, Tryz.ntmps73
  go_wp2
  go_ret
  exact ⟨rfl, rfl⟩
end Go.Proofs.YtfdnlgmgjmbafaaGreatDoor
