/-
  Texts HeldIn to LaL, as one.
-/
import Derived.Test.YtohdgjmmekgcmaaDoorMp3
import Derived.Deep.RegionHeld3
import Derived.Lib.SlicesCompact
import Derived.Sort.KeysCollected
import Derived.Test.YtohdgjmmekgcmaaDoorChecked
import Derived.WalkSpells
import Derived.Laws.Cover1
import Derived.Sort.Walk0
/-
  A region that draws its order, inside a fence, in a round too: what only reads comes first, as long as a condition on the world holds, which the operation that waits for all others need not keep.
-/
namespace Go.Proofs.YtohdgjmmekgcmaaDoor
open Go.RowKit Go.Shelf

section
variable {Fc : Fence} {n : Nat} {P : Program} {md : Region.Mode} {ops : Array Oper} {Q : Exit → Act → World → Prop} {m : Nat} {R : World → Prop}
/-- It only reads, and calls nothing. -/
def ReadsIf (P : Program) (ops : Array Oper) (R : World → Prop) (o : Oper) (v : Value) (a : Act) : Prop := YieldsIf P ops R o v a ∧ ∀ w, o.about P w a.eval = none
def NoDefers (ops : Array Oper) : Prop := ∀ (j : Nat) o, ops[j]? = some o → ∀ c, o.op ≠ .defer c
theorem noDefers_of {l : List Oper} (h : l.all noDefer = true) : NoDefers l.toArray := fun j o ho => noDefer_spec ((List.all_eq_true.1 h) o (List.mem_of_getElem? (by simpa using ho)))
theorem ReadsIf.wpOpIn {i : Nat} {o : Oper} {v : Value} {a : Act} (hd : NoDefers ops) (hi : ops[i]? = some o) (hy : ReadsIf P ops R o v a) {K : Act → World → Prop} {w : World} (hw : R w) (h : K (a.put o.dst v) w) : wpOpIn Fc n P ops Q i K a w := by
  have hab : ∀ f, o.about P w a.eval = some f → Fc.fn f := fun f hf => by rw [hy.2 w] at hf; cases hf
  unfold Go.wpOpIn
  simp only [hi]
  rcases hy.1 with ⟨h1, h2⟩ | ⟨h1, rfl⟩
  · rw [if_pos h1]
    unfold Oper.wpIn
    rw [Oper.semAt_plain _ _ _ (hd i o hi), h2 w hw]
    exact ⟨hab, h⟩
  · rw [if_neg (by rw [h1]; decide)]
    exact ⟨hab, h⟩
theorem wpOpIn_read {j : Nat} {oi oj : Oper} {v : Value} (hd : NoDefers ops) (hj : ops[j]? = some oj) (hap : oi.apart ops oj = true) (hsi : ∀ cs b, oi.op ≠ .select cs b) (hsj : ∀ cs b, oj.op ≠ .select cs b)
    (hQ : ∀ c a w, Q (.panic c) (a.put oi.dst v) w → Q (.panic c) a w) {K : Act → World → Prop} {a : Act} {w : World} (hy : ReadsIf P ops R oi v a) (h : wpOpIn Fc n P ops Q j K (a.put oi.dst v) w) :
    wpOpIn Fc n P ops Q j (fun a' w' => ReadsIf P ops R oi v a' ∧ K (a'.put oi.dst v) w') a w := by
  obtain ⟨h1, h2, h3⟩ := Oper.apart_spec hap
  have same : ∀ u, ReadsIf P ops R oi v (a.put oj.dst u) := fun u => ⟨hy.1.of_same (execOp_put oi hsi a oj.dst u h3) (wanted_put oi a oj.dst u h3), fun w => by rw [about_put oi w a oj.dst u h3]; exact hy.2 w⟩
  have turn : ∀ u w', K ((a.put oi.dst v).put oj.dst u) w' → ReadsIf P ops R oi v (a.put oj.dst u) ∧ K ((a.put oj.dst u).put oi.dst v) w' := fun u w' hk => ⟨same u, by rw [← Act.put_comm a v u h2]; exact hk⟩
  have hnd := hd j oj hj
  unfold Go.wpOpIn at h ⊢
  simp only [hj] at h ⊢
  rw [wanted_put oj a oi.dst v h1, about_put oj w a oi.dst v h1] at h
  by_cases hw : Region.wanted oj (yielded ops a.tmps) = true
  · rw [if_pos hw] at h ⊢
    unfold Oper.wpIn at h ⊢
    rw [about_put oj w a oi.dst v h1, Oper.semAt_plain _ _ _ hnd, execOp_put oj hsj a oi.dst v h1] at h
    rw [Oper.semAt_plain _ _ _ hnd]
    refine ⟨h.1, ?_⟩
    have h4 := h.2
    generalize hr : (execOp a.eval oj).run P w = r at *
    cases r with
    | halt x w' =>
      cases x <;> simp only [Oper.uponIn] at h4 ⊢
      case panic u => exact hQ _ _ _ h4
    | ok x w' =>
      cases x <;> simp only [Oper.uponIn] at h4 ⊢
      case value u => exact turn u w' h4
      case skip => exact turn _ w' h4
      case defer d =>
        have hyD : ReadsIf P ops R oi v { a with defers := d :: a.defers } := ⟨hy.1.of_same rfl rfl, fun w => hy.2 w⟩
        refine ⟨⟨hyD.1.of_same (execOp_put oi hsi _ oj.dst undef h3) (wanted_put oi _ oj.dst undef h3), fun w => by rw [about_put oi w _ oj.dst undef h3]; exact hyD.2 w⟩, ?_⟩
        rw [← Act.put_comm _ v undef h2, ← Act.put_defers]
        exact h4
      case enter f args =>
        refine ⟨h4.1, CallsIn.mono h4.2 fun e w'' he => ?_⟩
        cases e with
        | returned u => exact turn u w'' he
        | panicked c => exact hQ _ _ _ he
        | outgrown => exact he
      case row row args => exact ⟨h4.1, RowsIn.mono h4.2 fun u w'' he => turn u w'' he⟩
      case round l f tmps assign body =>
        refine ⟨h4.1, RoundIn.mono h4.2 fun e w'' he => ?_⟩
        cases e with
        | returned u => exact turn u w'' he
        | panicked c => exact hQ _ _ _ he
        | outgrown => exact he
  · rw [if_neg hw] at h ⊢
    exact ⟨h.1, turn _ w h.2⟩
def wpAnyN (Fc : Fence) (n : Nat) (P : Program) (md : Region.Mode) (ops : Array Oper) (Q : Exit → Act → World → Prop) (m : Nat) (R : World → Prop) : Nat → Array Bool → Act → World → Prop
  | 0, l, a, w => wpAnyIn Fc n P md ops Q 0 l a w
  | f + 1, l, a, w => (Region.ready md ops l = [] → Q .normal a w) ∧ ∀ i ∈ Region.ready md ops l, wpOpIn Fc n P ops Q i (fun a' w' => Till m R (l.setIfInBounds i true) w' ∧ wpAnyN Fc n P md ops Q m R f (l.setIfInBounds i true) a' w') a w
theorem wpAnyIn_of_N : ∀ (f : Nat) (l : Array Bool) (a : Act) (w : World), wpAnyN Fc n P md ops Q m R f l a w → wpAnyIn Fc n P md ops Q f l a w
  | 0, _, _, _, h => h
  | f + 1, _, _, _, h => ⟨h.1, fun i hi => wpOpIn_mono (fun a' w' h' => wpAnyIn_of_N f _ a' w' h'.2) (h.2 i hi)⟩
theorem wpAnyN_first {i : Nat} {oi : Oper} {v : Value} (hd : NoDefers ops) (hi : ops[i]? = some oi) (hsel : ∀ (j : Nat) (o : Oper) cs b, ops[j]? = some o → o.op ≠ .select cs b)
    (hQ : ∀ c a w, Q (.panic c) (a.put oi.dst v) w → Q (.panic c) a w) (hmi : m ≠ i) (hmw : Region.waitsFor md ops m i = true) : ∀ (f : Nat) (l : Array Bool) (a : Act) (w : World),
      (∀ j oj, ops[j]? = some oj → j ≠ i → l.getD j true = false → (∀ e ∈ oj.after, Region.binds md e = true → e.on ≠ i) → oi.apart ops oj = true) →
      i ∈ Region.ready md ops l → l.getD m true = false → ReadsIf P ops R oi v a → R w →
      wpAnyN Fc n P md ops Q m R f (l.setIfInBounds i true) (a.put oi.dst v) w → wpAnyN Fc n P md ops Q m R (f + 1) l a w
  | f, l, a, w, hfree, hr, hml, hy, hw, H => by
    have hil := (mem_ready.1 hr).1
    refine ⟨fun h => (by rw [h] at hr; cases hr), fun j hj => ?_⟩
    by_cases hji : j = i
    · subst hji
      exact hy.wpOpIn hd hi hw ⟨fun _ => hw, H⟩
    · have hrj := ready_mono hj hji
      cases f with
      | zero =>
        have h0 := H.1
        rw [h0] at hrj
        cases hrj
      | succ f =>
        obtain ⟨hjun, oj, hoj, -⟩ := mem_ready.1 hj
        have hnot := unlisted_not hj hoj hil
        have hjm : j ≠ m := by
          rintro rfl
          obtain ⟨om, hom, e, he, hb, hon⟩ := Region.waitsFor_spec hmw
          exact unlisted_not hj hom hil e he hb hon
        have h2 := wpOpIn_read hd hoj (hfree j oj hoj hji hjun hnot) (fun cs b => hsel i oi cs b hi) (fun cs b => hsel j oj cs b hoj) hQ hy (H.2 j hrj)
        refine wpOpIn_mono (fun a' w' h3 => ?_) h2
        obtain ⟨hya, hTa, hMa⟩ := h3
        have hml2 : (l.setIfInBounds j true).getD m true = false := by rw [getD_set_ne true hjm]; exact hml
        have hw2 : R w' := hTa (by rw [getD_set_ne true hjm, getD_set_ne true (Ne.symm hmi)]; exact hml)
        refine ⟨fun _ => hw2, wpAnyN_first hd hi hsel hQ hmi hmw f (l.setIfInBounds j true) a' w' (fun k ok hk hki hku hno => ?_) (ready_mono hr (Ne.symm hji)) hml2 hya hw2 ?_⟩
        · exact hfree k ok hk hki (getD_set_true hku) hno
        · rw [Array.setIfInBounds_comm _ _ hji]; exact hMa
theorem wpAnyN_take {i : Nat} {oi : Oper} {v : Value} {f : Nat} {l : Array Bool} {a : Act} {w : World} (hd : NoDefers ops) (hi : ops[i]? = some oi) (hs : Region.noSelect ops = true)
    (hc : (Region.free md ops l i && (Region.ready md ops l).contains i && (m != i) && Region.waitsFor md ops m i && !(l.getD m true)) = true)
    (hQ : ∀ c a w, Q (.panic c) (a.put oi.dst v) w → Q (.panic c) a w) (hb : ∀ w, oi.about P w a.eval = none) (hy : YieldsIf P ops R oi v a) (hw : R w)
    (h : wpAnyN Fc n P md ops Q m R f (l.setIfInBounds i true) (a.put oi.dst v) w) : wpAnyN Fc n P md ops Q m R (f + 1) l a w := by
  simp only [Bool.and_eq_true, bne_iff_ne, ne_eq, Bool.not_eq_true'] at hc
  obtain ⟨⟨⟨⟨h1, h2⟩, h3⟩, h4⟩, h5⟩ := hc
  exact wpAnyN_first hd hi (Region.noSelect_spec hs) hQ h3 h4 f l a w (Region.free_spec hi h1) (by simpa using h2) h5 ⟨hy, hb⟩ hw h
theorem wpAnyN_one {i : Nat} {oi : Oper} {f : Nat} {l : Array Bool} {a : Act} {w : World} (hi : ops[i]? = some oi) (hr : Region.ready md ops l = [i]) (hg : Region.wanted oi (yielded ops a.tmps) = true)
    (h : ∀ K : Act → World → Prop, (∀ a' w', ((l.setIfInBounds i true).getD m true = false → R w') → wpAnyN Fc n P md ops Q m R f (l.setIfInBounds i true) a' w' → K a' w') → Oper.wpIn Fc n P oi a w K Q) : wpAnyN Fc n P md ops Q m R (f + 1) l a w := by
  refine ⟨fun h0 => (by rw [h0] at hr; cases hr), fun j hj => ?_⟩
  rw [hr] at hj
  obtain rfl : j = i := by simpa using hj
  unfold wpOpIn
  simp only [hi]
  rw [if_pos hg]
  exact h _ fun a' w' h1 h2 => ⟨h1, h2⟩
theorem wpAnyN_last {om : Oper} {f : Nat} {l : Array Bool} {a : Act} {w : World} (hi : ops[m]? = some om) (hr : Region.ready md ops l = [m]) (hg : Region.wanted om (yielded ops a.tmps) = true)
    (h : ∀ K : Act → World → Prop, (∀ a' w', wpAnyN Fc n P md ops Q m R f (l.setIfInBounds m true) a' w' → K a' w') → Oper.wpIn Fc n P om a w K Q) : wpAnyN Fc n P md ops Q m R (f + 1) l a w :=
  wpAnyN_one hi hr hg fun K hK => h K fun a' w' hM => hK a' w' (fun h0 => by
    rcases Nat.lt_or_ge m l.size with h' | h'
    · simp [h'] at h0
    · rw [Array.getD_eq_getD_getElem?, Array.getElem?_eq_none (by simpa using h')] at h0
      cases h0) hM
theorem wpAnyN_done {l : Array Bool} {a : Act} {w : World} (hr : Region.ready md ops l = []) (h : Q .normal a w) : ∀ f, wpAnyN Fc n P md ops Q m R f l a w
  | 0 => ⟨hr, h⟩
  | _ + 1 => ⟨fun _ => h, by rw [hr]; simp⟩
theorem wpIn_region_N {id : Nat} {a : Act} {w : World} (m : Nat) (R : World → Prop) (hm : P.follows .mixedOrders = true)
    (h : wpAnyN Fc n P .any ops Q m R ops.size (Array.replicate ops.size false) a w.drew) : (Code.region id ops true).wpIn Fc n P Q a w :=
  wpIn_region_any hm (wpAnyIn_of_N _ _ _ _ h)
/-- A load of which the run is known. -/
theorem wpIn_load_eq {w : World} {a : Act} {o : Oper} {K : Act → World → Prop} (ty : TypeId) (x : Operand) (ho : o.op = .load ty x) (p v : Value) (hx : a.eval x = p) (hr : (Instr.loadAt ty p).run P w = .ok v w) (h : K (a.put o.dst v) w) : o.wpIn Fc n P a w K Q := by
  unfold Oper.wpIn
  refine ⟨by simp [Oper.about, ho], ?_⟩
  rw [Oper.semAt_plain Fc _ _ (by rw [ho]; intro c hc; cases hc)]
  unfold execOp
  simp only [ho, hx, hr, Sem.run_bind, Result.andThen_ok]
  exact h
theorem wpIn_store_eq {w w' : World} {a : Act} {o : Oper} {K : Act → World → Prop} (ty : TypeId) (x y : Operand) (ho : o.op = .store ty x y) (p v : Value) (hx : a.eval x = p) (hy : a.eval y = v) (hr : (Instr.storeAt ty p v).run P w = .ok () w') (h : K (a.put o.dst undef) w') : o.wpIn Fc n P a w K Q := by
  unfold Oper.wpIn
  refine ⟨by simp [Oper.about, ho], ?_⟩
  rw [Oper.semAt_plain Fc _ _ (by rw [ho]; intro c hc; cases hc)]
  unfold execOp
  simp only [ho, hx, hy, hr, Sem.run_bind, Result.andThen_ok]
  exact h
theorem wpListIn_load_eq {w : World} {a : Act} {o : Oper} {rest : List Oper} (hgd : o.guard = none) (ty : TypeId) (x : Operand) (ho : o.op = .load ty x) (p v : Value) (hx : a.eval x = p) (hr : (Instr.loadAt ty p).run P w = .ok v w) (h : wpListIn Fc n P ops Q rest (a.put o.dst v) w) : wpListIn Fc n P ops Q (o :: rest) a w :=
  wpListIn_plain hgd fun _ hK => wpIn_load_eq ty x ho p v hx hr (hK _ _ h)
theorem wpListIn_store_eq {w w' : World} {a : Act} {o : Oper} {rest : List Oper} (hgd : o.guard = none) (ty : TypeId) (x y : Operand) (ho : o.op = .store ty x y) (p v : Value) (hx : a.eval x = p) (hy : a.eval y = v) (hr : (Instr.storeAt ty p v).run P w = .ok () w') (h : wpListIn Fc n P ops Q rest (a.put o.dst undef) w') : wpListIn Fc n P ops Q (o :: rest) a w :=
  wpListIn_plain hgd fun _ hK => wpIn_store_eq ty x y ho p v hx hy hr (hK _ _ h)
end
end Go.Proofs.YtohdgjmmekgcmaaDoor

/-
  As in HeldIn: the operation that comes last need not wait for each one itself.
-/
namespace Go.Proofs.YtohdgjmmekgcmaaDoor
open Go.RowKit Go.Shelf

section
variable {Fc : Fence} {n : Nat} {P : Program} {md : Region.Mode} {ops : Array Oper} {Q : Exit → Act → World → Prop} {m : Nat} {R : World → Prop}
/-- What the listed ones wait for is listed. -/
def Closed (md : Region.Mode) (ops : Array Oper) (l : Array Bool) : Prop := ∀ j oj, ops[j]? = some oj → l.getD j false = true → ∀ e ∈ oj.after, Region.binds md e = true → l.getD e.on false = true
def closedB (md : Region.Mode) (ops : Array Oper) (l : Array Bool) : Bool := (List.range ops.size).all fun j => match ops[j]? with
  | some oj => !(l.getD j false) || oj.after.all fun e => !(Region.binds md e) || l.getD e.on false
  | none => true
theorem closedB_spec {l : Array Bool} (h : closedB md ops l = true) : Closed md ops l := fun j oj hj hl e he hb => by
  have h1 := List.all_eq_true.1 h j (List.mem_range.2 (Array.getElem?_eq_some_iff.1 hj).1)
  simp only [hj, hl, Bool.not_true, Bool.false_or] at h1
  have h2 := Array.all_eq_true_iff_forall_mem.1 h1 e he
  simpa [hb] using h2
theorem Closed.set {l : Array Bool} {i : Nat} (h : Closed md ops l) (hi : i ∈ Region.ready md ops l) : Closed md ops (l.setIfInBounds i true) := fun j oj hj hl e he hb => by
  obtain ⟨_, oi, hoi, hall⟩ := mem_ready.1 hi
  by_cases hij : i = j
  · subst hij
    have : oj = oi := Option.some.inj (hj.symm.trans hoi)
    subst this
    exact Go.getD_set_true (hall e he hb)
  · rw [getD_set_ne false hij] at hl
    exact Go.getD_set_true (h j oj hj hl e he hb)
/-- m comes after i. -/
def late (md : Region.Mode) (ops : Array Oper) (i : Nat) : Nat → Nat → Bool
  | 0, m => Region.waitsFor md ops m i
  | f + 1, m => Region.waitsFor md ops m i || (List.range ops.size).any fun j => Region.waitsFor md ops m j && late md ops i f j
theorem late_spec {l : Array Bool} {i : Nat} (h : Closed md ops l) (hi : l.getD i true = false) : ∀ (f m : Nat), late md ops i f m = true → ∃ om, ops[m]? = some om ∧ ∃ e ∈ om.after, Region.binds md e = true ∧ l.getD e.on false = false
  | 0, m, hm => by
    obtain ⟨om, h1, e, h2, h3, h4⟩ := Region.waitsFor_spec hm
    exact ⟨om, h1, e, h2, h3, by rw [h4]; exact getD_both hi⟩
  | f + 1, m, hm => by
    unfold late at hm
    rcases Bool.or_eq_true_iff.1 hm with hm | hm
    · obtain ⟨om, h1, e, h2, h3, h4⟩ := Region.waitsFor_spec hm
      exact ⟨om, h1, e, h2, h3, by rw [h4]; exact getD_both hi⟩
    · obtain ⟨j, -, hj⟩ := List.any_eq_true.1 hm
      rw [Bool.and_eq_true] at hj
      obtain ⟨om, h1, e, h2, h3, h4⟩ := Region.waitsFor_spec hj.1
      obtain ⟨oj, k1, e', k2, k3, k4⟩ := late_spec h hi f j hj.2
      refine ⟨om, h1, e, h2, h3, ?_⟩
      rw [h4]
      cases hl : l.getD j false with
      | false => rfl
      | true => rw [h j oj k1 hl e' k2 k3] at k4; cases k4
theorem late_not {l : Array Bool} {i f : Nat} (h : Closed md ops l) (hi : l.getD i true = false) (hm : late md ops i f m = true) : m ∉ Region.ready md ops l := fun hr => by
  obtain ⟨om, h1, e, h2, h3, h4⟩ := late_spec h hi f m hm
  obtain ⟨_, om', h1', hall⟩ := mem_ready.1 hr
  have : om = om' := Option.some.inj (h1.symm.trans h1')
  subst this
  rw [hall e h2 h3] at h4
  cases h4
theorem wpAnyN_first2 {i k : Nat} {oi : Oper} {v : Value} (hd : NoDefers ops) (hi : ops[i]? = some oi) (hsel : ∀ (j : Nat) (o : Oper) cs b, ops[j]? = some o → o.op ≠ .select cs b)
    (hQ : ∀ c a w, Q (.panic c) (a.put oi.dst v) w → Q (.panic c) a w) (hmi : m ≠ i) (hmw : late md ops i k m = true) : ∀ (f : Nat) (l : Array Bool) (a : Act) (w : World),
      (∀ j oj, ops[j]? = some oj → j ≠ i → j ≠ m → l.getD j true = false → (∀ e ∈ oj.after, Region.binds md e = true → e.on ≠ i) → oi.apart ops oj = true) →
      i ∈ Region.ready md ops l → l.getD m true = false → Closed md ops l → ReadsIf P ops R oi v a → R w →
      wpAnyN Fc n P md ops Q m R f (l.setIfInBounds i true) (a.put oi.dst v) w → wpAnyN Fc n P md ops Q m R (f + 1) l a w
  | f, l, a, w, hfree, hr, hml, hcl, hy, hw, H => by
    have hil := (mem_ready.1 hr).1
    refine ⟨fun h => (by rw [h] at hr; cases hr), fun j hj => ?_⟩
    by_cases hji : j = i
    · subst hji
      exact hy.wpOpIn hd hi hw ⟨fun _ => hw, H⟩
    · have hrj := ready_mono hj hji
      cases f with
      | zero =>
        have h0 := H.1
        rw [h0] at hrj
        cases hrj
      | succ f =>
        obtain ⟨hjun, oj, hoj, -⟩ := mem_ready.1 hj
        have hnot := unlisted_not hj hoj hil
        have hjm : j ≠ m := by
          rintro rfl
          exact late_not hcl hil hmw hj
        have h2 := wpOpIn_read hd hoj (hfree j oj hoj hji hjm hjun hnot) (fun cs b => hsel i oi cs b hi) (fun cs b => hsel j oj cs b hoj) hQ hy (H.2 j hrj)
        refine wpOpIn_mono (fun a' w' h3 => ?_) h2
        obtain ⟨hya, hTa, hMa⟩ := h3
        have hml2 : (l.setIfInBounds j true).getD m true = false := by rw [getD_set_ne true hjm]; exact hml
        have hw2 : R w' := hTa (by rw [getD_set_ne true hjm, getD_set_ne true (Ne.symm hmi)]; exact hml)
        refine ⟨fun _ => hw2, wpAnyN_first2 hd hi hsel hQ hmi hmw f (l.setIfInBounds j true) a' w' (fun k ok hk hki hkm hku hno => ?_) (ready_mono hr (Ne.symm hji)) hml2 (hcl.set hj) hya hw2 ?_⟩
        · exact hfree k ok hk hki hkm (getD_set_true hku) hno
        · rw [Array.setIfInBounds_comm _ _ hji]; exact hMa
/-- free, m aside. -/
def freeM (md : Region.Mode) (ops : Array Oper) (l : Array Bool) (m i : Nat) : Bool :=
  match ops[i]? with
  | none => false
  | some oi => (List.range ops.size).all fun j => j == i || j == m || l.getD j true || match ops[j]? with
      | some oj => oj.after.any (fun e => Region.binds md e && e.on == i) || oi.apart ops oj
      | none => true
theorem freeM_spec {i : Nat} {oi : Oper} {l : Array Bool} (hi : ops[i]? = some oi) (h : freeM md ops l m i = true) (j : Nat) (oj : Oper)
    (hj : ops[j]? = some oj) (hne : j ≠ i) (hnm : j ≠ m) (hun : l.getD j true = false) (hno : ∀ e ∈ oj.after, Region.binds md e = true → e.on ≠ i) : oi.apart ops oj = true := by
  simp only [freeM, hi, List.all_eq_true, List.mem_range] at h
  have h1 := h j (Array.getElem?_eq_some_iff.1 hj).1
  simp only [hj, hun, Bool.or_false, Bool.or_eq_true, beq_iff_eq, hne, hnm, false_or] at h1
  rcases h1 with h1 | h1
  · obtain ⟨e, he, hb⟩ := Array.any_eq_true'.1 h1
    simp only [Bool.and_eq_true, beq_iff_eq] at hb
    exact absurd hb.2 (hno e he hb.1)
  · exact h1
theorem wpAnyN_take2 {i : Nat} {oi : Oper} {v : Value} {f : Nat} {l : Array Bool} {a : Act} {w : World} (k : Nat) (hd : NoDefers ops) (hi : ops[i]? = some oi) (hs : Region.noSelect ops = true)
    (hc : (freeM md ops l m i && (Region.ready md ops l).contains i && (m != i) && late md ops i k m && !(l.getD m true) && closedB md ops l) = true)
    (hQ : ∀ c a w, Q (.panic c) (a.put oi.dst v) w → Q (.panic c) a w) (hb : ∀ w, oi.about P w a.eval = none) (hy : YieldsIf P ops R oi v a) (hw : R w)
    (h : wpAnyN Fc n P md ops Q m R f (l.setIfInBounds i true) (a.put oi.dst v) w) : wpAnyN Fc n P md ops Q m R (f + 1) l a w := by
  simp only [Bool.and_eq_true, bne_iff_ne, ne_eq, Bool.not_eq_true'] at hc
  obtain ⟨⟨⟨⟨⟨h1, h2⟩, h3⟩, h4⟩, h5⟩, h6⟩ := hc
  exact wpAnyN_first2 hd hi (Region.noSelect_spec hs) hQ h3 h4 f l a w (freeM_spec hi h1) (by simpa using h2) h5 (closedB_spec h6) ⟨hy, hb⟩ hw h
end
end Go.Proofs.YtohdgjmmekgcmaaDoor

/-
  As in HeldFar, outside of a fence.
-/
namespace Go.Proofs.YtohdgjmmekgcmaaDoor
open Go.RowKit Go.Shelf

section
variable {P : Program} {md : Region.Mode} {ops : Array Oper} {Q : Exit → Act → World → Prop} {m : Nat} {R : World → Prop}
theorem wpAnyM_first2 {i k : Nat} {oi : Oper} {v : Value} (hi : ops[i]? = some oi) (hsel : ∀ (j : Nat) (o : Oper) cs b, ops[j]? = some o → o.op ≠ .select cs b)
    (hQ : ∀ c a w, Q (.panic c) (a.put oi.dst v) w → Q (.panic c) a w) (hmi : m ≠ i) (hmw : late md ops i k m = true) : ∀ (f : Nat) (l : Array Bool) (a : Act) (w : World),
      (∀ j oj, ops[j]? = some oj → j ≠ i → j ≠ m → l.getD j true = false → (∀ e ∈ oj.after, Region.binds md e = true → e.on ≠ i) → oi.apart ops oj = true) →
      i ∈ Region.ready md ops l → l.getD m true = false → Closed md ops l → YieldsIf P ops R oi v a → R w →
      wpAnyM P md ops Q m R f (l.setIfInBounds i true) (a.put oi.dst v) w → wpAnyM P md ops Q m R (f + 1) l a w
  | f, l, a, w, hfree, hr, hml, hcl, hy, hw, H => by
    have hil := (mem_ready.1 hr).1
    refine ⟨fun h => (by rw [h] at hr; cases hr), fun j hj => ?_⟩
    by_cases hji : j = i
    · subst hji
      exact hy.wpOp hi hw ⟨fun _ => hw, H⟩
    · have hrj := ready_mono hj hji
      cases f with
      | zero =>
        have h0 := H.1
        rw [h0] at hrj
        cases hrj
      | succ f =>
        obtain ⟨hjun, oj, hoj, -⟩ := mem_ready.1 hj
        have hnot := unlisted_not hj hoj hil
        have hjm : j ≠ m := by
          rintro rfl
          exact late_not hcl hil hmw hj
        have h2 := wpOp_putIf hoj (hfree j oj hoj hji hjm hjun hnot) (fun cs b => hsel i oi cs b hi) (fun cs b => hsel j oj cs b hoj) hQ hy (H.2 j hrj)
        refine wpOp_mono (fun a' w' h3 => ?_) h2
        obtain ⟨hya, hTa, hMa⟩ := h3
        have hml2 : (l.setIfInBounds j true).getD m true = false := by rw [getD_set_ne true hjm]; exact hml
        have hw2 : R w' := hTa (by rw [getD_set_ne true hjm, getD_set_ne true (Ne.symm hmi)]; exact hml)
        refine ⟨fun _ => hw2, wpAnyM_first2 hi hsel hQ hmi hmw f (l.setIfInBounds j true) a' w' (fun k ok hk hki hkm hku hno => ?_) (ready_mono hr (Ne.symm hji)) hml2 (hcl.set hj) hya hw2 ?_⟩
        · exact hfree k ok hk hki hkm (getD_set_true hku) hno
        · rw [Array.setIfInBounds_comm _ _ hji]; exact hMa
theorem wpAnyM_take2 {i : Nat} {oi : Oper} {v : Value} {f : Nat} {l : Array Bool} {a : Act} {w : World} (k : Nat) (hi : ops[i]? = some oi) (hs : Region.noSelect ops = true)
    (hc : (freeM md ops l m i && (Region.ready md ops l).contains i && (m != i) && late md ops i k m && !(l.getD m true) && closedB md ops l) = true)
    (hQ : ∀ c a w, Q (.panic c) (a.put oi.dst v) w → Q (.panic c) a w) (hy : YieldsIf P ops R oi v a) (hw : R w)
    (h : wpAnyM P md ops Q m R f (l.setIfInBounds i true) (a.put oi.dst v) w) : wpAnyM P md ops Q m R (f + 1) l a w := by
  simp only [Bool.and_eq_true, bne_iff_ne, ne_eq, Bool.not_eq_true'] at hc
  obtain ⟨⟨⟨⟨⟨h1, h2⟩, h3⟩, h4⟩, h5⟩, h6⟩ := hc
  exact wpAnyM_first2 hi (Region.noSelect_spec hs) hQ h3 h4 f l a w (freeM_spec hi h1) (by simpa using h2) h5 (closedB_spec h6) hy hw h
end
end Go.Proofs.YtohdgjmmekgcmaaDoor

/-
  label: the document's Read.
-/
namespace Go.Proofs.YtohdgjmmekgcmaaDoor
open Go.RowKit Go.Shelf Go.Sort

theorem isRead_small (l : List Nat) (many : Int) (h : many < 1) : isRead l many = false := by
  have : readN l many = [] := by
    unfold readN
    rw [show many.toNat = 0 by omega]; rfl
  unfold isRead sameOut
  rw [this]; rfl
theorem isRead_big (l : List Nat) (hl : l.length = 5) (many : Int) (h : 40 < many) : isRead l many = false := by
  have : (readN l many).length = 40 := by
    unfold readN
    rw [List.length_take, txtN_length]; omega
  unfold isRead sameOut
  have h2 : (many == ((readN l many).length : Int)) = false := by rw [this]; simp; omega
  rw [h2]
  simp
theorem readN_len (l : List Nat) (hl : l.length = 5) (m : Nat) (h : m ≤ 40) : (readN l m).length = m := by
  unfold readN
  rw [List.length_take, txtN_length]; omega
theorem isRead_eq (l : List Nat) (hl : l.length = 5) (m : Nat) (h : m ≤ 40) : isRead l m = (rightN (readN l m) && same5 (wordsN (readN l m)) l) := by
  unfold isRead sameOut
  rw [readN_len l hl m h]
  simp
def byteTo (l : List Nat) (k : Nat) : List Nat := (WM.bytesOf l).take k
theorem byteTo_succ (l : List Nat) (k : Nat) (h : k < 8 * l.length) : byteTo l (k + 1) = byteTo l k ++ [WM.byteAt l k] := by
  unfold byteTo
  rw [List.take_succ_eq_append_getElem (by rw [WM.bytesOf_length]; exact h)]
  simp [WM.bytesOf]
theorem byteTo_len (l : List Nat) (k : Nat) (h : k ≤ 8 * l.length) : (byteTo l k).length = k := by
  unfold byteTo
  rw [List.length_take, WM.bytesOf_length]; omega
theorem byteTo_read (l : List Nat) (m : Nat) : byteTo l m = bsN (readN l m) := by
  unfold byteTo readN
  rw [take_bsN, txtN_bs]; rfl
theorem same5_comm (l m : List Nat) : same5 l m = same5 m l := by
  unfold same5
  rw [Bool.eq_iff_iff, decide_eq_true_iff, decide_eq_true_iff]
  exact ⟨fun h i hi => (h i hi).symm, fun h i hi => (h i hi).symm⟩
end Go.Proofs.YtohdgjmmekgcmaaDoor

/-
  label: texts in order, each once; plain Lean.
-/
namespace Go.Proofs.YtohdgjmmekgcmaaDoor

/-- Texts that rise, none twice. -/
def Rising (l : List (List UInt8)) : Prop := l.Pairwise (fun x y => x < y)
theorem rising_ext : ∀ {a b : List (List UInt8)}, Rising a → Rising b → (∀ x, x ∈ a ↔ x ∈ b) → a = b
  | [], [], _, _, _ => rfl
  | [], y :: b, _, _, h => by simpa using (h y).2 (by simp)
  | x :: a, [], _, _, h => by simpa using (h x).1 (by simp)
  | x :: a, y :: b, ha, hb, h => by
    obtain ⟨hx, ha'⟩ := List.pairwise_cons.1 ha
    obtain ⟨hy, hb'⟩ := List.pairwise_cons.1 hb
    have hxy : x = y := by
      rcases List.mem_cons.1 ((h x).1 (by simp)) with e | e
      · exact e
      · rcases List.mem_cons.1 ((h y).2 (by simp)) with e2 | e2
        · exact e2.symm
        · exact absurd (hx y e2) (List.lt_asymm (hy x e))
    subst hxy
    rw [rising_ext ha' hb' fun z => ?_]
    constructor
    · intro hz
      rcases List.mem_cons.1 ((h z).1 (List.mem_cons_of_mem _ hz)) with e | e
      · exact absurd (hx z hz) (by rw [e]; exact List.lt_irrefl _)
      · exact e
    · intro hz
      rcases List.mem_cons.1 ((h z).2 (List.mem_cons_of_mem _ hz)) with e | e
      · exact absurd (hy z hz) (by rw [e]; exact List.lt_irrefl _)
      · exact e
/-- Texts sorted, each once. -/
def sortU (l : List (List UInt8)) : List (List UInt8) := Lib.compact (l.mergeSort fun x y => decide (x ≤ y))
theorem mem_compact (zs : List (List UInt8)) (x : List UInt8) : x ∈ Lib.compact zs ↔ x ∈ zs := by
  unfold Lib.compact Lib.compactUpTo
  constructor
  · intro h
    obtain ⟨j, hj, rfl⟩ := List.mem_map.1 h
    have hl := List.mem_range.1 (List.mem_filter.1 hj).1
    simp [hl]
  · intro h
    obtain ⟨j, hj, rfl⟩ := List.mem_iff_getElem.1 h
    have key : ∀ (n j : Nat) (hj : j < zs.length), j ≤ n → ∃ i, i < zs.length ∧ Lib.keeps zs.toArray i = true ∧ zs.toArray[i]! = zs[j] := by
      intro n
      induction n with
      | zero =>
        intro j hj h0
        obtain rfl : j = 0 := by omega
        exact ⟨0, hj, Lib.keeps_lt_one _ 0 (by omega), by simp [hj]⟩
      | succ n ih =>
        intro j hj hn
        by_cases hk : Lib.keeps zs.toArray j = true
        · exact ⟨j, hj, hk, by simp [hj]⟩
        · unfold Lib.keeps at hk
          simp only [decide_eq_true_eq, not_or, Decidable.not_not] at hk
          obtain ⟨i, h1, h2, h3⟩ := ih (j - 1) (by omega) (by omega)
          refine ⟨i, h1, h2, h3.trans ?_⟩
          have e := hk.2
          simp [hj, show j - 1 < zs.length by omega] at e
          exact e.symm
    obtain ⟨i, h1, h2, h3⟩ := key j j hj (Nat.le_refl _)
    exact List.mem_map.2 ⟨i, List.mem_filter.2 ⟨List.mem_range.2 h1, h2⟩, h3⟩
theorem compact_rising (zs : List (List UInt8)) (h : zs.Pairwise (fun x y => x ≤ y)) : Rising (Lib.compact zs) := by
  unfold Rising Lib.compact Lib.compactUpTo
  rw [List.pairwise_map, List.pairwise_filter]
  refine List.Pairwise.imp_of_mem ?_ List.pairwise_lt_range
  intro i j hi hj hij _ hk
  have hi' := List.mem_range.1 hi
  have hj' := List.mem_range.1 hj
  unfold Lib.keeps at hk
  simp only [decide_eq_true_eq] at hk
  have hne : zs.toArray[j]! ≠ zs.toArray[j - 1]! := hk.resolve_left (by omega)
  have hp := List.pairwise_iff_getElem.1 h
  have hget : ∀ (m : Nat) (h : m < zs.length), zs.toArray[m]! = zs[m] := fun m h => by simp [h]
  rw [hget j hj', hget (j - 1) (by omega)] at hne
  rw [hget i hi', hget j hj']
  have h1 : zs[j - 1] < zs[j] := by
    refine List.not_le.1 fun hle => hne ?_
    exact List.le_antisymm hle (hp (j - 1) j (by omega) hj' (by omega))
  by_cases e : i = j - 1
  · subst e; exact h1
  · exact List.lt_of_le_of_lt (hp i (j - 1) hi' (by omega) (by omega)) h1
theorem sorted_le (l : List (List UInt8)) : (l.mergeSort fun x y => decide (x ≤ y)).Pairwise (fun x y => x ≤ y) := by
  have := List.pairwise_mergeSort (le := fun x y : List UInt8 => decide (x ≤ y)) (fun a b c h1 h2 => by simp only [decide_eq_true_eq] at *; exact List.le_trans h1 h2)
    (fun a b => by simp only [Bool.or_eq_true, decide_eq_true_eq]; exact List.le_total a b) l
  exact this.imp fun h => by simpa using h
theorem sortU_rising (l : List (List UInt8)) : Rising (sortU l) := compact_rising _ (sorted_le l)
theorem mem_sortU (l : List (List UInt8)) (x : List UInt8) : x ∈ sortU l ↔ x ∈ l := by
  unfold sortU
  rw [mem_compact]
  exact (List.mergeSort_perm l _).mem_iff
theorem sortU_ext {a b : List (List UInt8)} (h : ∀ x, x ∈ a ↔ x ∈ b) : sortU a = sortU b :=
  rising_ext (sortU_rising a) (sortU_rising b) fun x => by rw [mem_sortU, mem_sortU]; exact h x
theorem sortU_of_rising {l : List (List UInt8)} (h : Rising l) : sortU l = l := rising_ext (sortU_rising l) h fun x => mem_sortU l x
theorem sortU_twice (l : List (List UInt8)) : sortU (sortU l) = sortU l := sortU_of_rising (sortU_rising l)
theorem sortU_length (l : List (List UInt8)) : (sortU l).length ≤ l.length := by
  unfold sortU Lib.compact Lib.compactUpTo
  rw [List.length_map]
  refine Nat.le_trans (List.length_filter_le _ _) ?_
  simp
/-- One more text, put where it belongs. -/
def insAt (o : List (List UInt8)) (k : Nat) (x : List UInt8) : List (List UInt8) := if (o.take k).any (· == x) then o else o.take k ++ [x] ++ o.drop k
theorem insAt_rising {o : List (List UInt8)} {k : Nat} {x : List UInt8} (ho : Rising o) (h1 : ∀ y ∈ o.take k, y ≤ x) (h2 : ∀ y ∈ o.drop k, x < y) : Rising (insAt o k x) ∧ ∀ y, y ∈ insAt o k x ↔ y = x ∨ y ∈ o := by
  unfold insAt
  by_cases hx : (o.take k).any (· == x) = true
  · rw [if_pos hx]
    obtain ⟨y, hy, he⟩ := List.any_eq_true.1 hx
    have : x ∈ o := by rw [← (beq_iff_eq.1 he)]; exact List.mem_of_mem_take hy
    exact ⟨ho, fun y => ⟨.inr, fun h => h.elim (fun e => e ▸ this) id⟩⟩
  · rw [if_neg hx]
    have hne : ∀ y ∈ o.take k, y < x := fun y hy => by
      refine List.not_le.1 fun hle => hx (List.any_eq_true.2 ⟨y, hy, beq_iff_eq.2 (List.le_antisymm (h1 y hy) hle)⟩)
    have ho' : Rising (o.take k ++ o.drop k) := by rw [List.take_append_drop]; exact ho
    obtain ⟨p1, p2, p3⟩ := List.pairwise_append.1 ho'
    refine ⟨?_, fun y => ?_⟩
    · refine List.pairwise_append.2 ⟨List.pairwise_append.2 ⟨p1, List.pairwise_singleton _ _, fun a ha b hb => by rw [List.mem_singleton.1 hb]; exact hne a ha⟩, p2, fun a ha b hb => ?_⟩
      rcases List.mem_append.1 ha with h | h
      · exact p3 a h b hb
      · rw [List.mem_singleton.1 h]; exact h2 b hb
    · rw [List.mem_append, List.mem_append, List.mem_singleton]
      constructor
      · rintro ((h | h) | h)
        · exact .inr (List.mem_of_mem_take h)
        · exact .inl h
        · exact .inr (List.mem_of_mem_drop h)
      · rintro (h | h)
        · exact .inl (.inr h)
        · rw [← List.take_append_drop k o, List.mem_append] at h
          exact h.elim (fun h => .inl (.inl h)) .inr
end Go.Proofs.YtohdgjmmekgcmaaDoor

/-
  Slices of elements of any number of cells: what is read (Vec), what is appended to (GrowB); append of the one to the other; clones.
-/
namespace Go.Proofs.YtohdgjmmekgcmaaDoor
open Go.RowKit Go.Shelf

/-- v is a slice of n elements of s cells each, which holds the cells xs. -/
def Vec (W : World) (v : Value) (n s : Nat) (xs : List Value) : Prop :=
  xs.length = n * s ∧ ∃ a cap, v = .slice a n cap ∧ n ≤ cap ∧ (0 < n → ∃ b off, a = some ⟨b, off, none⟩ ∧ b < W.heap.size ∧ ∀ j y, xs[j]? = some y → W.cell? ⟨b, off + j, none⟩ = some y)
theorem Vec.keeps {W W' : World} {v : Value} {n s : Nat} {xs : List Value} (h : Vec W v n s xs) (hk : ∀ b, b < W.heap.size → b < W'.heap.size ∧ W'.heap[b]? = W.heap[b]?) : Vec W' v n s xs := by
  obtain ⟨hl, a, cap, hv, hc, hj⟩ := h
  refine ⟨hl, a, cap, hv, hc, fun h0 => ?_⟩
  obtain ⟨b, off, ha, hb, hx⟩ := hj h0
  exact ⟨b, off, ha, (hk b hb).1, fun j y hy => (World.cell?_of_block (a := ⟨b, off + j, none⟩) (hk b hb).2).trans (hx j y hy)⟩
theorem Vec.below {W W' : World} {v : Value} {n s : Nat} {xs : List Value} (h : Vec W v n s xs) (hb : Below W.heap.size W W') : Vec W' v n s xs :=
  h.keeps fun b hl => ⟨Nat.lt_of_lt_of_le hl hb.size, hb.block b hl⟩
theorem Vec.slice {W : World} {v : Value} {n s : Nat} {xs : List Value} (h : Vec W v n s xs) : ∃ a cap, v = .slice a n cap := by
  obtain ⟨-, a, cap, hv, -⟩ := h
  exact ⟨a, cap, hv⟩
theorem vec_of_own {W : World} {base : Nat} {e : TypeId} {v : Value} {n s : Nat} {xs : List Value} (h : W.ownsRow base e s v n xs) : Vec W v n s xs := by
  refine ⟨h.1, ?_⟩
  rcases h.2 with ⟨rfl, h0⟩ | ⟨g, cap, cur, rfl, hb, hg, hc, hm, hs, ht⟩
  · exact ⟨none, 0, by rw [h0], by omega, fun h => by omega⟩
  · refine ⟨_, cap, rfl, hc, fun _ => ⟨g, 0, rfl, (Array.getElem?_eq_some_iff.1 hg).1, fun j y hy => ?_⟩⟩
    have hj : j < n * s := by rw [← h.1]; exact (List.getElem?_eq_some_iff.1 hy).1
    rw [Nat.zero_add, World.ownsRow.cellAt h j hj]
    exact hy
/-- A slice to which one appends: empty, with no room; or a row that lies from B on. -/
def GrowB (W : World) (B : Nat) (e : TypeId) (s : Nat) (v : Value) (n : Nat) (xs : List Value) : Prop :=
  (n = 0 ∧ xs = [] ∧ ∃ ad, v = .slice (some ad) 0 0) ∨ W.ownsRow B e s v n xs
theorem GrowB.vec {W : World} {B : Nat} {e : TypeId} {s : Nat} {v : Value} {n : Nat} {xs : List Value} (h : GrowB W B e s v n xs) : Vec W v n s xs := by
  rcases h with ⟨rfl, rfl, ad, rfl⟩ | h
  · exact ⟨by simp, some ad, 0, rfl, Nat.le_refl _, fun h => absurd h (by simp)⟩
  · exact vec_of_own h
theorem GrowB.keeps {W W' : World} {B : Nat} {e : TypeId} {s : Nat} {v : Value} {n : Nat} {xs : List Value} (h : GrowB W B e s v n xs) (hk : ∀ b, b < W.heap.size → W'.heap[b]? = W.heap[b]?) : GrowB W' B e s v n xs := by
  rcases h with h | ⟨hl, h⟩
  · exact .inl h
  · refine .inr ⟨hl, h.imp id fun ⟨g, cap, cur, hv, hb, hg, hr⟩ => ⟨g, cap, cur, hv, hb, ?_, hr⟩⟩
    rw [hk g (Array.getElem?_eq_some_iff.1 hg).1]
    exact hg
theorem GrowB.below {W W' : World} {B : Nat} {e : TypeId} {s : Nat} {v : Value} {n : Nat} {xs : List Value} (h : GrowB W B e s v n xs) (hb : Below W.heap.size W W') : GrowB W' B e s v n xs := h.keeps fun b hl => hb.block b hl
theorem GrowB.slice {W : World} {B : Nat} {e : TypeId} {s : Nat} {v : Value} {n : Nat} {xs : List Value} (h : GrowB W B e s v n xs) : ∃ a cap, v = .slice a n cap := h.vec.slice
theorem GrowB.low {W : World} {B B' : Nat} {e : TypeId} {s : Nat} {v : Value} {n : Nat} {xs : List Value} (h : GrowB W B e s v n xs) (hb : B' ≤ B) : GrowB W B' e s v n xs :=
  h.imp id fun h => ⟨h.1, h.2.imp id fun ⟨g, cap, cur, h1, h2, h3⟩ => ⟨g, cap, cur, h1, Nat.le_trans hb h2, h3⟩⟩
theorem GrowB.new (W : World) (B : Nat) (e : TypeId) (s : Nat) : GrowB W B e s (.slice none 0 0) 0 [] := .inr (World.ownsRow_nil _ _ _ _)
/-- What an append does: a row of both; of what there was only the old row's room is written. -/
theorem vec_append_run {P : Program} (w : World) (t ty e : TypeId) (i : TypeInfo) (z : Value) (s bytes : Nat) (h1 : P.underlying t = some (.slice e)) (h2 : P.info? e = some i) (h3 : i.zero = some z) (h4 : i.size = s) (h5 : i.bytes = bytes) (h6 : z.cells.size = s) (h7 : 0 < s)
    (B : Nat) (v u : Value) (n m : Nat) (xs ys : List Value) (hG : GrowB w B e s v n xs) (hV : Vec w u m s ys) (one : ∀ u ∈ ys, u.oneCell' = true) (hl : n + m ≤ 1000000) (hby : (n + m) * bytes ≤ 140737488355328) (hB : B ≤ w.heap.size) :
    ∃ v' w', (Builtin.append_ #[t, t] ty #[v, u]).run P w = .ok v' w' ∧ GrowB w' B e s v' (n + m) (xs ++ ys) ∧ Below B w w' ∧ w.grownBy w' v.ownBlock ∧ (∀ g, v'.ownBlock = some g → v.ownBlock = some g ∨ g = w.heap.size) ∧ (w.ownsRow B e s v n xs → w'.ownsRow B e s v' (n + m) (xs ++ ys)) := by
  obtain ⟨hlen, ad, cap, rfl, hlc, hc⟩ := hV
  rcases Nat.eq_zero_or_pos m with h0 | h0
  · subst h0
    have hys : ys = [] := List.eq_nil_of_length_eq_zero (by rw [hlen, Nat.zero_mul])
    subst hys
    have hrun : (Builtin.append_ #[t, t] ty #[v, .slice ad 0 cap]).run P w = .ok v w := by
      rcases hG with ⟨_, _, g, rfl⟩ | hG
      · cases ad <;> simp [Builtin.append_, run_underlying h1, sizeOf, typeInfo, h2, Builtin.lenOf, Builtin.firstCells, storeCells, loadCells, loadCellsFrom]
      · rcases hG.2 with ⟨rfl, e0⟩ | ⟨g, c, cur, rfl, _, _, hnc, _⟩
        · cases ad <;> simp [Builtin.append_, run_underlying h1, sizeOf, typeInfo, h2, Builtin.lenOf, Builtin.firstCells, loadCells, loadCellsFrom]
        · cases ad <;> simp [Builtin.append_, run_underlying h1, sizeOf, typeInfo, h2, Builtin.lenOf, Builtin.firstCells, hnc, storeCells, loadCells, loadCellsFrom]
    exact ⟨v, w, hrun, by rw [List.append_nil]; exact hG, Below.refl _ _, World.grownBy.refl w _, fun g h => .inl h, fun h => by rw [List.append_nil]; exact h⟩
  · obtain ⟨b, off, rfl, _, hcell⟩ := hc h0
    have hcells : ∀ j y, ys[j]? = some y → w.cell? ((⟨b, off, none⟩ : Addr).add j) = some y := fun j y hy => by
      have e1 : (⟨b, off, none⟩ : Addr).add j = ⟨b, off + j, none⟩ := by
        unfold Addr.add; split <;> simp_all
      rw [e1]
      exact hcell j y hy
    have key : ∀ (v : Value), w.ownsRow B e s v n xs → ∃ v' w', (Builtin.append_ #[t, t] ty #[v, .slice (some ⟨b, off, none⟩) m cap]).run P w = .ok v' w' ∧ w'.ownsRow B e s v' (n + m) (xs ++ ys) ∧ Below B w w' ∧ w.grownBy w' v.ownBlock ∧ ∀ g, v'.ownBlock = some g → v.ownBlock = some g ∨ g = w.heap.size := fun v hown => by
      obtain ⟨v', w', hrun, r1, r2, _, r3⟩ := run_append_own_at (P := P) w B t ty e i z s bytes h1 h2 h3 h4 h5 h6 h7 v n xs hown ⟨b, off, none⟩ m cap ys hlen hcells one (by unfold maxLen; omega) hby hB
      exact ⟨v', w', hrun, r1, (Below.refl B w).grown r2 hB fun k e => (hown.lt k e).1, r2, fun g h => r3.elim (fun e => .inl (by rw [← e]; exact h)) fun e => .inr (by rw [h] at e; exact Option.some.inj e)⟩
    rcases hG with ⟨rfl, rfl, g, rfl⟩ | hG
    · have hby2 : m * bytes ≤ 140737488355328 := by rw [Nat.zero_add] at hby; exact hby
      have hr := run_append_grow (P := P) w t ty e i z h1 h2 h3 g 0 0 [] (by simp) (by simp) ⟨b, off, none⟩ m cap ys (by rw [hlen, h4]) hcells (by omega) (by omega) (by rw [h5]; exact growslice_fits (by omega) hby)
      have hr0 := run_append_nil (P := P) w t ty e i z h1 h2 h3 ⟨b, off, none⟩ m cap ys (by rw [hlen, h4]) hcells (by omega) (by omega) (by rw [h5]; exact Nat.le_trans hby2 (by decide))
      obtain ⟨v', w', hrun, r1, r2, r3, r4⟩ := key (.slice none 0 0) (World.ownsRow_nil _ _ _ _)
      refine ⟨v', w', ?_, .inr r1, r2, ⟨r3.os, r3.tape, r3.output, r3.size, fun k hk _ => r3.block k hk (by simp [Value.ownBlock])⟩, fun g h => (r4 g h).imp (fun h => by simp [Value.ownBlock] at h) id, fun _ => r1⟩
      rw [hr, ← hrun, hr0]
      simp
    · obtain ⟨v', w', hrun, r1, r2, r3, r4⟩ := key v hG
      exact ⟨v', w', hrun, .inr r1, r2, r3, r4, fun _ => r1⟩
/-- At an append. -/
theorem wpList_append_vec {P : Program} {w : World} {ops : Array Oper} {rest : List Oper} {o : Oper} {a : Act} {Q : Exit → Act → World → Prop} (hgd : o.guard = none) (sx x : Operand) (t : TypeId)
    (ho : o.op = .call { callee := .builtin .append, args := #[sx, x], argTypes := #[t, t] }) (e : TypeId) (i : TypeInfo) (z : Value) (s bytes : Nat) (h1 : P.underlying t = some (.slice e)) (h2 : P.info? e = some i) (h3 : i.zero = some z) (h4 : i.size = s) (h5 : i.bytes = bytes) (h6 : z.cells.size = s) (h7 : 0 < s)
    (B : Nat) (v u : Value) (n m : Nat) (xs ys : List Value) (hv : a.eval sx = v) (hu : a.eval x = u) (hG : GrowB w B e s v n xs) (hV : Vec w u m s ys) (one : ∀ u ∈ ys, u.oneCell' = true) (hl : n + m ≤ 1000000) (hby : (n + m) * bytes ≤ 140737488355328) (hB : B ≤ w.heap.size)
    (h : ∀ v' w', GrowB w' B e s v' (n + m) (xs ++ ys) → Below B w w' → (w.grownBy w' v.ownBlock ∧ (∀ g, v'.ownBlock = some g → v.ownBlock = some g ∨ g = w.heap.size) ∧ (w.ownsRow B e s v n xs → w'.ownsRow B e s v' (n + m) (xs ++ ys))) → wpList P ops Q rest (a.put o.dst v') w') : wpList P ops Q (o :: rest) a w :=
  wpList_plain hgd fun K hK => by
    obtain ⟨v', w', hr, r1, r2, r3⟩ := vec_append_run (P := P) w t o.type e i z s bytes h1 h2 h3 h4 h5 h6 h7 B v u n m xs ys hG hV one hl hby hB
    unfold Oper.wp execOp
    simp only [ho, resolve, invoke, builtin, Sem.run_bind, Sem.run_pure, Result.andThen_ok, List.map_toArray, List.map_cons, List.map_nil, hv, hu, hr]
    exact hK _ _ (h v' w' r1 r2 r3)
/-- .. under a condition that holds. -/
theorem wpList_append_vecW {P : Program} {w : World} {ops : Array Oper} {rest : List Oper} {o : Oper} {a : Act} {Q : Exit → Act → World → Prop} (hwt : Region.wanted o (yielded ops a.tmps) = true) (sx x : Operand) (t : TypeId)
    (ho : o.op = .call { callee := .builtin .append, args := #[sx, x], argTypes := #[t, t] }) (e : TypeId) (i : TypeInfo) (z : Value) (s bytes : Nat) (h1 : P.underlying t = some (.slice e)) (h2 : P.info? e = some i) (h3 : i.zero = some z) (h4 : i.size = s) (h5 : i.bytes = bytes) (h6 : z.cells.size = s) (h7 : 0 < s)
    (B : Nat) (v u : Value) (n m : Nat) (xs ys : List Value) (hv : a.eval sx = v) (hu : a.eval x = u) (hG : GrowB w B e s v n xs) (hV : Vec w u m s ys) (one : ∀ u ∈ ys, u.oneCell' = true) (hl : n + m ≤ 1000000) (hby : (n + m) * bytes ≤ 140737488355328) (hB : B ≤ w.heap.size)
    (h : ∀ v' w', GrowB w' B e s v' (n + m) (xs ++ ys) → Below B w w' → (w.grownBy w' v.ownBlock ∧ (∀ g, v'.ownBlock = some g → v.ownBlock = some g ∨ g = w.heap.size) ∧ (w.ownsRow B e s v n xs → w'.ownsRow B e s v' (n + m) (xs ++ ys))) → wpList P ops Q rest (a.put o.dst v') w') : wpList P ops Q (o :: rest) a w :=
  BigFrame.wpList_want hwt fun K hK => by
    obtain ⟨v', w', hr, r1, r2, r3⟩ := vec_append_run (P := P) w t o.type e i z s bytes h1 h2 h3 h4 h5 h6 h7 B v u n m xs ys hG hV one hl hby hB
    unfold Oper.wp execOp
    simp only [ho, resolve, invoke, builtin, Sem.run_bind, Sem.run_pure, Result.andThen_ok, List.map_toArray, List.map_cons, List.map_nil, hv, hu, hr]
    exact hK _ _ (h v' w' r1 r2 r3)
/-- The cells of a list whose elements have so many each. -/
def flatC {α : Type} (f : α → List Value) (l : List α) : List Value := l.flatMap f
theorem flatC_length {α : Type} {f : α → List Value} {s : Nat} (hf : ∀ x, (f x).length = s) : ∀ l : List α, (flatC f l).length = l.length * s
  | [] => by simp [flatC]
  | x :: l => by
    have h := flatC_length hf l
    unfold flatC at h ⊢
    rw [List.flatMap_cons, List.length_append, h, hf, List.length_cons, Nat.add_mul, Nat.one_mul, Nat.add_comm]
theorem flatC_append {α : Type} (f : α → List Value) (l m : List α) : flatC f (l ++ m) = flatC f l ++ flatC f m := by simp [flatC, List.flatMap_append]
theorem flatC_one {α : Type} (f : α → List Value) (x : α) : flatC f [x] = f x := by simp [flatC]
theorem flatC_at {α : Type} {f : α → List Value} {s : Nat} (hf : ∀ x, (f x).length = s) : ∀ (l : List α) (k : Nat) (hk : k < l.length) (j : Nat), j < s → (flatC f l)[k * s + j]? = (f l[k])[j]?
  | x :: l, 0, _, j, hj => by
    show (flatC f (x :: l))[0 * s + j]? = (f x)[j]?
    rw [Nat.zero_mul, Nat.zero_add]
    unfold flatC
    rw [List.flatMap_cons, List.getElem?_append_left (by rw [hf]; exact hj)]
  | x :: l, k + 1, hk, j, hj => by
    have h := flatC_at hf l k (by simpa using hk) j hj
    show (flatC f (x :: l))[(k + 1) * s + j]? = (f (l[k]'(by simpa using hk)))[j]?
    rw [← h]
    unfold flatC
    rw [List.flatMap_cons, List.getElem?_append_right (by rw [hf, Nat.add_mul]; omega), hf]
    congr 1
    rw [Nat.add_mul]
    omega
theorem flatC_all {α : Type} {f : α → List Value} {p : Value → Prop} (hf : ∀ x, ∀ u ∈ f x, p u) (l : List α) : ∀ u ∈ flatC f l, p u := fun u hu => by
  obtain ⟨x, _, hx⟩ := List.mem_flatMap.1 hu
  exact hf x u hx
/-- An element of a list in memory, cell by cell. -/
theorem Vec.at_ {α : Type} {f : α → List Value} {s : Nat} (hf : ∀ x, (f x).length = s) {W : World} {v : Value} {l : List α} (h : Vec W v l.length s (flatC f l)) (k : Nat) (hk : k < l.length) :
    ∃ b off cap, v = .slice (some ⟨b, off, none⟩) l.length cap ∧ b < W.heap.size ∧ W.rangeAt b (off + k * s) (f l[k]) := by
  obtain ⟨-, a, cap, hv, -, hj⟩ := h
  obtain ⟨b, off, ha, hb, hx⟩ := hj (by omega)
  refine ⟨b, off, cap, by rw [hv, ha], hb, fun j y hy => ?_⟩
  have hjs : j < s := by rw [← hf l[k]]; exact (List.getElem?_eq_some_iff.1 hy).1
  rw [Nat.add_assoc]
  exact hx _ _ ((flatC_at hf l k hk j hjs).trans hy)
theorem Vec.of_at {α : Type} {f : α → List Value} {s : Nat} (hf : ∀ x, (f x).length = s) (h0 : 0 < s) {W : World} {a : Option Addr} {cap : Nat} {l : List α} (hc : l.length ≤ cap) (h : 0 < l.length → ∃ b off, a = some ⟨b, off, none⟩ ∧ b < W.heap.size ∧ ∀ (k : Nat) (hk : k < l.length), W.rangeAt b (off + k * s) (f l[k])) :
    Vec W (.slice a l.length cap) l.length s (flatC f l) := by
  refine ⟨flatC_length hf l, a, cap, rfl, hc, fun hp => ?_⟩
  obtain ⟨b, off, ha, hb, hr⟩ := h hp
  refine ⟨b, off, ha, hb, fun j y hy => ?_⟩
  have hj : j < l.length * s := by rw [← flatC_length hf l]; exact (List.getElem?_eq_some_iff.1 hy).1
  have hk : j / s < l.length := Nat.div_lt_of_lt_mul (by rw [Nat.mul_comm]; exact hj)
  have e := flatC_at hf l (j / s) hk (j % s) (Nat.mod_lt _ h0)
  rw [Nat.div_add_mod' j s, hy] at e
  have := hr (j / s) hk (j % s) y e.symm
  rw [Nat.add_assoc, Nat.div_add_mod'] at this
  exact this
end Go.Proofs.YtohdgjmmekgcmaaDoor

/-
  label: slices of texts; the document's Texts.
-/
namespace Go.Proofs.YtohdgjmmekgcmaaDoor
open Go.RowKit Go.Shelf Go.Sort

/-- A slice of texts. -/
abbrev TxS (W : World) (v : Value) (l : List (List UInt8)) : Prop := Vec W v l.length 1 (l.map encStr)
theorem TxS.cell {W : World} {v : Value} {l : List (List UInt8)} (h : TxS W v l) : ∃ (a : Option Addr) (cap b off : Nat), v = .slice a l.length cap ∧ l.length ≤ cap ∧ (0 < l.length → a = some ⟨b, off, none⟩) ∧ (0 < l.length → b < W.heap.size ∧ ∀ j, j < l.length → W.cell? ⟨b, off + j, none⟩ = some (encStr (l[j]?.getD []))) := by
  obtain ⟨-, a, cap, rfl, hc, hj⟩ := h
  by_cases h0 : 0 < l.length
  · obtain ⟨b, off, rfl, hb, hx⟩ := hj h0
    exact ⟨_, cap, b, off, rfl, hc, fun _ => rfl, fun _ => ⟨hb, fun j hl => hx j _ (by simp [hl])⟩⟩
  · exact ⟨a, cap, 0, 0, rfl, hc, fun h => absurd h h0, fun h => absurd h h0⟩
theorem txs_same_of (xs ys : List (List UInt8)) (hl : xs.length = ys.length) (h : ∀ j, j < xs.length → xs[j]?.getD [] = ys[j]?.getD []) : decide (xs = ys) = true := by
  refine decide_eq_true (List.ext_getElem hl fun j h1 h2 => ?_)
  have := h j h1
  simpa [h1, h2] using this
theorem txs_ne_of (xs ys : List (List UInt8)) (k : Nat) (h : xs[k]?.getD [] ≠ ys[k]?.getD []) : decide (xs = ys) = false := decide_eq_false fun e => h (by rw [e])
set_option maxRecDepth 100000 in
set_option maxHeartbeats 2000000 in
theorem refTexts_any (v u : Value) (xs ys : List (List UInt8)) (hx : xs.length ≤ 1000000) (_hy : ys.length ≤ 1000000) (w : World) (hv : TxS w v xs) (hu : TxS w u ys) :
    Calls Tryd.prog 35 #[v, u] w fun e w' => e = .returned (.bool (decide (xs = ys))) ∧ Below w.heap.size w w' := by
  obtain ⟨a, cap, b, off, rfl, hlc, ha, hc⟩ := hv.cell
  obtain ⟨a', cap', b', off', rfl, hlc', ha', hc'⟩ := hu.cell
  clear hv hu
  have HC := Lib.hid hc; clear hc
  have HC' := Lib.hid hc'; clear hc'
  by_cases hl : xs.length = ys.length
  · have HL := Lib.hid hl
    have hne : ((xs.length : Int) != (xs.length : Int)) = false := by simp
    rw [← hl] at ha' hlc' ⊢
    clear hl hne
    generalize hn : xs.length = n at *
    go_enter Tryd.func35, Tryd.ntmps35
    go_wp2
    go_loopw [5] (fun i wr => ∃ k : Nat, k ≤ n ∧ i = .int .i64 k ∧ (∀ j, j < k → xs[j]?.getD [] = ys[j]?.getD []) ∧ Below w.heap.size w wr) (fun i _ => n - (intOf i).toNat)
    case atStart => exact ⟨0, Nat.zero_le _, rfl, fun j h => by omega, Below.refl _ _⟩
    case round =>
      obtain ⟨k, hk, rfl, heq, hb⟩ := hrel
      have HE := Lib.hid heq; clear heq
      by_cases hlt : k < n
      · obtain rfl := ha (by omega)
        obtain rfl := ha' (by omega)
        have c1 : wr.cell? ⟨b, off + k, none⟩ = some (encStr (xs[k]?.getD [])) := (hb.cell (p := ⟨b, off + k, none⟩) (HC.out (by omega)).1).trans ((HC.out (by omega)).2 k (by omega))
        have c2 : wr.cell? ⟨b', off' + k, none⟩ = some (encStr (ys[k]?.getD [])) := (hb.cell (p := ⟨b', off' + k, none⟩) (HC'.out (by rw [← HL.out]; omega)).1).trans ((HC'.out (by rw [← HL.out]; omega)).2 k (by rw [← HL.out]; omega))
        have hn' : ((k : Nat) : Int) < (n : Int) := by omega
        obtain ⟨x, hx1⟩ : ∃ x, x = xs[k]?.getD [] := ⟨_, rfl⟩
        obtain ⟨y, hy1⟩ : ∃ y, y = ys[k]?.getD [] := ⟨_, rfl⟩
        rw [← hx1] at c1
        rw [← hy1] at c2
        have HX1 := Lib.hid hx1; clear hx1
        have HY1 := Lib.hid hy1; clear hy1
        by_cases hxy : x = y
        · have HX : Hid (xs[k]?.getD [] = ys[k]?.getD []) := show _ = _ from HX1.out.symm.trans (hxy.trans HY1.out)
          subst hxy
          go_wp2
          go_quiet (fail)
          go_wp2
          go_roundw
          case rel => exact ⟨k + 1, by omega, by go_num, fun j hj => by
            by_cases hjk : j = k
            · rw [hjk]; exact HX.out
            · exact HE.out j (by omega), below_drewN hb _⟩
          case measure => simp [intOf]; omega
        · have hne : (x == y) = false := by simp [hxy]
          have HX := Lib.hid (txs_ne_of xs ys k (by rw [← HX1.out, ← HY1.out]; exact hxy))
          clear hxy
          go_wp2
          go_quiet (fail)
          go_wp2
          go_ret
          exact ⟨ret_bool (by rw [HX.out]), below_drewN hb _⟩
      · go_wp2
        go_ret
        exact ⟨ret_bool (by rw [txs_same_of xs ys (by rw [hn]; exact HL.out) (fun j hj => HE.out j (by omega))]), hb⟩
  · have hne : ((xs.length : Int) != (ys.length : Int)) = true := by rw [bne_iff_ne]; omega
    have HX := Lib.hid (show decide (xs = ys) = false from decide_eq_false fun e => hl (by rw [e]))
    clear hl
    go_enter Tryd.func35, Tryd.ntmps35
    go_wp2
    go_ret
    exact ⟨ret_bool (by rw [HX.out]), Below.refl _ _⟩
end Go.Proofs.YtohdgjmmekgcmaaDoor

/-
  label: slices of texts cut; an append in a drawn region.
-/
namespace Go.Proofs.YtohdgjmmekgcmaaDoor
open Go.RowKit Go.Shelf Go.Sort

theorem cut_toV {P : Program} {t e : TypeId} {i : TypeInfo} (h1 : P.underlying t = some (.slice e)) (h2 : P.info? e = some i) (h3 : i.size = 1) {W : World} {v : Value} {n : Nat} {xs : List Value} (hs : Vec W v n 1 xs) (k : Nat) (hk : k ≤ n) :
    ∃ r, (∀ w, (Instr.sliceAt t v none (some (.int .i64 k)) none).run P w = .ok r w) ∧ (∀ W', Vec W' v n 1 xs → Vec W' r k 1 (xs.take k)) := by
  obtain ⟨hl, a, cap, rfl, hlc, -⟩ := hs
  have he : P.elem t = e := by simp [Program.elem, h1]
  have ht : P.underlying t = some (.slice (P.elem t)) := by rw [he]; exact h1
  refine ⟨.slice a k cap, fun w => ?_, fun W' hs' => ?_⟩
  · rw [run_sliceAt_slice w t _ _ _ _ ht, run_slice_h w t a n cap ht .i64 (k : Int) (by omega) (by omega), he]
    simp [sizeOf, typeInfo, h2, h3, sliced, Addr.add, Result.andThen]
  · obtain ⟨-, a', c', e', hl', hc⟩ := hs'
    simp only [Value.slice.injEq] at e'
    obtain ⟨rfl, _, rfl⟩ := e'
    refine ⟨by rw [List.length_take]; omega, a, cap, rfl, by omega, fun h0 => ?_⟩
    obtain ⟨b, off, h1, h2, h3⟩ := hc (by omega)
    refine ⟨b, off, h1, h2, fun j y hj => h3 j y ?_⟩
    have hjk : j < k := by
      have := (List.getElem?_eq_some_iff.1 hj).1
      rw [List.length_take] at this; omega
    rwa [List.getElem?_take_of_lt hjk] at hj
theorem cut_fromV {P : Program} {t e : TypeId} {i : TypeInfo} (h1 : P.underlying t = some (.slice e)) (h2 : P.info? e = some i) (h3 : i.size = 1) {W : World} {v : Value} {n : Nat} {xs : List Value} (hs : Vec W v n 1 xs) (k : Nat) (hk : k ≤ n) :
    ∃ r, (∀ w, (Instr.sliceAt t v (some (.int .i64 k)) none none).run P w = .ok r w) ∧ (∀ W', Vec W' v n 1 xs → Vec W' r (n - k) 1 (xs.drop k)) := by
  obtain ⟨hl, a, cap, rfl, hlc, -⟩ := hs
  have he : P.elem t = e := by simp [Program.elem, h1]
  have ht : P.underlying t = some (.slice (P.elem t)) := by rw [he]; exact h1
  refine ⟨.slice (if cap = k then a else a.map (·.add (k * 1))) (n - k) (cap - k), fun w => ?_, fun W' hs' => ?_⟩
  · rw [run_sliceAt_slice w t _ _ _ _ ht, run_slice_l w t a n cap ht .i64 (k : Int) (by omega) (by omega), he]
    simp [sizeOf, typeInfo, h2, h3, sliced, Result.andThen]
  · obtain ⟨-, a', c', e', hl', hc⟩ := hs'
    simp only [Value.slice.injEq] at e'
    obtain ⟨rfl, _, rfl⟩ := e'
    refine ⟨by rw [List.length_drop]; omega, _, cap - k, rfl, by omega, fun h0 => ?_⟩
    obtain ⟨b, off, rfl, h2, h3⟩ := hc (by omega)
    refine ⟨b, off + k, ?_, h2, fun j y hj => ?_⟩
    · rw [if_neg (by omega)]
      simp only [Option.map_some, Addr.add, Nat.mul_one]
      split <;> simp_all
    · rw [Nat.add_assoc]
      refine h3 (k + j) y ?_
      rwa [List.getElem?_drop] at hj
/-- An append, at a step of a drawn region. -/
theorem wp_append_vec {P : Program} {w : World} {o : Oper} {a : Act} {K : Act → World → Prop} {Q : Exit → Act → World → Prop} (sx x : Operand) (t : TypeId)
    (ho : o.op = .call { callee := .builtin .append, args := #[sx, x], argTypes := #[t, t] }) (e : TypeId) (i : TypeInfo) (z : Value) (s bytes : Nat) (h1 : P.underlying t = some (.slice e)) (h2 : P.info? e = some i) (h3 : i.zero = some z) (h4 : i.size = s) (h5 : i.bytes = bytes) (h6 : z.cells.size = s) (h7 : 0 < s)
    (B : Nat) (v u : Value) (n m : Nat) (xs ys : List Value) (hv : a.eval sx = v) (hu : a.eval x = u) (hG : GrowB w B e s v n xs) (hV : Vec w u m s ys) (one : ∀ u ∈ ys, u.oneCell' = true) (hl : n + m ≤ 1000000) (hby : (n + m) * bytes ≤ 140737488355328) (hB : B ≤ w.heap.size)
    (h : ∀ v' w', GrowB w' B e s v' (n + m) (xs ++ ys) → Below B w w' → K (a.put o.dst v') w') : Oper.wp P o a w K Q := by
  obtain ⟨v', w', hr, r1, r2, r3⟩ := vec_append_run (P := P) w t o.type e i z s bytes h1 h2 h3 h4 h5 h6 h7 B v u n m xs ys hG hV one hl hby hB
  unfold Oper.wp execOp
  simp only [ho, resolve, invoke, builtin, Sem.run_bind, Sem.run_pure, Result.andThen_ok, List.map_toArray, List.map_cons, List.map_nil, hv, hu, hr]
  exact h v' w' r1 r2
theorem infoStr : (Tryd.prog.info? 9).map (fun i => (i.zero, i.size, i.bytes)) = some (some (.string { data := #[] }), 1, 16) := by kernel_rfl
theorem one_strs (l : List (List UInt8)) : ∀ u ∈ l.map encStr, u.oneCell' = true := by
  intro u hu
  obtain ⟨x, -, rfl⟩ := List.mem_map.1 hu
  rfl
theorem str_leq (x y : List UInt8) : (Op.bytesLess x y || x == y) = decide (x ≤ y) := by
  rw [bytesLess_eq]
  by_cases h : x = y
  · subst h
    have : x ≤ x := List.le_refl x
    simp []
  · rw [Bool.eq_iff_iff]
    simp only [Bool.or_eq_true, decide_eq_true_eq, beq_iff_eq, h, or_false]
    constructor
    · exact fun h => List.le_of_lt h
    · intro hle
      exact List.not_le.1 fun hle2 => h (List.le_antisymm hle hle2)
end Go.Proofs.YtohdgjmmekgcmaaDoor
