/-
  A region that draws its order, inside a fence, in a round too: what only reads comes first, as long as a condition on the world holds, which the operation that waits for all others need not keep.
-/
import Derived.Test.YtoaloeipgadkjaaHeld
namespace Go.Proofs.Ytoaloeipgadkjaa
open Go.RowKit Go.Shelf

section
variable {Fc : Fence} {n : Nat} {P : Program} {md : Region.Mode} {ops : Array Oper} {Q : Exit → Act → World → Prop} {m : Nat} {R : World → Prop}
/-- It only reads, and calls nothing. -/
def ReadsIf (P : Program) (ops : Array Oper) (R : World → Prop) (o : Oper) (v : Value) (a : Act) : Prop := YieldsIf P ops R o v a ∧ ∀ w, o.about P w a.eval = none
def NoDefers (ops : Array Oper) : Prop := ∀ (j : Nat) o, ops[j]? = some o → ∀ c, o.op ≠ .defer c
theorem noDefers_of {l : List Oper} (h : l.all noDefer = true) : NoDefers l.toArray := fun j o ho => noDefer_spec ((List.all_eq_true.1 h) o (List.mem_of_getElem? (by simpa using ho)))
theorem ReadsIf.wpOpIn {i : Nat} {o : Oper} {v : Value} {a : Act} (hd : NoDefers ops) (hi : ops[i]? = some o) (hy : ReadsIf P ops R o v a) {K : Act → World → Prop} {w : World} (hw : R w) (h : K (a.put o.dst v) w) : wpOpIn Fc n P ops Q i K a w := by
  have hab : ∀ f, o.about P w a.eval = some f → Fc.fn f := fun f hf => by rw [hy.2 w] at hf; cases hf
  unfold Go.wpOpIn
  simp only [hi]
  rcases hy.1 with ⟨h1, h2⟩ | ⟨h1, rfl⟩
  · rw [if_pos h1]
    unfold Oper.wpIn
    rw [Oper.semAt_plain _ _ _ (hd i o hi), h2 w hw]
    exact ⟨hab, h⟩
  · rw [if_neg (by rw [h1]; decide)]
    exact ⟨hab, h⟩
theorem wpOpIn_read {j : Nat} {oi oj : Oper} {v : Value} (hd : NoDefers ops) (hj : ops[j]? = some oj) (hap : oi.apart ops oj = true) (hsi : ∀ cs b, oi.op ≠ .select cs b) (hsj : ∀ cs b, oj.op ≠ .select cs b)
    (hQ : ∀ c a w, Q (.panic c) (a.put oi.dst v) w → Q (.panic c) a w) {K : Act → World → Prop} {a : Act} {w : World} (hy : ReadsIf P ops R oi v a) (h : wpOpIn Fc n P ops Q j K (a.put oi.dst v) w) :
    wpOpIn Fc n P ops Q j (fun a' w' => ReadsIf P ops R oi v a' ∧ K (a'.put oi.dst v) w') a w := by
  obtain ⟨h1, h2, h3⟩ := Oper.apart_spec hap
  have same : ∀ u, ReadsIf P ops R oi v (a.put oj.dst u) := fun u => ⟨hy.1.of_same (execOp_put oi hsi a oj.dst u h3) (wanted_put oi a oj.dst u h3), fun w => by rw [about_put oi w a oj.dst u h3]; exact hy.2 w⟩
  have turn : ∀ u w', K ((a.put oi.dst v).put oj.dst u) w' → ReadsIf P ops R oi v (a.put oj.dst u) ∧ K ((a.put oj.dst u).put oi.dst v) w' := fun u w' hk => ⟨same u, by rw [← Act.put_comm a v u h2]; exact hk⟩
  have hnd := hd j oj hj
  unfold Go.wpOpIn at h ⊢
  simp only [hj] at h ⊢
  rw [wanted_put oj a oi.dst v h1, about_put oj w a oi.dst v h1] at h
  by_cases hw : Region.wanted oj (yielded ops a.tmps) = true
  · rw [if_pos hw] at h ⊢
    unfold Oper.wpIn at h ⊢
    rw [about_put oj w a oi.dst v h1, Oper.semAt_plain _ _ _ hnd, execOp_put oj hsj a oi.dst v h1] at h
    rw [Oper.semAt_plain _ _ _ hnd]
    refine ⟨h.1, ?_⟩
    have h4 := h.2
    generalize hr : (execOp a.eval oj).run P w = r at *
    cases r with
    | halt x w' =>
      cases x <;> simp only [Oper.uponIn] at h4 ⊢
      case panic u => exact hQ _ _ _ h4
    | ok x w' =>
      cases x <;> simp only [Oper.uponIn] at h4 ⊢
      case value u => exact turn u w' h4
      case skip => exact turn _ w' h4
      case defer d =>
        have hyD : ReadsIf P ops R oi v { a with defers := d :: a.defers } := ⟨hy.1.of_same rfl rfl, fun w => hy.2 w⟩
        refine ⟨⟨hyD.1.of_same (execOp_put oi hsi _ oj.dst undef h3) (wanted_put oi _ oj.dst undef h3), fun w => by rw [about_put oi w _ oj.dst undef h3]; exact hyD.2 w⟩, ?_⟩
        rw [← Act.put_comm _ v undef h2, ← Act.put_defers]
        exact h4
      case enter f args =>
        refine ⟨h4.1, CallsIn.mono h4.2 fun e w'' he => ?_⟩
        cases e with
        | returned u => exact turn u w'' he
        | panicked c => exact hQ _ _ _ he
        | outgrown => exact he
      case row row args => exact ⟨h4.1, RowsIn.mono h4.2 fun u w'' he => turn u w'' he⟩
      case round l f tmps assign body =>
        refine ⟨h4.1, RoundIn.mono h4.2 fun e w'' he => ?_⟩
        cases e with
        | returned u => exact turn u w'' he
        | panicked c => exact hQ _ _ _ he
        | outgrown => exact he
  · rw [if_neg hw] at h ⊢
    exact ⟨h.1, turn _ w h.2⟩
def wpAnyN (Fc : Fence) (n : Nat) (P : Program) (md : Region.Mode) (ops : Array Oper) (Q : Exit → Act → World → Prop) (m : Nat) (R : World → Prop) : Nat → Array Bool → Act → World → Prop
  | 0, l, a, w => wpAnyIn Fc n P md ops Q 0 l a w
  | f + 1, l, a, w => (Region.ready md ops l = [] → Q .normal a w) ∧ ∀ i ∈ Region.ready md ops l, wpOpIn Fc n P ops Q i (fun a' w' => Till m R (l.setIfInBounds i true) w' ∧ wpAnyN Fc n P md ops Q m R f (l.setIfInBounds i true) a' w') a w
theorem wpAnyIn_of_N : ∀ (f : Nat) (l : Array Bool) (a : Act) (w : World), wpAnyN Fc n P md ops Q m R f l a w → wpAnyIn Fc n P md ops Q f l a w
  | 0, _, _, _, h => h
  | f + 1, _, _, _, h => ⟨h.1, fun i hi => wpOpIn_mono (fun a' w' h' => wpAnyIn_of_N f _ a' w' h'.2) (h.2 i hi)⟩
theorem wpAnyN_first {i : Nat} {oi : Oper} {v : Value} (hd : NoDefers ops) (hi : ops[i]? = some oi) (hsel : ∀ (j : Nat) (o : Oper) cs b, ops[j]? = some o → o.op ≠ .select cs b)
    (hQ : ∀ c a w, Q (.panic c) (a.put oi.dst v) w → Q (.panic c) a w) (hmi : m ≠ i) (hmw : Region.waitsFor md ops m i = true) : ∀ (f : Nat) (l : Array Bool) (a : Act) (w : World),
      (∀ j oj, ops[j]? = some oj → j ≠ i → l.getD j true = false → (∀ e ∈ oj.after, Region.binds md e = true → e.on ≠ i) → oi.apart ops oj = true) →
      i ∈ Region.ready md ops l → l.getD m true = false → ReadsIf P ops R oi v a → R w →
      wpAnyN Fc n P md ops Q m R f (l.setIfInBounds i true) (a.put oi.dst v) w → wpAnyN Fc n P md ops Q m R (f + 1) l a w
  | f, l, a, w, hfree, hr, hml, hy, hw, H => by
    have hil := (mem_ready.1 hr).1
    refine ⟨fun h => (by rw [h] at hr; cases hr), fun j hj => ?_⟩
    by_cases hji : j = i
    · subst hji
      exact hy.wpOpIn hd hi hw ⟨fun _ => hw, H⟩
    · have hrj := ready_mono hj hji
      cases f with
      | zero =>
        have h0 := H.1
        rw [h0] at hrj
        cases hrj
      | succ f =>
        obtain ⟨hjun, oj, hoj, -⟩ := mem_ready.1 hj
        have hnot := unlisted_not hj hoj hil
        have hjm : j ≠ m := by
          rintro rfl
          obtain ⟨om, hom, e, he, hb, hon⟩ := Region.waitsFor_spec hmw
          exact unlisted_not hj hom hil e he hb hon
        have h2 := wpOpIn_read hd hoj (hfree j oj hoj hji hjun hnot) (fun cs b => hsel i oi cs b hi) (fun cs b => hsel j oj cs b hoj) hQ hy (H.2 j hrj)
        refine wpOpIn_mono (fun a' w' h3 => ?_) h2
        obtain ⟨hya, hTa, hMa⟩ := h3
        have hml2 : (l.setIfInBounds j true).getD m true = false := by rw [getD_set_ne true hjm]; exact hml
        have hw2 : R w' := hTa (by rw [getD_set_ne true hjm, getD_set_ne true (Ne.symm hmi)]; exact hml)
        refine ⟨fun _ => hw2, wpAnyN_first hd hi hsel hQ hmi hmw f (l.setIfInBounds j true) a' w' (fun k ok hk hki hku hno => ?_) (ready_mono hr (Ne.symm hji)) hml2 hya hw2 ?_⟩
        · exact hfree k ok hk hki (getD_set_true hku) hno
        · rw [Array.setIfInBounds_comm _ _ hji]; exact hMa
theorem wpAnyN_take {i : Nat} {oi : Oper} {v : Value} {f : Nat} {l : Array Bool} {a : Act} {w : World} (hd : NoDefers ops) (hi : ops[i]? = some oi) (hs : Region.noSelect ops = true)
    (hc : (Region.free md ops l i && (Region.ready md ops l).contains i && (m != i) && Region.waitsFor md ops m i && !(l.getD m true)) = true)
    (hQ : ∀ c a w, Q (.panic c) (a.put oi.dst v) w → Q (.panic c) a w) (hb : ∀ w, oi.about P w a.eval = none) (hy : YieldsIf P ops R oi v a) (hw : R w)
    (h : wpAnyN Fc n P md ops Q m R f (l.setIfInBounds i true) (a.put oi.dst v) w) : wpAnyN Fc n P md ops Q m R (f + 1) l a w := by
  simp only [Bool.and_eq_true, bne_iff_ne, ne_eq, Bool.not_eq_true'] at hc
  obtain ⟨⟨⟨⟨h1, h2⟩, h3⟩, h4⟩, h5⟩ := hc
  exact wpAnyN_first hd hi (Region.noSelect_spec hs) hQ h3 h4 f l a w (Region.free_spec hi h1) (by simpa using h2) h5 ⟨hy, hb⟩ hw h
theorem wpAnyN_one {i : Nat} {oi : Oper} {f : Nat} {l : Array Bool} {a : Act} {w : World} (hi : ops[i]? = some oi) (hr : Region.ready md ops l = [i]) (hg : Region.wanted oi (yielded ops a.tmps) = true)
    (h : ∀ K : Act → World → Prop, (∀ a' w', ((l.setIfInBounds i true).getD m true = false → R w') → wpAnyN Fc n P md ops Q m R f (l.setIfInBounds i true) a' w' → K a' w') → Oper.wpIn Fc n P oi a w K Q) : wpAnyN Fc n P md ops Q m R (f + 1) l a w := by
  refine ⟨fun h0 => (by rw [h0] at hr; cases hr), fun j hj => ?_⟩
  rw [hr] at hj
  obtain rfl : j = i := by simpa using hj
  unfold wpOpIn
  simp only [hi]
  rw [if_pos hg]
  exact h _ fun a' w' h1 h2 => ⟨h1, h2⟩
theorem wpAnyN_last {om : Oper} {f : Nat} {l : Array Bool} {a : Act} {w : World} (hi : ops[m]? = some om) (hr : Region.ready md ops l = [m]) (hg : Region.wanted om (yielded ops a.tmps) = true)
    (h : ∀ K : Act → World → Prop, (∀ a' w', wpAnyN Fc n P md ops Q m R f (l.setIfInBounds m true) a' w' → K a' w') → Oper.wpIn Fc n P om a w K Q) : wpAnyN Fc n P md ops Q m R (f + 1) l a w :=
  wpAnyN_one hi hr hg fun K hK => h K fun a' w' hM => hK a' w' (fun h0 => by
    rcases Nat.lt_or_ge m l.size with h' | h'
    · simp [h'] at h0
    · rw [Array.getD_eq_getD_getElem?, Array.getElem?_eq_none (by simpa using h')] at h0
      cases h0) hM
theorem wpAnyN_done {l : Array Bool} {a : Act} {w : World} (hr : Region.ready md ops l = []) (h : Q .normal a w) : ∀ f, wpAnyN Fc n P md ops Q m R f l a w
  | 0 => ⟨hr, h⟩
  | _ + 1 => ⟨fun _ => h, by rw [hr]; simp⟩
theorem wpIn_region_N {id : Nat} {a : Act} {w : World} (m : Nat) (R : World → Prop) (hm : P.follows .mixedOrders = true)
    (h : wpAnyN Fc n P .any ops Q m R ops.size (Array.replicate ops.size false) a w.drew) : (Code.region id ops true).wpIn Fc n P Q a w :=
  wpIn_region_any hm (wpAnyIn_of_N _ _ _ _ h)
/-- A load of which the run is known. -/
theorem wpIn_load_eq {w : World} {a : Act} {o : Oper} {K : Act → World → Prop} (ty : TypeId) (x : Operand) (ho : o.op = .load ty x) (p v : Value) (hx : a.eval x = p) (hr : (Instr.loadAt ty p).run P w = .ok v w) (h : K (a.put o.dst v) w) : o.wpIn Fc n P a w K Q := by
  unfold Oper.wpIn
  refine ⟨by simp [Oper.about, ho], ?_⟩
  rw [Oper.semAt_plain Fc _ _ (by rw [ho]; intro c hc; cases hc)]
  unfold execOp
  simp only [ho, hx, hr, Sem.run_bind, Result.andThen_ok]
  exact h
theorem wpIn_store_eq {w w' : World} {a : Act} {o : Oper} {K : Act → World → Prop} (ty : TypeId) (x y : Operand) (ho : o.op = .store ty x y) (p v : Value) (hx : a.eval x = p) (hy : a.eval y = v) (hr : (Instr.storeAt ty p v).run P w = .ok () w') (h : K (a.put o.dst undef) w') : o.wpIn Fc n P a w K Q := by
  unfold Oper.wpIn
  refine ⟨by simp [Oper.about, ho], ?_⟩
  rw [Oper.semAt_plain Fc _ _ (by rw [ho]; intro c hc; cases hc)]
  unfold execOp
  simp only [ho, hx, hy, hr, Sem.run_bind, Result.andThen_ok]
  exact h
theorem wpListIn_load_eq {w : World} {a : Act} {o : Oper} {rest : List Oper} (hgd : o.guard = none) (ty : TypeId) (x : Operand) (ho : o.op = .load ty x) (p v : Value) (hx : a.eval x = p) (hr : (Instr.loadAt ty p).run P w = .ok v w) (h : wpListIn Fc n P ops Q rest (a.put o.dst v) w) : wpListIn Fc n P ops Q (o :: rest) a w :=
  wpListIn_plain hgd fun _ hK => wpIn_load_eq ty x ho p v hx hr (hK _ _ h)
theorem wpListIn_store_eq {w w' : World} {a : Act} {o : Oper} {rest : List Oper} (hgd : o.guard = none) (ty : TypeId) (x y : Operand) (ho : o.op = .store ty x y) (p v : Value) (hx : a.eval x = p) (hy : a.eval y = v) (hr : (Instr.storeAt ty p v).run P w = .ok () w') (h : wpListIn Fc n P ops Q rest (a.put o.dst undef) w') : wpListIn Fc n P ops Q (o :: rest) a w :=
  wpListIn_plain hgd fun _ hK => wpIn_store_eq ty x y ho p v hx hy hr (hK _ _ h)
end
end Go.Proofs.Ytoaloeipgadkjaa
