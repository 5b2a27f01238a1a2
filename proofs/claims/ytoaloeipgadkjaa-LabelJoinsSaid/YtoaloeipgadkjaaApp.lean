/-
  append of a slice of numbers, nil or not, to a row of the call's own.
-/
import Derived.Test.YtoaloeipgadkjaaBase
import Derived.Maps.AppendAt
import Derived.Deep.DeepMust
namespace Go.Proofs.Ytoaloeipgadkjaa
open Go.RowKit

/-- Numbers as values. -/
def valsOf (k : IntKind) (l : List Nat) : List Value := l.map fun y : Nat => Value.int k (y : Nat)
theorem valsOf_length (k : IntKind) (l : List Nat) : (valsOf k l).length = l.length := by simp [valsOf]
theorem valsOf_append (k : IntKind) (a b : List Nat) : valsOf k (a ++ b) = valsOf k a ++ valsOf k b := by simp [valsOf]
theorem valsOf_one (k : IntKind) (l : List Nat) : ∀ u ∈ valsOf k l, u.oneCell' = true := by simp [valsOf, Value.oneCell']
theorem valsOf_set (k : IntKind) (l : List Nat) (i x : Nat) : valsOf k (l.set i x) = (valsOf k l).set i (.int k (x : Nat)) := by simp [valsOf, List.map_set]
theorem wpList_append_sl {P : Program} (w : World) {ops : Array Oper} {rest : List Oper} {o : Oper} {a : Act} {Q : Exit → Act → World → Prop}
    (hw : Region.wanted o (yielded ops a.tmps) = true) (s x : Operand) (t : TypeId) (hop : o.op = Op.call { callee := Callee.builtin Builtin.append, args := #[s, x], argTypes := #[t, t] })
    (base : Nat) (e : TypeId) (i : TypeInfo) (z : Value) (bytes : Nat) (k : IntKind) (h1 : P.underlying t = some (.slice e)) (h2 : P.info? e = some i) (h3 : i.zero = some z) (h4 : i.size = 1) (h5 : i.bytes = bytes) (h6 : z.cells.size = 1)
    (v : Value) (ys : List Nat) (hs : a.eval s = v) (hown : w.ownsRow base e 1 v ys.length (valsOf k ys)) (u : Value) (xs : List Nat) (hx : a.eval x = u) (hsl : Sl w k u xs)
    (b1 : ys.length + xs.length ≤ maxLen) (b2 : (ys.length + xs.length) * bytes ≤ 140737488355328) (b3 : base ≤ w.heap.size)
    (hK : ∀ v' w', w'.ownsRow base e 1 v' (ys ++ xs).length (valsOf k (ys ++ xs)) → w.grownBy w' v.ownBlock → (v'.ownBlock = v.ownBlock ∨ v'.ownBlock = some w.heap.size) → wpList P ops Q rest (a.put o.dst v') w') :
    wpList P ops Q (o :: rest) a w := by
  obtain ⟨ad, cap, rfl, hlc, hc⟩ := hsl
  refine BigFrame.wpList_want hw fun K hK' => ?_
  unfold Oper.wp execOp
  simp only [hop, resolve, invoke, builtin, Sem.run_bind, Sem.run_pure, Result.andThen_ok, List.map_toArray, List.map_cons, List.map_nil, hs, hx]
  rcases ad with _ | ad
  · have h0 : xs = [] := by
      rcases Nat.eq_zero_or_pos xs.length with h | h
      · exact List.eq_nil_of_length_eq_zero h
      · obtain ⟨b, off, hh, _⟩ := hc h
        cases hh
    subst h0
    have hrun : (Builtin.append_ #[t, t] o.type #[v, .slice none 0 cap]).run P w = .ok v w := by
      rcases hown.2 with ⟨rfl, e0⟩ | ⟨g, c, cur, rfl, _, _, hnc, _⟩
      · simp [Builtin.append_, run_underlying h1, sizeOf, typeInfo, h2, Builtin.lenOf, Builtin.firstCells]
      · simp [Builtin.append_, run_underlying h1, sizeOf, typeInfo, h2, Builtin.lenOf, Builtin.firstCells, hnc, storeCells]
    rw [show (([] : List Nat).length) = 0 from rfl, hrun]
    exact hK' _ _ (hK v w (by simpa using hown) (World.grownBy.refl w _) (.inl rfl))
  · have hcells : ∀ j y, (valsOf k xs)[j]? = some y → w.cell? (ad.add j) = some y := fun j y hy => by
      have hj : j < xs.length := by
        have := (List.getElem?_eq_some_iff.1 hy).1
        rwa [valsOf_length] at this
      obtain ⟨b, off, hh, _, hcell⟩ := hc (by omega)
      simp only [Option.some.injEq] at hh
      subst hh
      have e1 : (⟨b, off, none⟩ : Addr).add j = ⟨b, off + j, none⟩ := by
        unfold Addr.add; split <;> simp_all
      rw [e1, hcell j hj, ← hy]
      simp [valsOf, hj]
    obtain ⟨v', w', hrun, r1, r2, _, r3⟩ := run_append_own_at (P := P) w base t o.type e i z 1 bytes h1 h2 h3 h4 h5 h6 (by decide) v ys.length (valsOf k ys) hown ad xs.length cap (valsOf k xs) (by rw [valsOf_length, Nat.mul_one]) hcells (valsOf_one k xs) b1 b2 b3
    rw [hrun]
    exact hK' _ _ (hK v' w' (by rw [List.length_append, valsOf_append]; exact r1) r2 r3)
theorem ownsRow_set {w : World} {base g n cap j : Nat} {e : TypeId} {xs : List Value} (h : w.ownsRow base e 1 (.slice (some ⟨g, 0, none⟩) n cap) n xs) (u : Value) :
    (w.setCell ⟨g, j, none⟩ u).ownsRow base e 1 (.slice (some ⟨g, 0, none⟩) n cap) n (xs.set j u) := by
  obtain ⟨hl, h⟩ := h
  rcases h with ⟨e0, _⟩ | ⟨g', cap', cur, e0, hb, hg, hn, hm, hs, ht⟩
  · cases e0
  · injection e0 with e1 _ e3
    injection e1 with e1
    injection e1 with e1
    subst e1; subst e3
    refine ⟨by simpa using hl, .inr ⟨g, cap, cur.setIfInBounds j u, rfl, hb, ?_, hn, hm, by simpa using hs, ?_⟩⟩
    · simp [World.setCell, Array.getElem?_modify, hg]
    · rw [← ht, Array.toList_setIfInBounds, List.take_set]
theorem ownsRow_lt {w : World} {base g n cap : Nat} {e : TypeId} {xs : List Value} (h : w.ownsRow base e 1 (.slice (some ⟨g, 0, none⟩) n cap) n xs) : base ≤ g ∧ g < w.heap.size := h.lt g rfl
/-- What a value that owns numbers looks like. -/
theorem own_form {w : World} {base : Nat} {e : TypeId} {v : Value} {k : IntKind} {xs : List Nat} (h : w.ownsRow base e 1 v xs.length (valsOf k xs)) (hn : 0 < xs.length) : ∃ g cap, v = .slice (some ⟨g, 0, none⟩) xs.length cap ∧ base ≤ g ∧ g < w.heap.size ∧ xs.length ≤ cap := by
  rcases h.2 with ⟨_, h0⟩ | ⟨g, cap, cur, rfl, hb, hg, hc, _⟩
  · omega
  · exact ⟨g, cap, rfl, hb, (Array.getElem?_eq_some_iff.1 hg).1, hc⟩
theorem own_cell {w : World} {base g cap : Nat} {e : TypeId} {k : IntKind} {xs : List Nat} (h : w.ownsRow base e 1 (.slice (some ⟨g, 0, none⟩) xs.length cap) xs.length (valsOf k xs)) (j : Nat) (hj : j < xs.length) : w.cell? ⟨g, j, none⟩ = some (.int k (xs[j]?.getD 0 : Nat)) := by
  rw [World.ownsRow.cellAt h j (by omega)]
  simp [valsOf, hj]
theorem own_set {w : World} {base g cap : Nat} {e : TypeId} {k : IntKind} {xs : List Nat} (h : w.ownsRow base e 1 (.slice (some ⟨g, 0, none⟩) xs.length cap) xs.length (valsOf k xs)) (j z : Nat) :
    (w.setCell ⟨g, j, none⟩ (.int k (z : Nat))).ownsRow base e 1 (.slice (some ⟨g, 0, none⟩) (xs.set j z).length cap) (xs.set j z).length (valsOf k (xs.set j z)) := by
  rw [valsOf_set, List.length_set]
  exact ownsRow_set h _
theorem own_sl {w : World} {base : Nat} {e : TypeId} {v : Value} {k : IntKind} {xs : List Nat} (h : w.ownsRow base e 1 v xs.length (valsOf k xs)) : Sl w k v xs := sl_of_owns h
end Go.Proofs.Ytoaloeipgadkjaa
