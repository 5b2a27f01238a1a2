/-
  append of a list of places to an empty slice, or to a row of the call's own; runs in parts.
-/
import Derived.Test.YtkighpfckibkoaaDoorPlaL2
import Derived.Deep.AppendLies
namespace Go.Proofs.YtkighpfckibkoaaDoor
open Go.RowKit Go.Shelf

/-- A list that one appends to: empty, with no room; or a row that lies from B on. -/
def GrowP (W : World) (B : Nat) (v : Value) (ys : List (Int × Int)) : Prop :=
  (ys = [] ∧ ∃ ad, v = .slice (some ad) 0 0) ∨ W.ownsRow B 23 2 v ys.length (cellsP ys)
theorem GrowP.sl {W : World} {B : Nat} {v : Value} {ys : List (Int × Int)} (h : GrowP W B v ys) : SlP W v ys := by
  rcases h with ⟨rfl, ad, rfl⟩ | h
  · exact ⟨some ad, 0, rfl, Nat.le_refl _, fun h => absurd h (by simp)⟩
  · exact slP_of_own h
theorem GrowP.below {W W' : World} {B : Nat} {v : Value} {ys : List (Int × Int)} (h : GrowP W B v ys) (hb : Below W.heap.size W W') : GrowP W' B v ys := by
  rcases h with h | h
  · exact .inl h
  · exact .inr (ownsRow_block h fun g _ hg => hb.block g hg)
theorem cellsP_one : ∀ l : List (Int × Int), ∀ u ∈ cellsP l, u.oneCell' = true
  | [] => by simp [cellsP]
  | p :: r => by
    intro u hu
    simp only [cellsP, List.mem_cons] at hu
    rcases hu with rfl | rfl | hu
    · rfl
    · rfl
    · exact cellsP_one r u hu
theorem append_run {P : Program} (w : World) (t ty _e : TypeId) (i : TypeInfo) (z : Value) (h1 : P.underlying t = some (.slice 23)) (h2 : P.info? 23 = some i) (h3 : i.zero = some z) (h4 : i.size = 2) (h5 : i.bytes = 16) (h6 : z.cells.size = 2)
    (B : Nat) (v u : Value) (ys xs : List (Int × Int)) (hG : GrowP w B v ys) (hsl : SlP w u xs) (hl : ys.length + xs.length ≤ 100000) (hB : B ≤ w.heap.size) :
    ∃ v' w', (Builtin.append_ #[t, t] ty #[v, u]).run P w = .ok v' w' ∧ GrowP w' B v' (ys ++ xs) ∧ Below B w w' := by
  obtain ⟨ad, cap, rfl, hlc, hc⟩ := hsl
  by_cases h0 : xs = []
  · subst h0
    have hrun : (Builtin.append_ #[t, t] ty #[v, .slice ad 0 cap]).run P w = .ok v w := by
      rcases hG with ⟨_, g, rfl⟩ | hG
      · cases ad <;> simp [Builtin.append_, run_underlying h1, sizeOf, typeInfo, h2, Builtin.lenOf, Builtin.firstCells, storeCells, loadCells, loadCellsFrom]
      · rcases hG.2 with ⟨rfl, e0⟩ | ⟨g, c, cur, rfl, _, _, hnc, _⟩
        · cases ad <;> simp [Builtin.append_, run_underlying h1, sizeOf, typeInfo, h2, Builtin.lenOf, Builtin.firstCells, loadCells, loadCellsFrom]
        · cases ad <;> simp [Builtin.append_, run_underlying h1, sizeOf, typeInfo, h2, Builtin.lenOf, Builtin.firstCells, hnc, storeCells, loadCells, loadCellsFrom]
    exact ⟨v, w, hrun, by rw [List.append_nil]; exact hG, Below.refl _ _⟩
  · have hx : 0 < xs.length := List.length_pos_iff.2 h0
    obtain ⟨b, off, rfl, _, hcell⟩ := hc hx
    have hcells : ∀ j y, (cellsP xs)[j]? = some y → w.cell? ((⟨b, off, none⟩ : Addr).add j) = some y := fun j y hy => by
      have hj : j < xs.length * 2 := by
        have := (List.getElem?_eq_some_iff.1 hy).1
        rwa [cellsP_length] at this
      have e1 : (⟨b, off, none⟩ : Addr).add j = ⟨b, off + j, none⟩ := by
        unfold Addr.add; split <;> simp_all
      rw [e1]
      obtain ⟨a1, a2⟩ := cellsP_at xs (j / 2) (by omega)
      obtain ⟨c1, c2⟩ := hcell (j / 2) (by omega)
      rcases (by omega : j = j / 2 * 2 ∨ j = j / 2 * 2 + 1) with h | h
      · rw [h, c1, ← a1, ← h, hy]
      · rw [← h] at a2
        rw [h, ← Nat.add_assoc, c2, ← a2, hy]
    have key : ∀ (v : Value), w.ownsRow B 23 2 v ys.length (cellsP ys) → ∃ v' w', (Builtin.append_ #[t, t] ty #[v, .slice (some ⟨b, off, none⟩) xs.length cap]).run P w = .ok v' w' ∧ GrowP w' B v' (ys ++ xs) ∧ Below B w w' := fun v hown => by
      obtain ⟨v', w', hrun, r1, r2, _, _⟩ := run_append_own_at (P := P) w B t ty 23 i z 2 16 h1 h2 h3 h4 h5 h6 (by decide) v ys.length (cellsP ys) hown ⟨b, off, none⟩ xs.length cap (cellsP xs) (cellsP_length xs) hcells (cellsP_one xs) (by unfold maxLen; omega) (by omega) hB
      exact ⟨v', w', hrun, .inr (by rw [List.length_append, cellsP_append]; exact r1), (Below.refl B w).grown r2 hB fun k e => (own_lt hown e).1⟩
    rcases hG with ⟨rfl, g, rfl⟩ | hG
    · have hr := run_append_grow (P := P) w t ty 23 i z h1 h2 h3 g 0 0 [] (by simp) (by simp) ⟨b, off, none⟩ xs.length cap (cellsP xs) (by rw [cellsP_length, h4]) hcells (by omega) (by omega) (by rw [h5]; exact growslice_fits (by omega) (by omega))
      have hr0 := run_append_nil (P := P) w t ty 23 i z h1 h2 h3 ⟨b, off, none⟩ xs.length cap (cellsP xs) (by rw [cellsP_length, h4]) hcells (by omega) (by omega) (by rw [h5]; omega)
      obtain ⟨v', w', hrun, r1, r2⟩ := key (.slice none 0 0) (World.ownsRow_nil _ _ _ _)
      refine ⟨v', w', ?_, r1, r2⟩
      rw [hr, ← hrun, hr0]
      simp
    · exact key v hG
/-- At a step of a region that draws its order. -/
theorem step_append_G {P : Program} {w : World} {ops : Array Oper} {o : Oper} {a : Act} {K : Act → World → Prop} {Q : Exit → Act → World → Prop} {E : Prop} (hgd : o.guard = none) (s x : Operand) (t : TypeId)
    (ho : o.op = .call { callee := .builtin .append, args := #[s, x], argTypes := #[t, t] }) (i : TypeInfo) (z : Value) (h1 : P.underlying t = some (.slice 23)) (h2 : P.info? 23 = some i) (h3 : i.zero = some z) (h4 : i.size = 2) (h5 : i.bytes = 16) (h6 : z.cells.size = 2)
    (B : Nat) (v u : Value) (ys xs : List (Int × Int)) (hs : a.eval s = v) (hx : a.eval x = u) (hG : GrowP w B v ys) (hsl : SlP w u xs) (hl : ys.length + xs.length ≤ 100000) (hB : B ≤ w.heap.size)
    (h : ∀ v' w', GrowP w' B v' (ys ++ xs) → Below B w w' → K (a.put o.dst v') w') :
    if Region.wanted o (yielded ops a.tmps) = true then Oper.wp P o a w K Q else E := by
  rw [if_pos (by unfold Region.wanted; rw [hgd])]
  obtain ⟨v', w', hr, r1, r2⟩ := append_run (P := P) w t o.type 23 i z h1 h2 h3 h4 h5 h6 B v u ys xs hG hsl hl hB
  unfold Oper.wp execOp
  simp only [ho, resolve, invoke, builtin, Sem.run_bind, Sem.run_pure, Result.andThen_ok, List.map_toArray, List.map_cons, List.map_nil, hs, hx, hr]
  exact h v' w' r1 r2
end Go.Proofs.YtkighpfckibkoaaDoor
