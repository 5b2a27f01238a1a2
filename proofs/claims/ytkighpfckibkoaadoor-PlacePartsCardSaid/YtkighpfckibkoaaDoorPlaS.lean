/-
  Slices of places; rows of them that a call owns.
-/
import Derived.Test.YtkighpfckibkoaaDoorPlaJ
import Derived.Test.YtkighpfckibkoaaDoorApp
import Derived.Maps.OwnIn
namespace Go.Proofs.YtkighpfckibkoaaDoor
open Go.RowKit Go.Shelf

/-- The slice value v holds these places. -/
def SlP (W : World) (v : Value) (fs : List (Int × Int)) : Prop :=
  ∃ (a : Option Addr) (cap : Nat), v = .slice a fs.length cap ∧ fs.length ≤ cap ∧ (0 < fs.length → ∃ b off, a = some ⟨b, off, none⟩ ∧ b < W.heap.size ∧ ∀ j, j < fs.length → W.cell? ⟨b, off + j * 2, none⟩ = some (.int .i64 (fs[j]?.getD (0, 0)).1) ∧ W.cell? ⟨b, off + j * 2 + 1, none⟩ = some (.int .i64 (fs[j]?.getD (0, 0)).2))
theorem SlP.below {W W' : World} {v : Value} {fs : List (Int × Int)} (h : SlP W v fs) (hb : Below W.heap.size W W') : SlP W' v fs := by
  obtain ⟨a, cap, hv, hl, hc⟩ := h
  refine ⟨a, cap, hv, hl, fun h0 => ?_⟩
  obtain ⟨b, off, ha, hlt, hj⟩ := hc h0
  exact ⟨b, off, ha, Nat.lt_of_lt_of_le hlt hb.size, fun j hl => ⟨(hb.cell (p := ⟨b, off + j * 2, none⟩) hlt).trans (hj j hl).1, (hb.cell (p := ⟨b, off + j * 2 + 1, none⟩) hlt).trans (hj j hl).2⟩⟩
theorem SlP.cell {W : World} {v : Value} {fs : List (Int × Int)} (h : SlP W v fs) : ∃ (a : Option Addr) (cap b off : Nat), v = .slice a fs.length cap ∧ fs.length ≤ cap ∧ (0 < fs.length → a = some ⟨b, off, none⟩) ∧ (0 < fs.length → b < W.heap.size ∧ ∀ j, j < fs.length → W.cell? ⟨b, off + j * 2, none⟩ = some (.int .i64 (fs[j]?.getD (0, 0)).1) ∧ W.cell? ⟨b, off + j * 2 + 1, none⟩ = some (.int .i64 (fs[j]?.getD (0, 0)).2)) := by
  obtain ⟨a, cap, hv, hl, hc⟩ := h
  rcases Nat.eq_zero_or_pos fs.length with h0 | h0
  · exact ⟨a, cap, 0, 0, hv, hl, fun h => by omega, fun h => by omega⟩
  · obtain ⟨b, off, h1, h2, h3⟩ := hc h0
    exact ⟨a, cap, b, off, hv, hl, fun _ => h1, fun _ => ⟨h2, h3⟩⟩
/-- The cells of places. -/
def cellsP : List (Int × Int) → List Value
  | [] => []
  | p :: r => .int .i64 p.1 :: .int .i64 p.2 :: cellsP r
theorem cellsP_length : ∀ l : List (Int × Int), (cellsP l).length = l.length * 2
  | [] => rfl
  | p :: r => by
    show (cellsP r).length + 1 + 1 = _
    rw [cellsP_length r, List.length_cons]; omega
theorem cellsP_append : ∀ a b : List (Int × Int), cellsP (a ++ b) = cellsP a ++ cellsP b
  | [], _ => rfl
  | p :: r, b => by show _ :: _ :: cellsP (r ++ b) = _; rw [cellsP_append r b]; rfl
theorem cellsP_at : ∀ (l : List (Int × Int)) (j : Nat), j < l.length → (cellsP l)[j * 2]? = some (.int .i64 (l[j]?.getD (0, 0)).1) ∧ (cellsP l)[j * 2 + 1]? = some (.int .i64 (l[j]?.getD (0, 0)).2)
  | p :: r, 0, _ => ⟨rfl, rfl⟩
  | p :: r, j + 1, h => by
    have := cellsP_at r j (by simpa using h)
    rw [show (j + 1) * 2 = j * 2 + 1 + 1 by omega]
    exact this
theorem slP_of_own {w : World} {base : Nat} {e : TypeId} {v : Value} {l : List (Int × Int)} (h : w.ownsRow base e 2 v l.length (cellsP l)) : SlP w v l := by
  rcases h.2 with ⟨rfl, h0⟩ | ⟨g, cap, cur, rfl, hb, hg, hc, hm, hs, ht⟩
  · exact ⟨none, 0, by rw [h0], by omega, fun h => by omega⟩
  · refine ⟨_, cap, rfl, hc, fun _ => ⟨g, 0, rfl, (Array.getElem?_eq_some_iff.1 hg).1, fun j hj => ?_⟩⟩
    obtain ⟨h1, h2⟩ := cellsP_at l j hj
    have e1 := World.ownsRow.cellAt h (j * 2) (by omega)
    have e2 := World.ownsRow.cellAt h (j * 2 + 1) (by omega)
    rw [Nat.zero_add]
    exact ⟨e1.trans h1, e2.trans h2⟩
/-- A row whose block has not turned. -/
theorem ownsRow_block {W W' : World} {base : Nat} {e : TypeId} {size : Nat} {v : Value} {n : Nat} {xs : List Value} (h : W.ownsRow base e size v n xs) (hk : ∀ g, v.ownBlock = some g → g < W.heap.size → W'.heap[g]? = W.heap[g]?) : W'.ownsRow base e size v n xs := by
  obtain ⟨hl, h⟩ := h
  refine ⟨hl, h.imp id fun ⟨g, cap, cur, hv, hb, hg, hr⟩ => ⟨g, cap, cur, hv, hb, ?_, hr⟩⟩
  rw [hk g (by rw [hv]; rfl) (Array.getElem?_eq_some_iff.1 hg).1]; exact hg
theorem own_lt {W : World} {base : Nat} {e : TypeId} {size : Nat} {v : Value} {n : Nat} {xs : List Value} (h : W.ownsRow base e size v n xs) {g : Nat} (hg : v.ownBlock = some g) : base ≤ g ∧ g < W.heap.size := h.lt g hg
theorem own_slice {W : World} {base : Nat} {e : TypeId} {size : Nat} {v : Value} {n : Nat} {xs : List Value} (h : W.ownsRow base e size v n xs) : ∃ a cap, v = .slice a n cap := by
  rcases h.2 with ⟨rfl, rfl⟩ | ⟨g, cap, cur, rfl, _⟩
  · exact ⟨_, _, rfl⟩
  · exact ⟨_, _, rfl⟩
theorem ownsRow_base {W : World} {base base' : Nat} {e : TypeId} {size : Nat} {v : Value} {n : Nat} {xs : List Value} (h : W.ownsRow base e size v n xs) (hb : base' ≤ base) : W.ownsRow base' e size v n xs :=
  ⟨h.1, h.2.imp id fun ⟨g, cap, cur, h1, h2, h3⟩ => ⟨g, cap, cur, h1, Nat.le_trans hb h2, h3⟩⟩
/-- A box that holds a row; neither is part of q. -/
def RowF (n₀ B : Nat) (t e : TypeId) (size n : Nat) (xs : List Value) (q : Nat → Prop) (W : World) : Prop :=
  ∃ v, Boxed W B t v ∧ W.ownsRow n₀ e size v n xs ∧ ¬ q B ∧ ∀ g, v.ownBlock = some g → ¬ q g
theorem abides_row {β : Type} (n₀ B : Nat) (t e : TypeId) (size : Nat) (k : β → Nat) (f : β → List Value) : Abides (fun s q W => RowF n₀ B t e size (k s) (f s) q W) := fun s q q' W W' ⟨v, hv, hr, hB, hg⟩ ht hq =>
  ⟨v, (ht.block B hv.lt hB).trans hv, ownsRow_block hr (fun g e hl => ht.block g hl (hg g e)), fun h => (hq B h).elim hB fun h2 => by have := hv.lt; omega, fun g e h => (hq g h).elim (hg g e) fun h2 => by have := (own_lt hr e).2; omega⟩
/-- An append in a round, and the store of the new slice into its box: all that the round owes. -/
theorem row_appended {W w2 w : World} {n₀ B : Nat} {t e : TypeId} {size n m : Nat} {v v' : Value} {xs ys : List Value} {tmp : Obj} {p q : Nat → Prop}
    (hv : Boxed W B t v) (hte : t ≠ e) (hrow : W.ownsRow n₀ e size v n xs) (hqB : ¬ q B) (hqg : ∀ g, v.ownBlock = some g → ¬ q g) (hB : BelowF n₀ w q W) (hnB : n₀ ≤ B) (hq : ∀ k, q k → k < W.heap.size) (hp : ∀ k, p k → k < n₀)
    (own2 : w2.ownsRow n₀ e size v' m ys) (grow2 : (W.alloc tmp).grownBy w2 v.ownBlock) (at2 : v'.ownBlock = v.ownBlock ∨ v'.ownBlock = some (W.alloc tmp).heap.size) :
    Boxed w2 B t v ∧ Boxed (w2.setCell ⟨B, 0, none⟩ v') B t v' ∧ Keeps (fun k => p k ∨ q k) W (w2.setCell ⟨B, 0, none⟩ v') ∧ RowF n₀ B t e size m ys q (w2.setCell ⟨B, 0, none⟩ v') ∧ BelowF n₀ w q (w2.setCell ⟨B, 0, none⟩ v') := by
  obtain ⟨hv1, hv2, hr2, hk2, hb2⟩ := hv.appended hte hrow hB.2.1 hnB own2 grow2
  refine ⟨hv1, hv2, ?_, ⟨v', hv2, hr2, hqB, fun g e hg => ?_⟩, ⟨hB.1.trans hb2, Nat.le_trans hB.2.1 hb2.size, hB.2.2⟩⟩
  · refine (Keeps.trans (B := W.alloc tmp) ⟨by simp, fun k _ hl => Below.heap_alloc _ _ _ hl⟩ (Keeps.of_grown grow2 (fun k e => ?_))).trans (Keeps.set w2 (b := B) (o := 0) _ ?_)
    · have := (own_lt hrow e).1
      rintro (h | h)
      · have := hp k h; omega
      · exact hqg k e h
    · rintro (h | h)
      · have := hp B h; omega
      · exact hqB h
  · rcases at2 with h | h
    · exact hqg g (by rw [← h]; exact e) hg
    · rw [h] at e
      simp only [Option.some.injEq] at e
      have := hq g hg
      simp at e
      omega
theorem cell_two_new (w : World) (x y : Value) (t : TypeId) : ∀ j u, [x, y][j]? = some u → (w.alloc (.cells #[x, y] t)).cell? ((⟨w.heap.size, 0, none⟩ : Addr).add j) = some u := by
  intro j u hj
  match j, hj with
  | 0, hj => simp at hj; subst hj; simp [go_sem, Addr.add]
  | 1, hj => simp at hj; subst hj; simp [go_sem, Addr.add]
theorem infoP : (Tryd.prog.info? 23).map (fun i => (i.zero, i.size, i.bytes)) = some (some (.agg #[.int .i64 0, .int .i64 0]), 2, 16) := by kernel_rfl
theorem infoI : (Tryd.prog.info? 3).map (fun i => (i.zero, i.size, i.bytes)) = some (some (.int .i64 0), 1, 8) := by kernel_rfl
end Go.Proofs.YtkighpfckibkoaaDoor
