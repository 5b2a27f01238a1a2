/-
  A box that holds a row which grows in the rounds of a range.
-/
import Derived.Test.YtoaloeipgadkjaaRangeQ
import Derived.Maps.OwnIn
import Derived.RangeFuncBox
namespace Go.Proofs.Ytoaloeipgadkjaa
open Go.RowKit Go.Shelf

/-- A box that holds a row from n₁ on; neither is part of q. -/
def RowG (n₁ B : Nat) (t e : TypeId) (size n : Nat) (xs : List Value) (q : Nat → Prop) (W : World) : Prop :=
  ∃ v, Boxed W B t v ∧ W.ownsRow n₁ e size v n xs ∧ ¬ q B ∧ ∀ g, v.ownBlock = some g → ¬ q g
theorem own_keptG {W W' : World} {base : Nat} {e : TypeId} {size : Nat} {v : Value} {n : Nat} {xs : List Value} (h : W.ownsRow base e size v n xs) (hk : ∀ g, v.ownBlock = some g → g < W.heap.size → W'.heap[g]? = W.heap[g]?) : W'.ownsRow base e size v n xs := by
  obtain ⟨hl, h⟩ := h
  refine ⟨hl, h.imp id fun ⟨g, cap, cur, hv, hb, hg, hr⟩ => ⟨g, cap, cur, hv, hb, ?_, hr⟩⟩
  rw [hk g (by rw [hv]; rfl) (Array.getElem?_eq_some_iff.1 hg).1]; exact hg
theorem own_lowG {W : World} {base base' : Nat} {e : TypeId} {size : Nat} {v : Value} {n : Nat} {xs : List Value} (h : W.ownsRow base e size v n xs) (hb : base' ≤ base) : W.ownsRow base' e size v n xs :=
  ⟨h.1, h.2.imp id fun ⟨g, cap, cur, h1, h2, h3⟩ => ⟨g, cap, cur, h1, Nat.le_trans hb h2, h3⟩⟩
theorem abides_rowG {β : Type} (n₁ B : Nat) (t e : TypeId) (size : Nat) (k : β → Nat) (f : β → List Value) : Abides (fun s q W => RowG n₁ B t e size (k s) (f s) q W) := fun s q q' W W' ⟨v, hv, hr, hB, hg⟩ ht hq =>
  ⟨v, (ht.block B hv.lt hB).trans hv, own_keptG hr (fun g e hl => ht.block g hl (hg g e)), fun h => (hq B h).elim hB fun h2 => by have := hv.lt; omega, fun g e h => (hq g h).elim (hg g e) fun h2 => by have := (hr.lt g e).2; omega⟩
/-- An append in a round, and the store of the new slice into its box. -/
theorem row_appG {W w2 w : World} {n₀ n₁ B : Nat} {t e : TypeId} {size n m : Nat} {v v' : Value} {xs ys : List Value} {tmp : Obj} {p q : Nat → Prop}
    (hv : Boxed W B t v) (hte : t ≠ e) (hrow : W.ownsRow n₁ e size v n xs) (hqB : ¬ q B) (hqg : ∀ g, v.ownBlock = some g → ¬ q g) (hB : BelowF n₀ w q W) (hnB : n₀ ≤ B) (hn : n₀ ≤ n₁) (hq : ∀ k, q k → k < W.heap.size) (hpB : ¬ p B) (hp : ∀ k, n₁ ≤ k → ¬ p k)
    (own2 : w2.ownsRow n₁ e size v' m ys) (grow2 : (W.alloc tmp).grownBy w2 v.ownBlock) (at2 : v'.ownBlock = v.ownBlock ∨ v'.ownBlock = some (W.alloc tmp).heap.size) :
    Boxed w2 B t v ∧ Boxed (w2.setCell ⟨B, 0, none⟩ v') B t v' ∧ Keeps (fun k => p k ∨ q k) W (w2.setCell ⟨B, 0, none⟩ v') ∧ RowG n₁ B t e size m ys q (w2.setCell ⟨B, 0, none⟩ v') ∧ BelowF n₀ w q (w2.setCell ⟨B, 0, none⟩ v') := by
  obtain ⟨hv1, hv2, -, hk2, hb2⟩ := hv.appended hte (own_lowG hrow hn) hB.2.1 hnB (own_lowG own2 hn) grow2
  have hr2 : (w2.setCell ⟨B, 0, none⟩ v').ownsRow n₁ e size v' m ys := own2.kept (grownBy_setCell' w2 B v') (.inr (hv1.not_row hte own2).symm)
  refine ⟨hv1, hv2, ?_, ⟨v', hv2, hr2, hqB, fun g e hg => ?_⟩, ⟨hB.1.trans hb2, Nat.le_trans hB.2.1 hb2.size, hB.2.2⟩⟩
  · refine (Keeps.trans (B := W.alloc tmp) ⟨by simp, fun k _ hl => Below.heap_alloc _ _ _ hl⟩ (Keeps.of_grown grow2 (fun k e => ?_))).trans (Keeps.set w2 (b := B) (o := 0) _ ?_)
    · rintro (h | h)
      · exact hp k (hrow.lt k e).1 h
      · exact hqg k e h
    · rintro (h | h)
      · exact hpB h
      · exact hqB h
  · rcases at2 with h | h
    · exact hqg g (by rw [← h]; exact e) hg
    · rw [h] at e
      simp only [Option.some.injEq] at e
      have := hq g hg
      simp at e
      omega
end Go.Proofs.Ytoaloeipgadkjaa
