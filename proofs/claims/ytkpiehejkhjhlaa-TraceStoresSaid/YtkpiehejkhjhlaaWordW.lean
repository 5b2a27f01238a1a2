/-
  The contract of word.Words.
-/
import Derived.Test.YtkpiehejkhjhlaaWordJ
import Derived.Maps.AppendAt
namespace Go.Proofs.Ytkpiehejkhjhlaa
open Go.RowKit Go.Shelf
attribute [local go_sem] Oper.semAt_some

theorem stepIn_append_own {F : Fence} {fn : Nat} {P : Program} (w : World) {ops : Array Oper} {o : Oper} {a : Act} {K : Act → World → Prop} {Q : Exit → Act → World → Prop} {E : Prop}
    (hg : o.guard = none) (s x : Operand) (t : TypeId) (hop : o.op = Op.call { callee := Callee.builtin Builtin.append, args := #[s, x], argTypes := #[t, t] })
    (base : Nat) (e : TypeId) (i : TypeInfo) (z : Value) (size bytes : Nat) (h1 : P.underlying t = some (.slice e)) (h2 : P.info? e = some i) (h3 : i.zero = some z) (h4 : i.size = size) (h5 : i.bytes = bytes) (h6 : z.cells.size = size) (h7 : 0 < size)
    (v : Value) (k : Nat) (xs : List Value) (hs : a.eval s = v) (hown : w.ownsRow base e size v k xs) (ad : Addr) (m c : Nat) (news : List Value) (hx : a.eval x = .slice (some ad) m c) (hn : news.length = m * size)
    (hc : ∀ j u, news[j]? = some u → w.cell? (ad.add j) = some u) (h1c : ∀ u ∈ news, u.oneCell' = true) (b1 : k + m ≤ maxLen) (b2 : (k + m) * bytes ≤ 140737488355328) (b3 : base ≤ w.heap.size)
    (hK : ∀ v' w', w'.ownsRow base e size v' (k + m) (xs ++ news) → w.grownBy w' v.ownBlock → (v' = .slice none 0 0 ↔ v = .slice none 0 0 ∧ m = 0) → K (a.put o.dst v') w') :
    if Region.wanted o (yielded ops a.tmps) = true then Oper.wpIn F fn P o a w K Q else E := by
  have hw : Region.wanted o (yielded ops a.tmps) = true := by simp [Region.wanted, hg]
  rw [if_pos hw]
  obtain ⟨v', w', hrun, r1, r2, r3⟩ := run_append_own (P := P) w base t o.type e i z size bytes h1 h2 h3 h4 h5 h6 h7 v k xs hown ad m c news hn hc h1c b1 b2 b3
  unfold Oper.wpIn
  refine ⟨?_, ?_⟩
  · simp [Oper.about, hop, resolve, Target.leads, Sem.run_pure]
  · rw [Oper.semAt_plain F _ _ (by rw [hop]; intro c hc'; cases hc')]
    simp [execOp, hop, resolve, invoke, builtin, hs, hx, hrun, Result.andThen]
    exact hK v' w' r1 r2 r3

theorem infoU64 : (Try.prog.info? 30).map (fun i => (i.zero, i.size, i.bytes)) = some (some (.int .u64 0), 1, 8) := by kernel_rfl
theorem finRange_map (n : Nat) (f : Nat → Value) : (List.finRange n).map (fun y => f y.1) = (List.range n).map f := by
  apply List.ext_getElem
  · simp
  · intro i h1 h2; simp
theorem keepsOthers_of_below {W W' : World} (h : Below W.heap.size W W') : KeepsOthers W W' :=
  ⟨h.size, fun k _ hk _ => (h.block k (Array.getElem?_eq_some_iff.1 hk).1).trans hk⟩
theorem boxed_below {W W' : World} {B n₀ : Nat} {t : TypeId} {v : Value} (h : Boxed W B t v) (hb : Below n₀ W W') (hB : B < n₀) : Boxed W' B t v := (hb.block B hB).trans h
theorem ownsRow_below {W W' : World} {base : Nat} {e : TypeId} {size : Nat} {v : Value} {n : Nat} {xs : List Value} (h : W.ownsRow base e size v n xs) (hb : Below W.heap.size W W') : W'.ownsRow base e size v n xs :=
  h.kept (row := none) ⟨hb.os, hb.tape, hb.output, hb.size, fun k hk _ => hb.block k hk⟩ (by
    rcases h.2 with ⟨rfl, _⟩ | ⟨g, cap, cur, rfl, _⟩
    · exact .inl rfl
    · exact .inr (by simp [Value.ownBlock]))
/-- A box of another type is not touched by an append and the store of the new slice. -/
theorem boxTail {W w4 w5 : World} {B B' n₀ : Nat} {t' e : TypeId} {size k : Nat} {v v' u' : Value} {xs : List Value} {tmp : Obj} (_ : Below W.heap.size W w4) (hr : w4.ownsRow n₀ e size v k xs) (hg : (w4.alloc tmp).grownBy w5 v.ownBlock)
    (hS : Boxed w4 B' t' u') (hte : t' ≠ e) (hne : B' ≠ B) : Boxed (w5.setCell ⟨B, 0, none⟩ v') B' t' u' := by
  have h1 : Boxed w5 B' t' u' := (hS.alloc tmp).kept hg (hS.not_row hte hr)
  exact h1.other hne v'
theorem keepsTail {W w4 w5 : World} {B Bs n₀ : Nat} {t1 t2 e : TypeId} {size k : Nat} {v v' u1 u2 : Value} {xs : List Value} {tmp : Obj} (hb : Below W.heap.size W w4) (hr : w4.ownsRow n₀ e size v k xs) (hg : (w4.alloc tmp).grownBy w5 v.ownBlock)
    (h1 : Boxed w4 Bs t1 u1) (h2 : Boxed w4 (Bs + 1) t2 u2) (he1 : t1 ≠ e) (he2 : t2 ≠ e) (hn1 : Bs ≠ B) (hn2 : Bs + 1 ≠ B) : Keeps (ChunkBlocks Bs) W (w5.setCell ⟨B, 0, none⟩ v') := by
  have s1 : w4.heap.size ≤ w5.heap.size := by have := hg.size; simp at this; omega
  have s2 : (w5.setCell ⟨B, 0, none⟩ v').heap.size = w5.heap.size := by simp [World.setCell]
  refine ⟨by have := hb.size; omega, fun j hj hl => ?_⟩
  rw [← hb.block j hl]
  rcases hj with rfl | rfl
  · exact (boxTail hb hr hg h1 he1 hn1).trans h1.symm
  · exact (boxTail hb hr hg h2 he2 hn2).trans h2.symm
end Go.Proofs.Ytkpiehejkhjhlaa
