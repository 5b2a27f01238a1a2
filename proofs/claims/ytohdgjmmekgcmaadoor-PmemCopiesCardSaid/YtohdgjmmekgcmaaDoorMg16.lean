/-
  Texts Vec to PoC, as one.
-/
import Derived.Test.YtohdgjmmekgcmaaDoorMg15
import Derived.WalkSpells
import Derived.ArgAppend
import Derived.Laws.IdiomCopy
/-
  Slices of elements of any number of cells: what is read (Vec), what is appended to (GrowB); append of the one to the other; clones.
-/
namespace Go.Proofs.YtohdgjmmekgcmaaDoor
open Go.RowKit Go.Shelf

/-- v is a slice of n elements of s cells each, which holds the cells xs. -/
def Vec (W : World) (v : Value) (n s : Nat) (xs : List Value) : Prop :=
  xs.length = n * s ∧ ∃ a cap, v = .slice a n cap ∧ n ≤ cap ∧ (0 < n → ∃ b off, a = some ⟨b, off, none⟩ ∧ b < W.heap.size ∧ ∀ j y, xs[j]? = some y → W.cell? ⟨b, off + j, none⟩ = some y)
theorem Vec.keeps {W W' : World} {v : Value} {n s : Nat} {xs : List Value} (h : Vec W v n s xs) (hk : ∀ b, b < W.heap.size → b < W'.heap.size ∧ W'.heap[b]? = W.heap[b]?) : Vec W' v n s xs := by
  obtain ⟨hl, a, cap, hv, hc, hj⟩ := h
  refine ⟨hl, a, cap, hv, hc, fun h0 => ?_⟩
  obtain ⟨b, off, ha, hb, hx⟩ := hj h0
  exact ⟨b, off, ha, (hk b hb).1, fun j y hy => (World.cell?_of_block (a := ⟨b, off + j, none⟩) (hk b hb).2).trans (hx j y hy)⟩
theorem Vec.below {W W' : World} {v : Value} {n s : Nat} {xs : List Value} (h : Vec W v n s xs) (hb : Below W.heap.size W W') : Vec W' v n s xs :=
  h.keeps fun b hl => ⟨Nat.lt_of_lt_of_le hl hb.size, hb.block b hl⟩
theorem Vec.slice {W : World} {v : Value} {n s : Nat} {xs : List Value} (h : Vec W v n s xs) : ∃ a cap, v = .slice a n cap := by
  obtain ⟨-, a, cap, hv, -⟩ := h
  exact ⟨a, cap, hv⟩
theorem vec_of_own {W : World} {base : Nat} {e : TypeId} {v : Value} {n s : Nat} {xs : List Value} (h : W.ownsRow base e s v n xs) : Vec W v n s xs := by
  refine ⟨h.1, ?_⟩
  rcases h.2 with ⟨rfl, h0⟩ | ⟨g, cap, cur, rfl, hb, hg, hc, hm, hs, ht⟩
  · exact ⟨none, 0, by rw [h0], by omega, fun h => by omega⟩
  · refine ⟨_, cap, rfl, hc, fun _ => ⟨g, 0, rfl, (Array.getElem?_eq_some_iff.1 hg).1, fun j y hy => ?_⟩⟩
    have hj : j < n * s := by rw [← h.1]; exact (List.getElem?_eq_some_iff.1 hy).1
    rw [Nat.zero_add, World.ownsRow.cellAt h j hj]
    exact hy
/-- A slice to which one appends: empty, with no room; or a row that lies from B on. -/
def GrowB (W : World) (B : Nat) (e : TypeId) (s : Nat) (v : Value) (n : Nat) (xs : List Value) : Prop :=
  (n = 0 ∧ xs = [] ∧ ∃ ad, v = .slice (some ad) 0 0) ∨ W.ownsRow B e s v n xs
theorem GrowB.vec {W : World} {B : Nat} {e : TypeId} {s : Nat} {v : Value} {n : Nat} {xs : List Value} (h : GrowB W B e s v n xs) : Vec W v n s xs := by
  rcases h with ⟨rfl, rfl, ad, rfl⟩ | h
  · exact ⟨by simp, some ad, 0, rfl, Nat.le_refl _, fun h => absurd h (by simp)⟩
  · exact vec_of_own h
theorem GrowB.keeps {W W' : World} {B : Nat} {e : TypeId} {s : Nat} {v : Value} {n : Nat} {xs : List Value} (h : GrowB W B e s v n xs) (hk : ∀ b, b < W.heap.size → W'.heap[b]? = W.heap[b]?) : GrowB W' B e s v n xs := by
  rcases h with h | ⟨hl, h⟩
  · exact .inl h
  · refine .inr ⟨hl, h.imp id fun ⟨g, cap, cur, hv, hb, hg, hr⟩ => ⟨g, cap, cur, hv, hb, ?_, hr⟩⟩
    rw [hk g (Array.getElem?_eq_some_iff.1 hg).1]
    exact hg
theorem GrowB.below {W W' : World} {B : Nat} {e : TypeId} {s : Nat} {v : Value} {n : Nat} {xs : List Value} (h : GrowB W B e s v n xs) (hb : Below W.heap.size W W') : GrowB W' B e s v n xs := h.keeps fun b hl => hb.block b hl
theorem GrowB.slice {W : World} {B : Nat} {e : TypeId} {s : Nat} {v : Value} {n : Nat} {xs : List Value} (h : GrowB W B e s v n xs) : ∃ a cap, v = .slice a n cap := h.vec.slice
theorem GrowB.low {W : World} {B B' : Nat} {e : TypeId} {s : Nat} {v : Value} {n : Nat} {xs : List Value} (h : GrowB W B e s v n xs) (hb : B' ≤ B) : GrowB W B' e s v n xs :=
  h.imp id fun h => ⟨h.1, h.2.imp id fun ⟨g, cap, cur, h1, h2, h3⟩ => ⟨g, cap, cur, h1, Nat.le_trans hb h2, h3⟩⟩
theorem GrowB.new (W : World) (B : Nat) (e : TypeId) (s : Nat) : GrowB W B e s (.slice none 0 0) 0 [] := .inr (World.ownsRow_nil _ _ _ _)
/-- What an append does: a row of both; of what there was only the old row's room is written. -/
theorem vec_append_run {P : Program} (w : World) (t ty e : TypeId) (i : TypeInfo) (z : Value) (s bytes : Nat) (h1 : P.underlying t = some (.slice e)) (h2 : P.info? e = some i) (h3 : i.zero = some z) (h4 : i.size = s) (h5 : i.bytes = bytes) (h6 : z.cells.size = s) (h7 : 0 < s)
    (B : Nat) (v u : Value) (n m : Nat) (xs ys : List Value) (hG : GrowB w B e s v n xs) (hV : Vec w u m s ys) (one : ∀ u ∈ ys, u.oneCell' = true) (hl : n + m ≤ 1000000) (hby : (n + m) * bytes ≤ 140737488355328) (hB : B ≤ w.heap.size) :
    ∃ v' w', (Builtin.append_ #[t, t] ty #[v, u]).run P w = .ok v' w' ∧ GrowB w' B e s v' (n + m) (xs ++ ys) ∧ Below B w w' ∧ w.grownBy w' v.ownBlock ∧ (∀ g, v'.ownBlock = some g → v.ownBlock = some g ∨ g = w.heap.size) ∧ (w.ownsRow B e s v n xs → w'.ownsRow B e s v' (n + m) (xs ++ ys)) := by
  obtain ⟨hlen, ad, cap, rfl, hlc, hc⟩ := hV
  rcases Nat.eq_zero_or_pos m with h0 | h0
  · subst h0
    have hys : ys = [] := List.eq_nil_of_length_eq_zero (by rw [hlen, Nat.zero_mul])
    subst hys
    have hrun : (Builtin.append_ #[t, t] ty #[v, .slice ad 0 cap]).run P w = .ok v w := by
      rcases hG with ⟨_, _, g, rfl⟩ | hG
      · cases ad <;> simp [Builtin.append_, run_underlying h1, sizeOf, typeInfo, h2, Builtin.lenOf, Builtin.firstCells, storeCells, loadCells, loadCellsFrom]
      · rcases hG.2 with ⟨rfl, e0⟩ | ⟨g, c, cur, rfl, _, _, hnc, _⟩
        · cases ad <;> simp [Builtin.append_, run_underlying h1, sizeOf, typeInfo, h2, Builtin.lenOf, Builtin.firstCells, loadCells, loadCellsFrom]
        · cases ad <;> simp [Builtin.append_, run_underlying h1, sizeOf, typeInfo, h2, Builtin.lenOf, Builtin.firstCells, hnc, storeCells, loadCells, loadCellsFrom]
    exact ⟨v, w, hrun, by rw [List.append_nil]; exact hG, Below.refl _ _, World.grownBy.refl w _, fun g h => .inl h, fun h => by rw [List.append_nil]; exact h⟩
  · obtain ⟨b, off, rfl, _, hcell⟩ := hc h0
    have hcells : ∀ j y, ys[j]? = some y → w.cell? ((⟨b, off, none⟩ : Addr).add j) = some y := fun j y hy => by
      have e1 : (⟨b, off, none⟩ : Addr).add j = ⟨b, off + j, none⟩ := by
        unfold Addr.add; split <;> simp_all
      rw [e1]
      exact hcell j y hy
    have key : ∀ (v : Value), w.ownsRow B e s v n xs → ∃ v' w', (Builtin.append_ #[t, t] ty #[v, .slice (some ⟨b, off, none⟩) m cap]).run P w = .ok v' w' ∧ w'.ownsRow B e s v' (n + m) (xs ++ ys) ∧ Below B w w' ∧ w.grownBy w' v.ownBlock ∧ ∀ g, v'.ownBlock = some g → v.ownBlock = some g ∨ g = w.heap.size := fun v hown => by
      obtain ⟨v', w', hrun, r1, r2, _, r3⟩ := run_append_own_at (P := P) w B t ty e i z s bytes h1 h2 h3 h4 h5 h6 h7 v n xs hown ⟨b, off, none⟩ m cap ys hlen hcells one (by unfold maxLen; omega) hby hB
      exact ⟨v', w', hrun, r1, (Below.refl B w).grown r2 hB fun k e => (hown.lt k e).1, r2, fun g h => r3.elim (fun e => .inl (by rw [← e]; exact h)) fun e => .inr (by rw [h] at e; exact Option.some.inj e)⟩
    rcases hG with ⟨rfl, rfl, g, rfl⟩ | hG
    · have hby2 : m * bytes ≤ 140737488355328 := by rw [Nat.zero_add] at hby; exact hby
      have hr := run_append_grow (P := P) w t ty e i z h1 h2 h3 g 0 0 [] (by simp) (by simp) ⟨b, off, none⟩ m cap ys (by rw [hlen, h4]) hcells (by omega) (by omega) (by rw [h5]; exact growslice_fits (by omega) hby)
      have hr0 := run_append_nil (P := P) w t ty e i z h1 h2 h3 ⟨b, off, none⟩ m cap ys (by rw [hlen, h4]) hcells (by omega) (by omega) (by rw [h5]; exact Nat.le_trans hby2 (by decide))
      obtain ⟨v', w', hrun, r1, r2, r3, r4⟩ := key (.slice none 0 0) (World.ownsRow_nil _ _ _ _)
      refine ⟨v', w', ?_, .inr r1, r2, ⟨r3.os, r3.tape, r3.output, r3.size, fun k hk _ => r3.block k hk (by simp [Value.ownBlock])⟩, fun g h => (r4 g h).imp (fun h => by simp [Value.ownBlock] at h) id, fun _ => r1⟩
      rw [hr, ← hrun, hr0]
      simp
    · obtain ⟨v', w', hrun, r1, r2, r3, r4⟩ := key v hG
      exact ⟨v', w', hrun, .inr r1, r2, r3, r4, fun _ => r1⟩
/-- At an append. -/
theorem wpList_append_vec {P : Program} {w : World} {ops : Array Oper} {rest : List Oper} {o : Oper} {a : Act} {Q : Exit → Act → World → Prop} (hgd : o.guard = none) (sx x : Operand) (t : TypeId)
    (ho : o.op = .call { callee := .builtin .append, args := #[sx, x], argTypes := #[t, t] }) (e : TypeId) (i : TypeInfo) (z : Value) (s bytes : Nat) (h1 : P.underlying t = some (.slice e)) (h2 : P.info? e = some i) (h3 : i.zero = some z) (h4 : i.size = s) (h5 : i.bytes = bytes) (h6 : z.cells.size = s) (h7 : 0 < s)
    (B : Nat) (v u : Value) (n m : Nat) (xs ys : List Value) (hv : a.eval sx = v) (hu : a.eval x = u) (hG : GrowB w B e s v n xs) (hV : Vec w u m s ys) (one : ∀ u ∈ ys, u.oneCell' = true) (hl : n + m ≤ 1000000) (hby : (n + m) * bytes ≤ 140737488355328) (hB : B ≤ w.heap.size)
    (h : ∀ v' w', GrowB w' B e s v' (n + m) (xs ++ ys) → Below B w w' → (w.grownBy w' v.ownBlock ∧ (∀ g, v'.ownBlock = some g → v.ownBlock = some g ∨ g = w.heap.size) ∧ (w.ownsRow B e s v n xs → w'.ownsRow B e s v' (n + m) (xs ++ ys))) → wpList P ops Q rest (a.put o.dst v') w') : wpList P ops Q (o :: rest) a w :=
  wpList_plain hgd fun K hK => by
    obtain ⟨v', w', hr, r1, r2, r3⟩ := vec_append_run (P := P) w t o.type e i z s bytes h1 h2 h3 h4 h5 h6 h7 B v u n m xs ys hG hV one hl hby hB
    unfold Oper.wp execOp
    simp only [ho, resolve, invoke, builtin, Sem.run_bind, Sem.run_pure, Result.andThen_ok, List.map_toArray, List.map_cons, List.map_nil, hv, hu, hr]
    exact hK _ _ (h v' w' r1 r2 r3)
/-- .. under a condition that holds. -/
theorem wpList_append_vecW {P : Program} {w : World} {ops : Array Oper} {rest : List Oper} {o : Oper} {a : Act} {Q : Exit → Act → World → Prop} (hwt : Region.wanted o (yielded ops a.tmps) = true) (sx x : Operand) (t : TypeId)
    (ho : o.op = .call { callee := .builtin .append, args := #[sx, x], argTypes := #[t, t] }) (e : TypeId) (i : TypeInfo) (z : Value) (s bytes : Nat) (h1 : P.underlying t = some (.slice e)) (h2 : P.info? e = some i) (h3 : i.zero = some z) (h4 : i.size = s) (h5 : i.bytes = bytes) (h6 : z.cells.size = s) (h7 : 0 < s)
    (B : Nat) (v u : Value) (n m : Nat) (xs ys : List Value) (hv : a.eval sx = v) (hu : a.eval x = u) (hG : GrowB w B e s v n xs) (hV : Vec w u m s ys) (one : ∀ u ∈ ys, u.oneCell' = true) (hl : n + m ≤ 1000000) (hby : (n + m) * bytes ≤ 140737488355328) (hB : B ≤ w.heap.size)
    (h : ∀ v' w', GrowB w' B e s v' (n + m) (xs ++ ys) → Below B w w' → (w.grownBy w' v.ownBlock ∧ (∀ g, v'.ownBlock = some g → v.ownBlock = some g ∨ g = w.heap.size) ∧ (w.ownsRow B e s v n xs → w'.ownsRow B e s v' (n + m) (xs ++ ys))) → wpList P ops Q rest (a.put o.dst v') w') : wpList P ops Q (o :: rest) a w :=
  BigFrame.wpList_want hwt fun K hK => by
    obtain ⟨v', w', hr, r1, r2, r3⟩ := vec_append_run (P := P) w t o.type e i z s bytes h1 h2 h3 h4 h5 h6 h7 B v u n m xs ys hG hV one hl hby hB
    unfold Oper.wp execOp
    simp only [ho, resolve, invoke, builtin, Sem.run_bind, Sem.run_pure, Result.andThen_ok, List.map_toArray, List.map_cons, List.map_nil, hv, hu, hr]
    exact hK _ _ (h v' w' r1 r2 r3)
/-- The cells of a list whose elements have so many each. -/
def flatC {α : Type} (f : α → List Value) (l : List α) : List Value := l.flatMap f
theorem flatC_length {α : Type} {f : α → List Value} {s : Nat} (hf : ∀ x, (f x).length = s) : ∀ l : List α, (flatC f l).length = l.length * s
  | [] => by simp [flatC]
  | x :: l => by
    have h := flatC_length hf l
    unfold flatC at h ⊢
    rw [List.flatMap_cons, List.length_append, h, hf, List.length_cons, Nat.add_mul, Nat.one_mul, Nat.add_comm]
theorem flatC_append {α : Type} (f : α → List Value) (l m : List α) : flatC f (l ++ m) = flatC f l ++ flatC f m := by simp [flatC, List.flatMap_append]
theorem flatC_one {α : Type} (f : α → List Value) (x : α) : flatC f [x] = f x := by simp [flatC]
theorem flatC_at {α : Type} {f : α → List Value} {s : Nat} (hf : ∀ x, (f x).length = s) : ∀ (l : List α) (k : Nat) (hk : k < l.length) (j : Nat), j < s → (flatC f l)[k * s + j]? = (f l[k])[j]?
  | x :: l, 0, _, j, hj => by
    show (flatC f (x :: l))[0 * s + j]? = (f x)[j]?
    rw [Nat.zero_mul, Nat.zero_add]
    unfold flatC
    rw [List.flatMap_cons, List.getElem?_append_left (by rw [hf]; exact hj)]
  | x :: l, k + 1, hk, j, hj => by
    have h := flatC_at hf l k (by simpa using hk) j hj
    show (flatC f (x :: l))[(k + 1) * s + j]? = (f (l[k]'(by simpa using hk)))[j]?
    rw [← h]
    unfold flatC
    rw [List.flatMap_cons, List.getElem?_append_right (by rw [hf, Nat.add_mul]; omega), hf]
    congr 1
    rw [Nat.add_mul]
    omega
theorem flatC_all {α : Type} {f : α → List Value} {p : Value → Prop} (hf : ∀ x, ∀ u ∈ f x, p u) (l : List α) : ∀ u ∈ flatC f l, p u := fun u hu => by
  obtain ⟨x, _, hx⟩ := List.mem_flatMap.1 hu
  exact hf x u hx
/-- An element of a list in memory, cell by cell. -/
theorem Vec.at_ {α : Type} {f : α → List Value} {s : Nat} (hf : ∀ x, (f x).length = s) {W : World} {v : Value} {l : List α} (h : Vec W v l.length s (flatC f l)) (k : Nat) (hk : k < l.length) :
    ∃ b off cap, v = .slice (some ⟨b, off, none⟩) l.length cap ∧ b < W.heap.size ∧ W.rangeAt b (off + k * s) (f l[k]) := by
  obtain ⟨-, a, cap, hv, -, hj⟩ := h
  obtain ⟨b, off, ha, hb, hx⟩ := hj (by omega)
  refine ⟨b, off, cap, by rw [hv, ha], hb, fun j y hy => ?_⟩
  have hjs : j < s := by rw [← hf l[k]]; exact (List.getElem?_eq_some_iff.1 hy).1
  rw [Nat.add_assoc]
  exact hx _ _ ((flatC_at hf l k hk j hjs).trans hy)
theorem Vec.of_at {α : Type} {f : α → List Value} {s : Nat} (hf : ∀ x, (f x).length = s) (h0 : 0 < s) {W : World} {a : Option Addr} {cap : Nat} {l : List α} (hc : l.length ≤ cap) (h : 0 < l.length → ∃ b off, a = some ⟨b, off, none⟩ ∧ b < W.heap.size ∧ ∀ (k : Nat) (hk : k < l.length), W.rangeAt b (off + k * s) (f l[k])) :
    Vec W (.slice a l.length cap) l.length s (flatC f l) := by
  refine ⟨flatC_length hf l, a, cap, rfl, hc, fun hp => ?_⟩
  obtain ⟨b, off, ha, hb, hr⟩ := h hp
  refine ⟨b, off, ha, hb, fun j y hy => ?_⟩
  have hj : j < l.length * s := by rw [← flatC_length hf l]; exact (List.getElem?_eq_some_iff.1 hy).1
  have hk : j / s < l.length := Nat.div_lt_of_lt_mul (by rw [Nat.mul_comm]; exact hj)
  have e := flatC_at hf l (j / s) hk (j % s) (Nat.mod_lt _ h0)
  rw [Nat.div_add_mod' j s, hy] at e
  have := hr (j / s) hk (j % s) y e.symm
  rw [Nat.add_assoc, Nat.div_add_mod'] at this
  exact this
end Go.Proofs.YtohdgjmmekgcmaaDoor

/-
  A slice that lies anywhere in a block of its own: appended to, cut, laid; a box of five such.
-/
namespace Go.Proofs.YtohdgjmmekgcmaaDoor
open Go.RowKit Go.Shelf

theorem cells_below {B b : Nat} (hb : B ≤ b) : ∀ (vs : List Value) (o : Nat) {w W : World}, Below B w W → Below B w (W.setCells b o vs)
  | [], _, _, _, h => h
  | v :: r, o, _, _, h => cells_below hb r (o + 1) (h.setCell (p := ⟨b, o, none⟩) hb v)
theorem cells_other {b k : Nat} (hne : k ≠ b) : ∀ (vs : List Value) (o : Nat) (w : World), (w.setCells b o vs).heap[k]? = w.heap[k]?
  | [], _, _ => rfl
  | v :: r, o, w => (cells_other hne r (o + 1) (w.setCell ⟨b, o, none⟩ v)).trans (Below.heap_setCell _ _ _ _ (by simpa using hne))
/-- v is a slice of n elements of s cells, the cells xs, in block g, whose room behind may be written. -/
def RowAt (W : World) (g s : Nat) (v : Value) (n : Nat) (xs : List Value) : Prop :=
  xs.length = n * s ∧ g < W.heap.size ∧ (∀ k, W.frozen? ⟨g, k, none⟩ = false) ∧ ∃ off c, v = .slice (some ⟨g, off, none⟩) n c ∧ n ≤ c ∧
    (∀ j y, xs[j]? = some y → W.cell? ⟨g, off + j, none⟩ = some y) ∧ ∀ j, j < (c - n) * s → (W.cell? ⟨g, off + n * s + j, none⟩).isSome = true
theorem RowAt.keeps {W W' : World} {g s : Nat} {v : Value} {n : Nat} {xs : List Value} (h : RowAt W g s v n xs) (hs : g < W'.heap.size) (hk : W'.heap[g]? = W.heap[g]?) : RowAt W' g s v n xs := by
  obtain ⟨h1, h2, h3, off, c, h4, h5, h6, h7⟩ := h
  refine ⟨h1, hs, fun k => (World.frozen?_of_block (a := ⟨g, k, none⟩) hk).trans (h3 k), off, c, h4, h5, fun j y hy => (World.cell?_of_block (a := ⟨g, off + j, none⟩) hk).trans (h6 j y hy), fun j hj => ?_⟩
  rw [World.cell?_of_block (a := ⟨g, off + n * s + j, none⟩) hk]
  exact h7 j hj
theorem rowAt_own {W : World} {base : Nat} {e : TypeId} {s : Nat} {v : Value} {n : Nat} {xs : List Value} (h : W.ownsRow base e s v n xs) (h0 : 0 < n) : ∃ g, RowAt W g s v n xs ∧ base ≤ g := by
  rcases h.2 with ⟨_, e0⟩ | ⟨g, cap, cur, rfl, hb, hg, hc, hm, hz, ht⟩
  · omega
  · refine ⟨g, ⟨h.1, (Array.getElem?_eq_some_iff.1 hg).1, fun k => h.frozenAt k, 0, cap, rfl, hc, fun j y hy => ?_, fun j hj => ?_⟩, hb⟩
    · have hj : j < n * s := by rw [← h.1]; exact (List.getElem?_eq_some_iff.1 hy).1
      rw [Nat.zero_add, World.ownsRow.cellAt h j hj]
      exact hy
    · have : n * s + j < cur.size := by rw [hz]; rw [Nat.sub_mul] at hj; omega
      simp [World.cell?, hg, this]
/-- What an append of one element does. -/
theorem rowAt_append {P : Program} (w : World) (t ty e : TypeId) (i : TypeInfo) (z : Value) (s bytes : Nat) (h1 : P.underlying t = some (.slice e)) (h2 : P.info? e = some i) (h3 : i.zero = some z) (h4 : i.size = s) (h5 : i.bytes = bytes) (h6 : z.cells.size = s) (h7 : 0 < s)
    (g : Nat) (v : Value) (n : Nat) (xs ys : List Value) (h : RowAt w g s v n xs) (ad : Addr) (c : Nat) (hl : ys.length = 1 * s) (hy : ∀ j y, ys[j]? = some y → w.cell? (ad.add j) = some y) (one : ∀ u ∈ ys, u.oneCell' = true) (h63 : n + 1 ≤ maxLen) (hby : (n + 1) * bytes ≤ 140737488355328) :
    ∃ v' w' g', (Builtin.append_ #[t, t] ty #[v, .slice (some ad) 1 c]).run P w = .ok v' w' ∧ RowAt w' g' s v' (n + 1) (xs ++ ys) ∧ (g' = g ∨ w.heap.size ≤ g') ∧ w.grownBy w' (some g) := by
  obtain ⟨k1, k2, k3, off, cap, rfl, k5, k6, k7⟩ := h
  by_cases hr : n + 1 ≤ cap
  · subst h4
    have hcs : ∀ j, j < ys.length → (w.cell? ⟨g, off + n * i.size + j, none⟩).isSome = true := fun j hj => k7 j (by
      have : 1 * i.size ≤ (cap - n) * i.size := Nat.mul_le_mul_right _ (by omega)
      omega)
    have hrun := run_append_room_cells (P := P) w t ty e i h1 h2 g off n cap ad 1 c ys hl hy one hr hcs (fun j hj => k3 _)
    have hb : Below g w (w.setCells g (off + n * i.size) ys) := cells_below (Nat.le_refl _) ys _ (Below.refl _ _)
    refine ⟨_, _, g, hrun, ⟨by rw [List.length_append, k1, hl, Nat.add_mul], Nat.lt_of_lt_of_le k2 hb.size, fun k => by rw [World.frozen?_setCells]; exact k3 k, off, cap, rfl, hr, fun j y hy => ?_, fun j hj => ?_⟩, .inl rfl, ⟨hb.os, hb.tape, hb.output, hb.size, fun k hk hne => cells_other (fun e => hne (by rw [e])) ys _ w⟩⟩
    · by_cases hj : j < n * i.size
      · rw [World.cell?_setCells_out g ys _ _ _ (fun _ _ => .inl (by show off + j < _; omega))]
        rw [List.getElem?_append_left (by omega)] at hy
        exact k6 j y hy
      · rw [List.getElem?_append_right (by omega), k1] at hy
        have hj2 := (List.getElem?_eq_some_iff.1 hy)
        obtain ⟨hj3, hj4⟩ := hj2
        have := World.cell?_setCells_in g ys (off + n * i.size) w hcs (j - n * i.size) hj3
        rw [hj4, show off + n * i.size + (j - n * i.size) = off + j by omega] at this
        exact this
    · rw [World.cell?_setCells_out g ys _ _ _ (fun _ _ => .inr (by show off + n * i.size + ys.length ≤ off + (n + 1) * i.size + j; rw [hl, Nat.add_mul]; omega))]
      have := k7 (i.size + j) (by
        have e : (cap - n) * i.size = (cap - (n + 1)) * i.size + i.size := by rw [← Nat.succ_mul]; congr 1; omega
        omega)
      rwa [show off + n * i.size + (i.size + j) = off + (n + 1) * i.size + j by rw [Nat.add_mul]; omega] at this
  · have hcells : ∀ j y, xs[j]? = some y → w.cell? ((⟨g, off, none⟩ : Addr).add j) = some y := fun j y hy => by
      have e1 : (⟨g, off, none⟩ : Addr).add j = ⟨g, off + j, none⟩ := by
        unfold Addr.add; split <;> simp_all
      rw [e1]; exact k6 j y hy
    obtain ⟨v', w', hrun, r1, r2⟩ := run_append_arg_grows (P := P) w t ty e i z s bytes h1 h2 h3 h4 h5 h6 h7 ⟨g, off, none⟩ n cap xs k1 hcells ad 1 c ys hl hy (by omega) h63 hby
    obtain ⟨g', hg, hb⟩ := rowAt_own r1 (by omega)
    exact ⟨v', w', g', hrun, hg, .inr hb, ⟨r2.os, r2.tape, r2.output, r2.size, fun k hk _ => r2.block k hk (by simp)⟩⟩
/-- .. at the operation. -/
theorem wp_append_R {P : Program} {w : World} {o : Oper} {a : Act} {K : Act → World → Prop} {Q : Exit → Act → World → Prop} (sx x : Operand) (t : TypeId)
    (ho : o.op = .call { callee := .builtin .append, args := #[sx, x], argTypes := #[t, t] })
    (e : TypeId) (i : TypeInfo) (z : Value) (s bytes : Nat) (h1 : P.underlying t = some (.slice e)) (h2 : P.info? e = some i) (h3 : i.zero = some z) (h4 : i.size = s) (h5 : i.bytes = bytes) (h6 : z.cells.size = s) (h7 : 0 < s)
    (g : Nat) (v : Value) (n : Nat) (xs ys : List Value) (ad : Addr) (c : Nat) (hv : a.eval sx = v) (hu : a.eval x = .slice (some ad) 1 c) (hR : RowAt w g s v n xs) (hl : ys.length = 1 * s) (hy : ∀ j y, ys[j]? = some y → w.cell? (ad.add j) = some y) (one : ∀ u ∈ ys, u.oneCell' = true) (h63 : n + 1 ≤ maxLen) (hby : (n + 1) * bytes ≤ 140737488355328)
    (h : ∀ v' w' g', RowAt w' g' s v' (n + 1) (xs ++ ys) → (g' = g ∨ w.heap.size ≤ g') → w.grownBy w' (some g) → K (a.put o.dst v') w') : o.wp P a w K Q := by
  obtain ⟨v', w', g', hr, r1, r2, r3⟩ := rowAt_append (P := P) w t o.type e i z s bytes h1 h2 h3 h4 h5 h6 h7 g v n xs ys hR ad c hl hy one h63 hby
  unfold Oper.wp execOp
  simp only [ho, resolve, invoke, builtin, Sem.run_bind, Sem.run_pure, Result.andThen_ok, List.map_toArray, List.map_cons, List.map_nil, hv, hu, hr]
  exact h v' w' g' r1 r2 r3
/-- The last one alone. -/
theorem rowAt_last {P : Program} {t e : TypeId} {i : TypeInfo} {s : Nat} (h1 : P.underlying t = some (.slice e)) (h2 : P.info? e = some i) (h3 : i.size = s) {g : Nat} {v : Value} {n : Nat} {xs : List Value} {W : World} (h : RowAt W g s v (n + 1) xs) :
    ∃ r, (∀ w, (Instr.sliceAt t v (some (.int .i64 (n : Nat))) none none).run P w = .ok r w) ∧ ∀ W', RowAt W' g s v (n + 1) xs → RowAt W' g s r 1 (xs.drop (n * s)) := by
  obtain ⟨k1, k2, k3, off, cap, rfl, k5, k6, k7⟩ := h
  have he : P.elem t = e := by simp [Program.elem, h1]
  have ht : P.underlying t = some (.slice (P.elem t)) := by rw [he]; exact h1
  refine ⟨.slice (some ⟨g, off + n * s, none⟩) 1 (cap - n), fun w => ?_, fun W' hs' => ?_⟩
  · rw [run_sliceAt_slice w t _ _ _ _ ht, run_slice_l w t _ (n + 1) cap ht .i64 (n : Int) (by omega) (by omega), he]
    have e1 : (⟨g, off, none⟩ : Addr).add (n * s) = ⟨g, off + n * s, none⟩ := by
      unfold Addr.add; split <;> simp_all
    simp [sizeOf, typeInfo, h2, h3, sliced, Result.andThen, e1, show ¬ cap = n by omega]
  · obtain ⟨m1, m2, m3, off', cap', e', m5, m6, m7⟩ := hs'
    simp only [Value.slice.injEq, Option.some.injEq, Addr.mk.injEq] at e'
    obtain ⟨⟨-, rfl, -⟩, -, rfl⟩ := e'
    refine ⟨by rw [List.length_drop, m1, Nat.add_mul]; omega, m2, m3, _, cap - n, rfl, by omega, fun j y hy => ?_, fun j hj => ?_⟩
    · rw [List.getElem?_drop] at hy
      rw [Nat.add_assoc]
      exact m6 _ _ hy
    · have := m7 j (by rwa [show cap - (n + 1) = cap - n - 1 by omega])
      rwa [show off + (n + 1) * s + j = off + n * s + 1 * s + j by rw [Nat.add_mul]; omega] at this
/-- One of eight words, as cells. -/
abbrev cells8 (l : List Int) : List Value := (arr8 l).toList
theorem cells8_length (l : List Int) : (cells8 l).length = 8 := rfl
theorem cells8_one (l : List Int) : ∀ u ∈ cells8 l, u.oneCell' = true := by
  intro u hu
  simp only [cells8, arr8, List.mem_cons, List.not_mem_nil, or_false] at hu
  rcases hu with rfl | rfl | rfl | rfl | rfl | rfl | rfl | rfl <;> rfl
theorem rowAt_box {W : World} {b : Nat} {l : List Int} (h : Box8 W b l) : RowAt W b 8 (.slice (some ⟨b, 0, none⟩) 1 1) 1 (flatC cells8 [l]) := by
  refine ⟨by rw [flatC_one]; rfl, h.lt, fun k => by simp [World.frozen?, h], 0, 1, rfl, Nat.le_refl _, fun j y hy => ?_, fun j hj => by omega⟩
  rw [flatC_one] at hy
  simp only [World.cell?, h, Nat.zero_add]
  simpa using hy
theorem box_news {W : World} {b : Nat} {l : List Int} (h : Box8 W b l) : ∀ j y, (cells8 l)[j]? = some y → W.cell? ((⟨b, 0, none⟩ : Addr).add j) = some y := fun j y hy => by
  have e1 : (⟨b, 0, none⟩ : Addr).add j = ⟨b, j, none⟩ := by
    unfold Addr.add; split <;> simp_all
  rw [e1]
  simp only [World.cell?, h]
  simpa using hy
end Go.Proofs.YtohdgjmmekgcmaaDoor

/-
  PmemHolds: the box of five lists of lines; the invariant of its rounds.
-/
namespace Go.Proofs.YtohdgjmmekgcmaaDoor
open Go.RowKit Go.Shelf

/-- In block Y lie five slices, the first c of them lists of lines, each in a block of its own. -/
structure MayV (W : World) (F : Nat → Prop) (lo Y c : Nat) (m : May) (vs : List Value) (gs : Nat → Nat) : Prop where
  five : vs.length = 5
  box : W.heap[Y]? = some (.cells vs.toArray 52)
  low : lo ≤ Y
  out : ¬ F Y
  rest : ∀ k, c ≤ k → k < 5 → vs[k]? = some (.slice none 0 0)
  row : ∀ k, k < c → ∃ v, vs[k]? = some v ∧ RowAt W (gs k) 8 v (m k).length (flatC cells8 (m k))
  far : ∀ k, k < c → lo ≤ gs k ∧ ¬ F (gs k) ∧ gs k ≠ Y ∧ ∀ j, j < c → j ≠ k → gs j ≠ gs k
section
variable {W W' : World} {F : Nat → Prop} {lo Y c : Nat} {m : May} {vs : List Value} {gs : Nat → Nat}
theorem MayV.lt (h : MayV W F lo Y c m vs gs) : Y < W.heap.size := (Array.getElem?_eq_some_iff.1 h.box).1
theorem MayV.frame (h : MayV W F lo Y c m vs gs) (hs : W.heap.size ≤ W'.heap.size) (hk : ∀ b, b < W.heap.size → ¬ F b → W'.heap[b]? = W.heap[b]?) : MayV W' F lo Y c m vs gs :=
  ⟨h.five, (hk Y h.lt h.out).trans h.box, h.low, h.out, h.rest, fun k hkc => by
    obtain ⟨v, h1, h2⟩ := h.row k hkc
    exact ⟨v, h1, h2.keeps (Nat.lt_of_lt_of_le h2.2.1 hs) (hk _ h2.2.1 (h.far k hkc).2.1)⟩, h.far⟩
theorem MayV.turn (h : MayV W F lo Y c m vs gs) (ht : Turn F W W') : MayV W' F lo Y c m vs gs := h.frame ht.size ht.block
theorem MayV.below (h : MayV W F lo Y c m vs gs) (hb : Below W.heap.size W W') : MayV W' F lo Y c m vs gs := h.frame hb.size fun b hl _ => hb.block b hl
theorem MayV.more (h : MayV W F lo Y c m vs gs) (W' : World) : MayV W (more F W W') lo Y c m vs gs :=
  ⟨h.five, h.box, h.low, fun hn => hn.elim h.out fun e => absurd h.lt (by omega), h.rest, h.row, fun k hkc => by
    obtain ⟨h1, h2, h3, h4⟩ := h.far k hkc
    obtain ⟨v, -, hr⟩ := h.row k hkc
    exact ⟨h1, fun hn => hn.elim h2 fun e => absurd hr.2.1 (by omega), h3, h4⟩⟩
theorem MayV.cell (h : MayV W F lo Y c m vs gs) {k : Nat} {v : Value} (hv : vs[k]? = some v) : W.cell? ⟨Y, k, none⟩ = some v := by
  simp only [World.cell?, h.box]
  simpa using hv
theorem MayV.frozen (h : MayV W F lo Y c m vs gs) (k : Nat) : W.frozen? ⟨Y, k, none⟩ = false := by simp [World.frozen?, h.box]
/-- One list made another. -/
def updM (m : May) (k : Nat) (l : List (List Int)) : May := fun j => if j = k then l else m j
theorem updM_same (m : May) (k : Nat) (l : List (List Int)) : updM m k l k = l := if_pos rfl
/-- The k-th slice is stored: a list in its old block, or in a new one. -/
theorem MayV.put (h : MayV W F lo Y c m vs gs) {k g' : Nat} {v' : Value} {l : List (List Int)} (hk : k < c) (hc : c ≤ 5) (live : ∀ b, F b → b < W.heap.size) (hrow : RowAt W' g' 8 v' l.length (flatC cells8 l)) (hg : g' = gs k ∨ W.heap.size ≤ g') (hW : W.grownBy W' (some (gs k))) :
    MayV (W'.setCell ⟨Y, k, none⟩ v') F lo Y c (updM m k l) (vs.set k v') (fun j => if j = k then g' else gs j) := by
  obtain ⟨f1, f2, f3, f4⟩ := h.far k hk
  have hYW : W'.heap[Y]? = some (.cells vs.toArray 52) := (hW.block Y h.lt (fun e => f3 (Option.some.inj e).symm)).trans h.box
  have hother : ∀ b, b ≠ Y → (W'.setCell ⟨Y, k, none⟩ v').heap[b]? = W'.heap[b]? := fun b hb => Below.heap_setCell _ _ _ _ (by simpa using hb)
  have hsz : (W'.setCell ⟨Y, k, none⟩ v').heap.size = W'.heap.size := by simp
  have hlt := h.lt
  have hgY : g' ≠ Y := by
    rcases hg with rfl | hg
    · exact f3
    · omega
  refine ⟨by rw [List.length_set]; exact h.five, ?_, h.low, h.out, fun j hj hj5 => ?_, fun j hj => ?_, fun j hj => ?_⟩
  · rw [setCell_eq_setRow W' Y k _ _ _ _ hYW, setRow_heap W' Y _ _ _ _ hYW]
    simp
  · rw [List.getElem?_set_ne (by omega)]
    exact h.rest j hj hj5
  · by_cases ej : j = k
    · subst ej
      refine ⟨v', by rw [List.getElem?_set_self (by rw [h.five]; omega)], ?_⟩
      rw [updM_same, if_pos rfl]
      exact hrow.keeps (by rw [hsz]; exact hrow.2.1) (hother _ hgY)
    · obtain ⟨v, h1, h2⟩ := h.row j hj
      refine ⟨v, by rw [List.getElem?_set_ne (Ne.symm ej)]; exact h1, ?_⟩
      simp only [updM, if_neg ej]
      have e1 : W'.heap[gs j]? = W.heap[gs j]? := hW.block _ h2.2.1 (fun e => f4 j hj ej (Option.some.inj e))
      exact (h2.keeps (Nat.lt_of_lt_of_le h2.2.1 hW.size) e1).keeps (by rw [hsz]; exact Nat.lt_of_lt_of_le h2.2.1 hW.size) (hother _ (h.far j hj).2.2.1)
  · have hnew : ∀ i, i < c → gs i < W.heap.size := fun i hi => by
      obtain ⟨v, -, h2⟩ := h.row i hi
      exact h2.2.1
    by_cases ej : j = k
    · subst ej
      simp only [if_pos]
      refine ⟨?_, ?_, hgY, fun i hi hij => ?_⟩
      · rcases hg with rfl | hg
        · exact f1
        · exact Nat.le_trans h.low (by omega)
      · rcases hg with rfl | hg
        · exact f2
        · exact fun hn => absurd (live _ hn) (by omega)
      · rw [if_neg hij]
        rcases hg with rfl | hg
        · exact f4 i hi hij
        · have := hnew i hi; omega
    · obtain ⟨h1, h2, h3, h4⟩ := h.far j hj
      simp only [if_neg ej]
      refine ⟨h1, h2, h3, fun i hi hij => ?_⟩
      by_cases ei : i = k
      · rw [if_pos ei]
        rcases hg with rfl | hg
        · exact Ne.symm (f4 j hj ej)
        · have := hnew j hj; omega
      · rw [if_neg ei]
        exact h4 i hi hij
/-- .. the next one, that was nil. -/
theorem MayV.push (h : MayV W F lo Y c m vs gs) {g' : Nat} {v' : Value} {l : List (List Int)} (hc : c < 5) (live : ∀ b, F b → b < W.heap.size) (hrow : RowAt W' g' 8 v' l.length (flatC cells8 l)) (hg : W.heap.size ≤ g') (hW : Below W.heap.size W W') :
    MayV (W'.setCell ⟨Y, c, none⟩ v') F lo Y (c + 1) (updM m c l) (vs.set c v') (fun j => if j = c then g' else gs j) := by
  have hYW : W'.heap[Y]? = some (.cells vs.toArray 52) := (hW.block Y h.lt).trans h.box
  have hother : ∀ b, b ≠ Y → (W'.setCell ⟨Y, c, none⟩ v').heap[b]? = W'.heap[b]? := fun b hb => Below.heap_setCell _ _ _ _ (by simpa using hb)
  have hsz : (W'.setCell ⟨Y, c, none⟩ v').heap.size = W'.heap.size := by simp
  have hlt := h.lt
  have hgY : g' ≠ Y := by omega
  have hnew : ∀ i, i < c → gs i < W.heap.size := fun i hi => by
    obtain ⟨v, -, h2⟩ := h.row i hi
    exact h2.2.1
  refine ⟨by rw [List.length_set]; exact h.five, ?_, h.low, h.out, fun j hj hj5 => ?_, fun j hj => ?_, fun j hj => ?_⟩
  · rw [setCell_eq_setRow W' Y c _ _ _ _ hYW, setRow_heap W' Y _ _ _ _ hYW]
    simp
  · rw [List.getElem?_set_ne (by omega)]
    exact h.rest j (by omega) hj5
  · by_cases ej : j = c
    · subst ej
      refine ⟨v', by rw [List.getElem?_set_self (by rw [h.five]; omega)], ?_⟩
      rw [updM_same, if_pos rfl]
      exact hrow.keeps (by rw [hsz]; exact hrow.2.1) (hother _ hgY)
    · obtain ⟨v, h1, h2⟩ := h.row j (by omega)
      refine ⟨v, by rw [List.getElem?_set_ne (Ne.symm ej)]; exact h1, ?_⟩
      simp only [updM, if_neg ej]
      exact (h2.keeps (Nat.lt_of_lt_of_le h2.2.1 hW.size) (hW.block _ h2.2.1)).keeps (by rw [hsz]; exact Nat.lt_of_lt_of_le h2.2.1 hW.size) (hother _ (h.far j (by omega)).2.2.1)
  · by_cases ej : j = c
    · subst ej
      simp only [if_pos]
      refine ⟨Nat.le_trans h.low (by omega), fun hn => absurd (live _ hn) (by omega), hgY, fun i hi hij => ?_⟩
      rw [if_neg hij]
      have := hnew i (by omega); omega
    · obtain ⟨h1, h2, h3, h4⟩ := h.far j (by omega)
      simp only [if_neg ej]
      refine ⟨h1, h2, h3, fun i hi hij => ?_⟩
      by_cases ei : i = c
      · rw [if_pos ei]
        have := hnew j (by omega); omega
      · rw [if_neg ei]
        exact h4 i (by omega) hij
end
/-- A frame for marks: none of them is one of those that may change. -/
theorem marks_frame {lo U U' : Nat} {G : Nat → Prop} {W W' : World} (hk : ∀ b, b < U → ¬ G b → W'.heap[b]? = W.heap[b]?) (hU : U ≤ U') : ∀ {ds : List Deferred}, Marks lo U ds W → (∀ x ∈ ds, ∀ D, x.target = .collected D → ¬ G D) → Marks lo U' ds W'
  | [], _, _ => trivial
  | x :: ds, ⟨D, h1, h2, h3, h4, h5⟩, hn => ⟨D, h1, h2, Nat.lt_of_lt_of_le h3 hU, (hk D h3 (hn x (by simp) D (by rw [h1]))).trans h4, marks_frame (fun b hb => hk b (Nat.lt_trans hb h3)) (Nat.le_refl _) h5 fun y hy => hn y (List.mem_cons_of_mem _ hy)⟩
theorem marks_lt {lo U : Nat} {W : World} : ∀ {ds : List Deferred}, Marks lo U ds W → ∀ x ∈ ds, ∀ D, x.target = .collected D → D < U
  | x :: ds, ⟨D, h1, h2, h3, h4, h5⟩, y, hy, D', hD => by
    rcases List.mem_cons.1 hy with rfl | hy
    · rw [h1] at hD
      cases hD
      exact h3
    · exact Nat.lt_trans (marks_lt h5 y hy D' hD) h3
/-- The device, and what may be, in the rounds of the law; what the ranges left marked. -/
def HoldI (w wr : World) (B Y c : Nat) (d : Dv) (m : May) (ds : List Deferred) : Prop :=
  ∃ F S T cS cT q vs gs, DevB wr F B S T 5 cS cT q d ∧ (∀ k, F k → w.heap.size ≤ k) ∧ MayV wr F w.heap.size Y c m vs gs ∧ Below w.heap.size w wr ∧ Marks w.heap.size wr.heap.size ds wr ∧
    ∀ x ∈ ds, ∀ D, x.target = .collected D → ¬ F D ∧ D ≠ Y ∧ ∀ k, k < c → D ≠ gs k
section
variable {w wr W' : World} {B Y c : Nat} {d : Dv} {m : May} {ds : List Deferred}
theorem HoldI.low (h : HoldI w wr B Y c d m ds) : Below w.heap.size w wr := by
  obtain ⟨F, S, T, cS, cT, q, vs, gs, hd, hF, hm, hb, hs, ho⟩ := h
  exact hb
theorem HoldI.marks (h : HoldI w wr B Y c d m ds) : Marks w.heap.size wr.heap.size ds wr := by
  obtain ⟨F, S, T, cS, cT, q, vs, gs, hd, hF, hm, hb, hs, ho⟩ := h
  exact hs
theorem HoldI.ok (h : HoldI w wr B Y c d m ds) : d.Ok 5 := by
  obtain ⟨F, S, T, cS, cT, q, vs, gs, hd, hF, hm, hb, hs, ho⟩ := h
  exact hd.ok
theorem HoldI.below (h : HoldI w wr B Y c d m ds) (hb' : Below wr.heap.size wr W') : HoldI w W' B Y c d m ds := by
  obtain ⟨F, S, T, cS, cT, q, vs, gs, hd, hF, hm, hb, hs, ho⟩ := h
  exact ⟨F, S, T, cS, cT, q, vs, gs, hd.below hb', hF, hm.below hb', hb.trans (hb'.mono hb.size), (hs.below hb').more hb'.size, ho⟩
/-- One mark more. -/
theorem HoldI.mark (h : HoldI w wr B Y c d m ds) (hb' : Below wr.heap.size wr W') {D : Nat} (hD : wr.heap.size ≤ D) (hD' : W'.heap[D]? = some (.deferred (some []))) : HoldI w W' B Y c d m ({ target := .collected D, args := #[] } :: ds) := by
  have hlt := (Array.getElem?_eq_some_iff.1 hD').1
  obtain ⟨F, S, T, cS, cT, q, vs, gs, hd, hF, hm, hb, hs, ho⟩ := h
  refine ⟨F, S, T, cS, cT, q, vs, gs, hd.below hb', hF, hm.below hb', hb.trans (hb'.mono hb.size), ⟨D, rfl, Nat.le_trans hb.size hD, hlt, hD', (hs.below hb').more hD⟩, fun x hx D' hx' => ?_⟩
  rcases List.mem_cons.1 hx with rfl | hx
  · cases hx'
    refine ⟨fun hn => absurd (hd.live _ hn) (by omega), fun e => absurd hm.lt (by omega), fun k hk e => ?_⟩
    obtain ⟨v, -, h2⟩ := hm.row k hk
    have := h2.2.1
    omega
  · exact ho x hx D' hx'
/-- A call of the device: what it answers, and that all goes on. -/
theorem store_hold (i x : Int) (hen : Ends wr) (h : HoldI w wr B Y c d m ds) :
    Calls Tryd.prog 22 #[.pointer (some ⟨B, 0, none⟩), .int .i64 i, .int .u64 x] wr fun e w' => e = .returned (.int .i64 (errR (inR (5 * 8) i))) ∧ wr.heap.size ≤ w'.heap.size ∧ HoldI w w' B Y c (d.store 5 i x) m ds := by
  obtain ⟨F, S, T, cS, cT, q, vs, gs, hd, hF, hm, hb, hs, ho⟩ := h
  exact (store_any i x wr hen hd).mono fun e w' ⟨he, ht, hd'⟩ => ⟨he, ht.size, F, S, T, cS, cT, q, vs, gs, hd', hF, hm.turn ht, hb.trans (ht.below hF hb.size), marks_frame ht.block ht.size hs (fun x hx D e => (ho x hx D e).1), ho⟩
theorem swap_hold (i a x : Int) (hen : Ends wr) (h : HoldI w wr B Y c d m ds) :
    Calls Tryd.prog 23 #[.pointer (some ⟨B, 0, none⟩), .int .i64 i, .int .u64 a, .int .u64 x] wr fun e w' => e = .returned (.tuple #[.bool (d.swaps 5 i a), .int .i64 (errR (inR (5 * 8) i))]) ∧ wr.heap.size ≤ w'.heap.size ∧ HoldI w w' B Y c (d.swap 5 i a x) m ds := by
  obtain ⟨F, S, T, cS, cT, q, vs, gs, hd, hF, hm, hb, hs, ho⟩ := h
  exact (swap_any i a x wr hen hd).mono fun e w' ⟨he, ht, hd'⟩ => ⟨he, ht.size, F, S, T, cS, cT, q, vs, gs, hd', hF, hm.turn ht, hb.trans (ht.below hF hb.size), marks_frame ht.block ht.size hs (fun x hx D e => (ho x hx D e).1), ho⟩
theorem flush_hold (i : Int) (h : HoldI w wr B Y c d m ds) :
    Calls Tryd.prog 24 #[.pointer (some ⟨B, 0, none⟩), .int .i64 i] wr fun e w' => e = .returned (.int .i64 (errR (inR 5 i))) ∧ wr.heap.size ≤ w'.heap.size ∧ HoldI w w' B Y c (d.flush 5 i) m ds := by
  obtain ⟨F, S, T, cS, cT, q, vs, gs, hd, hF, hm, hb, hs, ho⟩ := h
  exact (flush_any i wr hd).mono fun e w' ⟨he, ht, q', hd'⟩ => ⟨he, ht.size, more F wr w', S, T, cS, cT, q', vs, gs, hd', more_low hF hb.size, (hm.more w').frame ht.size (fun b hl hn => ht.block b hl fun hf => hn (.inl hf)), hb.trans (ht.below hF hb.size), marks_frame ht.block ht.size hs (fun x hx D e => (ho x hx D e).1), fun x hx D e => ⟨fun hn => hn.elim (ho x hx D e).1 fun h => absurd (marks_lt hs x hx D e) (by omega), (ho x hx D e).2⟩⟩
theorem fence_hold (h : HoldI w wr B Y c d m ds) :
    Calls Tryd.prog 26 #[.pointer (some ⟨B, 0, none⟩)] wr fun e w' => e = .returned (.int .i64 0) ∧ wr.heap.size ≤ w'.heap.size ∧ HoldI w w' B Y c d.fence m ds := by
  obtain ⟨F, S, T, cS, cT, q, vs, gs, hd, hF, hm, hb, hs, ho⟩ := h
  exact (fence_any wr hd).mono fun e w' ⟨he, ht, q', hd'⟩ => ⟨he, ht.size, F, S, T, cS, cT, q', vs, gs, hd', hF, hm.turn ht, hb.trans (ht.below hF hb.size), marks_frame ht.block ht.size hs (fun x hx D e => (ho x hx D e).1), ho⟩
theorem evict_hold (i : Int) (h : HoldI w wr B Y c d m ds) :
    Calls Tryd.prog 27 #[.pointer (some ⟨B, 0, none⟩), .int .i64 i] wr fun e w' => e = .returned (.int .i64 (errR (inR 5 i))) ∧ wr.heap.size ≤ w'.heap.size ∧ HoldI w w' B Y c (d.evict 5 i) m ds := by
  obtain ⟨F, S, T, cS, cT, q, vs, gs, hd, hF, hm, hb, hs, ho⟩ := h
  exact (evict_any i wr hd).mono fun e w' ⟨he, ht, q', hd'⟩ => ⟨he, ht.size, F, S, T, cS, cT, q', vs, gs, hd', hF, hm.turn ht, hb.trans (ht.below hF hb.size), marks_frame ht.block ht.size hs (fun x hx D e => (ho x hx D e).1), ho⟩
/-- .. and what was made since the round began stays. -/
theorem evict_keep {W : World} (i : Int) (h : HoldI w wr B Y c d m ds) (hW : Below wr.heap.size wr W) :
    Calls Tryd.prog 27 #[.pointer (some ⟨B, 0, none⟩), .int .i64 i] W fun e w' => e = .returned (.int .i64 (errR (inR 5 i))) ∧ W.heap.size ≤ w'.heap.size ∧ HoldI w w' B Y c (d.evict 5 i) m ds ∧ ∀ b, wr.heap.size ≤ b → b < W.heap.size → w'.heap[b]? = W.heap[b]? := by
  have h2 := h.below hW
  obtain ⟨F, S, T, cS, cT, q, vs, gs, hd, hF, hm, hb, hs, ho⟩ := h
  have hb2 := h2.low
  exact (evict_any i W (hd.below hW)).mono fun e w' ⟨he, ht, q', hd'⟩ => ⟨he, ht.size, ⟨F, S, T, cS, cT, q', vs, gs, hd', hF, (hm.below hW).turn ht, hb2.trans (ht.below hF hb2.size), marks_frame ht.block ht.size ((hs.below hW).more hW.size) (fun x hx D e => (ho x hx D e).1), ho⟩, fun b h1 h2 => ht.block b h2 fun hn => absurd (hd.live b hn) (by omega)⟩
theorem fence_keep {W : World} (h : HoldI w wr B Y c d m ds) (hW : Below wr.heap.size wr W) :
    Calls Tryd.prog 26 #[.pointer (some ⟨B, 0, none⟩)] W fun e w' => e = .returned (.int .i64 0) ∧ W.heap.size ≤ w'.heap.size ∧ HoldI w w' B Y c d.fence m ds ∧ ∀ b, wr.heap.size ≤ b → b < W.heap.size → w'.heap[b]? = W.heap[b]? := by
  have h2 := h.below hW
  obtain ⟨F, S, T, cS, cT, q, vs, gs, hd, hF, hm, hb, hs, ho⟩ := h
  have hb2 := h2.low
  exact (fence_any W (hd.below hW)).mono fun e w' ⟨he, ht, q', hd'⟩ => ⟨he, ht.size, ⟨F, S, T, cS, cT, q', vs, gs, hd', hF, (hm.below hW).turn ht, hb2.trans (ht.below hF hb2.size), marks_frame ht.block ht.size ((hs.below hW).more hW.size) (fun x hx D e => (ho x hx D e).1), ho⟩, fun b h1 h2 => ht.block b h2 fun hn => absurd (hd.live b hn) (by omega)⟩
theorem flush_keep {W : World} (i : Int) (h : HoldI w wr B Y c d m ds) (hW : Below wr.heap.size wr W) :
    Calls Tryd.prog 24 #[.pointer (some ⟨B, 0, none⟩), .int .i64 i] W fun e w' => e = .returned (.int .i64 (errR (inR 5 i))) ∧ W.heap.size ≤ w'.heap.size ∧ HoldI w w' B Y c (d.flush 5 i) m ds ∧ ∀ b, wr.heap.size ≤ b → b < W.heap.size → w'.heap[b]? = W.heap[b]? := by
  have h2 := h.below hW
  obtain ⟨F, S, T, cS, cT, q, vs, gs, hd, hF, hm, hb, hs, ho⟩ := h
  have hb2 := h2.low
  have hsW : Marks w.heap.size W.heap.size ds W := (hs.below hW).more hW.size
  exact (flush_any i W (hd.below hW)).mono fun e w' ⟨he, ht, q', hd'⟩ => ⟨he, ht.size, ⟨more F W w', S, T, cS, cT, q', vs, gs, hd', more_low hF hb2.size, ((hm.below hW).more w').frame ht.size (fun b hl hn => ht.block b hl fun hf => hn (.inl hf)), hb2.trans (ht.below hF hb2.size), marks_frame ht.block ht.size hsW (fun x hx D e => (ho x hx D e).1), fun x hx D e => ⟨fun hn => hn.elim (ho x hx D e).1 fun h => absurd (marks_lt hsW x hx D e) (by omega), (ho x hx D e).2⟩⟩, fun b h1 h2 => ht.block b h2 fun hn => absurd (hd.live b hn) (by omega)⟩
theorem line_hold {k : Nat} (hk : k < 5) (hen : Ends wr) (h : HoldI w wr B Y c d m ds) :
    Calls Tryd.prog 25 #[.pointer (some ⟨B, 0, none⟩), .int .i64 (k : Nat)] wr fun e w' => e = .returned (.agg (arr8 (lineAt d.seen k))) ∧ Below wr.heap.size wr w' := by
  obtain ⟨F, S, T, cS, cT, q, vs, gs, hd, hF, hm, hb, hs, ho⟩ := h
  exact line_own hk wr hen hd
/-- Where the k-th slice lies, and that it may be stored there. -/
def SlotAt (w wr : World) (B Y c : Nat) (d : Dv) (m : May) (ds : List Deferred) (k : Nat) (v : Value) (g : Nat) : Prop :=
  wr.cell? ⟨Y, k, none⟩ = some v ∧ wr.frozen? ⟨Y, k, none⟩ = false ∧ Y < wr.heap.size ∧ w.heap.size ≤ Y ∧ RowAt wr g 8 v (m k).length (flatC cells8 (m k)) ∧ g ≠ Y ∧
    ∀ W' g' v' l, RowAt W' g' 8 v' l.length (flatC cells8 l) → (g' = g ∨ wr.heap.size ≤ g') → wr.grownBy W' (some g) → HoldI w (W'.setCell ⟨Y, k, none⟩ v') B Y c d (updM m k l) ds
theorem slot_of {F : Nat → Prop} {S T cS cT : Nat} {q v : Value} {vs : List Value} {gs : Nat → Nat} (hd : DevB wr F B S T 5 cS cT q d) (hF : ∀ k, F k → w.heap.size ≤ k) (hm : MayV wr F w.heap.size Y c m vs gs) (hb : Below w.heap.size w wr) (hs : Marks w.heap.size wr.heap.size ds wr)
    (ho : ∀ x ∈ ds, ∀ D, x.target = .collected D → ¬ F D ∧ D ≠ Y ∧ ∀ k, k < c → D ≠ gs k) (hc : c ≤ 5) {k : Nat} (hk : k < c) (h1 : vs[k]? = some v) (h2 : RowAt wr (gs k) 8 v (m k).length (flatC cells8 (m k))) : SlotAt w wr B Y c d m ds k v (gs k) := by
  obtain ⟨f1, f2, f3, f4⟩ := hm.far k hk
  refine ⟨hm.cell h1, hm.frozen k, hm.lt, hm.low, h2, f3, fun W' g' v' l hrow hg hW => ?_⟩
  have hlt := hm.lt
  have hlo := hm.low
  have hother : ∀ b, b ≠ Y → (W'.setCell ⟨Y, k, none⟩ v').heap[b]? = W'.heap[b]? := fun b hb => Below.heap_setCell _ _ _ _ (by simpa using hb)
  refine ⟨F, S, T, cS, cT, q, _, _, hd.keeps (fun b hb' hl => ?_) (by simpa using hW.size), hF, hm.put hk hc hd.live hrow hg hW, ?_, marks_frame (G := fun b => b = gs k ∨ b = Y) (fun b hl hn => ?_) (by simpa using hW.size) hs (fun x hx D e => ?_), fun x hx D e => ?_⟩
  · rw [hother b (fun e => hm.out (e ▸ hb'))]
    exact hW.block b hl (fun e => f2 (Option.some.inj e ▸ hb'))
  · refine Below.setCell (p := ⟨Y, k, none⟩) ?_ hlo _
    exact ⟨hW.os.trans hb.os, hW.tape.trans hb.tape, hW.output.trans hb.output, Nat.le_trans hb.size hW.size, fun b hl => (hW.block b (Nat.lt_of_lt_of_le hl hb.size) (fun e => absurd f1 (by rw [← Option.some.inj e]; omega))).trans (hb.block b hl)⟩
  · rw [hother b (fun e => hn (.inr e))]
    exact hW.block b hl (fun e => hn (.inl (Option.some.inj e)))
  · obtain ⟨o1, o2, o3⟩ := ho x hx D e
    exact fun hn => hn.elim (fun e => o3 k hk e) o2
  · obtain ⟨o1, o2, o3⟩ := ho x hx D e
    refine ⟨o1, o2, fun j hj => ?_⟩
    have := marks_lt hs x hx D e
    by_cases ej : j = k
    · simp only [if_pos ej]
      rcases hg with rfl | hg
      · exact o3 k hk
      · omega
    · simp only [if_neg ej]
      exact o3 j hj
theorem HoldI.slot (h : HoldI w wr B Y c d m ds) (hc : c ≤ 5) {k : Nat} (hk : k < c) : ∃ v g, SlotAt w wr B Y c d m ds k v g := by
  obtain ⟨F, S, T, cS, cT, q, vs, gs, hd, hF, hm, hb, hs, ho⟩ := h
  obtain ⟨v, h1, h2⟩ := hm.row k hk
  exact ⟨v, gs k, slot_of hd hF hm hb hs ho hc hk h1 h2⟩
/-- A line is flushed: the slots lie as they lay. -/
theorem flush_slots {W : World} (i : Int) (hc : c ≤ 5) (h : HoldI w wr B Y c d m ds) (hW : Below wr.heap.size wr W) :
    Calls Tryd.prog 24 #[.pointer (some ⟨B, 0, none⟩), .int .i64 i] W fun e w' => e = .returned (.int .i64 (errR (inR 5 i))) ∧ W.heap.size ≤ w'.heap.size ∧ HoldI w w' B Y c (d.flush 5 i) m ds ∧ (∀ b, wr.heap.size ≤ b → b < W.heap.size → w'.heap[b]? = W.heap[b]?) ∧
      ∀ k, k < c → ∃ v g, SlotAt w w' B Y c (d.flush 5 i) m ds k v g ∧ g < wr.heap.size := by
  have h2 := h.below hW
  obtain ⟨F, S, T, cS, cT, q, vs, gs, hd, hF, hm, hb, hs, ho⟩ := h
  have hb2 := h2.low
  have hsW : Marks w.heap.size W.heap.size ds W := (hs.below hW).more hW.size
  refine (flush_any i W (hd.below hW)).mono fun e w' ⟨he, ht, q', hd'⟩ => ?_
  have hF' := more_low (W' := w') hF hb2.size
  have hm' : MayV w' (more F W w') w.heap.size Y c m vs gs := ((hm.below hW).more w').frame ht.size (fun b hl hn => ht.block b hl fun hf => hn (.inl hf))
  have hb' := hb2.trans (ht.below hF hb2.size)
  have hs' : Marks w.heap.size w'.heap.size ds w' := marks_frame ht.block ht.size hsW (fun x hx D e => (ho x hx D e).1)
  have ho' : ∀ x ∈ ds, ∀ D, x.target = .collected D → ¬ more F W w' D ∧ D ≠ Y ∧ ∀ k, k < c → D ≠ gs k := fun x hx D e => ⟨fun hn => hn.elim (ho x hx D e).1 fun h => absurd (marks_lt hsW x hx D e) (by omega), (ho x hx D e).2⟩
  refine ⟨he, ht.size, ⟨_, S, T, cS, cT, q', vs, gs, hd', hF', hm', hb', hs', ho'⟩, fun b h1 h2 => ht.block b h2 fun hn => absurd (hd.live b hn) (by omega), fun k hk => ?_⟩
  obtain ⟨v, h1, h2⟩ := hm'.row k hk
  obtain ⟨v0, -, h3⟩ := hm.row k hk
  exact ⟨v, gs k, slot_of hd' hF' hm' hb' hs' ho' hc hk h1 h2, h3.2.1⟩
theorem SlotAt.below {k g : Nat} {v : Value} (h : SlotAt w wr B Y c d m ds k v g) (hb : Below wr.heap.size wr W') : SlotAt w W' B Y c d m ds k v g := by
  obtain ⟨s1, s2, s3, s4, s5, s6, s7⟩ := h
  refine ⟨(World.cell?_of_block (a := ⟨Y, k, none⟩) (hb.block _ s3)).trans s1, (World.frozen?_of_block (a := ⟨Y, k, none⟩) (hb.block _ s3)).trans s2, Nat.lt_of_lt_of_le s3 hb.size, s4, s5.keeps (Nat.lt_of_lt_of_le s5.2.1 hb.size) (hb.block _ s5.2.1), s6, fun W2 g' v' l hr hg hw => s7 W2 g' v' l hr (hg.imp id fun h => Nat.le_trans hb.size h) ⟨hw.os.trans hb.os, hw.tape.trans hb.tape, hw.output.trans hb.output, Nat.le_trans hb.size hw.size, fun b hl hn => (hw.block b (Nat.lt_of_lt_of_le hl hb.size) hn).trans (hb.block b hl)⟩⟩
end
end Go.Proofs.YtohdgjmmekgcmaaDoor

/-
  Medias compared.
-/
namespace Go.Proofs.YtohdgjmmekgcmaaDoor
open Go.RowKit Go.Shelf

theorem fieldsM : (Tryd.prog.fieldsOf 62).toList.map (fun f => (f.name, f.type, f.offset)) = [("Lines", 3, 0), ("Waiting", 3, 1), ("Dirty", 3, 2)] := by kernel_rfl
theorem three_of_map {α β : Type} {g : α → β} {l : List α} {a b c : β} (h : l.map g = [a, b, c]) : ∃ x y z, l = [x, y, z] ∧ g x = a ∧ g y = b ∧ g z = c := by
  match l, h with
  | [x, y, z], h => simp at h; exact ⟨x, y, z, rfl, h.1, h.2.1, h.2.2⟩
theorem equal_media (a b c a' b' c' : Int) (w : World) : (Op.equalIn 10000 62 (.agg #[.int .i64 a, .int .i64 b, .int .i64 c]) (.agg #[.int .i64 a', .int .i64 b', .int .i64 c'])).run Tryd.prog w = .ok (a == a' && (b == b' && c == c')) w := by
  obtain ⟨f1, f2, f3, hf, h1, h2, h3⟩ := three_of_map fieldsM
  rw [run_equalIn_agg w 9999 62 _ _ (by kernel_rfl) (by kernel_rfl), hf]
  simp only [Prod.mk.injEq] at h1 h2 h3
  obtain ⟨n1, t1, o1⟩ := h1
  obtain ⟨n2, t2, o2⟩ := h2
  obtain ⟨n3, t3, o3⟩ := h3
  have e0 : ∀ x y z : Int, (part 3 #[.int .i64 x, .int .i64 y, .int .i64 z] 0).run Tryd.prog w = .ok (.int .i64 x) w := fun x y z => by simp [part, isAgg, run_underlying Tryd.underlying3]
  have e1 : ∀ x y z : Int, (part 3 #[.int .i64 x, .int .i64 y, .int .i64 z] 1).run Tryd.prog w = .ok (.int .i64 y) w := fun x y z => by simp [part, isAgg, run_underlying Tryd.underlying3]
  have e2 : ∀ x y z : Int, (part 3 #[.int .i64 x, .int .i64 y, .int .i64 z] 2).run Tryd.prog w = .ok (.int .i64 z) w := fun x y z => by simp [part, isAgg, run_underlying Tryd.underlying3]
  have q := fun x y : Int => run_equalIn_int (P := Tryd.prog) w 9998 3 .i64 .i64 x y Tryd.underlying3
  simp only [Op.eqFields, n1, n2, n3, t1, t2, t3, o1, o2, o3, ne_eq, String.reduceEq, not_false_eq_true, if_true, Sem.run_bind, e0, q, Result.andThen_ok]
  cases h1 : (a == a') with
  | false => simp
  | true =>
    simp only [Bool.not_true, Bool.false_eq_true, if_false, Sem.run_bind, e1, q, Result.andThen_ok]
    cases h2 : (b == b') with
    | false => simp
    | true =>
      simp only [Bool.not_true, Bool.false_eq_true, if_false, Sem.run_bind, e2, q, Result.andThen_ok]
      cases h3 : (c == c') <;> simp
theorem neq_media (a b c a' b' c' : Int) (w : World) : (binOp .neq 62 (.agg #[.int .i64 a, .int .i64 b, .int .i64 c]) (.agg #[.int .i64 a', .int .i64 b', .int .i64 c'])).run Tryd.prog w = .ok (.bool (!(a == a' && (b == b' && c == c')))) w := by
  rw [run_neq_struct, equal_media]
  rfl
theorem eql_media (a b c a' b' c' : Int) (w : World) : (binOp .eql 62 (.agg #[.int .i64 a, .int .i64 b, .int .i64 c]) (.agg #[.int .i64 a', .int .i64 b', .int .i64 c'])).run Tryd.prog w = .ok (.bool (a == a' && (b == b' && c == c'))) w := by
  rw [run_eql_struct, equal_media]
  rfl
end Go.Proofs.YtohdgjmmekgcmaaDoor

/-
  Devices all of whose blocks lie from a place on; calls of them; the ends of law PmemAll.
-/
namespace Go.Proofs.YtohdgjmmekgcmaaDoor
open Go.RowKit Go.Shelf

/-- A device in block B, all of whose blocks lie from lo on. -/
def DevIn (w : World) (lo n B : Nat) (d : Dv) : Prop := ∃ F S T cS cT q, DevB w F B S T n cS cT q d ∧ ∀ k, F k → lo ≤ k
section
variable {w w' : World} {lo n B : Nat} {d : Dv}
theorem DevIn.below (h : DevIn w lo n B d) (hb : Below w.heap.size w w') : DevIn w' lo n B d := by
  obtain ⟨F, S, T, cS, cT, q, hd, hF⟩ := h
  exact ⟨F, S, T, cS, cT, q, hd.below hb, hF⟩
theorem DevIn.lower {lo' : Nat} (h : DevIn w lo n B d) (hl : lo' ≤ lo) : DevIn w lo' n B d := by
  obtain ⟨F, S, T, cS, cT, q, hd, hF⟩ := h
  exact ⟨F, S, T, cS, cT, q, hd, fun k hk => Nat.le_trans hl (hF k hk)⟩
theorem DevIn.ok (h : DevIn w lo n B d) : d.Ok n := by
  obtain ⟨F, S, T, cS, cT, q, hd, hF⟩ := h
  exact hd.ok
theorem SlB.mono {F F' : Nat → Prop} {v : Value} {l : List Bool} (h : SlB w F v l) (hF : ∀ k, F' k → F k) : SlB w F' v l := by
  obtain ⟨a, cap, hv, hc⟩ := h
  refine ⟨a, cap, hv, fun h0 => ?_⟩
  obtain ⟨b, off, ha, hb, hn, hj⟩ := hc h0
  exact ⟨b, off, ha, hb, fun h => hn (hF _ h), hj⟩
theorem Turn.of_low (hb : Below lo w w') : Turn (fun k => lo ≤ k) w w' := ⟨hb.os, hb.tape, hb.output, hb.size, fun k _ hn => hb.block k (by omega)⟩
theorem SlB.low {v : Value} {l : List Bool} (h : SlB w (fun k => lo ≤ k) v l) (hb : Below lo w w') : SlB w' (fun k => lo ≤ k) v l := h.turn (Turn.of_low hb)
theorem SlA.low {v : Value} {xs : List Ask} (h : SlA w (fun k => lo ≤ k) v xs) (hb : Below lo w w') : SlA w' (fun k => lo ≤ k) v xs := h.turn (Turn.of_low hb)
theorem new_in (n : Nat) (h1 : 0 < n) (h2 : n ≤ 1024) (w : World) (hen : Ends w) :
    Calls Tryd.prog 13 #[.int .i64 n] w fun e w' => ∃ B, e = .returned (.tuple #[.pointer (some ⟨B, 0, none⟩), .int .i64 0]) ∧ Below w.heap.size w w' ∧ DevIn w' w.heap.size n B (Dv.new n) :=
  (new_any n h1 h2 w hen.room).mono fun _e _w' ⟨B, he, hb, S, T, cS, cT, q, hd⟩ => ⟨B, he, hb, _, S, T, cS, cT, q, hd, fun _ hk => hk.1⟩
theorem flush_in (i : Int) (hl : lo ≤ w.heap.size) (h : DevIn w lo n B d) :
    Calls Tryd.prog 24 #[.pointer (some ⟨B, 0, none⟩), .int .i64 i] w fun e w' => e = .returned (.int .i64 (errR (inR n i))) ∧ Below lo w w' ∧ DevIn w' lo n B (d.flush n i) := by
  obtain ⟨F, S, T, cS, cT, q, hd, hF⟩ := h
  exact (flush_any i w hd).mono fun e w' ⟨he, ht, q', hd'⟩ => ⟨he, ht.below hF hl, _, S, T, cS, cT, q', hd', more_low hF hl⟩
theorem fence_in (hl : lo ≤ w.heap.size) (h : DevIn w lo n B d) :
    Calls Tryd.prog 26 #[.pointer (some ⟨B, 0, none⟩)] w fun e w' => e = .returned (.int .i64 0) ∧ Below lo w w' ∧ DevIn w' lo n B d.fence := by
  obtain ⟨F, S, T, cS, cT, q, hd, hF⟩ := h
  exact (fence_any w hd).mono fun e w' ⟨he, ht, q', hd'⟩ => ⟨he, ht.below hF hl, _, S, T, cS, cT, q', hd', hF⟩
theorem store_in (i x : Int) (hl : lo ≤ w.heap.size) (hen : Ends w) (h : DevIn w lo n B d) :
    Calls Tryd.prog 22 #[.pointer (some ⟨B, 0, none⟩), .int .i64 i, .int .u64 x] w fun e w' => e = .returned (.int .i64 (errR (inR (n * 8) i))) ∧ Below lo w w' ∧ DevIn w' lo n B (d.store n i x) := by
  obtain ⟨F, S, T, cS, cT, q, hd, hF⟩ := h
  exact (store_any i x w hen hd).mono fun e w' ⟨he, ht, hd'⟩ => ⟨he, ht.below hF hl, _, S, T, cS, cT, q, hd', hF⟩
theorem crash_in {v : Value} (marks : List Bool) (hmk : marks.length ≤ 100000) (hl : lo ≤ w.heap.size) (h : DevIn w lo n B d) (hm : SlB w (fun k => lo ≤ k) v marks) :
    Calls Tryd.prog 28 #[.pointer (some ⟨B, 0, none⟩), v] w fun e w' => e = .returned (.int .i64 0) ∧ Below lo w w' ∧ DevIn w' lo n B (d.crash marks) := by
  obtain ⟨F, S, T, cS, cT, q, hd, hF⟩ := h
  exact (crash_any marks hmk w hd (hm.mono hF)).mono fun e w' ⟨he, ht, q', hd'⟩ => ⟨he, ht.below hF hl, _, S, T, cS, cT, q', hd', hF⟩
theorem state_in (h : DevIn w lo n B d) :
    Calls Tryd.prog 29 #[.pointer (some ⟨B, 0, none⟩)] w fun e w' => e = .returned (.agg #[.int .i64 (n : Nat), .int .i64 (d.waits.length : Nat), .int .i64 (dirty d.seen d.stays n : Nat)]) ∧ Below w.heap.size w w' := by
  obtain ⟨F, S, T, cS, cT, q, hd, hF⟩ := h
  exact state_any w hd
theorem copy_in (h : DevIn w lo n B d) :
    Calls Tryd.prog 16 #[.pointer (some ⟨B, 0, none⟩)] w fun e w' => ∃ B', e = .returned (.pointer (some ⟨B', 0, none⟩)) ∧ Below w.heap.size w w' ∧ DevIn w' w.heap.size n B' d := by
  obtain ⟨F, S, T, cS, cT, q, hd, hF⟩ := h
  exact (copy_any w hd).mono fun e w' ⟨hb, B', S', T', cS', cT', q', he, hd'⟩ => ⟨B', he, hb, _, S', T', cS', cT', q', hd', fun _ hk => hk.1⟩
theorem same_in {lo' B' : Nat} {d' : Dv} (h : DevIn w lo n B d) (h' : DevIn w lo' n B' d') :
    Calls Tryd.prog 21 #[.pointer (some ⟨B, 0, none⟩), .pointer (some ⟨B', 0, none⟩)] w fun e w' => e = .returned (.bool (d.same d')) ∧ Below w.heap.size w w' := by
  obtain ⟨F, S, T, cS, cT, q, hd, hF⟩ := h
  obtain ⟨F', S', T', cS', cT', q', hd', hF'⟩ := h'
  exact (sameD_any w hd hd').mono fun e w' ⟨he, m, hm⟩ => ⟨he, by subst hm; exact below_drewN (Below.refl _ _) _⟩
theorem load_in (i : Int) (hen : Ends w) (h : DevIn w lo n B d) :
    Calls Tryd.prog 43 #[.pointer (some ⟨B, 0, none⟩), .int .i64 i] w fun e w' => e = .returned (.tuple #[.int .u64 (d.load n i), .int .i64 (errR (inR (n * 8) i))]) ∧ Below w.heap.size w w' := by
  obtain ⟨F, S, T, cS, cT, q, hd, hF⟩ := h
  exact load_any i w hen hd
theorem stays_in (i : Int) (hen : Ends w) (h : DevIn w lo n B d) :
    Calls Tryd.prog 44 #[.pointer (some ⟨B, 0, none⟩), .int .i64 i] w fun e w' => e = .returned (.tuple #[.int .u64 (d.stay n i), .int .i64 (errR (inR (n * 8) i))]) ∧ Below w.heap.size w w' := by
  obtain ⟨F, S, T, cS, cT, q, hd, hF⟩ := h
  exact stays_any i w hen hd
end
theorem same_self (d : Dv) : d.same d = true := by simp [Dv.same]
theorem all_end {d : Dv} (hok : d.Ok 5) (marks : List Bool) : (d.flushTo 5 5).fence.waits.length = 0 ∧ dirty (d.flushTo 5 5).fence.seen (d.flushTo 5 5).fence.stays 5 = 0 ∧ ((d.flushTo 5 5).fence.crash marks).same (d.flushTo 5 5).fence = true := by
  obtain ⟨h1, h2, h3⟩ := flushed_all hok
  refine ⟨by rw [h2]; rfl, by rw [h1]; exact dirty_same _ _, ?_⟩
  rw [crash_clean marks h1 h2]
  exact same_self _
end Go.Proofs.YtohdgjmmekgcmaaDoor
