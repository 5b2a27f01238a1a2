/-
  Texts Vec to WordQ, as one.
-/
import Derived.Test.YtmncoclmgcjjjaaMf6
import Derived.WalkSpells
import Derived.Sort.EncStr
import Derived.Lib.OthersKept
import Derived.Lib.Strings
import Derived.Laws.IdiomStrings
import Derived.Laws.IdiomCopy
import Derived.Laws.CopyOwn
import Derived.Laws.BytesArg
import Derived.Test.YtmncoclmgcjjjaaRows
import Derived.Laws.BitsAllLaws
/-
  Slices of elements of any number of cells: what is read (Vec), what is appended to (GrowB); append of the one to the other; clones.
-/
namespace Go.Proofs.Ytmncoclmgcjjjaa
open Go.RowKit Go.Shelf

/-- v is a slice of n elements of s cells each, which holds the cells xs. -/
def Vec (W : World) (v : Value) (n s : Nat) (xs : List Value) : Prop :=
  xs.length = n * s ∧ ∃ a cap, v = .slice a n cap ∧ n ≤ cap ∧ (0 < n → ∃ b off, a = some ⟨b, off, none⟩ ∧ b < W.heap.size ∧ ∀ j y, xs[j]? = some y → W.cell? ⟨b, off + j, none⟩ = some y)
theorem Vec.keeps {W W' : World} {v : Value} {n s : Nat} {xs : List Value} (h : Vec W v n s xs) (hk : ∀ b, b < W.heap.size → b < W'.heap.size ∧ W'.heap[b]? = W.heap[b]?) : Vec W' v n s xs := by
  obtain ⟨hl, a, cap, hv, hc, hj⟩ := h
  refine ⟨hl, a, cap, hv, hc, fun h0 => ?_⟩
  obtain ⟨b, off, ha, hb, hx⟩ := hj h0
  exact ⟨b, off, ha, (hk b hb).1, fun j y hy => (World.cell?_of_block (a := ⟨b, off + j, none⟩) (hk b hb).2).trans (hx j y hy)⟩
theorem Vec.below {W W' : World} {v : Value} {n s : Nat} {xs : List Value} (h : Vec W v n s xs) (hb : Below W.heap.size W W') : Vec W' v n s xs :=
  h.keeps fun b hl => ⟨Nat.lt_of_lt_of_le hl hb.size, hb.block b hl⟩
theorem Vec.slice {W : World} {v : Value} {n s : Nat} {xs : List Value} (h : Vec W v n s xs) : ∃ a cap, v = .slice a n cap := by
  obtain ⟨-, a, cap, hv, -⟩ := h
  exact ⟨a, cap, hv⟩
theorem vec_of_own {W : World} {base : Nat} {e : TypeId} {v : Value} {n s : Nat} {xs : List Value} (h : W.ownsRow base e s v n xs) : Vec W v n s xs := by
  refine ⟨h.1, ?_⟩
  rcases h.2 with ⟨rfl, h0⟩ | ⟨g, cap, cur, rfl, hb, hg, hc, hm, hs, ht⟩
  · exact ⟨none, 0, by rw [h0], by omega, fun h => by omega⟩
  · refine ⟨_, cap, rfl, hc, fun _ => ⟨g, 0, rfl, (Array.getElem?_eq_some_iff.1 hg).1, fun j y hy => ?_⟩⟩
    have hj : j < n * s := by rw [← h.1]; exact (List.getElem?_eq_some_iff.1 hy).1
    rw [Nat.zero_add, World.ownsRow.cellAt h j hj]
    exact hy
/-- A slice to which one appends: empty, with no room; or a row that lies from B on. -/
def GrowB (W : World) (B : Nat) (e : TypeId) (s : Nat) (v : Value) (n : Nat) (xs : List Value) : Prop :=
  (n = 0 ∧ xs = [] ∧ ∃ ad, v = .slice (some ad) 0 0) ∨ W.ownsRow B e s v n xs
theorem GrowB.vec {W : World} {B : Nat} {e : TypeId} {s : Nat} {v : Value} {n : Nat} {xs : List Value} (h : GrowB W B e s v n xs) : Vec W v n s xs := by
  rcases h with ⟨rfl, rfl, ad, rfl⟩ | h
  · exact ⟨by simp, some ad, 0, rfl, Nat.le_refl _, fun h => absurd h (by simp)⟩
  · exact vec_of_own h
theorem GrowB.keeps {W W' : World} {B : Nat} {e : TypeId} {s : Nat} {v : Value} {n : Nat} {xs : List Value} (h : GrowB W B e s v n xs) (hk : ∀ b, b < W.heap.size → W'.heap[b]? = W.heap[b]?) : GrowB W' B e s v n xs := by
  rcases h with h | ⟨hl, h⟩
  · exact .inl h
  · refine .inr ⟨hl, h.imp id fun ⟨g, cap, cur, hv, hb, hg, hr⟩ => ⟨g, cap, cur, hv, hb, ?_, hr⟩⟩
    rw [hk g (Array.getElem?_eq_some_iff.1 hg).1]
    exact hg
theorem GrowB.below {W W' : World} {B : Nat} {e : TypeId} {s : Nat} {v : Value} {n : Nat} {xs : List Value} (h : GrowB W B e s v n xs) (hb : Below W.heap.size W W') : GrowB W' B e s v n xs := h.keeps fun b hl => hb.block b hl
theorem GrowB.slice {W : World} {B : Nat} {e : TypeId} {s : Nat} {v : Value} {n : Nat} {xs : List Value} (h : GrowB W B e s v n xs) : ∃ a cap, v = .slice a n cap := h.vec.slice
theorem GrowB.low {W : World} {B B' : Nat} {e : TypeId} {s : Nat} {v : Value} {n : Nat} {xs : List Value} (h : GrowB W B e s v n xs) (hb : B' ≤ B) : GrowB W B' e s v n xs :=
  h.imp id fun h => ⟨h.1, h.2.imp id fun ⟨g, cap, cur, h1, h2, h3⟩ => ⟨g, cap, cur, h1, Nat.le_trans hb h2, h3⟩⟩
theorem GrowB.new (W : World) (B : Nat) (e : TypeId) (s : Nat) : GrowB W B e s (.slice none 0 0) 0 [] := .inr (World.ownsRow_nil _ _ _ _)
/-- What an append does: a row of both; of what there was only the old row's room is written. -/
theorem vec_append_run {P : Program} (w : World) (t ty e : TypeId) (i : TypeInfo) (z : Value) (s bytes : Nat) (h1 : P.underlying t = some (.slice e)) (h2 : P.info? e = some i) (h3 : i.zero = some z) (h4 : i.size = s) (h5 : i.bytes = bytes) (h6 : z.cells.size = s) (h7 : 0 < s)
    (B : Nat) (v u : Value) (n m : Nat) (xs ys : List Value) (hG : GrowB w B e s v n xs) (hV : Vec w u m s ys) (one : ∀ u ∈ ys, u.oneCell' = true) (hl : n + m ≤ 1000000) (hby : (n + m) * bytes ≤ 140737488355328) (hB : B ≤ w.heap.size) :
    ∃ v' w', (Builtin.append_ #[t, t] ty #[v, u]).run P w = .ok v' w' ∧ GrowB w' B e s v' (n + m) (xs ++ ys) ∧ Below B w w' ∧ w.grownBy w' v.ownBlock ∧ (∀ g, v'.ownBlock = some g → v.ownBlock = some g ∨ g = w.heap.size) ∧ (w.ownsRow B e s v n xs → w'.ownsRow B e s v' (n + m) (xs ++ ys)) := by
  obtain ⟨hlen, ad, cap, rfl, hlc, hc⟩ := hV
  rcases Nat.eq_zero_or_pos m with h0 | h0
  · subst h0
    have hys : ys = [] := List.eq_nil_of_length_eq_zero (by rw [hlen, Nat.zero_mul])
    subst hys
    have hrun : (Builtin.append_ #[t, t] ty #[v, .slice ad 0 cap]).run P w = .ok v w := by
      rcases hG with ⟨_, _, g, rfl⟩ | hG
      · cases ad <;> simp [Builtin.append_, run_underlying h1, sizeOf, typeInfo, h2, Builtin.lenOf, Builtin.firstCells, storeCells, loadCells, loadCellsFrom]
      · rcases hG.2 with ⟨rfl, e0⟩ | ⟨g, c, cur, rfl, _, _, hnc, _⟩
        · cases ad <;> simp [Builtin.append_, run_underlying h1, sizeOf, typeInfo, h2, Builtin.lenOf, Builtin.firstCells, loadCells, loadCellsFrom]
        · cases ad <;> simp [Builtin.append_, run_underlying h1, sizeOf, typeInfo, h2, Builtin.lenOf, Builtin.firstCells, hnc, storeCells, loadCells, loadCellsFrom]
    exact ⟨v, w, hrun, by rw [List.append_nil]; exact hG, Below.refl _ _, World.grownBy.refl w _, fun g h => .inl h, fun h => by rw [List.append_nil]; exact h⟩
  · obtain ⟨b, off, rfl, _, hcell⟩ := hc h0
    have hcells : ∀ j y, ys[j]? = some y → w.cell? ((⟨b, off, none⟩ : Addr).add j) = some y := fun j y hy => by
      have e1 : (⟨b, off, none⟩ : Addr).add j = ⟨b, off + j, none⟩ := by
        unfold Addr.add; split <;> simp_all
      rw [e1]
      exact hcell j y hy
    have key : ∀ (v : Value), w.ownsRow B e s v n xs → ∃ v' w', (Builtin.append_ #[t, t] ty #[v, .slice (some ⟨b, off, none⟩) m cap]).run P w = .ok v' w' ∧ w'.ownsRow B e s v' (n + m) (xs ++ ys) ∧ Below B w w' ∧ w.grownBy w' v.ownBlock ∧ ∀ g, v'.ownBlock = some g → v.ownBlock = some g ∨ g = w.heap.size := fun v hown => by
      obtain ⟨v', w', hrun, r1, r2, _, r3⟩ := run_append_own_at (P := P) w B t ty e i z s bytes h1 h2 h3 h4 h5 h6 h7 v n xs hown ⟨b, off, none⟩ m cap ys hlen hcells one (by unfold maxLen; omega) hby hB
      exact ⟨v', w', hrun, r1, (Below.refl B w).grown r2 hB fun k e => (hown.lt k e).1, r2, fun g h => r3.elim (fun e => .inl (by rw [← e]; exact h)) fun e => .inr (by rw [h] at e; exact Option.some.inj e)⟩
    rcases hG with ⟨rfl, rfl, g, rfl⟩ | hG
    · have hby2 : m * bytes ≤ 140737488355328 := by rw [Nat.zero_add] at hby; exact hby
      have hr := run_append_grow (P := P) w t ty e i z h1 h2 h3 g 0 0 [] (by simp) (by simp) ⟨b, off, none⟩ m cap ys (by rw [hlen, h4]) hcells (by omega) (by omega) (by rw [h5]; exact growslice_fits (by omega) hby)
      have hr0 := run_append_nil (P := P) w t ty e i z h1 h2 h3 ⟨b, off, none⟩ m cap ys (by rw [hlen, h4]) hcells (by omega) (by omega) (by rw [h5]; exact Nat.le_trans hby2 (by decide))
      obtain ⟨v', w', hrun, r1, r2, r3, r4⟩ := key (.slice none 0 0) (World.ownsRow_nil _ _ _ _)
      refine ⟨v', w', ?_, .inr r1, r2, ⟨r3.os, r3.tape, r3.output, r3.size, fun k hk _ => r3.block k hk (by simp [Value.ownBlock])⟩, fun g h => (r4 g h).imp (fun h => by simp [Value.ownBlock] at h) id, fun _ => r1⟩
      rw [hr, ← hrun, hr0]
      simp
    · obtain ⟨v', w', hrun, r1, r2, r3, r4⟩ := key v hG
      exact ⟨v', w', hrun, .inr r1, r2, r3, r4, fun _ => r1⟩
/-- At an append. -/
theorem wpList_append_vec {P : Program} {w : World} {ops : Array Oper} {rest : List Oper} {o : Oper} {a : Act} {Q : Exit → Act → World → Prop} (hgd : o.guard = none) (sx x : Operand) (t : TypeId)
    (ho : o.op = .call { callee := .builtin .append, args := #[sx, x], argTypes := #[t, t] }) (e : TypeId) (i : TypeInfo) (z : Value) (s bytes : Nat) (h1 : P.underlying t = some (.slice e)) (h2 : P.info? e = some i) (h3 : i.zero = some z) (h4 : i.size = s) (h5 : i.bytes = bytes) (h6 : z.cells.size = s) (h7 : 0 < s)
    (B : Nat) (v u : Value) (n m : Nat) (xs ys : List Value) (hv : a.eval sx = v) (hu : a.eval x = u) (hG : GrowB w B e s v n xs) (hV : Vec w u m s ys) (one : ∀ u ∈ ys, u.oneCell' = true) (hl : n + m ≤ 1000000) (hby : (n + m) * bytes ≤ 140737488355328) (hB : B ≤ w.heap.size)
    (h : ∀ v' w', GrowB w' B e s v' (n + m) (xs ++ ys) → Below B w w' → (w.grownBy w' v.ownBlock ∧ (∀ g, v'.ownBlock = some g → v.ownBlock = some g ∨ g = w.heap.size) ∧ (w.ownsRow B e s v n xs → w'.ownsRow B e s v' (n + m) (xs ++ ys))) → wpList P ops Q rest (a.put o.dst v') w') : wpList P ops Q (o :: rest) a w :=
  wpList_plain hgd fun K hK => by
    obtain ⟨v', w', hr, r1, r2, r3⟩ := vec_append_run (P := P) w t o.type e i z s bytes h1 h2 h3 h4 h5 h6 h7 B v u n m xs ys hG hV one hl hby hB
    unfold Oper.wp execOp
    simp only [ho, resolve, invoke, builtin, Sem.run_bind, Sem.run_pure, Result.andThen_ok, List.map_toArray, List.map_cons, List.map_nil, hv, hu, hr]
    exact hK _ _ (h v' w' r1 r2 r3)
/-- .. under a condition that holds. -/
theorem wpList_append_vecW {P : Program} {w : World} {ops : Array Oper} {rest : List Oper} {o : Oper} {a : Act} {Q : Exit → Act → World → Prop} (hwt : Region.wanted o (yielded ops a.tmps) = true) (sx x : Operand) (t : TypeId)
    (ho : o.op = .call { callee := .builtin .append, args := #[sx, x], argTypes := #[t, t] }) (e : TypeId) (i : TypeInfo) (z : Value) (s bytes : Nat) (h1 : P.underlying t = some (.slice e)) (h2 : P.info? e = some i) (h3 : i.zero = some z) (h4 : i.size = s) (h5 : i.bytes = bytes) (h6 : z.cells.size = s) (h7 : 0 < s)
    (B : Nat) (v u : Value) (n m : Nat) (xs ys : List Value) (hv : a.eval sx = v) (hu : a.eval x = u) (hG : GrowB w B e s v n xs) (hV : Vec w u m s ys) (one : ∀ u ∈ ys, u.oneCell' = true) (hl : n + m ≤ 1000000) (hby : (n + m) * bytes ≤ 140737488355328) (hB : B ≤ w.heap.size)
    (h : ∀ v' w', GrowB w' B e s v' (n + m) (xs ++ ys) → Below B w w' → (w.grownBy w' v.ownBlock ∧ (∀ g, v'.ownBlock = some g → v.ownBlock = some g ∨ g = w.heap.size) ∧ (w.ownsRow B e s v n xs → w'.ownsRow B e s v' (n + m) (xs ++ ys))) → wpList P ops Q rest (a.put o.dst v') w') : wpList P ops Q (o :: rest) a w :=
  BigFrame.wpList_want hwt fun K hK => by
    obtain ⟨v', w', hr, r1, r2, r3⟩ := vec_append_run (P := P) w t o.type e i z s bytes h1 h2 h3 h4 h5 h6 h7 B v u n m xs ys hG hV one hl hby hB
    unfold Oper.wp execOp
    simp only [ho, resolve, invoke, builtin, Sem.run_bind, Sem.run_pure, Result.andThen_ok, List.map_toArray, List.map_cons, List.map_nil, hv, hu, hr]
    exact hK _ _ (h v' w' r1 r2 r3)
/-- The cells of a list whose elements have so many each. -/
def flatC {α : Type} (f : α → List Value) (l : List α) : List Value := l.flatMap f
theorem flatC_length {α : Type} {f : α → List Value} {s : Nat} (hf : ∀ x, (f x).length = s) : ∀ l : List α, (flatC f l).length = l.length * s
  | [] => by simp [flatC]
  | x :: l => by
    have h := flatC_length hf l
    unfold flatC at h ⊢
    rw [List.flatMap_cons, List.length_append, h, hf, List.length_cons, Nat.add_mul, Nat.one_mul, Nat.add_comm]
theorem flatC_append {α : Type} (f : α → List Value) (l m : List α) : flatC f (l ++ m) = flatC f l ++ flatC f m := by simp [flatC, List.flatMap_append]
theorem flatC_one {α : Type} (f : α → List Value) (x : α) : flatC f [x] = f x := by simp [flatC]
theorem flatC_at {α : Type} {f : α → List Value} {s : Nat} (hf : ∀ x, (f x).length = s) : ∀ (l : List α) (k : Nat) (hk : k < l.length) (j : Nat), j < s → (flatC f l)[k * s + j]? = (f l[k])[j]?
  | x :: l, 0, _, j, hj => by
    show (flatC f (x :: l))[0 * s + j]? = (f x)[j]?
    rw [Nat.zero_mul, Nat.zero_add]
    unfold flatC
    rw [List.flatMap_cons, List.getElem?_append_left (by rw [hf]; exact hj)]
  | x :: l, k + 1, hk, j, hj => by
    have h := flatC_at hf l k (by simpa using hk) j hj
    show (flatC f (x :: l))[(k + 1) * s + j]? = (f (l[k]'(by simpa using hk)))[j]?
    rw [← h]
    unfold flatC
    rw [List.flatMap_cons, List.getElem?_append_right (by rw [hf, Nat.add_mul]; omega), hf]
    congr 1
    rw [Nat.add_mul]
    omega
theorem flatC_all {α : Type} {f : α → List Value} {p : Value → Prop} (hf : ∀ x, ∀ u ∈ f x, p u) (l : List α) : ∀ u ∈ flatC f l, p u := fun u hu => by
  obtain ⟨x, _, hx⟩ := List.mem_flatMap.1 hu
  exact hf x u hx
/-- An element of a list in memory, cell by cell. -/
theorem Vec.at_ {α : Type} {f : α → List Value} {s : Nat} (hf : ∀ x, (f x).length = s) {W : World} {v : Value} {l : List α} (h : Vec W v l.length s (flatC f l)) (k : Nat) (hk : k < l.length) :
    ∃ b off cap, v = .slice (some ⟨b, off, none⟩) l.length cap ∧ b < W.heap.size ∧ W.rangeAt b (off + k * s) (f l[k]) := by
  obtain ⟨-, a, cap, hv, -, hj⟩ := h
  obtain ⟨b, off, ha, hb, hx⟩ := hj (by omega)
  refine ⟨b, off, cap, by rw [hv, ha], hb, fun j y hy => ?_⟩
  have hjs : j < s := by rw [← hf l[k]]; exact (List.getElem?_eq_some_iff.1 hy).1
  rw [Nat.add_assoc]
  exact hx _ _ ((flatC_at hf l k hk j hjs).trans hy)
theorem Vec.of_at {α : Type} {f : α → List Value} {s : Nat} (hf : ∀ x, (f x).length = s) (h0 : 0 < s) {W : World} {a : Option Addr} {cap : Nat} {l : List α} (hc : l.length ≤ cap) (h : 0 < l.length → ∃ b off, a = some ⟨b, off, none⟩ ∧ b < W.heap.size ∧ ∀ (k : Nat) (hk : k < l.length), W.rangeAt b (off + k * s) (f l[k])) :
    Vec W (.slice a l.length cap) l.length s (flatC f l) := by
  refine ⟨flatC_length hf l, a, cap, rfl, hc, fun hp => ?_⟩
  obtain ⟨b, off, ha, hb, hr⟩ := h hp
  refine ⟨b, off, ha, hb, fun j y hy => ?_⟩
  have hj : j < l.length * s := by rw [← flatC_length hf l]; exact (List.getElem?_eq_some_iff.1 hy).1
  have hk : j / s < l.length := Nat.div_lt_of_lt_mul (by rw [Nat.mul_comm]; exact hj)
  have e := flatC_at hf l (j / s) hk (j % s) (Nat.mod_lt _ h0)
  rw [Nat.div_add_mod' j s, hy] at e
  have := hr (j / s) hk (j % s) y e.symm
  rw [Nat.add_assoc, Nat.div_add_mod'] at this
  exact this
end Go.Proofs.Ytmncoclmgcjjjaa

/-
  file: chunks of bytes.
-/
namespace Go.Proofs.Ytmncoclmgcjjjaa
open Go.RowKit Go.Shelf Go.Maps
attribute [local go_sem] Oper.semAt_some

/-- Eight words of some. -/
def padL (ws : List Nat) : List Int := (List.range 8).map fun j => ((ws[j]?.getD 0 : Nat) : Int)
theorem padL_length (ws : List Nat) : (padL ws).length = 8 := by simp [padL]
theorem padL_at (ws : List Nat) (j : Nat) (hj : j < 8) : (padL ws)[j]?.getD 0 = ((ws[j]?.getD 0 : Nat) : Int) := by simp [padL, List.getElem?_range hj]
/-- A chunk's cells. -/
def cL (l : List Int) : List Value := (List.range 8).map fun j => .int .u64 (l[j]?.getD 0)
theorem cL_len (l : List Int) : (cL l).length = 8 := by simp [cL]
theorem cL_one (l : List Int) : ∀ u ∈ cL l, u.oneCell' = true := by simp [cL, Value.oneCell']
theorem cL_eq {l : List Int} (h : l.length = 8) : (lnA l).toList = cL l := by
  apply List.ext_getElem
  · simp [lnA, cL, h]
  · intro j h1 h2
    have hj : j < l.length := by simpa [lnA] using h1
    simp [lnA, cL, List.getElem?_eq_getElem hj]
/-- How many chunks so many bytes have. -/
def chN (n : Nat) : Nat := (n + 63) / 64
theorem chN_need (n : Nat) : WM.need (WM.need n) = chN n := by unfold WM.need chN; omega
/-- The words of a chunk. -/
def fewN (ws : List Nat) (k : Nat) : List Nat := (ws.drop (8 * k)).take 8
theorem fewN_length (ws : List Nat) (k : Nat) : (fewN ws k).length = min 8 (ws.length - 8 * k) := by simp [fewN]
/-- The chunks of bytes. -/
def chF (xs : List Nat) : List (List Int) := (List.range (chN xs.length)).map fun k => padL (fewN (WM.wordsOf xs) k)
theorem chF_length (xs : List Nat) : (chF xs).length = chN xs.length := by simp [chF]
theorem chF_8 (xs : List Nat) : ∀ l ∈ chF xs, l.length = 8 := by
  intro l hl
  obtain ⟨k, -, rfl⟩ := List.mem_map.1 hl
  exact padL_length _
theorem infoA8 : (Try.prog.info? 43).map (fun i => (i.zero, i.size, i.bytes)) = some (some (.agg #[.int .u64 0, .int .u64 0, .int .u64 0, .int .u64 0, .int .u64 0, .int .u64 0, .int .u64 0, .int .u64 0]), 8, 64) := by kernel_rfl
theorem copy_words (dT sT ty : TypeId) (hd : Try.prog.underlying dT = some (.slice 42)) {W : World} {g dc : Nat} {ws : List Nat} {v : Value} (h : Blk W g 43 (lnA zeros8)) (hl : ws.length ≤ 8) (hs : Sl W .u64 v ws) :
    (Builtin.copy_ #[dT, sT] ty #[.slice (some ⟨g, 0, none⟩) 8 dc, v]).run Try.prog W = .ok (goInt ws.length) (W.setRow g (lnA (padL ws))) := by
  obtain ⟨i0, hi, hz0, hz1, hz2⟩ := info_parts infoU64
  obtain ⟨a, cap, rfl, hlc, hc⟩ := hs
  have e : ((lnA zeros8).toList.take 0 ++ valsOf .u64 ws ++ (lnA zeros8).toList.drop (0 + (valsOf .u64 ws).length)).toArray = lnA (padL ws) := by
    rw [valsOf_length]
    match ws, hl with
    | [], _ => rfl
    | [a], _ => rfl
    | [a, b], _ => rfl
    | [a, b, c], _ => rfl
    | [a, b, c, d], _ => rfl
    | [a, b, c, d, e], _ => rfl
    | [a, b, c, d, e, f], _ => rfl
    | [a, b, c, d, e, f, g], _ => rfl
    | [a, b, c, d, e, f, g, h], _ => rfl
  rcases a with _ | ad
  · have h0 : ws = [] := by
      rcases Nat.eq_zero_or_pos ws.length with h | h
      · exact List.eq_nil_of_length_eq_zero h
      · obtain ⟨b, off, hh, _⟩ := hc h
        cases hh
    subst h0
    have e2 : W.setRow g (lnA (padL [])) = W := setRow_self W g _ _ _ h
    rw [e2]
    simp [Builtin.copy_, run_underlying hd, Builtin.lenOf, Builtin.firstCells, sizeOf, typeInfo, hi, storeCells]
  · have hr := run_copy_row (P := Try.prog) W dT sT ty 42 g 0 8 dc ad ws.length cap (lnA zeros8) 43 (valsOf .u64 ws) hd (by rw [hi]; simp [hz1]) h
      (by rw [valsOf_length]; exact (Nat.min_eq_left hl).symm) (fun j u hj => by
        have hl2 : j < ws.length := by
          have := (List.getElem?_eq_some_iff.1 hj).1
          rwa [valsOf_length] at this
        obtain ⟨b, off, hh, _, hcell⟩ := hc (by omega)
        simp only [Option.some.injEq] at hh
        subst hh
        have e1 : (⟨b, off, none⟩ : Addr).add j = ⟨b, off + j, none⟩ := by unfold Addr.add; split <;> simp_all
        rw [e1, hcell j hl2, ← hj]
        simp [valsOf, hl2])
      (by rw [valsOf_length, lnA_size]; show 0 + ws.length ≤ 8; omega) (valsOf_one _ _)
    rw [hr, e, valsOf_length]
theorem few_sl {W : World} {g c n : Nat} {ws : List Nat} (h : Sl W .u64 (.slice (some ⟨g, 0, none⟩) ws.length c) ws) (k : Nat) (hn : n = min 8 (ws.length - 8 * k)) : Sl W .u64 (.slice (some ⟨g, 8 * k, none⟩) n n) (fewN ws k) := by
  obtain ⟨a, cap, hv, hlc, hc⟩ := h
  have hfl := fewN_length ws k
  refine ⟨_, n, by rw [hfl, hn], by rw [hfl, hn]; exact Nat.le_refl _, fun h0 => ?_⟩
  rw [hfl] at h0
  obtain ⟨b, off, ha, hlt, hj⟩ := hc (by omega)
  simp only [Value.slice.injEq] at hv
  obtain ⟨rfl, -, rfl⟩ := hv
  simp only [Option.some.injEq, Addr.mk.injEq, and_true] at ha
  obtain ⟨rfl, rfl⟩ := ha
  refine ⟨g, 8 * k, rfl, hlt, fun j hjl => ?_⟩
  rw [hfl] at hjl
  have h2 := hj (8 * k + j) (by omega)
  rw [Nat.zero_add] at h2
  rw [h2]
  congr 3
  unfold fewN
  rw [List.getElem?_take_of_lt (by omega), List.getElem?_drop]
/-- A block that stays, and is no part of q. -/
def KeptB (g : Nat) (o : Option Obj) (q : Nat → Prop) (W : World) : Prop := W.heap[g]? = o ∧ g < W.heap.size ∧ ¬ q g
theorem abides_keptB {β : Type} (g : Nat) (o : Option Obj) : Abides (fun (_ : β) q W => KeptB g o q W) := fun _ q q' W W' hs ht hq =>
  ⟨(ht.block g hs.2.1 hs.2.2).trans hs.1, Nat.lt_of_lt_of_le hs.2.1 ht.size, fun h => (hq g h).elim hs.2.2 fun h2 => by have := hs.2.1; omega⟩
/-- In the rounds of chunks. -/
def ChuI (w : World) (n₁ b g : Nat) (o : Option Obj) (xs : List Nat) (pre : List Nat) (q : Nat → Prop) (W : World) : Prop :=
  RowG n₁ b 35 43 8 pre.length (flatC cL (pre.map fun k => padL (fewN (WM.wordsOf xs) k))) q W ∧ BelowF w.heap.size w q W ∧ KeptB g o q W
theorem abides_chui (w : World) (n₁ b g : Nat) (o : Option Obj) (xs : List Nat) : Abides (ChuI w n₁ b g o xs) := Abides.and (abides_rowG _ _ _ _ _ (fun pre : List Nat => pre.length) (fun pre => flatC cL (pre.map fun k => padL (fewN (WM.wordsOf xs) k)))) (Abides.and (Abides.below _ _) (abides_keptB _ _))
theorem cell_blk_new (w : World) (l : List Int) (h : l.length = 8) (t : TypeId) : ∀ j u, (cL l)[j]? = some u → (w.alloc (.cells (lnA l) t)).cell? ((⟨w.heap.size, 0, none⟩ : Addr).add j) = some u := by
  intro j u hj
  have e1 : (⟨w.heap.size, 0, none⟩ : Addr).add j = ⟨w.heap.size, j, none⟩ := by unfold Addr.add; split <;> simp_all
  rw [e1]
  have hb := Blk.new w t (lnA l)
  rw [hb.cell]
  rw [← cL_eq h] at hj
  rw [← hj]
  simp
theorem fold_eight (X : Array Value) (h : X.size = 8) (a b c d e f g i : Value) : Array.foldl (fun cs x => cs.setIfInBounds x.snd x.fst) #[a, b, c, d, e, f, g, i] X.zipIdx 0 8 = X := by
  match X, h with
  | ⟨[x0, x1, x2, x3, x4, x5, x6, x7]⟩, _ => simp [Array.zipIdx, Array.setIfInBounds]
theorem words_bound (N x m : Nat) (pre : List Nat) (hN : N ≤ 4096) (hm : m = chN N) (h : pre ++ [x] <+: List.range m) : pre.length + 1 ≤ 100 := by
  have := h.length_le
  rw [List.length_append, List.length_singleton, List.length_range] at this
  unfold chN at hm
  omega
set_option maxRecDepth 100000 in
set_option maxHeartbeats 8000000 in
theorem chunksF_any {v : Value} {xs : List Nat} (hx : xs.length ≤ 4096) (w : World) (hv : FB w v xs) :
    Calls Try.prog 32 #[v] w fun e w' => ∃ u, e = .returned u ∧ w'.ownsRow w.heap.size 43 8 u (chN xs.length) (flatC cL (chF xs)) ∧ Below w.heap.size w w' := by
  obtain ⟨i0, hi, hz0, hz1, hz2⟩ := nd_info infoA8
  have HII := Lib.hid hi
  have HWD := Lib.hid (fun W (hb : Below w.heap.size w W) => words_anyM v xs hx hv.all W (hv.sl.below hb) hv.cap)
  obtain ⟨a, cap, rfl, -⟩ := hv.form
  obtain ⟨N, hN⟩ : ∃ N, xs.length = N := ⟨_, rfl⟩
  have HN := Lib.hid hN
  have HWL := Lib.hid (WM.wordsOf_length xs)
  rw [hN] at HWD hx HWL ⊢
  obtain ⟨W0, hW0⟩ : ∃ W0, w.alloc (.cells #[.slice none 0 0] 35) = W0 := ⟨_, rfl⟩
  have b0 : Below w.heap.size w W0 := by rw [← hW0]; exact (by repeat (first | exact Below.refl _ _ | assumption | refine Below.drew ?_ | refine below_drewN ?_ _ | refine Below.alloc ?_ (by (try simp) <;> omega) _ | refine Below.setCell ?_ (by (try simp) <;> omega) _ | refine Below.trans ?_ (Below.mono (by assumption) (by (try simp) <;> omega))))
  have j0 : Boxed W0 w.heap.size 35 (.slice none 0 0) := by rw [← hW0]; exact Boxed.new w _ _
  have HB0 := Lib.hid b0
  have HJ0 := Lib.hid j0
  have HW := Lib.hid hW0
  clear hv hN hi hW0 b0 j0
  refine (callsIn_wide (n := 9)).1 ?_
  refine callsIn_of_wp_marks Try.func32 rfl trivial ?_ rfl
  simp only [Try.ntmps32, List.size_toArray, List.length_cons, List.length_nil, Nat.reduceAdd, Nat.reduceSub, Array.replicate_succ, Array.replicate_zero, List.push_toArray, List.append_toArray, List.nil_append, List.cons_append]
  gi_wp2_with fail
  rw [HW.out]
  refine ⟨trivial, ?_⟩
  refine (callsIn_wide.2 (HWD.out W0 HB0.out)).mono ?_
  rintro e w1 ⟨r, rfl, ⟨g, c, rfl⟩, hrow, b1⟩
  have hsl1 : Sl w1 .u64 (.slice (some ⟨g, 0, none⟩) (WM.wordsOf xs).length c) (WM.wordsOf xs) := own_sl hrow
  have hcap : (WM.wordsOf xs).length ≤ c ∧ c ≤ 9223372036854775807 := by
    rcases hrow.2 with ⟨h0, _⟩ | ⟨g', cap', cur, h0, _, _, hc, hm, _⟩
    · cases h0
    · simp at h0; unfold maxLen at hm; omega
  have HJ1 : Hid (Boxed w1 w.heap.size 35 (.slice none 0 0)) := show Boxed _ _ _ _ from (b1.block _ HJ0.out.lt).trans HJ0.out
  have HB1 : Hid (Below w.heap.size w w1) := show Below _ _ _ from HB0.out.trans (b1.mono HB0.out.size)
  have HSL1 := Lib.hid hsl1
  obtain ⟨L, hL⟩ : ∃ L, (WM.wordsOf xs).length = L := ⟨_, rfl⟩
  have HL := Lib.hid hL
  rw [hL] at hcap ⊢
  have hL4 : L ≤ 4096 := by have := HWL.out; rw [hL] at this; unfold WM.need at this; omega
  have hg1 : w.heap.size < g := Nat.lt_of_lt_of_le HJ0.out.lt (hrow.lt g rfl).1
  have hg2 : g < w1.heap.size := (hrow.lt g rfl).2
  clear b1 hrow hsl1 hL
  gi_wp2_with fail
  refine ⟨trivial, ?_⟩
  refine (callsIn_wide.2 (chunkU_any _ _ _ w1)).mono ?_
  rintro e w2 ⟨rfl, hw2⟩
  have HBX1 : Hid (Boxed w2 w1.heap.size 71 (.slice (some ⟨g, 0, none⟩) L c)) := show Boxed _ _ _ _ by rw [hw2]; exact (Boxed.new w1 _ _).alloc _
  have HBX2 : Hid (Boxed w2 (w1.heap.size + 1) 3 (.int .i64 8)) := show Boxed _ _ _ _ by
    rw [hw2]
    have := Boxed.new (w1.alloc (.cells #[.slice (some ⟨g, 0, none⟩) L c] 71)) 3 (.int .i64 8)
    rwa [World.size_alloc] at this
  have b2 : Below w1.heap.size w1 w2 := by rw [hw2]; exact (by repeat (first | exact Below.refl _ _ | assumption | refine Below.drew ?_ | refine below_drewN ?_ _ | refine Below.alloc ?_ (by (try simp) <;> omega) _ | refine Below.setCell ?_ (by (try simp) <;> omega) _ | refine Below.trans ?_ (Below.mono (by assumption) (by (try simp) <;> omega))))
  have HJ2 : Hid (Boxed w2 w.heap.size 35 (.slice none 0 0)) := show Boxed _ _ _ _ from (b2.block _ HJ1.out.lt).trans HJ1.out
  have HB2 : Hid (Below w.heap.size w w2) := show Below _ _ _ from HB1.out.trans (b2.mono HB1.out.size)
  have HSL2 : Hid (Sl w2 .u64 (.slice (some ⟨g, 0, none⟩) (WM.wordsOf xs).length c) (WM.wordsOf xs)) := show Sl _ _ _ _ from HSL1.out.below b2
  have hlt1 : w.heap.size < w1.heap.size := HJ1.out.lt
  have hs12 : w2.heap.size = w1.heap.size + 2 := by rw [hw2]; simp
  have hg3 : g < w2.heap.size := by omega
  clear b2 hw2
  gi_wp2_with fail
  have HSQ := Lib.hid (chunkU_seq 8 (by decide) (m := WM.need L) w2 rfl (by omega) hcap.1 hcap.2 HBX1.out HBX2.out)
  have HMM : Hid (WM.need L = chN N) := show _ = _ by rw [← HL.out, HWL.out, chN_need]
  have HI0 : Hid (ChuI w w2.heap.size w.heap.size g w2.heap[g]? xs [] (fun _ => False) w2) := show ChuI _ _ _ _ _ _ _ _ _ from ⟨⟨_, HJ2.out, World.ownsRow_nil _ _ _ _, id, fun g e => by cases e⟩, ⟨HB2.out, HB2.out.size, fun _ h => h.elim⟩, rfl, hg3, id⟩
  generalize hA : ({ tmps := _, defers := _ } : Act) = A0
  refine wpIn_range_F (n := 9) (by decide) (gf := 56) (lb := #[.pointer (some ⟨w1.heap.size, 0, none⟩), .pointer (some ⟨w1.heap.size + 1, 0, none⟩)]) (by rw [← hA]; rfl) (enters_of Try.func56 (by kernel_rfl) rfl) HSQ.out (fun k hk => by unfold chP at hk; omega) (Below.refl _ _) (fun _ => rfl)
    (ChuI w w2.heap.size w.heap.size g w2.heap[g]? xs) (fun _ _ _ _ => False) (abides_chui _ _ _ _ _ _) (fun _ _ _ _ _ _ h _ _ => h) HI0.out
    (fun x a' _ => a' = { tmps := (A0.tmps.setIfInBounds 15 (.slice (some ⟨g, 8 * x, none⟩) (min 8 (L - 8 * x)) (min 8 (L - 8 * x)))).setIfInBounds 6 (.slice (some ⟨g, 8 * x, none⟩) (min 8 (L - 8 * x)) (min 8 (L - 8 * x))), defers := [] })
    (fun x a' W1 o h => h)
    ?assign ?body ?done ?stop
  case assign =>
    rintro l2 x W2 K hsz hK
    subst hA
    unfold encU
    dsimp only
    gi_wp2_with fail
    refine hK _ _ ?_ (Below.refl _ _)
    rfl
  case body =>
    rintro l2 pre x a' q2 W2 ⟨⟨v', hv, hrow, hqB, hqg⟩, hB, hkg, hgl, hqgg⟩ hs2 hqb hsp rfl
    subst hA
    have hpl : pre.length + 1 ≤ 100 := words_bound N x _ pre hx HMM.out hsp
    have hb2 : Below W2.heap.size W2 (W2.alloc (.cells (lnA zeros8) 43)) := (Below.refl _ _).alloc (Nat.le_refl _) _
    have hx1 : Blk (W2.alloc (.cells (lnA zeros8) 43)) W2.heap.size 43 (lnA zeros8) := Blk.new _ _ _
    have hgW : Sl W2 .u64 (.slice (some ⟨g, 0, none⟩) (WM.wordsOf xs).length c) (WM.wordsOf xs) := by
      obtain ⟨a', cap', e, hl', hc'⟩ := HSL2.out
      refine ⟨a', cap', e, hl', fun h0 => ?_⟩
      obtain ⟨b, off, ea, hlt, hj⟩ := hc' h0
      simp only [Value.slice.injEq] at e
      obtain ⟨e1, -, -⟩ := e
      rw [ea] at e1
      simp only [Option.some.injEq, Addr.mk.injEq, and_true] at e1
      obtain ⟨rfl, -⟩ := e1
      exact ⟨g, off, ea, hgl, fun j hjl => (World.cell?_of_block (a := ⟨g, off + j, none⟩) hkg).trans (hj j hjl)⟩
    obtain ⟨n, hn⟩ : ∃ n, min 8 (L - 8 * x) = n := ⟨_, rfl⟩
    rw [hn]
    have hfs := few_sl hgW x (n := n) (by rw [HL.out]; exact hn.symm)
    have hfl := fewN_length (WM.wordsOf xs) x
    rw [HL.out, hn] at hfl
    have hcp := fun ty => copy_words 71 71 ty Try.underlying71 (dc := 8) hx1 (by rw [hfl, ← hn]; omega) (hfs.below hb2)
    obtain ⟨hx2, ht2⟩ := hx1.setRow (lnA (padL (fewN (WM.wordsOf xs) x)))
    obtain ⟨Y, hY⟩ : ∃ Y, padL (fewN (WM.wordsOf xs) x) = Y := ⟨_, rfl⟩
    have HY8 : Hid (Y.length = 8) := show _ = _ by rw [← hY]; exact padL_length _
    have HYE := Lib.hid hY
    rw [hY] at hx2 ht2 hcp
    obtain ⟨W3, hW3⟩ : ∃ W3, (W2.alloc (.cells (lnA zeros8) 43)).setRow W2.heap.size (lnA Y) = W3 := ⟨_, rfl⟩
    rw [hW3] at hx2 ht2 hcp
    have hb3 : Below W2.heap.size W2 W3 := hb2.trans (ht2.below (B := W2.heap.size) (fun k hk => by omega) hb2.size)
    have hsz3 : W2.heap.size < W3.heap.size := hx2.lt
    have HV : Hid (Boxed W3 w.heap.size 35 v') := show Boxed _ _ _ _ from (hb3.block _ hv.lt).trans hv
    have HR : Hid (W3.ownsRow w2.heap.size 43 8 v' pre.length (flatC cL (pre.map fun k => padL (fewN (WM.wordsOf xs) k)))) := show World.ownsRow _ _ _ _ _ _ _ from ownsRow_below hrow hb3
    have HQB := Lib.hid hqB
    have HQG := Lib.hid hqg
    have HBF : Hid (BelowF w.heap.size w q2 W3) := show BelowF _ _ _ _ from ⟨hB.1.trans (hb3.mono hB.2.1), Nat.le_trans hB.2.1 hb3.size, hB.2.2⟩
    have HQ : Hid (∀ k, q2 k → w2.heap.size ≤ k ∧ k < W3.heap.size) := show ∀ k, _ from fun k hk => ⟨(hqb k hk).1, Nat.lt_trans (hqb k hk).2 hsz3⟩
    have HG3 : Hid (W3.heap[g]? = w2.heap[g]? ∧ g < W3.heap.size ∧ ¬ q2 g) := show _ ∧ _ from ⟨(hb3.block _ hgl).trans hkg, Nat.lt_trans hgl hsz3, hqgg⟩
    have HK3 : Hid (Keeps (fun k => chP w1.heap.size k ∨ q2 k) W2 W3) := show Keeps _ _ _ from ⟨hb3.size, fun k _ hl => hb3.block k hl⟩
    have HLD := Lib.hid (hx2.load (P := Try.prog) (tt := 43) Try.underlying43 rfl (by rw [lnA_size, HY8.out]; kernel_rfl))
    have cv := HV.out.cell
    have HCN := Lib.hid (fun t => cell_blk_new W3 Y HY8.out t)
    have HONE := Lib.hid (cL_one Y)
    have HCL := Lib.hid (cL_len Y)
    have HCE := Lib.hid (cL_eq HY8.out)
    have HPLN := Lib.hid (show (pre ++ [x]).length = pre.length + 1 by simp)
    have HFC := Lib.hid (show flatC cL ((pre ++ [x]).map fun k => padL (fewN (WM.wordsOf xs) k)) = flatC cL (pre.map fun k => padL (fewN (WM.wordsOf xs) k)) ++ cL Y by rw [List.map_append, flatC_append, List.map_cons, List.map_nil, flatC_one, hY])
    have hz8 : lnA zeros8 = #[.int .u64 0, .int .u64 0, .int .u64 0, .int .u64 0, .int .u64 0, .int .u64 0, .int .u64 0, .int .u64 0] := rfl
    rw [hz8] at hcp
    have hXs : (lnA Y).size = 8 := by rw [lnA_size, HY8.out]
    obtain ⟨X, hX⟩ : ∃ X, lnA Y = X := ⟨_, rfl⟩
    rw [hX] at HLD HCN hXs
    have HFE := Lib.hid (fold_eight X hXs)
    clear hv hrow hqB hqg hB hqb hsp hkg hgl hqgg hb2 hx1 hgW hfs hfl hx2 ht2 hY hb3 hz8 hX hn
    gi_wp2_with (first | (refine wpListIn_load_eq rfl 43 _ rfl _ _ rfl HLD.out ?_) | (gi_at_builtin; refine park ?_))
    rw [HFE.out]
    unfold Park
    refine wpListIn_append_own_at _ (hgd := rfl) _ _ 35 rfl w2.heap.size 43 i0 _ 8 64 Try.underlying35 HII.out hz0 hz1 hz2 rfl (by decide) _ pre.length (flatC cL (pre.map fun k => padL (fewN (WM.wordsOf xs) k))) rfl (World.ownsRow.alloc HR.out _) ⟨W3.heap.size, 0, none⟩ 1 1 (cL Y) rfl (by rw [HCL.out]) (HCN.out _) HONE.out (by unfold maxLen; omega) (by omega) (by simp; omega) ?_
    intro v2 w3 own2 grow2 _ at2
    obtain ⟨g', cap', rfl⟩ := ownsRow_succ own2
    obtain ⟨r1, r2, r3, r4, r5⟩ := row_appG (n₀ := w.heap.size) (p := chP w1.heap.size) HV.out (by decide) HR.out HQB.out HQG.out HBF.out (Nat.le_refl _) (by omega) (fun k h => (HQ.out k h).2) (fun h => by unfold chP at h; omega) (fun k hk h => by unfold chP at h; omega) own2 grow2 at2
    have r6 := r1.cell
    have r7 := r1.frozen
    have r8 := r1.lt
    have r9 := r2.cell
    have HKB : Hid (KeptB g w2.heap[g]? q2 (w3.setCell ⟨w.heap.size, 0, none⟩ (.slice (some ⟨g', 0, none⟩) (pre.length + 1) cap'))) := show KeptB _ _ _ _ from by
      have e1 := grow2.block g (by simp; have := HG3.out.2.1; omega) (fun e => by have := (HR.out.lt g e.symm).1; omega)
      have e2 : (W3.alloc (.cells X 43)).heap[g]? = W3.heap[g]? := Below.heap_alloc _ _ _ HG3.out.2.1
      have e3 : (w3.setCell ⟨w.heap.size, 0, none⟩ (.slice (some ⟨g', 0, none⟩) (pre.length + 1) cap')).heap[g]? = w3.heap[g]? := Below.heap_setCell _ _ _ _ (show g ≠ w.heap.size by omega)
      refine ⟨(e3.trans (e1.trans e2)).trans HG3.out.1, ?_, HG3.out.2.2⟩
      have := grow2.size
      have h3 := HG3.out.2.1
      simp [World.setCell] at this ⊢
      omega
    gi_wp2_with fail
    refine ⟨HK3.out.trans r3, ?_, r5, HKB.out⟩
    rw [HPLN.out, HFC.out]
    exact r4
  case done =>
    rintro D ys W2 hD rfl ⟨⟨v', hv, hrow, hqB, hqg⟩, hB, -⟩ hK'
    subst hA
    have cv := hv.cell
    have HR := Lib.hid hrow
    have HQG := Lib.hid hqg
    have HB := Lib.hid hB
    have HDD := Lib.hid hD
    clear hv hrow hqB hqg hB
    gi_wp2_with fail
    have hML : (List.range (WM.need L)).length = chN N := by rw [List.length_range, HMM.out]
    have hCF : (List.range (WM.need L)).map (fun k => padL (fewN (WM.wordsOf xs) k)) = chF xs := by
      rw [HMM.out]
      unfold chF
      rw [HN.out]
    have hr := HR.out
    rw [hML, hCF] at hr
    refine leaves_one hK' fun W' ht hc => ⟨_, results_tmp rfl _ _ _, v', rfl, own_lowG (own_keptG hr fun g e hl => ht.block g hl (HQG.out g e)) HB2.out.size, HB.out.1.trans (ht.below (fun k h => by have := HDD.out; omega) HB.out.2.1)⟩
  case stop => exact fun _ _ _ _ _ _ h => h.elim
end Go.Proofs.Ytmncoclmgcjjjaa

/-
  A block of three cells.
-/
namespace Go.Proofs.Ytmncoclmgcjjjaa
open Go.RowKit Go.Shelf

/-- A block of three cells. -/
def Tri (W : World) (B : Nat) (t : TypeId) (x y z : Value) : Prop := W.heap[B]? = some (.cells #[x, y, z] t (0, 0))
section
variable {W W' : World} {B : Nat} {t : TypeId} {x y z : Value}
theorem Tri.lt (h : Tri W B t x y z) : B < W.heap.size := (Array.getElem?_eq_some_iff.1 h).1
theorem Tri.cells (h : Tri W B t x y z) : W.cell? ⟨B, 0, none⟩ = some x ∧ W.cell? ⟨B, 1, none⟩ = some y ∧ W.cell? ⟨B, 2, none⟩ = some z ∧ W.frozen? ⟨B, 0, none⟩ = false ∧ W.frozen? ⟨B, 1, none⟩ = false ∧ W.frozen? ⟨B, 2, none⟩ = false := by
  unfold Tri at h
  simp [World.cell?, World.frozen?, h]
theorem Tri.new (W : World) (t : TypeId) (x y z : Value) : Tri (W.alloc (.cells #[x, y, z] t)) W.heap.size t x y z := World.alloc_heap_new W _
theorem Tri.below {n : Nat} (h : Tri W B t x y z) (hb : Below n W W') (hl : B < n) : Tri W' B t x y z := (hb.block B hl).trans h
end
/-- A block of two cells. -/
def Duo (W : World) (B : Nat) (t : TypeId) (x y : Value) : Prop := W.heap[B]? = some (.cells #[x, y] t (0, 0))
section
variable {W W' : World} {B : Nat} {t : TypeId} {x y : Value}
theorem Duo.lt (h : Duo W B t x y) : B < W.heap.size := (Array.getElem?_eq_some_iff.1 h).1
theorem Duo.cells (h : Duo W B t x y) : W.cell? ⟨B, 0, none⟩ = some x ∧ W.cell? ⟨B, 1, none⟩ = some y ∧ W.frozen? ⟨B, 0, none⟩ = false ∧ W.frozen? ⟨B, 1, none⟩ = false := by
  unfold Duo at h
  simp [World.cell?, World.frozen?, h]
theorem Duo.new (W : World) (t : TypeId) (x y : Value) : Duo (W.alloc (.cells #[x, y] t)) W.heap.size t x y := World.alloc_heap_new W _
theorem Duo.below {n : Nat} (h : Duo W B t x y) (hb : Below n W W') (hl : B < n) : Duo W' B t x y := (hb.block B hl).trans h
theorem Duo.set1 (h : Duo W B t x y) (u : Value) : Duo (W.setCell ⟨B, 1, none⟩ u) B t x u := by
  unfold Duo at h ⊢
  simp [World.setCell, Array.getElem?_modify, h]
theorem Duo.set0 (h : Duo W B t x y) (u : Value) : Duo (W.setCell ⟨B, 0, none⟩ u) B t u y := by
  unfold Duo at h ⊢
  simp [World.setCell, Array.getElem?_modify, h]
end
end Go.Proofs.Ytmncoclmgcjjjaa

/-
  label: names, as bytes; named, Check.
-/
namespace Go.Proofs.Ytmncoclmgcjjjaa
open Go.RowKit Go.Shelf Go.Sort

/-- May a byte be in a name? -/
def byteN (b : UInt8) : Bool := decide (33 ≤ b.toNat) && decide (b.toNat ≤ 126) && decide (b.toNat ≠ 47)
/-- Is a text a name? -/
def rightN (s : List UInt8) : Bool := decide (1 ≤ s.length) && decide (s.length ≤ 40) && !(s == [46]) && !(s == [46, 46]) && s.all byteN
def errN (s : List UInt8) : Int := if rightN s then 0 else 160
def nameN (s : List UInt8) : List UInt8 := if rightN s then s else []
abbrev namV (s : List UInt8) : Value := .agg #[encStr s]
theorem str_eql {_P : Program} (t : TypeId) (a b : List UInt8) : binOp .eql t (encStr a) (encStr b) = (pure (.bool (a == b)) : Sem Value) := by
  rw [binOp_string_eql, Lib.toList_data, Lib.toList_data]
theorem rightN_iff (s : List UInt8) : rightN s = true ↔ 1 ≤ s.length ∧ s.length ≤ 40 ∧ ¬ s = [46] ∧ ¬ s = [46, 46] ∧ s.all byteN = true := by
  unfold rightN
  simp [and_assoc]
/-- What a range over a text tells of the byte at a place. -/
theorem letter_at (s : List UInt8) (pos : Nat) (h : pos < s.length) :
    ((33 ≤ (Utf8.decode ⟨s.toArray⟩ pos).1 ∧ (Utf8.decode ⟨s.toArray⟩ pos).1 ≤ 126 ∧ (Utf8.decode ⟨s.toArray⟩ pos).1 ≠ 47) ↔ byteN s[pos] = true) ∧
    (byteN s[pos] = true → (Utf8.decode ⟨s.toArray⟩ pos).2 = 1) := by
  have hs : pos < (⟨s.toArray⟩ : ByteArray).size := by simpa [ByteArray.size] using h
  have hg : ((⟨s.toArray⟩ : ByteArray)[pos]'hs) = s[pos] := by rfl
  unfold byteN
  simp only [Bool.and_eq_true, decide_eq_true_eq]
  by_cases ha : (s[pos]).toNat < 128
  · rw [decode_ascii ⟨s.toArray⟩ pos hs (by rw [hg]; exact ha), hg]
    exact ⟨by constructor <;> (intro h; omega), fun _ => rfl⟩
  · have hd := decode_high ⟨s.toArray⟩ pos hs (by rw [hg]; omega)
    refine ⟨by constructor <;> (intro h; omega), fun h => by omega⟩
end Go.Proofs.Ytmncoclmgcjjjaa

/-
  label: a text as bytes and as words.
-/
namespace Go.Proofs.Ytmncoclmgcjjjaa
open Go.RowKit Go.Shelf Go.Sort

/-- A text's bytes, as numbers. -/
def bsN (s : List UInt8) : List Nat := s.map UInt8.toNat
theorem bsN_length (s : List UInt8) : (bsN s).length = s.length := by simp [bsN]
theorem bsN_at (s : List UInt8) (j : Nat) (h : j < s.length) : (bsN s)[j]?.getD 0 = s[j].toNat := by simp [bsN, h]
theorem bsN_256 (s : List UInt8) : WM.Bytes256 (bsN s) := fun i => by
  unfold WM.at'
  by_cases h : i < s.length
  · rw [bsN_at s i h]; exact UInt8.toNat_lt _
  · rw [List.getElem?_eq_none (by rw [bsN_length]; omega)]; exact (by decide : (0 : Nat) < 256)
theorem bsN_inj {a b : List UInt8} (h : bsN a = bsN b) : a = b := (List.map_inj_right fun _ _ h => UInt8.toNat_inj.1 h).1 h
/-- The capacity and the world behind '[]byte(s)'. -/
def capC (W : World) (s : List UInt8) : Nat := grownCap W s.length 0 5
def bytesW (W : World) (s : List UInt8) : World := W.drew.alloc (.cells (bytesRow ⟨s.toArray⟩ (capC W s)) 5 ((bytesRow ⟨s.toArray⟩ (capC W s)).size, (bytesRow ⟨s.toArray⟩ (capC W s)).size + 1))
theorem conv_bytes (src : TypeId) (hs : Try.prog.underlying src = some .string) (s : List UInt8) (W : World) :
    (convert src 22 (encStr s)).run Try.prog W = .ok (.slice (some ⟨W.heap.size, 0, none⟩) s.length (capC W s)) (bytesW W s) := by
  have h := run_bytes_of_string (P := Try.prog) W src 22 5 ⟨s.toArray⟩ hs Try.underlying22 Try.underlying5
  have e : (⟨s.toArray⟩ : ByteArray).size = s.length := by simp [ByteArray.size]
  rw [e] at h
  exact h
theorem capC_ge (W : World) (s : List UInt8) : s.length ≤ capC W s := grownCap_ge _ _ _ _
theorem capC_le (W : World) (s : List UInt8) (h : s.length ≤ 9223372036854775807) : capC W s ≤ 9223372036854775807 := grownCap_le_maxLen W _ _ _ h
theorem bytesW_below (W : World) (s : List UInt8) : Below W.heap.size W (bytesW W s) := (Below.drew (Below.refl _ _)).alloc (Nat.le_refl _) _
theorem bytesW_size (W : World) (s : List UInt8) : (bytesW W s).heap.size = W.heap.size + 1 := by unfold bytesW; simp
theorem bytesW_sl (W : World) (s : List UInt8) : Sl (bytesW W s) .u8 (.slice (some ⟨W.heap.size, 0, none⟩) s.length (capC W s)) (bsN s) := by
  refine ⟨_, _, by rw [bsN_length], by rw [bsN_length]; exact capC_ge W s, fun _ => ⟨W.heap.size, 0, rfl, by rw [bytesW_size]; omega, fun j hj => ?_⟩⟩
  rw [bsN_length] at hj
  rw [bsN_at s j hj]
  have hh : (bytesW W s).heap[W.heap.size]? = some (.cells (bytesRow ⟨s.toArray⟩ (capC W s)) 5 ((bytesRow ⟨s.toArray⟩ (capC W s)).size, (bytesRow ⟨s.toArray⟩ (capC W s)).size + 1)) := World.alloc_heap_new W.drew _
  unfold World.cell?
  simp only [hh, Nat.zero_add]
  unfold bytesRow
  rw [Array.getElem?_append_left (by simp; exact hj)]
  simp [hj]
/-- 'string(b)'. -/
theorem conv_text (dst : TypeId) (hd : Try.prog.underlying dst = some .string) {W : World} {v : Value} {s : List UInt8} (h : Sl W .u8 v (bsN s)) :
    (convert 22 dst v).run Try.prog W = .ok (encStr s) W := by
  obtain ⟨a, cap, rfl, hc, hcell⟩ := h
  rw [bsN_length] at hcell ⊢
  by_cases h0 : 0 < s.length
  · obtain ⟨b, off, rfl, -, hj⟩ := hcell h0
    exact run_convert_bytes_back W _ _ _ _ _ _ Try.underlying22 Try.underlying5 hd fun j hl => by
      have hadd : (⟨b, off, none⟩ : Addr).add j = ⟨b, off + j, none⟩ := by unfold Addr.add; split <;> simp_all
      rw [hadd, hj j hl, bsN_at s j hl]
  · obtain rfl : s = [] := List.eq_nil_of_length_eq_zero (by omega)
    have hl := run_convert_bytes_back (P := Try.prog) W 22 dst 5 ⟨0, 0, none⟩ cap [] Try.underlying22 Try.underlying5 hd (fun j hj => absurd hj (by simp))
    cases a with
    | none => rw [run_convert_bytes_nil W 22 5 Try.underlying22 Try.underlying5 _ _ dst hd]; rfl
    | some ad => exact run_convert_bytes_back (P := Try.prog) W 22 dst 5 ad cap [] Try.underlying22 Try.underlying5 hd (fun j hj => absurd hj (by simp))
/-- Five words. -/
abbrev arr5 (l : List Nat) : Array Value := #[.int .u64 (l[0]?.getD 0 : Nat), .int .u64 (l[1]?.getD 0 : Nat), .int .u64 (l[2]?.getD 0 : Nat), .int .u64 (l[3]?.getD 0 : Nat), .int .u64 (l[4]?.getD 0 : Nat)]
def wordsN (s : List UInt8) : List Nat := WM.wordsOf (bsN s)
theorem wordsN_len (s : List UInt8) (h : s.length ≤ 40) : (wordsN s).length ≤ 5 := by
  unfold wordsN
  rw [WM.wordsOf_length, bsN_length]; unfold WM.need; omega
theorem five_row (xs : List Nat) (h : xs.length ≤ 5) (z : Value) (hz : z = .int .u64 0) :
    (([z, z, z, z, z] : List Value).take 0 ++ (xs.map fun y : Nat => Value.int .u64 (y : Nat)) ++ ([z, z, z, z, z] : List Value).drop (0 + (xs.map fun y : Nat => Value.int .u64 (y : Nat)).length)).toArray = arr5 xs := by
  subst hz
  match xs, h with
  | [], _ => rfl
  | [a], _ => rfl
  | [a, b], _ => rfl
  | [a, b, c], _ => rfl
  | [a, b, c, d], _ => rfl
  | [a, b, c, d, e], _ => rfl
end Go.Proofs.Ytmncoclmgcjjjaa

/-
  The arithmetic of sums: each step is one to one in the word and in the sum.
-/
namespace Go.Proofs.Ytmncoclmgcjjjaa
namespace SM
/-- One word taken into a sum. -/
def mix (s x : Nat) : Nat := (s ^^^ x) * 1099511628211 % 18446744073709551616
def sumFrom (s : Nat) (l : List Nat) : Nat := l.foldl mix s
/-- The sum of no words. -/
def start : Nat := 14695981039346656037
def sumOf (l : List Nat) : Nat := sumFrom start l
def sealOf (l : List Nat) : Nat := max (sumOf l) 1
theorem mix_lt (s x : Nat) : mix s x < 18446744073709551616 := Nat.mod_lt _ (by decide)
theorem sumFrom_cons (s a : Nat) (r : List Nat) : sumFrom s (a :: r) = sumFrom (mix s a) r := by unfold sumFrom; rw [List.foldl_cons]
theorem sumFrom_nil (s : Nat) : sumFrom s [] = s := by unfold sumFrom; rw [List.foldl_nil]
theorem sumFrom_lt (l : List Nat) : ∀ s, s < 18446744073709551616 → sumFrom s l < 18446744073709551616 := by
  induction l with
  | nil => intro s h; rw [sumFrom_nil]; exact h
  | cons a r ih => intro s _; rw [sumFrom_cons]; exact ih _ (mix_lt s a)
theorem start_lt : start < 18446744073709551616 := by decide
theorem sumOf_lt (l : List Nat) : sumOf l < 18446744073709551616 := sumFrom_lt l _ start_lt
theorem sealOf_lt (l : List Nat) : sealOf l < 18446744073709551616 := by have := sumOf_lt l; unfold sealOf; omega
theorem sealOf_pos (l : List Nat) : 1 ≤ sealOf l := by unfold sealOf; omega
theorem sumFrom_append (s : Nat) (a b : List Nat) : sumFrom s (a ++ b) = sumFrom (sumFrom s a) b := by unfold sumFrom; rw [List.foldl_append]
theorem sumFrom_snoc (s : Nat) (a : List Nat) (x : Nat) : sumFrom s (a ++ [x]) = mix (sumFrom s a) x := by unfold sumFrom; rw [List.foldl_append, List.foldl_cons, List.foldl_nil]
theorem take_snoc (l : List Nat) (k : Nat) (h : k < l.length) : l.take (k + 1) = l.take k ++ [l[k]?.getD 0] := by
  rw [List.take_succ_eq_append_getElem h]; simp [h]
/-- The sum up to a place, and one word more. -/
theorem sumFrom_step (s : Nat) (l : List Nat) (k : Nat) (h : k < l.length) : sumFrom s (l.take (k + 1)) = mix (sumFrom s (l.take k)) (l[k]?.getD 0) := by rw [take_snoc l k h, sumFrom_snoc]
theorem inv_mod (p q m k c : Nat) (h : p * q = m * k + 1) (hc : c < m) : (c * p % m) * q % m = c := by
  rw [Nat.mod_mul_mod, Nat.mul_assoc, h, Nat.mul_add, Nat.mul_one, Nat.mul_left_comm, Nat.mul_add_mod, Nat.mod_eq_of_lt hc]
theorem mul_inj_at (p q m k a b : Nat) (h : p * q = m * k + 1) (ha : a < m) (hb : b < m) (e : a * p % m = b * p % m) : a = b := by
  rw [← inv_mod p q m k a h ha, e, inv_mod p q m k b h hb]
theorem inv_num : 1099511628211 * 14886173955864302971 = 18446744073709551616 * 887285111055 + 1 := by decide +kernel
/-- The factor is odd: it has an inverse. -/
theorem mul_inj (a b : Nat) (ha : a < 18446744073709551616) (hb : b < 18446744073709551616) (h : a * 1099511628211 % 18446744073709551616 = b * 1099511628211 % 18446744073709551616) : a = b :=
  mul_inj_at _ _ _ _ a b inv_num ha hb h
theorem xor_lt (a b : Nat) (ha : a < 18446744073709551616) (hb : b < 18446744073709551616) : a ^^^ b < 18446744073709551616 := Nat.xor_lt_two_pow (n := 64) ha hb
theorem xor_inj_right (s x y : Nat) (h : s ^^^ x = s ^^^ y) : x = y := by
  have := congrArg (s ^^^ ·) h
  simpa [← Nat.xor_assoc] using this
theorem xor_inj_left (s t x : Nat) (h : s ^^^ x = t ^^^ x) : s = t := xor_inj_right x s t (by rw [Nat.xor_comm x s, Nat.xor_comm x t, h])
theorem mix_inj_right (s x y : Nat) (hs : s < 18446744073709551616) (hx : x < 18446744073709551616) (hy : y < 18446744073709551616) (h : mix s x = mix s y) : x = y :=
  xor_inj_right s x y (mul_inj _ _ (xor_lt _ _ hs hx) (xor_lt _ _ hs hy) h)
theorem mix_inj_left (s t x : Nat) (hs : s < 18446744073709551616) (ht : t < 18446744073709551616) (hx : x < 18446744073709551616) (h : mix s x = mix t x) : s = t :=
  xor_inj_left s t x (mul_inj _ _ (xor_lt _ _ hs hx) (xor_lt _ _ ht hx) h)
theorem sumFrom_inj (l : List Nat) : ∀ s t, s < 18446744073709551616 → t < 18446744073709551616 → (∀ x ∈ l, x < 18446744073709551616) → sumFrom s l = sumFrom t l → s = t := by
  induction l with
  | nil => intro s t _ _ _ h; rw [sumFrom_nil, sumFrom_nil] at h; exact h
  | cons a r ih =>
    intro s t hs ht hl h
    rw [sumFrom_cons, sumFrom_cons] at h
    have := ih (mix s a) (mix t a) (mix_lt _ _) (mix_lt _ _) (fun x hx => hl x (List.mem_cons_of_mem _ hx)) h
    exact mix_inj_left s t a hs ht (hl a (List.mem_cons_self ..)) this
/-- Words of which one alone is another one have unlike sums. -/
theorem sum_set_ne (l : List Nat) (k x s : Nat) (hk : k < l.length) (hs : s < 18446744073709551616) (hl : ∀ y ∈ l, y < 18446744073709551616) (hx : x < 18446744073709551616) (hne : x ≠ l[k]?.getD 0) : sumFrom s l ≠ sumFrom s (l.set k x) := by
  intro h
  have e1 : l = l.take k ++ l[k]?.getD 0 :: l.drop (k + 1) := by
    conv => lhs; rw [← List.take_append_drop k l, List.drop_eq_getElem_cons hk]
    simp [hk]
  have e2 : l.set k x = l.take k ++ x :: l.drop (k + 1) := List.set_eq_take_append_cons_drop ▸ by simp [hk]
  rw [e2] at h
  conv at h => lhs; rw [e1]
  rw [sumFrom_append, sumFrom_append, sumFrom_cons, sumFrom_cons] at h
  have hd : ∀ y ∈ l.drop (k + 1), y < 18446744073709551616 := fun y hy => hl y (List.mem_of_mem_drop hy)
  have hlk : l[k]?.getD 0 < 18446744073709551616 := by simp [hk]; exact hl _ (List.getElem_mem hk)
  have := sumFrom_inj (l.drop (k + 1)) _ _ (mix_lt _ _) (mix_lt _ _) hd h
  exact hne (mix_inj_right _ _ _ (sumFrom_lt _ _ hs) hlk hx this).symm
theorem mix_int (s x : Nat) (hs : s < 18446744073709551616) (hx : x < 18446744073709551616) : IntKind.u64.wrap (bits .xor .u64 (s : Int) (x : Int) * 1099511628211) = ((mix s x : Nat) : Int) := by
  rw [u64_xor_nat s x hs hx]
  unfold mix
  generalize s ^^^ x = y
  show ((y : Int) * 1099511628211) % 18446744073709551616 = _
  rw [Int.natCast_emod]
  rfl
end SM
end Go.Proofs.Ytmncoclmgcjjjaa

/-
  Contracts of package sum's functions: take, told, seal, fold, More, Of, Seal, Sealed.
-/
namespace Go.Proofs.Ytmncoclmgcjjjaa
open Go.RowKit Go.Shelf

def U64s (l : List Nat) : Prop := ∀ x ∈ l, x < 18446744073709551616
theorem U64s.at {l : List Nat} (h : U64s l) (k : Nat) : l[k]?.getD 0 < 18446744073709551616 := by
  by_cases hk : k < l.length
  · simp [hk]; exact h _ (List.getElem_mem hk)
  · simp [List.getElem?_eq_none (by omega : l.length ≤ k)]
end Go.Proofs.Ytmncoclmgcjjjaa

/-
  Contracts of the document's answers for sums (waterlineref02): More, Of, Seal.
-/
namespace Go.Proofs.Ytmncoclmgcjjjaa
open Go.RowKit Go.Shelf

end Go.Proofs.Ytmncoclmgcjjjaa

/-
  The document's Words, bit by bit: what its list holds on the way. Plain arithmetic.
-/
namespace Go.Proofs.Ytmncoclmgcjjjaa
namespace WM
/-- The first n words when m bits have gone in. -/
def upTo (bs : List Nat) (n m : Nat) : List Nat := (List.range n).map fun j => wordAt bs j % 2 ^ (m - 64 * j)
theorem upTo_length (bs : List Nat) (n m : Nat) : (upTo bs n m).length = n := by simp [upTo]
theorem upTo_at (bs : List Nat) (n m j : Nat) (h : j < n) : at' (upTo bs n m) j = wordAt bs j % 2 ^ (m - 64 * j) := by
  unfold upTo
  rw [at_map_range, if_pos h]
theorem upTo_more (bs : List Nat) (n : Nat) : upTo bs (n + 1) (64 * n) = upTo bs n (64 * n) ++ [0] := by
  unfold upTo
  rw [List.range_succ, List.map_append]
  simp [Nat.mod_one]
theorem mod_bit (x k j : Nat) : (x % 2 ^ k).testBit j = (decide (j < k) && x.testBit j) := Nat.testBit_mod_two_pow ..
theorem upTo_step (bs : List Nat) (hb : Bytes256 bs) (i k : Nat) (hk : k < 8) :
    upTo bs (i / 8 + 1) (8 * i + k + 1) = (upTo bs (i / 8 + 1) (8 * i + k)).set (i / 8) (withN (wordAt bs (i / 8) % 2 ^ (8 * (i % 8) + k)) (8 * (i % 8) + k) ((at' bs i).testBit k)) := by
  apply list_ext
  · rw [List.length_set, upTo_length, upTo_length]
  · intro j hj
    rw [upTo_length] at hj
    rw [upTo_at _ _ _ _ hj]
    show _ = ((upTo bs (i / 8 + 1) (8 * i + k)).set (i / 8) _)[j]?.getD 0
    by_cases hji : j = i / 8
    · subst hji
      rw [List.getElem?_set_self (by rw [upTo_length]; omega)]
      show _ = withN _ _ _
      rw [show 8 * i + k + 1 - 64 * (i / 8) = 8 * (i % 8) + k + 1 by omega]
      apply Nat.eq_of_testBit_eq
      intro t
      rw [withN_bit, mod_bit, mod_bit, wordAt_bit bs hb]
      by_cases h1 : t = 8 * (i % 8) + k
      · subst h1
        rw [if_pos rfl, show 8 * (i / 8) + (8 * (i % 8) + k) / 8 = i by omega, show (8 * (i % 8) + k) % 8 = k by omega]
        simp [show 8 * (i % 8) + k < 64 by omega]
      · rw [if_neg h1]
        by_cases h2 : t < 8 * (i % 8) + k
        · simp [h2, show t < 8 * (i % 8) + k + 1 by omega]
        · simp [h2, show ¬ t < 8 * (i % 8) + k + 1 by omega]
    · rw [List.getElem?_set_ne (by omega)]
      show _ = at' (upTo bs (i / 8 + 1) (8 * i + k)) j
      rw [upTo_at _ _ _ _ hj]
      have h64 : ∀ m, 64 ≤ m → wordAt bs j % 2 ^ m = wordAt bs j := fun m hm =>
        Nat.mod_eq_of_lt (Nat.lt_of_lt_of_le (wordAt_lt bs j) (Nat.le_trans (by decide : 18446744073709551616 ≤ 2 ^ 64) (Nat.pow_le_pow_right (by decide) hm)))
      rw [h64 _ (by omega), h64 _ (by omega)]
theorem upTo_end (bs : List Nat) (hb : Bytes256 bs) : upTo bs (need bs.length) (8 * bs.length) = wordsOf bs := by
  apply list_ext
  · rw [upTo_length, wordsOf_length]
  · intro j hj
    rw [upTo_length] at hj
    rw [upTo_at _ _ _ _ hj, wordsOf_at, if_pos hj]
    apply Nat.eq_of_testBit_eq
    intro t
    rw [mod_bit, wordAt_bit bs hb]
    by_cases h : t < 8 * bs.length - 64 * j
    · simp [h]
    · have e : at' bs (8 * j + t / 8) = 0 := at_none _ _ (by omega)
      simp [h, e]
theorem upTo_lt (bs : List Nat) (j m : Nat) : wordAt bs j % 2 ^ m < 18446744073709551616 := Nat.lt_of_le_of_lt (Nat.mod_le _ _) (wordAt_lt bs j)
end WM
end Go.Proofs.Ytmncoclmgcjjjaa
