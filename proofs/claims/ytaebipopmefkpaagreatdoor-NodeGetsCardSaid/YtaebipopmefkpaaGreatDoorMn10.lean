/-
  Texts LaJ to NdG1, as one.
-/
import Derived.Test.YtaebipopmefkpaaGreatDoorMn9
import Derived.Lib.SlicesCompact
import Derived.Sort.KeysCollected
import Derived.Test.YtaebipopmefkpaaGreatDoorChecked
import Derived.Laws.Cover1
import Derived.Sort.Walk0
import Derived.Sort.OwnSorted
/-
  label: texts in order, each once; plain Lean.
-/
namespace Go.Proofs.YtaebipopmefkpaaGreatDoor

/-- Texts that rise, none twice. -/
def Rising (l : List (List UInt8)) : Prop := l.Pairwise (fun x y => x < y)
theorem rising_ext : ∀ {a b : List (List UInt8)}, Rising a → Rising b → (∀ x, x ∈ a ↔ x ∈ b) → a = b
  | [], [], _, _, _ => rfl
  | [], y :: b, _, _, h => by simpa using (h y).2 (by simp)
  | x :: a, [], _, _, h => by simpa using (h x).1 (by simp)
  | x :: a, y :: b, ha, hb, h => by
    obtain ⟨hx, ha'⟩ := List.pairwise_cons.1 ha
    obtain ⟨hy, hb'⟩ := List.pairwise_cons.1 hb
    have hxy : x = y := by
      rcases List.mem_cons.1 ((h x).1 (by simp)) with e | e
      · exact e
      · rcases List.mem_cons.1 ((h y).2 (by simp)) with e2 | e2
        · exact e2.symm
        · exact absurd (hx y e2) (List.lt_asymm (hy x e))
    subst hxy
    rw [rising_ext ha' hb' fun z => ?_]
    constructor
    · intro hz
      rcases List.mem_cons.1 ((h z).1 (List.mem_cons_of_mem _ hz)) with e | e
      · exact absurd (hx z hz) (by rw [e]; exact List.lt_irrefl _)
      · exact e
    · intro hz
      rcases List.mem_cons.1 ((h z).2 (List.mem_cons_of_mem _ hz)) with e | e
      · exact absurd (hy z hz) (by rw [e]; exact List.lt_irrefl _)
      · exact e
/-- Texts sorted, each once. -/
def sortU (l : List (List UInt8)) : List (List UInt8) := Lib.compact (l.mergeSort fun x y => decide (x ≤ y))
theorem mem_compact (zs : List (List UInt8)) (x : List UInt8) : x ∈ Lib.compact zs ↔ x ∈ zs := by
  unfold Lib.compact Lib.compactUpTo
  constructor
  · intro h
    obtain ⟨j, hj, rfl⟩ := List.mem_map.1 h
    have hl := List.mem_range.1 (List.mem_filter.1 hj).1
    simp [hl]
  · intro h
    obtain ⟨j, hj, rfl⟩ := List.mem_iff_getElem.1 h
    have key : ∀ (n j : Nat) (hj : j < zs.length), j ≤ n → ∃ i, i < zs.length ∧ Lib.keeps zs.toArray i = true ∧ zs.toArray[i]! = zs[j] := by
      intro n
      induction n with
      | zero =>
        intro j hj h0
        obtain rfl : j = 0 := by omega
        exact ⟨0, hj, Lib.keeps_lt_one _ 0 (by omega), by simp [hj]⟩
      | succ n ih =>
        intro j hj hn
        by_cases hk : Lib.keeps zs.toArray j = true
        · exact ⟨j, hj, hk, by simp [hj]⟩
        · unfold Lib.keeps at hk
          simp only [decide_eq_true_eq, not_or, Decidable.not_not] at hk
          obtain ⟨i, h1, h2, h3⟩ := ih (j - 1) (by omega) (by omega)
          refine ⟨i, h1, h2, h3.trans ?_⟩
          have e := hk.2
          simp [hj, show j - 1 < zs.length by omega] at e
          exact e.symm
    obtain ⟨i, h1, h2, h3⟩ := key j j hj (Nat.le_refl _)
    exact List.mem_map.2 ⟨i, List.mem_filter.2 ⟨List.mem_range.2 h1, h2⟩, h3⟩
theorem compact_rising (zs : List (List UInt8)) (h : zs.Pairwise (fun x y => x ≤ y)) : Rising (Lib.compact zs) := by
  unfold Rising Lib.compact Lib.compactUpTo
  rw [List.pairwise_map, List.pairwise_filter]
  refine List.Pairwise.imp_of_mem ?_ List.pairwise_lt_range
  intro i j hi hj hij _ hk
  have hi' := List.mem_range.1 hi
  have hj' := List.mem_range.1 hj
  unfold Lib.keeps at hk
  simp only [decide_eq_true_eq] at hk
  have hne : zs.toArray[j]! ≠ zs.toArray[j - 1]! := hk.resolve_left (by omega)
  have hp := List.pairwise_iff_getElem.1 h
  have hget : ∀ (m : Nat) (h : m < zs.length), zs.toArray[m]! = zs[m] := fun m h => by simp [h]
  rw [hget j hj', hget (j - 1) (by omega)] at hne
  rw [hget i hi', hget j hj']
  have h1 : zs[j - 1] < zs[j] := by
    refine List.not_le.1 fun hle => hne ?_
    exact List.le_antisymm hle (hp (j - 1) j (by omega) hj' (by omega))
  by_cases e : i = j - 1
  · subst e; exact h1
  · exact List.lt_of_le_of_lt (hp i (j - 1) hi' (by omega) (by omega)) h1
theorem sorted_le (l : List (List UInt8)) : (l.mergeSort fun x y => decide (x ≤ y)).Pairwise (fun x y => x ≤ y) := by
  have := List.pairwise_mergeSort (le := fun x y : List UInt8 => decide (x ≤ y)) (fun a b c h1 h2 => by simp only [decide_eq_true_eq] at *; exact List.le_trans h1 h2)
    (fun a b => by simp only [Bool.or_eq_true, decide_eq_true_eq]; exact List.le_total a b) l
  exact this.imp fun h => by simpa using h
theorem sortU_rising (l : List (List UInt8)) : Rising (sortU l) := compact_rising _ (sorted_le l)
theorem mem_sortU (l : List (List UInt8)) (x : List UInt8) : x ∈ sortU l ↔ x ∈ l := by
  unfold sortU
  rw [mem_compact]
  exact (List.mergeSort_perm l _).mem_iff
theorem sortU_ext {a b : List (List UInt8)} (h : ∀ x, x ∈ a ↔ x ∈ b) : sortU a = sortU b :=
  rising_ext (sortU_rising a) (sortU_rising b) fun x => by rw [mem_sortU, mem_sortU]; exact h x
theorem sortU_of_rising {l : List (List UInt8)} (h : Rising l) : sortU l = l := rising_ext (sortU_rising l) h fun x => mem_sortU l x
theorem sortU_twice (l : List (List UInt8)) : sortU (sortU l) = sortU l := sortU_of_rising (sortU_rising l)
theorem sortU_length (l : List (List UInt8)) : (sortU l).length ≤ l.length := by
  unfold sortU Lib.compact Lib.compactUpTo
  rw [List.length_map]
  refine Nat.le_trans (List.length_filter_le _ _) ?_
  simp
/-- One more text, put where it belongs. -/
def insAt (o : List (List UInt8)) (k : Nat) (x : List UInt8) : List (List UInt8) := if (o.take k).any (· == x) then o else o.take k ++ [x] ++ o.drop k
theorem insAt_rising {o : List (List UInt8)} {k : Nat} {x : List UInt8} (ho : Rising o) (h1 : ∀ y ∈ o.take k, y ≤ x) (h2 : ∀ y ∈ o.drop k, x < y) : Rising (insAt o k x) ∧ ∀ y, y ∈ insAt o k x ↔ y = x ∨ y ∈ o := by
  unfold insAt
  by_cases hx : (o.take k).any (· == x) = true
  · rw [if_pos hx]
    obtain ⟨y, hy, he⟩ := List.any_eq_true.1 hx
    have : x ∈ o := by rw [← (beq_iff_eq.1 he)]; exact List.mem_of_mem_take hy
    exact ⟨ho, fun y => ⟨.inr, fun h => h.elim (fun e => e ▸ this) id⟩⟩
  · rw [if_neg hx]
    have hne : ∀ y ∈ o.take k, y < x := fun y hy => by
      refine List.not_le.1 fun hle => hx (List.any_eq_true.2 ⟨y, hy, beq_iff_eq.2 (List.le_antisymm (h1 y hy) hle)⟩)
    have ho' : Rising (o.take k ++ o.drop k) := by rw [List.take_append_drop]; exact ho
    obtain ⟨p1, p2, p3⟩ := List.pairwise_append.1 ho'
    refine ⟨?_, fun y => ?_⟩
    · refine List.pairwise_append.2 ⟨List.pairwise_append.2 ⟨p1, List.pairwise_singleton _ _, fun a ha b hb => by rw [List.mem_singleton.1 hb]; exact hne a ha⟩, p2, fun a ha b hb => ?_⟩
      rcases List.mem_append.1 ha with h | h
      · exact p3 a h b hb
      · rw [List.mem_singleton.1 h]; exact h2 b hb
    · rw [List.mem_append, List.mem_append, List.mem_singleton]
      constructor
      · rintro ((h | h) | h)
        · exact .inr (List.mem_of_mem_take h)
        · exact .inl h
        · exact .inr (List.mem_of_mem_drop h)
      · rintro (h | h)
        · exact .inl (.inr h)
        · rw [← List.take_append_drop k o, List.mem_append] at h
          exact h.elim (fun h => .inl (.inl h)) .inr
end Go.Proofs.YtaebipopmefkpaaGreatDoor

/-
  label: slices of texts; the document's Texts.
-/
namespace Go.Proofs.YtaebipopmefkpaaGreatDoor
open Go.RowKit Go.Shelf Go.Sort

/-- A slice of texts. -/
abbrev TxS (W : World) (v : Value) (l : List (List UInt8)) : Prop := Vec W v l.length 1 (l.map encStr)
theorem TxS.cell {W : World} {v : Value} {l : List (List UInt8)} (h : TxS W v l) : ∃ (a : Option Addr) (cap b off : Nat), v = .slice a l.length cap ∧ l.length ≤ cap ∧ (0 < l.length → a = some ⟨b, off, none⟩) ∧ (0 < l.length → b < W.heap.size ∧ ∀ j, j < l.length → W.cell? ⟨b, off + j, none⟩ = some (encStr (l[j]?.getD []))) := by
  obtain ⟨-, a, cap, rfl, hc, hj⟩ := h
  by_cases h0 : 0 < l.length
  · obtain ⟨b, off, rfl, hb, hx⟩ := hj h0
    exact ⟨_, cap, b, off, rfl, hc, fun _ => rfl, fun _ => ⟨hb, fun j hl => hx j _ (by simp [hl])⟩⟩
  · exact ⟨a, cap, 0, 0, rfl, hc, fun h => absurd h h0, fun h => absurd h h0⟩
theorem txs_same_of (xs ys : List (List UInt8)) (hl : xs.length = ys.length) (h : ∀ j, j < xs.length → xs[j]?.getD [] = ys[j]?.getD []) : decide (xs = ys) = true := by
  refine decide_eq_true (List.ext_getElem hl fun j h1 h2 => ?_)
  have := h j h1
  simpa [h1, h2] using this
theorem txs_ne_of (xs ys : List (List UInt8)) (k : Nat) (h : xs[k]?.getD [] ≠ ys[k]?.getD []) : decide (xs = ys) = false := decide_eq_false fun e => h (by rw [e])
end Go.Proofs.YtaebipopmefkpaaGreatDoor

/-
  label: slices of texts cut; an append in a drawn region.
-/
namespace Go.Proofs.YtaebipopmefkpaaGreatDoor
open Go.RowKit Go.Shelf Go.Sort

theorem cut_toV {P : Program} {t e : TypeId} {i : TypeInfo} (h1 : P.underlying t = some (.slice e)) (h2 : P.info? e = some i) (h3 : i.size = 1) {W : World} {v : Value} {n : Nat} {xs : List Value} (hs : Vec W v n 1 xs) (k : Nat) (hk : k ≤ n) :
    ∃ r, (∀ w, (Instr.sliceAt t v none (some (.int .i64 k)) none).run P w = .ok r w) ∧ (∀ W', Vec W' v n 1 xs → Vec W' r k 1 (xs.take k)) := by
  obtain ⟨hl, a, cap, rfl, hlc, -⟩ := hs
  have he : P.elem t = e := by simp [Program.elem, h1]
  have ht : P.underlying t = some (.slice (P.elem t)) := by rw [he]; exact h1
  refine ⟨.slice a k cap, fun w => ?_, fun W' hs' => ?_⟩
  · rw [run_sliceAt_slice w t _ _ _ _ ht, run_slice_h w t a n cap ht .i64 (k : Int) (by omega) (by omega), he]
    simp [sizeOf, typeInfo, h2, h3, sliced, Addr.add, Result.andThen]
  · obtain ⟨-, a', c', e', hl', hc⟩ := hs'
    simp only [Value.slice.injEq] at e'
    obtain ⟨rfl, _, rfl⟩ := e'
    refine ⟨by rw [List.length_take]; omega, a, cap, rfl, by omega, fun h0 => ?_⟩
    obtain ⟨b, off, h1, h2, h3⟩ := hc (by omega)
    refine ⟨b, off, h1, h2, fun j y hj => h3 j y ?_⟩
    have hjk : j < k := by
      have := (List.getElem?_eq_some_iff.1 hj).1
      rw [List.length_take] at this; omega
    rwa [List.getElem?_take_of_lt hjk] at hj
theorem cut_fromV {P : Program} {t e : TypeId} {i : TypeInfo} (h1 : P.underlying t = some (.slice e)) (h2 : P.info? e = some i) (h3 : i.size = 1) {W : World} {v : Value} {n : Nat} {xs : List Value} (hs : Vec W v n 1 xs) (k : Nat) (hk : k ≤ n) :
    ∃ r, (∀ w, (Instr.sliceAt t v (some (.int .i64 k)) none none).run P w = .ok r w) ∧ (∀ W', Vec W' v n 1 xs → Vec W' r (n - k) 1 (xs.drop k)) := by
  obtain ⟨hl, a, cap, rfl, hlc, -⟩ := hs
  have he : P.elem t = e := by simp [Program.elem, h1]
  have ht : P.underlying t = some (.slice (P.elem t)) := by rw [he]; exact h1
  refine ⟨.slice (if cap = k then a else a.map (·.add (k * 1))) (n - k) (cap - k), fun w => ?_, fun W' hs' => ?_⟩
  · rw [run_sliceAt_slice w t _ _ _ _ ht, run_slice_l w t a n cap ht .i64 (k : Int) (by omega) (by omega), he]
    simp [sizeOf, typeInfo, h2, h3, sliced, Result.andThen]
  · obtain ⟨-, a', c', e', hl', hc⟩ := hs'
    simp only [Value.slice.injEq] at e'
    obtain ⟨rfl, _, rfl⟩ := e'
    refine ⟨by rw [List.length_drop]; omega, _, cap - k, rfl, by omega, fun h0 => ?_⟩
    obtain ⟨b, off, rfl, h2, h3⟩ := hc (by omega)
    refine ⟨b, off + k, ?_, h2, fun j y hj => ?_⟩
    · rw [if_neg (by omega)]
      simp only [Option.map_some, Addr.add, Nat.mul_one]
      split <;> simp_all
    · rw [Nat.add_assoc]
      refine h3 (k + j) y ?_
      rwa [List.getElem?_drop] at hj
/-- An append, at a step of a drawn region. -/
theorem wp_append_vec {P : Program} {w : World} {o : Oper} {a : Act} {K : Act → World → Prop} {Q : Exit → Act → World → Prop} (sx x : Operand) (t : TypeId)
    (ho : o.op = .call { callee := .builtin .append, args := #[sx, x], argTypes := #[t, t] }) (e : TypeId) (i : TypeInfo) (z : Value) (s bytes : Nat) (h1 : P.underlying t = some (.slice e)) (h2 : P.info? e = some i) (h3 : i.zero = some z) (h4 : i.size = s) (h5 : i.bytes = bytes) (h6 : z.cells.size = s) (h7 : 0 < s)
    (B : Nat) (v u : Value) (n m : Nat) (xs ys : List Value) (hv : a.eval sx = v) (hu : a.eval x = u) (hG : GrowB w B e s v n xs) (hV : Vec w u m s ys) (one : ∀ u ∈ ys, u.oneCell' = true) (hl : n + m ≤ 1000000) (hby : (n + m) * bytes ≤ 140737488355328) (hB : B ≤ w.heap.size)
    (h : ∀ v' w', GrowB w' B e s v' (n + m) (xs ++ ys) → Below B w w' → K (a.put o.dst v') w') : Oper.wp P o a w K Q := by
  obtain ⟨v', w', hr, r1, r2, r3⟩ := vec_append_run (P := P) w t o.type e i z s bytes h1 h2 h3 h4 h5 h6 h7 B v u n m xs ys hG hV one hl hby hB
  unfold Oper.wp execOp
  simp only [ho, resolve, invoke, builtin, Sem.run_bind, Sem.run_pure, Result.andThen_ok, List.map_toArray, List.map_cons, List.map_nil, hv, hu, hr]
  exact h v' w' r1 r2
theorem infoStr : (Tryz.prog.info? 9).map (fun i => (i.zero, i.size, i.bytes)) = some (some (.string { data := #[] }), 1, 16) := by kernel_rfl
theorem one_strs (l : List (List UInt8)) : ∀ u ∈ l.map encStr, u.oneCell' = true := by
  intro u hu
  obtain ⟨x, -, rfl⟩ := List.mem_map.1 hu
  rfl
theorem str_leq (x y : List UInt8) : (Op.bytesLess x y || x == y) = decide (x ≤ y) := by
  rw [bytesLess_eq]
  by_cases h : x = y
  · subst h
    have : x ≤ x := List.le_refl x
    simp []
  · rw [Bool.eq_iff_iff]
    simp only [Bool.or_eq_true, decide_eq_true_eq, beq_iff_eq, h, or_false]
    constructor
    · exact fun h => List.le_of_lt h
    · intro hle
      exact List.not_le.1 fun hle2 => h (List.le_antisymm hle hle2)
end Go.Proofs.YtaebipopmefkpaaGreatDoor

/-
  label: the document's Sorted.
-/
namespace Go.Proofs.YtaebipopmefkpaaGreatDoor
open Go.RowKit Go.Shelf Go.Sort

theorem drop_above {X : List (List UInt8)} (h : Rising X) {k : Nat} (hk : k < X.length) {x : List UInt8} (hx : x < X[k]) : ∀ z ∈ X.drop k, x < z := fun z hz => by
  rw [List.drop_eq_getElem_cons hk] at hz
  rcases List.mem_cons.1 hz with e | e
  · rw [e]; exact hx
  · have h2 : Rising (X.drop k) := List.Pairwise.sublist (List.drop_sublist _ _) h
    rw [List.drop_eq_getElem_cons hk] at h2
    exact List.lt_trans hx ((List.pairwise_cons.1 h2).1 z e)
theorem vec_newL (W : World) (cs : Array Value) (t : TypeId) (n s : Nat) (h : cs.size = n * s) : Vec (W.alloc (.cells cs t)) (.slice (some ⟨W.heap.size, 0, none⟩) n n) n s cs.toList :=
  ⟨by rw [Array.length_toList]; exact h, _, _, rfl, Nat.le_refl _, fun _ => ⟨_, _, rfl, by simp, fun j y hy => by
    have e := World.alloc_heap_new W (.cells cs t)
    rw [Array.getElem?_toList] at hy
    unfold World.cell?
    simp only [e, Nat.zero_add]
    exact hy⟩⟩
end Go.Proofs.YtaebipopmefkpaaGreatDoor

/-
  label: slices.Sort and slices.Compact of texts, over a row of the call's own.
-/
namespace Go.Proofs.YtaebipopmefkpaaGreatDoor
open Go.RowKit Go.Shelf Go.Sort

theorem own_shrink {W : World} {base g n m cap : Nat} {e : TypeId} {xs : List Value} (h : W.ownsRow base e 1 (.slice (some ⟨g, 0, none⟩) n cap) n xs) (hm : m ≤ n) : W.ownsRow base e 1 (.slice (some ⟨g, 0, none⟩) m cap) m (xs.take m) := by
  obtain ⟨hl, h⟩ := h
  rcases h with ⟨h0, _⟩ | ⟨g', cap', cur, hv, hb, hg, h1, h2, h3, h4⟩
  · cases h0
  · simp only [Value.slice.injEq, Option.some.injEq, Addr.mk.injEq, and_true, true_and] at hv
    obtain ⟨rfl, rfl⟩ := hv
    refine ⟨by rw [List.length_take]; omega, .inr ⟨g, cap, cur, rfl, hb, hg, by omega, h2, h3, ?_⟩⟩
    rw [← h4, List.take_take]
    congr 1
    omega
theorem infoNam : (Tryz.prog.info? 212).map (fun i => (i.zero, i.size, i.bytes)) = some (some (.agg #[.string { data := #[] }]), 1, 16) := by kernel_rfl
/-- A slice of names. -/
abbrev NmS (W : World) (v : Value) (l : List (List UInt8)) : Prop := Vec W v l.length 1 (l.map encStr)
end Go.Proofs.YtaebipopmefkpaaGreatDoor

/-
  label: Sorted.
-/
namespace Go.Proofs.YtaebipopmefkpaaGreatDoor
open Go.RowKit Go.Shelf

end Go.Proofs.YtaebipopmefkpaaGreatDoor

/-
  label: the law's rows of the chapter.
-/
namespace Go.Proofs.YtaebipopmefkpaaGreatDoor
open Go.RowKit Go.Shelf

/-- Five words, of which some may be noughts. -/
def pad5 (l : List Nat) : List Nat := (List.range 5).map fun i => l[i]?.getD 0
theorem pad5_length (l : List Nat) : (pad5 l).length = 5 := rfl
theorem pad5_at (l : List Nat) (i : Nat) (h : i < 5) : (pad5 l)[i]?.getD 0 = l[i]?.getD 0 := by simp [pad5, h]
theorem arr5_pad (l : List Nat) : arr5 (pad5 l) = arr5 l := by
  unfold arr5
  rw [pad5_at l 0 (by omega), pad5_at l 1 (by omega), pad5_at l 2 (by omega), pad5_at l 3 (by omega), pad5_at l 4 (by omega)]
theorem wordsN_64 (s : List UInt8) : Words64 (wordsN s) := fun i => by
  have := WM.wordsOf_at (bsN s) i
  unfold WM.at' at this
  rw [show wordsN s = WM.wordsOf (bsN s) from rfl, this]
  split
  · exact WM.wordAt_lt _ _
  · exact (by decide : 0 < 18446744073709551616)
theorem pad5_64 (l : List Nat) (h : Words64 l) : Words64 (pad5 l) := fun i => by
  by_cases hi : i < 5
  · rw [pad5_at l i hi]; exact h i
  · rw [List.getElem?_eq_none (by rw [pad5_length]; omega)]; exact (by decide : 0 < 18446744073709551616)
theorem same5_pad (l m : List Nat) : same5 l (pad5 m) = same5 l m := by
  unfold same5
  rw [Bool.eq_iff_iff, decide_eq_true_iff, decide_eq_true_iff]
  exact ⟨fun h i hi => (h i hi).trans (pad5_at m i hi), fun h i hi => (h i hi).trans (pad5_at m i hi).symm⟩
theorem ab_words : wordsOut [97, 98] = [25185] := by decide +kernel
theorem ab_read2 : isRead (pad5 [25185]) 2 = true ∧ readN (pad5 [25185]) 2 = [97, 98] := by decide +kernel
theorem ab_read1 : isRead (pad5 [25185]) 1 = false := by decide +kernel
theorem bab_sort : sortU [[98], [97], [98]] = [[97], [98]] :=
  rising_ext (sortU_rising _) (by unfold Rising; simp; decide) fun x => by
    rw [mem_sortU]
    simp only [List.mem_cons, List.not_mem_nil, or_false]
    exact ⟨fun h => h.elim .inr fun h => h.elim .inl .inr, fun h => h.elim (fun h => .inr (.inl h)) .inl⟩
end Go.Proofs.YtaebipopmefkpaaGreatDoor

/-
  label: what follows of names' words; plain.
-/
namespace Go.Proofs.YtaebipopmefkpaaGreatDoor
open Go.RowKit Go.Shelf

theorem pad5_iff (l m : List Nat) : same5 l m = true ↔ pad5 l = pad5 m := by
  unfold same5
  rw [decide_eq_true_iff]
  constructor
  · intro h
    unfold pad5
    exact List.map_congr_left fun i hi => h i (List.mem_range.1 hi)
  · intro h i hi
    rw [← pad5_at l i hi, h, pad5_at m i hi]
theorem same5_refl (l : List Nat) : same5 l l = true := (pad5_iff l l).2 rfl
theorem byteAt_pad (l : List Nat) (i : Nat) (h : i < 40) : WM.byteAt (pad5 l) i = WM.byteAt l i := by
  unfold WM.byteAt WM.at'
  rw [pad5_at l (i / 8) (by omega)]
theorem read_words (s : List UInt8) (h : s.length ≤ 40) : readN (pad5 (wordsN s)) (s.length : Int) = s := by
  apply bsN_inj
  unfold readN
  rw [take_bsN, txtN_bs, Int.toNat_natCast]
  refine WM.list_ext _ _ ?_ fun i hi => ?_
  · rw [List.length_take, WM.bytesOf_length, pad5_length, bsN_length]; omega
  · rw [List.length_take, WM.bytesOf_length, pad5_length] at hi
    rw [WM.at_take _ _ _ (by omega), WM.bytesOf_at _ _ (by rw [pad5_length]; omega), byteAt_pad _ _ (by omega)]
    exact WM.byte_word (bsN s) (bsN_256 s) i
theorem words_inj {s t : List UInt8} (hs : s.length ≤ 40) (hl : s.length = t.length) (h : same5 (wordsN s) (wordsN t) = true) : s = t := by
  rw [← read_words s hs, ← read_words t (by omega), (pad5_iff _ _).1 h, hl]
theorem names_same (s t : List UInt8) (hs : s.length ≤ 40) (_ : t.length ≤ 40) : (same5 (wordsN s) (wordsN t) && ((s.length : Int) == (t.length : Int))) = (s == t) := by
  rw [Bool.eq_iff_iff]
  simp only [Bool.and_eq_true, beq_iff_eq]
  constructor
  · exact fun ⟨h1, h2⟩ => words_inj hs (by omega) h1
  · rintro rfl
    exact ⟨same5_refl _, rfl⟩
theorem same_own (s : List UInt8) (h : rightN s = true) : sameOut s (wordsN s) (s.length : Int) = true := by
  unfold sameOut
  rw [h, same5_refl]
  simp
theorem same_other (s t : List UInt8) (hs : rightN s = true) (ht : rightN t = true) : sameOut t (wordsN s) (s.length : Int) = (s == t) := by
  unfold sameOut
  rw [ht, same5_comm]
  have := names_same s t ((rightN_iff s).1 hs).2.1 ((rightN_iff t).1 ht).2.1
  rw [← this]
  cases same5 (wordsN s) (wordsN t) <;> simp
theorem isRead_own (s : List UInt8) (h : rightN s = true) : isRead (pad5 (wordsN s)) (s.length : Int) = true := by
  unfold isRead
  rw [read_words s ((rightN_iff s).1 h).2.1]
  have h2 := same_own s h
  unfold sameOut at h2 ⊢
  rwa [same5_pad]
theorem laRead_own (s : List UInt8) (h : rightN s = true) (w : World) :
    Calls Tryz.prog 121 #[.agg (arr5 (wordsN s)), .int .i64 (s.length : Nat)] w fun e w' => e = .returned (.tuple #[encStr s, .int .i64 0]) ∧ Below w.heap.size w w' := by
  have hr := laRead_any (pad5 (wordsN s)) rfl (pad5_64 _ (wordsN_64 s)) (s.length : Int) w
  rw [isRead_own s h, read_words s ((rightN_iff s).1 h).2.1, arr5_pad] at hr
  exact hr
theorem laWords_right (s : List UInt8) (h : rightN s = true) (w : World) :
    Calls Tryz.prog 119 #[encStr s] w fun e w' => e = .returned (.tuple #[.agg (arr5 (wordsN s)), .int .i64 0]) ∧ Below w.heap.size w w' := by
  have hw := laWords_any s w
  unfold wordsOut errN at hw
  rw [h] at hw
  exact hw
theorem laWords_wrong (s : List UInt8) (h : rightN s = false) (w : World) :
    Calls Tryz.prog 119 #[encStr s] w fun e w' => e = .returned (.tuple #[.agg (arr5 []), .int .i64 160]) ∧ Below w.heap.size w w' := by
  have hw := laWords_any s w
  unfold wordsOut errN at hw
  rw [h] at hw
  exact hw
end Go.Proofs.YtaebipopmefkpaaGreatDoor

/-
  A region that draws its order: what reads no world at all comes first, whether the operation that waits for others waits for it or not.
-/
namespace Go.Proofs.YtaebipopmefkpaaGreatDoor
open Go.RowKit Go.Shelf

section
variable {P : Program} {md : Region.Mode} {ops : Array Oper} {Q : Exit → Act → World → Prop} {m : Nat} {R : World → Prop}
theorem wpAnyM_firstP {i : Nat} {oi : Oper} {v : Value} (hi : ops[i]? = some oi) (hsel : ∀ (j : Nat) (o : Oper) cs b, ops[j]? = some o → o.op ≠ .select cs b)
    (hQ : ∀ c a w, Q (.panic c) (a.put oi.dst v) w → Q (.panic c) a w) (hmi : m ≠ i) : ∀ (f : Nat) (l : Array Bool) (a : Act) (w : World),
      (∀ j oj, ops[j]? = some oj → j ≠ i → l.getD j true = false → (∀ e ∈ oj.after, Region.binds md e = true → e.on ≠ i) → oi.apart ops oj = true) →
      i ∈ Region.ready md ops l → Yields P ops oi v a → Till m R l w →
      wpAnyM P md ops Q m R f (l.setIfInBounds i true) (a.put oi.dst v) w → wpAnyM P md ops Q m R (f + 1) l a w
  | f, l, a, w, hfree, hr, hy, hT, H => by
    have hil := (mem_ready.1 hr).1
    refine ⟨fun h => (by rw [h] at hr; cases hr), fun j hj => ?_⟩
    by_cases hji : j = i
    · subst hji
      exact hy.wpOp hi ⟨hT.set _, H⟩
    · have hrj := ready_mono hj hji
      cases f with
      | zero =>
        have h0 := H.1
        rw [h0] at hrj
        cases hrj
      | succ f =>
        obtain ⟨hjun, oj, hoj, -⟩ := mem_ready.1 hj
        have hnot := unlisted_not hj hoj hil
        have h2 := wpOp_put hoj (hfree j oj hoj hji hjun hnot) (fun cs b => hsel i oi cs b hi) (fun cs b => hsel j oj cs b hoj) hQ hy (H.2 j hrj)
        refine wpOp_mono (fun a' w' h3 => ?_) h2
        obtain ⟨hya, hTa, hMa⟩ := h3
        have hT2 : Till m R (l.setIfInBounds j true) w' := fun hl => hTa (by
          rw [Array.setIfInBounds_comm _ _ (Ne.symm hji), getD_set_ne true (Ne.symm hmi)]
          exact hl)
        refine ⟨hT2, wpAnyM_firstP hi hsel hQ hmi f (l.setIfInBounds j true) a' w' (fun k ok hk hki hku hno => ?_) (ready_mono hr (Ne.symm hji)) hya hT2 ?_⟩
        · exact hfree k ok hk hki (getD_set_true hku) hno
        · rw [Array.setIfInBounds_comm _ _ hji]; exact hMa
/-- Number i, which reads no world, comes first. -/
theorem wpAnyM_pure {i : Nat} {oi : Oper} {v : Value} {f : Nat} {l : Array Bool} {a : Act} {w : World} (hi : ops[i]? = some oi) (hs : Region.noSelect ops = true)
    (hc : (Region.free md ops l i && (Region.ready md ops l).contains i && (m != i)) = true)
    (hQ : ∀ c a w, Q (.panic c) (a.put oi.dst v) w → Q (.panic c) a w) (hy : Yields P ops oi v a) (hw : R w)
    (h : wpAnyM P md ops Q m R f (l.setIfInBounds i true) (a.put oi.dst v) w) : wpAnyM P md ops Q m R (f + 1) l a w := by
  simp only [Bool.and_eq_true, bne_iff_ne, ne_eq] at hc
  obtain ⟨⟨h1, h2⟩, h3⟩ := hc
  exact wpAnyM_firstP hi (Region.noSelect_spec hs) hQ h3 f l a w (Region.free_spec hi h1) (by simpa using h2) hy (fun _ => hw) h
/-- Of two that are ready either may come (inside a fence). -/
theorem wpAnyN_two {Fc : Fence} {n : Nat} {i j : Nat} {oi oj : Oper} {f : Nat} {l : Array Bool} {a : Act} {w : World} (hi : ops[i]? = some oi) (hj : ops[j]? = some oj) (hr : Region.ready md ops l = [i, j])
    (hgi : Region.wanted oi (yielded ops a.tmps) = true) (hgj : Region.wanted oj (yielded ops a.tmps) = true)
    (h : ∀ K : Act → World → Prop, (∀ a' w', ((l.setIfInBounds i true).getD m true = false → R w') → wpAnyN Fc n P md ops Q m R f (l.setIfInBounds i true) a' w' → K a' w') → Oper.wpIn Fc n P oi a w K Q)
    (h' : ∀ K : Act → World → Prop, (∀ a' w', ((l.setIfInBounds j true).getD m true = false → R w') → wpAnyN Fc n P md ops Q m R f (l.setIfInBounds j true) a' w' → K a' w') → Oper.wpIn Fc n P oj a w K Q) : wpAnyN Fc n P md ops Q m R (f + 1) l a w := by
  refine ⟨fun h0 => (by rw [h0] at hr; cases hr), fun k hk => ?_⟩
  rw [hr] at hk
  rcases (by simpa using hk : k = i ∨ k = j) with rfl | rfl
  · unfold wpOpIn
    simp only [hi]
    rw [if_pos hgi]
    exact h _ fun a' w' h1 h2 => ⟨h1, h2⟩
  · unfold wpOpIn
    simp only [hj]
    rw [if_pos hgj]
    exact h' _ fun a' w' h1 h2 => ⟨h1, h2⟩
end
end Go.Proofs.YtaebipopmefkpaaGreatDoor

/-
  node: the part of an entry that is its name.
-/
namespace Go.Proofs.YtaebipopmefkpaaGreatDoor
open Go.RowKit Go.Shelf Go.Sort
attribute [local go_sem] Oper.semAt_some

/-- A text among cells. -/
def txtOf : Value → List UInt8
  | .string b => b.data.toList
  | _ => []
def txtAt (x : Array Value) (i : Nat) : List UInt8 := txtOf (x[i]?.getD (.bool false))
/-- Two numbers and a text. -/
def GoodE (x : Array Value) : Prop := x.size = 3 ∧ (∀ j, j < 2 → ∃ n, x[j]? = some (.int .i64 n) ∧ -9223372036854775808 ≤ n ∧ n < 9223372036854775808) ∧ ∃ s : List UInt8, x[2]? = some (encStr s) ∧ s.length ≤ 1000
theorem txtAt_of {x : Array Value} {i : Nat} {s : List UInt8} (h : x[i]? = some (encStr s)) : txtAt x i = s := by unfold txtAt; rw [h]; rfl
theorem goodE_num {i : Nat} (hi : i < 2) : NumGood GoodE i where
  at_ x h := h.2.1 i hi
  set x n h h0 h1 := ⟨by rw [Array.size_setIfInBounds]; exact h.1, fun j hj => by
    by_cases e : i = j
    · subst e
      exact ⟨n, by rw [Array.getElem?_setIfInBounds_self]; simp [h.1]; omega, by omega, by omega⟩
    · obtain ⟨m, hm, h2⟩ := h.2.1 j hj
      exact ⟨m, by rw [Array.getElem?_setIfInBounds_ne e]; exact hm, h2⟩, by
    obtain ⟨s, hs, hl⟩ := h.2.2
    exact ⟨s, by rw [Array.getElem?_setIfInBounds_ne (by omega)]; exact hs, hl⟩⟩
theorem goodE_one {x : Array Value} (h : GoodE x) : x.all (·.oneCell') = true := by
  obtain ⟨h1, h2, s, hs, -⟩ := h
  refine Array.all_eq_true.2 fun i hi => ?_
  rw [h1] at hi
  by_cases h3 : i < 2
  · obtain ⟨n, hn, -⟩ := h2 i h3
    rw [Array.getElem?_eq_getElem (by omega)] at hn
    rw [Option.some.inj hn]
    rfl
  · obtain rfl : i = 2 := by omega
    rw [Array.getElem?_eq_getElem (by omega)] at hs
    rw [Option.some.inj hs]
    rfl
theorem goodE_zero : GoodE ndZeroE := ⟨rfl, fun j hj => by
  have : j = 0 ∨ j = 1 := by omega
  rcases this with rfl | rfl <;> exact ⟨0, rfl, by decide, by decide⟩, [], rfl, by decide⟩
/-- The words of a line from the third on. -/
def nat5 (l : List Int) : List Nat := (l.drop 3).map Int.toNat
def fiveI (s : List UInt8) : List Int := (List.range 5).map fun i => (((wordsN s)[i]?.getD 0 : Nat) : Int)
def namedS : NdS :=
  { ok := fun x => rightN (txtAt x 2), wr := fun x l => (l.set 2 ((txtAt x 2).length : Nat)).take 3 ++ fiveI (txtAt x 2),
    rd := fun l x => if l[2]?.getD 0 ≤ 1024 ∧ isRead (nat5 l) (l[2]?.getD 0) = true then some (x.setIfInBounds 2 (encStr (readN (nat5 l) (l[2]?.getD 0)))) else none }
theorem fiveI_length (s : List UInt8) : (fiveI s).length = 5 := by simp [fiveI]
theorem lnA_five (s : List UInt8) : lnA (fiveI s) = arr5 (wordsN s) := rfl
theorem lnA_toList (l : List Int) : (lnA l).toList = l.map (Value.int .u64) := rfl
theorem nd_exec_load {P : Program} {w : World} {o : Oper} {a : Act} {ty : TypeId} {x : Operand} (ho : o.op = .load ty x) {p v : Value} (hx : a.eval x = p) (hr : (Instr.loadAt ty p).run P w = .ok v w) : (execOp a.eval o).run P w = .ok (.value v) w := by
  unfold execOp
  simp only [ho, hx, hr, Sem.run_bind, Result.andThen_ok]
  rfl
/-- copy of which the run is known. -/
theorem nd_copy_eq {P : Program} {Q : Exit → Act → World → Prop} {w w' : World} {a : Act} {o : Oper} {K : Act → World → Prop} (s x : Operand) (ts : Array TypeId) (ho : o.op = .call { callee := .builtin .copy, args := #[s, x], argTypes := ts })
    (v u r : Value) (hs : a.eval s = v) (hx : a.eval x = u) (hr : (Builtin.copy_ ts o.type #[v, u]).run P w = .ok r w') (h : K (a.put o.dst r) w') : o.wp P a w K Q := by
  unfold Oper.wp execOp
  simp only [ho, resolve, invoke, builtin, Sem.run_bind, Sem.run_pure, Result.andThen_ok, List.map_toArray, List.map_cons, List.map_nil, hs, hx, hr]
  exact h
/-- copy of words of a block into another one. -/
theorem blk_copy {W : World} {b c : Nat} {t u : TypeId} {l m : List Int} {o s n : Nat} (h : Blk W b t (lnA l)) (hc : Blk W c u (lnA m)) (ho : o + n ≤ l.length) (hs : s + n ≤ m.length) (dc sc : Nat) (ty : TypeId) :
    ∃ W', (Builtin.copy_ #[174, 174] ty #[.slice (some ⟨b, o, none⟩) n dc, .slice (some ⟨c, s, none⟩) n sc]).run Tryz.prog W = .ok (goInt n) W' ∧ Blk W' b t (lnA (l.take o ++ (m.drop s).take n ++ l.drop (o + n))) ∧ Turn (fun k => k = b) W W' := by
  have hlen : (((m.drop s).take n).map (Value.int .u64)).length = n := by rw [List.length_map, List.length_take, List.length_drop]; omega
  obtain ⟨h1, h2⟩ := setCells_blk (((m.drop s).take n).map (Value.int .u64)) o W (lnA l) h (by rw [hlen, lnA_size]; exact ho)
  have hr := run_copy_cells (P := Tryz.prog) W 174 174 ty 22 b o n dc ⟨c, s, none⟩ n sc (((m.drop s).take n).map (Value.int .u64)) Tryz.underlying174 (by kernel_rfl) (by rw [hlen]; simp)
    (fun j v hv => by
      have hj : j < n := by rw [← hlen]; exact (List.getElem?_eq_some_iff.1 hv).1
      rw [Addr.add_mid, hc.cell]
      rw [List.getElem?_map, List.getElem?_take_of_lt hj, List.getElem?_drop] at hv
      rw [lnA, List.getElem?_toArray, List.getElem?_map]
      exact hv)
    (fun j hj => by
      rw [hlen] at hj
      rw [h.cell (lnA_at l (o + j) (by omega))]
      rfl)
    (fun j _ => h.frozen _)
    (fun v hv => by
      obtain ⟨x, -, rfl⟩ := List.mem_map.1 hv
      rfl)
  rw [hlen] at hr
  refine ⟨_, hr, ?_, h2⟩
  rw [hlen, lnA_toList] at h1
  have e : (List.take o (l.map (Value.int .u64)) ++ ((m.drop s).take n).map (Value.int .u64) ++ List.drop (o + n) (l.map (Value.int .u64))).toArray = lnA (l.take o ++ (m.drop s).take n ++ l.drop (o + n)) := by
    simp [lnA, List.map_take, List.map_drop]
  rw [e] at h1
  exact h1
end Go.Proofs.YtaebipopmefkpaaGreatDoor

/-
  node: values that are the same; the laws' own small functions.
-/
namespace Go.Proofs.YtaebipopmefkpaaGreatDoor
open Go.RowKit Go.Shelf
attribute [local go_sem] Oper.semAt_some

theorem num8_any (n : Int) (w : World) : Calls Tryz.prog 35 #[.int .i64 n] w fun e w' => e = .returned (.int .i64 n) ∧ w = w' := by
  go_enter Tryz.func35, Tryz.ntmps35
  go_wp2
  go_ret
  exact ⟨rfl, rfl⟩
theorem ndList_loadW {P : Program} {ops : Array Oper} {Q : Exit → Act → World → Prop} {w : World} {a : Act} {o : Oper} {rest : List Oper} (hwt : Region.wanted o (yielded ops a.tmps) = true) (ty : TypeId) (x : Operand) (ho : o.op = .load ty x) (p v : Value) (hx : a.eval x = p) (hr : (Instr.loadAt ty p).run P w = .ok v w) (h : wpList P ops Q rest (a.put o.dst v) w) : wpList P ops Q (o :: rest) a w :=
  BigFrame.wpList_want hwt fun _ hK => by
    unfold Oper.wp execOp
    simp only [ho, hx, hr, Sem.run_bind, Result.andThen_ok]
    exact hK _ _ h
/-- The numbers of cells. -/
def nums (x : Array Value) : List Int := (List.range x.size).map (numAt x)
theorem goodI_eq {k : Nat} {x : Array Value} (h : GoodI k x) : x = ints (nums x) := by
  refine Array.ext (by simp [ints, nums]) fun i h1 h2 => ?_
  obtain ⟨n, hn, -⟩ := h.2 i (by rw [← h.1]; exact h1)
  have e := numAt_of hn
  rw [Array.getElem?_eq_getElem h1] at hn
  simp only [ints, nums, List.getElem_toArray, List.getElem_map, List.getElem_range]
  rw [Option.some.inj hn, e]
theorem nums_length (x : Array Value) : (nums x).length = x.size := by simp [nums]
theorem refl_line {t : TypeId} (ht : Tryz.prog.underlying t = some (.array 8 22)) {l : List Int} (hl : Line8 l) (W : World) : (Op.equalIn 10000 t (.agg (lnA l)) (.agg (lnA l))).run Tryz.prog W = .ok true W := by
  rw [eql_line ht l l hl.1 hl.1]; simp
theorem refl_I {x : Array Value} (h : GoodI 3 x) (W : World) : (Op.equalIn 10000 31 (.agg x) (.agg x)).run Tryz.prog W = .ok true W := by
  obtain ⟨l, hl, rfl⟩ : ∃ l : List Int, l.length = 3 ∧ x = ints l := ⟨_, by rw [nums_length, h.1], goodI_eq h⟩
  match l, hl with
  | [a, b, c], _ =>
    simp [ints, go_sem]
theorem refl_S {x : Array Value} (h : GoodI 2 x) (W : World) : (Op.equalIn 10000 25 (.agg x) (.agg x)).run Tryz.prog W = .ok true W := by
  obtain ⟨l, hl, rfl⟩ : ∃ l : List Int, l.length = 2 ∧ x = ints l := ⟨_, by rw [nums_length, h.1], goodI_eq h⟩
  match l, hl with
  | [a, b], _ =>
    simp [ints, go_sem]
theorem refl_E {x : Array Value} (h : GoodE x) (W : World) : (Op.equalIn 10000 44 (.agg x) (.agg x)).run Tryz.prog W = .ok true W := by
  obtain ⟨h1, h2, s, hs, -⟩ := h
  obtain ⟨a, ha, -⟩ := h2 0 (by decide)
  obtain ⟨b, hb, -⟩ := h2 1 (by decide)
  have hx : x = #[.int .i64 a, .int .i64 b, encStr s] := by
    refine Array.ext (by rw [h1]; rfl) fun i g1 g2 => ?_
    rw [h1] at g1
    have hi : i = 0 ∨ i = 1 ∨ i = 2 := by omega
    rcases hi with rfl | rfl | rfl
    · rw [Array.getElem?_eq_getElem (by omega)] at ha
      exact Option.some.inj ha
    · rw [Array.getElem?_eq_getElem (by omega)] at hb
      exact Option.some.inj hb
    · rw [Array.getElem?_eq_getElem (by omega)] at hs
      exact Option.some.inj hs
  subst hx
  simp [go_sem]
theorem refl_7 (a b c d e f g : Int) (D : Nat) (W : World) : (Op.equalIn (D + 2) 34 (.agg #[.int .i64 a, .int .i64 b, .int .i64 c, .int .i64 d, .int .i64 e, .int .i64 f, .int .i64 g]) (.agg #[.int .i64 a, .int .i64 b, .int .i64 c, .int .i64 d, .int .i64 e, .int .i64 f, .int .i64 g])).run Tryz.prog W = .ok true W := by
  have h := ndEqual (k := .i64) Tryz.underlying3 (by kernel_rfl) (by kernel_rfl) (t := 34) Tryz.underlying34 D [a, b, c, d, e, f, g] [a, b, c, d, e, f, g] rfl rfl W
  rw [show ([a, b, c, d, e, f, g] == [a, b, c, d, e, f, g]) = true by simp] at h
  exact h
theorem refl_T {x : Array Value} (h : GoodI 7 x) (W : World) : (Op.equalIn 10000 40 (.agg x) (.agg x)).run Tryz.prog W = .ok true W := by
  obtain ⟨l, hl, rfl⟩ : ∃ l : List Int, l.length = 7 ∧ x = ints l := ⟨_, by rw [nums_length, h.1], goodI_eq h⟩
  match l, hl with
  | [a, b, c, d, e, f, g], _ =>
    have h7 := refl_7 a b c d e f g 9997 W
    simp [ints, go_sem, h7]
theorem refl_M {x : Array Value} (h : GoodI 8 x) (W : World) : (Op.equalIn 10000 36 (.agg x) (.agg x)).run Tryz.prog W = .ok true W := by
  obtain ⟨l, hl, rfl⟩ : ∃ l : List Int, l.length = 8 ∧ x = ints l := ⟨_, by rw [nums_length, h.1], goodI_eq h⟩
  match l, hl with
  | [z, a, b, c, d, e, f, g], _ =>
    have h7 := refl_7 a b c d e f g 9997 W
    simp [ints, go_sem, h7]
end Go.Proofs.YtaebipopmefkpaaGreatDoor

/-
  node: the document's answers: a word as a small number, noughts; the law's got.
-/
namespace Go.Proofs.YtaebipopmefkpaaGreatDoor
open Go.RowKit Go.Shelf
attribute [local go_sem] Oper.semAt_some

def smN (x : Int) : Int := if 1048576 ≤ x then -1 else x
theorem refSmall_any (x : Int) (h : 0 ≤ x) (w : World) : Calls Tryz.prog 26 #[.int .u64 x] w fun e w' => e = .returned (.int .i64 (smN x)) ∧ w = w' := by
  by_cases g : 1048576 ≤ x
  · have hs : smN x = -1 := if_pos g
    rw [hs]
    clear hs
    go_enter Tryz.func26, Tryz.ntmps26
    go_wp2
    go_ret
    exact ⟨rfl, rfl⟩
  · have hs : smN x = x := if_neg g
    rw [hs]
    clear hs
    have hw : wrap64 x = x := by unfold wrap64; omega
    go_enter Tryz.func26, Tryz.ntmps26
    go_wp2
    go_ret
    exact ⟨rfl, rfl⟩
theorem got8_yes (w : World) : Calls Tryz.prog 14 #[.bool true, .int .i64 0, .bool true] w fun e w' => e = .returned (.bool true) ∧ w = w' := by
  have HN := Lib.hid num8_any
  go_enter Tryz.func14, Tryz.ntmps14
  go_wp2_with (go_at_call 35; refine (HN.out _ _).mono ?_; rintro e w' ⟨rfl, rfl⟩)
  go_ret
  exact ⟨rfl, rfl⟩
theorem got8_no (w : World) : Calls Tryz.prog 14 #[.bool true, .int .i64 180, .bool false] w fun e w' => e = .returned (.bool true) ∧ w = w' := by
  have HN := Lib.hid num8_any
  go_enter Tryz.func14, Tryz.ntmps14
  go_wp2_with (go_at_call 35; refine (HN.out _ _).mono ?_; rintro e w' ⟨rfl, rfl⟩)
  go_ret
  exact ⟨rfl, rfl⟩
set_option maxRecDepth 100000 in
set_option maxHeartbeats 4000000 in
theorem refNoughts_any (l : List Int) (hl : l.length = 8) (w : World) : Calls Tryz.prog 30 #[.agg (lnA l), .int .i64 2] w fun e w' => e = .returned (.bool ((List.range 8).all fun j => decide (j < 2) || l[j]?.getD 0 == 0)) ∧ Below w.heap.size w w' := by
  obtain ⟨X, hX⟩ : ∃ X, lnA l = X := ⟨_, rfl⟩
  rw [hX]
  have HXX := Lib.hid hX
  have HLEN := Lib.hid hl
  obtain ⟨W1, hW1⟩ : ∃ W1, w.alloc (.cells X 23) = W1 := ⟨_, rfl⟩
  have HB1 : Hid (Below w.heap.size w W1) := show Below _ _ _ by rw [← hW1]; exact (by repeat (first | exact Below.refl _ _ | assumption | refine Below.drew ?_ | refine below_drewN ?_ _ | refine Below.alloc ?_ (by (try simp) <;> omega) _ | refine Below.setCell ?_ (by (try simp) <;> omega) _ | refine Below.trans ?_ (Below.mono (by assumption) (by (try simp) <;> omega))))
  have HX1 : Hid (Blk W1 w.heap.size 23 X) := show Blk _ _ _ _ by rw [← hW1]; exact Blk.new _ _ _
  have HW := Lib.hid hW1
  clear hW1 hX hl
  go_enter Tryz.func30, Tryz.ntmps30
  go_wp2_with fail
  rw [HW.out]
  go_loopw [5] (fun i wr => ∃ k : Nat, 2 ≤ k ∧ k ≤ 8 ∧ i = .int .i64 (k : Nat) ∧ W1 = wr ∧ Hid ((List.range k).all (fun j => decide (j < 2) || l[j]?.getD 0 == 0) = true)) (fun i _ => 8 - (intOf i).toNat)
  case atStart => exact ⟨2, by decide, by decide, rfl, rfl, (show _ = true from rfl)⟩
  case round =>
    obtain ⟨k, hk0, hk, rfl, rfl, HA⟩ := hrel
    by_cases hlt : k < 8
    · have hk2 : ((k : Nat) : Int) < 8 := by omega
      have c1 : W1.cell? ⟨w.heap.size, k, none⟩ = some (.int .u64 (l[k]?.getD 0)) := HX1.out.cell (by rw [← HXX.out]; exact lnA_at l k (by rw [HLEN.out]; exact hlt))
      by_cases hy : l[k]?.getD 0 = 0
      · have HR : Hid ((List.range (k + 1)).all (fun j => decide (j < 2) || l[j]?.getD 0 == 0) = true) := show _ = true by rw [List.range_succ, List.all_append, HA.out]; simp [hy]
        rw [hy] at c1
        clear hy
        go_wp2_with fail
        go_roundw
        case rel => exact ⟨k + 1, by omega, by omega, by go_num, by first | rfl | trivial, HR⟩
        case measure => simp [intOf]; omega
      · have HR : Hid (((List.range 8).all fun j => decide (j < 2) || l[j]?.getD 0 == 0) = false) := show _ = false by
          rw [List.all_eq_false]
          exact ⟨k, List.mem_range.2 hlt, by simp [hy]; omega⟩
        obtain ⟨y, hy1⟩ : ∃ y, l[k]?.getD 0 = y := ⟨_, rfl⟩
        rw [hy1] at c1 hy
        have hy2 : (y != 0) = true := by simpa using hy
        clear hy1
        go_wp2_with fail
        go_ret
        exact ⟨ret_bool HR.out.symm, HB1.out⟩
    · obtain rfl : k = 8 := by omega
      go_wp2_with fail
      go_ret
      exact ⟨ret_bool HA.out.symm, HB1.out⟩
end Go.Proofs.YtaebipopmefkpaaGreatDoor
