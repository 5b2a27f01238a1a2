/-
  label: slices of texts cut; an append in a drawn region.
-/
import Derived.Sort.Walk0
import Derived.Test.YtoaloeipgadkjaaLaK
namespace Go.Proofs.Ytoaloeipgadkjaa
open Go.RowKit Go.Shelf Go.Sort

theorem cut_toV {P : Program} {t e : TypeId} {i : TypeInfo} (h1 : P.underlying t = some (.slice e)) (h2 : P.info? e = some i) (h3 : i.size = 1) {W : World} {v : Value} {n : Nat} {xs : List Value} (hs : Vec W v n 1 xs) (k : Nat) (hk : k ≤ n) :
    ∃ r, (∀ w, (Instr.sliceAt t v none (some (.int .i64 k)) none).run P w = .ok r w) ∧ (∀ W', Vec W' v n 1 xs → Vec W' r k 1 (xs.take k)) := by
  obtain ⟨hl, a, cap, rfl, hlc, -⟩ := hs
  have he : P.elem t = e := by simp [Program.elem, h1]
  have ht : P.underlying t = some (.slice (P.elem t)) := by rw [he]; exact h1
  refine ⟨.slice a k cap, fun w => ?_, fun W' hs' => ?_⟩
  · rw [run_sliceAt_slice w t _ _ _ _ ht, run_slice_h w t a n cap ht .i64 (k : Int) (by omega) (by omega), he]
    simp [sizeOf, typeInfo, h2, h3, sliced, Addr.add, Result.andThen]
  · obtain ⟨-, a', c', e', hl', hc⟩ := hs'
    simp only [Value.slice.injEq] at e'
    obtain ⟨rfl, _, rfl⟩ := e'
    refine ⟨by rw [List.length_take]; omega, a, cap, rfl, by omega, fun h0 => ?_⟩
    obtain ⟨b, off, h1, h2, h3⟩ := hc (by omega)
    refine ⟨b, off, h1, h2, fun j y hj => h3 j y ?_⟩
    have hjk : j < k := by
      have := (List.getElem?_eq_some_iff.1 hj).1
      rw [List.length_take] at this; omega
    rwa [List.getElem?_take_of_lt hjk] at hj
theorem cut_fromV {P : Program} {t e : TypeId} {i : TypeInfo} (h1 : P.underlying t = some (.slice e)) (h2 : P.info? e = some i) (h3 : i.size = 1) {W : World} {v : Value} {n : Nat} {xs : List Value} (hs : Vec W v n 1 xs) (k : Nat) (hk : k ≤ n) :
    ∃ r, (∀ w, (Instr.sliceAt t v (some (.int .i64 k)) none none).run P w = .ok r w) ∧ (∀ W', Vec W' v n 1 xs → Vec W' r (n - k) 1 (xs.drop k)) := by
  obtain ⟨hl, a, cap, rfl, hlc, -⟩ := hs
  have he : P.elem t = e := by simp [Program.elem, h1]
  have ht : P.underlying t = some (.slice (P.elem t)) := by rw [he]; exact h1
  refine ⟨.slice (if cap = k then a else a.map (·.add (k * 1))) (n - k) (cap - k), fun w => ?_, fun W' hs' => ?_⟩
  · rw [run_sliceAt_slice w t _ _ _ _ ht, run_slice_l w t a n cap ht .i64 (k : Int) (by omega) (by omega), he]
    simp [sizeOf, typeInfo, h2, h3, sliced, Result.andThen]
  · obtain ⟨-, a', c', e', hl', hc⟩ := hs'
    simp only [Value.slice.injEq] at e'
    obtain ⟨rfl, _, rfl⟩ := e'
    refine ⟨by rw [List.length_drop]; omega, _, cap - k, rfl, by omega, fun h0 => ?_⟩
    obtain ⟨b, off, rfl, h2, h3⟩ := hc (by omega)
    refine ⟨b, off + k, ?_, h2, fun j y hj => ?_⟩
    · rw [if_neg (by omega)]
      simp only [Option.map_some, Addr.add, Nat.mul_one]
      split <;> simp_all
    · rw [Nat.add_assoc]
      refine h3 (k + j) y ?_
      rwa [List.getElem?_drop] at hj
/-- An append, at a step of a drawn region. -/
theorem wp_append_vec {P : Program} {w : World} {o : Oper} {a : Act} {K : Act → World → Prop} {Q : Exit → Act → World → Prop} (sx x : Operand) (t : TypeId)
    (ho : o.op = .call { callee := .builtin .append, args := #[sx, x], argTypes := #[t, t] }) (e : TypeId) (i : TypeInfo) (z : Value) (s bytes : Nat) (h1 : P.underlying t = some (.slice e)) (h2 : P.info? e = some i) (h3 : i.zero = some z) (h4 : i.size = s) (h5 : i.bytes = bytes) (h6 : z.cells.size = s) (h7 : 0 < s)
    (B : Nat) (v u : Value) (n m : Nat) (xs ys : List Value) (hv : a.eval sx = v) (hu : a.eval x = u) (hG : GrowB w B e s v n xs) (hV : Vec w u m s ys) (one : ∀ u ∈ ys, u.oneCell' = true) (hl : n + m ≤ 1000000) (hby : (n + m) * bytes ≤ 140737488355328) (hB : B ≤ w.heap.size)
    (h : ∀ v' w', GrowB w' B e s v' (n + m) (xs ++ ys) → Below B w w' → K (a.put o.dst v') w') : Oper.wp P o a w K Q := by
  obtain ⟨v', w', hr, r1, r2, r3⟩ := vec_append_run (P := P) w t o.type e i z s bytes h1 h2 h3 h4 h5 h6 h7 B v u n m xs ys hG hV one hl hby hB
  unfold Oper.wp execOp
  simp only [ho, resolve, invoke, builtin, Sem.run_bind, Sem.run_pure, Result.andThen_ok, List.map_toArray, List.map_cons, List.map_nil, hv, hu, hr]
  exact h v' w' r1 r2
theorem infoStr : (Try.prog.info? 9).map (fun i => (i.zero, i.size, i.bytes)) = some (some (.string { data := #[] }), 1, 16) := by kernel_rfl
theorem one_strs (l : List (List UInt8)) : ∀ u ∈ l.map encStr, u.oneCell' = true := by
  intro u hu
  obtain ⟨x, -, rfl⟩ := List.mem_map.1 hu
  rfl
theorem str_leq (x y : List UInt8) : (Op.bytesLess x y || x == y) = decide (x ≤ y) := by
  rw [bytesLess_eq]
  by_cases h : x = y
  · subst h
    have : x ≤ x := List.le_refl x
    simp []
  · rw [Bool.eq_iff_iff]
    simp only [Bool.or_eq_true, decide_eq_true_eq, beq_iff_eq, h, or_false]
    constructor
    · exact fun h => List.le_of_lt h
    · intro hle
      exact List.not_le.1 fun hle2 => h (List.le_antisymm hle hle2)
end Go.Proofs.Ytoaloeipgadkjaa
