/-
  Slices of numbers, cut: s[:k] and s[k:], nil let in, as one value of which is known what it holds.
-/
import Derived.Test.YtkpiehejkhjhlaaApp
namespace Go.Proofs.Ytkpiehejkhjhlaa
open Go.RowKit

theorem cut_to {P : Program} {t e : TypeId} {i : TypeInfo} (h1 : P.underlying t = some (.slice e)) (h2 : P.info? e = some i) (h3 : i.size = 1) {W : World} {kk : IntKind} {v : Value} {xs : List Nat} (hs : Sl W kk v xs) (k : Nat) (hk : k ≤ xs.length) :
    ∃ r, (∀ w, (Instr.sliceAt t v none (some (.int .i64 k)) none).run P w = .ok r w) ∧ (∀ W', Sl W' kk v xs → Sl W' kk r (xs.take k)) := by
  obtain ⟨a, cap, rfl, hlc, -⟩ := hs
  have he : P.elem t = e := by simp [Program.elem, h1]
  have ht : P.underlying t = some (.slice (P.elem t)) := by rw [he]; exact h1
  refine ⟨.slice a k cap, fun w => ?_, fun W' hs' => ?_⟩
  · rw [run_sliceAt_slice w t _ _ _ _ ht, run_slice_h w t a xs.length cap ht .i64 (k : Int) (by omega) (by omega), he]
    simp [sizeOf, typeInfo, h2, h3, sliced, Addr.add, Result.andThen]
  · obtain ⟨a', c', e', hl', hc⟩ := hs'
    simp only [Value.slice.injEq] at e'
    obtain ⟨rfl, _, rfl⟩ := e'
    have hlen : (xs.take k).length = k := by rw [List.length_take]; omega
    refine ⟨a, cap, by rw [hlen], by omega, fun h0 => ?_⟩
    obtain ⟨b, off, h1, h2, h3⟩ := hc (by omega)
    refine ⟨b, off, h1, h2, fun j hj => ?_⟩
    rw [h3 j (by omega)]
    simp [show j < k by omega]
theorem cut_from {P : Program} {t e : TypeId} {i : TypeInfo} (h1 : P.underlying t = some (.slice e)) (h2 : P.info? e = some i) (h3 : i.size = 1) {W : World} {kk : IntKind} {v : Value} {xs : List Nat} (hs : Sl W kk v xs) (k : Nat) (hk : k ≤ xs.length) :
    ∃ r, (∀ w, (Instr.sliceAt t v (some (.int .i64 k)) none none).run P w = .ok r w) ∧ (∀ W', Sl W' kk v xs → Sl W' kk r (xs.drop k)) := by
  obtain ⟨a, cap, rfl, hlc, -⟩ := hs
  have he : P.elem t = e := by simp [Program.elem, h1]
  have ht : P.underlying t = some (.slice (P.elem t)) := by rw [he]; exact h1
  refine ⟨.slice (if cap = k then a else a.map (·.add (k * 1))) (xs.length - k) (cap - k), fun w => ?_, fun W' hs' => ?_⟩
  · rw [run_sliceAt_slice w t _ _ _ _ ht, run_slice_l w t a xs.length cap ht .i64 (k : Int) (by omega) (by omega), he]
    simp [sizeOf, typeInfo, h2, h3, sliced, Result.andThen]
  · obtain ⟨a', c', e', hl', hc⟩ := hs'
    simp only [Value.slice.injEq] at e'
    obtain ⟨rfl, _, rfl⟩ := e'
    have hlen : (xs.drop k).length = xs.length - k := by rw [List.length_drop]
    refine ⟨_, cap - k, by rw [hlen], by omega, fun h0 => ?_⟩
    obtain ⟨b, off, rfl, h2, h3⟩ := hc (by omega)
    refine ⟨b, off + k, ?_, h2, fun j hj => ?_⟩
    · rw [if_neg (by omega)]
      simp only [Option.map_some, Addr.add, Nat.mul_one]
      split <;> simp_all
    · rw [Nat.add_assoc, h3 (k + j) (by omega)]
      simp
end Go.Proofs.Ytkpiehejkhjhlaa
