/-
  The walk of the law PlaceRuns.
-/
import Derived.Test.YtkighpfckibkoaaDoorPlaL2
import Derived.Deep.RegionHeld3
namespace Go.Proofs.YtkighpfckibkoaaDoor
open Go.RowKit Go.Shelf

theorem cut_toP {P : Program} {t e : TypeId} {i : TypeInfo} (h1 : P.underlying t = some (.slice e)) (h2 : P.info? e = some i) (h3 : i.size = 2) {W : World} {v : Value} {xs : List (Int × Int)} (hs : SlP W v xs) (k : Nat) (hk : k ≤ xs.length) :
    ∃ r, (∀ w, (Instr.sliceAt t v none (some (.int .i64 k)) none).run P w = .ok r w) ∧ (∀ W', SlP W' v xs → SlP W' r (xs.take k)) := by
  obtain ⟨a, cap, rfl, hlc, -⟩ := hs
  have he : P.elem t = e := by simp [Program.elem, h1]
  have ht : P.underlying t = some (.slice (P.elem t)) := by rw [he]; exact h1
  refine ⟨.slice a k cap, fun w => ?_, fun W' hs' => ?_⟩
  · rw [run_sliceAt_slice w t _ _ _ _ ht, run_slice_h w t a xs.length cap ht .i64 (k : Int) (by omega) (by omega), he]
    simp [sizeOf, typeInfo, h2, h3, sliced, Addr.add, Result.andThen]
  · obtain ⟨a', c', e', hl', hc⟩ := hs'
    simp only [Value.slice.injEq] at e'
    obtain ⟨rfl, _, rfl⟩ := e'
    have hlen : (xs.take k).length = k := by rw [List.length_take]; omega
    refine ⟨a, cap, by rw [hlen], by omega, fun h0 => ?_⟩
    obtain ⟨b, off, h1, h2, h3⟩ := hc (by omega)
    refine ⟨b, off, h1, h2, fun j hj => ?_⟩
    rw [(h3 j (by omega)).1, (h3 j (by omega)).2]
    simp [show j < k by omega]
theorem runP_min (l v many : Int) : runP l v (min many 9000) = runP l v many := by
  unfold runP
  have h := roomN_le l v
  by_cases hm : many ≤ 9000
  · rw [show min many 9000 = many by omega]
  · rw [show min many 9000 = 9000 by omega, List.take_of_length_le (by rw [places_len]; exact Nat.le_trans h (by decide)), List.take_of_length_le (by rw [places_len]; omega)]
theorem runs3_skip (l v many most : Int) (h1 : 300 < many) (h2 : many < 8000) (w : World) (ht : Ends w) :
    Calls Tryd.prog 5 #[.agg #[.int .i64 l, .int .i64 v], .int .i64 many, .int .i64 most] w fun e w' => e = .returned (.bool true) ∧ Below w.heap.size w w' := by
  have hz := ht.room
  have HT := Lib.hid ht; clear ht
  go_enter Tryd.func5, Tryd.ntmps5
  go_wp2_with fail
  refine (works3_any _ (HT.out.below (B := w.heap.size) (by repeat (first | exact Below.refl _ _ | assumption | refine Below.drew ?_ | refine below_drewN ?_ _ | refine Below.alloc ?_ (by (try simp) <;> omega) _ | refine Below.setCell ?_ (by (try simp) <;> omega) _ | refine Below.trans ?_ (Below.mono (by assumption) (by (try simp) <;> omega)))) hz)).mono ?_
  rintro e w1 ⟨rfl, hb1⟩
  go_wp2_with fail
  go_ret
  exact ⟨rfl, (by repeat (first | exact Below.refl _ _ | assumption | refine Below.drew ?_ | refine below_drewN ?_ _ | refine Below.alloc ?_ (by (try simp) <;> omega) _ | refine Below.setCell ?_ (by (try simp) <;> omega) _ | refine Below.trans ?_ (Below.mono (by assumption) (by (try simp) <;> omega))))⟩
theorem same3_own (v u : Value) {xs ys : List (Int × Int)} (w : World) (hv : SlP w v xs) (hu : SlP w u ys) (hx : xs.length ≤ 140737488351232) (hy : ys.length ≤ 140737488351232) :
    Calls Tryd.prog 21 #[v, u] w fun e w' => e = .returned (.bool (decide (xs = ys))) ∧ Below w.heap.size w w' := same3_any v u xs ys hx hy w hv hu
end Go.Proofs.YtkighpfckibkoaaDoor
