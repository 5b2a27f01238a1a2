/-
  PmemCopies: appends to slices of calls, of any length that may be; the calls' slice as flat cells, and back.
-/
import Derived.Test.YtohdgjmmekgcmaaDoorQPoG
import Derived.Test.YtohdgjmmekgcmaaDoorQPoJ
import Derived.Test.YtohdgjmmekgcmaaDoorMg17
namespace Go.Proofs.YtohdgjmmekgcmaaDoor
open Go.RowKit Go.Shelf

/-- What an append does, however long: a row of both. -/
theorem append_wide {P : Program} (w : World) (t ty e : TypeId) (i : TypeInfo) (z : Value) (s bytes : Nat) (h1 : P.underlying t = some (.slice e)) (h2 : P.info? e = some i) (h3 : i.zero = some z) (h4 : i.size = s) (h5 : i.bytes = bytes) (h6 : z.cells.size = s) (h7 : 0 < s)
    (B : Nat) (v u : Value) (n m : Nat) (xs ys : List Value) (hG : GrowB w B e s v n xs) (hlen : ys.length = m * s) (hu : ∃ ad cap, u = .slice ad m cap ∧ (0 < m → ∃ b off, ad = some ⟨b, off, none⟩ ∧ ∀ j y, ys[j]? = some y → w.cell? ⟨b, off + j, none⟩ = some y)) (one : ∀ u ∈ ys, u.oneCell' = true) (hl : n + m ≤ 9223372036854775807) (hby : (n + m) * bytes ≤ 140737488355328) (hB : B ≤ w.heap.size) :
    ∃ v' w', (Builtin.append_ #[t, t] ty #[v, u]).run P w = .ok v' w' ∧ GrowB w' B e s v' (n + m) (xs ++ ys) ∧ Below B w w' := by
  obtain ⟨ad, cap, rfl, hc⟩ := hu
  rcases Nat.eq_zero_or_pos m with h0 | h0
  · subst h0
    have hys : ys = [] := List.eq_nil_of_length_eq_zero (by rw [hlen, Nat.zero_mul])
    subst hys
    have hrun : (Builtin.append_ #[t, t] ty #[v, .slice ad 0 cap]).run P w = .ok v w := by
      rcases hG with ⟨_, _, g, rfl⟩ | hG
      · cases ad <;> simp [Builtin.append_, run_underlying h1, sizeOf, typeInfo, h2, Builtin.lenOf, Builtin.firstCells, storeCells, loadCells, loadCellsFrom]
      · rcases hG.2 with ⟨rfl, e0⟩ | ⟨g, c, cur, rfl, _, _, hnc, _⟩
        · cases ad <;> simp [Builtin.append_, run_underlying h1, sizeOf, typeInfo, h2, Builtin.lenOf, Builtin.firstCells, loadCells, loadCellsFrom]
        · cases ad <;> simp [Builtin.append_, run_underlying h1, sizeOf, typeInfo, h2, Builtin.lenOf, Builtin.firstCells, hnc, storeCells, loadCells, loadCellsFrom]
    exact ⟨v, w, hrun, by rw [List.append_nil]; exact hG, Below.refl _ _⟩
  · obtain ⟨b, off, rfl, hcell⟩ := hc h0
    have hcells : ∀ j y, ys[j]? = some y → w.cell? ((⟨b, off, none⟩ : Addr).add j) = some y := fun j y hy => by
      have e1 : (⟨b, off, none⟩ : Addr).add j = ⟨b, off + j, none⟩ := by
        unfold Addr.add; split <;> simp_all
      rw [e1]
      exact hcell j y hy
    have key : ∀ (v : Value), w.ownsRow B e s v n xs → ∃ v' w', (Builtin.append_ #[t, t] ty #[v, .slice (some ⟨b, off, none⟩) m cap]).run P w = .ok v' w' ∧ w'.ownsRow B e s v' (n + m) (xs ++ ys) ∧ Below B w w' := fun v hown => by
      obtain ⟨v', w', hrun, r1, r2, _, _⟩ := run_append_own_at (P := P) w B t ty e i z s bytes h1 h2 h3 h4 h5 h6 h7 v n xs hown ⟨b, off, none⟩ m cap ys hlen hcells one (by unfold maxLen; omega) hby hB
      exact ⟨v', w', hrun, r1, (Below.refl B w).grown r2 hB fun k e => (hown.lt k e).1⟩
    rcases hG with ⟨rfl, rfl, g, rfl⟩ | hG
    · have hby2 : m * bytes ≤ 140737488355328 := by rw [Nat.zero_add] at hby; exact hby
      have hr := run_append_grow (P := P) w t ty e i z h1 h2 h3 g 0 0 [] (by simp) (by simp) ⟨b, off, none⟩ m cap ys (by rw [hlen, h4]) hcells (by omega) (by omega) (by rw [h5]; exact growslice_fits (by omega) hby)
      have hr0 := run_append_nil (P := P) w t ty e i z h1 h2 h3 ⟨b, off, none⟩ m cap ys (by rw [hlen, h4]) hcells (by omega) (by omega) (by rw [h5]; exact Nat.le_trans hby2 (by decide))
      obtain ⟨v', w', hrun, r1, r2⟩ := key (.slice none 0 0) (World.ownsRow_nil _ _ _ _)
      refine ⟨v', w', ?_, .inr r1, r2⟩
      rw [hr, ← hrun, hr0]
      simp
    · obtain ⟨v', w', hrun, r1, r2⟩ := key v hG
      exact ⟨v', w', hrun, .inr r1, r2⟩
/-- A call, with the slice of its marks. -/
abbrev cellsZ (z : Ask × Value) : List Value := (askA z.1 z.2).toList
theorem cellsZ_length (z : Ask × Value) : (cellsZ z).length = 6 := rfl
theorem infoAct : (Tryd.prog.info? 26).map (fun i => (i.zero, i.size, i.bytes)) = some (some (.agg #[.int .i64 0, .int .i64 0, .int .i64 0, .int .u64 0, .int .u64 0, .slice none 0 0]), 6, 64) := by kernel_rfl
/-- Calls as flat cells. -/
theorem SlA.flat {W : World} {F : Nat → Prop} {v : Value} {xs : List Ask} (h : SlA W F v xs) : ∃ zs : List (Ask × Value), zs.map Prod.fst = xs ∧ (∃ a cap, v = .slice a zs.length cap ∧ (0 < zs.length → ∃ b off, a = some ⟨b, off, none⟩ ∧ b < W.heap.size ∧ ∀ j y, (flatC cellsZ zs)[j]? = some y → W.cell? ⟨b, off + j, none⟩ = some y)) ∧ ∀ z ∈ zs, SlB W F z.2 z.1.marks := by
  obtain ⟨a, cap, rfl, hc⟩ := h
  by_cases h0 : 0 < xs.length
  · obtain ⟨b, off, rfl, hb, -, hk⟩ := hc h0
    have hex : ∀ n, n ≤ xs.length → ∃ zs : List (Ask × Value), zs.map Prod.fst = xs.take n ∧ ∀ k (hkn : k < zs.length), W.rangeAt b (off + k * 6) (cellsZ zs[k]) ∧ SlB W F zs[k].2 zs[k].1.marks := by
      intro n
      induction n with
      | zero => intro _; exact ⟨[], rfl, fun k hk => absurd hk (Nat.not_lt_zero _)⟩
      | succ n ih =>
        intro hn
        obtain ⟨zs, e, hz⟩ := ih (by omega)
        obtain ⟨m, h1, h2⟩ := hk n (by omega)
        have hlen : zs.length = n := by
          have := congrArg List.length e
          rw [List.length_map, List.length_take] at this
          omega
        refine ⟨zs ++ [(xs[n], m)], ?_, fun k hkn => ?_⟩
        · rw [List.map_append, e, List.take_succ_eq_append_getElem (by omega)]
          rfl
        · by_cases hkl : k < zs.length
          · rw [List.getElem_append_left hkl]
            exact hz k hkl
          · have : k = n := by rw [List.length_append, List.length_singleton] at hkn; omega
            subst this
            rw [List.getElem_append_right (by omega)]
            simp only [hlen, Nat.sub_self, List.getElem_cons_zero]
            exact ⟨h1, h2⟩
    obtain ⟨zs, e, hz⟩ := hex xs.length (Nat.le_refl _)
    rw [List.take_length] at e
    have hlen : xs.length = zs.length := by rw [← e, List.length_map]
    refine ⟨zs, e, ⟨_, cap, by rw [hlen], fun _ => ⟨b, off, rfl, hb, ?_⟩⟩, fun z hm => ?_⟩
    · have hv := Vec.of_at (s := 6) cellsZ_length (by decide) (W := W) (a := some ⟨b, off, none⟩) (cap := zs.length) (l := zs) (Nat.le_refl _) (fun _ => ⟨b, off, rfl, hb, fun k hk => (hz k hk).1⟩)
      obtain ⟨-, a', c', e', -, hj⟩ := hv
      obtain ⟨b', off', ea, -, hx⟩ := hj (by omega)
      simp only [Value.slice.injEq] at e'
      rw [← e'.1] at ea
      simp only [Option.some.injEq, Addr.mk.injEq, and_true] at ea
      obtain ⟨rfl, rfl⟩ := ea
      exact hx
    · obtain ⟨k, hk, rfl⟩ := List.getElem_of_mem hm
      exact (hz k hk).2
  · have e : xs = [] := List.eq_nil_of_length_eq_zero (by omega)
    subst e
    exact ⟨[], rfl, ⟨a, cap, rfl, fun h => absurd h (by simp)⟩, fun z hz => by cases hz⟩
/-- Flat cells as calls. -/
theorem slA_of_flat {W : World} {F : Nat → Prop} {v : Value} {zs : List (Ask × Value)} (h : Vec W v zs.length 6 (flatC cellsZ zs)) (hm : ∀ z ∈ zs, SlB W F z.2 z.1.marks) : SlA W (fun _ => False) v (zs.map Prod.fst) := by
  obtain ⟨a, cap, rfl⟩ := h.slice
  refine ⟨a, cap, by rw [List.length_map], fun h0 => ?_⟩
  rw [List.length_map] at h0
  obtain ⟨b, off, cap', e, hb, -⟩ := Vec.at_ cellsZ_length h 0 h0
  simp only [Value.slice.injEq, true_and] at e
  obtain ⟨rfl, -⟩ := e
  refine ⟨b, off, rfl, hb, id, fun k hk => ?_⟩
  rw [List.length_map] at hk
  obtain ⟨b', off', cap'', e, -, hr⟩ := Vec.at_ cellsZ_length h k hk
  simp only [Value.slice.injEq, Option.some.injEq, Addr.mk.injEq, and_true, true_and] at e
  obtain ⟨⟨rfl, rfl⟩, -⟩ := e
  refine ⟨zs[k].2, ?_, ?_⟩
  · rw [List.getElem_map]
    exact hr
  · rw [List.getElem_map]
    exact (hm _ (List.getElem_mem hk)).mono fun _ h => h.elim
end Go.Proofs.YtohdgjmmekgcmaaDoor
