/-
  node: what the document gets, in plain terms: super lines, tables, maps, entries.
-/
import Derived.Test.YtaebipopmefkpaaGreatDoorQNdG7
import Derived.Test.YtaebipopmefkpaaGreatDoorMn22
namespace Go.Proofs.YtaebipopmefkpaaGreatDoor
open Go.RowKit Go.Shelf

theorem rdSp_none {l : List Int} : ∀ {L : List NdS} {z : Array Value}, (∃ S ∈ L, ∀ x, S.rd l x = none) → rdSp l L z = none
  | [], _, h => by obtain ⟨S, hS, -⟩ := h; cases hS
  | S :: L, z, h => by
    show (S.rd l z).bind (rdSp l L) = none
    obtain ⟨T, hT, hx⟩ := h
    rcases List.mem_cons.1 hT with rfl | hT
    · rw [hx]; rfl
    · cases S.rd l z with
      | none => rfl
      | some y => exact rdSp_none ⟨T, hT, hx⟩
theorem okSp_false {L : List NdS} {x : Array Value} (h : ∃ S ∈ L, S.ok x = false) : okSp L x = false := by
  unfold okSp
  rw [List.all_eq_false]
  obtain ⟨S, hS, h⟩ := h
  exact ⟨S, hS, by rw [h]; decide⟩
theorem rdSp_step {l : List Int} {S : NdS} {L : List NdS} {x y : Array Value} (h : S.rd l x = some y) : rdSp l (S :: L) x = rdSp l L y := by
  show (S.rd l x).bind (rdSp l L) = _
  rw [h]
  rfl
theorem smN_far {x : Int} (h : ¬ x ≤ 1024) (lo hi : Int) (hlo : 0 ≤ lo) (hhi : hi ≤ 1024) : inB (smN x, lo, hi) = false := decide_eq_false (by
  show ¬ (lo ≤ smN x ∧ smN x ≤ hi)
  unfold smN
  split <;> omega)
theorem smN_near {x : Int} (h : x ≤ 1024) : smN x = x := if_neg (by omega)
/-- What is got, where it is read and right. -/
theorem getSp_of {L : List NdS} {l : List Int} {z y : Array Value} {b : Bool} (hr : rdSp l L z = some y) (hb : okSp L y = true → (putSp L y = l ↔ b = true)) : getSp L l z = if (okSp L y && b) = true then some y else none := by
  unfold getSp
  rw [hr]
  show (if _ ∧ _ then some _ else none) = _
  by_cases h : okSp L y = true
  · by_cases g : b = true
    · rw [if_pos ⟨h, (hb h).2 g⟩, if_pos (by rw [h, g]; rfl)]
    · rw [if_neg (fun k => g ((hb h).1 k.2)), if_neg (by rw [h]; simpa using g)]
  · rw [if_neg (fun k => h k.1), if_neg (by simp [h])]
theorem getSp_none {L : List NdS} {l : List Int} {z : Array Value} {b : Bool} {v : Array Value} (hr : rdSp l L z = none) (hb : b = false) : getSp L l z = if b = true then some v else none := by
  unfold getSp
  rw [hr, hb]
  rfl
theorem gets_super (a0 a1 a2 a3 a4 a5 a6 a7 : Int) (hl : Line8 [a0, a1, a2, a3, a4, a5, a6, a7]) :
    getSp superSpecs [a0, a1, a2, a3, a4, a5, a6, a7] ndZeroS =
      if (okSp superSpecs #[.int .i64 (smN a1), .int .i64 (smN a2)] && ([a0, a1, a2, a3, a4, a5, a6, a7] == [magicW, smN a1 % 18446744073709551616, smN a2 % 18446744073709551616, 0, 0, 0, 0, 0])) = true
      then some #[.int .i64 (smN a1), .int .i64 (smN a2)] else none := by
  by_cases g0 : a0 = magicW
  · by_cases g1 : a1 ≤ 1024
    · by_cases g2 : a2 ≤ 1024
      · have h1 := hl.2 a1 (by simp)
        have h2 := hl.2 a2 (by simp)
        rw [smN_near g1, smN_near g2]
        refine getSp_of ?_ fun ho => ?_
        · rw [show superSpecs = [magicS, numS 1 0 1 1023, numS 2 1 8 1024] from rfl]
          rw [rdSp_step (y := ndZeroS) (if_pos g0), rdSp_step (y := #[.int .i64 a1, .int .i64 0]) (if_pos g1), rdSp_step (y := #[.int .i64 a1, .int .i64 a2]) (if_pos g2)]
          rfl
        · unfold putSp
          rw [if_pos ho, show wrSp superSpecs #[.int .i64 a1, .int .i64 a2] zeros8 = [magicW, a1 % 18446744073709551616, a2 % 18446744073709551616, 0, 0, 0, 0, 0] from rfl, beq_iff_eq]
          exact eq_comm
      · exact getSp_none (rdSp_none ⟨numS 2 1 8 1024, by simp [superSpecs], fun x => if_neg g2⟩) (by
          have ho : okSp superSpecs #[.int .i64 (smN a1), .int .i64 (smN a2)] = false := okSp_false ⟨numS 2 1 8 1024, by simp [superSpecs], smN_far g2 8 1024 (by decide) (by decide)⟩
          rw [ho]; rfl)
    · exact getSp_none (rdSp_none ⟨numS 1 0 1 1023, by simp [superSpecs], fun x => if_neg g1⟩) (by
        have ho : okSp superSpecs #[.int .i64 (smN a1), .int .i64 (smN a2)] = false := okSp_false ⟨numS 1 0 1 1023, by simp [superSpecs], smN_far g1 1 1023 (by decide) (by decide)⟩
        rw [ho]; rfl)
  · exact getSp_none (rdSp_none ⟨magicS, by simp [superSpecs], fun x => if_neg g0⟩) (by
      rw [Bool.and_eq_false_iff]
      refine .inr ?_
      rw [beq_eq_false_iff_ne]
      intro h
      exact g0 (List.cons.inj h).1)
theorem smG_near {n : Nat} {l : List Int} (hn : n ≤ l.length) (h : ∀ j < n, l[j]?.getD 0 ≤ 1024) : smG n l n = l.take n := by
  refine List.ext_getElem (by rw [smG_len, List.length_take]; omega) fun j h1 h2 => ?_
  rw [smG_len] at h1
  simp only [smG, List.getElem_map, List.getElem_range, List.getElem_take]
  have h3 := h j h1
  rw [if_pos h1]
  rw [List.getElem?_eq_getElem (by omega), Option.getD_some] at h3 ⊢
  exact smN_near h3
theorem gets_table (a0 a1 a2 a3 a4 a5 a6 a7 : Int) (hl : Line8 [a0, a1, a2, a3, a4, a5, a6, a7]) :
    getSp tableSpecs [a0, a1, a2, a3, a4, a5, a6, a7] ndZeroT =
      if (okSp tableSpecs (ints (smG 7 [a0, a1, a2, a3, a4, a5, a6, a7] 7)) && (a7 == 0)) = true then some (ints (smG 7 [a0, a1, a2, a3, a4, a5, a6, a7] 7)) else none := by
  by_cases g : ∀ j < 7, [a0, a1, a2, a3, a4, a5, a6, a7][j]?.getD 0 ≤ 1024
  · have e : smG 7 [a0, a1, a2, a3, a4, a5, a6, a7] 7 = [a0, a1, a2, a3, a4, a5, a6] := smG_near (by simp) g
    rw [e]
    refine getSp_of ?_ fun ho => ?_
    · rw [show tableSpecs = [numS 0 0 0 1023, numS 1 1 0 1023, numS 2 2 0 1023, numS 3 3 0 1023, numS 4 4 0 1023, numS 5 5 0 1023, numS 6 6 0 1023] from rfl]
      rw [rdSp_step (y := ints [a0, 0, 0, 0, 0, 0, 0]) (if_pos (g 0 (by decide))), rdSp_step (y := ints [a0, a1, 0, 0, 0, 0, 0]) (if_pos (g 1 (by decide))), rdSp_step (y := ints [a0, a1, a2, 0, 0, 0, 0]) (if_pos (g 2 (by decide))),
        rdSp_step (y := ints [a0, a1, a2, a3, 0, 0, 0]) (if_pos (g 3 (by decide))), rdSp_step (y := ints [a0, a1, a2, a3, a4, 0, 0]) (if_pos (g 4 (by decide))), rdSp_step (y := ints [a0, a1, a2, a3, a4, a5, 0]) (if_pos (g 5 (by decide))),
        rdSp_step (y := ints [a0, a1, a2, a3, a4, a5, a6]) (if_pos (g 6 (by decide)))]
      rfl
    · have hm : ∀ x ∈ [a0, a1, a2, a3, a4, a5, a6, a7], x % 18446744073709551616 = x := fun x hx => by
        have := hl.2 x hx
        omega
      unfold putSp
      rw [if_pos ho, show wrSp tableSpecs (ints [a0, a1, a2, a3, a4, a5, a6]) zeros8 = [a0 % 18446744073709551616, a1 % 18446744073709551616, a2 % 18446744073709551616, a3 % 18446744073709551616, a4 % 18446744073709551616, a5 % 18446744073709551616, a6 % 18446744073709551616, 0] from rfl,
        hm a0 (by simp), hm a1 (by simp), hm a2 (by simp), hm a3 (by simp), hm a4 (by simp), hm a5 (by simp), hm a6 (by simp), beq_iff_eq]
      constructor
      · intro h
        simp only [List.cons.injEq, true_and, and_true] at h
        exact h.symm
      · rintro rfl
        rfl
  · obtain ⟨j, g⟩ := Classical.not_forall.1 g
    obtain ⟨hj, g⟩ := Classical.not_imp.1 g
    refine getSp_none (rdSp_none ⟨numS j j 0 1023, List.mem_map.2 ⟨j, List.mem_range.2 hj, rfl⟩, fun x => if_neg g⟩) ?_
    have ho : okSp tableSpecs (ints (smG 7 [a0, a1, a2, a3, a4, a5, a6, a7] 7)) = false := by
      refine okSp_false ⟨numS j j 0 1023, List.mem_map.2 ⟨j, List.mem_range.2 hj, rfl⟩, ?_⟩
      show inB (numAt (ints (smG 7 _ 7)) j, 0, 1023) = false
      rw [numAt_of (ints_at _ j (by rw [smG_len]; exact hj)), show (smG 7 [a0, a1, a2, a3, a4, a5, a6, a7] 7)[j]?.getD 0 = smN ([a0, a1, a2, a3, a4, a5, a6, a7][j]?.getD 0) by simp [smG, hj]]
      exact smN_far g 0 1023 (by decide) (by decide)
    rw [ho]
    rfl
theorem gets_map (a0 a1 a2 a3 a4 a5 a6 a7 : Int) (hl : Line8 [a0, a1, a2, a3, a4, a5, a6, a7]) :
    getSp mapSpecs [a0, a1, a2, a3, a4, a5, a6, a7] ndZeroM =
      if (okSp mapSpecs (ints (smG 8 [a0, a1, a2, a3, a4, a5, a6, a7] 8)) && true) = true then some (ints (smG 8 [a0, a1, a2, a3, a4, a5, a6, a7] 8)) else none := by
  by_cases g : ∀ j < 8, [a0, a1, a2, a3, a4, a5, a6, a7][j]?.getD 0 ≤ 1024
  · have e : smG 8 [a0, a1, a2, a3, a4, a5, a6, a7] 8 = [a0, a1, a2, a3, a4, a5, a6, a7] := smG_near (by simp) g
    rw [e]
    refine getSp_of ?_ fun ho => ?_
    · rw [show mapSpecs = [mapSpec 0, mapSpec 1, mapSpec 2, mapSpec 3, mapSpec 4, mapSpec 5, mapSpec 6, mapSpec 7] from rfl]
      have hn : ∀ (y : Int) (x : Array Value) (i : Nat), y ≤ 1024 → rdNum y x i = some (x.setIfInBounds i (.int .i64 y)) := fun y x i hy => if_pos hy
      have s0 : (mapSpec 0).rd [a0, a1, a2, a3, a4, a5, a6, a7] (ints [0, 0, 0, 0, 0, 0, 0, 0]) = some (ints [a0, 0, 0, 0, 0, 0, 0, 0]) := hn a0 (ints [0, 0, 0, 0, 0, 0, 0, 0]) 0 (g 0 (by decide))
      have s1 : (mapSpec 1).rd [a0, a1, a2, a3, a4, a5, a6, a7] (ints [a0, 0, 0, 0, 0, 0, 0, 0]) = some (ints [a0, a1, 0, 0, 0, 0, 0, 0]) := hn a1 (ints [a0, 0, 0, 0, 0, 0, 0, 0]) 1 (g 1 (by decide))
      have s2 : (mapSpec 2).rd [a0, a1, a2, a3, a4, a5, a6, a7] (ints [a0, a1, 0, 0, 0, 0, 0, 0]) = some (ints [a0, a1, a2, 0, 0, 0, 0, 0]) := hn a2 (ints [a0, a1, 0, 0, 0, 0, 0, 0]) 2 (g 2 (by decide))
      have s3 : (mapSpec 3).rd [a0, a1, a2, a3, a4, a5, a6, a7] (ints [a0, a1, a2, 0, 0, 0, 0, 0]) = some (ints [a0, a1, a2, a3, 0, 0, 0, 0]) := hn a3 (ints [a0, a1, a2, 0, 0, 0, 0, 0]) 3 (g 3 (by decide))
      have s4 : (mapSpec 4).rd [a0, a1, a2, a3, a4, a5, a6, a7] (ints [a0, a1, a2, a3, 0, 0, 0, 0]) = some (ints [a0, a1, a2, a3, a4, 0, 0, 0]) := hn a4 (ints [a0, a1, a2, a3, 0, 0, 0, 0]) 4 (g 4 (by decide))
      have s5 : (mapSpec 5).rd [a0, a1, a2, a3, a4, a5, a6, a7] (ints [a0, a1, a2, a3, a4, 0, 0, 0]) = some (ints [a0, a1, a2, a3, a4, a5, 0, 0]) := hn a5 (ints [a0, a1, a2, a3, a4, 0, 0, 0]) 5 (g 5 (by decide))
      have s6 : (mapSpec 6).rd [a0, a1, a2, a3, a4, a5, a6, a7] (ints [a0, a1, a2, a3, a4, a5, 0, 0]) = some (ints [a0, a1, a2, a3, a4, a5, a6, 0]) := hn a6 (ints [a0, a1, a2, a3, a4, a5, 0, 0]) 6 (g 6 (by decide))
      have s7 : (mapSpec 7).rd [a0, a1, a2, a3, a4, a5, a6, a7] (ints [a0, a1, a2, a3, a4, a5, a6, 0]) = some (ints [a0, a1, a2, a3, a4, a5, a6, a7]) := hn a7 (ints [a0, a1, a2, a3, a4, a5, a6, 0]) 7 (g 7 (by decide))
      show rdSp [a0, a1, a2, a3, a4, a5, a6, a7] _ (ints [0, 0, 0, 0, 0, 0, 0, 0]) = _
      rw [rdSp_step s0, rdSp_step s1, rdSp_step s2, rdSp_step s3, rdSp_step s4, rdSp_step s5, rdSp_step s6, rdSp_step s7]
      rfl
    · have hm : ∀ x ∈ [a0, a1, a2, a3, a4, a5, a6, a7], x % 18446744073709551616 = x := fun x hx => by
        have := hl.2 x hx
        omega
      unfold putSp
      rw [if_pos ho, show wrSp mapSpecs (ints [a0, a1, a2, a3, a4, a5, a6, a7]) zeros8 = [a0 % 18446744073709551616, a1 % 18446744073709551616, a2 % 18446744073709551616, a3 % 18446744073709551616, a4 % 18446744073709551616, a5 % 18446744073709551616, a6 % 18446744073709551616, a7 % 18446744073709551616] from rfl,
        hm a0 (by simp), hm a1 (by simp), hm a2 (by simp), hm a3 (by simp), hm a4 (by simp), hm a5 (by simp), hm a6 (by simp), hm a7 (by simp)]
      simp
  · obtain ⟨j, g⟩ := Classical.not_forall.1 g
    obtain ⟨hj, g⟩ := Classical.not_imp.1 g
    have hrd : ∀ x, (mapSpec j).rd [a0, a1, a2, a3, a4, a5, a6, a7] x = none := fun x => by
      match j with
      | 0 => exact if_neg g
      | k + 1 =>
        show rdNum ([a0, a1, a2, a3, a4, a5, a6, a7][1 + k]?.getD 0) x (1 + k) = none
        rw [Nat.add_comm 1 k]
        exact if_neg g
    have hok : (mapSpec j).ok (ints (smG 8 [a0, a1, a2, a3, a4, a5, a6, a7] 8)) = false := by
      have hv : numAt (ints (smG 8 [a0, a1, a2, a3, a4, a5, a6, a7] 8)) j = smN ([a0, a1, a2, a3, a4, a5, a6, a7][j]?.getD 0) := by
        rw [numAt_of (ints_at _ j (by rw [smG_len]; exact hj)), show (smG 8 [a0, a1, a2, a3, a4, a5, a6, a7] 8)[j]?.getD 0 = smN ([a0, a1, a2, a3, a4, a5, a6, a7][j]?.getD 0) by simp [smG, hj]]
      match j with
      | 0 =>
        show inB (numAt (ints (smG 8 _ 8)) 0, 0, 448) = false
        rw [hv]
        exact smN_far g 0 448 (by decide) (by decide)
      | k + 1 =>
        show (inB (numAt (ints (smG 8 _ 8)) (1 + k), 0, 1023) && _) = false
        rw [Nat.add_comm 1 k, hv, smN_far g 0 1023 (by decide) (by decide)]
        rfl
    exact getSp_none (rdSp_none ⟨mapSpec j, List.mem_map.2 ⟨j, List.mem_range.2 hj, rfl⟩, hrd⟩) (by
      have ho : okSp mapSpecs (ints (smG 8 [a0, a1, a2, a3, a4, a5, a6, a7] 8)) = false := okSp_false ⟨mapSpec j, List.mem_map.2 ⟨j, List.mem_range.2 hj, rfl⟩, hok⟩
      rw [ho]; rfl)
end Go.Proofs.YtaebipopmefkpaaGreatDoor
