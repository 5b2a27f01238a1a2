/-
  node: what the document gets, in plain terms: entries.
-/
import Derived.Test.YtaebipopmefkpaaGreatDoorQNdG8
import Derived.Test.YtaebipopmefkpaaGreatDoorMn22
namespace Go.Proofs.YtaebipopmefkpaaGreatDoor
open Go.RowKit Go.Shelf

theorem gets_entry (a0 a1 a2 a3 a4 a5 a6 a7 : Int) (hl : Line8 [a0, a1, a2, a3, a4, a5, a6, a7]) :
    getSp entrySpecs [a0, a1, a2, a3, a4, a5, a6, a7] ndZeroE =
      if (rdIs [a0, a1, a2, a3, a4, a5, a6, a7] && okSp entrySpecs #[.int .i64 (smN a0), .int .i64 (smN a1), encStr (rdTxt [a0, a1, a2, a3, a4, a5, a6, a7])]) = true
      then some #[.int .i64 (smN a0), .int .i64 (smN a1), encStr (rdTxt [a0, a1, a2, a3, a4, a5, a6, a7])] else none := by
  have hes : entrySpecs = [numS 0 0 0 1023, numS 1 1 1 1023, namedS] := rfl
  by_cases g0 : a0 ≤ 1024
  · by_cases g1 : a1 ≤ 1024
    · by_cases gr : rdIs [a0, a1, a2, a3, a4, a5, a6, a7] = true
      · have gr' : isRead (nat5 [a0, a1, a2, a3, a4, a5, a6, a7]) (smN a2) = true := gr
        have h2 := (hl.2 a2 (by simp)).1
        have g2 : a2 ≤ 1024 := by
          refine Classical.byContradiction fun g2 => ?_
          by_cases g3 : 1048576 ≤ a2
          · rw [show smN a2 = -1 from if_pos g3, isRead_small _ _ (by decide)] at gr'
            cases gr'
          · rw [show smN a2 = a2 from if_neg g3, isRead_big _ (nat5_length hl) _ (by omega)] at gr'
            cases gr'
        have e2 : smN a2 = a2 := smN_near g2
        rw [e2] at gr'
        have ht : rdTxt [a0, a1, a2, a3, a4, a5, a6, a7] = readN (nat5 [a0, a1, a2, a3, a4, a5, a6, a7]) a2 := by
          show (if isRead (nat5 [a0, a1, a2, a3, a4, a5, a6, a7]) (smN a2) = true then readN (nat5 [a0, a1, a2, a3, a4, a5, a6, a7]) (smN a2) else []) = _
          rw [e2, if_pos gr']
        rw [ht, smN_near g0, smN_near g1, gr]
        obtain ⟨s, hs⟩ : ∃ s, readN (nat5 [a0, a1, a2, a3, a4, a5, a6, a7]) a2 = s := ⟨_, rfl⟩
        have hrd : namedS.rd [a0, a1, a2, a3, a4, a5, a6, a7] #[.int .i64 a0, .int .i64 a1, encStr []] = some #[.int .i64 a0, .int .i64 a1, encStr s] := by
          rw [← hs]
          exact if_pos ⟨g2, gr'⟩
        have hsm : sameOut s (nat5 [a0, a1, a2, a3, a4, a5, a6, a7]) a2 = true := by
          rw [← hs]
          exact gr'
        rw [hs, Bool.true_and]
        have hh : getSp entrySpecs [a0, a1, a2, a3, a4, a5, a6, a7] ndZeroE = if (okSp entrySpecs #[.int .i64 a0, .int .i64 a1, encStr s] && true) = true then some #[.int .i64 a0, .int .i64 a1, encStr s] else none := by
          refine getSp_of ?_ fun ho => ?_
          · rw [hes]
            rw [rdSp_step (y := #[.int .i64 a0, .int .i64 0, encStr []]) (if_pos g0), rdSp_step (y := #[.int .i64 a0, .int .i64 a1, encStr []]) (if_pos g1), rdSp_step hrd]
            rfl
          · unfold putSp
            rw [if_pos ho, put_entry8]
            simp only [iff_true]
            unfold sameOut same5 at hsm
            simp only [Bool.and_eq_true, beq_iff_eq, decide_eq_true_eq] at hsm
            obtain ⟨⟨-, hlen⟩, h5⟩ := hsm
            have hf : fiveI s = [a3, a4, a5, a6, a7] := by
              have hn : ∀ x ∈ [a0, a1, a2, a3, a4, a5, a6, a7], ((x.toNat : Nat) : Int) = x := fun x hx => Int.toNat_of_nonneg (hl.2 x hx).1
              have e0 := h5 0 (by decide)
              have e1 := h5 1 (by decide)
              have e2 := h5 2 (by decide)
              have e3 := h5 3 (by decide)
              have e4 := h5 4 (by decide)
              show [(((wordsN s)[0]?.getD 0 : Nat) : Int), (((wordsN s)[1]?.getD 0 : Nat) : Int), (((wordsN s)[2]?.getD 0 : Nat) : Int), (((wordsN s)[3]?.getD 0 : Nat) : Int), (((wordsN s)[4]?.getD 0 : Nat) : Int)] = _
              rw [e0, e1, e2, e3, e4]
              show [((a3.toNat : Nat) : Int), ((a4.toNat : Nat) : Int), ((a5.toNat : Nat) : Int), ((a6.toNat : Nat) : Int), ((a7.toNat : Nat) : Int)] = _
              rw [hn a3 (by simp), hn a4 (by simp), hn a5 (by simp), hn a6 (by simp), hn a7 (by simp)]
            have m0 := hl.2 a0 (by simp)
            have m1 := hl.2 a1 (by simp)
            rw [hf, ← hlen, show a0 % 18446744073709551616 = a0 by omega, show a1 % 18446744073709551616 = a1 by omega]
            rfl
        rw [hh, Bool.and_true]
      · have gr' : ¬ (a2 ≤ 1024 ∧ isRead (nat5 [a0, a1, a2, a3, a4, a5, a6, a7]) a2 = true) := fun h => gr (by
          show isRead (nat5 [a0, a1, a2, a3, a4, a5, a6, a7]) (smN a2) = true
          rw [smN_near h.1]
          exact h.2)
        exact getSp_none (rdSp_none ⟨namedS, by simp [entrySpecs], fun x => if_neg gr'⟩) (by rw [Bool.eq_false_iff.2 gr]; rfl)
    · exact getSp_none (rdSp_none ⟨numS 1 1 1 1023, by simp [entrySpecs], fun x => if_neg g1⟩) (by
        have ho : okSp entrySpecs #[.int .i64 (smN a0), .int .i64 (smN a1), encStr (rdTxt [a0, a1, a2, a3, a4, a5, a6, a7])] = false := okSp_false ⟨numS 1 1 1 1023, by simp [entrySpecs], smN_far g1 1 1023 (by decide) (by decide)⟩
        rw [ho, Bool.and_false])
  · exact getSp_none (rdSp_none ⟨numS 0 0 0 1023, by simp [entrySpecs], fun x => if_neg g0⟩) (by
      have ho : okSp entrySpecs #[.int .i64 (smN a0), .int .i64 (smN a1), encStr (rdTxt [a0, a1, a2, a3, a4, a5, a6, a7])] = false := okSp_false ⟨numS 0 0 0 1023, by simp [entrySpecs], smN_far g0 0 1023 (by decide) (by decide)⟩
      rw [ho, Bool.and_false])
end Go.Proofs.YtaebipopmefkpaaGreatDoor
