/-
  Contracts of the document's answers for sums (waterlineref02): More, Of, Seal.
-/
import Derived.Test.YtoaloeipgadkjaaSumA
namespace Go.Proofs.Ytoaloeipgadkjaa
open Go.RowKit Go.Shelf

theorem refMore2_any (v : Value) (xs : List Nat) (s : Nat) (hl : xs.length ≤ 140737488351232) (hx : U64s xs) (hs0 : s < 18446744073709551616) (w : World) (hs : Sl w .u64 v xs) :
    Calls Try.prog 51 #[.int .u64 s, v] w fun e w' => e = .returned (.int .u64 (SM.sumFrom s xs : Nat)) ∧ w = w' := by
  obtain ⟨a, cap, rfl, hlc, hcells⟩ := hs
  have HC := Lib.hid hcells; clear hcells hlc
  have HX := Lib.hid hx; clear hx
  have HT := Lib.hid (List.take_length (l := xs))
  have HS := Lib.hid (SM.sumFrom_step s xs)
  have HM := Lib.hid SM.mix_int
  have h0 := Lib.hid (SM.sumFrom_nil s)
  generalize hn : xs.length = n at *
  have HN := Lib.hid hn; clear hn
  go_enter Try.func51, Try.ntmps51
  go_wp2
  go_loop [0, 5] (fun t i => ∃ k : Nat, k ≤ n ∧ i = .int .i64 k ∧ t = .int .u64 (SM.sumFrom s (xs.take k) : Nat)) (fun _ i => n - (intOf i).toNat)
  case atStart => exact ⟨0, Nat.zero_le _, rfl, by rw [List.take_zero, h0.out]⟩
  case round =>
    obtain ⟨k, hk, rfl, rfl⟩ := hrel
    by_cases hlt : k < n
    · obtain ⟨b, off, rfl, hbl, hj⟩ := HC.out (by omega)
      have hc : w.cell? ⟨b, off + k, none⟩ = some (.int .u64 (xs[k]?.getD 0 : Nat)) := hj k (by omega)
      have hxk := HX.out.at k
      have HK := Lib.hid (HS.out k hlt)
      have HM1 := Lib.hid (HM.out (SM.sumFrom s (xs.take k)) (xs[k]?.getD 0) (SM.sumFrom_lt _ _ hs0) hxk)
      clear hj HC HS hxk HM
      generalize hxe : xs[k]?.getD 0 = x at *
      clear hxe
      go_wp2
      go_round
      case rel => exact ⟨k + 1, by omega, by go_num, by rw [HK.out, HM1.out]⟩
      case measure => simp [intOf]; omega
    · obtain rfl : k = n := by omega
      go_wp2
      go_ret
      exact ⟨by rw [HT.out]; rfl, rfl⟩
theorem refOf2_any (v : Value) (xs : List Nat) (hl : xs.length ≤ 140737488351232) (hx : U64s xs) (w : World) (hs : Sl w .u64 v xs) :
    Calls Try.prog 39 #[v] w fun e w' => e = .returned (.int .u64 (SM.sumOf xs : Nat)) ∧ w = w' := by
  have H := Lib.hid (refMore2_any v xs SM.start hl hx SM.start_lt w hs)
  clear hs
  go_enter Try.func39, Try.ntmps39
  go_wp2_with fail
  refine H.out.mono ?_
  rintro e w1 ⟨rfl, rfl⟩
  go_wp2_with fail
  go_ret
  exact ⟨rfl, rfl⟩
end Go.Proofs.Ytoaloeipgadkjaa
