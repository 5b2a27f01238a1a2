/-
  Arguments opened: an array of two words.
-/
import Derived.Test.YthjlhbkjmlohcaaDoorWordO
import Derived.Lib.SmallJoins
namespace Go.Proofs.YthjlhbkjmlohcaaDoor
open Go.ChangeShapes Go.WideShapes Go.ChangeAt Go.RowKit Go.Joins

theorem open_arr2 {H : Type} {enc : TypeId × Value → H} {W : World} {base : Nat} {v : Value} {d : DataW H} {p : List MemPlace}
    (hv : Value.okWide Tryd.prog W .any base 34 v) (h : DataW.Trod enc Tryd.prog W 0 (fun _ => true) true 34 v d p) :
    ∃ n m : Nat, v = .agg #[.int .u64 n, .int .u64 m] ∧ n < 18446744073709551616 ∧ m < 18446744073709551616 := by
  have ht : Tryd.prog.underlying 34 = some (.array 2 22) := Tryd.underlying34
  have hC : Tryd.prog.cellsOf 34 = 2 := by kernel_rfl
  have hce : Tryd.prog.cellsOf 22 = 1 := by kernel_rfl
  unfold Value.okWide at hv
  rw [ht] at hv
  obtain ⟨cs, rfl, hsz, -⟩ := hv
  obtain ⟨c0, c1, rfl⟩ := array2 (hsz.trans hC)
  obtain ⟨fuel, hf⟩ := h
  obtain ⟨xs, m, -, -, -, hlen, hi⟩ := DataW.trod_array ht hf
  have h0 := hi 0 (by decide)
  have h1 := hi 1 (by decide)
  match xs, hlen with
  | [y0, y1], _ =>
    simp [Value.cells, hce] at h0 h1
    obtain ⟨f0, e0, -, w0⟩ := DataW.trod_int Tryd.underlying22 h0
    obtain ⟨f1, e1, -, w1⟩ := DataW.trod_int Tryd.underlying22 h1
    simp at e0 e1
    subst e0 e1
    have b0 := bounds_u64 w0
    have b1 := bounds_u64 w1
    obtain ⟨n0, rfl⟩ := Int.eq_ofNat_of_zero_le b0.1
    obtain ⟨n1, rfl⟩ := Int.eq_ofNat_of_zero_le b1.1
    exact ⟨n0, n1, rfl, by omega, by omega⟩
end Go.Proofs.YthjlhbkjmlohcaaDoor
