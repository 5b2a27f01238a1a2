/-
  Contracts of the document's Byte and Bytes (waterlineref01).
-/
import Derived.Test.YtmncoclmgcjjjaaMf11
import Derived.Deep.DeepMust
namespace Go.Proofs.Ytmncoclmgcjjjaa
open Go.RowKit Go.Shelf

theorem refByte_any (v : Value) (l : List Nat) (i : Nat) (hl : l.length ≤ 140737488351232) (h64 : Words64 l) (hi : i < 8 * l.length) (w : World) (hs : Sl w .u64 v l) :
    Calls Try.prog 40 #[v, .int .i64 i] w fun e w' => e = .returned (.int .u8 (WM.byteAt l i : Nat)) ∧ Below w.heap.size w w' := by
  obtain ⟨a, c, b, off, rfl, hlc, ha, hc⟩ := hs.cell
  clear hs
  obtain rfl := ha (by omega)
  obtain ⟨hb0, hc0⟩ := hc (by omega)
  have c1 := hc0 (i / 8) (by omega)
  clear hc hc0 ha
  obtain ⟨x, hx1⟩ : ∃ x, x = l[i / 8]?.getD 0 := ⟨_, rfl⟩
  have hx := h64 (i / 8)
  rw [← hx1] at c1 hx
  have HX : Hid (WM.getN x (8 * (i % 8)) 8 = WM.byteAt l i) := by rw [hx1]; rfl
  clear hx1
  have hbl : WM.getN x (8 * (i % 8)) 8 < 256 := WM.getN_lt x (8 * (i % 8)) 8
  have k1 : (i : Int) / 8 < (l.length : Int) := by omega
  have k2 : (i : Int) ≤ 9223372036854775807 := by omega
  have e1 : 8 * ((i : Int) % 8) = ((8 * (i % 8) : Nat) : Int) := by omega
  have H1 := Lib.hid e1; clear e1
  go_enter Try.func40, Try.ntmps40
  go_wp2_with fail
  rw [H1.out]
  refine (refGet_any x (8 * (i % 8)) 8 (by omega) hx _).mono ?_
  rintro e w1 ⟨rfl, hb1⟩
  rw [HX.out] at hbl ⊢
  have hb3 : ((WM.byteAt l i : Nat) : Int) < 256 := by omega
  go_wp2_with fail
  go_ret
  exact ⟨rfl, hb1⟩
/-- What the document's Bytes has gathered. -/
def outTo (l : List Nat) (many k : Nat) : List Nat := (List.range (min k many)).map (WM.byteAt l)
theorem outTo_length (l : List Nat) (many k : Nat) : (outTo l many k).length = min k many := by simp [outTo]
theorem outTo_succ (l : List Nat) (many k : Nat) (h : k < many) : outTo l many (k + 1) = outTo l many k ++ [WM.byteAt l k] := by
  unfold outTo
  rw [show min (k + 1) many = min k many + 1 by omega, List.range_succ, List.map_append, show min k many = k by omega]
  rfl
theorem outTo_stay (l : List Nat) (many k : Nat) (h : many ≤ k) : outTo l many (k + 1) = outTo l many k := by
  unfold outTo
  rw [show min (k + 1) many = min k many by omega]
theorem outTo_all (l : List Nat) (many : Nat) (h : many ≤ 8 * l.length) : outTo l many (8 * l.length) = (WM.bytesOf l).take many := by
  unfold outTo WM.bytesOf
  rw [show min (8 * l.length) many = many by omega, ← List.map_take, List.take_range, show min many (8 * l.length) = many by omega]
theorem any_drop (l : List Nat) (many : Nat) : ((WM.bytesOf l).drop many).any (· != 0) = true ↔ ∃ j, many ≤ j ∧ j < 8 * l.length ∧ WM.byteAt l j ≠ 0 := by
  rw [List.any_eq_true]
  constructor
  · rintro ⟨x, h1, h2⟩
    obtain ⟨j, hj, rfl⟩ := List.getElem_of_mem h1
    rw [List.length_drop, WM.bytesOf_length] at hj
    refine ⟨many + j, by omega, by omega, ?_⟩
    have e : ((WM.bytesOf l).drop many)[j]'(by rw [List.length_drop, WM.bytesOf_length]; exact hj) = WM.byteAt l (many + j) := by
      simp [WM.bytesOf]
    rw [e] at h2
    simpa using h2
  · rintro ⟨j, h1, h2, h3⟩
    have hl : j - many < ((WM.bytesOf l).drop many).length := by rw [List.length_drop, WM.bytesOf_length]; omega
    refine ⟨_, List.getElem_mem hl, ?_⟩
    have e : ((WM.bytesOf l).drop many)[j - many]'hl = WM.byteAt l j := by
      simp [WM.bytesOf, show many + (j - many) = j by omega]
    rw [e]
    simpa using h3
end Go.Proofs.Ytmncoclmgcjjjaa
