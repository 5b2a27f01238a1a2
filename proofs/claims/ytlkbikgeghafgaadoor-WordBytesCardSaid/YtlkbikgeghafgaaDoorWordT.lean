/-
  Contracts of the document's Byte and Bytes (waterlineref01).
-/
import Derived.Test.YtlkbikgeghafgaaDoorWordB
import Derived.Test.YtlkbikgeghafgaaDoorWordE
import Derived.Deep.DeepMust
namespace Go.Proofs.YtlkbikgeghafgaaDoor
open Go.RowKit Go.Shelf

theorem refByte_any (v : Value) (l : List Nat) (i : Nat) (hl : l.length ≤ 140737488351232) (h64 : Words64 l) (hi : i < 8 * l.length) (w : World) (hs : Sl w .u64 v l) :
    Calls Tryd.prog 38 #[v, .int .i64 i] w fun e w' => e = .returned (.int .u8 (WM.byteAt l i : Nat)) ∧ Below w.heap.size w w' := by
  obtain ⟨a, c, b, off, rfl, hlc, ha, hc⟩ := hs.cell
  clear hs
  obtain rfl := ha (by omega)
  obtain ⟨hb0, hc0⟩ := hc (by omega)
  have c1 := hc0 (i / 8) (by omega)
  clear hc hc0 ha
  obtain ⟨x, hx1⟩ : ∃ x, x = l[i / 8]?.getD 0 := ⟨_, rfl⟩
  have hx := h64 (i / 8)
  rw [← hx1] at c1 hx
  have HX : Hid (WM.getN x (8 * (i % 8)) 8 = WM.byteAt l i) := by rw [hx1]; rfl
  clear hx1
  have hbl : WM.getN x (8 * (i % 8)) 8 < 256 := WM.getN_lt x (8 * (i % 8)) 8
  have k1 : (i : Int) / 8 < (l.length : Int) := by omega
  have k2 : (i : Int) ≤ 9223372036854775807 := by omega
  have e1 : 8 * ((i : Int) % 8) = ((8 * (i % 8) : Nat) : Int) := by omega
  have H1 := Lib.hid e1; clear e1
  go_enter Tryd.func38, Tryd.ntmps38
  go_wp2_with fail
  rw [H1.out]
  refine (refGet_any x (8 * (i % 8)) 8 (by omega) hx _).mono ?_
  rintro e w1 ⟨rfl, hb1⟩
  rw [HX.out] at hbl ⊢
  have hb3 : ((WM.byteAt l i : Nat) : Int) < 256 := by omega
  go_wp2_with fail
  go_ret
  exact ⟨rfl, hb1⟩
/-- What the document's Bytes has gathered. -/
def outTo (l : List Nat) (many k : Nat) : List Nat := (List.range (min k many)).map (WM.byteAt l)
theorem outTo_length (l : List Nat) (many k : Nat) : (outTo l many k).length = min k many := by simp [outTo]
theorem outTo_succ (l : List Nat) (many k : Nat) (h : k < many) : outTo l many (k + 1) = outTo l many k ++ [WM.byteAt l k] := by
  unfold outTo
  rw [show min (k + 1) many = min k many + 1 by omega, List.range_succ, List.map_append, show min k many = k by omega]
  rfl
theorem outTo_stay (l : List Nat) (many k : Nat) (h : many ≤ k) : outTo l many (k + 1) = outTo l many k := by
  unfold outTo
  rw [show min (k + 1) many = min k many by omega]
theorem outTo_all (l : List Nat) (many : Nat) (h : many ≤ 8 * l.length) : outTo l many (8 * l.length) = (WM.bytesOf l).take many := by
  unfold outTo WM.bytesOf
  rw [show min (8 * l.length) many = many by omega, ← List.map_take, List.take_range, show min many (8 * l.length) = many by omega]
theorem any_drop (l : List Nat) (many : Nat) : ((WM.bytesOf l).drop many).any (· != 0) = true ↔ ∃ j, many ≤ j ∧ j < 8 * l.length ∧ WM.byteAt l j ≠ 0 := by
  rw [List.any_eq_true]
  constructor
  · rintro ⟨x, h1, h2⟩
    obtain ⟨j, hj, rfl⟩ := List.getElem_of_mem h1
    rw [List.length_drop, WM.bytesOf_length] at hj
    refine ⟨many + j, by omega, by omega, ?_⟩
    have e : ((WM.bytesOf l).drop many)[j]'(by rw [List.length_drop, WM.bytesOf_length]; exact hj) = WM.byteAt l (many + j) := by
      simp [WM.bytesOf]
    rw [e] at h2
    simpa using h2
  · rintro ⟨j, h1, h2, h3⟩
    have hl : j - many < ((WM.bytesOf l).drop many).length := by rw [List.length_drop, WM.bytesOf_length]; omega
    refine ⟨_, List.getElem_mem hl, ?_⟩
    have e : ((WM.bytesOf l).drop many)[j - many]'hl = WM.byteAt l j := by
      simp [WM.bytesOf, show many + (j - many) = j by omega]
    rw [e]
    simpa using h3
theorem refBytes_neg (v : Value) (l : List Nat) (many : Int) (h : many < 0) (w : World) (hs : Sl w .u64 v l) :
    Calls Tryd.prog 21 #[v, .int .i64 many] w fun e w' => e = .returned (.tuple #[.slice none 0 0, .int .i64 2]) ∧ Below w.heap.size w w' := by
  obtain ⟨a, c, b, off, rfl, -, -, -⟩ := hs.cell
  clear hs
  go_enter Tryd.func21, Tryd.ntmps21
  go_wp2
  go_ret2
  exact ⟨rfl, Below.refl _ _⟩
theorem refBytes_long1 (v : Value) (l : List Nat) (many : Int) (h : 4096 < many) (w : World) (hs : Sl w .u64 v l) :
    Calls Tryd.prog 21 #[v, .int .i64 many] w fun e w' => e = .returned (.tuple #[.slice none 0 0, .int .i64 3]) ∧ Below w.heap.size w w' := by
  obtain ⟨a, c, b, off, rfl, -, -, -⟩ := hs.cell
  clear hs
  go_enter Tryd.func21, Tryd.ntmps21
  go_wp2
  go_ret2
  exact ⟨rfl, Below.refl _ _⟩
theorem refBytes_long2 (v : Value) (l : List Nat) (many : Int) (h0 : 0 ≤ many) (h : many ≤ 4096) (h2 : 4096 < l.length) (w : World) (hs : Sl w .u64 v l) :
    Calls Tryd.prog 21 #[v, .int .i64 many] w fun e w' => e = .returned (.tuple #[.slice none 0 0, .int .i64 3]) ∧ Below w.heap.size w w' := by
  obtain ⟨a, c, b, off, rfl, -, -, -⟩ := hs.cell
  clear hs
  have h2' : (4096 : Int) < (l.length : Int) := by omega
  go_enter Tryd.func21, Tryd.ntmps21
  go_wp2
  go_ret2
  exact ⟨rfl, Below.refl _ _⟩
theorem refBytes_range (v : Value) (l : List Nat) (many : Int) (h0 : 0 ≤ many) (h : many ≤ 4096) (h2 : l.length ≤ 4096) (h3 : 8 * (l.length : Int) < many) (w : World) (hs : Sl w .u64 v l) :
    Calls Tryd.prog 21 #[v, .int .i64 many] w fun e w' => e = .returned (.tuple #[.slice none 0 0, .int .i64 4]) ∧ Below w.heap.size w w' := by
  obtain ⟨a, c, b, off, rfl, -, -, -⟩ := hs.cell
  clear hs
  have h2' : (l.length : Int) ≤ 4096 := by omega
  go_enter Tryd.func21, Tryd.ntmps21
  go_wp2
  go_ret2
  exact ⟨rfl, Below.refl _ _⟩
theorem refBytes_tail (v : Value) (l : List Nat) (many : Int) (h0 : 0 ≤ many) (h : many ≤ 4096) (h2 : l.length ≤ 4096) (h3 : many ≤ 8 * (l.length : Int)) (h4 : ¬ (l.length : Int) = (many + 7) / 8) (w : World) (hs : Sl w .u64 v l) :
    Calls Tryd.prog 21 #[v, .int .i64 many] w fun e w' => e = .returned (.tuple #[.slice none 0 0, .int .i64 110]) ∧ Below w.heap.size w w' := by
  obtain ⟨a, c, b, off, rfl, -, -, -⟩ := hs.cell
  clear hs
  have h2' : (l.length : Int) ≤ 4096 := by omega
  have h5 : ((l.length : Int) != (many + 7) / 8) = true := by rw [bne_iff_ne]; exact h4
  go_enter Tryd.func21, Tryd.ntmps21
  go_wp2
  go_ret2
  exact ⟨rfl, Below.refl _ _⟩
set_option maxHeartbeats 2000000 in
theorem refBytes_rest (v : Value) (l : List Nat) (many : Nat) (h64 : Words64 l) (h : many ≤ 4096) (h2 : l.length ≤ 4096) (h3 : many ≤ 8 * l.length) (h4 : l.length = (many + 7) / 8) (w : World) (hs : Sl w .u64 v l) :
    Calls Tryd.prog 21 #[v, .int .i64 many] w fun e w' => ((((WM.bytesOf l).drop many).any (· != 0) = true → e = .returned (.tuple #[.slice none 0 0, .int .i64 110])) ∧
      (((WM.bytesOf l).drop many).any (· != 0) = false → ∃ r, e = .returned (.tuple #[r, .int .i64 0]) ∧ Sl w' .u8 r ((WM.bytesOf l).take many))) ∧ Below w.heap.size w w' := by
  obtain ⟨i0, hi, hz0, hz1, hz2⟩ := info_parts infoU8
  have HS := Lib.hid (fun (W : World) (hb : Below w.heap.size w W) (i : Nat) (hi : i < 8 * l.length) => refByte_any v l i (by omega) h64 hi W (hs.below hb))
  obtain ⟨a, c, b, off, rfl, -, -, -⟩ := hs.cell
  clear hs
  have k1 : (many : Int) ≤ 4096 := by omega
  have k2 : (l.length : Int) ≤ 4096 := by omega
  have k3 : (many : Int) ≤ 8 * (l.length : Int) := by omega
  have k4 : ((l.length : Int) != ((many : Int) + 7) / 8) = false := by rw [bne_eq_false_iff_eq]; omega
  have H4 := Lib.hid h4; clear h4
  go_enter Tryd.func21, Tryd.ntmps21
  go_wp2
  go_loopw [6, 7] (fun r i wr => ∃ (k : Nat) (q : Value), q = r ∧ k ≤ 8 * l.length ∧ i = .int .i64 k ∧ (∀ j, many ≤ j → j < k → WM.byteAt l j = 0) ∧ wr.ownsRow w.heap.size 5 1 r (outTo l many k).length ((outTo l many k).map fun y : Nat => Value.int .u8 (y : Nat)) ∧ Below w.heap.size w wr) (fun _ i _ => 8 * l.length - (intOf i).toNat)
  case atStart => exact ⟨0, _, rfl, Nat.zero_le _, rfl, fun j h1 h2 => by omega, by simp [outTo, World.ownsRow_nil], Below.refl _ _⟩
  case round =>
    obtain ⟨k, r, rfl, hk, rfl, hz, hrow, hb⟩ := hrel
    have HZ := Lib.hid hz; clear hz
    have z := hb.size
    by_cases hlt : k < 8 * l.length
    · have k5 : (k : Int) < 8 * (l.length : Int) := by omega
      have HB := Lib.hid (HS.out wr hb k hlt)
      have hbl := WM.byteAt_lt l k
      by_cases hkm : k < many
      · have k6 : (k : Int) < (many : Int) := by omega
        have HO := Lib.hid (outTo_succ l many k hkm)
        have hol : (outTo l many k).length ≤ 4096 := by rw [outTo_length]; omega
        go_wp2_with fail
        refine HB.out.mono ?_
        rintro e w1 ⟨rfl, hb1⟩
        have hr1 := ownsRow_below hrow hb1
        have z1 := hb1.size
        go_wp2_with (at_builtin; go_must (refine wpList_append_own _ rfl _ _ 36 rfl w.heap.size 5 i0 (.int .u8 0) 1 1 Tryd.underlying36 hi hz0 hz1 hz2 rfl (by decide) r _ _ rfl (hr1.alloc _) ⟨w1.heap.size, 0, none⟩ 1 1 [.int .u8 (WM.byteAt l k : Nat)] rfl rfl (cell_one_new _ _ _) (by simp [Value.oneCell']) (by unfold maxLen; omega) (by omega) (by simp; omega) ?_); intro v' w2 hown' hgrow _)
        go_roundw
        case rel =>
          refine ⟨k + 1, _, rfl, by omega, by go_num, fun j h1 h2 => by omega, ?_, ?_⟩
          · rw [HO.out, List.map_append, List.length_append]; exact hown'
          · exact ((hb.trans (hb1.mono z)).alloc (by omega) _).grown hgrow (by simp; omega) (fun j e => by have := hr1.lt j e; omega)
        case measure => simp [intOf]; omega
      · have k6 : (many : Int) ≤ (k : Int) := by omega
        have HO := Lib.hid (outTo_stay l many k (by omega))
        by_cases hz0 : WM.byteAt l k = 0
        · have HZ0 := Lib.hid hz0
          rw [hz0] at HB
          clear hz0
          go_wp2_with fail
          refine HB.out.mono ?_
          rintro e w1 ⟨rfl, hb1⟩
          go_wp2_with fail
          go_roundw
          case rel => exact ⟨k + 1, _, rfl, by omega, by go_num, fun j h1 h2 => by
            by_cases hjk : j = k
            · rw [hjk]; exact HZ0.out
            · exact HZ.out j h1 (by omega), by rw [HO.out]; exact ownsRow_below hrow hb1, hb.trans (hb1.mono z)⟩
          case measure => simp [intOf]; omega
        · have hne : (((WM.byteAt l k : Nat) : Int) != 0) = true := by rw [bne_iff_ne]; omega
          have HN := Lib.hid hz0; clear hz0
          go_wp2_with fail
          refine HB.out.mono ?_
          rintro e w1 ⟨rfl, hb1⟩
          go_wp2_with fail
          go_ret2
          have hany : ((WM.bytesOf l).drop many).any (· != 0) = true := (any_drop l many).2 ⟨k, by omega, hlt, HN.out⟩
          exact ⟨⟨fun _ => rfl, (fun hf => by rw [hany] at hf; cases hf)⟩, hb.trans (hb1.mono z)⟩
    · obtain rfl : k = 8 * l.length := by omega
      have hnone : ¬ ((WM.bytesOf l).drop many).any (· != 0) = true := fun hf => by
        obtain ⟨j, h1, h2, h3⟩ := (any_drop l many).1 hf
        exact h3 (HZ.out j h1 h2)
      have HN := Lib.hid hnone; clear hnone
      go_wp2
      go_ret2
      exact ⟨⟨fun hf => absurd hf HN.out, fun _ => ⟨r, rfl, by rw [← outTo_all l many h3]; exact sl_of_owns hrow⟩⟩, hb⟩
end Go.Proofs.YtlkbikgeghafgaaDoor
