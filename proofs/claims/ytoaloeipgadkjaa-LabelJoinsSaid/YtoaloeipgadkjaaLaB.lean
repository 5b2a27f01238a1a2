/-
  label: a text as bytes and as words.
-/
import Derived.Laws.IdiomStrings
import Derived.Laws.IdiomCopy
import Derived.Laws.CopyOwn
import Derived.Laws.BytesArg
import Derived.Test.YtoaloeipgadkjaaLaA
import Derived.Test.YtoaloeipgadkjaaWordW
import Derived.Test.YtoaloeipgadkjaaRangeQ
import Derived.Test.YtoaloeipgadkjaaApp
namespace Go.Proofs.Ytoaloeipgadkjaa
open Go.RowKit Go.Shelf Go.Sort

/-- A text's bytes, as numbers. -/
def bsN (s : List UInt8) : List Nat := s.map UInt8.toNat
theorem bsN_length (s : List UInt8) : (bsN s).length = s.length := by simp [bsN]
theorem bsN_at (s : List UInt8) (j : Nat) (h : j < s.length) : (bsN s)[j]?.getD 0 = s[j].toNat := by simp [bsN, h]
theorem bsN_256 (s : List UInt8) : WM.Bytes256 (bsN s) := fun i => by
  unfold WM.at'
  by_cases h : i < s.length
  · rw [bsN_at s i h]; exact UInt8.toNat_lt _
  · rw [List.getElem?_eq_none (by rw [bsN_length]; omega)]; exact (by decide : (0 : Nat) < 256)
theorem bsN_inj {a b : List UInt8} (h : bsN a = bsN b) : a = b := (List.map_inj_right fun _ _ h => UInt8.toNat_inj.1 h).1 h
/-- The capacity and the world behind '[]byte(s)'. -/
def capC (W : World) (s : List UInt8) : Nat := grownCap W s.length 0 5
def bytesW (W : World) (s : List UInt8) : World := W.drew.alloc (.cells (bytesRow ⟨s.toArray⟩ (capC W s)) 5 ((bytesRow ⟨s.toArray⟩ (capC W s)).size, (bytesRow ⟨s.toArray⟩ (capC W s)).size + 1))
theorem conv_bytes (src : TypeId) (hs : Try.prog.underlying src = some .string) (s : List UInt8) (W : World) :
    (convert src 58 (encStr s)).run Try.prog W = .ok (.slice (some ⟨W.heap.size, 0, none⟩) s.length (capC W s)) (bytesW W s) := by
  have h := run_bytes_of_string (P := Try.prog) W src 58 5 ⟨s.toArray⟩ hs Try.underlying58 Try.underlying5
  have e : (⟨s.toArray⟩ : ByteArray).size = s.length := by simp [ByteArray.size]
  rw [e] at h
  exact h
theorem capC_ge (W : World) (s : List UInt8) : s.length ≤ capC W s := grownCap_ge _ _ _ _
theorem capC_le (W : World) (s : List UInt8) (h : s.length ≤ 9223372036854775807) : capC W s ≤ 9223372036854775807 := grownCap_le_maxLen W _ _ _ h
theorem bytesW_below (W : World) (s : List UInt8) : Below W.heap.size W (bytesW W s) := (Below.drew (Below.refl _ _)).alloc (Nat.le_refl _) _
theorem bytesW_size (W : World) (s : List UInt8) : (bytesW W s).heap.size = W.heap.size + 1 := by unfold bytesW; simp
theorem bytesW_sl (W : World) (s : List UInt8) : Sl (bytesW W s) .u8 (.slice (some ⟨W.heap.size, 0, none⟩) s.length (capC W s)) (bsN s) := by
  refine ⟨_, _, by rw [bsN_length], by rw [bsN_length]; exact capC_ge W s, fun _ => ⟨W.heap.size, 0, rfl, by rw [bytesW_size]; omega, fun j hj => ?_⟩⟩
  rw [bsN_length] at hj
  rw [bsN_at s j hj]
  have hh : (bytesW W s).heap[W.heap.size]? = some (.cells (bytesRow ⟨s.toArray⟩ (capC W s)) 5 ((bytesRow ⟨s.toArray⟩ (capC W s)).size, (bytesRow ⟨s.toArray⟩ (capC W s)).size + 1)) := World.alloc_heap_new W.drew _
  unfold World.cell?
  simp only [hh, Nat.zero_add]
  unfold bytesRow
  rw [Array.getElem?_append_left (by simp; exact hj)]
  simp [hj]
/-- 'string(b)'. -/
theorem conv_text (dst : TypeId) (hd : Try.prog.underlying dst = some .string) {W : World} {v : Value} {s : List UInt8} (h : Sl W .u8 v (bsN s)) :
    (convert 58 dst v).run Try.prog W = .ok (encStr s) W := by
  obtain ⟨a, cap, rfl, hc, hcell⟩ := h
  rw [bsN_length] at hcell ⊢
  by_cases h0 : 0 < s.length
  · obtain ⟨b, off, rfl, -, hj⟩ := hcell h0
    exact run_convert_bytes_back W _ _ _ _ _ _ Try.underlying58 Try.underlying5 hd fun j hl => by
      have hadd : (⟨b, off, none⟩ : Addr).add j = ⟨b, off + j, none⟩ := by unfold Addr.add; split <;> simp_all
      rw [hadd, hj j hl, bsN_at s j hl]
  · obtain rfl : s = [] := List.eq_nil_of_length_eq_zero (by omega)
    have hl := run_convert_bytes_back (P := Try.prog) W 58 dst 5 ⟨0, 0, none⟩ cap [] Try.underlying58 Try.underlying5 hd (fun j hj => absurd hj (by simp))
    cases a with
    | none => rw [run_convert_bytes_nil W 58 5 Try.underlying58 Try.underlying5 _ _ dst hd]; rfl
    | some ad => exact run_convert_bytes_back (P := Try.prog) W 58 dst 5 ad cap [] Try.underlying58 Try.underlying5 hd (fun j hj => absurd hj (by simp))
/-- Five words. -/
abbrev arr5 (l : List Nat) : Array Value := #[.int .u64 (l[0]?.getD 0 : Nat), .int .u64 (l[1]?.getD 0 : Nat), .int .u64 (l[2]?.getD 0 : Nat), .int .u64 (l[3]?.getD 0 : Nat), .int .u64 (l[4]?.getD 0 : Nat)]
def wordsN (s : List UInt8) : List Nat := WM.wordsOf (bsN s)
theorem wordsN_len (s : List UInt8) (h : s.length ≤ 40) : (wordsN s).length ≤ 5 := by
  unfold wordsN
  rw [WM.wordsOf_length, bsN_length]; unfold WM.need; omega
theorem laTold_any (s : List UInt8) (w : World) : Calls Try.prog 26 #[encStr s] w fun e w' => e = .returned (encStr s) ∧ w = w' := by
  go_enter Try.func26, Try.ntmps26
  go_wp2
  go_ret
  exact ⟨rfl, rfl⟩
theorem laCheck_any (s : List UInt8) (w : World) : Calls Try.prog 14 #[encStr s] w fun e w' => e = .returned (.int .i64 (errN s)) ∧ Below w.heap.size w w' := by
  have HN := Lib.hid (named_any s w)
  go_enter Try.func14, Try.ntmps14
  go_wp2_with fail
  refine HN.out.mono ?_
  rintro e w1 ⟨rfl, hb⟩
  have HB := Lib.hid hb
  clear hb
  go_wp2
  go_ret
  exact ⟨rfl, HB.out.alloc HB.out.size _⟩
theorem five_row (xs : List Nat) (h : xs.length ≤ 5) (z : Value) (hz : z = .int .u64 0) :
    (([z, z, z, z, z] : List Value).take 0 ++ (xs.map fun y : Nat => Value.int .u64 (y : Nat)) ++ ([z, z, z, z, z] : List Value).drop (0 + (xs.map fun y : Nat => Value.int .u64 (y : Nat)).length)).toArray = arr5 xs := by
  subst hz
  match xs, h with
  | [], _ => rfl
  | [a], _ => rfl
  | [a, b], _ => rfl
  | [a, b, c], _ => rfl
  | [a, b, c, d], _ => rfl
  | [a, b, c, d, e], _ => rfl
set_option maxRecDepth 100000 in
set_option maxHeartbeats 2000000 in
theorem laWords1_any (s : List UInt8) (hl : s.length ≤ 40) (w : World) :
    Calls Try.prog 24 #[namV s] w fun e w' => e = .returned (.agg (arr5 (wordsN s))) ∧ Below w.heap.size w w' := by
  have hcv := fun W => conv_bytes 50 Try.underlying50 s W
  obtain ⟨W3, hW3⟩ : ∃ W3, ((w.alloc (.cells #[encStr s] 52)).alloc (.cells #[.int .u64 0, .int .u64 0, .int .u64 0, .int .u64 0, .int .u64 0] 24)).alloc (.cells #[.int .u64 0, .int .u64 0, .int .u64 0, .int .u64 0, .int .u64 0] 24) = W3 := ⟨_, rfl⟩
  have z3 : W3.heap.size = w.heap.size + 3 := by rw [← hW3]; simp
  have b3 : Below w.heap.size w W3 := by rw [← hW3]; exact (by repeat (first | exact Below.refl _ _ | assumption | refine Below.drew ?_ | refine below_drewN ?_ _ | refine Below.alloc ?_ (by (try simp) <;> omega) _ | refine Below.setCell ?_ (by (try simp) <;> omega) _ | refine Below.trans ?_ (Below.mono (by assumption) (by (try simp) <;> omega))))
  have j1 : W3.heap[w.heap.size + 1]? = some (.cells #[.int .u64 0, .int .u64 0, .int .u64 0, .int .u64 0, .int .u64 0] 24) := by rw [← hW3]; (simp only [heap_at, World.size_alloc]; repeat (first | rw [if_pos (by omega)] | rw [if_neg (by omega)] | rw [if_pos trivial]))
  have j2 : W3.heap[w.heap.size + 1 + 1]? = some (.cells #[.int .u64 0, .int .u64 0, .int .u64 0, .int .u64 0, .int .u64 0] 24) := by rw [← hW3]; (simp only [heap_at, World.size_alloc]; repeat (first | rw [if_pos (by omega)] | rw [if_neg (by omega)] | rw [if_pos trivial]))
  have HWD := Lib.hid (words_anyM _ (bsN s) (by rw [bsN_length]; omega) (bsN_256 s) (bytesW W3 s) (bytesW_sl W3 s) (fun a n c e => by cases e; exact capC_le W3 s (by omega)))
  have HB3 := Lib.hid b3
  have HZ3 := Lib.hid z3
  have HJ1 := Lib.hid j1
  have HJ2 := Lib.hid j2
  have HB4 := Lib.hid (bytesW_below W3 s)
  have HZ4 := Lib.hid (bytesW_size W3 s)
  have HWE := Lib.hid hW3
  have HLN := Lib.hid (wordsN_len s hl)
  clear b3 z3 j1 j2 hW3
  go_enter Try.func24, Try.ntmps24
  go_wp2_with fail
  simp only [HWE.out]
  rw [show w.heap.size + 1 + 1 + 1 = W3.heap.size from HZ3.out.symm]
  refine HWD.out.mono ?_
  rintro e w5 ⟨r, rfl, ⟨g, c, rfl⟩, hrow, hb5⟩
  have hz3 := HZ3.out
  have hz4 := HZ4.out
  have i1 : w5.heap[w.heap.size + 1]? = some (.cells #[.int .u64 0, .int .u64 0, .int .u64 0, .int .u64 0, .int .u64 0] 24) := (hb5.block _ (by omega)).trans ((HB4.out.block _ (by omega)).trans HJ1.out)
  have i2 : w5.heap[w.heap.size + 1 + 1]? = some (.cells #[.int .u64 0, .int .u64 0, .int .u64 0, .int .u64 0, .int .u64 0] 24) := (hb5.block _ (by omega)).trans ((HB4.out.block _ (by omega)).trans HJ2.out)
  have hB5 : Below w.heap.size w w5 := HB3.out.trans ((HB4.out.trans (hb5.mono HB4.out.size)).mono HB3.out.size)
  have hg := hrow.lt g rfl
  have hcp : (Builtin.copy_ #[62, 62] 3 #[.slice (some ⟨w.heap.size + 1 + 1, 0, none⟩) 5 5, .slice (some ⟨g, 0, none⟩) (wordsN s).length c]).run Try.prog w5 = .ok (goInt (wordsN s).length) (w5.setRow (w.heap.size + 1 + 1) (arr5 (wordsN s))) := by
    have h := run_copy_row (P := Try.prog) w5 62 62 3 23 (w.heap.size + 1 + 1) 0 5 5 ⟨g, 0, none⟩ (wordsN s).length c _ _ ((wordsN s).map fun y : Nat => Value.int .u64 (y : Nat)) Try.underlying62 (by kernel_rfl) i2
      (by rw [List.length_map]; exact (Nat.min_eq_left HLN.out).symm) (fun j v hj => ?_) (by rw [List.length_map, Nat.zero_add]; exact HLN.out) (by simp [Value.oneCell'])
    · exact (h.trans (congrArg (fun A => Result.ok _ (w5.setRow _ A)) (five_row (wordsN s) HLN.out _ rfl))).trans (by rw [List.length_map])
    · have hl : j < (wordsN s).length := by have := (List.getElem?_eq_some_iff.1 hj).1; simpa using this
      have hadd : (⟨g, 0, none⟩ : Addr).add j = ⟨g, j, none⟩ := by unfold Addr.add; split <;> simp_all
      rw [hadd]
      refine (own_cell (k := .u64) hrow j hl).trans ?_
      rw [← hj]
      show some (Value.int .u64 (((wordsN s)[j]?.getD 0 : Nat) : Int)) = _
      simp [hl]
  obtain ⟨W6, hW6⟩ : ∃ W6, w5.setRow (w.heap.size + 1 + 1) (arr5 (wordsN s)) = W6 := ⟨_, rfl⟩
  have hb6 : Below w.heap.size w W6 := by rw [← hW6]; exact below_setRow hB5 (by omega) _
  have k2 : W6.heap[w.heap.size + 1 + 1]? = some (.cells (arr5 (wordsN s)) 24) := by rw [← hW6]; exact setRow_heap w5 _ _ _ _ _ i2
  have k1 : W6.heap[w.heap.size + 1]? = some (.cells #[.int .u64 0, .int .u64 0, .int .u64 0, .int .u64 0, .int .u64 0] 24) := by rw [← hW6]; exact (below_setRow (B := w.heap.size + 1 + 1) (Below.refl _ w5) (Nat.le_refl _) _).block _ (by omega) |>.trans i1
  rw [hW6] at hcp
  have HB6 := Lib.hid hb6
  have c0 : W6.cell? ⟨w.heap.size + 1 + 1, 0, none⟩ = some (.int .u64 ((wordsN s)[0]?.getD 0 : Nat)) := by simp [World.cell?, k2]
  have c1 : W6.cell? ⟨w.heap.size + 1 + 1, 1, none⟩ = some (.int .u64 ((wordsN s)[1]?.getD 0 : Nat)) := by simp [World.cell?, k2]
  have c2 : W6.cell? ⟨w.heap.size + 1 + 1, 2, none⟩ = some (.int .u64 ((wordsN s)[2]?.getD 0 : Nat)) := by simp [World.cell?, k2]
  have c3 : W6.cell? ⟨w.heap.size + 1 + 1, 3, none⟩ = some (.int .u64 ((wordsN s)[3]?.getD 0 : Nat)) := by simp [World.cell?, k2]
  have c4 : W6.cell? ⟨w.heap.size + 1 + 1, 4, none⟩ = some (.int .u64 ((wordsN s)[4]?.getD 0 : Nat)) := by simp [World.cell?, k2]
  have lt1 : w.heap.size + 1 < W6.heap.size := (Array.getElem?_eq_some_iff.1 k1).1
  have d0 : W6.cell? ⟨w.heap.size + 1, 0, none⟩ = some (.int .u64 0) := by simp [World.cell?, k1]
  have d1 : W6.cell? ⟨w.heap.size + 1, 1, none⟩ = some (.int .u64 0) := by simp [World.cell?, k1]
  have d2 : W6.cell? ⟨w.heap.size + 1, 2, none⟩ = some (.int .u64 0) := by simp [World.cell?, k1]
  have d3 : W6.cell? ⟨w.heap.size + 1, 3, none⟩ = some (.int .u64 0) := by simp [World.cell?, k1]
  have d4 : W6.cell? ⟨w.heap.size + 1, 4, none⟩ = some (.int .u64 0) := by simp [World.cell?, k1]
  have f0 : W6.frozen? ⟨w.heap.size + 1, 0, none⟩ = false := by simp [World.frozen?, k1]
  have f1 : W6.frozen? ⟨w.heap.size + 1, 1, none⟩ = false := by simp [World.frozen?, k1]
  have f2 : W6.frozen? ⟨w.heap.size + 1, 2, none⟩ = false := by simp [World.frozen?, k1]
  have f3 : W6.frozen? ⟨w.heap.size + 1, 3, none⟩ = false := by simp [World.frozen?, k1]
  have f4 : W6.frozen? ⟨w.heap.size + 1, 4, none⟩ = false := by simp [World.frozen?, k1]
  clear hW6 hb6 k1 k2 i1 i2 hB5 hg hrow hb5 hcv
  have hwl : (WM.wordsOf (bsN s)).length = (wordsN s).length := rfl
  rw [hwl]
  clear hwl
  generalize hxs : wordsN s = xs at *
  go_wp2_with fail
  refine bodyPost_ret (v := .agg (arr5 xs)) (by simp [results, Try.results24, go_sem, World.cell?_setCell_same', d0, d1, d2, d3, d4]) rfl ⟨by rw [hxs], ?_⟩
  exact ((((HB6.out.setCell (p := ⟨w.heap.size + 1, 0, none⟩) (Nat.le_succ _) _).setCell (p := ⟨w.heap.size + 1, 1, none⟩) (Nat.le_succ _) _).setCell (p := ⟨w.heap.size + 1, 2, none⟩) (Nat.le_succ _) _).setCell (p := ⟨w.heap.size + 1, 3, none⟩) (Nat.le_succ _) _).setCell (p := ⟨w.heap.size + 1, 4, none⟩) (Nat.le_succ _) _
end Go.Proofs.Ytoaloeipgadkjaa
