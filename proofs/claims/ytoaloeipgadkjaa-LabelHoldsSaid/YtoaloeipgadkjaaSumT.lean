/-
  Contracts of sum.Text and of the document's Text.
-/
import Derived.Test.YtoaloeipgadkjaaSumR
import Derived.Test.YtoaloeipgadkjaaWordR
namespace Go.Proofs.Ytoaloeipgadkjaa
open Go.RowKit Go.Shelf

theorem u64s_words (xs : List Nat) : U64s (WM.wordsOf xs) := fun x hx => by
  unfold WM.wordsOf at hx
  obtain ⟨i, _, rfl⟩ := List.mem_map.1 hx
  exact WM.wordAt_lt xs i
/-- The words of bytes, and how many bytes they are. -/
def textWords (xs : List Nat) : List Nat := WM.wordsOf xs ++ [xs.length]
theorem textWords_len (xs : List Nat) (hl : xs.length ≤ 4096) : (textWords xs).length ≤ 513 := by
  unfold textWords
  rw [List.length_append, WM.wordsOf_length]
  unfold WM.need
  simp; omega
theorem u64s_text (xs : List Nat) (hl : xs.length ≤ 4096) : U64s (textWords xs) := fun x hx => by
  unfold textWords at hx
  rcases List.mem_append.1 hx with h | h
  · exact u64s_words xs x h
  · simp at h; omega
theorem oneSl' (w : World) (x : Nat) : Sl (w.alloc (.cells #[.int .u64 x] 23)) .u64 (.slice (some ⟨w.heap.size, 0, none⟩) 1 1) [x] := by
  refine ⟨_, 1, rfl, Nat.le_refl _, fun _ => ⟨w.heap.size, 0, rfl, by simp, fun j hj => ?_⟩⟩
  have hj1 : j < 1 := hj
  obtain rfl : j = 0 := by omega
  simp [go_sem]
set_option maxHeartbeats 1000000 in
theorem text_anyM (v : Value) (xs : List Nat) (hl : xs.length ≤ 4096) (hx : WM.Bytes256 xs) (w : World) (hs : Sl w .u8 v xs) (hcap : ∀ a n c, v = .slice a n c → c ≤ 9223372036854775807) :
    Calls Try.prog 25 #[v] w fun e w' => e = .returned (.tuple #[.int .u64 (SM.sumOf (textWords xs) : Nat), .int .i64 0]) ∧ Below w.heap.size w w' := by
  obtain ⟨i0, hi, hz0, hz1, hz2⟩ := info_parts infoU64
  have k1 : (xs.length : Int) ≤ 4096 := by omega
  have HW := Lib.hid (words_anyM v xs hl hx w hs hcap)
  have nl : (WM.wordsOf xs).length ≤ 512 := by rw [WM.wordsOf_length]; unfold WM.need; omega
  have HO := Lib.hid (fun (r : Value) (W : World) (hr : Sl W .u64 r (textWords xs)) => of_any r (textWords xs) (by have := textWords_len xs hl; omega) (u64s_text xs hl) W hr)
  have HT := Lib.hid (show textWords xs = WM.wordsOf xs ++ [xs.length] from rfl)
  obtain ⟨a, c, b, off, rfl, -, -, -⟩ := hs.cell
  clear hs hcap
  generalize textWords xs = T at *
  generalize WM.wordsOf xs = A at *
  go_enter Try.func25, Try.ntmps25
  go_wp2_with fail
  refine HW.out.mono ?_
  rintro e w1 ⟨r1, rfl, ⟨g1, c1, rfl⟩, hr1, hb1⟩
  have z1 := hb1.size
  go_wp2_with (at_builtin; refine wpList_append_sl _ (by rfl) (.tmp 14) (.tmp 18) 62 rfl w.heap.size 23 i0 (.int .u64 0) 8 .u64 Try.underlying62 hi hz0 hz1 hz2 rfl _ A rfl (hr1.alloc _) _ [xs.length] rfl (oneSl' _ _) (by unfold maxLen; simp; omega) (by simp; omega) (by simp; omega) ?_; intro v2 w2 own2 grow2 at2)
  have b2 : Below w.heap.size w w2 := (hb1.alloc z1 _).grown grow2 (by simp; omega) (fun j e => (hr1.lt j e).1)
  have s2 : Sl w2 .u64 v2 T := by rw [HT.out]; exact own_sl own2
  refine (HO.out _ _ s2).mono ?_
  rintro e w3 ⟨rfl, hb3⟩
  go_wp2_with fail
  go_ret2
  exact ⟨rfl, b2.trans (hb3.mono b2.size)⟩
theorem text_long (v : Value) (xs : List Nat) (hl : 4096 < xs.length) (hl2 : xs.length ≤ 140737488351232) (w : World) (hs : Sl w .u8 v xs) :
    Calls Try.prog 25 #[v] w fun e w' => e = .returned (.tuple #[.int .u64 0, .int .i64 3]) ∧ Below w.heap.size w w' := by
  obtain ⟨a, c, b, off, rfl, -, -, -⟩ := hs.cell
  have HW := Lib.hid (words_long a xs.length c hl hl2 w)
  clear hs
  go_enter Try.func25, Try.ntmps25
  go_wp2_with fail
  refine HW.out.mono ?_
  rintro e w1 ⟨rfl, rfl⟩
  go_wp2_with fail
  go_ret2
  exact ⟨rfl, Below.refl _ _⟩
set_option maxHeartbeats 1000000 in
theorem refText2_any (v : Value) (xs : List Nat) (hl : xs.length ≤ 4096) (hx : WM.Bytes256 xs) (w : World) (hs : Sl w .u8 v xs) :
    Calls Try.prog 30 #[v] w fun e w' => e = .returned (.int .u64 (SM.sumOf (textWords xs) : Nat)) ∧ Below w.heap.size w w' := by
  obtain ⟨i0, hi, hz0, hz1, hz2⟩ := info_parts infoU64
  have k1 : (xs.length : Int) ≤ 4096 := by omega
  have HW := Lib.hid (refWords_own v xs hl hx w hs)
  have nl : (WM.wordsOf xs).length ≤ 512 := by rw [WM.wordsOf_length]; unfold WM.need; omega
  have HO := Lib.hid (fun (r : Value) (W : World) (hr : Sl W .u64 r (textWords xs)) => refOf2_any r (textWords xs) (by have := textWords_len xs hl; omega) (u64s_text xs hl) W hr)
  have HT := Lib.hid (show textWords xs = WM.wordsOf xs ++ [xs.length] from rfl)
  obtain ⟨a, c, b, off, rfl, -, -, -⟩ := hs.cell
  clear hs
  generalize textWords xs = T at *
  generalize WM.wordsOf xs = A at *
  go_enter Try.func30, Try.ntmps30
  go_wp2_with fail
  refine HW.out.mono ?_
  rintro e w1 ⟨r1, rfl, hr1, hb1⟩
  have z1 := hb1.size
  go_wp2_with (at_builtin; refine wpList_append_sl _ (by rfl) (.tmp 4) (.tmp 8) 62 rfl w.heap.size 23 i0 (.int .u64 0) 8 .u64 Try.underlying62 hi hz0 hz1 hz2 rfl _ A rfl (hr1.alloc _) _ [xs.length] rfl (oneSl' _ _) (by unfold maxLen; simp; omega) (by simp; omega) (by simp; omega) ?_; intro v2 w2 own2 grow2 at2)
  have b2 : Below w.heap.size w w2 := (hb1.alloc z1 _).grown grow2 (by simp; omega) (fun j e => (hr1.lt j e).1)
  have s2 : Sl w2 .u64 v2 T := by rw [HT.out]; exact own_sl own2
  refine (HO.out _ _ s2).mono ?_
  rintro e w3 ⟨rfl, rfl⟩
  go_wp2_with fail
  go_ret
  exact ⟨rfl, b2⟩
theorem text_any (v : Value) (xs : List Nat) (hl : xs.length ≤ 4096) (hx : WM.Bytes256 xs) (w : World) (hs : Sl w .u8 v xs) (hcap : ∀ a n c, v = .slice a n c → c ≤ 140737488351232) :
    Calls Try.prog 25 #[v] w fun e w' => e = .returned (.tuple #[.int .u64 (SM.sumOf (textWords xs) : Nat), .int .i64 0]) ∧ Below w.heap.size w w' :=
  text_anyM v xs hl hx w hs fun a n c e => Nat.le_trans (hcap a n c e) (by decide)
end Go.Proofs.Ytoaloeipgadkjaa
