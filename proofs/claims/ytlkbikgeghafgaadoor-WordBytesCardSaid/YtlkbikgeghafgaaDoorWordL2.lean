/-
  The walk of the law WordBytes.
-/
import Derived.Test.YtlkbikgeghafgaaDoorWordR
import Derived.Test.YtlkbikgeghafgaaDoorWordL5
namespace Go.Proofs.YtlkbikgeghafgaaDoor
open Go.RowKit Go.Shelf

theorem words64_of (xs : List Nat) : Words64 (WM.wordsOf xs) := fun i => by
  show WM.at' (WM.wordsOf xs) i < _
  rw [WM.wordsOf_at]
  split
  · exact WM.wordAt_lt xs i
  · decide
theorem bytesErr_words (xs : List Nat) (hx : WM.Bytes256 xs) (hl : xs.length ≤ 4096) : WM.bytesErr (WM.wordsOf xs) (xs.length : Int) = 0 := by
  have hn : (WM.wordsOf xs).length = WM.need xs.length := WM.wordsOf_length xs
  have hg := WM.need_ge xs.length
  have hn2 : WM.need xs.length ≤ 4096 := by unfold WM.need; omega
  have hd : ¬ ((WM.bytesOf (WM.wordsOf xs)).drop xs.length).any (· != 0) = true := fun h => by
    obtain ⟨j, h1, _, h3⟩ := (any_drop _ _).1 h
    exact h3 (WM.bytes_behind xs hx j h1)
  unfold WM.bytesErr
  rw [if_neg (by omega), if_neg (by omega), if_neg (by omega), Int.toNat_natCast, if_neg (by omega), if_neg hd]
theorem bytesRes_words (xs : List Nat) (hx : WM.Bytes256 xs) (hl : xs.length ≤ 4096) : bytesRes (WM.wordsOf xs) (xs.length : Int) = xs := by
  unfold bytesRes
  rw [bytesErr_words xs hx hl, if_pos rfl, Int.toNat_natCast, WM.bytes_words xs hx]
set_option maxHeartbeats 800000 in
theorem lawBytes_any (v : Value) (xs : List Nat) (hl : xs.length ≤ 140737488351232) (hx : WM.Bytes256 xs) (w : World) (ht : Tabs w) (hs : Sl w .u8 v xs) (hcap : ∀ a n c, v = .slice a n c → c ≤ 140737488351232) :
    Calls Tryd.prog 4 #[v] w fun e w' => e = .returned (.bool true) ∧ Below w.heap.size w w' := by
  have z0 := ht.room
  have hl' : (xs.length : Int) ≤ 140737488351232 := by omega
  by_cases h1 : 5000 < xs.length
  · obtain ⟨a, c, b, off, rfl, -, -, -⟩ := hs.cell
    clear hs hcap
    have k1 : (5000 : Int) < (xs.length : Int) := by omega
    go_enter Tryd.func4, Tryd.ntmps4
    go_wp2_with fail
    refine (works_any _ ht).mono ?_
    rintro e w1 ⟨rfl, hb1⟩
    go_wp2_with fail
    go_ret
    exact ⟨rfl, hb1⟩
  · by_cases h2 : 4096 < xs.length
    · have k1 : (4096 : Int) < (xs.length : Int) := by omega
      have k2 : (xs.length : Int) ≤ 5000 := by omega
      obtain ⟨a, c, b, off, rfl, -, -, -⟩ := hs.cell
      have HW := Lib.hid (words_long a xs.length c h2 hl w)
      clear hs hcap
      go_enter Tryd.func4, Tryd.ntmps4
      go_wp2_with fail
      refine HW.out.mono ?_
      rintro e w1 ⟨rfl, rfl⟩
      go_wp2_with (go_at_call 13; refine (num_any _ _).mono ?_; rintro e w' ⟨rfl, rfl⟩)
      refine (works_any _ ht).mono ?_
      rintro e w3 ⟨rfl, hb3⟩
      go_wp2_with (go_at_call 13; refine (num_any _ _).mono ?_; rintro e w' ⟨rfl, rfl⟩)
      go_ret
      exact ⟨rfl, hb3⟩
    · have k1 : (xs.length : Int) ≤ 4096 := by omega
      have HW := Lib.hid (words_any v xs (by omega) hx w hs hcap)
      have HR := Lib.hid (fun (W : World) (hb : Below w.heap.size w W) => refWords_any v xs (by omega) hx W (hs.below hb))
      have HV := Lib.hid (fun (W : World) (hb : Below w.heap.size w W) => conv_sl (hs.below hb))
      have HE := Lib.hid (bytesErr_words xs hx (by omega))
      have HS := Lib.hid (bytesRes_words xs hx (by omega))
      have hn : (WM.wordsOf xs).length ≤ 4096 := by rw [WM.wordsOf_length]; unfold WM.need; omega
      have h64 := Lib.hid (words64_of xs)
      obtain ⟨a, c, b, off, rfl, -, -, -⟩ := hs.cell
      clear hs hcap
      generalize hA : WM.wordsOf xs = A at *
      clear hA
      go_enter Tryd.func4, Tryd.ntmps4
      go_wp2_with fail
      refine HW.out.mono ?_
      rintro e w1 ⟨r1, rfl, ⟨g1, c1, rfl⟩, hr1, hb1⟩
      have z1 := hb1.size
      have s1 := Lib.hid (sl_of_owns hr1)
      clear hr1
      go_wp2_with fail
      refine (bytes_out _ A xs.length (by omega) h64.out (by omega) w1 s1.out).mono ?_
      rintro e w2 ⟨r2, rfl, s2, hb2⟩
      rw [HE.out]
      rw [HS.out] at s2
      have z2 := hb2.size
      have b2 : Below w.heap.size w w2 := hb1.trans (hb2.mono z1)
      have S2 := Lib.hid s2; clear s2
      obtain ⟨a2, cap2, b2', off2, rfl, -, -, -⟩ := S2.out.cell
      go_wp2_with fail
      refine (HR.out w2 b2).mono ?_
      rintro e w3 ⟨r3, rfl, s3, hb3⟩
      have z3 := hb3.size
      have S3 := Lib.hid s3; clear s3
      obtain ⟨a3, cap3, b3', off3, rfl, -, -, -⟩ := S3.out.cell
      have b3 : Below w.heap.size w w3 := b2.trans (hb3.mono (by omega))
      go_wp2_with fail
      refine (same_any _ _ A A (by omega) (by omega) w3 ((s1.out.below hb2).below hb3) S3.out).mono ?_
      rintro e w4 ⟨rfl, hb4⟩
      have HD : Hid (decide (A = A) = true) := decide_eq_true rfl
      rw [HD.out]
      have z4 := hb4.size
      have b4 : Below w.heap.size w w4 := b3.trans (hb4.mono (by omega))
      have c1 := HV.out w4 b4
      have c2 := conv_sl ((S2.out.below hb3).below hb4)
      go_wp2_with (go_at_call 13; refine (num_any _ _).mono ?_; rintro e w' ⟨rfl, rfl⟩)
      refine (works_any _ (ht.below b4 ht.room)).mono ?_
      rintro e w5 ⟨rfl, hb5⟩
      go_wp2_with (go_at_call 13; refine (num_any _ _).mono ?_; rintro e w' ⟨rfl, rfl⟩)
      go_ret
      exact ⟨rfl, b4.trans (hb5.mono b4.size)⟩
end Go.Proofs.YtlkbikgeghafgaaDoor
