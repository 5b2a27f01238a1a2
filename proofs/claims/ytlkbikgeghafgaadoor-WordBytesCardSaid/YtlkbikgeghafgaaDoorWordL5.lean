/-
  The walk of the law WordTails.
-/
import Derived.Test.YtlkbikgeghafgaaDoorWordT
import Derived.Test.YtlkbikgeghafgaaDoorWordK
namespace Go.Proofs.YtlkbikgeghafgaaDoor
open Go.RowKit Go.Shelf

/-- The bytes that Bytes answers. -/
def bytesRes (l : List Nat) (many : Int) : List Nat := if WM.bytesErr l many = 0 then (WM.bytesOf l).take many.toNat else []
theorem nil_sl (W : World) (k : IntKind) : Sl W k (.slice none 0 0) [] := ⟨none, 0, rfl, Nat.le_refl _, fun h => by simp at h⟩
/-- What Bytes answers: its bytes, its error. -/
def BytesOut (l : List Nat) (many : Int) (w : World) (e : Ending) (w' : World) : Prop :=
  ∃ r, e = .returned (.tuple #[r, .int .i64 (WM.bytesErr l many)]) ∧ Sl w' .u8 r (bytesRes l many) ∧ Below w.heap.size w w'
theorem out_err {l : List Nat} {many : Int} {w : World} {c : Int} (h : WM.bytesErr l many = c) (hc : c ≠ 0) : ∀ e w', (e = .returned (.tuple #[.slice none 0 0, .int .i64 c]) ∧ Below w.heap.size w w') → BytesOut l many w e w' :=
  fun e w' ⟨he, hb⟩ => ⟨.slice none 0 0, by rw [he, h], by unfold bytesRes; rw [h, if_neg hc]; exact nil_sl _ _, hb⟩
theorem out_rest {l : List Nat} {many : Nat} {w : World} (h1 : many ≤ 4096) (h2 : l.length ≤ 4096) (h3 : many ≤ 8 * l.length) (h4 : l.length ≤ WM.need many) : ∀ e w', (((((WM.bytesOf l).drop many).any (· != 0) = true → e = .returned (.tuple #[.slice none 0 0, .int .i64 110])) ∧
      (((WM.bytesOf l).drop many).any (· != 0) = false → ∃ r, e = .returned (.tuple #[r, .int .i64 0]) ∧ Sl w' .u8 r ((WM.bytesOf l).take many))) ∧ Below w.heap.size w w') → BytesOut l (many : Int) w e w' := fun e w' ⟨⟨ht, hf⟩, hb⟩ => by
  have e0 : WM.bytesErr l (many : Int) = if ((WM.bytesOf l).drop many).any (· != 0) then 110 else 0 := by
    unfold WM.bytesErr
    rw [if_neg (by omega), if_neg (by omega), if_neg (by omega), Int.toNat_natCast, if_neg (by omega)]
  cases ha : ((WM.bytesOf l).drop many).any (· != 0) with
  | true =>
    rw [ha] at e0
    exact out_err e0 (by decide) e w' ⟨ht ha, hb⟩
  | false =>
    rw [ha] at e0
    obtain ⟨r, he, hs⟩ := hf ha
    exact ⟨r, by rw [he, e0]; rfl, by unfold bytesRes; rw [e0, if_pos (by rfl), Int.toNat_natCast]; exact hs, hb⟩
theorem bytes_out (v : Value) (l : List Nat) (many : Int) (hl : l.length ≤ 140737488351232) (h64 : Words64 l) (hm : -9223372036854775808 ≤ many) (w : World) (hs : Sl w .u64 v l) :
    Calls Tryd.prog 18 #[v, .int .i64 many] w fun e w' => BytesOut l many w e w' := by
  by_cases h1 : many < 0
  · exact (bytes_neg v l many h1 hm w hs).mono (out_err (by unfold WM.bytesErr; rw [if_pos h1]) (by decide))
  by_cases h2 : 4096 < many
  · exact (bytes_long1 v l many h2 w hs).mono (out_err (by unfold WM.bytesErr; rw [if_neg h1, if_pos (.inl h2)]) (by decide))
  by_cases h3 : 4096 < l.length
  · exact (bytes_long2 v l many (by omega) (by omega) h3 hl w hs).mono (out_err (by unfold WM.bytesErr; rw [if_neg h1, if_pos (.inr h3)]) (by decide))
  by_cases h4 : 8 * (l.length : Int) < many
  · exact (bytes_range v l many (by omega) (by omega) (by omega) h4 w hs).mono (out_err (by unfold WM.bytesErr; rw [if_neg h1, if_neg (by omega), if_pos h4]) (by decide))
  obtain ⟨m, rfl⟩ := Int.eq_ofNat_of_zero_le (show 0 ≤ many by omega)
  by_cases h5 : WM.need m < l.length
  · exact (bytes_tail1 v l m (by omega) (by omega) (by omega) h5 w hs).mono (out_err (by unfold WM.bytesErr; rw [if_neg h1, if_neg (by omega), if_neg h4, Int.toNat_natCast, if_pos h5]) (by decide))
  · exact (bytes_rest v l m h64 (by omega) (by omega) (by omega) (by omega) w hs).mono (out_rest (by omega) (by omega) (by omega) (by omega))
theorem refBytes_out (v : Value) (l : List Nat) (many : Int) (h64 : Words64 l) (w : World) (hs : Sl w .u64 v l) :
    Calls Tryd.prog 21 #[v, .int .i64 many] w fun e w' => BytesOut l many w e w' := by
  by_cases h1 : many < 0
  · exact (refBytes_neg v l many h1 w hs).mono (out_err (by unfold WM.bytesErr; rw [if_pos h1]) (by decide))
  by_cases h2 : 4096 < many
  · exact (refBytes_long1 v l many h2 w hs).mono (out_err (by unfold WM.bytesErr; rw [if_neg h1, if_pos (.inl h2)]) (by decide))
  by_cases h3 : 4096 < l.length
  · exact (refBytes_long2 v l many (by omega) (by omega) h3 w hs).mono (out_err (by unfold WM.bytesErr; rw [if_neg h1, if_pos (.inr h3)]) (by decide))
  by_cases h4 : 8 * (l.length : Int) < many
  · exact (refBytes_range v l many (by omega) (by omega) (by omega) h4 w hs).mono (out_err (by unfold WM.bytesErr; rw [if_neg h1, if_neg (by omega), if_pos h4]) (by decide))
  obtain ⟨m, rfl⟩ := Int.eq_ofNat_of_zero_le (show 0 ≤ many by omega)
  by_cases h5 : WM.need m < l.length
  · exact (refBytes_tail v l m (by omega) (by omega) (by omega) (by omega) (by unfold WM.need at h5; omega) w hs).mono (out_err (by unfold WM.bytesErr; rw [if_neg h1, if_neg (by omega), if_neg h4, Int.toNat_natCast, if_pos h5]) (by decide))
  · exact (refBytes_rest v l m h64 (by omega) (by omega) (by omega) (by unfold WM.need at h5; omega) w hs).mono (out_rest (by omega) (by omega) (by omega) (by omega))
set_option maxHeartbeats 1000000 in
theorem tails_any (v : Value) (l : List Nat) (many : Int) (hl : l.length ≤ 140737488351232) (h64 : Words64 l) (hm : -9223372036854775808 ≤ many) (w : World) (ht : Tabs w) (hs : Sl w .u64 v l) :
    Calls Tryd.prog 5 #[v, .int .i64 many] w fun e w' => e = .returned (.bool true) ∧ Below w.heap.size w w' := by
  have z0 := ht.room
  have HB := Lib.hid (bytes_out v l many hl h64 hm w hs)
  have HR := Lib.hid (fun (W : World) (hb : Below w.heap.size w W) => refBytes_out v l many h64 W (hs.below hb))
  obtain ⟨a, c, b, off, rfl, -, -, -⟩ := hs.cell
  clear hs
  by_cases hlong : 4200 < l.length
  · have h1 : (4200 : Int) < (l.length : Int) := by omega
    go_enter Tryd.func5, Tryd.ntmps5
    go_wp2_with fail
    refine (works_any _ ht).mono ?_
    rintro e w1 ⟨rfl, hb1⟩
    go_wp2_with fail
    go_ret
    exact ⟨rfl, hb1⟩
  · have h1 : (l.length : Int) ≤ 4200 := by omega
    go_enter Tryd.func5, Tryd.ntmps5
    go_wp2_with fail
    refine HB.out.mono ?_
    rintro e w1 ⟨r, rfl, s1, hb1⟩
    generalize he : WM.bytesErr l many = err at *
    have z1 := hb1.size
    go_wp2_with fail
    refine (HR.out w1 hb1).mono ?_
    rintro e w2 ⟨r2, rfl, s2, hb2⟩
    rw [he]
    have c1 := conv_sl (s1.below hb2)
    have c2 := conv_sl s2
    obtain ⟨a1, cap1, b1, off1, rfl, -, -, -⟩ := s1.cell
    obtain ⟨a2, cap2, b2, off2, rfl, -, -, -⟩ := s2.cell
    have z2 := hb2.size
    clear s1 s2
    go_wp2_with (go_at_call 13; refine (num_any _ _).mono ?_; rintro e w' ⟨rfl, rfl⟩)
    refine (works_any _ (by exact ht.below (by repeat (first | exact Below.refl _ _ | assumption | refine Below.drew ?_ | refine below_drewN ?_ _ | refine Below.alloc ?_ (by (try simp) <;> omega) _ | refine Below.setCell ?_ (by (try simp) <;> omega) _ | refine Below.trans ?_ (Below.mono (by assumption) (by (try simp) <;> omega)))) ht.room)).mono ?_
    rintro e w3 ⟨rfl, hb3⟩
    go_wp2_with (go_at_call 13; refine (num_any _ _).mono ?_; rintro e w' ⟨rfl, rfl⟩)
    go_ret
    exact ⟨rfl, (by repeat (first | exact Below.refl _ _ | assumption | refine Below.drew ?_ | refine below_drewN ?_ _ | refine Below.alloc ?_ (by (try simp) <;> omega) _ | refine Below.setCell ?_ (by (try simp) <;> omega) _ | refine Below.trans ?_ (Below.mono (by assumption) (by (try simp) <;> omega))))⟩
end Go.Proofs.YtlkbikgeghafgaaDoor
