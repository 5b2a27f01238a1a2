/-
  The walk of the law PlaceHolds: what is skipped.
-/
import Derived.Test.YtkighpfckibkoaaDoorPlaL2
namespace Go.Proofs.YtkighpfckibkoaaDoor
open Go.RowKit Go.Shelf

theorem move_to {l v l2 v2 : Int} (h : okP l v = true) (h2 : okP l2 v2 = true) : moveOut l v ((8 * l2 + v2) - (8 * l + v)) = .tuple #[.agg #[.int .i64 l2, .int .i64 v2], .int .i64 0] := by
  have a1 := okP_iff.1 h
  have a2 := okP_iff.1 h2
  rw [move_out_ok h (by omega), show (8 * l + v + (8 * l2 + v2 - (8 * l + v))) / 8 = l2 by omega, show (8 * l + v + (8 * l2 + v2 - (8 * l + v))) % 8 = v2 by omega]
theorem at_to {l v : Int} (h : okP l v = true) : moveOut 0 0 (8 * l + v) = .tuple #[.agg #[.int .i64 l, .int .i64 v], .int .i64 0] := by
  have a1 := okP_iff.1 h
  rw [at_ok (by omega), show (8 * l + v) / 8 = l by omega, show (8 * l + v) % 8 = v by omega]
theorem runP_few (l v many : Int) (m : Nat) (h : many.toNat ≤ m) : (runP l v many).take m = runP l v many := List.take_of_length_le (by rw [runP_len]; omega)
/-- The place so far behind lies so far behind. -/
theorem dist_cur (l v : Int) (k : Nat) (h : okP l v = true) (hk : k < roomN l v) : distOut l v (cur l v k).1 (cur l v k).2 = .tuple #[.int .i64 k, .int .i64 0] := by
  have h2 : okP (cur l v k).1 (cur l v k).2 = true := by rw [cur_ok l v k (by omega), decide_eq_true hk]
  have h3 := (cur_addr l v k hk).1
  rw [dist_out_ok h h2, h3, show 8 * l + v + (k : Int) - (8 * l + v) = k by omega]
theorem runP_cur (l v many : Int) (k : Nat) (hk : k < (runP l v many).length) : (runP l v many)[k]?.getD (0, 0) = cur l v k := by
  rw [runP_len] at hk
  rw [← places_at l v k (by omega)]
  unfold runP
  rw [List.getElem?_take_of_lt (by omega)]
theorem lnsN_next (a k : Nat) : lnsN a (k + 1) = if k = 0 then 1 else if (a + k) / 8 = (a + k - 1) / 8 then lnsN a k else lnsN a k + 1 := by
  unfold lnsN
  rw [if_neg (by omega)]
  split
  · subst k; omega
  · split <;> omega
set_option maxRecDepth 100000 in
theorem holds3_skip0 (al av bl bv many : Int) (ha : okP al av = false) (w : World) (ht : Ends w) :
    Calls Tryd.prog 6 #[.agg #[.int .i64 al, .int .i64 av], .agg #[.int .i64 bl, .int .i64 bv], .int .i64 many] w fun e w' => e = .returned (.bool true) ∧ Below w.heap.size w w' := by
  have hz := ht.room
  have HT := Lib.hid ht; clear ht
  have HRA := Lib.hid (right3_any al av)
  rw [ha] at HRA
  go_enter Tryd.func6, Tryd.ntmps6
  go_wp2_with fail
  refine (HRA.out _).mono ?_
  rintro e w1 ⟨rfl, hb1⟩
  have z1 := hb1.size; try simp at z1
  have b1 : Below w.heap.size w w1 := (by repeat (first | exact Below.refl _ _ | assumption | refine Below.drew ?_ | refine below_drewN ?_ _ | refine Below.alloc ?_ (by (try simp) <;> omega) _ | refine Below.setCell ?_ (by (try simp) <;> omega) _ | refine Below.trans ?_ (Below.mono (by assumption) (by (try simp) <;> omega))))
  clear hb1
  go_wp2_with fail
  refine (works3_any _ (HT.out.below (B := w.heap.size) (by repeat (first | exact Below.refl _ _ | assumption | refine Below.drew ?_ | refine below_drewN ?_ _ | refine Below.alloc ?_ (by (try simp) <;> omega) _ | refine Below.setCell ?_ (by (try simp) <;> omega) _ | refine Below.trans ?_ (Below.mono (by assumption) (by (try simp) <;> omega)))) hz)).mono ?_
  rintro e w3 ⟨rfl, hb3⟩
  go_wp2_with fail
  go_ret
  exact ⟨rfl, (by repeat (first | exact Below.refl _ _ | assumption | refine Below.drew ?_ | refine below_drewN ?_ _ | refine Below.alloc ?_ (by (try simp) <;> omega) _ | refine Below.setCell ?_ (by (try simp) <;> omega) _ | refine Below.trans ?_ (Below.mono (by assumption) (by (try simp) <;> omega))))⟩
set_option maxRecDepth 100000 in
theorem holds3_skip1 (al av bl bv many : Int) (ha : okP al av = true) (hb : okP bl bv = false) (w : World) (ht : Ends w) :
    Calls Tryd.prog 6 #[.agg #[.int .i64 al, .int .i64 av], .agg #[.int .i64 bl, .int .i64 bv], .int .i64 many] w fun e w' => e = .returned (.bool true) ∧ Below w.heap.size w w' := by
  have hz := ht.room
  have HT := Lib.hid ht; clear ht
  have HRA := Lib.hid (right3_any al av)
  have HRB := Lib.hid (right3_any bl bv)
  rw [ha] at HRA
  rw [hb] at HRB
  go_enter Tryd.func6, Tryd.ntmps6
  go_wp2_with fail
  refine (HRA.out _).mono ?_
  rintro e w1 ⟨rfl, hb1⟩
  have z1 := hb1.size; try simp at z1
  have jB1 : Box2 w1 (w.heap.size + 1) 23 bl bv := (by have := Box2.new (w.alloc (.cells #[.int .i64 al, .int .i64 av] 23)) 23 bl bv; simp at this; exact this.below hb1 (by simp))
  have b1 : Below w.heap.size w w1 := (by repeat (first | exact Below.refl _ _ | assumption | refine Below.drew ?_ | refine below_drewN ?_ _ | refine Below.alloc ?_ (by (try simp) <;> omega) _ | refine Below.setCell ?_ (by (try simp) <;> omega) _ | refine Below.trans ?_ (Below.mono (by assumption) (by (try simp) <;> omega))))
  clear hb1
  have d1 := jB1.cell0
  have d2 := jB1.cell1
  have l1 := jB1.lt
  go_wp2_with fail
  refine (HRB.out _).mono ?_
  rintro e w2 ⟨rfl, hb2⟩
  have z2 := hb2.size
  have b2 : Below w.heap.size w w2 := (by repeat (first | exact Below.refl _ _ | assumption | refine Below.drew ?_ | refine below_drewN ?_ _ | refine Below.alloc ?_ (by (try simp) <;> omega) _ | refine Below.setCell ?_ (by (try simp) <;> omega) _ | refine Below.trans ?_ (Below.mono (by assumption) (by (try simp) <;> omega))))
  clear hb2
  go_wp2_with fail
  refine (works3_any _ (HT.out.below (B := w.heap.size) (by repeat (first | exact Below.refl _ _ | assumption | refine Below.drew ?_ | refine below_drewN ?_ _ | refine Below.alloc ?_ (by (try simp) <;> omega) _ | refine Below.setCell ?_ (by (try simp) <;> omega) _ | refine Below.trans ?_ (Below.mono (by assumption) (by (try simp) <;> omega)))) hz)).mono ?_
  rintro e w3 ⟨rfl, hb3⟩
  go_wp2_with fail
  go_ret
  exact ⟨rfl, (by repeat (first | exact Below.refl _ _ | assumption | refine Below.drew ?_ | refine below_drewN ?_ _ | refine Below.alloc ?_ (by (try simp) <;> omega) _ | refine Below.setCell ?_ (by (try simp) <;> omega) _ | refine Below.trans ?_ (Below.mono (by assumption) (by (try simp) <;> omega))))⟩
set_option maxRecDepth 100000 in
theorem holds3_skip2 (al av bl bv many : Int) (ha : okP al av = true) (hb : okP bl bv = true) (k0 : many < 0) (w : World) (ht : Ends w) :
    Calls Tryd.prog 6 #[.agg #[.int .i64 al, .int .i64 av], .agg #[.int .i64 bl, .int .i64 bv], .int .i64 many] w fun e w' => e = .returned (.bool true) ∧ Below w.heap.size w w' := by
  have hz := ht.room
  have HT := Lib.hid ht; clear ht
  have HRA := Lib.hid (right3_any al av)
  have HRB := Lib.hid (right3_any bl bv)
  rw [ha] at HRA
  rw [hb] at HRB
  go_enter Tryd.func6, Tryd.ntmps6
  go_wp2_with fail
  refine (HRA.out _).mono ?_
  rintro e w1 ⟨rfl, hb1⟩
  have z1 := hb1.size; try simp at z1
  have jB1 : Box2 w1 (w.heap.size + 1) 23 bl bv := (by have := Box2.new (w.alloc (.cells #[.int .i64 al, .int .i64 av] 23)) 23 bl bv; simp at this; exact this.below hb1 (by simp))
  have b1 : Below w.heap.size w w1 := (by repeat (first | exact Below.refl _ _ | assumption | refine Below.drew ?_ | refine below_drewN ?_ _ | refine Below.alloc ?_ (by (try simp) <;> omega) _ | refine Below.setCell ?_ (by (try simp) <;> omega) _ | refine Below.trans ?_ (Below.mono (by assumption) (by (try simp) <;> omega))))
  clear hb1
  have d1 := jB1.cell0
  have d2 := jB1.cell1
  have l1 := jB1.lt
  go_wp2_with fail
  refine (HRB.out _).mono ?_
  rintro e w2 ⟨rfl, hb2⟩
  have z2 := hb2.size
  have b2 : Below w.heap.size w w2 := (by repeat (first | exact Below.refl _ _ | assumption | refine Below.drew ?_ | refine below_drewN ?_ _ | refine Below.alloc ?_ (by (try simp) <;> omega) _ | refine Below.setCell ?_ (by (try simp) <;> omega) _ | refine Below.trans ?_ (Below.mono (by assumption) (by (try simp) <;> omega))))
  clear hb2
  go_wp2_with fail
  refine (works3_any _ (HT.out.below (B := w.heap.size) (by repeat (first | exact Below.refl _ _ | assumption | refine Below.drew ?_ | refine below_drewN ?_ _ | refine Below.alloc ?_ (by (try simp) <;> omega) _ | refine Below.setCell ?_ (by (try simp) <;> omega) _ | refine Below.trans ?_ (Below.mono (by assumption) (by (try simp) <;> omega)))) hz)).mono ?_
  rintro e w3 ⟨rfl, hb3⟩
  go_wp2_with fail
  go_ret
  exact ⟨rfl, (by repeat (first | exact Below.refl _ _ | assumption | refine Below.drew ?_ | refine below_drewN ?_ _ | refine Below.alloc ?_ (by (try simp) <;> omega) _ | refine Below.setCell ?_ (by (try simp) <;> omega) _ | refine Below.trans ?_ (Below.mono (by assumption) (by (try simp) <;> omega))))⟩
set_option maxRecDepth 100000 in
theorem holds3_skip3 (al av bl bv many : Int) (ha : okP al av = true) (hb : okP bl bv = true) (k0 : ¬ many < 0) (k1 : 200 < many) (w : World) (ht : Ends w) :
    Calls Tryd.prog 6 #[.agg #[.int .i64 al, .int .i64 av], .agg #[.int .i64 bl, .int .i64 bv], .int .i64 many] w fun e w' => e = .returned (.bool true) ∧ Below w.heap.size w w' := by
  have hz := ht.room
  have HT := Lib.hid ht; clear ht
  have HRA := Lib.hid (right3_any al av)
  have HRB := Lib.hid (right3_any bl bv)
  rw [ha] at HRA
  rw [hb] at HRB
  go_enter Tryd.func6, Tryd.ntmps6
  go_wp2_with fail
  refine (HRA.out _).mono ?_
  rintro e w1 ⟨rfl, hb1⟩
  have z1 := hb1.size; try simp at z1
  have jB1 : Box2 w1 (w.heap.size + 1) 23 bl bv := (by have := Box2.new (w.alloc (.cells #[.int .i64 al, .int .i64 av] 23)) 23 bl bv; simp at this; exact this.below hb1 (by simp))
  have b1 : Below w.heap.size w w1 := (by repeat (first | exact Below.refl _ _ | assumption | refine Below.drew ?_ | refine below_drewN ?_ _ | refine Below.alloc ?_ (by (try simp) <;> omega) _ | refine Below.setCell ?_ (by (try simp) <;> omega) _ | refine Below.trans ?_ (Below.mono (by assumption) (by (try simp) <;> omega))))
  clear hb1
  have d1 := jB1.cell0
  have d2 := jB1.cell1
  have l1 := jB1.lt
  go_wp2_with fail
  refine (HRB.out _).mono ?_
  rintro e w2 ⟨rfl, hb2⟩
  have z2 := hb2.size
  have b2 : Below w.heap.size w w2 := (by repeat (first | exact Below.refl _ _ | assumption | refine Below.drew ?_ | refine below_drewN ?_ _ | refine Below.alloc ?_ (by (try simp) <;> omega) _ | refine Below.setCell ?_ (by (try simp) <;> omega) _ | refine Below.trans ?_ (Below.mono (by assumption) (by (try simp) <;> omega))))
  clear hb2
  go_wp2_with fail
  refine (works3_any _ (HT.out.below (B := w.heap.size) (by repeat (first | exact Below.refl _ _ | assumption | refine Below.drew ?_ | refine below_drewN ?_ _ | refine Below.alloc ?_ (by (try simp) <;> omega) _ | refine Below.setCell ?_ (by (try simp) <;> omega) _ | refine Below.trans ?_ (Below.mono (by assumption) (by (try simp) <;> omega)))) hz)).mono ?_
  rintro e w3 ⟨rfl, hb3⟩
  go_wp2_with fail
  go_ret
  exact ⟨rfl, (by repeat (first | exact Below.refl _ _ | assumption | refine Below.drew ?_ | refine below_drewN ?_ _ | refine Below.alloc ?_ (by (try simp) <;> omega) _ | refine Below.setCell ?_ (by (try simp) <;> omega) _ | refine Below.trans ?_ (Below.mono (by assumption) (by (try simp) <;> omega))))⟩
end Go.Proofs.YtkighpfckibkoaaDoor
