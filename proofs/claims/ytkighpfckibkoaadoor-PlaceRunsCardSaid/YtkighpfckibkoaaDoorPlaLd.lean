/-
  The walk of the law PlaceRuns: long runs.
-/
import Derived.Test.YtkighpfckibkoaaDoorPlaLh
namespace Go.Proofs.YtkighpfckibkoaaDoor
open Go.RowKit Go.Shelf

set_option maxHeartbeats 8000000 in
theorem runs3_hy (l v many most : Int) (hm1 : -9223372036854775808 ≤ many) (hm2 : many ≤ 9223372036854775807) (ho1 : -9223372036854775808 ≤ most) (ho2 : most ≤ 9223372036854775807) (hhigh : 8000 ≤ many) (ok : okP l v = true) (hpos : 0 ≤ many) (hfit : many ≤ 8192 - (8 * l + v)) (w : World) (ht : Ends w) :
    Calls Tryd.prog 5 #[.agg #[.int .i64 l, .int .i64 v], .int .i64 many, .int .i64 most] w fun e w' => e = .returned (.bool true) ∧ Below w.heap.size w w' := by
  have hz := ht.room
  have HT := Lib.hid ht; clear ht
  obtain ⟨i0, hi, hz0, hz1, hz2⟩ := info_parts infoP
  have hpl := runP_len l v many
  have HRU := Lib.hid (refRun_any l v many hm1 hm2)
  have HRX := Lib.hid (fun (m : Int) (h1 : 1 ≤ m) (h2 : m ≤ 9223372036854775807) W (hb : Below w.heap.size w W) => runL_any l v many m hm1 hm2 h1 h2 W (HT.out.below hb hz))
  have HRT := Lib.hid (right3_any l v)
  rw [ok] at HRT
  have HRL := Lib.hid (fun W (hb : Below w.heap.size w W) => lines_yes l v many ok hpos hfit W (HT.out.below hb hz))
  have HRF := Lib.hid (refLines_any l v many ok hm1 hm2)
  have hlen : (runP l v many).length = many.toNat := by
    rw [hpl]
    unfold roomN
    rw [ok]
    have := okP_iff.1 ok
    simp
    omega
  rw [hlen] at HRF
  have hll := lns_len_le (8 * l + v).toNat many.toNat (by have := okP_iff.1 ok; omega)
  generalize lns (8 * l + v).toNat many.toNat = LN at *
  have HAD := Lib.hid (address3_any l v ok)
  obtain ⟨A, hA⟩ : ∃ A : Int, 8 * l + v = A := ⟨_, rfl⟩
  have hA2 : 0 ≤ A ∧ A < 8192 := by have := okP_iff.1 ok; omega
  rw [hA] at HAD hfit
  clear hA
  have hrm := roomN_le l v
  obtain ⟨L, hL⟩ : ∃ L, runP l v many = L := ⟨_, rfl⟩
  rw [hL] at HRU HRX hpl
  have hL8 : L.length ≤ 8192 := by omega
  have HD9 := Lib.hid (show decide (L.take (9000 : Int).toNat = L) = true from decide_eq_true (List.take_of_length_le (by show L.length ≤ 9000; omega)))
  obtain ⟨M, hM⟩ : ∃ M : Int, (if 1 < most then most else 1) = M := ⟨_, rfl⟩
  have hmx1 : 1 ≤ M := by rw [← hM]; split <;> omega
  have hmx2 : M ≤ 9223372036854775807 := by rw [← hM]; split <;> omega
  have HL := Lib.hid hL
  have HM1 := Lib.hid hm1
  have HM2 := Lib.hid hm2
  have HO1 := Lib.hid ho1
  have HO2 := Lib.hid ho2
  clear hm1 hm2 ho1 ho2 ok hL hpl hrm hlen
  go_enter Tryd.func5, Tryd.ntmps5
  go_wp2_with fail
  refine (HRU.out _).mono ?_
  rintro e w1 ⟨r, rfl, own1, hb1⟩
  have s1 := slP_of_own own1
  have z1 := hb1.size; try simp at z1
  have jP1 : Box2 w1 w.heap.size 23 l v := (Box2.new w 23 l v).below hb1 (by simp)
  have b1 : Below w.heap.size w w1 := (by repeat (first | exact Below.refl _ _ | assumption | refine Below.drew ?_ | refine below_drewN ?_ _ | refine Below.alloc ?_ (by (try simp) <;> omega) _ | refine Below.setCell ?_ (by (try simp) <;> omega) _ | refine Below.trans ?_ (Below.mono (by assumption) (by (try simp) <;> omega))))
  clear hb1 own1
  have c1 := jP1.cell0
  have c2 := jP1.cell1
  have l1 := jP1.lt
  go_wp2_with fail
  refine (HRL.out _ (by repeat (first | exact Below.refl _ _ | assumption | refine Below.drew ?_ | refine below_drewN ?_ _ | refine Below.alloc ?_ (by (try simp) <;> omega) _ | refine Below.setCell ?_ (by (try simp) <;> omega) _ | refine Below.trans ?_ (Below.mono (by assumption) (by (try simp) <;> omega))))).mono ?_
  rintro e w2 ⟨rl, rfl, own2, hb2⟩
  have sl2 := own_sl own2
  clear own2
  have z2 := hb2.size
  have s2 := s1.below hb2
  have jP2 := jP1.below hb2 l1
  have b2 : Below w.heap.size w w2 := (by repeat (first | exact Below.refl _ _ | assumption | refine Below.drew ?_ | refine below_drewN ?_ _ | refine Below.alloc ?_ (by (try simp) <;> omega) _ | refine Below.setCell ?_ (by (try simp) <;> omega) _ | refine Below.trans ?_ (Below.mono (by assumption) (by (try simp) <;> omega))))
  clear hb2 jP1 b1 c1 c2 s1
  have c1 := jP2.cell0
  have c2 := jP2.cell1
  have l2 := jP2.lt
  obtain ⟨k, hkk⟩ : ∃ k : Nat, (if M < (L.length : Int) then M else (L.length : Int)) = (k : Int) := ⟨(min (L.length : Int) M).toNat, by split <;> omega⟩
  have hkk2 : (k : Int) = min (L.length : Int) M := by rw [← hkk]; split <;> omega
  obtain ⟨r1, hr1, hr2⟩ := cut_toP Tryd.underlying39 hi hz1 s2 k (by omega)
  have HR2 := Lib.hid hr2
  have HTK := Lib.hid (show L.take M.toNat = L.take k by
    by_cases h : L.length ≤ M.toNat
    · rw [List.take_of_length_le h, List.take_of_length_le (by omega)]
    · rw [show k = M.toNat by omega])
  have HD1 := Lib.hid (show decide (L.take M.toNat = L.take k) = true from decide_eq_true HTK.out)
  have hl1 : (L.take M.toNat).length ≤ 140737488351232 := by rw [List.length_take]; omega
  have hl2 : (L.take k).length ≤ 140737488351232 := by rw [List.length_take]; omega
  have hl9 : (L.take (9000 : Int).toNat).length ≤ 140737488351232 := by rw [List.length_take]; omega
  have HLN := Lib.hid (And.intro hl1 (And.intro hl2 hl9))
  clear hl1 hl2 hl9
  obtain ⟨a1, cap1, hr⟩ : ∃ a c, r = .slice a L.length c := ⟨_, _, s2.choose_spec.choose_spec.1⟩
  subst hr
  have HS2 := Lib.hid s2
  clear hr2 hkk2 s2
  have bb : Below w2.heap.size w2 w2 := Below.refl _ _
  go_wp2_with fail
  go_region_held3 (fun w' => w'.cell? ⟨w.heap.size, 0, none⟩ = some (.int .i64 l) ∧ w'.cell? ⟨w.heap.size, 1, none⟩ = some (.int .i64 v) ∧ w.heap.size < w'.heap.size) (exact ⟨c1, c2, l2⟩)
    (first | (go_at_call 22; refine (HRX.out _ (by omega) (by omega) _ (by repeat (first | exact Below.refl _ _ | assumption | refine Below.drew ?_ | refine below_drewN ?_ _ | refine Below.alloc ?_ (by (try simp) <;> omega) _ | refine Below.setCell ?_ (by (try simp) <;> omega) _ | refine Below.trans ?_ (Below.mono (by assumption) (by (try simp) <;> omega))))).mono ?_; rintro e wA ⟨rA, rfl, ownA, hbA⟩; have sA := slP_of_own ownA; have b2 : Below w.heap.size w wA := (by repeat (first | exact Below.refl _ _ | assumption | refine Below.drew ?_ | refine below_drewN ?_ _ | refine Below.alloc ?_ (by (try simp) <;> omega) _ | refine Below.setCell ?_ (by (try simp) <;> omega) _ | refine Below.trans ?_ (Below.mono (by assumption) (by (try simp) <;> omega)))); have bb : Below w2.heap.size w2 wA := (by first | exact bb.trans (hbA.mono bb.size) | exact bb.drew.trans (hbA.mono bb.size)); have c1 := (hbA.cell (p := ⟨w.heap.size, 0, none⟩) l2).trans c1; have c2 := (hbA.cell (p := ⟨w.heap.size, 1, none⟩) l2).trans c2; have l2 : w.heap.size < wA.heap.size := Nat.lt_of_lt_of_le l2 hbA.size; clear hbA ownA) | (go_at_call 21; refine (same3_own _ _ _ sA (by first | exact HR2.out _ (HS2.out.below bb) | exact HS2.out.below bb) (by first | exact HLN.out.1 | exact HLN.out.2.2) (by first | exact HLN.out.2.1 | omega)).mono ?_; rintro e wB ⟨rfl, hbB⟩; (first | rw [HD1.out] | rw [HD9.out]); have b2 : Below w.heap.size w wB := (by repeat (first | exact Below.refl _ _ | assumption | refine Below.drew ?_ | refine below_drewN ?_ _ | refine Below.alloc ?_ (by (try simp) <;> omega) _ | refine Below.setCell ?_ (by (try simp) <;> omega) _ | refine Below.trans ?_ (Below.mono (by assumption) (by (try simp) <;> omega)))); have bb : Below w2.heap.size w2 wB := (by first | exact bb.trans (hbB.mono bb.size) | exact bb.drew.trans (hbB.mono bb.size)); have c1 := (hbB.cell (p := ⟨w.heap.size, 0, none⟩) l2).trans c1; have c2 := (hbB.cell (p := ⟨w.heap.size, 1, none⟩) l2).trans c2; have l2 : w.heap.size < wB.heap.size := Nat.lt_of_lt_of_le l2 hbB.size; clear hbB))
  all_goals
    go_wp2_with fail
    refine (HRT.out _).mono ?_
    rintro e w5 ⟨rfl, hb5⟩
    have b5 : Below w.heap.size w w5 := b2.trans (hb5.mono b2.size)
    have bb5 : Below w2.heap.size w2 w5 := bb.trans (hb5.mono bb.size)
    have c1 := (hb5.cell (p := ⟨w.heap.size, 0, none⟩) l2).trans c1
    have c2 := (hb5.cell (p := ⟨w.heap.size, 1, none⟩) l2).trans c2
    have l5 : w.heap.size < w5.heap.size := Nat.lt_of_lt_of_le l2 hb5.size
    clear hb5 b2 bb
    go_wp2_with fail
    refine (HAD.out _).mono ?_
    rintro e w6 ⟨rfl, hb6⟩
    have b6 : Below w.heap.size w w6 := b5.trans (hb6.mono b5.size)
    have bb6 : Below w2.heap.size w2 w6 := bb5.trans (hb6.mono bb5.size)
    have c1 := (hb6.cell (p := ⟨w.heap.size, 0, none⟩) l5).trans c1
    have c2 := (hb6.cell (p := ⟨w.heap.size, 1, none⟩) l5).trans c2
    have l6 : w.heap.size < w6.heap.size := Nat.lt_of_lt_of_le l5 hb6.size
    clear hb6 b5 bb5
    go_wp2_with fail
    refine (HRF.out _).mono ?_
    rintro e w7 ⟨r7, rfl, own7, hb7⟩
    have s7 := own_sl own7
    have b7 : Below w.heap.size w w7 := b6.trans (hb7.mono b6.size)
    have bb7 : Below w2.heap.size w2 w7 := bb6.trans (hb7.mono bb6.size)
    clear hb7 b6 bb6 own7
    go_wp2_with fail
    refine (ints3_any _ _ LN LN (by omega) (by omega) _ (sl2.below bb7) s7).mono ?_
    rintro e w8 ⟨rfl, hb8⟩
    rw [decide_eq_true (rfl : LN = LN)]
    have b8 : Below w.heap.size w w8 := b7.trans (hb8.mono b7.size)
    go_wp2_with (go_at_call 12; refine (num3_any _ _).mono ?_; rintro e w' ⟨rfl, rfl⟩)
    refine (works3_any _ (HT.out.below b8 hz)).mono ?_
    rintro e w9 ⟨rfl, hb9⟩
    go_wp2_with fail
    go_ret
    exact ⟨rfl, (b8).trans (hb9.mono b8.size)⟩
end Go.Proofs.YtkighpfckibkoaaDoor
