/-
  place.Lines.
-/
import Derived.Test.YtkighpfckibkoaaDoorPlaK
namespace Go.Proofs.YtkighpfckibkoaaDoor
open Go.RowKit Go.Shelf
attribute [local go_sem] Oper.semAt_some

/-- The lines of so many places from an address on. -/
def lnsN (a k : Nat) : Nat := if k = 0 then 0 else (a + k - 1) / 8 - a / 8 + 1
def lns (a k : Nat) : List Nat := (List.range (lnsN a k)).map (a / 8 + ·)
theorem lns_len (a k : Nat) : (lns a k).length = lnsN a k := by simp [lns]
theorem lns_zero (a : Nat) : lns a 0 = [] := rfl
theorem lns_one (a : Nat) : lns a 1 = [a / 8] := by
  unfold lns lnsN
  rw [if_neg (by decide), show (a + 1 - 1) / 8 - a / 8 + 1 = 1 by omega]
  simp
theorem lns_last (a k : Nat) (hk : 0 < k) : (lns a k)[(lns a k).length - 1]?.getD 0 = (a + k - 1) / 8 := by
  have h : lnsN a k = (a + k - 1) / 8 - a / 8 + 1 := by unfold lnsN; rw [if_neg (by omega)]
  rw [lns_len, h]
  unfold lns
  rw [h, List.getElem?_map, List.getElem?_range (by omega)]
  simp
  omega
theorem lns_same (a k : Nat) (hk : 0 < k) (h : (a + k - 1) / 8 = (a + k) / 8) : lns a (k + 1) = lns a k := by
  unfold lns lnsN
  rw [if_neg (by omega), if_neg (by omega), show a + (k + 1) - 1 = a + k by omega, h]
theorem lns_more (a k : Nat) (hk : 0 < k) (h : (a + k - 1) / 8 < (a + k) / 8) : lns a (k + 1) = lns a k ++ [(a + k) / 8] := by
  unfold lns lnsN
  rw [if_neg (by omega), if_neg (by omega), show a + (k + 1) - 1 = a + k by omega, show (a + k) / 8 - a / 8 + 1 = ((a + k - 1) / 8 - a / 8 + 1) + 1 by omega, List.range_succ, List.map_append]
  congr 1
  simp
  omega
theorem lns_len_le (a k : Nat) (h : a + k ≤ 8192) : (lns a k).length ≤ 1024 := by
  rw [lns_len]; unfold lnsN; split <;> omega
/-- What Lines answers. -/
def linesE (l v many : Int) : Int := if okP l v && decide (0 ≤ many) then (if many ≤ 8192 - (8 * l + v) then 0 else 4) else 2
theorem lines_no1 (l v many : Int) (hok : okP l v = false) (w : World) (ht : Ends w) :
    Calls Tryd.prog 20 #[.agg #[.int .i64 l, .int .i64 v], .int .i64 many] w fun e w' => e = .returned (.tuple #[.slice none 0 0, .int .i64 2]) ∧ Below w.heap.size w w' := by
  have hz := ht.room
  have HT := Lib.hid ht; clear ht
  have HK := Lib.hid (show okAll [(l, v)] = false by unfold okAll; rw [List.all_cons, hok]; rfl)
  clear hok
  go_enter Tryd.func20, Tryd.ntmps20
  go_wp2_with fail
  refine wp_scope_forward 0 rfl ?_
  go_wp2_with fail
  refine (stand_any _ [(l, v)] (by show 1 ≤ 2; decide) _ (HT.out.below (B := w.heap.size) (by repeat (first | exact Below.refl _ _ | assumption | refine Below.drew ?_ | refine below_drewN ?_ _ | refine Below.alloc ?_ (by (try simp) <;> omega) _ | refine Below.setCell ?_ (by (try simp) <;> omega) _ | refine Below.trans ?_ (Below.mono (by assumption) (by (try simp) <;> omega)))) hz) (slM1 (by decide) (by simp) (Below.refl _ _))).mono ?_
  rintro e w1 ⟨rfl, hb1⟩
  have z1 := hb1.size; try simp at z1
  rw [HK.out]
  go_wp2_with fail
  go_step3
  refine ⟨rfl, ?_⟩
  go_wp2
  rw [Exit.jump_ret]
  go_ret2
  exact ⟨rfl, (by repeat (first | exact Below.refl _ _ | assumption | refine Below.drew ?_ | refine below_drewN ?_ _ | refine Below.alloc ?_ (by (try simp) <;> omega) _ | refine Below.setCell ?_ (by (try simp) <;> omega) _ | refine Below.trans ?_ (Below.mono (by assumption) (by (try simp) <;> omega))))⟩
theorem lines_no2 (l v many : Int) (hok : okP l v = true) (hm : many < 0) (w : World) (ht : Ends w) :
    Calls Tryd.prog 20 #[.agg #[.int .i64 l, .int .i64 v], .int .i64 many] w fun e w' => e = .returned (.tuple #[.slice none 0 0, .int .i64 2]) ∧ Below w.heap.size w w' := by
  have hz := ht.room
  have HT := Lib.hid ht; clear ht
  have HK := Lib.hid (show okAll [(l, v)] = true by unfold okAll; rw [List.all_cons, hok]; rfl)
  clear hok
  go_enter Tryd.func20, Tryd.ntmps20
  go_wp2_with fail
  refine wp_scope_forward 0 rfl ?_
  go_wp2_with fail
  refine (stand_any _ [(l, v)] (by show 1 ≤ 2; decide) _ (HT.out.below (B := w.heap.size) (by repeat (first | exact Below.refl _ _ | assumption | refine Below.drew ?_ | refine below_drewN ?_ _ | refine Below.alloc ?_ (by (try simp) <;> omega) _ | refine Below.setCell ?_ (by (try simp) <;> omega) _ | refine Below.trans ?_ (Below.mono (by assumption) (by (try simp) <;> omega)))) hz) (slM1 (by decide) (by simp) (Below.refl _ _))).mono ?_
  rintro e w1 ⟨rfl, hb1⟩
  have z1 := hb1.size; try simp at z1
  rw [HK.out]
  go_wp2_with fail
  go_step3
  refine ⟨rfl, ?_⟩
  go_wp2
  rw [Exit.jump_ret]
  go_ret2
  exact ⟨rfl, (by repeat (first | exact Below.refl _ _ | assumption | refine Below.drew ?_ | refine below_drewN ?_ _ | refine Below.alloc ?_ (by (try simp) <;> omega) _ | refine Below.setCell ?_ (by (try simp) <;> omega) _ | refine Below.trans ?_ (Below.mono (by assumption) (by (try simp) <;> omega))))⟩
theorem lines_far (l v many : Int) (hok : okP l v = true) (hm : 8192 - (8 * l + v) < many) (w : World) (ht : Ends w) :
    Calls Tryd.prog 20 #[.agg #[.int .i64 l, .int .i64 v], .int .i64 many] w fun e w' => e = .returned (.tuple #[.slice none 0 0, .int .i64 4]) ∧ Below w.heap.size w w' := by
  have hz := ht.room
  have HT := Lib.hid ht; clear ht
  have o1 := okP_iff.1 hok
  have HK := Lib.hid (show okAll [(l, v)] = true by unfold okAll; rw [List.all_cons, hok]; rfl)
  have HB := Lib.hid (behind_any l v 0 0 (by omega) (by omega) (by decide) (by decide))
  rw [show 8 * l + v - (8 * 0 + 0) = 8 * l + v by omega] at HB
  obtain ⟨A, hA⟩ : ∃ A, 8 * l + v = A := ⟨_, rfl⟩
  have hA2 : 0 ≤ A ∧ A < 8192 := by omega
  rw [hA] at HB hm
  clear hok o1 hA
  have hm0 : ¬ many < 0 := by omega
  go_enter Tryd.func20, Tryd.ntmps20
  go_wp2_with fail
  refine wp_scope_forward 0 rfl ?_
  go_wp2_with fail
  refine (stand_any _ [(l, v)] (by show 1 ≤ 2; decide) _ (HT.out.below (B := w.heap.size) (by repeat (first | exact Below.refl _ _ | assumption | refine Below.drew ?_ | refine below_drewN ?_ _ | refine Below.alloc ?_ (by (try simp) <;> omega) _ | refine Below.setCell ?_ (by (try simp) <;> omega) _ | refine Below.trans ?_ (Below.mono (by assumption) (by (try simp) <;> omega)))) hz) (slM1 (by decide) (by simp) (Below.refl _ _))).mono ?_
  rintro e w1 ⟨rfl, hb1⟩
  have z1 := hb1.size; try simp at z1
  rw [HK.out]
  obtain ⟨hc1, hf1⟩ := bcell hb1
  go_wp2_with fail
  refine (HB.out _).mono ?_
  rintro e w2 ⟨rfl, hb2⟩
  go_wp2_with fail
  go_step3
  refine ⟨rfl, ?_⟩
  go_wp2
  rw [Exit.jump_ret]
  go_ret2
  exact ⟨rfl, (by repeat (first | exact Below.refl _ _ | assumption | refine Below.drew ?_ | refine below_drewN ?_ _ | refine Below.alloc ?_ (by (try simp) <;> omega) _ | refine Below.setCell ?_ (by (try simp) <;> omega) _ | refine Below.trans ?_ (Below.mono (by assumption) (by (try simp) <;> omega))))⟩
theorem runP_at (l v many : Int) (pre : List (Int × Int)) (x : Int × Int) (h : pre ++ [x] <+: runP l v many) : x = cur l v pre.length ∧ pre.length < roomN l v ∧ pre.length < many.toNat := by
  have h1 := h.length_le
  unfold runP at h h1
  rw [List.length_append, List.length_take, places_len] at h1
  simp at h1
  have h2 := h.getElem (i := pre.length) (by simp)
  simp [places] at h2
  exact ⟨h2, by omega, by omega⟩
theorem cur_line (l v : Int) (k : Nat) (hok : okP l v = true) : (cur l v k).1 = ((((8 * l + v).toNat + k) / 8 : Nat) : Int) := by
  have := okP_iff.1 hok
  unfold cur
  rw [if_pos hok]
  show (8 * l + v + (k : Nat)) / 8 = _
  omega
/-- What Lines has of a run so far. -/
def LinI (s a : Nat) (w : World) (many : Int) (pre : List (Int × Int)) (q : Nat → Prop) (W : World) : Prop :=
  RowF s (s + 1) 41 3 1 (lns a pre.length).length (valsOf .i64 (lns a pre.length)) q W ∧ BelowF s w q W ∧ pre.length ≤ many.toNat
theorem abides_lin (s a : Nat) (w : World) (many : Int) : Abides (LinI s a w many) := Abides.and (abides_row _ _ _ _ _ (fun pre : List (Int × Int) => (lns a pre.length).length) (fun pre => valsOf .i64 (lns a pre.length))) (Abides.and (Abides.below _ _) (Abides.pure (fun pre : List (Int × Int) => pre.length ≤ many.toNat)))
set_option maxRecDepth 100000 in
set_option maxHeartbeats 4000000 in
theorem lines_yes (l v many : Int) (hok : okP l v = true) (hm0 : 0 ≤ many) (hm : many ≤ 8192 - (8 * l + v)) (w : World) (ht : Ends w) :
    Calls Tryd.prog 20 #[.agg #[.int .i64 l, .int .i64 v], .int .i64 many] w fun e w' => ∃ r, e = .returned (.tuple #[r, .int .i64 0]) ∧ w'.ownsRow w.heap.size 3 1 r (lns (8 * l + v).toNat many.toNat).length (valsOf .i64 (lns (8 * l + v).toNat many.toNat)) ∧ Below w.heap.size w w' := by
  obtain ⟨i0, hi, hz0, hz1, hz2⟩ := info_parts infoI
  have hz := ht.room
  have HT := Lib.hid ht; clear ht
  have o1 := okP_iff.1 hok
  have HK := Lib.hid (show okAll [(l, v)] = true by unfold okAll; rw [List.all_cons, hok]; rfl)
  have HB := Lib.hid (behind_any l v 0 0 (by omega) (by omega) (by decide) (by decide))
  rw [show 8 * l + v - (8 * 0 + 0) = 8 * l + v by omega] at HB
  obtain ⟨A, hA⟩ : ∃ A, 8 * l + v = A := ⟨_, rfl⟩
  have hA2 : 0 ≤ A ∧ A < 8192 := by omega
  rw [hA] at HB hm ⊢
  obtain ⟨L, hL⟩ : ∃ L, lns A.toNat many.toNat = L := ⟨_, rfl⟩
  rw [hL]
  have HL := Lib.hid hL; clear hL
  have HA := Lib.hid hA
  have HOK := Lib.hid hok
  clear hok o1 hA
  have hm1 : ¬ many < 0 := by omega
  have hm2 : ¬ 8192 - A < many := by omega
  refine (callsIn_wide (n := 9)).1 ?_
  refine callsIn_of_wp_marks Tryd.func20 rfl trivial ?_ rfl
  simp only [Tryd.ntmps20, List.size_toArray, List.length_cons, List.length_nil, Nat.reduceAdd, Nat.reduceSub, Array.replicate_succ, Array.replicate_zero, List.push_toArray, List.append_toArray, List.nil_append, List.cons_append]
  gi_wp2_with fail
  refine wpIn_scope_straight ?_
  gi_wp2_with fail
  refine ⟨trivial, ?_⟩
  refine (callsIn_wide.2 (stand_any _ [(l, v)] (by show 1 ≤ 2; decide) _ (HT.out.below (B := w.heap.size) (by repeat (first | exact Below.refl _ _ | assumption | refine Below.drew ?_ | refine below_drewN ?_ _ | refine Below.alloc ?_ (by (try simp) <;> omega) _ | refine Below.setCell ?_ (by (try simp) <;> omega) _ | refine Below.trans ?_ (Below.mono (by assumption) (by (try simp) <;> omega)))) hz) (slM1 (Nat.le_refl 1) (by simp) (Below.refl _ _)))).mono ?_
  rintro e w1 ⟨rfl, hb1⟩
  have z1 := hb1.size; try simp at z1
  rw [HK.out]
  have jP : Box2 w1 w.heap.size 23 l v := Box2.below (W := ((((w.alloc (.cells #[.int .i64 l, .int .i64 v] 23)).alloc (.cells #[.slice none 0 0] 41)).alloc (.cells #[.int .i64 l, .int .i64 v] 50)).alloc (.cells #[.int .i64 l, .int .i64 v] 50))) (by unfold Box2; simp only [heap_at, World.size_alloc]; repeat (first | rw [if_pos (by omega)] | rw [if_neg (by omega)] | rw [if_pos trivial])) hb1 (by simp <;> omega)
  have jL : Boxed w1 (w.heap.size + 1) 41 (.slice none 0 0) := (hb1.block _ (by simp)).trans (by simp only [heap_at, World.size_alloc]; repeat (first | rw [if_pos (by omega)] | rw [if_neg (by omega)] | rw [if_pos trivial]))
  have jM : Box2 w1 (w.heap.size + 1 + 1) 50 l v := Box2.below (W := ((((w.alloc (.cells #[.int .i64 l, .int .i64 v] 23)).alloc (.cells #[.slice none 0 0] 41)).alloc (.cells #[.int .i64 l, .int .i64 v] 50)).alloc (.cells #[.int .i64 l, .int .i64 v] 50))) (by unfold Box2; simp only [heap_at, World.size_alloc]; repeat (first | rw [if_pos (by omega)] | rw [if_neg (by omega)] | rw [if_pos trivial])) hb1 (by simp)
  have b1 : Below w.heap.size w w1 := (by repeat (first | exact Below.refl _ _ | assumption | refine Below.drew ?_ | refine below_drewN ?_ _ | refine Below.alloc ?_ (by (try simp) <;> omega) _ | refine Below.setCell ?_ (by (try simp) <;> omega) _ | refine Below.trans ?_ (Below.mono (by assumption) (by (try simp) <;> omega))))
  clear hb1
  have m0 := jM.cell0
  have m1 := jM.cell1
  gi_wp2_with fail
  refine ⟨trivial, ?_⟩
  refine (callsIn_wide.2 (HB.out _)).mono ?_
  rintro e w2 ⟨rfl, hb2⟩
  have z2 := hb2.size
  have jP2 := jP.below hb2 jP.lt
  have jL2 : Boxed w2 (w.heap.size + 1) 41 (.slice none 0 0) := (hb2.block _ jL.lt).trans jL
  have b2 : Below w.heap.size w w2 := b1.trans (hb2.mono (by omega))
  clear hb2 m0 m1 jP jL jM b1
  have p0 := jP2.cell0
  have p1 := jP2.cell1
  gi_wp2_with fail
  refine ⟨trivial, ?_⟩
  refine (callsIn_wide.2 (run_place_any l v many _)).mono ?_
  rintro e w3 ⟨rfl, rfl⟩
  gi_wp2_with fail
  have jH := (Box2.new w2 23 l v).alloc (.cells #[.int .i64 many] 3)
  have jN := Boxed.new (w2.alloc (.cells #[.int .i64 l, .int .i64 v] 23)) 3 (.int .i64 many)
  have jL3 := (jL2.alloc (.cells #[.int .i64 l, .int .i64 v] 23)).alloc (.cells #[.int .i64 many] 3)
  have b3 : Below w.heap.size w ((w2.alloc (.cells #[.int .i64 l, .int .i64 v] 23)).alloc (.cells #[.int .i64 many] 3)) := (b2.alloc (by omega) _).alloc (by simp; omega) _
  have HSZ := Lib.hid (show ((w2.alloc (.cells #[.int .i64 l, .int .i64 v] 23)).alloc (.cells #[.int .i64 many] 3)).heap.size = w2.heap.size + 2 by simp)
  simp only [World.size_alloc] at jN
  generalize ((w2.alloc (.cells #[.int .i64 l, .int .i64 v] 23)).alloc (.cells #[.int .i64 many] 3)) = W0 at *
  clear p0 p1 jP2 jL2 b2
  have hsq := run_seq 8 (by decide) (w2.heap.size + 1) w2.heap.size l v many (by omega) (by omega) W0 (HT.out.below b3 hz) jH jN
  refine wpIn_range_F (n := 9) (by decide) (gf := 34) (lb := #[.pointer (some ⟨w2.heap.size + 1, 0, none⟩), .pointer (some ⟨w2.heap.size, 0, none⟩)]) rfl (enters_of Tryd.func34 (by kernel_rfl) rfl) hsq (fun k hk => by have := HSZ.out; subst hk; omega) (Below.refl _ _) (fun _ => rfl)
    (LinI w.heap.size A.toNat w many)
    (fun _ _ _ _ => False)
    (abides_lin _ _ _ _)
    (fun _ _ _ _ _ _ h _ _ => h)
    ⟨⟨_, jL3, World.ownsRow_nil _ _ _ _, id, fun g e => by cases e⟩, ⟨b3, b3.size, fun k h => h.elim⟩, Nat.zero_le _⟩
    (fun x a' W => ∃ Bx, W0.heap.size + 2 ≤ Bx ∧ Box2 W Bx 23 x.1 x.2 ∧ a' = { tmps := #[.agg #[.int .i64 l, .int .i64 v], .int .i64 many, .pointer (some ⟨w.heap.size, 0, none⟩), undef, .slice none 0 0, .int .i64 0, .pointer (some ⟨w.heap.size + 1, 0, none⟩), .pointer (some ⟨w.heap.size + 1 + 1, 0, none⟩), .int .i64 4, .pointer (some ⟨Bx, 0, none⟩),
      .agg #[.int .i64 l, .int .i64 v], .agg #[.int .i64 l, .int .i64 v], .agg #[.int .i64 l, .int .i64 v], .slice (some ⟨w.heap.size + 1 + 1 + 1, 0, none⟩) 1 1, .bool true, .bool false, .bool false, .int .i64 many, .bool (decide (many < 0)), .bool (decide (many < 0)), .int .i64 many, .agg #[.int .i64 l, .int .i64 v], .agg #[.int .i64 0, .int .i64 0], .int .i64 A, .int .i64 (8192 - A), .bool (decide (8192 - A < many)),
      .agg #[.int .i64 l, .int .i64 v], .int .i64 many, .func (.func 34) #[] #[.pointer (some ⟨w2.heap.size + 1, 0, none⟩), .pointer (some ⟨w2.heap.size, 0, none⟩)], .agg #[.int .i64 x.1, .int .i64 x.2], undef, undef, undef, undef, undef, undef, undef, undef, undef, undef, undef, undef, undef, undef, undef, undef, undef, undef, undef, undef, undef], defers := [] })
    (fun x a' W1 o ⟨Bx, h1, h2, h3⟩ => ⟨Bx, h1, h2.put _ _ (by omega), h3⟩)
    ?assign ?body ?done ?stop
  case assign =>
    rintro l2 ⟨x, y⟩ W2 K hsz hK
    unfold encP
    dsimp only
    gi_wp2
    refine hK _ _ ⟨W2.heap.size, hsz, Box2.new W2 23 x y, rfl⟩ ((Below.refl _ _).alloc (Nat.le_refl _) _)
  case body =>
    rintro l2 pre ⟨x, y⟩ a' q W ⟨⟨v', hv, hrow, hqB, hqg⟩, ⟨hB, hBs, hBq⟩, hlen⟩ hs2 hqb hsp ⟨Bx, hBx, bX, rfl⟩
    dsimp only at bX
    obtain ⟨hxy, hr1, hr2⟩ := runP_at l v many pre (x, y) hsp
    have hx : x = (((A.toNat + pre.length) / 8 : Nat) : Int) := by
      have h := cur_line l v pre.length HOK.out
      rw [← hxy, HA.out] at h
      exact h
    obtain ⟨z, hzz⟩ : ∃ z, (A.toNat + pre.length) / 8 = z := ⟨_, rfl⟩
    rw [hzz] at hx
    clear hxy
    subst hx
    have HZ := Lib.hid hzz
    clear hzz
    have cO := hv.cell
    have x0 := bX.cell0
    have x1 := bX.cell1
    have hrm := roomN_le l v
    have HR := Lib.hid (show pre.length < 8192 ∧ A.toNat + pre.length < 8192 by
      refine ⟨by omega, ?_⟩
      have := cur_addr l v pre.length hr1
      have := HA.out
      omega)
    have HQ := Lib.hid hqb
    have HQG := Lib.hid hqg
    have HBF := Lib.hid (show BelowF w.heap.size w q W from ⟨hB, hBs, hBq⟩)
    have HSP := Lib.hid hr2
    have HPL := Lib.hid (show (pre ++ [((z : Int), y)]).length = pre.length + 1 by simp)
    have hll := lns_len_le A.toNat pre.length (Nat.le_of_lt HR.out.2)
    clear hqb hqg hBq hsp hr1 hr2 hrm
    rcases Nat.eq_zero_or_pos pre.length with hp | hp
    · have hz0' : (lns A.toNat pre.length).length = 0 := by rw [hp, lns_zero]; rfl
      have HLN := Lib.hid (show lns A.toNat (pre.length + 1) = lns A.toNat pre.length ++ [z] by
        have := HZ.out
        rw [hp] at this ⊢
        rw [lns_one, lns_zero, ← this]; rfl)
      obtain ⟨a1, c1, -, -, rfl, -, -, -⟩ := (own_sl hrow).cell
      have HV : Hid (.slice a1 (lns A.toNat pre.length).length c1 = (.slice a1 0 c1 : Value)) := show _ = _ by rw [hz0']
      rw [HV.out] at hv hrow cO HQG
      have HP := Lib.hid hp
      clear hp hz0'
      generalize lns A.toNat pre.length = xs at *
      gi_wp2_with fail
      refine wpIn_region_quiet_r (by kernel_rfl) (by kernel_rfl) (by kernel_rfl) ?_
      repeat (gi_big_quiet_step (fail))
      refine wpQuietIn_nil ?_
      rintro _ ⟨nq, rfl⟩
      gi_wp2_with (gi_at_builtin; refine park ?_)
      unfold Park
      refine wpListIn_append_own_at _ (hgd := rfl) _ _ 41 rfl w.heap.size 3 i0 (.int .i64 0) 1 8 Tryd.underlying41 hi hz0 hz1 hz2 rfl (by decide) _ xs.length (valsOf .i64 xs) rfl (World.ownsRow.alloc (w := W.drewN nq) hrow _) ⟨W.heap.size, 0, none⟩ 1 1 [.int .i64 (z : Nat)] rfl rfl (cell_one_new _ _ _) (by simp [Value.oneCell']) (by unfold maxLen; omega) (by omega) (by simp; omega) ?_
      intro v2 w2 own2 grow2 _ at2
      obtain ⟨g', cap', rfl⟩ := ownsRow_succ own2
      obtain ⟨r1, r2, r3, r4, r5⟩ := row_appended (W := W.drewN nq) (p := fun k => k = 0) hv (by decide) hrow hqB HQG.out ⟨below_drewN HBF.out.1 nq, HBF.out.2⟩ (by omega) (fun k h => (HQ.out k h).2) (fun k h => by omega) own2 grow2 at2
      have r6 := r1.cell
      have r7 := r1.frozen
      have r8 := r1.lt
      gi_wp2_with fail
      refine ⟨r3, ?_, r5, ?_⟩
      · rw [HPL.out, HLN.out, valsOf_append, List.length_append]
        exact r4
      · rw [HPL.out]; have := HSP.out; omega
    · have hlast := lns_last A.toNat pre.length hp
      have hne : 0 < (lns A.toNat pre.length).length := by rw [lns_len]; unfold lnsN; rw [if_neg (by omega)]; omega
      obtain ⟨g, cap, hv', hg1, hg2, hcap⟩ := own_form hrow hne
      subst hv'
      have hcell := own_cell hrow ((lns A.toNat pre.length).length - 1) (by omega)
      rw [hlast] at hcell
      have HSAME := Lib.hid (lns_same A.toNat pre.length hp)
      have HMORE := Lib.hid (lns_more A.toNat pre.length hp)
      rw [HZ.out] at HSAME HMORE
      generalize lns A.toNat pre.length = xs at *
      obtain ⟨m, hm'⟩ : ∃ m, xs.length = m + 1 := ⟨xs.length - 1, by omega⟩
      have HXM := Lib.hid hm'
      rw [hm'] at hv hrow cO HQG hcell hcap hll
      rw [show m + 1 - 1 = m from rfl] at hcell
      obtain ⟨y0, hy0⟩ : ∃ y0, (A.toNat + pre.length - 1) / 8 = y0 := ⟨_, rfl⟩
      rw [hy0] at hcell HSAME HMORE
      have HY := Lib.hid (show y0 ≤ z by have := HZ.out; omega)
      have HP := Lib.hid hp
      clear hp hlast hne hm' hy0
      have hd0 : ((m : Int) + 1 == 0) = false := beq_eq_false_iff_ne.2 (by omega)
      by_cases hlt : y0 < z
      · have hltI : decide ((y0 : Int) < (z : Int)) = true := decide_eq_true (by omega)
        gi_wp2_with fail
        refine wpIn_region_quiet_r (by kernel_rfl) (by kernel_rfl) (by kernel_rfl) ?_
        repeat (gi_big_quiet_step (fail))
        refine wpQuietIn_nil ?_
        rintro _ ⟨nq, rfl⟩
        gi_wp2_with (gi_at_builtin; refine park ?_)
        unfold Park
        refine wpListIn_append_own_at _ (hgd := rfl) _ _ 41 rfl w.heap.size 3 i0 (.int .i64 0) 1 8 Tryd.underlying41 hi hz0 hz1 hz2 rfl (by decide) _ (m + 1) (valsOf .i64 xs) rfl (World.ownsRow.alloc (w := W.drewN nq) hrow _) ⟨W.heap.size, 0, none⟩ 1 1 [.int .i64 (z : Nat)] rfl rfl (cell_one_new _ _ _) (by simp [Value.oneCell']) (by unfold maxLen; omega) (by omega) (by simp; omega) ?_
        intro v2 w2 own2 grow2 _ at2
        obtain ⟨g', cap', rfl⟩ := ownsRow_succ own2
        obtain ⟨r1, r2, r3, r4, r5⟩ := row_appended (W := W.drewN nq) (p := fun k => k = 0) hv (by decide) hrow hqB HQG.out ⟨below_drewN HBF.out.1 nq, HBF.out.2⟩ (by omega) (fun k h => (HQ.out k h).2) (fun k h => by omega) own2 grow2 at2
        have r6 := r1.cell
        have r7 := r1.frozen
        have r8 := r1.lt
        gi_wp2_with fail
        refine ⟨r3, ?_, r5, ?_⟩
        · rw [HPL.out, HMORE.out hlt, valsOf_append, List.length_append, HXM.out]
          exact r4
        · rw [HPL.out]; have := HSP.out; omega
      · have hltI : decide ((y0 : Int) < (z : Int)) = false := decide_eq_false (by omega)
        have hyz : y0 = z := by have := HY.out; omega
        gi_wp2_with fail
        refine wpIn_region_quiet_r (by kernel_rfl) (by kernel_rfl) (by kernel_rfl) ?_
        repeat (gi_big_quiet_step (fail))
        refine wpQuietIn_nil ?_
        rintro _ ⟨nq, rfl⟩
        gi_wp2_with fail
        refine ⟨Keeps.refl _ _, ?_, ⟨below_drewN HBF.out.1 nq, HBF.out.2⟩, ?_⟩
        · rw [HPL.out, HSAME.out hyz, HXM.out]
          exact ⟨_, hv, hrow, hqB, HQG.out⟩
        · rw [HPL.out]; have := HSP.out; omega
  case done =>
    rintro D ys W hD rfl ⟨⟨v', hv, hrow, hqB, hqg⟩, ⟨hB, hBs, hBq⟩, hlen⟩ hK'
    have HLL := Lib.hid (show lns A.toNat (runP l v many).length = L by
      rw [← HL.out]
      congr 1
      unfold runP
      rw [List.length_take, places_len]
      unfold roomN
      rw [HOK.out]
      have := HA.out
      simp
      omega)
    rw [HLL.out] at hrow
    have cO := hv.cell
    gi_wp2_with fail
    refine leaves_one hK' fun W' ht hc => ⟨_, results_tmp2 rfl _ _ _, v', rfl, ownsRow_block hrow fun g e hl => ht.block g hl (hqg g e), hB.trans (ht.below (fun k h => by have := HSZ.out; omega) hBs)⟩
  case stop => exact fun _ _ _ _ _ _ h => h.elim
end Go.Proofs.YtkighpfckibkoaaDoor
