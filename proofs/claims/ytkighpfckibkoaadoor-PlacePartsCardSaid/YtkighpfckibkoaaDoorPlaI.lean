/-
  place's iterators: onward, Run.
-/
import Derived.Test.YtkighpfckibkoaaDoorPlaC
import Derived.Test.YtkighpfckibkoaaDoorRangeQ
namespace Go.Proofs.YtkighpfckibkoaaDoor
open Go.RowKit Go.Shelf
attribute [local go_sem] Oper.semAt_some

/-- The place so many behind one; how many there are from it on; all of them. -/
def cur (l v : Int) (k : Nat) : Int × Int := if okP l v then ((8 * l + v + k) / 8, (8 * l + v + k) % 8) else (l, v)
def roomN (l v : Int) : Nat := if okP l v then (8192 - (8 * l + v)).toNat else 0
def places (l v : Int) : List (Int × Int) := (List.range (roomN l v)).map (cur l v)
theorem roomN_le (l v : Int) : roomN l v ≤ 8192 := by
  unfold roomN
  cases h : okP l v with
  | false => simp
  | true =>
    have := okP_iff.1 h
    simp only [if_true]
    omega
theorem cur_zero (l v : Int) : cur l v 0 = (l, v) := by
  unfold cur
  cases h : okP l v with
  | false => rfl
  | true =>
    have := okP_iff.1 h
    show ((8 * l + v + (0 : Nat)) / 8, (8 * l + v + (0 : Nat)) % 8) = _
    congr 1 <;> omega
theorem cur_ok (l v : Int) (k : Nat) (hk : k ≤ roomN l v) : okP (cur l v k).1 (cur l v k).2 = decide (k < roomN l v) := by
  unfold cur roomN at *
  cases h : okP l v with
  | false => rw [h] at hk; simp at hk; subst hk; simpa using h
  | true =>
    rw [h] at hk
    have := okP_iff.1 h
    simp only [if_true] at hk ⊢
    unfold okP
    rw [decide_eq_decide]
    omega
theorem cur_step (l v : Int) (k : Nat) (hk : k < roomN l v) : (8 * (cur l v k).1 + (cur l v k).2 + 1) / 8 = (cur l v (k + 1)).1 ∧ (8 * (cur l v k).1 + (cur l v k).2 + 1) % 8 = (cur l v (k + 1)).2 := by
  unfold cur roomN at *
  cases h : okP l v with
  | false => rw [h] at hk; simp at hk
  | true =>
    have := okP_iff.1 h
    simp only [if_true]
    omega
theorem cur_addr (l v : Int) (k : Nat) (hk : k < roomN l v) : 8 * (cur l v k).1 + (cur l v k).2 = 8 * l + v + k ∧ 0 ≤ 8 * l + v ∧ 8 * l + v + k < 8192 := by
  unfold cur roomN at *
  cases h : okP l v with
  | false => rw [h] at hk; simp at hk
  | true =>
    have := okP_iff.1 h
    rw [h] at hk
    simp only [if_true] at hk ⊢
    omega
theorem places_take (l v : Int) (k : Nat) (hk : k < roomN l v) : (places l v).take k ++ [cur l v k] = (places l v).take (k + 1) := by
  have hl : k < (places l v).length := by simpa [places] using hk
  rw [List.take_succ_eq_append_getElem hl]
  simp [places]
theorem places_len (l v : Int) : (places l v).length = roomN l v := by simp [places]
/-- The address in a box. -/
def addrAt (p : Value) (W : World) : Int := match p with
  | .pointer (some a) => 8 * intOf ((W.cell? ⟨a.block, 0, none⟩).getD undef) + intOf ((W.cell? ⟨a.block, 1, none⟩).getD undef)
  | _ => 0
theorem addrAt_eq {W : World} {B : Nat} {t : TypeId} {l v : Int} (h : Box2 W B t l v) : addrAt (.pointer (some ⟨B, 0, none⟩)) W = 8 * l + v := by
  unfold addrAt
  simp only [h.cell0, h.cell1]
  rfl
theorem onward_any (l v : Int) (w : World) :
    Calls Tryd.prog 35 #[.agg #[.int .i64 l, .int .i64 v]] w fun e w' => e = .returned (.func (.func 36) #[] #[.pointer (some ⟨w.heap.size, 0, none⟩)]) ∧ w' = w.alloc (.cells #[.int .i64 l, .int .i64 v] 23) := by
  go_enter Tryd.func35, Tryd.ntmps35
  go_wp2
  go_ret
  exact ⟨rfl, rfl⟩
/-- What an iterator over places hands out. -/
def encP (x : Int × Int) : Array Value := #[.agg #[.int .i64 x.1, .int .i64 x.2]]
set_option maxRecDepth 100000 in
set_option maxHeartbeats 4000000 in
theorem onward_seq (n : Nat) (hn : 3 ≤ n) (H : Nat) (l v : Int) (w : World) (ht : Ends w) (hH : Box2 w H 23 l v) :
    SeqF (fun k => k = 0) n Tryd.prog 36 #[.pointer (some ⟨H, 0, none⟩)] encP (fun ys => ys = places l v) (fun pre => pre <+: places l v) w := fun lp J Jx W hW hJ hJx hY h0 => by
  have hHW := hH.below hW hH.lt
  have c0 := hHW.cell0
  have c1 := hHW.cell1
  have hzW : 0 < W.heap.size := Nat.lt_of_lt_of_le ht.room hW.size
  have HT := Lib.hid (ht.below hW ht.room)
  have HY := Lib.hid hY
  have HJ := Lib.hid hJ
  have HJX := Lib.hid hJx
  clear hY hJ hJx ht hH hHW
  refine callsIn_of_wp Tryd.func36 rfl trivial ?_ rfl
  simp only [Tryd.ntmps36, List.size_toArray, List.length_cons, List.length_nil, Nat.reduceAdd, Nat.reduceSub, Array.replicate_succ, Array.replicate_zero, List.push_toArray, List.append_toArray, List.nil_append, List.cons_append]
  gi_wp2_with fail
  gi_loopw [3] (fun p wr => ∃ (k Bm : Nat), k ≤ roomN l v ∧ p = .pointer (some ⟨Bm, 0, none⟩) ∧ W.heap.size ≤ Bm ∧ Box2 wr Bm 50 (cur l v k).1 (cur l v k).2 ∧ J ((places l v).take k) (fun q => q = Bm) wr ∧ Ends wr ∧ W.heap.size ≤ wr.heap.size) (fun p wr => (8192 - addrAt p wr).toNat)
  case atStart =>
    refine ⟨0, W.heap.size, Nat.zero_le _, rfl, Nat.le_refl _, ?_, ?_, ?_⟩
    · rw [cur_zero]; exact Box2.new W 50 l v
    · exact HJ.out _ _ _ _ _ h0 (Turn.of_below ((Below.refl _ _).alloc (Nat.le_refl _) _) (Nat.le_refl _)) (fun q h => .inr (by omega))
    · exact ⟨HT.out.below ((Below.refl _ _).alloc (Nat.le_refl _) _) hzW, by simp⟩
  case round =>
    obtain ⟨k, Bm, hk, rfl, hBm, hbx, hJs, hT, zk⟩ := hrel
    have hokk := Lib.hid (cur_ok l v k hk)
    have hlB := hbx.lt
    by_cases hlt : k < roomN l v
    · have hc := cur_addr l v k hlt
      have hst := cur_step l v k hlt
      have hf := places_take l v k hlt
      have hok1 : okP (cur l v k).1 (cur l v k).2 = true := by rw [hokk.out]; exact decide_eq_true hlt
      obtain ⟨⟨a, b⟩, hx⟩ : ∃ x, cur l v k = x := ⟨_, rfl⟩
      rw [hx] at hc hst hf hok1 hbx
      dsimp only at hc hst hok1 hbx
      have HC := Lib.hid hc
      have HST := Lib.hid hst
      have HF := Lib.hid hf
      have HOK := Lib.hid hok1
      have HM := Lib.hid (addrAt_eq hbx)
      have d0 := hbx.cell0
      have d1 := hbx.cell1
      clear hc hst hf
      have o1 : 0 ≤ a ∧ a < 1024 ∧ 0 ≤ b ∧ b < 8 := okP_iff.1 HOK.out
      have HON := Lib.hid (on_any a b 1 (by omega) (by omega) (by omega))
      clear o1 hok1 hx
      gi_wp2_with fail
      refine ⟨trivial, fun _ => by omega, ?_⟩
      refine (callsIn_wide.2 (stand_any _ [(a, b)] (by show 1 ≤ 2; decide) _ (hT.below ((Below.refl _ _).alloc (Nat.le_refl _) _) hT.room) (slM1 (Nat.le_refl 1) rfl (Below.refl _ _)))).mono ?_
      rintro e w1 ⟨rfl, hb1⟩
      have z1 := hb1.size; try simp at z1
      have b1 : Below wr.heap.size wr w1 := ((Below.refl _ _).alloc (Nat.le_refl _) _).trans (hb1.mono (by simp))
      have hJ1 := HJ.out _ _ (fun q => q = Bm) _ _ hJs (Turn.of_below b1 (Nat.le_refl _)) (fun q h => .inl h)
      obtain ⟨fn, tmps, assign, body, hy, hR⟩ := HY.out _ (a, b) _ w1 hJ1 (Nat.le_trans zk b1.size) (fun q h => by have := b1.size; omega) (by rw [HF.out]; exact List.take_prefix _ _)
      rw [HF.out] at hR
      have HR := Lib.hid hR; clear hR
      unfold encP at hy
      dsimp only at hy
      have hbx1 := hbx.below b1 hlB
      have hT1 := hT.below b1 hT.room
      clear d0 d1 hb1
      have d0 := hbx1.cell0
      have d1 := hbx1.cell1
      have HSA := Lib.hid (show okAll [(a, b)] = true by unfold okAll; rw [List.all_cons, HOK.out]; rfl)
      rw [HSA.out]
      gi_wp2_with fail
      refine ⟨fun _ => by omega, ?_⟩
      refine HR.out.mono ?_
      rintro e W3 ⟨hk3, ⟨rfl, hJ3⟩ | ⟨rfl, hJx3⟩⟩
      · have hbx3 := hbx1.keeps hk3 (.inr rfl)
        have z3 := hk3.1
        have hT3 : Ends W3 := ⟨hk3.cell (q := ⟨0, 0, none⟩) (.inl rfl) hT1.lines, hk3.cell (q := ⟨0, 1, none⟩) (.inl rfl) hT1.words, Nat.lt_of_lt_of_le hT1.room hk3.1⟩
        clear d0 d1 hk3 hy
        have d0 := hbx3.cell0
        have d1 := hbx3.cell1
        gi_wp2_with fail
        refine ⟨trivial, fun _ => by omega, ?_⟩
        refine (callsIn_wide.2 (HON.out _)).mono ?_
        rintro e W4 ⟨rfl, hb4⟩
        obtain ⟨⟨a2, b2⟩, hx2⟩ : ∃ x, cur l v (k + 1) = x := ⟨_, rfl⟩
        have hst2 := HST.out
        rw [hx2] at hst2
        dsimp only at hst2
        rw [hst2.1, hst2.2]
        have hbx4 : Box2 W4 W3.heap.size 50 a b := (Box2.new W3 50 a b).below hb4 (by simp)
        have z4 := hb4.size; try simp at z4
        have f0 := hbx4.frozen0
        have f1 := hbx4.frozen1
        have g0 := hbx4.cell0
        have g1 := hbx4.cell1
        have b4 : Below W3.heap.size W3 W4 := ((Below.refl _ _).alloc (Nat.le_refl _) _).trans (hb4.mono (by simp))
        clear d0 d1 hb4
        have HNX := Lib.hid (hbx4.set a2 b2)
        have HNM := Lib.hid (addrAt_eq HNX.out)
        have HAD := Lib.hid (show 8 * a2 + b2 = 8 * a + b + 1 by omega)
        have HX2 := Lib.hid hx2
        clear hst2 hx2
        have b5 : Below W3.heap.size W3 ((W4.setCell ⟨W3.heap.size, 0, none⟩ (.int .i64 a2)).setCell ⟨W3.heap.size, 1, none⟩ (.int .i64 b2)) := (b4.setCell (p := ⟨W3.heap.size, 0, none⟩) (Nat.le_refl _) _).setCell (p := ⟨W3.heap.size, 1, none⟩) (Nat.le_refl _) _
        have zW3 : W.heap.size ≤ W3.heap.size := Nat.le_trans (Nat.le_trans zk b1.size) z3
        gi_wp2_with fail
        refine ⟨⟨k + 1, W3.heap.size, hlt, rfl, zW3, ?_, HJ.out _ _ _ _ _ hJ3 (Turn.of_below b5 (Nat.le_refl _)) (fun q h => .inr (by omega)), hT3.below b5 hT3.room, Nat.le_trans zW3 b5.size⟩, ?_⟩
        · rw [HX2.out]; exact HNX.out
        · rw [HNM.out, HM.out, HAD.out]
          have := HC.out
          omega
      · clear d0 d1 hy
        gi_wp2
        refine bodyPost_ret (results_none rfl _ _ _) rfl ?_
        exact ⟨⟨_, rfl⟩, .inr ⟨_, List.take_prefix _ _, HJX.out.weaken hJx3 (fun _ h => h.elim)⟩⟩
    · obtain rfl : k = roomN l v := by omega
      have hok1 : okP (cur l v (roomN l v)).1 (cur l v (roomN l v)).2 = false := by rw [hokk.out]; exact decide_eq_false (by omega)
      obtain ⟨⟨a, b⟩, hx⟩ : ∃ x, cur l v (roomN l v) = x := ⟨_, rfl⟩
      rw [hx] at hok1 hbx
      dsimp only at hok1 hbx
      have d0 := hbx.cell0
      have d1 := hbx.cell1
      have HSA := Lib.hid (show okAll [(a, b)] = false by unfold okAll; rw [List.all_cons, hok1]; rfl)
      clear hok1 hx hokk
      gi_wp2_with fail
      refine ⟨trivial, fun _ => by omega, ?_⟩
      refine (callsIn_wide.2 (stand_any _ [(a, b)] (by show 1 ≤ 2; decide) _ (hT.below ((Below.refl _ _).alloc (Nat.le_refl _) _) hT.room) (slM1 (Nat.le_refl 1) rfl (Below.refl _ _)))).mono ?_
      rintro e w1 ⟨rfl, hb1⟩
      rw [HSA.out]
      have b1 : Below wr.heap.size wr w1 := ((Below.refl _ _).alloc (Nat.le_refl _) _).trans (hb1.mono (by simp))
      clear d0 d1 hb1
      gi_wp2_with fail
      go_end0
      refine ⟨⟨_, rfl⟩, .inl ⟨_, ?_, HJ.out _ _ _ _ _ hJs (Turn.of_below b1 (Nat.le_refl _)) (fun _ h => h.elim)⟩⟩
      exact List.take_of_length_le (by rw [places_len]; exact Nat.le_refl _)
end Go.Proofs.YtkighpfckibkoaaDoor
