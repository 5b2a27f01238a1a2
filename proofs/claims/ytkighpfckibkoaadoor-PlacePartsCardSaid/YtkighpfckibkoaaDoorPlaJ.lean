/-
  place's iterator Run.
-/
import Derived.Test.YtkighpfckibkoaaDoorPlaI
namespace Go.Proofs.YtkighpfckibkoaaDoor
open Go.RowKit Go.Shelf
attribute [local go_sem] Oper.semAt_some

theorem run_place_any (l v many : Int) (w : World) :
    Calls Tryd.prog 28 #[.agg #[.int .i64 l, .int .i64 v], .int .i64 many] w fun e w' => e = .returned (.func (.func 34) #[] #[.pointer (some ⟨w.heap.size + 1, 0, none⟩), .pointer (some ⟨w.heap.size, 0, none⟩)]) ∧ w' = (w.alloc (.cells #[.int .i64 l, .int .i64 v] 23)).alloc (.cells #[.int .i64 many] 3) := by
  go_enter Tryd.func28, Tryd.ntmps28
  go_wp2
  go_ret
  exact ⟨rfl, rfl⟩
/-- The places of a run. -/
def runP (l v many : Int) : List (Int × Int) := (places l v).take many.toNat
theorem prefix_take {pre L : List (Int × Int)} {n : Nat} (h : pre <+: L) (hl : pre.length ≤ n) : pre <+: L.take n := by
  obtain ⟨r, rfl⟩ := h
  rw [List.take_append, List.take_of_length_le hl]
  exact List.prefix_append _ _
theorem prefix_eq_take {pre L : List (Int × Int)} (h : pre <+: L) : pre = L.take pre.length := by
  obtain ⟨r, rfl⟩ := h
  simp
/-- Where the rounds are left. -/
def RunX (J Jx : List (Int × Int) → (Nat → Prop) → World → Prop) (s : Nat) (many : Int) (cd : Code) (pre : List (Int × Int)) (q : Nat → Prop) (W' : World) : Prop :=
  cd = .exit 0 ∧ ((Jx pre (fun k => q k ∨ k = s ∨ k = s + 1) W' ∧ pre.length ≤ many.toNat) ∨ (∃ p0 x, pre = p0 ++ [x] ∧ J p0 (fun k => q k ∨ k = s ∨ k = s + 1) W' ∧ p0.length = many.toNat))
theorem abides_more {J : List (Int × Int) → (Nat → Prop) → World → Prop} (h : Abides J) (r : Nat → Prop) : Abides (fun pre q W => J pre (fun k => q k ∨ r k) W) := fun s _q _q' W W' hs ht hq => h s _ _ W W' hs (ht.mono fun _ h => .inl h) fun k hk => hk.elim (fun h => (hq k h).imp .inl id) fun h => .inl (.inr h)
theorem abides_runX {J Jx : List (Int × Int) → (Nat → Prop) → World → Prop} (h : Abides J) (hx : Abides Jx) (s : Nat) (many : Int) (cd : Code) : Abides (RunX J Jx s many cd) := fun pre q q' W W' ⟨h1, h2⟩ ht hq =>
  ⟨h1, h2.imp (fun g => ⟨abides_more hx (fun k => k = s ∨ k = s + 1) pre q q' W W' g.1 ht hq, g.2⟩) (fun ⟨p0, x, e, hj, hl⟩ => ⟨p0, x, e, abides_more h (fun k => k = s ∨ k = s + 1) p0 q q' W W' hj ht hq, hl⟩)⟩
/-- The activation in a round. -/
def RunA (lp Hm H : Nat) (l v many : Int) (s B0 : Nat) (x : Int × Int) (a' : Act) (W : World) : Prop :=
  ∃ Bx, B0 ≤ Bx ∧ Box2 W Bx 23 x.1 x.2 ∧ a' = { tmps := #[.func (.yield lp) #[] #[], .pointer (some ⟨Hm, 0, none⟩), .pointer (some ⟨H, 0, none⟩), .pointer (some ⟨s, 0, none⟩), .pointer (some ⟨s + 1, 0, none⟩), .pointer (some ⟨Bx, 0, none⟩), .int .i64 many, .agg #[.int .i64 l, .int .i64 v], .func (.func 36) #[] #[.pointer (some ⟨s + 1 + 1, 0, none⟩)], .agg #[.int .i64 x.1, .int .i64 x.2], undef, undef, undef, undef, undef, undef, undef, undef, undef, undef], defers := [] }
set_option maxRecDepth 100000 in
set_option maxHeartbeats 4000000 in
theorem run_seq (n : Nat) (hn : 6 ≤ n) (Hm H : Nat) (l v many : Int) (hm1 : -9223372036854775808 ≤ many) (hm2 : many ≤ 9223372036854775807) (w : World) (ht : Ends w) (hH : Box2 w H 23 l v) (hM : Boxed w Hm 3 (.int .i64 many)) :
    SeqF (fun k => k = 0) n Tryd.prog 34 #[.pointer (some ⟨Hm, 0, none⟩), .pointer (some ⟨H, 0, none⟩)] encP (fun ys => ys = runP l v many) (fun pre => pre <+: runP l v many) w := fun lp J Jx W hW hJ hJx hY h0 => by
  have hHW := hH.below hW hH.lt
  have hMW : Boxed W Hm 3 (.int .i64 many) := (hW.block _ hM.lt).trans hM
  have c0 := hHW.cell0
  have c1 := hHW.cell1
  have c2 := hMW.cell
  have hlH := hHW.lt
  have hlM := hMW.lt
  have hzW : 0 < W.heap.size := Nat.lt_of_lt_of_le ht.room hW.size
  have HT := Lib.hid (ht.below hW ht.room)
  have HY := Lib.hid hY
  have HJ := Lib.hid hJ
  have HJX := Lib.hid hJx
  clear hY hJ hJx ht hH hM hMW hHW
  refine callsIn_of_wp_marks Tryd.func34 rfl trivial ?_ rfl
  simp only [Tryd.ntmps34, List.size_toArray, List.length_cons, List.length_nil, Nat.reduceAdd, Nat.reduceSub, Array.replicate_succ, Array.replicate_zero, List.push_toArray, List.append_toArray, List.nil_append, List.cons_append]
  gi_wp2_with fail
  refine wpIn_scope_straight ?_
  gi_wp2_with fail
  refine wpIn_label ?_
  gi_wp2_with fail
  refine ⟨trivial, fun _ => by omega, ?_⟩
  refine (callsIn_wide.2 (onward_any l v _)).mono ?_
  rintro e w1 ⟨rfl, rfl⟩
  gi_wp2_with fail
  have jY := ((Boxed.new W 29 (.func (.yield lp) #[] #[])).alloc (.cells #[.int .i64 many] 3)).alloc (.cells #[.int .i64 l, .int .i64 v] 23)
  have jL := (Boxed.new (W.alloc (.cells #[.func (.yield lp) #[] #[]] 29)) 3 (.int .i64 many)).alloc (.cells #[.int .i64 l, .int .i64 v] 23)
  have jP := Box2.new ((W.alloc (.cells #[.func (.yield lp) #[] #[]] 29)).alloc (.cells #[.int .i64 many] 3)) 23 l v
  have b0 : Below W.heap.size W (((W.alloc (.cells #[.func (.yield lp) #[] #[]] 29)).alloc (.cells #[.int .i64 many] 3)).alloc (.cells #[.int .i64 l, .int .i64 v] 23)) := (by repeat (first | exact Below.refl _ _ | assumption | refine Below.drew ?_ | refine below_drewN ?_ _ | refine Below.alloc ?_ (by (try simp) <;> omega) _ | refine Below.setCell ?_ (by (try simp) <;> omega) _ | refine Below.trans ?_ (Below.mono (by assumption) (by (try simp) <;> omega))))
  have HSZ := Lib.hid (show (((W.alloc (.cells #[.func (.yield lp) #[] #[]] 29)).alloc (.cells #[.int .i64 many] 3)).alloc (.cells #[.int .i64 l, .int .i64 v] 23)).heap.size = W.heap.size + 3 by simp)
  simp only [World.size_alloc] at jL jP
  generalize (((W.alloc (.cells #[.func (.yield lp) #[] #[]] 29)).alloc (.cells #[.int .i64 many] 3)).alloc (.cells #[.int .i64 l, .int .i64 v] 23)) = W0 at *
  have jJ := HJ.out [] _ (fun k => False ∨ k = W.heap.size ∨ k = W.heap.size + 1) W W0 h0 (Turn.of_below b0 (Nat.le_refl _)) (fun k h => .inr (by rcases h with h | h | h <;> first | exact h.elim | omega))
  have hsq := onward_seq (n - 1) (by omega) (W.heap.size + 1 + 1) l v W0 (HT.out.below b0 hzW) jP
  clear c0 c1 c2
  refine wpIn_range_F (n := n) (by omega) (gf := 36) (lb := #[.pointer (some ⟨W.heap.size + 1 + 1, 0, none⟩)]) rfl (enters_of Tryd.func36 (by kernel_rfl) rfl) hsq (fun k hk => by have := HSZ.out; subst hk; omega) (Below.refl _ _) (fun _ => rfl)
    (fun pre q W' => J pre (fun k => q k ∨ k = W.heap.size ∨ k = W.heap.size + 1) W' ∧ BoxF W.heap.size 29 (.func (.yield lp) #[] #[]) q W' ∧ BoxF (W.heap.size + 1) 3 (.int .i64 (many - (pre.length : Nat))) q W' ∧ pre.length ≤ many.toNat ∧ W.heap.size ≤ W'.heap.size)
    (RunX J Jx W.heap.size many)
    (Abides.and (abides_more HJ.out _) (Abides.and (Abides.box _ _ (fun _ => .func (.yield lp) #[] #[])) (Abides.and (Abides.box _ _ (fun pre : List (Int × Int) => .int .i64 (many - (pre.length : Nat)))) (Abides.and (Abides.pure (fun pre : List (Int × Int) => pre.length ≤ many.toNat)) (Abides.size _)))))
    (abides_runX HJ.out HJX.out _ _)
    ⟨jJ, ⟨jY, id⟩, ⟨by simpa using jL, id⟩, Nat.zero_le _, b0.size⟩
    (RunA lp Hm H l v many W.heap.size (W0.heap.size + 2))
    (fun x a' W1 o ⟨Bx, h1, h2, h3⟩ => ⟨Bx, h1, h2.put _ _ (by omega), h3⟩)
    ?assign ?body ?done ?stop
  case assign =>
    rintro l2 ⟨x, y⟩ W2 K hsz hK
    unfold encP
    dsimp only
    gi_wp2
    refine hK _ _ ⟨W2.heap.size, hsz, Box2.new W2 23 x y, rfl⟩ ((Below.refl _ _).alloc (Nat.le_refl _) _)
  case body =>
    rintro l2 pre ⟨x, y⟩ a' q W2 ⟨iJ, ⟨iY, iYq⟩, ⟨iL, iLq⟩, iN, iW⟩ hs2 hqb hsp ⟨Bx, hBx, bX, rfl⟩
    dsimp only at bX
    have cY := iY.cell
    have cL := iL.cell
    have x0 := bX.cell0
    have x1 := bX.cell1
    by_cases hlt : many - (pre.length : Nat) < 1
    · have HX : Hid (RunX J Jx W.heap.size many (.exit 0) (pre ++ [(x, y)]) q W2) := show _ from ⟨rfl, .inr ⟨pre, (x, y), rfl, iJ, by omega⟩⟩
      gi_wp2_with fail
      refine ⟨fun _ h => (by cases h), ?_⟩
      gi_wp2_with fail
      exact ⟨Keeps.refl _ _, HX.out⟩
    · have hlen : pre.length < many.toNat := by omega
      have HPL := Lib.hid (show (pre ++ [(x, y)]).length = pre.length + 1 by simp)
      have hlL := iL.lt
      have hlY := iY.lt
      have HQB := Lib.hid hqb
      obtain ⟨fn, tmps, assign, body, hy, hR⟩ := HY.out pre (x, y) _ W2 iJ iW (fun k h => by have := HSZ.out; rcases h with h | h | h <;> first | (have := hqb k h; omega) | omega) (prefix_take hsp (by rw [HPL.out]; omega))
      have HR := Lib.hid hR; clear hR hqb
      unfold encP at hy
      dsimp only at hy
      gi_wp2_with fail
      refine ⟨fun _ => by omega, ?_⟩
      refine (round_in HR.out).mono ?_
      have HEQ := Lib.hid (show many - ((pre ++ [(x, y)]).length : Nat) = many - (pre.length : Nat) - 1 by rw [HPL.out]; omega)
      rintro e W4 ⟨hk4, ⟨rfl, hJ4⟩ | ⟨rfl, hX4⟩⟩
      · have iL4 := keeps_box iL hk4 (.inr (.inr (.inr rfl)))
        have iY4 := keeps_box iY hk4 (.inr (.inr (.inl rfl)))
        clear hy cL cY x0 x1 hlL hlY
        have cL := iL4.cell
        have fL := iL4.frozen
        have zL := iL4.lt
        have iW4 := Nat.le_trans iW hk4.1
        gi_wp2_with fail
        have t5 : Turn (fun k => q k ∨ k = W.heap.size ∨ k = W.heap.size + 1) W4 (W4.setCell ⟨W.heap.size + 1, 0, none⟩ (.int .i64 (many - (pre.length : Nat) - 1))) := Turn.setCell _ _ (.inr (.inr rfl))
        refine ⟨?_, HJ.out _ _ _ _ _ hJ4 t5 (fun k h => .inl h), ⟨iY4.other (by omega) _, iYq⟩, ⟨?_, iLq⟩, ?_, Nat.le_trans iW4 t5.size⟩
        · exact (hk4.weaken fun k h => h.imp id .inl).trans (Keeps.set W4 (b := W.heap.size + 1) (o := 0) _ (by have := HSZ.out; rintro (h | h) <;> first | omega | exact iLq h))
        · rw [HEQ.out]; exact iL4.set _
        · rw [HPL.out]; omega
      · clear hy cL cY x0 x1
        have HX : Hid (RunX J Jx W.heap.size many (.exit 0) (pre ++ [(x, y)]) q W4) := show _ from ⟨rfl, .inl ⟨hX4, by rw [HPL.out]; omega⟩⟩
        gi_wp2_with fail
        exact ⟨hk4.weaken fun k h => h.imp id .inl, HX.out⟩
  case done =>
    rintro D ys W2 hD rfl ⟨iJ, iY, iL, iN, iW⟩ hK'
    refine leaves_one hK' fun W' ht hc => ⟨_, results_none rfl _ _ _, ⟨_, rfl⟩, .inl ⟨_, (List.take_of_length_le iN).symm, ?_⟩⟩
    exact HJ.out _ _ _ _ _ iJ (ht.mono fun k h => .inl h) (fun k h => h.elim)
  case stop =>
    rintro D cd pre W2 hD hpre ⟨rfl, hX⟩ hK'
    gi_wp2
    refine leaves_one hK' fun W' ht hc => ⟨_, results_none rfl _ _ _, ⟨_, rfl⟩, ?_⟩
    rcases hX with ⟨hj, hl⟩ | ⟨p0, x, rfl, hj, hl⟩
    · exact .inr ⟨pre, prefix_take hpre hl, HJX.out _ _ _ _ _ hj (ht.mono fun k h => .inl h) (fun k h => h.elim)⟩
    · refine .inl ⟨p0, ?_, HJ.out _ _ _ _ _ hj (ht.mono fun k h => .inl h) (fun k h => h.elim)⟩
      have := prefix_eq_take ((List.prefix_append p0 [x]).trans hpre)
      rw [hl] at this
      exact this
end Go.Proofs.YtkighpfckibkoaaDoor
