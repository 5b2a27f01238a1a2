/-
  Texts PthM to LaO, as one.
-/
import Derived.Test.YtohdgjmmekgcmaaDoorMp6
import Derived.Laws.EntriesVeiled
import Derived.RangeFuncCalls
import Derived.Test.YtohdgjmmekgcmaaDoorRows
import Derived.WalkKit
import Derived.ProofKit
import Derived.OpenShut
import Derived.Below
import Derived.Carry
import Derived.Deep.DeepHandedRow
import Derived.Deep.DeepWitnessRowRef
import Derived.Lib.LaidTab
import Derived.LaidSub
import Derived.Lay
import Derived.SizedLaws
import Derived.ChangeSlices
import Derived.ChangeMaps5
import Derived.Deep.Strs
import Derived.Lib.SmallJoins
/-
  path: the iterator Prefixes.
-/
namespace Go.Proofs.YtohdgjmmekgcmaaDoor
open Go.RowKit Go.Shelf Go.Sort
attribute [local go_sem] Oper.semAt_some

theorem paPrefixes_any (s : List UInt8) (w : World) :
    Calls Tryd.prog 38 #[encStr s] w fun e w' => e = .returned (.func (.func 76) #[] #[.pointer (some ⟨w.heap.size, 0, none⟩)]) ∧ w' = w.alloc (.cells #[encStr s] 9) := by
  go_enter Tryd.func38, Tryd.ntmps38
  go_wp2
  go_ret
  exact ⟨rfl, rfl⟩
/-- What Prefixes hands out. -/
def encX (l : List (List UInt8)) (k : Nat) : Array Value := #[.int .i64 (k : Nat), encStr (pathOf (l.take k))]
/-- A row of texts that is no part of q. -/
def RowQ (B : Nat) (v : Value) (l : List (List UInt8)) (q : Nat → Prop) (W : World) : Prop := OwnT W B v l ∧ ∀ g, v.ownBlock = some g → ¬ q g
theorem abides_rowQ {β : Type} (B : Nat) (v : Value) (l : List (List UInt8)) : Abides (fun (_ : β) q W => RowQ B v l q W) := fun _ _ _ W _ hs ht hq =>
  ⟨own_keptG hs.1 fun g e hl => ht.block g hl (hs.2 g e), fun g e h => (hq g h).elim (hs.2 g e) fun h2 => by have := (hs.1.lt g e).2; omega⟩
theorem abides_wide7 {β : Type} {J : β → (Nat → Prop) → World → Prop} (h : Abides J) (r : Nat → Prop) : Abides (fun pre q W => J pre (fun k => q k ∨ r k) W) := fun s _q _q' W W' hs ht hq => h s _ _ W W' hs (ht.mono fun _ h => .inl h) fun k hk => hk.elim (fun h => (hq k h).imp .inl id) fun h => .inl (.inr h)
/-- The activation in a round. -/
def PreA (lp Hp B2 B3 : Nat) (s : List UInt8) (sl cl : Value) (no : Int) (a : Option Addr) (k : Nat) (a' : Act) (_W : World) : Prop :=
  a' = { tmps := #[.func (.yield lp) #[] #[], .pointer (some ⟨Hp, 0, none⟩), .pointer (some ⟨B2, 0, none⟩), .pointer (some ⟨B3, 0, none⟩), .int .i64 no, .int .i64 (k : Nat), .slice a k k, .tuple #[ldV sl, .int .i64 no], encStr s, .tuple #[ldV sl, .int .i64 no], ldV sl, .int .i64 no, .pointer (some ⟨B3, 0, none⟩), sl, cl, .int .i64 (k : Nat), .slice a k k, undef, undef, undef, undef, undef, undef], defers := [] }
theorem take_right {l : List (List UInt8)} (h : l.all rightN = true) (k : Nat) : (l.take k).all rightN = true := by
  rw [← List.take_append_drop k l, List.all_append, Bool.and_eq_true] at h
  exact h.1
set_option maxRecDepth 100000 in
set_option maxHeartbeats 8000000 in
theorem pre_seq (n : Nat) (hn : 9 ≤ n) (H : Nat) (s : List UInt8) (hs : s.length ≤ 1000000) (w : World) (hm : MaxC w) (hH : Boxed w H 9 (encStr s)) :
    SeqF (fun _ => False) n Tryd.prog 76 #[.pointer (some ⟨H, 0, none⟩)] (encX (splitE s).1) (fun ys => ys = upTo (splitE s).1) (fun pre => pre <+: upTo (splitE s).1) w := fun lp J Jx W hW hJ hJx hY h0 => by
  have hHW : Boxed W H 9 (encStr s) := (hW.block _ hH.lt).trans hH
  have c0 := hHW.cell
  have HR := Lib.hid (fun w hm => read_any s hs w hm)
  have HL := Lib.hid (splitE_len s)
  have HA := Lib.hid (splitE_right s)
  obtain ⟨⟨l, no⟩, hx⟩ : ∃ x, splitE s = x := ⟨_, rfl⟩
  rw [hx] at HR HL HA hY
  dsimp only at HR HL HA hY
  rw [hx]
  dsimp only
  have HM := Lib.hid (hm.below hW hm.room)
  have HY := Lib.hid hY
  have HJ := Lib.hid hJ
  have HJX := Lib.hid hJx
  have hlH := hHW.lt
  clear hY hJ hJx hH hHW hm hx
  refine callsIn_of_wp_marks Tryd.func76 rfl trivial ?_ rfl
  simp only [Tryd.ntmps76, List.size_toArray, List.length_cons, List.length_nil, Nat.reduceAdd, Nat.reduceSub, Array.replicate_succ, Array.replicate_zero, List.push_toArray, List.append_toArray, List.nil_append, List.cons_append]
  gi_wp2_with fail
  refine wpIn_scope_straight ?_
  gi_wp2_with fail
  have bA : Below W.heap.size W (W.alloc (.cells #[.func (.yield lp) #[] #[]] 139)) := (Below.refl _ _).alloc (Nat.le_refl _) _
  have jY := Boxed.new W 139 (.func (.yield lp) #[] #[])
  refine ⟨trivial, fun _ => by omega, ?_⟩
  refine (callsIn_wide.2 (HR.out _ (HM.out.below bA HM.out.room))).mono ?_
  rintro e w1 ⟨u, rfl, hu, hb⟩
  obtain ⟨ua, uc, rfl⟩ := hu.txs.slice
  have hz1 := hb.size
  rw [World.size_alloc] at hz1
  have jY1 : Boxed w1 W.heap.size 139 (.func (.yield lp) #[] #[]) := (hb.block _ (by simp)).trans jY
  have b1 : Below W.heap.size W w1 := bA.trans (hb.mono bA.size)
  have bB : Below w1.heap.size w1 (w1.alloc (.cells #[.slice ua l.length uc] 133)) := (Below.refl _ _).alloc (Nat.le_refl _) _
  have HUB := Lib.hid (hu.below bB)
  have HYB := Lib.hid (jY1.alloc (.cells #[.slice ua l.length uc] 133))
  have HBB := Lib.hid (b1.trans (bB.mono b1.size))
  clear c0 bA jY hu hb jY1 b1 bB
  gi_wp2_with fail
  refine wpIn_label ?_
  gi_wp2_with fail
  refine ⟨trivial, fun _ => by omega, ?_⟩
  refine (callsIn_wide.2 (lsBegin_any _ l _ HUB.out.txs)).mono ?_
  rintro e w2 ⟨rfl, rfl⟩
  have bC : Below (w1.alloc (.cells #[.slice ua l.length uc] 133)).heap.size (w1.alloc (.cells #[.slice ua l.length uc] 133)) ((w1.alloc (.cells #[.slice ua l.length uc] 133)).alloc (.cells #[.slice ua l.length uc] 131)) := (Below.refl _ _).alloc (Nat.le_refl _) _
  have jU := HUB.out.below bC
  have jY : Boxed ((w1.alloc (.cells #[.slice ua l.length uc] 133)).alloc (.cells #[.slice ua l.length uc] 131)) W.heap.size 139 (.func (.yield lp) #[] #[]) := HYB.out.alloc (.cells #[.slice ua l.length uc] 131)
  have b0 := HBB.out.trans (bC.mono HBB.out.size)
  have jL := Boxed.new (w1.alloc (.cells #[.slice ua l.length uc] 133)) 131 (.slice ua l.length uc)
  have HSZ := Lib.hid (show ((w1.alloc (.cells #[.slice ua l.length uc] 133)).alloc (.cells #[.slice ua l.length uc] 131)).heap.size = w1.heap.size + 2 by simp)
  rw [World.size_alloc] at jL
  clear HUB HYB HBB bC
  gi_wp2_with fail
  generalize ((w1.alloc (.cells #[.slice ua l.length uc] 133)).alloc (.cells #[.slice ua l.length uc] 131)) = W0 at *
  have hlb := HL.out
  have HGB := Lib.hid (fun g e => jU.lt g e)
  rw [World.size_alloc] at HGB
  have jJ := HJ.out [] _ (fun k => False ∨ (W.heap.size ≤ k ∧ k < W0.heap.size)) W W0 h0 (Turn.of_below b0 (Nat.le_refl _)) (fun k h => .inr (by rcases h with h | h <;> first | exact h.elim | exact h.1))
  have hsq := beg_seq (n - 1) (by omega) (w1.heap.size + 1) ua uc l (by omega) W0 jL jU.txs (fun k => W.heap.size ≤ k ∧ k < W0.heap.size) ⟨by omega, by rw [HSZ.out]; omega⟩
  refine wpIn_range_F (n := n) (by omega) (gf := 101) (lb := #[.pointer (some ⟨w1.heap.size + 1, 0, none⟩)]) rfl (enters_of Tryd.func101 (by kernel_rfl) rfl) hsq (fun k hk => hk.2) (Below.refl _ _) (fun _ => rfl)
    (fun pre q W' => J pre (fun k => q k ∨ (W.heap.size ≤ k ∧ k < W0.heap.size)) W' ∧ BoxF W.heap.size 139 (.func (.yield lp) #[] #[]) q W' ∧ RowQ (W.alloc (.cells #[.func (.yield lp) #[] #[]] 139)).heap.size (.slice ua l.length uc) l q W' ∧ W0.heap.size ≤ W'.heap.size)
    (fun cd pre q W' => cd = .exit 0 ∧ Jx pre (fun k => q k ∨ (W.heap.size ≤ k ∧ k < W0.heap.size)) W')
    (Abides.and (abides_wide7 HJ.out _) (Abides.and (Abides.box _ _ (fun _ => .func (.yield lp) #[] #[])) (Abides.and (abides_rowQ _ _ _) (Abides.size _))))
    (fun cd pre q q' A C h ht hq => ⟨h.1, abides_wide7 HJX.out (fun k => W.heap.size ≤ k ∧ k < W0.heap.size) pre q q' A C h.2 ht hq⟩)
    ⟨jJ, ⟨jY, id⟩, ⟨jU, fun _ _ => id⟩, Nat.le_refl _⟩
    (PreA lp H W.heap.size w1.heap.size s (.slice ua l.length uc) (.func (.func 101) #[] #[.pointer (some ⟨w1.heap.size + 1, 0, none⟩)]) no ua)
    (fun x a' W1 o h => h)
    ?assign ?body ?done ?stop
  case assign =>
    rintro l2 k W2 K hsz hK
    unfold encK
    gi_wp2
    refine hK _ _ rfl (Below.refl _ _)
  case body =>
    rintro l2 pre k a' q W2 ⟨iJ, ⟨iY, iYq⟩, ⟨iU, iUq⟩, iW⟩ hs2 hqb hsp rfl
    have hkl : k ≤ l.length := by
      obtain ⟨r, hr⟩ := hsp
      have hm : k ∈ upTo l := by rw [← hr]; simp
      unfold upTo at hm
      split at hm
      · cases hm
      · have := List.mem_range.1 hm; omega
    have HT := Lib.hid (fun w hv => lsTold_any (.slice ua k k) (l.take k) (take_right HA.out k) (by rw [List.length_take]; omega) w hv)
    have hz0 := HSZ.out
    have hlY := iY.lt
    have hd2 : Below W2.heap.size W2 W2.drew := Below.drew (Below.refl _ _)
    have HIU := Lib.hid (iU.txs.cut hkl)
    have HIY := Lib.hid iY
    have HIJ := Lib.hid iJ
    have HRU := Lib.hid iU
    have HQB := Lib.hid hqb
    have HSP := Lib.hid hsp
    clear iJ iU hsp
    gi_wp2_with fail
    refine wpIn_region_N 5 (fun Z : World => Z.cell? ⟨W.heap.size, 0, none⟩ = some (.func (.yield lp) #[] #[])) (by kernel_rfl) ?_
    have hR : (fun Z : World => Z.cell? ⟨W.heap.size, 0, none⟩ = some (.func (.yield lp) #[] #[])) W2.drew := HIY.out.cell
    clear iY
    (refine wpAnyN_take2 8 (i := 0) (v := ?_) (noDefers_of (by kernel_rfl)) rfl (by kernel_rfl) (by kernel_rfl) (fun _ _ _ h => by first | exact h | cases h.1) (fun _ => by first | rfl | simp [Oper.about]) (Or.inl ⟨by rfl, ?_⟩) hR ?_; rotate_left; (focus (intro w hSw; (try dsimp only at hSw); go_simp; (try with_reducible rfl))); (try simp only [put_laws])); (refine wpAnyN_take2 8 (i := 1) (v := ?_) (noDefers_of (by kernel_rfl)) rfl (by kernel_rfl) (by kernel_rfl) (fun _ _ _ h => by first | exact h | cases h.1) (fun _ => by first | rfl | simp [Oper.about]) (Or.inl ⟨by rfl, ?_⟩) hR ?_; rotate_left; (focus (intro w hSw; (try dsimp only at hSw); go_simp; (try with_reducible rfl))); (try simp only [put_laws])); (refine wpAnyN_take2 8 (i := 2) (v := ?_) (noDefers_of (by kernel_rfl)) rfl (by kernel_rfl) (by kernel_rfl) (fun _ _ _ h => by first | exact h | cases h.1) (fun _ => by first | rfl | simp [Oper.about]) (Or.inl ⟨by rfl, ?_⟩) hR ?_; rotate_left; (focus (intro w hSw; (try dsimp only at hSw); go_simp; (try with_reducible rfl))); (try simp only [put_laws]))
    (refine wpAnyN_one (i := 3) rfl (by kernel_rfl) (by rfl) (fun K hK => ?_); (try simp only [elem_laws]))
    go_simp
    refine ⟨trivial, fun _ => by omega, ?_⟩
    refine (CallsIn.inRound l2 (callsIn_wide.2 (HT.out _ (HIU.out.below hd2)))).mono ?_
    rintro e w3 ⟨rfl, hb3⟩
    have b3 : Below W2.heap.size W2 w3 := hd2.trans hb3
    have hY3 : Boxed w3 W.heap.size 139 (.func (.yield lp) #[] #[]) := (b3.block _ hlY).trans HIY.out
    have hU3 := own_keptG HRU.out (W' := w3) fun g _ hg => b3.block g hg
    refine hK _ _ (fun _ => hY3.cell) ?_
    clear hK K hR
    have hR : (fun Z : World => Z.cell? ⟨W.heap.size, 0, none⟩ = some (.func (.yield lp) #[] #[])) w3 := hY3.cell
    have hJ3 := abides_wide7 HJ.out (fun k => W.heap.size ≤ k ∧ k < W0.heap.size) _ _ _ _ _ HIJ.out (Turn.of_below b3 (Nat.le_refl _)) (fun k h => .inl h)
    have hz3 := b3.size
    obtain ⟨fn, tmps, assign, body, hy, hRn⟩ := HY.out pre k _ w3 hJ3 (by omega) (fun j h => by
      rcases h with h | h
      · have := HQB.out j h; omega
      · omega) HSP.out
    have HRN := Lib.hid hRn
    have HB3 := Lib.hid b3
    have HY3 := Lib.hid hY3
    have HU3 := Lib.hid hU3
    unfold encX at hy
    clear hRn hJ3 b3 hY3 hU3 hb3
    (try simp only [put_laws])
    (refine wpAnyN_one (i := 4) rfl (by kernel_rfl) (by rfl) (fun K hK => ?_); (try simp only [elem_laws]))
    go_simp
    refine ⟨fun _ => by omega, ?_⟩
    refine (round_in HRN.out).mono ?_
    have fin : ∀ W4, Keeps (fun k => False ∨ (q k ∨ (W.heap.size ≤ k ∧ k < W0.heap.size))) w3 W4 → Keeps (fun k => (W.heap.size ≤ k ∧ k < W0.heap.size) ∨ q k) W2 W4 ∧ BoxF W.heap.size 139 (.func (.yield lp) #[] #[]) q W4 ∧ RowQ (W.alloc (.cells #[.func (.yield lp) #[] #[]] 139)).heap.size (.slice ua l.length uc) l q W4 ∧ W0.heap.size ≤ W4.heap.size := fun W4 h4 => by
      refine ⟨Keeps.trans ⟨HB3.out.size, fun j _ hl => HB3.out.block j hl⟩ (h4.weaken fun j h => .inr (h.symm.imp id id)), ⟨(h4.2 _ (.inr (.inr (by omega))) HY3.out.lt).trans HY3.out, iYq⟩, ⟨own_keptG HU3.out fun g e hg => h4.2 g (.inr (.inr ?_)) hg, iUq⟩, Nat.le_trans (by omega) h4.1⟩
      have := HGB.out g e
      omega
    have HFIN := Lib.hid fin
    clear fin
    rintro e W4 ⟨hk4, ⟨rfl, hJ4⟩ | ⟨rfl, hX4⟩⟩
    · obtain ⟨f1, f2, f3, f4⟩ := HFIN.out W4 hk4
      have HF1 := Lib.hid f1
      have HF3 := Lib.hid f3
      have HJ4 := Lib.hid hJ4
      refine hK _ _ (fun _ => f2.1.cell) ?_
      have HF2 := Lib.hid f2
      clear hK K hR hy f1 f2 f3 hk4 hJ4
      (try simp only [put_laws])
      (refine wpAnyN_last rfl (by kernel_rfl) (by rfl) (fun K hK => ?_); (try simp only [elem_laws]))
      go_simp
      refine hK _ _ ?_
      clear hK K
      (try simp only [put_laws])
      refine wpAnyN_done (by kernel_rfl) ?_ _
      gi_wp2_with fail
      exact ⟨HF1.out, HJ4.out, HF2.out, HF3.out, f4⟩
    · obtain ⟨f1, f2, -, -⟩ := HFIN.out W4 hk4
      have HF1 := Lib.hid f1
      have HX4 := Lib.hid hX4
      refine hK _ _ (fun _ => f2.1.cell) ?_
      clear hK K hR hy f1 f2 hk4 hX4
      (try simp only [put_laws])
      (refine wpAnyN_last rfl (by kernel_rfl) (by rfl) (fun K hK => ?_); (try simp only [elem_laws]))
      go_simp
      refine hK _ _ ?_
      clear hK K
      (try simp only [put_laws])
      refine wpAnyN_done (by kernel_rfl) ?_ _
      gi_wp2_with fail
      exact ⟨HF1.out, rfl, HX4.out⟩
  case done =>
    rintro D ys W2 hD rfl ⟨iJ, iY, iU, iW⟩ hK'
    refine leaves_one hK' fun W' ht hc => ⟨_, results_none rfl _ _ _, ⟨_, rfl⟩, .inl ⟨_, rfl, ?_⟩⟩
    exact HJ.out _ _ _ _ _ iJ (ht.mono fun k h => .inl h) (fun k h => h.elim)
  case stop =>
    rintro D cd pre W2 hD hpre ⟨rfl, hX⟩ hK'
    gi_wp2
    refine leaves_one hK' fun W' ht hc => ⟨_, results_none rfl _ _ _, ⟨_, rfl⟩, ?_⟩
    exact .inr ⟨pre, hpre, HJX.out _ _ _ _ _ hX (ht.mono fun k h => .inl h) (fun k h => h.elim)⟩
end Go.Proofs.YtohdgjmmekgcmaaDoor

/-
  path: the document's Parent and Within; fails.
-/
namespace Go.Proofs.YtohdgjmmekgcmaaDoor
open Go.RowKit Go.Shelf Go.Sort

set_option maxRecDepth 100000 in
set_option maxHeartbeats 4000000 in
theorem fails7_any (s : List UInt8) (hs : s.length ≤ 1000000) (n : Int) (w : World) (hm : MaxC w) :
    Calls Tryd.prog 68 #[encStr s, .int .i64 n] w fun e w' => e = .returned (.bool ((splitE s).2 == n)) ∧ Below w.heap.size w w' := by
  have HR := Lib.hid (paSplit_any s hs w hm)
  obtain ⟨no, hno⟩ : ∃ no, (splitE s).2 = no := ⟨_, rfl⟩
  rw [hno] at HR ⊢
  clear hm hno
  go_enter Tryd.func68, Tryd.ntmps68
  go_wp2_with fail
  refine HR.out.mono ?_
  rintro e w1 ⟨u, rfl, hu, hb⟩
  obtain ⟨ua, uc, rfl⟩ := hu.txs.slice
  clear hu
  go_wp2_with (go_at_call 36; refine (num7_any _ _).mono ?_; rintro e w2 ⟨rfl, rfl⟩)
  go_ret
  exact ⟨rfl, hb⟩
set_option maxRecDepth 100000 in
set_option maxHeartbeats 4000000 in
theorem refParent_any (s : List UInt8) (hs : s.length ≤ 1000) (w : World) :
    Calls Tryd.prog 34 #[encStr s] w fun e w' => e = .returned (.tuple #[encStr (parentE s).1, encStr (parentE s).2.1, .int .i64 (parentE s).2.2]) ∧ Below w.heap.size w w' := by
  have HR := Lib.hid (refSplit_any s hs w)
  have HL := Lib.hid (splitE_len s)
  have HA := Lib.hid (splitE_right s)
  have HP : Hid (parentE s = if (splitE s).2 ≠ 0 then ([], [], (splitE s).2) else if (splitE s).1 = [] then ([], [], 5) else (pathOf ((splitE s).1.take ((splitE s).1.length - 1)), (splitE s).1[(splitE s).1.length - 1]?.getD [], 0)) := show _ = _ from rfl
  obtain ⟨⟨l, no⟩, hx⟩ : ∃ x, splitE s = x := ⟨_, rfl⟩
  rw [hx] at HR HL HA HP
  dsimp only at HR HL HA HP
  clear hx
  obtain ⟨i0, hi, hz0, hz1, hz2⟩ := info_parts infoStr
  have HI := Lib.hid hi
  clear hi
  go_enter Tryd.func34, Tryd.ntmps34
  go_wp2_with fail
  refine HR.out.mono ?_
  rintro e w1 ⟨u, rfl, hu, hb⟩
  have HU := Lib.hid hu
  have HB := Lib.hid hb
  obtain ⟨ua, uc, rfl⟩ := hu.txs.slice
  clear hu hb
  by_cases h0 : no = 0
  · subst h0
    by_cases h1 : l = []
    · subst h1
      have HE : Hid (parentE s = ([], [], 5)) := show _ = _ by rw [HP.out]; rfl
      go_wp2_with fail
      refine bodyPost_ret (v := .tuple #[encStr [], encStr [], .int .i64 5]) (by simp [results, Tryd.results34, go_sem]) rfl ?_
      rw [HE.out]
      exact ⟨rfl, HB.out⟩
    · obtain ⟨k, hk⟩ : ∃ k, l.length = k + 1 := ⟨l.length - 1, by have := List.length_pos_iff.2 h1; omega⟩
      have HE : Hid (parentE s = (pathOf (l.take k), l[k]?.getD [], 0)) := show _ = _ by
        rw [HP.out, if_neg (by simp), if_neg h1, hk]
        rfl
      have hkb : k ≤ 15 := by have := HL.out; omega
      have HJ : Hid (joinE (l.take k) = (pathOf (l.take k), 0)) := show _ = _ by
        unfold joinE
        rw [underE_zero' (by rw [List.length_take]; omega) (by
          have := HA.out
          rw [← List.take_append_drop k l, List.all_append, Bool.and_eq_true] at this
          exact this.1), if_pos rfl]
      obtain ⟨q1, hq1, hv1⟩ := cut_toV Tryd.underlying65 HI.out hz1 HU.out.txs k (by omega)
      have HQ : Hid (TxS w1 q1 (l.take k)) := show Vec _ _ _ _ _ by
        have := hv1 w1 HU.out.txs
        rw [List.length_take, Nat.min_eq_left (by omega), List.map_take]
        exact this
      have hcx := HU.out.txs.cell
      obtain ⟨a1, cap1, b1, o1, e1, -, ha1, hc1⟩ := hcx
      simp only [Value.slice.injEq] at e1
      obtain ⟨rfl, -, rfl⟩ := e1
      obtain rfl := ha1 (by omega)
      have c1 := (hc1 (by omega)).2 k (by omega)
      obtain ⟨x, hx⟩ : ∃ x, l[k]?.getD [] = x := ⟨_, rfl⟩
      rw [hx] at c1 HE
      have e2 : ((l.length : Nat) : Int) - 1 = (k : Nat) := by omega
      have hl0 : ((l.length : Int) == 0) = false := by simp [h1]
      have HK := Lib.hid hk
      clear hx hk h1 hc1 ha1 hv1
      go_wp2_with fail
      refine (refJoin_any q1 (l.take k) _ HQ.out).mono ?_
      rintro e w2 ⟨rfl, rfl⟩
      rw [HJ.out]
      go_wp2_with fail
      go_quiet (fail)
      go_wp2_with fail
      refine bodyPost_ret (v := .tuple #[encStr (pathOf (l.take k)), encStr x, .int .i64 0]) (by simp [results, Tryd.results34, go_sem]) rfl ?_
      rw [HE.out]
      exact ⟨rfl, below_drewN HB.out _⟩
  · have HE : Hid (parentE s = ([], [], no)) := show _ = _ by rw [HP.out, if_pos h0]
    have hq : (no == 0) = false := by simp [h0]
    clear h0
    go_wp2_with fail
    refine bodyPost_ret (v := .tuple #[encStr [], encStr [], .int .i64 no]) (by simp [results, Tryd.results34, go_sem]) rfl ?_
    rw [HE.out]
    exact ⟨rfl, HB.out⟩
theorem isIn_take (l o : List (List UInt8)) : isIn l o = (decide (o.length < l.length) && decide (l.take o.length = o)) := by
  unfold isIn beginsE
  by_cases h : o.length < l.length
  · rw [decide_eq_true h, decide_eq_true (Nat.le_of_lt h), Bool.true_and, Bool.true_and, Bool.true_and, Bool.eq_iff_iff]
    simp
  · rw [decide_eq_false h]
    rfl
set_option maxRecDepth 100000 in
set_option maxHeartbeats 4000000 in
theorem refWithin_any (s t : List UInt8) (hs : s.length ≤ 1000) (ht : t.length ≤ 1000) (w : World) :
    Calls Tryd.prog 42 #[encStr s, encStr t] w fun e w' => e = .returned (.tuple #[.bool (withinE s t).1, .int .i64 (withinE s t).2]) ∧ Below w.heap.size w w' := by
  have HR := Lib.hid (refSplit_any s hs w)
  have HR2 := Lib.hid (fun w => refSplit_any t ht w)
  have HL := Lib.hid (splitE_len s)
  have HL2 := Lib.hid (splitE_len t)
  have HP : Hid (withinE s t = if (splitE s).2 ≠ 0 then (false, (splitE s).2) else if (splitE t).2 ≠ 0 then (false, (splitE t).2) else (isIn (splitE s).1 (splitE t).1, 0)) := show _ = _ from rfl
  obtain ⟨⟨l, no⟩, hx⟩ : ∃ x, splitE s = x := ⟨_, rfl⟩
  obtain ⟨⟨o, nt⟩, hy⟩ : ∃ x, splitE t = x := ⟨_, rfl⟩
  rw [hx] at HR HL
  rw [hx, hy] at HP
  rw [hy] at HR2 HL2
  dsimp only at HR HR2 HL HL2 HP
  clear hx hy
  obtain ⟨i0, hi, hz0, hz1, hz2⟩ := info_parts infoStr
  have HI := Lib.hid hi
  clear hi
  go_enter Tryd.func42, Tryd.ntmps42
  go_wp2_with fail
  refine HR.out.mono ?_
  rintro e w1 ⟨v, rfl, hv, hb1⟩
  have HV := Lib.hid hv
  have HB1 := Lib.hid hb1
  obtain ⟨va, vc, rfl⟩ := hv.txs.slice
  clear hv hb1
  by_cases h0 : no = 0
  · subst h0
    go_wp2_with fail
    refine (HR2.out _).mono ?_
    rintro e w2 ⟨u, rfl, hu, hb2⟩
    have HU := Lib.hid hu
    have HV2 := Lib.hid (HV.out.below hb2)
    have HB2 : Hid (Below w.heap.size w w2) := show Below _ _ _ from HB1.out.trans (hb2.mono HB1.out.size)
    obtain ⟨ua, uc, rfl⟩ := hu.txs.slice
    clear hu hb2
    have lb1 := HL.out
    have lb2 := HL2.out
    by_cases h1 : nt = 0
    · subst h1
      have HE : Hid (withinE s t = (isIn l o, 0)) := show _ = _ by rw [HP.out]; rfl
      by_cases hlt : o.length < l.length
      · have hq : ¬ (l.length : Int) ≤ (o.length : Int) := by omega
        have hq2 : ¬ l.length ≤ o.length := by omega
        have HII : Hid (isIn l o = decide (l.take o.length = o)) := show _ = _ by rw [isIn_take, decide_eq_true hlt]; rfl
        obtain ⟨q1, hq1, hv1⟩ := cut_toV Tryd.underlying65 HI.out hz1 HV2.out.txs o.length (by omega)
        have HQ : Hid (TxS w2 q1 (l.take o.length)) := show Vec _ _ _ _ _ by
          have := hv1 w2 HV2.out.txs
          rw [List.length_take, Nat.min_eq_left (by omega), List.map_take]
          exact this
        clear hv1
        go_wp2_with fail
        refine (refTexts_any q1 _ (l.take o.length) o (by rw [List.length_take]; omega) (by omega) _ HQ.out HU.out.txs).mono ?_
        rintro e w3 ⟨rfl, hb3⟩
        go_wp2_with fail
        refine bodyPost_ret (v := .tuple #[.bool (decide (l.take o.length = o)), .int .i64 0]) (by simp [results, Tryd.results42, go_sem]) rfl ?_
        rw [HE.out, HII.out]
        exact ⟨rfl, HB2.out.trans (hb3.mono HB2.out.size)⟩
      · have hq : (l.length : Int) ≤ (o.length : Int) := by omega
        have hq2 : l.length ≤ o.length := by omega
        have HII : Hid (isIn l o = false) := show _ = _ by unfold isIn; rw [decide_eq_false hlt]; rfl
        go_wp2_with fail
        refine bodyPost_ret (v := .tuple #[.bool false, .int .i64 0]) (by simp [results, Tryd.results42, go_sem]) rfl ?_
        rw [HE.out, HII.out]
        exact ⟨rfl, HB2.out⟩
    · have HE : Hid (withinE s t = (false, nt)) := show _ = _ by rw [HP.out, if_neg (by simp), if_pos h1]
      have hq : (nt == 0) = false := by simp [h1]
      clear h1
      go_wp2_with fail
      refine bodyPost_ret (v := .tuple #[.bool false, .int .i64 nt]) (by simp [results, Tryd.results42, go_sem]) rfl ?_
      rw [HE.out]
      exact ⟨rfl, HB2.out⟩
  · have HE : Hid (withinE s t = (false, no)) := show _ = _ by rw [HP.out, if_pos h0]
    have hq : (no == 0) = false := by simp [h0]
    clear h0
    go_wp2_with fail
    refine bodyPost_ret (v := .tuple #[.bool false, .int .i64 no]) (by simp [results, Tryd.results42, go_sem]) rfl ?_
    rw [HE.out]
    exact ⟨rfl, HB1.out⟩
/-- The document's Prefixes. -/
def prefsE (s : List UInt8) : List (List UInt8) := (upTo (splitE s).1).map fun k => pathOf ((splitE s).1.take k)
set_option maxRecDepth 100000 in
set_option maxHeartbeats 4000000 in
theorem refPrefixes_any (s : List UInt8) (hs : s.length ≤ 1000) (w : World) :
    Calls Tryd.prog 37 #[encStr s] w fun e w' => ∃ u, e = .returned u ∧ TxS w' u (prefsE s) ∧ Below w.heap.size w w' := by
  have HR := Lib.hid (refSplit_any s hs w)
  have HL := Lib.hid (splitE_len s)
  have HA := Lib.hid (splitE_right s)
  have HER := Lib.hid (splitE_err s)
  have HP : Hid (prefsE s = (upTo (splitE s).1).map fun k => pathOf ((splitE s).1.take k)) := show _ = _ from rfl
  obtain ⟨⟨l, no⟩, hx⟩ : ∃ x, splitE s = x := ⟨_, rfl⟩
  rw [hx] at HR HL HA HP HER
  dsimp only at HR HL HA HP HER
  clear hx
  obtain ⟨i0, hi, hz0, hz1, hz2⟩ := info_parts infoStr
  have HI := Lib.hid hi
  clear hi
  go_enter Tryd.func37, Tryd.ntmps37
  go_wp2_with fail
  refine HR.out.mono ?_
  rintro e w1 ⟨v, rfl, hv, hb1⟩
  have HV := Lib.hid hv
  have HB1 := Lib.hid hb1
  obtain ⟨va, vc, rfl⟩ := hv.txs.slice
  clear hv hb1
  by_cases h0 : no = 0
  · subst h0
    by_cases h1 : l = []
    · subst h1
      go_wp2_with fail
      go_ret
      exact ⟨_, rfl, by rw [HP.out]; exact (ownT_nil _ 0).txs, HB1.out⟩
    · have hl0 : ((l.length : Int) == 0) = false := by simp [h1]
      have hlb := HL.out
      have HL1 := Lib.hid h1
      clear h1
      go_wp2_with fail
      clear hl0
      go_loopw [5, 6] (fun ov i wr => ∃ k : Nat, k ≤ l.length + 1 ∧ i = .int .i64 (k : Nat) ∧ Hid (OwnT wr w1.heap.size ov (((upTo l).take k).map fun k => pathOf (l.take k))) ∧ Hid (Below w1.heap.size w1 wr)) (fun _ i _ => l.length + 1 - (intOf i).toNat)
      case atStart => exact ⟨0, Nat.zero_le _, rfl, Lib.hid (ownT_nil _ _), Lib.hid (Below.refl _ _)⟩
      case round =>
        obtain ⟨k, hk, rfl, HO, HB⟩ := hrel
        by_cases hlt : k ≤ l.length
        · have hq : (k : Int) ≤ (l.length : Int) := by omega
          have HLL := Lib.hid (HV.out.txs.below HB.out)
          obtain ⟨q1, hq1, hv1⟩ := cut_toV Tryd.underlying65 HI.out hz1 HLL.out k hlt
          have HQ : Hid (TxS wr q1 (l.take k)) := show Vec _ _ _ _ _ by
            have := hv1 wr HLL.out
            rw [List.length_take, Nat.min_eq_left hlt, List.map_take]
            exact this
          have HJ : Hid (joinE (l.take k) = (pathOf (l.take k), 0)) := show _ = _ by
            unfold joinE
            rw [underE_zero' (by rw [List.length_take]; omega) (take_right HA.out k), if_pos rfl]
          have HT := Lib.hid (upTo_take HL1.out k (by omega))
          have hyl : (((upTo l).take k).map fun k => pathOf (l.take k)).length = k := by
            rw [List.length_map, List.length_take]
            unfold upTo
            rw [if_neg HL1.out, List.length_range]
            omega
          have HYS : Hid ((((upTo l).take (k + 1)).map fun k => pathOf (l.take k)) = (((upTo l).take k).map fun k => pathOf (l.take k)) ++ [pathOf (l.take k)]) := show _ = _ by rw [← HT.out, List.map_append]; rfl
          obtain ⟨Y, hY⟩ : ∃ Y, ((upTo l).take k).map (fun k => pathOf (l.take k)) = Y := ⟨_, rfl⟩
          rw [hY] at HO hyl HYS
          obtain ⟨oa, oc, rfl⟩ := HO.out.txs.slice
          obtain ⟨m, hm⟩ : ∃ m, Y.length = m := ⟨_, rfl⟩
          rw [hm] at hyl ⊢
          have HM := Lib.hid hm
          clear hv1 hY hm
          have hyl' := hyl.symm
          clear hyl
          subst hyl'
          go_wp2_with fail
          refine (refJoin_any q1 (l.take k) _ HQ.out).mono ?_
          rintro e w2 ⟨rfl, rfl⟩
          rw [HJ.out]
          obtain ⟨x, hx⟩ : ∃ x, pathOf (l.take k) = x := ⟨_, rfl⟩
          rw [hx] at HYS ⊢
          clear hx
          have b2 : Below wr.heap.size wr (wr.alloc (.cells #[encStr x] 9)) := (Below.refl _ _).alloc (Nat.le_refl _) _
          have HO2 : Hid ((wr.alloc (.cells #[encStr x] 9)).ownsRow w1.heap.size 9 1 (.slice oa k oc) k (Y.map encStr)) := show World.ownsRow _ _ _ _ _ _ _ by
            have h := HO.out.below b2
            have hm := HM.out
            unfold OwnT at h
            rw [hm] at h
            exact h
          have HV2 := Lib.hid (vec_newL wr #[encStr x] 9 1 1 rfl)
          have HB2 : Hid (Below w1.heap.size w1 (wr.alloc (.cells #[encStr x] 9))) := show Below _ _ _ from HB.out.trans (b2.mono HB.out.size)
          have hs2 := HB2.out.size
          clear b2
          go_wp2_with (at_builtin; refine park ?_)
          unfold Park
          refine wpList_append_vec rfl _ _ 65 rfl 9 i0 _ 1 16 Tryd.underlying65 HI.out hz0 hz1 hz2 rfl (by decide) w1.heap.size _ _ k 1 _ _ rfl rfl (.inr HO2.out) HV2.out (one_strs [x]) (by omega) (by omega) hs2 ?_
          rintro v3 w3 g3 b3 ⟨-, -, g6⟩
          have HO3 : Hid (OwnT w3 w1.heap.size v3 (Y ++ [x])) := show World.ownsRow _ _ _ _ _ _ _ by
            have := g6 HO2.out
            rw [List.length_append, List.map_append, HM.out]
            exact this
          have HB3 : Hid (Below w1.heap.size w1 w3) := show Below _ _ _ from HB2.out.trans b3
          clear g3 b3 g6 hs2
          go_wp2_with fail
          go_roundw
          case rel => exact ⟨k + 1, by omega, by go_num, by rw [HYS.out]; exact HO3, HB3⟩
          case measure => simp [intOf]; omega
        · have hq : ¬ (k : Int) ≤ (l.length : Int) := by omega
          obtain rfl : k = l.length + 1 := by omega
          obtain ⟨oa, oc, rfl⟩ := HO.out.txs.slice
          rw [upTo_all HL1.out] at HO ⊢
          obtain ⟨Y, hY⟩ : ∃ Y, (upTo l).map (fun k => pathOf (l.take k)) = Y := ⟨_, rfl⟩
          rw [hY] at HO HP ⊢
          clear hY
          go_wp2_with fail
          go_ret
          exact ⟨_, rfl, by rw [HP.out]; exact HO.out.txs, HB1.out.trans (HB.out.mono HB1.out.size)⟩
  · have hq : (no == 0) = false := by simp [h0]
    have HLN : Hid (l = []) := show _ = _ from HER.out h0
    clear h0
    go_wp2_with fail
    go_ret
    exact ⟨_, rfl, by rw [HP.out, HLN.out]; exact (ownT_nil _ 0).txs, HB1.out⟩
end Go.Proofs.YtohdgjmmekgcmaaDoor

/-
  path: the chapter's rows (written by gen_pthq.py).
-/
namespace Go.Proofs.YtohdgjmmekgcmaaDoor
open Go.RowKit Go.Shelf Go.Sort
attribute [local go_sem] Oper.semAt_some

def exN : List (List UInt8) := [[97], [98]]
theorem ex_ab : splitE [47, 97, 47, 98] = (exN, 0) := by decide +kernel
theorem ex_r : splitE [47] = ([], 0) := rfl
theorem ex_pab : parentE [47, 97, 47, 98] = ([47, 97], [98], 0) := by decide +kernel
theorem ex_pr : parentE [47] = ([], [], 5) := by decide +kernel
theorem ex_w1 : withinE [47, 97, 47, 98] [47, 97] = (true, 0) := by decide +kernel
theorem ex_w2 : withinE [47, 97] [47, 97] = (false, 0) := by decide +kernel
/-- n, behind so many beginnings. -/
def nVal7 : Nat → Int
  | 0 => 0
  | 1 => 1
  | 2 => 13
  | _ => 136
theorem tIntNe : (3 : Nat) ≠ 9 := by decide
/-- In the rounds of works. -/
def WkP (w : World) (nb : Nat) (v : Value) (pre : List Nat) (q : Nat → Prop) (W : World) : Prop :=
  BoxF nb 3 (.int .i64 (nVal7 pre.length)) q W ∧ RowQ w.heap.size v exN q W ∧ BelowF w.heap.size w q W
theorem abides_wkp (w : World) (nb : Nat) (v : Value) : Abides (WkP w nb v) := Abides.and (Abides.box _ _ (fun pre : List Nat => .int .i64 (nVal7 pre.length))) (Abides.and (abides_rowQ _ _ _) (Abides.below _ _))
theorem three_of_prefix {pre : List Nat} {k : Nat} (h : pre ++ [k] <+: [0, 1, 2]) : (pre = [] ∧ k = 0) ∨ (pre = [0] ∧ k = 1) ∨ (pre = [0, 1] ∧ k = 2) := by
  obtain ⟨r, hr⟩ := h
  cases pre with
  | nil => simp at hr; exact .inl ⟨rfl, hr.1⟩
  | cons a pre =>
    cases pre with
    | nil => simp at hr; exact .inr (.inl ⟨by rw [hr.1], hr.2.1⟩)
    | cons b pre =>
      cases pre with
      | nil => simp at hr; exact .inr (.inr ⟨by rw [hr.1, hr.2.1], hr.2.2.1⟩)
      | cons c pre => simp at hr
set_option maxRecDepth 100000 in
set_option maxHeartbeats 16000000 in
theorem works7_any (w : World) (hm : MaxC w) : Calls Tryd.prog 30 #[] w fun e w' => e = .returned (.bool true) ∧ Below w.heap.size w w' := by
  have HM := Lib.hid hm
  have HMX := Lib.hid (fun W (hb : Below w.heap.size w W) => hm.below hb hm.room)
  clear hm
  refine (callsIn_wide (n := 20)).1 ?_
  refine callsIn_of_wp_marks Tryd.func30 rfl trivial ?_ rfl
  simp only [Tryd.ntmps30, List.size_toArray, List.length_nil, Nat.reduceSub, Array.replicate_succ, Array.replicate_zero, List.push_toArray, List.append_toArray, List.nil_append, List.cons_append]
  gi_wp2_with fail
  refine ⟨trivial, ?_⟩
  refine (callsIn_wide.2 (paSplit_any [47, 97, 47, 98] (by decide) w HM.out)).mono ?_
  rintro e w1 ⟨ua, rfl, hu, hb⟩
  have HB_w1 : Hid (Below w.heap.size w w1) := show Below _ _ _ from hb
  rw [ex_ab] at hu ⊢
  obtain ⟨aa, ac, rfl⟩ := hu.txs.slice
  have HA_w1 : Hid (OwnT w1 w.heap.size (.slice aa 2 ac) exN) := Lib.hid hu
  clear hb hu
  gi_wp2_with fail
  refine ⟨trivial, ?_⟩
  refine (callsIn_wide.2 (paSplit_any [47] (by decide) w1 (HMX.out w1 HB_w1.out))).mono ?_
  rintro e w2 ⟨ub, rfl, hu, hb⟩
  have HB_w2 : Hid (Below w.heap.size w w2) := show Below _ _ _ from HB_w1.out.trans (hb.mono HB_w1.out.size)
  have HA_w2 : Hid (OwnT w2 w.heap.size (.slice aa 2 ac) exN) := show World.ownsRow _ _ _ _ _ _ _ from HA_w1.out.below hb
  rw [ex_r] at hu ⊢
  obtain ⟨ba, bc, rfl⟩ := hu.txs.slice
  clear hu
  clear hb
  gi_wp2_with fail
  refine ⟨trivial, ?_⟩
  refine (callsIn_wide.2 (paParent_any [47, 97, 47, 98] (by decide) w2 (HMX.out w2 HB_w2.out))).mono ?_
  rintro e w3 ⟨rfl, hb⟩
  have HB_w3 : Hid (Below w.heap.size w w3) := show Below _ _ _ from HB_w2.out.trans (hb.mono HB_w2.out.size)
  have HA_w3 : Hid (OwnT w3 w.heap.size (.slice aa 2 ac) exN) := show World.ownsRow _ _ _ _ _ _ _ from HA_w2.out.below hb
  rw [ex_pab]
  clear hb
  gi_wp2_with fail
  refine ⟨trivial, ?_⟩
  refine (callsIn_wide.2 (paParent_any [47] (by decide) w3 (HMX.out w3 HB_w3.out))).mono ?_
  rintro e w4 ⟨rfl, hb⟩
  have HB_w4 : Hid (Below w.heap.size w w4) := show Below _ _ _ from HB_w3.out.trans (hb.mono HB_w3.out.size)
  have HA_w4 : Hid (OwnT w4 w.heap.size (.slice aa 2 ac) exN) := show World.ownsRow _ _ _ _ _ _ _ from HA_w3.out.below hb
  rw [ex_pr]
  clear hb
  gi_wp2_with fail
  refine ⟨trivial, ?_⟩
  refine (callsIn_wide.2 (paWithin_any [47, 97, 47, 98] [47, 97] (by decide) (by decide) w4 (HMX.out w4 HB_w4.out))).mono ?_
  rintro e w5 ⟨rfl, hb⟩
  have HB_w5 : Hid (Below w.heap.size w w5) := show Below _ _ _ from HB_w4.out.trans (hb.mono HB_w4.out.size)
  have HA_w5 : Hid (OwnT w5 w.heap.size (.slice aa 2 ac) exN) := show World.ownsRow _ _ _ _ _ _ _ from HA_w4.out.below hb
  rw [ex_w1]
  clear hb
  gi_wp2_with fail
  refine ⟨trivial, ?_⟩
  refine (callsIn_wide.2 (paWithin_any [47, 97] [47, 97] (by decide) (by decide) w5 (HMX.out w5 HB_w5.out))).mono ?_
  rintro e w6 ⟨rfl, hb⟩
  have HB_w6 : Hid (Below w.heap.size w w6) := show Below _ _ _ from HB_w5.out.trans (hb.mono HB_w5.out.size)
  have HA_w6 : Hid (OwnT w6 w.heap.size (.slice aa 2 ac) exN) := show World.ownsRow _ _ _ _ _ _ _ from HA_w5.out.below hb
  rw [ex_w2]
  clear hb
  obtain ⟨nb, hnb⟩ : ∃ nb, w6.heap.size = nb := ⟨_, rfl⟩
  have hb : Below w6.heap.size w6 (w6.alloc (.cells #[.int .i64 0] 3)) := (Below.refl _ _).alloc (Nat.le_refl _) _
  have hbn : Boxed (w6.alloc (.cells #[.int .i64 0] 3)) nb 3 (.int .i64 0) := by rw [← hnb]; exact Boxed.new w6 3 _
  obtain ⟨w7, hv⟩ : ∃ w7, w6.alloc (.cells #[.int .i64 0] 3) = w7 := ⟨_, rfl⟩
  rw [hv] at hb hbn
  have HB_w7 : Hid (Below w.heap.size w w7) := show Below _ _ _ from HB_w6.out.trans (hb.mono HB_w6.out.size)
  have HA_w7 : Hid (OwnT w7 w.heap.size (.slice aa 2 ac) exN) := show World.ownsRow _ _ _ _ _ _ _ from HA_w6.out.below hb
  have HN_w7 := Lib.hid hbn
  have HNB : Hid (w.heap.size ≤ nb) := show _ ≤ _ by rw [← hnb]; exact HB_w6.out.size
  have HVV := Lib.hid hv
  clear hb hbn hv
  have hqn : ∀ (p0 : Nat) (W : World), (binOp .eql 77 (.func (.func 76) #[] #[.pointer (some ⟨p0, 0, none⟩)]) .nilFunc).run Tryd.prog W = .ok (.bool false) W := fun _ _ => by kernel_rfl
  gi_wp2_with fail
  rw [HVV.out]
  clear hnb HVV
  refine ⟨trivial, ?_⟩
  refine (callsIn_wide.2 (paPrefixes_any [47, 97, 47, 98] w7)).mono ?_
  rintro e w8 ⟨rfl, hv⟩
  have hb : Below w7.heap.size w7 w8 := by rw [hv]; exact (Below.refl _ _).alloc (Nat.le_refl _) _
  have hbs : Boxed w8 w7.heap.size 9 (encStr [47, 97, 47, 98]) := by rw [hv]; exact Boxed.new w7 9 _
  clear hv
  have HB_w8 : Hid (Below w.heap.size w w8) := show Below _ _ _ from HB_w7.out.trans (hb.mono HB_w7.out.size)
  have HA_w8 : Hid (OwnT w8 w.heap.size (.slice aa 2 ac) exN) := show World.ownsRow _ _ _ _ _ _ _ from HA_w7.out.below hb
  have HN_w8 : Hid (Boxed w8 nb 3 (.int .i64 0)) := show Boxed _ _ _ _ from (hb.block _ HN_w7.out.lt).trans HN_w7.out
  have hqn_w8 := hqn w7.heap.size
  clear hb hbs
  gi_wp2_with fail
  refine ⟨trivial, ?_⟩
  refine (callsIn_wide.2 (paPrefixes_any [47, 97, 47, 98] w8)).mono ?_
  rintro e w9 ⟨rfl, hv⟩
  have hb : Below w8.heap.size w8 w9 := by rw [hv]; exact (Below.refl _ _).alloc (Nat.le_refl _) _
  have hbs : Boxed w9 w8.heap.size 9 (encStr [47, 97, 47, 98]) := by rw [hv]; exact Boxed.new w8 9 _
  clear hv
  have HB_w9 : Hid (Below w.heap.size w w9) := show Below _ _ _ from HB_w8.out.trans (hb.mono HB_w8.out.size)
  have HA_w9 : Hid (OwnT w9 w.heap.size (.slice aa 2 ac) exN) := show World.ownsRow _ _ _ _ _ _ _ from HA_w8.out.below hb
  have HN_w9 : Hid (Boxed w9 nb 3 (.int .i64 0)) := show Boxed _ _ _ _ from (hb.block _ HN_w8.out.lt).trans HN_w8.out
  have hqn_w9 := hqn w8.heap.size
  have HBS := Lib.hid hbs
  clear hb hbs hqn
  gi_wp2_with fail
  have HSQ := Lib.hid (pre_seq 19 (by decide) w8.heap.size [47, 97, 47, 98] (by decide) w9 (HMX.out w9 HB_w9.out) HBS.out)
  rw [ex_ab] at HSQ
  have HI0 : Hid (WkP w nb (.slice aa 2 ac) [] (fun _ => False) w9) := show WkP _ _ _ _ _ _ from ⟨⟨HN_w9.out, id⟩, ⟨HA_w9.out, fun _ _ => id⟩, HB_w9.out, HB_w9.out.size, fun _ h => h.elim⟩
  generalize hAA : ({ tmps := _, defers := _ } : Act) = A0
  refine wpIn_range_F (n := 20) (by decide) (gf := 76) (lb := #[.pointer (some ⟨w8.heap.size, 0, none⟩)]) (by rw [← hAA]; rfl) (enters_of Tryd.func76 (by kernel_rfl) rfl) HSQ.out (fun k hk => hk.elim) (Below.refl _ _) (fun _ => rfl)
    (WkP w nb (.slice aa 2 ac)) (fun _ _ _ _ => False) (abides_wkp _ _ _) (fun _ _ _ _ _ _ h _ _ => h) HI0.out
    (fun k a' _ => a' = { tmps := (((A0.tmps.setIfInBounds 47 (.int .i64 (k : Nat))).setIfInBounds 48 (encStr (pathOf (exN.take k)))).setIfInBounds 16 (.int .i64 (k : Nat))).setIfInBounds 17 (encStr (pathOf (exN.take k))), defers := [] })
    (fun x a' W1 o h => h)
    ?assign ?body ?done ?stop
  case assign =>
    rintro l2 k W2 K hsz hK
    subst hAA
    unfold encX
    dsimp only
    gi_wp2_with fail
    refine hK _ _ ?_ (Below.refl _ _)
    rfl
  case body =>
    rintro l2 pre k a' q2 W2 hI hs2 hqb hsp rfl
    subst hAA
    obtain ⟨⟨hr, hqr⟩, hA, hB⟩ := hI
    have HBB := Lib.hid hB
    have HAA := Lib.hid hA
    have HQR := Lib.hid hqr
    have HHA : Hid (∀ u, RowQ w.heap.size (.slice aa 2 ac) exN q2 (W2.setCell ⟨nb, 0, none⟩ u)) := show ∀ u, _ from fun u => ⟨HAA.out.1.kept (grownBy_setCell' W2 nb u) (.inr (Boxed.not_row hr tIntNe HAA.out.1).symm), HAA.out.2⟩
    have HHB : Hid (∀ u, BelowF w.heap.size w q2 (W2.setCell ⟨nb, 0, none⟩ u)) := show ∀ u, _ from fun u => ⟨HBB.out.1.setCell (p := ⟨nb, 0, none⟩) HNB.out u, by have := HBB.out.2.1; simp [World.setCell]; exact this, HBB.out.2.2⟩
    rcases three_of_prefix hsp with ⟨rfl, rfl⟩ | ⟨rfl, rfl⟩ | ⟨rfl, rfl⟩
    · have cr : W2.cell? ⟨nb, 0, none⟩ = some (.int .i64 0) := Boxed.cell hr
      have fr := Boxed.frozen hr
      have HR := Lib.hid hr
      have hf2 : (W2.setCell ⟨nb, 0, none⟩ (.int .i64 1)).cell? ⟨nb, 0, none⟩ = some (.int .i64 1) := Boxed.cell (HR.out.set (.int .i64 1))
      rw [show pathOf (exN.take 0) = [47] from rfl]
      clear hr hA hB hsp hqb hs2 hqr
      gi_wp2_with fail
      exact ⟨Keeps.set _ _ (fun h => h.elim id HQR.out), ⟨HR.out.set (.int .i64 1), HQR.out⟩, HHA.out _, HHB.out _⟩
    · have cr : W2.cell? ⟨nb, 0, none⟩ = some (.int .i64 1) := Boxed.cell hr
      have fr := Boxed.frozen hr
      have HR := Lib.hid hr
      have hf2 : (W2.setCell ⟨nb, 0, none⟩ (.int .i64 13)).cell? ⟨nb, 0, none⟩ = some (.int .i64 13) := Boxed.cell (HR.out.set (.int .i64 13))
      rw [show pathOf (exN.take 1) = [47, 97] from rfl]
      clear hr hA hB hsp hqb hs2 hqr
      gi_wp2_with fail
      exact ⟨Keeps.set _ _ (fun h => h.elim id HQR.out), ⟨HR.out.set (.int .i64 13), HQR.out⟩, HHA.out _, HHB.out _⟩
    · have cr : W2.cell? ⟨nb, 0, none⟩ = some (.int .i64 13) := Boxed.cell hr
      have fr := Boxed.frozen hr
      have HR := Lib.hid hr
      have hf2 : (W2.setCell ⟨nb, 0, none⟩ (.int .i64 136)).cell? ⟨nb, 0, none⟩ = some (.int .i64 136) := Boxed.cell (HR.out.set (.int .i64 136))
      rw [show pathOf (exN.take 2) = [47, 97, 47, 98] from rfl]
      clear hr hA hB hsp hqb hs2 hqr
      gi_wp2_with fail
      exact ⟨Keeps.set _ _ (fun h => h.elim id HQR.out), ⟨HR.out.set (.int .i64 136), HQR.out⟩, HHA.out _, HHB.out _⟩
  case stop =>
    rintro D cd pre W2 hD hpre h hK'
    exact h.elim
  case done =>
    rintro D ys wd hD rfl hI hK'
    subst hAA
    obtain ⟨⟨hr, -⟩, ⟨hA, -⟩, hB, -, -⟩ := hI
    have HN_wd : Hid (Boxed wd nb 3 (.int .i64 136)) := show Boxed _ _ _ _ from hr
    have HA_wd := Lib.hid hA
    have HB_wd := Lib.hid hB
    have HD_wd : Hid (wd.heap[D]? = some (.deferred (some []))) := show _ = _ from hK'
    have HDN : Hid (w.heap.size ≤ D) := show _ ≤ _ from Nat.le_trans HB_w9.out.size hD
    clear hr hA hB hK' hD
    gi_wp2_with fail
    refine ⟨trivial, ?_⟩
    refine (callsIn_wide.2 (num7_any 0 wd)).mono ?_
    rintro e w10 ⟨rfl, hw⟩
    rw [← hw]
    clear hw w10
    gi_wp2_with fail
    refine ⟨trivial, ?_⟩
    refine (callsIn_wide.2 (num7_any 0 wd)).mono ?_
    rintro e w11 ⟨rfl, hw⟩
    rw [← hw]
    clear hw w11
    gi_wp2_with fail
    refine ⟨trivial, ?_⟩
    refine (callsIn_wide.2 (num7_any 0 wd)).mono ?_
    rintro e w12 ⟨rfl, hw⟩
    rw [← hw]
    clear hw w12
    gi_wp2_with fail
    refine ⟨trivial, ?_⟩
    refine (callsIn_wide.2 (num7_any 0 wd)).mono ?_
    rintro e w13 ⟨rfl, hw⟩
    rw [← hw]
    clear hw w13
    gi_wp2_with fail
    refine ⟨trivial, ?_⟩
    refine (callsIn_wide.2 (num7_any 0 wd)).mono ?_
    rintro e w14 ⟨rfl, hw⟩
    rw [← hw]
    clear hw w14
    gi_wp2_with fail
    have hb : Below wd.heap.size wd (wd.alloc (.cells #[encStr [97], encStr [98]] 9)) := (Below.refl _ _).alloc (Nat.le_refl _) _
    have hst : TxS (wd.alloc (.cells #[encStr [97], encStr [98]] 9)) (.slice (some ⟨wd.heap.size, 0, none⟩) 2 2) exN := vec_newL wd #[encStr [97], encStr [98]] 9 2 1 rfl
    obtain ⟨w15, hv⟩ : ∃ w15, wd.alloc (.cells #[encStr [97], encStr [98]] 9) = w15 := ⟨_, rfl⟩
    rw [hv] at hb hst
    have HV := Lib.hid hv
    first | rw [hv] | (rw [show ({ data := #[97] } : ByteArray) = ⟨[97].toArray⟩ from rfl, show ({ data := #[98] } : ByteArray) = ⟨[98].toArray⟩ from rfl, hv]) | (change _ ∧ CallsIn _ _ _ _ _ _ _)
    clear hv HV
    have HB_w15 : Hid (Below w.heap.size w w15) := show Below _ _ _ from HB_wd.out.trans (hb.mono HB_wd.out.size)
    have HA_w15 : Hid (OwnT w15 w.heap.size (.slice aa 2 ac) exN) := show World.ownsRow _ _ _ _ _ _ _ from HA_wd.out.below hb
    have HN_w15 : Hid (Boxed w15 nb 3 (.int .i64 136)) := show Boxed _ _ _ _ from (hb.block _ HN_wd.out.lt).trans HN_wd.out
    have HD_w15 : Hid (w15.heap[D]? = some (.deferred (some []))) := show _ = _ from (hb.block D (Array.getElem?_eq_some_iff.1 HD_wd.out).1).trans HD_wd.out
    clear hb
    refine ⟨trivial, ?_⟩
    refine (callsIn_wide.2 (refTexts_any _ _ exN exN (by decide) (by decide) w15 HA_w15.out.txs hst)).mono ?_
    rintro e w16 ⟨rfl, hb⟩
    have HB_w16 : Hid (Below w.heap.size w w16) := show Below _ _ _ from HB_w15.out.trans (hb.mono HB_w15.out.size)
    have HA_w16 : Hid (OwnT w16 w.heap.size (.slice aa 2 ac) exN) := show World.ownsRow _ _ _ _ _ _ _ from HA_w15.out.below hb
    have HN_w16 : Hid (Boxed w16 nb 3 (.int .i64 136)) := show Boxed _ _ _ _ from (hb.block _ HN_w15.out.lt).trans HN_w15.out
    have HD_w16 : Hid (w16.heap[D]? = some (.deferred (some []))) := show _ = _ from (hb.block D (Array.getElem?_eq_some_iff.1 HD_w15.out).1).trans HD_w15.out
    rw [show decide (exN = exN) = true from decide_eq_true rfl]
    clear hst
    clear hb
    gi_wp2_with fail
    refine ⟨trivial, ?_⟩
    refine (callsIn_wide.2 (fails7_any [97] (by decide) 170 w16 (HMX.out w16 HB_w16.out))).mono ?_
    rintro e w17 ⟨rfl, hb⟩
    have HB_w17 : Hid (Below w.heap.size w w17) := show Below _ _ _ from HB_w16.out.trans (hb.mono HB_w16.out.size)
    have HA_w17 : Hid (OwnT w17 w.heap.size (.slice aa 2 ac) exN) := show World.ownsRow _ _ _ _ _ _ _ from HA_w16.out.below hb
    have HN_w17 : Hid (Boxed w17 nb 3 (.int .i64 136)) := show Boxed _ _ _ _ from (hb.block _ HN_w16.out.lt).trans HN_w16.out
    have HD_w17 : Hid (w17.heap[D]? = some (.deferred (some []))) := show _ = _ from (hb.block D (Array.getElem?_eq_some_iff.1 HD_w16.out).1).trans HD_w16.out
    rw [show ((splitE [97]).2 == 170) = true by decide +kernel]
    clear hb
    gi_wp2_with fail
    refine ⟨trivial, ?_⟩
    refine (callsIn_wide.2 (fails7_any [47, 97, 47] (by decide) 170 w17 (HMX.out w17 HB_w17.out))).mono ?_
    rintro e w18 ⟨rfl, hb⟩
    have HB_w18 : Hid (Below w.heap.size w w18) := show Below _ _ _ from HB_w17.out.trans (hb.mono HB_w17.out.size)
    have HA_w18 : Hid (OwnT w18 w.heap.size (.slice aa 2 ac) exN) := show World.ownsRow _ _ _ _ _ _ _ from HA_w17.out.below hb
    have HN_w18 : Hid (Boxed w18 nb 3 (.int .i64 136)) := show Boxed _ _ _ _ from (hb.block _ HN_w17.out.lt).trans HN_w17.out
    have HD_w18 : Hid (w18.heap[D]? = some (.deferred (some []))) := show _ = _ from (hb.block D (Array.getElem?_eq_some_iff.1 HD_w17.out).1).trans HD_w17.out
    rw [show ((splitE [47, 97, 47]).2 == 170) = true by decide +kernel]
    clear hb
    gi_wp2_with fail
    refine ⟨trivial, ?_⟩
    refine (callsIn_wide.2 (fails7_any [47, 47, 97] (by decide) 170 w18 (HMX.out w18 HB_w18.out))).mono ?_
    rintro e w19 ⟨rfl, hb⟩
    have HB_w19 : Hid (Below w.heap.size w w19) := show Below _ _ _ from HB_w18.out.trans (hb.mono HB_w18.out.size)
    have HA_w19 : Hid (OwnT w19 w.heap.size (.slice aa 2 ac) exN) := show World.ownsRow _ _ _ _ _ _ _ from HA_w18.out.below hb
    have HN_w19 : Hid (Boxed w19 nb 3 (.int .i64 136)) := show Boxed _ _ _ _ from (hb.block _ HN_w18.out.lt).trans HN_w18.out
    have HD_w19 : Hid (w19.heap[D]? = some (.deferred (some []))) := show _ = _ from (hb.block D (Array.getElem?_eq_some_iff.1 HD_w18.out).1).trans HD_w18.out
    rw [show ((splitE [47, 47, 97]).2 == 170) = true by decide +kernel]
    clear hb
    gi_wp2_with fail
    refine ⟨trivial, ?_⟩
    refine (callsIn_wide.2 (fails7_any [47, 97, 47, 46, 46] (by decide) 160 w19 (HMX.out w19 HB_w19.out))).mono ?_
    rintro e w20 ⟨rfl, hb⟩
    have HB_w20 : Hid (Below w.heap.size w w20) := show Below _ _ _ from HB_w19.out.trans (hb.mono HB_w19.out.size)
    have HA_w20 : Hid (OwnT w20 w.heap.size (.slice aa 2 ac) exN) := show World.ownsRow _ _ _ _ _ _ _ from HA_w19.out.below hb
    have HN_w20 : Hid (Boxed w20 nb 3 (.int .i64 136)) := show Boxed _ _ _ _ from (hb.block _ HN_w19.out.lt).trans HN_w19.out
    have HD_w20 : Hid (w20.heap[D]? = some (.deferred (some []))) := show _ = _ from (hb.block D (Array.getElem?_eq_some_iff.1 HD_w19.out).1).trans HD_w19.out
    rw [show ((splitE [47, 97, 47, 46, 46]).2 == 160) = true by decide +kernel]
    clear hb
    gi_wp2_with fail
    refine ⟨trivial, ?_⟩
    refine (callsIn_wide.2 (num7_any 5 w20)).mono ?_
    rintro e w21 ⟨rfl, hw⟩
    rw [← hw]
    clear hw w21
    have cn := HN_w20.out.cell
    gi_wp2_with fail
    refine leaves_one (D := D) HD_w20.out fun W' ht hc => ⟨.bool true, ?_, rfl, ?_⟩
    · simp [results, Tryd.results30, go_sem]
    · exact HB_w20.out.trans (ht.below (fun k h => by have := HDN.out; omega) HB_w20.out.size)
end Go.Proofs.YtohdgjmmekgcmaaDoor

/-
  The frame of a law's row: whatever the arguments are, they read behind the call as they did, if nothing that lay has turned.
-/
namespace Go.Proofs.YtohdgjmmekgcmaaDoor
open Go.ChangeShapes Go.WideShapes Go.ChangeAt Go.RowKit

theorem own : ownKnob Tryd.prog.godebug = none := by kernel_rfl
theorem laidOut : laidOutB Tryd.prog = true := by kernel_rfl
/-- One listed variable's reading. -/
def ReadsAs (P : Program) (w : World) (n : String) (d : DataW Unit) : Prop :=
  ∃ g t cs fuel p, P.globalNamed n = some g ∧ (P.globals[g]?).map (·.type) = some t ∧ w.var? P n = some cs ∧ DataW.trod (fun _ => ()) P w 0 (fun _ => true) false fuel t cs.toList = some (d, p)
theorem readsAs_list {P : Program} {w : World} : ∀ {l : List (String × DataW Unit)} {ps : List MemPlace}, DataW.LaidVars P w l ps → ∀ x ∈ l, ReadsAs P w x.1 x.2
  | [], _, _, _, hm => by cases hm
  | y :: r, ps, h, x, hm => by
    obtain ⟨g, t, cs, fuel, p, q, h1, h2, h3, h4, h5, _⟩ := h
    rcases List.mem_cons.1 hm with e | e
    · subst e; exact ⟨g, t, cs, fuel, p, h1, h2, h3, h4⟩
    · exact readsAs_list h5 x e
theorem readsAs_of_laid {P : Program} {w : World} {l : List (String × DataW Unit)} (h : laidMet P l w) {n : String} {d : DataW Unit} (hm : (n, d) ∈ l) : ReadsAs P w n d :=
  let ⟨_, hv, _⟩ := h
  readsAs_list hv (n, d) hm
/-- A listed array of integers holds them, cell for cell. -/
theorem tabIs_of_reads {P : Program} {W : World} {name : String} {k : IntKind} {zs : List Int} {g : Nat} {t e : TypeId} {n : Nat}
    (hg : P.globalNamed name = some g) (hty : (P.globals[g]?).map (·.type) = some t) (ht : P.underlying t = some (.array n e)) (he : P.underlying e = some (.int k)) (hce : P.cellsOf e = 1) (hct : P.cellsOf t = n)
    (h : ReadsAs P W name (Lib.tabData k zs)) : Lib.TabIs P W name k zs := by
  obtain ⟨g', t', cs, fuel, p, hg', ht', hvar, hd⟩ := h
  obtain rfl := Option.some.inj (hg.symm.trans hg')
  obtain rfl := Option.some.inj (hty.symm.trans ht')
  unfold Lib.TabIs
  rw [hvar, ← Lib.cells_of_tab ht he hce hct hd]
/-- These types read as data. -/
def typesOk (P : Program) (ts : List TypeId) : Bool := ts.all fun t => P.readableRec t && decide (t < P.types.size)
theorem trodAll_below {H : Type} {enc : TypeId × Value → H} {P : Program} (hl : laidOutB P = true) {W W' : World} (hb : Below W.heap.size W W') :
    ∀ {ts : List TypeId} {vs : List Value} {ds : List (DataW H)} {ps : List MemPlace}, typesOk P ts = true → DataW.TrodAll enc P W 0 (fun _ => true) true ts vs ds ps → (∀ x ∈ ps, x.block < W.heap.size) →
      DataW.TrodAll enc P W' 0 (fun b => decide (b < W.heap.size)) true ts vs ds ps
  | [], [], [], _, _, h, _ => h
  | [], [], _ :: _, _, _, h, _ => h.elim
  | [], _ :: _, _, _, _, h, _ => by cases h
  | _ :: _, [], _, _, _, h, _ => by cases h
  | _ :: _, _ :: _, [], _, _, h, _ => by cases h
  | t :: ts, v :: vs, d :: ds, ps, ht, ⟨p, q, h1, h2, e⟩, hlt => by
    simp only [typesOk, List.all_cons, Bool.and_eq_true, decide_eq_true_eq] at ht
    subst e
    exact ⟨p, q, Below.trod hl ht.1.1 ht.1.2 h1 hb (fun x hx => hlt x (List.mem_append_left _ hx)),
      trodAll_below hl hb (by simpa [typesOk] using ht.2) h2 (fun x hx => hlt x (List.mem_append_right _ hx)), rfl⟩
/-- A law's post: it returned true, and nothing that lay has turned. -/
theorem law_post {H : Type} {enc : TypeId × Value → H} {P : Program} (hl : laidOutB P = true) {f : Func} {s : ChangeSpec} {apart fresh handsOn : Bool} {W W' : World} {args : Array Value} {ds gs : List (DataW H)} {before : List MemPlace} {tb : TypeId}
    (hW : DataW.Whole enc P f.params.toList s.vars apart W args.toList ds gs before) (hv0 : s.vars = []) (hres : (s.fn H (ds ++ [])).results = [.lit (.bool true)]) (hargs : (s.fn H (ds ++ [])).args = ds) (hvars : (s.fn H (ds ++ [])).vars = [])
    (ht : typesOk P f.params.toList = true) (hrt : f.resultTypes = #[tb]) (htb : P.underlying tb = some .bool) (hb : Below W.heap.size W W') :
    s.post enc P f apart fresh handsOn false W args (.bool true) W' := by
  have hW' := hW
  obtain ⟨p, q, hA, hV, hbef, hfz, hnd⟩ := hW
  rw [hv0] at hV
  obtain ⟨rfl, rfl⟩ := trodVars_none hV
  rw [List.append_nil] at hbef
  subst hbef
  have hlt : ∀ x ∈ before, x.block < W.heap.size := fun x hx => hW'.lt x hx
  refine ⟨ds, [], before, [], before, [], hW', ?_, ?_, ?_, World.keptBut_mono (fun x hx => ⟨hx, .inr ?_⟩) (hb.frame (· ∈ before)), fun h => by cases h⟩
  · rw [hres, hrt]
    exact trodAll_cons_mk (shut_bool htb _) trodAll_mk0
  · rw [hargs]
    exact trodAll_below hl hb ht hA hlt
  · rw [hvars, hv0]
    rfl
  · simpa using hx
end Go.Proofs.YtohdgjmmekgcmaaDoor

/-
  The witness of a row that lists pinned tables: all the listed variables laid by the library's function.
-/
namespace Go.Proofs.YtohdgjmmekgcmaaDoor
open Go.ChangeShapes Go.WideShapes Go.ChangeAt Go.RowKit

theorem witness_laidAll {H : Type} {enc : TypeId × Value → H} {C : Checked} {os : Os} {f : FuncId} {fn : Func} {s : OpenSpec} {conds : List PathCond} {apart : Bool} (laid : List (String × DataW Unit)) (args : Array Value)
    (hsh : ((World.laidAll C.prog os laid).forCall (fun _ _ => 0) ⟨#[], args, []⟩).Shaped C.prog)
    (hok : Input.okWideB C.prog ((World.laidAll C.prog os laid).forCall (fun _ _ => 0) ⟨#[], args, []⟩) f ⟨#[], args, []⟩ = true)
    (hrow : s.preRow enc C.prog fn conds apart laid ((World.laidAll C.prog os laid).forCall (fun _ _ => 0) ⟨#[], args, []⟩).memory args) :
    ∃ (w : World) (tape : Tape) (i : Input), w.os = os ∧ (w.forCall tape i).Shaped C.prog ∧ i.vars = [] ∧ Input.okWide C.prog (w.forCall tape i) .any w.heap.size f i ∧
      s.preRow enc C.prog fn conds apart laid (w.forCall tape i).memory i.args ∧ ({ modest := false } : Assume).holds C.prog (lone (Frame.enter C.prog f i.args .normal) [] (w.forCall tape i)) :=
  ⟨World.laidAll C.prog os laid, fun _ _ => 0, ⟨#[], args, []⟩, World.laidAll_os _ _ _, hsh, (Input.okWide_of_okWideB (base := 0) hok).1, (Input.okWide_of_okWideB hok).2, hrow, by
    simp only [Assume.holds]
    exact ⟨by simp, by simp, fun _ => Modest.zero, by simp, by simp⟩⟩
end Go.Proofs.YtohdgjmmekgcmaaDoor

/-
  A slice of unsigned numbers that a law is handed, opened: the numbers as naturals, and its capacity.
-/
namespace Go.Proofs.YtohdgjmmekgcmaaDoor
open Go.ChangeShapes Go.WideShapes Go.ChangeAt Go.RowKit

set_option maxRecDepth 100000 in
theorem open_sl {H : Type} {enc : TypeId × Value → H} {W : World} {base : Nat} {t e : TypeId} {k : IntKind} {v : Value} {d : DataW H} {p : List MemPlace}
    (ht : Tryd.prog.underlying t = some (.slice e)) (he : Tryd.prog.underlying e = some (.int k)) (hc : Tryd.prog.cellsOf e = 1) (hk : ∀ n, (Lit.int k n).wf = true → 0 ≤ n)
    (hval : Value.okWide Tryd.prog W .any base t v) (h : DataW.Trod enc Tryd.prog W 0 (fun _ => true) true t v d p) (hlt : ∀ x ∈ p, x.block < W.heap.size) :
    ∃ xs : List Nat, Sl W k v xs ∧ (∀ x ∈ xs, (Lit.int k (x : Int)).wf = true) ∧
      ((v = .slice none 0 0 ∧ xs = [] ∧ d = .nil) ∨ ∃ a cap el sp, v = .slice (some a) xs.length cap ∧ d = .slice el sp ∧ el.length + sp.length = cap) := by
  obtain ⟨a0, len, cap, rfl⟩ := okWide_slice ht hval
  obtain ⟨fuel, hf⟩ := h
  rcases open_ints ht he hc hf with ⟨hcs, hx⟩ | ⟨a, len', cap', zs, hcs, _, hl, hm, hz, hx, hcell, hwz⟩
  · simp [Value.cells] at hcs
    obtain ⟨rfl, rfl, rfl⟩ := hcs
    simp only [Prod.mk.injEq] at hx
    exact ⟨[], ⟨none, 0, rfl, Nat.le_refl _, fun h => by simp at h⟩, (fun x hx => by cases hx), .inl ⟨rfl, rfl, hx.1⟩⟩
  · simp [Value.cells] at hcs
    obtain ⟨rfl, rfl, rfl⟩ := hcs
    simp only [Prod.mk.injEq] at hx
    obtain ⟨rfl, rfl⟩ := hx
    simp only [if_true] at hz
    have hlen : ((zs.take len).map Int.toNat).length = len := by simp; omega
    refine ⟨(zs.take len).map Int.toNat, ⟨some a, cap, by rw [hlen], by omega, fun h0 => ?_⟩, fun x hx => ?_, .inr ⟨a, cap, _, _, by rw [hlen], rfl, ?_⟩⟩
    · obtain ⟨b, off, rfl, hj⟩ := ints_at hcell (by omega)
      refine ⟨b, off, rfl, hlt (.cell b off) (MemPlace.mem_row.2 ⟨0, by omega, by simp⟩), fun j hjl => ?_⟩
      rw [hlen] at hjl
      rw [hj j (by omega)]
      have h0 := hk _ (hwz _ (List.getElem_mem (show j < zs.length by omega)))
      simp [List.getD, List.getElem?_map, hjl, List.getElem?_eq_getElem (show j < zs.length by omega)]
      omega
    · obtain ⟨z, hz1, rfl⟩ := List.mem_map.1 hx
      have hw := hwz z (List.mem_of_mem_take hz1)
      have h0 := hk _ hw
      rwa [Int.toNat_of_nonneg h0]
    · simp [lits]; omega
theorem nn8 : ∀ n, (Lit.int .u8 n).wf = true → 0 ≤ n := fun _ h => (bounds_u8 h).1
theorem nn64 : ∀ n, (Lit.int .u64 n).wf = true → 0 ≤ n := fun _ h => (bounds_u64 h).1
theorem getD_all {xs : List Nat} {m : Nat} (hm : 0 < m) (h : ∀ x ∈ xs, x < m) (i : Nat) : xs[i]?.getD 0 < m := by
  by_cases hi : i < xs.length
  · simp [hi, h _ (List.getElem_mem hi)]
  · simp [List.getElem?_eq_none (by omega : xs.length ≤ i), hm]
end Go.Proofs.YtohdgjmmekgcmaaDoor

/-
  label: arguments opened: a text, a slice of texts, five words.
-/
namespace Go.Proofs.YtohdgjmmekgcmaaDoor
open Go.ChangeShapes Go.WideShapes Go.ChangeAt Go.RowKit Go.Joins

set_option maxRecDepth 100000 in
theorem open_txt {H : Type} {enc : TypeId × Value → H} {W : World} {base : Nat} {v : Value} {d : DataW H} {p : List MemPlace}
    (hv : Value.okWide Tryd.prog W .any base 9 v) (h : DataW.Trod enc Tryd.prog W 0 (fun _ => true) true 9 v d p) : ∃ s : List UInt8, v = encStr s := by
  obtain ⟨s, rfl, -⟩ := Go.ChangeMaps.open_string Tryd.underlying9 hv h
  exact ⟨s.data.toList, rfl⟩
set_option maxRecDepth 100000 in
theorem open_txts {H : Type} {enc : TypeId × Value → H} {W : World} {base : Nat} {v : Value} {d : DataW H} {p : List MemPlace}
    (hv : Value.okWide Tryd.prog W .any base 65 v) (h : DataW.Trod enc Tryd.prog W 0 (fun _ => true) true 65 v d p) (hlt : ∀ x ∈ p, x.block < W.heap.size) : ∃ l, TxS W v l := by
  obtain ⟨a0, len0, cap0, rfl⟩ := okWide_slice Tryd.underlying65 hv
  obtain ⟨fuel, hf⟩ := h
  rcases Go.Deep.open_strs Tryd.underlying65 Tryd.underlying9 (by kernel_rfl) hf with ⟨hcs, hx⟩ | ⟨a, len, cap, m, Sx, hcs, hb, hl, hm, hmm, hx, hi⟩
  · simp [Value.cells] at hcs
    obtain ⟨rfl, rfl, rfl⟩ := hcs
    exact ⟨[], by simp, none, 0, rfl, Nat.le_refl _, fun h => by simp at h⟩
  · simp [Value.cells] at hcs
    obtain ⟨rfl, rfl, rfl⟩ := hcs
    simp only [if_true] at hmm
    subst hmm
    simp only [Prod.mk.injEq] at hx
    obtain ⟨-, rfl⟩ := hx
    have hlen : ((List.range len0).map fun i => (Sx i).data.toList).length = len0 := by simp
    refine ⟨(List.range len0).map fun i => (Sx i).data.toList, by simp, some a, m, by rw [hlen], by omega, fun h0 => ?_⟩
    rw [hlen] at h0
    obtain ⟨b, off, spot⟩ := a
    have hspot : spot = none := by simpa [Addr.add] using World.cell?_spot (hi 0 (by omega)).1
    subst hspot
    refine ⟨b, off, rfl, hlt (.cell b off) (MemPlace.mem_row.2 ⟨0, by omega, by simp⟩), fun j y hy => ?_⟩
    have hj : j < len0 := by
      have := (List.getElem?_eq_some_iff.1 hy).1
      simpa using this
    rw [← Go.WideShapes.add_plain, (hi j (by omega)).1]
    simp [hj] at hy
    rw [← hy]
end Go.Proofs.YtohdgjmmekgcmaaDoor
