/-
  label: the first bytes.
-/
import Derived.Laws.EntriesVeiled
import Derived.Test.YtoaloeipgadkjaaLaD
import Derived.Test.YtoaloeipgadkjaaWordD
namespace Go.Proofs.Ytoaloeipgadkjaa
open Go.RowKit Go.Shelf Go.Sort
attribute [local go_sem] Oper.semAt_some

/-- In the rounds of first. -/
def FirI (w : World) (n₁ b m r : Nat) (many : Int) (pre : List Nat) (q : Nat → Prop) (W : World) : Prop :=
  RowG n₁ b 58 5 1 pre.length (valsOf .u8 pre) q W ∧ BoxF m 3 (.int .i64 many) q W ∧ BoxF r 52 (encStr []) q W ∧ BelowF w.heap.size w q W ∧ (pre.length : Int) ≤ max 0 many
theorem abides_fir (w : World) (n₁ b m r : Nat) (many : Int) : Abides (FirI w n₁ b m r many) := Abides.and (abides_rowG _ _ _ _ _ (fun pre : List Nat => pre.length) (fun pre => valsOf .u8 pre)) (Abides.and (Abides.box _ _ (fun _ => .int .i64 many)) (Abides.and (Abides.box _ _ (fun _ => encStr [])) (Abides.and (Abides.below _ _) (Abides.pure (fun pre : List Nat => (pre.length : Int) ≤ max 0 many)))))
/-- Where they are left. -/
def FirX (w : World) (n₁ b r : Nat) (many : Int) (cd : Code) (ys : List Nat) (q : Nat → Prop) (W : World) : Prop :=
  (cd = .exit 0 ∧ (many ≤ (ys.dropLast.length : Int) ∧ (ys.dropLast.length : Int) ≤ max 0 many)) ∧ RowG n₁ b 58 5 1 ys.dropLast.length (valsOf .u8 ys.dropLast) q W ∧ BoxF r 52 (encStr []) q W ∧ BelowF w.heap.size w q W
theorem abides_firx (w : World) (n₁ b r : Nat) (many : Int) (cd : Code) : Abides (FirX w n₁ b r many cd) := Abides.and (Abides.pure (fun ys : List Nat => cd = .exit 0 ∧ (many ≤ (ys.dropLast.length : Int) ∧ (ys.dropLast.length : Int) ≤ max 0 many))) (Abides.and (abides_rowG _ _ _ _ _ (fun ys : List Nat => ys.dropLast.length) (fun ys => valsOf .u8 ys.dropLast)) (Abides.and (Abides.box _ _ (fun _ => encStr [])) (Abides.below _ _)))
theorem take_bsN (s : List UInt8) (k : Nat) : bsN (s.take k) = (bsN s).take k := by simp [bsN, List.map_take]
theorem laOwn_slice {W : World} {base size n : Nat} {e : TypeId} {v : Value} {xs : List Value} (h : W.ownsRow base e size v n xs) : ∃ a c, v = .slice a n c := by
  rcases h.2 with ⟨rfl, hx⟩ | ⟨g, cap, cur, rfl, _⟩
  · exact ⟨none, 0, by have := h.1; simp_all⟩
  · exact ⟨_, _, rfl⟩
/-- A box beside a row that grows. -/
theorem box_beside {W w3 : World} {b n₁ size n : Nat} {t e : TypeId} {u v : Value} {xs : List Value} {tmp : Obj} (h : Boxed W b t u) (hte : t ≠ e) (hr : W.ownsRow n₁ e size v n xs) (hg : (W.alloc tmp).grownBy w3 v.ownBlock) : Boxed w3 b t u :=
  (hg.block b (by have := h.lt; simp; omega) (h.not_row hte hr)).trans ((Below.heap_alloc _ _ _ h.lt).trans h)
theorem cell_byte_new (w : World) (x : Value) (t : TypeId) : ∀ j u, [x][j]? = some u → (w.alloc (.cells #[x] t)).cell? ((⟨w.heap.size, 0, none⟩ : Addr).add j) = some u := by
  intro j u hj
  match j, hj with
  | 0, hj => simp at hj; subst hj; simp [go_sem, Addr.add]
set_option maxRecDepth 100000 in
set_option maxHeartbeats 4000000 in
theorem laFirst_any (s : List UInt8) (many : Int) (hl : s.length ≤ 140737488355328) (w : World) :
    Calls Try.prog 28 #[namV s, .int .i64 many] w fun e w' => e = .returned (namV (s.take many.toNat)) ∧ Below w.heap.size w w' := by
  obtain ⟨W4, hW4⟩ : ∃ W4, (((w.alloc (.cells #[encStr s] 52)).alloc (.cells #[.int .i64 many] 3)).alloc (.cells #[encStr []] 52)).alloc (.cells #[.slice none 0 0] 58) = W4 := ⟨_, rfl⟩
  have b4 : Below w.heap.size w W4 := by rw [← hW4]; exact (by repeat (first | exact Below.refl _ _ | assumption | refine Below.drew ?_ | refine below_drewN ?_ _ | refine Below.alloc ?_ (by (try simp) <;> omega) _ | refine Below.setCell ?_ (by (try simp) <;> omega) _ | refine Below.trans ?_ (Below.mono (by assumption) (by (try simp) <;> omega))))
  have z4 : W4.heap.size = w.heap.size + 4 := by rw [← hW4]; simp
  have j0 : Boxed W4 w.heap.size 52 (encStr s) := by rw [← hW4]; unfold Boxed; (simp only [heap_at, World.size_alloc]; repeat (first | rw [if_pos (by omega)] | rw [if_neg (by omega)] | rw [if_pos trivial]))
  have j1 : Boxed W4 (w.heap.size + 1) 3 (.int .i64 many) := by rw [← hW4]; unfold Boxed; (simp only [heap_at, World.size_alloc]; repeat (first | rw [if_pos (by omega)] | rw [if_neg (by omega)] | rw [if_pos trivial]))
  have j2 : Boxed W4 (w.heap.size + 1 + 1) 52 (encStr []) := by rw [← hW4]; unfold Boxed; (simp only [heap_at, World.size_alloc]; repeat (first | rw [if_pos (by omega)] | rw [if_neg (by omega)] | rw [if_pos trivial]))
  have j3 : Boxed W4 (w.heap.size + 1 + 1 + 1) 58 (.slice none 0 0) := by rw [← hW4]; unfold Boxed; (simp only [heap_at, World.size_alloc]; repeat (first | rw [if_pos (by omega)] | rw [if_neg (by omega)] | rw [if_pos trivial]))
  obtain ⟨i0, hi, hy0, hy1, hy2⟩ := info_parts infoU8
  have HII := Lib.hid hi
  clear hi
  have HBY := Lib.hid (laBytes_any s W4)
  have HW4 := Lib.hid hW4
  have HB4 := Lib.hid b4
  have HZ4 := Lib.hid z4
  have HJ1 := Lib.hid j1
  have HJ2 := Lib.hid j2
  have HJ3 := Lib.hid j3
  clear hW4 b4 z4 j1 j2 j3
  have cj := j0.cell
  clear j0
  refine (callsIn_wide (n := 9)).1 ?_
  refine callsIn_of_wp_marks Try.func28 rfl trivial ?_ rfl
  simp only [Try.ntmps28, List.size_toArray, List.length_cons, List.length_nil, Nat.reduceAdd, Nat.reduceSub, Array.replicate_succ, Array.replicate_zero, List.push_toArray, List.append_toArray, List.nil_append, List.cons_append]
  gi_wp2_with fail
  refine wpIn_scope_straight ?_
  gi_wp2_with fail
  refine wpIn_label ?_
  gi_wp2_with fail
  rw [HW4.out]
  refine ⟨trivial, ?_⟩
  refine (callsIn_wide.2 HBY.out).mono ?_
  rintro e w1 ⟨p, g, c, rfl, hbx, hsl, hp, hg, hgl, hb1⟩
  have hz4 := HZ4.out
  have hz1 := hb1.size
  have HB1 : Hid (Below w.heap.size w w1) := show Below _ _ _ from HB4.out.trans (hb1.mono HB4.out.size)
  have HK1 : Hid (Boxed w1 (w.heap.size + 1) 3 (.int .i64 many)) := show Boxed _ _ _ _ from (hb1.block _ (by omega)).trans HJ1.out
  have HK2 : Hid (Boxed w1 (w.heap.size + 1 + 1) 52 (encStr [])) := show Boxed _ _ _ _ from (hb1.block _ (by omega)).trans HJ2.out
  have HK3 : Hid (Boxed w1 (w.heap.size + 1 + 1 + 1) 58 (.slice none 0 0)) := show Boxed _ _ _ _ from (hb1.block _ (by omega)).trans HJ3.out
  have HSQ := Lib.hid (values_seq 8 (by decide) (xs := bsN s) w1 (by rw [bsN_length]; exact hbx) (by rw [bsN_length]; exact hsl) hgl (by rw [bsN_length]; exact hl))
  have HPL : Hid (∀ k, vaP p g k → W4.heap.size ≤ k ∧ k < w1.heap.size) := show ∀ k, _ from fun k hk => by
    rcases hk with rfl | rfl
    · exact ⟨hp, hbx.lt⟩
    · exact ⟨hg, hgl⟩
  have HI0 : Hid (FirI w w1.heap.size (w.heap.size + 1 + 1 + 1) (w.heap.size + 1) (w.heap.size + 1 + 1) many [] (fun _ => False) w1) := show FirI _ _ _ _ _ _ _ _ _ from
    ⟨⟨_, HK3.out, World.ownsRow_nil _ _ _ _, id, fun g e => by cases e⟩, ⟨HK1.out, id⟩, ⟨HK2.out, id⟩, ⟨HB1.out, HB1.out.size, fun _ h => h.elim⟩, by simp only [List.length_nil]; omega⟩
  clear hbx hsl hp hg hgl hb1
  gi_wp2_with fail
  generalize hA : ({ tmps := _, defers := _ } : Act) = A0
  refine wpIn_range_F (n := 9) (by decide) (gf := 63) (lb := #[.pointer (some ⟨p, 0, none⟩)]) (by rw [← hA]; rfl) (enters_of Try.func63 (by kernel_rfl) rfl) HSQ.out (fun k hk => (HPL.out k hk).2) (Below.refl _ _) (fun _ => rfl)
    (FirI w w1.heap.size (w.heap.size + 1 + 1 + 1) (w.heap.size + 1) (w.heap.size + 1 + 1) many) (FirX w w1.heap.size (w.heap.size + 1 + 1 + 1) (w.heap.size + 1 + 1) many) (abides_fir _ _ _ _ _ _) (abides_firx _ _ _ _ _) HI0.out
    (fun x a' _ => a' = { tmps := (A0.tmps.setIfInBounds 10 (.int .u8 (x : Nat))).setIfInBounds 6 (.int .u8 (x : Nat)), defers := [] })
    (fun x a' W1 o h => h)
    ?assign ?body ?done ?stop
  case assign =>
    rintro l2 x W2 K hsz hK
    subst hA
    unfold encB
    dsimp only
    gi_wp2_with fail
    refine hK _ _ ?_ (Below.refl _ _)
    rfl
  case body =>
    rintro l2 pre x a' q2 W2 ⟨⟨v', hv, hrow, hqB, hqg⟩, ⟨hm, hqm⟩, ⟨hr, hqr⟩, hB, hlen⟩ hs2 hqb hsp rfl
    subst hA
    have hps : pre.length + 1 ≤ 140737488355328 := by
      have := hsp.length_le
      rw [List.length_append, List.length_singleton, bsN_length] at this
      omega
    have cv := hv.cell
    have cm := hm.cell
    obtain ⟨va, vc, rfl⟩ := laOwn_slice hrow
    have HV := Lib.hid hv
    have HR := Lib.hid hrow
    have HM := Lib.hid hm
    have HRB := Lib.hid hr
    have HQR := Lib.hid hqr
    have HQB := Lib.hid hqB
    have HQG := Lib.hid hqg
    have HQM := Lib.hid hqm
    have HBF := Lib.hid hB
    have HQ := Lib.hid hqb
    have HLEN := Lib.hid hlen
    clear hv hrow hqB hqg hqm hB hqb hsp hm hlen hr hqr
    by_cases hge : many ≤ (pre.length : Int)
    · gi_wp2_with fail
      refine ⟨Keeps.refl _ _, ⟨rfl, ?_⟩, ?_, ⟨HRB.out, HQR.out⟩, HBF.out⟩
      · rw [List.dropLast_concat]; exact ⟨hge, HLEN.out⟩
      · rw [List.dropLast_concat]; exact ⟨_, HV.out, HR.out, HQB.out, HQG.out⟩
    · gi_wp2_with (gi_at_builtin; refine park ?_)
      unfold Park
      refine wpListIn_append_own_at _ (hgd := rfl) _ _ 58 rfl w1.heap.size 5 i0 _ 1 1 Try.underlying58 HII.out hy0 hy1 hy2 rfl (by decide) _ pre.length (valsOf .u8 pre) rfl (World.ownsRow.alloc HR.out _) ⟨W2.heap.size, 0, none⟩ 1 1 [.int .u8 (x : Nat)] rfl rfl (cell_byte_new _ _ _) (by simp [Value.oneCell']) (by unfold maxLen; omega) (by omega) (by simp; omega) ?_
      intro v2 w3 own2 grow2 _ at2
      obtain ⟨g', cap', rfl⟩ := ownsRow_succ own2
      obtain ⟨r1, r2, r3, r4, r5⟩ := row_appG (n₀ := w.heap.size) (p := vaP p g) HV.out (by decide) HR.out HQB.out HQG.out HBF.out (by omega) (by omega) (fun k h => (HQ.out k h).2) (fun h => by have := (HPL.out _ h).1; omega) (fun k hk h => by have := (HPL.out _ h).2; omega) own2 grow2 at2
      have r6 := r1.cell
      have r7 := r1.frozen
      have r8 := r1.lt
      have r9 := r2.cell
      have r10 : Boxed (w3.setCell ⟨w.heap.size + 1 + 1 + 1, 0, none⟩ (.slice (some ⟨g', 0, none⟩) (pre.length + 1) cap')) (w.heap.size + 1) 3 (.int .i64 many) := (Below.heap_setCell _ _ _ _ (by simp)).trans (box_beside HM.out (by decide) HR.out grow2)
      have r11 : Boxed (w3.setCell ⟨w.heap.size + 1 + 1 + 1, 0, none⟩ (.slice (some ⟨g', 0, none⟩) (pre.length + 1) cap')) (w.heap.size + 1 + 1) 52 (encStr []) := (Below.heap_setCell _ _ _ _ (by simp)).trans (box_beside HRB.out (by decide) HR.out grow2)
      gi_wp2_with fail
      refine ⟨r3, ?_, ⟨r10, HQM.out⟩, ⟨r11, HQR.out⟩, r5, ?_⟩
      · rw [List.length_append, List.length_singleton, valsOf_append]; exact r4
      · have := HLEN.out
        rw [List.length_append, List.length_singleton]
        omega
  case done =>
    rintro D ys W2 hD rfl ⟨⟨v', hv, hrow, hqB, hqg⟩, ⟨hm, hqm⟩, ⟨hr, hqr⟩, hB, hlen⟩ hK'
    subst hA
    have HTK : Hid (s.take many.toNat = s) := show _ = _ from List.take_of_length_le (by rw [bsN_length] at hlen; omega)
    have hct := conv_text 50 Try.underlying50 (own_sl hrow)
    have cv := hv.cell
    have cr := hr.cell
    have fr := hr.frozen
    have lr := hr.lt
    have HR := Lib.hid hr
    have HB := Lib.hid hB
    have HDD := Lib.hid hD
    have HQR := Lib.hid hqr
    have HK := Lib.hid hK'
    clear hv hrow hqB hqg hB hm hqm hr hqr hlen hD hK'
    gi_wp2_with fail
    refine leaves_one (D := D) ((Below.heap_setCell _ _ _ D (by
      intro e
      have hk := HK.out
      rw [e] at hk
      have := HR.out.symm.trans hk
      cases this)).trans HK.out) fun W' ht hc => ⟨namV s, ?_, by rw [HTK.out], ?_⟩
    · have hc4 : Boxed W' (w.heap.size + 1 + 1) 52 (encStr s) := hc _ _ _ _ (HR.out.set (encStr s))
      simp [results, Try.results28, go_sem, hc4.cell]
    · exact ((HB.out.1.setCell (p := ⟨w.heap.size + 1 + 1, 0, none⟩) (show w.heap.size ≤ w.heap.size + 1 + 1 by omega) _)).trans (ht.below (B := w.heap.size) (fun k h => by have := HDD.out; have := HB1.out.size; omega) (by simp [World.setCell]; exact HB.out.2.1))
  case stop =>
    rintro D cd pre W2 hD hpre ⟨⟨rfl, hlo, hhi⟩, ⟨v', hv, hrow, hqB, hqg⟩, ⟨hr, hqr⟩, hB⟩ hK'
    subst hA
    have hpp : pre.dropLast = bsN (s.take many.toNat) := by
      have h1 : pre.dropLast <+: bsN s := (List.dropLast_prefix pre).trans hpre
      rw [take_bsN, List.prefix_iff_eq_take.1 h1]
      by_cases h0 : 0 ≤ many
      · rw [show pre.dropLast.length = many.toNat by omega]
      · rw [show pre.dropLast.length = 0 by omega, show many.toNat = 0 by omega]
    rw [hpp] at hrow
    have hlq : (bsN (s.take many.toNat)).length = pre.dropLast.length := by rw [hpp]
    have hct := conv_text 50 Try.underlying50 (own_sl hrow)
    have cv := hv.cell
    have cr := hr.cell
    have fr := hr.frozen
    have lr := hr.lt
    have HR := Lib.hid hr
    have HB := Lib.hid hB
    have HDD := Lib.hid hD
    have HK := Lib.hid hK'
    clear hv hrow hqB hqg hB hr hqr hlo hhi hD hK' hpp hlq hpre
    generalize hs2 : s.take many.toNat = s2 at *
    gi_wp2_with fail
    refine leaves_one (D := D) ((Below.heap_setCell _ _ _ D (by
      intro e
      have hk := HK.out
      rw [e] at hk
      have := HR.out.symm.trans hk
      cases this)).trans HK.out) fun W' ht hc => ⟨namV s2, ?_, by rw [hs2], ?_⟩
    · have hc4 : Boxed W' (w.heap.size + 1 + 1) 52 (encStr s2) := hc _ _ _ _ (HR.out.set (encStr s2))
      simp [results, Try.results28, go_sem, hc4.cell]
    · exact ((HB.out.1.setCell (p := ⟨w.heap.size + 1 + 1, 0, none⟩) (show w.heap.size ≤ w.heap.size + 1 + 1 by omega) _)).trans (ht.below (B := w.heap.size) (fun k h => by have := HDD.out; have := HB1.out.size; omega) (by simp [World.setCell]; exact HB.out.2.1))
end Go.Proofs.Ytoaloeipgadkjaa
