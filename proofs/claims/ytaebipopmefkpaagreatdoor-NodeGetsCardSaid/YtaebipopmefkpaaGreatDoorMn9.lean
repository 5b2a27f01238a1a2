/-
  Texts LaE to LaH, as one.
-/
import Derived.Test.YtaebipopmefkpaaGreatDoorMn8
import Derived.Laws.EntriesVeiled
import Derived.ScopeJumps
import Derived.WalkMore
import Derived.Deep.DeepMust
import Derived.Deep.RegionHeld3
/-
  label: the first bytes.
-/
namespace Go.Proofs.YtaebipopmefkpaaGreatDoor
open Go.RowKit Go.Shelf Go.Sort
attribute [local go_sem] Oper.semAt_some

/-- In the rounds of first. -/
def FirI (w : World) (n₁ b m r : Nat) (many : Int) (pre : List Nat) (q : Nat → Prop) (W : World) : Prop :=
  RowG n₁ b 172 5 1 pre.length (valsOf .u8 pre) q W ∧ BoxF m 3 (.int .i64 many) q W ∧ BoxF r 212 (encStr []) q W ∧ BelowF w.heap.size w q W ∧ (pre.length : Int) ≤ max 0 many
theorem abides_fir (w : World) (n₁ b m r : Nat) (many : Int) : Abides (FirI w n₁ b m r many) := Abides.and (abides_rowG _ _ _ _ _ (fun pre : List Nat => pre.length) (fun pre => valsOf .u8 pre)) (Abides.and (Abides.box _ _ (fun _ => .int .i64 many)) (Abides.and (Abides.box _ _ (fun _ => encStr [])) (Abides.and (Abides.below _ _) (Abides.pure (fun pre : List Nat => (pre.length : Int) ≤ max 0 many)))))
/-- Where they are left. -/
def FirX (w : World) (n₁ b r : Nat) (many : Int) (cd : Code) (ys : List Nat) (q : Nat → Prop) (W : World) : Prop :=
  (cd = .exit 0 ∧ (many ≤ (ys.dropLast.length : Int) ∧ (ys.dropLast.length : Int) ≤ max 0 many)) ∧ RowG n₁ b 172 5 1 ys.dropLast.length (valsOf .u8 ys.dropLast) q W ∧ BoxF r 212 (encStr []) q W ∧ BelowF w.heap.size w q W
theorem abides_firx (w : World) (n₁ b r : Nat) (many : Int) (cd : Code) : Abides (FirX w n₁ b r many cd) := Abides.and (Abides.pure (fun ys : List Nat => cd = .exit 0 ∧ (many ≤ (ys.dropLast.length : Int) ∧ (ys.dropLast.length : Int) ≤ max 0 many))) (Abides.and (abides_rowG _ _ _ _ _ (fun ys : List Nat => ys.dropLast.length) (fun ys => valsOf .u8 ys.dropLast)) (Abides.and (Abides.box _ _ (fun _ => encStr [])) (Abides.below _ _)))
theorem take_bsN (s : List UInt8) (k : Nat) : bsN (s.take k) = (bsN s).take k := by simp [bsN, List.map_take]
theorem laOwn_slice {W : World} {base size n : Nat} {e : TypeId} {v : Value} {xs : List Value} (h : W.ownsRow base e size v n xs) : ∃ a c, v = .slice a n c := by
  rcases h.2 with ⟨rfl, hx⟩ | ⟨g, cap, cur, rfl, _⟩
  · exact ⟨none, 0, by have := h.1; simp_all⟩
  · exact ⟨_, _, rfl⟩
/-- A box beside a row that grows. -/
theorem box_beside {W w3 : World} {b n₁ size n : Nat} {t e : TypeId} {u v : Value} {xs : List Value} {tmp : Obj} (h : Boxed W b t u) (hte : t ≠ e) (hr : W.ownsRow n₁ e size v n xs) (hg : (W.alloc tmp).grownBy w3 v.ownBlock) : Boxed w3 b t u :=
  (hg.block b (by have := h.lt; simp; omega) (h.not_row hte hr)).trans ((Below.heap_alloc _ _ _ h.lt).trans h)
theorem cell_byte_new (w : World) (x : Value) (t : TypeId) : ∀ j u, [x][j]? = some u → (w.alloc (.cells #[x] t)).cell? ((⟨w.heap.size, 0, none⟩ : Addr).add j) = some u := by
  intro j u hj
  match j, hj with
  | 0, hj => simp at hj; subst hj; simp [go_sem, Addr.add]
set_option maxRecDepth 100000 in
set_option maxHeartbeats 4000000 in
theorem laFirst_any (s : List UInt8) (many : Int) (hl : s.length ≤ 140737488355328) (w : World) :
    Calls Tryz.prog 138 #[namV s, .int .i64 many] w fun e w' => e = .returned (namV (s.take many.toNat)) ∧ Below w.heap.size w w' := by
  obtain ⟨W4, hW4⟩ : ∃ W4, (((w.alloc (.cells #[encStr s] 212)).alloc (.cells #[.int .i64 many] 3)).alloc (.cells #[encStr []] 212)).alloc (.cells #[.slice none 0 0] 172) = W4 := ⟨_, rfl⟩
  have b4 : Below w.heap.size w W4 := by rw [← hW4]; exact (by repeat (first | exact Below.refl _ _ | assumption | refine Below.drew ?_ | refine below_drewN ?_ _ | refine Below.alloc ?_ (by (try simp) <;> omega) _ | refine Below.setCell ?_ (by (try simp) <;> omega) _ | refine Below.trans ?_ (Below.mono (by assumption) (by (try simp) <;> omega))))
  have z4 : W4.heap.size = w.heap.size + 4 := by rw [← hW4]; simp
  have j0 : Boxed W4 w.heap.size 212 (encStr s) := by rw [← hW4]; unfold Boxed; (simp only [heap_at, World.size_alloc]; repeat (first | rw [if_pos (by omega)] | rw [if_neg (by omega)] | rw [if_pos trivial]))
  have j1 : Boxed W4 (w.heap.size + 1) 3 (.int .i64 many) := by rw [← hW4]; unfold Boxed; (simp only [heap_at, World.size_alloc]; repeat (first | rw [if_pos (by omega)] | rw [if_neg (by omega)] | rw [if_pos trivial]))
  have j2 : Boxed W4 (w.heap.size + 1 + 1) 212 (encStr []) := by rw [← hW4]; unfold Boxed; (simp only [heap_at, World.size_alloc]; repeat (first | rw [if_pos (by omega)] | rw [if_neg (by omega)] | rw [if_pos trivial]))
  have j3 : Boxed W4 (w.heap.size + 1 + 1 + 1) 172 (.slice none 0 0) := by rw [← hW4]; unfold Boxed; (simp only [heap_at, World.size_alloc]; repeat (first | rw [if_pos (by omega)] | rw [if_neg (by omega)] | rw [if_pos trivial]))
  obtain ⟨i0, hi, hy0, hy1, hy2⟩ := info_parts infoU8
  have HII := Lib.hid hi
  clear hi
  have HBY := Lib.hid (laBytes_any s W4)
  have HW4 := Lib.hid hW4
  have HB4 := Lib.hid b4
  have HZ4 := Lib.hid z4
  have HJ1 := Lib.hid j1
  have HJ2 := Lib.hid j2
  have HJ3 := Lib.hid j3
  clear hW4 b4 z4 j1 j2 j3
  have cj := j0.cell
  clear j0
  refine (callsIn_wide (n := 9)).1 ?_
  refine callsIn_of_wp_marks Tryz.func138 rfl trivial ?_ rfl
  simp only [Tryz.ntmps138, List.size_toArray, List.length_cons, List.length_nil, Nat.reduceAdd, Nat.reduceSub, Array.replicate_succ, Array.replicate_zero, List.push_toArray, List.append_toArray, List.nil_append, List.cons_append]
  gi_wp2_with fail
  refine wpIn_scope_straight ?_
  gi_wp2_with fail
  refine wpIn_label ?_
  gi_wp2_with fail
  rw [HW4.out]
  refine ⟨trivial, ?_⟩
  refine (callsIn_wide.2 HBY.out).mono ?_
  rintro e w1 ⟨p, g, c, rfl, hbx, hsl, hp, hg, hgl, hb1⟩
  have hz4 := HZ4.out
  have hz1 := hb1.size
  have HB1 : Hid (Below w.heap.size w w1) := show Below _ _ _ from HB4.out.trans (hb1.mono HB4.out.size)
  have HK1 : Hid (Boxed w1 (w.heap.size + 1) 3 (.int .i64 many)) := show Boxed _ _ _ _ from (hb1.block _ (by omega)).trans HJ1.out
  have HK2 : Hid (Boxed w1 (w.heap.size + 1 + 1) 212 (encStr [])) := show Boxed _ _ _ _ from (hb1.block _ (by omega)).trans HJ2.out
  have HK3 : Hid (Boxed w1 (w.heap.size + 1 + 1 + 1) 172 (.slice none 0 0)) := show Boxed _ _ _ _ from (hb1.block _ (by omega)).trans HJ3.out
  have HSQ := Lib.hid (values_seq 8 (by decide) (xs := bsN s) w1 (by rw [bsN_length]; exact hbx) (by rw [bsN_length]; exact hsl) hgl (by rw [bsN_length]; exact hl))
  have HPL : Hid (∀ k, vaP p g k → W4.heap.size ≤ k ∧ k < w1.heap.size) := show ∀ k, _ from fun k hk => by
    rcases hk with rfl | rfl
    · exact ⟨hp, hbx.lt⟩
    · exact ⟨hg, hgl⟩
  have HI0 : Hid (FirI w w1.heap.size (w.heap.size + 1 + 1 + 1) (w.heap.size + 1) (w.heap.size + 1 + 1) many [] (fun _ => False) w1) := show FirI _ _ _ _ _ _ _ _ _ from
    ⟨⟨_, HK3.out, World.ownsRow_nil _ _ _ _, id, fun g e => by cases e⟩, ⟨HK1.out, id⟩, ⟨HK2.out, id⟩, ⟨HB1.out, HB1.out.size, fun _ h => h.elim⟩, by simp only [List.length_nil]; omega⟩
  clear hbx hsl hp hg hgl hb1
  gi_wp2_with fail
  generalize hA : ({ tmps := _, defers := _ } : Act) = A0
  refine wpIn_range_F (n := 9) (by decide) (gf := 161) (lb := #[.pointer (some ⟨p, 0, none⟩)]) (by rw [← hA]; rfl) (enters_of Tryz.func161 (by kernel_rfl) rfl) HSQ.out (fun k hk => (HPL.out k hk).2) (Below.refl _ _) (fun _ => rfl)
    (FirI w w1.heap.size (w.heap.size + 1 + 1 + 1) (w.heap.size + 1) (w.heap.size + 1 + 1) many) (FirX w w1.heap.size (w.heap.size + 1 + 1 + 1) (w.heap.size + 1 + 1) many) (abides_fir _ _ _ _ _ _) (abides_firx _ _ _ _ _) HI0.out
    (fun x a' _ => a' = { tmps := (A0.tmps.setIfInBounds 10 (.int .u8 (x : Nat))).setIfInBounds 6 (.int .u8 (x : Nat)), defers := [] })
    (fun x a' W1 o h => h)
    ?assign ?body ?done ?stop
  case assign =>
    rintro l2 x W2 K hsz hK
    subst hA
    unfold encB
    dsimp only
    gi_wp2_with fail
    refine hK _ _ ?_ (Below.refl _ _)
    rfl
  case body =>
    rintro l2 pre x a' q2 W2 ⟨⟨v', hv, hrow, hqB, hqg⟩, ⟨hm, hqm⟩, ⟨hr, hqr⟩, hB, hlen⟩ hs2 hqb hsp rfl
    subst hA
    have hps : pre.length + 1 ≤ 140737488355328 := by
      have := hsp.length_le
      rw [List.length_append, List.length_singleton, bsN_length] at this
      omega
    have cv := hv.cell
    have cm := hm.cell
    obtain ⟨va, vc, rfl⟩ := laOwn_slice hrow
    have HV := Lib.hid hv
    have HR := Lib.hid hrow
    have HM := Lib.hid hm
    have HRB := Lib.hid hr
    have HQR := Lib.hid hqr
    have HQB := Lib.hid hqB
    have HQG := Lib.hid hqg
    have HQM := Lib.hid hqm
    have HBF := Lib.hid hB
    have HQ := Lib.hid hqb
    have HLEN := Lib.hid hlen
    clear hv hrow hqB hqg hqm hB hqb hsp hm hlen hr hqr
    by_cases hge : many ≤ (pre.length : Int)
    · gi_wp2_with fail
      refine ⟨Keeps.refl _ _, ⟨rfl, ?_⟩, ?_, ⟨HRB.out, HQR.out⟩, HBF.out⟩
      · rw [List.dropLast_concat]; exact ⟨hge, HLEN.out⟩
      · rw [List.dropLast_concat]; exact ⟨_, HV.out, HR.out, HQB.out, HQG.out⟩
    · gi_wp2_with (gi_at_builtin; refine park ?_)
      unfold Park
      refine wpListIn_append_own_at _ (hgd := rfl) _ _ 172 rfl w1.heap.size 5 i0 _ 1 1 Tryz.underlying172 HII.out hy0 hy1 hy2 rfl (by decide) _ pre.length (valsOf .u8 pre) rfl (World.ownsRow.alloc HR.out _) ⟨W2.heap.size, 0, none⟩ 1 1 [.int .u8 (x : Nat)] rfl rfl (cell_byte_new _ _ _) (by simp [Value.oneCell']) (by unfold maxLen; omega) (by omega) (by simp; omega) ?_
      intro v2 w3 own2 grow2 _ at2
      obtain ⟨g', cap', rfl⟩ := ownsRow_succ own2
      obtain ⟨r1, r2, r3, r4, r5⟩ := row_appG (n₀ := w.heap.size) (p := vaP p g) HV.out (by decide) HR.out HQB.out HQG.out HBF.out (by omega) (by omega) (fun k h => (HQ.out k h).2) (fun h => by have := (HPL.out _ h).1; omega) (fun k hk h => by have := (HPL.out _ h).2; omega) own2 grow2 at2
      have r6 := r1.cell
      have r7 := r1.frozen
      have r8 := r1.lt
      have r9 := r2.cell
      have r10 : Boxed (w3.setCell ⟨w.heap.size + 1 + 1 + 1, 0, none⟩ (.slice (some ⟨g', 0, none⟩) (pre.length + 1) cap')) (w.heap.size + 1) 3 (.int .i64 many) := (Below.heap_setCell _ _ _ _ (by simp)).trans (box_beside HM.out (by decide) HR.out grow2)
      have r11 : Boxed (w3.setCell ⟨w.heap.size + 1 + 1 + 1, 0, none⟩ (.slice (some ⟨g', 0, none⟩) (pre.length + 1) cap')) (w.heap.size + 1 + 1) 212 (encStr []) := (Below.heap_setCell _ _ _ _ (by simp)).trans (box_beside HRB.out (by decide) HR.out grow2)
      gi_wp2_with fail
      refine ⟨r3, ?_, ⟨r10, HQM.out⟩, ⟨r11, HQR.out⟩, r5, ?_⟩
      · rw [List.length_append, List.length_singleton, valsOf_append]; exact r4
      · have := HLEN.out
        rw [List.length_append, List.length_singleton]
        omega
  case done =>
    rintro D ys W2 hD rfl ⟨⟨v', hv, hrow, hqB, hqg⟩, ⟨hm, hqm⟩, ⟨hr, hqr⟩, hB, hlen⟩ hK'
    subst hA
    have HTK : Hid (s.take many.toNat = s) := show _ = _ from List.take_of_length_le (by rw [bsN_length] at hlen; omega)
    have hct := conv_text 210 Tryz.underlying210 (own_sl hrow)
    have cv := hv.cell
    have cr := hr.cell
    have fr := hr.frozen
    have lr := hr.lt
    have HR := Lib.hid hr
    have HB := Lib.hid hB
    have HDD := Lib.hid hD
    have HQR := Lib.hid hqr
    have HK := Lib.hid hK'
    clear hv hrow hqB hqg hB hm hqm hr hqr hlen hD hK'
    gi_wp2_with fail
    refine leaves_one (D := D) ((Below.heap_setCell _ _ _ D (by
      intro e
      have hk := HK.out
      rw [e] at hk
      have := HR.out.symm.trans hk
      cases this)).trans HK.out) fun W' ht hc => ⟨namV s, ?_, by rw [HTK.out], ?_⟩
    · have hc4 : Boxed W' (w.heap.size + 1 + 1) 212 (encStr s) := hc _ _ _ _ (HR.out.set (encStr s))
      simp [results, Tryz.results138, go_sem, hc4.cell]
    · exact ((HB.out.1.setCell (p := ⟨w.heap.size + 1 + 1, 0, none⟩) (show w.heap.size ≤ w.heap.size + 1 + 1 by omega) _)).trans (ht.below (B := w.heap.size) (fun k h => by have := HDD.out; have := HB1.out.size; omega) (by simp [World.setCell]; exact HB.out.2.1))
  case stop =>
    rintro D cd pre W2 hD hpre ⟨⟨rfl, hlo, hhi⟩, ⟨v', hv, hrow, hqB, hqg⟩, ⟨hr, hqr⟩, hB⟩ hK'
    subst hA
    have hpp : pre.dropLast = bsN (s.take many.toNat) := by
      have h1 : pre.dropLast <+: bsN s := (List.dropLast_prefix pre).trans hpre
      rw [take_bsN, List.prefix_iff_eq_take.1 h1]
      by_cases h0 : 0 ≤ many
      · rw [show pre.dropLast.length = many.toNat by omega]
      · rw [show pre.dropLast.length = 0 by omega, show many.toNat = 0 by omega]
    rw [hpp] at hrow
    have hlq : (bsN (s.take many.toNat)).length = pre.dropLast.length := by rw [hpp]
    have hct := conv_text 210 Tryz.underlying210 (own_sl hrow)
    have cv := hv.cell
    have cr := hr.cell
    have fr := hr.frozen
    have lr := hr.lt
    have HR := Lib.hid hr
    have HB := Lib.hid hB
    have HDD := Lib.hid hD
    have HK := Lib.hid hK'
    clear hv hrow hqB hqg hB hr hqr hlo hhi hD hK' hpp hlq hpre
    generalize hs2 : s.take many.toNat = s2 at *
    gi_wp2_with fail
    refine leaves_one (D := D) ((Below.heap_setCell _ _ _ D (by
      intro e
      have hk := HK.out
      rw [e] at hk
      have := HR.out.symm.trans hk
      cases this)).trans HK.out) fun W' ht hc => ⟨namV s2, ?_, by rw [hs2], ?_⟩
    · have hc4 : Boxed W' (w.heap.size + 1 + 1) 212 (encStr s2) := hc _ _ _ _ (HR.out.set (encStr s2))
      simp [results, Tryz.results138, go_sem, hc4.cell]
    · exact ((HB.out.1.setCell (p := ⟨w.heap.size + 1 + 1, 0, none⟩) (show w.heap.size ≤ w.heap.size + 1 + 1 by omega) _)).trans (ht.below (B := w.heap.size) (fun k h => by have := HDD.out; have := HB1.out.size; omega) (by simp [World.setCell]; exact HB.out.2.1))
end Go.Proofs.YtaebipopmefkpaaGreatDoor

/-
  Contracts of slices.ContainsFunc at word's predicate, and of word.Bytes.
-/
namespace Go.Proofs.YtaebipopmefkpaaGreatDoor
open Go.RowKit Go.Shelf

theorem pred_any (x : Nat) (w : World) : Calls Tryz.prog 153 #[.int .u8 x] w fun e w' => e = .returned (.bool (decide (x ≠ 0))) ∧ w = w' := by
  go_enter Tryz.func153, Tryz.ntmps153
  go_wp2
  go_ret
  exact ⟨ret_bool (by rw [Bool.eq_iff_iff, bne_iff_ne, decide_eq_true_iff]; omega), rfl⟩
/-- What IndexFunc answers: at least 0 just where a byte is not nought. -/
def IdxOut (xs : List Nat) (e : Ending) : Prop := ∃ r : Int, e = .returned (.int .i64 r) ∧ -1 ≤ r ∧ r ≤ 4611686018427387904 ∧ (0 ≤ r ↔ ∃ j, j < xs.length ∧ xs[j]?.getD 0 ≠ 0)
theorem index_any (v : Value) (xs : List Nat) (hl : xs.length ≤ 140737488351232) (w : World) (hs : Sl w .u8 v xs) :
    Calls Tryz.prog 160 #[v, .func (.func 153) #[] #[]] w fun e w' => IdxOut xs e ∧ w = w' := by
  obtain ⟨a, c, b, off, rfl, hlc, ha, hc⟩ := hs.cell
  clear hs
  have HC := Lib.hid hc; clear hc
  generalize hm : xs.length = m at *
  have HM := Lib.hid hm; clear hm
  go_enter Tryz.func160, Tryz.ntmps160
  go_wp2
  go_loop [5, 8] (fun _ i => ∃ k : Nat, k ≤ m ∧ i = .int .i64 k ∧ (∀ j, j < k → xs[j]?.getD 0 = 0)) (fun _ i => m - (intOf i).toNat)
  case atStart => exact ⟨0, by omega, rfl, fun j h => by omega⟩
  case round =>
    obtain ⟨k, hk, rfl, hz⟩ := hrel
    have HZ := Lib.hid hz; clear hz
    by_cases hlt : k < m
    · obtain rfl := ha (by omega)
      have c1 : w.cell? ⟨b, off + k, none⟩ = some (.int .u8 (xs[k]?.getD 0 : Nat)) := (HC.out (by omega)).2 k hlt
      obtain ⟨x, hx1⟩ : ∃ x, x = xs[k]?.getD 0 := ⟨_, rfl⟩
      rw [← hx1] at c1
      have HX := Lib.hid hx1; clear hx1
      by_cases hx0 : x = 0
      · have HD := Lib.hid (show decide (x ≠ 0) = false from decide_eq_false (by omega))
        have HX0 := Lib.hid hx0; clear hx0
        go_wp2_with fail
        refine (pred_any x _).mono ?_
        rintro e w1 ⟨rfl, rfl⟩
        rw [HD.out]
        go_wp2_with fail
        go_round
        case rel => exact ⟨k + 1, by omega, by go_num, fun j hj => by
          by_cases hjk : j = k
          · rw [hjk, ← HX.out]; exact HX0.out
          · exact HZ.out j (by omega)⟩
        case measure => simp [intOf]; omega
      · have HD := Lib.hid (show decide (x ≠ 0) = true from decide_eq_true hx0)
        go_wp2_with fail
        refine (pred_any x _).mono ?_
        rintro e w1 ⟨rfl, rfl⟩
        rw [HD.out]
        go_wp2_with fail
        go_ret
        exact ⟨⟨k, rfl, by omega, by omega, ⟨fun _ => ⟨k, by rw [HM.out]; omega, by rw [← HX.out]; exact hx0⟩, fun _ => by omega⟩⟩, rfl⟩
    · obtain rfl : k = m := by omega
      go_wp2
      go_ret
      exact ⟨⟨-1, rfl, by omega, by omega, ⟨fun h => by omega, fun ⟨j, h1, h2⟩ => absurd (HZ.out j (by rw [HM.out] at h1; exact h1)) h2⟩⟩, rfl⟩
theorem contains_any (v : Value) (xs : List Nat) (hl : xs.length ≤ 140737488351232) (w : World) (hs : Sl w .u8 v xs) :
    Calls Tryz.prog 152 #[v, .func (.func 153) #[] #[]] w fun e w' => e = .returned (.bool (xs.any (· != 0))) ∧ w = w' := by
  have HI := Lib.hid (index_any v xs hl w hs)
  obtain ⟨a, c, b, off, rfl, -, -, -⟩ := hs.cell
  clear hs
  go_enter Tryz.func152, Tryz.ntmps152
  go_wp2_with fail
  refine HI.out.mono ?_
  rintro e w1 ⟨⟨r, rfl, hr1, hr2, hr3⟩, rfl⟩
  have HR := Lib.hid hr3; clear hr3
  go_wp2_with fail
  go_ret
  refine ⟨ret_bool ?_, rfl⟩
  rw [Bool.eq_iff_iff, decide_eq_true_iff, HR.out, List.any_eq_true]
  constructor
  · rintro ⟨j, h1, h2⟩
    refine ⟨xs[j], List.getElem_mem h1, ?_⟩
    rw [List.getElem?_eq_getElem h1] at h2
    simpa using h2
  · rintro ⟨x, h1, h2⟩
    obtain ⟨j, hj, rfl⟩ := List.getElem_of_mem h1
    exact ⟨j, hj, by rw [List.getElem?_eq_getElem hj]; simpa using h2⟩
set_option maxHeartbeats 1000000 in
theorem bytes_neg (v : Value) (l : List Nat) (many : Int) (h : many < 0) (_ : -9223372036854775808 ≤ many) (w : World) (hs : Sl w .u64 v l) :
    Calls Tryz.prog 146 #[v, .int .i64 many] w fun e w' => e = .returned (.tuple #[.slice none 0 0, .int .i64 2]) ∧ Below w.heap.size w w' := by
  obtain ⟨a, c, b, off, rfl, -, -, -⟩ := hs.cell
  clear hs
  go_enter Tryz.func146, Tryz.ntmps146
  go_wp2
  refine wp_scope_forward 0 rfl ?_
  go_wp2
  go_step3
  refine ⟨rfl, ?_⟩
  go_wp2
  rw [Exit.jump_ret]
  go_ret2
  exact ⟨rfl, Below.refl _ _⟩
set_option maxHeartbeats 1000000 in
theorem bytes_long1 (v : Value) (l : List Nat) (many : Int) (h : 4096 < many) (w : World) (hs : Sl w .u64 v l) :
    Calls Tryz.prog 146 #[v, .int .i64 many] w fun e w' => e = .returned (.tuple #[.slice none 0 0, .int .i64 3]) ∧ Below w.heap.size w w' := by
  obtain ⟨a, c, b, off, rfl, -, -, -⟩ := hs.cell
  clear hs
  go_enter Tryz.func146, Tryz.ntmps146
  go_wp2
  refine wp_scope_forward 0 rfl ?_
  go_wp2
  go_step3
  refine ⟨rfl, ?_⟩
  go_wp2
  rw [Exit.jump_ret]
  go_ret2
  exact ⟨rfl, Below.refl _ _⟩
set_option maxHeartbeats 1000000 in
theorem bytes_long2 (v : Value) (l : List Nat) (many : Int) (h0 : 0 ≤ many) (h : many ≤ 4096) (h2 : 4096 < l.length) (h3 : l.length ≤ 140737488351232) (w : World) (hs : Sl w .u64 v l) :
    Calls Tryz.prog 146 #[v, .int .i64 many] w fun e w' => e = .returned (.tuple #[.slice none 0 0, .int .i64 3]) ∧ Below w.heap.size w w' := by
  obtain ⟨a, c, b, off, rfl, -, -, -⟩ := hs.cell
  clear hs
  have h2' : (4096 : Int) < (l.length : Int) := by omega
  go_enter Tryz.func146, Tryz.ntmps146
  go_wp2
  refine wp_scope_forward 0 rfl ?_
  go_wp2
  go_step3
  refine ⟨rfl, ?_⟩
  go_wp2
  rw [Exit.jump_ret]
  go_ret2
  exact ⟨rfl, Below.refl _ _⟩
set_option maxHeartbeats 1000000 in
theorem bytes_range (v : Value) (l : List Nat) (many : Int) (h0 : 0 ≤ many) (h : many ≤ 4096) (h2 : l.length ≤ 4096) (h3 : 8 * (l.length : Int) < many) (w : World) (hs : Sl w .u64 v l) :
    Calls Tryz.prog 146 #[v, .int .i64 many] w fun e w' => e = .returned (.tuple #[.slice none 0 0, .int .i64 4]) ∧ Below w.heap.size w w' := by
  obtain ⟨a, c, b, off, rfl, -, -, -⟩ := hs.cell
  clear hs
  have h2' : (l.length : Int) ≤ 4096 := by omega
  go_enter Tryz.func146, Tryz.ntmps146
  go_wp2
  refine wp_scope_forward 0 rfl ?_
  go_wp2
  go_step3
  refine ⟨rfl, ?_⟩
  go_wp2
  rw [Exit.jump_ret]
  go_ret2
  exact ⟨rfl, Below.refl _ _⟩
set_option maxHeartbeats 1000000 in
theorem bytes_tail1 (v : Value) (l : List Nat) (many : Nat) (h : many ≤ 4096) (h2 : l.length ≤ 4096) (h3 : many ≤ 8 * l.length) (h4 : WM.need many < l.length) (w : World) (hs : Sl w .u64 v l) :
    Calls Tryz.prog 146 #[v, .int .i64 many] w fun e w' => e = .returned (.tuple #[.slice none 0 0, .int .i64 110]) ∧ Below w.heap.size w w' := by
  obtain ⟨a, c, b, off, rfl, -, -, -⟩ := hs.cell
  clear hs
  have k1 : (many : Int) ≤ 4096 := by omega
  have k2 : (l.length : Int) ≤ 4096 := by omega
  have k3 : (many : Int) ≤ 8 * (l.length : Int) := by omega
  have k4 : ((WM.need many : Nat) : Int) < (l.length : Int) := by omega
  go_enter Tryz.func146, Tryz.ntmps146
  go_wp2
  refine wp_scope_forward 0 rfl ?_
  go_wp2_with fail
  refine (need_any many h _).mono ?_
  rintro e w1 ⟨rfl, rfl⟩
  go_wp2_with fail
  go_step3
  refine ⟨rfl, ?_⟩
  go_wp2
  rw [Exit.jump_ret]
  go_ret2
  exact ⟨rfl, Below.refl _ _⟩
theorem drop_sl {W : World} {n₀ g cap n many : Nat} {l : List Nat} (hn : n = 8 * l.length) (hrow : W.ownsRow n₀ 5 1 (.slice (some ⟨g, 0, none⟩) n cap) n (splitVals l l.length)) (hm : many ≤ n) :
    Sl W .u8 (.slice (some ⟨g, if many = cap then 0 else many, none⟩) (n - many) (cap - many)) ((WM.bytesOf l).drop many) := by
  subst hn
  have hlen : ((WM.bytesOf l).drop many).length = 8 * l.length - many := by rw [List.length_drop, WM.bytesOf_length]
  have hcap : 8 * l.length ≤ cap := by
    rcases hrow.2 with ⟨h0, _⟩ | ⟨g', cap', cur, h0, _, _, hc, _⟩
    · cases h0
    · simp at h0; omega
  refine ⟨_, cap - many, by rw [hlen], by omega, fun h0 => ⟨g, many, ?_, ?_, fun j hj => ?_⟩⟩
  · rw [if_neg (by omega)]
  · exact (hrow.lt g rfl).2
  · rw [World.ownsRow.cellAt hrow (many + j) (by omega), splitVals_eq, List.getElem?_map, List.getElem?_range (by omega)]
    have e : ((WM.bytesOf l).drop many)[j]?.getD 0 = WM.byteAt l (many + j) := (WM.at_drop _ _ _).trans (WM.bytesOf_at l _ (by omega))
    rw [e]; rfl
theorem take_sl {W : World} {n₀ g cap n many c : Nat} {l : List Nat} (hn : n = 8 * l.length) (hrow : W.ownsRow n₀ 5 1 (.slice (some ⟨g, 0, none⟩) n cap) n (splitVals l l.length)) (hm : many ≤ n) (hc : many ≤ c) :
    Sl W .u8 (.slice (some ⟨g, 0, none⟩) many c) ((WM.bytesOf l).take many) := by
  subst hn
  have hlen : ((WM.bytesOf l).take many).length = many := by rw [List.length_take, WM.bytesOf_length]; omega
  refine ⟨_, c, by rw [hlen], by omega, fun h0 => ⟨g, 0, rfl, (hrow.lt g rfl).2, fun j hj => ?_⟩⟩
  rw [Nat.zero_add, World.ownsRow.cellAt hrow j (by omega), splitVals_eq, List.getElem?_map, List.getElem?_range (by omega)]
  have e : ((WM.bytesOf l).take many)[j]?.getD 0 = WM.byteAt l j := (WM.at_take _ _ _ (by omega)).trans (WM.bytesOf_at l _ (by omega))
  rw [e]; rfl
set_option maxHeartbeats 2000000 in
theorem bytes_rest (v : Value) (l : List Nat) (many : Nat) (h64 : Words64 l) (h : many ≤ 4096) (h2 : l.length ≤ 4096) (h3 : many ≤ 8 * l.length) (h4 : l.length ≤ WM.need many) (w : World) (hs : Sl w .u64 v l) :
    Calls Tryz.prog 146 #[v, .int .i64 many] w fun e w' => ((((WM.bytesOf l).drop many).any (· != 0) = true → e = .returned (.tuple #[.slice none 0 0, .int .i64 110])) ∧
      (((WM.bytesOf l).drop many).any (· != 0) = false → ∃ r, e = .returned (.tuple #[r, .int .i64 0]) ∧ Sl w' .u8 r ((WM.bytesOf l).take many))) ∧ Below w.heap.size w w' := by
  have HS := Lib.hid (split_any v l h2 h64 w hs)
  obtain ⟨a, c, b, off, rfl, -, -, -⟩ := hs.cell
  clear hs
  have k1 : (many : Int) ≤ 4096 := by omega
  have k2 : (l.length : Int) ≤ 4096 := by omega
  have k3 : (many : Int) ≤ 8 * (l.length : Int) := by omega
  have k4 : (l.length : Int) ≤ ((WM.need many : Nat) : Int) := by omega
  go_enter Tryz.func146, Tryz.ntmps146
  go_wp2
  refine wp_scope_forward 0 rfl ?_
  go_wp2_with fail
  refine (need_any many h _).mono ?_
  rintro e w1 ⟨rfl, rfl⟩
  go_wp2_with fail
  refine HS.out.mono ?_
  rintro e w2 ⟨g, cap, rfl, hrow, hb2⟩
  have hcap : 8 * l.length ≤ cap := by
    rcases hrow.2 with ⟨h0, _⟩ | ⟨g', cap', cur, h0, _, _, hc, _⟩
    · cases h0
    · simp at h0; omega
  have hsl := Lib.hid (drop_sl rfl hrow h3)
  have HR := Lib.hid hrow; clear hrow
  have k5 : (many : Int) ≤ ((8 * l.length : Nat) : Int) := by omega
  have k6 : ((8 * l.length : Nat) : Int) ≤ (cap : Int) := by omega
  have k7 : (many : Int) ≤ (cap : Int) := by omega
  by_cases hmc : many = cap
  · have HSL : Hid (Sl w2 .u8 (.slice (some ⟨g, 0, none⟩) 0 0) ((WM.bytesOf l).drop many)) := by
      have := hsl.out; rw [if_pos hmc, show 8 * l.length - many = 0 by omega, show cap - many = 0 by omega] at this; exact this
    clear hsl
    subst hmc
    go_wp2_with fail
    refine (contains_any _ _ (by rw [List.length_drop, WM.bytesOf_length]; omega) _ HSL.out).mono ?_
    rintro e w3 ⟨rfl, rfl⟩
    by_cases hany : ((WM.bytesOf l).drop many).any (· != 0) = true
    · have HA := Lib.hid hany
      rw [hany]
      clear hany
      go_wp2_with fail
      go_step3
      refine ⟨rfl, ?_⟩
      go_wp2
      rw [Exit.jump_ret]
      go_ret2
      exact ⟨⟨fun _ => rfl, fun hf => by rw [HA.out] at hf; cases hf⟩, hb2⟩
    · have hany' : ((WM.bytesOf l).drop many).any (· != 0) = false := by simpa using hany
      have HA := Lib.hid hany'
      rw [hany']
      clear hany hany'
      go_wp2_with fail
      rw [Exit.jump_ret]
      go_ret2
      exact ⟨⟨(fun hf => by rw [HA.out] at hf; cases hf), fun _ => ⟨_, rfl, take_sl rfl HR.out h3 (by omega)⟩⟩, hb2⟩
  · have hmc' : ¬ ((many : Nat) = cap) := hmc
    have HSL : Hid (Sl w2 .u8 (.slice (some ⟨g, many, none⟩) (8 * l.length - many) (cap - many)) ((WM.bytesOf l).drop many)) := by
      have := hsl.out; rw [if_neg hmc] at this; exact this
    clear hsl
    go_wp2_with fail
    refine (contains_any _ _ (by rw [List.length_drop, WM.bytesOf_length]; omega) _ HSL.out).mono ?_
    rintro e w3 ⟨rfl, rfl⟩
    by_cases hany : ((WM.bytesOf l).drop many).any (· != 0) = true
    · have HA := Lib.hid hany
      rw [hany]
      clear hany
      go_wp2_with fail
      go_step3
      refine ⟨rfl, ?_⟩
      go_wp2
      rw [Exit.jump_ret]
      go_ret2
      exact ⟨⟨fun _ => rfl, fun hf => by rw [HA.out] at hf; cases hf⟩, hb2⟩
    · have hany' : ((WM.bytesOf l).drop many).any (· != 0) = false := by simpa using hany
      have HA := Lib.hid hany'
      rw [hany']
      clear hany hany'
      go_wp2_with fail
      rw [Exit.jump_ret]
      go_ret2
      exact ⟨⟨(fun hf => by rw [HA.out] at hf; cases hf), fun _ => ⟨_, rfl, take_sl rfl HR.out h3 (by omega)⟩⟩, hb2⟩
end Go.Proofs.YtaebipopmefkpaaGreatDoor

/-
  label: held, Read, Bucket.
-/
namespace Go.Proofs.YtaebipopmefkpaaGreatDoor
open Go.RowKit Go.Shelf Go.Sort

/-- All bytes of words, as a text. -/
def txtN (l : List Nat) : List UInt8 := (WM.bytesOf l).map UInt8.ofNat
theorem txtN_bs (l : List Nat) : bsN (txtN l) = WM.bytesOf l := by
  unfold bsN txtN
  rw [List.map_map]
  have : ∀ x ∈ WM.bytesOf l, (UInt8.toNat ∘ UInt8.ofNat) x = x := fun x hx => by
    unfold WM.bytesOf at hx
    obtain ⟨k, -, rfl⟩ := List.mem_map.1 hx
    have := WM.byteAt_lt l k
    show (UInt8.ofNat _).toNat = _
    simp []
    exact this
  rw [List.map_congr_left this, List.map_id']
theorem txtN_length (l : List Nat) : (txtN l).length = 8 * l.length := by unfold txtN; rw [List.length_map, WM.bytesOf_length]
theorem box5_sl {W : World} {b : Nat} {l : List Nat} (h : Box5 W b l) (hl : l.length = 5) : Sl W .u64 (.slice (some ⟨b, 0, none⟩) 5 5) l := by
  refine ⟨_, 5, by rw [hl], by omega, fun _ => ⟨b, 0, rfl, h.lt, fun j hj => ?_⟩⟩
  obtain ⟨c0, c1, c2, c3, c4⟩ := h.cells
  have : j = 0 ∨ j = 1 ∨ j = 2 ∨ j = 3 ∨ j = 4 := by omega
  rcases this with rfl | rfl | rfl | rfl | rfl
  · exact c0
  · exact c1
  · exact c2
  · exact c3
  · exact c4
set_option maxRecDepth 100000 in
set_option maxHeartbeats 2000000 in
theorem laHeld_any (l : List Nat) (hl : l.length = 5) (h64 : Words64 l) (w : World) :
    Calls Tryz.prog 137 #[.agg (arr5 l)] w fun e w' => e = .returned (namV (txtN l)) ∧ Below w.heap.size w w' := by
  obtain ⟨W2, hW2⟩ : ∃ W2, (w.alloc (.cells (arr5 l) 92)).alloc (.cells #[encStr []] 212) = W2 := ⟨_, rfl⟩
  have b2 : Below w.heap.size w W2 := by rw [← hW2]; exact (by repeat (first | exact Below.refl _ _ | assumption | refine Below.drew ?_ | refine below_drewN ?_ _ | refine Below.alloc ?_ (by (try simp) <;> omega) _ | refine Below.setCell ?_ (by (try simp) <;> omega) _ | refine Below.trans ?_ (Below.mono (by assumption) (by (try simp) <;> omega))))
  have x2 : Box5 W2 w.heap.size l := by rw [← hW2]; exact (Box5.new w l).below ((Below.refl _ _).alloc (Nat.le_refl _) _)
  have y2 : Boxed W2 (w.heap.size + 1) 212 (encStr []) := by rw [← hW2]; unfold Boxed; (simp only [heap_at, World.size_alloc]; repeat (first | rw [if_pos (by omega)] | rw [if_neg (by omega)] | rw [if_pos trivial]))
  have HB := Lib.hid (bytes_rest _ l 40 h64 (by omega) (by omega) (by omega) (by rw [hl]; decide) W2 (box5_sl x2 hl))
  have HD := Lib.hid (show ((WM.bytesOf l).drop 40) = [] from List.drop_of_length_le (by rw [WM.bytesOf_length]; omega))
  have HT := Lib.hid (show (WM.bytesOf l).take 40 = bsN (txtN l) from by rw [txtN_bs]; exact List.take_of_length_le (by rw [WM.bytesOf_length]; omega))
  rw [HD.out, HT.out, show ((40 : Nat) : Int) = 40 from rfl] at HB
  have HW2 := Lib.hid hW2
  have HB2 := Lib.hid b2
  have HY2 := Lib.hid y2
  clear hW2 b2 x2 y2
  go_enter Tryz.func137, Tryz.ntmps137
  go_wp2_with fail
  rw [HW2.out]
  refine HB.out.mono ?_
  rintro e w1 ⟨⟨-, h⟩, hb⟩
  obtain ⟨r, rfl, hs⟩ := h (by rfl)
  have hct := conv_text 210 Tryz.underlying210 hs
  have y1 : Boxed w1 (w.heap.size + 1) 212 (encStr []) := (hb.block _ HY2.out.lt).trans HY2.out
  have HB1 : Hid (Below w.heap.size w w1) := show Below _ _ _ from HB2.out.trans (hb.mono HB2.out.size)
  have HY1 := Lib.hid y1
  have cy := y1.cell
  have fy := y1.frozen
  have ly := y1.lt
  clear hs hb h y1
  go_wp2_with fail
  refine bodyPost_ret (v := namV (txtN l)) (by simp [results, Tryz.results137, go_sem, (HY1.out.set (encStr (txtN l))).cell]) rfl ⟨rfl, ?_⟩
  exact HB1.out.setCell (p := ⟨w.heap.size + 1, 0, none⟩) (Nat.le_succ _) _
/-- What Read tells. -/
def readN (l : List Nat) (many : Int) : List UInt8 := (txtN l).take many.toNat
def isRead (l : List Nat) (many : Int) : Bool := sameOut (readN l many) l many
set_option maxRecDepth 100000 in
set_option maxHeartbeats 2000000 in
theorem laRead_any (l : List Nat) (hl : l.length = 5) (h64 : Words64 l) (many : Int) (w : World) :
    Calls Tryz.prog 121 #[.agg (arr5 l), .int .i64 many] w fun e w' => e = .returned (.tuple #[encStr (if isRead l many then readN l many else []), .int .i64 (if isRead l many then 0 else 161)]) ∧ Below w.heap.size w w' := by
  obtain ⟨W1, hW1⟩ : ∃ W1, w.alloc (.cells (arr5 l) 92) = W1 := ⟨_, rfl⟩
  have HB1 : Hid (Below w.heap.size w W1) := show Below _ _ _ by rw [← hW1]; exact (by repeat (first | exact Below.refl _ _ | assumption | refine Below.drew ?_ | refine below_drewN ?_ _ | refine Below.alloc ?_ (by (try simp) <;> omega) _ | refine Below.setCell ?_ (by (try simp) <;> omega) _ | refine Below.trans ?_ (Below.mono (by assumption) (by (try simp) <;> omega))))
  have x1 : Box5 W1 w.heap.size l := by rw [← hW1]; exact Box5.new w l
  have HX1 := Lib.hid x1
  have HH := Lib.hid (laHeld_any l hl h64 W1)
  have HF := Lib.hid (fun W => laFirst_any (txtN l) many (by rw [txtN_length, hl]; omega) W)
  have HS := Lib.hid (fun W => laSame_any (readN l many) l many W)
  have HT := Lib.hid (fun W => laTold_any (readN l many) W)
  have hfd : ∀ (s : List UInt8) (W : World), (Instr.field 212 (namV s) 0).run Tryz.prog W = .ok (encStr s) W := fun _ _ => by kernel_rfl
  obtain ⟨c0, c1, c2, c3, c4⟩ := x1.cells
  have HW1 := Lib.hid hW1
  clear hW1 x1
  obtain ⟨ir, hir⟩ : ∃ ir, isRead l many = ir := ⟨_, rfl⟩
  rw [show sameOut (readN l many) l many = ir from hir] at HS
  rw [hir, show (txtN l).take many.toNat = readN l many from rfl] at *
  generalize readN l many = s at *
  clear hir hl h64
  go_enter Tryz.func121, Tryz.ntmps121
  go_wp2_with fail
  rw [HW1.out]
  refine HH.out.mono ?_
  rintro e w2 ⟨rfl, hb2⟩
  have HB2 : Hid (Below w.heap.size w w2) := show Below _ _ _ from HB1.out.trans (hb2.mono HB1.out.size)
  have x2 := HX1.out.below hb2
  have HX2 := Lib.hid x2
  clear hb2 c0 c1 c2 c3 c4 x2
  go_wp2_with fail
  refine (HF.out _).mono ?_
  rintro e w3 ⟨rfl, hb3⟩
  have HB3 : Hid (Below w.heap.size w w3) := show Below _ _ _ from HB2.out.trans (hb3.mono HB2.out.size)
  have x3 := HX2.out.below hb3
  have HX3 := Lib.hid x3
  clear hb3 x3
  go_wp2_with fail
  refine (HT.out _).mono ?_
  rintro e w4 ⟨rfl, rfl⟩
  obtain ⟨c0, c1, c2, c3, c4⟩ := HX3.out.cells
  go_wp2_with fail
  refine (HS.out _).mono ?_
  rintro e w4 ⟨rfl, hb4⟩
  have HB4 : Hid (Below w.heap.size w w4) := show Below _ _ _ from HB3.out.trans (hb4.mono HB3.out.size)
  clear hb4 c0 c1 c2 c3 c4
  cases ir with
  | true =>
    go_wp2_with fail
    go_ret2
    exact ⟨rfl, HB4.out⟩
  | false =>
    go_wp2_with fail
    go_ret2
    exact ⟨rfl, HB4.out⟩
/-- A name's bucket. -/
def bucketN (s : List UInt8) : Nat := SM.sumOf (textWords (bsN s)) % 7
def bucketOut (s : List UInt8) : Nat := if rightN s then bucketN s else 0
end Go.Proofs.YtaebipopmefkpaaGreatDoor

/-
  Contracts of the document's Byte and Bytes (waterlineref01).
-/
namespace Go.Proofs.YtaebipopmefkpaaGreatDoor
open Go.RowKit Go.Shelf

theorem refByte_any (v : Value) (l : List Nat) (i : Nat) (hl : l.length ≤ 140737488351232) (h64 : Words64 l) (hi : i < 8 * l.length) (w : World) (hs : Sl w .u64 v l) :
    Calls Tryz.prog 77 #[v, .int .i64 i] w fun e w' => e = .returned (.int .u8 (WM.byteAt l i : Nat)) ∧ Below w.heap.size w w' := by
  obtain ⟨a, c, b, off, rfl, hlc, ha, hc⟩ := hs.cell
  clear hs
  obtain rfl := ha (by omega)
  obtain ⟨hb0, hc0⟩ := hc (by omega)
  have c1 := hc0 (i / 8) (by omega)
  clear hc hc0 ha
  obtain ⟨x, hx1⟩ : ∃ x, x = l[i / 8]?.getD 0 := ⟨_, rfl⟩
  have hx := h64 (i / 8)
  rw [← hx1] at c1 hx
  have HX : Hid (WM.getN x (8 * (i % 8)) 8 = WM.byteAt l i) := by rw [hx1]; rfl
  clear hx1
  have hbl : WM.getN x (8 * (i % 8)) 8 < 256 := WM.getN_lt x (8 * (i % 8)) 8
  have k1 : (i : Int) / 8 < (l.length : Int) := by omega
  have k2 : (i : Int) ≤ 9223372036854775807 := by omega
  have e1 : 8 * ((i : Int) % 8) = ((8 * (i % 8) : Nat) : Int) := by omega
  have H1 := Lib.hid e1; clear e1
  go_enter Tryz.func77, Tryz.ntmps77
  go_wp2_with fail
  rw [H1.out]
  refine (refGet_any x (8 * (i % 8)) 8 (by omega) hx _).mono ?_
  rintro e w1 ⟨rfl, hb1⟩
  rw [HX.out] at hbl ⊢
  have hb3 : ((WM.byteAt l i : Nat) : Int) < 256 := by omega
  go_wp2_with fail
  go_ret
  exact ⟨rfl, hb1⟩
/-- What the document's Bytes has gathered. -/
def outTo (l : List Nat) (many k : Nat) : List Nat := (List.range (min k many)).map (WM.byteAt l)
theorem outTo_length (l : List Nat) (many k : Nat) : (outTo l many k).length = min k many := by simp [outTo]
theorem outTo_succ (l : List Nat) (many k : Nat) (h : k < many) : outTo l many (k + 1) = outTo l many k ++ [WM.byteAt l k] := by
  unfold outTo
  rw [show min (k + 1) many = min k many + 1 by omega, List.range_succ, List.map_append, show min k many = k by omega]
  rfl
theorem outTo_stay (l : List Nat) (many k : Nat) (h : many ≤ k) : outTo l many (k + 1) = outTo l many k := by
  unfold outTo
  rw [show min (k + 1) many = min k many by omega]
theorem outTo_all (l : List Nat) (many : Nat) (h : many ≤ 8 * l.length) : outTo l many (8 * l.length) = (WM.bytesOf l).take many := by
  unfold outTo WM.bytesOf
  rw [show min (8 * l.length) many = many by omega, ← List.map_take, List.take_range, show min many (8 * l.length) = many by omega]
theorem any_drop (l : List Nat) (many : Nat) : ((WM.bytesOf l).drop many).any (· != 0) = true ↔ ∃ j, many ≤ j ∧ j < 8 * l.length ∧ WM.byteAt l j ≠ 0 := by
  rw [List.any_eq_true]
  constructor
  · rintro ⟨x, h1, h2⟩
    obtain ⟨j, hj, rfl⟩ := List.getElem_of_mem h1
    rw [List.length_drop, WM.bytesOf_length] at hj
    refine ⟨many + j, by omega, by omega, ?_⟩
    have e : ((WM.bytesOf l).drop many)[j]'(by rw [List.length_drop, WM.bytesOf_length]; exact hj) = WM.byteAt l (many + j) := by
      simp [WM.bytesOf]
    rw [e] at h2
    simpa using h2
  · rintro ⟨j, h1, h2, h3⟩
    have hl : j - many < ((WM.bytesOf l).drop many).length := by rw [List.length_drop, WM.bytesOf_length]; omega
    refine ⟨_, List.getElem_mem hl, ?_⟩
    have e : ((WM.bytesOf l).drop many)[j - many]'hl = WM.byteAt l j := by
      simp [WM.bytesOf, show many + (j - many) = j by omega]
    rw [e]
    simpa using h3
end Go.Proofs.YtaebipopmefkpaaGreatDoor

/-
  label: the document's Right, Bucket, Words.
-/
namespace Go.Proofs.YtaebipopmefkpaaGreatDoor
open Go.RowKit Go.Shelf Go.Sort

theorem refRight_early (s : List UInt8) (w : World) (h : s.length < 1 ∨ 40 < s.length ∨ s = [46] ∨ s = [46, 46]) :
    Calls Tryz.prog 78 #[encStr s] w fun e w' => e = .returned (.bool false) ∧ w = w' := by
  by_cases k1 : (s.length : Int) < 1
  · go_enter Tryz.func78, Tryz.ntmps78
    go_wp2
    go_ret
    exact ⟨rfl, rfl⟩
  by_cases k2 : 40 < (s.length : Int)
  · go_enter Tryz.func78, Tryz.ntmps78
    go_wp2
    go_ret
    exact ⟨rfl, rfl⟩
  have h' : s = [46] ∨ s = [46, 46] := by
    rcases h with h | h | h
    · omega
    · omega
    · exact h
  rcases h' with rfl | rfl
  · go_enter Tryz.func78, Tryz.ntmps78
    go_wp2
    go_ret
    exact ⟨rfl, rfl⟩
  · go_enter Tryz.func78, Tryz.ntmps78
    go_wp2
    go_ret
    exact ⟨rfl, rfl⟩
set_option maxRecDepth 100000 in
set_option maxHeartbeats 2000000 in
theorem refRight_late (s : List UInt8) (w : World) (k1 : 1 ≤ s.length) (k2 : s.length ≤ 40) (k3 : ¬ s = [46]) (k4 : ¬ s = [46, 46]) :
    Calls Tryz.prog 78 #[encStr s] w fun e w' => e = .returned (.bool (s.all byteN)) ∧ w = w' := by
  have q1 : ¬ (s.length : Int) < 1 := by omega
  have q2 : ¬ (40 : Int) < (s.length : Int) := by omega
  have q3 : (s == [46]) = false := by simp [k3]
  have q4 : (s == [46, 46]) = false := by simp [k4]
  clear k3 k4
  go_enter Tryz.func78, Tryz.ntmps78
  go_wp2
  go_loopw [3] (fun i wr => ∃ k : Nat, k ≤ s.length ∧ i = .int .i64 (k : Nat) ∧ w = wr ∧ Hid ((s.take k).all byteN = true)) (fun i _ => s.length - (intOf i).toNat)
  case atStart => exact ⟨0, Nat.zero_le _, rfl, rfl, Lib.hid rfl⟩
  case round =>
    obtain ⟨k, hk, rfl, rfl, HA⟩ := hrel
    by_cases hlt : k < s.length
    · have HT := Lib.hid (show s.take (k + 1) = s.take k ++ [s[k]] from List.take_succ_eq_append_getElem hlt)
      have HM := Lib.hid (List.getElem_mem hlt)
      obtain ⟨z, hz⟩ : ∃ z : Nat, s[k].toNat = z := ⟨_, rfl⟩
      have hzz : ∀ h : k < (⟨s.toArray⟩ : ByteArray).size, ((⟨s.toArray⟩ : ByteArray)[k]'h).toNat = z := fun _ => hz
      have hbz : byteN s[k] = true ↔ 33 ≤ z ∧ z ≤ 126 ∧ z ≠ 47 := by
        unfold byteN
        rw [hz]
        simp only [Bool.and_eq_true, decide_eq_true_eq, and_assoc]
      have k3 : (k : Int) < (s.length : Int) := by omega
      clear hz
      by_cases hg : byteN s[k] = true
      · obtain ⟨g1, g2, g3⟩ := hbz.1 hg
        have e1 : ¬ ((z : Int) < 33) := by omega
        have e2 : ¬ ((126 : Int) < z) := by omega
        have e3 : ((z : Int) == 47) = false := by simp; omega
        have HG := Lib.hid hg
        clear hg hbz g1 g2 g3
        go_wp2
        go_roundw
        case rel => exact ⟨k + 1, by omega, by go_num, by trivial, Lib.hid (by rw [HT.out, List.all_append, HA.out]; simp [HG.out])⟩
        case measure => simp [intOf]; omega
      · have HN : Hid (s.all byteN = false) := show _ = _ from List.all_eq_false.2 ⟨s[k], HM.out, by simpa using hg⟩
        have hn : ((decide ((z : Int) < 33) || decide ((126 : Int) < z) || ((z : Int) == 47))) = true := by
          have : ¬ (33 ≤ z ∧ z ≤ 126 ∧ z ≠ 47) := fun h => hg (hbz.2 h)
          simp only [Bool.or_eq_true, decide_eq_true_eq, beq_iff_eq]
          omega
        clear hg hbz
        go_wp2
        all_goals
          go_ret
          exact ⟨by rw [HN.out]; rfl, rfl⟩
    · obtain rfl : k = s.length := by omega
      have hall : s.all byteN = true := by rw [List.take_length] at HA; exact HA.out
      go_wp2
      go_ret
      exact ⟨by rw [hall]; rfl, rfl⟩
theorem refRight6_any (s : List UInt8) (w : World) : Calls Tryz.prog 78 #[encStr s] w fun e w' => e = .returned (.bool (rightN s)) ∧ w = w' := by
  by_cases h : s.length < 1 ∨ 40 < s.length ∨ s = [46] ∨ s = [46, 46]
  · have hr : rightN s = false := by
      cases hr : rightN s with
      | false => rfl
      | true =>
        obtain ⟨h1, h2, h3, h4, -⟩ := (rightN_iff s).1 hr
        rcases h with h | h | h | h
        · omega
        · omega
        · exact absurd h h3
        · exact absurd h h4
    rw [hr]
    exact refRight_early s w h
  · have h1 : 1 ≤ s.length := by
      rcases Nat.lt_or_ge s.length 1 with k | k
      · exact absurd (.inl k) h
      · exact k
    have h2 : s.length ≤ 40 := by
      rcases Nat.lt_or_ge 40 s.length with k | k
      · exact absurd (.inr (.inl k)) h
      · exact k
    have h3 : ¬ s = [46] := fun k => h (.inr (.inr (.inl k)))
    have h4 : ¬ s = [46, 46] := fun k => h (.inr (.inr (.inr k)))
    have hr : rightN s = s.all byteN := by
      unfold rightN
      simp [h1, h2, h3, h4]
    rw [hr]
    exact refRight_late s w h1 h2 h3 h4
theorem five_step (xs : List Nat) (k : Nat) (hk : k < xs.length) (h5 : xs.length ≤ 5) : (arr5 (xs.take k)).setIfInBounds k (.int .u64 (xs[k]?.getD 0 : Nat)) = arr5 (xs.take (k + 1)) := by
  have : k = 0 ∨ k = 1 ∨ k = 2 ∨ k = 3 ∨ k = 4 := by omega
  rcases this with rfl | rfl | rfl | rfl | rfl <;> simp [List.getElem?_take]
theorem five_cell (xs : List Nat) (k : Nat) (h5 : k < 5) (W : World) (b : Nat) (h : Box5 W b xs) : W.cell? ⟨b, k, none⟩ = some (.int .u64 (xs[k]?.getD 0 : Nat)) ∧ W.frozen? ⟨b, k, none⟩ = false := by
  obtain ⟨c0, c1, c2, c3, c4⟩ := h.cells
  obtain ⟨f0, f1, f2, f3, f4⟩ := h.frozen
  have : k = 0 ∨ k = 1 ∨ k = 2 ∨ k = 3 ∨ k = 4 := by omega
  rcases this with rfl | rfl | rfl | rfl | rfl
  · exact ⟨c0, f0⟩
  · exact ⟨c1, f1⟩
  · exact ⟨c2, f2⟩
  · exact ⟨c3, f3⟩
  · exact ⟨c4, f4⟩
theorem Box5.set {W : World} {b : Nat} {xs : List Nat} {k : Nat} (h : Box5 W b (xs.take k)) (hk : k < xs.length) (h5 : xs.length ≤ 5) : Box5 (W.setCell ⟨b, k, none⟩ (.int .u64 (xs[k]?.getD 0 : Nat))) b (xs.take (k + 1)) := by
  unfold Box5
  rw [setCell_eq_setRow W b k _ _ _ _ h, ← five_step xs k hk h5]
  exact setRow_heap W b _ _ _ _ h
set_option maxRecDepth 100000 in
set_option maxHeartbeats 2000000 in
theorem refWords6_any (s : List UInt8) (hl : s.length ≤ 40) (w : World) :
    Calls Tryz.prog 79 #[encStr s] w fun e w' => e = .returned (.agg (arr5 (wordsN s))) ∧ Below w.heap.size w w' := by
  obtain ⟨W2, hW2⟩ : ∃ W2, (w.alloc (.cells (arr5 []) 92)).alloc (.cells (arr5 []) 92) = W2 := ⟨_, rfl⟩
  have HB2 : Hid (Below w.heap.size w W2) := show Below _ _ _ by rw [← hW2]; exact (by repeat (first | exact Below.refl _ _ | assumption | refine Below.drew ?_ | refine below_drewN ?_ _ | refine Below.alloc ?_ (by (try simp) <;> omega) _ | refine Below.setCell ?_ (by (try simp) <;> omega) _ | refine Below.trans ?_ (Below.mono (by assumption) (by (try simp) <;> omega))))
  have HX2 : Hid (Box5 W2 w.heap.size []) := show Box5 _ _ _ by rw [← hW2]; exact (Box5.new w []).below ((Below.refl _ _).alloc (Nat.le_refl _) _)
  have HY2 : Hid (Box5 W2 (w.heap.size + 1) []) := show Box5 _ _ _ by
    rw [← hW2]
    have := Box5.new (w.alloc (.cells (arr5 []) 92)) []
    rwa [World.size_alloc] at this
  have HR := Lib.hid (refWords_own _ (bsN s) (by rw [bsN_length]; omega) (bsN_256 s) (bytesW W2 s) (bytesW_sl W2 s))
  have hcv := fun W => conv_bytes 9 Tryz.underlying9 s W
  have HBB := Lib.hid (bytesW_below W2 s)
  have HW2 : Hid ((w.alloc (.cells #[.int .u64 0, .int .u64 0, .int .u64 0, .int .u64 0, .int .u64 0] 92)).alloc (.cells #[.int .u64 0, .int .u64 0, .int .u64 0, .int .u64 0, .int .u64 0] 92) = W2) := show _ = _ from hW2
  have hln := wordsN_len s hl
  obtain ⟨xs, hxs⟩ : ∃ xs, wordsN s = xs := ⟨_, rfl⟩
  rw [hxs] at hln ⊢
  rw [show WM.wordsOf (bsN s) = xs from hxs] at HR
  have HLN := Lib.hid hln
  clear hln hxs
  have hz2 : W2.heap.size = w.heap.size + 2 := by rw [← hW2]; simp
  clear hW2
  go_enter Tryz.func79, Tryz.ntmps79
  go_wp2_with fail
  rw [HW2.out, show w.heap.size + 1 + 1 = W2.heap.size from hz2.symm]
  refine HR.out.mono ?_
  rintro e w5 ⟨r, rfl, hrow, hb5⟩
  have hB5 : Below W2.heap.size W2 w5 := HBB.out.trans (hb5.mono HBB.out.size)
  have hx5 := HX2.out.below hB5
  have hy5 := HY2.out.below hB5
  have HB5 : Hid (Below w.heap.size w w5) := show Below _ _ _ from HB2.out.trans (hB5.mono HB2.out.size)
  have hs5 := own_sl hrow
  obtain ⟨a, c, rfl⟩ := laOwn_slice hrow
  have hbs := bytesW_size W2 s
  have HG := Lib.hid (fun (h0 : 0 < xs.length) => own_form hrow h0)
  have HROW := Lib.hid hrow
  obtain ⟨n, hn⟩ : ∃ n, xs.length = n := ⟨_, rfl⟩
  have HN := Lib.hid hn
  have HX5 := Lib.hid hx5
  have HY5 := Lib.hid hy5
  have h5 : n ≤ 5 := by rw [← hn]; exact HLN.out
  rw [hn]
  have HL5 := Lib.hid (show xs.length ≤ 5 from HLN.out)
  clear hrow hb5 hB5 hx5 hy5 hs5 hn HLN hcv HR
  go_wp2_with fail
  go_loopw [5] (fun i wr => ∃ k : Nat, k ≤ n ∧ i = .int .i64 (k : Nat) ∧ Hid (Box5 wr (w.heap.size + 1) (xs.take k) ∧ Box5 wr w.heap.size [] ∧ Below w.heap.size w wr ∧ ∀ j, W2.heap.size ≤ j → wr.heap[j]? = w5.heap[j]?)) (fun i _ => n - (intOf i).toNat)
  case atStart => exact ⟨0, Nat.zero_le _, rfl, Lib.hid ⟨HY5.out, HX5.out, HB5.out, fun _ _ => rfl⟩⟩
  case round =>
    obtain ⟨k, hk, rfl, HI⟩ := hrel
    by_cases hlt : k < n
    · have hkx : k < xs.length := by rw [HN.out]; exact hlt
      obtain ⟨g, cap, e0, hg1, hg2, -⟩ := HG.out (by omega)
      simp only [Value.slice.injEq] at e0
      obtain ⟨rfl, -, rfl⟩ := e0
      have ck : wr.cell? ⟨g, k, none⟩ = some (.int .u64 (xs[k]?.getD 0 : Nat)) := (World.cell?_of_block (a := ⟨g, k, none⟩) (HI.out.2.2.2 g (by omega))).trans (own_cell HROW.out k hkx)
      obtain ⟨c1, f1⟩ := five_cell _ k (by omega) wr _ HI.out.1
      have l1 := HI.out.1.lt
      have HNX := Lib.hid (HI.out.1.set hkx HL5.out)
      obtain ⟨z, hz⟩ : ∃ z, xs[k]?.getD 0 = z := ⟨_, rfl⟩
      rw [hz] at ck HNX
      have k5 : (k : Int) < 5 := by omega
      have k2 : (k : Int) < (n : Int) := by omega
      clear hz
      go_wp2_with fail
      go_roundw
      case rel =>
        refine ⟨k + 1, by omega, by go_num, Lib.hid ⟨HNX.out, (Below.heap_setCell _ _ _ _ (by simp)).trans HI.out.2.1, HI.out.2.2.1.setCell (p := ⟨w.heap.size + 1, k, none⟩) (Nat.le_succ _) _, fun j hj => (Below.heap_setCell _ _ _ _ (by simp; omega)).trans (HI.out.2.2.2 j hj)⟩⟩
      case measure => simp [intOf]; omega
    · obtain rfl : k = n := by omega
      have h1 : Box5 wr (w.heap.size + 1) xs := by have := HI.out.1; rwa [List.take_of_length_le (by rw [HN.out]; exact Nat.le_refl _)] at this
      have h2 := HI.out.2.1
      obtain ⟨c0, c1, c2, c3, c4⟩ := h1.cells
      obtain ⟨d0, d1, d2, d3, d4⟩ := h2.cells
      obtain ⟨f0, f1, f2, f3, f4⟩ := h2.frozen
      have l2 := h2.lt
      clear h1 h2
      go_wp2_with fail
      refine bodyPost_ret (v := .agg (arr5 xs)) (by simp [results, Tryz.results79, go_sem, World.cell?_setCell_same', d0, d1, d2, d3, d4]) rfl ⟨rfl, ?_⟩
      exact set5_below (m := xs) HI.out.2.2.1 (Nat.le_refl _)
end Go.Proofs.YtaebipopmefkpaaGreatDoor

/-
  label: the document's Read.
-/
namespace Go.Proofs.YtaebipopmefkpaaGreatDoor
open Go.RowKit Go.Shelf Go.Sort

theorem isRead_small (l : List Nat) (many : Int) (h : many < 1) : isRead l many = false := by
  have : readN l many = [] := by
    unfold readN
    rw [show many.toNat = 0 by omega]; rfl
  unfold isRead sameOut
  rw [this]; rfl
theorem isRead_big (l : List Nat) (hl : l.length = 5) (many : Int) (h : 40 < many) : isRead l many = false := by
  have : (readN l many).length = 40 := by
    unfold readN
    rw [List.length_take, txtN_length]; omega
  unfold isRead sameOut
  have h2 : (many == ((readN l many).length : Int)) = false := by rw [this]; simp; omega
  rw [h2]
  simp
theorem readN_len (l : List Nat) (hl : l.length = 5) (m : Nat) (h : m ≤ 40) : (readN l m).length = m := by
  unfold readN
  rw [List.length_take, txtN_length]; omega
theorem isRead_eq (l : List Nat) (hl : l.length = 5) (m : Nat) (h : m ≤ 40) : isRead l m = (rightN (readN l m) && same5 (wordsN (readN l m)) l) := by
  unfold isRead sameOut
  rw [readN_len l hl m h]
  simp
def byteTo (l : List Nat) (k : Nat) : List Nat := (WM.bytesOf l).take k
theorem byteTo_succ (l : List Nat) (k : Nat) (h : k < 8 * l.length) : byteTo l (k + 1) = byteTo l k ++ [WM.byteAt l k] := by
  unfold byteTo
  rw [List.take_succ_eq_append_getElem (by rw [WM.bytesOf_length]; exact h)]
  simp [WM.bytesOf]
theorem byteTo_len (l : List Nat) (k : Nat) (h : k ≤ 8 * l.length) : (byteTo l k).length = k := by
  unfold byteTo
  rw [List.length_take, WM.bytesOf_length]; omega
theorem byteTo_read (l : List Nat) (m : Nat) : byteTo l m = bsN (readN l m) := by
  unfold byteTo readN
  rw [take_bsN, txtN_bs]; rfl
theorem same5_comm (l m : List Nat) : same5 l m = same5 m l := by
  unfold same5
  rw [Bool.eq_iff_iff, decide_eq_true_iff, decide_eq_true_iff]
  exact ⟨fun h i hi => (h i hi).symm, fun h i hi => (h i hi).symm⟩
theorem neq5 (l m : List Nat) (w : World) : (binOp .neq 92 (.agg (arr5 l)) (.agg (arr5 m))).run Tryz.prog w = .ok (.bool (!same5 l m)) w := by
  have h := laEqual Tryz.underlying92 9998 [(l[0]?.getD 0 : Nat), (l[1]?.getD 0 : Nat), (l[2]?.getD 0 : Nat), (l[3]?.getD 0 : Nat), (l[4]?.getD 0 : Nat)] [(m[0]?.getD 0 : Nat), (m[1]?.getD 0 : Nat), (m[2]?.getD 0 : Nat), (m[3]?.getD 0 : Nat), (m[4]?.getD 0 : Nat)] rfl rfl w
  rw [five_same] at h
  rw [run_neq_struct]
  refine (congrArg (fun r : Result Bool => r.andThen fun b w' => Result.ok (Value.bool (!b)) w') h).trans ?_
  rfl
set_option maxRecDepth 100000 in
set_option maxHeartbeats 4000000 in
theorem refRead_mid (l : List Nat) (hl : l.length = 5) (h64 : Words64 l) (m : Nat) (h1 : 1 ≤ m) (h40 : m ≤ 40) (w : World) :
    Calls Tryz.prog 33 #[.agg (arr5 l), .int .i64 m] w fun e w' => e = .returned (.tuple #[encStr (if isRead l m then readN l m else []), .bool (isRead l m)]) ∧ Below w.heap.size w w' := by
  obtain ⟨i0, hi, hz0, hz1, hz2⟩ := info_parts infoU8
  obtain ⟨W1, hW1⟩ : ∃ W1, w.alloc (.cells (arr5 l) 92) = W1 := ⟨_, rfl⟩
  have HB1 : Hid (Below w.heap.size w W1) := show Below _ _ _ by rw [← hW1]; exact (by repeat (first | exact Below.refl _ _ | assumption | refine Below.drew ?_ | refine below_drewN ?_ _ | refine Below.alloc ?_ (by (try simp) <;> omega) _ | refine Below.setCell ?_ (by (try simp) <;> omega) _ | refine Below.trans ?_ (Below.mono (by assumption) (by (try simp) <;> omega))))
  have x1 : Box5 W1 w.heap.size l := by rw [← hW1]; exact Box5.new w l
  have HX1 := Lib.hid x1
  have hzz : W1.heap.size = w.heap.size + 1 := by rw [← hW1]; simp
  have HS := Lib.hid (fun (W : World) (hx : Box5 W w.heap.size l) (i : Nat) (hi : i < 40) => refByte_any _ l i (by omega) h64 (by omega) W (box5_sl hx hl))
  have HSU := Lib.hid (fun k (h : k < 40) => byteTo_succ l k (by omega))
  have HLN := Lib.hid (fun k (h : k ≤ 40) => byteTo_len l k (by omega))
  have HRD := Lib.hid (byteTo_read l m)
  have HRI := Lib.hid (fun W => refRight6_any (readN l m) W)
  have HWO := Lib.hid (fun W => refWords6_any (readN l m) (by rw [readN_len l hl m h40]; exact h40) W)
  have hnq := fun W => neq5 (wordsN (readN l m)) l W
  have HIS := Lib.hid (isRead_eq l hl m h40)
  have HW1 := Lib.hid hW1
  have q1 : ¬ (m : Int) < 1 := by omega
  have q2 : ¬ (40 : Int) < (m : Int) := by omega
  obtain ⟨t, ht⟩ : ∃ t, readN l m = t := ⟨_, rfl⟩
  rw [ht] at HRD HRI HWO HIS hnq ⊢
  obtain ⟨ir, hir⟩ : ∃ ir, isRead l m = ir := ⟨_, rfl⟩
  rw [hir] at HIS ⊢
  clear hl h64 hW1 ht hir x1
  go_enter Tryz.func33, Tryz.ntmps33
  go_wp2_with fail
  rw [HW1.out]
  go_loopw [6, 7] (fun r i wr => ∃ (k : Nat) (q : Value), q = r ∧ k ≤ m ∧ i = .int .i64 k ∧ wr.ownsRow W1.heap.size 5 1 r (byteTo l k).length (valsOf .u8 (byteTo l k)) ∧ Below W1.heap.size W1 wr) (fun _ i _ => m - (intOf i).toNat)
  case atStart => exact ⟨0, _, rfl, Nat.zero_le _, rfl, by simp [byteTo, valsOf, World.ownsRow_nil], Below.refl _ _⟩
  case round =>
    obtain ⟨k, r, rfl, hk, rfl, hrow, hb⟩ := hrel
    have z := hb.size
    have HXR := Lib.hid (HX1.out.below hb)
    by_cases hlt : k < m
    · have k5 : (k : Int) < (m : Int) := by omega
      have HB := Lib.hid (HS.out wr HXR.out k (by omega))
      have HO := Lib.hid (HSU.out k (by omega))
      have hol : (byteTo l k).length = k := HLN.out k (by omega)
      go_wp2_with fail
      refine HB.out.mono ?_
      rintro e w1 ⟨rfl, hb1⟩
      have hr1 := ownsRow_below hrow hb1
      have z1 := hb1.size
      go_wp2_with (at_builtin; go_must (refine wpList_append_own _ rfl _ _ 172 rfl W1.heap.size 5 i0 (.int .u8 0) 1 1 Tryz.underlying172 hi hz0 hz1 hz2 rfl (by decide) r _ _ rfl (hr1.alloc _) ⟨w1.heap.size, 0, none⟩ 1 1 [.int .u8 (WM.byteAt l k : Nat)] rfl rfl (cell_one_new _ _ _) (by simp [Value.oneCell']) (by unfold maxLen; omega) (by omega) (by simp; omega) ?_); intro v' w2 hown' hgrow _)
      go_roundw
      case rel =>
        refine ⟨k + 1, _, rfl, by omega, by go_num, ?_, ?_⟩
        · rw [HO.out, valsOf_append, List.length_append]; exact hown'
        · exact ((hb.trans (hb1.mono z)).alloc (by omega) _).grown hgrow (by simp; omega) (fun j e => by have := hr1.lt j e; omega)
      case measure => simp [intOf]; omega
    · obtain rfl : k = m := by omega
      have hsl := own_sl hrow
      rw [HRD.out] at hsl
      have hct := conv_text 9 Tryz.underlying9 hsl
      have bk : Below w.heap.size w wr := HB1.out.trans (hb.mono HB1.out.size)
      obtain ⟨c0, c1, c2, c3, c4⟩ := HXR.out.cells
      have lk := HXR.out.lt
      clear hsl hrow hb z
      cases hr : rightN t with
      | false =>
        have HF : Hid (ir = false) := show _ = _ by rw [HIS.out, hr]; rfl
        rw [hr] at HRI
        obtain rfl := HF.out
        go_wp2_with fail
        have hR : (fun _ : World => True) wr.drew := trivial
        refine wp_region_M 8 (fun _ : World => True) (by kernel_rfl) ?_
        (refine wpAnyM_take2 8 (i := 0) (v := ?_) rfl (by kernel_rfl) (by kernel_rfl) (fun _ _ _ h => h) (Or.inl ⟨by rfl, ?_⟩) hR ?_; rotate_left; (focus (intro w hSw; (try dsimp only at hSw); go_simp; (try with_reducible rfl))); (try simp only [put_laws]))
        (refine wpAnyM_one (i := 1) rfl (by kernel_rfl) (fun K hK => ?_); rw [if_pos (by rfl)]; (try simp only [elem_laws]))
        go_simp
        refine (HRI.out _).mono ?_
        rintro e wA ⟨rfl, rfl⟩
        refine hK _ _ (fun _ => trivial) ?_
        clear hK K
        (try simp only [put_laws])
        (refine wpAnyM_take2 8 (i := 2) (v := ?_) rfl (by kernel_rfl) (by kernel_rfl) (fun _ _ _ h => h) (Or.inl ⟨by rfl, ?_⟩) hR ?_; rotate_left; (focus (intro w hSw; (try dsimp only at hSw); go_simp; (try with_reducible rfl))); (try simp only [put_laws])); (refine wpAnyM_take2 8 (i := 3) (v := ?_) rfl (by kernel_rfl) (by kernel_rfl) (fun _ _ _ h => h) (Or.inl ⟨by rfl, ?_⟩) hR ?_; rotate_left; (focus (intro w hSw; (try dsimp only at hSw); go_simp; (try with_reducible rfl))); (try simp only [put_laws]))
        (refine wpAnyM_take2 8 (i := 4) (v := undef) rfl (by kernel_rfl) (by kernel_rfl) (fun _ _ _ h => h) (Or.inr ⟨by rfl, rfl⟩) hR ?_; (try simp only [put_laws])); (refine wpAnyM_take2 8 (i := 5) (v := undef) rfl (by kernel_rfl) (by kernel_rfl) (fun _ _ _ h => h) (Or.inr ⟨by rfl, rfl⟩) hR ?_; (try simp only [put_laws])); (refine wpAnyM_take2 8 (i := 6) (v := undef) rfl (by kernel_rfl) (by kernel_rfl) (fun _ _ _ h => h) (Or.inr ⟨by rfl, rfl⟩) hR ?_; (try simp only [put_laws])); (refine wpAnyM_take2 8 (i := 7) (v := undef) rfl (by kernel_rfl) (by kernel_rfl) (fun _ _ _ h => h) (Or.inr ⟨by rfl, rfl⟩) hR ?_; (try simp only [put_laws]))
        (refine wpAnyM_last rfl (by kernel_rfl) (fun K hK => ?_); rw [if_pos (by rfl)]; (try simp only [elem_laws]))
        go_simp
        refine hK _ _ ?_
        clear hK K
        (try simp only [put_laws])
        refine wpAnyM_done (by kernel_rfl) ?_ _
        go_wp2_with fail
        go_ret2
        exact ⟨rfl, bk.drew⟩
      | true =>
        have HF : Hid (ir = same5 (wordsN t) l) := show _ = _ by rw [HIS.out, hr]; rfl
        rw [hr] at HRI
        obtain ⟨sm, hsm⟩ : ∃ sm, same5 (wordsN t) l = sm := ⟨_, rfl⟩
        rw [hsm] at HF hnq
        obtain ⟨ws, hws⟩ : ∃ ws, wordsN t = ws := ⟨_, rfl⟩
        rw [hws] at hnq HWO
        clear hsm hws HIS
        obtain rfl := HF.out
        go_wp2_with fail
        go_region_held3 (fun w' => w'.cell? ⟨w.heap.size, 0, none⟩ = some (.int .u64 (l[0]?.getD 0 : Nat)) ∧ w'.cell? ⟨w.heap.size, 1, none⟩ = some (.int .u64 (l[1]?.getD 0 : Nat)) ∧ w'.cell? ⟨w.heap.size, 2, none⟩ = some (.int .u64 (l[2]?.getD 0 : Nat)) ∧ w'.cell? ⟨w.heap.size, 3, none⟩ = some (.int .u64 (l[3]?.getD 0 : Nat)) ∧ w'.cell? ⟨w.heap.size, 4, none⟩ = some (.int .u64 (l[4]?.getD 0 : Nat)) ∧ w.heap.size < w'.heap.size) (exact ⟨c0, c1, c2, c3, c4, lk⟩)
          (first | (go_at_call 78; refine (HRI.out _).mono ?_; rintro e wA ⟨rfl, rfl⟩) | (go_at_call 79; refine (HWO.out _).mono ?_; rintro e wA ⟨rfl, hbA⟩; have bk : Below w.heap.size w wA := (by repeat (first | exact Below.refl _ _ | assumption | refine Below.drew ?_ | refine below_drewN ?_ _ | refine Below.alloc ?_ (by (try simp) <;> omega) _ | refine Below.setCell ?_ (by (try simp) <;> omega) _ | refine Below.trans ?_ (Below.mono (by assumption) (by (try simp) <;> omega)))); have c0 := (hbA.cell (p := ⟨w.heap.size, 0, none⟩) lk).trans c0; have c1 := (hbA.cell (p := ⟨w.heap.size, 1, none⟩) lk).trans c1; have c2 := (hbA.cell (p := ⟨w.heap.size, 2, none⟩) lk).trans c2; have c3 := (hbA.cell (p := ⟨w.heap.size, 3, none⟩) lk).trans c3; have c4 := (hbA.cell (p := ⟨w.heap.size, 4, none⟩) lk).trans c4; have lk : w.heap.size < wA.heap.size := Nat.lt_of_lt_of_le lk hbA.size; clear hbA))
        all_goals
          cases ir with
          | false =>
            go_wp2_with fail
            go_ret2
            exact ⟨rfl, bk⟩
          | true =>
            go_wp2_with fail
            go_ret2
            exact ⟨rfl, bk⟩
end Go.Proofs.YtaebipopmefkpaaGreatDoor
