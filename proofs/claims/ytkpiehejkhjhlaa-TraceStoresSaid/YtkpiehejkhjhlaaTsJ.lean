/-
  The law's puts.
-/
import Derived.Test.YtkpiehejkhjhlaaTsD
import Derived.Test.YtkpiehejkhjhlaaTsE
import Derived.Test.YtkpiehejkhjhlaaRowG
namespace Go.Proofs.Ytkpiehejkhjhlaa
open Go.RowKit Go.Shelf Go.Maps
attribute [local go_sem] Oper.semAt_some

theorem puts_short (ts : List Tch) : (putsV ts).length ≤ ts.length := by
  unfold putsV addrsV
  rw [List.length_map]
  refine Nat.le_trans ?_ (Nat.le_trans (any_count (ts.map Tch.at_) 8192) (by rw [List.length_map]; exact Nat.le_refl _))
  rw [← List.countP_eq_length_filter, ← List.countP_eq_length_filter]
  refine List.countP_mono_left fun k _ hk => ?_
  unfold wordsV at hk
  by_cases hc : checkT ts = 0
  · rw [if_pos hc] at hk
    obtain ⟨t, ht, _, hx⟩ := st_some _ _ hk
    exact List.any_eq_true.2 ⟨t.at_, List.mem_map.2 ⟨t, ht, rfl⟩, by simp [hx]⟩
  · rw [if_neg hc] at hk; cases hk
/-- In the rounds of puts. -/
def PutI (w : World) (n₁ b : Nat) (pre : List (Nat × Int)) (q : Nat → Prop) (W : World) : Prop :=
  RowG n₁ b 46 52 2 pre.length (flatC cP pre) q W ∧ BelowF w.heap.size w q W
theorem abides_puti (w : World) (n₁ b : Nat) : Abides (PutI w n₁ b) := Abides.and (abides_rowG _ _ _ _ _ (fun pre : List (Nat × Int) => pre.length) (fun pre => flatC cP pre)) (Abides.below _ _)
theorem cell_put_new (w : World) (x y : Value) (t : TypeId) : ∀ j u, [x, y][j]? = some u → (w.alloc (.cells #[x, y] t)).cell? ((⟨w.heap.size, 0, none⟩ : Addr).add j) = some u := by
  intro j u hj
  match j, hj with
  | 0, hj => simp at hj; subst hj; simp [go_sem, Addr.add]
  | 1, hj => simp at hj; subst hj; simp [go_sem, Addr.add]
set_option maxRecDepth 100000 in
set_option maxHeartbeats 8000000 in
theorem puts5_any {v : Value} {ts : List Tch} (w : World) (hl : ts.length ≤ 100) (hok : ∀ t ∈ ts, okT t) (hs : SlT w v ts) :
    Calls Try.prog 27 #[v] w fun e w' => ∃ u, e = .returned u ∧ w'.ownsRow w.heap.size 52 2 u (putsV ts).length (flatC cP (putsV ts)) ∧ Below w.heap.size w w' := by
  obtain ⟨i0, hi, hz0, hz1, hz2⟩ := info_of infoPt
  have HII := Lib.hid hi
  have HST := Lib.hid (fun W (hb : Below w.heap.size w W) => stores_any W (by omega) hok (hs.below hb))
  have HPS := Lib.hid (puts_short ts)
  obtain ⟨a, cap, rfl, -⟩ := id hs
  obtain ⟨N, hN⟩ : ∃ N, ts.length = N := ⟨_, rfl⟩
  rw [hN] at HST HPS hl ⊢
  obtain ⟨W0, hW0⟩ : ∃ W0, w.alloc (.cells #[.slice none 0 0] 46) = W0 := ⟨_, rfl⟩
  have b0 : Below w.heap.size w W0 := by rw [← hW0]; exact (by repeat (first | exact Below.refl _ _ | assumption | refine Below.drew ?_ | refine below_drewN ?_ _ | refine Below.alloc ?_ (by (try simp) <;> omega) _ | refine Below.setCell ?_ (by (try simp) <;> omega) _ | refine Below.trans ?_ (Below.mono (by assumption) (by (try simp) <;> omega))))
  have j0 : Boxed W0 w.heap.size 46 (.slice none 0 0) := by rw [← hW0]; exact Boxed.new w _ _
  have HB0 := Lib.hid b0
  have HJ0 := Lib.hid j0
  have HW := Lib.hid hW0
  clear hs hok hN hi hW0 b0 j0
  refine (callsIn_wide (n := 9)).1 ?_
  refine callsIn_of_wp_marks Try.func27 rfl trivial ?_ rfl
  simp only [Try.ntmps27, List.size_toArray, List.length_cons, List.length_nil, Nat.reduceAdd, Nat.reduceSub, Array.replicate_succ, Array.replicate_zero, List.push_toArray, List.append_toArray, List.nil_append, List.cons_append]
  gi_wp2_with fail
  rw [HW.out]
  refine ⟨trivial, ?_⟩
  refine (callsIn_wide.2 (HST.out W0 HB0.out)).mono ?_
  rintro e w1 ⟨p1, m1, u1, c1, rfl, -, -, b1⟩
  have HJ1 : Hid (Boxed w1 w.heap.size 46 (.slice none 0 0)) := show Boxed _ _ _ _ from (b1.block _ HJ0.out.lt).trans HJ0.out
  have HB1 : Hid (Below w.heap.size w w1) := show Below _ _ _ from HB0.out.trans (b1.mono HB0.out.size)
  have hqn : (binOp .eql 49 (.func (.func 41) #[] #[.pointer (some ⟨p1, 0, none⟩), .pointer (some ⟨m1, 0, none⟩)]) .nilFunc).run Try.prog w1 = .ok (.bool false) w1 := by kernel_rfl
  clear b1
  gi_wp2_with fail
  refine ⟨trivial, ?_⟩
  refine (callsIn_wide.2 (HST.out w1 HB1.out)).mono ?_
  rintro e w2 ⟨p, m, u, c, rfl, hss, -, b2⟩
  have HSS := Lib.hid hss
  have HJ2 : Hid (Boxed w2 w.heap.size 46 (.slice none 0 0)) := show Boxed _ _ _ _ from (b2.block _ HJ1.out.lt).trans HJ1.out
  have HB2 : Hid (Below w.heap.size w w2) := show Below _ _ _ from HB1.out.trans (b2.mono HB1.out.size)
  have hlt1 : w.heap.size < w1.heap.size := HJ1.out.lt
  have hs12 := b2.size
  clear hss b2 hqn
  gi_wp2_with fail
  have HSQ := Lib.hid (stores_seq 8 (by decide) w2 HSS.out)
  have HPL : Hid (∀ k, stP u w1.heap.size m k → w1.heap.size ≤ k ∧ k < w2.heap.size) := show ∀ k, _ from fun k hk => by
    rcases hk with hk | rfl | rfl
    · exact HSS.out.row.lt k hk
    · exact ⟨Nat.le_refl _, HSS.out.map.lt⟩
    · exact ⟨HSS.out.lowM, HSS.out.mbox.lt⟩
  have HI0 : Hid (PutI w w2.heap.size w.heap.size [] (fun _ => False) w2) := show PutI _ _ _ _ _ _ from ⟨⟨_, HJ2.out, World.ownsRow_nil _ _ _ _, id, fun g e => by cases e⟩, HB2.out, HB2.out.size, fun _ h => h.elim⟩
  generalize hA : ({ tmps := _, defers := _ } : Act) = A0
  refine wpIn_range_F (n := 9) (by decide) (gf := 41) (lb := #[.pointer (some ⟨p, 0, none⟩), .pointer (some ⟨m, 0, none⟩)]) (by rw [← hA]; rfl) (enters_of Try.func41 (by kernel_rfl) rfl) HSQ.out (fun k hk => (HPL.out k hk).2) (Below.refl _ _) (fun _ => rfl)
    (PutI w w2.heap.size w.heap.size) (fun _ _ _ _ => False) (abides_puti _ _ _) (fun _ _ _ _ _ _ h _ _ => h) HI0.out
    (fun x a' _ => a' = { tmps := (((A0.tmps.setIfInBounds 11 (.int .i64 (x.1 : Nat))).setIfInBounds 12 (.int .u64 x.2)).setIfInBounds 4 (.int .i64 (x.1 : Nat))).setIfInBounds 5 (.int .u64 x.2), defers := [] })
    (fun x a' W1 o h => h)
    ?assign ?body ?done ?stop
  case assign =>
    rintro l2 x W2 K hsz hK
    subst hA
    unfold encS
    dsimp only
    gi_wp2_with fail
    refine hK _ _ ?_ (Below.refl _ _)
    rfl
  case body =>
    rintro l2 pre x a' q2 W2 ⟨⟨v', hv, hrow, hqB, hqg⟩, hB⟩ hs2 hqb hsp rfl
    subst hA
    have hlen : pre.length + 1 ≤ 100 := by
      have := hsp.length_le
      rw [List.length_append, List.length_singleton] at this
      have := HPS.out
      omega
    have cv := hv.cell
    have HV := Lib.hid hv
    have HR := Lib.hid hrow
    have HQB := Lib.hid hqB
    have HQG := Lib.hid hqg
    have HBF := Lib.hid hB
    have HQ := Lib.hid hqb
    have HPLN := Lib.hid (show (pre ++ [x]).length = pre.length + 1 by simp)
    have HFC := Lib.hid (show flatC cP (pre ++ [x]) = flatC cP pre ++ [.int .i64 (x.1 : Nat), .int .u64 x.2] by rw [flatC_append, flatC_one])
    clear hv hrow hqB hqg hB hqb hsp
    gi_wp2_with (gi_at_builtin; refine park ?_)
    unfold Park
    refine wpListIn_append_own_at _ (hgd := rfl) _ _ 46 rfl w2.heap.size 52 i0 _ 2 16 Try.underlying46 HII.out hz0 hz1 hz2 rfl (by decide) _ pre.length (flatC cP pre) rfl (World.ownsRow.alloc HR.out _) ⟨W2.heap.size, 0, none⟩ 1 1 [.int .i64 (x.1 : Nat), .int .u64 x.2] rfl rfl (cell_put_new _ _ _ _) (one_put _ _) (by unfold maxLen; omega) (by omega) (by simp; omega) ?_
    intro v2 w3 own2 grow2 _ at2
    obtain ⟨g', cap', rfl⟩ := ownsRow_succ own2
    obtain ⟨r1, r2, r3, r4, r5⟩ := row_appG (n₀ := w.heap.size) (p := stP u w1.heap.size m) HV.out (by decide) HR.out HQB.out HQG.out HBF.out (Nat.le_refl _) (by omega) (fun k h => (HQ.out k h).2) (fun h => by have := (HPL.out _ h).1; omega) (fun k hk h => by have := (HPL.out _ h).2; omega) own2 grow2 at2
    have r6 := r1.cell
    have r7 := r1.frozen
    have r8 := r1.lt
    have r9 := r2.cell
    have hgt : ¬ (100 : Int) < ((pre.length + 1 : Nat) : Int) := by omega
    gi_wp2_with fail
    refine ⟨r3, ?_, r5⟩
    rw [HPLN.out, HFC.out]
    exact r4
  case done =>
    rintro D ys W2 hD rfl ⟨⟨v', hv, hrow, hqB, hqg⟩, hB⟩ hK'
    subst hA
    have cv := hv.cell
    have HR := Lib.hid hrow
    have HQG := Lib.hid hqg
    have HB := Lib.hid hB
    have HDD := Lib.hid hD
    clear hv hrow hqB hqg hB
    gi_wp2_with fail
    refine leaves_one hK' fun W' ht hc => ⟨_, results_tmp rfl _ _ _, v', rfl, own_lowG (own_keptG HR.out fun g e hl => ht.block g hl (HQG.out g e)) HB2.out.size, HB.out.1.trans (ht.below (fun k h => by have := HDD.out; omega) HB.out.2.1)⟩
  case stop => exact fun _ _ _ _ _ _ h => h.elim
end Go.Proofs.Ytkpiehejkhjhlaa
