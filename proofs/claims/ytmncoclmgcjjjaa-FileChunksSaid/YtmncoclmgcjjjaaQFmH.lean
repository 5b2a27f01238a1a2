/-
  The law FileChunks: a file too big.
-/
import Derived.Test.YtmncoclmgcjjjaaQFmG
namespace Go.Proofs.Ytmncoclmgcjjjaa
open Go.RowKit Go.Shelf
attribute [local go_sem] Oper.semAt_some

set_option maxRecDepth 100000 in
set_option maxHeartbeats 8000000 in
theorem chunks9_big {v : Value} {xs : List Nat} (many : Int) (hl : 448 < xs.length) (hl6 : xs.length ≤ 600) (w : World) (hv : FB w v xs) :
    Calls Try.prog 4 #[v, .int .i64 many] w fun e w' => e = .returned (.bool true) ∧ Below w.heap.size w w' := by
  have HWK := Lib.hid works9_any
  have HN := Lib.hid num9_any
  have hk0 : errK xs.length = 190 := if_pos hl
  have ho0 : outK xs = [] := if_pos hl
  have HC1 : Hid (∀ W, Below w.heap.size w W → Calls Try.prog 18 #[v] W fun e w' => ∃ u, e = .returned (.tuple #[u, .int .i64 190]) ∧ VecC w' u [] ∧ Below W.heap.size W w') := show ∀ W, _ from fun W hW => by
    have h := fileChunks_any W (hv.below hW)
    rwa [hk0, ho0] at h
  have HH1 : Hid (∀ W, Below w.heap.size w W → Calls Try.prog 19 #[v] W fun e w' => ∃ p u, e = .returned (.func (.func 33) #[] #[.pointer (some ⟨p, 0, none⟩)]) ∧ Boxed w' p 35 u ∧ VecC w' u [] ∧ Below W.heap.size W w') := show ∀ W, _ from fun W hW => by
    have h := fileHoles_any W (hv.below hW)
    rwa [ho0] at h
  obtain ⟨a, c, rfl, -⟩ := hv.form
  obtain ⟨n, hn⟩ : ∃ n, xs.length = n := ⟨_, rfl⟩
  rw [hn] at hl hl6 HC1 HH1 ⊢
  have g1 : ¬ (600 : Int) < (n : Int) := by omega
  have g2 : (448 : Int) < (n : Int) := by omega
  obtain ⟨W0, hW0⟩ : ∃ W0, ((w.alloc (.cells #[.int .i64 many] 3)).alloc (.cells #[.bool false] 4)) = W0 := ⟨_, rfl⟩
  have b0 : Below w.heap.size w W0 := by rw [← hW0]; exact (by repeat (first | exact Below.refl _ _ | assumption | refine Below.drew ?_ | refine below_drewN ?_ _ | refine Below.alloc ?_ (by (try simp) <;> omega) _ | refine Below.setCell ?_ (by (try simp) <;> omega) _ | refine Below.trans ?_ (Below.mono (by assumption) (by (try simp) <;> omega))))
  have z0 : W0.heap.size = w.heap.size + 2 := by rw [← hW0]; simp
  have jR : Boxed W0 (w.heap.size + 1) 4 (.bool false) := by rw [← hW0]; unfold Boxed; (simp only [heap_at, World.size_alloc]; repeat (first | rw [if_pos (by omega)] | rw [if_neg (by omega)] | rw [if_pos trivial]))
  have HW0 := Lib.hid hW0
  have HB0 := Lib.hid b0
  have HZ0 := Lib.hid z0
  have HJR := Lib.hid jR
  clear hv hn hl hl6 hW0 b0 z0 jR hk0 ho0
  refine (callsIn_wide (n := 10)).1 ?_
  refine callsIn_of_wp_marks Try.func4 rfl trivial ?_ rfl
  simp only [Try.ntmps4, List.size_toArray, List.length_nil, List.length_cons, Nat.reduceAdd, Nat.reduceSub, Array.replicate_succ, Array.replicate_zero, List.push_toArray, List.append_toArray, List.nil_append, List.cons_append]
  gi_wp2_with fail
  rw [HW0.out]
  refine ⟨trivial, ?_⟩
  refine (callsIn_wide.2 (HC1.out W0 HB0.out)).mono ?_
  rintro e w1 ⟨u, rfl, hu, hb1⟩
  obtain ⟨ua, uc, rfl⟩ := Vec.slice hu
  have HB1 : Hid (Below w.heap.size w w1) := show Below _ _ _ from HB0.out.trans (hb1.mono HB0.out.size)
  have HR1 : Hid (Boxed w1 (w.heap.size + 1) 4 (.bool false)) := show Boxed _ _ _ _ from (hb1.block _ HJR.out.lt).trans HJR.out
  clear hu hb1
  gi_wp2_with fail
  refine ⟨trivial, ?_⟩
  refine (callsIn_wide.2 (HH1.out w1 HB1.out)).mono ?_
  rintro e w2 ⟨p, u, rfl, -, -, hb2⟩
  have HB2 : Hid (Below w.heap.size w w2) := show Below _ _ _ from HB1.out.trans (hb2.mono HB1.out.size)
  have HR2 : Hid (Boxed w2 (w.heap.size + 1) 4 (.bool false)) := show Boxed _ _ _ _ from (hb2.block _ HR1.out.lt).trans HR1.out
  have hq : ∀ W : World, (binOp .eql 39 (.func (.func 33) #[] #[.pointer (some ⟨p, 0, none⟩)]) .nilFunc).run Try.prog W = .ok (.bool false) W := fun _ => by kernel_rfl
  clear hb2
  gi_wp2_with fail
  clear hq
  refine ⟨trivial, ?_⟩
  refine (callsIn_wide.2 (HH1.out w2 HB2.out)).mono ?_
  rintro e w3 ⟨p2, u2, rfl, hx3, hv3, hb3⟩
  have HB3 : Hid (Below w.heap.size w w3) := show Below _ _ _ from HB2.out.trans (hb3.mono HB2.out.size)
  have HR3 : Hid (Boxed w3 (w.heap.size + 1) 4 (.bool false)) := show Boxed _ _ _ _ from (hb3.block _ HR2.out.lt).trans HR2.out
  have HSQ := Lib.hid (holes_seq 9 (Nat.le_refl _) (H := p2) w3 (by simp) (by simp) hx3 hv3)
  have HPL := Lib.hid (vcP_lt hv3 hx3.lt)
  clear hb3 hx3 hv3
  gi_wp2_with fail
  generalize hA : ({ tmps := _, defers := _ } : Act) = A0
  refine wpIn_range_F (n := 10) (by decide) (gf := 33) (lb := #[.pointer (some ⟨p2, 0, none⟩)]) (by rw [← hA]; rfl) (enters_of Try.func33 (by kernel_rfl) rfl) HSQ.out (fun k hk => HPL.out k hk) (Below.refl _ _) (fun _ => rfl)
    (fun _ q W => BelowF w3.heap.size w3 q W) (fun _ _ _ _ => False) (Abides.below _ _) (fun _ _ _ _ _ _ h _ _ => h) ⟨Below.refl _ _, Nat.le_refl _, fun _ h => h.elim⟩
    (fun _ _ _ => True) (fun _ _ _ _ h => h)
    ?assign ?body ?done ?stop
  case assign =>
    rintro l2 x W2 K hsz hK
    subst hA
    unfold encH
    dsimp only
    gi_wp2_with fail
    exact hK _ _ trivial (Below.refl _ _)
  case body =>
    rintro l2 pre x a' q2 W hI hs2 hqb hsp hr
    have : (pre ++ [x]).length ≤ 0 := List.IsPrefix.length_le hsp
    simp at this
  case done =>
    rintro D ys W hDb rfl ⟨iB, iBs, -⟩ hK'
    subst hA
    have HBW : Hid (Below w.heap.size w W) := show Below _ _ _ from HB3.out.trans (iB.mono HB3.out.size)
    have HRW : Hid (Boxed W (w.heap.size + 1) 4 (.bool false)) := show Boxed _ _ _ _ from (iB.block _ HR3.out.lt).trans HR3.out
    have HK := Lib.hid hK'
    have HDB : Hid (w.heap.size + 2 ≤ D) := show _ ≤ _ by have := HR3.out.lt; omega
    clear iB iBs hK' hDb
    gi_wp2_with fail
    refine ⟨trivial, ?_⟩
    refine (callsIn_wide.2 (HN.out 190 W)).mono ?_
    rintro e w5 ⟨rfl, rfl⟩
    gi_wp2_with fail
    refine ⟨trivial, ?_⟩
    refine (callsIn_wide.2 (HWK.out W)).mono ?_
    rintro e w6 ⟨rfl, hb6⟩
    have hD6 : w6.heap[D]? = some (.deferred (some [])) := (hb6.block _ (Array.getElem?_eq_some_iff.1 HK.out).1).trans HK.out
    have hR6 : Boxed w6 (w.heap.size + 1) 4 (.bool false) := (hb6.block _ HRW.out.lt).trans HRW.out
    have HB6 : Hid (Below w.heap.size w w6) := show Below _ _ _ from HBW.out.trans (hb6.mono HBW.out.size)
    have HD6 := Lib.hid hD6
    have HR6 := Lib.hid hR6
    have dR := hR6.cell
    have gR := hR6.frozen
    have lR := hR6.lt
    clear hb6 hD6 hR6
    gi_wp2_with fail
    refine leaves_one (D := D) ((Below.heap_setCell _ _ _ D (by have := HDB.out; show D ≠ w.heap.size + 1; omega)).trans HD6.out) fun W' ht hc => ⟨.bool true, ?_, rfl, ?_⟩
    · have h9 : Boxed W' (w.heap.size + 1) 4 (.bool true) := hc _ _ _ _ (HR6.out.set _)
      simp [results, Try.results4, go_sem, h9.cell]
    · exact (HB6.out.setCell (p := ⟨w.heap.size + 1, 0, none⟩) (show w.heap.size ≤ w.heap.size + 1 by omega) _).trans (ht.below (fun k h => by have := HDB.out; omega) (by have := HB6.out.size; simp [World.setCell]; omega))
  case stop =>
    rintro D cd pre W hDb hpre hX hK'
    exact hX.elim
end Go.Proofs.Ytmncoclmgcjjjaa
