/-
  path: the law PathCounts.
-/
import Derived.Test.YtohdgjmmekgcmaaDoorQPthS
namespace Go.Proofs.YtohdgjmmekgcmaaDoor
open Go.RowKit Go.Shelf Go.Sort
attribute [local go_sem] Oper.semAt_some

/-- The path ahead. -/
def aheadP (l : List (List UInt8)) : Nat → List UInt8
  | 0 => []
  | k + 1 => pathOf (l.take k)
/-- In the rounds of PathCounts. -/
def CntI (w : World) (nb ab rb : Nat) (l : List (List UInt8)) (pre : List Nat) (q : Nat → Prop) (W : World) : Prop :=
  BoxF nb 3 (.int .i64 (pre.length : Nat)) q W ∧ BoxF ab 9 (encStr (aheadP l pre.length)) q W ∧ BoxF rb 4 (.bool false) q W ∧ BelowF w.heap.size w q W
theorem abides_cnt (w : World) (nb ab rb : Nat) (l : List (List UInt8)) : Abides (CntI w nb ab rb l) := Abides.and (Abides.box _ _ (fun pre : List Nat => .int .i64 (pre.length : Nat))) (Abides.and (Abides.box _ _ (fun pre : List Nat => encStr (aheadP l pre.length))) (Abides.and (Abides.box _ _ (fun _ => .bool false)) (Abides.below _ _)))
theorem upTo_prefix {l : List (List UInt8)} {pre : List Nat} {k : Nat} (h : pre ++ [k] <+: upTo l) : k = pre.length ∧ k ≤ l.length := by
  obtain ⟨r, hr⟩ := h
  have hne : l ≠ [] := fun e => by subst e; rw [upTo_nil] at hr; simp at hr
  have hat : (upTo l)[pre.length]? = some k := by rw [← hr]; simp
  unfold upTo at hat
  rw [if_neg hne] at hat
  obtain ⟨h1, h2⟩ := List.getElem?_eq_some_iff.1 hat
  simp at h1 h2
  exact ⟨h2.symm, by omega⟩
theorem within_step {l : List (List UInt8)} (h1 : l.length ≤ 16) (h2 : l.all rightN = true) {k : Nat} (hk : k + 1 ≤ l.length) : withinE (pathOf (l.take (k + 1))) (pathOf (l.take k)) = (true, 0) := by
  unfold withinE
  rw [splitE_path (l.take (k + 1)) (by rw [List.length_take]; omega) (take_right h2 _), splitE_path (l.take k) (by rw [List.length_take]; omega) (take_right h2 _)]
  rw [if_neg (by simp), if_neg (by simp)]
  have : isIn (l.take (k + 1)) (l.take k) = true := by
    rw [isIn_take, Bool.and_eq_true, decide_eq_true_iff, decide_eq_true_iff, List.length_take, List.length_take, List.take_take]
    refine ⟨by omega, ?_⟩
    congr 1
    omega
  rw [this]
set_option maxRecDepth 100000 in
set_option maxHeartbeats 16000000 in
theorem counts7_mid (s : List UInt8) (hs : s.length ≤ 300) (h0 : (splitE s).2 = 0) (h1 : (splitE s).1 ≠ []) (w : World) (hm : MaxC w) :
    Calls Tryd.prog 10 #[encStr s] w fun e w' => e = .returned (.bool true) ∧ Below w.heap.size w w' := by
  have HMX := Lib.hid (fun W (hb : Below w.heap.size w W) => hm.below hb hm.room)
  have hback := splitE_back s h0
  have hlen := splitE_len s
  have hri := splitE_right s
  have HSQ0 := Lib.hid (fun (H : Nat) (w : World) (hm : MaxC w) hH => pre_seq 19 (by decide) H s (by omega) w hm hH)
  have HS := Lib.hid (fun w hm => paSplit_any s (by omega) w hm)
  obtain ⟨l, hl⟩ : ∃ l, (splitE s).1 = l := ⟨_, rfl⟩
  rw [h0, hl] at HS
  rw [hl] at hback hlen hri HSQ0 h1
  have HBK := Lib.hid hback
  have HLN := Lib.hid hlen
  have HRI := Lib.hid hri
  have HL0 := Lib.hid h1
  have hll : ((l.length : Int) == 0) = false := by simp [h1]
  have q1 : ¬ (300 : Int) < (s.length : Int) := by omega
  clear hm hback hri h0 hl h1
  refine (callsIn_wide (n := 20)).1 ?_
  refine callsIn_of_wp_marks Tryd.func10 rfl trivial ?_ rfl
  simp only [Tryd.ntmps10, List.size_toArray, List.length_cons, List.length_nil, Nat.reduceAdd, Nat.reduceSub, Array.replicate_succ, Array.replicate_zero, List.push_toArray, List.append_toArray, List.nil_append, List.cons_append]
  have bA : Below w.heap.size w (w.alloc (.cells #[.bool false] 4)) := (Below.refl _ _).alloc (Nat.le_refl _) _
  have HRA := Lib.hid (Boxed.new w 4 (.bool false))
  have HBA := Lib.hid bA
  clear bA
  gi_wp2_with fail
  refine ⟨trivial, ?_⟩
  refine (callsIn_wide.2 (HS.out _ (HMX.out _ HBA.out))).mono ?_
  rintro e w1 ⟨v, rfl, hv, hb1⟩
  have HB1 : Hid (Below w.heap.size w w1) := show Below _ _ _ from HBA.out.trans (hb1.mono HBA.out.size)
  have HR1 : Hid (Boxed w1 w.heap.size 4 (.bool false)) := show Boxed _ _ _ _ from (hb1.block _ HRA.out.lt).trans HRA.out
  obtain ⟨va, vc, rfl⟩ := hv.txs.slice
  clear hv hb1 HRA HBA
  gi_wp2_with fail
  refine ⟨trivial, ?_⟩
  refine (callsIn_wide.2 (num7_any 0 _)).mono ?_
  rintro e wz ⟨rfl, rfl⟩
  gi_wp2_with fail
  have b2 : Below w1.heap.size w1 ((w1.alloc (.cells #[.int .i64 0] 3)).alloc (.cells #[encStr []] 9)) := (by repeat (first | exact Below.refl _ _ | assumption | refine Below.drew ?_ | refine below_drewN ?_ _ | refine Below.alloc ?_ (by (try simp) <;> omega) _ | refine Below.setCell ?_ (by (try simp) <;> omega) _ | refine Below.trans ?_ (Below.mono (by assumption) (by (try simp) <;> omega))))
  have x2 := (Boxed.new w1 3 (.int .i64 0)).alloc (.cells #[encStr []] 9)
  have y2 := Boxed.new (w1.alloc (.cells #[.int .i64 0] 3)) 9 (encStr [])
  rw [World.size_alloc] at y2
  have HR2 : Hid (Boxed ((w1.alloc (.cells #[.int .i64 0] 3)).alloc (.cells #[encStr []] 9)) w.heap.size 4 (.bool false)) := show Boxed _ _ _ _ from (b2.block _ HR1.out.lt).trans HR1.out
  have HB2 := Lib.hid (HB1.out.trans (b2.mono HB1.out.size))
  have hlt0 : w.heap.size < w1.heap.size := HR1.out.lt
  have hz2 : ((w1.alloc (.cells #[.int .i64 0] 3)).alloc (.cells #[encStr []] 9)).heap.size = w1.heap.size + 2 := by simp
  refine ⟨trivial, ?_⟩
  refine (callsIn_wide.2 (paPrefixes_any s ((w1.alloc (.cells #[.int .i64 0] 3)).alloc (.cells #[encStr []] 9)))).mono ?_
  rintro e w3 ⟨rfl, hw3⟩
  obtain ⟨w2, hw2⟩ : ∃ w2, (w1.alloc (.cells #[.int .i64 0] 3)).alloc (.cells #[encStr []] 9) = w2 := ⟨_, rfl⟩
  rw [hw2] at hw3 x2 y2 HR2 HB2 hz2 ⊢
  have hb3 : Below w2.heap.size w2 w3 := by rw [hw3]; exact (Below.refl _ _).alloc (Nat.le_refl _) _
  have HBS : Hid (Boxed w3 w2.heap.size 9 (encStr s)) := show Boxed _ _ _ _ by rw [hw3]; exact Boxed.new w2 9 _
  have HB3 : Hid (Below w.heap.size w w3) := show Below _ _ _ from HB2.out.trans (hb3.mono HB2.out.size)
  have HZ3 : Hid (w1.heap.size + 2 ≤ w3.heap.size) := show _ ≤ _ by have := hb3.size; omega
  have HSQ := Lib.hid (HSQ0.out w2.heap.size w3 (HMX.out _ HB3.out) HBS.out)
  have HI0 : Hid (CntI w w1.heap.size (w1.heap.size + 1) w.heap.size l [] (fun _ => False) w3) := show CntI _ _ _ _ _ _ _ _ from
    ⟨⟨(hb3.block _ (by omega)).trans x2, id⟩, ⟨(hb3.block _ (by omega)).trans y2, id⟩, ⟨(hb3.block _ (by omega)).trans HR2.out, id⟩, HB3.out, HB3.out.size, fun _ h => h.elim⟩
  clear hw3 hw2 hb3 b2 x2 y2 HR2 HB2 HR1 HB1 HBS HSQ0 hz2
  gi_wp2_with fail
  generalize hAA : ({ tmps := _, defers := _ } : Act) = A0
  refine wpIn_range_F (n := 20) (by decide) (gf := 76) (lb := #[.pointer (some ⟨w2.heap.size, 0, none⟩)]) (by rw [← hAA]; rfl) (enters_of Tryd.func76 (by kernel_rfl) rfl) HSQ.out (fun k hk => hk.elim) (Below.refl _ _) (fun _ => rfl)
    (CntI w w1.heap.size (w1.heap.size + 1) w.heap.size l) (fun _ _ _ _ => False) (abides_cnt _ _ _ _ _) (fun _ _ _ _ _ _ h _ _ => h) HI0.out
    (fun k a' _ => a' = { tmps := (((A0.tmps.setIfInBounds 31 (.int .i64 (k : Nat))).setIfInBounds 32 (encStr (pathOf (l.take k)))).setIfInBounds 7 (.int .i64 (k : Nat))).setIfInBounds 8 (encStr (pathOf (l.take k))), defers := [] })
    (fun x a' W1 o h => h)
    ?assign ?body ?done ?stop
  case assign =>
    rintro l2 k W2 K hsz hK
    subst hAA
    unfold encX
    dsimp only
    gi_wp2_with fail
    refine hK _ _ ?_ (Below.refl _ _)
    rfl
  case body =>
    rintro l2 pre k a' q2 W2 hI hs2 hqb hsp rfl
    subst hAA
    obtain ⟨⟨hN, hNq⟩, ⟨hA, hAq⟩, ⟨hR, hRq⟩, hB⟩ := hI
    obtain ⟨hk, hkl⟩ := upTo_prefix hsp
    subst hk
    have hk16 := HLN.out
    have HKL := Lib.hid hkl
    have HBF := Lib.hid hB
    have HPL : Hid ((pre ++ [pre.length]).length = pre.length + 1) := show _ = _ by simp
    have HN := Lib.hid hN
    have HA := Lib.hid hA
    have HR := Lib.hid hR
    have HQ := Lib.hid (And.intro hNq (And.intro hAq hRq))
    have fin : ∀ W3, Below W2.heap.size W2 W3 → postF (fun _ => False) q2 (CntI w w1.heap.size (w1.heap.size + 1) w.heap.size l) (fun _ _ _ _ => False) (pre ++ [pre.length]) W2 .normal { tmps := #[], defers := [] } ((W3.setCell ⟨w1.heap.size, 0, none⟩ (.int .i64 ((pre.length : Int) + 1))).setCell ⟨w1.heap.size + 1, 0, none⟩ (encStr (pathOf (l.take pre.length)))) := fun W3 h3 => by
      have n3 : Boxed W3 w1.heap.size 3 (.int .i64 (pre.length : Nat)) := (h3.block _ HN.out.lt).trans HN.out
      have a3 : Boxed W3 (w1.heap.size + 1) 9 (encStr (aheadP l pre.length)) := (h3.block _ HA.out.lt).trans HA.out
      have r3 : Boxed W3 w.heap.size 4 (.bool false) := (h3.block _ HR.out.lt).trans HR.out
      have hz3 := h3.size
      refine ⟨((Keeps.trans ⟨h3.size, fun j _ hl => h3.block j hl⟩ (Keeps.set W3 (b := w1.heap.size) (o := 0) _ (fun h => h.elim id HQ.out.1))).trans (Keeps.set _ (b := w1.heap.size + 1) (o := 0) _ (fun h => h.elim id HQ.out.2.1))), ⟨?_, HQ.out.1⟩, ⟨?_, HQ.out.2.1⟩, ⟨?_, HQ.out.2.2⟩, ?_, ?_, HBF.out.2.2⟩
      · rw [HPL.out]
        exact (n3.set _).other (by omega) _
      · rw [HPL.out]
        exact (a3.other (by omega) _).set _
      · exact (r3.other (by omega) _).other (by omega) _
      · exact ((HBF.out.1.trans (h3.mono HBF.out.2.1)).setCell (p := ⟨w1.heap.size, 0, none⟩) (show w.heap.size ≤ w1.heap.size by omega) _).setCell (p := ⟨w1.heap.size + 1, 0, none⟩) (show w.heap.size ≤ w1.heap.size + 1 by omega) _
      · have := HBF.out.2.1
        simp [World.setCell]
        omega
    have HFIN := Lib.hid fin
    clear fin
    have cN := hN.cell
    have fN := hN.frozen
    have cA := hA.cell
    have fA := hA.frozen
    have hne1 : w1.heap.size ≠ w1.heap.size + 1 := by omega
    have HWI : Hid (0 < pre.length → withinE (pathOf (l.take pre.length)) (aheadP l pre.length) = (true, 0) ∧ (aheadP l pre.length).length ≤ 656) := show _ → _ from fun h0 => by
      obtain ⟨j, hj⟩ : ∃ j, pre.length = j + 1 := ⟨pre.length - 1, by omega⟩
      rw [hj]
      exact ⟨within_step HLN.out HRI.out (by omega), pathOf_length _ (take_right HRI.out j) (by rw [List.length_take]; omega)⟩
    have HPW := Lib.hid (pathOf_length _ (take_right HRI.out pre.length) (by rw [List.length_take]; omega))
    have hzb := HBF.out.2.1
    obtain ⟨m, hm⟩ : ∃ m, pre.length = m := ⟨_, rfl⟩
    rw [hm] at cN cA HFIN HWI HPW HN HA hkl ⊢
    have h16 : ¬ (16 : Int) < (m : Int) := by omega
    have hmm : ((m : Int) == (m : Int)) = true := by simp
    clear hsp hqb hs2 hN hA hR hB hNq hAq hRq HPL hm HKL
    rcases Nat.eq_zero_or_pos m with h0 | h0
    · have hq : ¬ (0 : Int) < (m : Int) := by omega
      clear h0
      gi_wp2_with fail
      exact HFIN.out _ (Below.refl _ _)
    · have hq : (0 : Int) < (m : Int) := by omega
      have HWJ := Lib.hid (fun w hm => paWithin_any (pathOf (l.take m)) (aheadP l m) (by have := HPW.out; omega) (by have := (HWI.out h0).2; omega) w hm)
      rw [(HWI.out h0).1] at HWJ
      obtain ⟨p, hp⟩ : ∃ p, pathOf (l.take m) = p := ⟨_, rfl⟩
      obtain ⟨g, hg⟩ : ∃ g, aheadP l m = g := ⟨_, rfl⟩
      rw [hp] at HFIN HWJ ⊢
      rw [hg] at cA HWJ HA
      clear h0 HWI HPW hp hg
      gi_wp2_with fail
      refine ⟨trivial, ?_⟩
      refine (CallsIn.inRound l2 (callsIn_wide.2 (HWJ.out _ (HMX.out _ HBF.out.1)))).mono ?_
      rintro e W3 ⟨rfl, hb3⟩
      have HB3 := Lib.hid hb3
      have n3 : Boxed W3 w1.heap.size 3 (.int .i64 (m : Nat)) := (hb3.block _ HN.out.lt).trans HN.out
      have a3 : Boxed W3 (w1.heap.size + 1) 9 (encStr g) := (hb3.block _ HA.out.lt).trans HA.out
      have dN := n3.cell
      have gN := n3.frozen
      have dA := a3.cell
      have gA := a3.frozen
      clear cN fN cA fA hb3 n3 a3
      gi_wp2_with fail
      refine ⟨trivial, ?_⟩
      refine (CallsIn.inRound l2 (callsIn_wide.2 (num7_any 0 _))).mono ?_
      rintro e wz ⟨rfl, hwz⟩
      rw [← hwz]
      clear hwz
      gi_wp2_with fail
      exact HFIN.out _ HB3.out
  case stop =>
    rintro D cd pre W2 hD hpre h hK'
    exact h.elim
  case done =>
    rintro D ys wd hD rfl hI hK'
    subst hAA
    obtain ⟨⟨hN, -⟩, ⟨hA, -⟩, ⟨hR, -⟩, hB, -, -⟩ := hI
    have hul : (upTo l).length = l.length + 1 := by unfold upTo; rw [if_neg HL0.out]; simp
    have hae : aheadP l (l.length + 1) = s := by
      show pathOf (l.take l.length) = s
      rw [List.take_length, ← HBK.out]
    rw [hul] at hN hA
    rw [hae] at hA
    have cN := hN.cell
    have cA := hA.cell
    have HR := Lib.hid hR
    have HB := Lib.hid hB
    have HK := Lib.hid hK'
    have hD2 := hD
    have hzz := HZ3.out
    have hss : (s == s) = true := by simp
    have hlb := HLN.out
    have HDN : Hid (w.heap.size < D) := show _ < _ by omega
    clear hN hA hR hB hK' hul hae
    gi_wp2_with fail
    refine ⟨trivial, ?_⟩
    refine (callsIn_wide.2 (works7_any _ (HMX.out _ HB.out))).mono ?_
    rintro e w5 ⟨rfl, hb5⟩
    have r5 : Boxed w5 w.heap.size 4 (.bool false) := (hb5.block _ HR.out.lt).trans HR.out
    have HD5 : Hid (w5.heap[D]? = some (.deferred (some []))) := show _ = _ from (hb5.block D (Array.getElem?_eq_some_iff.1 HK.out).1).trans HK.out
    have HB5 : Hid (Below w.heap.size w w5) := show Below _ _ _ from HB.out.trans (hb5.mono HB.out.size)
    have dR := r5.cell
    have gR := r5.frozen
    have HR5 := Lib.hid r5
    clear r5 hb5 cN cA
    gi_wp2_with fail
    refine leaves_one (D := D) ((Below.heap_setCell _ _ _ D (by have := HDN.out; show D ≠ w.heap.size; omega)).trans HD5.out) fun W' ht hc => ⟨.bool true, ?_, rfl, ?_⟩
    · have hbx : Boxed W' w.heap.size 4 (.bool true) := hc _ _ _ _ (HR5.out.set (.bool true))
      simp [results, Tryd.results10, go_sem, hbx.cell]
    · have hb6 : Below w.heap.size w (w5.setCell ⟨w.heap.size, 0, none⟩ (.bool true)) := HB5.out.setCell (p := ⟨w.heap.size, 0, none⟩) (Nat.le_refl _) _
      exact hb6.trans (ht.below (fun k h => by have := HDN.out; omega) hb6.size)
set_option maxRecDepth 100000 in
set_option maxHeartbeats 4000000 in
theorem counts7_any (s : List UInt8) (w : World) (hm : MaxC w) :
    Calls Tryd.prog 10 #[encStr s] w fun e w' => e = .returned (.bool true) ∧ Below w.heap.size w w' := by
  by_cases h1 : 300 < s.length
  · have q1 : (300 : Int) < (s.length : Int) := by omega
    have HMX := Lib.hid (fun W (hb : Below w.heap.size w W) => hm.below hb hm.room)
    have HBA : Hid (Below w.heap.size w (w.alloc (.cells #[.bool false] 4))) := Lib.hid ((Below.refl _ _).alloc (Nat.le_refl _) _)
    have HRA := Lib.hid (Boxed.new w 4 (.bool false))
    clear h1 hm
    go_enter Tryd.func10, Tryd.ntmps10
    go_wp2_with fail
    refine (works7_any _ (HMX.out _ HBA.out)).mono ?_
    rintro e w1 ⟨rfl, hb⟩
    have r1 : Boxed w1 w.heap.size 4 (.bool false) := (hb.block _ HRA.out.lt).trans HRA.out
    have HR1 := Lib.hid r1
    have HB1 : Hid (Below w.heap.size w w1) := show Below _ _ _ from HBA.out.trans (hb.mono HBA.out.size)
    have dR := r1.cell
    have gR := r1.frozen
    clear r1 hb
    go_wp2_with fail
    exact bodyPost_ret (v := .bool true) (by simp [results, Tryd.results10, go_sem, (HR1.out.set (.bool true)).cell]) rfl ⟨rfl, HB1.out.setCell (p := ⟨w.heap.size, 0, none⟩) (Nat.le_refl _) _⟩
  · by_cases h2 : (splitE s).2 = 0 ∧ (splitE s).1 ≠ []
    · exact counts7_mid s (by omega) h2.1 h2.2 w hm
    · have q1 : ¬ (300 : Int) < (s.length : Int) := by omega
      have HMX := Lib.hid (fun W (hb : Below w.heap.size w W) => hm.below hb hm.room)
      have HBA : Hid (Below w.heap.size w (w.alloc (.cells #[.bool false] 4))) := Lib.hid ((Below.refl _ _).alloc (Nat.le_refl _) _)
      have HRA := Lib.hid (Boxed.new w 4 (.bool false))
      have HS := Lib.hid (fun w hm => paSplit_any s (by omega) w hm)
      have HE := Lib.hid (splitE_err s)
      obtain ⟨⟨l, no⟩, hx⟩ : ∃ x, splitE s = x := ⟨_, rfl⟩
      rw [hx] at HS h2 HE
      dsimp only at HS h2 HE
      have hl : l = [] := by
        by_cases h3 : no = 0
        · rcases Decidable.em (l = []) with h | h
          · exact h
          · exact absurd ⟨h3, h⟩ h2
        · exact HE.out h3
      subst hl
      clear h1 h2 hm hx HE
      go_enter Tryd.func10, Tryd.ntmps10
      go_wp2_with fail
      refine (HS.out _ (HMX.out _ HBA.out)).mono ?_
      rintro e w0 ⟨v, rfl, hv, hb0⟩
      obtain ⟨va, vc, rfl⟩ := hv.txs.slice
      have HR0 : Hid (Boxed w0 w.heap.size 4 (.bool false)) := show Boxed _ _ _ _ from (hb0.block _ HRA.out.lt).trans HRA.out
      have HB0 : Hid (Below w.heap.size w w0) := show Below _ _ _ from HBA.out.trans (hb0.mono HBA.out.size)
      clear hv hb0
      by_cases h3 : no = 0
      · subst h3
        go_wp2_with (first | (go_at_call 36; refine (num7_any _ _).mono ?_; rintro e wz ⟨rfl, rfl⟩) | (go_at_call 30; refine park ?_))
        unfold Park
        refine (works7_any _ (HMX.out _ HB0.out)).mono ?_
        rintro e w1 ⟨rfl, hb⟩
        have r1 : Boxed w1 w.heap.size 4 (.bool false) := (hb.block _ HR0.out.lt).trans HR0.out
        have HR1 := Lib.hid r1
        have HB1 : Hid (Below w.heap.size w w1) := show Below _ _ _ from HB0.out.trans (hb.mono HB0.out.size)
        have dR := r1.cell
        have gR := r1.frozen
        clear r1 hb
        go_wp2_with fail
        exact bodyPost_ret (v := .bool true) (by simp [results, Tryd.results10, go_sem, (HR1.out.set (.bool true)).cell]) rfl ⟨rfl, HB1.out.setCell (p := ⟨w.heap.size, 0, none⟩) (Nat.le_refl _) _⟩
      · have hq : (no == 0) = false := by simp [h3]
        clear h3
        go_wp2_with (first | (go_at_call 36; refine (num7_any _ _).mono ?_; rintro e wz ⟨rfl, rfl⟩) | (go_at_call 30; refine park ?_))
        all_goals
          unfold Park
          refine (works7_any _ (HMX.out _ HB0.out)).mono ?_
          rintro e w1 ⟨rfl, hb⟩
          have r1 : Boxed w1 w.heap.size 4 (.bool false) := (hb.block _ HR0.out.lt).trans HR0.out
          have HR1 := Lib.hid r1
          have HB1 : Hid (Below w.heap.size w w1) := show Below _ _ _ from HB0.out.trans (hb.mono HB0.out.size)
          have dR := r1.cell
          have gR := r1.frozen
          clear r1 hb
          go_wp2_with fail
          exact bodyPost_ret (v := .bool true) (by simp [results, Tryd.results10, go_sem, (HR1.out.set (.bool true)).cell]) rfl ⟨rfl, HB1.out.setCell (p := ⟨w.heap.size, 0, none⟩) (Nat.le_refl _) _⟩
end Go.Proofs.YtohdgjmmekgcmaaDoor
