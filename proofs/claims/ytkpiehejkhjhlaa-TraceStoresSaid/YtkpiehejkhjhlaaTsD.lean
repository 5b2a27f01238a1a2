/-
  trace: the chapter's rows.
-/
import Derived.Test.YtkpiehejkhjhlaaTsC
namespace Go.Proofs.Ytkpiehejkhjhlaa
open Go.RowKit Go.Shelf Go.Maps
attribute [local go_sem] Oper.semAt_some

/-- Touches laid anew. -/
theorem slT_new (W : World) (cs : Array Value) (ts : List Tch) (h : cs.toList = flatC cT ts) : SlT (W.alloc (.cells cs 32)) (.slice (some ⟨W.heap.size, 0, none⟩) ts.length ts.length) ts := by
  refine slT_of_vec ?_
  rw [← h]
  exact vec_new W cs 32 ts.length 3 (by rw [← Array.length_toList, h, flatC_length cT_len])
def exA : List Tch := [⟨2, 9, 1⟩, ⟨3, 0, 0⟩, ⟨1, 17, 0⟩]
def exB : List Tch := [⟨2, 9, 1⟩]
def exC : List Tch := [⟨2, 9, 1⟩, ⟨2, 8, 2⟩, ⟨2, 9, 3⟩]
def exD : List Tch := [⟨2, 9, 1⟩, ⟨3, 1, 0⟩, ⟨4, 0, 0⟩]
def exE : List Tch := [⟨2, 9, 1⟩, ⟨4, 0, 0⟩, ⟨3, 1, 0⟩]
theorem okT_ex {l : List Tch} (h : l.all (fun t => decide (-9223372036854775808 ≤ t.at_ ∧ t.at_ ≤ 9223372036854775807 ∧ 0 ≤ t.word ∧ t.word ≤ 18446744073709551615)) = true) : ∀ t ∈ l, okT t := fun t ht => by
  have := of_decide_eq_true (List.all_eq_true.1 h t ht)
  exact ⟨⟨this.1, this.2.1⟩, this.2.2⟩
theorem exA_lines : linesV hasL exA = [0, 1, 2] := by decide +kernel
theorem exB_closed : closedV exB = exD ∧ closedE exB = 0 := by
  have h := closed_same (ts := exB) (by decide +kernel)
  rw [h.1, h.2]
  decide +kernel
theorem exC_puts : putsV exC = [(8, 2), (9, 3)] := by
  rw [puts_same (by decide +kernel)]
  decide +kernel
theorem exD_order : orderC exD = true := by
  rw [order_same (by decide +kernel)]
  decide +kernel
theorem exE_order : orderC exE = false := by
  rw [order_same (by decide +kernel)]
  decide +kernel
def exF : List Tch := [⟨3, 1024, 0⟩]
def exG : List Tch := [⟨4, 1, 0⟩]
/-- n, behind so many words. -/
def nVal : Nat → Int
  | 0 => 0
  | 1 => 82
  | _ => 8293
/-- In the rounds of works. -/
def WkI (w : World) (nb : Nat) (pre : List (Nat × Int)) (q : Nat → Prop) (W : World) : Prop :=
  BoxF nb 30 (.int .u64 (nVal pre.length)) q W ∧ BelowF w.heap.size w q W
theorem abides_wk (w : World) (nb : Nat) : Abides (WkI w nb) := Abides.and (Abides.box _ _ (fun pre : List (Nat × Int) => .int .u64 (nVal pre.length))) (Abides.below _ _)
theorem two_of_prefix {pre : List (Nat × Int)} {x : Nat × Int} (h : pre ++ [x] <+: [(8, 2), (9, 3)]) : (pre = [] ∧ x = (8, 2)) ∨ (pre = [(8, 2)] ∧ x = (9, 3)) := by
  obtain ⟨t, e⟩ := h
  rcases pre with _ | ⟨a, _ | ⟨b, pre⟩⟩
  · simp at e; exact .inl ⟨rfl, e.1⟩
  · simp at e; exact .inr ⟨by rw [e.1], e.2.1⟩
  · simp at e
set_option maxRecDepth 100000 in
set_option maxHeartbeats 8000000 in
theorem works5_any (w : World) : Calls Try.prog 10 #[] w fun e w' => e = .returned (.bool true) ∧ Below w.heap.size w w' := by
  refine (callsIn_wide (n := 9)).1 ?_
  refine callsIn_of_wp_marks Try.func10 rfl trivial ?_ rfl
  simp only [Try.ntmps10, List.size_toArray, List.length_nil, Nat.reduceSub, Array.replicate_succ, Array.replicate_zero, List.push_toArray, List.append_toArray, List.nil_append, List.cons_append]
  gi_wp2_with fail
  refine ⟨trivial, ?_⟩
  refine (callsIn_wide.2 (storeL_any 9 1 _)).mono ?_
  rintro e w1 ⟨rfl, hb⟩
  have HB_w1 : Hid (Below w.heap.size w w1) := show Below _ _ _ from hb
  clear hb
  gi_wp2_with fail
  refine ⟨trivial, ?_⟩
  refine (callsIn_wide.2 (flushL_any 0 _)).mono ?_
  rintro e w2 ⟨rfl, hb⟩
  have HB_w2 : Hid (Below w.heap.size w w2) := show Below _ _ _ from HB_w1.out.trans (hb.mono HB_w1.out.size)
  clear hb
  gi_wp2_with fail
  have hal : Below w2.heap.size w2 (w2.alloc (.cells #[.int .i64 2, .int .i64 9, .int .u64 1, .int .i64 3, .int .i64 0, .int .u64 0, .int .i64 1, .int .i64 17, .int .u64 0] 32)) := (Below.refl _ _).alloc (Nat.le_refl _) _
  have hst : SlT (w2.alloc (.cells #[.int .i64 2, .int .i64 9, .int .u64 1, .int .i64 3, .int .i64 0, .int .u64 0, .int .i64 1, .int .i64 17, .int .u64 0] 32)) (.slice (some ⟨w2.heap.size, 0, none⟩) 3 3) exA := slT_new w2 #[.int .i64 2, .int .i64 9, .int .u64 1, .int .i64 3, .int .i64 0, .int .u64 0, .int .i64 1, .int .i64 17, .int .u64 0] exA rfl
  obtain ⟨w3, hv⟩ : ∃ w3, w2.alloc (.cells #[.int .i64 2, .int .i64 9, .int .u64 1, .int .i64 3, .int .i64 0, .int .u64 0, .int .i64 1, .int .i64 17, .int .u64 0] 32) = w3 := ⟨_, rfl⟩
  rw [hv] at hal hst ⊢
  clear hv
  have HB_w3 : Hid (Below w.heap.size w w3) := show Below _ _ _ from HB_w2.out.trans (hal.mono HB_w2.out.size)
  clear hal
  refine ⟨trivial, ?_⟩
  refine (callsIn_wide.2 (linesT_any w3 (by decide) hst)).mono ?_
  rintro e w4 ⟨ua, rfl, hsa, hb⟩
  have HB_w4 : Hid (Below w.heap.size w w4) := show Below _ _ _ from HB_w3.out.trans (hb.mono HB_w3.out.size)
  rw [show checkT exA = 0 by decide +kernel]
  rw [show checkT exA = 0 by decide +kernel, if_pos rfl, exA_lines] at hsa
  obtain ⟨aa, ac, rfl, hla, hca⟩ := id hsa
  have HSA := Lib.hid hsa
  clear hsa hla hca
  clear hb hst
  have HSAF : Hid (∀ W, Below w4.heap.size w4 W → Sl W .i64 (.slice aa ([0, 1, 2] : List Nat).length ac) [0, 1, 2]) := show ∀ W, _ from fun W hW => HSA.out.below hW
  have HB0 := HB_w4
  gi_wp2_with fail
  refine ⟨trivial, ?_⟩
  refine (callsIn_wide.2 (storeL_any 9 1 _)).mono ?_
  rintro e w5 ⟨rfl, hb⟩
  have HB_w5 : Hid (Below w4.heap.size w4 w5) := show Below _ _ _ from hb
  clear hb
  gi_wp2_with fail
  have hal : Below w5.heap.size w5 (w5.alloc (.cells #[.int .i64 2, .int .i64 9, .int .u64 1] 32)) := (Below.refl _ _).alloc (Nat.le_refl _) _
  have hst : SlT (w5.alloc (.cells #[.int .i64 2, .int .i64 9, .int .u64 1] 32)) (.slice (some ⟨w5.heap.size, 0, none⟩) 1 1) exB := slT_new w5 #[.int .i64 2, .int .i64 9, .int .u64 1] exB rfl
  obtain ⟨w6, hv⟩ : ∃ w6, w5.alloc (.cells #[.int .i64 2, .int .i64 9, .int .u64 1] 32) = w6 := ⟨_, rfl⟩
  rw [hv] at hal hst ⊢
  clear hv
  have HB_w6 : Hid (Below w4.heap.size w4 w6) := show Below _ _ _ from HB_w5.out.trans (hal.mono HB_w5.out.size)
  clear hal
  refine ⟨trivial, ?_⟩
  refine (callsIn_wide.2 (closed_any w6 (by decide) (okT_ex (by decide +kernel)) hst)).mono ?_
  rintro e w7 ⟨uc, rfl, hsc, hb⟩
  have HB_w7 : Hid (Below w4.heap.size w4 w7) := show Below _ _ _ from HB_w6.out.trans (hb.mono HB_w6.out.size)
  rw [exB_closed.2]
  rw [exB_closed.1] at hsc
  have hsl : ∃ a c, uc = .slice a exD.length c := GrowB.slice hsc
  obtain ⟨ca, cc, rfl⟩ := hsl
  have HSC := Lib.hid hsc.slT
  clear hsc
  clear hb hst
  have HSCF : Hid (∀ W, Below w7.heap.size w7 W → SlT W (.slice ca exD.length cc) exD) := show ∀ W, _ from fun W hW => HSC.out.below hW
  have HB1 := HB_w7
  obtain ⟨nb, hnb⟩ : ∃ nb, w7.heap.size = nb := ⟨_, rfl⟩
  have hal : Below w7.heap.size w7 (w7.alloc (.cells #[.int .u64 0] 30)) := (Below.refl _ _).alloc (Nat.le_refl _) _
  have hbn : Boxed (w7.alloc (.cells #[.int .u64 0] 30)) nb 30 (.int .u64 0) := by rw [← hnb]; exact Boxed.new w7 30 _
  obtain ⟨w8, hv⟩ : ∃ w8, w7.alloc (.cells #[.int .u64 0] 30) = w8 := ⟨_, rfl⟩
  rw [hv] at hal hbn
  have HV_w8 := Lib.hid hv
  have HNB := Lib.hid hnb
  have HB_w8 := Lib.hid hal
  have HN_w8 := Lib.hid hbn
  clear hal hbn hv
  gi_wp2_with fail
  rw [HV_w8.out]
  clear hnb
  refine ⟨trivial, ?_⟩
  refine (callsIn_wide.2 (storeL_any 9 1 _)).mono ?_
  rintro e w9 ⟨rfl, hb⟩
  have HB_w9 : Hid (Below w7.heap.size w7 w9) := show Below _ _ _ from HB_w8.out.trans (hb.mono HB_w8.out.size)
  have HN_w9 : Hid (Boxed w9 nb 30 (.int .u64 0)) := show Boxed _ _ _ _ from (hb.block _ HN_w8.out.lt).trans HN_w8.out
  clear hb
  gi_wp2_with fail
  refine ⟨trivial, ?_⟩
  refine (callsIn_wide.2 (storeL_any 8 2 _)).mono ?_
  rintro e w10 ⟨rfl, hb⟩
  have HB_w10 : Hid (Below w7.heap.size w7 w10) := show Below _ _ _ from HB_w9.out.trans (hb.mono HB_w9.out.size)
  have HN_w10 : Hid (Boxed w10 nb 30 (.int .u64 0)) := show Boxed _ _ _ _ from (hb.block _ HN_w9.out.lt).trans HN_w9.out
  clear hb
  gi_wp2_with fail
  refine ⟨trivial, ?_⟩
  refine (callsIn_wide.2 (storeL_any 9 3 _)).mono ?_
  rintro e w11 ⟨rfl, hb⟩
  have HB_w11 : Hid (Below w7.heap.size w7 w11) := show Below _ _ _ from HB_w10.out.trans (hb.mono HB_w10.out.size)
  have HN_w11 : Hid (Boxed w11 nb 30 (.int .u64 0)) := show Boxed _ _ _ _ from (hb.block _ HN_w10.out.lt).trans HN_w10.out
  clear hb
  have hqn : ∀ (p0 m0 : Nat) (W : World), (binOp .eql 49 (.func (.func 41) #[] #[.pointer (some ⟨p0, 0, none⟩), .pointer (some ⟨m0, 0, none⟩)]) .nilFunc).run Try.prog W = .ok (.bool false) W := fun _ _ _ => by kernel_rfl
  gi_wp2_with fail
  have hal : Below w11.heap.size w11 (w11.alloc (.cells #[.int .i64 2, .int .i64 9, .int .u64 1, .int .i64 2, .int .i64 8, .int .u64 2, .int .i64 2, .int .i64 9, .int .u64 3] 32)) := (Below.refl _ _).alloc (Nat.le_refl _) _
  have hst : SlT (w11.alloc (.cells #[.int .i64 2, .int .i64 9, .int .u64 1, .int .i64 2, .int .i64 8, .int .u64 2, .int .i64 2, .int .i64 9, .int .u64 3] 32)) (.slice (some ⟨w11.heap.size, 0, none⟩) 3 3) exC := slT_new w11 #[.int .i64 2, .int .i64 9, .int .u64 1, .int .i64 2, .int .i64 8, .int .u64 2, .int .i64 2, .int .i64 9, .int .u64 3] exC rfl
  obtain ⟨w12, hv⟩ : ∃ w12, w11.alloc (.cells #[.int .i64 2, .int .i64 9, .int .u64 1, .int .i64 2, .int .i64 8, .int .u64 2, .int .i64 2, .int .i64 9, .int .u64 3] 32) = w12 := ⟨_, rfl⟩
  rw [hv] at hal hst ⊢
  clear hv
  have HB_w12 : Hid (Below w7.heap.size w7 w12) := show Below _ _ _ from HB_w11.out.trans (hal.mono HB_w11.out.size)
  have HN_w12 : Hid (Boxed w12 nb 30 (.int .u64 0)) := show Boxed _ _ _ _ from (hal.block _ HN_w11.out.lt).trans HN_w11.out
  clear hal
  refine ⟨trivial, ?_⟩
  refine (callsIn_wide.2 (stores_any w12 (by decide) (okT_ex (by decide +kernel)) hst)).mono ?_
  rintro e w13 ⟨p1, m1, u1, c1, rfl, -, -, hb⟩
  have HB_w13 : Hid (Below w7.heap.size w7 w13) := show Below _ _ _ from HB_w12.out.trans (hb.mono HB_w12.out.size)
  have HN_w13 : Hid (Boxed w13 nb 30 (.int .u64 0)) := show Boxed _ _ _ _ from (hb.block _ HN_w12.out.lt).trans HN_w12.out
  have hqn1 := hqn p1 m1
  clear hqn
  clear hb hst
  gi_wp2_with fail
  refine ⟨trivial, ?_⟩
  refine (callsIn_wide.2 (storeL_any 9 1 _)).mono ?_
  rintro e w14 ⟨rfl, hb⟩
  have HB_w14 : Hid (Below w7.heap.size w7 w14) := show Below _ _ _ from HB_w13.out.trans (hb.mono HB_w13.out.size)
  have HN_w14 : Hid (Boxed w14 nb 30 (.int .u64 0)) := show Boxed _ _ _ _ from (hb.block _ HN_w13.out.lt).trans HN_w13.out
  clear hb
  gi_wp2_with fail
  refine ⟨trivial, ?_⟩
  refine (callsIn_wide.2 (storeL_any 8 2 _)).mono ?_
  rintro e w15 ⟨rfl, hb⟩
  have HB_w15 : Hid (Below w7.heap.size w7 w15) := show Below _ _ _ from HB_w14.out.trans (hb.mono HB_w14.out.size)
  have HN_w15 : Hid (Boxed w15 nb 30 (.int .u64 0)) := show Boxed _ _ _ _ from (hb.block _ HN_w14.out.lt).trans HN_w14.out
  clear hb
  gi_wp2_with fail
  refine ⟨trivial, ?_⟩
  refine (callsIn_wide.2 (storeL_any 9 3 _)).mono ?_
  rintro e w16 ⟨rfl, hb⟩
  have HB_w16 : Hid (Below w7.heap.size w7 w16) := show Below _ _ _ from HB_w15.out.trans (hb.mono HB_w15.out.size)
  have HN_w16 : Hid (Boxed w16 nb 30 (.int .u64 0)) := show Boxed _ _ _ _ from (hb.block _ HN_w15.out.lt).trans HN_w15.out
  clear hb
  gi_wp2_with fail
  have hal : Below w16.heap.size w16 (w16.alloc (.cells #[.int .i64 2, .int .i64 9, .int .u64 1, .int .i64 2, .int .i64 8, .int .u64 2, .int .i64 2, .int .i64 9, .int .u64 3] 32)) := (Below.refl _ _).alloc (Nat.le_refl _) _
  have hst : SlT (w16.alloc (.cells #[.int .i64 2, .int .i64 9, .int .u64 1, .int .i64 2, .int .i64 8, .int .u64 2, .int .i64 2, .int .i64 9, .int .u64 3] 32)) (.slice (some ⟨w16.heap.size, 0, none⟩) 3 3) exC := slT_new w16 #[.int .i64 2, .int .i64 9, .int .u64 1, .int .i64 2, .int .i64 8, .int .u64 2, .int .i64 2, .int .i64 9, .int .u64 3] exC rfl
  obtain ⟨w17, hv⟩ : ∃ w17, w16.alloc (.cells #[.int .i64 2, .int .i64 9, .int .u64 1, .int .i64 2, .int .i64 8, .int .u64 2, .int .i64 2, .int .i64 9, .int .u64 3] 32) = w17 := ⟨_, rfl⟩
  rw [hv] at hal hst ⊢
  clear hv
  have HB_w17 : Hid (Below w7.heap.size w7 w17) := show Below _ _ _ from HB_w16.out.trans (hal.mono HB_w16.out.size)
  have HN_w17 : Hid (Boxed w17 nb 30 (.int .u64 0)) := show Boxed _ _ _ _ from (hal.block _ HN_w16.out.lt).trans HN_w16.out
  clear hal
  refine ⟨trivial, ?_⟩
  refine (callsIn_wide.2 (stores_any w17 (by decide) (okT_ex (by decide +kernel)) hst)).mono ?_
  rintro e w18 ⟨p, m, u, c, rfl, hss, -, hb⟩
  have HB_w18 : Hid (Below w7.heap.size w7 w18) := show Below _ _ _ from HB_w17.out.trans (hb.mono HB_w17.out.size)
  have HN_w18 : Hid (Boxed w18 nb 30 (.int .u64 0)) := show Boxed _ _ _ _ from (hb.block _ HN_w17.out.lt).trans HN_w17.out
  have HSS := Lib.hid hss
  have HPRE : Hid (w17.heap.size ≤ w18.heap.size ∧ nb < w17.heap.size) := show _ ∧ _ from ⟨hb.size, HN_w17.out.lt⟩
  clear hss hqn1
  clear hb hst
  gi_wp2_with fail
  have HSQ := Lib.hid (stores_seq 8 (by decide) w18 HSS.out)
  rw [exC_puts] at HSQ
  have HPL : Hid (∀ k, stP u w17.heap.size m k → w17.heap.size ≤ k ∧ k < w18.heap.size) := show ∀ k, _ from fun k hk => by
    rcases hk with hk | rfl | rfl
    · exact HSS.out.row.lt k hk
    · exact ⟨Nat.le_refl _, HSS.out.map.lt⟩
    · exact ⟨HSS.out.lowM, HSS.out.mbox.lt⟩
  have HI0 : Hid (WkI w7 nb [] (fun _ => False) w18) := show WkI _ _ _ _ _ from ⟨⟨HN_w18.out, id⟩, HB_w18.out, HB_w18.out.size, fun _ h => h.elim⟩
  have hnbo := HPRE.out.2
  have hnb2 : w7.heap.size ≤ nb := Nat.le_of_eq HNB.out
  generalize hA : ({ tmps := _, defers := _ } : Act) = A0
  refine wpIn_range_F (n := 9) (by decide) (gf := 41) (lb := #[.pointer (some ⟨p, 0, none⟩), .pointer (some ⟨m, 0, none⟩)]) (by rw [← hA]; rfl) (enters_of Try.func41 (by kernel_rfl) rfl) HSQ.out (fun k hk => (HPL.out k hk).2) (Below.refl _ _) (fun _ => rfl)
    (WkI w7 nb) (fun _ _ _ _ => False) (abides_wk _ _) (fun _ _ _ _ _ _ h _ _ => h) HI0.out
    (fun x a' _ => a' = { tmps := (((A0.tmps.setIfInBounds 33 (.int .i64 (x.1 : Nat))).setIfInBounds 34 (.int .u64 x.2)).setIfInBounds 6 (.int .i64 (x.1 : Nat))).setIfInBounds 7 (.int .u64 x.2), defers := [] })
    (fun x a' W1 o h => h)
    ?assign ?body ?done ?stop
  case assign =>
    rintro l2 x W2 K hsz hK
    subst hA
    unfold encS
    dsimp only
    gi_wp2_with fail
    refine hK _ _ ?_ (Below.refl _ _)
    rfl
  case body =>
    rintro l2 pre x a' q2 W2 hI hs2 hqb hsp rfl
    subst hA
    obtain ⟨⟨hr, hqr⟩, hB⟩ := hI
    have HPP : Hid (∀ k, stP u w17.heap.size m k ∨ q2 k → k ≠ nb) := show ∀ k, _ from fun k hk e => hk.elim (fun h => by have := (HPL.out k h).1; omega) fun h => hqr (e ▸ h)
    have HBB := Lib.hid hB
    rcases two_of_prefix hsp with ⟨rfl, rfl⟩ | ⟨rfl, rfl⟩
    · have cr : W2.cell? ⟨nb, 0, none⟩ = some (.int .u64 0) := Boxed.cell hr
      have fr := Boxed.frozen hr
      have HR := Lib.hid hr
      clear hr hB hsp hqb hs2
      gi_wp2_with fail
      exact ⟨Keeps.set _ _ (fun h => HPP.out nb h rfl), ⟨HR.out.set (.int .u64 82), hqr⟩, HBB.out.1.setCell (p := ⟨nb, 0, none⟩) hnb2 _, by simp [World.setCell]; exact HBB.out.2.1, HBB.out.2.2⟩
    · have cr : W2.cell? ⟨nb, 0, none⟩ = some (.int .u64 82) := Boxed.cell hr
      have fr := Boxed.frozen hr
      have HR := Lib.hid hr
      clear hr hB hsp hqb hs2
      gi_wp2_with fail
      exact ⟨Keeps.set _ _ (fun h => HPP.out nb h rfl), ⟨HR.out.set (.int .u64 8293), hqr⟩, HBB.out.1.setCell (p := ⟨nb, 0, none⟩) hnb2 _, by simp [World.setCell]; exact HBB.out.2.1, HBB.out.2.2⟩
  case stop =>
    rintro D cd pre W2 hD hpre h hK'
    exact h.elim
  case done =>
    rintro D ys wd hD rfl hI hK'
    subst hA
    obtain ⟨⟨hr, -⟩, hB, -, -⟩ := hI
    have HN_wd : Hid (Boxed wd nb 30 (.int .u64 8293)) := show Boxed _ _ _ _ from hr
    have HB_wd := Lib.hid hB
    have HD : Hid (wd.heap[D]? = some (.deferred (some []))) := show _ = _ from hK'
    have HDN : Hid (w18.heap.size ≤ D) := show _ ≤ _ from hD
    clear hr hB hK' hD
    have HD_wd := HD
    gi_wp2_with fail
    refine ⟨trivial, ?_⟩
    refine (callsIn_wide.2 (num5_any 0 _)).mono ?_
    rintro e w19 ⟨rfl, hw⟩
    rw [hw]
    clear hw w19
    gi_wp2_with fail
    refine ⟨trivial, ?_⟩
    refine (callsIn_wide.2 (num5_any 0 _)).mono ?_
    rintro e w20 ⟨rfl, hw⟩
    rw [hw]
    clear hw w20
    gi_wp2_with fail
    have hb : Below wd.heap.size wd (wd.alloc (.cells #[.int .i64 0, .int .i64 1, .int .i64 2] 3)) := (Below.refl _ _).alloc (Nat.le_refl _) _
    have hsi : Sl (wd.alloc (.cells #[.int .i64 0, .int .i64 1, .int .i64 2] 3)) .i64 (.slice (some ⟨wd.heap.size, 0, none⟩) 3 3) [0, 1, 2] := sl_of_vec (xs := [0, 1, 2]) (vec_new wd #[.int .i64 0, .int .i64 1, .int .i64 2] 3 3 1 rfl)
    obtain ⟨w21, hv⟩ : ∃ w21, wd.alloc (.cells #[.int .i64 0, .int .i64 1, .int .i64 2] 3) = w21 := ⟨_, rfl⟩
    rw [hv] at hb hsi ⊢
    clear hv
    have HB_w21 : Hid (Below w7.heap.size w7 w21) := show Below _ _ _ from HB_wd.out.trans (hb.mono HB_wd.out.size)
    have HN_w21 : Hid (Boxed w21 nb 30 (.int .u64 8293)) := show Boxed _ _ _ _ from (hb.block _ HN_wd.out.lt).trans HN_wd.out
    have HD_w21 : Hid (w21.heap[D]? = some (.deferred (some []))) := show _ = _ from (hb.block D (Array.getElem?_eq_some_iff.1 HD_wd.out).1).trans HD_wd.out
    clear hb
    refine ⟨trivial, ?_⟩
    refine (callsIn_wide.2 (intsL_any _ _ [0, 1, 2] [0, 1, 2] (by decide) (by decide) w21 (HSAF.out w21 (HB1.out.trans (HB_w21.out.mono HB1.out.size))) hsi)).mono ?_
    rintro e w22 ⟨rfl, hb⟩
    have HB_w22 : Hid (Below w7.heap.size w7 w22) := show Below _ _ _ from HB_w21.out.trans (hb.mono HB_w21.out.size)
    have HN_w22 : Hid (Boxed w22 nb 30 (.int .u64 8293)) := show Boxed _ _ _ _ from (hb.block _ HN_w21.out.lt).trans HN_w21.out
    have HD_w22 : Hid (w22.heap[D]? = some (.deferred (some []))) := show _ = _ from (hb.block D (Array.getElem?_eq_some_iff.1 HD_w21.out).1).trans HD_w21.out
    clear hsi
    clear hb
    gi_wp2_with fail
    refine ⟨trivial, ?_⟩
    refine (callsIn_wide.2 (storeL_any 9 1 _)).mono ?_
    rintro e w23 ⟨rfl, hb⟩
    have HB_w23 : Hid (Below w7.heap.size w7 w23) := show Below _ _ _ from HB_w22.out.trans (hb.mono HB_w22.out.size)
    have HN_w23 : Hid (Boxed w23 nb 30 (.int .u64 8293)) := show Boxed _ _ _ _ from (hb.block _ HN_w22.out.lt).trans HN_w22.out
    have HD_w23 : Hid (w23.heap[D]? = some (.deferred (some []))) := show _ = _ from (hb.block D (Array.getElem?_eq_some_iff.1 HD_w22.out).1).trans HD_w22.out
    clear hb
    gi_wp2_with fail
    refine ⟨trivial, ?_⟩
    refine (callsIn_wide.2 (flushL_any 1 _)).mono ?_
    rintro e w24 ⟨rfl, hb⟩
    have HB_w24 : Hid (Below w7.heap.size w7 w24) := show Below _ _ _ from HB_w23.out.trans (hb.mono HB_w23.out.size)
    have HN_w24 : Hid (Boxed w24 nb 30 (.int .u64 8293)) := show Boxed _ _ _ _ from (hb.block _ HN_w23.out.lt).trans HN_w23.out
    have HD_w24 : Hid (w24.heap[D]? = some (.deferred (some []))) := show _ = _ from (hb.block D (Array.getElem?_eq_some_iff.1 HD_w23.out).1).trans HD_w23.out
    clear hb
    gi_wp2_with fail
    refine ⟨trivial, ?_⟩
    refine (callsIn_wide.2 (fenceL_any _)).mono ?_
    rintro e w25 ⟨rfl, hb⟩
    have HB_w25 : Hid (Below w7.heap.size w7 w25) := show Below _ _ _ from HB_w24.out.trans (hb.mono HB_w24.out.size)
    have HN_w25 : Hid (Boxed w25 nb 30 (.int .u64 8293)) := show Boxed _ _ _ _ from (hb.block _ HN_w24.out.lt).trans HN_w24.out
    have HD_w25 : Hid (w25.heap[D]? = some (.deferred (some []))) := show _ = _ from (hb.block D (Array.getElem?_eq_some_iff.1 HD_w24.out).1).trans HD_w24.out
    clear hb
    gi_wp2_with fail
    have hb : Below w25.heap.size w25 (w25.alloc (.cells #[.int .i64 2, .int .i64 9, .int .u64 1, .int .i64 3, .int .i64 1, .int .u64 0, .int .i64 4, .int .i64 0, .int .u64 0] 32)) := (Below.refl _ _).alloc (Nat.le_refl _) _
    have hst : SlT (w25.alloc (.cells #[.int .i64 2, .int .i64 9, .int .u64 1, .int .i64 3, .int .i64 1, .int .u64 0, .int .i64 4, .int .i64 0, .int .u64 0] 32)) (.slice (some ⟨w25.heap.size, 0, none⟩) 3 3) exD := slT_new w25 #[.int .i64 2, .int .i64 9, .int .u64 1, .int .i64 3, .int .i64 1, .int .u64 0, .int .i64 4, .int .i64 0, .int .u64 0] exD rfl
    obtain ⟨w26, hv⟩ : ∃ w26, w25.alloc (.cells #[.int .i64 2, .int .i64 9, .int .u64 1, .int .i64 3, .int .i64 1, .int .u64 0, .int .i64 4, .int .i64 0, .int .u64 0] 32) = w26 := ⟨_, rfl⟩
    rw [hv] at hb hst ⊢
    clear hv
    have HB_w26 : Hid (Below w7.heap.size w7 w26) := show Below _ _ _ from HB_w25.out.trans (hb.mono HB_w25.out.size)
    have HN_w26 : Hid (Boxed w26 nb 30 (.int .u64 8293)) := show Boxed _ _ _ _ from (hb.block _ HN_w25.out.lt).trans HN_w25.out
    have HD_w26 : Hid (w26.heap[D]? = some (.deferred (some []))) := show _ = _ from (hb.block D (Array.getElem?_eq_some_iff.1 HD_w25.out).1).trans HD_w25.out
    clear hb
    refine ⟨trivial, ?_⟩
    refine (callsIn_wide.2 (orderly_any w26 (by decide) (okT_ex (by decide +kernel)) hst)).mono ?_
    rintro e w27 ⟨rfl, hb⟩
    have HB_w27 : Hid (Below w7.heap.size w7 w27) := show Below _ _ _ from HB_w26.out.trans (hb.mono HB_w26.out.size)
    have HN_w27 : Hid (Boxed w27 nb 30 (.int .u64 8293)) := show Boxed _ _ _ _ from (hb.block _ HN_w26.out.lt).trans HN_w26.out
    have HD_w27 : Hid (w27.heap[D]? = some (.deferred (some []))) := show _ = _ from (hb.block D (Array.getElem?_eq_some_iff.1 HD_w26.out).1).trans HD_w26.out
    rw [exD_order]
    clear hst
    clear hb
    gi_wp2_with fail
    refine ⟨trivial, ?_⟩
    refine (callsIn_wide.2 (storeL_any 9 1 _)).mono ?_
    rintro e w28 ⟨rfl, hb⟩
    have HB_w28 : Hid (Below w7.heap.size w7 w28) := show Below _ _ _ from HB_w27.out.trans (hb.mono HB_w27.out.size)
    have HN_w28 : Hid (Boxed w28 nb 30 (.int .u64 8293)) := show Boxed _ _ _ _ from (hb.block _ HN_w27.out.lt).trans HN_w27.out
    have HD_w28 : Hid (w28.heap[D]? = some (.deferred (some []))) := show _ = _ from (hb.block D (Array.getElem?_eq_some_iff.1 HD_w27.out).1).trans HD_w27.out
    clear hb
    gi_wp2_with fail
    refine ⟨trivial, ?_⟩
    refine (callsIn_wide.2 (fenceL_any _)).mono ?_
    rintro e w29 ⟨rfl, hb⟩
    have HB_w29 : Hid (Below w7.heap.size w7 w29) := show Below _ _ _ from HB_w28.out.trans (hb.mono HB_w28.out.size)
    have HN_w29 : Hid (Boxed w29 nb 30 (.int .u64 8293)) := show Boxed _ _ _ _ from (hb.block _ HN_w28.out.lt).trans HN_w28.out
    have HD_w29 : Hid (w29.heap[D]? = some (.deferred (some []))) := show _ = _ from (hb.block D (Array.getElem?_eq_some_iff.1 HD_w28.out).1).trans HD_w28.out
    clear hb
    gi_wp2_with fail
    refine ⟨trivial, ?_⟩
    refine (callsIn_wide.2 (flushL_any 1 _)).mono ?_
    rintro e w30 ⟨rfl, hb⟩
    have HB_w30 : Hid (Below w7.heap.size w7 w30) := show Below _ _ _ from HB_w29.out.trans (hb.mono HB_w29.out.size)
    have HN_w30 : Hid (Boxed w30 nb 30 (.int .u64 8293)) := show Boxed _ _ _ _ from (hb.block _ HN_w29.out.lt).trans HN_w29.out
    have HD_w30 : Hid (w30.heap[D]? = some (.deferred (some []))) := show _ = _ from (hb.block D (Array.getElem?_eq_some_iff.1 HD_w29.out).1).trans HD_w29.out
    clear hb
    gi_wp2_with fail
    have hb : Below w30.heap.size w30 (w30.alloc (.cells #[.int .i64 2, .int .i64 9, .int .u64 1, .int .i64 4, .int .i64 0, .int .u64 0, .int .i64 3, .int .i64 1, .int .u64 0] 32)) := (Below.refl _ _).alloc (Nat.le_refl _) _
    have hst : SlT (w30.alloc (.cells #[.int .i64 2, .int .i64 9, .int .u64 1, .int .i64 4, .int .i64 0, .int .u64 0, .int .i64 3, .int .i64 1, .int .u64 0] 32)) (.slice (some ⟨w30.heap.size, 0, none⟩) 3 3) exE := slT_new w30 #[.int .i64 2, .int .i64 9, .int .u64 1, .int .i64 4, .int .i64 0, .int .u64 0, .int .i64 3, .int .i64 1, .int .u64 0] exE rfl
    obtain ⟨w31, hv⟩ : ∃ w31, w30.alloc (.cells #[.int .i64 2, .int .i64 9, .int .u64 1, .int .i64 4, .int .i64 0, .int .u64 0, .int .i64 3, .int .i64 1, .int .u64 0] 32) = w31 := ⟨_, rfl⟩
    rw [hv] at hb hst ⊢
    clear hv
    have HB_w31 : Hid (Below w7.heap.size w7 w31) := show Below _ _ _ from HB_w30.out.trans (hb.mono HB_w30.out.size)
    have HN_w31 : Hid (Boxed w31 nb 30 (.int .u64 8293)) := show Boxed _ _ _ _ from (hb.block _ HN_w30.out.lt).trans HN_w30.out
    have HD_w31 : Hid (w31.heap[D]? = some (.deferred (some []))) := show _ = _ from (hb.block D (Array.getElem?_eq_some_iff.1 HD_w30.out).1).trans HD_w30.out
    clear hb
    refine ⟨trivial, ?_⟩
    refine (callsIn_wide.2 (orderly_any w31 (by decide) (okT_ex (by decide +kernel)) hst)).mono ?_
    rintro e w32 ⟨rfl, hb⟩
    have HB_w32 : Hid (Below w7.heap.size w7 w32) := show Below _ _ _ from HB_w31.out.trans (hb.mono HB_w31.out.size)
    have HN_w32 : Hid (Boxed w32 nb 30 (.int .u64 8293)) := show Boxed _ _ _ _ from (hb.block _ HN_w31.out.lt).trans HN_w31.out
    have HD_w32 : Hid (w32.heap[D]? = some (.deferred (some []))) := show _ = _ from (hb.block D (Array.getElem?_eq_some_iff.1 HD_w31.out).1).trans HD_w31.out
    rw [exE_order]
    clear hst
    clear hb
    gi_wp2_with fail
    refine ⟨trivial, ?_⟩
    refine (callsIn_wide.2 (storeL_any 9 1 _)).mono ?_
    rintro e w33 ⟨rfl, hb⟩
    have HB_w33 : Hid (Below w7.heap.size w7 w33) := show Below _ _ _ from HB_w32.out.trans (hb.mono HB_w32.out.size)
    have HN_w33 : Hid (Boxed w33 nb 30 (.int .u64 8293)) := show Boxed _ _ _ _ from (hb.block _ HN_w32.out.lt).trans HN_w32.out
    have HD_w33 : Hid (w33.heap[D]? = some (.deferred (some []))) := show _ = _ from (hb.block D (Array.getElem?_eq_some_iff.1 HD_w32.out).1).trans HD_w32.out
    clear hb
    gi_wp2_with fail
    refine ⟨trivial, ?_⟩
    refine (callsIn_wide.2 (flushL_any 1 _)).mono ?_
    rintro e w34 ⟨rfl, hb⟩
    have HB_w34 : Hid (Below w7.heap.size w7 w34) := show Below _ _ _ from HB_w33.out.trans (hb.mono HB_w33.out.size)
    have HN_w34 : Hid (Boxed w34 nb 30 (.int .u64 8293)) := show Boxed _ _ _ _ from (hb.block _ HN_w33.out.lt).trans HN_w33.out
    have HD_w34 : Hid (w34.heap[D]? = some (.deferred (some []))) := show _ = _ from (hb.block D (Array.getElem?_eq_some_iff.1 HD_w33.out).1).trans HD_w33.out
    clear hb
    gi_wp2_with fail
    refine ⟨trivial, ?_⟩
    refine (callsIn_wide.2 (fenceL_any _)).mono ?_
    rintro e w35 ⟨rfl, hb⟩
    have HB_w35 : Hid (Below w7.heap.size w7 w35) := show Below _ _ _ from HB_w34.out.trans (hb.mono HB_w34.out.size)
    have HN_w35 : Hid (Boxed w35 nb 30 (.int .u64 8293)) := show Boxed _ _ _ _ from (hb.block _ HN_w34.out.lt).trans HN_w34.out
    have HD_w35 : Hid (w35.heap[D]? = some (.deferred (some []))) := show _ = _ from (hb.block D (Array.getElem?_eq_some_iff.1 HD_w34.out).1).trans HD_w34.out
    clear hb
    gi_wp2_with fail
    have hb : Below w35.heap.size w35 (w35.alloc (.cells #[.int .i64 2, .int .i64 9, .int .u64 1, .int .i64 3, .int .i64 1, .int .u64 0, .int .i64 4, .int .i64 0, .int .u64 0] 32)) := (Below.refl _ _).alloc (Nat.le_refl _) _
    have hst : SlT (w35.alloc (.cells #[.int .i64 2, .int .i64 9, .int .u64 1, .int .i64 3, .int .i64 1, .int .u64 0, .int .i64 4, .int .i64 0, .int .u64 0] 32)) (.slice (some ⟨w35.heap.size, 0, none⟩) 3 3) exD := slT_new w35 #[.int .i64 2, .int .i64 9, .int .u64 1, .int .i64 3, .int .i64 1, .int .u64 0, .int .i64 4, .int .i64 0, .int .u64 0] exD rfl
    obtain ⟨w36, hv⟩ : ∃ w36, w35.alloc (.cells #[.int .i64 2, .int .i64 9, .int .u64 1, .int .i64 3, .int .i64 1, .int .u64 0, .int .i64 4, .int .i64 0, .int .u64 0] 32) = w36 := ⟨_, rfl⟩
    rw [hv] at hb hst ⊢
    clear hv
    have HB_w36 : Hid (Below w7.heap.size w7 w36) := show Below _ _ _ from HB_w35.out.trans (hb.mono HB_w35.out.size)
    have HN_w36 : Hid (Boxed w36 nb 30 (.int .u64 8293)) := show Boxed _ _ _ _ from (hb.block _ HN_w35.out.lt).trans HN_w35.out
    have HD_w36 : Hid (w36.heap[D]? = some (.deferred (some []))) := show _ = _ from (hb.block D (Array.getElem?_eq_some_iff.1 HD_w35.out).1).trans HD_w35.out
    clear hb
    refine ⟨trivial, ?_⟩
    refine (callsIn_wide.2 (sameT_any (ts := exD) (us := exD) w36 (by decide) (HSCF.out w36 HB_w36.out) hst)).mono ?_
    rintro e w37 ⟨rfl, hb⟩
    have HB_w37 : Hid (Below w7.heap.size w7 w37) := show Below _ _ _ from HB_w36.out.trans (hb.mono HB_w36.out.size)
    have HN_w37 : Hid (Boxed w37 nb 30 (.int .u64 8293)) := show Boxed _ _ _ _ from (hb.block _ HN_w36.out.lt).trans HN_w36.out
    have HD_w37 : Hid (w37.heap[D]? = some (.deferred (some []))) := show _ = _ from (hb.block D (Array.getElem?_eq_some_iff.1 HD_w36.out).1).trans HD_w36.out
    rw [show decide (exD = exD) = true by decide]
    clear hst
    clear hb
    have cn := HN_w37.out.cell
    gi_wp2_with fail
    clear cn
    refine ⟨trivial, ?_⟩
    refine (callsIn_wide.2 (flushL_any 1024 _)).mono ?_
    rintro e w38 ⟨rfl, hb⟩
    have HB_w38 : Hid (Below w7.heap.size w7 w38) := show Below _ _ _ from HB_w37.out.trans (hb.mono HB_w37.out.size)
    have HN_w38 : Hid (Boxed w38 nb 30 (.int .u64 8293)) := show Boxed _ _ _ _ from (hb.block _ HN_w37.out.lt).trans HN_w37.out
    have HD_w38 : Hid (w38.heap[D]? = some (.deferred (some []))) := show _ = _ from (hb.block D (Array.getElem?_eq_some_iff.1 HD_w37.out).1).trans HD_w37.out
    clear hb
    gi_wp2_with fail
    have hb : Below w38.heap.size w38 (w38.alloc (.cells #[.int .i64 3, .int .i64 1024, .int .u64 0] 32)) := (Below.refl _ _).alloc (Nat.le_refl _) _
    have hst : SlT (w38.alloc (.cells #[.int .i64 3, .int .i64 1024, .int .u64 0] 32)) (.slice (some ⟨w38.heap.size, 0, none⟩) 1 1) exF := slT_new w38 #[.int .i64 3, .int .i64 1024, .int .u64 0] exF rfl
    obtain ⟨w39, hv⟩ : ∃ w39, w38.alloc (.cells #[.int .i64 3, .int .i64 1024, .int .u64 0] 32) = w39 := ⟨_, rfl⟩
    rw [hv] at hb hst ⊢
    clear hv
    have HB_w39 : Hid (Below w7.heap.size w7 w39) := show Below _ _ _ from HB_w38.out.trans (hb.mono HB_w38.out.size)
    have HN_w39 : Hid (Boxed w39 nb 30 (.int .u64 8293)) := show Boxed _ _ _ _ from (hb.block _ HN_w38.out.lt).trans HN_w38.out
    have HD_w39 : Hid (w39.heap[D]? = some (.deferred (some []))) := show _ = _ from (hb.block D (Array.getElem?_eq_some_iff.1 HD_w38.out).1).trans HD_w38.out
    clear hb
    refine ⟨trivial, ?_⟩
    refine (callsIn_wide.2 (checkT_any w39 (by decide) hst)).mono ?_
    rintro e w40 ⟨rfl, hb⟩
    have HB_w40 : Hid (Below w7.heap.size w7 w40) := show Below _ _ _ from HB_w39.out.trans (hb.mono HB_w39.out.size)
    have HN_w40 : Hid (Boxed w40 nb 30 (.int .u64 8293)) := show Boxed _ _ _ _ from (hb.block _ HN_w39.out.lt).trans HN_w39.out
    have HD_w40 : Hid (w40.heap[D]? = some (.deferred (some []))) := show _ = _ from (hb.block D (Array.getElem?_eq_some_iff.1 HD_w39.out).1).trans HD_w39.out
    rw [show checkT exF = 2 by decide]
    clear hst
    clear hb
    gi_wp2_with fail
    refine ⟨trivial, ?_⟩
    refine (callsIn_wide.2 (num5_any 2 _)).mono ?_
    rintro e w41 ⟨rfl, hw⟩
    rw [hw]
    clear hw w41
    gi_wp2_with fail
    have hb : Below w40.heap.size w40 (w40.alloc (.cells #[.int .i64 4, .int .i64 1, .int .u64 0] 32)) := (Below.refl _ _).alloc (Nat.le_refl _) _
    have hst : SlT (w40.alloc (.cells #[.int .i64 4, .int .i64 1, .int .u64 0] 32)) (.slice (some ⟨w40.heap.size, 0, none⟩) 1 1) exG := slT_new w40 #[.int .i64 4, .int .i64 1, .int .u64 0] exG rfl
    obtain ⟨w42, hv⟩ : ∃ w42, w40.alloc (.cells #[.int .i64 4, .int .i64 1, .int .u64 0] 32) = w42 := ⟨_, rfl⟩
    rw [hv] at hb hst ⊢
    clear hv
    have HB_w42 : Hid (Below w7.heap.size w7 w42) := show Below _ _ _ from HB_w40.out.trans (hb.mono HB_w40.out.size)
    have HN_w42 : Hid (Boxed w42 nb 30 (.int .u64 8293)) := show Boxed _ _ _ _ from (hb.block _ HN_w40.out.lt).trans HN_w40.out
    have HD_w42 : Hid (w42.heap[D]? = some (.deferred (some []))) := show _ = _ from (hb.block D (Array.getElem?_eq_some_iff.1 HD_w40.out).1).trans HD_w40.out
    clear hb
    refine ⟨trivial, ?_⟩
    refine (callsIn_wide.2 (checkT_any w42 (by decide) hst)).mono ?_
    rintro e w43 ⟨rfl, hb⟩
    have HB_w43 : Hid (Below w7.heap.size w7 w43) := show Below _ _ _ from HB_w42.out.trans (hb.mono HB_w42.out.size)
    have HN_w43 : Hid (Boxed w43 nb 30 (.int .u64 8293)) := show Boxed _ _ _ _ from (hb.block _ HN_w42.out.lt).trans HN_w42.out
    have HD_w43 : Hid (w43.heap[D]? = some (.deferred (some []))) := show _ = _ from (hb.block D (Array.getElem?_eq_some_iff.1 HD_w42.out).1).trans HD_w42.out
    rw [show checkT exG = 2 by decide]
    clear hst
    clear hb
    gi_wp2_with fail
    refine ⟨trivial, ?_⟩
    refine (callsIn_wide.2 (num5_any 2 _)).mono ?_
    rintro e w44 ⟨rfl, hw⟩
    rw [hw]
    clear hw w44
    gi_wp2_with fail
    refine leaves_one (D := D) HD_w43.out fun W' ht hc => ⟨.bool true, ?_, rfl, ?_⟩
    · simp [results, Try.results10, go_sem]
    · exact HB0.out.trans ((HB1.out.trans (((HB_w43.out).trans (ht.below (fun k h => by have := HDN.out; have := HB_w18.out.size; omega) HB_w43.out.size)).mono HB1.out.size)).mono HB0.out.size)
end Go.Proofs.Ytkpiehejkhjhlaa
