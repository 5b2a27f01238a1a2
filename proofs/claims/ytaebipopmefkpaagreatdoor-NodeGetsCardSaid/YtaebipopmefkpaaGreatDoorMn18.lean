/-
  Texts NdES to NdLS, as one.
-/
import Derived.Test.YtaebipopmefkpaaGreatDoorMn17
import Derived.RecoverIn
import Derived.Deep.WholeRow
/-
  node: the words of a line of node.super. Written by gen_nd.py.
-/
namespace Go.Proofs.YtaebipopmefkpaaGreatDoor
open Go.RowKit Go.Shelf Go.Sort
attribute [local go_sem] Oper.semAt_some

/-- In the rounds of put. -/
def PutIS (w : World) (x : Array Value) (X B R : Nat) (pre : List PartV) (q : Nat → Prop) (W : World) : Prop :=
  (Blk W X 61 x ∧ ¬ q X) ∧ (Blk W B 113 (lnA (wrAll pre x zeros8)) ∧ ¬ q B) ∧ (Blk W R 113 (lnA zeros8) ∧ ¬ q R) ∧ BelowF w.heap.size w q W
theorem abides_putS (w : World) (x : Array Value) (X B R : Nat) : Abides (PutIS w x X B R) := Abides.and (abides_blkF _ _ _) (Abides.and (abides_blkF B 113 (fun pre => lnA (wrAll pre x zeros8))) (Abides.and (abides_blkF R 113 (fun _ => lnA zeros8)) (Abides.below _ _)))
set_option maxRecDepth 100000 in
set_option maxHeartbeats 4000000 in
theorem putK_S {Good : Array Value → Prop} {v : Value} {ps : List PartV} (x : Array Value) (hx : Good x) (hsz : x.size = 2) (w : World) (hk : KindAtS w v ps) (hp : ∀ p ∈ ps, NdPart Good 61 w p) :
    Calls Tryz.prog 47 #[v, .agg x] w fun e w' => e = .returned (.tuple #[.agg (lnA (putOut ps x)), .int .i64 (putErr ps x)]) ∧ Below w.heap.size w w' := by
  have HMK := Lib.hid (fun (W : World) (hb : Below w.heap.size w W) => mayK_S x hx hsz W (hk.below hb) (fun p hm => (hp p hm).below hb))
  obtain ⟨⟨g, c, rfl, hg, hc⟩, hl⟩ := hk
  have HVE := Lib.hid (fun (W : World) (p : Nat) (hb : Below w.heap.size w W) (hbx : Boxed W p 64 (.slice (some ⟨g, 0, none⟩) ps.length c)) => valuesE_S 8 (by decide) (p := p) W hbx (Nat.lt_of_lt_of_le hg hb.size) (fun k hk => by
    obtain ⟨h1, h2, h3⟩ := hc k hk
    exact ⟨(hb.cell (p := ⟨g, k * 3, none⟩) hg).trans h1, (hb.cell (p := ⟨g, k * 3 + 1, none⟩) hg).trans h2, (hb.cell (p := ⟨g, k * 3 + 2, none⟩) hg).trans h3⟩) hl)
  clear hc hl
  obtain ⟨N, hN⟩ : ∃ N, ps.length = N := ⟨_, rfl⟩
  have HPT := Lib.hid (parts_S (some ⟨g, 0, none⟩) N c)
  rw [hN] at HVE HMK
  rw [hN]
  clear hN
  have HP := Lib.hid (fun (W : World) (hb : Below w.heap.size w W) (p : PartV) (hm : p ∈ ps) => (hp p hm).below hb)
  have HLN := Lib.hid (fun pre (hpre : pre <+: ps) (ho : okAll ps x = true) => show Line8 (wrAll pre x zeros8) from wrAll_line hx pre zeros8 (fun p hm => hp p (hpre.subset hm)) (by
    obtain ⟨r, rfl⟩ := hpre
    unfold okAll at ho ⊢
    rw [List.all_append, Bool.and_eq_true] at ho
    exact ho.1) zeros8_line)
  obtain ⟨W2, hW2⟩ : ∃ W2, ((w.alloc (.cells x 61)).alloc (.cells (lnA zeros8) 113)).alloc (.cells (lnA zeros8) 113) = W2 := ⟨_, rfl⟩
  have HB2 : Hid (Below w.heap.size w W2) := show Below _ _ _ by rw [← hW2]; exact (by repeat (first | exact Below.refl _ _ | assumption | refine Below.drew ?_ | refine below_drewN ?_ _ | refine Below.alloc ?_ (by (try simp) <;> omega) _ | refine Below.setCell ?_ (by (try simp) <;> omega) _ | refine Below.trans ?_ (Below.mono (by assumption) (by (try simp) <;> omega))))
  have HX2 : Hid (Blk W2 w.heap.size 61 x) := show Blk _ _ _ _ by unfold Blk; rw [← hW2]; (simp only [heap_at, World.size_alloc]; repeat (first | rw [if_pos (by omega)] | rw [if_neg (by omega)] | rw [if_pos trivial]))
  have HM2 : Hid (Blk W2 (w.heap.size + 1) 113 (lnA zeros8)) := show Blk _ _ _ _ by unfold Blk; rw [← hW2]; (simp only [heap_at, World.size_alloc]; repeat (first | rw [if_pos (by omega)] | rw [if_neg (by omega)] | rw [if_pos trivial]))
  have HR2 : Hid (Blk W2 (w.heap.size + 1 + 1) 113 (lnA zeros8)) := show Blk _ _ _ _ by unfold Blk; rw [← hW2]; (simp only [heap_at, World.size_alloc]; repeat (first | rw [if_pos (by omega)] | rw [if_neg (by omega)] | rw [if_pos trivial]))
  have HZ2 : Hid (W2.heap.size = w.heap.size + 3) := show _ = _ by rw [← hW2]; simp
  have HW2 : Hid (((w.alloc (.cells x 61)).alloc (.cells #[.int .u64 0, .int .u64 0, .int .u64 0, .int .u64 0, .int .u64 0, .int .u64 0, .int .u64 0, .int .u64 0] 113)).alloc (.cells #[.int .u64 0, .int .u64 0, .int .u64 0, .int .u64 0, .int .u64 0, .int .u64 0, .int .u64 0, .int .u64 0] 113) = W2) := show _ = _ from hW2
  have HBW : Hid (Below w.heap.size w w) := show Below _ _ _ from Below.refl _ _
  have HX := Lib.hid hx
  have HSZ := Lib.hid hsz
  have HGG := Lib.hid hg
  have HLD2 := Lib.hid (HX2.out.load (tt := 61) Tryz.underlying61 rfl (by rw [hsz]; kernel_rfl))
  have HLD1 : Hid ((Instr.loadAt 61 (.pointer (some ⟨w.heap.size, 0, none⟩))).run Tryz.prog (((w.alloc (.cells x 61)).alloc (.cells #[.int .u64 0, .int .u64 0, .int .u64 0, .int .u64 0, .int .u64 0, .int .u64 0, .int .u64 0, .int .u64 0] 113)).alloc (.cells #[.int .u64 0, .int .u64 0, .int .u64 0, .int .u64 0, .int .u64 0, .int .u64 0, .int .u64 0, .int .u64 0] 113)) = .ok (.agg x) (((w.alloc (.cells x 61)).alloc (.cells #[.int .u64 0, .int .u64 0, .int .u64 0, .int .u64 0, .int .u64 0, .int .u64 0, .int .u64 0, .int .u64 0] 113)).alloc (.cells #[.int .u64 0, .int .u64 0, .int .u64 0, .int .u64 0, .int .u64 0, .int .u64 0, .int .u64 0, .int .u64 0] 113))) := show _ = _ by rw [HW2.out]; exact HLD2.out
  clear hW2 hp hx hsz hg
  refine (callsIn_wide (n := 9)).1 ?_
  refine callsIn_of_wp_marks Tryz.func47 rfl trivial ?_ rfl
  simp only [Tryz.ntmps47, List.size_toArray, List.length_cons, List.length_nil, Nat.reduceAdd, Nat.reduceSub, Array.replicate_succ, Array.replicate_zero, List.push_toArray, List.append_toArray, List.nil_append, List.cons_append]
  gi_wp2_with fail
  refine wpIn_scope_forward 0 rfl ?_
  gi_wp2_with (refine wpListIn_load_eq rfl 61 _ rfl _ _ rfl HLD1.out ?_)
  rw [HW2.out]
  refine ⟨trivial, ?_⟩
  refine (callsIn_wide.2 (HMK.out W2 HB2.out)).mono ?_
  rintro e w3 ⟨rfl, hb3⟩
  have hz2 := HZ2.out
  have hz3 := hb3.size
  have HB3 : Hid (Below w.heap.size w w3) := show Below _ _ _ from HB2.out.trans (hb3.mono HB2.out.size)
  have HX3 : Hid (Blk w3 w.heap.size 61 x) := show Blk _ _ _ _ from HX2.out.below hb3 (by omega)
  have HM3 : Hid (Blk w3 (w.heap.size + 1) 113 (lnA zeros8)) := show Blk _ _ _ _ from HM2.out.below hb3 (by omega)
  have HR3 : Hid (Blk w3 (w.heap.size + 1 + 1) 113 (lnA zeros8)) := show Blk _ _ _ _ from HR2.out.below hb3 (by omega)
  have HZ3 := Lib.hid hz3
  clear hb3 HW2 HLD2 HLD1 hz3
  obtain ⟨o, ho⟩ : ∃ o, okAll ps x = o := ⟨_, rfl⟩
  have HO := Lib.hid ho
  have HPO : Hid (putOut ps x = if o then wrAll ps x zeros8 else zeros8) := show _ = _ by unfold putOut; rw [ho]
  have HPE : Hid (putErr ps x = if o then 0 else 2) := show _ = _ by unfold putErr; rw [ho]
  rw [ho]
  clear ho
  have HXX : ∀ {q : Nat → Prop} {W W' : World}, Turn q W W' → (∀ k, q k → w.heap.size ≤ k) → Below w.heap.size w W → Below w.heap.size w W' := fun ht hq hb => hb.trans (ht.below hq hb.size)
  cases o with
  | false =>
    obtain ⟨W4, hst, hb4, ht4⟩ := HM3.out.store (P := Tryz.prog) (tt := 113) (Y := lnA zeros8) (by kernel_rfl) rfl (lnA_one _)
    have hlv := hb4.loadVar (tt := 113) Tryz.underlying113 rfl (by kernel_rfl)
    have HST : Hid ((Instr.storeAt 113 (.pointer (some ⟨w.heap.size + 1, 0, none⟩)) (.agg #[.int .u64 0, .int .u64 0, .int .u64 0, .int .u64 0, .int .u64 0, .int .u64 0, .int .u64 0, .int .u64 0])).run Tryz.prog w3 = .ok () W4) := show _ = _ from hst
    have HT4 := Lib.hid ht4
    have HLV := Lib.hid hlv
    clear hst hb4 ht4 hlv
    gi_wp2_with fail
    refine wpIn_goto ?_
    refine ⟨rfl, ?_⟩
    gi_wp2_with (first | (refine wpIn_label ?_) | (refine wpListIn_store_eq rfl 113 _ _ rfl _ _ rfl rfl HST.out ?_))
    rw [Exit.jump_ret]
    refine ⟨.tuple #[.agg (lnA zeros8), .int .i64 2], results_cell_tmp rfl rfl HLV.out rfl, by rw [HPO.out, HPE.out]; rfl, ?_⟩
    exact HXX HT4.out (fun k h => by omega) HB3.out
  | true =>
    gi_wp2_with fail
    refine ⟨trivial, ?_⟩
    refine (callsIn_wide.2 (HPT.out w3)).mono ?_
    rintro e w1 ⟨rfl, hw1⟩
    have hb1 : Below w3.heap.size w3 w1 := by rw [hw1]; exact (Below.refl _ _).alloc (Nat.le_refl _) _
    have hz1 : w1.heap.size = w3.heap.size + 1 := by rw [hw1, World.size_alloc]
    have HB1 : Hid (Below w.heap.size w w1) := show Below _ _ _ from HB3.out.trans (hb1.mono HB3.out.size)
    have hz3 := HZ3.out
    have hx1 := HX3.out.below hb1 (by omega)
    have hm1 := HM3.out.below hb1 (by omega)
    have hr1 := HR3.out.below hb1 (by omega)
    have hs1 : Boxed w1 w3.heap.size 64 (.slice (some ⟨g, 0, none⟩) N c) := by rw [hw1]; exact Boxed.new _ _ _
    have HSQ := Lib.hid ((HVE.out w1 w3.heap.size HB1.out hs1).seqF)
    have HI0 : Hid (PutIS w x w.heap.size (w.heap.size + 1 + 1) (w.heap.size + 1) [] (fun _ => False) w1) := show PutIS _ _ _ _ _ _ _ _ from ⟨⟨hx1, id⟩, ⟨hr1, id⟩, ⟨hm1, id⟩, ⟨HB1.out, HB1.out.size, fun _ h => h.elim⟩⟩
    have HZ1 := Lib.hid hz1
    clear hs1 hm1 hx1 hr1 hb1 hw1 hz1 HVE
    gi_wp2_with fail
    generalize hA : ({ tmps := _, defers := _ } : Act) = A0
    refine wpIn_range_F (n := 9) (by decide) (gf := 126) (lb := #[.pointer (some ⟨w3.heap.size, 0, none⟩)]) (by rw [← hA]; rfl) (enters_of Tryz.func126 (by kernel_rfl) rfl) HSQ.out
      (fun k hk => by have := HZ1.out; have := HGG.out; rcases hk with rfl | rfl <;> omega) (Below.refl _ _) (fun _ => rfl)
      (PutIS w x w.heap.size (w.heap.size + 1 + 1) (w.heap.size + 1)) (fun _ _ _ _ => False) (abides_putS _ _ _ _ _) (fun _ _ _ _ _ _ h _ _ => h) HI0.out
      (PartAxS A0 104 14 7 · (w1.heap.size + 2))
      (fun p a' W o ⟨b, e, hb, h⟩ => ⟨b, e, hb, (World.putObj_heap_other (by omega)).trans h⟩)
      ?assign ?body ?done ?stop
    case assign =>
      rintro l2 p W3 K hsz3 hK
      subst hA
      unfold encPart
      dsimp only
      gi_wp2_with fail
      refine hK _ _ ⟨W3.heap.size, rfl, hsz3, Tri.new _ _ _ _ _⟩ ((Below.refl _ _).alloc (Nat.le_refl _) _)
    case body =>
      rintro l2 pre p a' q2 W3 ⟨⟨hbx, hqx⟩, ⟨hbl, hql⟩, ⟨hbr, hqr⟩, hB⟩ hs2 hqb hsp ⟨b, rfl, hb, ht⟩
      subst hA
      have hmem : p ∈ ps := hsp.subset (by simp)
      have hpt := HP.out W3 hB.1 p hmem
      obtain ⟨-, c1, -, -, -, -⟩ := ht.cells
      have hlb := ht.lt
      have hokp : p.S.ok x = true := by
        have h := HO.out
        unfold okAll at h
        exact (List.all_eq_true.1 h) p hmem
      have HLD := Lib.hid (hbx.load (tt := 61) Tryz.underlying61 rfl (by rw [HSZ.out]; kernel_rfl))
      have HMB := Lib.hid ((HP.out w HBW.out p hmem).write x (wrAll pre x zeros8) (w.heap.size + 1 + 1) W3 HX.out hokp (HLN.out pre ((List.prefix_append _ _).trans hsp) HO.out) hB.1 (by omega) hbl)
      have e0 : ∀ args W, (callFunc p.f1 args).run Tryz.prog W = .ok (.enter p.f1 args) W := hpt.e1
      have HWA : Hid (wrAll (pre ++ [p]) x zeros8 = p.S.wr x (wrAll pre x zeros8)) := show _ = _ by rw [wrAll_append]; rfl
      obtain ⟨F, hF⟩ : ∃ F, p.f1 = F := ⟨_, rfl⟩
      obtain ⟨L, hL⟩ : ∃ L, p.l1 = L := ⟨_, rfl⟩
      unfold PartV.v1 at c1
      rw [hF, hL] at c1
      rw [hF] at e0
      rw [hF, hL] at HMB
      have HBX := Lib.hid hbx
      have HQX := Lib.hid hqx
      have HBR := Lib.hid hbr
      have HQR := Lib.hid hqr
      have HQL := Lib.hid hql
      have HBB := Lib.hid hB
      have HQB := Lib.hid hqb
      clear hpt hmem ht hF hL hbx hqx hbl hql hbr hqr hB hqb hsp hokp
      gi_wp2_with (refine wpListIn_load_eq rfl 61 _ rfl _ _ rfl HLD.out ?_)
      refine ⟨trivial, (CallsIn.inRound l2 (callsIn_wide.2 HMB.out)).mono ?_⟩
      rintro e w5 ⟨⟨u, rfl⟩, hb5, ht5⟩
      have HB5 := Lib.hid hb5
      have HT5 := Lib.hid ht5
      clear hb5 ht5 c1 e0
      gi_wp2_with fail
      refine ⟨⟨HT5.out.size, fun k hk hl => HT5.out.block k hl (fun h => ?_)⟩, ?_⟩
      · have h3 := HZ3.out
        rcases hk with (h2 | h2) | h2
        · have h4 : w.heap.size + 1 + 1 = w3.heap.size := h.symm.trans h2
          omega
        · have h4 : w.heap.size + 1 + 1 = g := h.symm.trans h2
          have := HGG.out
          omega
        · exact HQL.out (by rwa [show k = w.heap.size + 1 + 1 from h] at h2)
      · refine ⟨⟨HBX.out.turn HT5.out (by omega), HQX.out⟩, ⟨by rw [HWA.out]; exact HB5.out, HQL.out⟩, ⟨HBR.out.turn HT5.out (by omega), HQR.out⟩, HXX HT5.out (fun k h => by omega) HBB.out.1, Nat.le_trans HBB.out.2.1 HT5.out.size, HBB.out.2.2⟩
    case done =>
      rintro D ys W3 hD rfl ⟨-, ⟨hbl, hql⟩, ⟨hbr, hqr⟩, hB⟩ hK'
      subst hA
      have HLD := Lib.hid (hbl.load (tt := 113) Tryz.underlying113 rfl (by rw [lnA_size, (HLN.out ys (List.prefix_refl _) HO.out).1]; kernel_rfl))
      obtain ⟨W4, hst, hb4, ht4⟩ := hbr.store (P := Tryz.prog) (tt := 113) (Y := lnA (wrAll ys x zeros8)) (by rw [lnA_size, (HLN.out ys (List.prefix_refl _) HO.out).1]; kernel_rfl) (by rw [lnA_size, lnA_size, (HLN.out ys (List.prefix_refl _) HO.out).1]; rfl) (lnA_one _)
      have hD4 : W4.heap[D]? = some (.deferred (some [])) := (ht4.block D (Array.getElem?_eq_some_iff.1 hK').1 (fun h => hqr h.symm)).trans hK'
      have HST := Lib.hid hst
      have HB4 := Lib.hid hb4
      have HT4 := Lib.hid ht4
      have HBB := Lib.hid hB
      have HDD := Lib.hid hD
      have HK := Lib.hid hD4
      clear hst hb4 ht4 hB hD hD4 hK' hbl hql hbr hqr
      gi_wp2_with (first | (refine wpListIn_load_eq rfl 113 _ rfl _ _ rfl HLD.out ?_) | (refine wpListIn_store_eq rfl 113 _ _ rfl _ _ rfl rfl HST.out ?_))
      rw [Exit.jump_ret]
      refine leaves_one (D := D) HK.out fun W' ht hc => ?_
      have hb5 : Blk W' (w.heap.size + 1) 113 (lnA (wrAll ys x zeros8)) := hc _ _ _ _ HB4.out
      have hlv := hb5.loadVar (tt := 113) Tryz.underlying113 rfl (by rw [lnA_size, (HLN.out ys (List.prefix_refl _) HO.out).1]; kernel_rfl)
      refine ⟨.tuple #[.agg (lnA (wrAll ys x zeros8)), .int .i64 0], results_cell_tmp rfl rfl hlv rfl, by rw [HPO.out, HPE.out]; rfl, ?_⟩
      have h1 := HXX HT4.out (fun k h => by omega) HBB.out.1
      exact h1.trans (ht.below (B := w.heap.size) (fun k h => by have := HDD.out; have := HB1.out.size; omega) h1.size)
    case stop =>
      rintro D cd pre W3 hD hpre h
      exact h.elim
end Go.Proofs.YtaebipopmefkpaaGreatDoor

/-
  node: what reading a line of node.super does when it gives up, and when not. Written by gen_nd.py.
-/
namespace Go.Proofs.YtaebipopmefkpaaGreatDoor
open Go.RowKit Go.Shelf Go.Sort
attribute [local go_sem] Oper.semAt_some

def ndZeroS : Array Value := #[.int .i64 0, .int .i64 0]
set_option maxRecDepth 100000 in
set_option maxHeartbeats 4000000 in
theorem getD_ok_S (n : Nat) (X E : Nat) (w : World) : CallsDIn Fence.wide n Tryz.prog 45 #[.pointer (some ⟨X, 0, none⟩), .pointer (some ⟨E, 0, none⟩)] .returning w fun e u w' => e = .returned (.tuple #[]) ∧ u = .returning ∧ Below w.heap.size w w' := by
  refine callsDIn_of_wpSIn Tryz.func45 rfl trivial fun c₀ cs hu => ?_
  apply wpSIn_seq
  apply wpSIn_region
  have h1 := ta_nil
  simp [wpOpsSIn, go_sem, recoverD, hu, Tryz.ntmps45, Exit.thenS, h1]
  rw [show ∀ (u : Value), (#[.pointer (some ⟨X, 0, none⟩), .pointer (some ⟨E, 0, none⟩)] ++ (((((((Array.replicate 10 undef).setIfInBounds 4 Value.nilIface).setIfInBounds 5 (.tuple #[.agg #[], .bool false])).setIfInBounds 3 (.tuple #[.agg #[], .bool false])).setIfInBounds 6 (.agg #[])).setIfInBounds 7 (.bool false)).setIfInBounds 0 u).setIfInBounds 1 (.bool false) : Array Value) = #[.pointer (some ⟨X, 0, none⟩), .pointer (some ⟨E, 0, none⟩), u, .bool false, undef, .tuple #[.agg #[], .bool false], .nilIface, .tuple #[.agg #[], .bool false], .agg #[], .bool false, undef, undef] from fun u => rfl]
  refine wpSIn_of_wpIn rfl ?_
  gi_wp2_with fail
  cases c₀
  simp_all [bodyPostS, results, Tryz.results45]
  exact (Below.refl _ _).alloc (Nat.le_refl _) _
set_option maxRecDepth 100000 in
set_option maxHeartbeats 4000000 in
theorem getD_no_S (n : Nat) (X E : Nat) (x : Array Value) (hx : x.size = 2) (v : Value) (hXE : X ≠ E) (w : World) (hX : Blk w X 61 x) (hE : Boxed w E 26 v) :
    CallsDIn Fence.wide n Tryz.prog 45 #[.pointer (some ⟨X, 0, none⟩), .pointer (some ⟨E, 0, none⟩)] (.panicking noLine) w fun e u w' => e = .returned (.tuple #[]) ∧ u = .panicking [{ v := .iface 115 (.agg #[]), recovered := true }] ∧ Blk w' X 61 ndZeroS ∧ Boxed w' E 26 (.int .i64 180) ∧ Turn (fun k => k = X ∨ k = E) w w' := by
  have lX := hX.lt
  have lE := hE.lt
  have hb2 : Below w.heap.size w ((w.alloc (.cells #[] 115)).alloc (.cells ndZeroS 61)) := (by repeat (first | exact Below.refl _ _ | assumption | refine Below.drew ?_ | refine below_drewN ?_ _ | refine Below.alloc ?_ (by (try simp) <;> omega) _ | refine Below.setCell ?_ (by (try simp) <;> omega) _ | refine Below.trans ?_ (Below.mono (by assumption) (by (try simp) <;> omega))))
  have h2 : Blk ((w.alloc (.cells #[] 115)).alloc (.cells ndZeroS 61)) (w.heap.size + 1) 61 ndZeroS := by unfold Blk; (simp only [heap_at, World.size_alloc]; repeat (first | rw [if_pos (by omega)] | rw [if_neg (by omega)] | rw [if_pos trivial]))
  have HLD : Hid ((Instr.loadAt 61 (.pointer (some ⟨w.heap.size + 1, 0, none⟩))).run Tryz.prog ((w.alloc (.cells #[] 115)).alloc (.cells #[.int .i64 0, .int .i64 0] 61)) = .ok (.agg ndZeroS) ((w.alloc (.cells #[] 115)).alloc (.cells #[.int .i64 0, .int .i64 0] 61))) := show _ = _ from h2.load (tt := 61) Tryz.underlying61 rfl (by kernel_rfl)
  obtain ⟨W3, hst, hb3, ht3⟩ := (hX.below hb2 lX).store (P := Tryz.prog) (tt := 61) (Y := ndZeroS) (by kernel_rfl) (by rw [hx]; rfl) (by simp [ndZeroS, Value.oneCell'])
  have HST : Hid ((Instr.storeAt 61 (.pointer (some ⟨X, 0, none⟩)) (.agg ndZeroS)).run Tryz.prog ((w.alloc (.cells #[] 115)).alloc (.cells #[.int .i64 0, .int .i64 0] 61)) = .ok () W3) := show _ = _ from hst
  have hE3 : Boxed W3 E 26 v := (ht3.block E (by simp; omega) (fun h => hXE h.symm)).trans ((hb2.block E lE).trans hE)
  have cEr := hE3.cell
  have fEr := hE3.frozen
  have lE3 := hE3.lt
  have HB3 := Lib.hid hb3
  have HE3 := Lib.hid hE3
  have HT3 : Hid (Turn (fun k => k = X ∨ k = E) w W3) := show Turn _ _ _ from (Turn.of_below hb2 (Nat.le_refl _)).trans (ht3.mono fun k h => .inl h)
  clear hb2 h2 hst hb3 ht3 hE3 hX hE
  refine callsDIn_of_wpSIn Tryz.func45 rfl trivial fun c₀ cs hu => ?_
  apply wpSIn_seq
  apply wpSIn_region
  have h1 := ta_line
  unfold noLine at hu
  simp [wpOpsSIn, go_sem, recoverD, hu, Tryz.ntmps45, Exit.thenS, h1]
  rw [show ∀ (u : Value), (#[.pointer (some ⟨X, 0, none⟩), .pointer (some ⟨E, 0, none⟩)] ++ (((((((Array.replicate 10 undef).setIfInBounds 4 (.iface 115 (.agg #[]))).setIfInBounds 5 (.tuple #[.agg #[], .bool true])).setIfInBounds 3 (.tuple #[.agg #[], .bool true])).setIfInBounds 6 (.agg #[])).setIfInBounds 7 (.bool true)).setIfInBounds 0 u).setIfInBounds 1 (.bool true) : Array Value) = #[.pointer (some ⟨X, 0, none⟩), .pointer (some ⟨E, 0, none⟩), u, .bool true, undef, .tuple #[.agg #[], .bool true], .iface 115 (.agg #[]), .tuple #[.agg #[], .bool true], .agg #[], .bool true, undef, undef] from fun u => rfl]
  refine wpSIn_of_wpIn rfl ?_
  gi_wp2_with (first | (refine wpListIn_load_eq rfl 61 _ rfl _ _ rfl HLD.out ?_) | (refine wpListIn_store_eq rfl 61 _ _ rfl _ _ rfl rfl HST.out ?_))
  cases c₀
  simp only [bodyPostS, true_and]
  refine ⟨_, rfl, .tuple #[], by simp [results, Tryz.results45], rfl, rfl, HB3.out.setOther _ hXE, HE3.out.set _, HT3.out.trans (Turn.setCell _ _ (.inr rfl))⟩
end Go.Proofs.YtaebipopmefkpaaGreatDoor

/-
  node: what a line of node.super is. Written by gen_nd.py.
-/
namespace Go.Proofs.YtaebipopmefkpaaGreatDoor
open Go.RowKit Go.Shelf Go.Sort
attribute [local go_sem] Oper.semAt_some

/-- In the rounds of get. -/
def GetIS (w : World) (l : List Int) (B X E : Nat) (pre : List PartV) (q : Nat → Prop) (W : World) : Prop :=
  (Blk W B 113 (lnA l) ∧ ¬ q B) ∧ (Blk W X 61 ((rdAll l pre ndZeroS).getD ndZeroS) ∧ ¬ q X) ∧ BoxF E 26 (.int .i64 0) q W ∧ BelowF w.heap.size w q W ∧ (rdAll l pre ndZeroS).isSome = true
theorem abides_getS (w : World) (l : List Int) (B X E : Nat) : Abides (GetIS w l B X E) := Abides.and (abides_blkF _ _ _) (Abides.and (abides_blkF X 61 (fun pre => (rdAll l pre ndZeroS).getD ndZeroS)) (Abides.and (Abides.box _ _ (fun _ => .int .i64 0)) (Abides.and (Abides.below _ _) (Abides.pure (fun pre : List PartV => (rdAll l pre ndZeroS).isSome = true)))))
/-- Where one gives up. -/
def GetPS (w : World) (l : List Int) (X E : Nat) (ch : List PanicEntry) (pre : List PartV) (q : Nat → Prop) (W : World) : Prop :=
  (Blk W X 61 ((rdAll l pre.dropLast ndZeroS).getD ndZeroS) ∧ ¬ q X) ∧ BoxF E 26 (.int .i64 0) q W ∧ BelowF w.heap.size w q W ∧ (ch = noLine ∧ rdAll l pre ndZeroS = none ∧ (rdAll l pre.dropLast ndZeroS).isSome = true)
theorem abides_getPS (w : World) (l : List Int) (X E : Nat) (ch : List PanicEntry) : Abides (GetPS w l X E ch) := Abides.and (abides_blkF X 61 (fun pre : List PartV => (rdAll l pre.dropLast ndZeroS).getD ndZeroS)) (Abides.and (Abides.box _ _ (fun _ => .int .i64 0)) (Abides.and (Abides.below _ _) (Abides.pure (fun pre : List PartV => ch = noLine ∧ rdAll l pre ndZeroS = none ∧ (rdAll l pre.dropLast ndZeroS).isSome = true))))
/-- It gives up. -/
theorem leaves_noS (w : World) {X E D : Nat} {x : Array Value} (hx : x.size = 2) {tmps : Array Value} (hX4 : tmps.getD 4 undef = .pointer (some ⟨X, 0, none⟩)) (hE5 : tmps.getD 5 undef = .pointer (some ⟨E, 0, none⟩)) (hXE : X ≠ E) (W : World) (hbx : Blk W X 61 x) (hbe : Boxed W E 26 (.int .i64 0)) (hD : W.heap[D]? = some (.deferred (some [])))
    (hDX : D ≠ X) (hDE : D ≠ E) (hwX : w.heap.size ≤ X) (hwE : w.heap.size ≤ E) (hwD : w.heap.size ≤ D) (hB : Below w.heap.size w W) :
    LeavesInM Fence.wide 9 Tryz.prog Tryz.f17 tmps (fun e w' => e = .returned (.tuple #[.agg ndZeroS, .int .i64 180]) ∧ Below w.heap.size w w') [{ target := .collected D, args := #[] }, { target := .fn (.func 45) #[.pointer (some ⟨X, 0, none⟩), .pointer (some ⟨E, 0, none⟩)], args := #[] }] (.panicking noLine) W := by
  refine leaves_mark (by simp) hD fun W' ht => ?_
  refine leaves_closure (by simp) (enters_of Tryz.func45 (by kernel_rfl) rfl) ?_
  obtain ⟨hF, h⟩ := getD_no_S 8 X E x hx (.int .i64 0) hXE W' (hbx.turn ht (fun h => hDX h.symm)) ((ht.block E hbe.lt (fun h => hDE h.symm)).trans hbe)
  refine ⟨hF, fun c cs hc hr => ?_⟩
  obtain ⟨e, u', w', fr, ⟨rfl, rfl, h1, h2, h3⟩, h4⟩ := h c cs hc hr
  refine ⟨_, _, w', fr, ?_, h4⟩
  show LeavesInM Fence.wide 9 Tryz.prog Tryz.f17 tmps _ [] (settle (.panicking [{ v := .iface 115 (.agg #[]), recovered := true }])) w'
  exact ⟨_, results_cell_cell (fn := Tryz.f17) rfl hX4 (h1.loadVar (tt := 61) Tryz.underlying61 rfl (by kernel_rfl)) hE5 (loadErr h2), rfl, (hB.trans (ht.below (B := w.heap.size) (fun k h => by omega) hB.size)).trans (h3.below (B := w.heap.size) (fun k h => by omega) (Nat.le_trans hB.size ht.size))⟩
set_option maxRecDepth 100000 in
set_option maxHeartbeats 4000000 in
theorem getK_S {Good : Array Value → Prop} {v : Value} {ps : List PartV} (l : List Int) (hl8 : Line8 l) (hGz : Good ndZeroS) (hGs : ∀ x, Good x → x.size = 2 ∧ x.all (·.oneCell') = true) (w : World) (hk : KindAtS w v ps) (hp : ∀ p ∈ ps, NdPart Good 61 w p) :
    Calls Tryz.prog 17 #[v, .agg (lnA l)] w fun e w' => e = .returned (.tuple #[.agg ((getM ps l ndZeroS).getD ndZeroS), .int .i64 (getErr (getM ps l ndZeroS))]) ∧ Below w.heap.size w w' := by
  have HPK := Lib.hid (fun (y : Array Value) (hy : Good y) (W : World) (hb : Below w.heap.size w W) => putK_S y hy (hGs y hy).1 W (hk.below hb) (fun p hm => (hp p hm).below hb))
  obtain ⟨⟨g, c, rfl, hg, hc⟩, hl⟩ := hk
  have HVE := Lib.hid (fun (W : World) (p : Nat) (hb : Below w.heap.size w W) (hbx : Boxed W p 64 (.slice (some ⟨g, 0, none⟩) ps.length c)) => valuesE_S 8 (by decide) (p := p) W hbx (Nat.lt_of_lt_of_le hg hb.size) (fun k hk => by
    obtain ⟨h1, h2, h3⟩ := hc k hk
    exact ⟨(hb.cell (p := ⟨g, k * 3, none⟩) hg).trans h1, (hb.cell (p := ⟨g, k * 3 + 1, none⟩) hg).trans h2, (hb.cell (p := ⟨g, k * 3 + 2, none⟩) hg).trans h3⟩) hl)
  clear hc hl
  obtain ⟨N, hN⟩ : ∃ N, ps.length = N := ⟨_, rfl⟩
  have HPT := Lib.hid (parts_S (some ⟨g, 0, none⟩) N c)
  rw [hN] at HVE HPK
  rw [hN]
  clear hN
  have HP := Lib.hid hp
  have HGD := Lib.hid (fun pre (hpre : pre <+: ps) (y : Array Value) (hy : rdAll l pre ndZeroS = some y) => show Good y from rdAll_good hl8 pre ndZeroS y (fun p hm => hp p (hpre.subset hm)) hGz hy)
  obtain ⟨W3, hW3⟩ : ∃ W3, ((w.alloc (.cells (lnA l) 113)).alloc (.cells ndZeroS 61)).alloc (.cells #[.int .i64 0] 26) = W3 := ⟨_, rfl⟩
  have HB3 : Hid (Below w.heap.size w W3) := show Below _ _ _ by rw [← hW3]; exact (by repeat (first | exact Below.refl _ _ | assumption | refine Below.drew ?_ | refine below_drewN ?_ _ | refine Below.alloc ?_ (by (try simp) <;> omega) _ | refine Below.setCell ?_ (by (try simp) <;> omega) _ | refine Below.trans ?_ (Below.mono (by assumption) (by (try simp) <;> omega))))
  have HL3 : Hid (Blk W3 w.heap.size 113 (lnA l)) := show Blk _ _ _ _ by unfold Blk; rw [← hW3]; (simp only [heap_at, World.size_alloc]; repeat (first | rw [if_pos (by omega)] | rw [if_neg (by omega)] | rw [if_pos trivial]))
  have HX3 : Hid (Blk W3 (w.heap.size + 1) 61 ndZeroS) := show Blk _ _ _ _ by unfold Blk; rw [← hW3]; (simp only [heap_at, World.size_alloc]; repeat (first | rw [if_pos (by omega)] | rw [if_neg (by omega)] | rw [if_pos trivial]))
  have HE3 : Hid (Boxed W3 (w.heap.size + 1 + 1) 26 (.int .i64 0)) := show Boxed _ _ _ _ by unfold Boxed; rw [← hW3]; (simp only [heap_at, World.size_alloc]; repeat (first | rw [if_pos (by omega)] | rw [if_neg (by omega)] | rw [if_pos trivial]))
  have HZ3 : Hid (W3.heap.size = w.heap.size + 3) := show _ = _ by rw [← hW3]; simp
  have HW3 : Hid (((w.alloc (.cells (lnA l) 113)).alloc (.cells #[.int .i64 0, .int .i64 0] 61)).alloc (.cells #[.int .i64 0] 26) = W3) := show _ = _ from hW3
  have HGG := Lib.hid hg
  have HL8 := Lib.hid hl8
  have HGS := Lib.hid hGs
  have HGZ := Lib.hid hGz
  clear hW3 hp hg hl8 hGs hGz
  have HXX : ∀ {q : Nat → Prop} {W W' : World}, Turn q W W' → (∀ k, q k → w.heap.size ≤ k) → Below w.heap.size w W → Below w.heap.size w W' := fun ht hq hb => hb.trans (ht.below hq hb.size)
  refine (callsIn_wide (n := 9)).1 ?_
  refine callsIn_of_wpAt Tryz.func17 rfl ?_
  simp only [Tryz.ntmps17, List.size_toArray, List.length_cons, List.length_nil, Nat.reduceAdd, Nat.reduceSub, Array.replicate_succ, Array.replicate_zero, List.push_toArray, List.append_toArray, List.nil_append, List.cons_append]
  refine wpAt_seq (wpAt_of_wpIn ?_)
  gi_wp2_with fail
  rw [HW3.out]
  refine wpAt_seq (wpAt_of_wpIn ?_)
  gi_wp2_with fail
  refine wpAt_seq (wpAt_seq (wpAt_of_wpIn ?_))
  gi_wp2_with fail
  refine ⟨trivial, ?_⟩
  refine (callsIn_wide.2 (HPT.out W3)).mono ?_
  rintro e w1 ⟨rfl, hw1⟩
  have hz3 := HZ3.out
  have hb1 : Below W3.heap.size W3 w1 := by rw [hw1]; exact (Below.refl _ _).alloc (Nat.le_refl _) _
  have hz1 : w1.heap.size = w.heap.size + 4 := by rw [hw1, World.size_alloc]; omega
  have HB1 : Hid (Below w.heap.size w w1) := show Below _ _ _ from HB3.out.trans (hb1.mono HB3.out.size)
  have hx1 := HX3.out.below hb1 (by omega)
  have hl1 := HL3.out.below hb1 (by omega)
  have he1 : Boxed w1 (w.heap.size + 1 + 1) 26 (.int .i64 0) := (hb1.block _ (by omega)).trans HE3.out
  have hs1 : Boxed w1 (w.heap.size + 3) 64 (.slice (some ⟨g, 0, none⟩) N c) := by rw [hw1, ← hz3]; exact Boxed.new _ _ _
  have HSQ := Lib.hid (HVE.out w1 (w.heap.size + 3) HB1.out hs1)
  have HI0 : Hid (GetIS w l w.heap.size (w.heap.size + 1) (w.heap.size + 1 + 1) [] (fun _ => False) w1) := show GetIS _ _ _ _ _ _ _ _ from ⟨⟨hl1, id⟩, ⟨hx1, id⟩, ⟨he1, id⟩, ⟨HB1.out, HB1.out.size, fun _ h => h.elim⟩, rfl⟩
  have HZ1 := Lib.hid hz1
  clear hs1 hx1 hl1 he1 hb1 hw1 hz1 HVE
  gi_wp2_with fail
  refine wpAt_block ?_
  generalize hA : ({ tmps := _, defers := _ } : Act) = A0
  refine wpAt_range_E (n := 9) (fd := Tryz.f17) Tryz.func17 (gf := 126) (lb := #[.pointer (some ⟨w.heap.size + 3, 0, none⟩)]) (by rw [← hA]; rfl) (enters_of Tryz.func126 (by kernel_rfl) rfl) HSQ.out
    (fun k hk => by have := HZ1.out; have := HGG.out; rcases hk with rfl | rfl <;> omega) (Below.refl _ _) (fun _ => rfl)
    (GetIS w l w.heap.size (w.heap.size + 1) (w.heap.size + 1 + 1)) (fun _ _ _ _ => False) (GetPS w l (w.heap.size + 1) (w.heap.size + 1 + 1)) (abides_getS _ _ _ _ _) (fun _ _ _ _ _ _ h _ _ => h) (abides_getPS _ _ _ _) HI0.out
    (PartAxS A0 104 12 6 · (w1.heap.size + 2))
    (fun p a' W o ⟨b, e, hb, h⟩ => ⟨b, e, hb, (World.putObj_heap_other (by omega)).trans h⟩)
    ?assign ?body ?done ?stop ?panic
  case assign =>
    rintro l2 p W4 K hsz3 hK
    subst hA
    unfold encPart
    dsimp only
    gi_wp2_with fail
    refine hK _ _ ⟨W4.heap.size, rfl, hsz3, Tri.new _ _ _ _ _⟩ ((Below.refl _ _).alloc (Nat.le_refl _) _)
  case body =>
    rintro l2 pre p a' q2 W4 ⟨⟨hbl, hql⟩, ⟨hbx, hqx⟩, ⟨hbe, hqe⟩, hB, hok⟩ hs2 hqb hsp ⟨b, rfl, hb, ht⟩
    subst hA
    have hmem : p ∈ ps := hsp.subset (by simp)
    have hpt := HP.out p hmem
    obtain ⟨-, -, c2, -, -, -⟩ := ht.cells
    have hlb := ht.lt
    obtain ⟨y, hy⟩ := Option.isSome_iff_exists.1 hok
    rw [hy, Option.getD_some] at hbx
    have hgy := HGD.out pre ((List.prefix_append _ _).trans hsp) y hy
    have HLD := Lib.hid (hbl.load (tt := 113) Tryz.underlying113 rfl (by rw [lnA_size, HL8.out.1]; kernel_rfl))
    have HMB := Lib.hid (hpt.read y l (w.heap.size + 1) W4 hgy HL8.out hB.1 (by omega) hbx)
    have e0 : ∀ args W, (callFunc p.f2 args).run Tryz.prog W = .ok (.enter p.f2 args) W := hpt.e2
    have HRD : Hid (rdAll l (pre ++ [p]) ndZeroS = p.S.rd l y) := show _ = _ by
      rw [rdAll_append, hy, Option.bind_some, rdAll]
      cases p.S.rd l y <;> rfl
    have HRP : Hid (rdAll l (pre ++ [p]).dropLast ndZeroS = some y) := show _ = _ by rw [List.dropLast_concat, hy]
    obtain ⟨F, hF⟩ : ∃ F, p.f2 = F := ⟨_, rfl⟩
    obtain ⟨L, hL⟩ : ∃ L, p.l2 = L := ⟨_, rfl⟩
    unfold PartV.v2 at c2
    rw [hF, hL] at c2
    rw [hF] at e0
    rw [hF, hL] at HMB
    have HBL := Lib.hid hbl
    have HQL := Lib.hid hql
    have HBE := Lib.hid hbe
    have HQE := Lib.hid hqe
    have HQX := Lib.hid hqx
    have HBB := Lib.hid hB
    have HQB := Lib.hid hqb
    have HKK : ∀ w5, Turn (fun k => k = w.heap.size + 1) W4 w5 → Keeps (fun k => ndOwnS (w.heap.size + 3) g k ∨ q2 k) W4 w5 := fun w5 ht5 => ⟨ht5.size, fun k hk hl => ht5.block k hl (fun h => by
      rcases hk with (h2 | h2) | h2
      · have h4 : w.heap.size + 1 = w.heap.size + 3 := h.symm.trans h2
        omega
      · have h4 : w.heap.size + 1 = g := h.symm.trans h2
        have := HGG.out
        omega
      · exact HQX.out (by rwa [show k = w.heap.size + 1 from h] at h2))⟩
    have HKH := Lib.hid HKK
    clear hpt hmem ht hF hL hbx hqx hbl hql hbe hqe hB hqb hsp hok hy hgy HKK
    gi_wp2_with (refine wpListIn_load_eq rfl 113 _ rfl _ _ rfl HLD.out ?_)
    refine ⟨trivial, (CallsIn.inRound l2 (callsIn_wide.2 HMB.out)).mono ?_⟩
    rintro e w5 ⟨ht5, ⟨u, y2, rfl, hrd, hb5⟩ | ⟨rfl, hrd, hb5⟩⟩
    · have HT5 := Lib.hid ht5
      have HB5 := Lib.hid hb5
      have HR5 := Lib.hid hrd
      clear ht5 hb5 hrd c2 e0
      gi_wp2_with fail
      refine ⟨HKH.out w5 HT5.out, ⟨HBL.out.turn HT5.out (by omega), HQL.out⟩, ⟨by rw [HRD.out, HR5.out]; exact HB5.out, HQX.out⟩, ⟨(HT5.out.block _ HBE.out.lt (by omega)).trans HBE.out, HQE.out⟩, ⟨HXX HT5.out (fun k h => by omega) HBB.out.1, Nat.le_trans HBB.out.2.1 HT5.out.size, HBB.out.2.2⟩, by rw [HRD.out, HR5.out]; rfl⟩
    · have HT5 := Lib.hid ht5
      have HB5 := Lib.hid hb5
      have HR5 := Lib.hid hrd
      clear ht5 hb5 hrd c2 e0
      gi_wp2_with fail
      refine ⟨rfl, ⟨⟨by rw [HRP.out]; exact HB5.out, HQX.out⟩, ⟨(HT5.out.block _ HBE.out.lt (by omega)).trans HBE.out, HQE.out⟩, ⟨HXX HT5.out (fun k h => by omega) HBB.out.1, Nat.le_trans HBB.out.2.1 HT5.out.size, HBB.out.2.2⟩, rfl, by rw [HRD.out, HR5.out], by rw [HRP.out]; rfl⟩, HKH.out w5 HT5.out⟩
  case done =>
    rintro D ys W4 hD rfl ⟨⟨hbl, hql⟩, ⟨hbx, hqx⟩, ⟨hbe, hqe⟩, hB, hok⟩ hK'
    subst hA
    obtain ⟨y, hy⟩ := Option.isSome_iff_exists.1 hok
    rw [hy, Option.getD_some] at hbx
    have hgy := HGD.out ys (List.prefix_refl _) y hy
    have hgm : getM ys l ndZeroS = if okAll ys y = true ∧ putOut ys y = l then some y else none := by unfold getM; rw [hy]; rfl
    have HGM := Lib.hid hgm
    have HLD := Lib.hid (hbx.load (tt := 61) Tryz.underlying61 rfl (by rw [(HGS.out y hgy).1]; kernel_rfl))
    have HPW := Lib.hid (HPK.out y hgy W4 hB.1)
    have HO8 := Lib.hid (putOut_len hgy ys HP.out)
    obtain ⟨O, hO⟩ : ∃ O, putOut ys y = O := ⟨_, rfl⟩
    rw [hO] at HPW HO8 HGM
    obtain ⟨o, ho⟩ : ∃ o, okAll ys y = o := ⟨_, rfl⟩
    have hpe : putErr ys y = if o then 0 else 2 := by unfold putErr; rw [ho]
    rw [hpe] at HPW
    rw [ho] at HGM
    have HBX := Lib.hid hbx
    have HQX := Lib.hid hqx
    have HBL := Lib.hid hbl
    have HBE := Lib.hid hbe
    have HQE := Lib.hid hqe
    have HBB := Lib.hid hB
    have HDK := Lib.hid hK'
    have HDD := Lib.hid hD
    have HGY := Lib.hid hgy
    clear hbl hql hbx hqx hbe hqe hB hok hK' hD hgm hO hpe ho hgy hy
    refine (wpAt_of_wpIn ?_ : wpAt _ _ _ _ _ _ _)
    gi_wp2_with (refine wpListIn_load_eq rfl 61 _ rfl _ _ rfl HLD.out ?_)
    refine ⟨trivial, ?_⟩
    refine (callsIn_wide.2 HPW.out).mono ?_
    rintro e w6 ⟨rfl, hb6⟩
    have hD6 : w6.heap[D]? = some (.deferred (some [])) := (hb6.block D (Array.getElem?_eq_some_iff.1 HDK.out).1).trans HDK.out
    have hx6 := HBX.out.below hb6 HBX.out.lt
    have hl6 := HBL.out.below hb6 HBL.out.lt
    have he6 : Boxed w6 (w.heap.size + 1 + 1) 26 (.int .i64 0) := (hb6.block _ HBE.out.lt).trans HBE.out
    have hB6 : Below w.heap.size w w6 := HBB.out.1.trans (hb6.mono HBB.out.1.size)
    obtain ⟨W7, hW7⟩ : ∃ W7, w6.alloc (.cells (lnA O) 113) = W7 := ⟨_, rfl⟩
    have hb7 : Below w6.heap.size w6 W7 := by rw [← hW7]; exact (Below.refl _ _).alloc (Nat.le_refl _) _
    have HO7 : Hid (Blk W7 w6.heap.size 113 (lnA O)) := show Blk _ _ _ _ by rw [← hW7]; exact Blk.new _ _ _
    have HX7 : Hid (Blk W7 (w.heap.size + 1) 61 y) := show Blk _ _ _ _ from hx6.below hb7 hx6.lt
    have HL7 : Hid (Blk W7 w.heap.size 113 (lnA l)) := show Blk _ _ _ _ from hl6.below hb7 hl6.lt
    have HE7 : Hid (Boxed W7 (w.heap.size + 1 + 1) 26 (.int .i64 0)) := show Boxed _ _ _ _ from (hb7.block _ he6.lt).trans he6
    have HD7 : Hid (W7.heap[D]? = some (.deferred (some []))) := show _ = _ from (hb7.block D (Array.getElem?_eq_some_iff.1 hD6).1).trans hD6
    have HB7 : Hid (Below w.heap.size w W7) := show Below _ _ _ from hB6.trans (hb7.mono hB6.size)
    have HST : Hid ((Instr.storeAt 113 (.pointer (some ⟨w6.heap.size, 0, none⟩)) (.agg (lnA O))).run Tryz.prog (w6.alloc (.cells #[.int .u64 0, .int .u64 0, .int .u64 0, .int .u64 0, .int .u64 0, .int .u64 0, .int .u64 0, .int .u64 0] 113)) = .ok () W7) := show _ = _ by
      rw [← hW7]
      exact run_storeAt_new w6 113 _ (lnA O) (by rw [lnA_size, HO8.out.1]; kernel_rfl) (by rw [lnA_size, HO8.out.1]; rfl) (lnA_one _)
    have HLO := Lib.hid (HO7.out.load (tt := 113) Tryz.underlying113 rfl (by rw [lnA_size, HO8.out.1]; kernel_rfl))
    have HLL := Lib.hid (HL7.out.load (tt := 113) Tryz.underlying113 rfl (by rw [lnA_size, HL8.out.1]; kernel_rfl))
    have heq : (Op.equalIn 10000 113 (.agg (lnA O)) (.agg (lnA l))).run Tryz.prog W7 = .ok (O == l) W7 := eql_line Tryz.underlying113 O l HO8.out.1 HL8.out.1 W7
    have HNO := Lib.hid (fun tmps h4 h5 => leaves_noS w (tmps := tmps) (X := w.heap.size + 1) (E := w.heap.size + 1 + 1) (D := D) (HGS.out y HGY.out).1 h4 h5 (by omega) W7 HX7.out HE7.out HD7.out (fun h => HQX.out h.symm) (fun h => HQE.out h.symm) (by omega) (by omega) (by have := HDD.out; have := HZ1.out; omega) HB7.out)
    clear hW7 hb7 hb6 hD6 hx6 hl6 he6 hB6
    have HMU := Lib.hid (fun b => mustBe_any b W7)
    cases o with
    | false =>
      gi_wp2_with (refine wpListIn_store_eq rfl 113 _ _ rfl _ _ rfl rfl HST.out ?_)
      refine ⟨trivial, ?_⟩
      refine (callsIn_wide.2 (HMU.out false)).mono ?_
      rintro e w8 (⟨h, -, -⟩ | ⟨-, rfl, rfl⟩)
      · cases h
      gi_wp2_with fail
      show LeavesInM _ _ _ _ _ _ _ _ _
      rw [HGM.out, if_neg (by rintro ⟨h, -⟩; cases h)]
      exact HNO.out _ rfl rfl
    | true =>
      obtain ⟨o2, ho2⟩ : ∃ o2, (O == l) = o2 := ⟨_, rfl⟩
      rw [ho2] at heq
      cases o2 with
      | false =>
        have hne : ¬ O = l := by simpa using ho2
        have HNE := Lib.hid hne
        clear ho2 hne
        gi_wp2_with (first | (refine wpListIn_store_eq rfl 113 _ _ rfl _ _ rfl rfl HST.out ?_) | (refine wpListIn_load_eqW (by rfl) 113 _ rfl _ _ rfl HLO.out ?_) | (refine wpListIn_load_eqW (by rfl) 113 _ rfl _ _ rfl HLL.out ?_))
        refine ⟨trivial, ?_⟩
        refine (callsIn_wide.2 (HMU.out false)).mono ?_
        rintro e w8 (⟨h, -, -⟩ | ⟨-, rfl, rfl⟩)
        · cases h
        gi_wp2_with fail
        show LeavesInM _ _ _ _ _ _ _ _ _
        rw [HGM.out, if_neg (by rintro ⟨-, h⟩; exact HNE.out h)]
        exact HNO.out _ rfl rfl
      | true =>
        have heq2 : O = l := by simpa using ho2
        have HEQ := Lib.hid heq2
        have hlx := HX7.out.load (tt := 61) Tryz.underlying61 rfl (by rw [(HGS.out y HGY.out).1]; kernel_rfl)
        obtain ⟨W9, hst, hb9, ht9⟩ := HX7.out.store (P := Tryz.prog) (tt := 61) (Y := y) (by rw [(HGS.out y HGY.out).1]; kernel_rfl) rfl (HGS.out y HGY.out).2
        have he9 : Boxed W9 (w.heap.size + 1 + 1) 26 (.int .i64 0) := (ht9.block _ HE7.out.lt (by omega)).trans HE7.out
        have hd9 : W9.heap[D]? = some (.deferred (some [])) := (ht9.block D (Array.getElem?_eq_some_iff.1 HD7.out).1 (fun h => HQX.out h.symm)).trans HD7.out
        have cEr := he9.cell
        have fEr := he9.frozen
        have lEr := he9.lt
        have HLX := Lib.hid hlx
        have HSX := Lib.hid hst
        have HB9 := Lib.hid hb9
        have HT9 := Lib.hid ht9
        have HE9 := Lib.hid he9
        have HD9 := Lib.hid hd9
        clear ho2 heq2 hlx hst hb9 ht9 he9 hd9
        gi_wp2_with (first | (refine wpListIn_store_eq rfl 113 _ _ rfl _ _ rfl rfl HST.out ?_) | (refine wpListIn_load_eqW (by rfl) 113 _ rfl _ _ rfl HLO.out ?_) | (refine wpListIn_load_eqW (by rfl) 113 _ rfl _ _ rfl HLL.out ?_))
        refine ⟨trivial, ?_⟩
        refine (callsIn_wide.2 (HMU.out true)).mono ?_
        rintro e w8 (⟨-, ⟨u, rfl⟩, rfl⟩ | ⟨h, -, -⟩)
        · gi_wp2_with (first | (refine wpListIn_load_eq rfl 61 _ rfl _ _ rfl HLX.out ?_) | (refine wpListIn_store_eq rfl 61 _ _ rfl _ _ rfl rfl HSX.out ?_))
          have hb10 := HXX HT9.out (fun k h => by omega) HB7.out
          have hd10 : (W9.setCell ⟨w.heap.size + 1 + 1, 0, none⟩ (.int .i64 0)).heap[D]? = some (.deferred (some [])) := (Below.heap_setCell _ _ _ _ (fun h => HQE.out h.symm)).trans HD9.out
          refine leaves_mark (by simp) hd10 fun W10 ht10 => ?_
          refine leaves_closure (by simp) (enters_of Tryz.func45 (by kernel_rfl) rfl) ?_
          obtain ⟨hF, h⟩ := getD_ok_S 8 (w.heap.size + 1) (w.heap.size + 1 + 1) W10
          refine ⟨hF, fun c cs hc hr => ?_⟩
          obtain ⟨e, u', w', fr, ⟨rfl, rfl, h1⟩, h4⟩ := h c cs hc hr
          refine ⟨_, _, w', fr, ?_, h4⟩
          show LeavesInM Fence.wide 9 Tryz.prog Tryz.f17 _ _ [] (settle .returning) w'
          have hx10 : Blk W10 (w.heap.size + 1) 61 y := (HB9.out.setOther _ (by omega)).turn ht10 (fun h => HQX.out h)
          have he10 : Boxed W10 (w.heap.size + 1 + 1) 26 (.int .i64 0) := (ht10.block _ (by simp [World.setCell]; exact HE9.out.lt) (fun h => HQE.out h)).trans (HE9.out.set _)
          have hx11 := hx10.below h1 hx10.lt
          have he11 : Boxed w' (w.heap.size + 1 + 1) 26 (.int .i64 0) := (h1.block _ he10.lt).trans he10
          refine ⟨_, results_cell_cell (fn := Tryz.f17) rfl rfl (hx11.loadVar (tt := 61) Tryz.underlying61 rfl (by rw [(HGS.out y HGY.out).1]; kernel_rfl)) rfl (loadErr he11), ?_, ?_⟩
          · rw [HGM.out, if_pos ⟨by first | rfl | trivial, HEQ.out⟩]; rfl
          · have hb11 := hb10.setCell (p := ⟨w.heap.size + 1 + 1, 0, none⟩) (show w.heap.size ≤ w.heap.size + 1 + 1 by omega) (.int .i64 0)
            have hb12 := hb11.trans (ht10.below (B := w.heap.size) (fun k h => by have := HDD.out; have := HZ1.out; omega) hb11.size)
            exact hb12.trans (h1.mono hb12.size)
        · cases h
  case stop =>
    rintro D cd pre W4 hD hpre h
    exact h.elim
  case panic =>
    rintro D ch pre W4 hD hpre ⟨⟨hbx, hqx⟩, ⟨hbe, hqe⟩, hB, rfl, hno, hok⟩ hK'
    subst hA
    have hN : rdAll l ps ndZeroS = none := by
      obtain ⟨r, rfl⟩ := hpre
      rw [rdAll_append, hno]; rfl
    obtain ⟨y, hy⟩ := Option.isSome_iff_exists.1 hok
    rw [hy, Option.getD_some] at hbx
    have hgy := HGD.out pre.dropLast ((List.dropLast_prefix pre).trans hpre) y hy
    have hgm : getM ps l ndZeroS = none := by unfold getM; rw [hN]; rfl
    show LeavesInM _ _ _ _ _ _ _ _ _
    rw [hgm]
    have hz1 := HZ1.out
    exact leaves_noS w (HGS.out y hgy).1 rfl rfl (by omega) W4 hbx hbe hK' (fun h => hqx h.symm) (fun h => hqe h.symm) (by omega) (by omega) (by omega) hB.1
end Go.Proofs.YtaebipopmefkpaaGreatDoor

/-
  node: what a super line is.
-/
namespace Go.Proofs.YtaebipopmefkpaaGreatDoor
open Go.RowKit Go.Shelf Go.Sort
attribute [local go_sem] Oper.semAt_some

def magicW : Int := 8602284742314584430
def magicS : NdS := { ok := fun _ => true, wr := fun _ l => l.set 0 magicW, rd := fun l x => if l[0]?.getD 0 = magicW then some x else none }
set_option maxRecDepth 100000 in
theorem magic_part (w : World) : NdPart (GoodI 2) 61 w ⟨81, #[], 82, #[], 83, #[], magicS⟩ where
  e0 := enters_of Tryz.func81 (by kernel_rfl) rfl
  e1 := enters_of Tryz.func82 (by kernel_rfl) rfl
  e2 := enters_of Tryz.func83 (by kernel_rfl) rfl
  mayBe x W _ _ := by
    go_enter Tryz.func81, Tryz.ntmps81
    go_wp2
    go_ret
    exact ⟨rfl, (by repeat (first | exact Below.refl _ _ | assumption | refine Below.drew ?_ | refine below_drewN ?_ _ | refine Below.alloc ?_ (by (try simp) <;> omega) _ | refine Below.setCell ?_ (by (try simp) <;> omega) _ | refine Below.trans ?_ (Below.mono (by assumption) (by (try simp) <;> omega))))⟩
  write x l b W _ _ hl _ _ hb := by
    have c1 := hb.cell (lnA_at l 0 (by rw [hl.1]; decide))
    have f1 := hb.frozen 0
    have l1 := hb.lt
    have H1 := Lib.hid hb
    clear hb hl
    go_enter Tryz.func82, Tryz.ntmps82
    go_wp2
    first
    | go_end0
    | refine bodyPost_ret (results_none rfl _ _ _) rfl ?_
    have h2 := H1.out.set 0 (.int .u64 magicW)
    rw [lnA_set] at h2
    have b2 : Below (W.setCell ⟨b, 0, none⟩ (.int .u64 magicW)).heap.size (W.setCell ⟨b, 0, none⟩ (.int .u64 magicW)) ((W.setCell ⟨b, 0, none⟩ (.int .u64 magicW)).alloc (.cells x 61)) := (by repeat (first | exact Below.refl _ _ | assumption | refine Below.drew ?_ | refine below_drewN ?_ _ | refine Below.alloc ?_ (by (try simp) <;> omega) _ | refine Below.setCell ?_ (by (try simp) <;> omega) _ | refine Below.trans ?_ (Below.mono (by assumption) (by (try simp) <;> omega))))
    exact ⟨⟨_, rfl⟩, h2.below b2 h2.lt, (Turn.setCell (q := fun k => k = b) W _ rfl).trans (Turn.of_below b2 (Nat.le_refl _))⟩
  read x l b W _ hl _ _ hb := by
    have b1 : Below W.heap.size W (W.alloc (.cells (lnA l) 113)) := (by repeat (first | exact Below.refl _ _ | assumption | refine Below.drew ?_ | refine below_drewN ?_ _ | refine Below.alloc ?_ (by (try simp) <;> omega) _ | refine Below.setCell ?_ (by (try simp) <;> omega) _ | refine Below.trans ?_ (Below.mono (by assumption) (by (try simp) <;> omega))))
    have h1 := hb.below b1 hb.lt
    have c1 := (Blk.new W 113 (lnA l)).cell (lnA_at l 0 (by rw [hl.1]; decide))
    have HMU := Lib.hid (fun c V => mustBe_any c V)
    have H1 := Lib.hid h1
    have B1 := Lib.hid b1
    have hrd : magicS.rd l x = if l[0]?.getD 0 = magicW then some x else none := rfl
    have HRD := Lib.hid hrd
    obtain ⟨y, hy⟩ : ∃ y, l[0]?.getD 0 = y := ⟨_, rfl⟩
    rw [hy] at c1 HRD
    clear hb b1 h1 hl hrd hy
    by_cases hm : y = 8602284742314584430
    · have hm2 : (y == 8602284742314584430) = true := by simpa using hm
      have HM := Lib.hid hm
      clear hm
      go_enter Tryz.func83, Tryz.ntmps83
      go_wp2_with (go_at_call 48; refine (HMU.out _ _).mono ?_; rintro e w' (⟨-, ⟨u, rfl⟩, rfl⟩ | ⟨h2, -, -⟩); rotate_left; · cases h2)
      first
      | go_end0
      | refine bodyPost_ret (results_none rfl _ _ _) rfl ?_
      exact ⟨Turn.of_below B1.out (Nat.le_refl _), .inl ⟨_, x, rfl, by rw [HRD.out]; exact if_pos HM.out, H1.out⟩⟩
    · have hm2 : (y == 8602284742314584430) = false := by simpa using hm
      have HM := Lib.hid hm
      clear hm
      go_enter Tryz.func83, Tryz.ntmps83
      go_wp2_with (go_at_call 48; refine (HMU.out _ _).mono ?_; rintro e w' (⟨h2, -, -⟩ | ⟨-, rfl, rfl⟩); · cases h2)
      exact ⟨rfl, Turn.of_below B1.out (Nat.le_refl _), .inr ⟨rfl, by rw [HRD.out]; exact if_neg HM.out, H1.out⟩⟩
  wrLine x l _ _ hl := hl.set 0 (by decide) (by decide)
  rdGood x l y hx _ h := by
    have h2 : (if l[0]?.getD 0 = magicW then some x else none) = some y := h
    split at h2
    · rw [← Option.some.inj h2]; exact hx
    · cases h2
def superSpecs : List NdS := [magicS, numS 1 0 1 1023, numS 2 1 8 1024]
set_option maxRecDepth 100000 in
set_option maxHeartbeats 4000000 in
theorem superLine_any (w : World) : Calls Tryz.prog 16 #[] w fun e w' => ∃ v ps, e = .returned v ∧ Below w.heap.size w w' ∧ KindAtS w' v ps ∧ (∀ p ∈ ps, NdPart (GoodI 2) 61 w' p) ∧ ps.map (·.S) = superSpecs := by
  have hmg : ∀ W, Calls Tryz.prog 39 #[] W fun e w' => e = .returned (.agg #[.func (.func 81) #[] #[], .func (.func 82) #[] #[], .func (.func 83) #[] #[]]) ∧ Below W.heap.size W w' := fun W => by
    go_enter Tryz.func39, Tryz.ntmps39
    go_wp2
    refine bodyPost_ret (v := .agg #[.func (.func 81) #[] #[], .func (.func 82) #[] #[], .func (.func 83) #[] #[]]) (by simp [results, Tryz.results39, go_sem]) rfl ⟨rfl, (by repeat (first | exact Below.refl _ _ | assumption | refine Below.drew ?_ | refine below_drewN ?_ _ | refine Below.alloc ?_ (by (try simp) <;> omega) _ | refine Below.setCell ?_ (by (try simp) <;> omega) _ | refine Below.trans ?_ (Below.mono (by assumption) (by (try simp) <;> omega))))⟩
  have HMG := Lib.hid hmg
  have HN1 := Lib.hid (fun W => numbered_S (Good := GoodI 2) (wd := 1) (by decide) (goodI_num (by decide)) W (field_root W) needed_lies)
  have HN2 := Lib.hid (fun W => numbered_S (Good := GoodI 2) (wd := 2) (by decide) (goodI_num (by decide)) W (field_lines W) lines_lies)
  clear hmg
  go_enter Tryz.func16, Tryz.ntmps16
  go_wp2_with fail
  refine (HMG.out _).mono ?_
  rintro e w1 ⟨rfl, hb1⟩
  have HB1 := Lib.hid hb1
  clear hb1
  go_wp2_with fail
  refine (HN1.out _).mono ?_
  rintro e w2 ⟨p1, rfl, hb2, hp1, hs1⟩
  have HB2 := Lib.hid (HB1.out.trans (hb2.mono HB1.out.size))
  have HP1 := Lib.hid hp1
  have HS1 := Lib.hid hs1
  clear hb2 hp1 hs1
  go_wp2_with fail
  refine (HN2.out _).mono ?_
  rintro e w3 ⟨p2, rfl, hb3, hp2, hs2⟩
  have HB3 := Lib.hid (HB2.out.trans (hb3.mono HB2.out.size))
  have HP13 := Lib.hid (HP1.out.below hb3)
  have HP2 := Lib.hid hp2
  have HS2 := Lib.hid hs2
  clear hb3 hp2 hs2
  go_wp2_with fail
  have hb4 : Below w3.heap.size w3 (w3.alloc (.cells (flatC partC [⟨81, #[], 82, #[], 83, #[], magicS⟩, p1, p2]).toArray 104)) := (Below.refl _ _).alloc (Nat.le_refl _) _
  refine bodyPost_ret (results_tmp rfl _ _ _) rfl ⟨_, [⟨81, #[], 82, #[], 83, #[], magicS⟩, p1, p2], rfl, HB3.out.trans (hb4.mono HB3.out.size), ⟨⟨w3.heap.size, 3, rfl, by simp, fun k hk => cells_new w3 _ _ k hk⟩, by simp⟩, ?_, ?_⟩
  · intro p hp
    rcases List.mem_cons.1 hp with rfl | hp
    · exact magic_part _
    rcases List.mem_cons.1 hp with rfl | hp
    · exact HP13.out.below hb4
    rcases List.mem_cons.1 hp with rfl | hp
    · exact HP2.out.below hb4
    · cases hp
  · simp only [List.map_cons, List.map_nil, HS1.out, HS2.out]
    rfl
end Go.Proofs.YtaebipopmefkpaaGreatDoor

/-
  node: PutSuper, GetSuper. After nd_L.txt, by hand.
-/
namespace Go.Proofs.YtaebipopmefkpaaGreatDoor
open Go.RowKit Go.Shelf Go.Sort
attribute [local go_sem] Oper.semAt_some

end Go.Proofs.YtaebipopmefkpaaGreatDoor
