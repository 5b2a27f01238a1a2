/-
  Texts NdET to NdRB, as one.
-/
import Derived.Test.YtaebipopmefkpaaGreatDoorMn19
import Derived.RecoverIn
import Derived.Deep.WholeRow
/-
  node: the words of a line of api.Table. Written by gen_nd.py.
-/
namespace Go.Proofs.YtaebipopmefkpaaGreatDoor
open Go.RowKit Go.Shelf Go.Sort
attribute [local go_sem] Oper.semAt_some

/-- In the rounds of put. -/
def PutIT (w : World) (x : Array Value) (X B R : Nat) (pre : List PartV) (q : Nat → Prop) (W : World) : Prop :=
  (Blk W X 40 x ∧ ¬ q X) ∧ (Blk W B 113 (lnA (wrAll pre x zeros8)) ∧ ¬ q B) ∧ (Blk W R 113 (lnA zeros8) ∧ ¬ q R) ∧ BelowF w.heap.size w q W
theorem abides_putT (w : World) (x : Array Value) (X B R : Nat) : Abides (PutIT w x X B R) := Abides.and (abides_blkF _ _ _) (Abides.and (abides_blkF B 113 (fun pre => lnA (wrAll pre x zeros8))) (Abides.and (abides_blkF R 113 (fun _ => lnA zeros8)) (Abides.below _ _)))
set_option maxRecDepth 100000 in
set_option maxHeartbeats 4000000 in
theorem putK_T {Good : Array Value → Prop} {v : Value} {ps : List PartV} (x : Array Value) (hx : Good x) (hsz : x.size = 7) (w : World) (hk : KindAtT w v ps) (hp : ∀ p ∈ ps, NdPart Good 40 w p) :
    Calls Tryz.prog 67 #[v, .agg x] w fun e w' => e = .returned (.tuple #[.agg (lnA (putOut ps x)), .int .i64 (putErr ps x)]) ∧ Below w.heap.size w w' := by
  have HMK := Lib.hid (fun (W : World) (hb : Below w.heap.size w W) => mayK_T x hx hsz W (hk.below hb) (fun p hm => (hp p hm).below hb))
  obtain ⟨⟨g, c, rfl, hg, hc⟩, hl⟩ := hk
  have HVE := Lib.hid (fun (W : World) (p : Nat) (hb : Below w.heap.size w W) (hbx : Boxed W p 76 (.slice (some ⟨g, 0, none⟩) ps.length c)) => valuesE_T 8 (by decide) (p := p) W hbx (Nat.lt_of_lt_of_le hg hb.size) (fun k hk => by
    obtain ⟨h1, h2, h3⟩ := hc k hk
    exact ⟨(hb.cell (p := ⟨g, k * 3, none⟩) hg).trans h1, (hb.cell (p := ⟨g, k * 3 + 1, none⟩) hg).trans h2, (hb.cell (p := ⟨g, k * 3 + 2, none⟩) hg).trans h3⟩) hl)
  clear hc hl
  obtain ⟨N, hN⟩ : ∃ N, ps.length = N := ⟨_, rfl⟩
  have HPT := Lib.hid (parts_T (some ⟨g, 0, none⟩) N c)
  rw [hN] at HVE HMK
  rw [hN]
  clear hN
  have HP := Lib.hid (fun (W : World) (hb : Below w.heap.size w W) (p : PartV) (hm : p ∈ ps) => (hp p hm).below hb)
  have HLN := Lib.hid (fun pre (hpre : pre <+: ps) (ho : okAll ps x = true) => show Line8 (wrAll pre x zeros8) from wrAll_line hx pre zeros8 (fun p hm => hp p (hpre.subset hm)) (by
    obtain ⟨r, rfl⟩ := hpre
    unfold okAll at ho ⊢
    rw [List.all_append, Bool.and_eq_true] at ho
    exact ho.1) zeros8_line)
  obtain ⟨W2, hW2⟩ : ∃ W2, ((w.alloc (.cells x 40)).alloc (.cells (lnA zeros8) 113)).alloc (.cells (lnA zeros8) 113) = W2 := ⟨_, rfl⟩
  have HB2 : Hid (Below w.heap.size w W2) := show Below _ _ _ by rw [← hW2]; exact (by repeat (first | exact Below.refl _ _ | assumption | refine Below.drew ?_ | refine below_drewN ?_ _ | refine Below.alloc ?_ (by (try simp) <;> omega) _ | refine Below.setCell ?_ (by (try simp) <;> omega) _ | refine Below.trans ?_ (Below.mono (by assumption) (by (try simp) <;> omega))))
  have HX2 : Hid (Blk W2 w.heap.size 40 x) := show Blk _ _ _ _ by unfold Blk; rw [← hW2]; (simp only [heap_at, World.size_alloc]; repeat (first | rw [if_pos (by omega)] | rw [if_neg (by omega)] | rw [if_pos trivial]))
  have HM2 : Hid (Blk W2 (w.heap.size + 1) 113 (lnA zeros8)) := show Blk _ _ _ _ by unfold Blk; rw [← hW2]; (simp only [heap_at, World.size_alloc]; repeat (first | rw [if_pos (by omega)] | rw [if_neg (by omega)] | rw [if_pos trivial]))
  have HR2 : Hid (Blk W2 (w.heap.size + 1 + 1) 113 (lnA zeros8)) := show Blk _ _ _ _ by unfold Blk; rw [← hW2]; (simp only [heap_at, World.size_alloc]; repeat (first | rw [if_pos (by omega)] | rw [if_neg (by omega)] | rw [if_pos trivial]))
  have HZ2 : Hid (W2.heap.size = w.heap.size + 3) := show _ = _ by rw [← hW2]; simp
  have HW2 : Hid (((w.alloc (.cells x 40)).alloc (.cells #[.int .u64 0, .int .u64 0, .int .u64 0, .int .u64 0, .int .u64 0, .int .u64 0, .int .u64 0, .int .u64 0] 113)).alloc (.cells #[.int .u64 0, .int .u64 0, .int .u64 0, .int .u64 0, .int .u64 0, .int .u64 0, .int .u64 0, .int .u64 0] 113) = W2) := show _ = _ from hW2
  have HBW : Hid (Below w.heap.size w w) := show Below _ _ _ from Below.refl _ _
  have HX := Lib.hid hx
  have HSZ := Lib.hid hsz
  have HGG := Lib.hid hg
  have HLD2 := Lib.hid (HX2.out.load (tt := 40) Tryz.underlying40 rfl (by rw [hsz]; kernel_rfl))
  have HLD1 : Hid ((Instr.loadAt 40 (.pointer (some ⟨w.heap.size, 0, none⟩))).run Tryz.prog (((w.alloc (.cells x 40)).alloc (.cells #[.int .u64 0, .int .u64 0, .int .u64 0, .int .u64 0, .int .u64 0, .int .u64 0, .int .u64 0, .int .u64 0] 113)).alloc (.cells #[.int .u64 0, .int .u64 0, .int .u64 0, .int .u64 0, .int .u64 0, .int .u64 0, .int .u64 0, .int .u64 0] 113)) = .ok (.agg x) (((w.alloc (.cells x 40)).alloc (.cells #[.int .u64 0, .int .u64 0, .int .u64 0, .int .u64 0, .int .u64 0, .int .u64 0, .int .u64 0, .int .u64 0] 113)).alloc (.cells #[.int .u64 0, .int .u64 0, .int .u64 0, .int .u64 0, .int .u64 0, .int .u64 0, .int .u64 0, .int .u64 0] 113))) := show _ = _ by rw [HW2.out]; exact HLD2.out
  clear hW2 hp hx hsz hg
  refine (callsIn_wide (n := 9)).1 ?_
  refine callsIn_of_wp_marks Tryz.func67 rfl trivial ?_ rfl
  simp only [Tryz.ntmps67, List.size_toArray, List.length_cons, List.length_nil, Nat.reduceAdd, Nat.reduceSub, Array.replicate_succ, Array.replicate_zero, List.push_toArray, List.append_toArray, List.nil_append, List.cons_append]
  gi_wp2_with fail
  refine wpIn_scope_forward 0 rfl ?_
  gi_wp2_with (refine wpListIn_load_eq rfl 40 _ rfl _ _ rfl HLD1.out ?_)
  rw [HW2.out]
  refine ⟨trivial, ?_⟩
  refine (callsIn_wide.2 (HMK.out W2 HB2.out)).mono ?_
  rintro e w3 ⟨rfl, hb3⟩
  have hz2 := HZ2.out
  have hz3 := hb3.size
  have HB3 : Hid (Below w.heap.size w w3) := show Below _ _ _ from HB2.out.trans (hb3.mono HB2.out.size)
  have HX3 : Hid (Blk w3 w.heap.size 40 x) := show Blk _ _ _ _ from HX2.out.below hb3 (by omega)
  have HM3 : Hid (Blk w3 (w.heap.size + 1) 113 (lnA zeros8)) := show Blk _ _ _ _ from HM2.out.below hb3 (by omega)
  have HR3 : Hid (Blk w3 (w.heap.size + 1 + 1) 113 (lnA zeros8)) := show Blk _ _ _ _ from HR2.out.below hb3 (by omega)
  have HZ3 := Lib.hid hz3
  clear hb3 HW2 HLD2 HLD1 hz3
  obtain ⟨o, ho⟩ : ∃ o, okAll ps x = o := ⟨_, rfl⟩
  have HO := Lib.hid ho
  have HPO : Hid (putOut ps x = if o then wrAll ps x zeros8 else zeros8) := show _ = _ by unfold putOut; rw [ho]
  have HPE : Hid (putErr ps x = if o then 0 else 2) := show _ = _ by unfold putErr; rw [ho]
  rw [ho]
  clear ho
  have HXX : ∀ {q : Nat → Prop} {W W' : World}, Turn q W W' → (∀ k, q k → w.heap.size ≤ k) → Below w.heap.size w W → Below w.heap.size w W' := fun ht hq hb => hb.trans (ht.below hq hb.size)
  cases o with
  | false =>
    obtain ⟨W4, hst, hb4, ht4⟩ := HM3.out.store (P := Tryz.prog) (tt := 113) (Y := lnA zeros8) (by kernel_rfl) rfl (lnA_one _)
    have hlv := hb4.loadVar (tt := 113) Tryz.underlying113 rfl (by kernel_rfl)
    have HST : Hid ((Instr.storeAt 113 (.pointer (some ⟨w.heap.size + 1, 0, none⟩)) (.agg #[.int .u64 0, .int .u64 0, .int .u64 0, .int .u64 0, .int .u64 0, .int .u64 0, .int .u64 0, .int .u64 0])).run Tryz.prog w3 = .ok () W4) := show _ = _ from hst
    have HT4 := Lib.hid ht4
    have HLV := Lib.hid hlv
    clear hst hb4 ht4 hlv
    gi_wp2_with fail
    refine wpIn_goto ?_
    refine ⟨rfl, ?_⟩
    gi_wp2_with (first | (refine wpIn_label ?_) | (refine wpListIn_store_eq rfl 113 _ _ rfl _ _ rfl rfl HST.out ?_))
    rw [Exit.jump_ret]
    refine ⟨.tuple #[.agg (lnA zeros8), .int .i64 2], results_cell_tmp rfl rfl HLV.out rfl, by rw [HPO.out, HPE.out]; rfl, ?_⟩
    exact HXX HT4.out (fun k h => by omega) HB3.out
  | true =>
    gi_wp2_with fail
    refine ⟨trivial, ?_⟩
    refine (callsIn_wide.2 (HPT.out w3)).mono ?_
    rintro e w1 ⟨rfl, hw1⟩
    have hb1 : Below w3.heap.size w3 w1 := by rw [hw1]; exact (Below.refl _ _).alloc (Nat.le_refl _) _
    have hz1 : w1.heap.size = w3.heap.size + 1 := by rw [hw1, World.size_alloc]
    have HB1 : Hid (Below w.heap.size w w1) := show Below _ _ _ from HB3.out.trans (hb1.mono HB3.out.size)
    have hz3 := HZ3.out
    have hx1 := HX3.out.below hb1 (by omega)
    have hm1 := HM3.out.below hb1 (by omega)
    have hr1 := HR3.out.below hb1 (by omega)
    have hs1 : Boxed w1 w3.heap.size 76 (.slice (some ⟨g, 0, none⟩) N c) := by rw [hw1]; exact Boxed.new _ _ _
    have HSQ := Lib.hid ((HVE.out w1 w3.heap.size HB1.out hs1).seqF)
    have HI0 : Hid (PutIT w x w.heap.size (w.heap.size + 1 + 1) (w.heap.size + 1) [] (fun _ => False) w1) := show PutIT _ _ _ _ _ _ _ _ from ⟨⟨hx1, id⟩, ⟨hr1, id⟩, ⟨hm1, id⟩, ⟨HB1.out, HB1.out.size, fun _ h => h.elim⟩⟩
    have HZ1 := Lib.hid hz1
    clear hs1 hm1 hx1 hr1 hb1 hw1 hz1 HVE
    gi_wp2_with fail
    generalize hA : ({ tmps := _, defers := _ } : Act) = A0
    refine wpIn_range_F (n := 9) (by decide) (gf := 134) (lb := #[.pointer (some ⟨w3.heap.size, 0, none⟩)]) (by rw [← hA]; rfl) (enters_of Tryz.func134 (by kernel_rfl) rfl) HSQ.out
      (fun k hk => by have := HZ1.out; have := HGG.out; rcases hk with rfl | rfl <;> omega) (Below.refl _ _) (fun _ => rfl)
      (PutIT w x w.heap.size (w.heap.size + 1 + 1) (w.heap.size + 1)) (fun _ _ _ _ => False) (abides_putT _ _ _ _ _) (fun _ _ _ _ _ _ h _ _ => h) HI0.out
      (PartAxT A0 150 14 7 · (w1.heap.size + 2))
      (fun p a' W o ⟨b, e, hb, h⟩ => ⟨b, e, hb, (World.putObj_heap_other (by omega)).trans h⟩)
      ?assign ?body ?done ?stop
    case assign =>
      rintro l2 p W3 K hsz3 hK
      subst hA
      unfold encPart
      dsimp only
      gi_wp2_with fail
      refine hK _ _ ⟨W3.heap.size, rfl, hsz3, Tri.new _ _ _ _ _⟩ ((Below.refl _ _).alloc (Nat.le_refl _) _)
    case body =>
      rintro l2 pre p a' q2 W3 ⟨⟨hbx, hqx⟩, ⟨hbl, hql⟩, ⟨hbr, hqr⟩, hB⟩ hs2 hqb hsp ⟨b, rfl, hb, ht⟩
      subst hA
      have hmem : p ∈ ps := hsp.subset (by simp)
      have hpt := HP.out W3 hB.1 p hmem
      obtain ⟨-, c1, -, -, -, -⟩ := ht.cells
      have hlb := ht.lt
      have hokp : p.S.ok x = true := by
        have h := HO.out
        unfold okAll at h
        exact (List.all_eq_true.1 h) p hmem
      have HLD := Lib.hid (hbx.load (tt := 40) Tryz.underlying40 rfl (by rw [HSZ.out]; kernel_rfl))
      have HMB := Lib.hid ((HP.out w HBW.out p hmem).write x (wrAll pre x zeros8) (w.heap.size + 1 + 1) W3 HX.out hokp (HLN.out pre ((List.prefix_append _ _).trans hsp) HO.out) hB.1 (by omega) hbl)
      have e0 : ∀ args W, (callFunc p.f1 args).run Tryz.prog W = .ok (.enter p.f1 args) W := hpt.e1
      have HWA : Hid (wrAll (pre ++ [p]) x zeros8 = p.S.wr x (wrAll pre x zeros8)) := show _ = _ by rw [wrAll_append]; rfl
      obtain ⟨F, hF⟩ : ∃ F, p.f1 = F := ⟨_, rfl⟩
      obtain ⟨L, hL⟩ : ∃ L, p.l1 = L := ⟨_, rfl⟩
      unfold PartV.v1 at c1
      rw [hF, hL] at c1
      rw [hF] at e0
      rw [hF, hL] at HMB
      have HBX := Lib.hid hbx
      have HQX := Lib.hid hqx
      have HBR := Lib.hid hbr
      have HQR := Lib.hid hqr
      have HQL := Lib.hid hql
      have HBB := Lib.hid hB
      have HQB := Lib.hid hqb
      clear hpt hmem ht hF hL hbx hqx hbl hql hbr hqr hB hqb hsp hokp
      gi_wp2_with (refine wpListIn_load_eq rfl 40 _ rfl _ _ rfl HLD.out ?_)
      refine ⟨trivial, (CallsIn.inRound l2 (callsIn_wide.2 HMB.out)).mono ?_⟩
      rintro e w5 ⟨⟨u, rfl⟩, hb5, ht5⟩
      have HB5 := Lib.hid hb5
      have HT5 := Lib.hid ht5
      clear hb5 ht5 c1 e0
      gi_wp2_with fail
      refine ⟨⟨HT5.out.size, fun k hk hl => HT5.out.block k hl (fun h => ?_)⟩, ?_⟩
      · have h3 := HZ3.out
        rcases hk with (h2 | h2) | h2
        · have h4 : w.heap.size + 1 + 1 = w3.heap.size := h.symm.trans h2
          omega
        · have h4 : w.heap.size + 1 + 1 = g := h.symm.trans h2
          have := HGG.out
          omega
        · exact HQL.out (by rwa [show k = w.heap.size + 1 + 1 from h] at h2)
      · refine ⟨⟨HBX.out.turn HT5.out (by omega), HQX.out⟩, ⟨by rw [HWA.out]; exact HB5.out, HQL.out⟩, ⟨HBR.out.turn HT5.out (by omega), HQR.out⟩, HXX HT5.out (fun k h => by omega) HBB.out.1, Nat.le_trans HBB.out.2.1 HT5.out.size, HBB.out.2.2⟩
    case done =>
      rintro D ys W3 hD rfl ⟨-, ⟨hbl, hql⟩, ⟨hbr, hqr⟩, hB⟩ hK'
      subst hA
      have HLD := Lib.hid (hbl.load (tt := 113) Tryz.underlying113 rfl (by rw [lnA_size, (HLN.out ys (List.prefix_refl _) HO.out).1]; kernel_rfl))
      obtain ⟨W4, hst, hb4, ht4⟩ := hbr.store (P := Tryz.prog) (tt := 113) (Y := lnA (wrAll ys x zeros8)) (by rw [lnA_size, (HLN.out ys (List.prefix_refl _) HO.out).1]; kernel_rfl) (by rw [lnA_size, lnA_size, (HLN.out ys (List.prefix_refl _) HO.out).1]; rfl) (lnA_one _)
      have hD4 : W4.heap[D]? = some (.deferred (some [])) := (ht4.block D (Array.getElem?_eq_some_iff.1 hK').1 (fun h => hqr h.symm)).trans hK'
      have HST := Lib.hid hst
      have HB4 := Lib.hid hb4
      have HT4 := Lib.hid ht4
      have HBB := Lib.hid hB
      have HDD := Lib.hid hD
      have HK := Lib.hid hD4
      clear hst hb4 ht4 hB hD hD4 hK' hbl hql hbr hqr
      gi_wp2_with (first | (refine wpListIn_load_eq rfl 113 _ rfl _ _ rfl HLD.out ?_) | (refine wpListIn_store_eq rfl 113 _ _ rfl _ _ rfl rfl HST.out ?_))
      rw [Exit.jump_ret]
      refine leaves_one (D := D) HK.out fun W' ht hc => ?_
      have hb5 : Blk W' (w.heap.size + 1) 113 (lnA (wrAll ys x zeros8)) := hc _ _ _ _ HB4.out
      have hlv := hb5.loadVar (tt := 113) Tryz.underlying113 rfl (by rw [lnA_size, (HLN.out ys (List.prefix_refl _) HO.out).1]; kernel_rfl)
      refine ⟨.tuple #[.agg (lnA (wrAll ys x zeros8)), .int .i64 0], results_cell_tmp rfl rfl hlv rfl, by rw [HPO.out, HPE.out]; rfl, ?_⟩
      have h1 := HXX HT4.out (fun k h => by omega) HBB.out.1
      exact h1.trans (ht.below (B := w.heap.size) (fun k h => by have := HDD.out; have := HB1.out.size; omega) h1.size)
    case stop =>
      rintro D cd pre W3 hD hpre h
      exact h.elim
end Go.Proofs.YtaebipopmefkpaaGreatDoor

/-
  node: what reading a line of api.Table does when it gives up, and when not. Written by gen_nd.py.
-/
namespace Go.Proofs.YtaebipopmefkpaaGreatDoor
open Go.RowKit Go.Shelf Go.Sort
attribute [local go_sem] Oper.semAt_some

def ndZeroT : Array Value := #[.int .i64 0, .int .i64 0, .int .i64 0, .int .i64 0, .int .i64 0, .int .i64 0, .int .i64 0]
set_option maxRecDepth 100000 in
set_option maxHeartbeats 4000000 in
theorem getD_ok_T (n : Nat) (X E : Nat) (w : World) : CallsDIn Fence.wide n Tryz.prog 65 #[.pointer (some ⟨X, 0, none⟩), .pointer (some ⟨E, 0, none⟩)] .returning w fun e u w' => e = .returned (.tuple #[]) ∧ u = .returning ∧ Below w.heap.size w w' := by
  refine callsDIn_of_wpSIn Tryz.func65 rfl trivial fun c₀ cs hu => ?_
  apply wpSIn_seq
  apply wpSIn_region
  have h1 := ta_nil
  simp [wpOpsSIn, go_sem, recoverD, hu, Tryz.ntmps65, Exit.thenS, h1]
  rw [show ∀ (u : Value), (#[.pointer (some ⟨X, 0, none⟩), .pointer (some ⟨E, 0, none⟩)] ++ (((((((Array.replicate 10 undef).setIfInBounds 4 Value.nilIface).setIfInBounds 5 (.tuple #[.agg #[], .bool false])).setIfInBounds 3 (.tuple #[.agg #[], .bool false])).setIfInBounds 6 (.agg #[])).setIfInBounds 7 (.bool false)).setIfInBounds 0 u).setIfInBounds 1 (.bool false) : Array Value) = #[.pointer (some ⟨X, 0, none⟩), .pointer (some ⟨E, 0, none⟩), u, .bool false, undef, .tuple #[.agg #[], .bool false], .nilIface, .tuple #[.agg #[], .bool false], .agg #[], .bool false, undef, undef] from fun u => rfl]
  refine wpSIn_of_wpIn rfl ?_
  gi_wp2_with fail
  cases c₀
  simp_all [bodyPostS, results, Tryz.results65]
  exact (Below.refl _ _).alloc (Nat.le_refl _) _
set_option maxRecDepth 100000 in
set_option maxHeartbeats 4000000 in
theorem getD_no_T (n : Nat) (X E : Nat) (x : Array Value) (hx : x.size = 7) (v : Value) (hXE : X ≠ E) (w : World) (hX : Blk w X 40 x) (hE : Boxed w E 26 v) :
    CallsDIn Fence.wide n Tryz.prog 65 #[.pointer (some ⟨X, 0, none⟩), .pointer (some ⟨E, 0, none⟩)] (.panicking noLine) w fun e u w' => e = .returned (.tuple #[]) ∧ u = .panicking [{ v := .iface 115 (.agg #[]), recovered := true }] ∧ Blk w' X 40 ndZeroT ∧ Boxed w' E 26 (.int .i64 180) ∧ Turn (fun k => k = X ∨ k = E) w w' := by
  have lX := hX.lt
  have lE := hE.lt
  have hb2 : Below w.heap.size w ((w.alloc (.cells #[] 115)).alloc (.cells ndZeroT 40)) := (by repeat (first | exact Below.refl _ _ | assumption | refine Below.drew ?_ | refine below_drewN ?_ _ | refine Below.alloc ?_ (by (try simp) <;> omega) _ | refine Below.setCell ?_ (by (try simp) <;> omega) _ | refine Below.trans ?_ (Below.mono (by assumption) (by (try simp) <;> omega))))
  have h2 : Blk ((w.alloc (.cells #[] 115)).alloc (.cells ndZeroT 40)) (w.heap.size + 1) 40 ndZeroT := by unfold Blk; (simp only [heap_at, World.size_alloc]; repeat (first | rw [if_pos (by omega)] | rw [if_neg (by omega)] | rw [if_pos trivial]))
  have HLD : Hid ((Instr.loadAt 40 (.pointer (some ⟨w.heap.size + 1, 0, none⟩))).run Tryz.prog ((w.alloc (.cells #[] 115)).alloc (.cells #[.int .i64 0, .int .i64 0, .int .i64 0, .int .i64 0, .int .i64 0, .int .i64 0, .int .i64 0] 40)) = .ok (.agg ndZeroT) ((w.alloc (.cells #[] 115)).alloc (.cells #[.int .i64 0, .int .i64 0, .int .i64 0, .int .i64 0, .int .i64 0, .int .i64 0, .int .i64 0] 40))) := show _ = _ from h2.load (tt := 40) Tryz.underlying40 rfl (by kernel_rfl)
  obtain ⟨W3, hst, hb3, ht3⟩ := (hX.below hb2 lX).store (P := Tryz.prog) (tt := 40) (Y := ndZeroT) (by kernel_rfl) (by rw [hx]; rfl) (by simp [ndZeroT, Value.oneCell'])
  have HST : Hid ((Instr.storeAt 40 (.pointer (some ⟨X, 0, none⟩)) (.agg ndZeroT)).run Tryz.prog ((w.alloc (.cells #[] 115)).alloc (.cells #[.int .i64 0, .int .i64 0, .int .i64 0, .int .i64 0, .int .i64 0, .int .i64 0, .int .i64 0] 40)) = .ok () W3) := show _ = _ from hst
  have hE3 : Boxed W3 E 26 v := (ht3.block E (by simp; omega) (fun h => hXE h.symm)).trans ((hb2.block E lE).trans hE)
  have cEr := hE3.cell
  have fEr := hE3.frozen
  have lE3 := hE3.lt
  have HB3 := Lib.hid hb3
  have HE3 := Lib.hid hE3
  have HT3 : Hid (Turn (fun k => k = X ∨ k = E) w W3) := show Turn _ _ _ from (Turn.of_below hb2 (Nat.le_refl _)).trans (ht3.mono fun k h => .inl h)
  clear hb2 h2 hst hb3 ht3 hE3 hX hE
  refine callsDIn_of_wpSIn Tryz.func65 rfl trivial fun c₀ cs hu => ?_
  apply wpSIn_seq
  apply wpSIn_region
  have h1 := ta_line
  unfold noLine at hu
  simp [wpOpsSIn, go_sem, recoverD, hu, Tryz.ntmps65, Exit.thenS, h1]
  rw [show ∀ (u : Value), (#[.pointer (some ⟨X, 0, none⟩), .pointer (some ⟨E, 0, none⟩)] ++ (((((((Array.replicate 10 undef).setIfInBounds 4 (.iface 115 (.agg #[]))).setIfInBounds 5 (.tuple #[.agg #[], .bool true])).setIfInBounds 3 (.tuple #[.agg #[], .bool true])).setIfInBounds 6 (.agg #[])).setIfInBounds 7 (.bool true)).setIfInBounds 0 u).setIfInBounds 1 (.bool true) : Array Value) = #[.pointer (some ⟨X, 0, none⟩), .pointer (some ⟨E, 0, none⟩), u, .bool true, undef, .tuple #[.agg #[], .bool true], .iface 115 (.agg #[]), .tuple #[.agg #[], .bool true], .agg #[], .bool true, undef, undef] from fun u => rfl]
  refine wpSIn_of_wpIn rfl ?_
  gi_wp2_with (first | (refine wpListIn_load_eq rfl 40 _ rfl _ _ rfl HLD.out ?_) | (refine wpListIn_store_eq rfl 40 _ _ rfl _ _ rfl rfl HST.out ?_))
  cases c₀
  simp only [bodyPostS, true_and]
  refine ⟨_, rfl, .tuple #[], by simp [results, Tryz.results65], rfl, rfl, HB3.out.setOther _ hXE, HE3.out.set _, HT3.out.trans (Turn.setCell _ _ (.inr rfl))⟩
end Go.Proofs.YtaebipopmefkpaaGreatDoor

/-
  node: what a line of api.Table is. Written by gen_nd.py.
-/
namespace Go.Proofs.YtaebipopmefkpaaGreatDoor
open Go.RowKit Go.Shelf Go.Sort
attribute [local go_sem] Oper.semAt_some

/-- In the rounds of get. -/
def GetIT (w : World) (l : List Int) (B X E : Nat) (pre : List PartV) (q : Nat → Prop) (W : World) : Prop :=
  (Blk W B 113 (lnA l) ∧ ¬ q B) ∧ (Blk W X 40 ((rdAll l pre ndZeroT).getD ndZeroT) ∧ ¬ q X) ∧ BoxF E 26 (.int .i64 0) q W ∧ BelowF w.heap.size w q W ∧ (rdAll l pre ndZeroT).isSome = true
theorem abides_getT (w : World) (l : List Int) (B X E : Nat) : Abides (GetIT w l B X E) := Abides.and (abides_blkF _ _ _) (Abides.and (abides_blkF X 40 (fun pre => (rdAll l pre ndZeroT).getD ndZeroT)) (Abides.and (Abides.box _ _ (fun _ => .int .i64 0)) (Abides.and (Abides.below _ _) (Abides.pure (fun pre : List PartV => (rdAll l pre ndZeroT).isSome = true)))))
/-- Where one gives up. -/
def GetPT (w : World) (l : List Int) (X E : Nat) (ch : List PanicEntry) (pre : List PartV) (q : Nat → Prop) (W : World) : Prop :=
  (Blk W X 40 ((rdAll l pre.dropLast ndZeroT).getD ndZeroT) ∧ ¬ q X) ∧ BoxF E 26 (.int .i64 0) q W ∧ BelowF w.heap.size w q W ∧ (ch = noLine ∧ rdAll l pre ndZeroT = none ∧ (rdAll l pre.dropLast ndZeroT).isSome = true)
theorem abides_getPT (w : World) (l : List Int) (X E : Nat) (ch : List PanicEntry) : Abides (GetPT w l X E ch) := Abides.and (abides_blkF X 40 (fun pre : List PartV => (rdAll l pre.dropLast ndZeroT).getD ndZeroT)) (Abides.and (Abides.box _ _ (fun _ => .int .i64 0)) (Abides.and (Abides.below _ _) (Abides.pure (fun pre : List PartV => ch = noLine ∧ rdAll l pre ndZeroT = none ∧ (rdAll l pre.dropLast ndZeroT).isSome = true))))
/-- It gives up. -/
theorem leaves_noT (w : World) {X E D : Nat} {x : Array Value} (hx : x.size = 7) {tmps : Array Value} (hX4 : tmps.getD 4 undef = .pointer (some ⟨X, 0, none⟩)) (hE5 : tmps.getD 5 undef = .pointer (some ⟨E, 0, none⟩)) (hXE : X ≠ E) (W : World) (hbx : Blk W X 40 x) (hbe : Boxed W E 26 (.int .i64 0)) (hD : W.heap[D]? = some (.deferred (some [])))
    (hDX : D ≠ X) (hDE : D ≠ E) (hwX : w.heap.size ≤ X) (hwE : w.heap.size ≤ E) (hwD : w.heap.size ≤ D) (hB : Below w.heap.size w W) :
    LeavesInM Fence.wide 9 Tryz.prog Tryz.f23 tmps (fun e w' => e = .returned (.tuple #[.agg ndZeroT, .int .i64 180]) ∧ Below w.heap.size w w') [{ target := .collected D, args := #[] }, { target := .fn (.func 65) #[.pointer (some ⟨X, 0, none⟩), .pointer (some ⟨E, 0, none⟩)], args := #[] }] (.panicking noLine) W := by
  refine leaves_mark (by simp) hD fun W' ht => ?_
  refine leaves_closure (by simp) (enters_of Tryz.func65 (by kernel_rfl) rfl) ?_
  obtain ⟨hF, h⟩ := getD_no_T 8 X E x hx (.int .i64 0) hXE W' (hbx.turn ht (fun h => hDX h.symm)) ((ht.block E hbe.lt (fun h => hDE h.symm)).trans hbe)
  refine ⟨hF, fun c cs hc hr => ?_⟩
  obtain ⟨e, u', w', fr, ⟨rfl, rfl, h1, h2, h3⟩, h4⟩ := h c cs hc hr
  refine ⟨_, _, w', fr, ?_, h4⟩
  show LeavesInM Fence.wide 9 Tryz.prog Tryz.f23 tmps _ [] (settle (.panicking [{ v := .iface 115 (.agg #[]), recovered := true }])) w'
  exact ⟨_, results_cell_cell (fn := Tryz.f23) rfl hX4 (h1.loadVar (tt := 40) Tryz.underlying40 rfl (by kernel_rfl)) hE5 (loadErr h2), rfl, (hB.trans (ht.below (B := w.heap.size) (fun k h => by omega) hB.size)).trans (h3.below (B := w.heap.size) (fun k h => by omega) (Nat.le_trans hB.size ht.size))⟩
set_option maxRecDepth 100000 in
set_option maxHeartbeats 4000000 in
theorem getK_T {Good : Array Value → Prop} {v : Value} {ps : List PartV} (l : List Int) (hl8 : Line8 l) (hGz : Good ndZeroT) (hGs : ∀ x, Good x → x.size = 7 ∧ x.all (·.oneCell') = true) (w : World) (hk : KindAtT w v ps) (hp : ∀ p ∈ ps, NdPart Good 40 w p) :
    Calls Tryz.prog 23 #[v, .agg (lnA l)] w fun e w' => e = .returned (.tuple #[.agg ((getM ps l ndZeroT).getD ndZeroT), .int .i64 (getErr (getM ps l ndZeroT))]) ∧ Below w.heap.size w w' := by
  have HPK := Lib.hid (fun (y : Array Value) (hy : Good y) (W : World) (hb : Below w.heap.size w W) => putK_T y hy (hGs y hy).1 W (hk.below hb) (fun p hm => (hp p hm).below hb))
  obtain ⟨⟨g, c, rfl, hg, hc⟩, hl⟩ := hk
  have HVE := Lib.hid (fun (W : World) (p : Nat) (hb : Below w.heap.size w W) (hbx : Boxed W p 76 (.slice (some ⟨g, 0, none⟩) ps.length c)) => valuesE_T 8 (by decide) (p := p) W hbx (Nat.lt_of_lt_of_le hg hb.size) (fun k hk => by
    obtain ⟨h1, h2, h3⟩ := hc k hk
    exact ⟨(hb.cell (p := ⟨g, k * 3, none⟩) hg).trans h1, (hb.cell (p := ⟨g, k * 3 + 1, none⟩) hg).trans h2, (hb.cell (p := ⟨g, k * 3 + 2, none⟩) hg).trans h3⟩) hl)
  clear hc hl
  obtain ⟨N, hN⟩ : ∃ N, ps.length = N := ⟨_, rfl⟩
  have HPT := Lib.hid (parts_T (some ⟨g, 0, none⟩) N c)
  rw [hN] at HVE HPK
  rw [hN]
  clear hN
  have HP := Lib.hid hp
  have HGD := Lib.hid (fun pre (hpre : pre <+: ps) (y : Array Value) (hy : rdAll l pre ndZeroT = some y) => show Good y from rdAll_good hl8 pre ndZeroT y (fun p hm => hp p (hpre.subset hm)) hGz hy)
  obtain ⟨W3, hW3⟩ : ∃ W3, ((w.alloc (.cells (lnA l) 113)).alloc (.cells ndZeroT 40)).alloc (.cells #[.int .i64 0] 26) = W3 := ⟨_, rfl⟩
  have HB3 : Hid (Below w.heap.size w W3) := show Below _ _ _ by rw [← hW3]; exact (by repeat (first | exact Below.refl _ _ | assumption | refine Below.drew ?_ | refine below_drewN ?_ _ | refine Below.alloc ?_ (by (try simp) <;> omega) _ | refine Below.setCell ?_ (by (try simp) <;> omega) _ | refine Below.trans ?_ (Below.mono (by assumption) (by (try simp) <;> omega))))
  have HL3 : Hid (Blk W3 w.heap.size 113 (lnA l)) := show Blk _ _ _ _ by unfold Blk; rw [← hW3]; (simp only [heap_at, World.size_alloc]; repeat (first | rw [if_pos (by omega)] | rw [if_neg (by omega)] | rw [if_pos trivial]))
  have HX3 : Hid (Blk W3 (w.heap.size + 1) 40 ndZeroT) := show Blk _ _ _ _ by unfold Blk; rw [← hW3]; (simp only [heap_at, World.size_alloc]; repeat (first | rw [if_pos (by omega)] | rw [if_neg (by omega)] | rw [if_pos trivial]))
  have HE3 : Hid (Boxed W3 (w.heap.size + 1 + 1) 26 (.int .i64 0)) := show Boxed _ _ _ _ by unfold Boxed; rw [← hW3]; (simp only [heap_at, World.size_alloc]; repeat (first | rw [if_pos (by omega)] | rw [if_neg (by omega)] | rw [if_pos trivial]))
  have HZ3 : Hid (W3.heap.size = w.heap.size + 3) := show _ = _ by rw [← hW3]; simp
  have HW3 : Hid (((w.alloc (.cells (lnA l) 113)).alloc (.cells #[.int .i64 0, .int .i64 0, .int .i64 0, .int .i64 0, .int .i64 0, .int .i64 0, .int .i64 0] 40)).alloc (.cells #[.int .i64 0] 26) = W3) := show _ = _ from hW3
  have HGG := Lib.hid hg
  have HL8 := Lib.hid hl8
  have HGS := Lib.hid hGs
  have HGZ := Lib.hid hGz
  clear hW3 hp hg hl8 hGs hGz
  have HXX : ∀ {q : Nat → Prop} {W W' : World}, Turn q W W' → (∀ k, q k → w.heap.size ≤ k) → Below w.heap.size w W → Below w.heap.size w W' := fun ht hq hb => hb.trans (ht.below hq hb.size)
  refine (callsIn_wide (n := 9)).1 ?_
  refine callsIn_of_wpAt Tryz.func23 rfl ?_
  simp only [Tryz.ntmps23, List.size_toArray, List.length_cons, List.length_nil, Nat.reduceAdd, Nat.reduceSub, Array.replicate_succ, Array.replicate_zero, List.push_toArray, List.append_toArray, List.nil_append, List.cons_append]
  refine wpAt_seq (wpAt_of_wpIn ?_)
  gi_wp2_with fail
  rw [HW3.out]
  refine wpAt_seq (wpAt_of_wpIn ?_)
  gi_wp2_with fail
  refine wpAt_seq (wpAt_seq (wpAt_of_wpIn ?_))
  gi_wp2_with fail
  refine ⟨trivial, ?_⟩
  refine (callsIn_wide.2 (HPT.out W3)).mono ?_
  rintro e w1 ⟨rfl, hw1⟩
  have hz3 := HZ3.out
  have hb1 : Below W3.heap.size W3 w1 := by rw [hw1]; exact (Below.refl _ _).alloc (Nat.le_refl _) _
  have hz1 : w1.heap.size = w.heap.size + 4 := by rw [hw1, World.size_alloc]; omega
  have HB1 : Hid (Below w.heap.size w w1) := show Below _ _ _ from HB3.out.trans (hb1.mono HB3.out.size)
  have hx1 := HX3.out.below hb1 (by omega)
  have hl1 := HL3.out.below hb1 (by omega)
  have he1 : Boxed w1 (w.heap.size + 1 + 1) 26 (.int .i64 0) := (hb1.block _ (by omega)).trans HE3.out
  have hs1 : Boxed w1 (w.heap.size + 3) 76 (.slice (some ⟨g, 0, none⟩) N c) := by rw [hw1, ← hz3]; exact Boxed.new _ _ _
  have HSQ := Lib.hid (HVE.out w1 (w.heap.size + 3) HB1.out hs1)
  have HI0 : Hid (GetIT w l w.heap.size (w.heap.size + 1) (w.heap.size + 1 + 1) [] (fun _ => False) w1) := show GetIT _ _ _ _ _ _ _ _ from ⟨⟨hl1, id⟩, ⟨hx1, id⟩, ⟨he1, id⟩, ⟨HB1.out, HB1.out.size, fun _ h => h.elim⟩, rfl⟩
  have HZ1 := Lib.hid hz1
  clear hs1 hx1 hl1 he1 hb1 hw1 hz1 HVE
  gi_wp2_with fail
  refine wpAt_block ?_
  generalize hA : ({ tmps := _, defers := _ } : Act) = A0
  refine wpAt_range_E (n := 9) (fd := Tryz.f23) Tryz.func23 (gf := 134) (lb := #[.pointer (some ⟨w.heap.size + 3, 0, none⟩)]) (by rw [← hA]; rfl) (enters_of Tryz.func134 (by kernel_rfl) rfl) HSQ.out
    (fun k hk => by have := HZ1.out; have := HGG.out; rcases hk with rfl | rfl <;> omega) (Below.refl _ _) (fun _ => rfl)
    (GetIT w l w.heap.size (w.heap.size + 1) (w.heap.size + 1 + 1)) (fun _ _ _ _ => False) (GetPT w l (w.heap.size + 1) (w.heap.size + 1 + 1)) (abides_getT _ _ _ _ _) (fun _ _ _ _ _ _ h _ _ => h) (abides_getPT _ _ _ _) HI0.out
    (PartAxT A0 150 12 6 · (w1.heap.size + 2))
    (fun p a' W o ⟨b, e, hb, h⟩ => ⟨b, e, hb, (World.putObj_heap_other (by omega)).trans h⟩)
    ?assign ?body ?done ?stop ?panic
  case assign =>
    rintro l2 p W4 K hsz3 hK
    subst hA
    unfold encPart
    dsimp only
    gi_wp2_with fail
    refine hK _ _ ⟨W4.heap.size, rfl, hsz3, Tri.new _ _ _ _ _⟩ ((Below.refl _ _).alloc (Nat.le_refl _) _)
  case body =>
    rintro l2 pre p a' q2 W4 ⟨⟨hbl, hql⟩, ⟨hbx, hqx⟩, ⟨hbe, hqe⟩, hB, hok⟩ hs2 hqb hsp ⟨b, rfl, hb, ht⟩
    subst hA
    have hmem : p ∈ ps := hsp.subset (by simp)
    have hpt := HP.out p hmem
    obtain ⟨-, -, c2, -, -, -⟩ := ht.cells
    have hlb := ht.lt
    obtain ⟨y, hy⟩ := Option.isSome_iff_exists.1 hok
    rw [hy, Option.getD_some] at hbx
    have hgy := HGD.out pre ((List.prefix_append _ _).trans hsp) y hy
    have HLD := Lib.hid (hbl.load (tt := 113) Tryz.underlying113 rfl (by rw [lnA_size, HL8.out.1]; kernel_rfl))
    have HMB := Lib.hid (hpt.read y l (w.heap.size + 1) W4 hgy HL8.out hB.1 (by omega) hbx)
    have e0 : ∀ args W, (callFunc p.f2 args).run Tryz.prog W = .ok (.enter p.f2 args) W := hpt.e2
    have HRD : Hid (rdAll l (pre ++ [p]) ndZeroT = p.S.rd l y) := show _ = _ by
      rw [rdAll_append, hy, Option.bind_some, rdAll]
      cases p.S.rd l y <;> rfl
    have HRP : Hid (rdAll l (pre ++ [p]).dropLast ndZeroT = some y) := show _ = _ by rw [List.dropLast_concat, hy]
    obtain ⟨F, hF⟩ : ∃ F, p.f2 = F := ⟨_, rfl⟩
    obtain ⟨L, hL⟩ : ∃ L, p.l2 = L := ⟨_, rfl⟩
    unfold PartV.v2 at c2
    rw [hF, hL] at c2
    rw [hF] at e0
    rw [hF, hL] at HMB
    have HBL := Lib.hid hbl
    have HQL := Lib.hid hql
    have HBE := Lib.hid hbe
    have HQE := Lib.hid hqe
    have HQX := Lib.hid hqx
    have HBB := Lib.hid hB
    have HQB := Lib.hid hqb
    have HKK : ∀ w5, Turn (fun k => k = w.heap.size + 1) W4 w5 → Keeps (fun k => ndOwnT (w.heap.size + 3) g k ∨ q2 k) W4 w5 := fun w5 ht5 => ⟨ht5.size, fun k hk hl => ht5.block k hl (fun h => by
      rcases hk with (h2 | h2) | h2
      · have h4 : w.heap.size + 1 = w.heap.size + 3 := h.symm.trans h2
        omega
      · have h4 : w.heap.size + 1 = g := h.symm.trans h2
        have := HGG.out
        omega
      · exact HQX.out (by rwa [show k = w.heap.size + 1 from h] at h2))⟩
    have HKH := Lib.hid HKK
    clear hpt hmem ht hF hL hbx hqx hbl hql hbe hqe hB hqb hsp hok hy hgy HKK
    gi_wp2_with (refine wpListIn_load_eq rfl 113 _ rfl _ _ rfl HLD.out ?_)
    refine ⟨trivial, (CallsIn.inRound l2 (callsIn_wide.2 HMB.out)).mono ?_⟩
    rintro e w5 ⟨ht5, ⟨u, y2, rfl, hrd, hb5⟩ | ⟨rfl, hrd, hb5⟩⟩
    · have HT5 := Lib.hid ht5
      have HB5 := Lib.hid hb5
      have HR5 := Lib.hid hrd
      clear ht5 hb5 hrd c2 e0
      gi_wp2_with fail
      refine ⟨HKH.out w5 HT5.out, ⟨HBL.out.turn HT5.out (by omega), HQL.out⟩, ⟨by rw [HRD.out, HR5.out]; exact HB5.out, HQX.out⟩, ⟨(HT5.out.block _ HBE.out.lt (by omega)).trans HBE.out, HQE.out⟩, ⟨HXX HT5.out (fun k h => by omega) HBB.out.1, Nat.le_trans HBB.out.2.1 HT5.out.size, HBB.out.2.2⟩, by rw [HRD.out, HR5.out]; rfl⟩
    · have HT5 := Lib.hid ht5
      have HB5 := Lib.hid hb5
      have HR5 := Lib.hid hrd
      clear ht5 hb5 hrd c2 e0
      gi_wp2_with fail
      refine ⟨rfl, ⟨⟨by rw [HRP.out]; exact HB5.out, HQX.out⟩, ⟨(HT5.out.block _ HBE.out.lt (by omega)).trans HBE.out, HQE.out⟩, ⟨HXX HT5.out (fun k h => by omega) HBB.out.1, Nat.le_trans HBB.out.2.1 HT5.out.size, HBB.out.2.2⟩, rfl, by rw [HRD.out, HR5.out], by rw [HRP.out]; rfl⟩, HKH.out w5 HT5.out⟩
  case done =>
    rintro D ys W4 hD rfl ⟨⟨hbl, hql⟩, ⟨hbx, hqx⟩, ⟨hbe, hqe⟩, hB, hok⟩ hK'
    subst hA
    obtain ⟨y, hy⟩ := Option.isSome_iff_exists.1 hok
    rw [hy, Option.getD_some] at hbx
    have hgy := HGD.out ys (List.prefix_refl _) y hy
    have hgm : getM ys l ndZeroT = if okAll ys y = true ∧ putOut ys y = l then some y else none := by unfold getM; rw [hy]; rfl
    have HGM := Lib.hid hgm
    have HLD := Lib.hid (hbx.load (tt := 40) Tryz.underlying40 rfl (by rw [(HGS.out y hgy).1]; kernel_rfl))
    have HPW := Lib.hid (HPK.out y hgy W4 hB.1)
    have HO8 := Lib.hid (putOut_len hgy ys HP.out)
    obtain ⟨O, hO⟩ : ∃ O, putOut ys y = O := ⟨_, rfl⟩
    rw [hO] at HPW HO8 HGM
    obtain ⟨o, ho⟩ : ∃ o, okAll ys y = o := ⟨_, rfl⟩
    have hpe : putErr ys y = if o then 0 else 2 := by unfold putErr; rw [ho]
    rw [hpe] at HPW
    rw [ho] at HGM
    have HBX := Lib.hid hbx
    have HQX := Lib.hid hqx
    have HBL := Lib.hid hbl
    have HBE := Lib.hid hbe
    have HQE := Lib.hid hqe
    have HBB := Lib.hid hB
    have HDK := Lib.hid hK'
    have HDD := Lib.hid hD
    have HGY := Lib.hid hgy
    clear hbl hql hbx hqx hbe hqe hB hok hK' hD hgm hO hpe ho hgy hy
    refine (wpAt_of_wpIn ?_ : wpAt _ _ _ _ _ _ _)
    gi_wp2_with (refine wpListIn_load_eq rfl 40 _ rfl _ _ rfl HLD.out ?_)
    refine ⟨trivial, ?_⟩
    refine (callsIn_wide.2 HPW.out).mono ?_
    rintro e w6 ⟨rfl, hb6⟩
    have hD6 : w6.heap[D]? = some (.deferred (some [])) := (hb6.block D (Array.getElem?_eq_some_iff.1 HDK.out).1).trans HDK.out
    have hx6 := HBX.out.below hb6 HBX.out.lt
    have hl6 := HBL.out.below hb6 HBL.out.lt
    have he6 : Boxed w6 (w.heap.size + 1 + 1) 26 (.int .i64 0) := (hb6.block _ HBE.out.lt).trans HBE.out
    have hB6 : Below w.heap.size w w6 := HBB.out.1.trans (hb6.mono HBB.out.1.size)
    obtain ⟨W7, hW7⟩ : ∃ W7, w6.alloc (.cells (lnA O) 113) = W7 := ⟨_, rfl⟩
    have hb7 : Below w6.heap.size w6 W7 := by rw [← hW7]; exact (Below.refl _ _).alloc (Nat.le_refl _) _
    have HO7 : Hid (Blk W7 w6.heap.size 113 (lnA O)) := show Blk _ _ _ _ by rw [← hW7]; exact Blk.new _ _ _
    have HX7 : Hid (Blk W7 (w.heap.size + 1) 40 y) := show Blk _ _ _ _ from hx6.below hb7 hx6.lt
    have HL7 : Hid (Blk W7 w.heap.size 113 (lnA l)) := show Blk _ _ _ _ from hl6.below hb7 hl6.lt
    have HE7 : Hid (Boxed W7 (w.heap.size + 1 + 1) 26 (.int .i64 0)) := show Boxed _ _ _ _ from (hb7.block _ he6.lt).trans he6
    have HD7 : Hid (W7.heap[D]? = some (.deferred (some []))) := show _ = _ from (hb7.block D (Array.getElem?_eq_some_iff.1 hD6).1).trans hD6
    have HB7 : Hid (Below w.heap.size w W7) := show Below _ _ _ from hB6.trans (hb7.mono hB6.size)
    have HST : Hid ((Instr.storeAt 113 (.pointer (some ⟨w6.heap.size, 0, none⟩)) (.agg (lnA O))).run Tryz.prog (w6.alloc (.cells #[.int .u64 0, .int .u64 0, .int .u64 0, .int .u64 0, .int .u64 0, .int .u64 0, .int .u64 0, .int .u64 0] 113)) = .ok () W7) := show _ = _ by
      rw [← hW7]
      exact run_storeAt_new w6 113 _ (lnA O) (by rw [lnA_size, HO8.out.1]; kernel_rfl) (by rw [lnA_size, HO8.out.1]; rfl) (lnA_one _)
    have HLO := Lib.hid (HO7.out.load (tt := 113) Tryz.underlying113 rfl (by rw [lnA_size, HO8.out.1]; kernel_rfl))
    have HLL := Lib.hid (HL7.out.load (tt := 113) Tryz.underlying113 rfl (by rw [lnA_size, HL8.out.1]; kernel_rfl))
    have heq : (Op.equalIn 10000 113 (.agg (lnA O)) (.agg (lnA l))).run Tryz.prog W7 = .ok (O == l) W7 := eql_line Tryz.underlying113 O l HO8.out.1 HL8.out.1 W7
    have HNO := Lib.hid (fun tmps h4 h5 => leaves_noT w (tmps := tmps) (X := w.heap.size + 1) (E := w.heap.size + 1 + 1) (D := D) (HGS.out y HGY.out).1 h4 h5 (by omega) W7 HX7.out HE7.out HD7.out (fun h => HQX.out h.symm) (fun h => HQE.out h.symm) (by omega) (by omega) (by have := HDD.out; have := HZ1.out; omega) HB7.out)
    clear hW7 hb7 hb6 hD6 hx6 hl6 he6 hB6
    have HMU := Lib.hid (fun b => mustBe_any b W7)
    cases o with
    | false =>
      gi_wp2_with (refine wpListIn_store_eq rfl 113 _ _ rfl _ _ rfl rfl HST.out ?_)
      refine ⟨trivial, ?_⟩
      refine (callsIn_wide.2 (HMU.out false)).mono ?_
      rintro e w8 (⟨h, -, -⟩ | ⟨-, rfl, rfl⟩)
      · cases h
      gi_wp2_with fail
      show LeavesInM _ _ _ _ _ _ _ _ _
      rw [HGM.out, if_neg (by rintro ⟨h, -⟩; cases h)]
      exact HNO.out _ rfl rfl
    | true =>
      obtain ⟨o2, ho2⟩ : ∃ o2, (O == l) = o2 := ⟨_, rfl⟩
      rw [ho2] at heq
      cases o2 with
      | false =>
        have hne : ¬ O = l := by simpa using ho2
        have HNE := Lib.hid hne
        clear ho2 hne
        gi_wp2_with (first | (refine wpListIn_store_eq rfl 113 _ _ rfl _ _ rfl rfl HST.out ?_) | (refine wpListIn_load_eqW (by rfl) 113 _ rfl _ _ rfl HLO.out ?_) | (refine wpListIn_load_eqW (by rfl) 113 _ rfl _ _ rfl HLL.out ?_))
        refine ⟨trivial, ?_⟩
        refine (callsIn_wide.2 (HMU.out false)).mono ?_
        rintro e w8 (⟨h, -, -⟩ | ⟨-, rfl, rfl⟩)
        · cases h
        gi_wp2_with fail
        show LeavesInM _ _ _ _ _ _ _ _ _
        rw [HGM.out, if_neg (by rintro ⟨-, h⟩; exact HNE.out h)]
        exact HNO.out _ rfl rfl
      | true =>
        have heq2 : O = l := by simpa using ho2
        have HEQ := Lib.hid heq2
        have hlx := HX7.out.load (tt := 40) Tryz.underlying40 rfl (by rw [(HGS.out y HGY.out).1]; kernel_rfl)
        obtain ⟨W9, hst, hb9, ht9⟩ := HX7.out.store (P := Tryz.prog) (tt := 40) (Y := y) (by rw [(HGS.out y HGY.out).1]; kernel_rfl) rfl (HGS.out y HGY.out).2
        have he9 : Boxed W9 (w.heap.size + 1 + 1) 26 (.int .i64 0) := (ht9.block _ HE7.out.lt (by omega)).trans HE7.out
        have hd9 : W9.heap[D]? = some (.deferred (some [])) := (ht9.block D (Array.getElem?_eq_some_iff.1 HD7.out).1 (fun h => HQX.out h.symm)).trans HD7.out
        have cEr := he9.cell
        have fEr := he9.frozen
        have lEr := he9.lt
        have HLX := Lib.hid hlx
        have HSX := Lib.hid hst
        have HB9 := Lib.hid hb9
        have HT9 := Lib.hid ht9
        have HE9 := Lib.hid he9
        have HD9 := Lib.hid hd9
        clear ho2 heq2 hlx hst hb9 ht9 he9 hd9
        gi_wp2_with (first | (refine wpListIn_store_eq rfl 113 _ _ rfl _ _ rfl rfl HST.out ?_) | (refine wpListIn_load_eqW (by rfl) 113 _ rfl _ _ rfl HLO.out ?_) | (refine wpListIn_load_eqW (by rfl) 113 _ rfl _ _ rfl HLL.out ?_))
        refine ⟨trivial, ?_⟩
        refine (callsIn_wide.2 (HMU.out true)).mono ?_
        rintro e w8 (⟨-, ⟨u, rfl⟩, rfl⟩ | ⟨h, -, -⟩)
        · gi_wp2_with (first | (refine wpListIn_load_eq rfl 40 _ rfl _ _ rfl HLX.out ?_) | (refine wpListIn_store_eq rfl 40 _ _ rfl _ _ rfl rfl HSX.out ?_))
          have hb10 := HXX HT9.out (fun k h => by omega) HB7.out
          have hd10 : (W9.setCell ⟨w.heap.size + 1 + 1, 0, none⟩ (.int .i64 0)).heap[D]? = some (.deferred (some [])) := (Below.heap_setCell _ _ _ _ (fun h => HQE.out h.symm)).trans HD9.out
          refine leaves_mark (by simp) hd10 fun W10 ht10 => ?_
          refine leaves_closure (by simp) (enters_of Tryz.func65 (by kernel_rfl) rfl) ?_
          obtain ⟨hF, h⟩ := getD_ok_T 8 (w.heap.size + 1) (w.heap.size + 1 + 1) W10
          refine ⟨hF, fun c cs hc hr => ?_⟩
          obtain ⟨e, u', w', fr, ⟨rfl, rfl, h1⟩, h4⟩ := h c cs hc hr
          refine ⟨_, _, w', fr, ?_, h4⟩
          show LeavesInM Fence.wide 9 Tryz.prog Tryz.f23 _ _ [] (settle .returning) w'
          have hx10 : Blk W10 (w.heap.size + 1) 40 y := (HB9.out.setOther _ (by omega)).turn ht10 (fun h => HQX.out h)
          have he10 : Boxed W10 (w.heap.size + 1 + 1) 26 (.int .i64 0) := (ht10.block _ (by simp [World.setCell]; exact HE9.out.lt) (fun h => HQE.out h)).trans (HE9.out.set _)
          have hx11 := hx10.below h1 hx10.lt
          have he11 : Boxed w' (w.heap.size + 1 + 1) 26 (.int .i64 0) := (h1.block _ he10.lt).trans he10
          refine ⟨_, results_cell_cell (fn := Tryz.f23) rfl rfl (hx11.loadVar (tt := 40) Tryz.underlying40 rfl (by rw [(HGS.out y HGY.out).1]; kernel_rfl)) rfl (loadErr he11), ?_, ?_⟩
          · rw [HGM.out, if_pos ⟨by first | rfl | trivial, HEQ.out⟩]; rfl
          · have hb11 := hb10.setCell (p := ⟨w.heap.size + 1 + 1, 0, none⟩) (show w.heap.size ≤ w.heap.size + 1 + 1 by omega) (.int .i64 0)
            have hb12 := hb11.trans (ht10.below (B := w.heap.size) (fun k h => by have := HDD.out; have := HZ1.out; omega) hb11.size)
            exact hb12.trans (h1.mono hb12.size)
        · cases h
  case stop =>
    rintro D cd pre W4 hD hpre h
    exact h.elim
  case panic =>
    rintro D ch pre W4 hD hpre ⟨⟨hbx, hqx⟩, ⟨hbe, hqe⟩, hB, rfl, hno, hok⟩ hK'
    subst hA
    have hN : rdAll l ps ndZeroT = none := by
      obtain ⟨r, rfl⟩ := hpre
      rw [rdAll_append, hno]; rfl
    obtain ⟨y, hy⟩ := Option.isSome_iff_exists.1 hok
    rw [hy, Option.getD_some] at hbx
    have hgy := HGD.out pre.dropLast ((List.dropLast_prefix pre).trans hpre) y hy
    have hgm : getM ps l ndZeroT = none := by unfold getM; rw [hN]; rfl
    show LeavesInM _ _ _ _ _ _ _ _ _
    rw [hgm]
    have hz1 := HZ1.out
    exact leaves_noT w (HGS.out y hgy).1 rfl rfl (by omega) W4 hbx hbe hK' (fun h => hqx h.symm) (fun h => hqe h.symm) (by omega) (by omega) (by omega) hB.1
end Go.Proofs.YtaebipopmefkpaaGreatDoor

/-
  node: what a table is.
-/
namespace Go.Proofs.YtaebipopmefkpaaGreatDoor
open Go.RowKit Go.Shelf Go.Sort
attribute [local go_sem] Oper.semAt_some

def tableSpecs : List NdS := (List.range 7).map fun k => numS k k 0 1023
theorem infoTP : (Tryz.prog.info? 150).map (fun i => (i.zero, i.size, i.bytes)) = some (some (.agg #[.nilFunc, .nilFunc, .nilFunc]), 3, 24) := by kernel_rfl
theorem partC_one (ps : List PartV) : ∀ u ∈ flatC partC ps, u.oneCell' = true := by
  intro u hu
  unfold flatC at hu
  rw [List.mem_flatMap] at hu
  obtain ⟨p, -, hp⟩ := hu
  simp only [partC, List.mem_cons, List.not_mem_nil, or_false] at hp
  rcases hp with rfl | rfl | rfl <;> rfl
/-- A part of a table, by its boxes. -/
def TabP (W : World) (k : Nat) (p : PartV) : Prop := ∃ n q, k < 7 ∧ p = numVT n k k 0 1023 ∧ Boxed W q 3 (.int .i64 (k : Nat)) ∧ NumBoxT W n k 63 64 #[.pointer (some ⟨q, 0, none⟩)]
theorem TabP.part {W : World} {k : Nat} {p : PartV} (h : TabP W k p) : NdPart (GoodI 7) 40 W p ∧ p.S = numS k k 0 1023 := by
  obtain ⟨n, q, hk, rfl, hq, hb⟩ := h
  exact ⟨numBox_partT (by omega) (goodI_num hk) W (field_head W hk hq) pointed_lies hb, rfl⟩
theorem TabP.keep {W W' : World} {k : Nat} {p : PartV} (h : TabP W k p) (hb : ∀ b t v, t = 3 ∨ t = 153 ∨ t = 110 → Boxed W b t v → Boxed W' b t v) : TabP W' k p := by
  obtain ⟨n, q, hk, hp, hq, h0, h1, h2⟩ := h
  exact ⟨n, q, hk, hp, hb _ _ _ (.inl rfl) hq, hb _ _ _ (.inl rfl) h0, hb _ _ _ (.inr (.inl rfl)) h1, hb _ _ _ (.inr (.inr rfl)) h2⟩
theorem TabP.below {W W' : World} {k : Nat} {p : PartV} (h : TabP W k p) (hb : Below W.heap.size W W') : TabP W' k p := h.keep fun _ _ _ _ hx => (hb.block _ hx.lt).trans hx
set_option maxRecDepth 100000 in
set_option maxHeartbeats 4000000 in
theorem tableLine_any (w : World) : Calls Tryz.prog 22 #[] w fun e w' => ∃ v ps, e = .returned v ∧ Below w.heap.size w w' ∧ KindAtT w' v ps ∧ (∀ p ∈ ps, NdPart (GoodI 7) 40 w' p) ∧ ps.map (·.S) = tableSpecs := by
  have HN := Lib.hid (fun (k : Nat) (W : World) (q : Nat) => numberedX_T k k 0 1023 63 64 #[.pointer (some ⟨q, 0, none⟩)] W)
  obtain ⟨i0, hi, hz0, hz1, hz2⟩ := nd_info infoTP
  have HI := Lib.hid hi
  clear hi
  go_enter Tryz.func22, Tryz.ntmps22
  go_wp2_with fail
  go_loopw [1, 3] (fun vv ii wr => ∃ (k : Nat) (q : Value) (ps : List PartV), q = vv ∧ k ≤ 7 ∧ ii = .int .i64 (k : Nat) ∧ ps.length = k ∧ Hid (wr.ownsRow w.heap.size 150 3 q k (flatC partC ps)) ∧ Hid (∀ j (hj : j < ps.length), TabP wr j ps[j]) ∧ Hid (Below w.heap.size w wr)) (fun _ i _ => 7 - (intOf i).toNat)
  case atStart => exact ⟨0, _, [], rfl, by omega, rfl, rfl, (show World.ownsRow _ _ _ _ _ _ _ from World.ownsRow_nil _ _ _ _), (show ∀ j (hj : j < 0), _ from fun j h => by omega), (show Below _ _ _ from Below.refl _ _)⟩
  case round =>
    obtain ⟨k, q, ps, rfl, hk, rfl, hlen, HG, HP, HB⟩ := hrel
    obtain ⟨qa, qc, rfl⟩ := laOwn_slice HG.out
    have HLEN := Lib.hid hlen
    clear hlen
    by_cases hlt : k < 7
    · obtain ⟨W1, hW1⟩ : ∃ W1, wr.alloc (.cells #[.int .i64 (k : Nat)] 3) = W1 := ⟨_, rfl⟩
      have hb1 : Below wr.heap.size wr W1 := by rw [← hW1]; exact (by repeat (first | exact Below.refl _ _ | assumption | refine Below.drew ?_ | refine below_drewN ?_ _ | refine Below.alloc ?_ (by (try simp) <;> omega) _ | refine Below.setCell ?_ (by (try simp) <;> omega) _ | refine Below.trans ?_ (Below.mono (by assumption) (by (try simp) <;> omega))))
      have HQ1 : Hid (Boxed W1 wr.heap.size 3 (.int .i64 (k : Nat))) := show Boxed _ _ _ _ by rw [← hW1]; exact Boxed.new _ _ _
      have HB1 := Lib.hid hb1
      have HW1 := Lib.hid hW1
      have k2 : (k : Int) < 7 := by omega
      clear hb1 hW1
      go_wp2_with fail
      rw [HW1.out]
      refine (HN.out k W1 wr.heap.size).mono ?_
      rintro e w2 ⟨rfl, hb2, hx2⟩
      have hb12 := HB1.out.trans (hb2.mono HB1.out.size)
      have HB2 := Lib.hid (HB.out.trans (hb12.mono HB.out.size))
      have HG2 := Lib.hid (ownsRow_below HG.out hb12)
      have HP2 : Hid (∀ j (hj : j < ps.length), TabP w2 j ps[j]) := show ∀ j (hj : j < ps.length), _ from fun j hj => (HP.out j hj).below hb12
      have HPP : Hid (TabP w2 k (numVT W1.heap.size k k 0 1023)) := show TabP _ _ _ from ⟨_, _, hlt, rfl, (hb2.block _ HQ1.out.lt).trans HQ1.out, hx2⟩
      obtain ⟨p, hp⟩ : ∃ p, numVT W1.heap.size k k 0 1023 = p := ⟨_, rfl⟩
      rw [hp] at HPP ⊢
      have b3 : Below w2.heap.size w2 (w2.alloc (.cells #[p.v0, p.v1, p.v2] 150)) := (Below.refl _ _).alloc (Nat.le_refl _) _
      have HB3 := Lib.hid (HB2.out.trans (b3.mono HB2.out.size))
      have HG3 := Lib.hid (ownsRow_below HG2.out b3)
      have HV3 : Hid (Vec (w2.alloc (.cells #[p.v0, p.v1, p.v2] 150)) (.slice (some ⟨w2.heap.size, 0, none⟩) 1 1) 1 3 (flatC partC [p])) := show Vec _ _ _ _ _ from vec_newN w2 (flatC partC [p]) 150 1 3 rfl
      have HL3 : Hid ((ps ++ [p]).length = k + 1) := show _ = _ by rw [List.length_append, List.length_singleton, HLEN.out]
      have hs3 := HB3.out.size
      clear hb12 hb2 hx2 b3 hp HN
      go_wp2_with (at_builtin; refine park ?_)
      unfold Park
      refine wpList_append_vec rfl _ _ 76 rfl 150 i0 _ 3 24 Tryz.underlying76 HI.out hz0 hz1 hz2 rfl (by decide) w.heap.size _ _ k 1 _ _ rfl rfl (.inr HG3.out) HV3.out (partC_one [p]) (by omega) (by omega) hs3 ?_
      rintro v4 w4 - b4 ⟨gr4, -, ow4⟩
      have HG4 : Hid (w4.ownsRow w.heap.size 150 3 v4 (k + 1) (flatC partC (ps ++ [p]))) := show World.ownsRow _ _ _ _ _ _ _ by
        rw [flatC_append]
        exact ow4 HG3.out
      have HB4 := Lib.hid (HB3.out.trans b4)
      have hkp : ∀ b t v, t = 3 ∨ t = 153 ∨ t = 110 → Boxed w2 b t v → Boxed w4 b t v := fun b t v ht hx => box_beside hx (by rcases ht with rfl | rfl | rfl <;> decide) HG2.out gr4
      have HP4 : Hid (∀ j (hj : j < (ps ++ [p]).length), TabP w4 j (ps ++ [p])[j]) := show ∀ j (hj : j < (ps ++ [p]).length), _ from fun j hj => by
        by_cases h : j < ps.length
        · rw [List.getElem_append_left h]
          exact (HP2.out j h).keep hkp
        · rw [HL3.out] at hj
          have hl := HLEN.out
          obtain rfl : j = k := by omega
          rw [List.getElem_append_right (by omega)]
          simp only [hl, Nat.sub_self, List.getElem_cons_zero]
          exact HPP.out.keep hkp
      clear gr4 ow4 b4 hkp
      go_wp2_with fail
      go_roundw
      case rel => exact ⟨k + 1, _, ps ++ [p], rfl, by omega, by go_num, HL3.out, HG4, HP4, HB4⟩
      case measure => simp [intOf]; omega
    · obtain rfl : k = 7 := by omega
      have HV : Hid (Vec wr (.slice qa 7 qc) 7 3 (flatC partC ps)) := show Vec _ _ _ _ _ from vec_of_own HG.out
      go_wp2_with fail
      go_ret
      refine ⟨_, ps, rfl, HB.out, ⟨?_, by rw [HLEN.out]; decide⟩, ?_, ?_⟩
      · rcases HG.out.2 with ⟨h, h0⟩ | ⟨g, cap, cur, hv, hg, hb, hc, hm, hs, ht⟩
        · omega
        · simp only [Value.slice.injEq] at hv
          obtain ⟨rfl, -, rfl⟩ := hv
          refine ⟨g, _, by rw [HLEN.out]; rfl, (Array.getElem?_eq_some_iff.1 hb).1, fun k hk => ?_⟩
          have hat := flatC_at (f := partC) (s := 3) (fun _ => rfl) ps k hk
          have hk7 := hk
          rw [HLEN.out] at hk7
          refine ⟨?_, ?_, ?_⟩
          · rw [World.ownsRow.cellAt HG.out _ (by omega)]; exact hat 0 (by decide)
          · rw [World.ownsRow.cellAt HG.out _ (by omega)]; exact hat 1 (by decide)
          · rw [World.ownsRow.cellAt HG.out _ (by omega)]; exact hat 2 (by decide)
      · intro p hp
        obtain ⟨j, hj, rfl⟩ := List.getElem_of_mem hp
        exact (HP.out j hj).part.1
      · refine List.ext_getElem (by simp [tableSpecs, HLEN.out]) fun j h1 h2 => ?_
        rw [List.getElem_map]
        simp only [tableSpecs, List.getElem_map, List.getElem_range]
        exact (HP.out j (by simpa using h1)).part.2
end Go.Proofs.YtaebipopmefkpaaGreatDoor

/-
  node: the document's answers: tables.
-/
namespace Go.Proofs.YtaebipopmefkpaaGreatDoor
open Go.RowKit Go.Shelf
attribute [local go_sem] Oper.semAt_some

theorem tab_ok (l : List Int) (hl : l.length = 7) : okSp tableSpecs (ints l) = l.all fun y => inB (y, 0, 1023) :=
  match l, hl with
  | [_, _, _, _, _, _, _], _ => rfl
def tabLine (l : List Int) (k : Nat) : List Int := (List.range 8).map fun j => if j < k then (l[j]?.getD 0) % 18446744073709551616 else 0
theorem tabLine_len (l : List Int) (k : Nat) : (tabLine l k).length = 8 := by simp [tabLine]
theorem tabLine_set (l : List Int) (k : Nat) : (tabLine l k).set k ((l[k]?.getD 0) % 18446744073709551616) = tabLine l (k + 1) := by
  refine List.ext_getElem (by simp [tabLine]) fun j h1 h2 => ?_
  rw [List.getElem_set]
  simp only [tabLine, List.getElem_map, List.getElem_range]
  by_cases h : k = j
  · subst h
    rw [if_pos rfl, if_pos (by omega)]
  · rw [if_neg h]
    by_cases h3 : j < k
    · rw [if_pos h3, if_pos (by omega)]
    · rw [if_neg h3, if_neg (by omega)]
theorem tab_put (l : List Int) (hl : l.length = 7) : wrSp tableSpecs (ints l) zeros8 = tabLine l 7 :=
  match l, hl with
  | [_, _, _, _, _, _, _], _ => rfl
theorem ints_at (l : List Int) (j : Nat) (h : j < l.length) : (ints l)[j]? = some (.int .i64 (l[j]?.getD 0)) := by
  simp [ints, h]
set_option maxRecDepth 100000 in
set_option maxHeartbeats 4000000 in
theorem refRightTable_any (l : List Int) (hl : l.length = 7) (w : World) : Calls Tryz.prog 32 #[.agg (ints l)] w fun e w' => e = .returned (.bool (okSp tableSpecs (ints l))) ∧ Below w.heap.size w w' := by
  rw [tab_ok l hl]
  obtain ⟨X, hX⟩ : ∃ X, ints l = X := ⟨_, rfl⟩
  rw [hX]
  have HXX := Lib.hid hX
  have HLEN := Lib.hid hl
  have HPT := Lib.hid (fun n W => refPointer_any n false W)
  obtain ⟨W1, hW1⟩ : ∃ W1, w.alloc (.cells X 40) = W1 := ⟨_, rfl⟩
  have HB1 : Hid (Below w.heap.size w W1) := show Below _ _ _ by rw [← hW1]; exact (by repeat (first | exact Below.refl _ _ | assumption | refine Below.drew ?_ | refine below_drewN ?_ _ | refine Below.alloc ?_ (by (try simp) <;> omega) _ | refine Below.setCell ?_ (by (try simp) <;> omega) _ | refine Below.trans ?_ (Below.mono (by assumption) (by (try simp) <;> omega))))
  have HX1 : Hid (Blk W1 w.heap.size 40 X) := show Blk _ _ _ _ by rw [← hW1]; exact Blk.new _ _ _
  have HW := Lib.hid hW1
  clear hW1 hX hl
  go_enter Tryz.func32, Tryz.ntmps32
  go_wp2_with fail
  rw [HW.out]
  go_loopw [3] (fun i wr => ∃ k : Nat, k ≤ 7 ∧ i = .int .i64 (k : Nat) ∧ W1 = wr ∧ Hid ((l.take k).all (fun y => inB (y, 0, 1023)) = true)) (fun i _ => 7 - (intOf i).toNat)
  case atStart => exact ⟨0, by decide, rfl, rfl, (show _ = true from rfl)⟩
  case round =>
    obtain ⟨k, hk, rfl, rfl, HA⟩ := hrel
    by_cases hlt : k < 7
    · have hk2 : ((k : Nat) : Int) < 7 := by omega
      have c1 : W1.cell? ⟨w.heap.size, k, none⟩ = some (.int .i64 (l[k]?.getD 0)) := HX1.out.cell (by rw [← HXX.out]; exact ints_at l k (by rw [HLEN.out]; exact hlt))
      have HS : Hid (∀ b, inB (l[k]?.getD 0, 0, 1023) = b → (l.take (k + 1)).all (fun y => inB (y, 0, 1023)) = b ∧ (b = false → (l.all fun y => inB (y, 0, 1023)) = false)) := show ∀ b, _ from fun b hb => by
        have hk3 : k < l.length := by rw [HLEN.out]; exact hlt
        rw [List.getElem?_eq_getElem hk3, Option.getD_some] at hb
        refine ⟨by rw [List.take_succ_eq_append_getElem hk3, List.all_append, HA.out]; simp [hb], fun h => ?_⟩
        subst h
        rw [List.all_eq_false]
        exact ⟨_, List.getElem_mem hk3, by rw [hb]; decide⟩
      obtain ⟨y, hy⟩ : ∃ y, l[k]?.getD 0 = y := ⟨_, rfl⟩
      rw [hy] at c1 HS
      clear hy
      obtain ⟨r, hr⟩ : ∃ r, inB (y, 0, 1023) = r := ⟨_, rfl⟩
      have HPA : Hid (∀ W, Calls Tryz.prog 75 #[.int .i64 y, .bool false] W fun e w' => e = .returned (.bool r) ∧ W = w') := show ∀ W, _ from fun W => by
        have := HPT.out y W
        rw [show inB (y, if false = true then 1 else 0, 1023) = inB (y, 0, 1023) from rfl, hr] at this
        exact this
      have HR := Lib.hid (HS.out r hr)
      clear hr
      cases r
      · go_wp2_with (go_at_call 75; refine (HPA.out _).mono ?_; rintro e w' ⟨rfl, rfl⟩)
        go_ret
        exact ⟨ret_bool (HR.out.2 (by first | rfl | trivial)).symm, HB1.out⟩
      · go_wp2_with (go_at_call 75; refine (HPA.out _).mono ?_; rintro e w' ⟨rfl, rfl⟩)
        go_roundw
        case rel => exact ⟨k + 1, by omega, by go_num, by first | rfl | trivial, (show _ = true from HR.out.1)⟩
        case measure => simp [intOf]; omega
    · obtain rfl : k = 7 := by omega
      go_wp2_with fail
      go_ret
      exact ⟨ret_bool (by
        have := HA.out
        rw [List.take_of_length_le (by rw [HLEN.out]; exact Nat.le_refl _)] at this
        exact this.symm), HB1.out⟩
end Go.Proofs.YtaebipopmefkpaaGreatDoor
