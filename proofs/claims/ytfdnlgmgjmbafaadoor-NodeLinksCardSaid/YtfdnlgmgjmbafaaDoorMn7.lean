/-
  Texts NdCE to WordD, as one.
-/
import Derived.Test.YtfdnlgmgjmbafaaDoorMn6
import Derived.RangeFuncCalls
import Derived.Laws.EntriesVeiled
import Derived.RecoverIn
import Derived.Deep.WholeRow
import Derived.Shelf.SortM.Plain
import Derived.Shelf.SortM.SortNone
import Derived.Shelf.Slices.CompactS
import Derived.Test.YtfdnlgmgjmbafaaDoorChecked
import Derived.Maps.OwnIn
import Derived.RangeFuncBox
/-
  node: the parts of a line of api.Entry as an iterator. Written by gen_nd.py.
-/
namespace Go.Proofs.YtfdnlgmgjmbafaaDoor
open Go.RowKit Go.Shelf Go.Sort
attribute [local go_sem] Oper.semAt_some

def ndOwnE (p g : Nat) (k : Nat) : Prop := k = p ∨ k = g
/-- A slice of parts. -/
structure KindAtE (w : World) (v : Value) (ps : List PartV) : Prop where
  at_ : ∃ g c, v = .slice (some ⟨g, 0, none⟩) ps.length c ∧ g < w.heap.size ∧ ∀ k (hk : k < ps.length), w.cell? ⟨g, k * 3, none⟩ = some ps[k].v0 ∧ w.cell? ⟨g, k * 3 + 1, none⟩ = some ps[k].v1 ∧ w.cell? ⟨g, k * 3 + 2, none⟩ = some ps[k].v2
  most : ps.length ≤ 100
theorem KindAtE.below {w w' : World} {v : Value} {ps : List PartV} (h : KindAtE w v ps) (hb : Below w.heap.size w w') : KindAtE w' v ps := by
  obtain ⟨⟨g, c, hv, hg, hc⟩, hm⟩ := h
  exact ⟨⟨g, c, hv, Nat.lt_of_lt_of_le hg hb.size, fun k hk => by
    obtain ⟨h1, h2, h3⟩ := hc k hk
    exact ⟨(hb.cell (p := ⟨g, k * 3, none⟩) hg).trans h1, (hb.cell (p := ⟨g, k * 3 + 1, none⟩) hg).trans h2, (hb.cell (p := ⟨g, k * 3 + 2, none⟩) hg).trans h3⟩⟩, hm⟩
set_option maxRecDepth 100000 in
set_option maxHeartbeats 4000000 in
theorem valuesE_E (n : Nat) (_ : 1 ≤ n) {p g c : Nat} {ps : List PartV} (w : World) (hbx : Boxed w p 49 (.slice (some ⟨g, 0, none⟩) ps.length c)) (hg : g < w.heap.size)
    (hc : ∀ k (hk : k < ps.length), w.cell? ⟨g, k * 3, none⟩ = some ps[k].v0 ∧ w.cell? ⟨g, k * 3 + 1, none⟩ = some ps[k].v1 ∧ w.cell? ⟨g, k * 3 + 2, none⟩ = some ps[k].v2) (hl : ps.length ≤ 100) :
    SeqE (ndOwnE p g) n Tryd.prog 76 #[.pointer (some ⟨p, 0, none⟩)] encPart (fun ys => ys = ps) (fun pre => pre <+: ps) w := fun lp J Jx Jp W hW hJ hJx hJp hY h0 => by
  have c0 : W.cell? ⟨p, 0, none⟩ = some (.slice (some ⟨g, 0, none⟩) ps.length c) := Boxed.cell ((hW.block _ hbx.lt).trans hbx)
  have HC := Lib.hid (fun k (hk : k < ps.length) => show W.cell? ⟨g, k * 3, none⟩ = some ps[k].v0 ∧ W.cell? ⟨g, k * 3 + 1, none⟩ = some ps[k].v1 ∧ W.cell? ⟨g, k * 3 + 2, none⟩ = some ps[k].v2 from by
    obtain ⟨h1, h2, h3⟩ := hc k hk
    exact ⟨(hW.cell (p := ⟨g, k * 3, none⟩) hg).trans h1, (hW.cell (p := ⟨g, k * 3 + 1, none⟩) hg).trans h2, (hW.cell (p := ⟨g, k * 3 + 2, none⟩) hg).trans h3⟩)
  have hgW : g < W.heap.size := Nat.lt_of_lt_of_le hg hW.size
  have HY := Lib.hid hY
  have HJA := Lib.hid hJ
  clear hY hJ hJx hJp hc hbx hW
  obtain ⟨M, hM⟩ : ∃ M, ps.length = M := ⟨_, rfl⟩
  have HM := Lib.hid hM
  rw [hM] at c0 hl
  have HT := Lib.hid (fun (k : Nat) (hk : k < ps.length) => show ps.take k ++ [ps[k]] = ps.take (k + 1) from by
    rw [List.take_succ_eq_append_getElem hk])
  clear hM
  refine callsIn_of_wp Tryd.func76 rfl trivial ?_ rfl
  simp only [Tryd.ntmps76, List.size_toArray, List.length_cons, List.length_nil, Nat.reduceAdd, Nat.reduceSub, Array.replicate_succ, Array.replicate_zero, List.push_toArray, List.append_toArray, List.nil_append, List.cons_append]
  gi_wp2_with fail
  gi_loopw [7] (fun i wr => ∃ k : Nat, k ≤ M ∧ i = .int .i64 (k : Nat) ∧ Hid (J (ps.take k) (fun _ => False) wr) ∧ Hid (Keeps (ndOwnE p g) W wr)) (fun i _ => M - (intOf i).toNat)
  case atStart => exact ⟨0, Nat.zero_le _, rfl, Lib.hid (by simpa using h0), Lib.hid (Keeps.refl _ _)⟩
  case round =>
    obtain ⟨k, hk, rfl, HJs, HKP⟩ := hrel
    clear c0
    by_cases hlt : k < M
    · have hkp : k < ps.length := by rw [HM.out]; exact hlt
      obtain ⟨d0, d1, d2⟩ := HC.out k hkp
      have hbk := HKP.out.2 g (.inr rfl) hgW
      have ck0 := (World.cell?_of_block (a := ⟨g, k * 3, none⟩) hbk).trans d0
      have ck1 := (World.cell?_of_block (a := ⟨g, k * 3 + 1, none⟩) hbk).trans d1
      have ck2 := (World.cell?_of_block (a := ⟨g, k * 3 + 2, none⟩) hbk).trans d2
      clear d0 d1 d2 hbk
      have HF := Lib.hid (HT.out k hkp)
      obtain ⟨z0, hz0⟩ : ∃ z, ps[k].f0 = z := ⟨_, rfl⟩
      obtain ⟨y0, hy0⟩ : ∃ z, ps[k].l0 = z := ⟨_, rfl⟩
      obtain ⟨z1, hz1⟩ : ∃ z, ps[k].f1 = z := ⟨_, rfl⟩
      obtain ⟨y1, hy1⟩ : ∃ z, ps[k].l1 = z := ⟨_, rfl⟩
      obtain ⟨z2, hz2⟩ : ∃ z, ps[k].f2 = z := ⟨_, rfl⟩
      obtain ⟨y2, hy2⟩ : ∃ z, ps[k].l2 = z := ⟨_, rfl⟩
      have hbv : Below wr.heap.size wr (wr.alloc (.cells #[.func (.func z0) #[] y0, .func (.func z1) #[] y1, .func (.func z2) #[] y2] 69)) := (Below.refl _ _).alloc (Nat.le_refl _) _
      have HKV : Hid (Keeps (ndOwnE p g) W (wr.alloc (.cells #[.func (.func z0) #[] y0, .func (.func z1) #[] y1, .func (.func z2) #[] y2] 69))) := show Keeps _ _ _ from HKP.out.trans ⟨hbv.size, fun k _ hl => hbv.block k hl⟩
      obtain ⟨fn, tmps, assign, body, hy, hR⟩ := HY.out _ ps[k] (fun _ => False) _ (HJA.out _ _ (fun _ => False) _ _ HJs.out (Turn.of_below hbv (Nat.le_refl _)) (fun k h => h.elim)) HKV.out.1 (fun q h => h.elim) (by rw [HF.out]; exact List.take_prefix _ _)
      rw [HF.out] at hR
      have HR := Lib.hid hR
      unfold encPart PartV.v0 PartV.v1 PartV.v2 at hy
      unfold PartV.v0 at ck0
      unfold PartV.v1 at ck1
      unfold PartV.v2 at ck2
      rw [hz0, hy0, hz1, hy1, hz2, hy2] at hy
      rw [hz0, hy0] at ck0
      rw [hz1, hy1] at ck1
      rw [hz2, hy2] at ck2
      have k2 : (k : Int) < (M : Int) := by omega
      clear hR hz0 hz1 hz2 hy0 hy1 hy2 HF hbv
      gi_wp2_with fail
      refine HR.out.mono ?_
      rintro e W3 (⟨hk3, ⟨rfl, hJ3⟩ | ⟨rfl, hJx3⟩⟩ | ⟨ch, rfl, hp3⟩)
      · have HKP3 : Hid (Keeps (ndOwnE p g) W W3) := show Keeps _ _ _ from HKV.out.trans (hk3.weaken fun k h => .inl h)
        have HJ3 := Lib.hid hJ3
        clear hy hk3 hJ3 ck0 ck1 ck2
        gi_wp2_with fail
        go_roundw
        case rel => exact ⟨k + 1, by omega, by go_num, HJ3, HKP3⟩
        case measure => simp [intOf]; omega
      · clear hy ck0 ck1 ck2
        gi_wp2_with fail
        refine bodyPost_ret (results_none rfl _ _ _) rfl ?_
        exact .inl ⟨⟨_, rfl⟩, .inr ⟨_, List.take_prefix _ _, hJx3⟩⟩
      · clear hy ck0 ck1 ck2
        gi_wp2_with fail
        exact ⟨rfl, .inr ⟨ch, _, rfl, List.take_prefix _ _, hp3⟩⟩
    · obtain rfl : k = M := by omega
      gi_wp2_with fail
      go_end0
      exact .inl ⟨⟨_, rfl⟩, .inl ⟨_, by rw [List.take_of_length_le (by rw [HM.out]; exact Nat.le_refl _)], HJs.out⟩⟩
theorem parts_E (a : Option Addr) (n c : Nat) (w : World) : Calls Tryd.prog 28 #[.slice a n c] w fun e w' => e = .returned (.func (.func 76) #[] #[.pointer (some ⟨w.heap.size, 0, none⟩)]) ∧ w' = w.alloc (.cells #[.slice a n c] 49) := by
  go_enter Tryd.func28, Tryd.ntmps28
  go_wp2
  go_ret
  exact ⟨rfl, rfl⟩
end Go.Proofs.YtfdnlgmgjmbafaaDoor

/-
  node: may a line of api.Entry be. Written by gen_nd.py.
-/
namespace Go.Proofs.YtfdnlgmgjmbafaaDoor
open Go.RowKit Go.Shelf Go.Sort
attribute [local go_sem] Oper.semAt_some

/-- What a round of a range over parts begins with. -/
def PartAxE (A0 : Act) (t s u : Nat) (p : PartV) (n : Nat) (a' : Act) (W : World) : Prop :=
  ∃ b, a' = { tmps := (A0.tmps.setIfInBounds s (.agg #[p.v0, p.v1, p.v2])).setIfInBounds u (.pointer (some ⟨b, 0, none⟩)), defers := [] } ∧ n ≤ b ∧ Tri W b t p.v0 p.v1 p.v2
/-- In the rounds of mayBe. -/
def MayIE (w : World) (x : Array Value) (b : Nat) (X : Nat) (pre : List PartV) (q : Nat → Prop) (W : World) : Prop :=
  (Blk W X 23 x ∧ ¬ q X) ∧ BoxF b 4 (.bool true) q W ∧ BelowF w.heap.size w q W ∧ okAll pre x = true
theorem abides_mayE (w : World) (x : Array Value) (b X : Nat) : Abides (MayIE w x b X) := Abides.and (abides_blk _ _ _) (Abides.and (Abides.box _ _ (fun _ => .bool true)) (Abides.and (Abides.below _ _) (Abides.pure (fun pre : List PartV => okAll pre x = true))))
def MayXE (w : World) (x : Array Value) (b : Nat) (cd : Code) (pre : List PartV) (q : Nat → Prop) (W : World) : Prop :=
  (cd = .exit 0 ∧ okAll pre x = false) ∧ BoxF b 4 (.bool false) q W ∧ BelowF w.heap.size w q W
theorem abides_mayXE (w : World) (x : Array Value) (b : Nat) (cd : Code) : Abides (MayXE w x b cd) := Abides.and (Abides.pure (fun pre : List PartV => cd = .exit 0 ∧ okAll pre x = false)) (Abides.and (Abides.box _ _ (fun _ => .bool false)) (Abides.below _ _))
set_option maxRecDepth 100000 in
set_option maxHeartbeats 4000000 in
theorem mayK_E {Good : Array Value → Prop} {v : Value} {ps : List PartV} (x : Array Value) (hx : Good x) (hsz : x.size = 3) (w : World) (hk : KindAtE w v ps) (hp : ∀ p ∈ ps, NdPart Good 23 w p) :
    Calls Tryd.prog 27 #[v, .agg x] w fun e w' => e = .returned (.bool (okAll ps x)) ∧ Below w.heap.size w w' := by
  obtain ⟨⟨g, c, rfl, hg, hc⟩, hl⟩ := hk
  have HVE := Lib.hid (fun (W : World) (p : Nat) (hb : Below w.heap.size w W) (hbx : Boxed W p 49 (.slice (some ⟨g, 0, none⟩) ps.length c)) => valuesE_E 8 (by decide) (p := p) W hbx (Nat.lt_of_lt_of_le hg hb.size) (fun k hk => by
    obtain ⟨h1, h2, h3⟩ := hc k hk
    exact ⟨(hb.cell (p := ⟨g, k * 3, none⟩) hg).trans h1, (hb.cell (p := ⟨g, k * 3 + 1, none⟩) hg).trans h2, (hb.cell (p := ⟨g, k * 3 + 2, none⟩) hg).trans h3⟩) hl)
  clear hc hl
  obtain ⟨N, hN⟩ : ∃ N, ps.length = N := ⟨_, rfl⟩
  have HPT := Lib.hid (parts_E (some ⟨g, 0, none⟩) N c)
  rw [hN] at HVE
  rw [hN]
  clear hN
  have HP := Lib.hid (fun (W : World) (hb : Below w.heap.size w W) (p : PartV) (hm : p ∈ ps) => (hp p hm).below hb)
  obtain ⟨W2, hW2⟩ : ∃ W2, (w.alloc (.cells x 23)).alloc (.cells #[.bool true] 4) = W2 := ⟨_, rfl⟩
  have HB2 : Hid (Below w.heap.size w W2) := show Below _ _ _ by rw [← hW2]; exact (by repeat (first | exact Below.refl _ _ | assumption | refine Below.drew ?_ | refine below_drewN ?_ _ | refine Below.alloc ?_ (by (try simp) <;> omega) _ | refine Below.setCell ?_ (by (try simp) <;> omega) _ | refine Below.trans ?_ (Below.mono (by assumption) (by (try simp) <;> omega))))
  have HX2 : Hid (Blk W2 w.heap.size 23 x) := show Blk _ _ _ _ by unfold Blk; rw [← hW2]; (simp only [heap_at, World.size_alloc]; repeat (first | rw [if_pos (by omega)] | rw [if_neg (by omega)] | rw [if_pos trivial]))
  have HM2 : Hid (Boxed W2 (w.heap.size + 1) 4 (.bool true)) := show Boxed _ _ _ _ by unfold Boxed; rw [← hW2]; (simp only [heap_at, World.size_alloc]; repeat (first | rw [if_pos (by omega)] | rw [if_neg (by omega)] | rw [if_pos trivial]))
  have HZ2 : Hid (W2.heap.size = w.heap.size + 2) := show _ = _ by rw [← hW2]; simp
  have HW2 := Lib.hid hW2
  have HX := Lib.hid hx
  have HSZ := Lib.hid hsz
  have HGG := Lib.hid hg
  clear hW2 hp hx hsz hg
  refine (callsIn_wide (n := 9)).1 ?_
  refine callsIn_of_wp_marks Tryd.func27 rfl trivial ?_ rfl
  simp only [Tryd.ntmps27, List.size_toArray, List.length_cons, List.length_nil, Nat.reduceAdd, Nat.reduceSub, Array.replicate_succ, Array.replicate_zero, List.push_toArray, List.append_toArray, List.nil_append, List.cons_append]
  gi_wp2_with fail
  refine wpIn_scope_straight ?_
  gi_wp2_with fail
  refine wpIn_label ?_
  gi_wp2_with fail
  rw [HW2.out]
  refine ⟨trivial, ?_⟩
  refine (callsIn_wide.2 (HPT.out W2)).mono ?_
  rintro e w1 ⟨rfl, hw1⟩
  have hz2 := HZ2.out
  have hb1 : Below W2.heap.size W2 w1 := by rw [hw1]; exact (Below.refl _ _).alloc (Nat.le_refl _) _
  have hz1 : w1.heap.size = w.heap.size + 3 := by rw [hw1, World.size_alloc]; omega
  have HB1 : Hid (Below w.heap.size w w1) := show Below _ _ _ from HB2.out.trans (hb1.mono HB2.out.size)
  have hx1 : Blk w1 w.heap.size 23 x := (hb1.block _ (by omega)).trans HX2.out
  have hm1 : Boxed w1 (w.heap.size + 1) 4 (.bool true) := (hb1.block _ (by omega)).trans HM2.out
  have hs1 : Boxed w1 (w.heap.size + 2) 49 (.slice (some ⟨g, 0, none⟩) N c) := by rw [hw1, ← hz2]; exact Boxed.new _ _ _
  have HSQ := Lib.hid ((HVE.out w1 (w.heap.size + 2) HB1.out hs1).seqF)
  have HGL : Hid (g < w.heap.size) := HGG
  have HI0 : Hid (MayIE w x (w.heap.size + 1) w.heap.size [] (fun _ => False) w1) := show MayIE _ _ _ _ _ _ _ from ⟨⟨hx1, id⟩, ⟨hm1, id⟩, ⟨HB1.out, HB1.out.size, fun _ h => h.elim⟩, rfl⟩
  have HZ1 := Lib.hid hz1
  clear hs1 hm1 hx1 hb1 hw1 hz1 HVE
  gi_wp2_with fail
  generalize hA : ({ tmps := _, defers := _ } : Act) = A0
  refine wpIn_range_F (n := 9) (by decide) (gf := 76) (lb := #[.pointer (some ⟨w.heap.size + 2, 0, none⟩)]) (by rw [← hA]; rfl) (enters_of Tryd.func76 (by kernel_rfl) rfl) HSQ.out
    (fun k hk => by have := HZ1.out; have := HGL.out; rcases hk with rfl | rfl <;> omega) (Below.refl _ _) (fun _ => rfl)
    (MayIE w x (w.heap.size + 1) w.heap.size) (MayXE w x (w.heap.size + 1)) (abides_mayE _ _ _ _) (abides_mayXE _ _ _) HI0.out
    (PartAxE A0 69 9 6 · (w1.heap.size + 2))
    (fun p a' W o ⟨b, e, hb, h⟩ => ⟨b, e, hb, (World.putObj_heap_other (by omega)).trans h⟩)
    ?assign ?body ?done ?stop
  case assign =>
    rintro l2 p W3 K hsz3 hK
    subst hA
    unfold encPart
    dsimp only
    gi_wp2_with fail
    refine hK _ _ ⟨W3.heap.size, rfl, hsz3, Tri.new _ _ _ _ _⟩ ((Below.refl _ _).alloc (Nat.le_refl _) _)
  case body =>
    rintro l2 pre p a' q2 W3 ⟨⟨hbx, hqx⟩, ⟨hm, hqm⟩, hB, hok⟩ hs2 hqb hsp ⟨b, rfl, hb, ht⟩
    subst hA
    have hmem : p ∈ ps := hsp.subset (by simp)
    have hpt := HP.out W3 hB.1 p hmem
    obtain ⟨c0, c1, c2, -, -, -⟩ := ht.cells
    have hlb := ht.lt
    have HLD := Lib.hid (hbx.load (tt := 23) Tryd.underlying23 rfl (by rw [HSZ.out]; kernel_rfl))
    have HMB := Lib.hid (hpt.mayBe x W3 HX.out (Below.refl _ _))
    have e0 : ∀ args W, (callFunc p.f0 args).run Tryd.prog W = .ok (.enter p.f0 args) W := hpt.e0
    obtain ⟨F, hF⟩ : ∃ F, p.f0 = F := ⟨_, rfl⟩
    obtain ⟨L, hL⟩ : ∃ L, p.l0 = L := ⟨_, rfl⟩
    obtain ⟨o, ho⟩ : ∃ o, p.S.ok x = o := ⟨_, rfl⟩
    unfold PartV.v0 at c0
    rw [hF, hL] at c0
    rw [hF] at e0
    rw [hF, hL, ho] at HMB
    have HO := Lib.hid ho
    have HBX := Lib.hid hbx
    have HQX := Lib.hid hqx
    have HM := Lib.hid hm
    have HQM := Lib.hid hqm
    have HBB := Lib.hid hB
    have HOK := Lib.hid hok
    have HQB := Lib.hid hqb
    clear hpt hmem ht c1 c2 hF hL ho hbx hqx hm hqm hB hok hqb hsp
    gi_wp2_with (refine wpListIn_load_eq rfl 23 _ rfl _ _ rfl HLD.out ?_)
    refine ⟨trivial, (CallsIn.inRound l2 (callsIn_wide.2 HMB.out)).mono ?_⟩
    rintro e w3 ⟨rfl, hb3⟩
    have hm3 : Boxed w3 (w.heap.size + 1) 4 (.bool true) := (hb3.block _ HM.out.lt).trans HM.out
    cases o with
    | false =>
      have cm := hm3.cell
      have fm := hm3.frozen
      have lm := hm3.lt
      have HM3 := Lib.hid hm3
      have HB3 := Lib.hid hb3
      clear hm3 hb3 c0 e0
      gi_wp2_with fail
      refine ⟨⟨by simp [World.setCell]; exact HB3.out.size, fun k hk hl => (Below.heap_setCell _ _ _ _ (fun h => ?_)).trans (HB3.out.block k hl)⟩, ⟨rfl, ?_⟩, ⟨HM3.out.set (.bool false), HQM.out⟩, (HBB.out.1.trans (HB3.out.mono HBB.out.1.size)).setCell (p := ⟨w.heap.size + 1, 0, none⟩) (Nat.le_succ _) _, ?_, HBB.out.2.2⟩
      · rcases hk with (h2 | h2) | h2
        · have h3 : w.heap.size + 1 = w.heap.size + 2 := h.symm.trans h2
          omega
        · have h3 : w.heap.size + 1 = g := h.symm.trans h2
          have := HGL.out
          omega
        · exact HQM.out (by rwa [show k = w.heap.size + 1 from h] at h2)
      · unfold okAll
        rw [List.all_append, List.all_cons, HO.out]; simp
      · have := HBB.out.2.1; have := HB3.out.size; simp [World.setCell]; omega
    | true =>
      have HB3 := Lib.hid hb3
      clear hm3 hb3 c0 e0
      gi_wp2_with fail
      have h4 := abides_mayE w x (w.heap.size + 1) w.heap.size pre q2 q2 W3 w3 ⟨⟨HBX.out, HQX.out⟩, ⟨HM.out, HQM.out⟩, HBB.out, HOK.out⟩ (Turn.of_below HB3.out (Nat.le_refl _)) (fun k h => .inl h)
      refine ⟨⟨HB3.out.size, fun k _ hl => HB3.out.block k hl⟩, h4.1, h4.2.1, h4.2.2.1, ?_⟩
      have h5 := HOK.out
      unfold okAll at h5 ⊢
      rw [List.all_append, h5, List.all_cons, HO.out]; rfl
  case done =>
    rintro D ys W3 hD rfl ⟨-, ⟨hm, hqm⟩, hB, hok⟩ hK'
    subst hA
    have cm := hm.cell
    have HOK := Lib.hid hok
    have HBB := Lib.hid hB
    have HDD := Lib.hid hD
    have HK := Lib.hid hK'
    clear hm hqm hB hok hD hK'
    gi_wp2_with fail
    refine leaves_one (D := D) HK.out fun W' ht hc => ⟨_, results_tmp rfl _ _ _, by rw [HOK.out]; rfl, ?_⟩
    exact HBB.out.1.trans (ht.below (B := w.heap.size) (fun k h => by have := HDD.out; have := HB1.out.size; omega) HBB.out.2.1)
  case stop =>
    rintro D cd pre W3 hD hpre ⟨⟨rfl, hno⟩, ⟨hm, hqm⟩, hB⟩ hK'
    subst hA
    have cm := hm.cell
    have HOK : Hid (okAll ps x = false) := show _ = _ by
      obtain ⟨r, rfl⟩ := hpre
      unfold okAll at hno ⊢
      rw [List.all_append, hno]; rfl
    have HBB := Lib.hid hB
    have HDD := Lib.hid hD
    have HK := Lib.hid hK'
    clear hm hqm hB hno hD hK' hpre
    gi_wp2_with fail
    refine leaves_one (D := D) HK.out fun W' ht hc => ⟨_, results_tmp rfl _ _ _, by rw [HOK.out]; rfl, ?_⟩
    exact HBB.out.1.trans (ht.below (B := w.heap.size) (fun k h => by have := HDD.out; have := HB1.out.size; omega) HBB.out.2.1)
end Go.Proofs.YtfdnlgmgjmbafaaDoor

/-
  node: the words of a line of api.Entry. Written by gen_nd.py.
-/
namespace Go.Proofs.YtfdnlgmgjmbafaaDoor
open Go.RowKit Go.Shelf Go.Sort
attribute [local go_sem] Oper.semAt_some

/-- In the rounds of put. -/
def PutIE (w : World) (x : Array Value) (X B R : Nat) (pre : List PartV) (q : Nat → Prop) (W : World) : Prop :=
  (Blk W X 23 x ∧ ¬ q X) ∧ (Blk W B 46 (lnA (wrAll pre x zeros8)) ∧ ¬ q B) ∧ (Blk W R 46 (lnA zeros8) ∧ ¬ q R) ∧ BelowF w.heap.size w q W
theorem abides_putE (w : World) (x : Array Value) (X B R : Nat) : Abides (PutIE w x X B R) := Abides.and (abides_blkF _ _ _) (Abides.and (abides_blkF B 46 (fun pre => lnA (wrAll pre x zeros8))) (Abides.and (abides_blkF R 46 (fun _ => lnA zeros8)) (Abides.below _ _)))
set_option maxRecDepth 100000 in
set_option maxHeartbeats 4000000 in
theorem putK_E {Good : Array Value → Prop} {v : Value} {ps : List PartV} (x : Array Value) (hx : Good x) (hsz : x.size = 3) (w : World) (hk : KindAtE w v ps) (hp : ∀ p ∈ ps, NdPart Good 23 w p) :
    Calls Tryd.prog 13 #[v, .agg x] w fun e w' => e = .returned (.tuple #[.agg (lnA (putOut ps x)), .int .i64 (putErr ps x)]) ∧ Below w.heap.size w w' := by
  have HMK := Lib.hid (fun (W : World) (hb : Below w.heap.size w W) => mayK_E x hx hsz W (hk.below hb) (fun p hm => (hp p hm).below hb))
  obtain ⟨⟨g, c, rfl, hg, hc⟩, hl⟩ := hk
  have HVE := Lib.hid (fun (W : World) (p : Nat) (hb : Below w.heap.size w W) (hbx : Boxed W p 49 (.slice (some ⟨g, 0, none⟩) ps.length c)) => valuesE_E 8 (by decide) (p := p) W hbx (Nat.lt_of_lt_of_le hg hb.size) (fun k hk => by
    obtain ⟨h1, h2, h3⟩ := hc k hk
    exact ⟨(hb.cell (p := ⟨g, k * 3, none⟩) hg).trans h1, (hb.cell (p := ⟨g, k * 3 + 1, none⟩) hg).trans h2, (hb.cell (p := ⟨g, k * 3 + 2, none⟩) hg).trans h3⟩) hl)
  clear hc hl
  obtain ⟨N, hN⟩ : ∃ N, ps.length = N := ⟨_, rfl⟩
  have HPT := Lib.hid (parts_E (some ⟨g, 0, none⟩) N c)
  rw [hN] at HVE HMK
  rw [hN]
  clear hN
  have HP := Lib.hid (fun (W : World) (hb : Below w.heap.size w W) (p : PartV) (hm : p ∈ ps) => (hp p hm).below hb)
  have HLN := Lib.hid (fun pre (hpre : pre <+: ps) (ho : okAll ps x = true) => show Line8 (wrAll pre x zeros8) from wrAll_line hx pre zeros8 (fun p hm => hp p (hpre.subset hm)) (by
    obtain ⟨r, rfl⟩ := hpre
    unfold okAll at ho ⊢
    rw [List.all_append, Bool.and_eq_true] at ho
    exact ho.1) zeros8_line)
  obtain ⟨W2, hW2⟩ : ∃ W2, ((w.alloc (.cells x 23)).alloc (.cells (lnA zeros8) 46)).alloc (.cells (lnA zeros8) 46) = W2 := ⟨_, rfl⟩
  have HB2 : Hid (Below w.heap.size w W2) := show Below _ _ _ by rw [← hW2]; exact (by repeat (first | exact Below.refl _ _ | assumption | refine Below.drew ?_ | refine below_drewN ?_ _ | refine Below.alloc ?_ (by (try simp) <;> omega) _ | refine Below.setCell ?_ (by (try simp) <;> omega) _ | refine Below.trans ?_ (Below.mono (by assumption) (by (try simp) <;> omega))))
  have HX2 : Hid (Blk W2 w.heap.size 23 x) := show Blk _ _ _ _ by unfold Blk; rw [← hW2]; (simp only [heap_at, World.size_alloc]; repeat (first | rw [if_pos (by omega)] | rw [if_neg (by omega)] | rw [if_pos trivial]))
  have HM2 : Hid (Blk W2 (w.heap.size + 1) 46 (lnA zeros8)) := show Blk _ _ _ _ by unfold Blk; rw [← hW2]; (simp only [heap_at, World.size_alloc]; repeat (first | rw [if_pos (by omega)] | rw [if_neg (by omega)] | rw [if_pos trivial]))
  have HR2 : Hid (Blk W2 (w.heap.size + 1 + 1) 46 (lnA zeros8)) := show Blk _ _ _ _ by unfold Blk; rw [← hW2]; (simp only [heap_at, World.size_alloc]; repeat (first | rw [if_pos (by omega)] | rw [if_neg (by omega)] | rw [if_pos trivial]))
  have HZ2 : Hid (W2.heap.size = w.heap.size + 3) := show _ = _ by rw [← hW2]; simp
  have HW2 : Hid (((w.alloc (.cells x 23)).alloc (.cells #[.int .u64 0, .int .u64 0, .int .u64 0, .int .u64 0, .int .u64 0, .int .u64 0, .int .u64 0, .int .u64 0] 46)).alloc (.cells #[.int .u64 0, .int .u64 0, .int .u64 0, .int .u64 0, .int .u64 0, .int .u64 0, .int .u64 0, .int .u64 0] 46) = W2) := show _ = _ from hW2
  have HBW : Hid (Below w.heap.size w w) := show Below _ _ _ from Below.refl _ _
  have HX := Lib.hid hx
  have HSZ := Lib.hid hsz
  have HGG := Lib.hid hg
  have HLD2 := Lib.hid (HX2.out.load (tt := 23) Tryd.underlying23 rfl (by rw [hsz]; kernel_rfl))
  have HLD1 : Hid ((Instr.loadAt 23 (.pointer (some ⟨w.heap.size, 0, none⟩))).run Tryd.prog (((w.alloc (.cells x 23)).alloc (.cells #[.int .u64 0, .int .u64 0, .int .u64 0, .int .u64 0, .int .u64 0, .int .u64 0, .int .u64 0, .int .u64 0] 46)).alloc (.cells #[.int .u64 0, .int .u64 0, .int .u64 0, .int .u64 0, .int .u64 0, .int .u64 0, .int .u64 0, .int .u64 0] 46)) = .ok (.agg x) (((w.alloc (.cells x 23)).alloc (.cells #[.int .u64 0, .int .u64 0, .int .u64 0, .int .u64 0, .int .u64 0, .int .u64 0, .int .u64 0, .int .u64 0] 46)).alloc (.cells #[.int .u64 0, .int .u64 0, .int .u64 0, .int .u64 0, .int .u64 0, .int .u64 0, .int .u64 0, .int .u64 0] 46))) := show _ = _ by rw [HW2.out]; exact HLD2.out
  clear hW2 hp hx hsz hg
  refine (callsIn_wide (n := 9)).1 ?_
  refine callsIn_of_wp_marks Tryd.func13 rfl trivial ?_ rfl
  simp only [Tryd.ntmps13, List.size_toArray, List.length_cons, List.length_nil, Nat.reduceAdd, Nat.reduceSub, Array.replicate_succ, Array.replicate_zero, List.push_toArray, List.append_toArray, List.nil_append, List.cons_append]
  gi_wp2_with fail
  refine wpIn_scope_forward 0 rfl ?_
  gi_wp2_with (refine wpListIn_load_eq rfl 23 _ rfl _ _ rfl HLD1.out ?_)
  rw [HW2.out]
  refine ⟨trivial, ?_⟩
  refine (callsIn_wide.2 (HMK.out W2 HB2.out)).mono ?_
  rintro e w3 ⟨rfl, hb3⟩
  have hz2 := HZ2.out
  have hz3 := hb3.size
  have HB3 : Hid (Below w.heap.size w w3) := show Below _ _ _ from HB2.out.trans (hb3.mono HB2.out.size)
  have HX3 : Hid (Blk w3 w.heap.size 23 x) := show Blk _ _ _ _ from HX2.out.below hb3 (by omega)
  have HM3 : Hid (Blk w3 (w.heap.size + 1) 46 (lnA zeros8)) := show Blk _ _ _ _ from HM2.out.below hb3 (by omega)
  have HR3 : Hid (Blk w3 (w.heap.size + 1 + 1) 46 (lnA zeros8)) := show Blk _ _ _ _ from HR2.out.below hb3 (by omega)
  have HZ3 := Lib.hid hz3
  clear hb3 HW2 HLD2 HLD1 hz3
  obtain ⟨o, ho⟩ : ∃ o, okAll ps x = o := ⟨_, rfl⟩
  have HO := Lib.hid ho
  have HPO : Hid (putOut ps x = if o then wrAll ps x zeros8 else zeros8) := show _ = _ by unfold putOut; rw [ho]
  have HPE : Hid (putErr ps x = if o then 0 else 2) := show _ = _ by unfold putErr; rw [ho]
  rw [ho]
  clear ho
  have HXX : ∀ {q : Nat → Prop} {W W' : World}, Turn q W W' → (∀ k, q k → w.heap.size ≤ k) → Below w.heap.size w W → Below w.heap.size w W' := fun ht hq hb => hb.trans (ht.below hq hb.size)
  cases o with
  | false =>
    obtain ⟨W4, hst, hb4, ht4⟩ := HM3.out.store (P := Tryd.prog) (tt := 46) (Y := lnA zeros8) (by kernel_rfl) rfl (lnA_one _)
    have hlv := hb4.loadVar (tt := 46) Tryd.underlying46 rfl (by kernel_rfl)
    have HST : Hid ((Instr.storeAt 46 (.pointer (some ⟨w.heap.size + 1, 0, none⟩)) (.agg #[.int .u64 0, .int .u64 0, .int .u64 0, .int .u64 0, .int .u64 0, .int .u64 0, .int .u64 0, .int .u64 0])).run Tryd.prog w3 = .ok () W4) := show _ = _ from hst
    have HT4 := Lib.hid ht4
    have HLV := Lib.hid hlv
    clear hst hb4 ht4 hlv
    gi_wp2_with fail
    refine wpIn_goto ?_
    refine ⟨rfl, ?_⟩
    gi_wp2_with (first | (refine wpIn_label ?_) | (refine wpListIn_store_eq rfl 46 _ _ rfl _ _ rfl rfl HST.out ?_))
    rw [Exit.jump_ret]
    refine ⟨.tuple #[.agg (lnA zeros8), .int .i64 2], results_cell_tmp rfl rfl HLV.out rfl, by rw [HPO.out, HPE.out]; rfl, ?_⟩
    exact HXX HT4.out (fun k h => by omega) HB3.out
  | true =>
    gi_wp2_with fail
    refine ⟨trivial, ?_⟩
    refine (callsIn_wide.2 (HPT.out w3)).mono ?_
    rintro e w1 ⟨rfl, hw1⟩
    have hb1 : Below w3.heap.size w3 w1 := by rw [hw1]; exact (Below.refl _ _).alloc (Nat.le_refl _) _
    have hz1 : w1.heap.size = w3.heap.size + 1 := by rw [hw1, World.size_alloc]
    have HB1 : Hid (Below w.heap.size w w1) := show Below _ _ _ from HB3.out.trans (hb1.mono HB3.out.size)
    have hz3 := HZ3.out
    have hx1 := HX3.out.below hb1 (by omega)
    have hm1 := HM3.out.below hb1 (by omega)
    have hr1 := HR3.out.below hb1 (by omega)
    have hs1 : Boxed w1 w3.heap.size 49 (.slice (some ⟨g, 0, none⟩) N c) := by rw [hw1]; exact Boxed.new _ _ _
    have HSQ := Lib.hid ((HVE.out w1 w3.heap.size HB1.out hs1).seqF)
    have HI0 : Hid (PutIE w x w.heap.size (w.heap.size + 1 + 1) (w.heap.size + 1) [] (fun _ => False) w1) := show PutIE _ _ _ _ _ _ _ _ from ⟨⟨hx1, id⟩, ⟨hr1, id⟩, ⟨hm1, id⟩, ⟨HB1.out, HB1.out.size, fun _ h => h.elim⟩⟩
    have HZ1 := Lib.hid hz1
    clear hs1 hm1 hx1 hr1 hb1 hw1 hz1 HVE
    gi_wp2_with fail
    generalize hA : ({ tmps := _, defers := _ } : Act) = A0
    refine wpIn_range_F (n := 9) (by decide) (gf := 76) (lb := #[.pointer (some ⟨w3.heap.size, 0, none⟩)]) (by rw [← hA]; rfl) (enters_of Tryd.func76 (by kernel_rfl) rfl) HSQ.out
      (fun k hk => by have := HZ1.out; have := HGG.out; rcases hk with rfl | rfl <;> omega) (Below.refl _ _) (fun _ => rfl)
      (PutIE w x w.heap.size (w.heap.size + 1 + 1) (w.heap.size + 1)) (fun _ _ _ _ => False) (abides_putE _ _ _ _ _) (fun _ _ _ _ _ _ h _ _ => h) HI0.out
      (PartAxE A0 69 14 7 · (w1.heap.size + 2))
      (fun p a' W o ⟨b, e, hb, h⟩ => ⟨b, e, hb, (World.putObj_heap_other (by omega)).trans h⟩)
      ?assign ?body ?done ?stop
    case assign =>
      rintro l2 p W3 K hsz3 hK
      subst hA
      unfold encPart
      dsimp only
      gi_wp2_with fail
      refine hK _ _ ⟨W3.heap.size, rfl, hsz3, Tri.new _ _ _ _ _⟩ ((Below.refl _ _).alloc (Nat.le_refl _) _)
    case body =>
      rintro l2 pre p a' q2 W3 ⟨⟨hbx, hqx⟩, ⟨hbl, hql⟩, ⟨hbr, hqr⟩, hB⟩ hs2 hqb hsp ⟨b, rfl, hb, ht⟩
      subst hA
      have hmem : p ∈ ps := hsp.subset (by simp)
      have hpt := HP.out W3 hB.1 p hmem
      obtain ⟨-, c1, -, -, -, -⟩ := ht.cells
      have hlb := ht.lt
      have hokp : p.S.ok x = true := by
        have h := HO.out
        unfold okAll at h
        exact (List.all_eq_true.1 h) p hmem
      have HLD := Lib.hid (hbx.load (tt := 23) Tryd.underlying23 rfl (by rw [HSZ.out]; kernel_rfl))
      have HMB := Lib.hid ((HP.out w HBW.out p hmem).write x (wrAll pre x zeros8) (w.heap.size + 1 + 1) W3 HX.out hokp (HLN.out pre ((List.prefix_append _ _).trans hsp) HO.out) hB.1 (by omega) hbl)
      have e0 : ∀ args W, (callFunc p.f1 args).run Tryd.prog W = .ok (.enter p.f1 args) W := hpt.e1
      have HWA : Hid (wrAll (pre ++ [p]) x zeros8 = p.S.wr x (wrAll pre x zeros8)) := show _ = _ by rw [wrAll_append]; rfl
      obtain ⟨F, hF⟩ : ∃ F, p.f1 = F := ⟨_, rfl⟩
      obtain ⟨L, hL⟩ : ∃ L, p.l1 = L := ⟨_, rfl⟩
      unfold PartV.v1 at c1
      rw [hF, hL] at c1
      rw [hF] at e0
      rw [hF, hL] at HMB
      have HBX := Lib.hid hbx
      have HQX := Lib.hid hqx
      have HBR := Lib.hid hbr
      have HQR := Lib.hid hqr
      have HQL := Lib.hid hql
      have HBB := Lib.hid hB
      have HQB := Lib.hid hqb
      clear hpt hmem ht hF hL hbx hqx hbl hql hbr hqr hB hqb hsp hokp
      gi_wp2_with (refine wpListIn_load_eq rfl 23 _ rfl _ _ rfl HLD.out ?_)
      refine ⟨trivial, (CallsIn.inRound l2 (callsIn_wide.2 HMB.out)).mono ?_⟩
      rintro e w5 ⟨⟨u, rfl⟩, hb5, ht5⟩
      have HB5 := Lib.hid hb5
      have HT5 := Lib.hid ht5
      clear hb5 ht5 c1 e0
      gi_wp2_with fail
      refine ⟨⟨HT5.out.size, fun k hk hl => HT5.out.block k hl (fun h => ?_)⟩, ?_⟩
      · have h3 := HZ3.out
        rcases hk with (h2 | h2) | h2
        · have h4 : w.heap.size + 1 + 1 = w3.heap.size := h.symm.trans h2
          omega
        · have h4 : w.heap.size + 1 + 1 = g := h.symm.trans h2
          have := HGG.out
          omega
        · exact HQL.out (by rwa [show k = w.heap.size + 1 + 1 from h] at h2)
      · refine ⟨⟨HBX.out.turn HT5.out (by omega), HQX.out⟩, ⟨by rw [HWA.out]; exact HB5.out, HQL.out⟩, ⟨HBR.out.turn HT5.out (by omega), HQR.out⟩, HXX HT5.out (fun k h => by omega) HBB.out.1, Nat.le_trans HBB.out.2.1 HT5.out.size, HBB.out.2.2⟩
    case done =>
      rintro D ys W3 hD rfl ⟨-, ⟨hbl, hql⟩, ⟨hbr, hqr⟩, hB⟩ hK'
      subst hA
      have HLD := Lib.hid (hbl.load (tt := 46) Tryd.underlying46 rfl (by rw [lnA_size, (HLN.out ys (List.prefix_refl _) HO.out).1]; kernel_rfl))
      obtain ⟨W4, hst, hb4, ht4⟩ := hbr.store (P := Tryd.prog) (tt := 46) (Y := lnA (wrAll ys x zeros8)) (by rw [lnA_size, (HLN.out ys (List.prefix_refl _) HO.out).1]; kernel_rfl) (by rw [lnA_size, lnA_size, (HLN.out ys (List.prefix_refl _) HO.out).1]; rfl) (lnA_one _)
      have hD4 : W4.heap[D]? = some (.deferred (some [])) := (ht4.block D (Array.getElem?_eq_some_iff.1 hK').1 (fun h => hqr h.symm)).trans hK'
      have HST := Lib.hid hst
      have HB4 := Lib.hid hb4
      have HT4 := Lib.hid ht4
      have HBB := Lib.hid hB
      have HDD := Lib.hid hD
      have HK := Lib.hid hD4
      clear hst hb4 ht4 hB hD hD4 hK' hbl hql hbr hqr
      gi_wp2_with (first | (refine wpListIn_load_eq rfl 46 _ rfl _ _ rfl HLD.out ?_) | (refine wpListIn_store_eq rfl 46 _ _ rfl _ _ rfl rfl HST.out ?_))
      rw [Exit.jump_ret]
      refine leaves_one (D := D) HK.out fun W' ht hc => ?_
      have hb5 : Blk W' (w.heap.size + 1) 46 (lnA (wrAll ys x zeros8)) := hc _ _ _ _ HB4.out
      have hlv := hb5.loadVar (tt := 46) Tryd.underlying46 rfl (by rw [lnA_size, (HLN.out ys (List.prefix_refl _) HO.out).1]; kernel_rfl)
      refine ⟨.tuple #[.agg (lnA (wrAll ys x zeros8)), .int .i64 0], results_cell_tmp rfl rfl hlv rfl, by rw [HPO.out, HPE.out]; rfl, ?_⟩
      have h1 := HXX HT4.out (fun k h => by omega) HBB.out.1
      exact h1.trans (ht.below (B := w.heap.size) (fun k h => by have := HDD.out; have := HB1.out.size; omega) h1.size)
    case stop =>
      rintro D cd pre W3 hD hpre h
      exact h.elim
end Go.Proofs.YtfdnlgmgjmbafaaDoor

/-
  node: what reading a line of api.Entry does when it gives up, and when not. Written by gen_nd.py.
-/
namespace Go.Proofs.YtfdnlgmgjmbafaaDoor
open Go.RowKit Go.Shelf Go.Sort
attribute [local go_sem] Oper.semAt_some

def ndZeroE : Array Value := #[.int .i64 0, .int .i64 0, encStr []]
end Go.Proofs.YtfdnlgmgjmbafaaDoor

/-
  node: what a line of api.Entry is. Written by gen_nd.py.
-/
namespace Go.Proofs.YtfdnlgmgjmbafaaDoor
open Go.RowKit Go.Shelf Go.Sort
attribute [local go_sem] Oper.semAt_some

/-- In the rounds of get. -/
def GetIE (w : World) (l : List Int) (B X E : Nat) (pre : List PartV) (q : Nat → Prop) (W : World) : Prop :=
  (Blk W B 46 (lnA l) ∧ ¬ q B) ∧ (Blk W X 23 ((rdAll l pre ndZeroE).getD ndZeroE) ∧ ¬ q X) ∧ BoxF E 27 (.int .i64 0) q W ∧ BelowF w.heap.size w q W ∧ (rdAll l pre ndZeroE).isSome = true
theorem abides_getE (w : World) (l : List Int) (B X E : Nat) : Abides (GetIE w l B X E) := Abides.and (abides_blkF _ _ _) (Abides.and (abides_blkF X 23 (fun pre => (rdAll l pre ndZeroE).getD ndZeroE)) (Abides.and (Abides.box _ _ (fun _ => .int .i64 0)) (Abides.and (Abides.below _ _) (Abides.pure (fun pre : List PartV => (rdAll l pre ndZeroE).isSome = true)))))
/-- Where one gives up. -/
def GetPE (w : World) (l : List Int) (X E : Nat) (ch : List PanicEntry) (pre : List PartV) (q : Nat → Prop) (W : World) : Prop :=
  (Blk W X 23 ((rdAll l pre.dropLast ndZeroE).getD ndZeroE) ∧ ¬ q X) ∧ BoxF E 27 (.int .i64 0) q W ∧ BelowF w.heap.size w q W ∧ (ch = noLine ∧ rdAll l pre ndZeroE = none ∧ (rdAll l pre.dropLast ndZeroE).isSome = true)
theorem abides_getPE (w : World) (l : List Int) (X E : Nat) (ch : List PanicEntry) : Abides (GetPE w l X E ch) := Abides.and (abides_blkF X 23 (fun pre : List PartV => (rdAll l pre.dropLast ndZeroE).getD ndZeroE)) (Abides.and (Abides.box _ _ (fun _ => .int .i64 0)) (Abides.and (Abides.below _ _) (Abides.pure (fun pre : List PartV => ch = noLine ∧ rdAll l pre ndZeroE = none ∧ (rdAll l pre.dropLast ndZeroE).isSome = true))))
end Go.Proofs.YtfdnlgmgjmbafaaDoor

/-
  slices.Sort, slices.Compact at texts: laid at this program (written by gen_lays.py).
-/
namespace Go.Proofs.YtfdnlgmgjmbafaaDoor
open Go.RowKit Go.Sort Go.Shelf
end Go.Proofs.YtfdnlgmgjmbafaaDoor

/-
  A box that holds a row which grows in the rounds of a range.
-/
namespace Go.Proofs.YtfdnlgmgjmbafaaDoor
open Go.RowKit Go.Shelf

/-- A box that holds a row from n₁ on; neither is part of q. -/
def RowG (n₁ B : Nat) (t e : TypeId) (size n : Nat) (xs : List Value) (q : Nat → Prop) (W : World) : Prop :=
  ∃ v, Boxed W B t v ∧ W.ownsRow n₁ e size v n xs ∧ ¬ q B ∧ ∀ g, v.ownBlock = some g → ¬ q g
theorem own_keptG {W W' : World} {base : Nat} {e : TypeId} {size : Nat} {v : Value} {n : Nat} {xs : List Value} (h : W.ownsRow base e size v n xs) (hk : ∀ g, v.ownBlock = some g → g < W.heap.size → W'.heap[g]? = W.heap[g]?) : W'.ownsRow base e size v n xs := by
  obtain ⟨hl, h⟩ := h
  refine ⟨hl, h.imp id fun ⟨g, cap, cur, hv, hb, hg, hr⟩ => ⟨g, cap, cur, hv, hb, ?_, hr⟩⟩
  rw [hk g (by rw [hv]; rfl) (Array.getElem?_eq_some_iff.1 hg).1]; exact hg
theorem own_lowG {W : World} {base base' : Nat} {e : TypeId} {size : Nat} {v : Value} {n : Nat} {xs : List Value} (h : W.ownsRow base e size v n xs) (hb : base' ≤ base) : W.ownsRow base' e size v n xs :=
  ⟨h.1, h.2.imp id fun ⟨g, cap, cur, h1, h2, h3⟩ => ⟨g, cap, cur, h1, Nat.le_trans hb h2, h3⟩⟩
theorem abides_rowG {β : Type} (n₁ B : Nat) (t e : TypeId) (size : Nat) (k : β → Nat) (f : β → List Value) : Abides (fun s q W => RowG n₁ B t e size (k s) (f s) q W) := fun s q q' W W' ⟨v, hv, hr, hB, hg⟩ ht hq =>
  ⟨v, (ht.block B hv.lt hB).trans hv, own_keptG hr (fun g e hl => ht.block g hl (hg g e)), fun h => (hq B h).elim hB fun h2 => by have := hv.lt; omega, fun g e h => (hq g h).elim (hg g e) fun h2 => by have := (hr.lt g e).2; omega⟩
/-- An append in a round, and the store of the new slice into its box. -/
theorem row_appG {W w2 w : World} {n₀ n₁ B : Nat} {t e : TypeId} {size n m : Nat} {v v' : Value} {xs ys : List Value} {tmp : Obj} {p q : Nat → Prop}
    (hv : Boxed W B t v) (hte : t ≠ e) (hrow : W.ownsRow n₁ e size v n xs) (hqB : ¬ q B) (hqg : ∀ g, v.ownBlock = some g → ¬ q g) (hB : BelowF n₀ w q W) (hnB : n₀ ≤ B) (hn : n₀ ≤ n₁) (hq : ∀ k, q k → k < W.heap.size) (hpB : ¬ p B) (hp : ∀ k, n₁ ≤ k → ¬ p k)
    (own2 : w2.ownsRow n₁ e size v' m ys) (grow2 : (W.alloc tmp).grownBy w2 v.ownBlock) (at2 : v'.ownBlock = v.ownBlock ∨ v'.ownBlock = some (W.alloc tmp).heap.size) :
    Boxed w2 B t v ∧ Boxed (w2.setCell ⟨B, 0, none⟩ v') B t v' ∧ Keeps (fun k => p k ∨ q k) W (w2.setCell ⟨B, 0, none⟩ v') ∧ RowG n₁ B t e size m ys q (w2.setCell ⟨B, 0, none⟩ v') ∧ BelowF n₀ w q (w2.setCell ⟨B, 0, none⟩ v') := by
  obtain ⟨hv1, hv2, -, hk2, hb2⟩ := hv.appended hte (own_lowG hrow hn) hB.2.1 hnB (own_lowG own2 hn) grow2
  have hr2 : (w2.setCell ⟨B, 0, none⟩ v').ownsRow n₁ e size v' m ys := own2.kept (grownBy_setCell' w2 B v') (.inr (hv1.not_row hte own2).symm)
  refine ⟨hv1, hv2, ?_, ⟨v', hv2, hr2, hqB, fun g e hg => ?_⟩, ⟨hB.1.trans hb2, Nat.le_trans hB.2.1 hb2.size, hB.2.2⟩⟩
  · refine (Keeps.trans (B := W.alloc tmp) ⟨by simp, fun k _ hl => Below.heap_alloc _ _ _ hl⟩ (Keeps.of_grown grow2 (fun k e => ?_))).trans (Keeps.set w2 (b := B) (o := 0) _ ?_)
    · rintro (h | h)
      · exact hp k (hrow.lt k e).1 h
      · exact hqg k e h
    · rintro (h | h)
      · exact hpB h
      · exact hqB h
  · rcases at2 with h | h
    · exact hqg g (by rw [← h]; exact e) hg
    · rw [h] at e
      simp only [Option.some.injEq] at e
      have := hq g hg
      simp at e
      omega
end Go.Proofs.YtfdnlgmgjmbafaaDoor

/-
  label: a text's bytes as an iterator; first.
-/
namespace Go.Proofs.YtfdnlgmgjmbafaaDoor
open Go.RowKit Go.Shelf Go.Sort
attribute [local go_sem] Oper.semAt_some

theorem laBytes_any (s : List UInt8) (w : World) :
    Calls Tryd.prog 86 #[encStr s] w fun e w' => ∃ p g c, e = .returned (.func (.func 101) #[] #[.pointer (some ⟨p, 0, none⟩)]) ∧
      Boxed w' p 149 (.slice (some ⟨g, 0, none⟩) s.length c) ∧ Sl w' .u8 (.slice (some ⟨g, 0, none⟩) s.length c) (bsN s) ∧ w.heap.size ≤ p ∧ w.heap.size ≤ g ∧ g < w'.heap.size ∧ Below w.heap.size w w' := by
  have hcv := fun W => conv_bytes 126 Tryd.underlying126 s W
  have hv : Calls Tryd.prog 94 #[.slice (some ⟨w.heap.size, 0, none⟩) s.length (capC w s)] (bytesW w s) fun e w' => e = .returned (.func (.func 101) #[] #[.pointer (some ⟨(bytesW w s).heap.size, 0, none⟩)]) ∧ w' = (bytesW w s).alloc (.cells #[.slice (some ⟨w.heap.size, 0, none⟩) s.length (capC w s)] 149) := by
    generalize bytesW w s = W
    go_enter Tryd.func94, Tryd.ntmps94
    go_wp2
    go_ret
    exact ⟨rfl, rfl⟩
  have HV := Lib.hid hv
  clear hv
  go_enter Tryd.func86, Tryd.ntmps86
  go_wp2_with fail
  refine HV.out.mono ?_
  rintro e w1 ⟨rfl, rfl⟩
  go_wp2_with fail
  go_ret
  have hb1 : Below (bytesW w s).heap.size (bytesW w s) ((bytesW w s).alloc (.cells #[.slice (some ⟨w.heap.size, 0, none⟩) s.length (capC w s)] 149)) := (Below.refl _ _).alloc (Nat.le_refl _) _
  have hz := bytesW_size w s
  exact ⟨_, _, _, rfl, Boxed.new _ _ _, (bytesW_sl w s).below hb1, by omega, Nat.le_refl _, by rw [World.size_alloc]; omega, (bytesW_below w s).trans (hb1.mono (by omega))⟩
abbrev encB (x : Nat) : Array Value := #[.int .u8 (x : Nat)]
def vaP (p g : Nat) (k : Nat) : Prop := k = p ∨ k = g
set_option maxRecDepth 100000 in
set_option maxHeartbeats 4000000 in
theorem values_seq (n : Nat) (_ : 1 ≤ n) {p g c : Nat} {xs : List Nat} (w : World) (hbx : Boxed w p 149 (.slice (some ⟨g, 0, none⟩) xs.length c)) (hs : Sl w .u8 (.slice (some ⟨g, 0, none⟩) xs.length c) xs) (hg : g < w.heap.size) (hl : xs.length ≤ 140737488355328) :
    SeqF (vaP p g) n Tryd.prog 101 #[.pointer (some ⟨p, 0, none⟩)] encB (fun ys => ys = xs) (fun pre => pre <+: xs) w := fun lp J Jx W hW hJ hJx hY h0 => by
  have c0 : W.cell? ⟨p, 0, none⟩ = some (.slice (some ⟨g, 0, none⟩) xs.length c) := Boxed.cell ((hW.block _ hbx.lt).trans hbx)
  have HC := Lib.hid (fun (k : Nat) (hk : k < xs.length) => show W.cell? ⟨g, k, none⟩ = some (.int .u8 (xs[k]?.getD 0 : Nat)) from by
    obtain ⟨a', cap', e0, -, h⟩ := hs
    obtain ⟨b, off, ea, hlt, hj⟩ := h (by omega)
    simp only [Value.slice.injEq] at e0
    obtain ⟨rfl, -, -⟩ := e0
    simp only [Option.some.injEq, Addr.mk.injEq, and_true] at ea
    obtain ⟨rfl, rfl⟩ := ea
    have := hj k hk
    rw [Nat.zero_add] at this
    exact (hW.cell (p := ⟨g, k, none⟩) hg).trans this)
  have hgW : g < W.heap.size := Nat.lt_of_lt_of_le hg hW.size
  have HY := Lib.hid hY
  clear hY hJ hJx hs hbx hW
  obtain ⟨M, hM⟩ : ∃ M, xs.length = M := ⟨_, rfl⟩
  have HM := Lib.hid hM
  rw [hM] at c0 HC hl
  have HT := Lib.hid (fun (k : Nat) (hk : k < M) => show xs.take k ++ [xs[k]?.getD 0] = xs.take (k + 1) from by
    rw [List.take_succ_eq_append_getElem (by omega), List.getElem?_eq_getElem (by omega)]; rfl)
  clear hM
  refine callsIn_of_wp Tryd.func101 rfl trivial ?_ rfl
  simp only [Tryd.ntmps101, List.size_toArray, List.length_cons, List.length_nil, Nat.reduceAdd, Nat.reduceSub, Array.replicate_succ, Array.replicate_zero, List.push_toArray, List.append_toArray, List.nil_append, List.cons_append]
  gi_wp2_with fail
  gi_loopw [7] (fun i wr => ∃ k : Nat, k ≤ M ∧ i = .int .i64 (k : Nat) ∧ Hid (J (xs.take k) (fun _ => False) wr) ∧ Hid (Keeps (vaP p g) W wr)) (fun i _ => M - (intOf i).toNat)
  case atStart => exact ⟨0, Nat.zero_le _, rfl, Lib.hid (by simpa using h0), Lib.hid (Keeps.refl _ _)⟩
  case round =>
    obtain ⟨k, hk, rfl, HJs, HKP⟩ := hrel
    clear c0
    by_cases hlt : k < M
    · have ck := (World.cell?_of_block (a := ⟨g, k, none⟩) (HKP.out.2 g (.inr rfl) hgW)).trans (HC.out k hlt)
      have HF := Lib.hid (HT.out k hlt)
      obtain ⟨fn, tmps, assign, body, hy, hR⟩ := HY.out _ (xs[k]?.getD 0) _ _ HJs.out HKP.out.1 (fun q h => h.elim) (by rw [HF.out]; exact List.take_prefix _ _)
      rw [HF.out] at hR
      have HR := Lib.hid hR
      unfold encB at hy
      obtain ⟨z, hz⟩ : ∃ z, xs[k]?.getD 0 = z := ⟨_, rfl⟩
      rw [hz] at hy ck
      have k2 : (k : Int) < (M : Int) := by omega
      clear hR hz
      gi_wp2_with fail
      refine HR.out.mono ?_
      rintro e W3 ⟨hk3, ⟨rfl, hJ3⟩ | ⟨rfl, hJx3⟩⟩
      · have HKP3 : Hid (Keeps (vaP p g) W W3) := show Keeps _ _ _ from HKP.out.trans (hk3.weaken fun k h => .inl h)
        have HJ3 := Lib.hid hJ3
        clear hy hk3 hJ3 ck
        gi_wp2_with fail
        go_roundw
        case rel => exact ⟨k + 1, by omega, by go_num, HJ3, HKP3⟩
        case measure => simp [intOf]; omega
      · clear hy ck
        gi_wp2_with fail
        refine bodyPost_ret (results_none rfl _ _ _) rfl ?_
        exact ⟨⟨_, rfl⟩, .inr ⟨_, List.take_prefix _ _, hJx3⟩⟩
    · obtain rfl : k = M := by omega
      gi_wp2_with fail
      go_end0
      exact ⟨⟨_, rfl⟩, .inl ⟨_, by rw [List.take_of_length_le (by rw [HM.out]; exact Nat.le_refl _)], HJs.out⟩⟩
end Go.Proofs.YtfdnlgmgjmbafaaDoor

/-
  Contracts of word's split (words into bytes) and of slices.ContainsFunc at its predicate.
-/
namespace Go.Proofs.YtfdnlgmgjmbafaaDoor
open Go.RowKit Go.Shelf

theorem infoU8 : (Tryd.prog.info? 5).map (fun i => (i.zero, i.size, i.bytes)) = some (some (.int .u8 0), 1, 1) := by kernel_rfl
theorem byte_div (x k : Nat) : (((x / 2 ^ (8 * k) : Nat)) : Int) % 256 = (WM.getN x (8 * k) 8 : Nat) := by
  unfold WM.getN
  rw [Int.natCast_emod]; rfl
theorem div_next (x k : Nat) : ((x / 2 ^ (8 * k) : Nat) : Int) / 256 = ((x / 2 ^ (8 * (k + 1)) : Nat) : Int) := by
  have : x / 2 ^ (8 * (k + 1)) = x / 2 ^ (8 * k) / 256 := by
    rw [Nat.div_div_eq_div_mul]; congr 1
    rw [show 8 * (k + 1) = 8 * k + 8 by omega, Nat.pow_add]
  rw [this]; omega
/-- The bytes of a word, as values. -/
def byteVals (x : Nat) (k : Nat) : List Value := (List.range k).map fun j => Value.int .u8 (WM.getN x (8 * j) 8 : Nat)
theorem byteVals_succ (x k : Nat) : byteVals x (k + 1) = byteVals x k ++ [.int .u8 (WM.getN x (8 * k) 8 : Nat)] := by unfold byteVals; rw [List.range_succ, List.map_append]; rfl
set_option maxRecDepth 100000 in
set_option maxHeartbeats 4000000 in
theorem split1_any (x m n₀ : Nat) (g cap : Nat) (ys : List Value) (hx : x < 18446744073709551616) (hm : m ≤ 32768) (w : World) (hn : n₀ ≤ w.heap.size) (hown : w.ownsRow n₀ 5 1 (.slice (some ⟨g, 0, none⟩) m cap) m ys) :
    Calls Tryd.prog 99 #[.slice (some ⟨g, 0, none⟩) m cap, .int .u64 x] w fun e w' => ∃ g' cap', e = .returned (.slice (some ⟨g', 0, none⟩) (m + 8) cap') ∧ w'.ownsRow n₀ 5 1 (.slice (some ⟨g', 0, none⟩) (m + 8) cap') (m + 8) (ys ++ byteVals x 8) ∧ Below n₀ w w' := by
  obtain ⟨i0, hi, hz0, hz1, hz2⟩ := info_parts infoU8
  go_enter Tryd.func99, Tryd.ntmps99
  go_wp2
  go_loopw [0, 1, 5] (fun v y i wr => ∃ (k g' cap' : Nat), k ≤ 8 ∧ i = .int .i64 k ∧ y = .int .u64 ((x / 2 ^ (8 * k) : Nat)) ∧ v = .slice (some ⟨g', 0, none⟩) (m + k) cap' ∧ wr.ownsRow n₀ 5 1 (.slice (some ⟨g', 0, none⟩) (m + k) cap') (m + k) (ys ++ byteVals x k) ∧ Below n₀ w wr) (fun _ _ i _ => 8 - (intOf i).toNat)
  case atStart => exact ⟨0, g, cap, by omega, rfl, by simp, rfl, by simpa [byteVals] using hown, Below.refl _ _⟩
  case round =>
    obtain ⟨k, g', cap', hk, rfl, rfl, rfl, hrow, hb⟩ := hrel
    have z := hb.size
    by_cases hlt : k < 8
    · have HB := Lib.hid (byte_div x k)
      have HD := Lib.hid (div_next x k)
      have HS := Lib.hid (byteVals_succ x k)
      have hyb : x / 2 ^ (8 * k) < 18446744073709551616 := Nat.lt_of_le_of_lt (Nat.div_le_self _ _) hx
      generalize hye : x / 2 ^ (8 * k) = y at *
      go_wp2_with (at_builtin; refine wpList_append_own _ rfl _ _ 149 rfl n₀ 5 i0 (.int .u8 0) 1 1 Tryd.underlying149 hi hz0 hz1 hz2 rfl (by decide) (.slice (some ⟨g', 0, none⟩) (m + k) cap') _ _ rfl (hrow.alloc _) ⟨wr.heap.size, 0, none⟩ 1 1 [.int .u8 ((y : Int) % 256)] rfl rfl (cell_one_new _ _ _) (by simp [Value.oneCell']) (by unfold maxLen; omega) (by omega) (by simp; omega) ?_; intro v' w1 hown' hgrow _)
      have hg0 := hrow.lt g' rfl
      go_roundw
      case rel =>
        obtain ⟨g2, cap2, rfl⟩ := ownsRow_succ hown'
        refine ⟨k + 1, g2, cap2, by omega, by go_num, by rw [HD.out], rfl, ?_, ?_⟩
        · rw [HS.out, ← HB.out, ← List.append_assoc]; exact hown'
        · exact (hb.alloc (by omega) _).grown hgrow (by simp; omega) (fun j e => by simp [Value.ownBlock] at e; omega)
      case measure => simp [intOf]; omega
    · obtain rfl : k = 8 := by omega
      go_wp2
      go_ret
      exact ⟨g', cap', rfl, hrow, hb⟩
/-- The bytes of the first k words, as values. -/
def splitVals (l : List Nat) : Nat → List Value
  | 0 => []
  | k + 1 => splitVals l k ++ byteVals (l[k]?.getD 0) 8
theorem splitVals_eq (l : List Nat) : ∀ k, splitVals l k = (List.range (8 * k)).map fun j => Value.int .u8 (WM.byteAt l j : Nat)
  | 0 => rfl
  | k + 1 => by
    rw [splitVals, splitVals_eq l k, show 8 * (k + 1) = 8 * k + 8 by omega, List.range_add, List.map_append]
    congr 1
    unfold byteVals
    rw [List.map_map]
    apply List.map_congr_left
    intro j hj
    have hj8 : j < 8 := List.mem_range.1 hj
    show Value.int .u8 _ = Value.int .u8 (WM.byteAt l (8 * k + j) : Nat)
    unfold WM.byteAt
    rw [show (8 * k + j) / 8 = k by omega, show (8 * k + j) % 8 = j by omega]
def Words64 (l : List Nat) : Prop := ∀ i : Nat, l[i]?.getD 0 < 18446744073709551616
set_option maxHeartbeats 1000000 in
theorem fold2_any (v : Value) (l : List Nat) (n₀ g cap : Nat) (hl : l.length ≤ 4096) (h64 : Words64 l) (w : World) (hn : n₀ ≤ w.heap.size) (hs : Sl w .u64 v l) (hlow : ∀ b off c, v = .slice (some ⟨b, off, none⟩) l.length c → 0 < l.length → b < n₀)
    (hown : w.ownsRow n₀ 5 1 (.slice (some ⟨g, 0, none⟩) 0 cap) 0 []) :
    Calls Tryd.prog 98 #[.slice (some ⟨g, 0, none⟩) 0 cap, v, .func (.func 99) #[] #[]] w fun e w' => ∃ g' cap', e = .returned (.slice (some ⟨g', 0, none⟩) (8 * l.length) cap') ∧ w'.ownsRow n₀ 5 1 (.slice (some ⟨g', 0, none⟩) (8 * l.length) cap') (8 * l.length) (splitVals l l.length) ∧ Below n₀ w w' := by
  obtain ⟨a, c, b, off, rfl, hlc, ha, hc⟩ := hs.cell
  clear hs
  have HC := Lib.hid hc; clear hc
  have HLow := Lib.hid hlow; clear hlow
  generalize hm : l.length = m at *
  have HM := Lib.hid hm; clear hm
  have h1 : (m : Int) ≤ 4096 := by omega
  go_enter Tryd.func98, Tryd.ntmps98
  go_wp2
  go_loopw [0, 8, 11] (fun v _ i wr => ∃ (k g' cap' : Nat), k ≤ m ∧ i = .int .i64 k ∧ v = .slice (some ⟨g', 0, none⟩) (8 * k) cap' ∧ wr.ownsRow n₀ 5 1 (.slice (some ⟨g', 0, none⟩) (8 * k) cap') (8 * k) (splitVals l k) ∧ Below n₀ w wr) (fun _ _ i _ => m - (intOf i).toNat)
  case atStart => exact ⟨0, g, cap, by omega, rfl, rfl, hown, Below.refl _ _⟩
  case round =>
    obtain ⟨k, g', cap', hk, rfl, rfl, hrow, hb⟩ := hrel
    have z := hb.size
    by_cases hlt : k < m
    · obtain rfl := ha (by omega)
      have hbn := HLow.out b off c rfl (by omega)
      have c1 : wr.cell? ⟨b, off + k, none⟩ = some (.int .u64 (l[k]?.getD 0 : Nat)) := (hb.cell (p := ⟨b, off + k, none⟩) hbn).trans ((HC.out (by omega)).2 k hlt)
      have hx := h64 k
      obtain ⟨x, hx1⟩ : ∃ x, x = l[k]?.getD 0 := ⟨_, rfl⟩
      rw [← hx1] at c1 hx
      have hsp := Lib.hid (split1_any x (8 * k) n₀ g' cap' (splitVals l k) hx (by omega) wr (by omega) hrow)
      have HX := Lib.hid hx1; clear hx1
      go_wp2_with fail
      refine hsp.out.mono ?_
      rintro e w1 ⟨g2, cap2, rfl, hrow2, hb2⟩
      go_wp2_with fail
      go_roundw
      case rel => exact ⟨k + 1, g2, cap2, by omega, by go_num, rfl, by rw [splitVals, ← HX.out]; exact hrow2, hb.trans hb2⟩
      case measure => simp [intOf]; omega
    · obtain rfl : k = m := by omega
      go_wp2
      go_ret
      exact ⟨g', cap', rfl, hrow, hb⟩
theorem split_any (v : Value) (l : List Nat) (hl : l.length ≤ 4096) (h64 : Words64 l) (w : World) (hs : Sl w .u64 v l) :
    Calls Tryd.prog 91 #[v] w fun e w' => ∃ g' cap', e = .returned (.slice (some ⟨g', 0, none⟩) (8 * l.length) cap') ∧ w'.ownsRow w.heap.size 5 1 (.slice (some ⟨g', 0, none⟩) (8 * l.length) cap') (8 * l.length) (splitVals l l.length) ∧ Below w.heap.size w w' := by
  obtain ⟨i0, hi, hz0, hz1, hz2⟩ := info_parts infoU8
  have hlow : ∀ b off c, v = .slice (some ⟨b, off, none⟩) l.length c → 0 < l.length → b < w.heap.size := by
    rintro b off c rfl h0
    obtain ⟨a, cap, e, _, h⟩ := hs
    obtain ⟨b', off', ea, hlt, _⟩ := h h0
    simp only [Value.slice.injEq] at e
    obtain ⟨e1, _, _⟩ := e
    rw [ea] at e1; simp at e1; omega
  have HF : ∀ (w1 : World) (g cap : Nat), Below w.heap.size w w1 → w1.ownsRow w.heap.size 5 1 (.slice (some ⟨g, 0, none⟩) 0 cap) 0 [] → Calls Tryd.prog 98 #[.slice (some ⟨g, 0, none⟩) 0 cap, v, .func (.func 99) #[] #[]] w1 fun e w' => ∃ g' cap', e = .returned (.slice (some ⟨g', 0, none⟩) (8 * l.length) cap') ∧ w'.ownsRow w.heap.size 5 1 (.slice (some ⟨g', 0, none⟩) (8 * l.length) cap') (8 * l.length) (splitVals l l.length) ∧ Below w.heap.size w1 w' :=
    fun w1 g cap hb ho => fold2_any v l w.heap.size g cap hl h64 w1 hb.size (hs.below hb) hlow ho
  have HF' := Lib.hid HF; clear HF hlow
  obtain ⟨a, c, b, off, rfl, -, -, -⟩ := hs.cell
  clear hs
  have h1 : (l.length : Int) ≤ 4096 := by omega
  go_enter Tryd.func91, Tryd.ntmps91
  go_wp2_with (at_make; refine wpList_make_own _ rfl _ _ 149 rfl w.heap.size 5 i0 (.int .u8 0) 1 Tryd.underlying149 hi hz0 hz1 .i64 .i64 _ (8 * l.length) rfl rfl (by simp) (by rw [hz2]; omega) (by unfold maxLen; omega) (by omega) ?_; intro w2 hown2 hgrow2)
  have b2 : Below w.heap.size w w2 := (Below.refl _ _).grown hgrow2 (Nat.le_refl _) (fun k e => by cases e)
  refine (HF'.out _ _ _ b2 hown2).mono ?_
  rintro e w3 ⟨g', cap', rfl, hrow3, hb3⟩
  go_wp2_with fail
  go_ret
  exact ⟨g', cap', rfl, hrow3, b2.trans hb3⟩
end Go.Proofs.YtfdnlgmgjmbafaaDoor
