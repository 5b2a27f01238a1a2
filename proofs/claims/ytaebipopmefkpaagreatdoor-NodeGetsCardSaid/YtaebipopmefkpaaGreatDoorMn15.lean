/-
  Texts NdCM to NdGM, as one.
-/
import Derived.Test.YtaebipopmefkpaaGreatDoorMn14
import Derived.RangeFuncCalls
import Derived.Laws.EntriesVeiled
import Derived.RecoverIn
import Derived.Deep.WholeRow
/-
  node: the parts of a line of api.Map as an iterator. Written by gen_nd.py.
-/
namespace Go.Proofs.YtaebipopmefkpaaGreatDoor
open Go.RowKit Go.Shelf Go.Sort
attribute [local go_sem] Oper.semAt_some

def ndOwnM (p g : Nat) (k : Nat) : Prop := k = p ∨ k = g
/-- A slice of parts. -/
structure KindAtM (w : World) (v : Value) (ps : List PartV) : Prop where
  at_ : ∃ g c, v = .slice (some ⟨g, 0, none⟩) ps.length c ∧ g < w.heap.size ∧ ∀ k (hk : k < ps.length), w.cell? ⟨g, k * 3, none⟩ = some ps[k].v0 ∧ w.cell? ⟨g, k * 3 + 1, none⟩ = some ps[k].v1 ∧ w.cell? ⟨g, k * 3 + 2, none⟩ = some ps[k].v2
  most : ps.length ≤ 100
theorem KindAtM.below {w w' : World} {v : Value} {ps : List PartV} (h : KindAtM w v ps) (hb : Below w.heap.size w w') : KindAtM w' v ps := by
  obtain ⟨⟨g, c, hv, hg, hc⟩, hm⟩ := h
  exact ⟨⟨g, c, hv, Nat.lt_of_lt_of_le hg hb.size, fun k hk => by
    obtain ⟨h1, h2, h3⟩ := hc k hk
    exact ⟨(hb.cell (p := ⟨g, k * 3, none⟩) hg).trans h1, (hb.cell (p := ⟨g, k * 3 + 1, none⟩) hg).trans h2, (hb.cell (p := ⟨g, k * 3 + 2, none⟩) hg).trans h3⟩⟩, hm⟩
set_option maxRecDepth 100000 in
set_option maxHeartbeats 4000000 in
theorem valuesE_M (n : Nat) (_ : 1 ≤ n) {p g c : Nat} {ps : List PartV} (w : World) (hbx : Boxed w p 72 (.slice (some ⟨g, 0, none⟩) ps.length c)) (hg : g < w.heap.size)
    (hc : ∀ k (hk : k < ps.length), w.cell? ⟨g, k * 3, none⟩ = some ps[k].v0 ∧ w.cell? ⟨g, k * 3 + 1, none⟩ = some ps[k].v1 ∧ w.cell? ⟨g, k * 3 + 2, none⟩ = some ps[k].v2) (hl : ps.length ≤ 100) :
    SeqE (ndOwnM p g) n Tryz.prog 133 #[.pointer (some ⟨p, 0, none⟩)] encPart (fun ys => ys = ps) (fun pre => pre <+: ps) w := fun lp J Jx Jp W hW hJ hJx hJp hY h0 => by
  have c0 : W.cell? ⟨p, 0, none⟩ = some (.slice (some ⟨g, 0, none⟩) ps.length c) := Boxed.cell ((hW.block _ hbx.lt).trans hbx)
  have HC := Lib.hid (fun k (hk : k < ps.length) => show W.cell? ⟨g, k * 3, none⟩ = some ps[k].v0 ∧ W.cell? ⟨g, k * 3 + 1, none⟩ = some ps[k].v1 ∧ W.cell? ⟨g, k * 3 + 2, none⟩ = some ps[k].v2 from by
    obtain ⟨h1, h2, h3⟩ := hc k hk
    exact ⟨(hW.cell (p := ⟨g, k * 3, none⟩) hg).trans h1, (hW.cell (p := ⟨g, k * 3 + 1, none⟩) hg).trans h2, (hW.cell (p := ⟨g, k * 3 + 2, none⟩) hg).trans h3⟩)
  have hgW : g < W.heap.size := Nat.lt_of_lt_of_le hg hW.size
  have HY := Lib.hid hY
  have HJA := Lib.hid hJ
  clear hY hJ hJx hJp hc hbx hW
  obtain ⟨M, hM⟩ : ∃ M, ps.length = M := ⟨_, rfl⟩
  have HM := Lib.hid hM
  rw [hM] at c0 hl
  have HT := Lib.hid (fun (k : Nat) (hk : k < ps.length) => show ps.take k ++ [ps[k]] = ps.take (k + 1) from by
    rw [List.take_succ_eq_append_getElem hk])
  clear hM
  refine callsIn_of_wp Tryz.func133 rfl trivial ?_ rfl
  simp only [Tryz.ntmps133, List.size_toArray, List.length_cons, List.length_nil, Nat.reduceAdd, Nat.reduceSub, Array.replicate_succ, Array.replicate_zero, List.push_toArray, List.append_toArray, List.nil_append, List.cons_append]
  gi_wp2_with fail
  gi_loopw [7] (fun i wr => ∃ k : Nat, k ≤ M ∧ i = .int .i64 (k : Nat) ∧ Hid (J (ps.take k) (fun _ => False) wr) ∧ Hid (Keeps (ndOwnM p g) W wr)) (fun i _ => M - (intOf i).toNat)
  case atStart => exact ⟨0, Nat.zero_le _, rfl, Lib.hid (by simpa using h0), Lib.hid (Keeps.refl _ _)⟩
  case round =>
    obtain ⟨k, hk, rfl, HJs, HKP⟩ := hrel
    clear c0
    by_cases hlt : k < M
    · have hkp : k < ps.length := by rw [HM.out]; exact hlt
      obtain ⟨d0, d1, d2⟩ := HC.out k hkp
      have hbk := HKP.out.2 g (.inr rfl) hgW
      have ck0 := (World.cell?_of_block (a := ⟨g, k * 3, none⟩) hbk).trans d0
      have ck1 := (World.cell?_of_block (a := ⟨g, k * 3 + 1, none⟩) hbk).trans d1
      have ck2 := (World.cell?_of_block (a := ⟨g, k * 3 + 2, none⟩) hbk).trans d2
      clear d0 d1 d2 hbk
      have HF := Lib.hid (HT.out k hkp)
      obtain ⟨z0, hz0⟩ : ∃ z, ps[k].f0 = z := ⟨_, rfl⟩
      obtain ⟨y0, hy0⟩ : ∃ z, ps[k].l0 = z := ⟨_, rfl⟩
      obtain ⟨z1, hz1⟩ : ∃ z, ps[k].f1 = z := ⟨_, rfl⟩
      obtain ⟨y1, hy1⟩ : ∃ z, ps[k].l1 = z := ⟨_, rfl⟩
      obtain ⟨z2, hz2⟩ : ∃ z, ps[k].f2 = z := ⟨_, rfl⟩
      obtain ⟨y2, hy2⟩ : ∃ z, ps[k].l2 = z := ⟨_, rfl⟩
      have hbv : Below wr.heap.size wr (wr.alloc (.cells #[.func (.func z0) #[] y0, .func (.func z1) #[] y1, .func (.func z2) #[] y2] 138)) := (Below.refl _ _).alloc (Nat.le_refl _) _
      have HKV : Hid (Keeps (ndOwnM p g) W (wr.alloc (.cells #[.func (.func z0) #[] y0, .func (.func z1) #[] y1, .func (.func z2) #[] y2] 138))) := show Keeps _ _ _ from HKP.out.trans ⟨hbv.size, fun k _ hl => hbv.block k hl⟩
      obtain ⟨fn, tmps, assign, body, hy, hR⟩ := HY.out _ ps[k] (fun _ => False) _ (HJA.out _ _ (fun _ => False) _ _ HJs.out (Turn.of_below hbv (Nat.le_refl _)) (fun k h => h.elim)) HKV.out.1 (fun q h => h.elim) (by rw [HF.out]; exact List.take_prefix _ _)
      rw [HF.out] at hR
      have HR := Lib.hid hR
      unfold encPart PartV.v0 PartV.v1 PartV.v2 at hy
      unfold PartV.v0 at ck0
      unfold PartV.v1 at ck1
      unfold PartV.v2 at ck2
      rw [hz0, hy0, hz1, hy1, hz2, hy2] at hy
      rw [hz0, hy0] at ck0
      rw [hz1, hy1] at ck1
      rw [hz2, hy2] at ck2
      have k2 : (k : Int) < (M : Int) := by omega
      clear hR hz0 hz1 hz2 hy0 hy1 hy2 HF hbv
      gi_wp2_with fail
      refine HR.out.mono ?_
      rintro e W3 (⟨hk3, ⟨rfl, hJ3⟩ | ⟨rfl, hJx3⟩⟩ | ⟨ch, rfl, hp3⟩)
      · have HKP3 : Hid (Keeps (ndOwnM p g) W W3) := show Keeps _ _ _ from HKV.out.trans (hk3.weaken fun k h => .inl h)
        have HJ3 := Lib.hid hJ3
        clear hy hk3 hJ3 ck0 ck1 ck2
        gi_wp2_with fail
        go_roundw
        case rel => exact ⟨k + 1, by omega, by go_num, HJ3, HKP3⟩
        case measure => simp [intOf]; omega
      · clear hy ck0 ck1 ck2
        gi_wp2_with fail
        refine bodyPost_ret (results_none rfl _ _ _) rfl ?_
        exact .inl ⟨⟨_, rfl⟩, .inr ⟨_, List.take_prefix _ _, hJx3⟩⟩
      · clear hy ck0 ck1 ck2
        gi_wp2_with fail
        exact ⟨rfl, .inr ⟨ch, _, rfl, List.take_prefix _ _, hp3⟩⟩
    · obtain rfl : k = M := by omega
      gi_wp2_with fail
      go_end0
      exact .inl ⟨⟨_, rfl⟩, .inl ⟨_, by rw [List.take_of_length_le (by rw [HM.out]; exact Nat.le_refl _)], HJs.out⟩⟩
theorem parts_M (a : Option Addr) (n c : Nat) (w : World) : Calls Tryz.prog 60 #[.slice a n c] w fun e w' => e = .returned (.func (.func 133) #[] #[.pointer (some ⟨w.heap.size, 0, none⟩)]) ∧ w' = w.alloc (.cells #[.slice a n c] 72) := by
  go_enter Tryz.func60, Tryz.ntmps60
  go_wp2
  go_ret
  exact ⟨rfl, rfl⟩
end Go.Proofs.YtaebipopmefkpaaGreatDoor

/-
  node: may a line of api.Map be. Written by gen_nd.py.
-/
namespace Go.Proofs.YtaebipopmefkpaaGreatDoor
open Go.RowKit Go.Shelf Go.Sort
attribute [local go_sem] Oper.semAt_some

/-- What a round of a range over parts begins with. -/
def PartAxM (A0 : Act) (t s u : Nat) (p : PartV) (n : Nat) (a' : Act) (W : World) : Prop :=
  ∃ b, a' = { tmps := (A0.tmps.setIfInBounds s (.agg #[p.v0, p.v1, p.v2])).setIfInBounds u (.pointer (some ⟨b, 0, none⟩)), defers := [] } ∧ n ≤ b ∧ Tri W b t p.v0 p.v1 p.v2
/-- In the rounds of mayBe. -/
def MayIM (w : World) (x : Array Value) (b : Nat) (X : Nat) (pre : List PartV) (q : Nat → Prop) (W : World) : Prop :=
  (Blk W X 36 x ∧ ¬ q X) ∧ BoxF b 4 (.bool true) q W ∧ BelowF w.heap.size w q W ∧ okAll pre x = true
theorem abides_mayM (w : World) (x : Array Value) (b X : Nat) : Abides (MayIM w x b X) := Abides.and (abides_blk _ _ _) (Abides.and (Abides.box _ _ (fun _ => .bool true)) (Abides.and (Abides.below _ _) (Abides.pure (fun pre : List PartV => okAll pre x = true))))
def MayXM (w : World) (x : Array Value) (b : Nat) (cd : Code) (pre : List PartV) (q : Nat → Prop) (W : World) : Prop :=
  (cd = .exit 0 ∧ okAll pre x = false) ∧ BoxF b 4 (.bool false) q W ∧ BelowF w.heap.size w q W
theorem abides_mayXM (w : World) (x : Array Value) (b : Nat) (cd : Code) : Abides (MayXM w x b cd) := Abides.and (Abides.pure (fun pre : List PartV => cd = .exit 0 ∧ okAll pre x = false)) (Abides.and (Abides.box _ _ (fun _ => .bool false)) (Abides.below _ _))
set_option maxRecDepth 100000 in
set_option maxHeartbeats 4000000 in
theorem mayK_M {Good : Array Value → Prop} {v : Value} {ps : List PartV} (x : Array Value) (hx : Good x) (hsz : x.size = 8) (w : World) (hk : KindAtM w v ps) (hp : ∀ p ∈ ps, NdPart Good 36 w p) :
    Calls Tryz.prog 107 #[v, .agg x] w fun e w' => e = .returned (.bool (okAll ps x)) ∧ Below w.heap.size w w' := by
  obtain ⟨⟨g, c, rfl, hg, hc⟩, hl⟩ := hk
  have HVE := Lib.hid (fun (W : World) (p : Nat) (hb : Below w.heap.size w W) (hbx : Boxed W p 72 (.slice (some ⟨g, 0, none⟩) ps.length c)) => valuesE_M 8 (by decide) (p := p) W hbx (Nat.lt_of_lt_of_le hg hb.size) (fun k hk => by
    obtain ⟨h1, h2, h3⟩ := hc k hk
    exact ⟨(hb.cell (p := ⟨g, k * 3, none⟩) hg).trans h1, (hb.cell (p := ⟨g, k * 3 + 1, none⟩) hg).trans h2, (hb.cell (p := ⟨g, k * 3 + 2, none⟩) hg).trans h3⟩) hl)
  clear hc hl
  obtain ⟨N, hN⟩ : ∃ N, ps.length = N := ⟨_, rfl⟩
  have HPT := Lib.hid (parts_M (some ⟨g, 0, none⟩) N c)
  rw [hN] at HVE
  rw [hN]
  clear hN
  have HP := Lib.hid (fun (W : World) (hb : Below w.heap.size w W) (p : PartV) (hm : p ∈ ps) => (hp p hm).below hb)
  obtain ⟨W2, hW2⟩ : ∃ W2, (w.alloc (.cells x 36)).alloc (.cells #[.bool true] 4) = W2 := ⟨_, rfl⟩
  have HB2 : Hid (Below w.heap.size w W2) := show Below _ _ _ by rw [← hW2]; exact (by repeat (first | exact Below.refl _ _ | assumption | refine Below.drew ?_ | refine below_drewN ?_ _ | refine Below.alloc ?_ (by (try simp) <;> omega) _ | refine Below.setCell ?_ (by (try simp) <;> omega) _ | refine Below.trans ?_ (Below.mono (by assumption) (by (try simp) <;> omega))))
  have HX2 : Hid (Blk W2 w.heap.size 36 x) := show Blk _ _ _ _ by unfold Blk; rw [← hW2]; (simp only [heap_at, World.size_alloc]; repeat (first | rw [if_pos (by omega)] | rw [if_neg (by omega)] | rw [if_pos trivial]))
  have HM2 : Hid (Boxed W2 (w.heap.size + 1) 4 (.bool true)) := show Boxed _ _ _ _ by unfold Boxed; rw [← hW2]; (simp only [heap_at, World.size_alloc]; repeat (first | rw [if_pos (by omega)] | rw [if_neg (by omega)] | rw [if_pos trivial]))
  have HZ2 : Hid (W2.heap.size = w.heap.size + 2) := show _ = _ by rw [← hW2]; simp
  have HW2 := Lib.hid hW2
  have HX := Lib.hid hx
  have HSZ := Lib.hid hsz
  have HGG := Lib.hid hg
  clear hW2 hp hx hsz hg
  refine (callsIn_wide (n := 9)).1 ?_
  refine callsIn_of_wp_marks Tryz.func107 rfl trivial ?_ rfl
  simp only [Tryz.ntmps107, List.size_toArray, List.length_cons, List.length_nil, Nat.reduceAdd, Nat.reduceSub, Array.replicate_succ, Array.replicate_zero, List.push_toArray, List.append_toArray, List.nil_append, List.cons_append]
  gi_wp2_with fail
  refine wpIn_scope_straight ?_
  gi_wp2_with fail
  refine wpIn_label ?_
  gi_wp2_with fail
  rw [HW2.out]
  refine ⟨trivial, ?_⟩
  refine (callsIn_wide.2 (HPT.out W2)).mono ?_
  rintro e w1 ⟨rfl, hw1⟩
  have hz2 := HZ2.out
  have hb1 : Below W2.heap.size W2 w1 := by rw [hw1]; exact (Below.refl _ _).alloc (Nat.le_refl _) _
  have hz1 : w1.heap.size = w.heap.size + 3 := by rw [hw1, World.size_alloc]; omega
  have HB1 : Hid (Below w.heap.size w w1) := show Below _ _ _ from HB2.out.trans (hb1.mono HB2.out.size)
  have hx1 : Blk w1 w.heap.size 36 x := (hb1.block _ (by omega)).trans HX2.out
  have hm1 : Boxed w1 (w.heap.size + 1) 4 (.bool true) := (hb1.block _ (by omega)).trans HM2.out
  have hs1 : Boxed w1 (w.heap.size + 2) 72 (.slice (some ⟨g, 0, none⟩) N c) := by rw [hw1, ← hz2]; exact Boxed.new _ _ _
  have HSQ := Lib.hid ((HVE.out w1 (w.heap.size + 2) HB1.out hs1).seqF)
  have HGL : Hid (g < w.heap.size) := HGG
  have HI0 : Hid (MayIM w x (w.heap.size + 1) w.heap.size [] (fun _ => False) w1) := show MayIM _ _ _ _ _ _ _ from ⟨⟨hx1, id⟩, ⟨hm1, id⟩, ⟨HB1.out, HB1.out.size, fun _ h => h.elim⟩, rfl⟩
  have HZ1 := Lib.hid hz1
  clear hs1 hm1 hx1 hb1 hw1 hz1 HVE
  gi_wp2_with fail
  generalize hA : ({ tmps := _, defers := _ } : Act) = A0
  refine wpIn_range_F (n := 9) (by decide) (gf := 133) (lb := #[.pointer (some ⟨w.heap.size + 2, 0, none⟩)]) (by rw [← hA]; rfl) (enters_of Tryz.func133 (by kernel_rfl) rfl) HSQ.out
    (fun k hk => by have := HZ1.out; have := HGL.out; rcases hk with rfl | rfl <;> omega) (Below.refl _ _) (fun _ => rfl)
    (MayIM w x (w.heap.size + 1) w.heap.size) (MayXM w x (w.heap.size + 1)) (abides_mayM _ _ _ _) (abides_mayXM _ _ _) HI0.out
    (PartAxM A0 138 9 6 · (w1.heap.size + 2))
    (fun p a' W o ⟨b, e, hb, h⟩ => ⟨b, e, hb, (World.putObj_heap_other (by omega)).trans h⟩)
    ?assign ?body ?done ?stop
  case assign =>
    rintro l2 p W3 K hsz3 hK
    subst hA
    unfold encPart
    dsimp only
    gi_wp2_with fail
    refine hK _ _ ⟨W3.heap.size, rfl, hsz3, Tri.new _ _ _ _ _⟩ ((Below.refl _ _).alloc (Nat.le_refl _) _)
  case body =>
    rintro l2 pre p a' q2 W3 ⟨⟨hbx, hqx⟩, ⟨hm, hqm⟩, hB, hok⟩ hs2 hqb hsp ⟨b, rfl, hb, ht⟩
    subst hA
    have hmem : p ∈ ps := hsp.subset (by simp)
    have hpt := HP.out W3 hB.1 p hmem
    obtain ⟨c0, c1, c2, -, -, -⟩ := ht.cells
    have hlb := ht.lt
    have HLD := Lib.hid (hbx.load (tt := 36) Tryz.underlying36 rfl (by rw [HSZ.out]; kernel_rfl))
    have HMB := Lib.hid (hpt.mayBe x W3 HX.out (Below.refl _ _))
    have e0 : ∀ args W, (callFunc p.f0 args).run Tryz.prog W = .ok (.enter p.f0 args) W := hpt.e0
    obtain ⟨F, hF⟩ : ∃ F, p.f0 = F := ⟨_, rfl⟩
    obtain ⟨L, hL⟩ : ∃ L, p.l0 = L := ⟨_, rfl⟩
    obtain ⟨o, ho⟩ : ∃ o, p.S.ok x = o := ⟨_, rfl⟩
    unfold PartV.v0 at c0
    rw [hF, hL] at c0
    rw [hF] at e0
    rw [hF, hL, ho] at HMB
    have HO := Lib.hid ho
    have HBX := Lib.hid hbx
    have HQX := Lib.hid hqx
    have HM := Lib.hid hm
    have HQM := Lib.hid hqm
    have HBB := Lib.hid hB
    have HOK := Lib.hid hok
    have HQB := Lib.hid hqb
    clear hpt hmem ht c1 c2 hF hL ho hbx hqx hm hqm hB hok hqb hsp
    gi_wp2_with (refine wpListIn_load_eq rfl 36 _ rfl _ _ rfl HLD.out ?_)
    refine ⟨trivial, (CallsIn.inRound l2 (callsIn_wide.2 HMB.out)).mono ?_⟩
    rintro e w3 ⟨rfl, hb3⟩
    have hm3 : Boxed w3 (w.heap.size + 1) 4 (.bool true) := (hb3.block _ HM.out.lt).trans HM.out
    cases o with
    | false =>
      have cm := hm3.cell
      have fm := hm3.frozen
      have lm := hm3.lt
      have HM3 := Lib.hid hm3
      have HB3 := Lib.hid hb3
      clear hm3 hb3 c0 e0
      gi_wp2_with fail
      refine ⟨⟨by simp [World.setCell]; exact HB3.out.size, fun k hk hl => (Below.heap_setCell _ _ _ _ (fun h => ?_)).trans (HB3.out.block k hl)⟩, ⟨rfl, ?_⟩, ⟨HM3.out.set (.bool false), HQM.out⟩, (HBB.out.1.trans (HB3.out.mono HBB.out.1.size)).setCell (p := ⟨w.heap.size + 1, 0, none⟩) (Nat.le_succ _) _, ?_, HBB.out.2.2⟩
      · rcases hk with (h2 | h2) | h2
        · have h3 : w.heap.size + 1 = w.heap.size + 2 := h.symm.trans h2
          omega
        · have h3 : w.heap.size + 1 = g := h.symm.trans h2
          have := HGL.out
          omega
        · exact HQM.out (by rwa [show k = w.heap.size + 1 from h] at h2)
      · unfold okAll
        rw [List.all_append, List.all_cons, HO.out]; simp
      · have := HBB.out.2.1; have := HB3.out.size; simp [World.setCell]; omega
    | true =>
      have HB3 := Lib.hid hb3
      clear hm3 hb3 c0 e0
      gi_wp2_with fail
      have h4 := abides_mayM w x (w.heap.size + 1) w.heap.size pre q2 q2 W3 w3 ⟨⟨HBX.out, HQX.out⟩, ⟨HM.out, HQM.out⟩, HBB.out, HOK.out⟩ (Turn.of_below HB3.out (Nat.le_refl _)) (fun k h => .inl h)
      refine ⟨⟨HB3.out.size, fun k _ hl => HB3.out.block k hl⟩, h4.1, h4.2.1, h4.2.2.1, ?_⟩
      have h5 := HOK.out
      unfold okAll at h5 ⊢
      rw [List.all_append, h5, List.all_cons, HO.out]; rfl
  case done =>
    rintro D ys W3 hD rfl ⟨-, ⟨hm, hqm⟩, hB, hok⟩ hK'
    subst hA
    have cm := hm.cell
    have HOK := Lib.hid hok
    have HBB := Lib.hid hB
    have HDD := Lib.hid hD
    have HK := Lib.hid hK'
    clear hm hqm hB hok hD hK'
    gi_wp2_with fail
    refine leaves_one (D := D) HK.out fun W' ht hc => ⟨_, results_tmp rfl _ _ _, by rw [HOK.out]; rfl, ?_⟩
    exact HBB.out.1.trans (ht.below (B := w.heap.size) (fun k h => by have := HDD.out; have := HB1.out.size; omega) HBB.out.2.1)
  case stop =>
    rintro D cd pre W3 hD hpre ⟨⟨rfl, hno⟩, ⟨hm, hqm⟩, hB⟩ hK'
    subst hA
    have cm := hm.cell
    have HOK : Hid (okAll ps x = false) := show _ = _ by
      obtain ⟨r, rfl⟩ := hpre
      unfold okAll at hno ⊢
      rw [List.all_append, hno]; rfl
    have HBB := Lib.hid hB
    have HDD := Lib.hid hD
    have HK := Lib.hid hK'
    clear hm hqm hB hno hD hK' hpre
    gi_wp2_with fail
    refine leaves_one (D := D) HK.out fun W' ht hc => ⟨_, results_tmp rfl _ _ _, by rw [HOK.out]; rfl, ?_⟩
    exact HBB.out.1.trans (ht.below (B := w.heap.size) (fun k h => by have := HDD.out; have := HB1.out.size; omega) HBB.out.2.1)
end Go.Proofs.YtaebipopmefkpaaGreatDoor

/-
  node: the words of a line of api.Map. Written by gen_nd.py.
-/
namespace Go.Proofs.YtaebipopmefkpaaGreatDoor
open Go.RowKit Go.Shelf Go.Sort
attribute [local go_sem] Oper.semAt_some

/-- In the rounds of put. -/
def PutIM (w : World) (x : Array Value) (X B R : Nat) (pre : List PartV) (q : Nat → Prop) (W : World) : Prop :=
  (Blk W X 36 x ∧ ¬ q X) ∧ (Blk W B 113 (lnA (wrAll pre x zeros8)) ∧ ¬ q B) ∧ (Blk W R 113 (lnA zeros8) ∧ ¬ q R) ∧ BelowF w.heap.size w q W
theorem abides_putM (w : World) (x : Array Value) (X B R : Nat) : Abides (PutIM w x X B R) := Abides.and (abides_blkF _ _ _) (Abides.and (abides_blkF B 113 (fun pre => lnA (wrAll pre x zeros8))) (Abides.and (abides_blkF R 113 (fun _ => lnA zeros8)) (Abides.below _ _)))
set_option maxRecDepth 100000 in
set_option maxHeartbeats 4000000 in
theorem putK_M {Good : Array Value → Prop} {v : Value} {ps : List PartV} (x : Array Value) (hx : Good x) (hsz : x.size = 8) (w : World) (hk : KindAtM w v ps) (hp : ∀ p ∈ ps, NdPart Good 36 w p) :
    Calls Tryz.prog 61 #[v, .agg x] w fun e w' => e = .returned (.tuple #[.agg (lnA (putOut ps x)), .int .i64 (putErr ps x)]) ∧ Below w.heap.size w w' := by
  have HMK := Lib.hid (fun (W : World) (hb : Below w.heap.size w W) => mayK_M x hx hsz W (hk.below hb) (fun p hm => (hp p hm).below hb))
  obtain ⟨⟨g, c, rfl, hg, hc⟩, hl⟩ := hk
  have HVE := Lib.hid (fun (W : World) (p : Nat) (hb : Below w.heap.size w W) (hbx : Boxed W p 72 (.slice (some ⟨g, 0, none⟩) ps.length c)) => valuesE_M 8 (by decide) (p := p) W hbx (Nat.lt_of_lt_of_le hg hb.size) (fun k hk => by
    obtain ⟨h1, h2, h3⟩ := hc k hk
    exact ⟨(hb.cell (p := ⟨g, k * 3, none⟩) hg).trans h1, (hb.cell (p := ⟨g, k * 3 + 1, none⟩) hg).trans h2, (hb.cell (p := ⟨g, k * 3 + 2, none⟩) hg).trans h3⟩) hl)
  clear hc hl
  obtain ⟨N, hN⟩ : ∃ N, ps.length = N := ⟨_, rfl⟩
  have HPT := Lib.hid (parts_M (some ⟨g, 0, none⟩) N c)
  rw [hN] at HVE HMK
  rw [hN]
  clear hN
  have HP := Lib.hid (fun (W : World) (hb : Below w.heap.size w W) (p : PartV) (hm : p ∈ ps) => (hp p hm).below hb)
  have HLN := Lib.hid (fun pre (hpre : pre <+: ps) (ho : okAll ps x = true) => show Line8 (wrAll pre x zeros8) from wrAll_line hx pre zeros8 (fun p hm => hp p (hpre.subset hm)) (by
    obtain ⟨r, rfl⟩ := hpre
    unfold okAll at ho ⊢
    rw [List.all_append, Bool.and_eq_true] at ho
    exact ho.1) zeros8_line)
  obtain ⟨W2, hW2⟩ : ∃ W2, ((w.alloc (.cells x 36)).alloc (.cells (lnA zeros8) 113)).alloc (.cells (lnA zeros8) 113) = W2 := ⟨_, rfl⟩
  have HB2 : Hid (Below w.heap.size w W2) := show Below _ _ _ by rw [← hW2]; exact (by repeat (first | exact Below.refl _ _ | assumption | refine Below.drew ?_ | refine below_drewN ?_ _ | refine Below.alloc ?_ (by (try simp) <;> omega) _ | refine Below.setCell ?_ (by (try simp) <;> omega) _ | refine Below.trans ?_ (Below.mono (by assumption) (by (try simp) <;> omega))))
  have HX2 : Hid (Blk W2 w.heap.size 36 x) := show Blk _ _ _ _ by unfold Blk; rw [← hW2]; (simp only [heap_at, World.size_alloc]; repeat (first | rw [if_pos (by omega)] | rw [if_neg (by omega)] | rw [if_pos trivial]))
  have HM2 : Hid (Blk W2 (w.heap.size + 1) 113 (lnA zeros8)) := show Blk _ _ _ _ by unfold Blk; rw [← hW2]; (simp only [heap_at, World.size_alloc]; repeat (first | rw [if_pos (by omega)] | rw [if_neg (by omega)] | rw [if_pos trivial]))
  have HR2 : Hid (Blk W2 (w.heap.size + 1 + 1) 113 (lnA zeros8)) := show Blk _ _ _ _ by unfold Blk; rw [← hW2]; (simp only [heap_at, World.size_alloc]; repeat (first | rw [if_pos (by omega)] | rw [if_neg (by omega)] | rw [if_pos trivial]))
  have HZ2 : Hid (W2.heap.size = w.heap.size + 3) := show _ = _ by rw [← hW2]; simp
  have HW2 : Hid (((w.alloc (.cells x 36)).alloc (.cells #[.int .u64 0, .int .u64 0, .int .u64 0, .int .u64 0, .int .u64 0, .int .u64 0, .int .u64 0, .int .u64 0] 113)).alloc (.cells #[.int .u64 0, .int .u64 0, .int .u64 0, .int .u64 0, .int .u64 0, .int .u64 0, .int .u64 0, .int .u64 0] 113) = W2) := show _ = _ from hW2
  have HBW : Hid (Below w.heap.size w w) := show Below _ _ _ from Below.refl _ _
  have HX := Lib.hid hx
  have HSZ := Lib.hid hsz
  have HGG := Lib.hid hg
  have HLD2 := Lib.hid (HX2.out.load (tt := 36) Tryz.underlying36 rfl (by rw [hsz]; kernel_rfl))
  have HLD1 : Hid ((Instr.loadAt 36 (.pointer (some ⟨w.heap.size, 0, none⟩))).run Tryz.prog (((w.alloc (.cells x 36)).alloc (.cells #[.int .u64 0, .int .u64 0, .int .u64 0, .int .u64 0, .int .u64 0, .int .u64 0, .int .u64 0, .int .u64 0] 113)).alloc (.cells #[.int .u64 0, .int .u64 0, .int .u64 0, .int .u64 0, .int .u64 0, .int .u64 0, .int .u64 0, .int .u64 0] 113)) = .ok (.agg x) (((w.alloc (.cells x 36)).alloc (.cells #[.int .u64 0, .int .u64 0, .int .u64 0, .int .u64 0, .int .u64 0, .int .u64 0, .int .u64 0, .int .u64 0] 113)).alloc (.cells #[.int .u64 0, .int .u64 0, .int .u64 0, .int .u64 0, .int .u64 0, .int .u64 0, .int .u64 0, .int .u64 0] 113))) := show _ = _ by rw [HW2.out]; exact HLD2.out
  clear hW2 hp hx hsz hg
  refine (callsIn_wide (n := 9)).1 ?_
  refine callsIn_of_wp_marks Tryz.func61 rfl trivial ?_ rfl
  simp only [Tryz.ntmps61, List.size_toArray, List.length_cons, List.length_nil, Nat.reduceAdd, Nat.reduceSub, Array.replicate_succ, Array.replicate_zero, List.push_toArray, List.append_toArray, List.nil_append, List.cons_append]
  gi_wp2_with fail
  refine wpIn_scope_forward 0 rfl ?_
  gi_wp2_with (refine wpListIn_load_eq rfl 36 _ rfl _ _ rfl HLD1.out ?_)
  rw [HW2.out]
  refine ⟨trivial, ?_⟩
  refine (callsIn_wide.2 (HMK.out W2 HB2.out)).mono ?_
  rintro e w3 ⟨rfl, hb3⟩
  have hz2 := HZ2.out
  have hz3 := hb3.size
  have HB3 : Hid (Below w.heap.size w w3) := show Below _ _ _ from HB2.out.trans (hb3.mono HB2.out.size)
  have HX3 : Hid (Blk w3 w.heap.size 36 x) := show Blk _ _ _ _ from HX2.out.below hb3 (by omega)
  have HM3 : Hid (Blk w3 (w.heap.size + 1) 113 (lnA zeros8)) := show Blk _ _ _ _ from HM2.out.below hb3 (by omega)
  have HR3 : Hid (Blk w3 (w.heap.size + 1 + 1) 113 (lnA zeros8)) := show Blk _ _ _ _ from HR2.out.below hb3 (by omega)
  have HZ3 := Lib.hid hz3
  clear hb3 HW2 HLD2 HLD1 hz3
  obtain ⟨o, ho⟩ : ∃ o, okAll ps x = o := ⟨_, rfl⟩
  have HO := Lib.hid ho
  have HPO : Hid (putOut ps x = if o then wrAll ps x zeros8 else zeros8) := show _ = _ by unfold putOut; rw [ho]
  have HPE : Hid (putErr ps x = if o then 0 else 2) := show _ = _ by unfold putErr; rw [ho]
  rw [ho]
  clear ho
  have HXX : ∀ {q : Nat → Prop} {W W' : World}, Turn q W W' → (∀ k, q k → w.heap.size ≤ k) → Below w.heap.size w W → Below w.heap.size w W' := fun ht hq hb => hb.trans (ht.below hq hb.size)
  cases o with
  | false =>
    obtain ⟨W4, hst, hb4, ht4⟩ := HM3.out.store (P := Tryz.prog) (tt := 113) (Y := lnA zeros8) (by kernel_rfl) rfl (lnA_one _)
    have hlv := hb4.loadVar (tt := 113) Tryz.underlying113 rfl (by kernel_rfl)
    have HST : Hid ((Instr.storeAt 113 (.pointer (some ⟨w.heap.size + 1, 0, none⟩)) (.agg #[.int .u64 0, .int .u64 0, .int .u64 0, .int .u64 0, .int .u64 0, .int .u64 0, .int .u64 0, .int .u64 0])).run Tryz.prog w3 = .ok () W4) := show _ = _ from hst
    have HT4 := Lib.hid ht4
    have HLV := Lib.hid hlv
    clear hst hb4 ht4 hlv
    gi_wp2_with fail
    refine wpIn_goto ?_
    refine ⟨rfl, ?_⟩
    gi_wp2_with (first | (refine wpIn_label ?_) | (refine wpListIn_store_eq rfl 113 _ _ rfl _ _ rfl rfl HST.out ?_))
    rw [Exit.jump_ret]
    refine ⟨.tuple #[.agg (lnA zeros8), .int .i64 2], results_cell_tmp rfl rfl HLV.out rfl, by rw [HPO.out, HPE.out]; rfl, ?_⟩
    exact HXX HT4.out (fun k h => by omega) HB3.out
  | true =>
    gi_wp2_with fail
    refine ⟨trivial, ?_⟩
    refine (callsIn_wide.2 (HPT.out w3)).mono ?_
    rintro e w1 ⟨rfl, hw1⟩
    have hb1 : Below w3.heap.size w3 w1 := by rw [hw1]; exact (Below.refl _ _).alloc (Nat.le_refl _) _
    have hz1 : w1.heap.size = w3.heap.size + 1 := by rw [hw1, World.size_alloc]
    have HB1 : Hid (Below w.heap.size w w1) := show Below _ _ _ from HB3.out.trans (hb1.mono HB3.out.size)
    have hz3 := HZ3.out
    have hx1 := HX3.out.below hb1 (by omega)
    have hm1 := HM3.out.below hb1 (by omega)
    have hr1 := HR3.out.below hb1 (by omega)
    have hs1 : Boxed w1 w3.heap.size 72 (.slice (some ⟨g, 0, none⟩) N c) := by rw [hw1]; exact Boxed.new _ _ _
    have HSQ := Lib.hid ((HVE.out w1 w3.heap.size HB1.out hs1).seqF)
    have HI0 : Hid (PutIM w x w.heap.size (w.heap.size + 1 + 1) (w.heap.size + 1) [] (fun _ => False) w1) := show PutIM _ _ _ _ _ _ _ _ from ⟨⟨hx1, id⟩, ⟨hr1, id⟩, ⟨hm1, id⟩, ⟨HB1.out, HB1.out.size, fun _ h => h.elim⟩⟩
    have HZ1 := Lib.hid hz1
    clear hs1 hm1 hx1 hr1 hb1 hw1 hz1 HVE
    gi_wp2_with fail
    generalize hA : ({ tmps := _, defers := _ } : Act) = A0
    refine wpIn_range_F (n := 9) (by decide) (gf := 133) (lb := #[.pointer (some ⟨w3.heap.size, 0, none⟩)]) (by rw [← hA]; rfl) (enters_of Tryz.func133 (by kernel_rfl) rfl) HSQ.out
      (fun k hk => by have := HZ1.out; have := HGG.out; rcases hk with rfl | rfl <;> omega) (Below.refl _ _) (fun _ => rfl)
      (PutIM w x w.heap.size (w.heap.size + 1 + 1) (w.heap.size + 1)) (fun _ _ _ _ => False) (abides_putM _ _ _ _ _) (fun _ _ _ _ _ _ h _ _ => h) HI0.out
      (PartAxM A0 138 14 7 · (w1.heap.size + 2))
      (fun p a' W o ⟨b, e, hb, h⟩ => ⟨b, e, hb, (World.putObj_heap_other (by omega)).trans h⟩)
      ?assign ?body ?done ?stop
    case assign =>
      rintro l2 p W3 K hsz3 hK
      subst hA
      unfold encPart
      dsimp only
      gi_wp2_with fail
      refine hK _ _ ⟨W3.heap.size, rfl, hsz3, Tri.new _ _ _ _ _⟩ ((Below.refl _ _).alloc (Nat.le_refl _) _)
    case body =>
      rintro l2 pre p a' q2 W3 ⟨⟨hbx, hqx⟩, ⟨hbl, hql⟩, ⟨hbr, hqr⟩, hB⟩ hs2 hqb hsp ⟨b, rfl, hb, ht⟩
      subst hA
      have hmem : p ∈ ps := hsp.subset (by simp)
      have hpt := HP.out W3 hB.1 p hmem
      obtain ⟨-, c1, -, -, -, -⟩ := ht.cells
      have hlb := ht.lt
      have hokp : p.S.ok x = true := by
        have h := HO.out
        unfold okAll at h
        exact (List.all_eq_true.1 h) p hmem
      have HLD := Lib.hid (hbx.load (tt := 36) Tryz.underlying36 rfl (by rw [HSZ.out]; kernel_rfl))
      have HMB := Lib.hid ((HP.out w HBW.out p hmem).write x (wrAll pre x zeros8) (w.heap.size + 1 + 1) W3 HX.out hokp (HLN.out pre ((List.prefix_append _ _).trans hsp) HO.out) hB.1 (by omega) hbl)
      have e0 : ∀ args W, (callFunc p.f1 args).run Tryz.prog W = .ok (.enter p.f1 args) W := hpt.e1
      have HWA : Hid (wrAll (pre ++ [p]) x zeros8 = p.S.wr x (wrAll pre x zeros8)) := show _ = _ by rw [wrAll_append]; rfl
      obtain ⟨F, hF⟩ : ∃ F, p.f1 = F := ⟨_, rfl⟩
      obtain ⟨L, hL⟩ : ∃ L, p.l1 = L := ⟨_, rfl⟩
      unfold PartV.v1 at c1
      rw [hF, hL] at c1
      rw [hF] at e0
      rw [hF, hL] at HMB
      have HBX := Lib.hid hbx
      have HQX := Lib.hid hqx
      have HBR := Lib.hid hbr
      have HQR := Lib.hid hqr
      have HQL := Lib.hid hql
      have HBB := Lib.hid hB
      have HQB := Lib.hid hqb
      clear hpt hmem ht hF hL hbx hqx hbl hql hbr hqr hB hqb hsp hokp
      gi_wp2_with (refine wpListIn_load_eq rfl 36 _ rfl _ _ rfl HLD.out ?_)
      refine ⟨trivial, (CallsIn.inRound l2 (callsIn_wide.2 HMB.out)).mono ?_⟩
      rintro e w5 ⟨⟨u, rfl⟩, hb5, ht5⟩
      have HB5 := Lib.hid hb5
      have HT5 := Lib.hid ht5
      clear hb5 ht5 c1 e0
      gi_wp2_with fail
      refine ⟨⟨HT5.out.size, fun k hk hl => HT5.out.block k hl (fun h => ?_)⟩, ?_⟩
      · have h3 := HZ3.out
        rcases hk with (h2 | h2) | h2
        · have h4 : w.heap.size + 1 + 1 = w3.heap.size := h.symm.trans h2
          omega
        · have h4 : w.heap.size + 1 + 1 = g := h.symm.trans h2
          have := HGG.out
          omega
        · exact HQL.out (by rwa [show k = w.heap.size + 1 + 1 from h] at h2)
      · refine ⟨⟨HBX.out.turn HT5.out (by omega), HQX.out⟩, ⟨by rw [HWA.out]; exact HB5.out, HQL.out⟩, ⟨HBR.out.turn HT5.out (by omega), HQR.out⟩, HXX HT5.out (fun k h => by omega) HBB.out.1, Nat.le_trans HBB.out.2.1 HT5.out.size, HBB.out.2.2⟩
    case done =>
      rintro D ys W3 hD rfl ⟨-, ⟨hbl, hql⟩, ⟨hbr, hqr⟩, hB⟩ hK'
      subst hA
      have HLD := Lib.hid (hbl.load (tt := 113) Tryz.underlying113 rfl (by rw [lnA_size, (HLN.out ys (List.prefix_refl _) HO.out).1]; kernel_rfl))
      obtain ⟨W4, hst, hb4, ht4⟩ := hbr.store (P := Tryz.prog) (tt := 113) (Y := lnA (wrAll ys x zeros8)) (by rw [lnA_size, (HLN.out ys (List.prefix_refl _) HO.out).1]; kernel_rfl) (by rw [lnA_size, lnA_size, (HLN.out ys (List.prefix_refl _) HO.out).1]; rfl) (lnA_one _)
      have hD4 : W4.heap[D]? = some (.deferred (some [])) := (ht4.block D (Array.getElem?_eq_some_iff.1 hK').1 (fun h => hqr h.symm)).trans hK'
      have HST := Lib.hid hst
      have HB4 := Lib.hid hb4
      have HT4 := Lib.hid ht4
      have HBB := Lib.hid hB
      have HDD := Lib.hid hD
      have HK := Lib.hid hD4
      clear hst hb4 ht4 hB hD hD4 hK' hbl hql hbr hqr
      gi_wp2_with (first | (refine wpListIn_load_eq rfl 113 _ rfl _ _ rfl HLD.out ?_) | (refine wpListIn_store_eq rfl 113 _ _ rfl _ _ rfl rfl HST.out ?_))
      rw [Exit.jump_ret]
      refine leaves_one (D := D) HK.out fun W' ht hc => ?_
      have hb5 : Blk W' (w.heap.size + 1) 113 (lnA (wrAll ys x zeros8)) := hc _ _ _ _ HB4.out
      have hlv := hb5.loadVar (tt := 113) Tryz.underlying113 rfl (by rw [lnA_size, (HLN.out ys (List.prefix_refl _) HO.out).1]; kernel_rfl)
      refine ⟨.tuple #[.agg (lnA (wrAll ys x zeros8)), .int .i64 0], results_cell_tmp rfl rfl hlv rfl, by rw [HPO.out, HPE.out]; rfl, ?_⟩
      have h1 := HXX HT4.out (fun k h => by omega) HBB.out.1
      exact h1.trans (ht.below (B := w.heap.size) (fun k h => by have := HDD.out; have := HB1.out.size; omega) h1.size)
    case stop =>
      rintro D cd pre W3 hD hpre h
      exact h.elim
end Go.Proofs.YtaebipopmefkpaaGreatDoor

/-
  node: what reading a line of api.Map does when it gives up, and when not. Written by gen_nd.py.
-/
namespace Go.Proofs.YtaebipopmefkpaaGreatDoor
open Go.RowKit Go.Shelf Go.Sort
attribute [local go_sem] Oper.semAt_some

def ndZeroM : Array Value := #[.int .i64 0, .int .i64 0, .int .i64 0, .int .i64 0, .int .i64 0, .int .i64 0, .int .i64 0, .int .i64 0]
set_option maxRecDepth 100000 in
set_option maxHeartbeats 4000000 in
theorem getD_ok_M (n : Nat) (X E : Nat) (w : World) : CallsDIn Fence.wide n Tryz.prog 59 #[.pointer (some ⟨X, 0, none⟩), .pointer (some ⟨E, 0, none⟩)] .returning w fun e u w' => e = .returned (.tuple #[]) ∧ u = .returning ∧ Below w.heap.size w w' := by
  refine callsDIn_of_wpSIn Tryz.func59 rfl trivial fun c₀ cs hu => ?_
  apply wpSIn_seq
  apply wpSIn_region
  have h1 := ta_nil
  simp [wpOpsSIn, go_sem, recoverD, hu, Tryz.ntmps59, Exit.thenS, h1]
  rw [show ∀ (u : Value), (#[.pointer (some ⟨X, 0, none⟩), .pointer (some ⟨E, 0, none⟩)] ++ (((((((Array.replicate 10 undef).setIfInBounds 4 Value.nilIface).setIfInBounds 5 (.tuple #[.agg #[], .bool false])).setIfInBounds 3 (.tuple #[.agg #[], .bool false])).setIfInBounds 6 (.agg #[])).setIfInBounds 7 (.bool false)).setIfInBounds 0 u).setIfInBounds 1 (.bool false) : Array Value) = #[.pointer (some ⟨X, 0, none⟩), .pointer (some ⟨E, 0, none⟩), u, .bool false, undef, .tuple #[.agg #[], .bool false], .nilIface, .tuple #[.agg #[], .bool false], .agg #[], .bool false, undef, undef] from fun u => rfl]
  refine wpSIn_of_wpIn rfl ?_
  gi_wp2_with fail
  cases c₀
  simp_all [bodyPostS, results, Tryz.results59]
  exact (Below.refl _ _).alloc (Nat.le_refl _) _
set_option maxRecDepth 100000 in
set_option maxHeartbeats 4000000 in
theorem getD_no_M (n : Nat) (X E : Nat) (x : Array Value) (hx : x.size = 8) (v : Value) (hXE : X ≠ E) (w : World) (hX : Blk w X 36 x) (hE : Boxed w E 26 v) :
    CallsDIn Fence.wide n Tryz.prog 59 #[.pointer (some ⟨X, 0, none⟩), .pointer (some ⟨E, 0, none⟩)] (.panicking noLine) w fun e u w' => e = .returned (.tuple #[]) ∧ u = .panicking [{ v := .iface 115 (.agg #[]), recovered := true }] ∧ Blk w' X 36 ndZeroM ∧ Boxed w' E 26 (.int .i64 180) ∧ Turn (fun k => k = X ∨ k = E) w w' := by
  have lX := hX.lt
  have lE := hE.lt
  have hb2 : Below w.heap.size w ((w.alloc (.cells #[] 115)).alloc (.cells ndZeroM 36)) := (by repeat (first | exact Below.refl _ _ | assumption | refine Below.drew ?_ | refine below_drewN ?_ _ | refine Below.alloc ?_ (by (try simp) <;> omega) _ | refine Below.setCell ?_ (by (try simp) <;> omega) _ | refine Below.trans ?_ (Below.mono (by assumption) (by (try simp) <;> omega))))
  have h2 : Blk ((w.alloc (.cells #[] 115)).alloc (.cells ndZeroM 36)) (w.heap.size + 1) 36 ndZeroM := by unfold Blk; (simp only [heap_at, World.size_alloc]; repeat (first | rw [if_pos (by omega)] | rw [if_neg (by omega)] | rw [if_pos trivial]))
  have HLD : Hid ((Instr.loadAt 36 (.pointer (some ⟨w.heap.size + 1, 0, none⟩))).run Tryz.prog ((w.alloc (.cells #[] 115)).alloc (.cells #[.int .i64 0, .int .i64 0, .int .i64 0, .int .i64 0, .int .i64 0, .int .i64 0, .int .i64 0, .int .i64 0] 36)) = .ok (.agg ndZeroM) ((w.alloc (.cells #[] 115)).alloc (.cells #[.int .i64 0, .int .i64 0, .int .i64 0, .int .i64 0, .int .i64 0, .int .i64 0, .int .i64 0, .int .i64 0] 36))) := show _ = _ from h2.load (tt := 36) Tryz.underlying36 rfl (by kernel_rfl)
  obtain ⟨W3, hst, hb3, ht3⟩ := (hX.below hb2 lX).store (P := Tryz.prog) (tt := 36) (Y := ndZeroM) (by kernel_rfl) (by rw [hx]; rfl) (by simp [ndZeroM, Value.oneCell'])
  have HST : Hid ((Instr.storeAt 36 (.pointer (some ⟨X, 0, none⟩)) (.agg ndZeroM)).run Tryz.prog ((w.alloc (.cells #[] 115)).alloc (.cells #[.int .i64 0, .int .i64 0, .int .i64 0, .int .i64 0, .int .i64 0, .int .i64 0, .int .i64 0, .int .i64 0] 36)) = .ok () W3) := show _ = _ from hst
  have hE3 : Boxed W3 E 26 v := (ht3.block E (by simp; omega) (fun h => hXE h.symm)).trans ((hb2.block E lE).trans hE)
  have cEr := hE3.cell
  have fEr := hE3.frozen
  have lE3 := hE3.lt
  have HB3 := Lib.hid hb3
  have HE3 := Lib.hid hE3
  have HT3 : Hid (Turn (fun k => k = X ∨ k = E) w W3) := show Turn _ _ _ from (Turn.of_below hb2 (Nat.le_refl _)).trans (ht3.mono fun k h => .inl h)
  clear hb2 h2 hst hb3 ht3 hE3 hX hE
  refine callsDIn_of_wpSIn Tryz.func59 rfl trivial fun c₀ cs hu => ?_
  apply wpSIn_seq
  apply wpSIn_region
  have h1 := ta_line
  unfold noLine at hu
  simp [wpOpsSIn, go_sem, recoverD, hu, Tryz.ntmps59, Exit.thenS, h1]
  rw [show ∀ (u : Value), (#[.pointer (some ⟨X, 0, none⟩), .pointer (some ⟨E, 0, none⟩)] ++ (((((((Array.replicate 10 undef).setIfInBounds 4 (.iface 115 (.agg #[]))).setIfInBounds 5 (.tuple #[.agg #[], .bool true])).setIfInBounds 3 (.tuple #[.agg #[], .bool true])).setIfInBounds 6 (.agg #[])).setIfInBounds 7 (.bool true)).setIfInBounds 0 u).setIfInBounds 1 (.bool true) : Array Value) = #[.pointer (some ⟨X, 0, none⟩), .pointer (some ⟨E, 0, none⟩), u, .bool true, undef, .tuple #[.agg #[], .bool true], .iface 115 (.agg #[]), .tuple #[.agg #[], .bool true], .agg #[], .bool true, undef, undef] from fun u => rfl]
  refine wpSIn_of_wpIn rfl ?_
  gi_wp2_with (first | (refine wpListIn_load_eq rfl 36 _ rfl _ _ rfl HLD.out ?_) | (refine wpListIn_store_eq rfl 36 _ _ rfl _ _ rfl rfl HST.out ?_))
  cases c₀
  simp only [bodyPostS, true_and]
  refine ⟨_, rfl, .tuple #[], by simp [results, Tryz.results59], rfl, rfl, HB3.out.setOther _ hXE, HE3.out.set _, HT3.out.trans (Turn.setCell _ _ (.inr rfl))⟩
end Go.Proofs.YtaebipopmefkpaaGreatDoor

/-
  node: what a line of api.Map is. Written by gen_nd.py.
-/
namespace Go.Proofs.YtaebipopmefkpaaGreatDoor
open Go.RowKit Go.Shelf Go.Sort
attribute [local go_sem] Oper.semAt_some

/-- In the rounds of get. -/
def GetIM (w : World) (l : List Int) (B X E : Nat) (pre : List PartV) (q : Nat → Prop) (W : World) : Prop :=
  (Blk W B 113 (lnA l) ∧ ¬ q B) ∧ (Blk W X 36 ((rdAll l pre ndZeroM).getD ndZeroM) ∧ ¬ q X) ∧ BoxF E 26 (.int .i64 0) q W ∧ BelowF w.heap.size w q W ∧ (rdAll l pre ndZeroM).isSome = true
theorem abides_getM (w : World) (l : List Int) (B X E : Nat) : Abides (GetIM w l B X E) := Abides.and (abides_blkF _ _ _) (Abides.and (abides_blkF X 36 (fun pre => (rdAll l pre ndZeroM).getD ndZeroM)) (Abides.and (Abides.box _ _ (fun _ => .int .i64 0)) (Abides.and (Abides.below _ _) (Abides.pure (fun pre : List PartV => (rdAll l pre ndZeroM).isSome = true)))))
/-- Where one gives up. -/
def GetPM (w : World) (l : List Int) (X E : Nat) (ch : List PanicEntry) (pre : List PartV) (q : Nat → Prop) (W : World) : Prop :=
  (Blk W X 36 ((rdAll l pre.dropLast ndZeroM).getD ndZeroM) ∧ ¬ q X) ∧ BoxF E 26 (.int .i64 0) q W ∧ BelowF w.heap.size w q W ∧ (ch = noLine ∧ rdAll l pre ndZeroM = none ∧ (rdAll l pre.dropLast ndZeroM).isSome = true)
theorem abides_getPM (w : World) (l : List Int) (X E : Nat) (ch : List PanicEntry) : Abides (GetPM w l X E ch) := Abides.and (abides_blkF X 36 (fun pre : List PartV => (rdAll l pre.dropLast ndZeroM).getD ndZeroM)) (Abides.and (Abides.box _ _ (fun _ => .int .i64 0)) (Abides.and (Abides.below _ _) (Abides.pure (fun pre : List PartV => ch = noLine ∧ rdAll l pre ndZeroM = none ∧ (rdAll l pre.dropLast ndZeroM).isSome = true))))
/-- It gives up. -/
theorem leaves_noM (w : World) {X E D : Nat} {x : Array Value} (hx : x.size = 8) {tmps : Array Value} (hX4 : tmps.getD 4 undef = .pointer (some ⟨X, 0, none⟩)) (hE5 : tmps.getD 5 undef = .pointer (some ⟨E, 0, none⟩)) (hXE : X ≠ E) (W : World) (hbx : Blk W X 36 x) (hbe : Boxed W E 26 (.int .i64 0)) (hD : W.heap[D]? = some (.deferred (some [])))
    (hDX : D ≠ X) (hDE : D ≠ E) (hwX : w.heap.size ≤ X) (hwE : w.heap.size ≤ E) (hwD : w.heap.size ≤ D) (hB : Below w.heap.size w W) :
    LeavesInM Fence.wide 9 Tryz.prog Tryz.f21 tmps (fun e w' => e = .returned (.tuple #[.agg ndZeroM, .int .i64 180]) ∧ Below w.heap.size w w') [{ target := .collected D, args := #[] }, { target := .fn (.func 59) #[.pointer (some ⟨X, 0, none⟩), .pointer (some ⟨E, 0, none⟩)], args := #[] }] (.panicking noLine) W := by
  refine leaves_mark (by simp) hD fun W' ht => ?_
  refine leaves_closure (by simp) (enters_of Tryz.func59 (by kernel_rfl) rfl) ?_
  obtain ⟨hF, h⟩ := getD_no_M 8 X E x hx (.int .i64 0) hXE W' (hbx.turn ht (fun h => hDX h.symm)) ((ht.block E hbe.lt (fun h => hDE h.symm)).trans hbe)
  refine ⟨hF, fun c cs hc hr => ?_⟩
  obtain ⟨e, u', w', fr, ⟨rfl, rfl, h1, h2, h3⟩, h4⟩ := h c cs hc hr
  refine ⟨_, _, w', fr, ?_, h4⟩
  show LeavesInM Fence.wide 9 Tryz.prog Tryz.f21 tmps _ [] (settle (.panicking [{ v := .iface 115 (.agg #[]), recovered := true }])) w'
  exact ⟨_, results_cell_cell (fn := Tryz.f21) rfl hX4 (h1.loadVar (tt := 36) Tryz.underlying36 rfl (by kernel_rfl)) hE5 (loadErr h2), rfl, (hB.trans (ht.below (B := w.heap.size) (fun k h => by omega) hB.size)).trans (h3.below (B := w.heap.size) (fun k h => by omega) (Nat.le_trans hB.size ht.size))⟩
set_option maxRecDepth 100000 in
set_option maxHeartbeats 4000000 in
theorem getK_M {Good : Array Value → Prop} {v : Value} {ps : List PartV} (l : List Int) (hl8 : Line8 l) (hGz : Good ndZeroM) (hGs : ∀ x, Good x → x.size = 8 ∧ x.all (·.oneCell') = true) (w : World) (hk : KindAtM w v ps) (hp : ∀ p ∈ ps, NdPart Good 36 w p) :
    Calls Tryz.prog 21 #[v, .agg (lnA l)] w fun e w' => e = .returned (.tuple #[.agg ((getM ps l ndZeroM).getD ndZeroM), .int .i64 (getErr (getM ps l ndZeroM))]) ∧ Below w.heap.size w w' := by
  have HPK := Lib.hid (fun (y : Array Value) (hy : Good y) (W : World) (hb : Below w.heap.size w W) => putK_M y hy (hGs y hy).1 W (hk.below hb) (fun p hm => (hp p hm).below hb))
  obtain ⟨⟨g, c, rfl, hg, hc⟩, hl⟩ := hk
  have HVE := Lib.hid (fun (W : World) (p : Nat) (hb : Below w.heap.size w W) (hbx : Boxed W p 72 (.slice (some ⟨g, 0, none⟩) ps.length c)) => valuesE_M 8 (by decide) (p := p) W hbx (Nat.lt_of_lt_of_le hg hb.size) (fun k hk => by
    obtain ⟨h1, h2, h3⟩ := hc k hk
    exact ⟨(hb.cell (p := ⟨g, k * 3, none⟩) hg).trans h1, (hb.cell (p := ⟨g, k * 3 + 1, none⟩) hg).trans h2, (hb.cell (p := ⟨g, k * 3 + 2, none⟩) hg).trans h3⟩) hl)
  clear hc hl
  obtain ⟨N, hN⟩ : ∃ N, ps.length = N := ⟨_, rfl⟩
  have HPT := Lib.hid (parts_M (some ⟨g, 0, none⟩) N c)
  rw [hN] at HVE HPK
  rw [hN]
  clear hN
  have HP := Lib.hid hp
  have HGD := Lib.hid (fun pre (hpre : pre <+: ps) (y : Array Value) (hy : rdAll l pre ndZeroM = some y) => show Good y from rdAll_good hl8 pre ndZeroM y (fun p hm => hp p (hpre.subset hm)) hGz hy)
  obtain ⟨W3, hW3⟩ : ∃ W3, ((w.alloc (.cells (lnA l) 113)).alloc (.cells ndZeroM 36)).alloc (.cells #[.int .i64 0] 26) = W3 := ⟨_, rfl⟩
  have HB3 : Hid (Below w.heap.size w W3) := show Below _ _ _ by rw [← hW3]; exact (by repeat (first | exact Below.refl _ _ | assumption | refine Below.drew ?_ | refine below_drewN ?_ _ | refine Below.alloc ?_ (by (try simp) <;> omega) _ | refine Below.setCell ?_ (by (try simp) <;> omega) _ | refine Below.trans ?_ (Below.mono (by assumption) (by (try simp) <;> omega))))
  have HL3 : Hid (Blk W3 w.heap.size 113 (lnA l)) := show Blk _ _ _ _ by unfold Blk; rw [← hW3]; (simp only [heap_at, World.size_alloc]; repeat (first | rw [if_pos (by omega)] | rw [if_neg (by omega)] | rw [if_pos trivial]))
  have HX3 : Hid (Blk W3 (w.heap.size + 1) 36 ndZeroM) := show Blk _ _ _ _ by unfold Blk; rw [← hW3]; (simp only [heap_at, World.size_alloc]; repeat (first | rw [if_pos (by omega)] | rw [if_neg (by omega)] | rw [if_pos trivial]))
  have HE3 : Hid (Boxed W3 (w.heap.size + 1 + 1) 26 (.int .i64 0)) := show Boxed _ _ _ _ by unfold Boxed; rw [← hW3]; (simp only [heap_at, World.size_alloc]; repeat (first | rw [if_pos (by omega)] | rw [if_neg (by omega)] | rw [if_pos trivial]))
  have HZ3 : Hid (W3.heap.size = w.heap.size + 3) := show _ = _ by rw [← hW3]; simp
  have HW3 : Hid (((w.alloc (.cells (lnA l) 113)).alloc (.cells #[.int .i64 0, .int .i64 0, .int .i64 0, .int .i64 0, .int .i64 0, .int .i64 0, .int .i64 0, .int .i64 0] 36)).alloc (.cells #[.int .i64 0] 26) = W3) := show _ = _ from hW3
  have HGG := Lib.hid hg
  have HL8 := Lib.hid hl8
  have HGS := Lib.hid hGs
  have HGZ := Lib.hid hGz
  clear hW3 hp hg hl8 hGs hGz
  have HXX : ∀ {q : Nat → Prop} {W W' : World}, Turn q W W' → (∀ k, q k → w.heap.size ≤ k) → Below w.heap.size w W → Below w.heap.size w W' := fun ht hq hb => hb.trans (ht.below hq hb.size)
  refine (callsIn_wide (n := 9)).1 ?_
  refine callsIn_of_wpAt Tryz.func21 rfl ?_
  simp only [Tryz.ntmps21, List.size_toArray, List.length_cons, List.length_nil, Nat.reduceAdd, Nat.reduceSub, Array.replicate_succ, Array.replicate_zero, List.push_toArray, List.append_toArray, List.nil_append, List.cons_append]
  refine wpAt_seq (wpAt_of_wpIn ?_)
  gi_wp2_with fail
  rw [HW3.out]
  refine wpAt_seq (wpAt_of_wpIn ?_)
  gi_wp2_with fail
  refine wpAt_seq (wpAt_seq (wpAt_of_wpIn ?_))
  gi_wp2_with fail
  refine ⟨trivial, ?_⟩
  refine (callsIn_wide.2 (HPT.out W3)).mono ?_
  rintro e w1 ⟨rfl, hw1⟩
  have hz3 := HZ3.out
  have hb1 : Below W3.heap.size W3 w1 := by rw [hw1]; exact (Below.refl _ _).alloc (Nat.le_refl _) _
  have hz1 : w1.heap.size = w.heap.size + 4 := by rw [hw1, World.size_alloc]; omega
  have HB1 : Hid (Below w.heap.size w w1) := show Below _ _ _ from HB3.out.trans (hb1.mono HB3.out.size)
  have hx1 := HX3.out.below hb1 (by omega)
  have hl1 := HL3.out.below hb1 (by omega)
  have he1 : Boxed w1 (w.heap.size + 1 + 1) 26 (.int .i64 0) := (hb1.block _ (by omega)).trans HE3.out
  have hs1 : Boxed w1 (w.heap.size + 3) 72 (.slice (some ⟨g, 0, none⟩) N c) := by rw [hw1, ← hz3]; exact Boxed.new _ _ _
  have HSQ := Lib.hid (HVE.out w1 (w.heap.size + 3) HB1.out hs1)
  have HI0 : Hid (GetIM w l w.heap.size (w.heap.size + 1) (w.heap.size + 1 + 1) [] (fun _ => False) w1) := show GetIM _ _ _ _ _ _ _ _ from ⟨⟨hl1, id⟩, ⟨hx1, id⟩, ⟨he1, id⟩, ⟨HB1.out, HB1.out.size, fun _ h => h.elim⟩, rfl⟩
  have HZ1 := Lib.hid hz1
  clear hs1 hx1 hl1 he1 hb1 hw1 hz1 HVE
  gi_wp2_with fail
  refine wpAt_block ?_
  generalize hA : ({ tmps := _, defers := _ } : Act) = A0
  refine wpAt_range_E (n := 9) (fd := Tryz.f21) Tryz.func21 (gf := 133) (lb := #[.pointer (some ⟨w.heap.size + 3, 0, none⟩)]) (by rw [← hA]; rfl) (enters_of Tryz.func133 (by kernel_rfl) rfl) HSQ.out
    (fun k hk => by have := HZ1.out; have := HGG.out; rcases hk with rfl | rfl <;> omega) (Below.refl _ _) (fun _ => rfl)
    (GetIM w l w.heap.size (w.heap.size + 1) (w.heap.size + 1 + 1)) (fun _ _ _ _ => False) (GetPM w l (w.heap.size + 1) (w.heap.size + 1 + 1)) (abides_getM _ _ _ _ _) (fun _ _ _ _ _ _ h _ _ => h) (abides_getPM _ _ _ _) HI0.out
    (PartAxM A0 138 12 6 · (w1.heap.size + 2))
    (fun p a' W o ⟨b, e, hb, h⟩ => ⟨b, e, hb, (World.putObj_heap_other (by omega)).trans h⟩)
    ?assign ?body ?done ?stop ?panic
  case assign =>
    rintro l2 p W4 K hsz3 hK
    subst hA
    unfold encPart
    dsimp only
    gi_wp2_with fail
    refine hK _ _ ⟨W4.heap.size, rfl, hsz3, Tri.new _ _ _ _ _⟩ ((Below.refl _ _).alloc (Nat.le_refl _) _)
  case body =>
    rintro l2 pre p a' q2 W4 ⟨⟨hbl, hql⟩, ⟨hbx, hqx⟩, ⟨hbe, hqe⟩, hB, hok⟩ hs2 hqb hsp ⟨b, rfl, hb, ht⟩
    subst hA
    have hmem : p ∈ ps := hsp.subset (by simp)
    have hpt := HP.out p hmem
    obtain ⟨-, -, c2, -, -, -⟩ := ht.cells
    have hlb := ht.lt
    obtain ⟨y, hy⟩ := Option.isSome_iff_exists.1 hok
    rw [hy, Option.getD_some] at hbx
    have hgy := HGD.out pre ((List.prefix_append _ _).trans hsp) y hy
    have HLD := Lib.hid (hbl.load (tt := 113) Tryz.underlying113 rfl (by rw [lnA_size, HL8.out.1]; kernel_rfl))
    have HMB := Lib.hid (hpt.read y l (w.heap.size + 1) W4 hgy HL8.out hB.1 (by omega) hbx)
    have e0 : ∀ args W, (callFunc p.f2 args).run Tryz.prog W = .ok (.enter p.f2 args) W := hpt.e2
    have HRD : Hid (rdAll l (pre ++ [p]) ndZeroM = p.S.rd l y) := show _ = _ by
      rw [rdAll_append, hy, Option.bind_some, rdAll]
      cases p.S.rd l y <;> rfl
    have HRP : Hid (rdAll l (pre ++ [p]).dropLast ndZeroM = some y) := show _ = _ by rw [List.dropLast_concat, hy]
    obtain ⟨F, hF⟩ : ∃ F, p.f2 = F := ⟨_, rfl⟩
    obtain ⟨L, hL⟩ : ∃ L, p.l2 = L := ⟨_, rfl⟩
    unfold PartV.v2 at c2
    rw [hF, hL] at c2
    rw [hF] at e0
    rw [hF, hL] at HMB
    have HBL := Lib.hid hbl
    have HQL := Lib.hid hql
    have HBE := Lib.hid hbe
    have HQE := Lib.hid hqe
    have HQX := Lib.hid hqx
    have HBB := Lib.hid hB
    have HQB := Lib.hid hqb
    have HKK : ∀ w5, Turn (fun k => k = w.heap.size + 1) W4 w5 → Keeps (fun k => ndOwnM (w.heap.size + 3) g k ∨ q2 k) W4 w5 := fun w5 ht5 => ⟨ht5.size, fun k hk hl => ht5.block k hl (fun h => by
      rcases hk with (h2 | h2) | h2
      · have h4 : w.heap.size + 1 = w.heap.size + 3 := h.symm.trans h2
        omega
      · have h4 : w.heap.size + 1 = g := h.symm.trans h2
        have := HGG.out
        omega
      · exact HQX.out (by rwa [show k = w.heap.size + 1 from h] at h2))⟩
    have HKH := Lib.hid HKK
    clear hpt hmem ht hF hL hbx hqx hbl hql hbe hqe hB hqb hsp hok hy hgy HKK
    gi_wp2_with (refine wpListIn_load_eq rfl 113 _ rfl _ _ rfl HLD.out ?_)
    refine ⟨trivial, (CallsIn.inRound l2 (callsIn_wide.2 HMB.out)).mono ?_⟩
    rintro e w5 ⟨ht5, ⟨u, y2, rfl, hrd, hb5⟩ | ⟨rfl, hrd, hb5⟩⟩
    · have HT5 := Lib.hid ht5
      have HB5 := Lib.hid hb5
      have HR5 := Lib.hid hrd
      clear ht5 hb5 hrd c2 e0
      gi_wp2_with fail
      refine ⟨HKH.out w5 HT5.out, ⟨HBL.out.turn HT5.out (by omega), HQL.out⟩, ⟨by rw [HRD.out, HR5.out]; exact HB5.out, HQX.out⟩, ⟨(HT5.out.block _ HBE.out.lt (by omega)).trans HBE.out, HQE.out⟩, ⟨HXX HT5.out (fun k h => by omega) HBB.out.1, Nat.le_trans HBB.out.2.1 HT5.out.size, HBB.out.2.2⟩, by rw [HRD.out, HR5.out]; rfl⟩
    · have HT5 := Lib.hid ht5
      have HB5 := Lib.hid hb5
      have HR5 := Lib.hid hrd
      clear ht5 hb5 hrd c2 e0
      gi_wp2_with fail
      refine ⟨rfl, ⟨⟨by rw [HRP.out]; exact HB5.out, HQX.out⟩, ⟨(HT5.out.block _ HBE.out.lt (by omega)).trans HBE.out, HQE.out⟩, ⟨HXX HT5.out (fun k h => by omega) HBB.out.1, Nat.le_trans HBB.out.2.1 HT5.out.size, HBB.out.2.2⟩, rfl, by rw [HRD.out, HR5.out], by rw [HRP.out]; rfl⟩, HKH.out w5 HT5.out⟩
  case done =>
    rintro D ys W4 hD rfl ⟨⟨hbl, hql⟩, ⟨hbx, hqx⟩, ⟨hbe, hqe⟩, hB, hok⟩ hK'
    subst hA
    obtain ⟨y, hy⟩ := Option.isSome_iff_exists.1 hok
    rw [hy, Option.getD_some] at hbx
    have hgy := HGD.out ys (List.prefix_refl _) y hy
    have hgm : getM ys l ndZeroM = if okAll ys y = true ∧ putOut ys y = l then some y else none := by unfold getM; rw [hy]; rfl
    have HGM := Lib.hid hgm
    have HLD := Lib.hid (hbx.load (tt := 36) Tryz.underlying36 rfl (by rw [(HGS.out y hgy).1]; kernel_rfl))
    have HPW := Lib.hid (HPK.out y hgy W4 hB.1)
    have HO8 := Lib.hid (putOut_len hgy ys HP.out)
    obtain ⟨O, hO⟩ : ∃ O, putOut ys y = O := ⟨_, rfl⟩
    rw [hO] at HPW HO8 HGM
    obtain ⟨o, ho⟩ : ∃ o, okAll ys y = o := ⟨_, rfl⟩
    have hpe : putErr ys y = if o then 0 else 2 := by unfold putErr; rw [ho]
    rw [hpe] at HPW
    rw [ho] at HGM
    have HBX := Lib.hid hbx
    have HQX := Lib.hid hqx
    have HBL := Lib.hid hbl
    have HBE := Lib.hid hbe
    have HQE := Lib.hid hqe
    have HBB := Lib.hid hB
    have HDK := Lib.hid hK'
    have HDD := Lib.hid hD
    have HGY := Lib.hid hgy
    clear hbl hql hbx hqx hbe hqe hB hok hK' hD hgm hO hpe ho hgy hy
    refine (wpAt_of_wpIn ?_ : wpAt _ _ _ _ _ _ _)
    gi_wp2_with (refine wpListIn_load_eq rfl 36 _ rfl _ _ rfl HLD.out ?_)
    refine ⟨trivial, ?_⟩
    refine (callsIn_wide.2 HPW.out).mono ?_
    rintro e w6 ⟨rfl, hb6⟩
    have hD6 : w6.heap[D]? = some (.deferred (some [])) := (hb6.block D (Array.getElem?_eq_some_iff.1 HDK.out).1).trans HDK.out
    have hx6 := HBX.out.below hb6 HBX.out.lt
    have hl6 := HBL.out.below hb6 HBL.out.lt
    have he6 : Boxed w6 (w.heap.size + 1 + 1) 26 (.int .i64 0) := (hb6.block _ HBE.out.lt).trans HBE.out
    have hB6 : Below w.heap.size w w6 := HBB.out.1.trans (hb6.mono HBB.out.1.size)
    obtain ⟨W7, hW7⟩ : ∃ W7, w6.alloc (.cells (lnA O) 113) = W7 := ⟨_, rfl⟩
    have hb7 : Below w6.heap.size w6 W7 := by rw [← hW7]; exact (Below.refl _ _).alloc (Nat.le_refl _) _
    have HO7 : Hid (Blk W7 w6.heap.size 113 (lnA O)) := show Blk _ _ _ _ by rw [← hW7]; exact Blk.new _ _ _
    have HX7 : Hid (Blk W7 (w.heap.size + 1) 36 y) := show Blk _ _ _ _ from hx6.below hb7 hx6.lt
    have HL7 : Hid (Blk W7 w.heap.size 113 (lnA l)) := show Blk _ _ _ _ from hl6.below hb7 hl6.lt
    have HE7 : Hid (Boxed W7 (w.heap.size + 1 + 1) 26 (.int .i64 0)) := show Boxed _ _ _ _ from (hb7.block _ he6.lt).trans he6
    have HD7 : Hid (W7.heap[D]? = some (.deferred (some []))) := show _ = _ from (hb7.block D (Array.getElem?_eq_some_iff.1 hD6).1).trans hD6
    have HB7 : Hid (Below w.heap.size w W7) := show Below _ _ _ from hB6.trans (hb7.mono hB6.size)
    have HST : Hid ((Instr.storeAt 113 (.pointer (some ⟨w6.heap.size, 0, none⟩)) (.agg (lnA O))).run Tryz.prog (w6.alloc (.cells #[.int .u64 0, .int .u64 0, .int .u64 0, .int .u64 0, .int .u64 0, .int .u64 0, .int .u64 0, .int .u64 0] 113)) = .ok () W7) := show _ = _ by
      rw [← hW7]
      exact run_storeAt_new w6 113 _ (lnA O) (by rw [lnA_size, HO8.out.1]; kernel_rfl) (by rw [lnA_size, HO8.out.1]; rfl) (lnA_one _)
    have HLO := Lib.hid (HO7.out.load (tt := 113) Tryz.underlying113 rfl (by rw [lnA_size, HO8.out.1]; kernel_rfl))
    have HLL := Lib.hid (HL7.out.load (tt := 113) Tryz.underlying113 rfl (by rw [lnA_size, HL8.out.1]; kernel_rfl))
    have heq : (Op.equalIn 10000 113 (.agg (lnA O)) (.agg (lnA l))).run Tryz.prog W7 = .ok (O == l) W7 := eql_line Tryz.underlying113 O l HO8.out.1 HL8.out.1 W7
    have HNO := Lib.hid (fun tmps h4 h5 => leaves_noM w (tmps := tmps) (X := w.heap.size + 1) (E := w.heap.size + 1 + 1) (D := D) (HGS.out y HGY.out).1 h4 h5 (by omega) W7 HX7.out HE7.out HD7.out (fun h => HQX.out h.symm) (fun h => HQE.out h.symm) (by omega) (by omega) (by have := HDD.out; have := HZ1.out; omega) HB7.out)
    clear hW7 hb7 hb6 hD6 hx6 hl6 he6 hB6
    have HMU := Lib.hid (fun b => mustBe_any b W7)
    cases o with
    | false =>
      gi_wp2_with (refine wpListIn_store_eq rfl 113 _ _ rfl _ _ rfl rfl HST.out ?_)
      refine ⟨trivial, ?_⟩
      refine (callsIn_wide.2 (HMU.out false)).mono ?_
      rintro e w8 (⟨h, -, -⟩ | ⟨-, rfl, rfl⟩)
      · cases h
      gi_wp2_with fail
      show LeavesInM _ _ _ _ _ _ _ _ _
      rw [HGM.out, if_neg (by rintro ⟨h, -⟩; cases h)]
      exact HNO.out _ rfl rfl
    | true =>
      obtain ⟨o2, ho2⟩ : ∃ o2, (O == l) = o2 := ⟨_, rfl⟩
      rw [ho2] at heq
      cases o2 with
      | false =>
        have hne : ¬ O = l := by simpa using ho2
        have HNE := Lib.hid hne
        clear ho2 hne
        gi_wp2_with (first | (refine wpListIn_store_eq rfl 113 _ _ rfl _ _ rfl rfl HST.out ?_) | (refine wpListIn_load_eqW (by rfl) 113 _ rfl _ _ rfl HLO.out ?_) | (refine wpListIn_load_eqW (by rfl) 113 _ rfl _ _ rfl HLL.out ?_))
        refine ⟨trivial, ?_⟩
        refine (callsIn_wide.2 (HMU.out false)).mono ?_
        rintro e w8 (⟨h, -, -⟩ | ⟨-, rfl, rfl⟩)
        · cases h
        gi_wp2_with fail
        show LeavesInM _ _ _ _ _ _ _ _ _
        rw [HGM.out, if_neg (by rintro ⟨-, h⟩; exact HNE.out h)]
        exact HNO.out _ rfl rfl
      | true =>
        have heq2 : O = l := by simpa using ho2
        have HEQ := Lib.hid heq2
        have hlx := HX7.out.load (tt := 36) Tryz.underlying36 rfl (by rw [(HGS.out y HGY.out).1]; kernel_rfl)
        obtain ⟨W9, hst, hb9, ht9⟩ := HX7.out.store (P := Tryz.prog) (tt := 36) (Y := y) (by rw [(HGS.out y HGY.out).1]; kernel_rfl) rfl (HGS.out y HGY.out).2
        have he9 : Boxed W9 (w.heap.size + 1 + 1) 26 (.int .i64 0) := (ht9.block _ HE7.out.lt (by omega)).trans HE7.out
        have hd9 : W9.heap[D]? = some (.deferred (some [])) := (ht9.block D (Array.getElem?_eq_some_iff.1 HD7.out).1 (fun h => HQX.out h.symm)).trans HD7.out
        have cEr := he9.cell
        have fEr := he9.frozen
        have lEr := he9.lt
        have HLX := Lib.hid hlx
        have HSX := Lib.hid hst
        have HB9 := Lib.hid hb9
        have HT9 := Lib.hid ht9
        have HE9 := Lib.hid he9
        have HD9 := Lib.hid hd9
        clear ho2 heq2 hlx hst hb9 ht9 he9 hd9
        gi_wp2_with (first | (refine wpListIn_store_eq rfl 113 _ _ rfl _ _ rfl rfl HST.out ?_) | (refine wpListIn_load_eqW (by rfl) 113 _ rfl _ _ rfl HLO.out ?_) | (refine wpListIn_load_eqW (by rfl) 113 _ rfl _ _ rfl HLL.out ?_))
        refine ⟨trivial, ?_⟩
        refine (callsIn_wide.2 (HMU.out true)).mono ?_
        rintro e w8 (⟨-, ⟨u, rfl⟩, rfl⟩ | ⟨h, -, -⟩)
        · gi_wp2_with (first | (refine wpListIn_load_eq rfl 36 _ rfl _ _ rfl HLX.out ?_) | (refine wpListIn_store_eq rfl 36 _ _ rfl _ _ rfl rfl HSX.out ?_))
          have hb10 := HXX HT9.out (fun k h => by omega) HB7.out
          have hd10 : (W9.setCell ⟨w.heap.size + 1 + 1, 0, none⟩ (.int .i64 0)).heap[D]? = some (.deferred (some [])) := (Below.heap_setCell _ _ _ _ (fun h => HQE.out h.symm)).trans HD9.out
          refine leaves_mark (by simp) hd10 fun W10 ht10 => ?_
          refine leaves_closure (by simp) (enters_of Tryz.func59 (by kernel_rfl) rfl) ?_
          obtain ⟨hF, h⟩ := getD_ok_M 8 (w.heap.size + 1) (w.heap.size + 1 + 1) W10
          refine ⟨hF, fun c cs hc hr => ?_⟩
          obtain ⟨e, u', w', fr, ⟨rfl, rfl, h1⟩, h4⟩ := h c cs hc hr
          refine ⟨_, _, w', fr, ?_, h4⟩
          show LeavesInM Fence.wide 9 Tryz.prog Tryz.f21 _ _ [] (settle .returning) w'
          have hx10 : Blk W10 (w.heap.size + 1) 36 y := (HB9.out.setOther _ (by omega)).turn ht10 (fun h => HQX.out h)
          have he10 : Boxed W10 (w.heap.size + 1 + 1) 26 (.int .i64 0) := (ht10.block _ (by simp [World.setCell]; exact HE9.out.lt) (fun h => HQE.out h)).trans (HE9.out.set _)
          have hx11 := hx10.below h1 hx10.lt
          have he11 : Boxed w' (w.heap.size + 1 + 1) 26 (.int .i64 0) := (h1.block _ he10.lt).trans he10
          refine ⟨_, results_cell_cell (fn := Tryz.f21) rfl rfl (hx11.loadVar (tt := 36) Tryz.underlying36 rfl (by rw [(HGS.out y HGY.out).1]; kernel_rfl)) rfl (loadErr he11), ?_, ?_⟩
          · rw [HGM.out, if_pos ⟨by first | rfl | trivial, HEQ.out⟩]; rfl
          · have hb11 := hb10.setCell (p := ⟨w.heap.size + 1 + 1, 0, none⟩) (show w.heap.size ≤ w.heap.size + 1 + 1 by omega) (.int .i64 0)
            have hb12 := hb11.trans (ht10.below (B := w.heap.size) (fun k h => by have := HDD.out; have := HZ1.out; omega) hb11.size)
            exact hb12.trans (h1.mono hb12.size)
        · cases h
  case stop =>
    rintro D cd pre W4 hD hpre h
    exact h.elim
  case panic =>
    rintro D ch pre W4 hD hpre ⟨⟨hbx, hqx⟩, ⟨hbe, hqe⟩, hB, rfl, hno, hok⟩ hK'
    subst hA
    have hN : rdAll l ps ndZeroM = none := by
      obtain ⟨r, rfl⟩ := hpre
      rw [rdAll_append, hno]; rfl
    obtain ⟨y, hy⟩ := Option.isSome_iff_exists.1 hok
    rw [hy, Option.getD_some] at hbx
    have hgy := HGD.out pre.dropLast ((List.dropLast_prefix pre).trans hpre) y hy
    have hgm : getM ps l ndZeroM = none := by unfold getM; rw [hN]; rfl
    show LeavesInM _ _ _ _ _ _ _ _ _
    rw [hgm]
    have hz1 := HZ1.out
    exact leaves_noM w (HGS.out y hgy).1 rfl rfl (by omega) W4 hbx hbe hK' (fun h => hqx h.symm) (fun h => hqe h.symm) (by omega) (by omega) (by omega) hB.1
end Go.Proofs.YtaebipopmefkpaaGreatDoor
