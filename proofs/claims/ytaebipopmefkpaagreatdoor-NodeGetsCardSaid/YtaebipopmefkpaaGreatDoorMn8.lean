/-
  Texts NdFE to WordD, as one.
-/
import Derived.Test.YtaebipopmefkpaaGreatDoorMn7
import Derived.RecoverIn
import Derived.Deep.WholeRow
import Derived.Shelf.SortM.Plain
import Derived.Shelf.SortM.SortNone
import Derived.Shelf.Slices.CompactS
import Derived.Test.YtaebipopmefkpaaGreatDoorChecked
import Derived.Maps.OwnIn
import Derived.RangeFuncBox
import Derived.RangeFuncCalls
/-
  node: what reading a line of api.Entry does when it gives up, and when not. Written by gen_nd.py.
-/
namespace Go.Proofs.YtaebipopmefkpaaGreatDoor
open Go.RowKit Go.Shelf Go.Sort
attribute [local go_sem] Oper.semAt_some

def ndZeroE : Array Value := #[.int .i64 0, .int .i64 0, encStr []]
set_option maxRecDepth 100000 in
set_option maxHeartbeats 4000000 in
theorem getD_ok_E (n : Nat) (X E : Nat) (w : World) : CallsDIn Fence.wide n Tryz.prog 72 #[.pointer (some ⟨X, 0, none⟩), .pointer (some ⟨E, 0, none⟩)] .returning w fun e u w' => e = .returned (.tuple #[]) ∧ u = .returning ∧ Below w.heap.size w w' := by
  refine callsDIn_of_wpSIn Tryz.func72 rfl trivial fun c₀ cs hu => ?_
  apply wpSIn_seq
  apply wpSIn_region
  have h1 := ta_nil
  simp [wpOpsSIn, go_sem, recoverD, hu, Tryz.ntmps72, Exit.thenS, h1]
  rw [show ∀ (u : Value), (#[.pointer (some ⟨X, 0, none⟩), .pointer (some ⟨E, 0, none⟩)] ++ (((((((Array.replicate 10 undef).setIfInBounds 4 Value.nilIface).setIfInBounds 5 (.tuple #[.agg #[], .bool false])).setIfInBounds 3 (.tuple #[.agg #[], .bool false])).setIfInBounds 6 (.agg #[])).setIfInBounds 7 (.bool false)).setIfInBounds 0 u).setIfInBounds 1 (.bool false) : Array Value) = #[.pointer (some ⟨X, 0, none⟩), .pointer (some ⟨E, 0, none⟩), u, .bool false, undef, .tuple #[.agg #[], .bool false], .nilIface, .tuple #[.agg #[], .bool false], .agg #[], .bool false, undef, undef] from fun u => rfl]
  refine wpSIn_of_wpIn rfl ?_
  gi_wp2_with fail
  cases c₀
  simp_all [bodyPostS, results, Tryz.results72]
  exact (Below.refl _ _).alloc (Nat.le_refl _) _
set_option maxRecDepth 100000 in
set_option maxHeartbeats 4000000 in
theorem getD_no_E (n : Nat) (X E : Nat) (x : Array Value) (hx : x.size = 3) (v : Value) (hXE : X ≠ E) (w : World) (hX : Blk w X 44 x) (hE : Boxed w E 26 v) :
    CallsDIn Fence.wide n Tryz.prog 72 #[.pointer (some ⟨X, 0, none⟩), .pointer (some ⟨E, 0, none⟩)] (.panicking noLine) w fun e u w' => e = .returned (.tuple #[]) ∧ u = .panicking [{ v := .iface 115 (.agg #[]), recovered := true }] ∧ Blk w' X 44 ndZeroE ∧ Boxed w' E 26 (.int .i64 180) ∧ Turn (fun k => k = X ∨ k = E) w w' := by
  have lX := hX.lt
  have lE := hE.lt
  have hb2 : Below w.heap.size w ((w.alloc (.cells #[] 115)).alloc (.cells ndZeroE 44)) := (by repeat (first | exact Below.refl _ _ | assumption | refine Below.drew ?_ | refine below_drewN ?_ _ | refine Below.alloc ?_ (by (try simp) <;> omega) _ | refine Below.setCell ?_ (by (try simp) <;> omega) _ | refine Below.trans ?_ (Below.mono (by assumption) (by (try simp) <;> omega))))
  have h2 : Blk ((w.alloc (.cells #[] 115)).alloc (.cells ndZeroE 44)) (w.heap.size + 1) 44 ndZeroE := by unfold Blk; (simp only [heap_at, World.size_alloc]; repeat (first | rw [if_pos (by omega)] | rw [if_neg (by omega)] | rw [if_pos trivial]))
  have HLD : Hid ((Instr.loadAt 44 (.pointer (some ⟨w.heap.size + 1, 0, none⟩))).run Tryz.prog ((w.alloc (.cells #[] 115)).alloc (.cells #[.int .i64 0, .int .i64 0, encStr []] 44)) = .ok (.agg ndZeroE) ((w.alloc (.cells #[] 115)).alloc (.cells #[.int .i64 0, .int .i64 0, encStr []] 44))) := show _ = _ from h2.load (tt := 44) Tryz.underlying44 rfl (by kernel_rfl)
  obtain ⟨W3, hst, hb3, ht3⟩ := (hX.below hb2 lX).store (P := Tryz.prog) (tt := 44) (Y := ndZeroE) (by kernel_rfl) (by rw [hx]; rfl) (by simp [ndZeroE, Value.oneCell', encStr])
  have HST : Hid ((Instr.storeAt 44 (.pointer (some ⟨X, 0, none⟩)) (.agg ndZeroE)).run Tryz.prog ((w.alloc (.cells #[] 115)).alloc (.cells #[.int .i64 0, .int .i64 0, encStr []] 44)) = .ok () W3) := show _ = _ from hst
  have hE3 : Boxed W3 E 26 v := (ht3.block E (by simp; omega) (fun h => hXE h.symm)).trans ((hb2.block E lE).trans hE)
  have cEr := hE3.cell
  have fEr := hE3.frozen
  have lE3 := hE3.lt
  have HB3 := Lib.hid hb3
  have HE3 := Lib.hid hE3
  have HT3 : Hid (Turn (fun k => k = X ∨ k = E) w W3) := show Turn _ _ _ from (Turn.of_below hb2 (Nat.le_refl _)).trans (ht3.mono fun k h => .inl h)
  clear hb2 h2 hst hb3 ht3 hE3 hX hE
  refine callsDIn_of_wpSIn Tryz.func72 rfl trivial fun c₀ cs hu => ?_
  apply wpSIn_seq
  apply wpSIn_region
  have h1 := ta_line
  unfold noLine at hu
  simp [wpOpsSIn, go_sem, recoverD, hu, Tryz.ntmps72, Exit.thenS, h1]
  rw [show ∀ (u : Value), (#[.pointer (some ⟨X, 0, none⟩), .pointer (some ⟨E, 0, none⟩)] ++ (((((((Array.replicate 10 undef).setIfInBounds 4 (.iface 115 (.agg #[]))).setIfInBounds 5 (.tuple #[.agg #[], .bool true])).setIfInBounds 3 (.tuple #[.agg #[], .bool true])).setIfInBounds 6 (.agg #[])).setIfInBounds 7 (.bool true)).setIfInBounds 0 u).setIfInBounds 1 (.bool true) : Array Value) = #[.pointer (some ⟨X, 0, none⟩), .pointer (some ⟨E, 0, none⟩), u, .bool true, undef, .tuple #[.agg #[], .bool true], .iface 115 (.agg #[]), .tuple #[.agg #[], .bool true], .agg #[], .bool true, undef, undef] from fun u => rfl]
  refine wpSIn_of_wpIn rfl ?_
  gi_wp2_with (first | (refine wpListIn_load_eq rfl 44 _ rfl _ _ rfl HLD.out ?_) | (refine wpListIn_store_eq rfl 44 _ _ rfl _ _ rfl rfl HST.out ?_))
  cases c₀
  simp only [bodyPostS, true_and]
  refine ⟨_, rfl, .tuple #[], by simp [results, Tryz.results72], rfl, rfl, HB3.out.setOther _ hXE, HE3.out.set _, HT3.out.trans (Turn.setCell _ _ (.inr rfl))⟩
end Go.Proofs.YtaebipopmefkpaaGreatDoor

/-
  node: what a line of api.Entry is. Written by gen_nd.py.
-/
namespace Go.Proofs.YtaebipopmefkpaaGreatDoor
open Go.RowKit Go.Shelf Go.Sort
attribute [local go_sem] Oper.semAt_some

/-- In the rounds of get. -/
def GetIE (w : World) (l : List Int) (B X E : Nat) (pre : List PartV) (q : Nat → Prop) (W : World) : Prop :=
  (Blk W B 113 (lnA l) ∧ ¬ q B) ∧ (Blk W X 44 ((rdAll l pre ndZeroE).getD ndZeroE) ∧ ¬ q X) ∧ BoxF E 26 (.int .i64 0) q W ∧ BelowF w.heap.size w q W ∧ (rdAll l pre ndZeroE).isSome = true
theorem abides_getE (w : World) (l : List Int) (B X E : Nat) : Abides (GetIE w l B X E) := Abides.and (abides_blkF _ _ _) (Abides.and (abides_blkF X 44 (fun pre => (rdAll l pre ndZeroE).getD ndZeroE)) (Abides.and (Abides.box _ _ (fun _ => .int .i64 0)) (Abides.and (Abides.below _ _) (Abides.pure (fun pre : List PartV => (rdAll l pre ndZeroE).isSome = true)))))
/-- Where one gives up. -/
def GetPE (w : World) (l : List Int) (X E : Nat) (ch : List PanicEntry) (pre : List PartV) (q : Nat → Prop) (W : World) : Prop :=
  (Blk W X 44 ((rdAll l pre.dropLast ndZeroE).getD ndZeroE) ∧ ¬ q X) ∧ BoxF E 26 (.int .i64 0) q W ∧ BelowF w.heap.size w q W ∧ (ch = noLine ∧ rdAll l pre ndZeroE = none ∧ (rdAll l pre.dropLast ndZeroE).isSome = true)
theorem abides_getPE (w : World) (l : List Int) (X E : Nat) (ch : List PanicEntry) : Abides (GetPE w l X E ch) := Abides.and (abides_blkF X 44 (fun pre : List PartV => (rdAll l pre.dropLast ndZeroE).getD ndZeroE)) (Abides.and (Abides.box _ _ (fun _ => .int .i64 0)) (Abides.and (Abides.below _ _) (Abides.pure (fun pre : List PartV => ch = noLine ∧ rdAll l pre ndZeroE = none ∧ (rdAll l pre.dropLast ndZeroE).isSome = true))))
/-- It gives up. -/
theorem leaves_noE (w : World) {X E D : Nat} {x : Array Value} (hx : x.size = 3) {tmps : Array Value} (hX4 : tmps.getD 4 undef = .pointer (some ⟨X, 0, none⟩)) (hE5 : tmps.getD 5 undef = .pointer (some ⟨E, 0, none⟩)) (hXE : X ≠ E) (W : World) (hbx : Blk W X 44 x) (hbe : Boxed W E 26 (.int .i64 0)) (hD : W.heap[D]? = some (.deferred (some [])))
    (hDX : D ≠ X) (hDE : D ≠ E) (hwX : w.heap.size ≤ X) (hwE : w.heap.size ≤ E) (hwD : w.heap.size ≤ D) (hB : Below w.heap.size w W) :
    LeavesInM Fence.wide 9 Tryz.prog Tryz.f25 tmps (fun e w' => e = .returned (.tuple #[.agg ndZeroE, .int .i64 180]) ∧ Below w.heap.size w w') [{ target := .collected D, args := #[] }, { target := .fn (.func 72) #[.pointer (some ⟨X, 0, none⟩), .pointer (some ⟨E, 0, none⟩)], args := #[] }] (.panicking noLine) W := by
  refine leaves_mark (by simp) hD fun W' ht => ?_
  refine leaves_closure (by simp) (enters_of Tryz.func72 (by kernel_rfl) rfl) ?_
  obtain ⟨hF, h⟩ := getD_no_E 8 X E x hx (.int .i64 0) hXE W' (hbx.turn ht (fun h => hDX h.symm)) ((ht.block E hbe.lt (fun h => hDE h.symm)).trans hbe)
  refine ⟨hF, fun c cs hc hr => ?_⟩
  obtain ⟨e, u', w', fr, ⟨rfl, rfl, h1, h2, h3⟩, h4⟩ := h c cs hc hr
  refine ⟨_, _, w', fr, ?_, h4⟩
  show LeavesInM Fence.wide 9 Tryz.prog Tryz.f25 tmps _ [] (settle (.panicking [{ v := .iface 115 (.agg #[]), recovered := true }])) w'
  exact ⟨_, results_cell_cell (fn := Tryz.f25) rfl hX4 (h1.loadVar (tt := 44) Tryz.underlying44 rfl (by kernel_rfl)) hE5 (loadErr h2), rfl, (hB.trans (ht.below (B := w.heap.size) (fun k h => by omega) hB.size)).trans (h3.below (B := w.heap.size) (fun k h => by omega) (Nat.le_trans hB.size ht.size))⟩
set_option maxRecDepth 100000 in
set_option maxHeartbeats 4000000 in
theorem getK_E {Good : Array Value → Prop} {v : Value} {ps : List PartV} (l : List Int) (hl8 : Line8 l) (hGz : Good ndZeroE) (hGs : ∀ x, Good x → x.size = 3 ∧ x.all (·.oneCell') = true) (w : World) (hk : KindAtE w v ps) (hp : ∀ p ∈ ps, NdPart Good 44 w p) :
    Calls Tryz.prog 25 #[v, .agg (lnA l)] w fun e w' => e = .returned (.tuple #[.agg ((getM ps l ndZeroE).getD ndZeroE), .int .i64 (getErr (getM ps l ndZeroE))]) ∧ Below w.heap.size w w' := by
  have HPK := Lib.hid (fun (y : Array Value) (hy : Good y) (W : World) (hb : Below w.heap.size w W) => putK_E y hy (hGs y hy).1 W (hk.below hb) (fun p hm => (hp p hm).below hb))
  obtain ⟨⟨g, c, rfl, hg, hc⟩, hl⟩ := hk
  have HVE := Lib.hid (fun (W : World) (p : Nat) (hb : Below w.heap.size w W) (hbx : Boxed W p 80 (.slice (some ⟨g, 0, none⟩) ps.length c)) => valuesE_E 8 (by decide) (p := p) W hbx (Nat.lt_of_lt_of_le hg hb.size) (fun k hk => by
    obtain ⟨h1, h2, h3⟩ := hc k hk
    exact ⟨(hb.cell (p := ⟨g, k * 3, none⟩) hg).trans h1, (hb.cell (p := ⟨g, k * 3 + 1, none⟩) hg).trans h2, (hb.cell (p := ⟨g, k * 3 + 2, none⟩) hg).trans h3⟩) hl)
  clear hc hl
  obtain ⟨N, hN⟩ : ∃ N, ps.length = N := ⟨_, rfl⟩
  have HPT := Lib.hid (parts_E (some ⟨g, 0, none⟩) N c)
  rw [hN] at HVE HPK
  rw [hN]
  clear hN
  have HP := Lib.hid hp
  have HGD := Lib.hid (fun pre (hpre : pre <+: ps) (y : Array Value) (hy : rdAll l pre ndZeroE = some y) => show Good y from rdAll_good hl8 pre ndZeroE y (fun p hm => hp p (hpre.subset hm)) hGz hy)
  obtain ⟨W3, hW3⟩ : ∃ W3, ((w.alloc (.cells (lnA l) 113)).alloc (.cells ndZeroE 44)).alloc (.cells #[.int .i64 0] 26) = W3 := ⟨_, rfl⟩
  have HB3 : Hid (Below w.heap.size w W3) := show Below _ _ _ by rw [← hW3]; exact (by repeat (first | exact Below.refl _ _ | assumption | refine Below.drew ?_ | refine below_drewN ?_ _ | refine Below.alloc ?_ (by (try simp) <;> omega) _ | refine Below.setCell ?_ (by (try simp) <;> omega) _ | refine Below.trans ?_ (Below.mono (by assumption) (by (try simp) <;> omega))))
  have HL3 : Hid (Blk W3 w.heap.size 113 (lnA l)) := show Blk _ _ _ _ by unfold Blk; rw [← hW3]; (simp only [heap_at, World.size_alloc]; repeat (first | rw [if_pos (by omega)] | rw [if_neg (by omega)] | rw [if_pos trivial]))
  have HX3 : Hid (Blk W3 (w.heap.size + 1) 44 ndZeroE) := show Blk _ _ _ _ by unfold Blk; rw [← hW3]; (simp only [heap_at, World.size_alloc]; repeat (first | rw [if_pos (by omega)] | rw [if_neg (by omega)] | rw [if_pos trivial]))
  have HE3 : Hid (Boxed W3 (w.heap.size + 1 + 1) 26 (.int .i64 0)) := show Boxed _ _ _ _ by unfold Boxed; rw [← hW3]; (simp only [heap_at, World.size_alloc]; repeat (first | rw [if_pos (by omega)] | rw [if_neg (by omega)] | rw [if_pos trivial]))
  have HZ3 : Hid (W3.heap.size = w.heap.size + 3) := show _ = _ by rw [← hW3]; simp
  have HW3 : Hid (((w.alloc (.cells (lnA l) 113)).alloc (.cells #[.int .i64 0, .int .i64 0, encStr []] 44)).alloc (.cells #[.int .i64 0] 26) = W3) := show _ = _ from hW3
  have HGG := Lib.hid hg
  have HL8 := Lib.hid hl8
  have HGS := Lib.hid hGs
  have HGZ := Lib.hid hGz
  clear hW3 hp hg hl8 hGs hGz
  have HXX : ∀ {q : Nat → Prop} {W W' : World}, Turn q W W' → (∀ k, q k → w.heap.size ≤ k) → Below w.heap.size w W → Below w.heap.size w W' := fun ht hq hb => hb.trans (ht.below hq hb.size)
  refine (callsIn_wide (n := 9)).1 ?_
  refine callsIn_of_wpAt Tryz.func25 rfl ?_
  simp only [Tryz.ntmps25, List.size_toArray, List.length_cons, List.length_nil, Nat.reduceAdd, Nat.reduceSub, Array.replicate_succ, Array.replicate_zero, List.push_toArray, List.append_toArray, List.nil_append, List.cons_append]
  refine wpAt_seq (wpAt_of_wpIn ?_)
  gi_wp2_with fail
  rw [HW3.out]
  refine wpAt_seq (wpAt_of_wpIn ?_)
  gi_wp2_with fail
  refine wpAt_seq (wpAt_seq (wpAt_of_wpIn ?_))
  gi_wp2_with fail
  refine ⟨trivial, ?_⟩
  refine (callsIn_wide.2 (HPT.out W3)).mono ?_
  rintro e w1 ⟨rfl, hw1⟩
  have hz3 := HZ3.out
  have hb1 : Below W3.heap.size W3 w1 := by rw [hw1]; exact (Below.refl _ _).alloc (Nat.le_refl _) _
  have hz1 : w1.heap.size = w.heap.size + 4 := by rw [hw1, World.size_alloc]; omega
  have HB1 : Hid (Below w.heap.size w w1) := show Below _ _ _ from HB3.out.trans (hb1.mono HB3.out.size)
  have hx1 := HX3.out.below hb1 (by omega)
  have hl1 := HL3.out.below hb1 (by omega)
  have he1 : Boxed w1 (w.heap.size + 1 + 1) 26 (.int .i64 0) := (hb1.block _ (by omega)).trans HE3.out
  have hs1 : Boxed w1 (w.heap.size + 3) 80 (.slice (some ⟨g, 0, none⟩) N c) := by rw [hw1, ← hz3]; exact Boxed.new _ _ _
  have HSQ := Lib.hid (HVE.out w1 (w.heap.size + 3) HB1.out hs1)
  have HI0 : Hid (GetIE w l w.heap.size (w.heap.size + 1) (w.heap.size + 1 + 1) [] (fun _ => False) w1) := show GetIE _ _ _ _ _ _ _ _ from ⟨⟨hl1, id⟩, ⟨hx1, id⟩, ⟨he1, id⟩, ⟨HB1.out, HB1.out.size, fun _ h => h.elim⟩, rfl⟩
  have HZ1 := Lib.hid hz1
  clear hs1 hx1 hl1 he1 hb1 hw1 hz1 HVE
  gi_wp2_with fail
  refine wpAt_block ?_
  generalize hA : ({ tmps := _, defers := _ } : Act) = A0
  refine wpAt_range_E (n := 9) (fd := Tryz.f25) Tryz.func25 (gf := 141) (lb := #[.pointer (some ⟨w.heap.size + 3, 0, none⟩)]) (by rw [← hA]; rfl) (enters_of Tryz.func141 (by kernel_rfl) rfl) HSQ.out
    (fun k hk => by have := HZ1.out; have := HGG.out; rcases hk with rfl | rfl <;> omega) (Below.refl _ _) (fun _ => rfl)
    (GetIE w l w.heap.size (w.heap.size + 1) (w.heap.size + 1 + 1)) (fun _ _ _ _ => False) (GetPE w l (w.heap.size + 1) (w.heap.size + 1 + 1)) (abides_getE _ _ _ _ _) (fun _ _ _ _ _ _ h _ _ => h) (abides_getPE _ _ _ _) HI0.out
    (PartAxE A0 161 12 6 · (w1.heap.size + 2))
    (fun p a' W o ⟨b, e, hb, h⟩ => ⟨b, e, hb, (World.putObj_heap_other (by omega)).trans h⟩)
    ?assign ?body ?done ?stop ?panic
  case assign =>
    rintro l2 p W4 K hsz3 hK
    subst hA
    unfold encPart
    dsimp only
    gi_wp2_with fail
    refine hK _ _ ⟨W4.heap.size, rfl, hsz3, Tri.new _ _ _ _ _⟩ ((Below.refl _ _).alloc (Nat.le_refl _) _)
  case body =>
    rintro l2 pre p a' q2 W4 ⟨⟨hbl, hql⟩, ⟨hbx, hqx⟩, ⟨hbe, hqe⟩, hB, hok⟩ hs2 hqb hsp ⟨b, rfl, hb, ht⟩
    subst hA
    have hmem : p ∈ ps := hsp.subset (by simp)
    have hpt := HP.out p hmem
    obtain ⟨-, -, c2, -, -, -⟩ := ht.cells
    have hlb := ht.lt
    obtain ⟨y, hy⟩ := Option.isSome_iff_exists.1 hok
    rw [hy, Option.getD_some] at hbx
    have hgy := HGD.out pre ((List.prefix_append _ _).trans hsp) y hy
    have HLD := Lib.hid (hbl.load (tt := 113) Tryz.underlying113 rfl (by rw [lnA_size, HL8.out.1]; kernel_rfl))
    have HMB := Lib.hid (hpt.read y l (w.heap.size + 1) W4 hgy HL8.out hB.1 (by omega) hbx)
    have e0 : ∀ args W, (callFunc p.f2 args).run Tryz.prog W = .ok (.enter p.f2 args) W := hpt.e2
    have HRD : Hid (rdAll l (pre ++ [p]) ndZeroE = p.S.rd l y) := show _ = _ by
      rw [rdAll_append, hy, Option.bind_some, rdAll]
      cases p.S.rd l y <;> rfl
    have HRP : Hid (rdAll l (pre ++ [p]).dropLast ndZeroE = some y) := show _ = _ by rw [List.dropLast_concat, hy]
    obtain ⟨F, hF⟩ : ∃ F, p.f2 = F := ⟨_, rfl⟩
    obtain ⟨L, hL⟩ : ∃ L, p.l2 = L := ⟨_, rfl⟩
    unfold PartV.v2 at c2
    rw [hF, hL] at c2
    rw [hF] at e0
    rw [hF, hL] at HMB
    have HBL := Lib.hid hbl
    have HQL := Lib.hid hql
    have HBE := Lib.hid hbe
    have HQE := Lib.hid hqe
    have HQX := Lib.hid hqx
    have HBB := Lib.hid hB
    have HQB := Lib.hid hqb
    have HKK : ∀ w5, Turn (fun k => k = w.heap.size + 1) W4 w5 → Keeps (fun k => ndOwnE (w.heap.size + 3) g k ∨ q2 k) W4 w5 := fun w5 ht5 => ⟨ht5.size, fun k hk hl => ht5.block k hl (fun h => by
      rcases hk with (h2 | h2) | h2
      · have h4 : w.heap.size + 1 = w.heap.size + 3 := h.symm.trans h2
        omega
      · have h4 : w.heap.size + 1 = g := h.symm.trans h2
        have := HGG.out
        omega
      · exact HQX.out (by rwa [show k = w.heap.size + 1 from h] at h2))⟩
    have HKH := Lib.hid HKK
    clear hpt hmem ht hF hL hbx hqx hbl hql hbe hqe hB hqb hsp hok hy hgy HKK
    gi_wp2_with (refine wpListIn_load_eq rfl 113 _ rfl _ _ rfl HLD.out ?_)
    refine ⟨trivial, (CallsIn.inRound l2 (callsIn_wide.2 HMB.out)).mono ?_⟩
    rintro e w5 ⟨ht5, ⟨u, y2, rfl, hrd, hb5⟩ | ⟨rfl, hrd, hb5⟩⟩
    · have HT5 := Lib.hid ht5
      have HB5 := Lib.hid hb5
      have HR5 := Lib.hid hrd
      clear ht5 hb5 hrd c2 e0
      gi_wp2_with fail
      refine ⟨HKH.out w5 HT5.out, ⟨HBL.out.turn HT5.out (by omega), HQL.out⟩, ⟨by rw [HRD.out, HR5.out]; exact HB5.out, HQX.out⟩, ⟨(HT5.out.block _ HBE.out.lt (by omega)).trans HBE.out, HQE.out⟩, ⟨HXX HT5.out (fun k h => by omega) HBB.out.1, Nat.le_trans HBB.out.2.1 HT5.out.size, HBB.out.2.2⟩, by rw [HRD.out, HR5.out]; rfl⟩
    · have HT5 := Lib.hid ht5
      have HB5 := Lib.hid hb5
      have HR5 := Lib.hid hrd
      clear ht5 hb5 hrd c2 e0
      gi_wp2_with fail
      refine ⟨rfl, ⟨⟨by rw [HRP.out]; exact HB5.out, HQX.out⟩, ⟨(HT5.out.block _ HBE.out.lt (by omega)).trans HBE.out, HQE.out⟩, ⟨HXX HT5.out (fun k h => by omega) HBB.out.1, Nat.le_trans HBB.out.2.1 HT5.out.size, HBB.out.2.2⟩, rfl, by rw [HRD.out, HR5.out], by rw [HRP.out]; rfl⟩, HKH.out w5 HT5.out⟩
  case done =>
    rintro D ys W4 hD rfl ⟨⟨hbl, hql⟩, ⟨hbx, hqx⟩, ⟨hbe, hqe⟩, hB, hok⟩ hK'
    subst hA
    obtain ⟨y, hy⟩ := Option.isSome_iff_exists.1 hok
    rw [hy, Option.getD_some] at hbx
    have hgy := HGD.out ys (List.prefix_refl _) y hy
    have hgm : getM ys l ndZeroE = if okAll ys y = true ∧ putOut ys y = l then some y else none := by unfold getM; rw [hy]; rfl
    have HGM := Lib.hid hgm
    have HLD := Lib.hid (hbx.load (tt := 44) Tryz.underlying44 rfl (by rw [(HGS.out y hgy).1]; kernel_rfl))
    have HPW := Lib.hid (HPK.out y hgy W4 hB.1)
    have HO8 := Lib.hid (putOut_len hgy ys HP.out)
    obtain ⟨O, hO⟩ : ∃ O, putOut ys y = O := ⟨_, rfl⟩
    rw [hO] at HPW HO8 HGM
    obtain ⟨o, ho⟩ : ∃ o, okAll ys y = o := ⟨_, rfl⟩
    have hpe : putErr ys y = if o then 0 else 2 := by unfold putErr; rw [ho]
    rw [hpe] at HPW
    rw [ho] at HGM
    have HBX := Lib.hid hbx
    have HQX := Lib.hid hqx
    have HBL := Lib.hid hbl
    have HBE := Lib.hid hbe
    have HQE := Lib.hid hqe
    have HBB := Lib.hid hB
    have HDK := Lib.hid hK'
    have HDD := Lib.hid hD
    have HGY := Lib.hid hgy
    clear hbl hql hbx hqx hbe hqe hB hok hK' hD hgm hO hpe ho hgy hy
    refine (wpAt_of_wpIn ?_ : wpAt _ _ _ _ _ _ _)
    gi_wp2_with (refine wpListIn_load_eq rfl 44 _ rfl _ _ rfl HLD.out ?_)
    refine ⟨trivial, ?_⟩
    refine (callsIn_wide.2 HPW.out).mono ?_
    rintro e w6 ⟨rfl, hb6⟩
    have hD6 : w6.heap[D]? = some (.deferred (some [])) := (hb6.block D (Array.getElem?_eq_some_iff.1 HDK.out).1).trans HDK.out
    have hx6 := HBX.out.below hb6 HBX.out.lt
    have hl6 := HBL.out.below hb6 HBL.out.lt
    have he6 : Boxed w6 (w.heap.size + 1 + 1) 26 (.int .i64 0) := (hb6.block _ HBE.out.lt).trans HBE.out
    have hB6 : Below w.heap.size w w6 := HBB.out.1.trans (hb6.mono HBB.out.1.size)
    obtain ⟨W7, hW7⟩ : ∃ W7, w6.alloc (.cells (lnA O) 113) = W7 := ⟨_, rfl⟩
    have hb7 : Below w6.heap.size w6 W7 := by rw [← hW7]; exact (Below.refl _ _).alloc (Nat.le_refl _) _
    have HO7 : Hid (Blk W7 w6.heap.size 113 (lnA O)) := show Blk _ _ _ _ by rw [← hW7]; exact Blk.new _ _ _
    have HX7 : Hid (Blk W7 (w.heap.size + 1) 44 y) := show Blk _ _ _ _ from hx6.below hb7 hx6.lt
    have HL7 : Hid (Blk W7 w.heap.size 113 (lnA l)) := show Blk _ _ _ _ from hl6.below hb7 hl6.lt
    have HE7 : Hid (Boxed W7 (w.heap.size + 1 + 1) 26 (.int .i64 0)) := show Boxed _ _ _ _ from (hb7.block _ he6.lt).trans he6
    have HD7 : Hid (W7.heap[D]? = some (.deferred (some []))) := show _ = _ from (hb7.block D (Array.getElem?_eq_some_iff.1 hD6).1).trans hD6
    have HB7 : Hid (Below w.heap.size w W7) := show Below _ _ _ from hB6.trans (hb7.mono hB6.size)
    have HST : Hid ((Instr.storeAt 113 (.pointer (some ⟨w6.heap.size, 0, none⟩)) (.agg (lnA O))).run Tryz.prog (w6.alloc (.cells #[.int .u64 0, .int .u64 0, .int .u64 0, .int .u64 0, .int .u64 0, .int .u64 0, .int .u64 0, .int .u64 0] 113)) = .ok () W7) := show _ = _ by
      rw [← hW7]
      exact run_storeAt_new w6 113 _ (lnA O) (by rw [lnA_size, HO8.out.1]; kernel_rfl) (by rw [lnA_size, HO8.out.1]; rfl) (lnA_one _)
    have HLO := Lib.hid (HO7.out.load (tt := 113) Tryz.underlying113 rfl (by rw [lnA_size, HO8.out.1]; kernel_rfl))
    have HLL := Lib.hid (HL7.out.load (tt := 113) Tryz.underlying113 rfl (by rw [lnA_size, HL8.out.1]; kernel_rfl))
    have heq : (Op.equalIn 10000 113 (.agg (lnA O)) (.agg (lnA l))).run Tryz.prog W7 = .ok (O == l) W7 := eql_line Tryz.underlying113 O l HO8.out.1 HL8.out.1 W7
    have HNO := Lib.hid (fun tmps h4 h5 => leaves_noE w (tmps := tmps) (X := w.heap.size + 1) (E := w.heap.size + 1 + 1) (D := D) (HGS.out y HGY.out).1 h4 h5 (by omega) W7 HX7.out HE7.out HD7.out (fun h => HQX.out h.symm) (fun h => HQE.out h.symm) (by omega) (by omega) (by have := HDD.out; have := HZ1.out; omega) HB7.out)
    clear hW7 hb7 hb6 hD6 hx6 hl6 he6 hB6
    have HMU := Lib.hid (fun b => mustBe_any b W7)
    cases o with
    | false =>
      gi_wp2_with (refine wpListIn_store_eq rfl 113 _ _ rfl _ _ rfl rfl HST.out ?_)
      refine ⟨trivial, ?_⟩
      refine (callsIn_wide.2 (HMU.out false)).mono ?_
      rintro e w8 (⟨h, -, -⟩ | ⟨-, rfl, rfl⟩)
      · cases h
      gi_wp2_with fail
      show LeavesInM _ _ _ _ _ _ _ _ _
      rw [HGM.out, if_neg (by rintro ⟨h, -⟩; cases h)]
      exact HNO.out _ rfl rfl
    | true =>
      obtain ⟨o2, ho2⟩ : ∃ o2, (O == l) = o2 := ⟨_, rfl⟩
      rw [ho2] at heq
      cases o2 with
      | false =>
        have hne : ¬ O = l := by simpa using ho2
        have HNE := Lib.hid hne
        clear ho2 hne
        gi_wp2_with (first | (refine wpListIn_store_eq rfl 113 _ _ rfl _ _ rfl rfl HST.out ?_) | (refine wpListIn_load_eqW (by rfl) 113 _ rfl _ _ rfl HLO.out ?_) | (refine wpListIn_load_eqW (by rfl) 113 _ rfl _ _ rfl HLL.out ?_))
        refine ⟨trivial, ?_⟩
        refine (callsIn_wide.2 (HMU.out false)).mono ?_
        rintro e w8 (⟨h, -, -⟩ | ⟨-, rfl, rfl⟩)
        · cases h
        gi_wp2_with fail
        show LeavesInM _ _ _ _ _ _ _ _ _
        rw [HGM.out, if_neg (by rintro ⟨-, h⟩; exact HNE.out h)]
        exact HNO.out _ rfl rfl
      | true =>
        have heq2 : O = l := by simpa using ho2
        have HEQ := Lib.hid heq2
        have hlx := HX7.out.load (tt := 44) Tryz.underlying44 rfl (by rw [(HGS.out y HGY.out).1]; kernel_rfl)
        obtain ⟨W9, hst, hb9, ht9⟩ := HX7.out.store (P := Tryz.prog) (tt := 44) (Y := y) (by rw [(HGS.out y HGY.out).1]; kernel_rfl) rfl (HGS.out y HGY.out).2
        have he9 : Boxed W9 (w.heap.size + 1 + 1) 26 (.int .i64 0) := (ht9.block _ HE7.out.lt (by omega)).trans HE7.out
        have hd9 : W9.heap[D]? = some (.deferred (some [])) := (ht9.block D (Array.getElem?_eq_some_iff.1 HD7.out).1 (fun h => HQX.out h.symm)).trans HD7.out
        have cEr := he9.cell
        have fEr := he9.frozen
        have lEr := he9.lt
        have HLX := Lib.hid hlx
        have HSX := Lib.hid hst
        have HB9 := Lib.hid hb9
        have HT9 := Lib.hid ht9
        have HE9 := Lib.hid he9
        have HD9 := Lib.hid hd9
        clear ho2 heq2 hlx hst hb9 ht9 he9 hd9
        gi_wp2_with (first | (refine wpListIn_store_eq rfl 113 _ _ rfl _ _ rfl rfl HST.out ?_) | (refine wpListIn_load_eqW (by rfl) 113 _ rfl _ _ rfl HLO.out ?_) | (refine wpListIn_load_eqW (by rfl) 113 _ rfl _ _ rfl HLL.out ?_))
        refine ⟨trivial, ?_⟩
        refine (callsIn_wide.2 (HMU.out true)).mono ?_
        rintro e w8 (⟨-, ⟨u, rfl⟩, rfl⟩ | ⟨h, -, -⟩)
        · gi_wp2_with (first | (refine wpListIn_load_eq rfl 44 _ rfl _ _ rfl HLX.out ?_) | (refine wpListIn_store_eq rfl 44 _ _ rfl _ _ rfl rfl HSX.out ?_))
          have hb10 := HXX HT9.out (fun k h => by omega) HB7.out
          have hd10 : (W9.setCell ⟨w.heap.size + 1 + 1, 0, none⟩ (.int .i64 0)).heap[D]? = some (.deferred (some [])) := (Below.heap_setCell _ _ _ _ (fun h => HQE.out h.symm)).trans HD9.out
          refine leaves_mark (by simp) hd10 fun W10 ht10 => ?_
          refine leaves_closure (by simp) (enters_of Tryz.func72 (by kernel_rfl) rfl) ?_
          obtain ⟨hF, h⟩ := getD_ok_E 8 (w.heap.size + 1) (w.heap.size + 1 + 1) W10
          refine ⟨hF, fun c cs hc hr => ?_⟩
          obtain ⟨e, u', w', fr, ⟨rfl, rfl, h1⟩, h4⟩ := h c cs hc hr
          refine ⟨_, _, w', fr, ?_, h4⟩
          show LeavesInM Fence.wide 9 Tryz.prog Tryz.f25 _ _ [] (settle .returning) w'
          have hx10 : Blk W10 (w.heap.size + 1) 44 y := (HB9.out.setOther _ (by omega)).turn ht10 (fun h => HQX.out h)
          have he10 : Boxed W10 (w.heap.size + 1 + 1) 26 (.int .i64 0) := (ht10.block _ (by simp [World.setCell]; exact HE9.out.lt) (fun h => HQE.out h)).trans (HE9.out.set _)
          have hx11 := hx10.below h1 hx10.lt
          have he11 : Boxed w' (w.heap.size + 1 + 1) 26 (.int .i64 0) := (h1.block _ he10.lt).trans he10
          refine ⟨_, results_cell_cell (fn := Tryz.f25) rfl rfl (hx11.loadVar (tt := 44) Tryz.underlying44 rfl (by rw [(HGS.out y HGY.out).1]; kernel_rfl)) rfl (loadErr he11), ?_, ?_⟩
          · rw [HGM.out, if_pos ⟨by first | rfl | trivial, HEQ.out⟩]; rfl
          · have hb11 := hb10.setCell (p := ⟨w.heap.size + 1 + 1, 0, none⟩) (show w.heap.size ≤ w.heap.size + 1 + 1 by omega) (.int .i64 0)
            have hb12 := hb11.trans (ht10.below (B := w.heap.size) (fun k h => by have := HDD.out; have := HZ1.out; omega) hb11.size)
            exact hb12.trans (h1.mono hb12.size)
        · cases h
  case stop =>
    rintro D cd pre W4 hD hpre h
    exact h.elim
  case panic =>
    rintro D ch pre W4 hD hpre ⟨⟨hbx, hqx⟩, ⟨hbe, hqe⟩, hB, rfl, hno, hok⟩ hK'
    subst hA
    have hN : rdAll l ps ndZeroE = none := by
      obtain ⟨r, rfl⟩ := hpre
      rw [rdAll_append, hno]; rfl
    obtain ⟨y, hy⟩ := Option.isSome_iff_exists.1 hok
    rw [hy, Option.getD_some] at hbx
    have hgy := HGD.out pre.dropLast ((List.dropLast_prefix pre).trans hpre) y hy
    have hgm : getM ps l ndZeroE = none := by unfold getM; rw [hN]; rfl
    show LeavesInM _ _ _ _ _ _ _ _ _
    rw [hgm]
    have hz1 := HZ1.out
    exact leaves_noE w (HGS.out y hgy).1 rfl rfl (by omega) W4 hbx hbe hK' (fun h => hqx h.symm) (fun h => hqe h.symm) (by omega) (by omega) (by omega) hB.1
end Go.Proofs.YtaebipopmefkpaaGreatDoor

/-
  slices.Sort, slices.Compact at texts: laid at this program (written by gen_lays.py).
-/
namespace Go.Proofs.YtaebipopmefkpaaGreatDoor
open Go.RowKit Go.Sort Go.Shelf
end Go.Proofs.YtaebipopmefkpaaGreatDoor

/-
  A box that holds a row which grows in the rounds of a range.
-/
namespace Go.Proofs.YtaebipopmefkpaaGreatDoor
open Go.RowKit Go.Shelf

/-- A box that holds a row from n₁ on; neither is part of q. -/
def RowG (n₁ B : Nat) (t e : TypeId) (size n : Nat) (xs : List Value) (q : Nat → Prop) (W : World) : Prop :=
  ∃ v, Boxed W B t v ∧ W.ownsRow n₁ e size v n xs ∧ ¬ q B ∧ ∀ g, v.ownBlock = some g → ¬ q g
theorem own_keptG {W W' : World} {base : Nat} {e : TypeId} {size : Nat} {v : Value} {n : Nat} {xs : List Value} (h : W.ownsRow base e size v n xs) (hk : ∀ g, v.ownBlock = some g → g < W.heap.size → W'.heap[g]? = W.heap[g]?) : W'.ownsRow base e size v n xs := by
  obtain ⟨hl, h⟩ := h
  refine ⟨hl, h.imp id fun ⟨g, cap, cur, hv, hb, hg, hr⟩ => ⟨g, cap, cur, hv, hb, ?_, hr⟩⟩
  rw [hk g (by rw [hv]; rfl) (Array.getElem?_eq_some_iff.1 hg).1]; exact hg
theorem own_lowG {W : World} {base base' : Nat} {e : TypeId} {size : Nat} {v : Value} {n : Nat} {xs : List Value} (h : W.ownsRow base e size v n xs) (hb : base' ≤ base) : W.ownsRow base' e size v n xs :=
  ⟨h.1, h.2.imp id fun ⟨g, cap, cur, h1, h2, h3⟩ => ⟨g, cap, cur, h1, Nat.le_trans hb h2, h3⟩⟩
theorem abides_rowG {β : Type} (n₁ B : Nat) (t e : TypeId) (size : Nat) (k : β → Nat) (f : β → List Value) : Abides (fun s q W => RowG n₁ B t e size (k s) (f s) q W) := fun s q q' W W' ⟨v, hv, hr, hB, hg⟩ ht hq =>
  ⟨v, (ht.block B hv.lt hB).trans hv, own_keptG hr (fun g e hl => ht.block g hl (hg g e)), fun h => (hq B h).elim hB fun h2 => by have := hv.lt; omega, fun g e h => (hq g h).elim (hg g e) fun h2 => by have := (hr.lt g e).2; omega⟩
/-- An append in a round, and the store of the new slice into its box. -/
theorem row_appG {W w2 w : World} {n₀ n₁ B : Nat} {t e : TypeId} {size n m : Nat} {v v' : Value} {xs ys : List Value} {tmp : Obj} {p q : Nat → Prop}
    (hv : Boxed W B t v) (hte : t ≠ e) (hrow : W.ownsRow n₁ e size v n xs) (hqB : ¬ q B) (hqg : ∀ g, v.ownBlock = some g → ¬ q g) (hB : BelowF n₀ w q W) (hnB : n₀ ≤ B) (hn : n₀ ≤ n₁) (hq : ∀ k, q k → k < W.heap.size) (hpB : ¬ p B) (hp : ∀ k, n₁ ≤ k → ¬ p k)
    (own2 : w2.ownsRow n₁ e size v' m ys) (grow2 : (W.alloc tmp).grownBy w2 v.ownBlock) (at2 : v'.ownBlock = v.ownBlock ∨ v'.ownBlock = some (W.alloc tmp).heap.size) :
    Boxed w2 B t v ∧ Boxed (w2.setCell ⟨B, 0, none⟩ v') B t v' ∧ Keeps (fun k => p k ∨ q k) W (w2.setCell ⟨B, 0, none⟩ v') ∧ RowG n₁ B t e size m ys q (w2.setCell ⟨B, 0, none⟩ v') ∧ BelowF n₀ w q (w2.setCell ⟨B, 0, none⟩ v') := by
  obtain ⟨hv1, hv2, -, hk2, hb2⟩ := hv.appended hte (own_lowG hrow hn) hB.2.1 hnB (own_lowG own2 hn) grow2
  have hr2 : (w2.setCell ⟨B, 0, none⟩ v').ownsRow n₁ e size v' m ys := own2.kept (grownBy_setCell' w2 B v') (.inr (hv1.not_row hte own2).symm)
  refine ⟨hv1, hv2, ?_, ⟨v', hv2, hr2, hqB, fun g e hg => ?_⟩, ⟨hB.1.trans hb2, Nat.le_trans hB.2.1 hb2.size, hB.2.2⟩⟩
  · refine (Keeps.trans (B := W.alloc tmp) ⟨by simp, fun k _ hl => Below.heap_alloc _ _ _ hl⟩ (Keeps.of_grown grow2 (fun k e => ?_))).trans (Keeps.set w2 (b := B) (o := 0) _ ?_)
    · rintro (h | h)
      · exact hp k (hrow.lt k e).1 h
      · exact hqg k e h
    · rintro (h | h)
      · exact hpB h
      · exact hqB h
  · rcases at2 with h | h
    · exact hqg g (by rw [← h]; exact e) hg
    · rw [h] at e
      simp only [Option.some.injEq] at e
      have := hq g hg
      simp at e
      omega
end Go.Proofs.YtaebipopmefkpaaGreatDoor

/-
  label: a text's bytes as an iterator; first.
-/
namespace Go.Proofs.YtaebipopmefkpaaGreatDoor
open Go.RowKit Go.Shelf Go.Sort
attribute [local go_sem] Oper.semAt_some

theorem laBytes_any (s : List UInt8) (w : World) :
    Calls Tryz.prog 147 #[encStr s] w fun e w' => ∃ p g c, e = .returned (.func (.func 161) #[] #[.pointer (some ⟨p, 0, none⟩)]) ∧
      Boxed w' p 172 (.slice (some ⟨g, 0, none⟩) s.length c) ∧ Sl w' .u8 (.slice (some ⟨g, 0, none⟩) s.length c) (bsN s) ∧ w.heap.size ≤ p ∧ w.heap.size ≤ g ∧ g < w'.heap.size ∧ Below w.heap.size w w' := by
  have hcv := fun W => conv_bytes 210 Tryz.underlying210 s W
  have hv : Calls Tryz.prog 154 #[.slice (some ⟨w.heap.size, 0, none⟩) s.length (capC w s)] (bytesW w s) fun e w' => e = .returned (.func (.func 161) #[] #[.pointer (some ⟨(bytesW w s).heap.size, 0, none⟩)]) ∧ w' = (bytesW w s).alloc (.cells #[.slice (some ⟨w.heap.size, 0, none⟩) s.length (capC w s)] 172) := by
    generalize bytesW w s = W
    go_enter Tryz.func154, Tryz.ntmps154
    go_wp2
    go_ret
    exact ⟨rfl, rfl⟩
  have HV := Lib.hid hv
  clear hv
  go_enter Tryz.func147, Tryz.ntmps147
  go_wp2_with fail
  refine HV.out.mono ?_
  rintro e w1 ⟨rfl, rfl⟩
  go_wp2_with fail
  go_ret
  have hb1 : Below (bytesW w s).heap.size (bytesW w s) ((bytesW w s).alloc (.cells #[.slice (some ⟨w.heap.size, 0, none⟩) s.length (capC w s)] 172)) := (Below.refl _ _).alloc (Nat.le_refl _) _
  have hz := bytesW_size w s
  exact ⟨_, _, _, rfl, Boxed.new _ _ _, (bytesW_sl w s).below hb1, by omega, Nat.le_refl _, by rw [World.size_alloc]; omega, (bytesW_below w s).trans (hb1.mono (by omega))⟩
abbrev encB (x : Nat) : Array Value := #[.int .u8 (x : Nat)]
def vaP (p g : Nat) (k : Nat) : Prop := k = p ∨ k = g
set_option maxRecDepth 100000 in
set_option maxHeartbeats 4000000 in
theorem values_seq (n : Nat) (_ : 1 ≤ n) {p g c : Nat} {xs : List Nat} (w : World) (hbx : Boxed w p 172 (.slice (some ⟨g, 0, none⟩) xs.length c)) (hs : Sl w .u8 (.slice (some ⟨g, 0, none⟩) xs.length c) xs) (hg : g < w.heap.size) (hl : xs.length ≤ 140737488355328) :
    SeqF (vaP p g) n Tryz.prog 161 #[.pointer (some ⟨p, 0, none⟩)] encB (fun ys => ys = xs) (fun pre => pre <+: xs) w := fun lp J Jx W hW hJ hJx hY h0 => by
  have c0 : W.cell? ⟨p, 0, none⟩ = some (.slice (some ⟨g, 0, none⟩) xs.length c) := Boxed.cell ((hW.block _ hbx.lt).trans hbx)
  have HC := Lib.hid (fun (k : Nat) (hk : k < xs.length) => show W.cell? ⟨g, k, none⟩ = some (.int .u8 (xs[k]?.getD 0 : Nat)) from by
    obtain ⟨a', cap', e0, -, h⟩ := hs
    obtain ⟨b, off, ea, hlt, hj⟩ := h (by omega)
    simp only [Value.slice.injEq] at e0
    obtain ⟨rfl, -, -⟩ := e0
    simp only [Option.some.injEq, Addr.mk.injEq, and_true] at ea
    obtain ⟨rfl, rfl⟩ := ea
    have := hj k hk
    rw [Nat.zero_add] at this
    exact (hW.cell (p := ⟨g, k, none⟩) hg).trans this)
  have hgW : g < W.heap.size := Nat.lt_of_lt_of_le hg hW.size
  have HY := Lib.hid hY
  clear hY hJ hJx hs hbx hW
  obtain ⟨M, hM⟩ : ∃ M, xs.length = M := ⟨_, rfl⟩
  have HM := Lib.hid hM
  rw [hM] at c0 HC hl
  have HT := Lib.hid (fun (k : Nat) (hk : k < M) => show xs.take k ++ [xs[k]?.getD 0] = xs.take (k + 1) from by
    rw [List.take_succ_eq_append_getElem (by omega), List.getElem?_eq_getElem (by omega)]; rfl)
  clear hM
  refine callsIn_of_wp Tryz.func161 rfl trivial ?_ rfl
  simp only [Tryz.ntmps161, List.size_toArray, List.length_cons, List.length_nil, Nat.reduceAdd, Nat.reduceSub, Array.replicate_succ, Array.replicate_zero, List.push_toArray, List.append_toArray, List.nil_append, List.cons_append]
  gi_wp2_with fail
  gi_loopw [7] (fun i wr => ∃ k : Nat, k ≤ M ∧ i = .int .i64 (k : Nat) ∧ Hid (J (xs.take k) (fun _ => False) wr) ∧ Hid (Keeps (vaP p g) W wr)) (fun i _ => M - (intOf i).toNat)
  case atStart => exact ⟨0, Nat.zero_le _, rfl, Lib.hid (by simpa using h0), Lib.hid (Keeps.refl _ _)⟩
  case round =>
    obtain ⟨k, hk, rfl, HJs, HKP⟩ := hrel
    clear c0
    by_cases hlt : k < M
    · have ck := (World.cell?_of_block (a := ⟨g, k, none⟩) (HKP.out.2 g (.inr rfl) hgW)).trans (HC.out k hlt)
      have HF := Lib.hid (HT.out k hlt)
      obtain ⟨fn, tmps, assign, body, hy, hR⟩ := HY.out _ (xs[k]?.getD 0) _ _ HJs.out HKP.out.1 (fun q h => h.elim) (by rw [HF.out]; exact List.take_prefix _ _)
      rw [HF.out] at hR
      have HR := Lib.hid hR
      unfold encB at hy
      obtain ⟨z, hz⟩ : ∃ z, xs[k]?.getD 0 = z := ⟨_, rfl⟩
      rw [hz] at hy ck
      have k2 : (k : Int) < (M : Int) := by omega
      clear hR hz
      gi_wp2_with fail
      refine HR.out.mono ?_
      rintro e W3 ⟨hk3, ⟨rfl, hJ3⟩ | ⟨rfl, hJx3⟩⟩
      · have HKP3 : Hid (Keeps (vaP p g) W W3) := show Keeps _ _ _ from HKP.out.trans (hk3.weaken fun k h => .inl h)
        have HJ3 := Lib.hid hJ3
        clear hy hk3 hJ3 ck
        gi_wp2_with fail
        go_roundw
        case rel => exact ⟨k + 1, by omega, by go_num, HJ3, HKP3⟩
        case measure => simp [intOf]; omega
      · clear hy ck
        gi_wp2_with fail
        refine bodyPost_ret (results_none rfl _ _ _) rfl ?_
        exact ⟨⟨_, rfl⟩, .inr ⟨_, List.take_prefix _ _, hJx3⟩⟩
    · obtain rfl : k = M := by omega
      gi_wp2_with fail
      go_end0
      exact ⟨⟨_, rfl⟩, .inl ⟨_, by rw [List.take_of_length_le (by rw [HM.out]; exact Nat.le_refl _)], HJs.out⟩⟩
end Go.Proofs.YtaebipopmefkpaaGreatDoor

/-
  Contracts of word's split (words into bytes) and of slices.ContainsFunc at its predicate.
-/
namespace Go.Proofs.YtaebipopmefkpaaGreatDoor
open Go.RowKit Go.Shelf

theorem infoU8 : (Tryz.prog.info? 5).map (fun i => (i.zero, i.size, i.bytes)) = some (some (.int .u8 0), 1, 1) := by kernel_rfl
theorem byte_div (x k : Nat) : (((x / 2 ^ (8 * k) : Nat)) : Int) % 256 = (WM.getN x (8 * k) 8 : Nat) := by
  unfold WM.getN
  rw [Int.natCast_emod]; rfl
theorem div_next (x k : Nat) : ((x / 2 ^ (8 * k) : Nat) : Int) / 256 = ((x / 2 ^ (8 * (k + 1)) : Nat) : Int) := by
  have : x / 2 ^ (8 * (k + 1)) = x / 2 ^ (8 * k) / 256 := by
    rw [Nat.div_div_eq_div_mul]; congr 1
    rw [show 8 * (k + 1) = 8 * k + 8 by omega, Nat.pow_add]
  rw [this]; omega
/-- The bytes of a word, as values. -/
def byteVals (x : Nat) (k : Nat) : List Value := (List.range k).map fun j => Value.int .u8 (WM.getN x (8 * j) 8 : Nat)
theorem byteVals_succ (x k : Nat) : byteVals x (k + 1) = byteVals x k ++ [.int .u8 (WM.getN x (8 * k) 8 : Nat)] := by unfold byteVals; rw [List.range_succ, List.map_append]; rfl
set_option maxRecDepth 100000 in
set_option maxHeartbeats 4000000 in
theorem split1_any (x m n₀ : Nat) (g cap : Nat) (ys : List Value) (hx : x < 18446744073709551616) (hm : m ≤ 32768) (w : World) (hn : n₀ ≤ w.heap.size) (hown : w.ownsRow n₀ 5 1 (.slice (some ⟨g, 0, none⟩) m cap) m ys) :
    Calls Tryz.prog 159 #[.slice (some ⟨g, 0, none⟩) m cap, .int .u64 x] w fun e w' => ∃ g' cap', e = .returned (.slice (some ⟨g', 0, none⟩) (m + 8) cap') ∧ w'.ownsRow n₀ 5 1 (.slice (some ⟨g', 0, none⟩) (m + 8) cap') (m + 8) (ys ++ byteVals x 8) ∧ Below n₀ w w' := by
  obtain ⟨i0, hi, hz0, hz1, hz2⟩ := info_parts infoU8
  go_enter Tryz.func159, Tryz.ntmps159
  go_wp2
  go_loopw [0, 1, 5] (fun v y i wr => ∃ (k g' cap' : Nat), k ≤ 8 ∧ i = .int .i64 k ∧ y = .int .u64 ((x / 2 ^ (8 * k) : Nat)) ∧ v = .slice (some ⟨g', 0, none⟩) (m + k) cap' ∧ wr.ownsRow n₀ 5 1 (.slice (some ⟨g', 0, none⟩) (m + k) cap') (m + k) (ys ++ byteVals x k) ∧ Below n₀ w wr) (fun _ _ i _ => 8 - (intOf i).toNat)
  case atStart => exact ⟨0, g, cap, by omega, rfl, by simp, rfl, by simpa [byteVals] using hown, Below.refl _ _⟩
  case round =>
    obtain ⟨k, g', cap', hk, rfl, rfl, rfl, hrow, hb⟩ := hrel
    have z := hb.size
    by_cases hlt : k < 8
    · have HB := Lib.hid (byte_div x k)
      have HD := Lib.hid (div_next x k)
      have HS := Lib.hid (byteVals_succ x k)
      have hyb : x / 2 ^ (8 * k) < 18446744073709551616 := Nat.lt_of_le_of_lt (Nat.div_le_self _ _) hx
      generalize hye : x / 2 ^ (8 * k) = y at *
      go_wp2_with (at_builtin; refine wpList_append_own _ rfl _ _ 172 rfl n₀ 5 i0 (.int .u8 0) 1 1 Tryz.underlying172 hi hz0 hz1 hz2 rfl (by decide) (.slice (some ⟨g', 0, none⟩) (m + k) cap') _ _ rfl (hrow.alloc _) ⟨wr.heap.size, 0, none⟩ 1 1 [.int .u8 ((y : Int) % 256)] rfl rfl (cell_one_new _ _ _) (by simp [Value.oneCell']) (by unfold maxLen; omega) (by omega) (by simp; omega) ?_; intro v' w1 hown' hgrow _)
      have hg0 := hrow.lt g' rfl
      go_roundw
      case rel =>
        obtain ⟨g2, cap2, rfl⟩ := ownsRow_succ hown'
        refine ⟨k + 1, g2, cap2, by omega, by go_num, by rw [HD.out], rfl, ?_, ?_⟩
        · rw [HS.out, ← HB.out, ← List.append_assoc]; exact hown'
        · exact (hb.alloc (by omega) _).grown hgrow (by simp; omega) (fun j e => by simp [Value.ownBlock] at e; omega)
      case measure => simp [intOf]; omega
    · obtain rfl : k = 8 := by omega
      go_wp2
      go_ret
      exact ⟨g', cap', rfl, hrow, hb⟩
/-- The bytes of the first k words, as values. -/
def splitVals (l : List Nat) : Nat → List Value
  | 0 => []
  | k + 1 => splitVals l k ++ byteVals (l[k]?.getD 0) 8
theorem splitVals_eq (l : List Nat) : ∀ k, splitVals l k = (List.range (8 * k)).map fun j => Value.int .u8 (WM.byteAt l j : Nat)
  | 0 => rfl
  | k + 1 => by
    rw [splitVals, splitVals_eq l k, show 8 * (k + 1) = 8 * k + 8 by omega, List.range_add, List.map_append]
    congr 1
    unfold byteVals
    rw [List.map_map]
    apply List.map_congr_left
    intro j hj
    have hj8 : j < 8 := List.mem_range.1 hj
    show Value.int .u8 _ = Value.int .u8 (WM.byteAt l (8 * k + j) : Nat)
    unfold WM.byteAt
    rw [show (8 * k + j) / 8 = k by omega, show (8 * k + j) % 8 = j by omega]
def Words64 (l : List Nat) : Prop := ∀ i : Nat, l[i]?.getD 0 < 18446744073709551616
set_option maxHeartbeats 1000000 in
theorem fold2_any (v : Value) (l : List Nat) (n₀ g cap : Nat) (hl : l.length ≤ 4096) (h64 : Words64 l) (w : World) (hn : n₀ ≤ w.heap.size) (hs : Sl w .u64 v l) (hlow : ∀ b off c, v = .slice (some ⟨b, off, none⟩) l.length c → 0 < l.length → b < n₀)
    (hown : w.ownsRow n₀ 5 1 (.slice (some ⟨g, 0, none⟩) 0 cap) 0 []) :
    Calls Tryz.prog 158 #[.slice (some ⟨g, 0, none⟩) 0 cap, v, .func (.func 159) #[] #[]] w fun e w' => ∃ g' cap', e = .returned (.slice (some ⟨g', 0, none⟩) (8 * l.length) cap') ∧ w'.ownsRow n₀ 5 1 (.slice (some ⟨g', 0, none⟩) (8 * l.length) cap') (8 * l.length) (splitVals l l.length) ∧ Below n₀ w w' := by
  obtain ⟨a, c, b, off, rfl, hlc, ha, hc⟩ := hs.cell
  clear hs
  have HC := Lib.hid hc; clear hc
  have HLow := Lib.hid hlow; clear hlow
  generalize hm : l.length = m at *
  have HM := Lib.hid hm; clear hm
  have h1 : (m : Int) ≤ 4096 := by omega
  go_enter Tryz.func158, Tryz.ntmps158
  go_wp2
  go_loopw [0, 8, 11] (fun v _ i wr => ∃ (k g' cap' : Nat), k ≤ m ∧ i = .int .i64 k ∧ v = .slice (some ⟨g', 0, none⟩) (8 * k) cap' ∧ wr.ownsRow n₀ 5 1 (.slice (some ⟨g', 0, none⟩) (8 * k) cap') (8 * k) (splitVals l k) ∧ Below n₀ w wr) (fun _ _ i _ => m - (intOf i).toNat)
  case atStart => exact ⟨0, g, cap, by omega, rfl, rfl, hown, Below.refl _ _⟩
  case round =>
    obtain ⟨k, g', cap', hk, rfl, rfl, hrow, hb⟩ := hrel
    have z := hb.size
    by_cases hlt : k < m
    · obtain rfl := ha (by omega)
      have hbn := HLow.out b off c rfl (by omega)
      have c1 : wr.cell? ⟨b, off + k, none⟩ = some (.int .u64 (l[k]?.getD 0 : Nat)) := (hb.cell (p := ⟨b, off + k, none⟩) hbn).trans ((HC.out (by omega)).2 k hlt)
      have hx := h64 k
      obtain ⟨x, hx1⟩ : ∃ x, x = l[k]?.getD 0 := ⟨_, rfl⟩
      rw [← hx1] at c1 hx
      have hsp := Lib.hid (split1_any x (8 * k) n₀ g' cap' (splitVals l k) hx (by omega) wr (by omega) hrow)
      have HX := Lib.hid hx1; clear hx1
      go_wp2_with fail
      refine hsp.out.mono ?_
      rintro e w1 ⟨g2, cap2, rfl, hrow2, hb2⟩
      go_wp2_with fail
      go_roundw
      case rel => exact ⟨k + 1, g2, cap2, by omega, by go_num, rfl, by rw [splitVals, ← HX.out]; exact hrow2, hb.trans hb2⟩
      case measure => simp [intOf]; omega
    · obtain rfl : k = m := by omega
      go_wp2
      go_ret
      exact ⟨g', cap', rfl, hrow, hb⟩
theorem split_any (v : Value) (l : List Nat) (hl : l.length ≤ 4096) (h64 : Words64 l) (w : World) (hs : Sl w .u64 v l) :
    Calls Tryz.prog 151 #[v] w fun e w' => ∃ g' cap', e = .returned (.slice (some ⟨g', 0, none⟩) (8 * l.length) cap') ∧ w'.ownsRow w.heap.size 5 1 (.slice (some ⟨g', 0, none⟩) (8 * l.length) cap') (8 * l.length) (splitVals l l.length) ∧ Below w.heap.size w w' := by
  obtain ⟨i0, hi, hz0, hz1, hz2⟩ := info_parts infoU8
  have hlow : ∀ b off c, v = .slice (some ⟨b, off, none⟩) l.length c → 0 < l.length → b < w.heap.size := by
    rintro b off c rfl h0
    obtain ⟨a, cap, e, _, h⟩ := hs
    obtain ⟨b', off', ea, hlt, _⟩ := h h0
    simp only [Value.slice.injEq] at e
    obtain ⟨e1, _, _⟩ := e
    rw [ea] at e1; simp at e1; omega
  have HF : ∀ (w1 : World) (g cap : Nat), Below w.heap.size w w1 → w1.ownsRow w.heap.size 5 1 (.slice (some ⟨g, 0, none⟩) 0 cap) 0 [] → Calls Tryz.prog 158 #[.slice (some ⟨g, 0, none⟩) 0 cap, v, .func (.func 159) #[] #[]] w1 fun e w' => ∃ g' cap', e = .returned (.slice (some ⟨g', 0, none⟩) (8 * l.length) cap') ∧ w'.ownsRow w.heap.size 5 1 (.slice (some ⟨g', 0, none⟩) (8 * l.length) cap') (8 * l.length) (splitVals l l.length) ∧ Below w.heap.size w1 w' :=
    fun w1 g cap hb ho => fold2_any v l w.heap.size g cap hl h64 w1 hb.size (hs.below hb) hlow ho
  have HF' := Lib.hid HF; clear HF hlow
  obtain ⟨a, c, b, off, rfl, -, -, -⟩ := hs.cell
  clear hs
  have h1 : (l.length : Int) ≤ 4096 := by omega
  go_enter Tryz.func151, Tryz.ntmps151
  go_wp2_with (at_make; refine wpList_make_own _ rfl _ _ 172 rfl w.heap.size 5 i0 (.int .u8 0) 1 Tryz.underlying172 hi hz0 hz1 .i64 .i64 _ (8 * l.length) rfl rfl (by simp) (by rw [hz2]; omega) (by unfold maxLen; omega) (by omega) ?_; intro w2 hown2 hgrow2)
  have b2 : Below w.heap.size w w2 := (Below.refl _ _).grown hgrow2 (Nat.le_refl _) (fun k e => by cases e)
  refine (HF'.out _ _ _ b2 hown2).mono ?_
  rintro e w3 ⟨g', cap', rfl, hrow3, hb3⟩
  go_wp2_with fail
  go_ret
  exact ⟨g', cap', rfl, hrow3, b2.trans hb3⟩
end Go.Proofs.YtaebipopmefkpaaGreatDoor
