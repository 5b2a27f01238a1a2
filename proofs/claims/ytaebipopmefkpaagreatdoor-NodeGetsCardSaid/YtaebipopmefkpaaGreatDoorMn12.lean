/-
  Texts NdFI to WordG, as one.
-/
import Derived.Test.YtaebipopmefkpaaGreatDoorMn11
import Derived.RecoverIn
import Derived.Deep.WholeRow
/-
  node: what reading a line of api.Inode does when it gives up, and when not. Written by gen_nd.py.
-/
namespace Go.Proofs.YtaebipopmefkpaaGreatDoor
open Go.RowKit Go.Shelf Go.Sort
attribute [local go_sem] Oper.semAt_some

def ndZeroI : Array Value := #[.int .i64 0, .int .i64 0, .int .i64 0]
set_option maxRecDepth 100000 in
set_option maxHeartbeats 4000000 in
theorem getD_ok_I (n : Nat) (X E : Nat) (w : World) : CallsDIn Fence.wide n Tryz.prog 52 #[.pointer (some ⟨X, 0, none⟩), .pointer (some ⟨E, 0, none⟩)] .returning w fun e u w' => e = .returned (.tuple #[]) ∧ u = .returning ∧ Below w.heap.size w w' := by
  refine callsDIn_of_wpSIn Tryz.func52 rfl trivial fun c₀ cs hu => ?_
  apply wpSIn_seq
  apply wpSIn_region
  have h1 := ta_nil
  simp [wpOpsSIn, go_sem, recoverD, hu, Tryz.ntmps52, Exit.thenS, h1]
  rw [show ∀ (u : Value), (#[.pointer (some ⟨X, 0, none⟩), .pointer (some ⟨E, 0, none⟩)] ++ (((((((Array.replicate 10 undef).setIfInBounds 4 Value.nilIface).setIfInBounds 5 (.tuple #[.agg #[], .bool false])).setIfInBounds 3 (.tuple #[.agg #[], .bool false])).setIfInBounds 6 (.agg #[])).setIfInBounds 7 (.bool false)).setIfInBounds 0 u).setIfInBounds 1 (.bool false) : Array Value) = #[.pointer (some ⟨X, 0, none⟩), .pointer (some ⟨E, 0, none⟩), u, .bool false, undef, .tuple #[.agg #[], .bool false], .nilIface, .tuple #[.agg #[], .bool false], .agg #[], .bool false, undef, undef] from fun u => rfl]
  refine wpSIn_of_wpIn rfl ?_
  gi_wp2_with fail
  cases c₀
  simp_all [bodyPostS, results, Tryz.results52]
  exact (Below.refl _ _).alloc (Nat.le_refl _) _
set_option maxRecDepth 100000 in
set_option maxHeartbeats 4000000 in
theorem getD_no_I (n : Nat) (X E : Nat) (x : Array Value) (hx : x.size = 3) (v : Value) (hXE : X ≠ E) (w : World) (hX : Blk w X 31 x) (hE : Boxed w E 26 v) :
    CallsDIn Fence.wide n Tryz.prog 52 #[.pointer (some ⟨X, 0, none⟩), .pointer (some ⟨E, 0, none⟩)] (.panicking noLine) w fun e u w' => e = .returned (.tuple #[]) ∧ u = .panicking [{ v := .iface 115 (.agg #[]), recovered := true }] ∧ Blk w' X 31 ndZeroI ∧ Boxed w' E 26 (.int .i64 180) ∧ Turn (fun k => k = X ∨ k = E) w w' := by
  have lX := hX.lt
  have lE := hE.lt
  have hb2 : Below w.heap.size w ((w.alloc (.cells #[] 115)).alloc (.cells ndZeroI 31)) := (by repeat (first | exact Below.refl _ _ | assumption | refine Below.drew ?_ | refine below_drewN ?_ _ | refine Below.alloc ?_ (by (try simp) <;> omega) _ | refine Below.setCell ?_ (by (try simp) <;> omega) _ | refine Below.trans ?_ (Below.mono (by assumption) (by (try simp) <;> omega))))
  have h2 : Blk ((w.alloc (.cells #[] 115)).alloc (.cells ndZeroI 31)) (w.heap.size + 1) 31 ndZeroI := by unfold Blk; (simp only [heap_at, World.size_alloc]; repeat (first | rw [if_pos (by omega)] | rw [if_neg (by omega)] | rw [if_pos trivial]))
  have HLD : Hid ((Instr.loadAt 31 (.pointer (some ⟨w.heap.size + 1, 0, none⟩))).run Tryz.prog ((w.alloc (.cells #[] 115)).alloc (.cells #[.int .i64 0, .int .i64 0, .int .i64 0] 31)) = .ok (.agg ndZeroI) ((w.alloc (.cells #[] 115)).alloc (.cells #[.int .i64 0, .int .i64 0, .int .i64 0] 31))) := show _ = _ from h2.load (tt := 31) Tryz.underlying31 rfl (by kernel_rfl)
  obtain ⟨W3, hst, hb3, ht3⟩ := (hX.below hb2 lX).store (P := Tryz.prog) (tt := 31) (Y := ndZeroI) (by kernel_rfl) (by rw [hx]; rfl) (by simp [ndZeroI, Value.oneCell'])
  have HST : Hid ((Instr.storeAt 31 (.pointer (some ⟨X, 0, none⟩)) (.agg ndZeroI)).run Tryz.prog ((w.alloc (.cells #[] 115)).alloc (.cells #[.int .i64 0, .int .i64 0, .int .i64 0] 31)) = .ok () W3) := show _ = _ from hst
  have hE3 : Boxed W3 E 26 v := (ht3.block E (by simp; omega) (fun h => hXE h.symm)).trans ((hb2.block E lE).trans hE)
  have cEr := hE3.cell
  have fEr := hE3.frozen
  have lE3 := hE3.lt
  have HB3 := Lib.hid hb3
  have HE3 := Lib.hid hE3
  have HT3 : Hid (Turn (fun k => k = X ∨ k = E) w W3) := show Turn _ _ _ from (Turn.of_below hb2 (Nat.le_refl _)).trans (ht3.mono fun k h => .inl h)
  clear hb2 h2 hst hb3 ht3 hE3 hX hE
  refine callsDIn_of_wpSIn Tryz.func52 rfl trivial fun c₀ cs hu => ?_
  apply wpSIn_seq
  apply wpSIn_region
  have h1 := ta_line
  unfold noLine at hu
  simp [wpOpsSIn, go_sem, recoverD, hu, Tryz.ntmps52, Exit.thenS, h1]
  rw [show ∀ (u : Value), (#[.pointer (some ⟨X, 0, none⟩), .pointer (some ⟨E, 0, none⟩)] ++ (((((((Array.replicate 10 undef).setIfInBounds 4 (.iface 115 (.agg #[]))).setIfInBounds 5 (.tuple #[.agg #[], .bool true])).setIfInBounds 3 (.tuple #[.agg #[], .bool true])).setIfInBounds 6 (.agg #[])).setIfInBounds 7 (.bool true)).setIfInBounds 0 u).setIfInBounds 1 (.bool true) : Array Value) = #[.pointer (some ⟨X, 0, none⟩), .pointer (some ⟨E, 0, none⟩), u, .bool true, undef, .tuple #[.agg #[], .bool true], .iface 115 (.agg #[]), .tuple #[.agg #[], .bool true], .agg #[], .bool true, undef, undef] from fun u => rfl]
  refine wpSIn_of_wpIn rfl ?_
  gi_wp2_with (first | (refine wpListIn_load_eq rfl 31 _ rfl _ _ rfl HLD.out ?_) | (refine wpListIn_store_eq rfl 31 _ _ rfl _ _ rfl rfl HST.out ?_))
  cases c₀
  simp only [bodyPostS, true_and]
  refine ⟨_, rfl, .tuple #[], by simp [results, Tryz.results52], rfl, rfl, HB3.out.setOther _ hXE, HE3.out.set _, HT3.out.trans (Turn.setCell _ _ (.inr rfl))⟩
end Go.Proofs.YtaebipopmefkpaaGreatDoor

/-
  node: what a line of api.Inode is. Written by gen_nd.py.
-/
namespace Go.Proofs.YtaebipopmefkpaaGreatDoor
open Go.RowKit Go.Shelf Go.Sort
attribute [local go_sem] Oper.semAt_some

/-- In the rounds of get. -/
def GetII (w : World) (l : List Int) (B X E : Nat) (pre : List PartV) (q : Nat → Prop) (W : World) : Prop :=
  (Blk W B 113 (lnA l) ∧ ¬ q B) ∧ (Blk W X 31 ((rdAll l pre ndZeroI).getD ndZeroI) ∧ ¬ q X) ∧ BoxF E 26 (.int .i64 0) q W ∧ BelowF w.heap.size w q W ∧ (rdAll l pre ndZeroI).isSome = true
theorem abides_getI (w : World) (l : List Int) (B X E : Nat) : Abides (GetII w l B X E) := Abides.and (abides_blkF _ _ _) (Abides.and (abides_blkF X 31 (fun pre => (rdAll l pre ndZeroI).getD ndZeroI)) (Abides.and (Abides.box _ _ (fun _ => .int .i64 0)) (Abides.and (Abides.below _ _) (Abides.pure (fun pre : List PartV => (rdAll l pre ndZeroI).isSome = true)))))
/-- Where one gives up. -/
def GetPI (w : World) (l : List Int) (X E : Nat) (ch : List PanicEntry) (pre : List PartV) (q : Nat → Prop) (W : World) : Prop :=
  (Blk W X 31 ((rdAll l pre.dropLast ndZeroI).getD ndZeroI) ∧ ¬ q X) ∧ BoxF E 26 (.int .i64 0) q W ∧ BelowF w.heap.size w q W ∧ (ch = noLine ∧ rdAll l pre ndZeroI = none ∧ (rdAll l pre.dropLast ndZeroI).isSome = true)
theorem abides_getPI (w : World) (l : List Int) (X E : Nat) (ch : List PanicEntry) : Abides (GetPI w l X E ch) := Abides.and (abides_blkF X 31 (fun pre : List PartV => (rdAll l pre.dropLast ndZeroI).getD ndZeroI)) (Abides.and (Abides.box _ _ (fun _ => .int .i64 0)) (Abides.and (Abides.below _ _) (Abides.pure (fun pre : List PartV => ch = noLine ∧ rdAll l pre ndZeroI = none ∧ (rdAll l pre.dropLast ndZeroI).isSome = true))))
/-- It gives up. -/
theorem leaves_noI (w : World) {X E D : Nat} {x : Array Value} (hx : x.size = 3) {tmps : Array Value} (hX4 : tmps.getD 4 undef = .pointer (some ⟨X, 0, none⟩)) (hE5 : tmps.getD 5 undef = .pointer (some ⟨E, 0, none⟩)) (hXE : X ≠ E) (W : World) (hbx : Blk W X 31 x) (hbe : Boxed W E 26 (.int .i64 0)) (hD : W.heap[D]? = some (.deferred (some [])))
    (hDX : D ≠ X) (hDE : D ≠ E) (hwX : w.heap.size ≤ X) (hwE : w.heap.size ≤ E) (hwD : w.heap.size ≤ D) (hB : Below w.heap.size w W) :
    LeavesInM Fence.wide 9 Tryz.prog Tryz.f19 tmps (fun e w' => e = .returned (.tuple #[.agg ndZeroI, .int .i64 180]) ∧ Below w.heap.size w w') [{ target := .collected D, args := #[] }, { target := .fn (.func 52) #[.pointer (some ⟨X, 0, none⟩), .pointer (some ⟨E, 0, none⟩)], args := #[] }] (.panicking noLine) W := by
  refine leaves_mark (by simp) hD fun W' ht => ?_
  refine leaves_closure (by simp) (enters_of Tryz.func52 (by kernel_rfl) rfl) ?_
  obtain ⟨hF, h⟩ := getD_no_I 8 X E x hx (.int .i64 0) hXE W' (hbx.turn ht (fun h => hDX h.symm)) ((ht.block E hbe.lt (fun h => hDE h.symm)).trans hbe)
  refine ⟨hF, fun c cs hc hr => ?_⟩
  obtain ⟨e, u', w', fr, ⟨rfl, rfl, h1, h2, h3⟩, h4⟩ := h c cs hc hr
  refine ⟨_, _, w', fr, ?_, h4⟩
  show LeavesInM Fence.wide 9 Tryz.prog Tryz.f19 tmps _ [] (settle (.panicking [{ v := .iface 115 (.agg #[]), recovered := true }])) w'
  exact ⟨_, results_cell_cell (fn := Tryz.f19) rfl hX4 (h1.loadVar (tt := 31) Tryz.underlying31 rfl (by kernel_rfl)) hE5 (loadErr h2), rfl, (hB.trans (ht.below (B := w.heap.size) (fun k h => by omega) hB.size)).trans (h3.below (B := w.heap.size) (fun k h => by omega) (Nat.le_trans hB.size ht.size))⟩
set_option maxRecDepth 100000 in
set_option maxHeartbeats 4000000 in
theorem getK_I {Good : Array Value → Prop} {v : Value} {ps : List PartV} (l : List Int) (hl8 : Line8 l) (hGz : Good ndZeroI) (hGs : ∀ x, Good x → x.size = 3 ∧ x.all (·.oneCell') = true) (w : World) (hk : KindAtI w v ps) (hp : ∀ p ∈ ps, NdPart Good 31 w p) :
    Calls Tryz.prog 19 #[v, .agg (lnA l)] w fun e w' => e = .returned (.tuple #[.agg ((getM ps l ndZeroI).getD ndZeroI), .int .i64 (getErr (getM ps l ndZeroI))]) ∧ Below w.heap.size w w' := by
  have HPK := Lib.hid (fun (y : Array Value) (hy : Good y) (W : World) (hb : Below w.heap.size w W) => putK_I y hy (hGs y hy).1 W (hk.below hb) (fun p hm => (hp p hm).below hb))
  obtain ⟨⟨g, c, rfl, hg, hc⟩, hl⟩ := hk
  have HVE := Lib.hid (fun (W : World) (p : Nat) (hb : Below w.heap.size w W) (hbx : Boxed W p 68 (.slice (some ⟨g, 0, none⟩) ps.length c)) => valuesE_I 8 (by decide) (p := p) W hbx (Nat.lt_of_lt_of_le hg hb.size) (fun k hk => by
    obtain ⟨h1, h2, h3⟩ := hc k hk
    exact ⟨(hb.cell (p := ⟨g, k * 3, none⟩) hg).trans h1, (hb.cell (p := ⟨g, k * 3 + 1, none⟩) hg).trans h2, (hb.cell (p := ⟨g, k * 3 + 2, none⟩) hg).trans h3⟩) hl)
  clear hc hl
  obtain ⟨N, hN⟩ : ∃ N, ps.length = N := ⟨_, rfl⟩
  have HPT := Lib.hid (parts_I (some ⟨g, 0, none⟩) N c)
  rw [hN] at HVE HPK
  rw [hN]
  clear hN
  have HP := Lib.hid hp
  have HGD := Lib.hid (fun pre (hpre : pre <+: ps) (y : Array Value) (hy : rdAll l pre ndZeroI = some y) => show Good y from rdAll_good hl8 pre ndZeroI y (fun p hm => hp p (hpre.subset hm)) hGz hy)
  obtain ⟨W3, hW3⟩ : ∃ W3, ((w.alloc (.cells (lnA l) 113)).alloc (.cells ndZeroI 31)).alloc (.cells #[.int .i64 0] 26) = W3 := ⟨_, rfl⟩
  have HB3 : Hid (Below w.heap.size w W3) := show Below _ _ _ by rw [← hW3]; exact (by repeat (first | exact Below.refl _ _ | assumption | refine Below.drew ?_ | refine below_drewN ?_ _ | refine Below.alloc ?_ (by (try simp) <;> omega) _ | refine Below.setCell ?_ (by (try simp) <;> omega) _ | refine Below.trans ?_ (Below.mono (by assumption) (by (try simp) <;> omega))))
  have HL3 : Hid (Blk W3 w.heap.size 113 (lnA l)) := show Blk _ _ _ _ by unfold Blk; rw [← hW3]; (simp only [heap_at, World.size_alloc]; repeat (first | rw [if_pos (by omega)] | rw [if_neg (by omega)] | rw [if_pos trivial]))
  have HX3 : Hid (Blk W3 (w.heap.size + 1) 31 ndZeroI) := show Blk _ _ _ _ by unfold Blk; rw [← hW3]; (simp only [heap_at, World.size_alloc]; repeat (first | rw [if_pos (by omega)] | rw [if_neg (by omega)] | rw [if_pos trivial]))
  have HE3 : Hid (Boxed W3 (w.heap.size + 1 + 1) 26 (.int .i64 0)) := show Boxed _ _ _ _ by unfold Boxed; rw [← hW3]; (simp only [heap_at, World.size_alloc]; repeat (first | rw [if_pos (by omega)] | rw [if_neg (by omega)] | rw [if_pos trivial]))
  have HZ3 : Hid (W3.heap.size = w.heap.size + 3) := show _ = _ by rw [← hW3]; simp
  have HW3 : Hid (((w.alloc (.cells (lnA l) 113)).alloc (.cells #[.int .i64 0, .int .i64 0, .int .i64 0] 31)).alloc (.cells #[.int .i64 0] 26) = W3) := show _ = _ from hW3
  have HGG := Lib.hid hg
  have HL8 := Lib.hid hl8
  have HGS := Lib.hid hGs
  have HGZ := Lib.hid hGz
  clear hW3 hp hg hl8 hGs hGz
  have HXX : ∀ {q : Nat → Prop} {W W' : World}, Turn q W W' → (∀ k, q k → w.heap.size ≤ k) → Below w.heap.size w W → Below w.heap.size w W' := fun ht hq hb => hb.trans (ht.below hq hb.size)
  refine (callsIn_wide (n := 9)).1 ?_
  refine callsIn_of_wpAt Tryz.func19 rfl ?_
  simp only [Tryz.ntmps19, List.size_toArray, List.length_cons, List.length_nil, Nat.reduceAdd, Nat.reduceSub, Array.replicate_succ, Array.replicate_zero, List.push_toArray, List.append_toArray, List.nil_append, List.cons_append]
  refine wpAt_seq (wpAt_of_wpIn ?_)
  gi_wp2_with fail
  rw [HW3.out]
  refine wpAt_seq (wpAt_of_wpIn ?_)
  gi_wp2_with fail
  refine wpAt_seq (wpAt_seq (wpAt_of_wpIn ?_))
  gi_wp2_with fail
  refine ⟨trivial, ?_⟩
  refine (callsIn_wide.2 (HPT.out W3)).mono ?_
  rintro e w1 ⟨rfl, hw1⟩
  have hz3 := HZ3.out
  have hb1 : Below W3.heap.size W3 w1 := by rw [hw1]; exact (Below.refl _ _).alloc (Nat.le_refl _) _
  have hz1 : w1.heap.size = w.heap.size + 4 := by rw [hw1, World.size_alloc]; omega
  have HB1 : Hid (Below w.heap.size w w1) := show Below _ _ _ from HB3.out.trans (hb1.mono HB3.out.size)
  have hx1 := HX3.out.below hb1 (by omega)
  have hl1 := HL3.out.below hb1 (by omega)
  have he1 : Boxed w1 (w.heap.size + 1 + 1) 26 (.int .i64 0) := (hb1.block _ (by omega)).trans HE3.out
  have hs1 : Boxed w1 (w.heap.size + 3) 68 (.slice (some ⟨g, 0, none⟩) N c) := by rw [hw1, ← hz3]; exact Boxed.new _ _ _
  have HSQ := Lib.hid (HVE.out w1 (w.heap.size + 3) HB1.out hs1)
  have HI0 : Hid (GetII w l w.heap.size (w.heap.size + 1) (w.heap.size + 1 + 1) [] (fun _ => False) w1) := show GetII _ _ _ _ _ _ _ _ from ⟨⟨hl1, id⟩, ⟨hx1, id⟩, ⟨he1, id⟩, ⟨HB1.out, HB1.out.size, fun _ h => h.elim⟩, rfl⟩
  have HZ1 := Lib.hid hz1
  clear hs1 hx1 hl1 he1 hb1 hw1 hz1 HVE
  gi_wp2_with fail
  refine wpAt_block ?_
  generalize hA : ({ tmps := _, defers := _ } : Act) = A0
  refine wpAt_range_E (n := 9) (fd := Tryz.f19) Tryz.func19 (gf := 132) (lb := #[.pointer (some ⟨w.heap.size + 3, 0, none⟩)]) (by rw [← hA]; rfl) (enters_of Tryz.func132 (by kernel_rfl) rfl) HSQ.out
    (fun k hk => by have := HZ1.out; have := HGG.out; rcases hk with rfl | rfl <;> omega) (Below.refl _ _) (fun _ => rfl)
    (GetII w l w.heap.size (w.heap.size + 1) (w.heap.size + 1 + 1)) (fun _ _ _ _ => False) (GetPI w l (w.heap.size + 1) (w.heap.size + 1 + 1)) (abides_getI _ _ _ _ _) (fun _ _ _ _ _ _ h _ _ => h) (abides_getPI _ _ _ _) HI0.out
    (PartAxI A0 126 12 6 · (w1.heap.size + 2))
    (fun p a' W o ⟨b, e, hb, h⟩ => ⟨b, e, hb, (World.putObj_heap_other (by omega)).trans h⟩)
    ?assign ?body ?done ?stop ?panic
  case assign =>
    rintro l2 p W4 K hsz3 hK
    subst hA
    unfold encPart
    dsimp only
    gi_wp2_with fail
    refine hK _ _ ⟨W4.heap.size, rfl, hsz3, Tri.new _ _ _ _ _⟩ ((Below.refl _ _).alloc (Nat.le_refl _) _)
  case body =>
    rintro l2 pre p a' q2 W4 ⟨⟨hbl, hql⟩, ⟨hbx, hqx⟩, ⟨hbe, hqe⟩, hB, hok⟩ hs2 hqb hsp ⟨b, rfl, hb, ht⟩
    subst hA
    have hmem : p ∈ ps := hsp.subset (by simp)
    have hpt := HP.out p hmem
    obtain ⟨-, -, c2, -, -, -⟩ := ht.cells
    have hlb := ht.lt
    obtain ⟨y, hy⟩ := Option.isSome_iff_exists.1 hok
    rw [hy, Option.getD_some] at hbx
    have hgy := HGD.out pre ((List.prefix_append _ _).trans hsp) y hy
    have HLD := Lib.hid (hbl.load (tt := 113) Tryz.underlying113 rfl (by rw [lnA_size, HL8.out.1]; kernel_rfl))
    have HMB := Lib.hid (hpt.read y l (w.heap.size + 1) W4 hgy HL8.out hB.1 (by omega) hbx)
    have e0 : ∀ args W, (callFunc p.f2 args).run Tryz.prog W = .ok (.enter p.f2 args) W := hpt.e2
    have HRD : Hid (rdAll l (pre ++ [p]) ndZeroI = p.S.rd l y) := show _ = _ by
      rw [rdAll_append, hy, Option.bind_some, rdAll]
      cases p.S.rd l y <;> rfl
    have HRP : Hid (rdAll l (pre ++ [p]).dropLast ndZeroI = some y) := show _ = _ by rw [List.dropLast_concat, hy]
    obtain ⟨F, hF⟩ : ∃ F, p.f2 = F := ⟨_, rfl⟩
    obtain ⟨L, hL⟩ : ∃ L, p.l2 = L := ⟨_, rfl⟩
    unfold PartV.v2 at c2
    rw [hF, hL] at c2
    rw [hF] at e0
    rw [hF, hL] at HMB
    have HBL := Lib.hid hbl
    have HQL := Lib.hid hql
    have HBE := Lib.hid hbe
    have HQE := Lib.hid hqe
    have HQX := Lib.hid hqx
    have HBB := Lib.hid hB
    have HQB := Lib.hid hqb
    have HKK : ∀ w5, Turn (fun k => k = w.heap.size + 1) W4 w5 → Keeps (fun k => ndOwnI (w.heap.size + 3) g k ∨ q2 k) W4 w5 := fun w5 ht5 => ⟨ht5.size, fun k hk hl => ht5.block k hl (fun h => by
      rcases hk with (h2 | h2) | h2
      · have h4 : w.heap.size + 1 = w.heap.size + 3 := h.symm.trans h2
        omega
      · have h4 : w.heap.size + 1 = g := h.symm.trans h2
        have := HGG.out
        omega
      · exact HQX.out (by rwa [show k = w.heap.size + 1 from h] at h2))⟩
    have HKH := Lib.hid HKK
    clear hpt hmem ht hF hL hbx hqx hbl hql hbe hqe hB hqb hsp hok hy hgy HKK
    gi_wp2_with (refine wpListIn_load_eq rfl 113 _ rfl _ _ rfl HLD.out ?_)
    refine ⟨trivial, (CallsIn.inRound l2 (callsIn_wide.2 HMB.out)).mono ?_⟩
    rintro e w5 ⟨ht5, ⟨u, y2, rfl, hrd, hb5⟩ | ⟨rfl, hrd, hb5⟩⟩
    · have HT5 := Lib.hid ht5
      have HB5 := Lib.hid hb5
      have HR5 := Lib.hid hrd
      clear ht5 hb5 hrd c2 e0
      gi_wp2_with fail
      refine ⟨HKH.out w5 HT5.out, ⟨HBL.out.turn HT5.out (by omega), HQL.out⟩, ⟨by rw [HRD.out, HR5.out]; exact HB5.out, HQX.out⟩, ⟨(HT5.out.block _ HBE.out.lt (by omega)).trans HBE.out, HQE.out⟩, ⟨HXX HT5.out (fun k h => by omega) HBB.out.1, Nat.le_trans HBB.out.2.1 HT5.out.size, HBB.out.2.2⟩, by rw [HRD.out, HR5.out]; rfl⟩
    · have HT5 := Lib.hid ht5
      have HB5 := Lib.hid hb5
      have HR5 := Lib.hid hrd
      clear ht5 hb5 hrd c2 e0
      gi_wp2_with fail
      refine ⟨rfl, ⟨⟨by rw [HRP.out]; exact HB5.out, HQX.out⟩, ⟨(HT5.out.block _ HBE.out.lt (by omega)).trans HBE.out, HQE.out⟩, ⟨HXX HT5.out (fun k h => by omega) HBB.out.1, Nat.le_trans HBB.out.2.1 HT5.out.size, HBB.out.2.2⟩, rfl, by rw [HRD.out, HR5.out], by rw [HRP.out]; rfl⟩, HKH.out w5 HT5.out⟩
  case done =>
    rintro D ys W4 hD rfl ⟨⟨hbl, hql⟩, ⟨hbx, hqx⟩, ⟨hbe, hqe⟩, hB, hok⟩ hK'
    subst hA
    obtain ⟨y, hy⟩ := Option.isSome_iff_exists.1 hok
    rw [hy, Option.getD_some] at hbx
    have hgy := HGD.out ys (List.prefix_refl _) y hy
    have hgm : getM ys l ndZeroI = if okAll ys y = true ∧ putOut ys y = l then some y else none := by unfold getM; rw [hy]; rfl
    have HGM := Lib.hid hgm
    have HLD := Lib.hid (hbx.load (tt := 31) Tryz.underlying31 rfl (by rw [(HGS.out y hgy).1]; kernel_rfl))
    have HPW := Lib.hid (HPK.out y hgy W4 hB.1)
    have HO8 := Lib.hid (putOut_len hgy ys HP.out)
    obtain ⟨O, hO⟩ : ∃ O, putOut ys y = O := ⟨_, rfl⟩
    rw [hO] at HPW HO8 HGM
    obtain ⟨o, ho⟩ : ∃ o, okAll ys y = o := ⟨_, rfl⟩
    have hpe : putErr ys y = if o then 0 else 2 := by unfold putErr; rw [ho]
    rw [hpe] at HPW
    rw [ho] at HGM
    have HBX := Lib.hid hbx
    have HQX := Lib.hid hqx
    have HBL := Lib.hid hbl
    have HBE := Lib.hid hbe
    have HQE := Lib.hid hqe
    have HBB := Lib.hid hB
    have HDK := Lib.hid hK'
    have HDD := Lib.hid hD
    have HGY := Lib.hid hgy
    clear hbl hql hbx hqx hbe hqe hB hok hK' hD hgm hO hpe ho hgy hy
    refine (wpAt_of_wpIn ?_ : wpAt _ _ _ _ _ _ _)
    gi_wp2_with (refine wpListIn_load_eq rfl 31 _ rfl _ _ rfl HLD.out ?_)
    refine ⟨trivial, ?_⟩
    refine (callsIn_wide.2 HPW.out).mono ?_
    rintro e w6 ⟨rfl, hb6⟩
    have hD6 : w6.heap[D]? = some (.deferred (some [])) := (hb6.block D (Array.getElem?_eq_some_iff.1 HDK.out).1).trans HDK.out
    have hx6 := HBX.out.below hb6 HBX.out.lt
    have hl6 := HBL.out.below hb6 HBL.out.lt
    have he6 : Boxed w6 (w.heap.size + 1 + 1) 26 (.int .i64 0) := (hb6.block _ HBE.out.lt).trans HBE.out
    have hB6 : Below w.heap.size w w6 := HBB.out.1.trans (hb6.mono HBB.out.1.size)
    obtain ⟨W7, hW7⟩ : ∃ W7, w6.alloc (.cells (lnA O) 113) = W7 := ⟨_, rfl⟩
    have hb7 : Below w6.heap.size w6 W7 := by rw [← hW7]; exact (Below.refl _ _).alloc (Nat.le_refl _) _
    have HO7 : Hid (Blk W7 w6.heap.size 113 (lnA O)) := show Blk _ _ _ _ by rw [← hW7]; exact Blk.new _ _ _
    have HX7 : Hid (Blk W7 (w.heap.size + 1) 31 y) := show Blk _ _ _ _ from hx6.below hb7 hx6.lt
    have HL7 : Hid (Blk W7 w.heap.size 113 (lnA l)) := show Blk _ _ _ _ from hl6.below hb7 hl6.lt
    have HE7 : Hid (Boxed W7 (w.heap.size + 1 + 1) 26 (.int .i64 0)) := show Boxed _ _ _ _ from (hb7.block _ he6.lt).trans he6
    have HD7 : Hid (W7.heap[D]? = some (.deferred (some []))) := show _ = _ from (hb7.block D (Array.getElem?_eq_some_iff.1 hD6).1).trans hD6
    have HB7 : Hid (Below w.heap.size w W7) := show Below _ _ _ from hB6.trans (hb7.mono hB6.size)
    have HST : Hid ((Instr.storeAt 113 (.pointer (some ⟨w6.heap.size, 0, none⟩)) (.agg (lnA O))).run Tryz.prog (w6.alloc (.cells #[.int .u64 0, .int .u64 0, .int .u64 0, .int .u64 0, .int .u64 0, .int .u64 0, .int .u64 0, .int .u64 0] 113)) = .ok () W7) := show _ = _ by
      rw [← hW7]
      exact run_storeAt_new w6 113 _ (lnA O) (by rw [lnA_size, HO8.out.1]; kernel_rfl) (by rw [lnA_size, HO8.out.1]; rfl) (lnA_one _)
    have HLO := Lib.hid (HO7.out.load (tt := 113) Tryz.underlying113 rfl (by rw [lnA_size, HO8.out.1]; kernel_rfl))
    have HLL := Lib.hid (HL7.out.load (tt := 113) Tryz.underlying113 rfl (by rw [lnA_size, HL8.out.1]; kernel_rfl))
    have heq : (Op.equalIn 10000 113 (.agg (lnA O)) (.agg (lnA l))).run Tryz.prog W7 = .ok (O == l) W7 := eql_line Tryz.underlying113 O l HO8.out.1 HL8.out.1 W7
    have HNO := Lib.hid (fun tmps h4 h5 => leaves_noI w (tmps := tmps) (X := w.heap.size + 1) (E := w.heap.size + 1 + 1) (D := D) (HGS.out y HGY.out).1 h4 h5 (by omega) W7 HX7.out HE7.out HD7.out (fun h => HQX.out h.symm) (fun h => HQE.out h.symm) (by omega) (by omega) (by have := HDD.out; have := HZ1.out; omega) HB7.out)
    clear hW7 hb7 hb6 hD6 hx6 hl6 he6 hB6
    have HMU := Lib.hid (fun b => mustBe_any b W7)
    cases o with
    | false =>
      gi_wp2_with (refine wpListIn_store_eq rfl 113 _ _ rfl _ _ rfl rfl HST.out ?_)
      refine ⟨trivial, ?_⟩
      refine (callsIn_wide.2 (HMU.out false)).mono ?_
      rintro e w8 (⟨h, -, -⟩ | ⟨-, rfl, rfl⟩)
      · cases h
      gi_wp2_with fail
      show LeavesInM _ _ _ _ _ _ _ _ _
      rw [HGM.out, if_neg (by rintro ⟨h, -⟩; cases h)]
      exact HNO.out _ rfl rfl
    | true =>
      obtain ⟨o2, ho2⟩ : ∃ o2, (O == l) = o2 := ⟨_, rfl⟩
      rw [ho2] at heq
      cases o2 with
      | false =>
        have hne : ¬ O = l := by simpa using ho2
        have HNE := Lib.hid hne
        clear ho2 hne
        gi_wp2_with (first | (refine wpListIn_store_eq rfl 113 _ _ rfl _ _ rfl rfl HST.out ?_) | (refine wpListIn_load_eqW (by rfl) 113 _ rfl _ _ rfl HLO.out ?_) | (refine wpListIn_load_eqW (by rfl) 113 _ rfl _ _ rfl HLL.out ?_))
        refine ⟨trivial, ?_⟩
        refine (callsIn_wide.2 (HMU.out false)).mono ?_
        rintro e w8 (⟨h, -, -⟩ | ⟨-, rfl, rfl⟩)
        · cases h
        gi_wp2_with fail
        show LeavesInM _ _ _ _ _ _ _ _ _
        rw [HGM.out, if_neg (by rintro ⟨-, h⟩; exact HNE.out h)]
        exact HNO.out _ rfl rfl
      | true =>
        have heq2 : O = l := by simpa using ho2
        have HEQ := Lib.hid heq2
        have hlx := HX7.out.load (tt := 31) Tryz.underlying31 rfl (by rw [(HGS.out y HGY.out).1]; kernel_rfl)
        obtain ⟨W9, hst, hb9, ht9⟩ := HX7.out.store (P := Tryz.prog) (tt := 31) (Y := y) (by rw [(HGS.out y HGY.out).1]; kernel_rfl) rfl (HGS.out y HGY.out).2
        have he9 : Boxed W9 (w.heap.size + 1 + 1) 26 (.int .i64 0) := (ht9.block _ HE7.out.lt (by omega)).trans HE7.out
        have hd9 : W9.heap[D]? = some (.deferred (some [])) := (ht9.block D (Array.getElem?_eq_some_iff.1 HD7.out).1 (fun h => HQX.out h.symm)).trans HD7.out
        have cEr := he9.cell
        have fEr := he9.frozen
        have lEr := he9.lt
        have HLX := Lib.hid hlx
        have HSX := Lib.hid hst
        have HB9 := Lib.hid hb9
        have HT9 := Lib.hid ht9
        have HE9 := Lib.hid he9
        have HD9 := Lib.hid hd9
        clear ho2 heq2 hlx hst hb9 ht9 he9 hd9
        gi_wp2_with (first | (refine wpListIn_store_eq rfl 113 _ _ rfl _ _ rfl rfl HST.out ?_) | (refine wpListIn_load_eqW (by rfl) 113 _ rfl _ _ rfl HLO.out ?_) | (refine wpListIn_load_eqW (by rfl) 113 _ rfl _ _ rfl HLL.out ?_))
        refine ⟨trivial, ?_⟩
        refine (callsIn_wide.2 (HMU.out true)).mono ?_
        rintro e w8 (⟨-, ⟨u, rfl⟩, rfl⟩ | ⟨h, -, -⟩)
        · gi_wp2_with (first | (refine wpListIn_load_eq rfl 31 _ rfl _ _ rfl HLX.out ?_) | (refine wpListIn_store_eq rfl 31 _ _ rfl _ _ rfl rfl HSX.out ?_))
          have hb10 := HXX HT9.out (fun k h => by omega) HB7.out
          have hd10 : (W9.setCell ⟨w.heap.size + 1 + 1, 0, none⟩ (.int .i64 0)).heap[D]? = some (.deferred (some [])) := (Below.heap_setCell _ _ _ _ (fun h => HQE.out h.symm)).trans HD9.out
          refine leaves_mark (by simp) hd10 fun W10 ht10 => ?_
          refine leaves_closure (by simp) (enters_of Tryz.func52 (by kernel_rfl) rfl) ?_
          obtain ⟨hF, h⟩ := getD_ok_I 8 (w.heap.size + 1) (w.heap.size + 1 + 1) W10
          refine ⟨hF, fun c cs hc hr => ?_⟩
          obtain ⟨e, u', w', fr, ⟨rfl, rfl, h1⟩, h4⟩ := h c cs hc hr
          refine ⟨_, _, w', fr, ?_, h4⟩
          show LeavesInM Fence.wide 9 Tryz.prog Tryz.f19 _ _ [] (settle .returning) w'
          have hx10 : Blk W10 (w.heap.size + 1) 31 y := (HB9.out.setOther _ (by omega)).turn ht10 (fun h => HQX.out h)
          have he10 : Boxed W10 (w.heap.size + 1 + 1) 26 (.int .i64 0) := (ht10.block _ (by simp [World.setCell]; exact HE9.out.lt) (fun h => HQE.out h)).trans (HE9.out.set _)
          have hx11 := hx10.below h1 hx10.lt
          have he11 : Boxed w' (w.heap.size + 1 + 1) 26 (.int .i64 0) := (h1.block _ he10.lt).trans he10
          refine ⟨_, results_cell_cell (fn := Tryz.f19) rfl rfl (hx11.loadVar (tt := 31) Tryz.underlying31 rfl (by rw [(HGS.out y HGY.out).1]; kernel_rfl)) rfl (loadErr he11), ?_, ?_⟩
          · rw [HGM.out, if_pos ⟨by first | rfl | trivial, HEQ.out⟩]; rfl
          · have hb11 := hb10.setCell (p := ⟨w.heap.size + 1 + 1, 0, none⟩) (show w.heap.size ≤ w.heap.size + 1 + 1 by omega) (.int .i64 0)
            have hb12 := hb11.trans (ht10.below (B := w.heap.size) (fun k h => by have := HDD.out; have := HZ1.out; omega) hb11.size)
            exact hb12.trans (h1.mono hb12.size)
        · cases h
  case stop =>
    rintro D cd pre W4 hD hpre h
    exact h.elim
  case panic =>
    rintro D ch pre W4 hD hpre ⟨⟨hbx, hqx⟩, ⟨hbe, hqe⟩, hB, rfl, hno, hok⟩ hK'
    subst hA
    have hN : rdAll l ps ndZeroI = none := by
      obtain ⟨r, rfl⟩ := hpre
      rw [rdAll_append, hno]; rfl
    obtain ⟨y, hy⟩ := Option.isSome_iff_exists.1 hok
    rw [hy, Option.getD_some] at hbx
    have hgy := HGD.out pre.dropLast ((List.dropLast_prefix pre).trans hpre) y hy
    have hgm : getM ps l ndZeroI = none := by unfold getM; rw [hN]; rfl
    show LeavesInM _ _ _ _ _ _ _ _ _
    rw [hgm]
    have hz1 := HZ1.out
    exact leaves_noI w (HGS.out y hgy).1 rfl rfl (by omega) W4 hbx hbe hK' (fun h => hqx h.symm) (fun h => hqe h.symm) (by omega) (by omega) (by omega) hB.1
end Go.Proofs.YtaebipopmefkpaaGreatDoor

/-
  The contract of word.Put.
-/
namespace Go.Proofs.YtaebipopmefkpaaGreatDoor
open Go.RowKit
theorem put_no (f v : Int) (n m : Int) (h : WM.okF f v = false) (hf : -9223372036854775808 ≤ f) (w : World) :
    Calls Tryz.prog 93 #[.int .u64 n, .agg #[.int .i64 f, .int .i64 v], .int .u64 m] w fun e w' => e = .returned (.tuple #[.int .u64 0, .int .i64 2]) ∧ Below w.heap.size w w' := by
  have H := Lib.hid h
  clear h
  go_enter Tryz.func93, Tryz.ntmps93
  go_wp2_with fail
  refine (spanOf_any f v _).mono ?_
  rintro e w1 ⟨rfl, hb1⟩
  have z1 := hb1.size; try simp at z1
  go_wp2_with fail
  refine (mayBe_any f v hf _).mono ?_
  rintro e w2 ⟨rfl, hb2⟩
  rw [H.out]
  go_wp2_with fail
  go_ret2
  exact ⟨rfl, (by repeat (first | exact Below.refl _ _ | assumption | refine Below.drew ?_ | refine below_drewN ?_ _ | refine Below.alloc ?_ (by (try simp) <;> omega) _ | refine Below.setCell ?_ (by (try simp) <;> omega) _ | refine Below.trans ?_ (Below.mono (by assumption) (by (try simp) <;> omega))))⟩
theorem put_big (f v n m : Nat) (h : f + v ≤ 64) (hf : f < 64) (hv : 1 ≤ v) (hm : m < 18446744073709551616) (hbig : ¬ m < 2 ^ v) (w : World) (ht : Tabs w) :
    Calls Tryz.prog 93 #[.int .u64 n, .agg #[.int .i64 f, .int .i64 v], .int .u64 m] w fun e w' => e = .returned (.tuple #[.int .u64 0, .int .i64 2]) ∧ Below w.heap.size w w' := by
  have H := Lib.hid (show WM.okF f v = true from decide_eq_true ⟨by omega, by omega, by omega, by omega⟩)
  have H2 := Lib.hid (show decide (m < 2 ^ v) = false from decide_eq_false hbig)
  clear hbig
  go_enter Tryz.func93, Tryz.ntmps93
  go_wp2_with fail
  refine (spanOf_any f v _).mono ?_
  rintro e w1 ⟨rfl, hb1⟩
  have z1 := hb1.size; try simp at z1
  go_wp2_with fail
  refine (mayBe_any f v (by omega) _).mono ?_
  rintro e w2 ⟨rfl, hb2⟩
  rw [H.out]
  have z2 := hb2.size; try simp at z2
  obtain ⟨hc2, hf2⟩ := bcell hb2
  go_wp2_with fail
  refine (holds_any f v m (by omega) hm _ (by exact ht.below (by repeat (first | exact Below.refl _ _ | assumption | refine Below.drew ?_ | refine below_drewN ?_ _ | refine Below.alloc ?_ (by (try simp) <;> omega) _ | refine Below.setCell ?_ (by (try simp) <;> omega) _ | refine Below.trans ?_ (Below.mono (by assumption) (by (try simp) <;> omega)))) ht.room)).mono ?_
  rintro e w3 ⟨rfl, hb3⟩
  rw [H2.out]
  go_wp2_with fail
  go_ret2
  exact ⟨rfl, (by repeat (first | exact Below.refl _ _ | assumption | refine Below.drew ?_ | refine below_drewN ?_ _ | refine Below.alloc ?_ (by (try simp) <;> omega) _ | refine Below.setCell ?_ (by (try simp) <;> omega) _ | refine Below.trans ?_ (Below.mono (by assumption) (by (try simp) <;> omega))))⟩
theorem put_yes (f v n m : Nat) (h : f + v ≤ 64) (hf : f < 64) (hv : 1 ≤ v) (hn : n < 18446744073709551616) (hsm : m < 2 ^ v) (w : World) (ht : Tabs w) :
    Calls Tryz.prog 93 #[.int .u64 n, .agg #[.int .i64 f, .int .i64 v], .int .u64 m] w fun e w' => e = .returned (.tuple #[.int .u64 (WM.putN n f v m : Nat), .int .i64 0]) ∧ Below w.heap.size w w' := by
  have H := Lib.hid (show WM.okF f v = true from decide_eq_true ⟨by omega, by omega, by omega, by omega⟩)
  have H2 := Lib.hid (show decide (m < 2 ^ v) = true from decide_eq_true hsm)
  have hm : m < 18446744073709551616 := Nat.lt_of_lt_of_le hsm (WM.pow_le64 v (by omega))
  have HS := Lib.hid hsm
  clear hsm
  go_enter Tryz.func93, Tryz.ntmps93
  go_wp2_with fail
  refine (spanOf_any f v _).mono ?_
  rintro e w1 ⟨rfl, hb1⟩
  have z1 := hb1.size; try simp at z1
  go_wp2_with fail
  refine (mayBe_any f v (by omega) _).mono ?_
  rintro e w2 ⟨rfl, hb2⟩
  rw [H.out]
  have z2 := hb2.size; try simp at z2
  obtain ⟨hc2, hf2⟩ := bcell hb2
  go_wp2_with fail
  refine (holds_any f v m (by omega) hm _ (by exact ht.below (by repeat (first | exact Below.refl _ _ | assumption | refine Below.drew ?_ | refine below_drewN ?_ _ | refine Below.alloc ?_ (by (try simp) <;> omega) _ | refine Below.setCell ?_ (by (try simp) <;> omega) _ | refine Below.trans ?_ (Below.mono (by assumption) (by (try simp) <;> omega)))) ht.room)).mono ?_
  rintro e w3 ⟨rfl, hb3⟩
  rw [H2.out]
  have z3 := hb3.size; try simp at z3
  obtain ⟨hc3, hf3⟩ := bcell hb3
  have hlt : w1.heap.size < w2.heap.size := by omega
  go_wp2_with fail
  refine (with_any f v n m h hf hn HS.out _ (by exact ht.below (by repeat (first | exact Below.refl _ _ | assumption | refine Below.drew ?_ | refine below_drewN ?_ _ | refine Below.alloc ?_ (by (try simp) <;> omega) _ | refine Below.setCell ?_ (by (try simp) <;> omega) _ | refine Below.trans ?_ (Below.mono (by assumption) (by (try simp) <;> omega)))) ht.room)).mono ?_
  rintro e w4 ⟨rfl, hb4⟩
  go_wp2_with fail
  go_ret2
  exact ⟨rfl, (by repeat (first | exact Below.refl _ _ | assumption | refine Below.drew ?_ | refine below_drewN ?_ _ | refine Below.alloc ?_ (by (try simp) <;> omega) _ | refine Below.setCell ?_ (by (try simp) <;> omega) _ | refine Below.trans ?_ (Below.mono (by assumption) (by (try simp) <;> omega))))⟩
end Go.Proofs.YtaebipopmefkpaaGreatDoor

/-
  Which fields are apart, and what is put into fields that are apart. Plain arithmetic.
-/
namespace Go.Proofs.YtaebipopmefkpaaGreatDoor
namespace WM
theorem mem_bitsOf (x i : Nat) (h : x < 18446744073709551616) : i ∈ bitsOf x ↔ x.testBit i = true := by
  unfold bitsOf
  rw [List.mem_filter, List.mem_range]
  constructor
  · exact fun h => h.2
  · intro hb
    refine ⟨?_, hb⟩
    rcases Nat.lt_or_ge i 64 with h1 | h1
    · exact h1
    · rw [lt_bit x 64 i (by simpa using h) h1] at hb
      cases hb
theorem bitsOf_nodup (x : Nat) : (bitsOf x).Nodup := List.Nodup.sublist List.filter_sublist List.nodup_range
/-- A word with these bits besides. -/
def orBits (t : Nat) (l : List Nat) : Nat := l.foldl (fun t i => t ||| 2 ^ i) t
theorem orBits_bit (l : List Nat) : ∀ (t j : Nat), (orBits t l).testBit j = (t.testBit j || decide (j ∈ l)) := by
  induction l with
  | nil => intro t j; simp [orBits]
  | cons a r ih =>
    intro t j
    show (orBits (t ||| 2 ^ a) r).testBit j = _
    rw [ih, Nat.testBit_or, Nat.testBit_two_pow]
    by_cases h : a = j
    · subst h; simp
    · have h' : ¬ j = a := fun e => h e.symm
      simp [h, h']
theorem orBits_more (t : Nat) (l : List Nat) (i : Nat) : orBits t (l ++ [i]) = orBits t l ||| 2 ^ i := by
  unfold orBits
  rw [List.foldl_append]; rfl
theorem orBits_all (t m : Nat) (h : m < 18446744073709551616) : orBits t (bitsOf m) = t ||| m := by
  apply Nat.eq_of_testBit_eq
  intro j
  rw [orBits_bit, Nat.testBit_or]
  congr 1
  rw [Bool.eq_iff_iff, decide_eq_true_iff]
  exact mem_bitsOf m j h
/-- On the way over a word's bits, the next one is taken only if it was so at the start. -/
theorem orBits_next (t m : Nat) (pre : List Nat) (y : Nat) (h : pre ++ [y] <+: bitsOf m) : (orBits t pre).testBit y = t.testBit y := by
  have hn : (pre ++ [y]).Nodup := List.Nodup.sublist h.sublist (bitsOf_nodup m)
  have hy : y ∉ pre := fun hm => by
    have := (List.nodup_append.1 hn).2.2
    exact this y hm y (by simp) rfl
  rw [orBits_bit]
  simp [hy]
/-- These fields may be, and none has a bit that is taken or that another has. -/
def apartFrom (t : Nat) : List (Int × Int) → Bool
  | [] => true
  | (f, v) :: r => okF f v && decide (t &&& maskN f.toNat v.toNat = 0) && apartFrom (t ||| maskN f.toNat v.toNat) r
theorem and_zero (t m : Nat) : t &&& m = 0 ↔ ∀ j, m.testBit j = true → t.testBit j = false := by
  constructor
  · intro h j hj
    have := congrArg (fun x => x.testBit j) h
    simpa [hj] using this
  · intro h
    apply Nat.eq_of_testBit_eq
    intro j
    rw [Nat.testBit_and, Nat.zero_testBit]
    cases hm : m.testBit j with
    | true => rw [h j hm]; rfl
    | false => simp
theorem maskN_bit (f v j : Nat) (h : f + v ≤ 64) : (maskN f v).testBit j = (decide (f ≤ j) && decide (j < f + v)) := by
  unfold maskN
  rw [show (18446744073709551616 : Nat) = 2 ^ 64 from rfl, Nat.testBit_mod_two_pow, Nat.testBit_mul_two_pow, Nat.testBit_two_pow_sub_one]
  by_cases h1 : f ≤ j
  · by_cases h2 : j < f + v
    · simp [h1, h2, show j < 64 by omega, show j - f < v by omega]
    · simp [h1, h2, show ¬ j - f < v by omega]
  · simp [h1]
/-- Two fields that are apart have no bit in common. -/
theorem apart_two (f v g u : Nat) (h : f + v ≤ 64) (k : g + u ≤ 64) (ha : apartFrom 0 [((f : Int), (v : Int)), ((g : Int), (u : Int))] = true) (j : Nat) : ¬ (f ≤ j ∧ j < f + v ∧ g ≤ j ∧ j < g + u) := fun ⟨h1, h2, h3, h4⟩ => by
  simp only [apartFrom, Bool.and_eq_true, decide_eq_true_eq, Int.toNat_natCast, Nat.zero_or, and_true] at ha
  have := (and_zero _ _).1 ha.2.2 j (by rw [maskN_bit g u j k]; simp [h3, h4])
  rw [maskN_bit f v j h] at this
  simp [h1, h2] at this
/-- Into fields that are apart one may put in either order. -/
theorem putN_swap (w f v n g u m : Nat) (h : f + v ≤ 64) (k : g + u ≤ 64) (hn : n < 2 ^ v) (hm : m < 2 ^ u) (hw : w < 18446744073709551616) (ha : ∀ j, ¬ (f ≤ j ∧ j < f + v ∧ g ≤ j ∧ j < g + u)) :
    putN (putN w f v n) g u m = putN (putN w g u m) f v n := by
  apply Nat.eq_of_testBit_eq
  intro i
  rw [putN_bit _ g u m i k hm (putN_lt _ _ _ _ hw), putN_bit _ f v n i h hn hw, putN_bit _ f v n i h hn (putN_lt _ _ _ _ hw), putN_bit _ g u m i k hm hw]
  have := ha i
  by_cases h1 : f ≤ i ∧ i < f + v
  · by_cases h2 : g ≤ i ∧ i < g + u
    · exact absurd ⟨h1.1, h1.2, h2.1, h2.2⟩ this
    · simp [h1, h2]
  · simp [h1]
theorem get_put (w f v n : Nat) (h : f + v ≤ 64) (hn : n < 2 ^ v) (hw : w < 18446744073709551616) : getN (putN w f v n) f v = n := by
  apply Nat.eq_of_testBit_eq
  intro i
  rw [getN_bit, putN_bit w f v n _ h hn hw]
  by_cases h1 : i < v
  · rw [if_pos ⟨by omega, by omega⟩, show f + i - f = i by omega]; simp [h1]
  · rw [lt_bit n v i hn (by omega)]; simp [h1]
theorem put_get (w f v : Nat) (h : f + v ≤ 64) (hw : w < 18446744073709551616) : putN w f v (getN w f v) = w := by
  apply Nat.eq_of_testBit_eq
  intro i
  rw [putN_bit w f v _ i h (getN_lt w f v) hw, getN_bit]
  by_cases h1 : f ≤ i ∧ i < f + v
  · rw [if_pos h1, show f + (i - f) = i by omega]; simp [show i - f < v by omega]
  · rw [if_neg h1]
theorem put_put (w f v n m : Nat) (h : f + v ≤ 64) (hn : n < 2 ^ v) (hm : m < 2 ^ v) (hw : w < 18446744073709551616) : putN (putN w f v n) f v m = putN w f v m := by
  apply Nat.eq_of_testBit_eq
  intro i
  rw [putN_bit _ f v m i h hm (putN_lt _ _ _ _ hw), putN_bit _ f v n i h hn hw, putN_bit _ f v m i h hm hw]
  by_cases h1 : f ≤ i ∧ i < f + v
  · simp [h1]
  · simp [h1]
theorem get_other (w f v n g u : Nat) (h : f + v ≤ 64) (hn : n < 2 ^ v) (hw : w < 18446744073709551616) (ha : ∀ j, ¬ (f ≤ j ∧ j < f + v ∧ g ≤ j ∧ j < g + u)) : getN (putN w f v n) g u = getN w g u := by
  apply Nat.eq_of_testBit_eq
  intro i
  rw [getN_bit, getN_bit, putN_bit w f v n _ h hn hw]
  by_cases h1 : i < u
  · rw [if_neg (fun h2 => ha (g + i) ⟨h2.1, h2.2, by omega, by omega⟩)]
  · simp [h1]
theorem okF_parts (f v : Int) (h : okF f v = true) : ∃ a b : Nat, f = a ∧ v = b ∧ a + b ≤ 64 ∧ a < 64 ∧ 1 ≤ b := by
  have := of_decide_eq_true h
  exact ⟨f.toNat, v.toNat, by omega, by omega, by omega, by omega, by omega⟩
/-- On the way over these bits none was taken twice. -/
def Free (t : Nat) (l : List Nat) : Prop := ∀ p y, p ++ [y] <+: l → (orBits t p).testBit y = false
theorem free_nil (t : Nat) : Free t [] := fun p y h => by simp at h
theorem free_snoc {t : Nat} {l : List Nat} {y : Nat} (h : Free t l) (hy : (orBits t l).testBit y = false) : Free t (l ++ [y]) := fun p x hp => by
  rcases List.prefix_concat_iff.1 hp with e | hp
  · have e1 := List.append_inj_left' e rfl
    have e2 := List.append_inj_right' e rfl
    simp only [List.cons.injEq, and_true] at e2
    rw [e1, e2]; exact hy
  · exact h p x hp
theorem free_all {t m : Nat} (hm : m < 18446744073709551616) (h : Free t (bitsOf m)) : t &&& m = 0 := (and_zero t m).2 fun j hj => by
  have hmem := (mem_bitsOf m j hm).2 hj
  obtain ⟨p, s, e⟩ := List.append_of_mem hmem
  have hp : p ++ [j] <+: bitsOf m := ⟨s, by rw [e]; simp⟩
  rw [← orBits_next t m p j hp]
  exact h p j hp
theorem not_free {t m y : Nat} {p : List Nat} (hm : m < 18446744073709551616) (hp : p ++ [y] <+: bitsOf m) (hy : (orBits t p).testBit y = true) : ¬ t &&& m = 0 := fun h => by
  rw [orBits_next t m p y hp] at hy
  have hmem : y ∈ bitsOf m := hp.subset (by simp)
  have := (and_zero t m).1 h y ((mem_bitsOf m y hm).1 hmem)
  rw [this] at hy; cases hy
theorem orBits_lt (l : List Nat) : ∀ t, t < 18446744073709551616 → (∀ y ∈ l, y < 64) → orBits t l < 18446744073709551616 := by
  induction l with
  | nil => exact fun t h _ => h
  | cons a r ih => exact fun t h hl => ih _ (Nat.or_lt_two_pow (n := 64) h (pow_lt64 a (hl a (List.mem_cons_self ..)))) fun y hy => hl y (List.mem_cons_of_mem _ hy)
theorem shr_one (o y : Nat) (ho : o < 18446744073709551616) : (bits .and .u64 ((o : Int) / 2 ^ y) 1 == 1) = o.testBit y := by
  have e : (o : Int) / 2 ^ y = ((o / 2 ^ y : Nat) : Int) := by rw [Int.natCast_ediv]; simp
  have h1 := u64_and_nat (o / 2 ^ y) 1 (Nat.lt_of_le_of_lt (Nat.div_le_self _ _) ho) (by decide)
  rw [e, show (1 : Int) = ((1 : Nat) : Int) from rfl, h1, Nat.and_one_is_mod, Nat.testBit_eq_decide_div_mod_eq, Bool.eq_iff_iff, beq_iff_eq, decide_eq_true_iff]
  omega
theorem or_shl (o y : Nat) (ho : o < 18446744073709551616) (hy : y < 64) : bits .or .u64 (o : Int) (IntKind.u64.wrap (2 ^ y)) = ((o ||| 2 ^ y : Nat) : Int) := by
  rw [pow_int y hy, u64_or_nat _ _ ho (pow_lt64 y hy)]
end WM
end Go.Proofs.YtaebipopmefkpaaGreatDoor
