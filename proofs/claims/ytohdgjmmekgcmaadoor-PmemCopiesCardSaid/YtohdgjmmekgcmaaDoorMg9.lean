/-
  Texts PmW to PnC, as one.
-/
import Derived.Test.YtohdgjmmekgcmaaDoorMg8
import Derived.WalkSpells
import Derived.Deep.Draws
import Derived.Deep.QuietTactic
import Derived.BigQuiet
/-
  pmem: queue, Waits.
-/
namespace Go.Proofs.YtohdgjmmekgcmaaDoor
open Go.RowKit Go.Shelf

theorem infoInt : (Tryd.prog.info? 3).map (fun i => (i.zero, i.size, i.bytes)) = some (some (.int .i64 0), 1, 8) := by kernel_rfl
def linesOf (l : List (Nat × List Int)) : List Nat := l.map (·.1)
theorem linesOf_snoc (l : List (Nat × List Int)) (k : Nat) (hk : k < l.length) : linesOf (l.take (k + 1)) = linesOf (l.take k) ++ [(ithW l k).1] := by
  unfold linesOf ithW
  rw [take_snoc l k hk, List.map_append, List.getElem?_eq_getElem hk]
  rfl
set_option maxRecDepth 100000 in
set_option maxHeartbeats 2000000 in
theorem queue_any {F : Nat → Prop} {B S T n cS cT : Nat} {q : Value} {d : Dv} (w : World) (h : DevB w F B S T n cS cT q d) :
    Calls Tryd.prog 55 #[.pointer (some ⟨B, 0, none⟩)] w fun e w' => ∃ v, e = .returned v ∧ w'.ownsRow w.heap.size 3 1 v d.waits.length (valsOf .i64 (linesOf d.waits)) ∧ Below w.heap.size w w' := by
  obtain ⟨i0, hi, hz0, hz1, hz2⟩ := info_parts infoInt
  have HM := Lib.hid (missing_any w h)
  obtain ⟨a, c, rfl⟩ := h.waits.slice_n
  have HD := Lib.hid h; clear h
  have c2 := HD.out.cell2
  obtain ⟨N, hN⟩ : ∃ N, d.waits.length = N := ⟨_, rfl⟩
  rw [hN] at c2
  have HN := Lib.hid hN
  have hNN : N ≤ 1024 := by have := HD.out.ok.few; have := HD.out.most; omega
  clear hN
  go_enter Tryd.func55, Tryd.ntmps55
  go_wp2_with fail
  refine HM.out.mono ?_
  rintro e w1 ⟨rfl, rfl⟩
  go_wp2_with fail
  go_loopw [3, 14] (fun o i wr => ∃ k : Nat, k ≤ N ∧ i = .int .i64 (k : Nat) ∧ wr.ownsRow w.heap.size 3 1 o k (valsOf .i64 (linesOf (d.waits.take k))) ∧ Hid (Below w.heap.size w wr)) (fun _ i _ => N - (intOf i).toNat)
  case atStart => exact ⟨0, by omega, rfl, World.ownsRow_nil _ _ _ _, Lib.hid (Below.refl _ _)⟩
  case round =>
    obtain ⟨k, hk, rfl, hrow, HB⟩ := hrel
    clear c2
    have zb := HB.out.size
    by_cases hlt : k < N
    · obtain ⟨g, rfl, hrw⟩ := (HD.out.below HB.out).waits.row (by rw [HN.out]; omega)
      have hkl : k < d.waits.length := by rw [HN.out]; exact hlt
      have hld := load_wait Tryd.underlying113 rfl (by kernel_rfl) hrw (fun x hx => (HD.out.ok.waits x hx).2) k hkl
      have HLS := Lib.hid (linesOf_snoc d.waits k hkl)
      rw [show d.waits[k]?.getD (0, []) = ithW d.waits k from rfl] at hld
      have hx8 : (ithW d.waits k).2.length = 8 := by
        unfold ithW
        rw [List.getElem?_eq_getElem hkl, Option.getD_some]
        exact (HD.out.ok.waits _ (List.getElem_mem hkl)).2
      obtain ⟨x, hx⟩ : ∃ x, ithW d.waits k = x := ⟨_, rfl⟩
      rw [hx] at hld HLS hx8
      have hinfo : (Tryd.prog.info? 113).map (·.size) = some (waitA x).size := by rw [waitA_size hx8]; kernel_rfl
      have HX1 : Hid ((waitA x).all (·.oneCell') = true) := show _ = true from Array.all_eq_true_iff_forall_mem.2 fun v hv => cellsW_one [x] v (by rw [cellsW_cons]; simp [cellsW]; simpa using hv)
      have HSN := Lib.hid (run_storeAt_new (P := Tryd.prog) wr 113 #[.int .i64 0, .int .u64 0, .int .u64 0, .int .u64 0, .int .u64 0, .int .u64 0, .int .u64 0, .int .u64 0, .int .u64 0] (waitA x) hinfo (by rw [waitA_size hx8]; rfl) HX1.out)
      have hwb := (wait_block (x := x) (World.alloc_heap_new wr (.cells (waitA x) 113))).1
      obtain ⟨z, hz⟩ : ∃ z, x.1 = z := ⟨_, rfl⟩
      obtain ⟨X, hX⟩ : ∃ X, waitA x = X := ⟨_, rfl⟩
      rw [hX] at hld HSN hwb
      rw [hz] at hwb HLS
      have HLD := Lib.hid hld
      obtain ⟨a2, c3, rfl⟩ := own_slice hrow
      have HRW := Lib.hid hrow
      have k2 : (k : Int) < (N : Int) := by omega
      clear hld hrw hinfo hX hz hx hrow
      go_wp2_with (first | (refine wpList_load_eq rfl 113 _ rfl _ _ rfl HLD.out ?_) | (refine wpList_store_eq rfl 113 _ _ rfl _ _ rfl rfl HSN.out ?_) | (at_builtin; refine park ?_))
      unfold Park
      have hl2 : (linesOf (d.waits.take k)).length = k := by unfold linesOf; rw [List.length_map, List.length_take]; omega
      refine wpList_append_own _ rfl _ _ 114 rfl w.heap.size 3 i0 (.int .i64 0) 1 8 Tryd.underlying114 hi hz0 hz1 hz2 rfl (by decide) _ k (valsOf .i64 (linesOf (d.waits.take k))) rfl (World.ownsRow.alloc (World.ownsRow.alloc HRW.out _) _) ⟨wr.heap.size + 1, 0, none⟩ 1 1 [.int .i64 (z : Nat)] rfl rfl (by have := cell_one_new (wr.alloc (.cells X 113)) (.int .i64 (z : Nat)) 3; simpa using this) (by simp [Value.oneCell']) (by unfold maxLen; omega) (by omega) (by simp; omega) ?_
      intro v4 w4 own4 grow4 _
      have b4 : Below w.heap.size w w4 := ((HB.out.alloc zb _).alloc (by simp; omega) _).grown grow4 (by simp; omega) (fun j e => (own_lt HRW.out e).1)
      have OWN4 := Lib.hid own4
      have B4 := Lib.hid b4
      obtain ⟨g', cap', rfl⟩ := ownsRow_succ own4
      clear own4 grow4 b4
      go_wp2_with fail
      go_roundw
      case rel =>
        refine ⟨k + 1, by omega, by go_num, ?_, B4⟩
        rw [HLS.out, valsOf_append]
        exact OWN4.out
      case measure => simp [intOf]; omega
    · obtain rfl : k = N := by omega
      obtain ⟨a2, c2, rfl⟩ := own_slice hrow
      have HRW := Lib.hid hrow
      clear hrow
      go_wp2_with fail
      go_ret
      have := HRW.out
      rw [List.take_of_length_le (Nat.le_of_eq HN.out)] at this
      exact ⟨_, rfl, by rw [HN.out]; exact this, HB.out⟩
end Go.Proofs.YtohdgjmmekgcmaaDoor

/-
  pmem: Waits, and what it goes over.
-/
namespace Go.Proofs.YtohdgjmmekgcmaaDoor
open Go.RowKit Go.Shelf
attribute [local go_sem] Oper.semAt_some

theorem queue_none {v : Value} (w : World) (h : NoDev w v) :
    Calls Tryd.prog 55 #[v] w fun e w' => e = .returned (.slice none 0 0) ∧ Below w.heap.size w w' := by
  have HF := Lib.hid (missing_no _ h)
  obtain ⟨p, rfl⟩ := h.ptr
  clear h
  go_enter Tryd.func55, Tryd.ntmps55
  go_wp2_with fail
  refine HF.out.mono ?_
  rintro e w1 ⟨rfl, rfl⟩
  go_wp2_with fail
  go_ret
  exact ⟨rfl, Below.refl _ _⟩
/-- What a queue of lines is in memory. -/
def QueAt (w : World) (A : Nat) (v : Value) (ls : List Nat) : Prop := w.ownsRow A 3 1 v ls.length (valsOf .i64 ls)
theorem waits_of {v : Value} {ls : List Nat} (w : World) (h : Calls Tryd.prog 55 #[v] w fun e w' => ∃ u, e = .returned u ∧ QueAt w' w.heap.size u ls ∧ Below w.heap.size w w') :
    Calls Tryd.prog 17 #[v] w fun e w' => ∃ P u, e = .returned (.func (.func 56) #[] #[.pointer (some ⟨P, 0, none⟩)]) ∧ w.heap.size ≤ P ∧ Boxed w' P 114 u ∧ QueAt w' w.heap.size u ls ∧ Below w.heap.size w w' := by
  have HF := Lib.hid h
  clear h
  go_enter Tryd.func17, Tryd.ntmps17
  go_wp2_with fail
  refine HF.out.mono ?_
  rintro e w1 ⟨u, rfl, hq, hb⟩
  have hz := hb.size
  obtain ⟨a, c, rfl⟩ := own_slice hq
  have HQ := Lib.hid hq
  have HB := Lib.hid hb
  clear hq hb
  go_wp2_with fail
  go_ret
  exact ⟨_, _, rfl, hz, Boxed.new w1 114 _, World.ownsRow.alloc HQ.out _, HB.out.alloc hz _⟩
theorem waits_any {F : Nat → Prop} {B S T n cS cT : Nat} {q : Value} {d : Dv} (w : World) (h : DevB w F B S T n cS cT q d) :
    Calls Tryd.prog 17 #[.pointer (some ⟨B, 0, none⟩)] w fun e w' => ∃ P u, e = .returned (.func (.func 56) #[] #[.pointer (some ⟨P, 0, none⟩)]) ∧ w.heap.size ≤ P ∧ Boxed w' P 114 u ∧ QueAt w' w.heap.size u (linesOf d.waits) ∧ Below w.heap.size w w' :=
  waits_of w ((queue_any w h).mono fun e w' ⟨u, h1, h2, h3⟩ => ⟨u, h1, by unfold QueAt; rw [show (linesOf d.waits).length = d.waits.length from List.length_map _]; exact h2, h3⟩)
theorem waits_none {v : Value} (w : World) (h : NoDev w v) :
    Calls Tryd.prog 17 #[v] w fun e w' => ∃ P u, e = .returned (.func (.func 56) #[] #[.pointer (some ⟨P, 0, none⟩)]) ∧ w.heap.size ≤ P ∧ Boxed w' P 114 u ∧ QueAt w' w.heap.size u [] ∧ Below w.heap.size w w' :=
  waits_of w ((queue_none w h).mono fun _e _w' ⟨h1, h3⟩ => ⟨_, h1, World.ownsRow_nil _ _ _ _, h3⟩)
theorem vals_any (a : Option Addr) (n c : Nat) (w : World) :
    Calls Tryd.prog 57 #[.slice a n c] w fun e w' => e = .returned (.func (.func 87) #[] #[.pointer (some ⟨w.heap.size, 0, none⟩)]) ∧ w' = w.alloc (.cells #[.slice a n c] 114) := by
  go_enter Tryd.func57, Tryd.ntmps57
  go_wp2
  go_ret
  exact ⟨rfl, rfl⟩
def encI (x : Nat) : Array Value := #[.int .i64 (x : Nat)]
theorem takeN_snoc (ls : List Nat) (k : Nat) (h : k < ls.length) : ls.take k ++ [ls[k]?.getD 0] = ls.take (k + 1) := by
  rw [List.take_succ_eq_append_getElem h, List.getElem?_eq_getElem h]; rfl
set_option maxRecDepth 100000 in
set_option maxHeartbeats 4000000 in
theorem vals_seq (n : Nat) (hn : 1 ≤ n) (Bs g c A : Nat) (a : Option Addr) (ls : List Nat) (hm : ls.length ≤ 100000) (w : World) (ha : 0 < ls.length → a = some ⟨g, 0, none⟩ ∧ w.ownsRow A 3 1 (.slice (some ⟨g, 0, none⟩) ls.length c) ls.length (valsOf .i64 ls)) (hB : Boxed w Bs 114 (.slice a ls.length c)) :
    SeqF (fun k => k = g) n Tryd.prog 87 #[.pointer (some ⟨Bs, 0, none⟩)] encI (fun ys => ys = ls) (fun pre => pre <+: ls) w := fun lp J Jx W hW hJ hJx hY h0 => by
  have c0 : W.cell? ⟨Bs, 0, none⟩ = some (.slice a ls.length c) := Boxed.cell ((hW.block _ hB.lt).trans hB)
  have hlB : Bs < W.heap.size := Nat.lt_of_lt_of_le hB.lt hW.size
  have HA := Lib.hid (fun h : 0 < ls.length => And.intro (ha h).1 (fun (k : Nat) (hk : k < ls.length) => (hW.cell (p := ⟨g, k, none⟩) (own_lt (ha h).2 rfl).2).trans (own_cell (ha h).2 k hk)))
  have HG := Lib.hid (fun h : 0 < ls.length => Nat.lt_of_lt_of_le (own_lt (ha h).2 rfl).2 hW.size)
  have HY := Lib.hid hY
  have HJ := Lib.hid hJ
  have HJX := Lib.hid hJx
  clear hY hJ hJx ha hB
  obtain ⟨m, hmm⟩ : ∃ m, ls.length = m := ⟨_, rfl⟩
  have HM := Lib.hid hmm
  rw [hmm] at c0 hm
  clear hmm
  refine callsIn_of_wp Tryd.func87 rfl trivial ?_ rfl
  simp only [Tryd.ntmps87, List.size_toArray, List.length_cons, List.length_nil, Nat.reduceAdd, Nat.reduceSub, Array.replicate_succ, Array.replicate_zero, List.push_toArray, List.append_toArray, List.nil_append, List.cons_append]
  gi_wp2_with fail
  gi_loopw [7] (fun i wr => ∃ k : Nat, k ≤ m ∧ i = .int .i64 (k : Nat) ∧ Hid (J (ls.take k) (fun _ => False) wr) ∧ Hid (Keeps (fun q => q = g) W wr)) (fun i _ => m - (intOf i).toNat)
  case atStart => exact ⟨0, Nat.zero_le _, rfl, Lib.hid (by simpa using h0), Lib.hid (Keeps.refl _ _)⟩
  case round =>
    obtain ⟨k, hk, rfl, HJs, HKP⟩ := hrel
    clear c0
    by_cases hlt : k < m
    · have hkl : k < ls.length := by rw [HM.out]; exact hlt
      obtain ⟨rfl, hcell⟩ := HA.out (by omega)
      have hgW := HG.out (by omega)
      have ck := (World.cell?_of_block (a := ⟨g, k, none⟩) (HKP.out.2 g rfl hgW)).trans (hcell k hkl)
      have HF := Lib.hid (takeN_snoc ls k hkl)
      obtain ⟨fn, tmps, assign, body, hy, hR⟩ := HY.out _ (ls[k]?.getD 0) _ _ HJs.out HKP.out.1 (fun q h => h.elim) (by rw [HF.out]; exact List.take_prefix _ _)
      rw [HF.out] at hR
      have HR := Lib.hid hR
      unfold encI at hy
      obtain ⟨z, hz⟩ : ∃ z, ls[k]?.getD 0 = z := ⟨_, rfl⟩
      rw [hz] at hy ck
      have k2 : (k : Int) < (m : Int) := by omega
      clear hR hz hcell
      gi_wp2_with fail
      refine HR.out.mono ?_
      rintro e W3 ⟨hk3, ⟨rfl, hJ3⟩ | ⟨rfl, hJx3⟩⟩
      · have HKP3 : Hid (Keeps (fun q => q = g) W W3) := show Keeps _ _ _ from HKP.out.trans (hk3.weaken fun k h => .inl h)
        have HJ3 := Lib.hid hJ3
        clear hy hk3 hJ3 ck
        gi_wp2_with fail
        go_roundw
        case rel => exact ⟨k + 1, by omega, by go_num, HJ3, HKP3⟩
        case measure => simp [intOf]; omega
      · clear hy ck
        gi_wp2_with fail
        refine bodyPost_ret (results_none rfl _ _ _) rfl ?_
        exact ⟨⟨_, rfl⟩, .inr ⟨_, List.take_prefix _ _, hJx3⟩⟩
    · obtain rfl : k = m := by omega
      gi_wp2_with fail
      go_end0
      exact ⟨⟨_, rfl⟩, .inl ⟨_, by rw [List.take_of_length_le (by rw [HM.out]; exact Nat.le_refl _)], HJs.out⟩⟩
/-- Where the rounds are left. -/
def WtX (Jx : List Nat → (Nat → Prop) → World → Prop) (s : Nat) (cd : Code) (pre : List Nat) (q : Nat → Prop) (W' : World) : Prop :=
  cd = .exit 0 ∧ Jx pre (fun k => q k ∨ k = s) W'
theorem abides_moreN {β : Type} {J : β → (Nat → Prop) → World → Prop} (h : Abides J) (r : Nat → Prop) : Abides (fun pre q W => J pre (fun k => q k ∨ r k) W) := fun s _q _q' W W' hs ht hq => h s _ _ W W' hs (ht.mono fun _ h => .inl h) fun k hk => hk.elim (fun h => (hq k h).imp .inl id) fun h => .inl (.inr h)
theorem abides_wtX {Jx : List Nat → (Nat → Prop) → World → Prop} (hx : Abides Jx) (s : Nat) (cd : Code) : Abides (WtX Jx s cd) := fun pre q q' W W' ⟨h1, h2⟩ ht hq => ⟨h1, abides_moreN hx (fun k => k = s) pre q q' W W' h2 ht hq⟩
/-- The activation in a round. -/
def WtA (lp Bs s : Nat) (a : Option Addr) (n c : Nat) (x : Nat) (a' : Act) (_ : World) : Prop :=
  a' = { tmps := #[.func (.yield lp) #[] #[], .pointer (some ⟨Bs, 0, none⟩), .pointer (some ⟨s, 0, none⟩), .int .i64 (x : Nat), .slice a n c, .func (.func 87) #[] #[.pointer (some ⟨s + 1, 0, none⟩)], .int .i64 (x : Nat), undef, undef, undef, undef], defers := [] }
set_option maxRecDepth 100000 in
set_option maxHeartbeats 4000000 in
theorem waits_seq (n : Nat) (hn : 6 ≤ n) (Bs g c A : Nat) (a : Option Addr) (ls : List Nat) (hm : ls.length ≤ 100000) (w : World) (ha : 0 < ls.length → a = some ⟨g, 0, none⟩ ∧ w.ownsRow A 3 1 (.slice (some ⟨g, 0, none⟩) ls.length c) ls.length (valsOf .i64 ls)) (hB : Boxed w Bs 114 (.slice a ls.length c)) (hg : g < w.heap.size) :
    SeqF (fun k => k = g) n Tryd.prog 56 #[.pointer (some ⟨Bs, 0, none⟩)] encI (fun ys => ys = ls) (fun pre => pre <+: ls) w := fun lp J Jx W hW hJ hJx hY h0 => by
  have c0 : W.cell? ⟨Bs, 0, none⟩ = some (.slice a ls.length c) := Boxed.cell ((hW.block _ hB.lt).trans hB)
  have hlB : Bs < W.heap.size := Nat.lt_of_lt_of_le hB.lt hW.size
  have hgW : g < W.heap.size := Nat.lt_of_lt_of_le hg hW.size
  have HA := Lib.hid (fun h : 0 < ls.length => And.intro (ha h).1 (ownsRow_block (ha h).2 fun g _ hl => hW.block g hl))
  have HY := Lib.hid hY
  have HJ := Lib.hid hJ
  have HJX := Lib.hid hJx
  clear hY hJ hJx ha hB
  refine callsIn_of_wp_marks Tryd.func56 rfl trivial ?_ rfl
  simp only [Tryd.ntmps56, List.size_toArray, List.length_cons, List.length_nil, Nat.reduceAdd, Nat.reduceSub, Array.replicate_succ, Array.replicate_zero, List.push_toArray, List.append_toArray, List.nil_append, List.cons_append]
  gi_wp2_with fail
  refine wpIn_scope_straight ?_
  gi_wp2_with fail
  refine wpIn_label ?_
  gi_wp2_with fail
  refine ⟨trivial, fun _ => by omega, ?_⟩
  refine (callsIn_wide.2 (vals_any a _ c _)).mono ?_
  rintro e w1 ⟨rfl, rfl⟩
  gi_wp2_with fail
  have jY := (Boxed.new W 116 (.func (.yield lp) #[] #[])).alloc (.cells #[.slice a ls.length c] 114)
  have jV := Boxed.new (W.alloc (.cells #[.func (.yield lp) #[] #[]] 116)) 114 (.slice a ls.length c)
  have b0 : Below W.heap.size W ((W.alloc (.cells #[.func (.yield lp) #[] #[]] 116)).alloc (.cells #[.slice a ls.length c] 114)) := (by repeat (first | exact Below.refl _ _ | assumption | refine Below.drew ?_ | refine below_drewN ?_ _ | refine Below.alloc ?_ (by (try simp) <;> omega) _ | refine Below.setCell ?_ (by (try simp) <;> omega) _ | refine Below.trans ?_ (Below.mono (by assumption) (by (try simp) <;> omega))))
  have HSZ := Lib.hid (show ((W.alloc (.cells #[.func (.yield lp) #[] #[]] 116)).alloc (.cells #[.slice a ls.length c] 114)).heap.size = W.heap.size + 2 by simp)
  simp only [World.size_alloc] at jY jV
  generalize ((W.alloc (.cells #[.func (.yield lp) #[] #[]] 116)).alloc (.cells #[.slice a ls.length c] 114)) = W0 at *
  have jJ := HJ.out [] _ (fun k => False ∨ k = W.heap.size) W W0 h0 (Turn.of_below b0 (Nat.le_refl _)) (fun k h => .inr (by rcases h with h | h <;> first | exact h.elim | omega))
  have hsq := vals_seq (n - 1) (by omega) (W.heap.size + 1) g c A a ls hm W0 (fun h => ⟨(HA.out h).1, ownsRow_block (HA.out h).2 fun g _ hl => b0.block g hl⟩) jV
  clear c0
  refine wpIn_range_F (n := n) (by omega) (gf := 87) (lb := #[.pointer (some ⟨W.heap.size + 1, 0, none⟩)]) rfl (enters_of Tryd.func87 (by kernel_rfl) rfl) hsq (fun k hk => by have := HSZ.out; subst hk; omega) (Below.refl _ _) (fun _ => rfl)
    (fun pre q W' => J pre (fun k => q k ∨ k = W.heap.size) W' ∧ BoxF W.heap.size 116 (.func (.yield lp) #[] #[]) q W' ∧ W.heap.size ≤ W'.heap.size)
    (WtX Jx W.heap.size)
    (Abides.and (abides_moreN HJ.out _) (Abides.and (Abides.box _ _ (fun _ => .func (.yield lp) #[] #[])) (Abides.size _)))
    (abides_wtX HJX.out _)
    ⟨jJ, ⟨jY, id⟩, b0.size⟩
    (WtA lp Bs W.heap.size a ls.length c)
    (fun x a' W1 o h => h)
    ?assign ?body ?done ?stop
  case assign =>
    rintro l2 x W2 K hsz hK
    unfold encI
    gi_wp2
    exact hK _ _ rfl (Below.refl _ _)
  case body =>
    rintro l2 pre x a' q W2 ⟨iJ, ⟨iY, iYq⟩, iW⟩ hs2 hqb hsp rfl
    have cY := iY.cell
    have hlY := iY.lt
    obtain ⟨fn, tmps, assign, body, hy, hR⟩ := HY.out pre x _ W2 iJ iW (fun k h => by have := HSZ.out; rcases h with h | h <;> first | (have := hqb k h; omega) | omega) hsp
    have HR := Lib.hid hR; clear hR hqb
    unfold encI at hy
    gi_wp2_with fail
    refine ⟨fun _ => by omega, ?_⟩
    refine (round_in HR.out).mono ?_
    rintro e W4 ⟨hk4, ⟨rfl, hJ4⟩ | ⟨rfl, hX4⟩⟩
    · have iY4 := keeps_box iY hk4 (.inr (.inr rfl))
      have HJ4 := Lib.hid hJ4
      have HK4 := Lib.hid hk4
      clear hy cY hlY hk4 hJ4
      gi_wp2_with fail
      exact ⟨HK4.out.weaken fun k h => h.imp id .inl, HJ4.out, ⟨iY4, iYq⟩, Nat.le_trans iW HK4.out.1⟩
    · have HX4 := Lib.hid hX4
      have HK4 := Lib.hid hk4
      clear hy cY hlY hk4 hX4
      gi_wp2_with fail
      exact ⟨HK4.out.weaken fun k h => h.imp id .inl, rfl, HX4.out⟩
  case done =>
    rintro D ys W2 hD rfl ⟨iJ, iY, iW⟩ hK'
    refine leaves_one hK' fun W' ht hc => ⟨_, results_none rfl _ _ _, ⟨_, rfl⟩, .inl ⟨_, rfl, ?_⟩⟩
    exact HJ.out _ _ _ _ _ iJ (ht.mono fun k h => .inl h) (fun k h => h.elim)
  case stop =>
    rintro D cd pre W2 hD hpre ⟨rfl, hX⟩ hK'
    gi_wp2
    refine leaves_one hK' fun W' ht hc => ⟨_, results_none rfl _ _ _, ⟨_, rfl⟩, .inr ⟨pre, hpre, ?_⟩⟩
    exact HJX.out _ _ _ _ _ hX (ht.mono fun k h => .inl h) (fun k h => h.elim)
end Go.Proofs.YtohdgjmmekgcmaaDoor

/-
  pmem: clones.
-/
namespace Go.Proofs.YtohdgjmmekgcmaaDoor
open Go.RowKit Go.Shelf

theorem row_news {W : World} {e : TypeId} {size g n c : Nat} {xs : List Value} (h : W.ownsRow 0 e size (.slice (some ⟨g, 0, none⟩) n c) n xs) : xs.length = n * size ∧ ∀ j y, xs[j]? = some y → W.cell? ((⟨g, 0, none⟩ : Addr).add j) = some y :=
  ⟨h.1, fun j v hv => by
    have hj : j < n * size := by have := (List.getElem?_eq_some_iff.1 hv).1; rw [h.1] at this; exact this
    rw [Addr.add_mid, Nat.zero_add, h.cellAt j hj, hv]⟩
set_option maxRecDepth 100000 in
theorem cloneL_any {S n cS : Nat} {us : List Int} (w : World) (h0 : 0 < n) (hn : n ≤ 1024) (hS : w.ownsRow 0 110 8 (.slice (some ⟨S, 0, none⟩) n cS) n (vals us)) :
    Calls Tryd.prog 53 #[.slice (some ⟨S, 0, none⟩) n cS] w fun e w' => ∃ S' c', e = .returned (.slice (some ⟨S', 0, none⟩) n c') ∧ w'.ownsRow 0 110 8 (.slice (some ⟨S', 0, none⟩) n c') n (vals us) ∧ w.heap.size ≤ S' ∧ Below w.heap.size w w' := by
  obtain ⟨i0, hi, hz0, hz1, hz2⟩ := info_parts infoL
  have hb1 : Below w.heap.size w (w.alloc (.cells #[] 110)) := (Below.refl _ _).alloc (Nat.le_refl _) _
  have HN := Lib.hid (row_news (own_keeps hS fun hl => hb1.block S hl))
  have HS := Lib.hid hS; clear hS
  have qT : ∀ (w : World) (a : Option Addr) (n c : Nat), (binOp .eql 94 (.slice a n c) (.slice none 0 0)).run Tryd.prog w = .ok (.bool a.isNone) w := fun w a n c => Lib.run_eql_slice_nil w _ _ a n c 0 0 Tryd.underlying94
  go_enter Tryd.func53, Tryd.ntmps53
  go_wp2_with (at_builtin; refine park ?_)
  unfold Park
  refine wpList_append_V rfl _ _ 94 rfl 110 i0 (.agg zero8) 8 64 Tryd.underlying94 hi hz0 hz1 hz2 rfl (by decide) _ _ _ rfl (.inl ⟨rfl, rfl, _, rfl⟩) ⟨S, 0, none⟩ n cS rfl h0 (vals us) HN.out.1 HN.out.2 (vals_one _) (by omega) (by omega) ?_
  intro v2 w2 g2 t2 o2
  have hO := o2 (fun _ => False) (.inl ⟨_, rfl⟩)
  have hB2 : Below w.heap.size w w2 := hb1.trans (Turn.below (t2.mono (q' := fun _ => False) fun k hk => hk.2 _ rfl) (fun _ h => h.elim) (by simp))
  rw [Nat.zero_add, List.nil_append] at g2
  obtain ⟨b, c', rfl⟩ := g2.slice
  obtain ⟨S', rfl, hr⟩ := g2.row h0
  have hS' : w.heap.size ≤ S' := by
    rcases hO with ⟨ad, e⟩ | h
    · simp only [Value.slice.injEq] at e; omega
    · rcases h S' rfl with h | h
      · exact h.elim
      · have := h.1; simp only [World.size_alloc] at this; omega
  have HR := Lib.hid hr
  have HB := Lib.hid hB2
  clear g2 t2 o2 hr hO hB2 hb1
  go_wp2_with fail
  go_ret
  exact ⟨S', c', rfl, HR.out, hS', HB.out⟩
theorem run_append_zero (W : World) (ad a : Addr) (c : Nat) : (Builtin.append_ #[97, 97] 97 #[.slice (some ad) 0 0, .slice (some a) 0 c]).run Tryd.prog W = .ok (.slice (some ad) 0 0) W := by
  kernel_rfl
theorem wpList_append_eq {P : Program} {w w' : World} {ops : Array Oper} {rest : List Oper} {o : Oper} {a : Act} {Q : Exit → Act → World → Prop} (hgd : o.guard = none) (s x : Operand) (t : TypeId)
    (ho : o.op = .call { callee := .builtin .append, args := #[s, x], argTypes := #[t, t] }) (v u r : Value) (hsv : a.eval s = v) (hx : a.eval x = u) (hr : (Builtin.append_ #[t, t] o.type #[v, u]).run P w = .ok r w') (h : wpList P ops Q rest (a.put o.dst r) w') : wpList P ops Q (o :: rest) a w :=
  wpList_plain hgd fun K hK => by
    unfold Oper.wp execOp
    simp only [ho, resolve, invoke, builtin, Sem.run_bind, Sem.run_pure, Result.andThen_ok, List.map_toArray, List.map_cons, List.map_nil, hsv, hx, hr]
    exact hK _ _ h
set_option maxRecDepth 100000 in
theorem cloneW_any {q : Value} {l : List (Nat × List Int)} (w : World) (hn : l.length ≤ 1024) (hq : GrowV w 113 9 q l.length (cellsW l)) :
    Calls Tryd.prog 54 #[q] w fun e w' => ∃ q', e = .returned q' ∧ GrowV w' 113 9 q' l.length (cellsW l) ∧ OwnIn (fun k => w.heap.size ≤ k ∧ k < w'.heap.size) q' ∧ Below w.heap.size w w' := by
  obtain ⟨i0, hi, hz0, hz1, hz2⟩ := info_parts infoW
  have hb1 : Below w.heap.size w (w.alloc (.cells #[] 113)) := (Below.refl _ _).alloc (Nat.le_refl _) _
  have qT : ∀ (w : World) (a : Option Addr) (n c : Nat), (binOp .eql 97 (.slice a n c) (.slice none 0 0)).run Tryd.prog w = .ok (.bool a.isNone) w := fun w a n c => Lib.run_eql_slice_nil w _ _ a n c 0 0 Tryd.underlying97
  obtain ⟨a, c, rfl⟩ := hq.slice_n
  rcases a with _ | ad
  · have h0 : l = [] := by
      cases l with
      | nil => rfl
      | cons x l => obtain ⟨g, e, _⟩ := hq.row (by simp); cases e
    subst h0
    clear hq hb1
    go_enter Tryd.func54, Tryd.ntmps54
    go_wp2_with fail
    go_ret
    exact ⟨_, rfl, .inr (World.ownsRow_nil _ _ _ _), .inr (fun g hg => by cases hg), Below.refl _ _⟩
  · rcases Nat.eq_zero_or_pos l.length with h0 | h0
    · have h0' : l = [] := List.eq_nil_of_length_eq_zero h0
      subst h0'
      clear hq
      have HZ := Lib.hid run_append_zero
      go_enter Tryd.func54, Tryd.ntmps54
      go_wp2_with (at_builtin; refine park ?_)
      unfold Park
      refine wpList_append_eq rfl _ _ 97 rfl _ _ _ rfl rfl (HZ.out _ _ _ _) ?_
      go_wp2_with fail
      go_ret
      exact ⟨_, rfl, .inl ⟨rfl, rfl, _, rfl⟩, .inl ⟨_, rfl⟩, hb1⟩
    · obtain ⟨g, e, hr⟩ := hq.row h0
      cases e
      have HN := Lib.hid (row_news (own_keeps hr fun hl => hb1.block g hl))
      obtain ⟨m, hm⟩ : ∃ m, l.length = m := ⟨_, rfl⟩
      rw [hm] at HN
      have HM := Lib.hid hm
      rw [hm] at hn h0 ⊢
      clear hq hr hm
      go_enter Tryd.func54, Tryd.ntmps54
      go_wp2_with (at_builtin; refine park ?_)
      unfold Park
      refine wpList_append_V rfl _ _ 97 rfl 113 i0 (.agg zero9) 9 72 Tryd.underlying97 hi hz0 hz1 hz2 rfl (by decide) _ _ _ rfl (.inl ⟨rfl, rfl, _, rfl⟩) ⟨g, 0, none⟩ m c rfl h0 (cellsW l) HN.out.1 HN.out.2 (cellsW_one _) (by omega) (by omega) ?_
      intro v2 w2 g2 t2 o2
      have hO := o2 (fun _ => False) (.inl ⟨_, rfl⟩)
      have hB2 : Below w.heap.size w w2 := hb1.trans (Turn.below (t2.mono (q' := fun _ => False) fun k hk => hk.2 _ rfl) (fun _ h => h.elim) (by simp))
      rw [Nat.zero_add, List.nil_append] at g2
      obtain ⟨b, c', rfl⟩ := g2.slice
      have hO2 : OwnIn (fun k => w.heap.size ≤ k ∧ k < w2.heap.size) (.slice b m c') := hO.imp id fun h g hg => (h g hg).elim (fun h => h.elim) fun h => ⟨by have := h.1; simp only [World.size_alloc] at this; omega, h.2⟩
      have HR := Lib.hid g2
      have HO := Lib.hid hO2
      have HB := Lib.hid hB2
      clear g2 t2 o2 hO hO2 hB2 hb1
      go_wp2_with fail
      go_ret
      exact ⟨_, rfl, HR.out, HO.out, HB.out⟩
end Go.Proofs.YtohdgjmmekgcmaaDoor

/-
  pmem: Copy.
-/
namespace Go.Proofs.YtohdgjmmekgcmaaDoor
open Go.RowKit Go.Shelf

set_option maxRecDepth 100000 in
set_option maxHeartbeats 2000000 in
theorem copy_any {F : Nat → Prop} {B S T n cS cT : Nat} {q : Value} {d : Dv} (w : World) (h : DevB w F B S T n cS cT q d) :
    Calls Tryd.prog 16 #[.pointer (some ⟨B, 0, none⟩)] w fun e w' => Below w.heap.size w w' ∧ ∃ B' S' T' cS' cT' q', e = .returned (.pointer (some ⟨B', 0, none⟩)) ∧ DevB w' (fun k => w.heap.size ≤ k ∧ k < w'.heap.size) B' S' T' n cS' cT' q' d := by
  have HF := Lib.hid (missing_any _ h)
  obtain ⟨a, c, rfl⟩ := h.waits.slice_n
  have hD1 := h.below (Below.drew (Below.refl _ _))
  have HR : Hid (∀ w', Below w.heap.size w.drew w' → DevB w' F B S T n cS cT (.slice a d.waits.length c) d) := show ∀ w', _ from fun w' hb => hD1.below hb
  have hm := h.most
  have h0 := h.pos
  have HD := Lib.hid h
  clear h
  go_enter Tryd.func16, Tryd.ntmps16
  go_wp2_with fail
  refine HF.out.mono ?_
  rintro e w1 ⟨rfl, rfl⟩
  go_wp2_with fail
  have hR : (fun w' : World => w'.cell? ⟨B, 0, none⟩ = some (.slice (some ⟨S, 0, none⟩) n cS) ∧ w'.cell? ⟨B, 1, none⟩ = some (.slice (some ⟨T, 0, none⟩) n cT) ∧ w'.cell? ⟨B, 2, none⟩ = some (.slice a d.waits.length c)) w.drew := ⟨hD1.cell0, hD1.cell1, hD1.cell2⟩
  refine wp_region_M 19 (fun w' => w'.cell? ⟨B, 0, none⟩ = some (.slice (some ⟨S, 0, none⟩) n cS) ∧ w'.cell? ⟨B, 1, none⟩ = some (.slice (some ⟨T, 0, none⟩) n cT) ∧ w'.cell? ⟨B, 2, none⟩ = some (.slice a d.waits.length c)) (by kernel_rfl) ?_
  clear hD1
  have HCS := Lib.hid (fun W (hb : Below w.heap.size w.drew W) => cloneL_any W h0 hm (HR.out W hb).seen)
  have HCT := Lib.hid (fun W (hb : Below w.heap.size w.drew W) => cloneL_any W h0 hm (HR.out W hb).stays)
  have HCW := Lib.hid (fun W (hb : Below w.heap.size w.drew W) => cloneW_any W (by have := HD.out.ok.few; omega) (HR.out W hb).waits)
  (refine wpAnyM_take (i := 0) (v := ?_) rfl (by kernel_rfl) (by kernel_rfl) (fun _ _ _ h => h) (Or.inl ⟨by rfl, ?_⟩) hR ?_; rotate_left; (focus (intro w hSw; (try dsimp only at hSw); go_simp; (try with_reducible rfl))); (try simp only [put_laws])); (refine wpAnyM_take (i := 1) (v := ?_) rfl (by kernel_rfl) (by kernel_rfl) (fun _ _ _ h => h) (Or.inl ⟨by rfl, ?_⟩) hR ?_; rotate_left; (focus (intro w hSw; (try dsimp only at hSw); go_simp; (try with_reducible rfl))); (try simp only [put_laws])); (refine wpAnyM_take (i := 2) (v := ?_) rfl (by kernel_rfl) (by kernel_rfl) (fun _ _ _ h => h) (Or.inl ⟨by rfl, ?_⟩) hR ?_; rotate_left; (focus (intro w hSw; (try dsimp only at hSw); go_simp; (try with_reducible rfl))); (try simp only [put_laws])); (refine wpAnyM_take (i := 3) (v := ?_) rfl (by kernel_rfl) (by kernel_rfl) (fun _ _ _ h => h) (Or.inl ⟨by rfl, ?_⟩) hR ?_; rotate_left; (focus (intro w hSw; (try dsimp only at hSw); go_simp; (try with_reducible rfl))); (try simp only [put_laws])); (refine wpAnyM_take (i := 4) (v := ?_) rfl (by kernel_rfl) (by kernel_rfl) (fun _ _ _ h => h) (Or.inl ⟨by rfl, ?_⟩) hR ?_; rotate_left; (focus (intro w hSw; (try dsimp only at hSw); go_simp; (try with_reducible rfl))); (try simp only [put_laws])); (refine wpAnyM_take (i := 7) (v := ?_) rfl (by kernel_rfl) (by kernel_rfl) (fun _ _ _ h => h) (Or.inl ⟨by rfl, ?_⟩) hR ?_; rotate_left; (focus (intro w hSw; (try dsimp only at hSw); go_simp; (try with_reducible rfl))); (try simp only [put_laws])); (refine wpAnyM_take (i := 8) (v := ?_) rfl (by kernel_rfl) (by kernel_rfl) (fun _ _ _ h => h) (Or.inl ⟨by rfl, ?_⟩) hR ?_; rotate_left; (focus (intro w hSw; (try dsimp only at hSw); go_simp; (try with_reducible rfl))); (try simp only [put_laws])); (refine wpAnyM_take (i := 9) (v := ?_) rfl (by kernel_rfl) (by kernel_rfl) (fun _ _ _ h => h) (Or.inl ⟨by rfl, ?_⟩) hR ?_; rotate_left; (focus (intro w hSw; (try dsimp only at hSw); go_simp; (try with_reducible rfl))); (try simp only [put_laws])); (refine wpAnyM_take (i := 10) (v := ?_) rfl (by kernel_rfl) (by kernel_rfl) (fun _ _ _ h => h) (Or.inl ⟨by rfl, ?_⟩) hR ?_; rotate_left; (focus (intro w hSw; (try dsimp only at hSw); go_simp; (try with_reducible rfl))); (try simp only [put_laws])); (refine wpAnyM_take (i := 12) (v := ?_) rfl (by kernel_rfl) (by kernel_rfl) (fun _ _ _ h => h) (Or.inl ⟨by rfl, ?_⟩) hR ?_; rotate_left; (focus (intro w hSw; (try dsimp only at hSw); go_simp; (try with_reducible rfl))); (try simp only [put_laws])); (refine wpAnyM_take (i := 13) (v := ?_) rfl (by kernel_rfl) (by kernel_rfl) (fun _ _ _ h => h) (Or.inl ⟨by rfl, ?_⟩) hR ?_; rotate_left; (focus (intro w hSw; (try dsimp only at hSw); go_simp; (try with_reducible rfl))); (try simp only [put_laws])); (refine wpAnyM_take (i := 14) (v := ?_) rfl (by kernel_rfl) (by kernel_rfl) (fun _ _ _ h => h) (Or.inl ⟨by rfl, ?_⟩) hR ?_; rotate_left; (focus (intro w hSw; (try dsimp only at hSw); go_simp; (try with_reducible rfl))); (try simp only [put_laws])); (refine wpAnyM_take (i := 15) (v := ?_) rfl (by kernel_rfl) (by kernel_rfl) (fun _ _ _ h => h) (Or.inl ⟨by rfl, ?_⟩) hR ?_; rotate_left; (focus (intro w hSw; (try dsimp only at hSw); go_simp; (try with_reducible rfl))); (try simp only [put_laws]))
  (refine wpAnyM_one (i := 5) rfl (by kernel_rfl) (fun K hK => ?_); rw [if_pos (by rfl)]; (try simp only [elem_laws]))
  go_simp
  refine (HCS.out _ (Below.refl _ _)).mono ?_
  rintro e wA ⟨SA, cA, rfl, oA, gA, bA⟩
  have hA : Below w.heap.size w.drew wA := bA
  have rA := HR.out _ hA
  have hRA : wA.cell? ⟨B, 0, none⟩ = some (.slice (some ⟨S, 0, none⟩) n cS) ∧ wA.cell? ⟨B, 1, none⟩ = some (.slice (some ⟨T, 0, none⟩) n cT) ∧ wA.cell? ⟨B, 2, none⟩ = some (.slice a d.waits.length c) := ⟨rA.cell0, rA.cell1, rA.cell2⟩
  refine hK _ _ (fun _ => hRA) ?_
  clear hK K hR rA
  have hR : (fun w' : World => w'.cell? ⟨B, 0, none⟩ = some (.slice (some ⟨S, 0, none⟩) n cS) ∧ w'.cell? ⟨B, 1, none⟩ = some (.slice (some ⟨T, 0, none⟩) n cT) ∧ w'.cell? ⟨B, 2, none⟩ = some (.slice a d.waits.length c)) wA := hRA
  (try simp only [put_laws])
  (refine wpAnyM_take (i := 6) (v := ?_) rfl (by kernel_rfl) (by kernel_rfl) (fun _ _ _ h => h) (Or.inl ⟨by rfl, ?_⟩) hR ?_; rotate_left; (focus (intro w hSw; (try dsimp only at hSw); go_simp; (try with_reducible rfl))); (try simp only [put_laws]))
  (refine wpAnyM_one (i := 11) rfl (by kernel_rfl) (fun K hK => ?_); rw [if_pos (by rfl)]; (try simp only [elem_laws]))
  go_simp
  refine (HCT.out _ hA).mono ?_
  rintro e wB ⟨SB, cSB, rfl, oB, gSB, bB⟩
  have zA := bA.size
  have zB := bB.size
  simp only [World.size_drew] at zA gA bA
  have lA := own_lt2 oA
  have lB := own_lt2 oB
  have hB : Below w.heap.size w.drew wB := hA.trans (bB.mono (by omega))
  have rB := HR.out _ hB
  have hRB : wB.cell? ⟨B, 0, none⟩ = some (.slice (some ⟨S, 0, none⟩) n cS) ∧ wB.cell? ⟨B, 1, none⟩ = some (.slice (some ⟨T, 0, none⟩) n cT) ∧ wB.cell? ⟨B, 2, none⟩ = some (.slice a d.waits.length c) := ⟨rB.cell0, rB.cell1, rB.cell2⟩
  refine hK _ _ (fun _ => hRB) ?_
  clear hK K hR rB hRA
  (try simp only [put_laws])
  (refine wpAnyM_one (i := 16) rfl (by kernel_rfl) (fun K hK => ?_); rw [if_pos (by rfl)]; (try simp only [elem_laws]))
  go_simp
  refine (HCW.out _ hB).mono ?_
  rintro e wC ⟨q', rfl, oC, gC, bC⟩
  have zC := bC.size
  have hC : Below w.heap.size w.drew wC := hB.trans (bC.mono (by omega))
  have rC := HR.out _ hC
  have hRC : wC.cell? ⟨B, 0, none⟩ = some (.slice (some ⟨S, 0, none⟩) n cS) ∧ wC.cell? ⟨B, 1, none⟩ = some (.slice (some ⟨T, 0, none⟩) n cT) ∧ wC.cell? ⟨B, 2, none⟩ = some (.slice a d.waits.length c) := ⟨rC.cell0, rC.cell1, rC.cell2⟩
  obtain ⟨qa, qc, rfl⟩ := oC.slice_n
  have HOA := Lib.hid (own_keeps (own_keeps oA fun hl => bB.block SA hl) fun hl => bC.block SA hl)
  have HOB := Lib.hid (own_keeps oB fun hl => bC.block SB hl)
  have HOC := Lib.hid oC
  have HGC := Lib.hid gC
  have HBC := Lib.hid hC
  refine hK _ _ (fun _ => hRC) ?_
  clear hK K rC hRB oA oB oC gC hA hB hC bA bB bC
  (try simp only [put_laws])
  (refine wpAnyM_one (i := 17) rfl (by kernel_rfl) (fun K hK => ?_); rw [if_pos (by rfl)]; (try simp only [elem_laws]))
  go_simp
  refine hK _ _ (fun _ => hRC) ?_
  clear hK K
  (try simp only [put_laws])
  (refine wpAnyM_one (i := 18) rfl (by kernel_rfl) (fun K hK => ?_); rw [if_pos (by rfl)]; (try simp only [elem_laws]))
  go_simp
  have hbx : Below wC.heap.size wC (wC.alloc (.cells #[.slice (some ⟨SA, 0, none⟩) n cA, .slice (some ⟨SB, 0, none⟩) n cSB, .slice qa d.waits.length qc] 99)) := (Below.refl _ _).alloc (Nat.le_refl _) _
  have rX := HR.out _ (HBC.out.trans (hbx.mono (by omega)))
  refine hK _ _ (fun _ => ⟨rX.cell0, rX.cell1, rX.cell2⟩) ?_
  clear hK K hRC rX
  (try simp only [put_laws])
  (refine wpAnyM_last rfl (by kernel_rfl) (fun K hK => ?_); rw [if_pos (by rfl)]; (try simp only [elem_laws]))
  go_simp
  refine hK _ _ ?_
  clear hK K
  (try simp only [put_laws])
  refine wpAnyM_done (by kernel_rfl) ?_ _
  go_wp2_with fail
  go_ret
  refine ⟨(Below.drew (Below.refl _ _)).trans (HBC.out.trans (hbx.mono (by omega))), wC.heap.size, SA, SB, cA, cSB, .slice qa d.waits.length qc, rfl, ?_⟩
  have hfar := HD.out.far B HD.out.inB
  have hlv := HD.out.live B HD.out.inB
  refine ⟨HD.out.ok, HD.out.pos, HD.out.most, World.alloc_heap_new wC _, own_keeps HOA.out fun hl => hbx.block SA hl, own_keeps HOB.out fun hl => hbx.block SB hl, HOC.out.keeps (HGC.out.imp id fun h g hg => (show g < wC.heap.size from (h g hg).2)) (fun k h1 _ => hbx.block k h1), by omega, ?_, ?_, ?_, ?_, ?_, fun k hk => hk.2⟩
  · exact ⟨by omega, by simp⟩
  · exact ⟨gA, by simp; omega⟩
  · exact ⟨by omega, by simp; omega⟩
  · exact HGC.out.imp id fun h g hg => ⟨by have := (h g hg).1; omega, by have := (h g hg).2; simp; omega⟩
  · exact fun k hk => by omega
end Go.Proofs.YtohdgjmmekgcmaaDoor

/-
  pmem: Equal of lines, and of what waits.
-/
namespace Go.Proofs.YtohdgjmmekgcmaaDoor
open Go.RowKit Go.Shelf

theorem lines_eq {us ws : List Int} {n : Nat} (h1 : us.length = n * 8) (h2 : ws.length = n * 8) (h : ∀ k, k < n → lineAt us k = lineAt ws k) : us = ws := by
  apply List.ext_getElem (by omega)
  intro i hi hi'
  have hk := h (i / 8) (by omega)
  have e : ∀ (l : List Int) (hl : i < l.length), (lineAt l (i / 8))[i % 8]? = some l[i] := fun l hl => by
    unfold lineAt
    rw [List.getElem?_take, if_pos (by omega), List.getElem?_drop, show i / 8 * 8 + i % 8 = i by omega, List.getElem?_eq_getElem hl]
  have := e us hi
  rw [hk, e ws hi'] at this
  exact (Option.some.inj this).symm
set_option maxRecDepth 100000 in
set_option maxHeartbeats 2000000 in
theorem equalL_any {S T n cS cT : Nat} {us ws : List Int} (w : World) (hn : n ≤ 1024) (hS : w.ownsRow 0 110 8 (.slice (some ⟨S, 0, none⟩) n cS) n (vals us)) (hT : w.ownsRow 0 110 8 (.slice (some ⟨T, 0, none⟩) n cT) n (vals ws)) :
    Calls Tryd.prog 59 #[.slice (some ⟨S, 0, none⟩) n cS, .slice (some ⟨T, 0, none⟩) n cT] w fun e w' => e = .returned (.bool (decide (us = ws))) ∧ ∃ m, w' = w.drewN m := by
  have HS := Lib.hid hS
  have HT := Lib.hid hT
  have HL : Hid (us.length = n * 8 ∧ ws.length = n * 8) := show _ ∧ _ from ⟨by have := hS.1; rw [vals_length] at this; exact this, by have := hT.1; rw [vals_length] at this; exact this⟩
  clear hS hT
  go_enter Tryd.func59, Tryd.ntmps59
  go_wp2_with fail
  go_loopw [13] (fun i wr => ∃ k : Nat, k ≤ n ∧ i = .int .i64 (k : Nat) ∧ Hid (∀ j, j < k → lineAt us j = lineAt ws j) ∧ ∃ m, wr = w.drewN m) (fun i _ => n - (intOf i).toNat)
  case atStart => exact ⟨0, by omega, rfl, (show ∀ j, j < 0 → lineAt us j = lineAt ws j from fun j hj => absurd hj (by omega)), 0, rfl⟩
  case round =>
    obtain ⟨k, hk, rfl, HJ, m, rfl⟩ := hrel
    by_cases hlt : k < n
    · have hL := lineAt_length HL.out.1 hlt
      have hM := lineAt_length HL.out.2 hlt
      have HLX := Lib.hid (load_line (W := (w.drewN m).drew) Tryd.underlying110 rfl (by kernel_rfl) (show ((w.drewN m).drew).ownsRow 0 110 8 _ n (vals us) from HS.out) k hlt)
      have HLY := Lib.hid (load_line (W := (w.drewN m).drew) Tryd.underlying110 rfl (by kernel_rfl) (show ((w.drewN m).drew).ownsRow 0 110 8 _ n (vals ws) from HT.out) k hlt)
      have HNE := neq_line (lineAt us k) (lineAt ws k) hL hM
      obtain ⟨X, hX⟩ : ∃ X, (vals (lineAt us k)).toArray = X := ⟨_, rfl⟩
      obtain ⟨Y, hY⟩ : ∃ Y, (vals (lineAt ws k)).toArray = Y := ⟨_, rfl⟩
      obtain ⟨t, ht⟩ : ∃ t, (lineAt us k == lineAt ws k) = t := ⟨_, rfl⟩
      rw [hX] at HLX HNE
      rw [hY] at HLY HNE
      rw [ht] at HNE
      have HTT := Lib.hid ht
      have k2 : (k : Int) < (n : Int) := by omega
      clear hX hY ht hL hM
      go_wp2_with fail
      refine wp_region_still_lit (by kernel_rfl) (by kernel_rfl) ?_
      still_step
      still_step
      still_step
      refine wpStill_load_eq rfl 110 _ rfl _ _ rfl HLX.out ?_
      still_step
      still_step
      still_step
      refine wpStill_load_eq rfl 110 _ rfl _ _ rfl HLY.out ?_
      still_step
      refine wpStill_nil ?_
      cases t with
      | true =>
        have HE := Lib.hid (eq_of_beq HTT.out)
        have HJ1 : Hid (∀ j, j < k + 1 → lineAt us j = lineAt ws j) := show ∀ j, j < k + 1 → lineAt us j = lineAt ws j from fun j hj => by
          rcases Nat.lt_or_ge j k with h | h
          · exact HJ.out j h
          · rw [show j = k by omega]; exact HE.out
        go_wp2_with fail
        go_roundw
        case rel => exact ⟨k + 1, by omega, by go_num, HJ1, m + 1, rfl⟩
        case measure => simp [intOf]; omega
      | false =>
        have HE := Lib.hid (ne_of_beq_false HTT.out)
        go_wp2_with fail
        go_ret
        refine ⟨?_, m + 1, rfl⟩
        rw [decide_eq_false (fun h => HE.out (by rw [h]))]
        rfl
    · obtain rfl : k = n := by omega
      have HE := Lib.hid (lines_eq HL.out.1 HL.out.2 HJ.out)
      go_wp2_with fail
      go_ret
      exact ⟨by rw [decide_eq_true HE.out]; rfl, m, rfl⟩
theorem fieldsW : (Tryd.prog.fieldsOf 113).toList.map (fun f => (f.name, f.type, f.offset)) = [("line", 3, 0), ("words", 110, 1)] := by kernel_rfl
theorem two_of_map {α β : Type} {g : α → β} {l : List α} {a b : β} (h : l.map g = [a, b]) : ∃ x y, l = [x, y] ∧ g x = a ∧ g y = b := by
  match l, h with
  | [x, y], h => simp at h; exact ⟨x, y, rfl, h.1, h.2⟩
theorem equal_wait (x y : Nat × List Int) (hx : x.2.length = 8) (hy : y.2.length = 8) (w : World) : (Op.equalIn 10000 113 (.agg (waitA x)) (.agg (waitA y))).run Tryd.prog w = .ok (decide (x = y)) w := by
  obtain ⟨f1, f2, hf, h1, h2⟩ := two_of_map fieldsW
  obtain ⟨i0, hi, hz0, hz1, hz2⟩ := info_parts infoL
  rw [run_equalIn_agg w 9999 113 _ _ (by kernel_rfl) (by kernel_rfl), hf]
  simp only [Prod.mk.injEq] at h1 h2
  obtain ⟨n1, t1, o1⟩ := h1
  obtain ⟨n2, t2, o2⟩ := h2
  have e1 : ∀ z : Nat × List Int, (part 3 (waitA z) 0).run Tryd.prog w = .ok (.int .i64 (z.1 : Nat)) w := fun z => by
    simp [part, isAgg, run_underlying Tryd.underlying3, waitA]
  have e2 : ∀ z : Nat × List Int, z.2.length = 8 → (part 110 (waitA z) 1).run Tryd.prog w = .ok (.agg (vals z.2).toArray) w := fun z hz => by
    simp [part, isAgg, run_underlying Tryd.underlying110, waitA, sizeOf, typeInfo, hi, hz1]
    exact List.take_of_length_le (by rw [vals_length, hz]; decide)
  simp only [Op.eqFields, n1, n2, t1, t2, o1, o2, ne_eq, String.reduceEq, not_false_eq_true, if_true, Sem.run_bind, e1, Result.andThen_ok, run_equalIn_int w 9998 3 .i64 .i64 _ _ Tryd.underlying3]
  cases he : ((x.1 : Int) == (y.1 : Int)) with
  | false =>
    have hne : ¬ x = y := fun h => by rw [h] at he; simp at he
    simp [decide_eq_false hne]
  | true =>
    have h1 : x.1 = y.1 := by have := eq_of_beq he; omega
    simp only [Bool.not_true, Bool.false_eq_true, if_false, Sem.run_bind, e2 x hx, e2 y hy, Result.andThen_ok, equal_line Tryd.underlying110 9997 x.2 y.2 hx hy w]
    cases hl : (x.2 == y.2) with
    | false =>
      have hne : ¬ x = y := fun h => by rw [h] at hl; simp at hl
      simp [decide_eq_false hne]
    | true =>
      have h2 := eq_of_beq hl
      have hxy : x = y := Prod.ext h1 h2
      simp [decide_eq_true hxy]
theorem neq_wait (x y : Nat × List Int) (hx : x.2.length = 8) (hy : y.2.length = 8) (w : World) : (binOp .neq 113 (.agg (waitA x)) (.agg (waitA y))).run Tryd.prog w = .ok (.bool (!decide (x = y))) w := by
  rw [run_neq_struct, equal_wait x y hx hy w]
  rfl
set_option maxRecDepth 100000 in
set_option maxHeartbeats 2000000 in
theorem equalW_any {v u : Value} {l l' : List (Nat × List Int)} (w : World) (hn : l.length ≤ 1024) (_hn' : l'.length ≤ 1024) (hx8 : ∀ x ∈ l, x.2.length = 8) (hy8 : ∀ x ∈ l', x.2.length = 8) (hS : GrowV w 113 9 v l.length (cellsW l)) (hT : GrowV w 113 9 u l'.length (cellsW l')) :
    Calls Tryd.prog 60 #[v, u] w fun e w' => e = .returned (.bool (decide (l = l'))) ∧ ∃ m, w' = w.drewN m := by
  obtain ⟨a, c, rfl⟩ := hS.slice_n
  obtain ⟨a', c', rfl⟩ := hT.slice_n
  have HS := Lib.hid hS
  have HT := Lib.hid hT
  have HX := Lib.hid hx8
  have HY := Lib.hid hy8
  clear hS hT hx8 hy8
  by_cases hne : l.length = l'.length
  · obtain ⟨n, hnn⟩ : ∃ n, l.length = n := ⟨_, rfl⟩
    have HN : Hid (l.length = n ∧ l'.length = n) := show _ ∧ _ from ⟨hnn, by rw [← hne]; exact hnn⟩
    rw [← hne, hnn]
    rw [hnn] at hn
    clear hnn hne
    go_enter Tryd.func60, Tryd.ntmps60
    go_wp2_with fail
    go_loopw [13] (fun i wr => ∃ k : Nat, k ≤ n ∧ i = .int .i64 (k : Nat) ∧ Hid (l.take k = l'.take k) ∧ ∃ m, wr = w.drewN m) (fun i _ => n - (intOf i).toNat)
    case atStart => exact ⟨0, by omega, rfl, (show l.take 0 = l'.take 0 from rfl), 0, rfl⟩
    case round =>
      obtain ⟨k, hk, rfl, HJ, m, rfl⟩ := hrel
      by_cases hlt : k < n
      · have hkl : k < l.length := by rw [HN.out.1]; exact hlt
        have hkl' : k < l'.length := by rw [HN.out.2]; exact hlt
        obtain ⟨g, rfl, hr⟩ := HS.out.row (by omega)
        obtain ⟨g', rfl, hr'⟩ := HT.out.row (by omega)
        have HLX := Lib.hid (load_wait (W := (w.drewN m).drew) Tryd.underlying113 rfl (by kernel_rfl) (show ((w.drewN m).drew).ownsRow 0 113 9 _ l.length (cellsW l) from hr) HX.out k hkl)
        have HLY := Lib.hid (load_wait (W := (w.drewN m).drew) Tryd.underlying113 rfl (by kernel_rfl) (show ((w.drewN m).drew).ownsRow 0 113 9 _ l'.length (cellsW l') from hr') HY.out k hkl')
        have HTK := Lib.hid (take_snoc l k hkl)
        have HTK' := Lib.hid (take_snoc l' k hkl')
        have hx1 := HX.out _ (List.getElem_mem hkl)
        have hy1 := HY.out _ (List.getElem_mem hkl')
        have ex : l[k] = l[k]?.getD (0, []) := by rw [List.getElem?_eq_getElem hkl]; rfl
        have ey : l'[k] = l'[k]?.getD (0, []) := by rw [List.getElem?_eq_getElem hkl']; rfl
        rw [ex] at hx1
        rw [ey] at hy1
        have HGX : Hid (l[k]? = some (l[k]?.getD (0, []))) := show _ = _ by rw [List.getElem?_eq_getElem hkl]; rfl
        have HGY : Hid (l'[k]? = some (l'[k]?.getD (0, []))) := show _ = _ by rw [List.getElem?_eq_getElem hkl']; rfl
        obtain ⟨x, hx⟩ : ∃ x, l[k]?.getD (0, []) = x := ⟨_, rfl⟩
        obtain ⟨y, hy⟩ : ∃ y, l'[k]?.getD (0, []) = y := ⟨_, rfl⟩
        rw [hx] at HLX HTK hx1 HGX
        rw [hy] at HLY HTK' hy1 HGY
        have HNE := neq_wait x y hx1 hy1
        obtain ⟨X, hX⟩ : ∃ X, waitA x = X := ⟨_, rfl⟩
        obtain ⟨Y, hY⟩ : ∃ Y, waitA y = Y := ⟨_, rfl⟩
        obtain ⟨t, ht⟩ : ∃ t, decide (x = y) = t := ⟨_, rfl⟩
        rw [hX] at HLX HNE
        rw [hY] at HLY HNE
        rw [ht] at HNE
        have HTT := Lib.hid ht
        have k2 : (k : Int) < (n : Int) := by omega
        clear hX hY ht hx hy hx1 hy1 ex ey hr hr' hkl hkl'
        go_wp2_with fail
        refine wp_region_still_lit (by kernel_rfl) (by kernel_rfl) ?_
        still_step
        still_step
        still_step
        refine wpStill_load_eq rfl 113 _ rfl _ _ rfl HLX.out ?_
        still_step
        still_step
        still_step
        refine wpStill_load_eq rfl 113 _ rfl _ _ rfl HLY.out ?_
        still_step
        refine wpStill_nil ?_
        cases t with
        | true =>
          have HJ1 : Hid (l.take (k + 1) = l'.take (k + 1)) := show l.take (k + 1) = l'.take (k + 1) by rw [HTK.out, HTK'.out, HJ.out, of_decide_eq_true HTT.out]
          go_wp2_with fail
          go_roundw
          case rel => exact ⟨k + 1, by omega, by go_num, HJ1, m + 1, rfl⟩
          case measure => simp [intOf]; omega
        | false =>
          have HE : Hid (¬ l = l') := show ¬ _ from fun h => of_decide_eq_false HTT.out (by have := HGX.out; rw [h, HGY.out] at this; exact (Option.some.inj this).symm)
          go_wp2_with fail
          go_ret
          refine ⟨?_, m + 1, rfl⟩
          rw [decide_eq_false HE.out]
          rfl
      · obtain rfl : k = n := by omega
        have HE : Hid (l = l') := show l = l' by
          have := HJ.out
          rw [List.take_of_length_le (Nat.le_of_eq HN.out.1), List.take_of_length_le (Nat.le_of_eq HN.out.2)] at this
          exact this
        go_wp2_with fail
        go_ret
        exact ⟨by rw [decide_eq_true HE.out]; rfl, m, rfl⟩
  · have HE : Hid (¬ l = l') := show ¬ _ from fun h => hne (by rw [h])
    have hnI : ¬ (l.length : Int) = (l'.length : Int) := by omega
    have hb : ((l.length : Int) != (l'.length : Int)) = true := bne_iff_ne.2 hnI
    clear hne
    go_enter Tryd.func60, Tryd.ntmps60
    go_wp2_with fail
    go_ret
    exact ⟨by rw [decide_eq_false HE.out]; rfl, 0, rfl⟩
end Go.Proofs.YtohdgjmmekgcmaaDoor

/-
  pmem: Same.
-/
namespace Go.Proofs.YtohdgjmmekgcmaaDoor
open Go.RowKit Go.Shelf

/-- Devices that are the same. -/
def Dv.same (d d' : Dv) : Bool := decide (d.seen = d'.seen) && decide (d.stays = d'.stays) && decide (d.waits = d'.waits)
set_option maxRecDepth 100000 in
set_option maxHeartbeats 400000 in
theorem sameD_any {F F' : Nat → Prop} {B S T n cS cT B' S' T' cS' cT' : Nat} {q q' : Value} {d d' : Dv} (w : World) (h : DevB w F B S T n cS cT q d) (h' : DevB w F' B' S' T' n cS' cT' q' d') :
    Calls Tryd.prog 21 #[.pointer (some ⟨B, 0, none⟩), .pointer (some ⟨B', 0, none⟩)] w fun e w' => e = .returned (.bool (d.same d')) ∧ ∃ m, w' = w.drewN m := by
  have HM := Lib.hid (missing_any w h)
  have HM' := Lib.hid (missing_any w h')
  have HE1 := Lib.hid (fun k => equalL_any (w.drewN k) h.most (show (w.drewN k).ownsRow 0 110 8 _ n (vals d.seen) from h.seen) (show (w.drewN k).ownsRow 0 110 8 _ n (vals d'.seen) from h'.seen))
  have HE2 := Lib.hid (fun k => equalL_any (w.drewN k) h.most (show (w.drewN k).ownsRow 0 110 8 _ n (vals d.stays) from h.stays) (show (w.drewN k).ownsRow 0 110 8 _ n (vals d'.stays) from h'.stays))
  have HE3 := Lib.hid (fun k => equalW_any (w.drewN k) (by have := h.ok.few; have := h.most; omega) (by have := h'.ok.few; have := h'.most; omega) (fun x hx => (h.ok.waits x hx).2) (fun x hx => (h'.ok.waits x hx).2) (show GrowV (w.drewN k) 113 9 q d.waits.length (cellsW d.waits) from h.waits) (show GrowV (w.drewN k) 113 9 q' d'.waits.length (cellsW d'.waits) from h'.waits))
  have c0 := h.cell0
  have c1 := h.cell1
  have c2 := h.cell2
  have e0 := h'.cell0
  have e1 := h'.cell1
  have e2 := h'.cell2
  obtain ⟨a, c, rfl⟩ := h.waits.slice_n
  obtain ⟨a', c', rfl⟩ := h'.waits.slice_n
  obtain ⟨b1, hb1⟩ : ∃ b, decide (d.seen = d'.seen) = b := ⟨_, rfl⟩
  obtain ⟨b2, hb2⟩ : ∃ b, decide (d.stays = d'.stays) = b := ⟨_, rfl⟩
  obtain ⟨b3, hb3⟩ : ∃ b, decide (d.waits = d'.waits) = b := ⟨_, rfl⟩
  unfold Dv.same
  rw [hb1] at HE1 ⊢
  rw [hb2] at HE2 ⊢
  rw [hb3] at HE3 ⊢
  clear hb1 hb2 hb3 h h'
  go_enter Tryd.func21, Tryd.ntmps21
  go_wp2_with fail
  refine HM.out.mono ?_
  rintro e w1 ⟨rfl, rfl⟩
  go_wp2_with fail
  refine HM'.out.mono ?_
  rintro e w1 ⟨rfl, rfl⟩
  go_wp2_with fail
  cases b1 with
  | false =>
    go_quiet ((first | (go_at_call 59; first | (with_reducible exact Calls.quiet_of (HE1.out _)) | (with_reducible exact Calls.quiet_of (HE2.out _))) | (go_at_call 60; with_reducible exact Calls.quiet_of (HE3.out _))))
    go_wp2
    go_ret
    exact ⟨rfl, _, rfl⟩
  | true =>
    cases b2 with
    | false =>
      go_quiet ((first | (go_at_call 59; first | (with_reducible exact Calls.quiet_of (HE1.out _)) | (with_reducible exact Calls.quiet_of (HE2.out _))) | (go_at_call 60; with_reducible exact Calls.quiet_of (HE3.out _))))
      go_wp2
      go_ret
      exact ⟨rfl, _, rfl⟩
    | true =>
      go_quiet ((first | (go_at_call 59; first | (with_reducible exact Calls.quiet_of (HE1.out _)) | (with_reducible exact Calls.quiet_of (HE2.out _))) | (go_at_call 60; with_reducible exact Calls.quiet_of (HE3.out _))))
      go_wp2
      go_ret
      exact ⟨by cases b3 <;> rfl, _, rfl⟩
theorem same_none_nil {v : Value} (w : World) (h : NoDev w v) : Calls Tryd.prog 21 #[v, .pointer none] w fun e w' => e = .returned (.bool true) ∧ w' = w := by
  have HM := Lib.hid (missing_no w h)
  have HM' := Lib.hid (missing_no w (.inl rfl))
  obtain ⟨p, rfl⟩ := h.ptr
  clear h
  go_enter Tryd.func21, Tryd.ntmps21
  go_wp2_with fail
  refine HM.out.mono ?_
  rintro e w1 ⟨rfl, rfl⟩
  go_wp2_with fail
  refine HM.out.mono ?_
  rintro e w1 ⟨rfl, rfl⟩
  go_wp2_with fail
  refine HM'.out.mono ?_
  rintro e w1 ⟨rfl, rfl⟩
  go_wp2_with fail
  go_ret
  exact ⟨rfl, rfl⟩
theorem same_left {F : Nat → Prop} {B S T n cS cT : Nat} {q : Value} {d : Dv} {v : Value} (w : World) (h : DevB w F B S T n cS cT q d) (h' : NoDev w v) : Calls Tryd.prog 21 #[.pointer (some ⟨B, 0, none⟩), v] w fun e w' => e = .returned (.bool false) ∧ w' = w := by
  have HM := Lib.hid (missing_any w h)
  have HM' := Lib.hid (missing_no w h')
  obtain ⟨p, rfl⟩ := h'.ptr
  clear h h'
  go_enter Tryd.func21, Tryd.ntmps21
  go_wp2_with fail
  refine HM.out.mono ?_
  rintro e w1 ⟨rfl, rfl⟩
  go_wp2_with fail
  refine HM'.out.mono ?_
  rintro e w1 ⟨rfl, rfl⟩
  go_wp2_with fail
  refine HM.out.mono ?_
  rintro e w1 ⟨rfl, rfl⟩
  go_wp2_with fail
  refine HM'.out.mono ?_
  rintro e w1 ⟨rfl, rfl⟩
  go_wp2_with fail
  go_ret
  exact ⟨rfl, rfl⟩
theorem same_right {F : Nat → Prop} {B S T n cS cT : Nat} {q : Value} {d : Dv} {v : Value} (w : World) (h : DevB w F B S T n cS cT q d) (h' : NoDev w v) : Calls Tryd.prog 21 #[v, .pointer (some ⟨B, 0, none⟩)] w fun e w' => e = .returned (.bool false) ∧ w' = w := by
  have HM := Lib.hid (missing_any w h)
  have HM' := Lib.hid (missing_no w h')
  obtain ⟨p, rfl⟩ := h'.ptr
  clear h h'
  go_enter Tryd.func21, Tryd.ntmps21
  go_wp2_with fail
  refine HM'.out.mono ?_
  rintro e w1 ⟨rfl, rfl⟩
  go_wp2_with fail
  refine HM'.out.mono ?_
  rintro e w1 ⟨rfl, rfl⟩
  go_wp2_with fail
  refine HM.out.mono ?_
  rintro e w1 ⟨rfl, rfl⟩
  go_wp2_with fail
  go_ret
  exact ⟨rfl, rfl⟩
end Go.Proofs.YtohdgjmmekgcmaaDoor

/-
  The document's device: where it lies; There, Line, Load.
-/
namespace Go.Proofs.YtohdgjmmekgcmaaDoor
open Go.RowKit Go.Shelf

/-- A value that is the document's device; none of its blocks is one of F. -/
structure RefV (W : World) (F : Nat → Prop) (S T n cS cT : Nat) (q : Value) (d : Dv) : Prop where
  ok : d.Ok n
  pos : 0 < n
  most : n ≤ 1024
  seen : W.ownsRow 0 48 8 (.slice (some ⟨S, 0, none⟩) n cS) n (vals d.seen)
  stays : W.ownsRow 0 48 8 (.slice (some ⟨T, 0, none⟩) n cT) n (vals d.stays)
  waits : GrowV W 50 9 q d.waits.length (cellsW d.waits)
  outS : ¬ F S
  outT : ¬ F T
  outQ : OwnIn (fun k => ¬ F k) q
/-- Its three cells. -/
abbrev refA (S T n cS cT : Nat) (q : Value) : Array Value := #[.slice (some ⟨S, 0, none⟩) n cS, .slice (some ⟨T, 0, none⟩) n cT, q]
section
variable {W W' w : World} {F : Nat → Prop} {S T n cS cT : Nat} {q : Value} {d : Dv}
theorem RefV.keeps (h : RefV W F S T n cS cT q d) (hk : ∀ k, ¬ F k → k < W.heap.size → W'.heap[k]? = W.heap[k]?) : RefV W' F S T n cS cT q d :=
  ⟨h.ok, h.pos, h.most, own_keeps h.seen (hk S h.outS), own_keeps h.stays (hk T h.outT), h.waits.keeps h.outQ hk, h.outS, h.outT, h.outQ⟩
theorem RefV.turn (h : RefV W F S T n cS cT q d) (ht : Turn F W W') : RefV W' F S T n cS cT q d := h.keeps fun k hF hl => ht.block k hl hF
theorem RefV.below (h : RefV W F S T n cS cT q d) (hb : Below W.heap.size W W') : RefV W' F S T n cS cT q d := h.keeps fun k _ hl => hb.block k hl
theorem there_any (i : Int) (hi1 : -9223372036854775808 ≤ i) (hi2 : i ≤ 9223372036854775807) (w : World) (hn : n ≤ 1024) (Sv Tv Qv : Value) (a : Option Addr) (hS : Sv = .slice a n cS) :
    Calls Tryd.prog 83 #[.agg #[Sv, Tv, Qv], .int .i64 i] w fun e w' => e = .returned (.bool (inR (n * 8) i)) ∧ Below w.heap.size w w' := by
  subst hS
  by_cases h0 : 0 ≤ i
  · by_cases h1 : i < 8 * (n : Int)
    · have HE : Hid (inR (n * 8) i = true) := show _ = _ from decide_eq_true (by omega)
      go_enter Tryd.func83, Tryd.ntmps83
      go_wp2_with fail
      go_ret
      exact ⟨by rw [HE.out]; rfl, (by repeat (first | exact Below.refl _ _ | assumption | refine Below.drew ?_ | refine below_drewN ?_ _ | refine Below.alloc ?_ (by (try simp) <;> omega) _ | refine Below.setCell ?_ (by (try simp) <;> omega) _ | refine Below.trans ?_ (Below.mono (by assumption) (by (try simp) <;> omega))))⟩
    · have HE : Hid (inR (n * 8) i = false) := show _ = _ from decide_eq_false (by omega)
      go_enter Tryd.func83, Tryd.ntmps83
      go_wp2_with fail
      go_ret
      exact ⟨by rw [HE.out]; rfl, (by repeat (first | exact Below.refl _ _ | assumption | refine Below.drew ?_ | refine below_drewN ?_ _ | refine Below.alloc ?_ (by (try simp) <;> omega) _ | refine Below.setCell ?_ (by (try simp) <;> omega) _ | refine Below.trans ?_ (Below.mono (by assumption) (by (try simp) <;> omega))))⟩
  · have HE : Hid (inR (n * 8) i = false) := show _ = _ from decide_eq_false (by omega)
    go_enter Tryd.func83, Tryd.ntmps83
    go_wp2_with fail
    go_ret
    exact ⟨by rw [HE.out]; rfl, (by repeat (first | exact Below.refl _ _ | assumption | refine Below.drew ?_ | refine below_drewN ?_ _ | refine Below.alloc ?_ (by (try simp) <;> omega) _ | refine Below.setCell ?_ (by (try simp) <;> omega) _ | refine Below.trans ?_ (Below.mono (by assumption) (by (try simp) <;> omega))))⟩
theorem line_any (i : Int) (w : World) (Sv Tv Qv : Value) (a : Option Addr) (hS : Sv = .slice a n cS) :
    Calls Tryd.prog 85 #[.agg #[Sv, Tv, Qv], .int .i64 i] w fun e w' => e = .returned (.bool (inR n i)) ∧ Below w.heap.size w w' := by
  subst hS
  by_cases h0 : 0 ≤ i
  · by_cases h1 : i < (n : Int)
    · have HE : Hid (inR n i = true) := show _ = _ from decide_eq_true (by omega)
      go_enter Tryd.func85, Tryd.ntmps85
      go_wp2_with fail
      go_ret
      exact ⟨by rw [HE.out]; rfl, (by repeat (first | exact Below.refl _ _ | assumption | refine Below.drew ?_ | refine below_drewN ?_ _ | refine Below.alloc ?_ (by (try simp) <;> omega) _ | refine Below.setCell ?_ (by (try simp) <;> omega) _ | refine Below.trans ?_ (Below.mono (by assumption) (by (try simp) <;> omega))))⟩
    · have HE : Hid (inR n i = false) := show _ = _ from decide_eq_false (by omega)
      go_enter Tryd.func85, Tryd.ntmps85
      go_wp2_with fail
      go_ret
      exact ⟨by rw [HE.out]; rfl, (by repeat (first | exact Below.refl _ _ | assumption | refine Below.drew ?_ | refine below_drewN ?_ _ | refine Below.alloc ?_ (by (try simp) <;> omega) _ | refine Below.setCell ?_ (by (try simp) <;> omega) _ | refine Below.trans ?_ (Below.mono (by assumption) (by (try simp) <;> omega))))⟩
  · have HE : Hid (inR n i = false) := show _ = _ from decide_eq_false (by omega)
    go_enter Tryd.func85, Tryd.ntmps85
    go_wp2_with fail
    go_ret
    exact ⟨by rw [HE.out]; rfl, (by repeat (first | exact Below.refl _ _ | assumption | refine Below.drew ?_ | refine below_drewN ?_ _ | refine Below.alloc ?_ (by (try simp) <;> omega) _ | refine Below.setCell ?_ (by (try simp) <;> omega) _ | refine Below.trans ?_ (Below.mono (by assumption) (by (try simp) <;> omega))))⟩
end
end Go.Proofs.YtohdgjmmekgcmaaDoor
