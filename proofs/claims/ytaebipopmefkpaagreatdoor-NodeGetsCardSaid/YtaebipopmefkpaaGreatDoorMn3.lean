/-
  Texts WordW to NdA, as one.
-/
import Derived.Test.YtaebipopmefkpaaGreatDoorMn2
import Derived.Maps.AppendAt
import Derived.Scope
import Derived.RangeFuncLeaves
import Derived.RangeFuncBound
import Derived.Shelf.Abstract
/-
  The contract of word.Words.
-/
namespace Go.Proofs.YtaebipopmefkpaaGreatDoor
open Go.RowKit Go.Shelf
attribute [local go_sem] Oper.semAt_some

theorem stepIn_append_own {F : Fence} {fn : Nat} {P : Program} (w : World) {ops : Array Oper} {o : Oper} {a : Act} {K : Act → World → Prop} {Q : Exit → Act → World → Prop} {E : Prop}
    (hg : o.guard = none) (s x : Operand) (t : TypeId) (hop : o.op = Op.call { callee := Callee.builtin Builtin.append, args := #[s, x], argTypes := #[t, t] })
    (base : Nat) (e : TypeId) (i : TypeInfo) (z : Value) (size bytes : Nat) (h1 : P.underlying t = some (.slice e)) (h2 : P.info? e = some i) (h3 : i.zero = some z) (h4 : i.size = size) (h5 : i.bytes = bytes) (h6 : z.cells.size = size) (h7 : 0 < size)
    (v : Value) (k : Nat) (xs : List Value) (hs : a.eval s = v) (hown : w.ownsRow base e size v k xs) (ad : Addr) (m c : Nat) (news : List Value) (hx : a.eval x = .slice (some ad) m c) (hn : news.length = m * size)
    (hc : ∀ j u, news[j]? = some u → w.cell? (ad.add j) = some u) (h1c : ∀ u ∈ news, u.oneCell' = true) (b1 : k + m ≤ maxLen) (b2 : (k + m) * bytes ≤ 140737488355328) (b3 : base ≤ w.heap.size)
    (hK : ∀ v' w', w'.ownsRow base e size v' (k + m) (xs ++ news) → w.grownBy w' v.ownBlock → (v' = .slice none 0 0 ↔ v = .slice none 0 0 ∧ m = 0) → K (a.put o.dst v') w') :
    if Region.wanted o (yielded ops a.tmps) = true then Oper.wpIn F fn P o a w K Q else E := by
  have hw : Region.wanted o (yielded ops a.tmps) = true := by simp [Region.wanted, hg]
  rw [if_pos hw]
  obtain ⟨v', w', hrun, r1, r2, r3⟩ := run_append_own (P := P) w base t o.type e i z size bytes h1 h2 h3 h4 h5 h6 h7 v k xs hown ad m c news hn hc h1c b1 b2 b3
  unfold Oper.wpIn
  refine ⟨?_, ?_⟩
  · simp [Oper.about, hop, resolve, Target.leads, Sem.run_pure]
  · rw [Oper.semAt_plain F _ _ (by rw [hop]; intro c hc'; cases hc')]
    simp [execOp, hop, resolve, invoke, builtin, hs, hx, hrun, Result.andThen]
    exact hK v' w' r1 r2 r3

theorem need_any (n : Nat) (h : n ≤ 4096) (w : World) : Calls Tryz.prog 148 #[.int .i64 n] w fun e w' => e = .returned (.int .i64 (WM.need n : Nat)) ∧ w = w' := by
  have h1 : (n : Int) ≤ 4096 := by omega
  go_enter Tryz.func148, Tryz.ntmps148
  go_wp2
  go_ret
  exact ⟨ret_int (by unfold WM.need; omega), rfl⟩
theorem words_long (a : Option Addr) (len cap : Nat) (h : 4096 < len) (hl : len ≤ 140737488351232) (w : World) :
    Calls Tryz.prog 145 #[.slice a len cap] w fun e w' => e = .returned (.tuple #[.slice none 0 0, .int .i64 3]) ∧ w = w' := by
  have h1 : (4096 : Int) < (len : Int) := by omega
  go_enter Tryz.func145, Tryz.ntmps145
  go_wp2
  go_ret2
  exact ⟨rfl, rfl⟩
theorem infoU64 : (Tryz.prog.info? 22).map (fun i => (i.zero, i.size, i.bytes)) = some (some (.int .u64 0), 1, 8) := by kernel_rfl
theorem finRange_map (n : Nat) (f : Nat → Value) : (List.finRange n).map (fun y => f y.1) = (List.range n).map f := by
  apply List.ext_getElem
  · simp
  · intro i h1 h2; simp
theorem keepsOthers_of_below {W W' : World} (h : Below W.heap.size W W') : KeepsOthers W W' :=
  ⟨h.size, fun k _ hk _ => (h.block k (Array.getElem?_eq_some_iff.1 hk).1).trans hk⟩
theorem boxed_below {W W' : World} {B n₀ : Nat} {t : TypeId} {v : Value} (h : Boxed W B t v) (hb : Below n₀ W W') (hB : B < n₀) : Boxed W' B t v := (hb.block B hB).trans h
theorem ownsRow_below {W W' : World} {base : Nat} {e : TypeId} {size : Nat} {v : Value} {n : Nat} {xs : List Value} (h : W.ownsRow base e size v n xs) (hb : Below W.heap.size W W') : W'.ownsRow base e size v n xs :=
  h.kept (row := none) ⟨hb.os, hb.tape, hb.output, hb.size, fun k hk _ => hb.block k hk⟩ (by
    rcases h.2 with ⟨rfl, _⟩ | ⟨g, cap, cur, rfl, _⟩
    · exact .inl rfl
    · exact .inr (by simp [Value.ownBlock]))
/-- A box of another type is not touched by an append and the store of the new slice. -/
theorem boxTail {W w4 w5 : World} {B B' n₀ : Nat} {t' e : TypeId} {size k : Nat} {v v' u' : Value} {xs : List Value} {tmp : Obj} (_ : Below W.heap.size W w4) (hr : w4.ownsRow n₀ e size v k xs) (hg : (w4.alloc tmp).grownBy w5 v.ownBlock)
    (hS : Boxed w4 B' t' u') (hte : t' ≠ e) (hne : B' ≠ B) : Boxed (w5.setCell ⟨B, 0, none⟩ v') B' t' u' := by
  have h1 : Boxed w5 B' t' u' := (hS.alloc tmp).kept hg (hS.not_row hte hr)
  exact h1.other hne v'
theorem keepsTail {W w4 w5 : World} {B Bs n₀ : Nat} {t1 t2 e : TypeId} {size k : Nat} {v v' u1 u2 : Value} {xs : List Value} {tmp : Obj} (hb : Below W.heap.size W w4) (hr : w4.ownsRow n₀ e size v k xs) (hg : (w4.alloc tmp).grownBy w5 v.ownBlock)
    (h1 : Boxed w4 Bs t1 u1) (h2 : Boxed w4 (Bs + 1) t2 u2) (he1 : t1 ≠ e) (he2 : t2 ≠ e) (hn1 : Bs ≠ B) (hn2 : Bs + 1 ≠ B) : Keeps (ChunkBlocks Bs) W (w5.setCell ⟨B, 0, none⟩ v') := by
  have s1 : w4.heap.size ≤ w5.heap.size := by have := hg.size; simp at this; omega
  have s2 : (w5.setCell ⟨B, 0, none⟩ v').heap.size = w5.heap.size := by simp [World.setCell]
  refine ⟨by have := hb.size; omega, fun j hj hl => ?_⟩
  rw [← hb.block j hl]
  rcases hj with rfl | rfl
  · exact (boxTail hb hr hg h1 he1 hn1).trans h1.symm
  · exact (boxTail hb hr hg h2 he2 hn2).trans h2.symm
set_option maxRecDepth 100000 in
set_option maxHeartbeats 2000000 in
theorem words_anyM (v : Value) (xs : List Nat) (hl : xs.length ≤ 4096) (hx : WM.Bytes256 xs) (w : World) (hs : Sl w .u8 v xs) (hcap : ∀ a n c, v = .slice a n c → c ≤ 9223372036854775807) :
    Calls Tryz.prog 145 #[v] w fun e w' => ∃ r, e = .returned (.tuple #[r, .int .i64 0]) ∧ (∃ g c, r = .slice (some ⟨g, 0, none⟩) (WM.wordsOf xs).length c) ∧ w'.ownsRow w.heap.size 22 1 r (WM.wordsOf xs).length ((WM.wordsOf xs).map (fun y : Nat => Value.int .u64 (y : Nat))) ∧ Below w.heap.size w w' := by
  obtain ⟨i0, hi, hz0, hz1, hz2⟩ := info_parts infoU64
  obtain ⟨a, cap, rfl, hlc, hcells⟩ := hs
  have hcap' := hcap _ _ _ rfl
  clear hcap
  have h1 : (xs.length : Int) ≤ 4096 := by omega
  have hnd : WM.need xs.length ≤ 512 := by unfold WM.need; omega
  have HC := Lib.hid hcells; clear hcells
  refine (callsIn_wide (n := 5)).1 ?_
  refine callsIn_of_wp_marks Tryz.func145 rfl trivial ?_ rfl
  simp only [Tryz.ntmps145, List.size_toArray, List.length_cons, List.length_nil, Nat.reduceAdd, Nat.reduceSub, Array.replicate_succ, Array.replicate_zero, List.push_toArray, List.append_toArray, List.nil_append, List.cons_append]
  gi_wp2_with fail
  refine ⟨trivial, ?_⟩
  refine (callsIn_wide.2 (need_any _ (by omega) _)).mono ?_
  rintro e w1 ⟨rfl, rfl⟩
  gi_wp2_with (gi_at_make; refine wpListIn_make_own _ rfl _ _ 174 rfl w.heap.size 22 i0 (.int .u64 0) 1 Tryz.underlying174 hi hz0 hz1 .i64 .i64 _ (WM.need xs.length) rfl rfl rfl (by rw [hz2]; omega) (by unfold maxLen; omega) (by omega) ?_; intro w2 hown2 hgrow2)
  have z2 : w.heap.size ≤ w2.heap.size := hgrow2.size
  have b2 : Below w.heap.size w w2 := (Below.refl _ _).grown hgrow2 (Nat.le_refl _) (fun k e => by cases e)
  refine ⟨trivial, ?_⟩
  refine (callsIn_wide.2 (chunk_any _ _ _ _)).mono ?_
  rintro e w3 ⟨rfl, rfl⟩
  gi_wp2_with fail
  have bO := ((Boxed.new w2 174 (.slice (some ⟨w.heap.size, 0, none⟩) 0 (WM.need xs.length))).alloc (.cells #[.slice a xs.length cap] 172)).alloc (.cells #[.int .i64 8] 3)
  have bS := (Boxed.new (w2.alloc (.cells #[.slice (some ⟨w.heap.size, 0, none⟩) 0 (WM.need xs.length)] 174)) 172 (.slice a xs.length cap)).alloc (.cells #[.int .i64 8] 3)
  have bN := Boxed.new ((w2.alloc (.cells #[.slice (some ⟨w.heap.size, 0, none⟩) 0 (WM.need xs.length)] 174)).alloc (.cells #[.slice a xs.length cap] 172)) 3 (.int .i64 8)
  have hB0 : Below w.heap.size w (((w2.alloc (.cells #[.slice (some ⟨w.heap.size, 0, none⟩) 0 (WM.need xs.length)] 174)).alloc (.cells #[.slice a xs.length cap] 172)).alloc (.cells #[.int .i64 8] 3)) := (by repeat (first | exact Below.refl _ _ | assumption | refine Below.drew ?_ | refine below_drewN ?_ _ | refine Below.alloc ?_ (by (try simp) <;> omega) _ | refine Below.setCell ?_ (by (try simp) <;> omega) _ | refine Below.trans ?_ (Below.mono (by assumption) (by (try simp) <;> omega))))
  have own0 := ((hown2.alloc (.cells #[.slice (some ⟨w.heap.size, 0, none⟩) 0 (WM.need xs.length)] 174)).alloc (.cells #[.slice a xs.length cap] 172)).alloc (.cells #[.int .i64 8] 3)
  simp only [World.size_alloc] at bS bN
  have hsz : (((w2.alloc (.cells #[.slice (some ⟨w.heap.size, 0, none⟩) 0 (WM.need xs.length)] 174)).alloc (.cells #[.slice a xs.length cap] 172)).alloc (.cells #[.int .i64 8] 3)).heap.size = w2.heap.size + 3 := by simp
  generalize hW0 : (((w2.alloc (.cells #[.slice (some ⟨w.heap.size, 0, none⟩) 0 (WM.need xs.length)] 174)).alloc (.cells #[.slice a xs.length cap] 172)).alloc (.cells #[.int .i64 8] 3)) = W0 at *
  clear hW0 hown2
  obtain ⟨b, off, hab, hcb⟩ : ∃ b off, (0 < xs.length → a = some ⟨b, off, none⟩) ∧ (0 < xs.length → b < w.heap.size ∧ ∀ j, j < xs.length → w.cell? ⟨b, off + j, none⟩ = some (.int .u8 ((xs[j]?.getD 0 : Nat) : Int))) := by
    rcases Nat.eq_zero_or_pos xs.length with h0 | h0
    · exact ⟨0, 0, fun h => by omega, fun h => by omega⟩
    · obtain ⟨b, off, h1, h2, h3⟩ := HC.out h0
      exact ⟨b, off, fun _ => h1, fun _ => ⟨h2, h3⟩⟩
  have HCB := Lib.hid hcb; clear hcb HC
  refine wpIn_rangeFunc_ownG (N := WM.need xs.length) rfl (by decide) (gf := 155) (lb := #[.pointer (some ⟨w2.heap.size + 1, 0, none⟩), .pointer (some ⟨w2.heap.size + 1 + 1, 0, none⟩)]) rfl trivial (enters_of Tryz.func155 (by kernel_rfl) rfl)
    (chunk_stops 4 (by decide) (w2.heap.size + 1) b off xs.length cap a hab hcap' hl hlc W0 (by omega) bS.cell bN.cell) (fun h k => Keeps.trans h k) (keeps_b (fun k hk => by rcases hk with rfl | rfl <;> omega)) (Below.refl _ _) (fun _ => rfl)
    (fun pre W => (∃ v, Boxed W w2.heap.size 174 v ∧ W.ownsRow w.heap.size 22 1 v pre.length (pre.map fun y => Value.int .u64 (WM.wordAt xs y.1 : Nat)) ∧ ∃ g c, v = .slice (some ⟨g, 0, none⟩) pre.length c) ∧ (Boxed W (w2.heap.size + 1) 172 (.slice a xs.length cap) ∧ Boxed W (w2.heap.size + 1 + 1) 3 (.int .i64 8)) ∧ Below w.heap.size w W)
    (fun _ _ _ => False)
    (OwnFrom.and (Own.from (holdsRow_own w.heap.size w2.heap.size 174 22 1 (fun pre : List (Fin (WM.need xs.length)) => pre.length) (fun pre => pre.map fun y => Value.int .u64 (WM.wordAt xs y.1 : Nat)) (fun pre v => ∃ g c, v = .slice (some ⟨g, 0, none⟩) pre.length c)) _) (OwnFrom.and (OwnFrom.and (Own.from (boxed_own _ _ _) _) (Own.from (boxed_own _ _ _) _)) (ownFrom_below (Nat.le_refl _) (by omega))))
    (fun _ _ _ _ _ hs _ _ => hs)
    ⟨⟨_, bO, own0, _, _, rfl⟩, ⟨bS, bN⟩, hB0⟩
    (fun y => { tmps := #[.slice a xs.length cap, undef, .slice none 0 0, .int .i64 0, .pointer (some ⟨w2.heap.size, 0, none⟩), .slice (some ⟨b, off + 8 * y.1, none⟩) (min 8 (xs.length - 8 * y.1)) (min 8 (xs.length - 8 * y.1)), .slice a xs.length cap, .int .i64 xs.length, .bool (decide (4096 < (xs.length : Int))), .slice a xs.length cap, .int .i64 xs.length, .int .i64 (WM.need xs.length : Nat), .slice (some ⟨w.heap.size, 0, none⟩) 0 (WM.need xs.length), .slice a xs.length cap, .func (.func 155) #[] #[.pointer (some ⟨w2.heap.size + 1, 0, none⟩), .pointer (some ⟨w2.heap.size + 1 + 1, 0, none⟩)], .slice (some ⟨b, off + 8 * y.1, none⟩) (min 8 (xs.length - 8 * y.1)) (min 8 (xs.length - 8 * y.1)), undef, undef, undef, undef, undef, undef], defers := [] }) ?assign ?body ?done ?stop
  case assign =>
    intro l x W K hK
    gi_wp2
    exact hK
  case body =>
    rintro l pre y W ⟨⟨v, hv, hrow, -⟩, ⟨hS, hN⟩, hB⟩ hlt
    have hc := hv.cell
    have hy := y.2
    have hlen : 0 < xs.length ∧ 8 * y.1 < xs.length := by have := y.2; unfold WM.need at this; omega
    have hmo : Tryz.prog.follows .mixedOrders = true := by kernel_rfl
    have hcl := WM.chunkOf_length xs y.1
    have hsl : Sl W .u8 (.slice (some ⟨b, off + 8 * y.1, none⟩) (min 8 (xs.length - 8 * y.1)) (min 8 (xs.length - 8 * y.1))) (WM.chunkOf xs y.1) := by
      obtain ⟨hb1, hb2⟩ := HCB.out hlen.1
      refine ⟨some ⟨b, off + 8 * y.1, none⟩, min 8 (xs.length - 8 * y.1), by rw [hcl], by omega, fun _ => ⟨b, off + 8 * y.1, rfl, Nat.lt_of_lt_of_le hb1 hB.size, fun j hj => ?_⟩⟩
      have e : (WM.chunkOf xs y.1)[j]?.getD 0 = xs[8 * y.1 + j]?.getD 0 := WM.chunkOf_at xs y.1 j (by omega)
      rw [e, Nat.add_assoc]
      exact (hB.cell (p := ⟨b, off + (8 * y.1 + j), none⟩) hb1).trans (hb2 _ (by omega))
    have HJ : ∀ W1, Below W.heap.size W W1 → Calls Tryz.prog 150 #[.slice (some ⟨b, off + 8 * y.1, none⟩) (min 8 (xs.length - 8 * y.1)) (min 8 (xs.length - 8 * y.1))] W1 fun e w' => e = .returned (.int .u64 (WM.wordAt xs y.1 : Nat)) ∧ Below W1.heap.size W1 w' := fun W1 hb1 => by
      have := joined_any _ (WM.chunkOf xs y.1) (by omega) (WM.chunkOf_256 xs hx y.1) W1 (hsl.below hb1) ⟨_, by rw [hcl]⟩
      rw [WM.chunkOf_word] at this
      exact this
    have HJ' := Lib.hid HJ; clear HJ hcl hsl
    gi_wp2
    refine wpIn_region_any hmo ?_
    change wpAnyIn _ _ _ _ _ _ _ _ _ (World.drew _)
    refine wpAnyIn_ready (rs := [0, 1]) (by kernel_rfl) (by simp) ?_
    refine AllReadyIn.cons rfl (fun K hK => ?_) (AllReadyIn.cons rfl (fun K hK => ?_) AllReadyIn.nil)
    · go_simp
      refine hK _ _ ?_
      clear hK K
      refine wpAnyIn_ready (rs := [1]) (by kernel_rfl) (by simp) ?_
      refine AllReadyIn.cons rfl (fun K hK => ?_) AllReadyIn.nil
      go_simp
      refine hK _ _ ?_
      clear hK K
      refine wpAnyIn_ready (rs := [2]) (by kernel_rfl) (by simp) ?_
      refine AllReadyIn.cons rfl (fun K hK => ?_) AllReadyIn.nil
      go_simp
      refine ⟨trivial, ?_⟩
      refine (CallsIn.inRound l (callsIn_wide.2 (HJ'.out _ (by exact (Below.refl _ _).drew)))).mono ?_
      rintro e w4 ⟨rfl, hb4⟩
      have hb4' : Below W.heap.size W w4 := (Below.refl _ _).drew.trans hb4
      have hv4 := boxed_below hv hb4' hv.lt
      have hr4 := ownsRow_below hrow hb4'
      have hc4 := hv4.cell
      have hlt4 := hv4.lt
      have zz4 := hb4'.size
      refine hK _ _ ?_
      clear hK K
      refine wpAnyIn_ready (rs := [3]) (by kernel_rfl) (by simp) ?_
      refine AllReadyIn.cons rfl (fun K hK => ?_) AllReadyIn.nil
      go_simp
      refine hK _ _ ?_
      clear hK K
      refine wpAnyIn_ready (rs := [4]) (by kernel_rfl) (by simp) ?_
      refine AllReadyIn.cons rfl (fun K hK => ?_) AllReadyIn.nil
      refine stepIn_append_own _ rfl _ _ 174 rfl w.heap.size 22 i0 (.int .u64 0) 1 8 Tryz.underlying174 hi hz0 hz1 hz2 rfl (by decide) v pre.length _ rfl (hr4.alloc _) ⟨w4.heap.size, 0, none⟩ 1 1 [.int .u64 (WM.wordAt xs y.1 : Nat)] rfl rfl (cell_one_new _ _ _) (by simp [Value.oneCell']) (by unfold maxLen; omega) (by omega) (by have := hB.size; simp; omega) ?_
      intro v' w5 hown5 hgrow5 _
      refine hK _ _ ?_
      clear hK K
      obtain ⟨g', cap', rfl⟩ := ownsRow_succ hown5
      obtain ⟨hv1, hv2, hr2, hk2, hb2⟩ := hv4.appended (by decide) hr4 (Nat.le_trans hB.size zz4) z2 hown5 hgrow5
      have hc1 := hv1.cell
      have hf1 := hv1.frozen
      refine wpAnyIn_ready (rs := [5]) (by kernel_rfl) (by simp) ?_
      refine AllReadyIn.cons rfl (fun K hK => ?_) AllReadyIn.nil
      go_simp
      refine hK _ _ ?_
      clear hK K
      refine wpAnyIn_done (by kernel_rfl) ?_ _
      refine ⟨((keepsOthers_of_below hb4').trans hk2).from _, ?_, ⟨⟨_, hv2, by simpa using hr2, _, _, by rw [List.length_append]; rfl⟩, ?_, hB.trans ((hb4'.mono hB.size).trans hb2)⟩⟩
      · exact keepsTail hb4' hr4 hgrow5 (boxed_below hS hb4' hS.lt) (boxed_below hN hb4' hN.lt) (by decide) (by decide) (by omega) (by omega)
      · exact ⟨boxTail hb4' hr4 hgrow5 (boxed_below hS hb4' hS.lt) (by decide) (by omega), boxTail hb4' hr4 hgrow5 (boxed_below hN hb4' hN.lt) (by decide) (by omega)⟩
    · go_simp
      refine hK _ _ ?_
      clear hK K
      refine wpAnyIn_ready (rs := [0, 2]) (by kernel_rfl) (by simp) ?_
      refine AllReadyIn.cons rfl (fun K hK => ?_) (AllReadyIn.cons rfl (fun K hK => ?_) AllReadyIn.nil)
      · go_simp
        refine hK _ _ ?_
        clear hK K
        refine wpAnyIn_ready (rs := [2]) (by kernel_rfl) (by simp) ?_
        refine AllReadyIn.cons rfl (fun K hK => ?_) AllReadyIn.nil
        go_simp
        refine ⟨trivial, ?_⟩
        refine (CallsIn.inRound l (callsIn_wide.2 (HJ'.out _ (by exact (Below.refl _ _).drew)))).mono ?_
        rintro e w4 ⟨rfl, hb4⟩
        have hb4' : Below W.heap.size W w4 := (Below.refl _ _).drew.trans hb4
        have hv4 := boxed_below hv hb4' hv.lt
        have hr4 := ownsRow_below hrow hb4'
        have hc4 := hv4.cell
        have hlt4 := hv4.lt
        have zz4 := hb4'.size
        refine hK _ _ ?_
        clear hK K
        refine wpAnyIn_ready (rs := [3]) (by kernel_rfl) (by simp) ?_
        refine AllReadyIn.cons rfl (fun K hK => ?_) AllReadyIn.nil
        go_simp
        refine hK _ _ ?_
        clear hK K
        refine wpAnyIn_ready (rs := [4]) (by kernel_rfl) (by simp) ?_
        refine AllReadyIn.cons rfl (fun K hK => ?_) AllReadyIn.nil
        refine stepIn_append_own _ rfl _ _ 174 rfl w.heap.size 22 i0 (.int .u64 0) 1 8 Tryz.underlying174 hi hz0 hz1 hz2 rfl (by decide) v pre.length _ rfl (hr4.alloc _) ⟨w4.heap.size, 0, none⟩ 1 1 [.int .u64 (WM.wordAt xs y.1 : Nat)] rfl rfl (cell_one_new _ _ _) (by simp [Value.oneCell']) (by unfold maxLen; omega) (by omega) (by have := hB.size; simp; omega) ?_
        intro v' w5 hown5 hgrow5 _
        refine hK _ _ ?_
        clear hK K
        obtain ⟨g', cap', rfl⟩ := ownsRow_succ hown5
        obtain ⟨hv1, hv2, hr2, hk2, hb2⟩ := hv4.appended (by decide) hr4 (Nat.le_trans hB.size zz4) z2 hown5 hgrow5
        have hc1 := hv1.cell
        have hf1 := hv1.frozen
        refine wpAnyIn_ready (rs := [5]) (by kernel_rfl) (by simp) ?_
        refine AllReadyIn.cons rfl (fun K hK => ?_) AllReadyIn.nil
        go_simp
        refine hK _ _ ?_
        clear hK K
        refine wpAnyIn_done (by kernel_rfl) ?_ _
        refine ⟨((keepsOthers_of_below hb4').trans hk2).from _, ?_, ⟨⟨_, hv2, by simpa using hr2, _, _, by rw [List.length_append]; rfl⟩, ?_, hB.trans ((hb4'.mono hB.size).trans hb2)⟩⟩
        · exact keepsTail hb4' hr4 hgrow5 (boxed_below hS hb4' hS.lt) (boxed_below hN hb4' hN.lt) (by decide) (by decide) (by omega) (by omega)
        · exact ⟨boxTail hb4' hr4 hgrow5 (boxed_below hS hb4' hS.lt) (by decide) (by omega), boxTail hb4' hr4 hgrow5 (boxed_below hN hb4' hN.lt) (by decide) (by omega)⟩
      · go_simp
        refine ⟨trivial, ?_⟩
        refine (CallsIn.inRound l (callsIn_wide.2 (HJ'.out _ (by exact (Below.refl _ _).drew)))).mono ?_
        rintro e w4 ⟨rfl, hb4⟩
        have hb4' : Below W.heap.size W w4 := (Below.refl _ _).drew.trans hb4
        have hv4 := boxed_below hv hb4' hv.lt
        have hr4 := ownsRow_below hrow hb4'
        have hc4 := hv4.cell
        have hlt4 := hv4.lt
        have zz4 := hb4'.size
        refine hK _ _ ?_
        clear hK K
        refine wpAnyIn_ready (rs := [0, 3]) (by kernel_rfl) (by simp) ?_
        refine AllReadyIn.cons rfl (fun K hK => ?_) (AllReadyIn.cons rfl (fun K hK => ?_) AllReadyIn.nil)
        · go_simp
          refine hK _ _ ?_
          clear hK K
          refine wpAnyIn_ready (rs := [3]) (by kernel_rfl) (by simp) ?_
          refine AllReadyIn.cons rfl (fun K hK => ?_) AllReadyIn.nil
          go_simp
          refine hK _ _ ?_
          clear hK K
          refine wpAnyIn_ready (rs := [4]) (by kernel_rfl) (by simp) ?_
          refine AllReadyIn.cons rfl (fun K hK => ?_) AllReadyIn.nil
          refine stepIn_append_own _ rfl _ _ 174 rfl w.heap.size 22 i0 (.int .u64 0) 1 8 Tryz.underlying174 hi hz0 hz1 hz2 rfl (by decide) v pre.length _ rfl (hr4.alloc _) ⟨w4.heap.size, 0, none⟩ 1 1 [.int .u64 (WM.wordAt xs y.1 : Nat)] rfl rfl (cell_one_new _ _ _) (by simp [Value.oneCell']) (by unfold maxLen; omega) (by omega) (by have := hB.size; simp; omega) ?_
          intro v' w5 hown5 hgrow5 _
          refine hK _ _ ?_
          clear hK K
          obtain ⟨g', cap', rfl⟩ := ownsRow_succ hown5
          obtain ⟨hv1, hv2, hr2, hk2, hb2⟩ := hv4.appended (by decide) hr4 (Nat.le_trans hB.size zz4) z2 hown5 hgrow5
          have hc1 := hv1.cell
          have hf1 := hv1.frozen
          refine wpAnyIn_ready (rs := [5]) (by kernel_rfl) (by simp) ?_
          refine AllReadyIn.cons rfl (fun K hK => ?_) AllReadyIn.nil
          go_simp
          refine hK _ _ ?_
          clear hK K
          refine wpAnyIn_done (by kernel_rfl) ?_ _
          refine ⟨((keepsOthers_of_below hb4').trans hk2).from _, ?_, ⟨⟨_, hv2, by simpa using hr2, _, _, by rw [List.length_append]; rfl⟩, ?_, hB.trans ((hb4'.mono hB.size).trans hb2)⟩⟩
          · exact keepsTail hb4' hr4 hgrow5 (boxed_below hS hb4' hS.lt) (boxed_below hN hb4' hN.lt) (by decide) (by decide) (by omega) (by omega)
          · exact ⟨boxTail hb4' hr4 hgrow5 (boxed_below hS hb4' hS.lt) (by decide) (by omega), boxTail hb4' hr4 hgrow5 (boxed_below hN hb4' hN.lt) (by decide) (by omega)⟩
        · go_simp
          refine hK _ _ ?_
          clear hK K
          refine wpAnyIn_ready (rs := [0]) (by kernel_rfl) (by simp) ?_
          refine AllReadyIn.cons rfl (fun K hK => ?_) AllReadyIn.nil
          go_simp
          refine hK _ _ ?_
          clear hK K
          refine wpAnyIn_ready (rs := [4]) (by kernel_rfl) (by simp) ?_
          refine AllReadyIn.cons rfl (fun K hK => ?_) AllReadyIn.nil
          refine stepIn_append_own _ rfl _ _ 174 rfl w.heap.size 22 i0 (.int .u64 0) 1 8 Tryz.underlying174 hi hz0 hz1 hz2 rfl (by decide) v pre.length _ rfl (hr4.alloc _) ⟨w4.heap.size, 0, none⟩ 1 1 [.int .u64 (WM.wordAt xs y.1 : Nat)] rfl rfl (cell_one_new _ _ _) (by simp [Value.oneCell']) (by unfold maxLen; omega) (by omega) (by have := hB.size; simp; omega) ?_
          intro v' w5 hown5 hgrow5 _
          refine hK _ _ ?_
          clear hK K
          obtain ⟨g', cap', rfl⟩ := ownsRow_succ hown5
          obtain ⟨hv1, hv2, hr2, hk2, hb2⟩ := hv4.appended (by decide) hr4 (Nat.le_trans hB.size zz4) z2 hown5 hgrow5
          have hc1 := hv1.cell
          have hf1 := hv1.frozen
          refine wpAnyIn_ready (rs := [5]) (by kernel_rfl) (by simp) ?_
          refine AllReadyIn.cons rfl (fun K hK => ?_) AllReadyIn.nil
          go_simp
          refine hK _ _ ?_
          clear hK K
          refine wpAnyIn_done (by kernel_rfl) ?_ _
          refine ⟨((keepsOthers_of_below hb4').trans hk2).from _, ?_, ⟨⟨_, hv2, by simpa using hr2, _, _, by rw [List.length_append]; rfl⟩, ?_, hB.trans ((hb4'.mono hB.size).trans hb2)⟩⟩
          · exact keepsTail hb4' hr4 hgrow5 (boxed_below hS hb4' hS.lt) (boxed_below hN hb4' hN.lt) (by decide) (by decide) (by omega) (by omega)
          · exact ⟨boxTail hb4' hr4 hgrow5 (boxed_below hS hb4' hS.lt) (by decide) (by omega), boxTail hb4' hr4 hgrow5 (boxed_below hN hb4' hN.lt) (by decide) (by omega)⟩
  case done =>
    rintro D ys W hD rfl ⟨⟨v, hv, hrow, hform⟩, -, hB⟩ hK
    have hc := hv.cell
    have HF := Lib.hid hform; clear hform
    gi_wp2
    refine ⟨by simp, .inl ⟨_, _, rfl, run_takeDeferred hK, ?_⟩⟩
    rw [WM.wordsOf_length]
    rw [List.length_finRange, finRange_map _ (fun y => Value.int .u64 (WM.wordAt xs y : Nat))] at hrow
    refine ⟨_, results_tmp2 rfl _ _ _, v, rfl, (by have := HF.out; rwa [List.length_finRange] at this), ?_, hB.trans (belowK_b (w := w) (Nat.le_refl _) W D _ _ (by omega) hK rfl rfl)⟩
    unfold WM.wordsOf
    rw [List.map_map]
    exact ownsRow_putObj hrow _ hK rfl
  case stop =>
    rintro D c pre W _ _ h _
    exact h.elim
theorem words_any (v : Value) (xs : List Nat) (hl : xs.length ≤ 4096) (hx : WM.Bytes256 xs) (w : World) (hs : Sl w .u8 v xs) (hcap : ∀ a n c, v = .slice a n c → c ≤ 140737488351232) :
    Calls Tryz.prog 145 #[v] w fun e w' => ∃ r, e = .returned (.tuple #[r, .int .i64 0]) ∧ (∃ g c, r = .slice (some ⟨g, 0, none⟩) (WM.wordsOf xs).length c) ∧ w'.ownsRow w.heap.size 22 1 r (WM.wordsOf xs).length ((WM.wordsOf xs).map (fun y : Nat => Value.int .u64 (y : Nat))) ∧ Below w.heap.size w w' :=
  words_anyM v xs hl hx w hs fun a n c e => Nat.le_trans (hcap a n c e) (by decide)
end Go.Proofs.YtaebipopmefkpaaGreatDoor

/-
  Contracts of waterlineref01.Same, and of what owns a row as a slice of numbers.
-/
namespace Go.Proofs.YtaebipopmefkpaaGreatDoor
open Go.RowKit Go.Shelf

theorem sl_of_owns {W : World} {base : Nat} {e : TypeId} {v : Value} {xs : List Nat} {k : IntKind} (h : W.ownsRow base e 1 v xs.length (xs.map fun y : Nat => Value.int k (y : Nat))) : Sl W k v xs := by
  rcases h.2 with ⟨rfl, h0⟩ | ⟨g, cap, cur, rfl, hb, hg, hc, _⟩
  · exact ⟨none, 0, by rw [h0], by omega, fun h1 => by omega⟩
  · refine ⟨some ⟨g, 0, none⟩, cap, rfl, hc, fun _ => ⟨g, 0, rfl, (Array.getElem?_eq_some_iff.1 hg).1, fun j hj => ?_⟩⟩
    rw [Nat.zero_add, World.ownsRow.cellAt h j (by omega), List.getElem?_map, List.getElem?_eq_getElem hj]
    rfl
theorem Sl.cell {W : World} {k : IntKind} {v : Value} {xs : List Nat} (h : Sl W k v xs) : ∃ (a : Option Addr) (cap b off : Nat), v = .slice a xs.length cap ∧ xs.length ≤ cap ∧ (0 < xs.length → a = some ⟨b, off, none⟩) ∧ (0 < xs.length → b < W.heap.size ∧ ∀ j, j < xs.length → W.cell? ⟨b, off + j, none⟩ = some (.int k ((xs[j]?.getD 0 : Nat) : Int))) := by
  obtain ⟨a, cap, hv, hl, hc⟩ := h
  rcases Nat.eq_zero_or_pos xs.length with h0 | h0
  · exact ⟨a, cap, 0, 0, hv, hl, fun h => by omega, fun h => by omega⟩
  · obtain ⟨b, off, h1, h2, h3⟩ := hc h0
    exact ⟨a, cap, b, off, hv, hl, fun _ => h1, fun _ => ⟨h2, h3⟩⟩
theorem ne_of_at (xs ys : List Nat) (k : Nat) (h : xs[k]?.getD 0 ≠ ys[k]?.getD 0) : decide (xs = ys) = false := decide_eq_false fun e => h (by rw [e])
theorem eq_of_at (xs ys : List Nat) (hl : xs.length = ys.length) (h : ∀ j, j < xs.length → xs[j]?.getD 0 = ys[j]?.getD 0) : decide (xs = ys) = true := decide_eq_true (WM.list_ext xs ys hl h)
end Go.Proofs.YtaebipopmefkpaaGreatDoor

/-
  A scope with one label, to which the run jumps forward.
-/
namespace Go.Proofs.YtaebipopmefkpaaGreatDoor
open Go.RowKit

section
variable {P : Program} {a : Act} {w : World} {Q : Exit → Act → World → Prop}
theorem Exit.jump_normal {l : Nat} {J : Act → World → Prop} : Exit.jump l J Q .normal a w = Q .normal a w := rfl
theorem Exit.jump_ret {l : Nat} {J : Act → World → Prop} : Exit.jump l J Q .ret a w = Q .ret a w := rfl
/-- A scope with one label, to which the run jumps forward. -/
theorem wp_scope_forward {c rest : Code} (l : Nat) (hf : findLabel c l = some rest)
    (first : c.wp P (Exit.jump l (fun a w => rest.wp P (Exit.jump l (fun _ _ => False) Q) a w) Q) a w) : (Code.scope c).wp P Q a w :=
  wp_scope_jumps l (fun a w => rest.wp P (Exit.jump l (fun _ _ => False) Q) a w) (fun _ _ => 0) hf first
    fun a w h => wp_mono h fun e a' w' h' => by
      cases e <;> first | exact h' | exact h'.2.elim
end
end Go.Proofs.YtaebipopmefkpaaGreatDoor

/-
  A range over a function whose rounds may panic.
-/
namespace Go.Proofs.YtaebipopmefkpaaGreatDoor
open Go.RowKit Go.Shelf

/-- A scope with one label, to which the run jumps forward, inside a fence. -/
theorem wpIn_scope_forward {F : Fence} {n : Nat} {P : Program} {Q : Exit → Act → World → Prop} {a : Act} {w : World} {c rest : Code} (l : Nat) (hf : findLabel c l = some rest)
    (first : c.wpIn F n P (Exit.jump l (fun a w => rest.wpIn F n P (Exit.jump l (fun _ _ => False) Q) a w) Q) a w) : (Code.scope c).wpIn F n P Q a w := by
  intro b k cs hro hb hr
  have hg : gotoIn l (.inScope c :: k) = some (.code rest :: .inScope c :: k) := by simp [gotoIn, hf]
  have s0 : StepsIn (Machine.fenced P F) P (lone (b.atR a (.code (.scope c) :: k)) cs w) (lone (b.atR a (.code c :: .inScope c :: k)) cs w) := .one (fenced_calm hb hr rfl) (step_lone_go (by simp [stepG, stepG.exec, Frame.atR]))
  have s1 : ∀ a w, StepsIn (Machine.fenced P F) P (lone (b.atR a (.inScope c :: k)) cs w) (lone (b.atR a k) cs w) := fun a w => .one (fenced_calm hb hr rfl) (step_lone_go (by simp [stepG, stepG.exec, Frame.atR]))
  obtain ⟨e, a₁, w₁, hq, harr⟩ := first b (.inScope c :: k) cs hro hb hr
  cases e with
  | normal => exact ⟨.normal, a₁, w₁, hq, .of_steps s0 (StepsIn.trans harr (s1 _ _))⟩
  | exit id => exact ⟨.exit id, a₁, w₁, hq, .of_steps s0 ⟨fun k' hk => harr.1 k' (by simp [exitTo, hk]), fun hr hk => harr.2 hr (by simp [exitTo, hk])⟩⟩
  | goto l' =>
    obtain ⟨rfl, hJ⟩ := hq
    have s2 := StepsIn.trans s0 (harr.1 _ hg)
    obtain ⟨e₂, a₂, w₂, hq₂, harr₂⟩ := hJ b (.inScope c :: k) cs hro hb hr
    cases e₂ with
    | normal => exact ⟨.normal, a₂, w₂, hq₂, .of_steps s2 (StepsIn.trans harr₂ (s1 _ _))⟩
    | exit id => exact ⟨.exit id, a₂, w₂, hq₂, .of_steps s2 ⟨fun k' hk => harr₂.1 k' (by simp [exitTo, hk]), fun hr hk => harr₂.2 hr (by simp [exitTo, hk])⟩⟩
    | goto l₂ => exact hq₂.2.elim
    | ret => exact ⟨_, a₂, w₂, hq₂, .of_steps s2 harr₂⟩
    | panic ch => exact ⟨_, a₂, w₂, hq₂, .of_steps s2 harr₂⟩
    | outgrown => exact ⟨_, a₂, w₂, hq₂, .of_steps s2 harr₂⟩
  | ret => exact ⟨_, a₁, w₁, hq, .of_steps s0 harr⟩
  | panic ch => exact ⟨_, a₁, w₁, hq, .of_steps s0 harr⟩
  | outgrown => exact ⟨_, a₁, w₁, hq, .of_steps s0 harr⟩
/-- What is asked at a round's end, a panic among the ways. -/
def roundPostP (P : Program) (l : Nat) (R : Ending → World → Prop) : Exit → Act → World → Prop
  | .panic ch, a, w => a.defers = [] ∧ R (.panicked ch) w
  | e, a, w => roundPost P l R e a w
theorem roundIn_of_wpIn_p {F : Fence} {n : Nat} {P : Program} {l : Nat} {f : FuncId} {fn : Func} (hfn : P.funcs[f]? = some fn) {tmps : Array Value} {assign body : Code} {w : World} {R : Ending → World → Prop} (hF : F.fn f)
    (h : assign.wpIn (F.inRound l) n P (Exit.then (fun a₁ w₁ => ∃ w₂, (Instr.beginRound l).run P w₁ = .ok () w₂ ∧ body.wpIn (F.inRound l) n P (roundPostP P l R) a₁ w₂) (fun _ _ _ => False))
      { tmps := tmps, defers := [] } w) :
    RoundIn F n P l f tmps assign body w R := by
  refine ⟨hF, fun c cs hr => ?_⟩
  let b : Frame := { (default : Frame) with fn := f, kind := .normal, roundOf := some l }
  have hb0 : Frame.round l f tmps assign body .normal = b.atR { tmps := tmps, defers := [] } [.code assign, .beginRound, .code body] := by
    simp [Frame.round, Frame.atR, b]
  have hr' : (F.inRound l).room ((c :: cs).length + 1 + n) := hr
  have hF' : (F.inRound l).fn b.fn := hF
  obtain ⟨e, a₁, w₁, hq, harr⟩ := h b [.beginRound, .code body] (c :: cs) rfl hF' hr'
  rw [← hb0] at harr
  cases e with
  | normal =>
    obtain ⟨w₂, hbr, hbody⟩ := hq
    have s1 : StepsIn (Machine.fenced P (F.inRound l)) P (lone (b.atR a₁ [.beginRound, .code body]) (c :: cs) w₁) (lone (b.atR a₁ [.code body]) (c :: cs) w₂) :=
      .one (fenced_calm (fr := b.atR a₁ [.beginRound, .code body]) hF' hr' rfl) (stepR_beginRound rfl hbr)
    obtain ⟨e₂, a₂, w₃, hq₂, harr₂⟩ := hbody b [] (c :: cs) rfl hF' hr'
    cases e₂ with
    | normal =>
      obtain ⟨v, w₄, hend, hR⟩ := hq₂
      exact ⟨.returned v, w₄, hR, (StepsIn.trans harr s1).trans (StepsIn.trans harr₂ (.one (fenced_calm (fr := b.atR a₂ []) hF' hr' rfl) (stepR_round_end rfl rfl hend)))⟩
    | ret =>
      obtain ⟨v, w₄, hend, hR⟩ := hq₂
      obtain ⟨k₁, hs⟩ := harr₂.2 rfl
      exact ⟨.returned v, w₄, hR, (StepsIn.trans harr s1).trans (StepsIn.trans hs (.one (fenced_calm (fr := b.atR a₂ (.code .ret :: k₁)) hF' hr' rfl) (stepR_round_ret rfl rfl hend)))⟩
    | exit id =>
      obtain ⟨v, w₄, hend, hR⟩ := hq₂
      obtain ⟨k₁, hk, hs⟩ := harr₂.2 rfl rfl
      exact ⟨.returned v, w₄, hR, (StepsIn.trans harr s1).trans (StepsIn.trans hs (.one (fenced_calm (fr := b.atR a₂ (.code (.exit id) :: k₁)) hF' hr' rfl) (stepR_round_exit rfl rfl hk hend)))⟩
    | goto t =>
      obtain ⟨v, w₄, hend, hR⟩ := hq₂
      obtain ⟨k₁, hk, hs⟩ := harr₂.2 rfl rfl
      exact ⟨.returned v, w₄, hR, (StepsIn.trans harr s1).trans (StepsIn.trans hs (.one (fenced_calm (fr := b.atR a₂ (.code (.goto t) :: k₁)) hF' hr' rfl) (stepR_round_goto rfl rfl hk hend)))⟩
    | panic ch =>
      obtain ⟨hd, hR⟩ := hq₂
      obtain ⟨todo, hs⟩ := harr₂
      have hlv : ({ b.atR a₂ todo with mode := .panicking ch } : Frame).leaving P w₃ (.panicked ch) := ⟨rfl, hd, fn, hfn⟩
      exact ⟨.panicked ch, w₃, hR, (StepsIn.trans harr s1).trans (StepsIn.trans hs (.one (fenced_leaving (n := n) hF' hr' hlv) (step_leave_panicked hlv)))⟩
    | outgrown => exact hq₂.elim
  | exit id => exact hq.elim
  | goto t => exact hq.elim
  | ret => exact hq.elim
  | panic chain => exact hq.elim
  | outgrown => exact hq.elim
/-- A code's walk in a frame of the function f. -/
def wpAt (f : FuncId) (n : Nat) (P : Program) (c : Code) (Q : Exit → Act → World → Prop) (a : Act) (w : World) : Prop :=
  ∀ (b : Frame) (k : List Item) (cs : List Frame), b.roundOf = none → b.fn = f → Fence.wide.room (cs.length + 1 + n) →
    ∃ e a' w', Q e a' w' ∧ ArrivesIn (Machine.fenced P Fence.wide) P (lone (b.atR a (.code c :: k)) cs w) b k cs e a' w'
section
variable {f : FuncId} {n : Nat} {P : Program} {Q : Exit → Act → World → Prop} {a : Act} {w : World}
theorem wpAt_of_wpIn {c : Code} (h : c.wpIn Fence.wide n P Q a w) : wpAt f n P c Q a w := fun b k cs hro _ hr => h b k cs hro trivial hr
theorem wpAt_seq {x y : Code} (h : wpAt f n P x (Exit.then (wpAt f n P y Q) Q) a w) : wpAt f n P (Code.seq x y) Q a w := by
  intro b k cs hro hf hr
  have h0 : (lone (b.atR a (.code (.seq x y) :: k)) cs w).fenced P Fence.wide := fenced_calm trivial hr rfl
  obtain ⟨e, a₁, w₁, hq, harr⟩ := h b (.code y :: k) cs hro hf hr
  cases e with
  | normal =>
    obtain ⟨e₂, a₂, w₂, hq₂, harr₂⟩ := hq b k cs hro hf hr
    exact ⟨e₂, a₂, w₂, hq₂, .of_steps (.head h0 stepR_seq harr) harr₂⟩
  | exit id => exact ⟨_, a₁, w₁, hq, .of_steps (.one h0 stepR_seq) (.pass (x := .code y) rfl (fun _ _ => .inl (by simp)) harr)⟩
  | goto l => exact ⟨_, a₁, w₁, hq, .of_steps (.one h0 stepR_seq) (.pass (x := .code y) rfl (fun _ _ => .inl (by simp)) harr)⟩
  | ret => exact ⟨_, a₁, w₁, hq, .of_steps (.one h0 stepR_seq) (.pass (x := .code y) rfl (fun _ _ => .inl (by simp)) harr)⟩
  | panic ch => exact ⟨_, a₁, w₁, hq, .of_steps (.one h0 stepR_seq) (.pass (x := .code y) rfl (fun _ _ => .inl (by simp)) harr)⟩
  | outgrown => exact ⟨_, a₁, w₁, hq, .of_steps (.one h0 stepR_seq) (.pass (x := .code y) rfl (fun _ _ => .inl (by simp)) harr)⟩
theorem wpAt_block {id : Nat} {c : Code} (h : wpAt f n P c (Exit.inBlock id Q) a w) : wpAt f n P (Code.block id c) Q a w := by
  intro b k cs hro hf hr
  have h0 : (lone (b.atR a (.code (.block id c) :: k)) cs w).fenced P Fence.wide := fenced_wide P _
  obtain ⟨e, a₁, w₁, hq, harr⟩ := h b (.inBlock id :: k) cs hro hf hr
  cases e with
  | normal => exact ⟨.normal, a₁, w₁, hq, .head h0 stepR_block (StepsIn.trans harr (.one (fenced_wide P _) stepR_inBlock))⟩
  | exit id' =>
    by_cases hid : id' = id
    · simp only [Exit.inBlock, hid, if_true] at hq
      exact ⟨.normal, a₁, w₁, hq, .head h0 stepR_block (harr.1 k (by simp [exitTo, hid]))⟩
    · simp only [Exit.inBlock, hid, if_false] at hq
      have this : (id == id') = false := by simp; exact fun h => hid h.symm
      have hx : exitTo id' (.inBlock id :: k) = exitTo id' k := by simp [exitTo, this]
      exact ⟨.exit id', a₁, w₁, hq, fun k' hk => .head h0 stepR_block (harr.1 k' (by rw [hx]; exact hk)),
        fun hr' hk => let ⟨k₁, h1, h2⟩ := harr.2 hr' (by rw [hx]; exact hk); ⟨k₁, h1, .head h0 stepR_block h2⟩⟩
  | goto l =>
    have hx : gotoIn l (.inBlock id :: k) = gotoIn l k := by simp [gotoIn]
    exact ⟨_, a₁, w₁, hq, fun k' hk => .head h0 stepR_block (harr.1 k' (by rw [hx]; exact hk)),
      fun hr' hk => let ⟨k₁, h1, h2⟩ := harr.2 hr' (by rw [hx]; exact hk); ⟨k₁, h1, .head h0 stepR_block h2⟩⟩
  | ret => exact ⟨_, a₁, w₁, hq, .of_steps (.one h0 stepR_block) harr⟩
  | panic ch => exact ⟨_, a₁, w₁, hq, .of_steps (.one h0 stepR_block) harr⟩
  | outgrown => exact ⟨_, a₁, w₁, hq, .of_steps (.one h0 stepR_block) harr⟩
theorem wpAt_rangeFunc {g : Operand} {ps : Array Tmp} {assign body : Code}
    (h : ∃ (l : Nat) (mark : List Deferred) (w₁ : World) (d : Deferred) (w₁' : World) (f' : FuncId) (args : Array Value) (w₂ : World),
      (Instr.enterLoop f a.tmps ps assign body none).run P w = .ok (l, mark) w₁ ∧
      (resolve a.eval (rangeCall g l) 0).run P w₁ = .ok d w₁' ∧
      (invoke d.target d.args).run P w₁' = .ok (.enter f' args) w₂ ∧
      CallsIn Fence.wide (n - 1) P f' args w₂ (rangePost Fence.wide n P l Q { a with defers := mark ++ a.defers })) :
    wpAt f n P (Code.rangeFunc g ps assign body) Q a w := by
  intro b k cs hro hb hr
  obtain ⟨l, mark, w₁, d, w₁', f', args, w₂, he, hres, hinv, hF, hcall⟩ := h
  rw [← hro, ← hb] at he
  have h0 : (lone (b.atR a (.code (.rangeFunc g ps assign body) :: k)) cs w).fenced P Fence.wide := fenced_wide P _
  have henter := stepR_rangeFunc (P := P) (b := b) (a := a) (k := k) (cs := cs) (w := w) he hres hinv
  have hroom : Fence.wide.room ((b.atR { a with defers := mark ++ a.defers } (.inRangeFunc l :: k) :: cs).length + 1 + (n - 1)) := room_wide _
  obtain ⟨e, w₃, fr, hR, hsteps, hfn, hleave⟩ := hcall (b.atR { a with defers := mark ++ a.defers } (.inRangeFunc l :: k) :: cs) hroom
  cases e with
  | outgrown =>
    obtain ⟨a₀, w₀, hq⟩ := hR
    exact ⟨.outgrown, a₀, w₀, hq, .inr (Outgrown.of_steps (.one henter) hsteps)⟩
  | returned v =>
    have hl : (lone fr (b.atR { a with defers := mark ++ a.defers } (.inRangeFunc l :: k) :: cs) w₃).fenced P Fence.wide := fenced_wide P _
    obtain ⟨jump, w₄, hend, hj⟩ := hR
    have sback : StepsIn (Machine.fenced P Fence.wide) P (lone (b.atR a (.code (.rangeFunc g ps assign body) :: k)) cs w) (lone (b.atR { a with defers := mark ++ a.defers } ((jump.map Item.code).toList ++ k)) cs w₄) := by
      refine .head h0 henter (StepsIn.trans hsteps (.head hl ?_ (.one (fenced_wide P _) (stepR_endRangeFunc hend))))
      rw [← finish_atR_inRangeFunc l v]; exact step_leave_returned hleave
    cases jump with
    | none => exact ⟨.normal, _, w₄, hj, sback⟩
    | some c =>
      obtain ⟨e', a'', w₅, hq, harr⟩ := hj b k cs hro trivial hr
      exact ⟨e', a'', w₅, hq, .of_steps sback harr⟩
  | panicked chain =>
    have hl : (lone fr (b.atR { a with defers := mark ++ a.defers } (.inRangeFunc l :: k) :: cs) w₃).fenced P Fence.wide := fenced_wide P _
    refine ⟨.panic chain, _, w₃, hR, .inRangeFunc l :: k, .head h0 henter (StepsIn.trans hsteps (.one hl ?_))⟩
    rw [← Frame.raise_atR]; exact step_leave_panicked hleave
theorem callsIn_of_wpAt {fn : Func} {c : Code} {args : Array Value} {R : Ending → World → Prop}
    (hf : P.funcs[f]? = some fn) (hb : fn.body = some c)
    (h : wpAt f n P c (bodyPostM Fence.wide n P fn R) { tmps := args ++ Array.replicate (fn.ntmps - args.size) undef, defers := [] } w) : CallsIn Fence.wide n P f args w R := by
  refine ⟨trivial, fun cs hr => ?_⟩
  let b : Frame := { (default : Frame) with fn := f, kind := .normal, roundOf := none }
  have henter : Frame.enter P f args .normal =
      b.atR { tmps := args ++ Array.replicate (fn.ntmps - args.size) undef, defers := [] } [.code c] := by
    simp [Frame.enter, Frame.atR, hf, hb, b]
  obtain ⟨e, a', w', hq, harr⟩ := h b [] cs rfl rfl hr
  rw [← henter] at harr
  cases e with
  | normal =>
    obtain ⟨e', w'', fr', hR, hs, hfn, hl⟩ := leaves_stepsInM a'.defers .returning w' { b.atR a' [] with mode := .returning } cs rfl rfl rfl hf rfl trivial hr hq
    exact ⟨e', w'', fr', hR, ComesIn.of_steps (StepsIn.trans harr (.one (fenced_wide P _) (stepR_end rfl))) hs, hfn, hl⟩
  | ret =>
    obtain ⟨todo, hs₀⟩ := harr.1 rfl
    obtain ⟨e', w'', fr', hR, hs, hfn, hl⟩ := leaves_stepsInM a'.defers .returning w' { b.atR a' todo with mode := .returning } cs rfl rfl rfl hf rfl trivial hr hq
    exact ⟨e', w'', fr', hR, ComesIn.of_steps hs₀ hs, hfn, hl⟩
  | panic chain =>
    obtain ⟨todo, hs₀⟩ := harr
    obtain ⟨e', w'', fr', hR, hs, hfn, hl⟩ := leaves_stepsInM a'.defers (.panicking chain) w' { b.atR a' todo with mode := .panicking chain } cs rfl rfl rfl hf rfl trivial hr hq
    exact ⟨e', w'', fr', hR, ComesIn.of_steps hs₀ hs, hfn, hl⟩
  | exit id => exact hq.elim
  | goto l => exact hq.elim
  | outgrown => exact ⟨.outgrown, w', b, hq, harr.resolve_left (by simp [b]), rfl, trivial⟩
end
/-- A mark is taken on the way out, whichever way. -/
theorem leaves_mark {F : Fence} {n : Nat} {P : Program} {fn : Func} {tmps : Array Value} {R : Ending → World → Prop} {D : Nat} {ds : List Deferred} {u : FrameMode} {W : World} (hu : u ≠ .run) (hK : W.heap[D]? = some (.deferred (some [])))
    (h : ∀ W', Turn (fun k => k = D) W W' → LeavesInM F n P fn tmps R ds u W') : LeavesInM F n P fn tmps R ({ target := .collected D, args := #[] } :: ds) u W :=
  ⟨hu, .inl ⟨_, _, rfl, run_takeDeferred hK, h _ (Turn.putObj _ rfl (Array.getElem?_eq_some_iff.1 hK).1)⟩⟩
/-- A deferred closure is called. -/
theorem leaves_closure {n : Nat} {P : Program} {fn : Func} {tmps : Array Value} {R : Ending → World → Prop} {g : FuncId} {cap : Array Value} {ds : List Deferred} {u : FrameMode} {W : World} (hu : u ≠ .run) (hg : Enters P g)
    (h : CallsDIn Fence.wide (n - 1) P g cap u W fun
          | .returned _, u', w' => LeavesInM Fence.wide n P fn tmps R ds (settle u') w'
          | .panicked chain, u', w' => LeavesInM Fence.wide n P fn tmps R ds (raised u' chain) w'
          | .outgrown, _, w' => R .outgrown w') : LeavesInM Fence.wide n P fn tmps R ({ target := .fn (.func g) cap, args := #[] } :: ds) u W :=
  ⟨hu, .inr ⟨fun h => by simp [Fence.wide] at h, _, _, g, cap, rfl, by simp [invoke, hg _ _], fun _ _ => trivial, h⟩⟩
/-- What an iterator promises, whose rounds may panic: all of the elements come, or those up to the one at which it was told to stop, or in whose round there was a panic. q: the blocks of its own. -/
def SeqE {α : Type} (p : Nat → Prop) (n : Nat) (P : Program) (g : Nat) (lb : Array Value) (encs : α → Array Value) (S Sp : List α → Prop) (w : World) : Prop :=
  ∀ (l : Nat) (J Jx : List α → (Nat → Prop) → World → Prop) (Jp : List PanicEntry → List α → (Nat → Prop) → World → Prop) (W : World), Below w.heap.size w W → Abides J → Abides Jx → (∀ ch, Abides (Jp ch)) →
    (∀ pre x q W1, J pre q W1 → W.heap.size ≤ W1.heap.size → (∀ k, q k → W.heap.size ≤ k ∧ k < W1.heap.size) → Sp (pre ++ [x]) → YieldAt Fence.wide (n - 1) P l (encs x) W1 fun e W' =>
      (Keeps (fun k => p k ∨ q k) W1 W' ∧ ((e = .returned (.bool true) ∧ J (pre ++ [x]) q W') ∨ (e = .returned (.bool false) ∧ Jx (pre ++ [x]) q W'))) ∨ ∃ ch, e = .panicked ch ∧ Jp ch (pre ++ [x]) q W') →
    J [] (fun _ => False) W →
    CallsIn Fence.wide n P g (#[.func (.yield l) #[] #[]] ++ lb) W fun e W' => ((∃ v, e = .returned v) ∧ ((∃ xs, S xs ∧ J xs (fun _ => False) W') ∨ (∃ pre, Sp pre ∧ Jx pre (fun _ => False) W'))) ∨ ∃ ch pre, e = .panicked ch ∧ Sp pre ∧ Jp ch pre (fun _ => False) W'
theorem SeqE.seqF {α : Type} {p : Nat → Prop} {n : Nat} {P : Program} {g : Nat} {lb : Array Value} {encs : α → Array Value} {S Sp : List α → Prop} {w : World} (h : SeqE p n P g lb encs S Sp w) : SeqF p n P g lb encs S Sp w :=
  fun l J Jx W hW hJ hJx hY h0 => (h l J Jx (fun _ _ _ _ => False) W hW hJ hJx (fun _ _ _ _ _ _ hf => hf.elim) (fun pre x q W1 h1 h2 h3 h4 => YieldAt.mono (hY pre x q W1 h1 h2 h3 h4) fun _ _ h => .inl h) h0).mono fun _ _ h => h.elim id fun ⟨_, _, _, _, hf⟩ => hf.elim
/-- How a round may end. -/
def postE {α : Type} (p q : Nat → Prop) (I : List α → (Nat → Prop) → World → Prop) (Ix : Code → List α → (Nat → Prop) → World → Prop) (Ip : List PanicEntry → List α → (Nat → Prop) → World → Prop) (xs : List α) (W : World) : Exit → Act → World → Prop
  | .normal, _, W' => Keeps (fun k => p k ∨ q k) W W' ∧ I xs q W'
  | .ret, _, W' => Keeps (fun k => p k ∨ q k) W W' ∧ Ix .ret xs q W'
  | .exit id, _, W' => Keeps (fun k => p k ∨ q k) W W' ∧ Ix (.exit id) xs q W'
  | .panic ch, a, W' => a.defers = [] ∧ Ip ch xs q W' ∧ Keeps (fun k => p k ∨ q k) W W'
  | _, _, _ => False
/-- A range over an iterator that has blocks of its own; the assignment may lay a block in each round. -/
theorem wpAt_range_E {α : Type} {fn : FuncId} {fd : Func} {n : Nat} {P : Program} {g : Operand} {ps : Array Tmp} {assign body : Code} {Q : Exit → Act → World → Prop} {a : Act} {w : World}
    (hfd : P.funcs[fn]? = some fd) {gf : Nat} {lb : Array Value} (hg : a.eval g = .func (.func gf) #[] lb) (eg : ∀ args w, (callFunc gf args).run P w = .ok (.enter gf args) w)
    {encs : α → Array Value} {p : Nat → Prop} {S Sp : List α → Prop} {w0 : World} (hseq : SeqE p (n - 1) P gf lb encs S Sp w0) (hp : ∀ k, p k → k < w.heap.size) (hb0 : Below w0.heap.size w0 w) (hps : ∀ x, (encs x).size = ps.size)
    (I : List α → (Nat → Prop) → World → Prop) (Ix : Code → List α → (Nat → Prop) → World → Prop) (Ip : List PanicEntry → List α → (Nat → Prop) → World → Prop) (hI : Abides I) (hIx : ∀ c, Abides (Ix c)) (hIp : ∀ ch, Abides (Ip ch)) (h0 : I [] (fun _ => False) w) (Ax : α → Act → World → Prop)
    (hAx : ∀ (x : α) (a' : Act) (W : World) (o : Obj), Ax x a' W → Ax x a' (W.putObj (w.heap.size + 1) o))
    (hassign : ∀ (l : Nat) (x : α) (W : World) (K : Act → World → Prop), w.heap.size + 2 ≤ W.heap.size → (∀ a' W', Ax x a' W' → Below W.heap.size W W' → K a' W') →
      assign.wpIn (Fence.wide.inRound l) (n - 1 - 1) P (Exit.then K (fun _ _ _ => False)) { tmps := (ps.zip (encs x)).foldl (fun t (p, v) => t.setIfInBounds p v) a.tmps, defers := [] } W)
    (hbody : ∀ (l : Nat) (pre : List α) (x : α) (a' : Act) (q : Nat → Prop) (W : World), I pre q W → w.heap.size + 2 ≤ W.heap.size → (∀ k, q k → w.heap.size ≤ k ∧ k < W.heap.size) → Sp (pre ++ [x]) → Ax x a' W → body.wpIn (Fence.wide.inRound l) (n - 1 - 1) P (postE p q I Ix Ip (pre ++ [x]) W) a' W)
    (hdone : ∀ (D : Nat) (xs : List α) (W : World), w.heap.size ≤ D → S xs → I xs (fun k => k = D) W → W.heap[D]? = some (.deferred (some [])) → Q .normal { a with defers := { target := .collected D, args := #[] } :: a.defers } W)
    (hstop : ∀ (D : Nat) (c : Code) (pre : List α) (W : World), w.heap.size ≤ D → Sp pre → Ix c pre (fun k => k = D) W → W.heap[D]? = some (.deferred (some [])) → c.wpIn Fence.wide n P Q { a with defers := { target := .collected D, args := #[] } :: a.defers } W)
    (hpanic : ∀ (D : Nat) (ch : List PanicEntry) (pre : List α) (W : World), w.heap.size ≤ D → Sp pre → Ip ch pre (fun k => k = D) W → W.heap[D]? = some (.deferred (some [])) → Q (.panic ch) { a with defers := { target := .collected D, args := #[] } :: a.defers } W) :
    wpAt fn n P (Code.rangeFunc g ps assign body) Q a w := by
  refine wpAt_rangeFunc ?_
  obtain ⟨rec, hrec⟩ : ∃ rec : LoopState → Option Code → Loop, rec = fun st pe => { state := st, pending := pe, fn, tmps := a.tmps, params := ps, assign, body, defers := w.heap.size } := ⟨_, rfl⟩
  have hst : ∀ st pe, (rec st pe).state = st := fun st pe => by rw [hrec]
  have hpen : ∀ st pe, (rec st pe).pending = pe := fun st pe => by rw [hrec]
  have hbusy : ∀ st pe, { rec st pe with state := .busy } = rec .busy pe := fun st pe => by rw [hrec]
  obtain ⟨W1, hW1⟩ : ∃ W1, (w.alloc (.deferred (some []))).alloc (.loop (rec .ready none)) = W1 := ⟨_, rfl⟩
  have hsz : W1.heap.size = w.heap.size + 2 := by rw [← hW1]; simp
  have hL1 : W1.heap[w.heap.size + 1]? = some (.loop (rec .ready none)) := by
    rw [← hW1]; have := World.alloc_heap_new (w.alloc (.deferred (some []))) (.loop (rec .ready none)); rwa [World.size_alloc] at this
  have hK1 : W1.heap[w.heap.size]? = some (.deferred (some [])) := by
    rw [← hW1]; exact (Below.heap_alloc _ _ _ (by simp)).trans (World.alloc_heap_new w _)
  have bW1 : Below w.heap.size w W1 := by rw [← hW1]; exact ((Below.refl _ _).alloc (Nat.le_refl _) _).alloc (by simp) _
  refine ⟨w.heap.size + 1, [{ target := .collected w.heap.size, args := #[] }], W1, { target := .fn (.func gf) lb, args := #[.func (.yield (w.heap.size + 1)) #[] #[]] }, W1, gf,
    #[.func (.yield (w.heap.size + 1)) #[] #[]] ++ lb, W1, ?_, ?_, ?_, ?_⟩
  · rw [← hW1, hrec]; exact run_enterLoop_outer _ _ _ _ _
  · simp only [resolve, hg]
    simp [go_sem]
  · simp [invoke, go_sem, eg]
  · refine (hseq (w.heap.size + 1)
      (fun pre q W => I pre (fun k => q k ∨ k = w.heap.size ∨ k = w.heap.size + 1) W ∧ W.heap[w.heap.size + 1]? = some (.loop (rec .ready none)) ∧ W.heap[w.heap.size]? = some (.deferred (some [])) ∧ ¬ q (w.heap.size + 1) ∧ ¬ q w.heap.size)
      (fun pre q W => ∃ c, Ix c pre (fun k => q k ∨ k = w.heap.size ∨ k = w.heap.size + 1) W ∧ W.heap[w.heap.size + 1]? = some (.loop (rec .done (some c))) ∧ W.heap[w.heap.size]? = some (.deferred (some [])) ∧ ¬ q (w.heap.size + 1) ∧ ¬ q w.heap.size)
      (fun ch pre q W => Ip ch pre (fun k => q k ∨ k = w.heap.size ∨ k = w.heap.size + 1) W ∧ W.heap[w.heap.size]? = some (.deferred (some [])) ∧ ¬ q w.heap.size)
      W1 (hb0.trans (bW1.mono hb0.size))
      (fun s q q' A C ⟨hi, hl, hk, hq1, hq2⟩ ht hq => by
        have l1 := (Array.getElem?_eq_some_iff.1 hl).1
        refine ⟨hI s _ _ A C hi (ht.mono fun k h => .inl h) (fun k h => ?_), (ht.block _ l1 hq1).trans hl, (ht.block _ (by omega) hq2).trans hk, fun h => ?_, fun h => ?_⟩
        · rcases h with h | h
          · exact (hq k h).imp .inl id
          · exact .inl (.inr h)
        · exact (hq _ h).elim hq1 fun h => by omega
        · exact (hq _ h).elim hq2 fun h => by omega)
      (fun s q q' A C ⟨c, hi, hl, hk, hq1, hq2⟩ ht hq => by
        have l1 := (Array.getElem?_eq_some_iff.1 hl).1
        refine ⟨c, hIx c s _ _ A C hi (ht.mono fun k h => .inl h) (fun k h => ?_), (ht.block _ l1 hq1).trans hl, (ht.block _ (by omega) hq2).trans hk, fun h => ?_, fun h => ?_⟩
        · rcases h with h | h
          · exact (hq k h).imp .inl id
          · exact .inl (.inr h)
        · exact (hq _ h).elim hq1 fun h => by omega
        · exact (hq _ h).elim hq2 fun h => by omega)
      (fun ch s q q' A C ⟨hi, hk, hq2⟩ ht hq => by
        have l1 := (Array.getElem?_eq_some_iff.1 hk).1
        refine ⟨hIp ch s _ _ A C hi (ht.mono fun k h => .inl h) (fun k h => ?_), (ht.block _ l1 hq2).trans hk, fun h => ?_⟩
        · rcases h with h | h
          · exact (hq k h).imp .inl id
          · exact .inl (.inr h)
        · exact (hq _ h).elim hq2 fun h => by omega)
      ?_ ⟨hI [] _ _ w W1 h0 (Turn.of_below bW1 (Nat.le_refl _)) (fun k h => .inr (by rcases h with h | h | h <;> first | exact h.elim | omega)), hL1, hK1, id, id⟩).mono ?_
    · rintro pre x q W ⟨hi, hl, hk, hq1, hq2⟩ - hqb hlen
      have hlt : w.heap.size + 1 < W.heap.size := (Array.getElem?_eq_some_iff.1 hl).1
      have hy := run_yield (P := P) (args := encs x) hl (by rw [hrec]; exact hps x)
      rw [hrec] at hy
      refine ⟨fn, _, assign, body, hy, roundIn_of_wpIn_p hfd trivial (hassign _ x W _ (by omega) fun a' Wa hax bA => ?_)⟩
      have la : Wa.heap[w.heap.size + 1]? = some (.loop (rec .ready none)) := (bA.block _ hlt).trans hl
      have da : Wa.heap[w.heap.size]? = some (.deferred (some [])) := (bA.block _ (by omega)).trans hk
      have hlta : w.heap.size + 1 < Wa.heap.size := Nat.lt_of_lt_of_le hlt bA.size
      have hbr := run_beginRound (P := P) la (hst _ _)
      rw [hbusy] at hbr
      obtain ⟨W2, hW2⟩ : ∃ W2, Wa.putObj (w.heap.size + 1) (.loop (rec .busy none)) = W2 := ⟨_, rfl⟩
      rw [hW2] at hbr
      refine ⟨_, hbr, ?_⟩
      have t2 : Turn (fun k => q k ∨ k = w.heap.size ∨ k = w.heap.size + 1) W W2 := by rw [← hW2]; exact (Turn.of_below bA (Nat.le_refl _)).trans (Turn.putObj _ (.inr (.inr rfl)) hlta)
      have k2 : Keeps (fun k => p k ∨ q k) W W2 := by
        rw [← hW2]
        exact Keeps.trans ⟨bA.size, fun k _ hl => bA.block k hl⟩ (keeps_putObj Wa _ _ (fun h => h.elim (fun h => by have := hp _ h; omega) hq1))
      have l2 : W2.heap[w.heap.size + 1]? = some (.loop (rec .busy none)) := by rw [← hW2]; exact World.putObj_heap_same hlta
      have d2 : W2.heap[w.heap.size]? = some (.deferred (some [])) := by rw [← hW2]; exact (World.putObj_heap_other (by omega)).trans da
      have hs2 : w.heap.size + 2 ≤ W2.heap.size := Nat.le_trans (by omega) t2.size
      have ax2 : Ax x a' W2 := by rw [← hW2]; exact hAx _ _ _ _ hax
      refine wpIn_mono (hbody _ pre x a' (fun k => q k ∨ k = w.heap.size ∨ k = w.heap.size + 1) W2 (hI pre _ _ W W2 hi t2 (fun k h => .inl h)) hs2 (fun k h => ?_) hlen ax2) ?_
      · have := t2.size
        rcases h with h | h | h
        · have := hqb k h; omega
        · omega
        · omega
      have fin : ∀ (jump : Option Code) (W3 : World), Keeps (fun k => p k ∨ (q k ∨ k = w.heap.size ∨ k = w.heap.size + 1)) W2 W3 → ∃ W4,
          (Instr.endRound (w.heap.size + 1) jump).run P W3 = .ok (.bool jump.isNone) W4 ∧ Turn (fun k => q k ∨ k = w.heap.size ∨ k = w.heap.size + 1) W3 W4 ∧ Keeps (fun k => p k ∨ q k) W W4 ∧
          W4.heap[w.heap.size + 1]? = some (.loop (rec (if jump.isNone then .ready else .done) jump)) ∧ W4.heap[w.heap.size]? = some (.deferred (some [])) := fun jump W3 k3 => by
        have l3 : W3.heap[w.heap.size + 1]? = some (.loop (rec .busy none)) := (k3.2 _ (.inr (.inr (.inr rfl))) (Array.getElem?_eq_some_iff.1 l2).1).trans l2
        have d3 : W3.heap[w.heap.size]? = some (.deferred (some [])) := (k3.2 _ (.inr (.inr (.inl rfl))) (Array.getElem?_eq_some_iff.1 d2).1).trans d2
        have hl3 := (Array.getElem?_eq_some_iff.1 l3).1
        have he := run_endRound (P := P) jump l3
        rw [hrec] at he
        refine ⟨W3.putObj (w.heap.size + 1) (.loop (rec (if jump.isNone then .ready else .done) jump)), ?_, Turn.putObj _ (.inr (.inr rfl)) hl3, ?_, World.putObj_heap_same hl3, (World.putObj_heap_other (by omega)).trans d3⟩
        · rw [hrec]; exact he
        · exact (k2.trans (k3.weaken fun k h => h.imp id .inl)).trans (keeps_putObj W3 _ _ (fun h => h.elim (fun h => by have := hp _ h; omega) hq1))
      rintro e a3 W3 hpost
      cases e with
      | normal =>
        obtain ⟨k3, hi3⟩ := hpost
        obtain ⟨W4, hr, b4, k4, l4, d4⟩ := fin none W3 k3
        exact ⟨_, _, hr, .inl ⟨k4, .inl ⟨rfl, ⟨hI _ _ _ _ _ hi3 b4 (fun k h => .inl h), l4, d4, hq1, hq2⟩⟩⟩⟩
      | ret =>
        obtain ⟨k3, hi3⟩ := hpost
        obtain ⟨W4, hr, b4, k4, l4, d4⟩ := fin (some .ret) W3 k3
        exact ⟨_, _, hr, .inl ⟨k4, .inr ⟨rfl, .ret, hIx _ _ _ _ _ _ hi3 b4 (fun k h => .inl h), l4, d4, hq1, hq2⟩⟩⟩
      | exit id =>
        obtain ⟨k3, hi3⟩ := hpost
        obtain ⟨W4, hr, b4, k4, l4, d4⟩ := fin (some (.exit id)) W3 k3
        exact ⟨_, _, hr, .inl ⟨k4, .inr ⟨rfl, .exit id, hIx _ _ _ _ _ _ hi3 b4 (fun k h => .inl h), l4, d4, hq1, hq2⟩⟩⟩
      | goto t => exact hpost.elim
      | panic ch =>
        obtain ⟨hd3, hi3⟩ := hpost
        exact ⟨hd3, .inr ⟨ch, rfl, hi3.1, (hi3.2.2 _ (.inr (.inr (.inl rfl))) (Array.getElem?_eq_some_iff.1 d2).1).trans d2, hq2⟩⟩
      | outgrown => exact hpost.elim
    · rintro e W2 (⟨⟨v, rfl⟩, (⟨xs, hS, hi, hl, hk, -, -⟩ | ⟨pre, hSp, c, hi, hl, hk, -, -⟩)⟩ | ⟨ch, pre, rfl, hSp, hi, hk, -⟩)
      · have hlt := (Array.getElem?_eq_some_iff.1 hl).1
        have he := run_endLoop (P := P) hl (by rw [hst]; simp)
        rw [hpen] at he
        refine ⟨none, _, he, hdone _ xs _ (Nat.le_refl _) hS (hI _ _ _ _ _ hi (Turn.putObj _ (.inr (.inr rfl)) hlt) (fun k h => .inl (.inr (.inl h)))) ((World.putObj_heap_other (by omega)).trans hk)⟩
      · have hlt := (Array.getElem?_eq_some_iff.1 hl).1
        have he := run_endLoop (P := P) hl (by rw [hst]; simp)
        rw [hpen] at he
        refine ⟨some c, _, he, hstop _ c pre _ (Nat.le_refl _) hSp (hIx c _ _ _ _ _ hi (Turn.putObj _ (.inr (.inr rfl)) hlt) (fun k h => .inl (.inr (.inl h)))) ((World.putObj_heap_other (by omega)).trans hk)⟩
      · exact hpanic _ ch pre _ (Nat.le_refl _) hSp (hIp ch _ _ _ _ _ hi (Turn.refl _ _) (fun k h => .inl (.inr (.inl h)))) hk
end Go.Proofs.YtaebipopmefkpaaGreatDoor
