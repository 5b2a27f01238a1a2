/-
  The contract of word.Words.
-/
import Derived.Test.YtoaloeipgadkjaaWordJ
import Derived.Maps.AppendAt
namespace Go.Proofs.Ytoaloeipgadkjaa
open Go.RowKit Go.Shelf
attribute [local go_sem] Oper.semAt_some

theorem stepIn_append_own {F : Fence} {fn : Nat} {P : Program} (w : World) {ops : Array Oper} {o : Oper} {a : Act} {K : Act → World → Prop} {Q : Exit → Act → World → Prop} {E : Prop}
    (hg : o.guard = none) (s x : Operand) (t : TypeId) (hop : o.op = Op.call { callee := Callee.builtin Builtin.append, args := #[s, x], argTypes := #[t, t] })
    (base : Nat) (e : TypeId) (i : TypeInfo) (z : Value) (size bytes : Nat) (h1 : P.underlying t = some (.slice e)) (h2 : P.info? e = some i) (h3 : i.zero = some z) (h4 : i.size = size) (h5 : i.bytes = bytes) (h6 : z.cells.size = size) (h7 : 0 < size)
    (v : Value) (k : Nat) (xs : List Value) (hs : a.eval s = v) (hown : w.ownsRow base e size v k xs) (ad : Addr) (m c : Nat) (news : List Value) (hx : a.eval x = .slice (some ad) m c) (hn : news.length = m * size)
    (hc : ∀ j u, news[j]? = some u → w.cell? (ad.add j) = some u) (h1c : ∀ u ∈ news, u.oneCell' = true) (b1 : k + m ≤ maxLen) (b2 : (k + m) * bytes ≤ 140737488355328) (b3 : base ≤ w.heap.size)
    (hK : ∀ v' w', w'.ownsRow base e size v' (k + m) (xs ++ news) → w.grownBy w' v.ownBlock → (v' = .slice none 0 0 ↔ v = .slice none 0 0 ∧ m = 0) → K (a.put o.dst v') w') :
    if Region.wanted o (yielded ops a.tmps) = true then Oper.wpIn F fn P o a w K Q else E := by
  have hw : Region.wanted o (yielded ops a.tmps) = true := by simp [Region.wanted, hg]
  rw [if_pos hw]
  obtain ⟨v', w', hrun, r1, r2, r3⟩ := run_append_own (P := P) w base t o.type e i z size bytes h1 h2 h3 h4 h5 h6 h7 v k xs hown ad m c news hn hc h1c b1 b2 b3
  unfold Oper.wpIn
  refine ⟨?_, ?_⟩
  · simp [Oper.about, hop, resolve, Target.leads, Sem.run_pure]
  · rw [Oper.semAt_plain F _ _ (by rw [hop]; intro c hc'; cases hc')]
    simp [execOp, hop, resolve, invoke, builtin, hs, hx, hrun, Result.andThen]
    exact hK v' w' r1 r2 r3

theorem need_any (n : Nat) (h : n ≤ 4096) (w : World) : Calls Try.prog 43 #[.int .i64 n] w fun e w' => e = .returned (.int .i64 (WM.need n : Nat)) ∧ w = w' := by
  have h1 : (n : Int) ≤ 4096 := by omega
  go_enter Try.func43, Try.ntmps43
  go_wp2
  go_ret
  exact ⟨ret_int (by unfold WM.need; omega), rfl⟩
theorem words_long (a : Option Addr) (len cap : Nat) (h : 4096 < len) (hl : len ≤ 140737488351232) (w : World) :
    Calls Try.prog 33 #[.slice a len cap] w fun e w' => e = .returned (.tuple #[.slice none 0 0, .int .i64 3]) ∧ w = w' := by
  have h1 : (4096 : Int) < (len : Int) := by omega
  go_enter Try.func33, Try.ntmps33
  go_wp2
  go_ret2
  exact ⟨rfl, rfl⟩
theorem infoU64 : (Try.prog.info? 23).map (fun i => (i.zero, i.size, i.bytes)) = some (some (.int .u64 0), 1, 8) := by kernel_rfl
theorem finRange_map (n : Nat) (f : Nat → Value) : (List.finRange n).map (fun y => f y.1) = (List.range n).map f := by
  apply List.ext_getElem
  · simp
  · intro i h1 h2; simp
theorem keepsOthers_of_below {W W' : World} (h : Below W.heap.size W W') : KeepsOthers W W' :=
  ⟨h.size, fun k _ hk _ => (h.block k (Array.getElem?_eq_some_iff.1 hk).1).trans hk⟩
theorem boxed_below {W W' : World} {B n₀ : Nat} {t : TypeId} {v : Value} (h : Boxed W B t v) (hb : Below n₀ W W') (hB : B < n₀) : Boxed W' B t v := (hb.block B hB).trans h
theorem ownsRow_below {W W' : World} {base : Nat} {e : TypeId} {size : Nat} {v : Value} {n : Nat} {xs : List Value} (h : W.ownsRow base e size v n xs) (hb : Below W.heap.size W W') : W'.ownsRow base e size v n xs :=
  h.kept (row := none) ⟨hb.os, hb.tape, hb.output, hb.size, fun k hk _ => hb.block k hk⟩ (by
    rcases h.2 with ⟨rfl, _⟩ | ⟨g, cap, cur, rfl, _⟩
    · exact .inl rfl
    · exact .inr (by simp [Value.ownBlock]))
/-- A box of another type is not touched by an append and the store of the new slice. -/
theorem boxTail {W w4 w5 : World} {B B' n₀ : Nat} {t' e : TypeId} {size k : Nat} {v v' u' : Value} {xs : List Value} {tmp : Obj} (_ : Below W.heap.size W w4) (hr : w4.ownsRow n₀ e size v k xs) (hg : (w4.alloc tmp).grownBy w5 v.ownBlock)
    (hS : Boxed w4 B' t' u') (hte : t' ≠ e) (hne : B' ≠ B) : Boxed (w5.setCell ⟨B, 0, none⟩ v') B' t' u' := by
  have h1 : Boxed w5 B' t' u' := (hS.alloc tmp).kept hg (hS.not_row hte hr)
  exact h1.other hne v'
theorem keepsTail {W w4 w5 : World} {B Bs n₀ : Nat} {t1 t2 e : TypeId} {size k : Nat} {v v' u1 u2 : Value} {xs : List Value} {tmp : Obj} (hb : Below W.heap.size W w4) (hr : w4.ownsRow n₀ e size v k xs) (hg : (w4.alloc tmp).grownBy w5 v.ownBlock)
    (h1 : Boxed w4 Bs t1 u1) (h2 : Boxed w4 (Bs + 1) t2 u2) (he1 : t1 ≠ e) (he2 : t2 ≠ e) (hn1 : Bs ≠ B) (hn2 : Bs + 1 ≠ B) : Keeps (ChunkBlocks Bs) W (w5.setCell ⟨B, 0, none⟩ v') := by
  have s1 : w4.heap.size ≤ w5.heap.size := by have := hg.size; simp at this; omega
  have s2 : (w5.setCell ⟨B, 0, none⟩ v').heap.size = w5.heap.size := by simp [World.setCell]
  refine ⟨by have := hb.size; omega, fun j hj hl => ?_⟩
  rw [← hb.block j hl]
  rcases hj with rfl | rfl
  · exact (boxTail hb hr hg h1 he1 hn1).trans h1.symm
  · exact (boxTail hb hr hg h2 he2 hn2).trans h2.symm
set_option maxRecDepth 100000 in
set_option maxHeartbeats 2000000 in
theorem words_anyM (v : Value) (xs : List Nat) (hl : xs.length ≤ 4096) (hx : WM.Bytes256 xs) (w : World) (hs : Sl w .u8 v xs) (hcap : ∀ a n c, v = .slice a n c → c ≤ 9223372036854775807) :
    Calls Try.prog 33 #[v] w fun e w' => ∃ r, e = .returned (.tuple #[r, .int .i64 0]) ∧ (∃ g c, r = .slice (some ⟨g, 0, none⟩) (WM.wordsOf xs).length c) ∧ w'.ownsRow w.heap.size 23 1 r (WM.wordsOf xs).length ((WM.wordsOf xs).map (fun y : Nat => Value.int .u64 (y : Nat))) ∧ Below w.heap.size w w' := by
  obtain ⟨i0, hi, hz0, hz1, hz2⟩ := info_parts infoU64
  obtain ⟨a, cap, rfl, hlc, hcells⟩ := hs
  have hcap' := hcap _ _ _ rfl
  clear hcap
  have h1 : (xs.length : Int) ≤ 4096 := by omega
  have hnd : WM.need xs.length ≤ 512 := by unfold WM.need; omega
  have HC := Lib.hid hcells; clear hcells
  refine (callsIn_wide (n := 5)).1 ?_
  refine callsIn_of_wp_marks Try.func33 rfl trivial ?_ rfl
  simp only [Try.ntmps33, List.size_toArray, List.length_cons, List.length_nil, Nat.reduceAdd, Nat.reduceSub, Array.replicate_succ, Array.replicate_zero, List.push_toArray, List.append_toArray, List.nil_append, List.cons_append]
  gi_wp2_with fail
  refine ⟨trivial, ?_⟩
  refine (callsIn_wide.2 (need_any _ (by omega) _)).mono ?_
  rintro e w1 ⟨rfl, rfl⟩
  gi_wp2_with (gi_at_make; refine wpListIn_make_own _ rfl _ _ 62 rfl w.heap.size 23 i0 (.int .u64 0) 1 Try.underlying62 hi hz0 hz1 .i64 .i64 _ (WM.need xs.length) rfl rfl rfl (by rw [hz2]; omega) (by unfold maxLen; omega) (by omega) ?_; intro w2 hown2 hgrow2)
  have z2 : w.heap.size ≤ w2.heap.size := hgrow2.size
  have b2 : Below w.heap.size w w2 := (Below.refl _ _).grown hgrow2 (Nat.le_refl _) (fun k e => by cases e)
  refine ⟨trivial, ?_⟩
  refine (callsIn_wide.2 (chunk_any _ _ _ _)).mono ?_
  rintro e w3 ⟨rfl, rfl⟩
  gi_wp2_with fail
  have bO := ((Boxed.new w2 62 (.slice (some ⟨w.heap.size, 0, none⟩) 0 (WM.need xs.length))).alloc (.cells #[.slice a xs.length cap] 58)).alloc (.cells #[.int .i64 8] 3)
  have bS := (Boxed.new (w2.alloc (.cells #[.slice (some ⟨w.heap.size, 0, none⟩) 0 (WM.need xs.length)] 62)) 58 (.slice a xs.length cap)).alloc (.cells #[.int .i64 8] 3)
  have bN := Boxed.new ((w2.alloc (.cells #[.slice (some ⟨w.heap.size, 0, none⟩) 0 (WM.need xs.length)] 62)).alloc (.cells #[.slice a xs.length cap] 58)) 3 (.int .i64 8)
  have hB0 : Below w.heap.size w (((w2.alloc (.cells #[.slice (some ⟨w.heap.size, 0, none⟩) 0 (WM.need xs.length)] 62)).alloc (.cells #[.slice a xs.length cap] 58)).alloc (.cells #[.int .i64 8] 3)) := (by repeat (first | exact Below.refl _ _ | assumption | refine Below.drew ?_ | refine below_drewN ?_ _ | refine Below.alloc ?_ (by (try simp) <;> omega) _ | refine Below.setCell ?_ (by (try simp) <;> omega) _ | refine Below.trans ?_ (Below.mono (by assumption) (by (try simp) <;> omega))))
  have own0 := ((hown2.alloc (.cells #[.slice (some ⟨w.heap.size, 0, none⟩) 0 (WM.need xs.length)] 62)).alloc (.cells #[.slice a xs.length cap] 58)).alloc (.cells #[.int .i64 8] 3)
  simp only [World.size_alloc] at bS bN
  have hsz : (((w2.alloc (.cells #[.slice (some ⟨w.heap.size, 0, none⟩) 0 (WM.need xs.length)] 62)).alloc (.cells #[.slice a xs.length cap] 58)).alloc (.cells #[.int .i64 8] 3)).heap.size = w2.heap.size + 3 := by simp
  generalize hW0 : (((w2.alloc (.cells #[.slice (some ⟨w.heap.size, 0, none⟩) 0 (WM.need xs.length)] 62)).alloc (.cells #[.slice a xs.length cap] 58)).alloc (.cells #[.int .i64 8] 3)) = W0 at *
  clear hW0 hown2
  obtain ⟨b, off, hab, hcb⟩ : ∃ b off, (0 < xs.length → a = some ⟨b, off, none⟩) ∧ (0 < xs.length → b < w.heap.size ∧ ∀ j, j < xs.length → w.cell? ⟨b, off + j, none⟩ = some (.int .u8 ((xs[j]?.getD 0 : Nat) : Int))) := by
    rcases Nat.eq_zero_or_pos xs.length with h0 | h0
    · exact ⟨0, 0, fun h => by omega, fun h => by omega⟩
    · obtain ⟨b, off, h1, h2, h3⟩ := HC.out h0
      exact ⟨b, off, fun _ => h1, fun _ => ⟨h2, h3⟩⟩
  have HCB := Lib.hid hcb; clear hcb HC
  refine wpIn_rangeFunc_ownG (N := WM.need xs.length) rfl (by decide) (gf := 54) (lb := #[.pointer (some ⟨w2.heap.size + 1, 0, none⟩), .pointer (some ⟨w2.heap.size + 1 + 1, 0, none⟩)]) rfl trivial (enters_of Try.func54 (by kernel_rfl) rfl)
    (chunk_stops 4 (by decide) (w2.heap.size + 1) b off xs.length cap a hab hcap' hl hlc W0 (by omega) bS.cell bN.cell) (fun h k => Keeps.trans h k) (keeps_b (fun k hk => by rcases hk with rfl | rfl <;> omega)) (Below.refl _ _) (fun _ => rfl)
    (fun pre W => (∃ v, Boxed W w2.heap.size 62 v ∧ W.ownsRow w.heap.size 23 1 v pre.length (pre.map fun y => Value.int .u64 (WM.wordAt xs y.1 : Nat)) ∧ ∃ g c, v = .slice (some ⟨g, 0, none⟩) pre.length c) ∧ (Boxed W (w2.heap.size + 1) 58 (.slice a xs.length cap) ∧ Boxed W (w2.heap.size + 1 + 1) 3 (.int .i64 8)) ∧ Below w.heap.size w W)
    (fun _ _ _ => False)
    (OwnFrom.and (Own.from (holdsRow_own w.heap.size w2.heap.size 62 23 1 (fun pre : List (Fin (WM.need xs.length)) => pre.length) (fun pre => pre.map fun y => Value.int .u64 (WM.wordAt xs y.1 : Nat)) (fun pre v => ∃ g c, v = .slice (some ⟨g, 0, none⟩) pre.length c)) _) (OwnFrom.and (OwnFrom.and (Own.from (boxed_own _ _ _) _) (Own.from (boxed_own _ _ _) _)) (ownFrom_below (Nat.le_refl _) (by omega))))
    (fun _ _ _ _ _ hs _ _ => hs)
    ⟨⟨_, bO, own0, _, _, rfl⟩, ⟨bS, bN⟩, hB0⟩
    (fun y => { tmps := #[.slice a xs.length cap, undef, .slice none 0 0, .int .i64 0, .pointer (some ⟨w2.heap.size, 0, none⟩), .slice (some ⟨b, off + 8 * y.1, none⟩) (min 8 (xs.length - 8 * y.1)) (min 8 (xs.length - 8 * y.1)), .slice a xs.length cap, .int .i64 xs.length, .bool (decide (4096 < (xs.length : Int))), .slice a xs.length cap, .int .i64 xs.length, .int .i64 (WM.need xs.length : Nat), .slice (some ⟨w.heap.size, 0, none⟩) 0 (WM.need xs.length), .slice a xs.length cap, .func (.func 54) #[] #[.pointer (some ⟨w2.heap.size + 1, 0, none⟩), .pointer (some ⟨w2.heap.size + 1 + 1, 0, none⟩)], .slice (some ⟨b, off + 8 * y.1, none⟩) (min 8 (xs.length - 8 * y.1)) (min 8 (xs.length - 8 * y.1)), undef, undef, undef, undef, undef, undef], defers := [] }) ?assign ?body ?done ?stop
  case assign =>
    intro l x W K hK
    gi_wp2
    exact hK
  case body =>
    rintro l pre y W ⟨⟨v, hv, hrow, -⟩, ⟨hS, hN⟩, hB⟩ hlt
    have hc := hv.cell
    have hy := y.2
    have hlen : 0 < xs.length ∧ 8 * y.1 < xs.length := by have := y.2; unfold WM.need at this; omega
    have hmo : Try.prog.follows .mixedOrders = true := by kernel_rfl
    have hcl := WM.chunkOf_length xs y.1
    have hsl : Sl W .u8 (.slice (some ⟨b, off + 8 * y.1, none⟩) (min 8 (xs.length - 8 * y.1)) (min 8 (xs.length - 8 * y.1))) (WM.chunkOf xs y.1) := by
      obtain ⟨hb1, hb2⟩ := HCB.out hlen.1
      refine ⟨some ⟨b, off + 8 * y.1, none⟩, min 8 (xs.length - 8 * y.1), by rw [hcl], by omega, fun _ => ⟨b, off + 8 * y.1, rfl, Nat.lt_of_lt_of_le hb1 hB.size, fun j hj => ?_⟩⟩
      have e : (WM.chunkOf xs y.1)[j]?.getD 0 = xs[8 * y.1 + j]?.getD 0 := WM.chunkOf_at xs y.1 j (by omega)
      rw [e, Nat.add_assoc]
      exact (hB.cell (p := ⟨b, off + (8 * y.1 + j), none⟩) hb1).trans (hb2 _ (by omega))
    have HJ : ∀ W1, Below W.heap.size W W1 → Calls Try.prog 45 #[.slice (some ⟨b, off + 8 * y.1, none⟩) (min 8 (xs.length - 8 * y.1)) (min 8 (xs.length - 8 * y.1))] W1 fun e w' => e = .returned (.int .u64 (WM.wordAt xs y.1 : Nat)) ∧ Below W1.heap.size W1 w' := fun W1 hb1 => by
      have := joined_any _ (WM.chunkOf xs y.1) (by omega) (WM.chunkOf_256 xs hx y.1) W1 (hsl.below hb1) ⟨_, by rw [hcl]⟩
      rw [WM.chunkOf_word] at this
      exact this
    have HJ' := Lib.hid HJ; clear HJ hcl hsl
    gi_wp2
    refine wpIn_region_any hmo ?_
    change wpAnyIn _ _ _ _ _ _ _ _ _ (World.drew _)
    refine wpAnyIn_ready (rs := [0, 1]) (by kernel_rfl) (by simp) ?_
    refine AllReadyIn.cons rfl (fun K hK => ?_) (AllReadyIn.cons rfl (fun K hK => ?_) AllReadyIn.nil)
    · go_simp
      refine hK _ _ ?_
      clear hK K
      refine wpAnyIn_ready (rs := [1]) (by kernel_rfl) (by simp) ?_
      refine AllReadyIn.cons rfl (fun K hK => ?_) AllReadyIn.nil
      go_simp
      refine hK _ _ ?_
      clear hK K
      refine wpAnyIn_ready (rs := [2]) (by kernel_rfl) (by simp) ?_
      refine AllReadyIn.cons rfl (fun K hK => ?_) AllReadyIn.nil
      go_simp
      refine ⟨trivial, ?_⟩
      refine (CallsIn.inRound l (callsIn_wide.2 (HJ'.out _ (by exact (Below.refl _ _).drew)))).mono ?_
      rintro e w4 ⟨rfl, hb4⟩
      have hb4' : Below W.heap.size W w4 := (Below.refl _ _).drew.trans hb4
      have hv4 := boxed_below hv hb4' hv.lt
      have hr4 := ownsRow_below hrow hb4'
      have hc4 := hv4.cell
      have hlt4 := hv4.lt
      have zz4 := hb4'.size
      refine hK _ _ ?_
      clear hK K
      refine wpAnyIn_ready (rs := [3]) (by kernel_rfl) (by simp) ?_
      refine AllReadyIn.cons rfl (fun K hK => ?_) AllReadyIn.nil
      go_simp
      refine hK _ _ ?_
      clear hK K
      refine wpAnyIn_ready (rs := [4]) (by kernel_rfl) (by simp) ?_
      refine AllReadyIn.cons rfl (fun K hK => ?_) AllReadyIn.nil
      refine stepIn_append_own _ rfl _ _ 62 rfl w.heap.size 23 i0 (.int .u64 0) 1 8 Try.underlying62 hi hz0 hz1 hz2 rfl (by decide) v pre.length _ rfl (hr4.alloc _) ⟨w4.heap.size, 0, none⟩ 1 1 [.int .u64 (WM.wordAt xs y.1 : Nat)] rfl rfl (cell_one_new _ _ _) (by simp [Value.oneCell']) (by unfold maxLen; omega) (by omega) (by have := hB.size; simp; omega) ?_
      intro v' w5 hown5 hgrow5 _
      refine hK _ _ ?_
      clear hK K
      obtain ⟨g', cap', rfl⟩ := ownsRow_succ hown5
      obtain ⟨hv1, hv2, hr2, hk2, hb2⟩ := hv4.appended (by decide) hr4 (Nat.le_trans hB.size zz4) z2 hown5 hgrow5
      have hc1 := hv1.cell
      have hf1 := hv1.frozen
      refine wpAnyIn_ready (rs := [5]) (by kernel_rfl) (by simp) ?_
      refine AllReadyIn.cons rfl (fun K hK => ?_) AllReadyIn.nil
      go_simp
      refine hK _ _ ?_
      clear hK K
      refine wpAnyIn_done (by kernel_rfl) ?_ _
      refine ⟨((keepsOthers_of_below hb4').trans hk2).from _, ?_, ⟨⟨_, hv2, by simpa using hr2, _, _, by rw [List.length_append]; rfl⟩, ?_, hB.trans ((hb4'.mono hB.size).trans hb2)⟩⟩
      · exact keepsTail hb4' hr4 hgrow5 (boxed_below hS hb4' hS.lt) (boxed_below hN hb4' hN.lt) (by decide) (by decide) (by omega) (by omega)
      · exact ⟨boxTail hb4' hr4 hgrow5 (boxed_below hS hb4' hS.lt) (by decide) (by omega), boxTail hb4' hr4 hgrow5 (boxed_below hN hb4' hN.lt) (by decide) (by omega)⟩
    · go_simp
      refine hK _ _ ?_
      clear hK K
      refine wpAnyIn_ready (rs := [0, 2]) (by kernel_rfl) (by simp) ?_
      refine AllReadyIn.cons rfl (fun K hK => ?_) (AllReadyIn.cons rfl (fun K hK => ?_) AllReadyIn.nil)
      · go_simp
        refine hK _ _ ?_
        clear hK K
        refine wpAnyIn_ready (rs := [2]) (by kernel_rfl) (by simp) ?_
        refine AllReadyIn.cons rfl (fun K hK => ?_) AllReadyIn.nil
        go_simp
        refine ⟨trivial, ?_⟩
        refine (CallsIn.inRound l (callsIn_wide.2 (HJ'.out _ (by exact (Below.refl _ _).drew)))).mono ?_
        rintro e w4 ⟨rfl, hb4⟩
        have hb4' : Below W.heap.size W w4 := (Below.refl _ _).drew.trans hb4
        have hv4 := boxed_below hv hb4' hv.lt
        have hr4 := ownsRow_below hrow hb4'
        have hc4 := hv4.cell
        have hlt4 := hv4.lt
        have zz4 := hb4'.size
        refine hK _ _ ?_
        clear hK K
        refine wpAnyIn_ready (rs := [3]) (by kernel_rfl) (by simp) ?_
        refine AllReadyIn.cons rfl (fun K hK => ?_) AllReadyIn.nil
        go_simp
        refine hK _ _ ?_
        clear hK K
        refine wpAnyIn_ready (rs := [4]) (by kernel_rfl) (by simp) ?_
        refine AllReadyIn.cons rfl (fun K hK => ?_) AllReadyIn.nil
        refine stepIn_append_own _ rfl _ _ 62 rfl w.heap.size 23 i0 (.int .u64 0) 1 8 Try.underlying62 hi hz0 hz1 hz2 rfl (by decide) v pre.length _ rfl (hr4.alloc _) ⟨w4.heap.size, 0, none⟩ 1 1 [.int .u64 (WM.wordAt xs y.1 : Nat)] rfl rfl (cell_one_new _ _ _) (by simp [Value.oneCell']) (by unfold maxLen; omega) (by omega) (by have := hB.size; simp; omega) ?_
        intro v' w5 hown5 hgrow5 _
        refine hK _ _ ?_
        clear hK K
        obtain ⟨g', cap', rfl⟩ := ownsRow_succ hown5
        obtain ⟨hv1, hv2, hr2, hk2, hb2⟩ := hv4.appended (by decide) hr4 (Nat.le_trans hB.size zz4) z2 hown5 hgrow5
        have hc1 := hv1.cell
        have hf1 := hv1.frozen
        refine wpAnyIn_ready (rs := [5]) (by kernel_rfl) (by simp) ?_
        refine AllReadyIn.cons rfl (fun K hK => ?_) AllReadyIn.nil
        go_simp
        refine hK _ _ ?_
        clear hK K
        refine wpAnyIn_done (by kernel_rfl) ?_ _
        refine ⟨((keepsOthers_of_below hb4').trans hk2).from _, ?_, ⟨⟨_, hv2, by simpa using hr2, _, _, by rw [List.length_append]; rfl⟩, ?_, hB.trans ((hb4'.mono hB.size).trans hb2)⟩⟩
        · exact keepsTail hb4' hr4 hgrow5 (boxed_below hS hb4' hS.lt) (boxed_below hN hb4' hN.lt) (by decide) (by decide) (by omega) (by omega)
        · exact ⟨boxTail hb4' hr4 hgrow5 (boxed_below hS hb4' hS.lt) (by decide) (by omega), boxTail hb4' hr4 hgrow5 (boxed_below hN hb4' hN.lt) (by decide) (by omega)⟩
      · go_simp
        refine ⟨trivial, ?_⟩
        refine (CallsIn.inRound l (callsIn_wide.2 (HJ'.out _ (by exact (Below.refl _ _).drew)))).mono ?_
        rintro e w4 ⟨rfl, hb4⟩
        have hb4' : Below W.heap.size W w4 := (Below.refl _ _).drew.trans hb4
        have hv4 := boxed_below hv hb4' hv.lt
        have hr4 := ownsRow_below hrow hb4'
        have hc4 := hv4.cell
        have hlt4 := hv4.lt
        have zz4 := hb4'.size
        refine hK _ _ ?_
        clear hK K
        refine wpAnyIn_ready (rs := [0, 3]) (by kernel_rfl) (by simp) ?_
        refine AllReadyIn.cons rfl (fun K hK => ?_) (AllReadyIn.cons rfl (fun K hK => ?_) AllReadyIn.nil)
        · go_simp
          refine hK _ _ ?_
          clear hK K
          refine wpAnyIn_ready (rs := [3]) (by kernel_rfl) (by simp) ?_
          refine AllReadyIn.cons rfl (fun K hK => ?_) AllReadyIn.nil
          go_simp
          refine hK _ _ ?_
          clear hK K
          refine wpAnyIn_ready (rs := [4]) (by kernel_rfl) (by simp) ?_
          refine AllReadyIn.cons rfl (fun K hK => ?_) AllReadyIn.nil
          refine stepIn_append_own _ rfl _ _ 62 rfl w.heap.size 23 i0 (.int .u64 0) 1 8 Try.underlying62 hi hz0 hz1 hz2 rfl (by decide) v pre.length _ rfl (hr4.alloc _) ⟨w4.heap.size, 0, none⟩ 1 1 [.int .u64 (WM.wordAt xs y.1 : Nat)] rfl rfl (cell_one_new _ _ _) (by simp [Value.oneCell']) (by unfold maxLen; omega) (by omega) (by have := hB.size; simp; omega) ?_
          intro v' w5 hown5 hgrow5 _
          refine hK _ _ ?_
          clear hK K
          obtain ⟨g', cap', rfl⟩ := ownsRow_succ hown5
          obtain ⟨hv1, hv2, hr2, hk2, hb2⟩ := hv4.appended (by decide) hr4 (Nat.le_trans hB.size zz4) z2 hown5 hgrow5
          have hc1 := hv1.cell
          have hf1 := hv1.frozen
          refine wpAnyIn_ready (rs := [5]) (by kernel_rfl) (by simp) ?_
          refine AllReadyIn.cons rfl (fun K hK => ?_) AllReadyIn.nil
          go_simp
          refine hK _ _ ?_
          clear hK K
          refine wpAnyIn_done (by kernel_rfl) ?_ _
          refine ⟨((keepsOthers_of_below hb4').trans hk2).from _, ?_, ⟨⟨_, hv2, by simpa using hr2, _, _, by rw [List.length_append]; rfl⟩, ?_, hB.trans ((hb4'.mono hB.size).trans hb2)⟩⟩
          · exact keepsTail hb4' hr4 hgrow5 (boxed_below hS hb4' hS.lt) (boxed_below hN hb4' hN.lt) (by decide) (by decide) (by omega) (by omega)
          · exact ⟨boxTail hb4' hr4 hgrow5 (boxed_below hS hb4' hS.lt) (by decide) (by omega), boxTail hb4' hr4 hgrow5 (boxed_below hN hb4' hN.lt) (by decide) (by omega)⟩
        · go_simp
          refine hK _ _ ?_
          clear hK K
          refine wpAnyIn_ready (rs := [0]) (by kernel_rfl) (by simp) ?_
          refine AllReadyIn.cons rfl (fun K hK => ?_) AllReadyIn.nil
          go_simp
          refine hK _ _ ?_
          clear hK K
          refine wpAnyIn_ready (rs := [4]) (by kernel_rfl) (by simp) ?_
          refine AllReadyIn.cons rfl (fun K hK => ?_) AllReadyIn.nil
          refine stepIn_append_own _ rfl _ _ 62 rfl w.heap.size 23 i0 (.int .u64 0) 1 8 Try.underlying62 hi hz0 hz1 hz2 rfl (by decide) v pre.length _ rfl (hr4.alloc _) ⟨w4.heap.size, 0, none⟩ 1 1 [.int .u64 (WM.wordAt xs y.1 : Nat)] rfl rfl (cell_one_new _ _ _) (by simp [Value.oneCell']) (by unfold maxLen; omega) (by omega) (by have := hB.size; simp; omega) ?_
          intro v' w5 hown5 hgrow5 _
          refine hK _ _ ?_
          clear hK K
          obtain ⟨g', cap', rfl⟩ := ownsRow_succ hown5
          obtain ⟨hv1, hv2, hr2, hk2, hb2⟩ := hv4.appended (by decide) hr4 (Nat.le_trans hB.size zz4) z2 hown5 hgrow5
          have hc1 := hv1.cell
          have hf1 := hv1.frozen
          refine wpAnyIn_ready (rs := [5]) (by kernel_rfl) (by simp) ?_
          refine AllReadyIn.cons rfl (fun K hK => ?_) AllReadyIn.nil
          go_simp
          refine hK _ _ ?_
          clear hK K
          refine wpAnyIn_done (by kernel_rfl) ?_ _
          refine ⟨((keepsOthers_of_below hb4').trans hk2).from _, ?_, ⟨⟨_, hv2, by simpa using hr2, _, _, by rw [List.length_append]; rfl⟩, ?_, hB.trans ((hb4'.mono hB.size).trans hb2)⟩⟩
          · exact keepsTail hb4' hr4 hgrow5 (boxed_below hS hb4' hS.lt) (boxed_below hN hb4' hN.lt) (by decide) (by decide) (by omega) (by omega)
          · exact ⟨boxTail hb4' hr4 hgrow5 (boxed_below hS hb4' hS.lt) (by decide) (by omega), boxTail hb4' hr4 hgrow5 (boxed_below hN hb4' hN.lt) (by decide) (by omega)⟩
  case done =>
    rintro D ys W hD rfl ⟨⟨v, hv, hrow, hform⟩, -, hB⟩ hK
    have hc := hv.cell
    have HF := Lib.hid hform; clear hform
    gi_wp2
    refine ⟨by simp, .inl ⟨_, _, rfl, run_takeDeferred hK, ?_⟩⟩
    rw [WM.wordsOf_length]
    rw [List.length_finRange, finRange_map _ (fun y => Value.int .u64 (WM.wordAt xs y : Nat))] at hrow
    refine ⟨_, results_tmp2 rfl _ _ _, v, rfl, (by have := HF.out; rwa [List.length_finRange] at this), ?_, hB.trans (belowK_b (w := w) (Nat.le_refl _) W D _ _ (by omega) hK rfl rfl)⟩
    unfold WM.wordsOf
    rw [List.map_map]
    exact ownsRow_putObj hrow _ hK rfl
  case stop =>
    rintro D c pre W _ _ h _
    exact h.elim
theorem words_any (v : Value) (xs : List Nat) (hl : xs.length ≤ 4096) (hx : WM.Bytes256 xs) (w : World) (hs : Sl w .u8 v xs) (hcap : ∀ a n c, v = .slice a n c → c ≤ 140737488351232) :
    Calls Try.prog 33 #[v] w fun e w' => ∃ r, e = .returned (.tuple #[r, .int .i64 0]) ∧ (∃ g c, r = .slice (some ⟨g, 0, none⟩) (WM.wordsOf xs).length c) ∧ w'.ownsRow w.heap.size 23 1 r (WM.wordsOf xs).length ((WM.wordsOf xs).map (fun y : Nat => Value.int .u64 (y : Nat))) ∧ Below w.heap.size w w' :=
  words_anyM v xs hl hx w hs fun a n c e => Nat.le_trans (hcap a n c e) (by decide)
end Go.Proofs.Ytoaloeipgadkjaa
