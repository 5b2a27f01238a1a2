/-
  file: Holes, as an iterator.
-/
import Derived.Test.YtmncoclmgcjjjaaQFmE
import Derived.Test.YtmncoclmgcjjjaaQFmD
import Derived.Test.YtmncoclmgcjjjaaMf11
import Derived.Laws.EntriesVeiled
import Derived.RangeFuncCalls
namespace Go.Proofs.Ytmncoclmgcjjjaa
open Go.RowKit Go.Shelf
attribute [local go_sem] Oper.semAt_some

def encH (k : Nat) : Array Value := #[.int .i64 (k : Nat)]
def nouF (L : List (List Int)) (k : Nat) : Bool := L[k]?.getD [] == zeros8
theorem abides_wide9 {β : Type} {J : β → (Nat → Prop) → World → Prop} (h : Abides J) (r : Nat → Prop) : Abides (fun pre q W => J pre (fun k => q k ∨ r k) W) := fun s _q _q' W W' hs ht hq => h s _ _ W W' hs (ht.mono fun _ h => .inl h) fun k hk => hk.elim (fun h => (hq k h).imp .inl id) fun h => .inl (.inr h)
theorem abides_map9 {α β : Type} {J : β → (Nat → Prop) → World → Prop} (h : Abides J) (f : α → β) : Abides (fun pre q W => J (f pre) q W) := fun s q q' W W' hs ht hq => h (f s) q q' W W' hs ht hq
set_option maxRecDepth 100000 in
set_option maxHeartbeats 8000000 in
theorem holes_seq (n : Nat) (hn : 9 ≤ n) {H : Nat} {u : Value} {L : List (List Int)} (w : World) (hL8 : ∀ l ∈ L, l.length = 8) (hlen : L.length ≤ 1000) (hH : Boxed w H 35 u) (hv : VecC w u L) :
    SeqF (vcP H u L.length) n Try.prog 33 #[.pointer (some ⟨H, 0, none⟩)] encH (fun ys => ys = holF L) (fun pre => pre <+: holF L) w := fun lp J Jx W hW hJ hJx hY h0 => by
  have hHW : Boxed W H 35 u := (hW.block _ hH.lt).trans hH
  have hvW : VecC W u L := hv.below hW
  have hplt := vcP_lt hvW hHW.lt
  obtain ⟨a, c, rfl⟩ := Vec.slice hvW
  have c0 := hHW.cell
  have hlH := hHW.lt
  have HX8 : Hid (∀ k, (lnA (chZ L k)).size = 8) := show ∀ k, _ from fun k => by rw [lnA_size]; exact chZ_8 hL8 k
  have HIS : Hid (∀ W k, Calls Try.prog 35 #[.agg (lnA (chZ L k))] W fun e w' => e = .returned (.bool (chZ L k == zeros8)) ∧ Below W.heap.size W w') := show ∀ W, _ from fun W k => isNought_any (chZ L k) (chZ_8 hL8 k) W
  have HCZ := Lib.hid (fun k (hk : k < L.length) => chZ_at hk)
  have HY := Lib.hid hY
  have HJ := Lib.hid hJ
  have HJX := Lib.hid hJx
  have HAQ := Lib.hid (fun W' p (h1 : Boxed W' p 35 (.slice a L.length c)) (h2 : VecC W' (.slice a L.length c) L) => allC_seq (n - 1) (by omega) (p := p) W' hL8 hlen h1 h2)
  have HVW := Lib.hid hvW
  have HPL := Lib.hid hplt
  have HFI : Hid (∀ (pre : List Nat) x, pre ++ [x] <+: List.range L.length → (nouF L x = true → (pre.filter (nouF L)) ++ [x] <+: holF L ∧ (pre ++ [x]).filter (nouF L) = pre.filter (nouF L) ++ [x]) ∧ (nouF L x = false → (pre ++ [x]).filter (nouF L) = pre.filter (nouF L))) := show ∀ pre x, _ from fun pre x h => by
    have h1 : (pre ++ [x]).filter (nouF L) <+: holF L := h.filter _
    refine ⟨fun hx => ?_, fun hx => ?_⟩
    · have e : (pre ++ [x]).filter (nouF L) = pre.filter (nouF L) ++ [x] := by rw [List.filter_append]; simp [hx]
      rw [e] at h1
      exact ⟨h1, e⟩
    · rw [List.filter_append]; simp [hx]
  obtain ⟨m, hm⟩ : ∃ m, L.length = m := ⟨_, rfl⟩
  rw [hm] at c0 HY HAQ HVW HPL HCZ HFI
  have HLM := Lib.hid hm
  clear hY hJ hJx hH hHW hW hv hvW hplt hL8 hm
  refine callsIn_of_wp_marks Try.func33 rfl trivial ?_ rfl
  simp only [Try.ntmps33, List.size_toArray, List.length_cons, List.length_nil, Nat.reduceAdd, Nat.reduceSub, Array.replicate_succ, Array.replicate_zero, List.push_toArray, List.append_toArray, List.nil_append, List.cons_append]
  gi_wp2_with fail
  refine wpIn_scope_straight ?_
  gi_wp2_with fail
  refine wpIn_label ?_
  have bA : Below W.heap.size W (W.alloc (.cells #[.func (.yield lp) #[] #[]] 66)) := (Below.refl _ _).alloc (Nat.le_refl _) _
  have jY := Boxed.new W 66 (.func (.yield lp) #[] #[])
  obtain ⟨W1, hW1⟩ : ∃ W1, W.alloc (.cells #[.func (.yield lp) #[] #[]] 66) = W1 := ⟨_, rfl⟩
  have z1 : W1.heap.size = W.heap.size + 1 := by rw [← hW1]; simp
  rw [hW1] at bA jY
  have c1 : W1.cell? ⟨H, 0, none⟩ = some (.slice a m c) := (bA.cell (p := ⟨H, 0, none⟩) hlH).trans c0
  clear c0
  gi_wp2_with fail
  refine ⟨trivial, fun _ => by omega, ?_⟩
  refine (callsIn_wide.2 (allC_any a m c W1)).mono ?_
  rintro e W0 ⟨rfl, hw0⟩
  have bB : Below W1.heap.size W1 W0 := by rw [hw0]; exact (Below.refl _ _).alloc (Nat.le_refl _) _
  have z0 : W0.heap.size = W1.heap.size + 1 := by rw [hw0]; simp
  have b0 : Below W.heap.size W W0 := bA.trans (bB.mono bA.size)
  have hP1 : Boxed W0 W1.heap.size 35 (.slice a m c) := by rw [hw0]; exact Boxed.new _ _ _
  have hV0 : VecC W0 (.slice a m c) L := HVW.out.below b0
  have jY0 : Boxed W0 W.heap.size 66 (.func (.yield lp) #[] #[]) := (bB.block _ jY.lt).trans jY
  have hsq := HAQ.out W0 W1.heap.size hP1 hV0
  have jJ := HJ.out [] _ (fun k => False ∨ (W.heap.size ≤ k ∧ k < W0.heap.size)) W W0 h0 (Turn.of_below b0 (Nat.le_refl _)) (fun k h => .inr (by rcases h with h | h <;> first | exact h.elim | exact h.1))
  rw [z1] at hsq hP1
  have hplt0 := vcP_lt hV0 hP1.lt
  have HPB : Hid (∀ k, blkOf (.slice a m c) = some k → 0 < m → k < W.heap.size) := show ∀ k, _ from fun k h1 h2 => HPL.out k (.inr ⟨h2, h1⟩)
  have hlm := HLM.out
  rw [hlm] at hplt0
  have HZ0 := Lib.hid z0
  have HZ1 := Lib.hid z1
  have HY0 := Lib.hid jY0
  clear hw0 bB b0 bA c1 hP1 hV0 jY
  gi_wp2_with fail
  refine wpIn_range_F (n := n) (by omega) (gf := 46) (lb := #[.pointer (some ⟨W.heap.size + 1, 0, none⟩)]) rfl (enters_of Try.func46 (by kernel_rfl) rfl) hsq hplt0 (Below.refl _ _) (fun _ => rfl)
    (fun pre q W' => J (pre.filter (nouF L)) (fun k => q k ∨ (W.heap.size ≤ k ∧ k < W0.heap.size)) W' ∧ BoxF W.heap.size 66 (.func (.yield lp) #[] #[]) q W' ∧ W0.heap.size ≤ W'.heap.size)
    (fun cd pre q W' => cd = .exit 0 ∧ Jx (pre.filter (nouF L)) (fun k => q k ∨ (W.heap.size ≤ k ∧ k < W0.heap.size)) W')
    (Abides.and (abides_map9 (abides_wide9 HJ.out (fun k => W.heap.size ≤ k ∧ k < W0.heap.size)) (fun pre : List Nat => pre.filter (nouF L))) (Abides.and (Abides.box _ _ (fun _ => .func (.yield lp) #[] #[])) (Abides.size _)))
    (fun cd pre q q' A C h ht hq => ⟨h.1, abides_wide9 HJX.out (fun k => W.heap.size ≤ k ∧ k < W0.heap.size) (pre.filter (nouF L)) q q' A C h.2 ht hq⟩)
    ⟨jJ, ⟨HY0.out, id⟩, Nat.le_refl _⟩
    (fun k a' W' => ∃ B, W0.heap.size + 2 ≤ B ∧ a' = { tmps := #[.func (.yield lp) #[] #[], .pointer (some ⟨H, 0, none⟩), .pointer (some ⟨W.heap.size, 0, none⟩), .int .i64 (k : Nat), .pointer (some ⟨B, 0, none⟩), .slice a m c, .func (.func 46) #[] #[.pointer (some ⟨W.heap.size + 1, 0, none⟩)], .int .i64 (k : Nat), .agg (lnA (chZ L k)), undef, undef, undef, undef, undef, undef, undef, undef], defers := [] } ∧ Blk W' B 43 (lnA (chZ L k)))
    (fun k a' W' o ⟨B, hB, ha, hb⟩ => ⟨B, hB, ha, (World.putObj_heap_other (by omega)).trans hb⟩)
    ?assign ?body ?done ?stop
  case assign =>
    rintro l2 k W2 K hsz hK
    have hXs := HX8.out k
    obtain ⟨W3, hst, hx3, ht3⟩ := (Blk.new W2 43 (lnA zeros8)).store (P := Try.prog) (tt := 43) (Y := lnA (chZ L k)) (by rw [hXs]; kernel_rfl) (by rw [hXs]; rfl) (lnA_one _)
    have hb1 : Below W2.heap.size W2 (W2.alloc (.cells (lnA zeros8) 43)) := (Below.refl _ _).alloc (Nat.le_refl _) _
    have HB3 : Hid (Below W2.heap.size W2 W3) := show Below _ _ _ from hb1.trans (ht3.below (B := W2.heap.size) (fun k hk => by omega) hb1.size)
    have hz8 : lnA zeros8 = #[.int .u64 0, .int .u64 0, .int .u64 0, .int .u64 0, .int .u64 0, .int .u64 0, .int .u64 0, .int .u64 0] := rfl
    rw [hz8] at hst
    have HX3 := Lib.hid hx3
    unfold encA
    dsimp only
    clear hx3 ht3 hb1 hz8 hXs
    gi_wp2_with (refine wpListIn_store_eq rfl 43 _ _ rfl _ _ rfl rfl hst ?_)
    exact hK _ _ ⟨W2.heap.size, hsz, rfl, HX3.out⟩ HB3.out
  case body =>
    rintro l2 pre k a' q W2 ⟨iJ, ⟨iY, iYq⟩, iW⟩ hs2 hqb hsp ⟨B, hB, rfl, hBk⟩
    have hld := hBk.load (P := Try.prog) (tt := 43) Try.underlying43 rfl (by rw [HX8.out k]; kernel_rfl)
    have hkm : k < m := by
      obtain ⟨r, hr⟩ := hsp
      have hm : k ∈ List.range m := by rw [← hr]; simp
      exact List.mem_range.1 hm
    have hfi := HFI.out pre k hsp
    have HI := Lib.hid (HIS.out W2 k)
    have hno : (chZ L k == zeros8) = nouF L k := by rw [HCZ.out k hkm]; rfl
    rw [hno] at HI
    have HIJ := Lib.hid iJ
    have HIY := Lib.hid iY
    have HQB := Lib.hid hqb
    have hz0 := HZ0.out
    have hz1 := HZ1.out
    obtain ⟨X, hX⟩ : ∃ X, lnA (chZ L k) = X := ⟨_, rfl⟩
    rw [hX] at hld HI ⊢
    obtain ⟨bb, hbb⟩ : ∃ bb, nouF L k = bb := ⟨_, rfl⟩
    rw [hbb] at HI hfi
    clear hno hX hBk hbb iJ iY hqb
    gi_wp2_with (refine wpListIn_load_eq rfl 43 _ rfl _ _ rfl hld ?_)
    refine ⟨trivial, fun _ => by omega, ?_⟩
    refine (CallsIn.inRound l2 (callsIn_wide.2 HI.out)).mono ?_
    rintro e w3 ⟨rfl, b3⟩
    have hz3 := b3.size
    have hY3 : Boxed w3 W.heap.size 66 (.func (.yield lp) #[] #[]) := (b3.block _ HIY.out.lt).trans HIY.out
    have hJ3 := abides_wide9 HJ.out (fun k => W.heap.size ≤ k ∧ k < W0.heap.size) _ _ _ _ _ HIJ.out (Turn.of_below b3 (Nat.le_refl _)) (fun k h => .inl h)
    have HK3 : Hid (Keeps (fun j => vcP (W.heap.size + 1) (.slice a m c) m j ∨ q j) W2 w3) := show Keeps _ _ _ from ⟨b3.size, fun j _ hl => b3.block j hl⟩
    cases bb with
    | false =>
      have e := hfi.2 rfl
      have HE := Lib.hid e
      have HJ3 := Lib.hid hJ3
      have HY3 := Lib.hid hY3
      clear e hfi hJ3 hY3 b3 hld
      gi_wp2_with fail
      refine ⟨(by intro f h; cases h), ?_⟩
      gi_wp2_with fail
      refine ⟨HK3.out, ?_, ⟨HY3.out, iYq⟩, by omega⟩
      rw [HE.out]
      exact HJ3.out
    | true =>
      obtain ⟨hsp2, e⟩ := hfi.1 rfl
      have HE := Lib.hid e
      obtain ⟨fn, tmps, assign, body, hy, hRn⟩ := HY.out _ k _ w3 hJ3 (by omega) (fun j h => by
        rcases h with h | h
        · have := HQB.out j h; omega
        · omega) hsp2
      have HRN := Lib.hid hRn
      unfold encH at hy
      have cY := hY3.cell
      have HY3 := Lib.hid hY3
      clear e hfi hJ3 hY3 b3 hld hRn hsp2
      gi_wp2_with fail
      refine ⟨fun _ => by omega, ?_⟩
      refine (round_in HRN.out).mono ?_
      have fin : ∀ W4, Keeps (fun k => vcP H (.slice a m c) m k ∨ (q k ∨ (W.heap.size ≤ k ∧ k < W0.heap.size))) w3 W4 → Keeps (fun j => vcP (W.heap.size + 1) (.slice a m c) m j ∨ q j) W2 W4 ∧ BoxF W.heap.size 66 (.func (.yield lp) #[] #[]) q W4 ∧ W0.heap.size ≤ W4.heap.size := fun W4 h4 => by
        refine ⟨HK3.out.trans (h4.weaken fun j h => ?_), ⟨(h4.2 _ (.inr (.inr (by omega))) HY3.out.lt).trans HY3.out, iYq⟩, Nat.le_trans (by omega) h4.1⟩
        rcases h with (rfl | h) | h
        · exact .inr (.inr (by omega))
        · exact .inl (.inr h)
        · exact .inr (.inl h)
      have HFIN := Lib.hid fin
      clear fin
      rintro e W4 ⟨hk4, ⟨rfl, hJ4⟩ | ⟨rfl, hX4⟩⟩
      · have HF := Lib.hid (HFIN.out W4 hk4)
        have HJ4 := Lib.hid hJ4
        clear hy hk4 hJ4 cY
        gi_wp2_with fail
        refine ⟨HF.out.1, ?_, HF.out.2.1, HF.out.2.2⟩
        rw [HE.out]
        exact HJ4.out
      · have HF := Lib.hid (HFIN.out W4 hk4)
        have HX4 := Lib.hid hX4
        clear hy hk4 hX4 cY
        gi_wp2_with fail
        refine ⟨HF.out.1, rfl, ?_⟩
        rw [HE.out]
        exact HX4.out
  case done =>
    rintro D ys W2 hD rfl ⟨iJ, iY, iW⟩ hK'
    gi_wp2_with fail
    refine leaves_one hK' fun W' ht hc => ⟨_, results_none rfl _ _ _, ⟨_, rfl⟩, .inl ⟨_, rfl, ?_⟩⟩
    have e : (List.range m).filter (nouF L) = holF L := by rw [← HLM.out]; rfl
    rw [e] at iJ
    exact HJ.out _ _ _ _ _ iJ (ht.mono fun k h => .inl h) (fun k h => h.elim)
  case stop =>
    rintro D cd pre W2 hD hpre ⟨rfl, hX⟩ hK'
    gi_wp2
    refine leaves_one hK' fun W' ht hc => ⟨_, results_none rfl _ _ _, ⟨_, rfl⟩, ?_⟩
    refine .inr ⟨_, ?_, HJX.out _ _ _ _ _ hX (ht.mono fun k h => .inl h) (fun k h => h.elim)⟩
    have h1 : pre.filter (nouF L) <+: (List.range m).filter (nouF L) := hpre.filter _
    rw [← HLM.out] at h1
    exact h1
end Go.Proofs.Ytmncoclmgcjjjaa
