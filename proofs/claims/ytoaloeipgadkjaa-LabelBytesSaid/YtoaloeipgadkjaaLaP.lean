/-
  label: slices.Sort and slices.Compact of texts, over a row of the call's own.
-/
import Derived.Sort.OwnSorted
import Derived.Test.YtoaloeipgadkjaaLaI
import Derived.Test.YtoaloeipgadkjaaLaN
namespace Go.Proofs.Ytoaloeipgadkjaa
open Go.RowKit Go.Shelf Go.Sort

theorem own_shrink {W : World} {base g n m cap : Nat} {e : TypeId} {xs : List Value} (h : W.ownsRow base e 1 (.slice (some ⟨g, 0, none⟩) n cap) n xs) (hm : m ≤ n) : W.ownsRow base e 1 (.slice (some ⟨g, 0, none⟩) m cap) m (xs.take m) := by
  obtain ⟨hl, h⟩ := h
  rcases h with ⟨h0, _⟩ | ⟨g', cap', cur, hv, hb, hg, h1, h2, h3, h4⟩
  · cases h0
  · simp only [Value.slice.injEq, Option.some.injEq, Addr.mk.injEq, and_true, true_and] at hv
    obtain ⟨rfl, rfl⟩ := hv
    refine ⟨by rw [List.length_take]; omega, .inr ⟨g, cap, cur, rfl, hb, hg, by omega, h2, h3, ?_⟩⟩
    rw [← h4, List.take_take]
    congr 1
    omega
theorem sortS_any (base : Nat) (v : Value) (ss : List (List UInt8)) (hl : ss.length ≤ 1000000) (W : World) (hb0 : base ≤ W.heap.size) (h : W.ownsRow base 9 1 v ss.length (ss.map encStr)) :
    Calls Try.prog 41 #[v] W fun e w' => e = .returned (.tuple #[]) ∧ w'.ownsRow base 9 1 v ss.length ((ss.mergeSort fun x y => decide (x ≤ y)).map encStr) ∧ Below base W w' := by
  rcases h.2 with ⟨rfl, h0⟩ | ⟨g, cap, cur, rfl, hbase, hb, h1, h2, h3, h4⟩
  · refine (AnyM.slices_Sort_string_none lay_sortS none 0 W).mono ?_
    rintro e w' ⟨rfl, rfl⟩
    have : ss = [] := List.eq_nil_of_length_eq_zero h0
    subst this
    exact ⟨rfl, by simpa using h, Below.refl _ _⟩
  · refine (AnyM.slices_Sort_string lay_sortS g 0 cap ss W (holds_of_block hb (by simpa using h4)) (Array.getElem?_eq_some_iff.1 hb).1 (by omega)).mono ?_
    rintro e w' ⟨rfl, n, os, rfl⟩
    refine ⟨rfl, ownsRow_sorted (by simp) hbase hb h1 h2 h3, ?_⟩
    exact (Below.refl _ _).grown (grownBy_sorted _) hb0 (fun j hj => by cases hj; exact hbase)
theorem compS_any (base : Nat) (v : Value) (zs : List (List UInt8)) (hl : zs.length ≤ 1000000) (W : World) (hb0 : base ≤ W.heap.size) (h : W.ownsRow base 9 1 v zs.length (zs.map encStr)) :
    Calls Try.prog 42 #[v] W fun e w' => ∃ u, e = .returned u ∧ w'.ownsRow base 9 1 u (Lib.compact zs).length ((Lib.compact zs).map encStr) ∧ Below base W w' := by
  rcases h.2 with ⟨rfl, h0⟩ | ⟨g, cap, cur, rfl, hbase, hb, h1, h2, h3, h4⟩
  · refine (Any.slices_Compact_string_empty lay_compS none 0 W).mono ?_
    rintro e w' ⟨rfl, rfl⟩
    have : zs = [] := List.eq_nil_of_length_eq_zero h0
    subst this
    exact ⟨_, rfl, h, Below.refl _ _⟩
  · have hcl : (Lib.compact zs).length ≤ zs.length := by
      unfold Lib.compact Lib.compactUpTo
      rw [List.length_map]
      refine Nat.le_trans (List.length_filter_le _ _) ?_
      simp
    refine (Any.slices_Compact_string lay_compS g 0 cap zs W (holds_of_block hb (by simpa using h4)) (by omega) h1).mono ?_
    rintro e w' ⟨rfl, n, rfl⟩
    have hg : grow (putRow encStr (Sort.ahead W n) g 0 (Lib.compact zs ++ List.replicate (zs.length - (Lib.compact zs).length) []).toArray) #[] = putRow encStr (Sort.ahead W n) g 0 (Lib.compact zs ++ List.replicate (zs.length - (Lib.compact zs).length) []).toArray := by
      have hP : ∀ P : World, grow P #[] = P := fun P => by unfold grow; rw [Array.append_empty]
      exact hP _
    have hlen : (Lib.compact zs ++ List.replicate (zs.length - (Lib.compact zs).length) []).length = zs.length := by simp; omega
    have ho := ownsRow_sorted (w := W) (n := n) (os := #[]) hlen hbase hb h1 h2 h3
    have hgr := grownBy_sorted (w := W) (g := g) (n := n) (os := #[]) (Lib.compact zs ++ List.replicate (zs.length - (Lib.compact zs).length) []).toArray
    rw [hg] at ho hgr
    refine ⟨_, rfl, ?_, (Below.refl _ _).grown hgr hb0 (fun j hj => by cases hj; exact hbase)⟩
    have := own_shrink ho hcl
    rwa [← List.map_take, List.take_left'] at this
    rfl
theorem infoNam : (Try.prog.info? 52).map (fun i => (i.zero, i.size, i.bytes)) = some (some (.agg #[.string { data := #[] }]), 1, 16) := by kernel_rfl
/-- A slice of names. -/
abbrev NmS (W : World) (v : Value) (l : List (List UInt8)) : Prop := Vec W v l.length 1 (l.map encStr)
set_option maxRecDepth 100000 in
set_option maxHeartbeats 4000000 in
theorem laRising_any (v : Value) (l : List (List UInt8)) (hl : l.length ≤ 1000) (w : World) (hs : NmS w v l) :
    Calls Try.prog 32 #[v, .func (.methodOf 52 "waterline/label.told") #[] #[]] w fun e w' => ∃ u, e = .returned u ∧ w'.ownsRow w.heap.size 9 1 u (sortU l).length ((sortU l).map encStr) ∧ Below w.heap.size w w' := by
  obtain ⟨i0, hi, hz0, hz1, hz2⟩ := info_parts infoStr
  have HI := Lib.hid hi
  obtain ⟨la, lcap, lb, loff, rfl, hlc, hla, hlx⟩ := TxS.cell hs
  have HLX := Lib.hid hlx
  have HLA := Lib.hid hla
  have HTO := Lib.hid laTold_any
  clear hs hlx hi hla
  obtain ⟨N, hN⟩ : ∃ N, l.length = N := ⟨_, rfl⟩
  have HN := Lib.hid hN
  rw [hN] at hl hlc HLX HLA ⊢
  clear hN
  go_enter Try.func32, Try.ntmps32
  go_wp2_with (at_make; refine wpList_make_own _ rfl _ _ 41 rfl w.heap.size 9 i0 (.string { data := #[] }) 1 Try.underlying41 HI.out hz0 hz1 .i64 .i64 _ N rfl rfl rfl (by rw [hz2]; omega) (by unfold maxLen; omega) (by omega) ?_; intro w2 hown2 hgrow2)
  have b2 : Below w.heap.size w w2 := (Below.refl _ _).grown hgrow2 (Nat.le_refl _) (fun k e => by cases e)
  go_loopw [5, 13] (fun kk ii wr => ∃ (i : Nat) (q : Value), q = kk ∧ i ≤ N ∧ ii = .int .i64 (i : Nat) ∧ Hid (wr.ownsRow w.heap.size 9 1 q i ((l.take i).map encStr)) ∧ Hid (Below w.heap.size w wr)) (fun _ ii _ => N - (intOf ii).toNat)
  case atStart => exact ⟨0, _, rfl, by omega, rfl, (show World.ownsRow _ _ _ _ _ _ _ by simpa using hown2), (show Below _ _ _ from b2)⟩
  case round =>
    obtain ⟨i, q, rfl, hiN, rfl, HG, HB⟩ := hrel
    clear hown2 hgrow2 b2
    by_cases hlt : i < N
    · have k2 : (i : Int) < (N : Int) := by omega
      obtain rfl := HLA.out (by omega)
      obtain ⟨hlb, hlcell⟩ := HLX.out (by omega)
      have cx := (HB.out.cell (p := ⟨lb, loff + i, none⟩) hlb).trans (hlcell i hlt)
      obtain ⟨x, hx⟩ : ∃ x, l[i]?.getD [] = x := ⟨_, rfl⟩
      have HXI : Hid (l.take (i + 1) = l.take i ++ [x]) := show _ = _ by
        rw [List.take_succ_eq_append_getElem (by rw [HN.out]; exact hlt), ← hx, List.getElem?_eq_getElem (by rw [HN.out]; exact hlt)]; rfl
      rw [hx] at cx
      have hm : ∀ (f : Nat) (W : World), (method (f + 1) 52 (.agg #[.string ⟨x.toArray⟩]) "waterline/label.told").run Try.prog W = .ok (26, .string ⟨x.toArray⟩) W := fun _ _ => by kernel_rfl
      clear hx hlcell
      go_wp2_with fail
      refine (HTO.out x _).mono ?_
      rintro e w1 ⟨rfl, rfl⟩
      have b1 : RowKit.Below wr.heap.size wr (wr.alloc (.cells #[encStr x] 52)) := (Below.refl _ _).alloc (Nat.le_refl _) _
      have HB1 : Hid (RowKit.Below w.heap.size w (wr.alloc (.cells #[encStr x] 52))) := show RowKit.Below _ _ _ from HB.out.trans (b1.mono HB.out.size)
      have b2 : RowKit.Below (wr.alloc (.cells #[encStr x] 52)).heap.size (wr.alloc (.cells #[encStr x] 52)) ((wr.alloc (.cells #[encStr x] 52)).alloc (.cells #[encStr x] 9)) := (Below.refl _ _).alloc (Nat.le_refl _) _
      have HB2 : Hid (RowKit.Below w.heap.size w ((wr.alloc (.cells #[encStr x] 52)).alloc (.cells #[encStr x] 9))) := show RowKit.Below _ _ _ from HB1.out.trans (b2.mono HB1.out.size)
      have HG2 := Lib.hid ((World.ownsRow.alloc HG.out (.cells #[encStr x] 52)).alloc (.cells #[encStr x] 9))
      have HV2 : Hid (Vec ((wr.alloc (.cells #[encStr x] 52)).alloc (.cells #[encStr x] 9)) (.slice (some ⟨wr.heap.size + 1, 0, none⟩) 1 1) 1 1 [encStr x]) := show Vec _ _ _ _ _ by
        have h := vec_newL (wr.alloc (.cells #[encStr x] 52)) #[encStr x] 9 1 1 rfl
        rwa [World.size_alloc] at h
      have hs2 := HB2.out.size
      clear hm cx b1 b2
      go_wp2_with (at_builtin; refine park ?_)
      unfold Park
      refine wpList_append_vec rfl _ _ 41 rfl 9 i0 _ 1 16 Try.underlying41 HI.out hz0 hz1 hz2 rfl (by decide) w.heap.size _ _ i 1 _ _ rfl rfl (.inr HG2.out) HV2.out (one_strs [x]) (by omega) (by omega) hs2 ?_
      rintro v3 w3 - b3 ⟨-, -, g3⟩
      have HG3 : Hid (w3.ownsRow w.heap.size 9 1 v3 (i + 1) ((l.take (i + 1)).map encStr)) := show World.ownsRow _ _ _ _ _ _ _ by
        have h := g3 HG2.out
        rw [HXI.out, List.map_append]
        exact h
      have HB3 : Hid (RowKit.Below w.heap.size w w3) := show RowKit.Below _ _ _ from HB2.out.trans b3
      clear b3 g3
      go_wp2_with fail
      go_roundw
      case rel => exact ⟨i + 1, _, rfl, by omega, by go_num, HG3, HB3⟩
      case measure => simp [intOf]; omega
    · obtain rfl : i = N := by omega
      have hq := HG.out
      rw [List.take_of_length_le (by rw [HN.out]; exact Nat.le_refl _), ← HN.out] at hq
      have HS := Lib.hid (sortS_any w.heap.size q l (by rw [HN.out]; omega) wr HB.out.size hq)
      have HC := Lib.hid (fun W h1 h2 => compS_any w.heap.size q (l.mergeSort fun x y => decide (x ≤ y)) (by rw [List.length_mergeSort, HN.out]; omega) W h1 h2)
      clear hq
      go_wp2_with fail
      refine HS.out.mono ?_
      rintro e w3 ⟨rfl, hr3, hb3⟩
      have HB3 : Hid (RowKit.Below w.heap.size w w3) := show RowKit.Below _ _ _ from HB.out.trans hb3
      go_wp2_with fail
      refine (HC.out w3 HB3.out.size (by rw [List.length_mergeSort]; exact hr3)).mono ?_
      rintro e w4 ⟨u, rfl, hr4, hb4⟩
      have HB4 : Hid (RowKit.Below w.heap.size w w4) := show RowKit.Below _ _ _ from HB3.out.trans hb4
      clear hr3 hb3 hb4
      go_wp2_with fail
      go_ret
      exact ⟨u, rfl, hr4, HB4.out⟩
end Go.Proofs.Ytoaloeipgadkjaa
