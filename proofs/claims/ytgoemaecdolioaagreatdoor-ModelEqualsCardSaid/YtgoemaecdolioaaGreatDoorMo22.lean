/-
  Texts LaP to TgI, as one.
-/
import Derived.Test.YtgoemaecdolioaaGreatDoorMo9
import Derived.Test.YtgoemaecdolioaaGreatDoorMo21
import Derived.Sort.OwnSorted
/-
  label: slices.Sort and slices.Compact of texts, over a row of the call's own.
-/
namespace Go.Proofs.YtgoemaecdolioaaGreatDoor
open Go.RowKit Go.Shelf Go.Sort

theorem own_shrink {W : World} {base g n m cap : Nat} {e : TypeId} {xs : List Value} (h : W.ownsRow base e 1 (.slice (some ⟨g, 0, none⟩) n cap) n xs) (hm : m ≤ n) : W.ownsRow base e 1 (.slice (some ⟨g, 0, none⟩) m cap) m (xs.take m) := by
  obtain ⟨hl, h⟩ := h
  rcases h with ⟨h0, _⟩ | ⟨g', cap', cur, hv, hb, hg, h1, h2, h3, h4⟩
  · cases h0
  · simp only [Value.slice.injEq, Option.some.injEq, Addr.mk.injEq, and_true, true_and] at hv
    obtain ⟨rfl, rfl⟩ := hv
    refine ⟨by rw [List.length_take]; omega, .inr ⟨g, cap, cur, rfl, hb, hg, by omega, h2, h3, ?_⟩⟩
    rw [← h4, List.take_take]
    congr 1
    omega
theorem sortS_any (base : Nat) (v : Value) (ss : List (List UInt8)) (hl : ss.length ≤ 1000000) (W : World) (hb0 : base ≤ W.heap.size) (h : W.ownsRow base 9 1 v ss.length (ss.map encStr)) :
    Calls Tryz.prog 217 #[v] W fun e w' => e = .returned (.tuple #[]) ∧ w'.ownsRow base 9 1 v ss.length ((ss.mergeSort fun x y => decide (x ≤ y)).map encStr) ∧ Below base W w' := by
  rcases h.2 with ⟨rfl, h0⟩ | ⟨g, cap, cur, rfl, hbase, hb, h1, h2, h3, h4⟩
  · refine (AnyM.slices_Sort_string_none lay_sortS none 0 W).mono ?_
    rintro e w' ⟨rfl, rfl⟩
    have : ss = [] := List.eq_nil_of_length_eq_zero h0
    subst this
    exact ⟨rfl, by simpa using h, Below.refl _ _⟩
  · refine (AnyM.slices_Sort_string lay_sortS g 0 cap ss W (holds_of_block hb (by simpa using h4)) (Array.getElem?_eq_some_iff.1 hb).1 (by omega)).mono ?_
    rintro e w' ⟨rfl, n, os, rfl⟩
    refine ⟨rfl, ownsRow_sorted (by simp) hbase hb h1 h2 h3, ?_⟩
    exact (Below.refl _ _).grown (grownBy_sorted _) hb0 (fun j hj => by cases hj; exact hbase)
theorem compS_any (base : Nat) (v : Value) (zs : List (List UInt8)) (hl : zs.length ≤ 1000000) (W : World) (hb0 : base ≤ W.heap.size) (h : W.ownsRow base 9 1 v zs.length (zs.map encStr)) :
    Calls Tryz.prog 218 #[v] W fun e w' => ∃ u, e = .returned u ∧ w'.ownsRow base 9 1 u (Lib.compact zs).length ((Lib.compact zs).map encStr) ∧ Below base W w' := by
  rcases h.2 with ⟨rfl, h0⟩ | ⟨g, cap, cur, rfl, hbase, hb, h1, h2, h3, h4⟩
  · refine (Any.slices_Compact_string_empty lay_compS none 0 W).mono ?_
    rintro e w' ⟨rfl, rfl⟩
    have : zs = [] := List.eq_nil_of_length_eq_zero h0
    subst this
    exact ⟨_, rfl, h, Below.refl _ _⟩
  · have hcl : (Lib.compact zs).length ≤ zs.length := by
      unfold Lib.compact Lib.compactUpTo
      rw [List.length_map]
      refine Nat.le_trans (List.length_filter_le _ _) ?_
      simp
    refine (Any.slices_Compact_string lay_compS g 0 cap zs W (holds_of_block hb (by simpa using h4)) (by omega) h1).mono ?_
    rintro e w' ⟨rfl, n, rfl⟩
    have hg : grow (putRow encStr (Sort.ahead W n) g 0 (Lib.compact zs ++ List.replicate (zs.length - (Lib.compact zs).length) []).toArray) #[] = putRow encStr (Sort.ahead W n) g 0 (Lib.compact zs ++ List.replicate (zs.length - (Lib.compact zs).length) []).toArray := by
      have hP : ∀ P : World, grow P #[] = P := fun P => by unfold grow; rw [Array.append_empty]
      exact hP _
    have hlen : (Lib.compact zs ++ List.replicate (zs.length - (Lib.compact zs).length) []).length = zs.length := by simp; omega
    have ho := ownsRow_sorted (w := W) (n := n) (os := #[]) hlen hbase hb h1 h2 h3
    have hgr := grownBy_sorted (w := W) (g := g) (n := n) (os := #[]) (Lib.compact zs ++ List.replicate (zs.length - (Lib.compact zs).length) []).toArray
    rw [hg] at ho hgr
    refine ⟨_, rfl, ?_, (Below.refl _ _).grown hgr hb0 (fun j hj => by cases hj; exact hbase)⟩
    have := own_shrink ho hcl
    rwa [← List.map_take, List.take_left'] at this
    rfl
theorem infoNam : (Tryz.prog.info? 249).map (fun i => (i.zero, i.size, i.bytes)) = some (some (.agg #[.string { data := #[] }]), 1, 16) := by kernel_rfl
/-- A slice of names. -/
abbrev NmS (W : World) (v : Value) (l : List (List UInt8)) : Prop := Vec W v l.length 1 (l.map encStr)
set_option maxRecDepth 100000 in
set_option maxHeartbeats 4000000 in
theorem laRising_any (v : Value) (l : List (List UInt8)) (hl : l.length ≤ 1000) (w : World) (hs : NmS w v l) :
    Calls Tryz.prog 201 #[v, .func (.methodOf 249 "waterline/label.told") #[] #[]] w fun e w' => ∃ u, e = .returned u ∧ w'.ownsRow w.heap.size 9 1 u (sortU l).length ((sortU l).map encStr) ∧ Below w.heap.size w w' := by
  obtain ⟨i0, hi, hz0, hz1, hz2⟩ := info_parts infoStr
  have HI := Lib.hid hi
  obtain ⟨la, lcap, lb, loff, rfl, hlc, hla, hlx⟩ := TxS.cell hs
  have HLX := Lib.hid hlx
  have HLA := Lib.hid hla
  have HTO := Lib.hid laTold_any
  clear hs hlx hi hla
  obtain ⟨N, hN⟩ : ∃ N, l.length = N := ⟨_, rfl⟩
  have HN := Lib.hid hN
  rw [hN] at hl hlc HLX HLA ⊢
  clear hN
  go_enter Tryz.func201, Tryz.ntmps201
  go_wp2_with (at_make; refine wpList_make_own _ rfl _ _ 42 rfl w.heap.size 9 i0 (.string { data := #[] }) 1 Tryz.underlying42 HI.out hz0 hz1 .i64 .i64 _ N rfl rfl rfl (by rw [hz2]; omega) (by unfold maxLen; omega) (by omega) ?_; intro w2 hown2 hgrow2)
  have b2 : Below w.heap.size w w2 := (Below.refl _ _).grown hgrow2 (Nat.le_refl _) (fun k e => by cases e)
  go_loopw [5, 13] (fun kk ii wr => ∃ (i : Nat) (q : Value), q = kk ∧ i ≤ N ∧ ii = .int .i64 (i : Nat) ∧ Hid (wr.ownsRow w.heap.size 9 1 q i ((l.take i).map encStr)) ∧ Hid (Below w.heap.size w wr)) (fun _ ii _ => N - (intOf ii).toNat)
  case atStart => exact ⟨0, _, rfl, by omega, rfl, (show World.ownsRow _ _ _ _ _ _ _ by simpa using hown2), (show Below _ _ _ from b2)⟩
  case round =>
    obtain ⟨i, q, rfl, hiN, rfl, HG, HB⟩ := hrel
    clear hown2 hgrow2 b2
    by_cases hlt : i < N
    · have k2 : (i : Int) < (N : Int) := by omega
      obtain rfl := HLA.out (by omega)
      obtain ⟨hlb, hlcell⟩ := HLX.out (by omega)
      have cx := (HB.out.cell (p := ⟨lb, loff + i, none⟩) hlb).trans (hlcell i hlt)
      obtain ⟨x, hx⟩ : ∃ x, l[i]?.getD [] = x := ⟨_, rfl⟩
      have HXI : Hid (l.take (i + 1) = l.take i ++ [x]) := show _ = _ by
        rw [List.take_succ_eq_append_getElem (by rw [HN.out]; exact hlt), ← hx, List.getElem?_eq_getElem (by rw [HN.out]; exact hlt)]; rfl
      rw [hx] at cx
      have hm : ∀ (f : Nat) (W : World), (method (f + 1) 249 (.agg #[.string ⟨x.toArray⟩]) "waterline/label.told").run Tryz.prog W = .ok (202, .string ⟨x.toArray⟩) W := fun _ _ => by kernel_rfl
      clear hx hlcell
      go_wp2_with fail
      refine (HTO.out x _).mono ?_
      rintro e w1 ⟨rfl, rfl⟩
      have b1 : RowKit.Below wr.heap.size wr (wr.alloc (.cells #[encStr x] 249)) := (Below.refl _ _).alloc (Nat.le_refl _) _
      have HB1 : Hid (RowKit.Below w.heap.size w (wr.alloc (.cells #[encStr x] 249))) := show RowKit.Below _ _ _ from HB.out.trans (b1.mono HB.out.size)
      have b2 : RowKit.Below (wr.alloc (.cells #[encStr x] 249)).heap.size (wr.alloc (.cells #[encStr x] 249)) ((wr.alloc (.cells #[encStr x] 249)).alloc (.cells #[encStr x] 9)) := (Below.refl _ _).alloc (Nat.le_refl _) _
      have HB2 : Hid (RowKit.Below w.heap.size w ((wr.alloc (.cells #[encStr x] 249)).alloc (.cells #[encStr x] 9))) := show RowKit.Below _ _ _ from HB1.out.trans (b2.mono HB1.out.size)
      have HG2 := Lib.hid ((World.ownsRow.alloc HG.out (.cells #[encStr x] 249)).alloc (.cells #[encStr x] 9))
      have HV2 : Hid (Vec ((wr.alloc (.cells #[encStr x] 249)).alloc (.cells #[encStr x] 9)) (.slice (some ⟨wr.heap.size + 1, 0, none⟩) 1 1) 1 1 [encStr x]) := show Vec _ _ _ _ _ by
        have h := vec_newL (wr.alloc (.cells #[encStr x] 249)) #[encStr x] 9 1 1 rfl
        rwa [World.size_alloc] at h
      have hs2 := HB2.out.size
      clear hm cx b1 b2
      go_wp2_with (at_builtin; refine park ?_)
      unfold Park
      refine wpList_append_vec rfl _ _ 42 rfl 9 i0 _ 1 16 Tryz.underlying42 HI.out hz0 hz1 hz2 rfl (by decide) w.heap.size _ _ i 1 _ _ rfl rfl (.inr HG2.out) HV2.out (one_strs [x]) (by omega) (by omega) hs2 ?_
      rintro v3 w3 - b3 ⟨-, -, g3⟩
      have HG3 : Hid (w3.ownsRow w.heap.size 9 1 v3 (i + 1) ((l.take (i + 1)).map encStr)) := show World.ownsRow _ _ _ _ _ _ _ by
        have h := g3 HG2.out
        rw [HXI.out, List.map_append]
        exact h
      have HB3 : Hid (RowKit.Below w.heap.size w w3) := show RowKit.Below _ _ _ from HB2.out.trans b3
      clear b3 g3
      go_wp2_with fail
      go_roundw
      case rel => exact ⟨i + 1, _, rfl, by omega, by go_num, HG3, HB3⟩
      case measure => simp [intOf]; omega
    · obtain rfl : i = N := by omega
      have hq := HG.out
      rw [List.take_of_length_le (by rw [HN.out]; exact Nat.le_refl _), ← HN.out] at hq
      have HS := Lib.hid (sortS_any w.heap.size q l (by rw [HN.out]; omega) wr HB.out.size hq)
      have HC := Lib.hid (fun W h1 h2 => compS_any w.heap.size q (l.mergeSort fun x y => decide (x ≤ y)) (by rw [List.length_mergeSort, HN.out]; omega) W h1 h2)
      clear hq
      go_wp2_with fail
      refine HS.out.mono ?_
      rintro e w3 ⟨rfl, hr3, hb3⟩
      have HB3 : Hid (RowKit.Below w.heap.size w w3) := show RowKit.Below _ _ _ from HB.out.trans hb3
      go_wp2_with fail
      refine (HC.out w3 HB3.out.size (by rw [List.length_mergeSort]; exact hr3)).mono ?_
      rintro e w4 ⟨u, rfl, hr4, hb4⟩
      have HB4 : Hid (RowKit.Below w.heap.size w w4) := show RowKit.Below _ _ _ from HB3.out.trans hb4
      clear hr3 hb3 hb4
      go_wp2_with fail
      go_ret
      exact ⟨u, rfl, hr4, HB4.out⟩
end Go.Proofs.YtgoemaecdolioaaGreatDoor

/-
  label: Sorted.
-/
namespace Go.Proofs.YtgoemaecdolioaaGreatDoor
open Go.RowKit Go.Shelf

set_option maxRecDepth 100000 in
set_option maxHeartbeats 4000000 in
theorem laSorted_any (v : Value) (l : List (List UInt8)) (hl : l.length ≤ 1000) (w : World) (hs : TxS w v l) :
    Calls Tryz.prog 181 #[v] w fun e w' => (l.all rightN = true → ∃ u, e = .returned (.tuple #[u, .int .i64 0]) ∧ w'.ownsRow w.heap.size 9 1 u (sortU l).length ((sortU l).map encStr)) ∧
      (l.all rightN = false → e = .returned (.tuple #[.slice none 0 0, .int .i64 160])) ∧ Below w.heap.size w w' := by
  obtain ⟨i0, hi, hz0, hz1, hz2⟩ := info_parts infoNam
  have HI := Lib.hid hi
  obtain ⟨la, lcap, lb, loff, rfl, hlc, hla, hlx⟩ := TxS.cell hs
  have HLX := Lib.hid hlx
  have HLA := Lib.hid hla
  have HNM := Lib.hid named_any
  clear hs hlx hi hla
  obtain ⟨N, hN⟩ : ∃ N, l.length = N := ⟨_, rfl⟩
  have HN := Lib.hid hN
  rw [hN] at hl hlc HLX HLA ⊢
  clear hN
  go_enter Tryz.func181, Tryz.ntmps181
  go_wp2_with (at_make; refine wpList_make_own _ rfl _ _ 246 rfl w.heap.size 249 i0 (.agg #[.string { data := #[] }]) 1 Tryz.underlying246 HI.out hz0 hz1 .i64 .i64 _ N rfl rfl rfl (by rw [hz2]; omega) (by unfold maxLen; omega) (by omega) ?_; intro w2 hown2 hgrow2)
  have b2 : Below w.heap.size w w2 := (Below.refl _ _).grown hgrow2 (Nat.le_refl _) (fun k e => by cases e)
  go_loopw [4, 14] (fun kk ii wr => ∃ (i : Nat) (q : Value), q = kk ∧ i ≤ N ∧ ii = .int .i64 (i : Nat) ∧ Hid ((l.take i).all rightN = true) ∧ Hid (wr.ownsRow w.heap.size 249 1 q i ((l.take i).map encStr)) ∧ Hid (Below w.heap.size w wr)) (fun _ ii _ => N - (intOf ii).toNat)
  case atStart => exact ⟨0, _, rfl, by omega, rfl, (show _ = _ from rfl), (show World.ownsRow _ _ _ _ _ _ _ by simpa using hown2), (show Below _ _ _ from b2)⟩
  case round =>
    obtain ⟨i, q, rfl, hiN, rfl, HA, HG, HB⟩ := hrel
    clear hown2 hgrow2 b2
    by_cases hlt : i < N
    · have k2 : (i : Int) < (N : Int) := by omega
      obtain rfl := HLA.out (by omega)
      obtain ⟨hlb, hlcell⟩ := HLX.out (by omega)
      have cx := (HB.out.cell (p := ⟨lb, loff + i, none⟩) hlb).trans (hlcell i hlt)
      obtain ⟨x, hx⟩ : ∃ x, l[i]?.getD [] = x := ⟨_, rfl⟩
      have hxm : x ∈ l := by
        rw [← hx, List.getElem?_eq_getElem (by rw [HN.out]; exact hlt)]
        exact List.getElem_mem _
      have HXI : Hid (l.take (i + 1) = l.take i ++ [x]) := show _ = _ by
        rw [List.take_succ_eq_append_getElem (by rw [HN.out]; exact hlt), ← hx, List.getElem?_eq_getElem (by rw [HN.out]; exact hlt)]; rfl
      rw [hx] at cx
      clear hx hlcell
      have HNX := Lib.hid (HNM.out x)
      cases hr : rightN x with
      | false =>
        have HF : Hid (l.all rightN = false) := show _ = _ from List.all_eq_false.2 ⟨x, hxm, by rw [hr]; simp⟩
        rw [show errN x = 160 by unfold errN; rw [hr]; rfl, show nameN x = [] by unfold nameN; rw [hr]; rfl] at HNX
        clear hr hxm
        go_wp2_with fail
        refine (HNX.out _).mono ?_
        rintro e w1 ⟨rfl, hb1⟩
        have HB1 : Hid (Below w.heap.size w w1) := show Below _ _ _ from HB.out.trans (hb1.mono HB.out.size)
        clear hb1 cx
        go_wp2_with fail
        go_ret2
        exact ⟨fun h => (by rw [HF.out] at h; cases h), fun _ => rfl, HB1.out.alloc HB1.out.size _⟩
      | true =>
        have HA2 : Hid ((l.take (i + 1)).all rightN = true) := show _ = _ by rw [HXI.out, List.all_append, HA.out]; simp [hr]
        rw [show errN x = 0 by unfold errN; rw [hr]; rfl, show nameN x = x by unfold nameN; rw [hr]; rfl] at HNX
        clear hr hxm
        go_wp2_with fail
        refine (HNX.out _).mono ?_
        rintro e w1 ⟨rfl, hb1⟩
        have HB1 : Hid (Below w.heap.size w w1) := show Below _ _ _ from HB.out.trans (hb1.mono HB.out.size)
        have HG1 := Lib.hid (ownsRow_below HG.out hb1)
        clear hb1 cx
        have HG2 := Lib.hid ((World.ownsRow.alloc HG1.out (.cells #[encStr x] 249)).alloc (.cells #[encStr x] 249))
        have HV2 : Hid (Vec ((w1.alloc (.cells #[encStr x] 249)).alloc (.cells #[encStr x] 249)) (.slice (some ⟨w1.heap.size + 1, 0, none⟩) 1 1) 1 1 [encStr x]) := show Vec _ _ _ _ _ by
          have h := vec_newL (w1.alloc (.cells #[encStr x] 249)) #[encStr x] 249 1 1 rfl
          rwa [World.size_alloc] at h
        have HB2 : Hid (Below w.heap.size w ((w1.alloc (.cells #[encStr x] 249)).alloc (.cells #[encStr x] 249))) := show Below _ _ _ from (HB1.out.alloc HB1.out.size _).alloc (by have := HB1.out.size; simp; omega) _
        have hs2 := HB2.out.size
        go_wp2_with (at_builtin; refine park ?_)
        unfold Park
        refine wpList_append_vec rfl _ _ 246 rfl 249 i0 _ 1 16 Tryz.underlying246 HI.out hz0 hz1 hz2 rfl (by decide) w.heap.size _ _ i 1 _ _ rfl rfl (.inr HG2.out) HV2.out (one_strs [x]) (by omega) (by omega) hs2 ?_
        rintro v3 w3 - b3 ⟨-, -, g3⟩
        have HG3 : Hid (w3.ownsRow w.heap.size 249 1 v3 (i + 1) ((l.take (i + 1)).map encStr)) := show World.ownsRow _ _ _ _ _ _ _ by
          have h := g3 HG2.out
          rw [HXI.out, List.map_append]
          exact h
        have HB3 : Hid (Below w.heap.size w w3) := show Below _ _ _ from HB2.out.trans b3
        clear b3 g3
        go_wp2_with fail
        go_roundw
        case rel => exact ⟨i + 1, _, rfl, by omega, by go_num, HA2, HG3, HB3⟩
        case measure => simp [intOf]; omega
    · obtain rfl : i = N := by omega
      have hq := HG.out
      have hall := HA.out
      rw [List.take_of_length_le (by rw [HN.out]; exact Nat.le_refl _)] at hq hall
      rw [← HN.out] at hq
      have HALL := Lib.hid hall
      have HR := Lib.hid (laRising_any q l (by rw [HN.out]; omega) wr (vec_of_own hq))
      clear hq hall
      go_wp2_with fail
      refine HR.out.mono ?_
      rintro e w3 ⟨u, rfl, hr3, hb3⟩
      have HB3 : Hid (Below w.heap.size w w3) := show Below _ _ _ from HB.out.trans (hb3.mono HB.out.size)
      have HR3 := Lib.hid (own_lowG hr3 HB.out.size)
      clear hr3 hb3
      go_wp2_with fail
      go_ret2
      exact ⟨fun _ => ⟨u, rfl, HR3.out⟩, fun h => (by rw [HALL.out] at h; cases h), HB3.out⟩
end Go.Proofs.YtgoemaecdolioaaGreatDoor

/-
  tree: bytes cloned, names that rise; what Bytes and Names ask.
-/
namespace Go.Proofs.YtgoemaecdolioaaGreatDoor
open Go.RowKit Go.Shelf Go.Maps
attribute [local go_sem] Oper.semAt_some

theorem own_fb10 {W : World} {B : Nat} {v : Value} {xs : List Nat} (h : W.ownsRow B 5 1 v xs.length (valsOf .u8 xs)) (hx : WM.Bytes256 xs) : FB W v xs := by
  refine ⟨own_sl h, hx, fun a n c e => ?_⟩
  rcases h.2 with ⟨h0, _⟩ | ⟨g', cap', cur, h0, _, _, hc, hm, _⟩
  · rw [h0] at e; cases e; omega
  · rw [h0] at e
    simp only [Value.slice.injEq] at e
    unfold maxLen at hm
    omega
theorem own_base10 {W : World} {base : Nat} {e : TypeId} {k n : Nat} {v : Value} {xs : List Value} (h : W.ownsRow base e k v n xs) {g : Nat} (hg : v.ownBlock = some g) : base ≤ g := by
  rcases h.2 with ⟨rfl, -⟩ | ⟨g', cap, cur, rfl, hb, hh, -⟩
  · cases hg
  · have e2 : g' = g := by simpa [Value.ownBlock] using hg
    subst e2
    exact hb
set_option maxHeartbeats 2000000 in
theorem clone8_new {v : Value} {xs : List Nat} (w : World) (h : FB w v xs) (hl : xs.length ≤ 4096) :
    Calls Tryz.prog 111 #[v] w fun e w' => ∃ r, e = .returned r ∧ FB w' r xs ∧ Below w.heap.size w w' ∧ ∀ k, r.ownBlock = some k → w.heap.size ≤ k := by
  obtain ⟨i0, hi, hz0, hz1, hz2⟩ := info_parts infoU8
  have HS := Lib.hid h.sl
  have HA := Lib.hid h.all
  clear h
  have HL := Lib.hid (World.ownsRow_lit (base := w.heap.size) (size := 1) w #[] 0 (e := 5) (Nat.le_refl _) (by unfold maxLen; omega) rfl)
  have HF : Hid (∀ W r, World.ownsRow W w.heap.size 5 1 r xs.length (valsOf .u8 xs) → FB W r xs) := show ∀ W r, _ from fun W r ho => own_fb10 ho HA.out
  obtain ⟨a, c, b, off, rfl, -, ha, -⟩ := HS.out.cell
  rcases a with _ | ad
  · have h0 : xs = [] := by
      rcases Nat.eq_zero_or_pos xs.length with h | h
      · exact List.eq_nil_of_length_eq_zero h
      · cases ha h
    subst h0
    clear ha
    have hq : ∀ W : World, (binOp .eql 23 (.slice none 0 c) (.slice none 0 0)).run Tryz.prog W = .ok (.bool true) W := fun _ => by kernel_rfl
    go_enter Tryz.func111, Tryz.ntmps111
    go_wp2
    go_ret
    exact ⟨_, rfl, nil_fb _, Below.refl _ _, fun k e => by cases e⟩
  · clear ha
    have hq : ∀ (m : Nat) (W : World), (binOp .eql 23 (.slice (some ad) m c) (.slice none 0 0)).run Tryz.prog W = .ok (.bool false) W := fun _ _ => by kernel_rfl
    go_enter Tryz.func111, Tryz.ntmps111
    go_wp2_with (first
      | (at_builtin; refine wpList_append_sl _ (by rfl) (.tmp 5) (.tmp 6) 23 rfl w.heap.size 5 i0 (.int .u8 0) 1 .u8 Tryz.underlying23 hi hz0 hz1 hz2 rfl _ [] rfl HL.out _ xs rfl (HS.out.below ((Below.refl _ _).alloc (Nat.le_refl _) _)) (by unfold maxLen; simp; omega) (by simp; omega) (by simp) ?_; intro v1 w1 own1 grow1 at1))
    go_ret
    exact ⟨_, rfl, HF.out _ _ own1, ((Below.refl _ _).alloc (Nat.le_refl _) _).grown grow1 (by simp) (fun j e => Nat.le_of_eq (Option.some.inj e)), fun k e => (own_base10 own1 e)⟩
theorem clone8_any {v : Value} {xs : List Nat} (w : World) (h : FB w v xs) (hl : xs.length ≤ 4096) :
    Calls Tryz.prog 111 #[v] w fun e w' => ∃ r, e = .returned r ∧ FB w' r xs ∧ Below w.heap.size w w' := (clone8_new w h hl).mono fun _ _ ⟨r, h1, h2, h3, _⟩ => ⟨r, h1, h2, h3⟩
theorem strKeys_dNm (nm : Nm) : strKeys (dNm nm) = nm.map (·.1) := by
  unfold dNm strKeys
  simp only [List.map_map]
  rfl
set_option maxRecDepth 100000 in
set_option maxHeartbeats 2000000 in
theorem rising10_any {w : World} {b n : Nat} {nm : Nm} (h : NameMap w b n nm) (hr : ∀ p ∈ nm, rightN p.1 = true) (hn : n ≤ 1000) :
    Calls Tryz.prog 152 #[.map (some b)] w fun e w' => ∃ u, e = .returned u ∧ OwnT w' w.heap.size u (sortU (nm.map (·.1))) ∧ Below w.heap.size w w' := by
  refine (callsIn_wide (n := 6)).1 ?_
  have hbl := h.lt
  have hlen := h.len_le
  have hseq : SeqGives Fence.wide 3 Tryz.prog 204 #[.pointer (some ⟨w.heap.size, 0, none⟩)] encStr (fun ss => ss.Perm (strKeys (dNm nm))) (Maps.size (dNm nm)) (w.alloc (.cells #[.map (some b)] 106)) :=
    AnyZ.keys_gives (ρ := lay_keysN_ren) { lay_keysN with } Fence.wide _ trivial rfl (by omega) w.heap.size b n (dNm nm) _ (by simp) (by simp) (h.keep (Below.heap_alloc _ _ b hbl))
  have cK : ∀ mb W, CallsIn Fence.wide 5 Tryz.prog 183 #[.map mb] W fun e w' => e = .returned (.func (.func 204) #[] #[.pointer (some ⟨W.heap.size, 0, none⟩)]) ∧ w' = W.alloc (.cells #[.map mb] 106) := fun mb W => AnyZ.keys_in lay_keysN Fence.wide 5 trivial rfl mb W
  have cC := AnyZ.collect_in lay_collectS Fence.wide 5 trivial trivial rfl (by omega) 204 #[.pointer (some ⟨w.heap.size, 0, none⟩)] trivial (enters_of Tryz.func204 (by kernel_rfl) rfl) _ _ (by rw [dNm_size]; unfold maxLen; omega) (by rw [dNm_size]; omega) _ hseq
  change CallsIn _ _ Tryz.prog 182 _ _ _ at cC
  have HL : Hid (∀ W v ss, ss.Perm (strKeys (dNm nm)) → TxS W v ss → CallsIn Fence.wide 5 Tryz.prog 181 #[v] W fun e w' => ∃ u, e = .returned (.tuple #[u, .int .i64 0]) ∧ OwnT w' W.heap.size u (sortU (nm.map (·.1))) ∧ Below W.heap.size W w') := show ∀ W v ss, _ from fun W v ss hp hv => by
    have e1 := strKeys_dNm nm
    rw [e1] at hp
    have hl : ss.length ≤ 1000 := by rw [hp.length_eq, List.length_map]; omega
    have ha : ss.all rightN = true := List.all_eq_true.2 fun s hs => by
      obtain ⟨p, hp1, rfl⟩ := List.mem_map.1 (hp.mem_iff.1 hs)
      exact hr p hp1
    refine callsIn_wide.2 ((laSorted_any v ss hl W hv).mono fun e w' ⟨g1, _, g3⟩ => ?_)
    obtain ⟨u, g4, g5⟩ := g1 ha
    rw [sortU_ext (fun x => hp.mem_iff)] at g5
    exact ⟨u, g4, g5, g3⟩
  have HBW : Hid (Below w.heap.size w (w.alloc (.cells #[.map (some b)] 106))) := show Below _ _ _ from (Below.refl _ _).alloc (Nat.le_refl _) _
  clear hseq h hr hn hlen hbl
  have hfK : Fence.wide.fn 183 := trivial
  have hfC : Fence.wide.fn 182 := trivial
  have hfS : Fence.wide.fn 181 := trivial
  refine callsIn_of_wp Tryz.func152 rfl trivial ?_ rfl
  simp only [Tryz.ntmps152, List.size_toArray, List.length_cons, List.length_nil, Nat.reduceAdd, Nat.reduceSub, Array.replicate_succ, Array.replicate_zero, List.push_toArray, List.append_toArray, List.nil_append, List.cons_append]
  gi_wp2_with (first
    | (gi_at_call 183; refine (cK _ _).mono ?_; rintro e w' ⟨rfl, rfl⟩)
    | (gi_at_call 182; refine cC.mono ?_; rintro e w1 ⟨v, ss, rfl, hS, hrow, -, hb1⟩; have HB1 := Lib.hid (HBW.out.trans (hb1.mono HBW.out.size)); have HV := Lib.hid (HL.out w1 v ss hS (OwnT.txs (B := w.heap.size) (ownsRow_base_a hrow (by simp)))))
    | (gi_at_call 181; refine HV.out.mono ?_; rintro e w2 ⟨u, rfl, ho, hb2⟩))
  have hb12 := HB1.out.trans (hb2.mono HB1.out.size)
  have ho2 : OwnT w2 w.heap.size u (sortU (nm.map (·.1))) := ownsRow_base_a ho HB1.out.size
  clear cC HL HV
  go_ret
  exact ⟨u, rfl, ho2, hb12⟩
/-- It is told, or refused ahead of all. -/
def AskEnd (bad : Bool) (c : Int) (P : World → Value → Prop) (W : World) (e : Ending) (w' : World) : Prop := (bad = true ∧ e = .panicked (refuse c) ∧ w' = W) ∨ (bad = false ∧ ∃ u, e = .returned u ∧ P w' u ∧ Below W.heap.size W w')
theorem askBytes_any {W : World} {b : Nat} {x : TN} (h : NodeAt W b x) (hl : x.bytes.length ≤ 448) : Calls Tryz.prog 147 #[.pointer (some ⟨b, 0, none⟩)] W (AskEnd x.isDir 204 (fun w' u => FB w' u x.bytes) W) := by
  have c3 : W.cell? ⟨b, 3, none⟩ = some x.cont := h.blk.cell rfl
  have HM := Lib.hid (mustBeFile_any h)
  have HC := Lib.hid (clone8_any W h.fb (by omega))
  obtain ⟨u0, hu0⟩ : ∃ u, x.cont = u := ⟨_, rfl⟩
  rw [hu0] at c3 HC
  obtain ⟨d, hd⟩ : ∃ d, x.isDir = d := ⟨_, rfl⟩
  rw [hd] at HM ⊢
  obtain ⟨ds, hds⟩ : ∃ ds, x.bytes = ds := ⟨_, rfl⟩
  rw [hds] at HC ⊢
  clear h hl hd hu0 hds
  go_enter Tryz.func147, Tryz.ntmps147
  go_wp2_with fail
  refine HM.out.mono ?_
  rintro e w1 (⟨hg, ⟨q, rfl⟩, rfl⟩ | ⟨hg, rfl, rfl⟩)
  · have hd : d = false := by cases d <;> simp_all
    subst hd
    clear hg
    go_wp2_with fail
    refine HC.out.mono ?_
    rintro e w2 ⟨u, rfl, hf, hb⟩
    have HF := Lib.hid hf
    have HB := Lib.hid hb
    clear hf hb
    go_wp2_with fail
    go_ret
    exact (show AskEnd _ _ _ _ _ _ from .inr ⟨rfl, u, rfl, HF.out, HB.out⟩)
  · have hd : d = true := by cases d <;> simp_all
    exact ⟨rfl, (show AskEnd _ _ _ _ _ _ from .inl ⟨hd, rfl, rfl⟩)⟩
theorem askNames_any {W : World} {b : Nat} {x : TN} (h : NodeAt W b x) (hr : ∀ p ∈ x.nm, rightN p.1 = true) (hn : x.cnt ≤ 1000) : Calls Tryz.prog 150 #[.pointer (some ⟨b, 0, none⟩)] W (AskEnd (!x.isDir) 201 (fun w' u => TxS w' u (sortU (x.nm.map (·.1)))) W) := by
  have c0 : W.cell? ⟨b, 0, none⟩ = some (.map (some x.map)) := h.blk.cell rfl
  have HM := Lib.hid (mustBeDir_any h)
  have HC := Lib.hid (rising10_any h.names hr hn)
  obtain ⟨d, hd⟩ : ∃ d, x.isDir = d := ⟨_, rfl⟩
  rw [hd] at HM ⊢
  obtain ⟨l, hl⟩ : ∃ l, sortU (x.nm.map (·.1)) = l := ⟨_, rfl⟩
  rw [hl] at HC ⊢
  clear h hr hn hd hl
  go_enter Tryz.func150, Tryz.ntmps150
  go_wp2_with fail
  refine HM.out.mono ?_
  rintro e w1 (⟨rfl, ⟨q, rfl⟩, rfl⟩ | ⟨rfl, rfl, rfl⟩)
  · go_wp2_with fail
    refine HC.out.mono ?_
    rintro e w2 ⟨u, rfl, hf, hb⟩
    have HF := Lib.hid hf
    have HB := Lib.hid hb
    clear hf hb
    go_wp2_with fail
    go_ret
    exact (show AskEnd _ _ _ _ _ _ from .inr ⟨rfl, u, rfl, HF.out.txs, HB.out⟩)
  · exact ⟨rfl, (show AskEnd _ _ _ _ _ _ from .inl ⟨rfl, rfl, rfl⟩)⟩
end Go.Proofs.YtgoemaecdolioaaGreatDoor
