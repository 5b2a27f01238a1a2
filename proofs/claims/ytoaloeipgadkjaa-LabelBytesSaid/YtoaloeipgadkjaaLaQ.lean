/-
  label: Sorted.
-/
import Derived.Test.YtoaloeipgadkjaaLaP
namespace Go.Proofs.Ytoaloeipgadkjaa
open Go.RowKit Go.Shelf

set_option maxRecDepth 100000 in
set_option maxHeartbeats 4000000 in
theorem laSorted_any (v : Value) (l : List (List UInt8)) (hl : l.length ≤ 1000) (w : World) (hs : TxS w v l) :
    Calls Try.prog 20 #[v] w fun e w' => (l.all rightN = true → ∃ u, e = .returned (.tuple #[u, .int .i64 0]) ∧ w'.ownsRow w.heap.size 9 1 u (sortU l).length ((sortU l).map encStr)) ∧
      (l.all rightN = false → e = .returned (.tuple #[.slice none 0 0, .int .i64 160])) ∧ Below w.heap.size w w' := by
  obtain ⟨i0, hi, hz0, hz1, hz2⟩ := info_parts infoNam
  have HI := Lib.hid hi
  obtain ⟨la, lcap, lb, loff, rfl, hlc, hla, hlx⟩ := TxS.cell hs
  have HLX := Lib.hid hlx
  have HLA := Lib.hid hla
  have HNM := Lib.hid named_any
  clear hs hlx hi hla
  obtain ⟨N, hN⟩ : ∃ N, l.length = N := ⟨_, rfl⟩
  have HN := Lib.hid hN
  rw [hN] at hl hlc HLX HLA ⊢
  clear hN
  go_enter Try.func20, Try.ntmps20
  go_wp2_with (at_make; refine wpList_make_own _ rfl _ _ 66 rfl w.heap.size 52 i0 (.agg #[.string { data := #[] }]) 1 Try.underlying66 HI.out hz0 hz1 .i64 .i64 _ N rfl rfl rfl (by rw [hz2]; omega) (by unfold maxLen; omega) (by omega) ?_; intro w2 hown2 hgrow2)
  have b2 : Below w.heap.size w w2 := (Below.refl _ _).grown hgrow2 (Nat.le_refl _) (fun k e => by cases e)
  go_loopw [4, 14] (fun kk ii wr => ∃ (i : Nat) (q : Value), q = kk ∧ i ≤ N ∧ ii = .int .i64 (i : Nat) ∧ Hid ((l.take i).all rightN = true) ∧ Hid (wr.ownsRow w.heap.size 52 1 q i ((l.take i).map encStr)) ∧ Hid (Below w.heap.size w wr)) (fun _ ii _ => N - (intOf ii).toNat)
  case atStart => exact ⟨0, _, rfl, by omega, rfl, (show _ = _ from rfl), (show World.ownsRow _ _ _ _ _ _ _ by simpa using hown2), (show Below _ _ _ from b2)⟩
  case round =>
    obtain ⟨i, q, rfl, hiN, rfl, HA, HG, HB⟩ := hrel
    clear hown2 hgrow2 b2
    by_cases hlt : i < N
    · have k2 : (i : Int) < (N : Int) := by omega
      obtain rfl := HLA.out (by omega)
      obtain ⟨hlb, hlcell⟩ := HLX.out (by omega)
      have cx := (HB.out.cell (p := ⟨lb, loff + i, none⟩) hlb).trans (hlcell i hlt)
      obtain ⟨x, hx⟩ : ∃ x, l[i]?.getD [] = x := ⟨_, rfl⟩
      have hxm : x ∈ l := by
        rw [← hx, List.getElem?_eq_getElem (by rw [HN.out]; exact hlt)]
        exact List.getElem_mem _
      have HXI : Hid (l.take (i + 1) = l.take i ++ [x]) := show _ = _ by
        rw [List.take_succ_eq_append_getElem (by rw [HN.out]; exact hlt), ← hx, List.getElem?_eq_getElem (by rw [HN.out]; exact hlt)]; rfl
      rw [hx] at cx
      clear hx hlcell
      have HNX := Lib.hid (HNM.out x)
      cases hr : rightN x with
      | false =>
        have HF : Hid (l.all rightN = false) := show _ = _ from List.all_eq_false.2 ⟨x, hxm, by rw [hr]; simp⟩
        rw [show errN x = 160 by unfold errN; rw [hr]; rfl, show nameN x = [] by unfold nameN; rw [hr]; rfl] at HNX
        clear hr hxm
        go_wp2_with fail
        refine (HNX.out _).mono ?_
        rintro e w1 ⟨rfl, hb1⟩
        have HB1 : Hid (Below w.heap.size w w1) := show Below _ _ _ from HB.out.trans (hb1.mono HB.out.size)
        clear hb1 cx
        go_wp2_with fail
        go_ret2
        exact ⟨fun h => (by rw [HF.out] at h; cases h), fun _ => rfl, HB1.out.alloc HB1.out.size _⟩
      | true =>
        have HA2 : Hid ((l.take (i + 1)).all rightN = true) := show _ = _ by rw [HXI.out, List.all_append, HA.out]; simp [hr]
        rw [show errN x = 0 by unfold errN; rw [hr]; rfl, show nameN x = x by unfold nameN; rw [hr]; rfl] at HNX
        clear hr hxm
        go_wp2_with fail
        refine (HNX.out _).mono ?_
        rintro e w1 ⟨rfl, hb1⟩
        have HB1 : Hid (Below w.heap.size w w1) := show Below _ _ _ from HB.out.trans (hb1.mono HB.out.size)
        have HG1 := Lib.hid (ownsRow_below HG.out hb1)
        clear hb1 cx
        have HG2 := Lib.hid ((World.ownsRow.alloc HG1.out (.cells #[encStr x] 52)).alloc (.cells #[encStr x] 52))
        have HV2 : Hid (Vec ((w1.alloc (.cells #[encStr x] 52)).alloc (.cells #[encStr x] 52)) (.slice (some ⟨w1.heap.size + 1, 0, none⟩) 1 1) 1 1 [encStr x]) := show Vec _ _ _ _ _ by
          have h := vec_newL (w1.alloc (.cells #[encStr x] 52)) #[encStr x] 52 1 1 rfl
          rwa [World.size_alloc] at h
        have HB2 : Hid (Below w.heap.size w ((w1.alloc (.cells #[encStr x] 52)).alloc (.cells #[encStr x] 52))) := show Below _ _ _ from (HB1.out.alloc HB1.out.size _).alloc (by have := HB1.out.size; simp; omega) _
        have hs2 := HB2.out.size
        go_wp2_with (at_builtin; refine park ?_)
        unfold Park
        refine wpList_append_vec rfl _ _ 66 rfl 52 i0 _ 1 16 Try.underlying66 HI.out hz0 hz1 hz2 rfl (by decide) w.heap.size _ _ i 1 _ _ rfl rfl (.inr HG2.out) HV2.out (one_strs [x]) (by omega) (by omega) hs2 ?_
        rintro v3 w3 - b3 ⟨-, -, g3⟩
        have HG3 : Hid (w3.ownsRow w.heap.size 52 1 v3 (i + 1) ((l.take (i + 1)).map encStr)) := show World.ownsRow _ _ _ _ _ _ _ by
          have h := g3 HG2.out
          rw [HXI.out, List.map_append]
          exact h
        have HB3 : Hid (Below w.heap.size w w3) := show Below _ _ _ from HB2.out.trans b3
        clear b3 g3
        go_wp2_with fail
        go_roundw
        case rel => exact ⟨i + 1, _, rfl, by omega, by go_num, HA2, HG3, HB3⟩
        case measure => simp [intOf]; omega
    · obtain rfl : i = N := by omega
      have hq := HG.out
      have hall := HA.out
      rw [List.take_of_length_le (by rw [HN.out]; exact Nat.le_refl _)] at hq hall
      rw [← HN.out] at hq
      have HALL := Lib.hid hall
      have HR := Lib.hid (laRising_any q l (by rw [HN.out]; omega) wr (vec_of_own hq))
      clear hq hall
      go_wp2_with fail
      refine HR.out.mono ?_
      rintro e w3 ⟨u, rfl, hr3, hb3⟩
      have HB3 : Hid (Below w.heap.size w w3) := show Below _ _ _ from HB.out.trans (hb3.mono HB.out.size)
      have HR3 := Lib.hid (own_lowG hr3 HB.out.size)
      clear hr3 hb3
      go_wp2_with fail
      go_ret2
      exact ⟨fun _ => ⟨u, rfl, HR3.out⟩, fun h => (by rw [HALL.out] at h; cases h), HB3.out⟩
end Go.Proofs.Ytoaloeipgadkjaa
