/-
  label: the document's Sorted.
-/
import Derived.Test.YtoaloeipgadkjaaLaL
namespace Go.Proofs.Ytoaloeipgadkjaa
open Go.RowKit Go.Shelf Go.Sort

theorem drop_above {X : List (List UInt8)} (h : Rising X) {k : Nat} (hk : k < X.length) {x : List UInt8} (hx : x < X[k]) : ∀ z ∈ X.drop k, x < z := fun z hz => by
  rw [List.drop_eq_getElem_cons hk] at hz
  rcases List.mem_cons.1 hz with e | e
  · rw [e]; exact hx
  · have h2 : Rising (X.drop k) := List.Pairwise.sublist (List.drop_sublist _ _) h
    rw [List.drop_eq_getElem_cons hk] at h2
    exact List.lt_trans hx ((List.pairwise_cons.1 h2).1 z e)
theorem vec_newL (W : World) (cs : Array Value) (t : TypeId) (n s : Nat) (h : cs.size = n * s) : Vec (W.alloc (.cells cs t)) (.slice (some ⟨W.heap.size, 0, none⟩) n n) n s cs.toList :=
  ⟨by rw [Array.length_toList]; exact h, _, _, rfl, Nat.le_refl _, fun _ => ⟨_, _, rfl, by simp, fun j y hy => by
    have e := World.alloc_heap_new W (.cells cs t)
    rw [Array.getElem?_toList] at hy
    unfold World.cell?
    simp only [e, Nat.zero_add]
    exact hy⟩⟩
set_option maxRecDepth 100000 in
set_option maxHeartbeats 8000000 in
theorem refSorted_any (v : Value) (l : List (List UInt8)) (hl : l.length ≤ 1000) (w : World) (hs : TxS w v l) :
    Calls Try.prog 22 #[v] w fun e w' => ∃ u, e = .returned u ∧ TxS w' u (sortU l) ∧ Below w.heap.size w w' := by
  obtain ⟨i0, hi, hz0, hz1, hz2⟩ := info_parts infoStr
  have HI := Lib.hid hi
  obtain ⟨la, lcap, lb, loff, rfl, hlc, hla, hlx⟩ := hs.cell
  have HLX := Lib.hid hlx
  have HLA := Lib.hid hla
  clear hs hlx hi hla
  obtain ⟨N, hN⟩ : ∃ N, l.length = N := ⟨_, rfl⟩
  have HN := Lib.hid hN
  rw [hN] at hl hlc HLX HLA ⊢
  clear hN
  go_enter Try.func22, Try.ntmps22
  go_wp2_with fail
  go_loopw [3, 4] (fun o ii wr => ∃ (i : Nat) (X : List (List UInt8)), i ≤ N ∧ ii = .int .i64 (i : Nat) ∧ Hid (GrowB wr w.heap.size 9 1 o X.length (X.map encStr)) ∧ Hid (Rising X ∧ (∀ y, y ∈ X ↔ y ∈ l.take i) ∧ X.length ≤ i) ∧ Hid (Below w.heap.size w wr)) (fun _ ii _ => N - (intOf ii).toNat)
  case atStart => exact ⟨0, [], by omega, rfl, (show GrowB _ _ _ _ _ _ _ from GrowB.new _ _ _ _), (show _ ∧ _ from ⟨List.Pairwise.nil, fun y => by simp, by simp⟩), (show Below _ _ _ from Below.refl _ _)⟩
  case round =>
    rename World => wo
    obtain ⟨i, X, hiN, rfl, HG, HX, HB⟩ := hrel
    have hsl := HG.out.slice
    obtain ⟨oa, oc, rfl⟩ := hsl
    obtain ⟨L, hL⟩ : ∃ L, X.length = L := ⟨_, rfl⟩
    have HL := Lib.hid hL
    have hL1 : L ≤ 1000 := by have := HX.out.2.2; omega
    rw [hL] at HG
    rw [hL]
    clear hL
    by_cases hlt : i < N
    · have k2 : (i : Int) < (N : Int) := by omega
      obtain rfl := HLA.out (by omega)
      obtain ⟨hlb, hlcell⟩ := HLX.out (by omega)
      have HCX := Lib.hid (fun W (hb : Below w.heap.size w W) => (hb.cell (p := ⟨lb, loff + i, none⟩) hlb).trans (hlcell i hlt))
      obtain ⟨x, hx⟩ : ∃ x, l[i]?.getD [] = x := ⟨_, rfl⟩
      have HXI : Hid (l.take (i + 1) = l.take i ++ [x]) := show _ = _ by
        rw [List.take_succ_eq_append_getElem (by rw [HN.out]; exact hlt), ← hx, List.getElem?_eq_getElem (by rw [HN.out]; exact hlt)]; rfl
      rw [hx] at HCX
      clear hx hlcell
      have HOX := Lib.hid (fun W (hb : Below wo.heap.size wo W) => (show TxS W (.slice oa L oc) X by have := (HG.out.below hb).vec; rw [← HL.out] at this ⊢; exact this).cell)
      go_wp2_with fail
      go_loopw [5, 6] (fun kk th wr => ∃ k : Nat, k ≤ L ∧ kk = .int .i64 (k : Nat) ∧ th = .bool ((X.take k).any (· == x)) ∧ Hid (∀ y ∈ X.take k, y ≤ x) ∧ Hid (Below wo.heap.size wo wr)) (fun kk _ _ => L - (intOf kk).toNat)
      case atStart => exact ⟨0, Nat.zero_le _, rfl, rfl, (show ∀ y ∈ X.take 0, y ≤ x from fun y hy => by simp at hy), (show Below _ _ _ from Below.refl _ _)⟩
      case round =>
        obtain ⟨k, hk, rfl, rfl, HK, HQ⟩ := hrel
        have cx := HCX.out wr (HB.out.trans (HQ.out.mono HB.out.size))
        by_cases hkL : k < L
        · obtain ⟨a', cap', b', off', e', -, ha', hc'⟩ := HOX.out wr HQ.out
          simp only [Value.slice.injEq] at e'
          obtain ⟨rfl, -, rfl⟩ := e'
          obtain rfl := ha' (by rw [HL.out]; omega)
          have ck := (hc' (by rw [HL.out]; omega)).2 k (by rw [HL.out]; exact hkL)
          obtain ⟨y, hy⟩ : ∃ y, X[k]?.getD [] = y := ⟨_, rfl⟩
          have HTK : Hid (X.take (k + 1) = X.take k ++ [y]) := show _ = _ by
            rw [List.take_succ_eq_append_getElem (by rw [HL.out]; exact hkL), ← hy, List.getElem?_eq_getElem (by rw [HL.out]; exact hkL)]; rfl
          rw [hy] at ck
          have HY := Lib.hid hy
          have k3 : (k : Int) < (L : Int) := by omega
          clear hc' ha' hy
          by_cases hle : y ≤ x
          · have hlq : (Op.bytesLess y x || y == x) = true := by rw [str_leq]; simp [hle]
            have HLE := Lib.hid hle
            have HAN : Hid (((X.take k).any (· == x) || y == x) = (X.take (k + 1)).any (· == x)) := show _ = _ by rw [HTK.out, List.any_append]; simp
            clear hle
            obtain ⟨th, hth⟩ : ∃ th, (X.take k).any (· == x) = th := ⟨_, rfl⟩
            rw [hth] at HAN ⊢
            clear hth
            cases th with
            | true =>
              go_wp2_with fail
              go_quiet (fail)
              go_wp2_with fail
              go_quiet (fail)
              go_wp2_with fail
              go_roundw
              case rel => exact ⟨k + 1, by omega, by go_num, by rw [← HAN.out]; rfl, (show ∀ z ∈ X.take (k + 1), z ≤ x from fun z hz => by
                rw [HTK.out] at hz
                rcases List.mem_append.1 hz with h | h
                · exact HK.out z h
                · rw [List.mem_singleton.1 h]; exact HLE.out), (show Below _ _ _ from below_drewN HQ.out _)⟩
              case measure => simp [intOf]; omega
            | false =>
              go_wp2_with fail
              go_quiet (fail)
              go_wp2_with fail
              go_quiet (fail)
              go_wp2_with fail
              go_roundw
              case rel => exact ⟨k + 1, by omega, by go_num, by rw [← HAN.out]; rfl, (show ∀ z ∈ X.take (k + 1), z ≤ x from fun z hz => by
                rw [HTK.out] at hz
                rcases List.mem_append.1 hz with h | h
                · exact HK.out z h
                · rw [List.mem_singleton.1 h]; exact HLE.out), (show Below _ _ _ from below_drewN HQ.out _)⟩
              case measure => simp [intOf]; omega
          · have hlq : (Op.bytesLess y x || y == x) = false := by rw [str_leq]; simp [hle]
            have HLE := Lib.hid hle
            clear hle
            -- END1
            go_wp2_with fail
            go_quiet (fail)
            have HDD : Hid (∀ z ∈ X.drop k, x < z) := show ∀ _, _ from drop_above HX.out.1 (by rw [HL.out]; exact hkL) (by
              have h := HLE.out
              have e := HY.out
              rw [List.getElem?_eq_getElem (by rw [HL.out]; exact hkL)] at e
              have e' : X[k]'(by rw [HL.out]; exact hkL) = y := e
              rw [e']
              exact List.not_le.1 h)
            have HQ2 : Hid (Below wo.heap.size wo (wr.drewN nq)) := show Below _ _ _ from below_drewN HQ.out _
            obtain ⟨wz, hwz⟩ : ∃ wz, wr.drewN nq = wz := ⟨_, rfl⟩
            rw [hwz] at HQ2 ⊢
            clear hwz
            have HIN := Lib.hid (insAt_rising HX.out.1 HK.out HDD.out)
            cases hth : (X.take k).any (· == x) with
            | true =>
              have HS : Hid (insAt X k x = X) := show _ = _ by unfold insAt; rw [if_pos hth]
              clear ck
              go_wp2_with fail
              go_roundw
              case rel =>
                refine ⟨i + 1, X, by omega, by go_num, ?_, ?_, ?_⟩
                · rw [HL.out]; exact (show GrowB _ _ _ _ _ _ _ from HG.out.below HQ2.out)
                · refine (show _ ∧ _ from ⟨HX.out.1, fun y => ?_, by have := HX.out.2.2; omega⟩)
                  have := HIN.out.2 y
                  rw [HS.out, HX.out.2.1 y] at this
                  rw [HX.out.2.1 y, HXI.out, List.mem_append, List.mem_singleton]
                  exact ⟨.inl, fun h => this.2 h.symm⟩
                · exact (show Below _ _ _ from HB.out.trans (HQ2.out.mono HB.out.size))
              case measure => simp [intOf]; omega
            | false =>
              have HS : Hid (insAt X k x = X.take k ++ [x] ++ X.drop k) := show _ = _ by unfold insAt; rw [hth]; rfl
              clear ck
              have hGZ := HG.out.below HQ2.out
              obtain ⟨q1, hq1, hv1⟩ := cut_toV Try.underlying41 HI.out hz1 hGZ.vec k hk
              obtain ⟨q2, hq2, hv2⟩ := cut_fromV Try.underlying41 HI.out hz1 hGZ.vec k hk
              have HV1 := Lib.hid hv1
              have HV2 := Lib.hid hv2
              have HBZ : Hid (Below w.heap.size w wz) := show Below _ _ _ from HB.out.trans (HQ2.out.mono HB.out.size)
              have hBz := HBZ.out.size
              have HVZ := Lib.hid hGZ.vec
              clear hth hGZ hv1 hv2
              go_wp2_with fail
              have hR : (fun W : World => W.cell? ⟨lb, loff + i, none⟩ = some (encStr x)) wz.drew := HCX.out _ HBZ.out.drew
              refine wp_region_M 14 (fun W : World => W.cell? ⟨lb, loff + i, none⟩ = some (encStr x)) (by kernel_rfl) ?_
              (refine wpAnyM_take2 8 (i := 0) (v := ?_) rfl (by kernel_rfl) (by kernel_rfl) (fun _ _ _ h => h) (Or.inl ⟨by rfl, ?_⟩) hR ?_; rotate_left; (focus (intro w hSw; (try dsimp only at hSw); go_simp; (try with_reducible rfl))); (try simp only [put_laws])); (refine wpAnyM_take2 8 (i := 1) (v := ?_) rfl (by kernel_rfl) (by kernel_rfl) (fun _ _ _ h => h) (Or.inl ⟨by rfl, ?_⟩) hR ?_; rotate_left; (focus (intro w hSw; (try dsimp only at hSw); go_simp; (try with_reducible rfl))); (try simp only [put_laws])); (refine wpAnyM_take2 8 (i := 2) (v := ?_) rfl (by kernel_rfl) (by kernel_rfl) (fun _ _ _ h => h) (Or.inl ⟨by rfl, ?_⟩) hR ?_; rotate_left; (focus (intro w hSw; (try dsimp only at hSw); go_simp; (try with_reducible rfl))); (try simp only [put_laws])); (refine wpAnyM_take2 8 (i := 4) (v := ?_) rfl (by kernel_rfl) (by kernel_rfl) (fun _ _ _ h => h) (Or.inl ⟨by rfl, ?_⟩) hR ?_; rotate_left; (focus (intro w hSw; (try dsimp only at hSw); go_simp; (try with_reducible rfl))); (try simp only [put_laws])); (refine wpAnyM_take2 8 (i := 5) (v := ?_) rfl (by kernel_rfl) (by kernel_rfl) (fun _ _ _ h => h) (Or.inl ⟨by rfl, ?_⟩) hR ?_; rotate_left; (focus (intro w hSw; (try dsimp only at hSw); go_simp; (try with_reducible rfl))); (try simp only [put_laws])); (refine wpAnyM_take2 8 (i := 6) (v := ?_) rfl (by kernel_rfl) (by kernel_rfl) (fun _ _ _ h => h) (Or.inl ⟨by rfl, ?_⟩) hR ?_; rotate_left; (focus (intro w hSw; (try dsimp only at hSw); go_simp; (try with_reducible rfl))); (try simp only [put_laws])); (refine wpAnyM_take2 8 (i := 7) (v := ?_) rfl (by kernel_rfl) (by kernel_rfl) (fun _ _ _ h => h) (Or.inl ⟨by rfl, ?_⟩) hR ?_; rotate_left; (focus (intro w hSw; (try dsimp only at hSw); go_simp; (try with_reducible rfl))); (try simp only [put_laws])); (refine wpAnyM_take2 8 (i := 10) (v := ?_) rfl (by kernel_rfl) (by kernel_rfl) (fun _ _ _ h => h) (Or.inl ⟨by rfl, ?_⟩) hR ?_; rotate_left; (focus (intro w hSw; (try dsimp only at hSw); go_simp; (try with_reducible rfl))); (try simp only [put_laws])); (refine wpAnyM_take2 8 (i := 11) (v := ?_) rfl (by kernel_rfl) (by kernel_rfl) (fun _ _ _ h => h) (Or.inl ⟨by rfl, ?_⟩) hR ?_; rotate_left; (focus (intro w hSw; (try dsimp only at hSw); go_simp; (try with_reducible rfl))); (try simp only [put_laws])); (refine wpAnyM_take2 8 (i := 12) (v := ?_) rfl (by kernel_rfl) (by kernel_rfl) (fun _ _ _ h => h) (Or.inl ⟨by rfl, ?_⟩) hR ?_; rotate_left; (focus (intro w hSw; (try dsimp only at hSw); go_simp; (try with_reducible rfl))); (try simp only [put_laws]))
              refine wpAnyM_two (i := 3) (j := 8) rfl rfl (by kernel_rfl) (fun K hK => ?_) (fun K hK => ?_)
              · rw [if_pos (by rfl)]
                (try simp only [elem_laws])
                refine wp_append_vec _ _ 41 rfl 9 i0 _ 1 16 Try.underlying41 HI.out hz0 hz1 hz2 rfl (by decide) wz.drew.heap.size (.slice none 0 0) q1 0 k [] ((X.map encStr).take k) rfl rfl (GrowB.new _ _ _ _) (HV1.out _ (HVZ.out.below (Below.drew (Below.refl _ _)))) (fun u hu => one_strs X u (List.mem_of_mem_take hu)) (by omega) (by omega) (Nat.le_refl _) ?_
                intro u1 w1 g1 b1
                have HB1 : Hid (Below w.heap.size w w1) := show Below _ _ _ from HBZ.out.drew.trans (b1.mono HBZ.out.drew.size)
                have HZ1 : Hid (Below wz.drew.heap.size wz.drew w1) := show Below _ _ _ from b1
                refine hK _ _ (fun _ => HCX.out _ HB1.out) ?_
                clear hK K hR
                have hR := HCX.out _ HB1.out
                (try simp only [put_laws])
                (refine wpAnyM_one (i := 8) rfl (by kernel_rfl) (fun K hK => ?_); rw [if_pos (by rfl)]; (try simp only [elem_laws]))
                go_simp
                have b2 : Below w1.heap.size w1 (w1.alloc (.cells #[encStr x] 9)) := (Below.refl _ _).alloc (Nat.le_refl _) _
                have HB2 : Hid (Below w.heap.size w (w1.alloc (.cells #[encStr x] 9))) := show Below _ _ _ from HB1.out.trans (b2.mono HB1.out.size)
                refine hK _ _ (fun _ => HCX.out _ HB2.out) ?_
                clear hK K hR
                have hR := HCX.out _ HB2.out
                (try simp only [put_laws])
                (refine wpAnyM_one (i := 9) rfl (by kernel_rfl) (fun K hK => ?_); rw [if_pos (by rfl)]; (try simp only [elem_laws]))
                have g2 := g1.below b2
                have v2 := vec_newL w1 #[encStr x] 9 1 1 rfl
                have hz1s := HZ1.out.size
                have HZ2 : Hid (Below wz.drew.heap.size wz.drew (w1.alloc (.cells #[encStr x] 9))) := show Below _ _ _ from HZ1.out.trans (b2.mono hz1s)
                have hs2 := HZ2.out.size
                refine wp_append_vec _ _ 41 rfl 9 i0 _ 1 16 Try.underlying41 HI.out hz0 hz1 hz2 rfl (by decide) wz.drew.heap.size _ _ (0 + k) 1 _ _ rfl rfl g2 v2 (one_strs [x]) (by omega) (by omega) hs2 ?_
                intro u3 w3 g3 b3
                clear g1 b1 g2 v2
                have HZ3 : Hid (Below wz.drew.heap.size wz.drew w3) := show Below _ _ _ from HZ2.out.trans b3
                have hzd := HBZ.out.drew.size
                have HB3 : Hid (Below w.heap.size w w3) := show Below _ _ _ from HBZ.out.drew.trans (HZ3.out.mono hzd)
                refine hK _ _ (fun _ => HCX.out _ HB3.out) ?_
                clear hK K hR
                have hR := HCX.out _ HB3.out
                (try simp only [put_laws])
                (refine wpAnyM_one (i := 13) rfl (by kernel_rfl) (fun K hK => ?_); rw [if_pos (by rfl)]; (try simp only [elem_laws]))
                have hs3 := HZ3.out.size
                have hvz3 := HV2.out _ (HVZ.out.below (W' := w3) ((Below.drew (Below.refl _ _)).trans HZ3.out))
                refine wp_append_vec _ _ 41 rfl 9 i0 _ 1 16 Try.underlying41 HI.out hz0 hz1 hz2 rfl (by decide) wz.drew.heap.size _ _ (0 + k + 1) (L - k) _ _ rfl rfl g3 hvz3 (fun u hu => one_strs X u (List.mem_of_mem_drop hu)) (by omega) (by omega) hs3 ?_
                intro u4 w4 g4 b4
                have HB4 : Hid (Below w.heap.size w w4) := show Below _ _ _ from HB3.out.trans (b4.mono hzd)
                have HG4 : Hid (GrowB w4 w.heap.size 9 1 u4 (insAt X k x).length ((insAt X k x).map encStr)) := show GrowB _ _ _ _ _ _ _ by
                  have h := g4.low hzd
                  rw [HS.out]
                  have e1 : (X.take k ++ [x] ++ X.drop k).length = 0 + k + 1 + (L - k) := by
                    rw [List.length_append, List.length_append, List.length_take, List.length_drop, List.length_singleton, HL.out]; omega
                  have e2 : (X.take k ++ [x] ++ X.drop k).map encStr = [] ++ (X.map encStr).take k ++ #[encStr x].toList ++ (X.map encStr).drop k := by
                    simp [List.map_take, List.map_drop]
                  rw [e1, e2]
                  exact h
                refine hK _ _ (fun _ => HCX.out _ HB4.out) ?_
                clear hK K hR g3 b3 g4 b4 hvz3
                have hR := HCX.out _ HB4.out
                (try simp only [put_laws])
                (refine wpAnyM_last rfl (by kernel_rfl) (fun K hK => ?_); rw [if_pos (by rfl)]; (try simp only [elem_laws]))
                clear hR
                go_simp
                refine hK _ _ ?_
                clear hK K
                (try simp only [put_laws])
                refine wpAnyM_done (by kernel_rfl) ?_ _
                go_wp2_with fail
                go_roundw
                case rel =>
                  refine ⟨i + 1, insAt X k x, by omega, by go_num, HG4, ?_, HB4⟩
                  refine (show _ ∧ _ from ⟨HIN.out.1, fun y => ?_, ?_⟩)
                  · rw [HIN.out.2 y, HX.out.2.1 y, HXI.out, List.mem_append, List.mem_singleton]
                    exact or_comm
                  · rw [HS.out, List.length_append, List.length_append, List.length_take, List.length_drop, List.length_singleton, HL.out]
                    have := HX.out.2.2
                    rw [HL.out] at this
                    omega
                case measure => simp [intOf]; omega
              · rw [if_pos (by rfl)]
                (try simp only [elem_laws])
                go_simp
                have hBd : Below w.heap.size w wz.drew := HBZ.out.drew
                have b2 : Below wz.drew.heap.size wz.drew (wz.drew.alloc (.cells #[encStr x] 9)) := (Below.refl _ _).alloc (Nat.le_refl _) _
                have HB2 : Hid (Below w.heap.size w (wz.drew.alloc (.cells #[encStr x] 9))) := show Below _ _ _ from hBd.trans (b2.mono hBd.size)
                refine hK _ _ (fun _ => HCX.out _ HB2.out) ?_
                clear hK K hR
                have hR := HCX.out _ HB2.out
                (try simp only [put_laws])
                (refine wpAnyM_one (i := 3) rfl (by kernel_rfl) (fun K hK => ?_); rw [if_pos (by rfl)]; (try simp only [elem_laws]))
                have v2 := vec_newL wz.drew #[encStr x] 9 1 1 rfl
                have hs2 := HB2.out.size
                have hvz := (HVZ.out.below (Below.drew (Below.refl _ _))).below b2
                refine wp_append_vec _ _ 41 rfl 9 i0 _ 1 16 Try.underlying41 HI.out hz0 hz1 hz2 rfl (by decide) (wz.drew.alloc (.cells #[encStr x] 9)).heap.size (.slice none 0 0) q1 0 k [] ((X.map encStr).take k) rfl rfl (GrowB.new _ _ _ _) (HV1.out _ hvz) (fun u hu => one_strs X u (List.mem_of_mem_take hu)) (by omega) (by omega) (Nat.le_refl _) ?_
                intro u1 w1 g1 b1
                have HB1 : Hid (Below w.heap.size w w1) := show Below _ _ _ from HB2.out.trans (b1.mono hs2)
                refine hK _ _ (fun _ => HCX.out _ HB1.out) ?_
                clear hK K hR
                have hR := HCX.out _ HB1.out
                (try simp only [put_laws])
                (refine wpAnyM_one (i := 9) rfl (by kernel_rfl) (fun K hK => ?_); rw [if_pos (by rfl)]; (try simp only [elem_laws]))
                have g2 := g1.low b2.size
                have v3 := v2.below b1
                have HZ1 : Hid (Below wz.drew.heap.size wz.drew w1) := show Below _ _ _ from b2.trans (b1.mono b2.size)
                have hs1 := HZ1.out.size
                refine wp_append_vec _ _ 41 rfl 9 i0 _ 1 16 Try.underlying41 HI.out hz0 hz1 hz2 rfl (by decide) wz.drew.heap.size _ _ (0 + k) 1 _ _ rfl rfl g2 v3 (one_strs [x]) (by omega) (by omega) hs1 ?_
                intro u3 w3 g3 b3
                clear g1 b1 g2 v2 v3 b2 hvz
                have HZ3 : Hid (Below wz.drew.heap.size wz.drew w3) := show Below _ _ _ from HZ1.out.trans b3
                have hzd := HBZ.out.drew.size
                have HB3 : Hid (Below w.heap.size w w3) := show Below _ _ _ from HBZ.out.drew.trans (HZ3.out.mono hzd)
                refine hK _ _ (fun _ => HCX.out _ HB3.out) ?_
                clear hK K hR
                have hR := HCX.out _ HB3.out
                (try simp only [put_laws])
                (refine wpAnyM_one (i := 13) rfl (by kernel_rfl) (fun K hK => ?_); rw [if_pos (by rfl)]; (try simp only [elem_laws]))
                have hs3 := HZ3.out.size
                have hvz3 := HV2.out _ (HVZ.out.below (W' := w3) ((Below.drew (Below.refl _ _)).trans HZ3.out))
                refine wp_append_vec _ _ 41 rfl 9 i0 _ 1 16 Try.underlying41 HI.out hz0 hz1 hz2 rfl (by decide) wz.drew.heap.size _ _ (0 + k + 1) (L - k) _ _ rfl rfl g3 hvz3 (fun u hu => one_strs X u (List.mem_of_mem_drop hu)) (by omega) (by omega) hs3 ?_
                intro u4 w4 g4 b4
                have HB4 : Hid (Below w.heap.size w w4) := show Below _ _ _ from HB3.out.trans (b4.mono hzd)
                have HG4 : Hid (GrowB w4 w.heap.size 9 1 u4 (insAt X k x).length ((insAt X k x).map encStr)) := show GrowB _ _ _ _ _ _ _ by
                  have h := g4.low hzd
                  rw [HS.out]
                  have e1 : (X.take k ++ [x] ++ X.drop k).length = 0 + k + 1 + (L - k) := by
                    rw [List.length_append, List.length_append, List.length_take, List.length_drop, List.length_singleton, HL.out]; omega
                  have e2 : (X.take k ++ [x] ++ X.drop k).map encStr = [] ++ (X.map encStr).take k ++ #[encStr x].toList ++ (X.map encStr).drop k := by
                    simp [List.map_take, List.map_drop]
                  rw [e1, e2]
                  exact h
                refine hK _ _ (fun _ => HCX.out _ HB4.out) ?_
                clear hK K hR g3 b3 g4 b4 hvz3
                have hR := HCX.out _ HB4.out
                (try simp only [put_laws])
                (refine wpAnyM_last rfl (by kernel_rfl) (fun K hK => ?_); rw [if_pos (by rfl)]; (try simp only [elem_laws]))
                clear hR
                go_simp
                refine hK _ _ ?_
                clear hK K
                (try simp only [put_laws])
                refine wpAnyM_done (by kernel_rfl) ?_ _
                go_wp2_with fail
                go_roundw
                case rel =>
                  refine ⟨i + 1, insAt X k x, by omega, by go_num, HG4, ?_, HB4⟩
                  refine (show _ ∧ _ from ⟨HIN.out.1, fun y => ?_, ?_⟩)
                  · rw [HIN.out.2 y, HX.out.2.1 y, HXI.out, List.mem_append, List.mem_singleton]
                    exact or_comm
                  · rw [HS.out, List.length_append, List.length_append, List.length_take, List.length_drop, List.length_singleton, HL.out]
                    have := HX.out.2.2
                    rw [HL.out] at this
                    omega
                case measure => simp [intOf]; omega
            -- END1.
        · -- END2
          obtain rfl : k = L := by omega
          go_wp2_with fail
          go_quiet (fail)
          have HDD : Hid (∀ z ∈ X.drop k, x < z) := show ∀ _, _ from fun z hz => by
            rw [List.drop_of_length_le (by rw [HL.out]; omega)] at hz
            simp at hz
          have HQ2 : Hid (Below wo.heap.size wo (wr.drewN nq)) := show Below _ _ _ from below_drewN HQ.out _
          obtain ⟨wz, hwz⟩ : ∃ wz, wr.drewN nq = wz := ⟨_, rfl⟩
          rw [hwz] at HQ2 ⊢
          clear hwz
          have HIN := Lib.hid (insAt_rising HX.out.1 HK.out HDD.out)
          cases hth : (X.take k).any (· == x) with
          | true =>
            have HS : Hid (insAt X k x = X) := show _ = _ by unfold insAt; rw [if_pos hth]
            go_wp2_with fail
            go_roundw
            case rel =>
              refine ⟨i + 1, X, by omega, by go_num, ?_, ?_, ?_⟩
              · rw [HL.out]; exact (show GrowB _ _ _ _ _ _ _ from HG.out.below HQ2.out)
              · refine (show _ ∧ _ from ⟨HX.out.1, fun y => ?_, by have := HX.out.2.2; omega⟩)
                have := HIN.out.2 y
                rw [HS.out, HX.out.2.1 y] at this
                rw [HX.out.2.1 y, HXI.out, List.mem_append, List.mem_singleton]
                exact ⟨.inl, fun h => this.2 h.symm⟩
              · exact (show Below _ _ _ from HB.out.trans (HQ2.out.mono HB.out.size))
            case measure => simp [intOf]; omega
          | false =>
            have HS : Hid (insAt X k x = X.take k ++ [x] ++ X.drop k) := show _ = _ by unfold insAt; rw [hth]; rfl
            have hGZ := HG.out.below HQ2.out
            obtain ⟨q1, hq1, hv1⟩ := cut_toV Try.underlying41 HI.out hz1 hGZ.vec k hk
            obtain ⟨q2, hq2, hv2⟩ := cut_fromV Try.underlying41 HI.out hz1 hGZ.vec k hk
            have HV1 := Lib.hid hv1
            have HV2 := Lib.hid hv2
            have HBZ : Hid (Below w.heap.size w wz) := show Below _ _ _ from HB.out.trans (HQ2.out.mono HB.out.size)
            have hBz := HBZ.out.size
            have HVZ := Lib.hid hGZ.vec
            clear hth hGZ hv1 hv2
            go_wp2_with fail
            have hR : (fun W : World => W.cell? ⟨lb, loff + i, none⟩ = some (encStr x)) wz.drew := HCX.out _ HBZ.out.drew
            refine wp_region_M 14 (fun W : World => W.cell? ⟨lb, loff + i, none⟩ = some (encStr x)) (by kernel_rfl) ?_
            (refine wpAnyM_take2 8 (i := 0) (v := ?_) rfl (by kernel_rfl) (by kernel_rfl) (fun _ _ _ h => h) (Or.inl ⟨by rfl, ?_⟩) hR ?_; rotate_left; (focus (intro w hSw; (try dsimp only at hSw); go_simp; (try with_reducible rfl))); (try simp only [put_laws])); (refine wpAnyM_take2 8 (i := 1) (v := ?_) rfl (by kernel_rfl) (by kernel_rfl) (fun _ _ _ h => h) (Or.inl ⟨by rfl, ?_⟩) hR ?_; rotate_left; (focus (intro w hSw; (try dsimp only at hSw); go_simp; (try with_reducible rfl))); (try simp only [put_laws])); (refine wpAnyM_take2 8 (i := 2) (v := ?_) rfl (by kernel_rfl) (by kernel_rfl) (fun _ _ _ h => h) (Or.inl ⟨by rfl, ?_⟩) hR ?_; rotate_left; (focus (intro w hSw; (try dsimp only at hSw); go_simp; (try with_reducible rfl))); (try simp only [put_laws])); (refine wpAnyM_take2 8 (i := 4) (v := ?_) rfl (by kernel_rfl) (by kernel_rfl) (fun _ _ _ h => h) (Or.inl ⟨by rfl, ?_⟩) hR ?_; rotate_left; (focus (intro w hSw; (try dsimp only at hSw); go_simp; (try with_reducible rfl))); (try simp only [put_laws])); (refine wpAnyM_take2 8 (i := 5) (v := ?_) rfl (by kernel_rfl) (by kernel_rfl) (fun _ _ _ h => h) (Or.inl ⟨by rfl, ?_⟩) hR ?_; rotate_left; (focus (intro w hSw; (try dsimp only at hSw); go_simp; (try with_reducible rfl))); (try simp only [put_laws])); (refine wpAnyM_take2 8 (i := 6) (v := ?_) rfl (by kernel_rfl) (by kernel_rfl) (fun _ _ _ h => h) (Or.inl ⟨by rfl, ?_⟩) hR ?_; rotate_left; (focus (intro w hSw; (try dsimp only at hSw); go_simp; (try with_reducible rfl))); (try simp only [put_laws])); (refine wpAnyM_take2 8 (i := 7) (v := ?_) rfl (by kernel_rfl) (by kernel_rfl) (fun _ _ _ h => h) (Or.inl ⟨by rfl, ?_⟩) hR ?_; rotate_left; (focus (intro w hSw; (try dsimp only at hSw); go_simp; (try with_reducible rfl))); (try simp only [put_laws])); (refine wpAnyM_take2 8 (i := 10) (v := ?_) rfl (by kernel_rfl) (by kernel_rfl) (fun _ _ _ h => h) (Or.inl ⟨by rfl, ?_⟩) hR ?_; rotate_left; (focus (intro w hSw; (try dsimp only at hSw); go_simp; (try with_reducible rfl))); (try simp only [put_laws])); (refine wpAnyM_take2 8 (i := 11) (v := ?_) rfl (by kernel_rfl) (by kernel_rfl) (fun _ _ _ h => h) (Or.inl ⟨by rfl, ?_⟩) hR ?_; rotate_left; (focus (intro w hSw; (try dsimp only at hSw); go_simp; (try with_reducible rfl))); (try simp only [put_laws])); (refine wpAnyM_take2 8 (i := 12) (v := ?_) rfl (by kernel_rfl) (by kernel_rfl) (fun _ _ _ h => h) (Or.inl ⟨by rfl, ?_⟩) hR ?_; rotate_left; (focus (intro w hSw; (try dsimp only at hSw); go_simp; (try with_reducible rfl))); (try simp only [put_laws]))
            refine wpAnyM_two (i := 3) (j := 8) rfl rfl (by kernel_rfl) (fun K hK => ?_) (fun K hK => ?_)
            · rw [if_pos (by rfl)]
              (try simp only [elem_laws])
              refine wp_append_vec _ _ 41 rfl 9 i0 _ 1 16 Try.underlying41 HI.out hz0 hz1 hz2 rfl (by decide) wz.drew.heap.size (.slice none 0 0) q1 0 k [] ((X.map encStr).take k) rfl rfl (GrowB.new _ _ _ _) (HV1.out _ (HVZ.out.below (Below.drew (Below.refl _ _)))) (fun u hu => one_strs X u (List.mem_of_mem_take hu)) (by omega) (by omega) (Nat.le_refl _) ?_
              intro u1 w1 g1 b1
              have HB1 : Hid (Below w.heap.size w w1) := show Below _ _ _ from HBZ.out.drew.trans (b1.mono HBZ.out.drew.size)
              have HZ1 : Hid (Below wz.drew.heap.size wz.drew w1) := show Below _ _ _ from b1
              refine hK _ _ (fun _ => HCX.out _ HB1.out) ?_
              clear hK K hR
              have hR := HCX.out _ HB1.out
              (try simp only [put_laws])
              (refine wpAnyM_one (i := 8) rfl (by kernel_rfl) (fun K hK => ?_); rw [if_pos (by rfl)]; (try simp only [elem_laws]))
              go_simp
              have b2 : Below w1.heap.size w1 (w1.alloc (.cells #[encStr x] 9)) := (Below.refl _ _).alloc (Nat.le_refl _) _
              have HB2 : Hid (Below w.heap.size w (w1.alloc (.cells #[encStr x] 9))) := show Below _ _ _ from HB1.out.trans (b2.mono HB1.out.size)
              refine hK _ _ (fun _ => HCX.out _ HB2.out) ?_
              clear hK K hR
              have hR := HCX.out _ HB2.out
              (try simp only [put_laws])
              (refine wpAnyM_one (i := 9) rfl (by kernel_rfl) (fun K hK => ?_); rw [if_pos (by rfl)]; (try simp only [elem_laws]))
              have g2 := g1.below b2
              have v2 := vec_newL w1 #[encStr x] 9 1 1 rfl
              have hz1s := HZ1.out.size
              have HZ2 : Hid (Below wz.drew.heap.size wz.drew (w1.alloc (.cells #[encStr x] 9))) := show Below _ _ _ from HZ1.out.trans (b2.mono hz1s)
              have hs2 := HZ2.out.size
              refine wp_append_vec _ _ 41 rfl 9 i0 _ 1 16 Try.underlying41 HI.out hz0 hz1 hz2 rfl (by decide) wz.drew.heap.size _ _ (0 + k) 1 _ _ rfl rfl g2 v2 (one_strs [x]) (by omega) (by omega) hs2 ?_
              intro u3 w3 g3 b3
              clear g1 b1 g2 v2
              have HZ3 : Hid (Below wz.drew.heap.size wz.drew w3) := show Below _ _ _ from HZ2.out.trans b3
              have hzd := HBZ.out.drew.size
              have HB3 : Hid (Below w.heap.size w w3) := show Below _ _ _ from HBZ.out.drew.trans (HZ3.out.mono hzd)
              refine hK _ _ (fun _ => HCX.out _ HB3.out) ?_
              clear hK K hR
              have hR := HCX.out _ HB3.out
              (try simp only [put_laws])
              (refine wpAnyM_one (i := 13) rfl (by kernel_rfl) (fun K hK => ?_); rw [if_pos (by rfl)]; (try simp only [elem_laws]))
              have hs3 := HZ3.out.size
              have hvz3 := HV2.out _ (HVZ.out.below (W' := w3) ((Below.drew (Below.refl _ _)).trans HZ3.out))
              refine wp_append_vec _ _ 41 rfl 9 i0 _ 1 16 Try.underlying41 HI.out hz0 hz1 hz2 rfl (by decide) wz.drew.heap.size _ _ (0 + k + 1) (k - k) _ _ rfl rfl g3 hvz3 (fun u hu => one_strs X u (List.mem_of_mem_drop hu)) (by omega) (by omega) hs3 ?_
              intro u4 w4 g4 b4
              have HB4 : Hid (Below w.heap.size w w4) := show Below _ _ _ from HB3.out.trans (b4.mono hzd)
              have HG4 : Hid (GrowB w4 w.heap.size 9 1 u4 (insAt X k x).length ((insAt X k x).map encStr)) := show GrowB _ _ _ _ _ _ _ by
                have h := g4.low hzd
                rw [HS.out]
                have e1 : (X.take k ++ [x] ++ X.drop k).length = 0 + k + 1 + (k - k) := by
                  rw [List.length_append, List.length_append, List.length_take, List.length_drop, List.length_singleton, HL.out]; omega
                have e2 : (X.take k ++ [x] ++ X.drop k).map encStr = [] ++ (X.map encStr).take k ++ #[encStr x].toList ++ (X.map encStr).drop k := by
                  simp [List.map_take, List.map_drop]
                rw [e1, e2]
                exact h
              refine hK _ _ (fun _ => HCX.out _ HB4.out) ?_
              clear hK K hR g3 b3 g4 b4 hvz3
              have hR := HCX.out _ HB4.out
              (try simp only [put_laws])
              (refine wpAnyM_last rfl (by kernel_rfl) (fun K hK => ?_); rw [if_pos (by rfl)]; (try simp only [elem_laws]))
              clear hR
              go_simp
              refine hK _ _ ?_
              clear hK K
              (try simp only [put_laws])
              refine wpAnyM_done (by kernel_rfl) ?_ _
              go_wp2_with fail
              go_roundw
              case rel =>
                refine ⟨i + 1, insAt X k x, by omega, by go_num, HG4, ?_, HB4⟩
                refine (show _ ∧ _ from ⟨HIN.out.1, fun y => ?_, ?_⟩)
                · rw [HIN.out.2 y, HX.out.2.1 y, HXI.out, List.mem_append, List.mem_singleton]
                  exact or_comm
                · rw [HS.out, List.length_append, List.length_append, List.length_take, List.length_drop, List.length_singleton, HL.out]
                  have := HX.out.2.2
                  rw [HL.out] at this
                  omega
              case measure => simp [intOf]; omega
            · rw [if_pos (by rfl)]
              (try simp only [elem_laws])
              go_simp
              have hBd : Below w.heap.size w wz.drew := HBZ.out.drew
              have b2 : Below wz.drew.heap.size wz.drew (wz.drew.alloc (.cells #[encStr x] 9)) := (Below.refl _ _).alloc (Nat.le_refl _) _
              have HB2 : Hid (Below w.heap.size w (wz.drew.alloc (.cells #[encStr x] 9))) := show Below _ _ _ from hBd.trans (b2.mono hBd.size)
              refine hK _ _ (fun _ => HCX.out _ HB2.out) ?_
              clear hK K hR
              have hR := HCX.out _ HB2.out
              (try simp only [put_laws])
              (refine wpAnyM_one (i := 3) rfl (by kernel_rfl) (fun K hK => ?_); rw [if_pos (by rfl)]; (try simp only [elem_laws]))
              have v2 := vec_newL wz.drew #[encStr x] 9 1 1 rfl
              have hs2 := HB2.out.size
              have hvz := (HVZ.out.below (Below.drew (Below.refl _ _))).below b2
              refine wp_append_vec _ _ 41 rfl 9 i0 _ 1 16 Try.underlying41 HI.out hz0 hz1 hz2 rfl (by decide) (wz.drew.alloc (.cells #[encStr x] 9)).heap.size (.slice none 0 0) q1 0 k [] ((X.map encStr).take k) rfl rfl (GrowB.new _ _ _ _) (HV1.out _ hvz) (fun u hu => one_strs X u (List.mem_of_mem_take hu)) (by omega) (by omega) (Nat.le_refl _) ?_
              intro u1 w1 g1 b1
              have HB1 : Hid (Below w.heap.size w w1) := show Below _ _ _ from HB2.out.trans (b1.mono hs2)
              refine hK _ _ (fun _ => HCX.out _ HB1.out) ?_
              clear hK K hR
              have hR := HCX.out _ HB1.out
              (try simp only [put_laws])
              (refine wpAnyM_one (i := 9) rfl (by kernel_rfl) (fun K hK => ?_); rw [if_pos (by rfl)]; (try simp only [elem_laws]))
              have g2 := g1.low b2.size
              have v3 := v2.below b1
              have HZ1 : Hid (Below wz.drew.heap.size wz.drew w1) := show Below _ _ _ from b2.trans (b1.mono b2.size)
              have hs1 := HZ1.out.size
              refine wp_append_vec _ _ 41 rfl 9 i0 _ 1 16 Try.underlying41 HI.out hz0 hz1 hz2 rfl (by decide) wz.drew.heap.size _ _ (0 + k) 1 _ _ rfl rfl g2 v3 (one_strs [x]) (by omega) (by omega) hs1 ?_
              intro u3 w3 g3 b3
              clear g1 b1 g2 v2 v3 b2 hvz
              have HZ3 : Hid (Below wz.drew.heap.size wz.drew w3) := show Below _ _ _ from HZ1.out.trans b3
              have hzd := HBZ.out.drew.size
              have HB3 : Hid (Below w.heap.size w w3) := show Below _ _ _ from HBZ.out.drew.trans (HZ3.out.mono hzd)
              refine hK _ _ (fun _ => HCX.out _ HB3.out) ?_
              clear hK K hR
              have hR := HCX.out _ HB3.out
              (try simp only [put_laws])
              (refine wpAnyM_one (i := 13) rfl (by kernel_rfl) (fun K hK => ?_); rw [if_pos (by rfl)]; (try simp only [elem_laws]))
              have hs3 := HZ3.out.size
              have hvz3 := HV2.out _ (HVZ.out.below (W' := w3) ((Below.drew (Below.refl _ _)).trans HZ3.out))
              refine wp_append_vec _ _ 41 rfl 9 i0 _ 1 16 Try.underlying41 HI.out hz0 hz1 hz2 rfl (by decide) wz.drew.heap.size _ _ (0 + k + 1) (k - k) _ _ rfl rfl g3 hvz3 (fun u hu => one_strs X u (List.mem_of_mem_drop hu)) (by omega) (by omega) hs3 ?_
              intro u4 w4 g4 b4
              have HB4 : Hid (Below w.heap.size w w4) := show Below _ _ _ from HB3.out.trans (b4.mono hzd)
              have HG4 : Hid (GrowB w4 w.heap.size 9 1 u4 (insAt X k x).length ((insAt X k x).map encStr)) := show GrowB _ _ _ _ _ _ _ by
                have h := g4.low hzd
                rw [HS.out]
                have e1 : (X.take k ++ [x] ++ X.drop k).length = 0 + k + 1 + (k - k) := by
                  rw [List.length_append, List.length_append, List.length_take, List.length_drop, List.length_singleton, HL.out]; omega
                have e2 : (X.take k ++ [x] ++ X.drop k).map encStr = [] ++ (X.map encStr).take k ++ #[encStr x].toList ++ (X.map encStr).drop k := by
                  simp [List.map_take, List.map_drop]
                rw [e1, e2]
                exact h
              refine hK _ _ (fun _ => HCX.out _ HB4.out) ?_
              clear hK K hR g3 b3 g4 b4 hvz3
              have hR := HCX.out _ HB4.out
              (try simp only [put_laws])
              (refine wpAnyM_last rfl (by kernel_rfl) (fun K hK => ?_); rw [if_pos (by rfl)]; (try simp only [elem_laws]))
              clear hR
              go_simp
              refine hK _ _ ?_
              clear hK K
              (try simp only [put_laws])
              refine wpAnyM_done (by kernel_rfl) ?_ _
              go_wp2_with fail
              go_roundw
              case rel =>
                refine ⟨i + 1, insAt X k x, by omega, by go_num, HG4, ?_, HB4⟩
                refine (show _ ∧ _ from ⟨HIN.out.1, fun y => ?_, ?_⟩)
                · rw [HIN.out.2 y, HX.out.2.1 y, HXI.out, List.mem_append, List.mem_singleton]
                  exact or_comm
                · rw [HS.out, List.length_append, List.length_append, List.length_take, List.length_drop, List.length_singleton, HL.out]
                  have := HX.out.2.2
                  rw [HL.out] at this
                  omega
              case measure => simp [intOf]; omega
          -- END2.
    · obtain rfl : i = N := by omega
      have HSU : Hid (sortU l = X) := show _ = _ from (sortU_ext (fun y => by
        have := HX.out.2.1 y
        rw [List.take_of_length_le (by rw [HN.out]; exact Nat.le_refl _)] at this
        exact this.symm)).trans (sortU_of_rising HX.out.1)
      go_wp2_with fail
      go_ret
      refine ⟨_, rfl, ?_, HB.out⟩
      rw [HSU.out]
      have := HG.out.vec
      rw [← HL.out] at this ⊢
      exact this
end Go.Proofs.Ytoaloeipgadkjaa
