/-
  file: the document's Join.
-/
import Derived.Test.YtmncoclmgcjjjaaQFmA
import Derived.Test.YtmncoclmgcjjjaaQWordT
namespace Go.Proofs.Ytmncoclmgcjjjaa
open Go.RowKit Go.Shelf
attribute [local go_sem] Oper.semAt_some

theorem vecC_sl {W : World} {u : Value} {L : List (List Int)} (h : VecC W u L) (hL : ∀ l ∈ L, Line8N l) :
    ∃ a cap, u = .slice a L.length cap ∧ L.length ≤ cap ∧ (0 < L.length → ∃ b off, a = some ⟨b, off, none⟩ ∧ b < W.heap.size ∧ ∀ W', Below W.heap.size W W' → ∀ k, k < L.length → Sl W' .u64 (.slice (some ⟨b, off + k * 8, none⟩) 8 8) (natL (L[k]?.getD []))) := by
  obtain ⟨hlen, a, cap, hv, hc, hx⟩ := id h
  refine ⟨a, cap, hv, hc, fun h0 => ?_⟩
  obtain ⟨b, off, ha, hb, hj⟩ := hx h0
  refine ⟨b, off, ha, hb, fun W' hW' k hk => ?_⟩
  have hl := hL _ (List.getElem_mem hk)
  rw [List.getElem?_eq_getElem hk, Option.getD_some]
  have h8 : (natL L[k]).length = 8 := by rw [natL_length, hl.1]
  refine ⟨_, 8, by rw [h8], by rw [h8]; exact Nat.le_refl _, fun _ => ⟨b, off + k * 8, rfl, Nat.lt_of_lt_of_le hb hW'.size, fun j hj' => ?_⟩⟩
  rw [h8] at hj'
  rw [Nat.add_assoc]
  refine (hW'.cell (p := ⟨b, off + (k * 8 + j), none⟩) hb).trans (hj _ _ ?_)
  rw [flatC_at cL_len L k hk j hj', natL_at L[k] (fun x hx => (hl.2 x hx).1)]
  simp [cL, List.getElem?_range hj']
theorem wrap_small9 (x : Nat) (h : x ≤ 100000) : wrap64 (x : Int) = (x : Int) ∧ IntKind.i64.wrap (x : Int) = (x : Int) := ⟨by unfold wrap64; omega, IntWalk.i64_in _ (by omega)⟩
theorem quo64 (k : Nat) : (k : Int).tdiv 64 = ((k / 64 : Nat) : Int) := by
  rw [Int.tdiv_eq_ediv_of_nonneg (Int.natCast_nonneg _)]; rfl
theorem rem64 (k : Nat) : (k : Int).tmod 64 = ((k % 64 : Nat) : Int) := by
  rw [Int.tmod_eq_emod_of_nonneg (Int.natCast_nonneg _)]; rfl
set_option maxRecDepth 100000 in
set_option maxHeartbeats 8000000 in
theorem refJoin9_any {v : Value} {L : List (List Int)} (s : Int) (hs0 : -9223372036854775808 ≤ s) (hL : ∀ l ∈ L, Line8N l) (hn : L.length ≤ 100000) (w : World) (hv : VecC w v L) :
    Calls Try.prog 23 #[.int .i64 s, v] w fun e w' => ∃ r, e = .returned (.tuple #[r, .int .i64 (errJ s L)]) ∧ Sl w' .u8 r (outJ s L) ∧ Below w.heap.size w w' := by
  obtain ⟨i0, hi, hz0, hz1, hz2⟩ := info_parts infoU8
  obtain ⟨a, c, rfl, hac, hA⟩ := vecC_sl hv hL
  have HA := Lib.hid hA
  have HL := Lib.hid hL
  have HE : Hid (errJ s L = if s < 0 then 2 else if 448 < s then 190 else if L.length ≠ chN s.toNat then 191 else if chF (cutF (WM.bytesOf (flatN L)) s.toNat) = L then 0 else 191) := show _ = _ from rfl
  obtain ⟨n, hn'⟩ : ∃ n, L.length = n := ⟨_, rfl⟩
  have HN := Lib.hid hn'
  rw [hn'] at HE hn hac HA ⊢
  clear hv hn' hL hA
  by_cases s0 : s < 0
  · have he : errJ s L = 2 := by rw [HE.out, if_pos s0]
    have HO := Lib.hid (outJ_err he (by decide))
    have HEE := Lib.hid he
    clear he HE
    go_enter Try.func23, Try.ntmps23
    go_wp2_with fail
    go_ret2
    exact ⟨_, by rw [HEE.out]; rfl, by rw [HO.out]; exact nil_sl _ _, Below.refl _ _⟩
  by_cases s1 : 448 < s
  · have he : errJ s L = 190 := by rw [HE.out, if_neg s0, if_pos s1]
    have HO := Lib.hid (outJ_err he (by decide))
    have HEE := Lib.hid he
    clear he HE
    go_enter Try.func23, Try.ntmps23
    go_wp2_with fail
    go_ret2
    exact ⟨_, by rw [HEE.out]; rfl, by rw [HO.out]; exact nil_sl _ _, Below.refl _ _⟩
  obtain ⟨S, rfl⟩ : ∃ S : Nat, s = (S : Int) := ⟨s.toNat, by omega⟩
  rw [Int.toNat_natCast] at HE
  have hS : S ≤ 448 := by omega
  have hw1 : IntKind.i64.wrap ((S : Int) + 63) = (S : Int) + 63 := IntWalk.i64_in _ (by omega)
  have hw1' : wrap64 ((S : Int) + 63) = (S : Int) + 63 := by unfold wrap64; omega
  have hq : ((S : Int) + 63).tdiv 64 = ((chN S : Nat) : Int) := by
    rw [Int.tdiv_eq_ediv_of_nonneg (by omega)]
    unfold chN
    omega
  have hm7 : chN S ≤ 7 := by unfold chN; omega
  have hSm : S ≤ 64 * chN S := by unfold chN; omega
  have HIFF := Lib.hid (fun (h : n = chN S) => join_iff L HL.out S (by rw [HN.out]; exact h))
  obtain ⟨m, hm⟩ : ∃ m, chN S = m := ⟨_, rfl⟩
  rw [hm] at HE hq hm7 HIFF hSm
  have hw2 : IntKind.i64.wrap (m : Int) = (m : Int) := IntWalk.i64_in _ (by omega)
  have hw2' : wrap64 (m : Int) = (m : Int) := by unfold wrap64; omega
  clear hm
  by_cases hnm : n = m
  · subst hnm
    have hnn : ((n : Int) != (n : Int)) = false := by simp
    have he : errJ (S : Int) L = if chF (cutF (WM.bytesOf (flatN L)) S) = L then 0 else 191 := by rw [HE.out, if_neg s0, if_neg s1, if_neg (by simp)]
    have HEE := Lib.hid he
    have HI := Lib.hid (HIFF.out rfl)
    have h8 : ∀ l ∈ L, l.length = 8 := fun l hl => (HL.out l hl).1
    have HBL : Hid ((WM.bytesOf (flatN L)).length = 64 * n) := show _ = _ by rw [WM.bytesOf_length, flatN_length L h8, HN.out]; omega
    have HBA : Hid (∀ k, k < 64 * n → (WM.bytesOf (flatN L))[k]?.getD 0 = WM.byteAt (flatN L) k) := show ∀ k, _ from fun k hk => WM.bytesOf_at _ _ (by rw [flatN_length L h8, HN.out]; omega)
    have HBC : Hid (∀ k, k < 64 * n → WM.byteAt (natL (L[k / 64]?.getD [])) (k % 64) = WM.byteAt (flatN L) k) := show ∀ k, _ from fun k hk => byte_chunk L h8 k (by rw [HN.out]; exact hk)
    have HLK : Hid (∀ k, k < n → Line8N (L[k]?.getD [])) := show ∀ k, _ from fun k hk => by rw [List.getElem?_eq_getElem (by rw [HN.out]; exact hk)]; exact HL.out _ (List.getElem_mem _)
    have hw3 : IntKind.i64.wrap (64 * (n : Int)) = ((64 * n : Nat) : Int) := by rw [IntWalk.i64_in _ (by omega)]; omega
    have hw3' : wrap64 (64 * (n : Int)) = ((64 * n : Nat) : Int) := by unfold wrap64; omega
    obtain ⟨B, hB⟩ : ∃ B, WM.bytesOf (flatN L) = B := ⟨_, rfl⟩
    have HOU : Hid (errJ (S : Int) L = 0 → outJ (S : Int) L = B.take S) := show _ → _ from fun h => by
      unfold outJ
      rw [if_pos h, hB]
      unfold cutF
      have e := HBL.out
      rw [hB] at e
      rw [Int.toNat_natCast, show S - B.length = 0 by omega, List.replicate_zero, List.append_nil]
    rw [hB] at HBL HBA HI HEE
    clear he HE h8 hB HIFF
    obtain ⟨N, hN⟩ : ∃ N, 64 * n = N := ⟨_, rfl⟩
    rw [hN] at hw3 hw3' HBL HBA HBC hSm
    have HNN := Lib.hid hN
    have hN4 : N ≤ 448 := by rw [← hN]; exact Nat.le_trans (Nat.mul_le_mul_left 64 hm7) (by decide)
    rw [HN.out, hN] at HI
    clear hN
    go_enter Try.func23, Try.ntmps23
    go_wp2_with fail
    clear hq hw1 hw1' hw2 hw2' hnn
    go_loopw [6, 7, 8] (fun o i x wr => ∃ (k : Nat) (q : Value), k ≤ N ∧ i = .int .i64 k ∧ q = o ∧ wr.ownsRow w.heap.size 5 1 q (min k S) (valsOf .u8 (B.take (min k S))) ∧ Hid (∀ i, S ≤ i → i < k → WM.byteAt (flatN L) i = 0) ∧ Below w.heap.size w wr) (fun _ i _ _ => N - (intOf i).toNat)
    case atStart => exact ⟨0, _, Nat.zero_le _, rfl, rfl, by rw [Nat.zero_min, List.take_zero]; exact World.ownsRow_nil _ _ _ _, (show ∀ i, _ from fun i _ h => by omega), Below.refl _ _⟩
    case round =>
      obtain ⟨k, q, hk, rfl, rfl, hrow, HZ, hb⟩ := hrel
      have z := hb.size
      by_cases hlt : k < N
      · have hqn : k / 64 < n := by have := HNN.out; omega
        obtain ⟨b, off, rfl, hbl, hsl⟩ := HA.out (by omega)
        have hs1 := hsl wr hb (k / 64) hqn
        have hln := HLK.out (k / 64) hqn
        have HBY := Lib.hid (refByte_any _ (natL (L[k / 64]?.getD [])) (k % 64) (by rw [natL_length, hln.1]; decide) (fun i => by
          by_cases hi : i < (natL (L[k / 64]?.getD [])).length
          · rw [List.getElem?_eq_getElem hi, Option.getD_some]
            obtain ⟨y, hy, he⟩ := List.mem_map.1 (List.getElem_mem hi)
            have := hln.2 y hy
            omega
          · rw [List.getElem?_eq_none (by omega)]; decide) (by rw [natL_length, hln.1]; omega) wr hs1)
        rw [HBC.out k hlt] at HBY
        have HBK := Lib.hid (HBA.out k hlt)
        obtain ⟨x, hx⟩ : ∃ x, WM.byteAt (flatN L) k = x := ⟨_, rfl⟩
        rw [hx] at HBY HBK
        have HX := Lib.hid hx
        have hx256 : x < 256 := by rw [← hx]; exact WM.byteAt_lt _ _
        have h1 := quo64 k
        have h2 := rem64 k
        have hR64 : k % 64 ≤ 100000 := Nat.le_trans (Nat.le_of_lt (Nat.mod_lt _ (by decide))) (by decide)
        have hQ7 : k / 64 ≤ 100000 := Nat.le_trans (Nat.le_of_lt hqn) (Nat.le_trans hm7 (by decide))
        obtain ⟨Q, hQ⟩ : ∃ Q, k / 64 = Q := ⟨_, rfl⟩
        obtain ⟨R, hR'⟩ : ∃ R, k % 64 = R := ⟨_, rfl⟩
        rw [hQ] at h1 HBY hqn hQ7
        rw [hR'] at h2 HBY hR64
        obtain ⟨h3, h4⟩ := wrap_small9 Q hQ7
        obtain ⟨h5, h6⟩ := wrap_small9 R hR64
        clear hs1 hln hsl hQ hR' hx hR64 hQ7
        go_wp2_with fail
        refine HBY.out.mono ?_
        rintro e w1 ⟨rfl, hb1⟩
        have HB1 : Hid (Below w.heap.size w w1) := show Below _ _ _ from hb.trans (hb1.mono z)
        have hrow1 := ownsRow_below hrow hb1
        have z1 := HB1.out.size
        clear h1 h2 h3 h4 h5 h6 hb1 HBY hrow
        by_cases hkS : k < S
        · have hkS' : (k : Int) < (S : Int) := by omega
          have hmin : min k S = k := by omega
          have hmin1 : min (k + 1) S = k + 1 := by omega
          have htk : B.take (k + 1) = B.take k ++ [x] := by
            have hkB : k < B.length := by rw [HBL.out]; exact hlt
            rw [List.take_succ_eq_append_getElem hkB]
            have := HBK.out
            rw [List.getElem?_eq_getElem hkB, Option.getD_some] at this
            rw [this]
          rw [hmin] at hrow1
          have HTK := Lib.hid htk
          have HM1 := Lib.hid hmin1
          have HZ1 : Hid (∀ i, S ≤ i → i < k + 1 → WM.byteAt (flatN L) i = 0) := show ∀ i, _ from fun i h1 h2 => by omega
          clear htk hmin hmin1 HBK
          go_wp2_with (at_builtin; refine wpList_append_own _ rfl _ _ 22 rfl w.heap.size 5 i0 (.int .u8 0) 1 1 Try.underlying22 hi hz0 hz1 hz2 rfl (by decide) q _ _ rfl (hrow1.alloc _) ⟨w1.heap.size, 0, none⟩ 1 1 [.int .u8 (x : Nat)] rfl rfl (cell_one_new _ _ _) (by simp [Value.oneCell']) (by unfold maxLen; omega) (by omega) (by rw [World.size_alloc]; omega) ?_; intro v' w2 hown' hgrow _)
          go_roundw
          case rel =>
            refine ⟨k + 1, _, by omega, by go_num, rfl, ?_, HZ1, ?_⟩
            · rw [HM1.out, HTK.out, valsOf_append]; exact hown'
            · exact (HB1.out.alloc HB1.out.size _).grown hgrow (by have := HB1.out.size; rw [World.size_alloc]; omega) (fun j e => (hrow1.lt j e).1)
          case measure => simp [intOf]; omega
        · have hkS' : ¬ (k : Int) < (S : Int) := by omega
          by_cases hx0 : x = 0
          · have hx1 : ((x : Int) != 0) = false := by rw [hx0]; rfl
            have hmin1 : min (k + 1) S = min k S := by omega
            have HM1 := Lib.hid hmin1
            have HZ1 : Hid (∀ i, S ≤ i → i < k + 1 → WM.byteAt (flatN L) i = 0) := show ∀ i, _ from fun i h1 h2 => by
              by_cases hik : i = k
              · rw [hik, HX.out]; exact hx0
              · exact HZ.out i h1 (by omega)
            clear hmin1 hx0 HBK
            go_wp2_with fail
            go_roundw
            case rel => exact ⟨k + 1, _, by omega, by go_num, rfl, by rw [HM1.out]; exact hrow1, HZ1, HB1.out⟩
            case measure => simp [intOf]; omega
          · have hx1 : ((x : Int) != 0) = true := by rw [bne_iff_ne]; omega
            have hno : ¬ chF (cutF B S) = L := fun h => hx0 (by rw [← HX.out]; exact (HI.out.1 h) k (by omega) hlt)
            have he := HEE.out
            rw [if_neg hno] at he
            have HO := Lib.hid (outJ_err he (by decide))
            have HE1 := Lib.hid he
            clear he hno hx0 HBK
            go_wp2_with fail
            go_ret2
            exact ⟨_, by rw [HE1.out]; rfl, by rw [HO.out]; exact nil_sl _ _, HB1.out⟩
      · obtain rfl : k = N := by omega
        have hyes : chF (cutF B S) = L := HI.out.2 HZ.out
        have he := HEE.out
        rw [if_pos hyes] at he
        have ho := HOU.out he
        have hmin : min k S = S := by omega
        rw [hmin] at hrow
        have hsl : Sl wr .u8 q (B.take S) := own_sl (by rw [List.length_take, HBL.out, Nat.min_eq_left hSm]; exact hrow)
        have HE1 := Lib.hid he
        have HO1 := Lib.hid ho
        have HSL := Lib.hid hsl
        clear hyes he ho hmin hrow hsl
        go_wp2_with fail
        go_ret2
        exact ⟨_, by rw [HE1.out]; rfl, by rw [HO1.out]; exact HSL.out, hb⟩
  · have he : errJ (S : Int) L = 191 := by rw [HE.out, if_neg s0, if_neg s1, if_pos hnm]
    have HO := Lib.hid (outJ_err he (by decide))
    have HEE := Lib.hid he
    have hne : ((n : Int) != (m : Int)) = true := by
      rw [bne_iff_ne]
      exact fun h => hnm (Int.ofNat.inj h)
    clear he HE hnm
    go_enter Try.func23, Try.ntmps23
    go_wp2_with fail
    go_ret2
    exact ⟨_, by rw [HEE.out]; rfl, by rw [HO.out]; exact nil_sl _ _, Below.refl _ _⟩
end Go.Proofs.Ytmncoclmgcjjjaa
