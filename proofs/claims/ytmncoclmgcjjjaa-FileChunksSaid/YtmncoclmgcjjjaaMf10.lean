/-
  Texts FlH to FlV, as one.
-/
import Derived.Test.YtmncoclmgcjjjaaMf9
import Derived.Test.YtmncoclmgcjjjaaRows
import Derived.WalkKit
import Derived.ProofKit
import Derived.OpenShut
import Derived.Below
import Derived.Carry
import Derived.Deep.DeepHandedRow
import Derived.Deep.DeepWitnessRowRef
import Derived.Lib.LaidTab
import Derived.LaidSub
import Derived.SizedLaws
import Derived.ChangeSlices
import Derived.Lib.SmallJoins
/-
  file: the document's answers: Write, Read.
-/
namespace Go.Proofs.Ytmncoclmgcjjjaa
open Go.RowKit Go.Shelf
attribute [local go_sem] Oper.semAt_some

set_option maxRecDepth 100000 in
set_option maxHeartbeats 2000000 in
theorem refWrite_some {v u : Value} {xs ds : List Nat} (p : Nat) (hx : xs.length ≤ 448) (hp : p + ds.length ≤ 448) (h0 : ds.length ≠ 0) (w : World) (hv : Sl w .u8 v xs) (hu : Sl w .u8 u ds) :
    Calls Try.prog 14 #[v, .int .i64 p, u] w fun e w' => ∃ r, e = .returned (.tuple #[r, .int .i64 0]) ∧ Sl w' .u8 r (writeF xs p ds) ∧ Below w.heap.size w w' := by
  obtain ⟨a, c, b, off, rfl, hlc, ha, hc⟩ := hv.cell
  obtain ⟨a', c', b', off', rfl, hlc', ha', hc'⟩ := hu.cell
  have HC := Lib.hid hc
  have HC' := Lib.hid hc'
  have HWA := Lib.hid (writeF_at xs p ds h0)
  have hT := writeF_length xs p ds
  rw [if_neg h0] at hT
  obtain ⟨T, hTe⟩ : ∃ T, writeF xs p ds = T := ⟨_, rfl⟩
  rw [hTe] at hT HWA ⊢
  obtain ⟨l, hl⟩ : ∃ l, xs.length = l := ⟨_, rfl⟩
  have HL := Lib.hid hl
  obtain ⟨m, hm⟩ : ∃ m, ds.length = m := ⟨_, rfl⟩
  have HM := Lib.hid hm
  rw [hl] at hx hlc ha HC hT HWA ⊢
  rw [hm] at hp h0 hlc' ha' HC' hT HWA ⊢
  obtain ⟨n, hn⟩ : ∃ n, max l (p + m) = n := ⟨_, rfl⟩
  rw [hn] at hT HWA
  have HT := Lib.hid hT
  have hn4 : n ≤ 448 := by omega
  have hmk := make_bytes 22 Try.underlying22 n (by omega) w
  have g1 : ¬ (448 : Int) < (l : Int) := by omega
  have g2 : ¬ (448 : Int) < (p : Int) := by omega
  have hw1 : IntKind.i64.wrap (448 - (p : Int)) = 448 - (p : Int) := IntWalk.i64_in _ (by omega)
  have g3 : ¬ 448 - (p : Int) < (m : Int) := by omega
  have g4 : ((m : Int) == 0) = false := by rw [beq_eq_false_iff_ne]; omega
  have hw2 : IntKind.i64.wrap ((p : Int) + (m : Int)) = ((p + m : Nat) : Int) := by rw [IntWalk.i64_in _ (by omega)]; omega
  obtain ⟨q, hq⟩ : ∃ q, p + m = q := ⟨_, rfl⟩
  rw [hq] at hw2 hn
  have hif : (if l < q then (q : Int) else (l : Int)) = (n : Int) := by split <;> omega
  have hif2 : (if (l : Int) < (q : Int) then (q : Int) else (l : Int)) = (n : Int) := by split <;> omega
  have HQ := Lib.hid hq
  have HN := Lib.hid hn
  obtain ⟨W1, hW1⟩ : ∃ W1, w.alloc (.cells (byA (List.replicate n 0)) 5) = W1 := ⟨_, rfl⟩
  rw [hW1] at hmk
  have HB1 : Hid (Below w.heap.size w W1) := show Below _ _ _ by rw [← hW1]; exact (Below.refl _ _).alloc (Nat.le_refl _) _
  have HX1 : Hid (Blk W1 w.heap.size 5 (byA (partF T 0))) := show Blk _ _ _ _ by rw [← hW1, partF_zero, hT]; exact Blk.new _ _ _
  clear hv hu hc hc' hl hm hT hTe hW1 hq hn hx hp
  go_enter Try.func14, Try.ntmps14
  go_wp2
  go_loopw [9] (fun i wr => ∃ k : Nat, k ≤ n ∧ i = .int .i64 k ∧ Blk wr w.heap.size 5 (byA (partF T k)) ∧ Below w.heap.size w wr) (fun i _ => n - (intOf i).toNat)
  case atStart => exact ⟨0, Nat.zero_le _, rfl, HX1.out, HB1.out⟩
  case round =>
    obtain ⟨k, hk, rfl, hblk, hb⟩ := hrel
    have z := hb.size
    have hfz := hblk.frozen k
    have hgl := hblk.lt
    have HK := Lib.hid hblk
    clear hblk
    by_cases hlt : k < n
    · have hcl : wr.cell? ⟨w.heap.size, k, none⟩ = some (.int .u8 ((partF T k)[k]?.getD 0 : Nat)) := HK.out.cell (byA_at _ _ (by rw [partF_length _ _ (by rw [HT.out]; omega), HT.out]; exact hlt))
      obtain ⟨y, hy⟩ : ∃ y, (partF T k)[k]?.getD 0 = y := ⟨_, rfl⟩
      rw [hy] at hcl
      clear hy
      by_cases hin : p ≤ k ∧ k < q
      · obtain ⟨hin1, hin2⟩ := hin
        have hv1 : T[k]?.getD 0 = ds[k - p]?.getD 0 := by rw [HWA.out k hlt, if_pos ⟨hin1, by rw [HQ.out]; exact hin2⟩]
        have hkm : k - p < m := by have := HQ.out; omega
        obtain rfl := ha' (by omega)
        have c1 : wr.cell? ⟨b', off' + (k - p), none⟩ = some (.int .u8 (ds[k - p]?.getD 0 : Nat)) := (hb.cell (p := ⟨b', off' + (k - p), none⟩) (HC'.out (by omega)).1).trans ((HC'.out (by omega)).2 (k - p) hkm)
        rw [← hv1] at c1
        have HP : Hid (Blk (wr.setCell ⟨w.heap.size, k, none⟩ (.int .u8 (T[k]?.getD 0 : Nat))) w.heap.size 5 (byA (partF T (k + 1)))) := show Blk _ _ _ _ by
          have := HK.out.set k (.int .u8 (T[k]?.getD 0 : Nat))
          rwa [byA_set, partF_succ _ _ (by rw [HT.out]; exact hlt)] at this
        obtain ⟨x, hx⟩ : ∃ x, T[k]?.getD 0 = x := ⟨_, rfl⟩
        rw [hx] at c1 HP
        clear hx hv1
        have hw3 : IntKind.i64.wrap ((k : Int) - (p : Int)) = ((k - p : Nat) : Int) := by rw [IntWalk.i64_in _ (by omega)]; omega
        have hin1' : (p : Int) ≤ (k : Int) := by omega
        have hin2' : (k : Int) < (q : Int) := by omega
        go_wp2_with fail
        go_roundw
        case rel => exact ⟨k + 1, by omega, by go_num, HP.out, hb.setCell (Nat.le_refl _) _⟩
        case measure => simp [intOf]; omega
      · have hv1 : T[k]?.getD 0 = xs[k]?.getD 0 := by rw [HWA.out k hlt, if_neg (by rw [HQ.out]; exact hin)]
        by_cases hkl : k < l
        · obtain rfl := ha (by omega)
          have c1 : wr.cell? ⟨b, off + k, none⟩ = some (.int .u8 (xs[k]?.getD 0 : Nat)) := (hb.cell (p := ⟨b, off + k, none⟩) (HC.out (by omega)).1).trans ((HC.out (by omega)).2 k hkl)
          rw [← hv1] at c1
          have HP : Hid (Blk (wr.setCell ⟨w.heap.size, k, none⟩ (.int .u8 (T[k]?.getD 0 : Nat))) w.heap.size 5 (byA (partF T (k + 1)))) := show Blk _ _ _ _ by
            have := HK.out.set k (.int .u8 (T[k]?.getD 0 : Nat))
            rwa [byA_set, partF_succ _ _ (by rw [HT.out]; exact hlt)] at this
          obtain ⟨x, hx⟩ : ∃ x, T[k]?.getD 0 = x := ⟨_, rfl⟩
          rw [hx] at c1 HP
          clear hx hv1
          by_cases hpk : p ≤ k
          · have hqk : ¬ (k : Int) < (q : Int) := by omega
            have hpk' : (p : Int) ≤ (k : Int) := by omega
            clear hin
            go_wp2_with fail
            go_roundw
            case rel => exact ⟨k + 1, by omega, by go_num, HP.out, hb.setCell (Nat.le_refl _) _⟩
            case measure => simp [intOf]; omega
          · have hpk' : ¬ (p : Int) ≤ (k : Int) := by omega
            clear hin
            go_wp2_with fail
            go_roundw
            case rel => exact ⟨k + 1, by omega, by go_num, HP.out, hb.setCell (Nat.le_refl _) _⟩
            case measure => simp [intOf]; omega
        · have hn2 : xs[k]?.getD 0 = 0 := by rw [List.getElem?_eq_none (by rw [HL.out]; omega)]; rfl
          rw [hn2] at hv1
          have HP : Hid (Blk wr w.heap.size 5 (byA (partF T (k + 1)))) := show Blk _ _ _ _ by
            rw [← partF_stay T k (by rw [HT.out]; exact hlt) hv1]
            exact HK.out
          clear hn2 hv1
          by_cases hpk : p ≤ k
          · have hqk : ¬ (k : Int) < (q : Int) := by omega
            have hpk' : (p : Int) ≤ (k : Int) := by omega
            clear hin
            go_wp2_with fail
            go_roundw
            case rel => exact ⟨k + 1, by omega, by go_num, HP.out, hb⟩
            case measure => simp [intOf]; omega
          · have hpk' : ¬ (p : Int) ≤ (k : Int) := by omega
            clear hin
            go_wp2_with fail
            go_roundw
            case rel => exact ⟨k + 1, by omega, by go_num, HP.out, hb⟩
            case measure => simp [intOf]; omega
    · obtain rfl : k = n := by omega
      have HR : Hid (Sl wr .u8 (.slice (some ⟨w.heap.size, 0, none⟩) k k) T) := show Sl _ _ _ _ by
        have h1 := HK.out
        have h2 := HT.out
        rw [← h2, partF_all] at h1
        rw [← h2]
        exact blk_sl_all h1
      go_wp2
      go_ret2
      exact ⟨_, rfl, HR.out, hb⟩
set_option maxRecDepth 100000 in
set_option maxHeartbeats 2000000 in
theorem refRead_ok {v : Value} {xs : List Nat} (p m : Int) (hp : 0 ≤ p) (hp1 : p ≤ 9223372036854775807) (hm : 0 ≤ m) (hx : xs.length ≤ 448) (w : World) (hv : Sl w .u8 v xs) :
    Calls Try.prog 16 #[v, .int .i64 p, .int .i64 m] w fun e w' => ∃ r, e = .returned (.tuple #[r, .int .i64 0]) ∧ Sl w' .u8 r ((xs.drop p.toNat).take m.toNat) ∧ Below w.heap.size w w' := by
  obtain ⟨i0, hi, hz0, hz1, hz2⟩ := info_parts infoU8
  obtain ⟨a, c, b, off, rfl, hlc, ha, hc⟩ := hv.cell
  have HC := Lib.hid hc
  obtain ⟨l, hl⟩ : ∃ l, xs.length = l := ⟨_, rfl⟩
  have HL := Lib.hid hl
  rw [hl] at hx hlc ha HC ⊢
  have g1 : ¬ (448 : Int) < (l : Int) := by omega
  obtain ⟨P, rfl⟩ : ∃ P : Nat, p = (P : Int) := ⟨p.toNat, by omega⟩
  obtain ⟨M, rfl⟩ : ∃ M : Nat, m = (M : Int) := ⟨m.toNat, by omega⟩
  rw [Int.toNat_natCast, Int.toNat_natCast]
  have g2 : ¬ (P : Int) < 0 := by omega
  have g3 : ¬ (M : Int) < 0 := by omega
  clear hv hc hl hp hm
  go_enter Try.func16, Try.ntmps16
  go_wp2_with fail
  go_loopw [8, 9] (fun v i wr => ∃ (k : Nat) (q : Value), k ≤ l ∧ k ≤ M ∧ (k = 0 ∨ P + k ≤ l) ∧ i = .int .i64 ((P + k : Nat) : Int) ∧ q = v ∧ wr.ownsRow w.heap.size 5 1 q k (valsOf .u8 ((xs.drop P).take k)) ∧ (∃ a c, q = .slice a k c) ∧ Below w.heap.size w wr) (fun _ i _ => P + l - (intOf i).toNat)
  case atStart => exact ⟨0, _, Nat.zero_le _, Nat.zero_le _, .inl rfl, by simp, rfl, by rw [List.take_zero]; exact World.ownsRow_nil _ _ _ _, ⟨_, _, rfl⟩, Below.refl _ _⟩
  case round =>
    obtain ⟨k, q, hkl, hkM, hk0, rfl, rfl, hrow, ⟨aq, cq, hqf⟩, hb⟩ := hrel
    have z := hb.size
    by_cases hlt : P + k < l
    · by_cases hM : k < M
      · have hS : (xs.drop P).take (k + 1) = (xs.drop P).take k ++ [xs[P + k]?.getD 0] := by
          have h1 : k < (xs.drop P).length := by rw [List.length_drop, HL.out]; omega
          rw [List.take_succ_eq_append_getElem h1, List.getElem_drop]
          simp [List.getElem?_eq_getElem (show P + k < xs.length by rw [HL.out]; exact hlt)]
        have HS := Lib.hid hS
        clear hS
        obtain rfl := ha (by omega)
        have c1 : wr.cell? ⟨b, off + (P + k), none⟩ = some (.int .u8 (xs[P + k]?.getD 0 : Nat)) := (hb.cell (p := ⟨b, off + (P + k), none⟩) (HC.out (by omega)).1).trans ((HC.out (by omega)).2 (P + k) hlt)
        obtain ⟨x, hx1⟩ : ∃ x, x = xs[P + k]?.getD 0 := ⟨_, rfl⟩
        obtain ⟨j, hj⟩ : ∃ j, P + k = j := ⟨_, rfl⟩
        have hrow' := hrow
        rw [← hx1] at c1 HS
        rw [hj] at c1 hlt
        rw [hj]
        have g4 : (k : Int) < (M : Int) := by omega
        have hjw : IntKind.i64.wrap ((j : Int) + 1) = ((j + 1 : Nat) : Int) := by rw [IntWalk.i64_in _ (by omega)]; omega
        have HJ := Lib.hid hj
        clear hx1 hj hk0
        subst hqf
        go_wp2_with (at_builtin; refine wpList_append_own _ rfl _ _ 22 rfl w.heap.size 5 i0 (.int .u8 0) 1 1 Try.underlying22 hi hz0 hz1 hz2 rfl (by decide) (.slice aq k cq) _ _ rfl (hrow.alloc _) ⟨wr.heap.size, 0, none⟩ 1 1 [.int .u8 (x : Nat)] rfl rfl (cell_one_new _ _ _) (by simp [Value.oneCell']) (by unfold maxLen; omega) (by omega) (by simp; omega) ?_; intro v' w1 hown' hgrow _)
        have hf : ∃ a c, v' = .slice a (k + 1) c := by
          obtain ⟨g, c, rfl⟩ := ownsRow_succ hown'
          exact ⟨_, _, rfl⟩
        go_roundw
        case rel =>
          have hj' := HJ.out
          refine ⟨k + 1, _, by omega, by omega, .inr (by omega), by rw [show P + (k + 1) = j + 1 by omega]; first | exact hjw ▸ rfl | rfl, rfl, ?_, hf, (hb.alloc (by omega) _).grown hgrow (by simp; omega) (fun j e => (hrow.lt j e).1)⟩
          rw [HS.out, valsOf_append]; exact hown'
        case measure => have hj' := HJ.out; simp [intOf]; omega
      · obtain rfl : k = M := by omega
        have hsl := own_sl (xs := (xs.drop P).take k) (by rw [show ((xs.drop P).take k).length = k by rw [List.length_take, List.length_drop, HL.out]; omega]; exact hrow)
        have HR := Lib.hid hsl
        obtain ⟨j, hj⟩ : ∃ j, P + k = j := ⟨_, rfl⟩
        rw [hj] at hlt ⊢
        clear hsl hj hk0
        subst hqf
        go_wp2
        go_ret2
        exact ⟨_, rfl, HR.out, hb⟩
    · have hd : (xs.drop P).take k = (xs.drop P).take M := by
        rw [List.take_of_length_le (by rw [List.length_drop, HL.out]; omega), List.take_of_length_le (by rw [List.length_drop, HL.out]; omega)]
      have hlk : ((xs.drop P).take k).length = k := by
        rw [List.length_take, List.length_drop, HL.out]; omega
      have hsl := own_sl (xs := (xs.drop P).take k) (by rw [hlk]; exact hrow)
      rw [hd] at hsl
      have HR := Lib.hid hsl
      obtain ⟨j, hj⟩ : ∃ j, P + k = j := ⟨_, rfl⟩
      rw [hj] at hlt ⊢
      clear hsl hd hj hk0 hlk
      subst hqf
      go_wp2
      go_ret2
      exact ⟨_, rfl, HR.out, hb⟩
end Go.Proofs.Ytmncoclmgcjjjaa

/-
  file: the document's answers: Write, Cut, Read, whole.
-/
namespace Go.Proofs.Ytmncoclmgcjjjaa
open Go.RowKit Go.Shelf
attribute [local go_sem] Oper.semAt_some

set_option maxRecDepth 100000 in
set_option maxHeartbeats 2000000 in
theorem refWrite_none {v u : Value} {xs ds : List Nat} (p : Nat) (hx : xs.length ≤ 448) (hp : p ≤ 448) (h0 : ds.length = 0) (w : World) (hv : Sl w .u8 v xs) (hu : Sl w .u8 u ds) :
    Calls Try.prog 14 #[v, .int .i64 p, u] w fun e w' => ∃ r, e = .returned (.tuple #[r, .int .i64 0]) ∧ Sl w' .u8 r xs ∧ Below w.heap.size w w' := by
  obtain ⟨i0, hi, hz0, hz1, hz2⟩ := info_parts infoU8
  have HV := Lib.hid hv
  obtain ⟨a, c, rfl, hlc, -⟩ := hv
  obtain ⟨a', c', rfl, hlc', -⟩ := hu
  rw [h0] at hlc' ⊢
  obtain ⟨l, hl⟩ : ∃ l, xs.length = l := ⟨_, rfl⟩
  have HL := Lib.hid hl
  rw [hl] at hx hlc ⊢
  have HV2 : Hid (Sl w .u8 (.slice a l c) xs) := show Sl _ _ _ _ by rw [← hl]; exact HV.out
  clear HV
  have g1 : ¬ (448 : Int) < (l : Int) := by omega
  have g2 : ¬ (448 : Int) < (p : Int) := by omega
  have hw1 : IntKind.i64.wrap (448 - (p : Int)) = 448 - (p : Int) := IntWalk.i64_in _ (by omega)
  have g3 : ¬ 448 - (p : Int) < 0 := by omega
  clear hl h0
  go_enter Try.func14, Try.ntmps14
  go_wp2_with (at_builtin; refine wpList_append_sl _ rfl _ _ 22 rfl w.heap.size 5 i0 (.int .u8 0) 1 .u8 Try.underlying22 hi hz0 hz1 hz2 rfl (.slice none 0 0) [] rfl (World.ownsRow_nil _ _ _ _) (.slice a l c) xs rfl HV2.out (by have := HL.out; unfold maxLen; simp; omega) (by have := HL.out; simp; omega) (Nat.le_refl _) ?_; intro v' w1 hown hgrow _)
  go_ret2
  refine ⟨_, rfl, own_sl (by simpa using hown), (Below.refl _ _).grown hgrow (Nat.le_refl _) (fun j e => by simp [Value.ownBlock] at e)⟩
theorem refWrite_any {v u : Value} {xs ds : List Nat} (p : Int) (hp0 : -9223372036854775808 ≤ p) (hp1 : p ≤ 9223372036854775807) (_hd : ds.length ≤ 9223372036854775807) (w : World) (hv : Sl w .u8 v xs) (hu : Sl w .u8 u ds) :
    Calls Try.prog 14 #[v, .int .i64 p, u] w fun e w' => ∃ r, e = .returned (.tuple #[r, .int .i64 (errW xs.length p ds.length)]) ∧ Sl w' .u8 r (outW xs p ds) ∧ Below w.heap.size w w' := by
  by_cases h1 : p < 0
  · have HX : Hid (errW xs.length p ds.length = 2) := show _ = _ from errW_neg h1
    have HY : Hid (outW xs p ds = []) := show _ = _ by unfold outW; rw [HX.out]; rfl
    obtain ⟨a, c, rfl, -⟩ := hv
    obtain ⟨a', c', rfl, -⟩ := hu
    rw [HX.out, HY.out]
    go_enter Try.func14, Try.ntmps14
    go_wp2
    go_ret2
    exact ⟨_, rfl, nil_sl _ _, Below.refl _ _⟩
  · by_cases h2 : 448 < xs.length ∨ 448 - p < ds.length
    · have HX : Hid (errW xs.length p ds.length = 190) := show _ = _ from errW_big (by omega) h2
      have HY : Hid (outW xs p ds = []) := show _ = _ by unfold outW; rw [HX.out]; rfl
      obtain ⟨a, c, rfl, -⟩ := hv
      obtain ⟨a', c', rfl, -⟩ := hu
      rw [HX.out, HY.out]
      obtain ⟨l, hl⟩ : ∃ l, xs.length = l := ⟨_, rfl⟩
      obtain ⟨m, hm⟩ : ∃ m, ds.length = m := ⟨_, rfl⟩
      rw [hl, hm] at h2
      rw [hl, hm]
      clear HX HY hl hm
      have hw1 : IntKind.i64.wrap (448 - p) = 448 - p := IntWalk.i64_in _ (by omega)
      by_cases h3 : (448 : Int) < (l : Int)
      · clear h2
        go_enter Try.func14, Try.ntmps14
        go_wp2_with fail
        go_ret2
        exact ⟨_, rfl, nil_sl _ _, Below.refl _ _⟩
      · by_cases h4 : (448 : Int) < p
        · clear h2
          go_enter Try.func14, Try.ntmps14
          go_wp2_with fail
          go_ret2
          exact ⟨_, rfl, nil_sl _ _, Below.refl _ _⟩
        · have h5 : 448 - p < (m : Int) := by omega
          clear h2
          go_enter Try.func14, Try.ntmps14
          go_wp2_with fail
          go_ret2
          exact ⟨_, rfl, nil_sl _ _, Below.refl _ _⟩
    · have hx : xs.length ≤ 448 := by omega
      obtain ⟨q, rfl⟩ : ∃ q : Nat, p = (q : Int) := ⟨p.toNat, by omega⟩
      have hout : outW xs q ds = writeF xs q ds := by unfold outW; rw [errW_ok (by omega) h2]; rfl
      rw [errW_ok (by omega) h2, hout]
      by_cases h0 : ds.length = 0
      · rw [show writeF xs q ds = xs from if_pos h0]
        exact refWrite_none q hx (by omega) h0 w hv hu
      · exact refWrite_some q hx (by omega) h0 w hv hu
theorem refCut_any {v : Value} {xs : List Nat} (p : Int) (w : World) (hv : Sl w .u8 v xs) :
    Calls Try.prog 15 #[v, .int .i64 p] w fun e w' => ∃ r, e = .returned (.tuple #[r, .int .i64 (errW xs.length p 0)]) ∧ Sl w' .u8 r (outC xs p) ∧ Below w.heap.size w w' := by
  by_cases h1 : p < 0
  · have HX : Hid (errW xs.length p 0 = 2) := show _ = _ from errW_neg h1
    have HY : Hid (outC xs p = []) := show _ = _ by unfold outC; rw [HX.out]; rfl
    obtain ⟨a, c, rfl, -⟩ := hv
    rw [HX.out, HY.out]
    go_enter Try.func15, Try.ntmps15
    go_wp2
    go_ret2
    exact ⟨_, rfl, nil_sl _ _, Below.refl _ _⟩
  · by_cases h2 : 448 < xs.length ∨ 448 - p < (0 : Nat)
    · have HX : Hid (errW xs.length p 0 = 190) := show _ = _ from errW_big (by omega) h2
      have HY : Hid (outC xs p = []) := show _ = _ by unfold outC; rw [HX.out]; rfl
      obtain ⟨a, c, rfl, -⟩ := hv
      rw [HX.out, HY.out]
      obtain ⟨l, hl⟩ : ∃ l, xs.length = l := ⟨_, rfl⟩
      rw [hl] at h2
      rw [hl]
      clear HX HY hl
      by_cases h3 : (448 : Int) < (l : Int)
      · clear h2
        go_enter Try.func15, Try.ntmps15
        go_wp2_with fail
        go_ret2
        exact ⟨_, rfl, nil_sl _ _, Below.refl _ _⟩
      · have h4 : (448 : Int) < p := by omega
        clear h2
        go_enter Try.func15, Try.ntmps15
        go_wp2_with fail
        go_ret2
        exact ⟨_, rfl, nil_sl _ _, Below.refl _ _⟩
    · have hx : xs.length ≤ 448 := by omega
      obtain ⟨q, rfl⟩ : ∃ q : Nat, p = (q : Int) := ⟨p.toNat, by omega⟩
      have hout : outC xs q = cutF xs q := by unfold outC; rw [errW_ok (by omega) h2]; rfl
      rw [errW_ok (by omega) h2, hout]
      exact refCut_ok q hx (by omega) w hv
theorem refRead9_any {v : Value} {xs : List Nat} (p m : Int) (hp1 : p ≤ 9223372036854775807) (w : World) (hv : Sl w .u8 v xs) :
    Calls Try.prog 16 #[v, .int .i64 p, .int .i64 m] w fun e w' => ∃ r, e = .returned (.tuple #[r, .int .i64 (errR xs.length p m)]) ∧ Sl w' .u8 r (outR xs p m) ∧ Below w.heap.size w w' := by
  by_cases h1 : p < 0 ∨ m < 0
  · have HX : Hid (errR xs.length p m = 2) := show _ = _ from if_pos h1
    have HY : Hid (outR xs p m = []) := show _ = _ by unfold outR; rw [HX.out]; rfl
    obtain ⟨a, c, rfl, -⟩ := hv
    rw [HX.out, HY.out]
    by_cases h2 : p < 0
    · clear h1
      go_enter Try.func16, Try.ntmps16
      go_wp2_with fail
      go_ret2
      exact ⟨_, rfl, nil_sl _ _, Below.refl _ _⟩
    · have h3 : m < 0 := by omega
      clear h1
      go_enter Try.func16, Try.ntmps16
      go_wp2_with fail
      go_ret2
      exact ⟨_, rfl, nil_sl _ _, Below.refl _ _⟩
  · by_cases h4 : 448 < xs.length
    · have HX : Hid (errR xs.length p m = 190) := show _ = _ by unfold errR; rw [if_neg h1, if_pos h4]
      have HY : Hid (outR xs p m = []) := show _ = _ by unfold outR; rw [HX.out]; rfl
      obtain ⟨a, c, rfl, -⟩ := hv
      rw [HX.out, HY.out]
      obtain ⟨l, hl⟩ : ∃ l, xs.length = l := ⟨_, rfl⟩
      rw [hl] at h4 ⊢
      have h2 : ¬ p < 0 := by omega
      have h3 : ¬ m < 0 := by omega
      have h5 : (448 : Int) < (l : Int) := by omega
      clear h1 h4 HX HY hl
      go_enter Try.func16, Try.ntmps16
      go_wp2_with fail
      go_ret2
      exact ⟨_, rfl, nil_sl _ _, Below.refl _ _⟩
    · have HX : errR xs.length p m = 0 := by unfold errR; rw [if_neg h1, if_neg h4]
      have HY : outR xs p m = (xs.drop p.toNat).take m.toNat := by unfold outR; rw [HX]; rfl
      rw [HX, HY]
      exact refRead_ok p m (by omega) hp1 (by omega) (by omega) w hv
end Go.Proofs.Ytmncoclmgcjjjaa

/-
  The frame of a law's row: whatever the arguments are, they read behind the call as they did, if nothing that lay has turned.
-/
namespace Go.Proofs.Ytmncoclmgcjjjaa
open Go.ChangeShapes Go.WideShapes Go.ChangeAt Go.RowKit

theorem own : ownKnob Try.prog.godebug = none := by kernel_rfl
theorem laidOut : laidOutB Try.prog = true := by kernel_rfl
/-- One listed variable's reading. -/
def ReadsAs (P : Program) (w : World) (n : String) (d : DataW Unit) : Prop :=
  ∃ g t cs fuel p, P.globalNamed n = some g ∧ (P.globals[g]?).map (·.type) = some t ∧ w.var? P n = some cs ∧ DataW.trod (fun _ => ()) P w 0 (fun _ => true) false fuel t cs.toList = some (d, p)
theorem readsAs_list {P : Program} {w : World} : ∀ {l : List (String × DataW Unit)} {ps : List MemPlace}, DataW.LaidVars P w l ps → ∀ x ∈ l, ReadsAs P w x.1 x.2
  | [], _, _, _, hm => by cases hm
  | y :: r, ps, h, x, hm => by
    obtain ⟨g, t, cs, fuel, p, q, h1, h2, h3, h4, h5, _⟩ := h
    rcases List.mem_cons.1 hm with e | e
    · subst e; exact ⟨g, t, cs, fuel, p, h1, h2, h3, h4⟩
    · exact readsAs_list h5 x e
theorem readsAs_of_laid {P : Program} {w : World} {l : List (String × DataW Unit)} (h : laidMet P l w) {n : String} {d : DataW Unit} (hm : (n, d) ∈ l) : ReadsAs P w n d :=
  let ⟨_, hv, _⟩ := h
  readsAs_list hv (n, d) hm
/-- A listed array of integers holds them, cell for cell. -/
theorem tabIs_of_reads {P : Program} {W : World} {name : String} {k : IntKind} {zs : List Int} {g : Nat} {t e : TypeId} {n : Nat}
    (hg : P.globalNamed name = some g) (hty : (P.globals[g]?).map (·.type) = some t) (ht : P.underlying t = some (.array n e)) (he : P.underlying e = some (.int k)) (hce : P.cellsOf e = 1) (hct : P.cellsOf t = n)
    (h : ReadsAs P W name (Lib.tabData k zs)) : Lib.TabIs P W name k zs := by
  obtain ⟨g', t', cs, fuel, p, hg', ht', hvar, hd⟩ := h
  obtain rfl := Option.some.inj (hg.symm.trans hg')
  obtain rfl := Option.some.inj (hty.symm.trans ht')
  unfold Lib.TabIs
  rw [hvar, ← Lib.cells_of_tab ht he hce hct hd]
/-- These types read as data. -/
def typesOk (P : Program) (ts : List TypeId) : Bool := ts.all fun t => P.readableRec t && decide (t < P.types.size)
theorem trodAll_below {H : Type} {enc : TypeId × Value → H} {P : Program} (hl : laidOutB P = true) {W W' : World} (hb : Below W.heap.size W W') :
    ∀ {ts : List TypeId} {vs : List Value} {ds : List (DataW H)} {ps : List MemPlace}, typesOk P ts = true → DataW.TrodAll enc P W 0 (fun _ => true) true ts vs ds ps → (∀ x ∈ ps, x.block < W.heap.size) →
      DataW.TrodAll enc P W' 0 (fun b => decide (b < W.heap.size)) true ts vs ds ps
  | [], [], [], _, _, h, _ => h
  | [], [], _ :: _, _, _, h, _ => h.elim
  | [], _ :: _, _, _, _, h, _ => by cases h
  | _ :: _, [], _, _, _, h, _ => by cases h
  | _ :: _, _ :: _, [], _, _, h, _ => by cases h
  | t :: ts, v :: vs, d :: ds, ps, ht, ⟨p, q, h1, h2, e⟩, hlt => by
    simp only [typesOk, List.all_cons, Bool.and_eq_true, decide_eq_true_eq] at ht
    subst e
    exact ⟨p, q, Below.trod hl ht.1.1 ht.1.2 h1 hb (fun x hx => hlt x (List.mem_append_left _ hx)),
      trodAll_below hl hb (by simpa [typesOk] using ht.2) h2 (fun x hx => hlt x (List.mem_append_right _ hx)), rfl⟩
/-- A law's post: it returned true, and nothing that lay has turned. -/
theorem law_post {H : Type} {enc : TypeId × Value → H} {P : Program} (hl : laidOutB P = true) {f : Func} {s : ChangeSpec} {apart fresh handsOn : Bool} {W W' : World} {args : Array Value} {ds gs : List (DataW H)} {before : List MemPlace} {tb : TypeId}
    (hW : DataW.Whole enc P f.params.toList s.vars apart W args.toList ds gs before) (hv0 : s.vars = []) (hres : (s.fn H (ds ++ [])).results = [.lit (.bool true)]) (hargs : (s.fn H (ds ++ [])).args = ds) (hvars : (s.fn H (ds ++ [])).vars = [])
    (ht : typesOk P f.params.toList = true) (hrt : f.resultTypes = #[tb]) (htb : P.underlying tb = some .bool) (hb : Below W.heap.size W W') :
    s.post enc P f apart fresh handsOn false W args (.bool true) W' := by
  have hW' := hW
  obtain ⟨p, q, hA, hV, hbef, hfz, hnd⟩ := hW
  rw [hv0] at hV
  obtain ⟨rfl, rfl⟩ := trodVars_none hV
  rw [List.append_nil] at hbef
  subst hbef
  have hlt : ∀ x ∈ before, x.block < W.heap.size := fun x hx => hW'.lt x hx
  refine ⟨ds, [], before, [], before, [], hW', ?_, ?_, ?_, World.keptBut_mono (fun x hx => ⟨hx, .inr ?_⟩) (hb.frame (· ∈ before)), fun h => by cases h⟩
  · rw [hres, hrt]
    exact trodAll_cons_mk (shut_bool htb _) trodAll_mk0
  · rw [hargs]
    exact trodAll_below hl hb ht hA hlt
  · rw [hvars, hv0]
    rfl
  · simpa using hx
end Go.Proofs.Ytmncoclmgcjjjaa

/-
  A slice of unsigned numbers that a law is handed, opened: the numbers as naturals, and its capacity.
-/
namespace Go.Proofs.Ytmncoclmgcjjjaa
open Go.ChangeShapes Go.WideShapes Go.ChangeAt Go.RowKit

set_option maxRecDepth 100000 in
theorem open_sl {H : Type} {enc : TypeId × Value → H} {W : World} {base : Nat} {t e : TypeId} {k : IntKind} {v : Value} {d : DataW H} {p : List MemPlace}
    (ht : Try.prog.underlying t = some (.slice e)) (he : Try.prog.underlying e = some (.int k)) (hc : Try.prog.cellsOf e = 1) (hk : ∀ n, (Lit.int k n).wf = true → 0 ≤ n)
    (hval : Value.okWide Try.prog W .any base t v) (h : DataW.Trod enc Try.prog W 0 (fun _ => true) true t v d p) (hlt : ∀ x ∈ p, x.block < W.heap.size) :
    ∃ xs : List Nat, Sl W k v xs ∧ (∀ x ∈ xs, (Lit.int k (x : Int)).wf = true) ∧
      ((v = .slice none 0 0 ∧ xs = [] ∧ d = .nil) ∨ ∃ a cap el sp, v = .slice (some a) xs.length cap ∧ d = .slice el sp ∧ el.length + sp.length = cap) := by
  obtain ⟨a0, len, cap, rfl⟩ := okWide_slice ht hval
  obtain ⟨fuel, hf⟩ := h
  rcases open_ints ht he hc hf with ⟨hcs, hx⟩ | ⟨a, len', cap', zs, hcs, _, hl, hm, hz, hx, hcell, hwz⟩
  · simp [Value.cells] at hcs
    obtain ⟨rfl, rfl, rfl⟩ := hcs
    simp only [Prod.mk.injEq] at hx
    exact ⟨[], ⟨none, 0, rfl, Nat.le_refl _, fun h => by simp at h⟩, (fun x hx => by cases hx), .inl ⟨rfl, rfl, hx.1⟩⟩
  · simp [Value.cells] at hcs
    obtain ⟨rfl, rfl, rfl⟩ := hcs
    simp only [Prod.mk.injEq] at hx
    obtain ⟨rfl, rfl⟩ := hx
    simp only [if_true] at hz
    have hlen : ((zs.take len).map Int.toNat).length = len := by simp; omega
    refine ⟨(zs.take len).map Int.toNat, ⟨some a, cap, by rw [hlen], by omega, fun h0 => ?_⟩, fun x hx => ?_, .inr ⟨a, cap, _, _, by rw [hlen], rfl, ?_⟩⟩
    · obtain ⟨b, off, rfl, hj⟩ := ints_at hcell (by omega)
      refine ⟨b, off, rfl, hlt (.cell b off) (MemPlace.mem_row.2 ⟨0, by omega, by simp⟩), fun j hjl => ?_⟩
      rw [hlen] at hjl
      rw [hj j (by omega)]
      have h0 := hk _ (hwz _ (List.getElem_mem (show j < zs.length by omega)))
      simp [List.getD, List.getElem?_map, hjl, List.getElem?_eq_getElem (show j < zs.length by omega)]
      omega
    · obtain ⟨z, hz1, rfl⟩ := List.mem_map.1 hx
      have hw := hwz z (List.mem_of_mem_take hz1)
      have h0 := hk _ hw
      rwa [Int.toNat_of_nonneg h0]
    · simp [lits]; omega
theorem nn8 : ∀ n, (Lit.int .u8 n).wf = true → 0 ≤ n := fun _ h => (bounds_u8 h).1
theorem nn64 : ∀ n, (Lit.int .u64 n).wf = true → 0 ≤ n := fun _ h => (bounds_u64 h).1
theorem getD_all {xs : List Nat} {m : Nat} (hm : 0 < m) (h : ∀ x ∈ xs, x < m) (i : Nat) : xs[i]?.getD 0 < m := by
  by_cases hi : i < xs.length
  · simp [hi, h _ (List.getElem_mem hi)]
  · simp [List.getElem?_eq_none (by omega : xs.length ≤ i), hm]
end Go.Proofs.Ytmncoclmgcjjjaa

/-
  The law FileWrites: its walk.
-/
namespace Go.Proofs.Ytmncoclmgcjjjaa
open Go.RowKit Go.Shelf
attribute [local go_sem] Oper.semAt_some

theorem fb_of {W : World} {v : Value} {xs : List Nat} (hs : Sl W .u8 v xs) (hw : ∀ x ∈ xs, (Lit.int .u8 (x : Int)).wf = true) (hcap : (v = .slice none 0 0 ∧ xs = []) ∨ ∃ a cap, v = .slice (some a) xs.length cap ∧ cap * 1 ≤ 140737488351232) : FB W v xs := by
  refine ⟨hs, fun i => ?_, fun a n c e => ?_⟩
  · unfold WM.at'
    by_cases h : i < xs.length
    · rw [List.getElem?_eq_getElem h, Option.getD_some]
      have := hw _ (List.getElem_mem h)
      simp [Lit.wf, IntKind.min, IntKind.max, IntKind.signed, IntKind.bits] at this
      omega
    · rw [List.getElem?_eq_none (by omega)]; decide
  · rcases hcap with ⟨h, _⟩ | ⟨a', cap, h, hc⟩
    · rw [h] at e; cases e; omega
    · rw [h] at e
      simp only [Value.slice.injEq] at e
      omega
theorem strEq9 (s : ByteArray) (W : World) : (binOp .eql 9 (.string s) (.string s)).run Try.prog W = .ok (.bool true) W := by
  simp [go_sem]
set_option maxRecDepth 100000 in
set_option maxHeartbeats 4000000 in
theorem writes9_any {v u : Value} {xs ds : List Nat} (p m : Int) (hp0 : -9223372036854775808 ≤ p) (hp1 : p ≤ 9223372036854775807) (hm0 : -9223372036854775808 ≤ m) (hm1 : m ≤ 9223372036854775807) (w : World) (hv : FB w v xs) (hu : FB w u ds) :
    Calls Try.prog 3 #[v, .int .i64 p, u, .int .i64 m] w fun e w' => e = .returned (.bool true) ∧ Below w.heap.size w w' := by
  have HK := Lib.hid works9_any
  have HN := Lib.hid num9_any
  have HS := Lib.hid strEq9
  have H1 : Hid (∀ W, Below w.heap.size w W → Calls Try.prog 11 #[v, .int .i64 p, u] W fun e w' => ∃ r, e = .returned (.tuple #[r, .int .i64 (errW xs.length p ds.length)]) ∧ FB w' r (outW xs p ds) ∧ Below W.heap.size W w') := show ∀ W, _ from fun W hW => write_any p hp0 hp1 W (hv.below hW) (hu.below hW)
  have H2 : Hid (∀ W, Below w.heap.size w W → Calls Try.prog 12 #[v, .int .i64 m] W fun e w' => ∃ r, e = .returned (.tuple #[r, .int .i64 (errW xs.length m 0)]) ∧ FB w' r (outC xs m) ∧ Below W.heap.size W w') := show ∀ W, _ from fun W hW => cut_any m hm0 hm1 W (hv.below hW)
  have H3 : Hid (∀ W, Below w.heap.size w W → Calls Try.prog 13 #[v, .int .i64 p, .int .i64 m] W fun e w' => ∃ r, e = .returned (.tuple #[r, .int .i64 (errR xs.length p m)]) ∧ FB w' r (outR xs p m) ∧ Below W.heap.size W w') := show ∀ W, _ from fun W hW => readF_any p m W (hv.below hW)
  have H4 : Hid (∀ W, Below w.heap.size w W → ds.length ≤ 9223372036854775807 → Calls Try.prog 14 #[v, .int .i64 p, u] W fun e w' => ∃ r, e = .returned (.tuple #[r, .int .i64 (errW xs.length p ds.length)]) ∧ Sl w' .u8 r (outW xs p ds) ∧ Below W.heap.size W w') := show ∀ W, _ from fun W hW hd => refWrite_any p hp0 hp1 hd W (hv.sl.below hW) (hu.sl.below hW)
  have H5 : Hid (∀ W, Below w.heap.size w W → Calls Try.prog 15 #[v, .int .i64 m] W fun e w' => ∃ r, e = .returned (.tuple #[r, .int .i64 (errW xs.length m 0)]) ∧ Sl w' .u8 r (outC xs m) ∧ Below W.heap.size W w') := show ∀ W, _ from fun W hW => refCut_any m W (hv.sl.below hW)
  have H6 : Hid (∀ W, Below w.heap.size w W → Calls Try.prog 16 #[v, .int .i64 p, .int .i64 m] W fun e w' => ∃ r, e = .returned (.tuple #[r, .int .i64 (errR xs.length p m)]) ∧ Sl w' .u8 r (outR xs p m) ∧ Below W.heap.size W w') := show ∀ W, _ from fun W hW => refRead9_any p m hp1 W (hv.sl.below hW)
  obtain ⟨a, c, rfl, -⟩ := hv.form
  obtain ⟨a', c', rfl, hlc, hcc⟩ := hu.form
  have hdl : ds.length ≤ 9223372036854775807 := by omega
  obtain ⟨n, hn⟩ : ∃ n, xs.length = n := ⟨_, rfl⟩
  obtain ⟨k, hk⟩ : ∃ k, ds.length = k := ⟨_, rfl⟩
  rw [hn] at H1 H2 H3 H4 H5 H6 ⊢
  rw [hk] at H1 H4 hdl ⊢
  obtain ⟨e1, he1⟩ : ∃ e, errW n p k = e := ⟨_, rfl⟩
  obtain ⟨e2, he2⟩ : ∃ e, errW n m 0 = e := ⟨_, rfl⟩
  obtain ⟨e3, he3⟩ : ∃ e, errR n p m = e := ⟨_, rfl⟩
  rw [he1] at H1 H4
  rw [he2] at H2 H5
  rw [he3] at H3 H6
  have q1 : ∀ e : Int, (e == e) = true := fun e => by simp
  clear hv hu hn hk he1 he2 he3 hlc hcc
  by_cases hbig : 600 < n
  · have g1 : (600 : Int) < (n : Int) := by omega
    clear hbig
    go_enter Try.func3, Try.ntmps3
    go_wp2_with fail
    refine (HK.out _).mono ?_
    rintro e w1 ⟨rfl, hb⟩
    go_wp2_with fail
    go_ret
    exact ⟨rfl, hb⟩
  by_cases hbig2 : 600 < k
  · have g1 : (600 : Int) < (k : Int) := by omega
    have g2 : ¬ (600 : Int) < (n : Int) := by omega
    clear hbig hbig2
    go_enter Try.func3, Try.ntmps3
    go_wp2_with fail
    refine (HK.out _).mono ?_
    rintro e w1 ⟨rfl, hb⟩
    go_wp2_with fail
    go_ret
    exact ⟨rfl, hb⟩
  have g1 : ¬ (600 : Int) < (n : Int) := by omega
  have g2 : ¬ (600 : Int) < (k : Int) := by omega
  have HB0 : Hid (Below w.heap.size w w) := show Below _ _ _ from Below.refl _ _
  clear hbig hbig2
  go_enter Try.func3, Try.ntmps3
  go_wp2_with fail
  refine (H1.out w HB0.out).mono ?_
  rintro e w1 ⟨r1, rfl, f1, hb⟩
  have HB1 : Hid (Below w.heap.size w w1) := show Below _ _ _ from HB0.out.trans (hb.mono HB0.out.size)
  have F1 := Lib.hid f1.sl
  clear hb f1
  go_wp2_with fail
  refine (H2.out w1 HB1.out).mono ?_
  rintro e w2 ⟨r2, rfl, f2, hb⟩
  have HB2 : Hid (Below w.heap.size w w2) := show Below _ _ _ from HB1.out.trans (hb.mono HB1.out.size)
  have F1 := Lib.hid (F1.out.below hb)
  have F2 := Lib.hid f2.sl
  clear hb f2
  go_wp2_with fail
  refine (H3.out w2 HB2.out).mono ?_
  rintro e w3 ⟨r3, rfl, f3, hb⟩
  have HB3 : Hid (Below w.heap.size w w3) := show Below _ _ _ from HB2.out.trans (hb.mono HB2.out.size)
  have F1 := Lib.hid (F1.out.below hb)
  have F2 := Lib.hid (F2.out.below hb)
  have F3 := Lib.hid f3.sl
  clear hb f3
  go_wp2_with fail
  refine (H4.out w3 HB3.out hdl).mono ?_
  rintro e w4 ⟨r4, rfl, f4, hb⟩
  have HB4 : Hid (Below w.heap.size w w4) := show Below _ _ _ from HB3.out.trans (hb.mono HB3.out.size)
  have F1 := Lib.hid (F1.out.below hb)
  have F2 := Lib.hid (F2.out.below hb)
  have F3 := Lib.hid (F3.out.below hb)
  have F4 := Lib.hid f4
  clear hb f4
  go_wp2_with fail
  refine (H5.out w4 HB4.out).mono ?_
  rintro e w5 ⟨r5, rfl, f5, hb⟩
  have HB5 : Hid (Below w.heap.size w w5) := show Below _ _ _ from HB4.out.trans (hb.mono HB4.out.size)
  have F1 := Lib.hid (F1.out.below hb)
  have F2 := Lib.hid (F2.out.below hb)
  have F3 := Lib.hid (F3.out.below hb)
  have F4 := Lib.hid (F4.out.below hb)
  have F5 := Lib.hid f5
  clear hb f5
  go_wp2_with fail
  refine (H6.out w5 HB5.out).mono ?_
  rintro e w6 ⟨r6, rfl, f6, hb⟩
  have HB6 : Hid (Below w.heap.size w w6) := show Below _ _ _ from HB5.out.trans (hb.mono HB5.out.size)
  have d1 := conv_sl (F1.out.below hb)
  have d2 := conv_sl (F2.out.below hb)
  have d3 := conv_sl (F3.out.below hb)
  have d4 := conv_sl (F4.out.below hb)
  have d5 := conv_sl (F5.out.below hb)
  have d6 := conv_sl f6
  obtain ⟨s1, hs1⟩ : ∃ s, strOf (outW xs p ds) = s := ⟨_, rfl⟩
  obtain ⟨s2, hs2⟩ : ∃ s, strOf (outC xs m) = s := ⟨_, rfl⟩
  obtain ⟨s3, hs3⟩ : ∃ s, strOf (outR xs p m) = s := ⟨_, rfl⟩
  rw [hs1] at d1 d4
  rw [hs2] at d2 d5
  rw [hs3] at d3 d6
  have k1 := HS.out s1
  have k2 := HS.out s2
  have k3 := HS.out s3
  clear hb f6 hs1 hs2 hs3
  go_wp2_with (go_at_call 17; refine (HN.out _ _).mono ?_; rintro e w' ⟨rfl, rfl⟩)
  refine (HK.out _).mono ?_
  rintro e w7 ⟨rfl, hb⟩
  have HB7 : Hid (Below w.heap.size w w7) := show Below _ _ _ from HB6.out.trans (hb.mono HB6.out.size)
  clear hb
  go_wp2_with fail
  go_ret
  exact ⟨rfl, HB7.out⟩
end Go.Proofs.Ytmncoclmgcjjjaa

/-
  The law FileHolds: facts, and its argument opened.
-/
namespace Go.Proofs.Ytmncoclmgcjjjaa
open Go.ChangeShapes Go.WideShapes Go.ChangeAt Go.RowKit Go.Joins Go.Shelf

set_option maxRecDepth 100000 in
theorem open_two9 {H : Type} {enc : TypeId × Value → H} {W : World} {base : Nat} {v : Value} {d : DataW H} {p : List MemPlace}
    (hv : Value.okWide Try.prog W .any base 55 v) (h : DataW.Trod enc Try.prog W 0 (fun _ => true) true 55 v d p) :
    ∃ n m : Int, v = .agg #[.int .i64 n, .int .i64 m] ∧ (-9223372036854775808 ≤ n ∧ n ≤ 9223372036854775807) ∧ (-9223372036854775808 ≤ m ∧ m ≤ 9223372036854775807) := by
  have ht : Try.prog.underlying 55 = some (.array 2 3) := Try.underlying55
  have hC : Try.prog.cellsOf 55 = 2 := by kernel_rfl
  have hce : Try.prog.cellsOf 3 = 1 := by kernel_rfl
  unfold Value.okWide at hv
  rw [ht] at hv
  obtain ⟨cs, rfl, hsz, -⟩ := hv
  obtain ⟨c0, c1, rfl⟩ := array2 (hsz.trans hC)
  obtain ⟨fuel, hf⟩ := h
  obtain ⟨xs, m, -, -, -, hlen, hi⟩ := DataW.trod_array ht hf
  have h0 := hi 0 (by decide)
  have h1 := hi 1 (by decide)
  match xs, hlen with
  | [y0, y1], _ =>
    simp [Value.cells, hce] at h0 h1
    obtain ⟨f0, e0, -, w0⟩ := DataW.trod_int Try.underlying3 h0
    obtain ⟨f1, e1, -, w1⟩ := DataW.trod_int Try.underlying3 h1
    simp at e0 e1
    subst e0 e1
    have b0 := bounds_i64 w0
    have b1 := bounds_i64 w1
    exact ⟨f0, f1, rfl, by omega, by omega⟩
/-- What is written is read there. -/
theorem holds_write (b : List Nat) (p : Int) (d : List Nat) (hb : b.length ≤ 448) (he : errW b.length p d.length = 0) :
    0 ≤ p ∧ p + d.length ≤ 448 ∧ (outW b p d).length ≤ 448 ∧ errR (outW b p d).length p d.length = 0 ∧ outR (outW b p d) p d.length = d ∧ (0 < d.length → (outW b p d).length = max b.length (p.toNat + d.length)) ∧ (d.length = 0 → outW b p d = b) ∧
      (∀ i, i < b.length → ((i : Int) < p ∨ p + d.length ≤ i) → i < (outW b p d).length ∧ (outW b p d)[i]?.getD 0 = b[i]?.getD 0) := by
  have hp : 0 ≤ p := by
    rcases Int.lt_or_le p 0 with h | h
    · rw [errW_neg h] at he; cases he
    · exact h
  have hk : ¬ (448 < b.length ∨ 448 - p < d.length) := fun h => by rw [errW_big hp h] at he; cases he
  have ho : outW b p d = writeF b p.toNat d := by unfold outW; rw [if_pos he]
  have hl := writeF_length b p.toNat d
  rw [← ho] at hl
  have hl4 : (outW b p d).length ≤ 448 := by rw [hl]; split <;> omega
  have her : errR (outW b p d).length p d.length = 0 := by unfold errR; rw [if_neg (by omega), if_neg (by omega)]
  refine ⟨hp, by omega, hl4, her, ?_, fun h => by rw [hl, if_neg (by omega)], fun h => by rw [ho]; exact if_pos h, fun i hi hr => ?_⟩
  · unfold outR
    rw [if_pos her, Int.toNat_natCast]
    by_cases h0 : d.length = 0
    · rw [h0, List.take_zero]
      exact (List.eq_nil_of_length_eq_zero h0).symm
    · rw [if_neg h0] at hl
      apply WM.list_ext _ _ (by rw [List.length_take, List.length_drop, hl]; omega)
      intro j hj
      rw [List.length_take, List.length_drop, hl] at hj
      unfold WM.at'
      rw [List.getElem?_take_of_lt (by omega), List.getElem?_drop, ho, writeF_at b p.toNat d h0 _ (by omega), if_pos ⟨by omega, by omega⟩]
      congr 2
      omega
  · by_cases h0 : d.length = 0
    · have hb' : outW b p d = b := by rw [ho]; exact if_pos h0
      rw [hb']
      exact ⟨hi, rfl⟩
    · rw [if_neg h0] at hl
      refine ⟨by rw [hl]; omega, ?_⟩
      rw [ho, writeF_at b p.toNat d h0 i (by omega), if_neg (by omega)]
theorem cutF_cut (b : List Nat) (n m : Nat) (h : m ≤ n) : cutF (cutF b n) m = cutF b m := by
  apply WM.list_ext _ _ (by rw [cutF_length, cutF_length])
  intro j hj
  rw [cutF_length] at hj
  unfold WM.at'
  rw [cutF_at, if_pos hj, cutF_at, if_pos (by omega), cutF_at, if_pos hj]
/-- Cut of Cut to a lesser size is Cut to that. -/
theorem holds_cut (b : List Nat) (n m : Int) (h1 : errW b.length n 0 = 0) (h2 : errW (outC b n).length m 0 = 0) (h : m ≤ n) : errW b.length m 0 = 0 ∧ outC (outC b n) m = outC b m := by
  have e : ∀ (l : Nat) (q : Int), errW l q 0 = 0 ↔ 0 ≤ q ∧ l ≤ 448 ∧ q ≤ 448 := fun l q => by
    rcases Int.lt_or_le q 0 with hq | hq
    · rw [errW_neg hq]; omega
    · by_cases hk : 448 < l ∨ 448 - q < (0 : Nat)
      · rw [errW_big hq hk]; omega
      · rw [errW_ok hq hk]; omega
  obtain ⟨a1, a2, a3⟩ := (e _ _).1 h1
  obtain ⟨b1, b2, b3⟩ := (e _ _).1 h2
  have h3 : errW b.length m 0 = 0 := (e _ _).2 ⟨b1, a2, b3⟩
  refine ⟨h3, ?_⟩
  have o1 : outC b n = cutF b n.toNat := if_pos h1
  have o2 : outC (outC b n) m = cutF (outC b n) m.toNat := if_pos h2
  have o3 : outC b m = cutF b m.toNat := if_pos h3
  rw [o2, o1, o3]
  exact cutF_cut b _ _ (by omega)
end Go.Proofs.Ytmncoclmgcjjjaa

/-
  file: the document's chunks.
-/
namespace Go.Proofs.Ytmncoclmgcjjjaa
open Go.RowKit Go.Shelf Go.Maps
attribute [local go_sem] Oper.semAt_some

/-- A part of a slice of numbers. -/
theorem sl_mid {W : World} {k : IntKind} {b off n c : Nat} {xs : List Nat} (h : Sl W k (.slice (some ⟨b, off, none⟩) n c) xs) (i m c' : Nat) (hm : i + m ≤ xs.length) (hc : m ≤ c') : Sl W k (.slice (some ⟨b, off + i, none⟩) m c') ((xs.drop i).take m) := by
  obtain ⟨a, cap, hv, hlc, hcell⟩ := h
  have hlen : ((xs.drop i).take m).length = m := by rw [List.length_take, List.length_drop]; omega
  refine ⟨_, c', by rw [hlen], by omega, fun h0 => ?_⟩
  rw [hlen] at h0
  obtain ⟨b', off', ha, hlt, hj⟩ := hcell (by omega)
  simp only [Value.slice.injEq] at hv
  obtain ⟨rfl, -, -⟩ := hv
  simp only [Option.some.injEq, Addr.mk.injEq, and_true] at ha
  obtain ⟨rfl, rfl⟩ := ha
  refine ⟨b, off + i, rfl, hlt, fun j hjl => ?_⟩
  rw [hlen] at hjl
  rw [Nat.add_assoc, hj (i + j) (by omega), List.getElem?_take_of_lt hjl, List.getElem?_drop]
theorem words_mid (xs : List Nat) (hx : WM.Bytes256 xs) (k : Nat) : WM.wordsOf ((xs.drop (64 * k)).take 64) = fewN (WM.wordsOf xs) k := by
  have hl : (WM.wordsOf ((xs.drop (64 * k)).take 64)).length = (fewN (WM.wordsOf xs) k).length := by
    rw [WM.wordsOf_length, fewN_length, WM.wordsOf_length, List.length_take, List.length_drop]
    unfold WM.need
    omega
  apply WM.list_ext _ _ hl
  intro j hj
  have hj8 : j < 8 ∧ 8 * k + j < WM.need xs.length := by
    rw [hl, fewN_length, WM.wordsOf_length] at hj
    omega
  unfold fewN WM.at'
  rw [List.getElem?_take_of_lt hj8.1, List.getElem?_drop]
  have e1 := WM.wordsOf_at ((xs.drop (64 * k)).take 64) j
  have e2 := WM.wordsOf_at xs (8 * k + j)
  unfold WM.at' at e1 e2
  rw [e1, e2]
  have h1 : j < WM.need ((xs.drop (64 * k)).take 64).length := by
    rw [hl, fewN_length, WM.wordsOf_length] at hj
    rw [List.length_take, List.length_drop]
    unfold WM.need at *
    omega
  rw [if_pos h1, if_pos hj8.2]
  apply Nat.eq_of_testBit_eq
  intro s
  rw [WM.wordAt_bit _ (bytes256_take (bytes256_drop hx _) _), WM.wordAt_bit _ hx]
  by_cases hs : s < 64
  · have e3 : WM.at' ((xs.drop (64 * k)).take 64) (8 * j + s / 8) = WM.at' xs (8 * (8 * k + j) + s / 8) := by
      unfold WM.at'
      rw [List.getElem?_take_of_lt (by omega), List.getElem?_drop]
      congr 2
      omega
    rw [e3]
  · simp [hs]
theorem padL_succ (ws : List Nat) (k : Nat) (hk : k < ws.length) (_h8 : k < 8) : (padL (ws.take k)).set k ((ws[k]?.getD 0 : Nat) : Int) = padL (ws.take (k + 1)) := by
  apply List.ext_getElem
  · rw [List.length_set, padL_length, padL_length]
  · intro j h1 h2
    rw [padL_length] at h2
    have e1 : (padL (ws.take (k + 1)))[j]?.getD 0 = _ := padL_at (ws.take (k + 1)) j h2
    rw [List.getElem?_eq_getElem (by rw [padL_length]; exact h2), Option.getD_some] at e1
    rw [e1, List.getElem_set]
    by_cases hjk : k = j
    · subst hjk
      rw [if_pos rfl, List.getElem?_take_of_lt (by omega)]
    · rw [if_neg hjk]
      have e2 : (padL (ws.take k))[j]?.getD 0 = _ := padL_at (ws.take k) j h2
      rw [List.getElem?_eq_getElem (by rw [padL_length]; exact h2), Option.getD_some] at e2
      rw [e2]
      by_cases hlt : j < k
      · rw [List.getElem?_take_of_lt hlt, List.getElem?_take_of_lt (by omega)]
      · rw [List.getElem?_eq_none (by rw [List.length_take]; omega), List.getElem?_eq_none (by rw [List.length_take]; omega)]
theorem chF_take (xs : List Nat) (k : Nat) (hk : k < chN xs.length) : (chF xs).take (k + 1) = (chF xs).take k ++ [padL (fewN (WM.wordsOf xs) k)] := by
  rw [List.take_succ_eq_append_getElem (by rw [chF_length]; exact hk)]
  simp [chF]
theorem slice_mid9 {t e : TypeId} {i : TypeInfo} (h1 : Try.prog.underlying t = some (.slice e)) (h2 : Try.prog.info? e = some i) (h3 : i.size = 1) (b off n c I H : Nat) (hIH : I ≤ H) (hI : I < c) (hH : H ≤ c) (W : World) :
    (Instr.sliceAt t (.slice (some ⟨b, off, none⟩) n c) (some (.int .i64 (I : Nat))) (some (.int .i64 (H : Nat))) none).run Try.prog W = .ok (.slice (some ⟨b, off + I, none⟩) (H - I) (c - I)) W := by
  have he : Try.prog.elem t = e := by simp [Program.elem, h1]
  have ht : Try.prog.underlying t = some (.slice (Try.prog.elem t)) := by rw [he]; exact h1
  have hne : ¬ c = I := by omega
  rw [run_sliceAt_slice W t _ _ _ _ ht, run_slice_lh W t _ n c ht .i64 .i64 (I : Int) (H : Int) (by omega) (by omega) (by omega), he]
  simp [sizeOf, typeInfo, h2, h3, sliced, Result.andThen, Addr.add, hne]
set_option maxRecDepth 100000 in
set_option maxHeartbeats 8000000 in
theorem refChunks9_any {v : Value} {xs : List Nat} (hx : xs.length ≤ 448) (hb : WM.Bytes256 xs) (w : World) (hv : Sl w .u8 v xs) :
    Calls Try.prog 20 #[v] w fun e w' => ∃ r, e = .returned r ∧ VecC w' r (chF xs) ∧ Below w.heap.size w w' := by
  obtain ⟨i0, hi, hz0, hz1, hz2⟩ := nd_info infoA8
  obtain ⟨a, c, b, off, rfl, hlc, ha, hc⟩ := hv.cell
  have HV := Lib.hid hv
  have HWM := Lib.hid (fun k => words_mid xs hb k)
  have HCT := Lib.hid (fun k h => chF_take xs k h)
  have H256 := Lib.hid hb
  obtain ⟨l, hl⟩ : ∃ l, xs.length = l := ⟨_, rfl⟩
  have HL := Lib.hid hl
  rw [hl] at hx hlc ha HV HCT ⊢
  clear hv hc hl hb
  go_enter Try.func20, Try.ntmps20
  go_wp2_with fail
  go_loopw [3, 4, 5, 6, 7] (fun v i x l' k' wr => ∃ (k : Nat) (q : Value), k ≤ chN l ∧ i = .int .i64 ((64 * k : Nat) : Int) ∧ q = v ∧ wr.ownsRow w.heap.size 43 8 q k (flatC cL ((chF xs).take k)) ∧ Below w.heap.size w wr) (fun _ i _ _ _ _ => l + 64 - (intOf i).toNat)
  case atStart => exact ⟨0, _, Nat.zero_le _, rfl, rfl, World.ownsRow_nil _ _ _ _, Below.refl _ _⟩
  case round =>
    obtain ⟨k, q, hk, rfl, rfl, hrow, hb⟩ := hrel
    rename World => wo
    have z := hb.size
    by_cases hlt : k < chN l
    · have hkl : 64 * k < l := by unfold chN at hlt; omega
      obtain rfl := ha (by omega)
      obtain ⟨j0, hj0, hj1, hj2⟩ := info_parts infoU8
      obtain ⟨I, hI⟩ : ∃ I, 64 * k = I := ⟨_, rfl⟩
      obtain ⟨H, hH⟩ : ∃ H, min l (I + 64) = H := ⟨_, rfl⟩
      have hw1 : IntKind.i64.wrap ((I : Int) + 64) = ((I + 64 : Nat) : Int) := by rw [IntWalk.i64_in _ (by omega)]; omega
      obtain ⟨J, hJ⟩ : ∃ J, I + 64 = J := ⟨_, rfl⟩
      have hw1' : (I : Int) + 64 = (J : Int) := by omega
      have hw2 : IntKind.i64.wrap (J : Int) = (J : Int) := IntWalk.i64_in _ (by omega)
      have hif : (if J < l then (J : Int) else (l : Int)) = (H : Int) := by split <;> omega
      have hsm := slice_mid9 Try.underlying22 hj0 hj2.1 b off l c I H (by omega) (by omega) (by omega)
      have hpl : ((xs.drop I).take (H - I)) = (xs.drop (64 * k)).take 64 := by
        rw [hI]
        by_cases h64 : I + 64 ≤ l
        · rw [show H - I = 64 by omega]
        · rw [List.take_of_length_le (by rw [List.length_drop, HL.out]; omega), List.take_of_length_le (by rw [List.length_drop, HL.out]; omega)]
      have hpc := sl_mid HV.out I (H - I) (c - I) (by rw [HL.out]; omega) (by omega)
      rw [hpl] at hpc
      have HPC := Lib.hid (fun W (hW : Below w.heap.size w W) => refWords_own _ ((xs.drop (64 * k)).take 64) (by rw [List.length_take]; omega) (bytes256_take (bytes256_drop H256.out _) _) W (hpc.below hW))
      rw [HWM.out k] at HPC
      obtain ⟨ws, hws⟩ : ∃ ws, fewN (WM.wordsOf xs) k = ws := ⟨_, rfl⟩
      have hw8 : ws.length ≤ 8 := by rw [← hws, fewN_length]; omega
      have HT := Lib.hid (HCT.out k hlt)
      rw [hws] at HPC HT
      have HW8 := Lib.hid hw8
      clear hpc hpl hws
      have hb1 : Below wo.heap.size wo (wo.alloc (.cells (lnA zeros8) 43)) := (Below.refl _ _).alloc (Nat.le_refl _) _
      have hx1 : Blk (wo.alloc (.cells (lnA zeros8) 43)) wo.heap.size 43 (lnA (padL (ws.take 0))) := Blk.new _ _ _
      obtain ⟨W1, hW1⟩ : ∃ W1, wo.alloc (.cells (lnA zeros8) 43) = W1 := ⟨_, rfl⟩
      rw [hW1] at hb1 hx1
      have HB1 : Hid (Below w.heap.size w W1) := show Below _ _ _ from hb.trans (hb1.mono z)
      have HR1 : Hid (W1.ownsRow w.heap.size 43 8 q k (flatC cL ((chF xs).take k))) := show World.ownsRow _ _ _ _ _ _ _ from ownsRow_below hrow hb1
      have HX1 := Lib.hid hx1
      have HGO : Hid (∀ g, q.ownBlock = some g → g < wo.heap.size) := show ∀ g, _ from fun g hg => (hrow.lt g hg).2
      have HW1 : Hid (wo.alloc (.cells #[.int .u64 0, .int .u64 0, .int .u64 0, .int .u64 0, .int .u64 0, .int .u64 0, .int .u64 0, .int .u64 0] 43) = W1) := show _ = _ from hW1
      have hIl : (I : Int) < (l : Int) := by omega
      rw [hI]
      have HI := Lib.hid (And.intro hI hJ)
      clear hI hW1 hb1 hx1 hrow hJ hH
      go_wp2_with fail
      rw [HW1.out]
      refine (HPC.out W1 HB1.out).mono ?_
      rintro e w2 ⟨r, rfl, hr, hb2⟩
      have HB2 : Hid (Below w.heap.size w w2) := show Below _ _ _ from HB1.out.trans (hb2.mono HB1.out.size)
      have HR2 : Hid (w2.ownsRow w.heap.size 43 8 q k (flatC cL ((chF xs).take k))) := show World.ownsRow _ _ _ _ _ _ _ from ownsRow_below HR1.out hb2
      have HX2 : Hid (Blk w2 wo.heap.size 43 (lnA (padL (ws.take 0)))) := show Blk _ _ _ _ from HX1.out.below hb2 HX1.out.lt
      have hrs := own_sl hr
      have hrlt : ∀ g, r.ownBlock = some g → W1.heap.size ≤ g := fun g hg => (hr.lt g hg).1
      obtain ⟨ar, cr, br, or_, rfl, -, har, hcr⟩ := hrs.cell
      have HCR := Lib.hid hcr
      obtain ⟨m, hm⟩ : ∃ m, ws.length = m := ⟨_, rfl⟩
      have HM := Lib.hid hm
      rw [hm] at hw8 har HCR ⊢
      have hbr : 0 < m → W1.heap.size ≤ br := fun h0 => by
        obtain rfl := har h0
        rcases hr.2 with ⟨h1, _⟩ | ⟨g, cap, cur, h1, h2, _⟩
        · cases h1
        · simp only [Value.slice.injEq, Option.some.injEq, Addr.mk.injEq] at h1
          omega
      have hbo : w.heap.size ≤ wo.heap.size := z
      have hW1o : wo.heap.size < W1.heap.size := HX1.out.lt
      have HSB := Lib.hid (fun n h h8 => padL_succ ws n h h8)
      rw [hm] at HSB
      have hst2 := HX2.out
      clear hr hrs hb2 hcr hm HPC hrlt
      go_wp2_with fail
      go_loopw [7] (fun i wr => ∃ n : Nat, n ≤ m ∧ i = .int .i64 n ∧ Hid (Blk wr wo.heap.size 43 (lnA (padL (ws.take n)))) ∧ Hid (Turn (fun b => b = wo.heap.size) w2 wr)) (fun i _ => m - (intOf i).toNat)
      case atStart => exact ⟨0, Nat.zero_le _, rfl, Lib.hid hst2, Lib.hid (Turn.refl _ _)⟩
      case round =>
        obtain ⟨n, hn, rfl, hblk, ht⟩ := hrel
        by_cases hnm : n < m
        · obtain rfl := har (by omega)
          have hbr2 := hbr (by omega)
          have c1 : wr.cell? ⟨br, or_ + n, none⟩ = some (.int .u64 (ws[n]?.getD 0 : Nat)) := (World.cell?_of_block (a := ⟨br, or_ + n, none⟩) (ht.out.block br (HCR.out (by omega)).1 (by omega))).trans ((HCR.out (by omega)).2 n hnm)
          have hn8 : n < 8 := by omega
          have hl8 : (padL (ws.take n)).length = 8 := padL_length _
          have c2 : wr.cell? ⟨wo.heap.size, n, none⟩ = some (.int .u64 ((padL (ws.take n))[n]?.getD 0)) := hblk.out.cell (lnA_at _ n (by rw [hl8]; exact hn8))
          have f2 := hblk.out.frozen n
          have lt2 := hblk.out.lt
          have HP : Hid (Blk (wr.setCell ⟨wo.heap.size, n, none⟩ (.int .u64 ((ws[n]?.getD 0 : Nat) : Int))) wo.heap.size 43 (lnA (padL (ws.take (n + 1))))) := show Blk _ _ _ _ by
            have := hblk.out.set n (.int .u64 ((ws[n]?.getD 0 : Nat) : Int))
            rwa [lnA_set, HSB.out n hnm hn8] at this
          obtain ⟨x, hx⟩ : ∃ x, ws[n]?.getD 0 = x := ⟨_, rfl⟩
          obtain ⟨y, hy⟩ : ∃ y, (padL (ws.take n))[n]?.getD 0 = y := ⟨_, rfl⟩
          rw [hx] at c1 HP
          rw [hy] at c2
          have HTN : Hid (Turn (fun b => b = wo.heap.size) w2 (wr.setCell ⟨wo.heap.size, n, none⟩ (.int .u64 (x : Nat)))) := show Turn _ _ _ from ht.out.trans (Turn.setCell _ _ rfl)
          clear hx hy hl8
          go_wp2_with fail
          go_roundw
          case rel => exact ⟨n + 1, by omega, by go_num, HP, HTN⟩
          case measure => simp [intOf]; omega
        · obtain rfl : n = m := by omega
          have hbl := hblk.out
          rw [List.take_of_length_le (by rw [HM.out]; exact Nat.le_refl _)] at hbl
          have hXs : (lnA (padL ws)).size = 8 := by rw [lnA_size, padL_length]
          have hld := hbl.load (P := Try.prog) (tt := 43) Try.underlying43 rfl (by rw [hXs]; kernel_rfl)
          have HBr : Hid (Below w.heap.size w wr) := show Below _ _ _ from HB2.out.trans (ht.out.below (B := w.heap.size) (fun k hk => by omega) HB2.out.size)
          have HRr : Hid (wr.ownsRow w.heap.size 43 8 q k (flatC cL ((chF xs).take k))) := show World.ownsRow _ _ _ _ _ _ _ from own_keptG HR2.out (fun g hg hl => ht.out.block g hl (by have := HGO.out g hg; omega))
          have hZ := HBr.out.size
          obtain ⟨Y, hY⟩ : ∃ Y, padL ws = Y := ⟨_, rfl⟩
          have hY8 : Y.length = 8 := by rw [← hY]; exact padL_length _
          have HCN := Lib.hid (fun t => cell_blk_new wr Y hY8 t)
          have HCL := Lib.hid (cL_len Y)
          have HTT := HT.out
          rw [hY] at hld hXs HTT
          have HTH := Lib.hid HTT
          obtain ⟨X, hX⟩ : ∃ X, lnA Y = X := ⟨_, rfl⟩
          rw [hX] at hld hXs HCN
          have HFE := Lib.hid (fold_eight X hXs)
          have HIO := HI.out
          have HI1 := HIO.1
          have HI2 := HIO.2
          have hk100 : k ≤ 100 := by omega
          have HIJ : Hid (J = 64 * (k + 1)) := show _ = _ by omega
          clear hbl hY hY8 HTT hX HIO HI1 HI2 HWM HCT HT hblk ht hst2 hZ
          go_wp2_with (first | (refine ndList_load9 rfl 43 _ rfl _ _ rfl hld ?_) | (at_builtin; refine park ?_))
          rw [HFE.out]
          unfold Park
          refine wpList_append_own _ rfl _ _ 35 rfl w.heap.size 43 i0 _ 8 64 Try.underlying35 hi hz0 hz1 hz2 rfl (by decide) q k (flatC cL ((chF xs).take k)) rfl (World.ownsRow.alloc HRr.out _) ⟨wr.heap.size, 0, none⟩ 1 1 (cL Y) rfl (by rw [HCL.out]) (HCN.out _) (cL_one Y) (by unfold maxLen; omega) (by omega) (by have := HBr.out.size; simp; omega) ?_
          intro v' w4 hown' hgrow _
          go_wp2_with fail
          go_roundw
          case rel =>
            refine ⟨k + 1, _, by omega, by rw [← HIJ.out], rfl, ?_, ?_⟩
            · rw [HTH.out, flatC_append, flatC_one]; exact hown'
            · exact (HBr.out.alloc HBr.out.size _).grown hgrow (by have h9 := HBr.out.size; rw [World.size_alloc]; omega) (fun j e => (HRr.out.lt j e).1)
          case measure => have := HIJ.out; have := HI.out; simp [intOf]; omega
    · obtain rfl : k = chN l := by omega
      have hkl : ¬ 64 * chN l < l := by unfold chN; omega
      have HR : Hid (VecC wo q (chF xs)) := show VecC _ _ _ from by
        have h := vec_of_own hrow
        rw [List.take_of_length_le (by rw [chF_length, HL.out]; exact Nat.le_refl _)] at h
        unfold VecC
        rw [chF_length, HL.out]
        exact h
      obtain ⟨j, hj⟩ : ∃ j, 64 * chN l = j := ⟨_, rfl⟩
      rw [hj] at hkl ⊢
      clear hj hrow
      go_wp2_with fail
      go_ret
      exact ⟨_, rfl, HR.out, hb⟩
end Go.Proofs.Ytmncoclmgcjjjaa
