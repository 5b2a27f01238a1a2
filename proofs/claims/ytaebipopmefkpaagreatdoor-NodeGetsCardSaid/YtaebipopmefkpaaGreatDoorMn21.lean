/-
  Texts NdW to NdF0, as one.
-/
import Derived.Test.YtaebipopmefkpaaGreatDoorMn20
import Derived.Test.YtaebipopmefkpaaGreatDoorRows
import Derived.WalkKit
import Derived.ProofKit
import Derived.OpenShut
import Derived.Below
import Derived.Carry
import Derived.Deep.DeepHandedRow
import Derived.Deep.DeepWitnessRowRef
import Derived.Lib.LaidTab
import Derived.LaidSub
import Derived.Lib.SmallJoins
/-
  node: the document's answers: maps, entries.
-/
namespace Go.Proofs.YtaebipopmefkpaaGreatDoor
open Go.RowKit Go.Shelf
attribute [local go_sem] Oper.semAt_some

theorem refChunks_any (n : Int) (h : 0 ≤ n ∧ n ≤ 448) (w : World) : Calls Tryz.prog 76 #[.int .i64 n] w fun e w' => e = .returned (.int .i64 (chunksN n)) ∧ w = w' := by
  have HO : Hid (chunksN n = (n + 63) / 64) := show _ = _ from if_pos h
  obtain ⟨h0, h1⟩ := h
  have w1 : wrap64 (n + 63) = n + 63 := by unfold wrap64; omega
  have hdv : (n + 63).tdiv 64 = (n + 63) / 64 := by rw [Int.tdiv_eq_ediv_of_nonneg (by omega)]
  have w3 : wrap64 ((n + 63) / 64) = (n + 63) / 64 := by unfold wrap64; omega
  go_enter Tryz.func76, Tryz.ntmps76
  go_wp2
  go_ret
  exact ⟨by rw [HO.out]; rfl, rfl⟩
theorem map_ok (l : List Int) (hl : l.length = 8) : okSp mapSpecs (ints l) = (inB (l[0]?.getD 0, 0, 448) && (List.range 7).all fun n => chunkOk n (l[0]?.getD 0) (l[1 + n]?.getD 0)) :=
  match l, hl with
  | [_, _, _, _, _, _, _, _], _ => rfl
theorem map_put (l : List Int) (hl : l.length = 8) : wrSp mapSpecs (ints l) zeros8 = tabLine l 8 :=
  match l, hl with
  | [_, _, _, _, _, _, _, _], _ => rfl
set_option maxRecDepth 100000 in
set_option maxHeartbeats 4000000 in
theorem refRightMap_any (l : List Int) (hl : l.length = 8) (w : World) : Calls Tryz.prog 31 #[.agg (ints l)] w fun e w' => e = .returned (.bool (okSp mapSpecs (ints l))) ∧ Below w.heap.size w w' := by
  rw [map_ok l hl]
  obtain ⟨X, hX⟩ : ∃ X, ints l = X := ⟨_, rfl⟩
  rw [hX]
  have HXX := Lib.hid hX
  have HLEN := Lib.hid hl
  have HPT := Lib.hid (fun n W => refPointer_any n false W)
  obtain ⟨W1, hW1⟩ : ∃ W1, w.alloc (.cells X 36) = W1 := ⟨_, rfl⟩
  have HB1 : Hid (Below w.heap.size w W1) := show Below _ _ _ by rw [← hW1]; exact (by repeat (first | exact Below.refl _ _ | assumption | refine Below.drew ?_ | refine below_drewN ?_ _ | refine Below.alloc ?_ (by (try simp) <;> omega) _ | refine Below.setCell ?_ (by (try simp) <;> omega) _ | refine Below.trans ?_ (Below.mono (by assumption) (by (try simp) <;> omega))))
  have HX1 : Hid (Blk W1 w.heap.size 36 X) := show Blk _ _ _ _ by rw [← hW1]; exact Blk.new _ _ _
  have c00 : (w.alloc (.cells X 36)).cell? ⟨w.heap.size, 0, none⟩ = some (.int .i64 (l[0]?.getD 0)) := by rw [hW1]; exact HX1.out.cell (by rw [← HXX.out]; exact ints_at l 0 (by rw [HLEN.out]; decide))
  have c01 : W1.cell? ⟨w.heap.size, 0, none⟩ = some (.int .i64 (l[0]?.getD 0)) := by rw [← hW1]; exact c00
  obtain ⟨z, hz⟩ : ∃ z, l[0]?.getD 0 = z := ⟨_, rfl⟩
  rw [hz] at c00 c01 ⊢
  have HCH := Lib.hid (fun (h : 0 ≤ z ∧ z ≤ 448) W => refChunks_any z h W)
  have HW := Lib.hid hW1
  clear hW1 hX hl hz
  by_cases g1 : z < 0
  · have : inB (z, 0, 448) = false := decide_eq_false (show ¬ (0 ≤ z ∧ z ≤ 448) by omega)
    rw [this, Bool.false_and]
    clear this
    go_enter Tryz.func31, Tryz.ntmps31
    go_wp2_with fail
    go_ret
    exact ⟨rfl, by rw [HW.out]; exact HB1.out⟩
  by_cases g2 : 448 < z
  · have : inB (z, 0, 448) = false := decide_eq_false (show ¬ (0 ≤ z ∧ z ≤ 448) by omega)
    rw [this, Bool.false_and]
    clear this
    go_enter Tryz.func31, Tryz.ntmps31
    go_wp2_with fail
    go_ret
    exact ⟨rfl, by rw [HW.out]; exact HB1.out⟩
  have : inB (z, 0, 448) = true := decide_eq_true (show 0 ≤ z ∧ z ≤ 448 by omega)
  rw [this, Bool.true_and]
  clear this
  have HC := Lib.hid (HCH.out (by omega))
  obtain ⟨N, hN⟩ : ∃ N, chunksN z = N := ⟨_, rfl⟩
  have HNN := Lib.hid hN
  rw [hN] at HC
  clear hN HCH
  go_enter Tryz.func31, Tryz.ntmps31
  go_wp2_with fail
  rw [HW.out]
  clear c00
  go_loopw [3] (fun i wr => ∃ k : Nat, k ≤ 7 ∧ i = .int .i64 (k : Nat) ∧ W1 = wr ∧ Hid ((List.range k).all (fun n => chunkOk n z (l[1 + n]?.getD 0)) = true)) (fun i _ => 7 - (intOf i).toNat)
  case atStart => exact ⟨0, by decide, rfl, rfl, (show _ = true from rfl)⟩
  case round =>
    obtain ⟨k, hk, rfl, rfl, HA⟩ := hrel
    by_cases hlt : k < 7
    · have hk2 : ((k : Nat) : Int) < 7 := by omega
      have c1 : W1.cell? ⟨w.heap.size, 1 + k, none⟩ = some (.int .i64 (l[1 + k]?.getD 0)) := HX1.out.cell (by rw [← HXX.out]; exact ints_at l (1 + k) (by rw [HLEN.out]; omega))
      have HS : Hid (∀ b, chunkOk k z (l[1 + k]?.getD 0) = b → (List.range (k + 1)).all (fun n => chunkOk n z (l[1 + n]?.getD 0)) = b ∧ (b = false → ((List.range 7).all fun n => chunkOk n z (l[1 + n]?.getD 0)) = false)) := show ∀ b, _ from fun b hb => by
        refine ⟨by rw [List.range_succ, List.all_append, HA.out]; simp [hb], fun h => ?_⟩
        subst h
        rw [List.all_eq_false]
        exact ⟨k, List.mem_range.2 hlt, by rw [hb]; decide⟩
      obtain ⟨y, hy⟩ : ∃ y, l[1 + k]?.getD 0 = y := ⟨_, rfl⟩
      rw [hy] at c1 HS
      clear hy
      have hck : ∀ r, inB (y, 0, 1023) = r → chunkOk k z y = (r && (decide ((k : Int) < N) || y == 0)) := fun r hr => by unfold chunkOk; rw [hr, HNN.out]
      obtain ⟨r, hr⟩ : ∃ r, inB (y, 0, 1023) = r := ⟨_, rfl⟩
      have HCK := Lib.hid (hck r hr)
      have HPA : Hid (∀ W, Calls Tryz.prog 75 #[.int .i64 y, .bool false] W fun e w' => e = .returned (.bool r) ∧ W = w') := show ∀ W, _ from fun W => by
        have := HPT.out y W
        rw [show inB (y, if false = true then 1 else 0, 1023) = inB (y, 0, 1023) from rfl, hr] at this
        exact this
      clear hr hck
      cases r
      · have HR := Lib.hid (HS.out false HCK.out)
        go_wp2_with (go_at_call 75; refine (HPA.out _).mono ?_; rintro e w' ⟨rfl, rfl⟩)
        go_ret
        exact ⟨ret_bool (HR.out.2 (by first | rfl | trivial)).symm, HB1.out⟩
      · by_cases hkn : (k : Int) < N
        · have HR := Lib.hid (HS.out true (by rw [HCK.out]; simp [hkn]))
          have hkn2 : ¬ N ≤ (k : Int) := by omega
          go_wp2_with (first | (go_at_call 75; refine (HPA.out _).mono ?_; rintro e w' ⟨rfl, rfl⟩) | (go_at_call 76; refine (HC.out _).mono ?_; rintro e w' ⟨rfl, rfl⟩))
          go_roundw
          case rel => exact ⟨k + 1, by omega, by go_num, by first | rfl | trivial, (show _ = true from HR.out.1)⟩
          case measure => simp [intOf]; omega
        · have hkn2 : N ≤ (k : Int) := by omega
          by_cases hy0 : y = 0
          · have HR := Lib.hid (HS.out true (by rw [HCK.out]; simp [hy0]))
            subst hy0
            clear hkn
            go_wp2_with (first | (go_at_call 75; refine (HPA.out _).mono ?_; rintro e w' ⟨rfl, rfl⟩) | (go_at_call 76; refine (HC.out _).mono ?_; rintro e w' ⟨rfl, rfl⟩))
            go_roundw
            case rel => exact ⟨k + 1, by omega, by go_num, by first | rfl | trivial, (show _ = true from HR.out.1)⟩
            case measure => simp [intOf]; omega
          · have HR := Lib.hid (HS.out false (by rw [HCK.out]; simp [hkn, hy0]))
            have hy1 : (y == 0) = false := by simpa using hy0
            have hy2 : (y != 0) = true := by simpa using hy0
            clear hkn
            go_wp2_with (first | (go_at_call 75; refine (HPA.out _).mono ?_; rintro e w' ⟨rfl, rfl⟩) | (go_at_call 76; refine (HC.out _).mono ?_; rintro e w' ⟨rfl, rfl⟩))
            go_ret
            exact ⟨ret_bool (HR.out.2 (by first | rfl | trivial)).symm, HB1.out⟩
    · obtain rfl : k = 7 := by omega
      go_wp2_with fail
      go_ret
      exact ⟨ret_bool HA.out.symm, HB1.out⟩
end Go.Proofs.YtaebipopmefkpaaGreatDoor

/-
  node: the document's answers: entries.
-/
namespace Go.Proofs.YtaebipopmefkpaaGreatDoor
open Go.RowKit Go.Shelf
attribute [local go_sem] Oper.semAt_some

set_option maxRecDepth 100000 in
set_option maxHeartbeats 4000000 in
theorem refRightEntry_any (a b : Int) (s : List UInt8) (w : World) : Calls Tryz.prog 34 #[.agg #[.int .i64 a, .int .i64 b, encStr s]] w fun e w' => e = .returned (.bool (okSp entrySpecs #[.int .i64 a, .int .i64 b, encStr s])) ∧ Below w.heap.size w w' := by
  have hr : okSp entrySpecs #[.int .i64 a, .int .i64 b, encStr s] = (inB (a, 0, 1023) && (inB (b, 1, 1023) && rightN s)) := by
    simp only [okSp, entrySpecs, List.all_cons, List.all_nil, Bool.and_true]
    rfl
  rw [hr]
  obtain ⟨r1, h1⟩ : ∃ r, inB (a, 0, 1023) = r := ⟨_, rfl⟩
  obtain ⟨r2, h2⟩ : ∃ r, inB (b, 1, 1023) = r := ⟨_, rfl⟩
  obtain ⟨r3, h3⟩ : ∃ r, rightN s = r := ⟨_, rfl⟩
  have HP1 : Hid (∀ W, Calls Tryz.prog 75 #[.int .i64 a, .bool false] W fun e w' => e = .returned (.bool r1) ∧ W = w') := show ∀ W, _ from fun W => by
    have := refPointer_any a false W
    rw [show inB (a, if false = true then 1 else 0, 1023) = inB (a, 0, 1023) from rfl, h1] at this
    exact this
  have HP2 : Hid (∀ W, Calls Tryz.prog 75 #[.int .i64 b, .bool true] W fun e w' => e = .returned (.bool r2) ∧ W = w') := show ∀ W, _ from fun W => by
    have := refPointer_any b true W
    rw [show inB (b, if true = true then 1 else 0, 1023) = inB (b, 1, 1023) from rfl, h2] at this
    exact this
  have HP3 : Hid (∀ W, Calls Tryz.prog 78 #[encStr s] W fun e w' => e = .returned (.bool r3) ∧ W = w') := show ∀ W, _ from fun W => by
    have := refRight6_any s W
    rw [h3] at this
    exact this
  rw [h1, h2, h3]
  clear hr h1 h2 h3
  cases r1
  · rw [Bool.false_and]
    go_enter Tryz.func34, Tryz.ntmps34
    go_wp2_with (go_at_call 75; refine (HP1.out _).mono ?_; rintro e w' ⟨rfl, rfl⟩)
    go_ret
    exact ⟨rfl, (by repeat (first | exact Below.refl _ _ | assumption | refine Below.drew ?_ | refine below_drewN ?_ _ | refine Below.alloc ?_ (by (try simp) <;> omega) _ | refine Below.setCell ?_ (by (try simp) <;> omega) _ | refine Below.trans ?_ (Below.mono (by assumption) (by (try simp) <;> omega))))⟩
  rw [Bool.true_and]
  cases r2
  · rw [Bool.false_and]
    go_enter Tryz.func34, Tryz.ntmps34
    go_wp2_with fail
    refine (HP1.out _).mono ?_
    rintro e w' ⟨rfl, rfl⟩
    go_wp2_with fail
    refine (HP2.out _).mono ?_
    rintro e w' ⟨rfl, rfl⟩
    go_wp2_with fail
    go_ret
    exact ⟨rfl, (by repeat (first | exact Below.refl _ _ | assumption | refine Below.drew ?_ | refine below_drewN ?_ _ | refine Below.alloc ?_ (by (try simp) <;> omega) _ | refine Below.setCell ?_ (by (try simp) <;> omega) _ | refine Below.trans ?_ (Below.mono (by assumption) (by (try simp) <;> omega))))⟩
  rw [Bool.true_and]
  go_enter Tryz.func34, Tryz.ntmps34
  go_wp2_with fail
  refine (HP1.out _).mono ?_
  rintro e w' ⟨rfl, rfl⟩
  go_wp2_with fail
  refine (HP2.out _).mono ?_
  rintro e w' ⟨rfl, rfl⟩
  go_wp2_with fail
  refine (HP3.out _).mono ?_
  rintro e w' ⟨rfl, rfl⟩
  go_wp2_with fail
  go_ret
  exact ⟨rfl, (by repeat (first | exact Below.refl _ _ | assumption | refine Below.drew ?_ | refine below_drewN ?_ _ | refine Below.alloc ?_ (by (try simp) <;> omega) _ | refine Below.setCell ?_ (by (try simp) <;> omega) _ | refine Below.trans ?_ (Below.mono (by assumption) (by (try simp) <;> omega))))⟩
def entLine (h : List Int) (f : List Int) (k : Nat) : List Int := h ++ (List.range 5).map fun j => if j < k then f[j]?.getD 0 else 0
theorem entLine_len {h : List Int} (hh : h.length = 3) (f : List Int) (k : Nat) : (entLine h f k).length = 8 := by simp [entLine, hh]
theorem entLine_set {h : List Int} (hh : h.length = 3) (f : List Int) (k : Nat) : (entLine h f k).set (3 + k) (f[k]?.getD 0) = entLine h f (k + 1) := by
  unfold entLine
  rw [List.set_append_right _ _ (by omega), hh, Nat.add_sub_cancel_left]
  congr 1
  refine List.ext_getElem (by simp) fun j h1 h2 => ?_
  rw [List.getElem_set]
  simp only [List.getElem_map, List.getElem_range]
  by_cases h : k = j
  · subst h
    rw [if_pos rfl, if_pos (by omega)]
  · rw [if_neg h]
    by_cases h3 : j < k
    · rw [if_pos h3, if_pos (by omega)]
    · rw [if_neg h3, if_neg (by omega)]
theorem entLine_five (h : List Int) (s : List UInt8) : entLine h (fiveI s) 5 = h ++ fiveI s := by
  unfold entLine
  congr 1
end Go.Proofs.YtaebipopmefkpaaGreatDoor

/-
  label: the walk of the law LabelReads.
-/
namespace Go.Proofs.YtaebipopmefkpaaGreatDoor
open Go.RowKit Go.Shelf

theorem refRead_any (l : List Nat) (hl : l.length = 5) (h64 : Words64 l) (many : Int) (hm : -9223372036854775808 ≤ many) (w : World) :
    Calls Tryz.prog 33 #[.agg (arr5 l), .int .i64 many] w fun e w' => e = .returned (.tuple #[encStr (if isRead l many then readN l many else []), .bool (isRead l many)]) ∧ Below w.heap.size w w' := by
  by_cases h1 : many < 1
  · rw [isRead_small l many h1]
    clear h64 hl
    go_enter Tryz.func33, Tryz.ntmps33
    go_wp2_with fail
    go_ret2
    exact ⟨rfl, (Below.refl _ _).alloc (Nat.le_refl _) _⟩
  by_cases h2 : 40 < many
  · rw [isRead_big l hl many h2]
    clear h64 hl
    go_enter Tryz.func33, Tryz.ntmps33
    go_wp2_with fail
    go_ret2
    exact ⟨rfl, (Below.refl _ _).alloc (Nat.le_refl _) _⟩
  obtain ⟨m, rfl⟩ := Int.eq_ofNat_of_zero_le (show 0 ≤ many by omega)
  exact refRead_mid l hl h64 m (by omega) (by omega) w
theorem pad5_of (l : List Nat) (h : l.length = 5) : pad5 l = l := by
  refine WM.list_ext _ _ (by rw [pad5_length, h]) fun i hi => ?_
  rw [pad5_length] at hi
  exact pad5_at l i hi
theorem reads_same (s : List UInt8) (l : List Nat) (hl : l.length = 5) (many : Int) : sameOut s l many = (isRead l many && (readN l many == s)) := by
  have key : sameOut s l many = true → readN l many = s := fun h => by
    unfold sameOut at h
    simp only [Bool.and_eq_true, beq_iff_eq] at h
    obtain ⟨⟨h1, rfl⟩, h3⟩ := h
    have e := (pad5_iff _ _).1 h3
    rw [pad5_of l hl] at e
    rw [← e]
    exact read_words s ((rightN_iff s).1 h1).2.1
  rw [Bool.eq_iff_iff, Bool.and_eq_true, beq_iff_eq]
  constructor
  · intro h
    have e := key h
    refine ⟨?_, e⟩
    unfold isRead
    rw [e]; exact h
  · rintro ⟨h, rfl⟩
    exact h
end Go.Proofs.YtaebipopmefkpaaGreatDoor

/-
  node: PutTable, GetTable. Written by gen_nd.py.
-/
namespace Go.Proofs.YtaebipopmefkpaaGreatDoor
open Go.RowKit Go.Shelf Go.Sort
attribute [local go_sem] Oper.semAt_some

end Go.Proofs.YtaebipopmefkpaaGreatDoor

/-
  node: GetTable. Written by gen_nd.py.
-/
namespace Go.Proofs.YtaebipopmefkpaaGreatDoor
open Go.RowKit Go.Shelf Go.Sort
attribute [local go_sem] Oper.semAt_some

set_option maxRecDepth 100000 in
set_option maxHeartbeats 4000000 in
theorem getTable_any (l : List Int) (hl : Line8 l) (w : World) (ht : Tabs w) :
    Calls Tryz.prog 7 #[.agg (lnA l)] w fun e w' => e = .returned (.tuple #[.agg ((getSp tableSpecs l ndZeroT).getD ndZeroT), .int .i64 (getErr (getSp tableSpecs l ndZeroT))]) ∧ (GoodI 7) ((getSp tableSpecs l ndZeroT).getD ndZeroT) ∧ Below w.heap.size w w' := by
  obtain ⟨W1, hW1⟩ : ∃ W1, ((w.alloc (.cells (lnA l) 23)).alloc (.cells ndZeroT 40)).drew = W1 := ⟨_, rfl⟩
  have hb1 : Below w.heap.size w W1 := by rw [← hW1]; exact (by repeat (first | exact Below.refl _ _ | assumption | refine Below.drew ?_ | refine below_drewN ?_ _ | refine Below.alloc ?_ (by (try simp) <;> omega) _ | refine Below.setCell ?_ (by (try simp) <;> omega) _ | refine Below.trans ?_ (Below.mono (by assumption) (by (try simp) <;> omega))))
  have hx1 : Blk W1 w.heap.size 23 (lnA l) := by rw [← hW1]; exact (Blk.new w _ _).below (n := w.heap.size + 1) (by refine Below.drew ?_; exact (Below.refl _ _).alloc (by simp) _) (Nat.lt_succ_self _)
  have hr1 : Blk W1 (w.heap.size + 1) 40 ndZeroT := by
    rw [← hW1]
    have h := Blk.new (w.alloc (.cells (lnA l) 23)) 40 ndZeroT
    rwa [World.size_alloc] at h
  have HW1 : Hid (((w.alloc (.cells (lnA l) 23)).alloc (.cells #[.int .i64 0, .int .i64 0, .int .i64 0, .int .i64 0, .int .i64 0, .int .i64 0, .int .i64 0] 40)).drew = W1) := show _ = _ from hW1
  have HLN := Lib.hid (fun V (ht : Tabs V) => tableLine_any V)
  have HT1 : Hid (Tabs W1) := show Tabs _ from ht.below hb1 ht.room
  have hl8 := hl.1
  have HLD := Lib.hid (fun V (h : Blk V w.heap.size 23 (lnA l)) => h.load (tt := 23) Tryz.underlying23 rfl (by rw [lnA_size, hl8]; kernel_rfl))
  have HX1 := Lib.hid hx1
  have HR1 := Lib.hid hr1
  have HB1 := Lib.hid hb1
  have HL := Lib.hid hl
  have hR : (fun V : World => (Instr.loadAt 23 (.pointer (some ⟨w.heap.size, 0, none⟩))).run Tryz.prog V = .ok (.agg (lnA l)) V) W1 := HLD.out _ hx1
  clear hW1 hb1 hx1 hr1 ht hl hl8
  go_enter Tryz.func7, Tryz.ntmps7
  go_wp2_with fail
  refine wp_region_M 5 (fun V : World => (Instr.loadAt 23 (.pointer (some ⟨w.heap.size, 0, none⟩))).run Tryz.prog V = .ok (.agg (lnA l)) V) (by kernel_rfl) ?_
  rw [HW1.out]
  refine wpAnyM_take2 8 (i := 1) (v := _) rfl (by kernel_rfl) (by kernel_rfl) (fun _ _ _ h => h) (Or.inl ⟨by rfl, fun w hSw => nd_exec_load rfl rfl hSw⟩) hR ?_
  (try simp only [put_laws])
  (refine wpAnyM_one (i := 0) rfl (by kernel_rfl) (fun K hK => ?_); rw [if_pos (by rfl)]; (try simp only [elem_laws]))
  go_simp
  refine (HLN.out W1 HT1.out).mono ?_
  rintro e w2 ⟨v, ps, rfl, hb2, hk2, hp2, hs2⟩
  have hx2 := HX1.out.below hb2 HX1.out.lt
  have hr2 := HR1.out.below hb2 HR1.out.lt
  have hR2 : (fun V : World => (Instr.loadAt 23 (.pointer (some ⟨w.heap.size, 0, none⟩))).run Tryz.prog V = .ok (.agg (lnA l)) V) w2 := HLD.out _ hx2
  refine hK _ _ (fun _ => hR2) ?_
  clear hK K hR
  have hgz : (GoodI 7) ndZeroT := goodI_zero7
  have HPK := Lib.hid (getK_T l HL.out hgz (fun x h => ⟨h.1, goodI_one h⟩) w2 hk2 hp2)
  have hgg : (GoodI 7) ((getSp tableSpecs l ndZeroT).getD ndZeroT) := by
    unfold getSp
    rw [← hs2, ← rd_sp]
    cases hr : rdAll l ps ndZeroT with
    | none => exact hgz
    | some y =>
      have hy := rdAll_good HL.out ps ndZeroT y hp2 hgz hr
      simp only [Option.bind_some]
      split
      · exact hy
      · exact hgz
  rw [get_sp, hs2] at HPK
  have HG := Lib.hid hgg
  have HX2 := Lib.hid hx2
  have HR2 := Lib.hid hr2
  have HB2 := Lib.hid (HB1.out.trans (hb2.mono HB1.out.size))
  clear hb2 hk2 hp2 hs2 hx2 hr2 hgg hgz
  obtain ⟨O, hO⟩ : ∃ O, (getSp tableSpecs l ndZeroT).getD ndZeroT = O := ⟨_, rfl⟩
  obtain ⟨E, hE⟩ : ∃ E, getErr (getSp tableSpecs l ndZeroT) = E := ⟨_, rfl⟩
  have HO := Lib.hid hO
  have HE := Lib.hid hE
  rw [hO, hE] at HPK
  rw [hO] at HG
  clear hO hE
  (try simp only [put_laws])
  (refine wpAnyM_one (i := 2) rfl (by kernel_rfl) (fun K hK => ?_); rw [if_pos (by rfl)]; (try simp only [elem_laws]))
  go_simp
  refine HPK.out.mono ?_
  rintro e w3 ⟨rfl, hb3⟩
  have hx3 := HX2.out.below hb3 HX2.out.lt
  have hr3 := HR2.out.below hb3 HR2.out.lt
  have hR3 : (fun V : World => (Instr.loadAt 23 (.pointer (some ⟨w.heap.size, 0, none⟩))).run Tryz.prog V = .ok (.agg (lnA l)) V) w3 := HLD.out _ hx3
  refine hK _ _ (fun _ => hR3) ?_
  clear hK K hR2
  have hR := hR3
  clear hR3
  have HR3 := Lib.hid hr3
  have HB3 := Lib.hid (HB2.out.trans (hb3.mono HB2.out.size))
  clear hb3 hx3 hr3
  (try simp only [put_laws])
  (refine wpAnyM_take2 8 (i := 3) (v := ?_) rfl (by kernel_rfl) (by kernel_rfl) (fun _ _ _ h => h) (Or.inl ⟨by rfl, ?_⟩) hR ?_; rotate_left; (focus (intro w hSw; (try dsimp only at hSw); go_simp; (try with_reducible rfl))); (try simp only [put_laws])); (refine wpAnyM_take2 8 (i := 4) (v := ?_) rfl (by kernel_rfl) (by kernel_rfl) (fun _ _ _ h => h) (Or.inl ⟨by rfl, ?_⟩) hR ?_; rotate_left; (focus (intro w hSw; (try dsimp only at hSw); go_simp; (try with_reducible rfl))); (try simp only [put_laws]))
  (refine wpAnyM_last rfl (by kernel_rfl) (fun K hK => ?_); rw [if_pos (by rfl)]; (try simp only [elem_laws]))
  clear hR
  have hos := HG.out.1
  have ho1 : O.all (·.oneCell') = true := by have h := HG.out; exact goodI_one h
  obtain ⟨W4, hst, hr4, ht4⟩ := HR3.out.store (P := Tryz.prog) (tt := 40) (Y := O) (by rw [hos]; kernel_rfl) (by rw [hos]; rfl) ho1
  refine nd_store_eq 40 _ _ rfl _ _ rfl rfl hst ?_
  refine hK _ _ ?_
  clear hK K
  (try simp only [put_laws])
  (refine wpAnyM_one (i := 6) rfl (by kernel_rfl) (fun K hK => ?_); rw [if_pos (by rfl)]; (try simp only [elem_laws]))
  go_simp
  refine hK _ _ (fun h => by cases h) ?_
  clear hK K
  (try simp only [put_laws])
  refine wpAnyM_done (by kernel_rfl) ?_ _
  have HR4 := Lib.hid hr4
  have HT4 := Lib.hid ht4
  have HOS := Lib.hid hos
  clear hst hr4 ht4 ho1 hos
  go_wp2_with fail
  exact bodyPost_ret (results_cell_tmp (fn := Tryz.f7) rfl rfl (HR4.out.loadVar (tt := 40) Tryz.underlying40 rfl (by rw [HOS.out]; kernel_rfl)) rfl) rfl ⟨by rw [HO.out, HE.out]; rfl, by rw [HO.out]; exact HG.out, HB3.out.trans (HT4.out.below (B := w.heap.size) (fun k h => by omega) HB3.out.size)⟩
end Go.Proofs.YtaebipopmefkpaaGreatDoor

/-
  node: GetSuper. Written by gen_ndm.py.
-/
namespace Go.Proofs.YtaebipopmefkpaaGreatDoor
open Go.RowKit Go.Shelf Go.Sort
attribute [local go_sem] Oper.semAt_some

set_option maxRecDepth 100000 in
set_option maxHeartbeats 4000000 in
theorem getSuper_any (l : List Int) (hl : Line8 l) (w : World) (ht : Tabs w) :
    Calls Tryz.prog 4 #[.agg (lnA l)] w fun e w' => e = .returned (.tuple #[.agg ((getSp superSpecs l ndZeroS).getD ndZeroS), .int .i64 (getErr (getSp superSpecs l ndZeroS))]) ∧ GoodI 2 ((getSp superSpecs l ndZeroS).getD ndZeroS) ∧ Below w.heap.size w w' := by
  obtain ⟨W1, hW1⟩ : ∃ W1, ((w.alloc (.cells (lnA l) 23)).alloc (.cells ndZeroS 25)).drew = W1 := ⟨_, rfl⟩
  have hb1 : Below w.heap.size w W1 := by rw [← hW1]; exact (by repeat (first | exact Below.refl _ _ | assumption | refine Below.drew ?_ | refine below_drewN ?_ _ | refine Below.alloc ?_ (by (try simp) <;> omega) _ | refine Below.setCell ?_ (by (try simp) <;> omega) _ | refine Below.trans ?_ (Below.mono (by assumption) (by (try simp) <;> omega))))
  have hx1 : Blk W1 w.heap.size 23 (lnA l) := by rw [← hW1]; exact (Blk.new w _ _).below (n := w.heap.size + 1) (by refine Below.drew ?_; exact (Below.refl _ _).alloc (by simp) _) (Nat.lt_succ_self _)
  have hr1 : Blk W1 (w.heap.size + 1) 25 #[.int .i64 0, .int .i64 0] := by
    rw [← hW1]
    have h := Blk.new (w.alloc (.cells (lnA l) 23)) 25 ndZeroS
    rwa [World.size_alloc] at h
  have HW1 : Hid (((w.alloc (.cells (lnA l) 23)).alloc (.cells #[.int .i64 0, .int .i64 0] 25)).drew = W1) := show _ = _ from hW1
  have HLN := Lib.hid (fun V (_ht : Tabs V) => superLine_any V)
  have HT1 : Hid (Tabs W1) := show Tabs _ from ht.below hb1 ht.room
  have hl8 := hl.1
  have HLD := Lib.hid (fun V (h : Blk V w.heap.size 23 (lnA l)) => h.load (tt := 23) Tryz.underlying23 rfl (by rw [lnA_size, hl8]; kernel_rfl))
  have HX1 := Lib.hid hx1
  have HR1 := Lib.hid hr1
  have HB1 := Lib.hid hb1
  have HL := Lib.hid hl
  have hR : (fun V : World => (Instr.loadAt 23 (.pointer (some ⟨w.heap.size, 0, none⟩))).run Tryz.prog V = .ok (.agg (lnA l)) V) W1 := HLD.out _ hx1
  clear hW1 hb1 hx1 hr1 ht hl hl8
  go_enter Tryz.func4, Tryz.ntmps4
  go_wp2_with fail
  refine wp_region_M 7 (fun V : World => (Instr.loadAt 23 (.pointer (some ⟨w.heap.size, 0, none⟩))).run Tryz.prog V = .ok (.agg (lnA l)) V) (by kernel_rfl) ?_
  rw [HW1.out]
  refine wpAnyM_take2 8 (i := 1) (v := _) rfl (by kernel_rfl) (by kernel_rfl) (fun _ _ _ h => h) (Or.inl ⟨by rfl, fun w hSw => nd_exec_load rfl rfl hSw⟩) hR ?_
  (try simp only [put_laws])
  refine wpAnyM_two (i := 0) (j := 6) rfl rfl (by kernel_rfl) (fun K hK => ?_) (fun K hK => ?_)
  · rw [if_pos (by rfl)]
    (try simp only [elem_laws])
    go_simp
    refine (HLN.out W1 HT1.out).mono ?_
    rintro e W2 ⟨v, ps, rfl, hb, hk, hp, hs⟩
    have hx2 := HX1.out.below hb HX1.out.lt
    have HR2 := Lib.hid (HR1.out.below hb HR1.out.lt)
    have HB2 := Lib.hid (HB1.out.trans (hb.mono HB1.out.size))
    have HT2 : Hid (Tabs W2) := show Tabs _ from HT1.out.below hb HT1.out.room
    have hR2 : (fun V : World => (Instr.loadAt 23 (.pointer (some ⟨w.heap.size, 0, none⟩))).run Tryz.prog V = .ok (.agg (lnA l)) V) W2 := HLD.out _ hx2
    have HX2 := Lib.hid hx2
    refine hK _ _ (fun _ => hR2) ?_
    clear hK K hR
    have hR := hR2
    clear hR2 hx2
    have HPK := Lib.hid (fun V (hV : Below W2.heap.size W2 V) => getK_S l HL.out goodI_zero2 (fun x h => ⟨h.1, goodI_one h⟩) V (hk.below hV) (fun p hm => (hp p hm).below hV))
    have hgg : GoodI 2 ((getSp superSpecs l ndZeroS).getD ndZeroS) := by
      unfold getSp
      rw [← hs, ← rd_sp]
      cases hr : rdAll l ps ndZeroS with
      | none => exact goodI_zero2
      | some y =>
        have hy := rdAll_good HL.out ps ndZeroS y hp goodI_zero2 hr
        simp only [Option.bind_some]
        split
        · exact hy
        · exact goodI_zero2
    have hgs : getM ps l ndZeroS = getSp superSpecs l ndZeroS := by rw [get_sp, hs]
    rw [hgs] at HPK
    clear hb hk hp hs hgs
    obtain ⟨O, hO⟩ : ∃ O, (getSp superSpecs l ndZeroS).getD ndZeroS = O := ⟨_, rfl⟩
    obtain ⟨E, hE⟩ : ∃ E, getErr (getSp superSpecs l ndZeroS) = E := ⟨_, rfl⟩
    have HO := Lib.hid hO
    have HE := Lib.hid hE
    rw [hO, hE] at HPK
    rw [hO] at hgg
    clear hO hE
    obtain ⟨p, hp0, hpr⟩ := hgg.2 0 (by decide)
    obtain ⟨q, hq0, hqr⟩ := hgg.2 1 (by decide)
    have hOe : O = #[.int .i64 p, .int .i64 q] := by
      refine Array.ext (by rw [hgg.1]; rfl) fun i h1 h2 => ?_
      rw [hgg.1] at h1
      have hi : i = 0 ∨ i = 1 := by omega
      rcases hi with rfl | rfl
      · rw [Array.getElem?_eq_getElem (by omega)] at hp0
        exact Option.some.inj hp0
      · rw [Array.getElem?_eq_getElem (by omega)] at hq0
        exact Option.some.inj hq0
    have HG := Lib.hid hgg
    subst hOe
    clear hp0 hq0 hpr hqr hgg
    (try simp only [put_laws])
    refine wpAnyM_two (i := 2) (j := 6) rfl rfl (by kernel_rfl) (fun K hK => ?_) (fun K hK => ?_)
    · rw [if_pos (by rfl)]
      (try simp only [elem_laws])
      go_simp
      refine (HPK.out W2 (Below.refl _ _)).mono ?_
      rintro e W3 ⟨rfl, hb⟩
      have hx3 := HX2.out.below hb HX2.out.lt
      have HR3 := Lib.hid (HR2.out.below hb HR2.out.lt)
      have HB3 := Lib.hid (HB2.out.trans (hb.mono HB2.out.size))
      have HT3 : Hid (Tabs W3) := show Tabs _ from HT2.out.below hb HT2.out.room
      have hR3 : (fun V : World => (Instr.loadAt 23 (.pointer (some ⟨w.heap.size, 0, none⟩))).run Tryz.prog V = .ok (.agg (lnA l)) V) W3 := HLD.out _ hx3
      have HX3 := Lib.hid hx3
      refine hK _ _ (fun _ => hR3) ?_
      clear hK K hR
      have hR := hR3
      clear hR3 hx3
      clear hb
      (try simp only [put_laws])
      (refine wpAnyM_take2 8 (i := 3) (v := ?_) rfl (by kernel_rfl) (by kernel_rfl) (fun _ _ _ h => h) (Or.inl ⟨by rfl, ?_⟩) hR ?_; rotate_left; (focus (intro w hSw; (try dsimp only at hSw); go_simp; (try with_reducible rfl))); (try simp only [put_laws])); (refine wpAnyM_take2 8 (i := 4) (v := ?_) rfl (by kernel_rfl) (by kernel_rfl) (fun _ _ _ h => h) (Or.inl ⟨by rfl, ?_⟩) hR ?_; rotate_left; (focus (intro w hSw; (try dsimp only at hSw); go_simp; (try with_reducible rfl))); (try simp only [put_laws]))
      (refine wpAnyM_pure (i := 5) (v := ?_) rfl (by kernel_rfl) (by kernel_rfl) (fun _ _ _ h => h) (Or.inl ⟨by rfl, ?_⟩) hR ?_; rotate_left; (focus (intro w; go_simp; (try with_reducible rfl))); (try simp only [put_laws]))
      (refine wpAnyM_one (i := 6) rfl (by kernel_rfl) (fun K hK => ?_); rw [if_pos (by rfl)]; (try simp only [elem_laws]))
      go_simp
      obtain ⟨W4, hWn⟩ : ∃ W, W3.alloc (.cells #[.int .i64 0, .int .i64 0] 61) = W := ⟨_, rfl⟩
      have hb : Below W3.heap.size W3 W4 := by rw [← hWn]; exact (Below.refl _ _).alloc (Nat.le_refl _) _
      have HC4 : Hid (Blk W4 W3.heap.size 61 #[.int .i64 0, .int .i64 0]) := show Blk _ _ _ _ by rw [← hWn]; exact Blk.new _ _ _
      have hcl := HB3.out.size
      have hcz := HR3.out.lt
      have HCN : Hid (w.heap.size + 1 < W3.heap.size) := show _ < _ from hcz
      clear hcl hcz
      have hx4 := HX3.out.below hb HX3.out.lt
      have HR4 := Lib.hid (HR3.out.below hb HR3.out.lt)
      have HB4 := Lib.hid (HB3.out.trans (hb.mono HB3.out.size))
      have HT4 : Hid (Tabs W4) := show Tabs _ from HT3.out.below hb HT3.out.room
      have hR4 : (fun V : World => (Instr.loadAt 23 (.pointer (some ⟨w.heap.size, 0, none⟩))).run Tryz.prog V = .ok (.agg (lnA l)) V) W4 := HLD.out _ hx4
      have HX4 := Lib.hid hx4
      rw [hWn]
      clear hWn
      refine hK _ _ (fun _ => hR4) ?_
      clear hK K hR
      have hR := hR4
      clear hR4 hx4
      clear hb
      (try simp only [put_laws])
      (refine wpAnyM_one (i := 7) rfl (by kernel_rfl) (fun K hK => ?_); rw [if_pos (by rfl)]; (try simp only [elem_laws]))
      clear hR
      obtain ⟨W9, hst, hc9, ht9⟩ := HC4.out.store (P := Tryz.prog) (tt := 61) (Y := #[.int .i64 p, .int .i64 q]) (by kernel_rfl) rfl (by simp [Value.oneCell'])
      refine nd_store_eq 61 _ _ rfl _ _ rfl rfl hst ?_
      refine hK _ _ (fun h => by cases h) ?_
      clear hK K
      (try simp only [put_laws])
      (refine wpAnyM_one (i := 8) rfl (by kernel_rfl) (fun K hK => ?_); rw [if_pos (by rfl)]; (try simp only [elem_laws]))
      go_simp
      refine hK _ _ (fun h => by cases h) ?_
      clear hK K
      (try simp only [put_laws])
      refine wpAnyM_done (by kernel_rfl) ?_ _
      have hcn := HCN.out
      have hr9 : Blk W9 (w.heap.size + 1) 25 #[.int .i64 0, .int .i64 0] := HR4.out.turn ht9 (by omega)
      have HT9 : Hid (Below w.heap.size w W9) := show Below _ _ _ from HB4.out.trans (ht9.below (B := w.heap.size) (fun k h => by omega) HB4.out.size)
      have d0 := hc9.cell (j := 0) rfl
      have d1 := hc9.cell (j := 1) rfl
      have r0 := hr9.cell (j := 0) rfl
      have r1 := hr9.cell (j := 1) rfl
      have f0 := hr9.frozen 0
      have f1 := hr9.frozen 1
      have l9 := hr9.lt
      have HR9 := Lib.hid hr9
      clear hst hc9 ht9 hr9 hcn
      go_wp2_with fail
      have hr10 := (HR9.out.set 0 (.int .i64 p)).set 1 (.int .i64 q)
      refine bodyPost_ret (results_cell_tmp (fn := Tryz.f4) rfl rfl (Blk.loadVar hr10 (tt := 25) Tryz.underlying25 rfl (by kernel_rfl)) rfl) rfl ⟨by rw [HO.out, HE.out]; rfl, by rw [HO.out]; exact HG.out, ?_⟩
      exact (HT9.out.setCell (p := ⟨w.heap.size + 1, 0, none⟩) (Nat.le_succ _) _).setCell (p := ⟨w.heap.size + 1, 1, none⟩) (Nat.le_succ _) _
    · rw [if_pos (by rfl)]
      (try simp only [elem_laws])
      go_simp
      obtain ⟨W3, hWn⟩ : ∃ W, W2.alloc (.cells #[.int .i64 0, .int .i64 0] 61) = W := ⟨_, rfl⟩
      have hb : Below W2.heap.size W2 W3 := by rw [← hWn]; exact (Below.refl _ _).alloc (Nat.le_refl _) _
      have HC3 : Hid (Blk W3 W2.heap.size 61 #[.int .i64 0, .int .i64 0]) := show Blk _ _ _ _ by rw [← hWn]; exact Blk.new _ _ _
      have hcl := HB2.out.size
      have hcz := HR2.out.lt
      have HCN : Hid (w.heap.size + 1 < W2.heap.size) := show _ < _ from hcz
      clear hcl hcz
      have hx3 := HX2.out.below hb HX2.out.lt
      have HR3 := Lib.hid (HR2.out.below hb HR2.out.lt)
      have HB3 := Lib.hid (HB2.out.trans (hb.mono HB2.out.size))
      have HT3 : Hid (Tabs W3) := show Tabs _ from HT2.out.below hb HT2.out.room
      have hR3 : (fun V : World => (Instr.loadAt 23 (.pointer (some ⟨w.heap.size, 0, none⟩))).run Tryz.prog V = .ok (.agg (lnA l)) V) W3 := HLD.out _ hx3
      have HX3 := Lib.hid hx3
      have HVK : Hid (Below W2.heap.size W2 W3) := show Below _ _ _ from hb
      rw [hWn]
      clear hWn
      refine hK _ _ (fun _ => hR3) ?_
      clear hK K hR
      have hR := hR3
      clear hR3 hx3
      clear hb
      (try simp only [put_laws])
      (refine wpAnyM_one (i := 2) rfl (by kernel_rfl) (fun K hK => ?_); rw [if_pos (by rfl)]; (try simp only [elem_laws]))
      go_simp
      refine (HPK.out W3 HVK.out).mono ?_
      rintro e W4 ⟨rfl, hb⟩
      have hx4 := HX3.out.below hb HX3.out.lt
      have HR4 := Lib.hid (HR3.out.below hb HR3.out.lt)
      have HC4 := Lib.hid (HC3.out.below hb HC3.out.lt)
      have HB4 := Lib.hid (HB3.out.trans (hb.mono HB3.out.size))
      have HT4 : Hid (Tabs W4) := show Tabs _ from HT3.out.below hb HT3.out.room
      have hR4 : (fun V : World => (Instr.loadAt 23 (.pointer (some ⟨w.heap.size, 0, none⟩))).run Tryz.prog V = .ok (.agg (lnA l)) V) W4 := HLD.out _ hx4
      have HX4 := Lib.hid hx4
      refine hK _ _ (fun _ => hR4) ?_
      clear hK K hR
      have hR := hR4
      clear hR4 hx4
      clear hb
      (try simp only [put_laws])
      (refine wpAnyM_take2 8 (i := 3) (v := ?_) rfl (by kernel_rfl) (by kernel_rfl) (fun _ _ _ h => h) (Or.inl ⟨by rfl, ?_⟩) hR ?_; rotate_left; (focus (intro w hSw; (try dsimp only at hSw); go_simp; (try with_reducible rfl))); (try simp only [put_laws])); (refine wpAnyM_take2 8 (i := 4) (v := ?_) rfl (by kernel_rfl) (by kernel_rfl) (fun _ _ _ h => h) (Or.inl ⟨by rfl, ?_⟩) hR ?_; rotate_left; (focus (intro w hSw; (try dsimp only at hSw); go_simp; (try with_reducible rfl))); (try simp only [put_laws]))
      (refine wpAnyM_pure (i := 5) (v := ?_) rfl (by kernel_rfl) (by kernel_rfl) (fun _ _ _ h => h) (Or.inl ⟨by rfl, ?_⟩) hR ?_; rotate_left; (focus (intro w; go_simp; (try with_reducible rfl))); (try simp only [put_laws]))
      (refine wpAnyM_one (i := 7) rfl (by kernel_rfl) (fun K hK => ?_); rw [if_pos (by rfl)]; (try simp only [elem_laws]))
      clear hR
      obtain ⟨W9, hst, hc9, ht9⟩ := HC4.out.store (P := Tryz.prog) (tt := 61) (Y := #[.int .i64 p, .int .i64 q]) (by kernel_rfl) rfl (by simp [Value.oneCell'])
      refine nd_store_eq 61 _ _ rfl _ _ rfl rfl hst ?_
      refine hK _ _ (fun h => by cases h) ?_
      clear hK K
      (try simp only [put_laws])
      (refine wpAnyM_one (i := 8) rfl (by kernel_rfl) (fun K hK => ?_); rw [if_pos (by rfl)]; (try simp only [elem_laws]))
      go_simp
      refine hK _ _ (fun h => by cases h) ?_
      clear hK K
      (try simp only [put_laws])
      refine wpAnyM_done (by kernel_rfl) ?_ _
      have hcn := HCN.out
      have hr9 : Blk W9 (w.heap.size + 1) 25 #[.int .i64 0, .int .i64 0] := HR4.out.turn ht9 (by omega)
      have HT9 : Hid (Below w.heap.size w W9) := show Below _ _ _ from HB4.out.trans (ht9.below (B := w.heap.size) (fun k h => by omega) HB4.out.size)
      have d0 := hc9.cell (j := 0) rfl
      have d1 := hc9.cell (j := 1) rfl
      have r0 := hr9.cell (j := 0) rfl
      have r1 := hr9.cell (j := 1) rfl
      have f0 := hr9.frozen 0
      have f1 := hr9.frozen 1
      have l9 := hr9.lt
      have HR9 := Lib.hid hr9
      clear hst hc9 ht9 hr9 hcn
      go_wp2_with fail
      have hr10 := (HR9.out.set 0 (.int .i64 p)).set 1 (.int .i64 q)
      refine bodyPost_ret (results_cell_tmp (fn := Tryz.f4) rfl rfl (Blk.loadVar hr10 (tt := 25) Tryz.underlying25 rfl (by kernel_rfl)) rfl) rfl ⟨by rw [HO.out, HE.out]; rfl, by rw [HO.out]; exact HG.out, ?_⟩
      exact (HT9.out.setCell (p := ⟨w.heap.size + 1, 0, none⟩) (Nat.le_succ _) _).setCell (p := ⟨w.heap.size + 1, 1, none⟩) (Nat.le_succ _) _
  · rw [if_pos (by rfl)]
    (try simp only [elem_laws])
    go_simp
    obtain ⟨W2, hWn⟩ : ∃ W, W1.alloc (.cells #[.int .i64 0, .int .i64 0] 61) = W := ⟨_, rfl⟩
    have hb : Below W1.heap.size W1 W2 := by rw [← hWn]; exact (Below.refl _ _).alloc (Nat.le_refl _) _
    have HC2 : Hid (Blk W2 W1.heap.size 61 #[.int .i64 0, .int .i64 0]) := show Blk _ _ _ _ by rw [← hWn]; exact Blk.new _ _ _
    have hcl := HB1.out.size
    have hcz := HR1.out.lt
    have HCN : Hid (w.heap.size + 1 < W1.heap.size) := show _ < _ from hcz
    clear hcl hcz
    have hx2 := HX1.out.below hb HX1.out.lt
    have HR2 := Lib.hid (HR1.out.below hb HR1.out.lt)
    have HB2 := Lib.hid (HB1.out.trans (hb.mono HB1.out.size))
    have HT2 : Hid (Tabs W2) := show Tabs _ from HT1.out.below hb HT1.out.room
    have hR2 : (fun V : World => (Instr.loadAt 23 (.pointer (some ⟨w.heap.size, 0, none⟩))).run Tryz.prog V = .ok (.agg (lnA l)) V) W2 := HLD.out _ hx2
    have HX2 := Lib.hid hx2
    rw [hWn]
    clear hWn
    refine hK _ _ (fun _ => hR2) ?_
    clear hK K hR
    have hR := hR2
    clear hR2 hx2
    clear hb
    (try simp only [put_laws])
    (refine wpAnyM_one (i := 0) rfl (by kernel_rfl) (fun K hK => ?_); rw [if_pos (by rfl)]; (try simp only [elem_laws]))
    go_simp
    refine (HLN.out W2 HT2.out).mono ?_
    rintro e W3 ⟨v, ps, rfl, hb, hk, hp, hs⟩
    have hx3 := HX2.out.below hb HX2.out.lt
    have HR3 := Lib.hid (HR2.out.below hb HR2.out.lt)
    have HC3 := Lib.hid (HC2.out.below hb HC2.out.lt)
    have HB3 := Lib.hid (HB2.out.trans (hb.mono HB2.out.size))
    have HT3 : Hid (Tabs W3) := show Tabs _ from HT2.out.below hb HT2.out.room
    have hR3 : (fun V : World => (Instr.loadAt 23 (.pointer (some ⟨w.heap.size, 0, none⟩))).run Tryz.prog V = .ok (.agg (lnA l)) V) W3 := HLD.out _ hx3
    have HX3 := Lib.hid hx3
    refine hK _ _ (fun _ => hR3) ?_
    clear hK K hR
    have hR := hR3
    clear hR3 hx3
    have HPK := Lib.hid (fun V (hV : Below W3.heap.size W3 V) => getK_S l HL.out goodI_zero2 (fun x h => ⟨h.1, goodI_one h⟩) V (hk.below hV) (fun p hm => (hp p hm).below hV))
    have hgg : GoodI 2 ((getSp superSpecs l ndZeroS).getD ndZeroS) := by
      unfold getSp
      rw [← hs, ← rd_sp]
      cases hr : rdAll l ps ndZeroS with
      | none => exact goodI_zero2
      | some y =>
        have hy := rdAll_good HL.out ps ndZeroS y hp goodI_zero2 hr
        simp only [Option.bind_some]
        split
        · exact hy
        · exact goodI_zero2
    have hgs : getM ps l ndZeroS = getSp superSpecs l ndZeroS := by rw [get_sp, hs]
    rw [hgs] at HPK
    clear hb hk hp hs hgs
    obtain ⟨O, hO⟩ : ∃ O, (getSp superSpecs l ndZeroS).getD ndZeroS = O := ⟨_, rfl⟩
    obtain ⟨E, hE⟩ : ∃ E, getErr (getSp superSpecs l ndZeroS) = E := ⟨_, rfl⟩
    have HO := Lib.hid hO
    have HE := Lib.hid hE
    rw [hO, hE] at HPK
    rw [hO] at hgg
    clear hO hE
    obtain ⟨p, hp0, hpr⟩ := hgg.2 0 (by decide)
    obtain ⟨q, hq0, hqr⟩ := hgg.2 1 (by decide)
    have hOe : O = #[.int .i64 p, .int .i64 q] := by
      refine Array.ext (by rw [hgg.1]; rfl) fun i h1 h2 => ?_
      rw [hgg.1] at h1
      have hi : i = 0 ∨ i = 1 := by omega
      rcases hi with rfl | rfl
      · rw [Array.getElem?_eq_getElem (by omega)] at hp0
        exact Option.some.inj hp0
      · rw [Array.getElem?_eq_getElem (by omega)] at hq0
        exact Option.some.inj hq0
    have HG := Lib.hid hgg
    subst hOe
    clear hp0 hq0 hpr hqr hgg
    (try simp only [put_laws])
    (refine wpAnyM_one (i := 2) rfl (by kernel_rfl) (fun K hK => ?_); rw [if_pos (by rfl)]; (try simp only [elem_laws]))
    go_simp
    refine (HPK.out W3 (Below.refl _ _)).mono ?_
    rintro e W4 ⟨rfl, hb⟩
    have hx4 := HX3.out.below hb HX3.out.lt
    have HR4 := Lib.hid (HR3.out.below hb HR3.out.lt)
    have HC4 := Lib.hid (HC3.out.below hb HC3.out.lt)
    have HB4 := Lib.hid (HB3.out.trans (hb.mono HB3.out.size))
    have HT4 : Hid (Tabs W4) := show Tabs _ from HT3.out.below hb HT3.out.room
    have hR4 : (fun V : World => (Instr.loadAt 23 (.pointer (some ⟨w.heap.size, 0, none⟩))).run Tryz.prog V = .ok (.agg (lnA l)) V) W4 := HLD.out _ hx4
    have HX4 := Lib.hid hx4
    refine hK _ _ (fun _ => hR4) ?_
    clear hK K hR
    have hR := hR4
    clear hR4 hx4
    clear hb
    (try simp only [put_laws])
    (refine wpAnyM_take2 8 (i := 3) (v := ?_) rfl (by kernel_rfl) (by kernel_rfl) (fun _ _ _ h => h) (Or.inl ⟨by rfl, ?_⟩) hR ?_; rotate_left; (focus (intro w hSw; (try dsimp only at hSw); go_simp; (try with_reducible rfl))); (try simp only [put_laws])); (refine wpAnyM_take2 8 (i := 4) (v := ?_) rfl (by kernel_rfl) (by kernel_rfl) (fun _ _ _ h => h) (Or.inl ⟨by rfl, ?_⟩) hR ?_; rotate_left; (focus (intro w hSw; (try dsimp only at hSw); go_simp; (try with_reducible rfl))); (try simp only [put_laws]))
    (refine wpAnyM_pure (i := 5) (v := ?_) rfl (by kernel_rfl) (by kernel_rfl) (fun _ _ _ h => h) (Or.inl ⟨by rfl, ?_⟩) hR ?_; rotate_left; (focus (intro w; go_simp; (try with_reducible rfl))); (try simp only [put_laws]))
    (refine wpAnyM_one (i := 7) rfl (by kernel_rfl) (fun K hK => ?_); rw [if_pos (by rfl)]; (try simp only [elem_laws]))
    clear hR
    obtain ⟨W9, hst, hc9, ht9⟩ := HC4.out.store (P := Tryz.prog) (tt := 61) (Y := #[.int .i64 p, .int .i64 q]) (by kernel_rfl) rfl (by simp [Value.oneCell'])
    refine nd_store_eq 61 _ _ rfl _ _ rfl rfl hst ?_
    refine hK _ _ (fun h => by cases h) ?_
    clear hK K
    (try simp only [put_laws])
    (refine wpAnyM_one (i := 8) rfl (by kernel_rfl) (fun K hK => ?_); rw [if_pos (by rfl)]; (try simp only [elem_laws]))
    go_simp
    refine hK _ _ (fun h => by cases h) ?_
    clear hK K
    (try simp only [put_laws])
    refine wpAnyM_done (by kernel_rfl) ?_ _
    have hcn := HCN.out
    have hr9 : Blk W9 (w.heap.size + 1) 25 #[.int .i64 0, .int .i64 0] := HR4.out.turn ht9 (by omega)
    have HT9 : Hid (Below w.heap.size w W9) := show Below _ _ _ from HB4.out.trans (ht9.below (B := w.heap.size) (fun k h => by omega) HB4.out.size)
    have d0 := hc9.cell (j := 0) rfl
    have d1 := hc9.cell (j := 1) rfl
    have r0 := hr9.cell (j := 0) rfl
    have r1 := hr9.cell (j := 1) rfl
    have f0 := hr9.frozen 0
    have f1 := hr9.frozen 1
    have l9 := hr9.lt
    have HR9 := Lib.hid hr9
    clear hst hc9 ht9 hr9 hcn
    go_wp2_with fail
    have hr10 := (HR9.out.set 0 (.int .i64 p)).set 1 (.int .i64 q)
    refine bodyPost_ret (results_cell_tmp (fn := Tryz.f4) rfl rfl (Blk.loadVar hr10 (tt := 25) Tryz.underlying25 rfl (by kernel_rfl)) rfl) rfl ⟨by rw [HO.out, HE.out]; rfl, by rw [HO.out]; exact HG.out, ?_⟩
    exact (HT9.out.setCell (p := ⟨w.heap.size + 1, 0, none⟩) (Nat.le_succ _) _).setCell (p := ⟨w.heap.size + 1, 1, none⟩) (Nat.le_succ _) _
end Go.Proofs.YtaebipopmefkpaaGreatDoor

/-
  node: GetEntry. Written by gen_nd.py.
-/
namespace Go.Proofs.YtaebipopmefkpaaGreatDoor
open Go.RowKit Go.Shelf Go.Sort
attribute [local go_sem] Oper.semAt_some

set_option maxRecDepth 100000 in
set_option maxHeartbeats 4000000 in
theorem getEntry_any (l : List Int) (hl : Line8 l) (w : World) (ht : Tabs w) :
    Calls Tryz.prog 8 #[.agg (lnA l)] w fun e w' => e = .returned (.tuple #[.agg ((getSp entrySpecs l ndZeroE).getD ndZeroE), .int .i64 (getErr (getSp entrySpecs l ndZeroE))]) ∧ GoodE ((getSp entrySpecs l ndZeroE).getD ndZeroE) ∧ Below w.heap.size w w' := by
  obtain ⟨W1, hW1⟩ : ∃ W1, ((w.alloc (.cells (lnA l) 23)).alloc (.cells ndZeroE 44)).drew = W1 := ⟨_, rfl⟩
  have hb1 : Below w.heap.size w W1 := by rw [← hW1]; exact (by repeat (first | exact Below.refl _ _ | assumption | refine Below.drew ?_ | refine below_drewN ?_ _ | refine Below.alloc ?_ (by (try simp) <;> omega) _ | refine Below.setCell ?_ (by (try simp) <;> omega) _ | refine Below.trans ?_ (Below.mono (by assumption) (by (try simp) <;> omega))))
  have hx1 : Blk W1 w.heap.size 23 (lnA l) := by rw [← hW1]; exact (Blk.new w _ _).below (n := w.heap.size + 1) (by refine Below.drew ?_; exact (Below.refl _ _).alloc (by simp) _) (Nat.lt_succ_self _)
  have hr1 : Blk W1 (w.heap.size + 1) 44 ndZeroE := by
    rw [← hW1]
    have h := Blk.new (w.alloc (.cells (lnA l) 23)) 44 ndZeroE
    rwa [World.size_alloc] at h
  have HW1 : Hid (((w.alloc (.cells (lnA l) 23)).alloc (.cells #[.int .i64 0, .int .i64 0, encStr []] 44)).drew = W1) := show _ = _ from hW1
  have HLN := Lib.hid (fun V (ht : Tabs V) => entryLine_any V)
  have HT1 : Hid (Tabs W1) := show Tabs _ from ht.below hb1 ht.room
  have hl8 := hl.1
  have HLD := Lib.hid (fun V (h : Blk V w.heap.size 23 (lnA l)) => h.load (tt := 23) Tryz.underlying23 rfl (by rw [lnA_size, hl8]; kernel_rfl))
  have HX1 := Lib.hid hx1
  have HR1 := Lib.hid hr1
  have HB1 := Lib.hid hb1
  have HL := Lib.hid hl
  have hR : (fun V : World => (Instr.loadAt 23 (.pointer (some ⟨w.heap.size, 0, none⟩))).run Tryz.prog V = .ok (.agg (lnA l)) V) W1 := HLD.out _ hx1
  clear hW1 hb1 hx1 hr1 ht hl hl8
  go_enter Tryz.func8, Tryz.ntmps8
  go_wp2_with fail
  refine wp_region_M 5 (fun V : World => (Instr.loadAt 23 (.pointer (some ⟨w.heap.size, 0, none⟩))).run Tryz.prog V = .ok (.agg (lnA l)) V) (by kernel_rfl) ?_
  rw [HW1.out]
  refine wpAnyM_take2 8 (i := 1) (v := _) rfl (by kernel_rfl) (by kernel_rfl) (fun _ _ _ h => h) (Or.inl ⟨by rfl, fun w hSw => nd_exec_load rfl rfl hSw⟩) hR ?_
  (try simp only [put_laws])
  (refine wpAnyM_one (i := 0) rfl (by kernel_rfl) (fun K hK => ?_); rw [if_pos (by rfl)]; (try simp only [elem_laws]))
  go_simp
  refine (HLN.out W1 HT1.out).mono ?_
  rintro e w2 ⟨v, ps, rfl, hb2, hk2, hp2, hs2⟩
  have hx2 := HX1.out.below hb2 HX1.out.lt
  have hr2 := HR1.out.below hb2 HR1.out.lt
  have hR2 : (fun V : World => (Instr.loadAt 23 (.pointer (some ⟨w.heap.size, 0, none⟩))).run Tryz.prog V = .ok (.agg (lnA l)) V) w2 := HLD.out _ hx2
  refine hK _ _ (fun _ => hR2) ?_
  clear hK K hR
  have hgz : GoodE ndZeroE := goodE_zero
  have HPK := Lib.hid (getK_E l HL.out hgz (fun x h => ⟨h.1, goodE_one h⟩) w2 hk2 hp2)
  have hgg : GoodE ((getSp entrySpecs l ndZeroE).getD ndZeroE) := by
    unfold getSp
    rw [← hs2, ← rd_sp]
    cases hr : rdAll l ps ndZeroE with
    | none => exact hgz
    | some y =>
      have hy := rdAll_good HL.out ps ndZeroE y hp2 hgz hr
      simp only [Option.bind_some]
      split
      · exact hy
      · exact hgz
  rw [get_sp, hs2] at HPK
  have HG := Lib.hid hgg
  have HX2 := Lib.hid hx2
  have HR2 := Lib.hid hr2
  have HB2 := Lib.hid (HB1.out.trans (hb2.mono HB1.out.size))
  clear hb2 hk2 hp2 hs2 hx2 hr2 hgg hgz
  obtain ⟨O, hO⟩ : ∃ O, (getSp entrySpecs l ndZeroE).getD ndZeroE = O := ⟨_, rfl⟩
  obtain ⟨E, hE⟩ : ∃ E, getErr (getSp entrySpecs l ndZeroE) = E := ⟨_, rfl⟩
  have HO := Lib.hid hO
  have HE := Lib.hid hE
  rw [hO, hE] at HPK
  rw [hO] at HG
  clear hO hE
  (try simp only [put_laws])
  (refine wpAnyM_one (i := 2) rfl (by kernel_rfl) (fun K hK => ?_); rw [if_pos (by rfl)]; (try simp only [elem_laws]))
  go_simp
  refine HPK.out.mono ?_
  rintro e w3 ⟨rfl, hb3⟩
  have hx3 := HX2.out.below hb3 HX2.out.lt
  have hr3 := HR2.out.below hb3 HR2.out.lt
  have hR3 : (fun V : World => (Instr.loadAt 23 (.pointer (some ⟨w.heap.size, 0, none⟩))).run Tryz.prog V = .ok (.agg (lnA l)) V) w3 := HLD.out _ hx3
  refine hK _ _ (fun _ => hR3) ?_
  clear hK K hR2
  have hR := hR3
  clear hR3
  have HR3 := Lib.hid hr3
  have HB3 := Lib.hid (HB2.out.trans (hb3.mono HB2.out.size))
  clear hb3 hx3 hr3
  (try simp only [put_laws])
  (refine wpAnyM_take2 8 (i := 3) (v := ?_) rfl (by kernel_rfl) (by kernel_rfl) (fun _ _ _ h => h) (Or.inl ⟨by rfl, ?_⟩) hR ?_; rotate_left; (focus (intro w hSw; (try dsimp only at hSw); go_simp; (try with_reducible rfl))); (try simp only [put_laws])); (refine wpAnyM_take2 8 (i := 4) (v := ?_) rfl (by kernel_rfl) (by kernel_rfl) (fun _ _ _ h => h) (Or.inl ⟨by rfl, ?_⟩) hR ?_; rotate_left; (focus (intro w hSw; (try dsimp only at hSw); go_simp; (try with_reducible rfl))); (try simp only [put_laws]))
  (refine wpAnyM_last rfl (by kernel_rfl) (fun K hK => ?_); rw [if_pos (by rfl)]; (try simp only [elem_laws]))
  clear hR
  have hos := HG.out.1
  have ho1 : O.all (·.oneCell') = true := by have h := HG.out; exact goodE_one h
  obtain ⟨W4, hst, hr4, ht4⟩ := HR3.out.store (P := Tryz.prog) (tt := 44) (Y := O) (by rw [hos]; kernel_rfl) (by rw [hos]; rfl) ho1
  refine nd_store_eq 44 _ _ rfl _ _ rfl rfl hst ?_
  refine hK _ _ ?_
  clear hK K
  (try simp only [put_laws])
  (refine wpAnyM_one (i := 6) rfl (by kernel_rfl) (fun K hK => ?_); rw [if_pos (by rfl)]; (try simp only [elem_laws]))
  go_simp
  refine hK _ _ (fun h => by cases h) ?_
  clear hK K
  (try simp only [put_laws])
  refine wpAnyM_done (by kernel_rfl) ?_ _
  have HR4 := Lib.hid hr4
  have HT4 := Lib.hid ht4
  have HOS := Lib.hid hos
  clear hst hr4 ht4 ho1 hos
  go_wp2_with fail
  exact bodyPost_ret (results_cell_tmp (fn := Tryz.f8) rfl rfl (HR4.out.loadVar (tt := 44) Tryz.underlying44 rfl (by rw [HOS.out]; kernel_rfl)) rfl) rfl ⟨by rw [HO.out, HE.out]; rfl, by rw [HO.out]; exact HG.out, HB3.out.trans (HT4.out.below (B := w.heap.size) (fun k h => by omega) HB3.out.size)⟩
end Go.Proofs.YtaebipopmefkpaaGreatDoor

/-
  The frame of a law's row: whatever the arguments are, they read behind the call as they did, if nothing that lay has turned.
-/
namespace Go.Proofs.YtaebipopmefkpaaGreatDoor
open Go.ChangeShapes Go.WideShapes Go.ChangeAt Go.RowKit

theorem own : ownKnob Tryz.prog.godebug = none := by kernel_rfl
theorem laidOut : laidOutB Tryz.prog = true := by kernel_rfl
/-- One listed variable's reading. -/
def ReadsAs (P : Program) (w : World) (n : String) (d : DataW Unit) : Prop :=
  ∃ g t cs fuel p, P.globalNamed n = some g ∧ (P.globals[g]?).map (·.type) = some t ∧ w.var? P n = some cs ∧ DataW.trod (fun _ => ()) P w 0 (fun _ => true) false fuel t cs.toList = some (d, p)
theorem readsAs_list {P : Program} {w : World} : ∀ {l : List (String × DataW Unit)} {ps : List MemPlace}, DataW.LaidVars P w l ps → ∀ x ∈ l, ReadsAs P w x.1 x.2
  | [], _, _, _, hm => by cases hm
  | y :: r, ps, h, x, hm => by
    obtain ⟨g, t, cs, fuel, p, q, h1, h2, h3, h4, h5, _⟩ := h
    rcases List.mem_cons.1 hm with e | e
    · subst e; exact ⟨g, t, cs, fuel, p, h1, h2, h3, h4⟩
    · exact readsAs_list h5 x e
theorem readsAs_of_laid {P : Program} {w : World} {l : List (String × DataW Unit)} (h : laidMet P l w) {n : String} {d : DataW Unit} (hm : (n, d) ∈ l) : ReadsAs P w n d :=
  let ⟨_, hv, _⟩ := h
  readsAs_list hv (n, d) hm
/-- A listed array of integers holds them, cell for cell. -/
theorem tabIs_of_reads {P : Program} {W : World} {name : String} {k : IntKind} {zs : List Int} {g : Nat} {t e : TypeId} {n : Nat}
    (hg : P.globalNamed name = some g) (hty : (P.globals[g]?).map (·.type) = some t) (ht : P.underlying t = some (.array n e)) (he : P.underlying e = some (.int k)) (hce : P.cellsOf e = 1) (hct : P.cellsOf t = n)
    (h : ReadsAs P W name (Lib.tabData k zs)) : Lib.TabIs P W name k zs := by
  obtain ⟨g', t', cs, fuel, p, hg', ht', hvar, hd⟩ := h
  obtain rfl := Option.some.inj (hg.symm.trans hg')
  obtain rfl := Option.some.inj (hty.symm.trans ht')
  unfold Lib.TabIs
  rw [hvar, ← Lib.cells_of_tab ht he hce hct hd]
/-- These types read as data. -/
def typesOk (P : Program) (ts : List TypeId) : Bool := ts.all fun t => P.readableRec t && decide (t < P.types.size)
theorem trodAll_below {H : Type} {enc : TypeId × Value → H} {P : Program} (hl : laidOutB P = true) {W W' : World} (hb : Below W.heap.size W W') :
    ∀ {ts : List TypeId} {vs : List Value} {ds : List (DataW H)} {ps : List MemPlace}, typesOk P ts = true → DataW.TrodAll enc P W 0 (fun _ => true) true ts vs ds ps → (∀ x ∈ ps, x.block < W.heap.size) →
      DataW.TrodAll enc P W' 0 (fun b => decide (b < W.heap.size)) true ts vs ds ps
  | [], [], [], _, _, h, _ => h
  | [], [], _ :: _, _, _, h, _ => h.elim
  | [], _ :: _, _, _, _, h, _ => by cases h
  | _ :: _, [], _, _, _, h, _ => by cases h
  | _ :: _, _ :: _, [], _, _, h, _ => by cases h
  | t :: ts, v :: vs, d :: ds, ps, ht, ⟨p, q, h1, h2, e⟩, hlt => by
    simp only [typesOk, List.all_cons, Bool.and_eq_true, decide_eq_true_eq] at ht
    subst e
    exact ⟨p, q, Below.trod hl ht.1.1 ht.1.2 h1 hb (fun x hx => hlt x (List.mem_append_left _ hx)),
      trodAll_below hl hb (by simpa [typesOk] using ht.2) h2 (fun x hx => hlt x (List.mem_append_right _ hx)), rfl⟩
/-- A law's post: it returned true, and nothing that lay has turned. -/
theorem law_post {H : Type} {enc : TypeId × Value → H} {P : Program} (hl : laidOutB P = true) {f : Func} {s : ChangeSpec} {apart fresh handsOn : Bool} {W W' : World} {args : Array Value} {ds gs : List (DataW H)} {before : List MemPlace} {tb : TypeId}
    (hW : DataW.Whole enc P f.params.toList s.vars apart W args.toList ds gs before) (hv0 : s.vars = []) (hres : (s.fn H (ds ++ [])).results = [.lit (.bool true)]) (hargs : (s.fn H (ds ++ [])).args = ds) (hvars : (s.fn H (ds ++ [])).vars = [])
    (ht : typesOk P f.params.toList = true) (hrt : f.resultTypes = #[tb]) (htb : P.underlying tb = some .bool) (hb : Below W.heap.size W W') :
    s.post enc P f apart fresh handsOn false W args (.bool true) W' := by
  have hW' := hW
  obtain ⟨p, q, hA, hV, hbef, hfz, hnd⟩ := hW
  rw [hv0] at hV
  obtain ⟨rfl, rfl⟩ := trodVars_none hV
  rw [List.append_nil] at hbef
  subst hbef
  have hlt : ∀ x ∈ before, x.block < W.heap.size := fun x hx => hW'.lt x hx
  refine ⟨ds, [], before, [], before, [], hW', ?_, ?_, ?_, World.keptBut_mono (fun x hx => ⟨hx, .inr ?_⟩) (hb.frame (· ∈ before)), fun h => by cases h⟩
  · rw [hres, hrt]
    exact trodAll_cons_mk (shut_bool htb _) trodAll_mk0
  · rw [hargs]
    exact trodAll_below hl hb ht hA hlt
  · rw [hvars, hv0]
    rfl
  · simpa using hx
end Go.Proofs.YtaebipopmefkpaaGreatDoor

/-
  What the rows' lists of package-level tables give: word.masks alone.
-/
namespace Go.Proofs.YtaebipopmefkpaaGreatDoor
open Go.ChangeShapes Go.WideShapes Go.ChangeAt Go.RowKit

def zsMk : List Int := (List.range 65).map fun v => Int.ofNat (2 ^ v - 1)
theorem laidMk {H : Type} : (Rows.laid_waterline_word_masks : DataW H) = Lib.tabData .u64 zsMk := by kernel_rfl
theorem gMk : Tryz.prog.globalNamed "waterline/word.masks" = some 0 := by kernel_rfl
theorem tMk : (Tryz.prog.globals[(0 : Nat)]?).map (·.type) = some 223 := by kernel_rfl
theorem cMk : Tryz.prog.cellsOf 223 = 65 := by kernel_rfl
theorem c64Mk : Tryz.prog.cellsOf 22 = 1 := by kernel_rfl
theorem masks_of_laid {W : World} (h : laidMetH Tryz.prog [("waterline/word.masks", Rows.laid_waterline_word_masks)] W) : Tabs W := by
  have hL : laidMet Tryz.prog [("waterline/word.masks", Rows.laid_waterline_word_masks)] W := h
  have hm : Lib.TabIs Tryz.prog W "waterline/word.masks" .u64 zsMk := tabIs_of_reads gMk tMk Tryz.underlying223 Tryz.underlying22 c64Mk cMk (by rw [← laidMk]; exact readsAs_of_laid hL (.head _))
  have mk : ∀ v : Nat, v ≤ 64 → W.cell? ⟨0, v, none⟩ = some (.int .u64 ((2 ^ v - 1 : Nat) : Int)) := fun v hv => by
    have := hm.cell gMk v (by simp [zsMk]; omega)
    rw [this]
    simp [zsMk, List.getD, List.getElem?_map, List.getElem?_range (show v < 65 by omega)]
  refine ⟨mk, ?_⟩
  have h0 := mk 0 (by decide)
  rcases Nat.lt_or_ge 0 W.heap.size with h2 | h2
  · exact h2
  · unfold World.cell? at h0
    rw [Array.getElem?_eq_none (by simpa using h2)] at h0
    cases h0
/-- A block of cells, with other cells. -/
def withCellsM (cs : Array Value) : Obj → Obj
  | .cells _ t frozen => .cells cs t frozen
  | o => o
/-- A WORLD FOR THE WITNESS: the settled one, masks holding what its initialiser lays. -/
noncomputable def masksWorld (os : Os) : World :=
  { World.holding Tryz.prog os ⟨#[], #[], []⟩ with heap := Array.modify (World.holding Tryz.prog os ⟨#[], #[], []⟩).heap 0 (withCellsM (zsMk.map (Value.int .u64)).toArray) }
end Go.Proofs.YtaebipopmefkpaaGreatDoor
