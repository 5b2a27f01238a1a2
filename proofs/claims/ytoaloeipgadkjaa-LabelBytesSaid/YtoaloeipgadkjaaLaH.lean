/-
  label: the document's Read.
-/
import Derived.Deep.RegionHeld3
import Derived.Test.YtoaloeipgadkjaaLaG
import Derived.Test.YtoaloeipgadkjaaHeldG
namespace Go.Proofs.Ytoaloeipgadkjaa
open Go.RowKit Go.Shelf Go.Sort

theorem isRead_small (l : List Nat) (many : Int) (h : many < 1) : isRead l many = false := by
  have : readN l many = [] := by
    unfold readN
    rw [show many.toNat = 0 by omega]; rfl
  unfold isRead sameOut
  rw [this]; rfl
theorem isRead_big (l : List Nat) (hl : l.length = 5) (many : Int) (h : 40 < many) : isRead l many = false := by
  have : (readN l many).length = 40 := by
    unfold readN
    rw [List.length_take, txtN_length]; omega
  unfold isRead sameOut
  have h2 : (many == ((readN l many).length : Int)) = false := by rw [this]; simp; omega
  rw [h2]
  simp
theorem readN_len (l : List Nat) (hl : l.length = 5) (m : Nat) (h : m ≤ 40) : (readN l m).length = m := by
  unfold readN
  rw [List.length_take, txtN_length]; omega
theorem isRead_eq (l : List Nat) (hl : l.length = 5) (m : Nat) (h : m ≤ 40) : isRead l m = (rightN (readN l m) && same5 (wordsN (readN l m)) l) := by
  unfold isRead sameOut
  rw [readN_len l hl m h]
  simp
def byteTo (l : List Nat) (k : Nat) : List Nat := (WM.bytesOf l).take k
theorem byteTo_succ (l : List Nat) (k : Nat) (h : k < 8 * l.length) : byteTo l (k + 1) = byteTo l k ++ [WM.byteAt l k] := by
  unfold byteTo
  rw [List.take_succ_eq_append_getElem (by rw [WM.bytesOf_length]; exact h)]
  simp [WM.bytesOf]
theorem byteTo_len (l : List Nat) (k : Nat) (h : k ≤ 8 * l.length) : (byteTo l k).length = k := by
  unfold byteTo
  rw [List.length_take, WM.bytesOf_length]; omega
theorem byteTo_read (l : List Nat) (m : Nat) : byteTo l m = bsN (readN l m) := by
  unfold byteTo readN
  rw [take_bsN, txtN_bs]; rfl
theorem same5_comm (l m : List Nat) : same5 l m = same5 m l := by
  unfold same5
  rw [Bool.eq_iff_iff, decide_eq_true_iff, decide_eq_true_iff]
  exact ⟨fun h i hi => (h i hi).symm, fun h i hi => (h i hi).symm⟩
theorem neq5 (l m : List Nat) (w : World) : (binOp .neq 24 (.agg (arr5 l)) (.agg (arr5 m))).run Try.prog w = .ok (.bool (!same5 l m)) w := by
  have h := laEqual Try.underlying24 9998 [(l[0]?.getD 0 : Nat), (l[1]?.getD 0 : Nat), (l[2]?.getD 0 : Nat), (l[3]?.getD 0 : Nat), (l[4]?.getD 0 : Nat)] [(m[0]?.getD 0 : Nat), (m[1]?.getD 0 : Nat), (m[2]?.getD 0 : Nat), (m[3]?.getD 0 : Nat), (m[4]?.getD 0 : Nat)] rfl rfl w
  rw [five_same] at h
  rw [run_neq_struct]
  refine (congrArg (fun r : Result Bool => r.andThen fun b w' => Result.ok (Value.bool (!b)) w') h).trans ?_
  rfl
set_option maxRecDepth 100000 in
set_option maxHeartbeats 4000000 in
theorem refRead_mid (l : List Nat) (hl : l.length = 5) (h64 : Words64 l) (m : Nat) (h1 : 1 ≤ m) (h40 : m ≤ 40) (w : World) :
    Calls Try.prog 18 #[.agg (arr5 l), .int .i64 m] w fun e w' => e = .returned (.tuple #[encStr (if isRead l m then readN l m else []), .bool (isRead l m)]) ∧ Below w.heap.size w w' := by
  obtain ⟨i0, hi, hz0, hz1, hz2⟩ := info_parts infoU8
  obtain ⟨W1, hW1⟩ : ∃ W1, w.alloc (.cells (arr5 l) 24) = W1 := ⟨_, rfl⟩
  have HB1 : Hid (Below w.heap.size w W1) := show Below _ _ _ by rw [← hW1]; exact (by repeat (first | exact Below.refl _ _ | assumption | refine Below.drew ?_ | refine below_drewN ?_ _ | refine Below.alloc ?_ (by (try simp) <;> omega) _ | refine Below.setCell ?_ (by (try simp) <;> omega) _ | refine Below.trans ?_ (Below.mono (by assumption) (by (try simp) <;> omega))))
  have x1 : Box5 W1 w.heap.size l := by rw [← hW1]; exact Box5.new w l
  have HX1 := Lib.hid x1
  have hzz : W1.heap.size = w.heap.size + 1 := by rw [← hW1]; simp
  have HS := Lib.hid (fun (W : World) (hx : Box5 W w.heap.size l) (i : Nat) (hi : i < 40) => refByte_any _ l i (by omega) h64 (by omega) W (box5_sl hx hl))
  have HSU := Lib.hid (fun k (h : k < 40) => byteTo_succ l k (by omega))
  have HLN := Lib.hid (fun k (h : k ≤ 40) => byteTo_len l k (by omega))
  have HRD := Lib.hid (byteTo_read l m)
  have HRI := Lib.hid (fun W => refRight6_any (readN l m) W)
  have HWO := Lib.hid (fun W => refWords6_any (readN l m) (by rw [readN_len l hl m h40]; exact h40) W)
  have hnq := fun W => neq5 (wordsN (readN l m)) l W
  have HIS := Lib.hid (isRead_eq l hl m h40)
  have HW1 := Lib.hid hW1
  have q1 : ¬ (m : Int) < 1 := by omega
  have q2 : ¬ (40 : Int) < (m : Int) := by omega
  obtain ⟨t, ht⟩ : ∃ t, readN l m = t := ⟨_, rfl⟩
  rw [ht] at HRD HRI HWO HIS hnq ⊢
  obtain ⟨ir, hir⟩ : ∃ ir, isRead l m = ir := ⟨_, rfl⟩
  rw [hir] at HIS ⊢
  clear hl h64 hW1 ht hir x1
  go_enter Try.func18, Try.ntmps18
  go_wp2_with fail
  rw [HW1.out]
  go_loopw [6, 7] (fun r i wr => ∃ (k : Nat) (q : Value), q = r ∧ k ≤ m ∧ i = .int .i64 k ∧ wr.ownsRow W1.heap.size 5 1 r (byteTo l k).length (valsOf .u8 (byteTo l k)) ∧ Below W1.heap.size W1 wr) (fun _ i _ => m - (intOf i).toNat)
  case atStart => exact ⟨0, _, rfl, Nat.zero_le _, rfl, by simp [byteTo, valsOf, World.ownsRow_nil], Below.refl _ _⟩
  case round =>
    obtain ⟨k, r, rfl, hk, rfl, hrow, hb⟩ := hrel
    have z := hb.size
    have HXR := Lib.hid (HX1.out.below hb)
    by_cases hlt : k < m
    · have k5 : (k : Int) < (m : Int) := by omega
      have HB := Lib.hid (HS.out wr HXR.out k (by omega))
      have HO := Lib.hid (HSU.out k (by omega))
      have hol : (byteTo l k).length = k := HLN.out k (by omega)
      go_wp2_with fail
      refine HB.out.mono ?_
      rintro e w1 ⟨rfl, hb1⟩
      have hr1 := ownsRow_below hrow hb1
      have z1 := hb1.size
      go_wp2_with (at_builtin; go_must (refine wpList_append_own _ rfl _ _ 58 rfl W1.heap.size 5 i0 (.int .u8 0) 1 1 Try.underlying58 hi hz0 hz1 hz2 rfl (by decide) r _ _ rfl (hr1.alloc _) ⟨w1.heap.size, 0, none⟩ 1 1 [.int .u8 (WM.byteAt l k : Nat)] rfl rfl (cell_one_new _ _ _) (by simp [Value.oneCell']) (by unfold maxLen; omega) (by omega) (by simp; omega) ?_); intro v' w2 hown' hgrow _)
      go_roundw
      case rel =>
        refine ⟨k + 1, _, rfl, by omega, by go_num, ?_, ?_⟩
        · rw [HO.out, valsOf_append, List.length_append]; exact hown'
        · exact ((hb.trans (hb1.mono z)).alloc (by omega) _).grown hgrow (by simp; omega) (fun j e => by have := hr1.lt j e; omega)
      case measure => simp [intOf]; omega
    · obtain rfl : k = m := by omega
      have hsl := own_sl hrow
      rw [HRD.out] at hsl
      have hct := conv_text 9 Try.underlying9 hsl
      have bk : Below w.heap.size w wr := HB1.out.trans (hb.mono HB1.out.size)
      obtain ⟨c0, c1, c2, c3, c4⟩ := HXR.out.cells
      have lk := HXR.out.lt
      clear hsl hrow hb z
      cases hr : rightN t with
      | false =>
        have HF : Hid (ir = false) := show _ = _ by rw [HIS.out, hr]; rfl
        rw [hr] at HRI
        obtain rfl := HF.out
        go_wp2_with fail
        have hR : (fun _ : World => True) wr.drew := trivial
        refine wp_region_M 8 (fun _ : World => True) (by kernel_rfl) ?_
        (refine wpAnyM_take2 8 (i := 0) (v := ?_) rfl (by kernel_rfl) (by kernel_rfl) (fun _ _ _ h => h) (Or.inl ⟨by rfl, ?_⟩) hR ?_; rotate_left; (focus (intro w hSw; (try dsimp only at hSw); go_simp; (try with_reducible rfl))); (try simp only [put_laws]))
        (refine wpAnyM_one (i := 1) rfl (by kernel_rfl) (fun K hK => ?_); rw [if_pos (by rfl)]; (try simp only [elem_laws]))
        go_simp
        refine (HRI.out _).mono ?_
        rintro e wA ⟨rfl, rfl⟩
        refine hK _ _ (fun _ => trivial) ?_
        clear hK K
        (try simp only [put_laws])
        (refine wpAnyM_take2 8 (i := 2) (v := ?_) rfl (by kernel_rfl) (by kernel_rfl) (fun _ _ _ h => h) (Or.inl ⟨by rfl, ?_⟩) hR ?_; rotate_left; (focus (intro w hSw; (try dsimp only at hSw); go_simp; (try with_reducible rfl))); (try simp only [put_laws])); (refine wpAnyM_take2 8 (i := 3) (v := ?_) rfl (by kernel_rfl) (by kernel_rfl) (fun _ _ _ h => h) (Or.inl ⟨by rfl, ?_⟩) hR ?_; rotate_left; (focus (intro w hSw; (try dsimp only at hSw); go_simp; (try with_reducible rfl))); (try simp only [put_laws]))
        (refine wpAnyM_take2 8 (i := 4) (v := undef) rfl (by kernel_rfl) (by kernel_rfl) (fun _ _ _ h => h) (Or.inr ⟨by rfl, rfl⟩) hR ?_; (try simp only [put_laws])); (refine wpAnyM_take2 8 (i := 5) (v := undef) rfl (by kernel_rfl) (by kernel_rfl) (fun _ _ _ h => h) (Or.inr ⟨by rfl, rfl⟩) hR ?_; (try simp only [put_laws])); (refine wpAnyM_take2 8 (i := 6) (v := undef) rfl (by kernel_rfl) (by kernel_rfl) (fun _ _ _ h => h) (Or.inr ⟨by rfl, rfl⟩) hR ?_; (try simp only [put_laws])); (refine wpAnyM_take2 8 (i := 7) (v := undef) rfl (by kernel_rfl) (by kernel_rfl) (fun _ _ _ h => h) (Or.inr ⟨by rfl, rfl⟩) hR ?_; (try simp only [put_laws]))
        (refine wpAnyM_last rfl (by kernel_rfl) (fun K hK => ?_); rw [if_pos (by rfl)]; (try simp only [elem_laws]))
        go_simp
        refine hK _ _ ?_
        clear hK K
        (try simp only [put_laws])
        refine wpAnyM_done (by kernel_rfl) ?_ _
        go_wp2_with fail
        go_ret2
        exact ⟨rfl, bk.drew⟩
      | true =>
        have HF : Hid (ir = same5 (wordsN t) l) := show _ = _ by rw [HIS.out, hr]; rfl
        rw [hr] at HRI
        obtain ⟨sm, hsm⟩ : ∃ sm, same5 (wordsN t) l = sm := ⟨_, rfl⟩
        rw [hsm] at HF hnq
        obtain ⟨ws, hws⟩ : ∃ ws, wordsN t = ws := ⟨_, rfl⟩
        rw [hws] at hnq HWO
        clear hsm hws HIS
        obtain rfl := HF.out
        go_wp2_with fail
        go_region_held3 (fun w' => w'.cell? ⟨w.heap.size, 0, none⟩ = some (.int .u64 (l[0]?.getD 0 : Nat)) ∧ w'.cell? ⟨w.heap.size, 1, none⟩ = some (.int .u64 (l[1]?.getD 0 : Nat)) ∧ w'.cell? ⟨w.heap.size, 2, none⟩ = some (.int .u64 (l[2]?.getD 0 : Nat)) ∧ w'.cell? ⟨w.heap.size, 3, none⟩ = some (.int .u64 (l[3]?.getD 0 : Nat)) ∧ w'.cell? ⟨w.heap.size, 4, none⟩ = some (.int .u64 (l[4]?.getD 0 : Nat)) ∧ w.heap.size < w'.heap.size) (exact ⟨c0, c1, c2, c3, c4, lk⟩)
          (first | (go_at_call 12; refine (HRI.out _).mono ?_; rintro e wA ⟨rfl, rfl⟩) | (go_at_call 16; refine (HWO.out _).mono ?_; rintro e wA ⟨rfl, hbA⟩; have bk : Below w.heap.size w wA := (by repeat (first | exact Below.refl _ _ | assumption | refine Below.drew ?_ | refine below_drewN ?_ _ | refine Below.alloc ?_ (by (try simp) <;> omega) _ | refine Below.setCell ?_ (by (try simp) <;> omega) _ | refine Below.trans ?_ (Below.mono (by assumption) (by (try simp) <;> omega)))); have c0 := (hbA.cell (p := ⟨w.heap.size, 0, none⟩) lk).trans c0; have c1 := (hbA.cell (p := ⟨w.heap.size, 1, none⟩) lk).trans c1; have c2 := (hbA.cell (p := ⟨w.heap.size, 2, none⟩) lk).trans c2; have c3 := (hbA.cell (p := ⟨w.heap.size, 3, none⟩) lk).trans c3; have c4 := (hbA.cell (p := ⟨w.heap.size, 4, none⟩) lk).trans c4; have lk : w.heap.size < wA.heap.size := Nat.lt_of_lt_of_le lk hbA.size; clear hbA))
        all_goals
          cases ir with
          | false =>
            go_wp2_with fail
            go_ret2
            exact ⟨rfl, bk⟩
          | true =>
            go_wp2_with fail
            go_ret2
            exact ⟨rfl, bk⟩
end Go.Proofs.Ytoaloeipgadkjaa
