/-
  The walk of the law TraceLong (written by gen_tst.py).
-/
import Derived.Test.YtkpiehejkhjhlaaTsK
namespace Go.Proofs.Ytkpiehejkhjhlaa
open Go.RowKit Go.Shelf Go.Maps

theorem own_setS {w : World} {base g n cap j s : Nat} {e : TypeId} {xs : List Value} (h : w.ownsRow base e s (.slice (some ⟨g, 0, none⟩) n cap) n xs) (u : Value) :
    (w.setCell ⟨g, j, none⟩ u).ownsRow base e s (.slice (some ⟨g, 0, none⟩) n cap) n (xs.set j u) := by
  obtain ⟨hl, h⟩ := h
  rcases h with ⟨e0, _⟩ | ⟨g', cap', cur, e0, hb, hg, hn, hm, hs, ht⟩
  · cases e0
  · injection e0 with e1 _ e3
    injection e1 with e1
    injection e1 with e1
    subst e1; subst e3
    refine ⟨by simpa using hl, .inr ⟨g, cap, cur.setIfInBounds j u, rfl, hb, ?_, hn, hm, by simpa using hs, ?_⟩⟩
    · simp [World.setCell, Array.getElem?_modify, hg]
    · rw [← ht, Array.toList_setIfInBounds, List.take_set]
theorem own_frozenS {w : World} {base g n cap j s : Nat} {e : TypeId} {xs : List Value} (h : w.ownsRow base e s (.slice (some ⟨g, 0, none⟩) n cap) n xs) : w.frozen? ⟨g, j, none⟩ = false := by
  rcases h.2 with ⟨e0, _⟩ | ⟨g', cap', cur, e0, hb, hg, hn, hm, hs, ht⟩
  · cases e0
  · injection e0 with e1 _ e3
    injection e1 with e1
    injection e1 with e1
    subst e1
    simp [World.frozen?, hg]
/-- The law's list: a touch, and fences. -/
def longL (t : Tch) (n : Nat) : List Tch := t :: List.replicate n ⟨4, 0, 0⟩
theorem longL_set (t : Tch) (n : Nat) (a b : Int) (c : Int) : (((flatC cT (longL t n)).set 0 (.int .i64 a)).set 1 (.int .i64 b)).set 2 (.int .u64 c) = flatC cT (longL ⟨a, b, c⟩ n) := by
  unfold longL flatC
  rw [List.flatMap_cons, List.flatMap_cons]
  rfl
theorem longL_length (t : Tch) (n : Nat) : (longL t n).length = n + 1 := by unfold longL; simp
theorem longL_right {t : Tch} (n : Nat) (h : rightT t = true) : (longL t n).all rightT = true := by
  unfold longL
  rw [List.all_cons, h, Bool.true_and]
  refine List.all_eq_true.2 fun u hu => ?_
  rw [(List.mem_replicate.1 hu).2]
  rfl
theorem longL_check {t : Tch} (n : Nat) (h : rightT t = true) : checkT (longL t n) = if 4096 < n + 1 then 3 else 0 := by
  unfold checkT
  rw [if_pos (longL_right n h), longL_length]
theorem longL_ok {t : Tch} (n : Nat) (h : okT t) : ∀ u ∈ longL t n, okT u := fun u hu => by
  unfold longL at hu
  rcases List.mem_cons.1 hu with rfl | hu
  · exact h
  · rw [(List.mem_replicate.1 hu).2]
    exact ⟨⟨by show (-9223372036854775808 : Int) ≤ 0; omega, by show (0 : Int) ≤ _; omega⟩, by show (0 : Int) ≤ 0; omega, by show (0 : Int) ≤ _; omega⟩
theorem longL_any (t : Tch) (n : Nat) (x : Int) : anyL storesL (longL t n) x = (storesL t && (lineT t == x)) := by
  unfold anyL longL
  rw [List.any_cons]
  have : ((List.replicate n (⟨4, 0, 0⟩ : Tch)).any fun t => storesL t && (lineT t == x)) = false := List.any_eq_false.2 fun u hu => by
    rw [(List.mem_replicate.1 hu).2]
    simp [storesL]
  rw [this, Bool.or_false]
/-- With a load ahead: orderly. -/
theorem long_load (n : Nat) (hn : n + 1 ≤ 4096) : closedE (longL ⟨1, 5, 0⟩ n) = 0 ∧ closedV (longL ⟨1, 5, 0⟩ n) = longL ⟨1, 5, 0⟩ n := by
  have hc : checkT (longL ⟨1, 5, 0⟩ n) = 0 := by rw [longL_check n rfl, if_neg (by omega)]
  have ho : orderR (longL ⟨1, 5, 0⟩ n) = true := by
    refine List.all_eq_true.2 fun k hk => ?_
    have := (mem_stored.1 hk).2
    rw [longL_any] at this
    simp [storesL] at this
  obtain ⟨h1, h2⟩ := closed_same hc
  rw [h1, h2]
  unfold closedRE closedR
  rw [if_pos ho, if_pos ho]
  exact ⟨rfl, rfl⟩
theorem sureF_fences (L : Int) : ∀ n, sureF L 1 (List.replicate n ⟨4, 0, 0⟩) = 1
  | 0 => rfl
  | n + 1 => by
    rw [List.replicate_succ]
    show sureF L (sureStep L 1 ⟨4, 0, 0⟩) _ = 1
    have : sureStep L 1 ⟨4, 0, 0⟩ = 1 := by unfold sureStep; rw [if_neg (by simp), if_neg (by simp), if_neg (by simp)]
    rw [this]
    exact sureF_fences L n
theorem long_lines (n : Nat) : linesV storesL (longL ⟨2, 5, 1⟩ n) = [0] := by
  unfold linesV
  rw [List.filter_congr (q := fun k : Nat => k == 0) (fun k _ => by
    rw [longL_any]
    have : lineT ⟨2, 5, 1⟩ = 0 := by decide
    rw [this]
    simp [storesL, Bool.beq_eq_decide_eq]
    omega)]
  decide +kernel
/-- With a store ahead: a flush and a fence more. -/
theorem long_store (n : Nat) (hn : n + 1 ≤ 4096) : closedE (longL ⟨2, 5, 1⟩ n) = (if 4096 < n + 3 then 3 else 0) ∧ closedV (longL ⟨2, 5, 1⟩ n) = if 4096 < n + 3 then [] else longL ⟨2, 5, 1⟩ n ++ [⟨3, 0, 0⟩, ⟨4, 0, 0⟩] := by
  have hc : checkT (longL ⟨2, 5, 1⟩ n) = 0 := by rw [longL_check n rfl, if_neg (by omega)]
  have hs : sureV (longL ⟨2, 5, 1⟩ n) 0 = false := by
    rw [sureV_fold]
    have : sureF 0 0 (longL ⟨2, 5, 1⟩ n) = 1 := by
      show sureF 0 (sureStep 0 0 ⟨2, 5, 1⟩) _ = 1
      have : sureStep 0 0 ⟨2, 5, 1⟩ = 1 := by decide
      rw [this]
      exact sureF_fences 0 n
    rw [this]
    rfl
  have ho : orderR (longL ⟨2, 5, 1⟩ n) = false := by
    unfold orderR
    rw [long_lines, List.all_cons, show ((0 : Nat) : Int) = 0 from rfl, hs]
    rfl
  obtain ⟨h1, h2⟩ := closed_same hc
  have hcl : closeV (longL ⟨2, 5, 1⟩ n) = [⟨3, 0, 0⟩, ⟨4, 0, 0⟩] := by
    unfold closeV
    rw [long_lines]
    rfl
  have hlen : (longL ⟨2, 5, 1⟩ n ++ closeV (longL ⟨2, 5, 1⟩ n)).length = n + 3 := by rw [hcl, List.length_append, longL_length]; rfl
  rw [h1, h2]
  unfold closedRE closedR
  rw [ho, hlen, hcl]
  exact ⟨rfl, rfl⟩
theorem long_more (t : Tch) (n : Nat) (h : rightT t = true) (hn : 4096 < n + 1) : closedE (longL t n) = 3 ∧ closedV (longL t n) = [] := by
  have hc : checkT (longL t n) = 3 := by rw [longL_check n h, if_pos hn]
  have e : closedE (longL t n) = 3 := by unfold closedE; rw [hc]; rfl
  refine ⟨e, ?_⟩
  unfold closedV
  rw [e]
  rfl
/-- What is asked. -/
def longW (m : Int) (s : Bool) : Int := if 0 < m ∨ (s = true ∧ -2 < m) then 3 else 0
theorem long_ends (m : Int) (s : Bool) (n : Nat) (hm : (n : Int) = 4095 + m) (_h1 : -3 ≤ m) : closedE (longL (if s then ⟨2, 5, 1⟩ else ⟨1, 5, 0⟩) n) = longW m s ∧ (0 < (closedV (longL (if s then ⟨2, 5, 1⟩ else ⟨1, 5, 0⟩) n)).length ↔ longW m s = 0) := by
  by_cases h0 : 0 < m
  · have hw : longW m s = 3 := by unfold longW; rw [if_pos (.inl h0)]
    have hr : rightT (if s then (⟨2, 5, 1⟩ : Tch) else ⟨1, 5, 0⟩) = true := by cases s <;> rfl
    obtain ⟨e1, e2⟩ := long_more _ n hr (by omega)
    rw [e1, e2, hw]
    simp
  · cases s with
    | false =>
      have hw : longW m false = 0 := by unfold longW; rw [if_neg (by simp; omega)]
      obtain ⟨e1, e2⟩ := long_load n (by omega)
      simp only [Bool.false_eq_true, if_false]
      rw [e1, e2, longL_length, hw]
      simp
    | true =>
      obtain ⟨e1, e2⟩ := long_store n (by omega)
      simp only [if_true]
      by_cases h2 : -2 < m
      · have hw : longW m true = 3 := by unfold longW; rw [if_pos (by simp; omega)]
        have h3 : 4096 < n + 3 := by omega
        rw [if_pos h3] at e1 e2
        rw [e1, e2, hw]
        simp
      · have hw : longW m true = 0 := by unfold longW; rw [if_neg (by simp; omega)]
        have h3 : ¬ 4096 < n + 3 := by omega
        rw [if_neg h3] at e1 e2
        rw [e1, e2, hw, List.length_append, longL_length]
        simp
set_option maxRecDepth 100000 in
set_option maxHeartbeats 8000000 in
theorem long5_main (m : Int) (s : Bool) (h1 : -3 ≤ m) (h2 : m ≤ 2) (w : World) :
    Calls Try.prog 6 #[.int .i64 m, .bool s] w fun e w' => e = .returned (.bool true) ∧ Below w.heap.size w w' := by
  have HW := Lib.hid works5_any
  have HNU := Lib.hid num5_any
  obtain ⟨i0, hi, hz0, hz1, hz2⟩ := info_of infoT
  have HII := Lib.hid hi
  obtain ⟨n, hn⟩ : ∃ n : Nat, (n : Int) = 4095 + m := ⟨(4095 + m).toNat, by omega⟩
  have hwr : IntKind.i64.wrap (4096 + m) = ((n + 1 : Nat) : Int) := by
    rw [show 4096 + m = ((n + 1 : Nat) : Int) by omega]
    exact IntWalk.i64_in _ (by omega)
  have g1 : ¬ m < -3 := by omega
  have g2 : ¬ 2 < m := by omega
  have hn2 : n ≤ 4097 := by omega
  clear hi
  go_enter Try.func6, Try.ntmps6
  go_wp2_with fail
  go_loopw [5, 6] (fun o i wr => ∃ k : Nat, k ≤ n + 1 ∧ i = .int .i64 (k : Nat) ∧ Hid (wr.ownsRow w.heap.size 32 3 o k (flatC cT (List.replicate k ⟨4, 0, 0⟩))) ∧ Hid (Below w.heap.size w wr)) (fun _ i _ => n + 1 - (intOf i).toNat)
  case atStart => exact ⟨0, by omega, rfl, (show World.ownsRow _ _ _ _ _ _ _ from World.ownsRow_nil _ _ _ _), (show Below _ _ _ from Below.refl _ _)⟩
  case round =>
    obtain ⟨k, hk, rfl, HR, HB⟩ := hrel
    have hsl := own_slice2 HR.out
    obtain ⟨oa, oc, rfl⟩ := hsl
    by_cases hlt : k < n + 1
    · have k2 : (k : Int) < ((n + 1 : Nat) : Int) := by omega
      have HF := Lib.hid (fenceL_any wr)
      go_wp2_with fail
      refine HF.out.mono ?_
      rintro e w1 ⟨rfl, hb1⟩
      have hbx : Below w1.heap.size w1 (w1.alloc (.cells #[.int .i64 4, .int .i64 0, .int .u64 0] 32)) := (Below.refl _ _).alloc (Nat.le_refl _) _
      have HRX : Hid ((w1.alloc (.cells #[.int .i64 4, .int .i64 0, .int .u64 0] 32)).ownsRow w.heap.size 32 3 (.slice oa k oc) k (flatC cT (List.replicate k ⟨4, 0, 0⟩))) := show World.ownsRow _ _ _ _ _ _ _ from own_row_below (own_row_below HR.out hb1) hbx
      have HVX := Lib.hid (vec_touch w1 (.int .i64 4) (.int .i64 0) (.int .u64 0))
      have HBX : Hid (Below w.heap.size w (w1.alloc (.cells #[.int .i64 4, .int .i64 0, .int .u64 0] 32))) := show Below _ _ _ from (HB.out.trans (hb1.mono HB.out.size)).trans (hbx.mono (Nat.le_trans HB.out.size hb1.size))
      have hsz : w.heap.size ≤ (w1.alloc (.cells #[.int .i64 4, .int .i64 0, .int .u64 0] 32)).heap.size := HBX.out.size
      clear hbx hb1
      go_wp2_with (at_builtin; refine park ?_)
      unfold Park
      refine wpList_append_vec rfl _ _ 22 rfl 32 i0 _ 3 24 Try.underlying22 HII.out hz0 hz1 hz2 rfl (by decide) w.heap.size _ _ k 1 _ _ rfl rfl (.inr HRX.out) HVX.out (one_touch _ _ _) (by omega) (by omega) hsz ?_
      rintro v2 w2 - t2 ⟨-, -, r2⟩
      have HR2 : Hid (w2.ownsRow w.heap.size 32 3 v2 (k + 1) (flatC cT (List.replicate (k + 1) ⟨4, 0, 0⟩))) := show World.ownsRow _ _ _ _ _ _ _ by
        have h := r2 HRX.out
        rw [List.replicate_succ', flatC_append, flatC_one]
        exact h
      have HB2 : Hid (Below w.heap.size w w2) := show Below _ _ _ from HBX.out.trans t2
      clear t2 r2 hsz
      go_wp2_with fail
      go_roundw
      case rel => exact ⟨k + 1, by omega, by go_num, HR2, HB2⟩
      case measure => simp [intOf]; omega
    · obtain rfl : k = n + 1 := by omega
      have k2 : ¬ ((n + 1 : Nat) : Int) < ((n + 1 : Nat) : Int) := by omega
      have hrow := HR.out
      obtain ⟨g, gc, e0⟩ := ownsRow_succ hrow
      simp only [Value.slice.injEq, true_and] at e0
      obtain ⟨rfl, rfl⟩ := e0
      have hgl := hrow.lt g rfl
      have HGL := Lib.hid hgl
      have hr0 : wr.ownsRow w.heap.size 32 3 (.slice (some ⟨g, 0, none⟩) (n + 1) oc) (n + 1) (flatC cT (longL ⟨4, 0, 0⟩ n)) := hrow
      have f0 : wr.frozen? ⟨g, 0, none⟩ = false := own_frozenS hr0
      have f1 : wr.frozen? ⟨g, 1, none⟩ = false := own_frozenS hr0
      have f2 : wr.frozen? ⟨g, 2, none⟩ = false := own_frozenS hr0
      have c0 : wr.cell? ⟨g, 0, none⟩ = some (.int .i64 4) := World.ownsRow.cellAt hr0 0 (by omega)
      have c1 : wr.cell? ⟨g, 1, none⟩ = some (.int .i64 0) := World.ownsRow.cellAt hr0 1 (by omega)
      have c2 : wr.cell? ⟨g, 2, none⟩ = some (.int .u64 0) := World.ownsRow.cellAt hr0 2 (by omega)
      have hr1 := own_setS (j := 2) (own_setS (j := 1) (own_setS (j := 0) hr0 (.int .i64 1)) (.int .i64 5)) (.int .u64 0)
      rw [longL_set] at hr1
      have HB1 : Hid (Below w.heap.size w (((wr.setCell ⟨g, 0, none⟩ (.int .i64 1)).setCell ⟨g, 1, none⟩ (.int .i64 5)).setCell ⟨g, 2, none⟩ (.int .u64 0))) := show Below _ _ _ from
        ((HB.out.setCell (p := ⟨g, 0, none⟩) hgl.1 _).setCell (p := ⟨g, 1, none⟩) hgl.1 _).setCell (p := ⟨g, 2, none⟩) hgl.1 _
      obtain ⟨w1, hw1⟩ : ∃ w1, (((wr.setCell ⟨g, 0, none⟩ (.int .i64 1)).setCell ⟨g, 1, none⟩ (.int .i64 5)).setCell ⟨g, 2, none⟩ (.int .u64 0)) = w1 := ⟨_, rfl⟩
      rw [hw1] at hr1 HB1
      have HR1 := Lib.hid hr1
      have HW1 := Lib.hid hw1
      clear hrow hr0 hr1 hgl hw1
      have HZE := Lib.hid (long_ends m s n hn h1)
      cases s with
      | false =>
        simp only [Bool.false_eq_true, if_false] at HZE
        have HS : Hid (SlT w1 (.slice (some ⟨g, 0, none⟩) (n + 1) oc) (longL ⟨1, 5, 0⟩ n)) := show SlT _ _ _ from slT_of_vec (by rw [longL_length]; exact vec_of_own HR1.out)
        have HOK : Hid (∀ t ∈ longL ⟨1, 5, 0⟩ n, okT t) := show ∀ t ∈ longL ⟨1, 5, 0⟩ n, okT t from longL_ok n ⟨⟨by show (-9223372036854775808 : Int) ≤ 5; omega, by show (5 : Int) ≤ _; omega⟩, by decide⟩
        have HLN := Lib.hid (longL_length ⟨1, 5, 0⟩ n)
        have HCL := Lib.hid (closed_any w1 (by rw [HLN.out]; omega) HOK.out HS.out)
        have HCK := Lib.hid (fun W (hb : Below w1.heap.size w1 W) => checkT_any W (by rw [HLN.out]; omega) (HS.out.below hb))
        have HRC := Lib.hid (fun W (hb : Below w1.heap.size w1 W) => refCheck_any W (by rw [HLN.out]; omega) (HS.out.below hb))
        rw [HZE.out.1] at HCL
        go_wp2_with fail
        clear f0 f1 f2 c0 c1 c2
        rw [HW1.out]
        refine HCL.out.mono ?_
        rintro e w4 ⟨u, rfl, hr, hb4⟩
        have hsl : ∃ a c, u = .slice a (closedV (longL ⟨1, 5, 0⟩ n)).length c := GrowB.slice hr
        obtain ⟨ua, uc, rfl⟩ := hsl
        have HB4 := Lib.hid hb4
        have HZL := Lib.hid HZE.out.2
        obtain ⟨J, hJ⟩ : ∃ J, (closedV (longL ⟨1, 5, 0⟩ n)).length = J := ⟨_, rfl⟩
        obtain ⟨C, hC⟩ : ∃ C, checkT (longL ⟨1, 5, 0⟩ n) = C := ⟨_, rfl⟩
        rw [hJ] at HZL ⊢
        rw [hC] at HCK HRC
        have hcc : (C == C) = true := by simp
        clear hr hb4 hJ hC
        by_cases h0 : 0 < m
        · have hlw : longW m false = 3 := by unfold longW; rw [if_pos (by simp; omega)]
          rw [hlw] at HZL ⊢
          have hJ : ¬ (0 : Int) < (J : Int) := by have := HZL.out; omega
          go_wp2_with fail
          refine (HCK.out w4 HB4.out).mono ?_
          rintro e w5 ⟨rfl, hb5⟩
          have HB5 : Hid (Below w1.heap.size w1 w5) := show Below _ _ _ from HB4.out.trans (hb5.mono HB4.out.size)
          clear hb5
          go_wp2_with fail
          refine (HNU.out C w5).mono ?_
          rintro e w6 ⟨rfl, hw⟩
          rw [hw]
          clear hw w6
          go_wp2_with fail
          refine (HRC.out w5 HB5.out).mono ?_
          rintro e w6 ⟨rfl, hb6⟩
          have HB6 : Hid (Below w1.heap.size w1 w6) := show Below _ _ _ from HB5.out.trans (hb6.mono HB5.out.size)
          clear hb6
          go_wp2_with fail
          refine (HNU.out 3 w6).mono ?_
          rintro e w7 ⟨rfl, hw⟩
          rw [hw]
          clear hw w7
          go_wp2_with fail
          refine (HW.out w6).mono ?_
          rintro e w8 ⟨rfl, hb8⟩
          go_wp2_with fail
          go_ret
          exact ⟨rfl, HB1.out.trans ((HB6.out.trans (hb8.mono HB6.out.size)).mono HB1.out.size)⟩
        · have hlw : longW m false = 0 := by unfold longW; rw [if_neg (by simp; omega)]
          rw [hlw] at HZL ⊢
          have hJ : (0 : Int) < (J : Int) := by have := HZL.out; omega
          go_wp2_with fail
          refine (HCK.out w4 HB4.out).mono ?_
          rintro e w5 ⟨rfl, hb5⟩
          have HB5 : Hid (Below w1.heap.size w1 w5) := show Below _ _ _ from HB4.out.trans (hb5.mono HB4.out.size)
          clear hb5
          go_wp2_with fail
          refine (HNU.out C w5).mono ?_
          rintro e w6 ⟨rfl, hw⟩
          rw [hw]
          clear hw w6
          go_wp2_with fail
          refine (HRC.out w5 HB5.out).mono ?_
          rintro e w6 ⟨rfl, hb6⟩
          have HB6 : Hid (Below w1.heap.size w1 w6) := show Below _ _ _ from HB5.out.trans (hb6.mono HB5.out.size)
          clear hb6
          go_wp2_with fail
          refine (HNU.out 0 w6).mono ?_
          rintro e w7 ⟨rfl, hw⟩
          rw [hw]
          clear hw w7
          go_wp2_with fail
          refine (HW.out w6).mono ?_
          rintro e w8 ⟨rfl, hb8⟩
          go_wp2_with fail
          go_ret
          exact ⟨rfl, HB1.out.trans ((HB6.out.trans (hb8.mono HB6.out.size)).mono HB1.out.size)⟩
      | true =>
        simp only [if_true] at HZE
        have HSL := Lib.hid (storeL_any 5 1)
        go_wp2_with fail
        clear f0 f1 f2 c0 c1 c2
        rw [HW1.out]
        refine (HSL.out w1).mono ?_
        rintro e w2 ⟨rfl, hb2⟩
        have hr0 := own_row_below HR1.out hb2
        have hg2 := hr0.lt g rfl
        have f0 : w2.frozen? ⟨g, 0, none⟩ = false := own_frozenS hr0
        have f1 : w2.frozen? ⟨g, 1, none⟩ = false := own_frozenS hr0
        have f2 : w2.frozen? ⟨g, 2, none⟩ = false := own_frozenS hr0
        have c0 : w2.cell? ⟨g, 0, none⟩ = some (.int .i64 1) := World.ownsRow.cellAt hr0 0 (by omega)
        have c1 : w2.cell? ⟨g, 1, none⟩ = some (.int .i64 5) := World.ownsRow.cellAt hr0 1 (by omega)
        have c2 : w2.cell? ⟨g, 2, none⟩ = some (.int .u64 0) := World.ownsRow.cellAt hr0 2 (by omega)
        have hr1 := own_setS (j := 2) (own_setS (j := 1) (own_setS (j := 0) hr0 (.int .i64 2)) (.int .i64 5)) (.int .u64 1)
        rw [longL_set] at hr1
        have HB3 : Hid (Below w.heap.size w (((w2.setCell ⟨g, 0, none⟩ (.int .i64 2)).setCell ⟨g, 1, none⟩ (.int .i64 5)).setCell ⟨g, 2, none⟩ (.int .u64 1))) := show Below _ _ _ from
          (((HB1.out.trans (hb2.mono HB1.out.size)).setCell (p := ⟨g, 0, none⟩) hg2.1 _).setCell (p := ⟨g, 1, none⟩) hg2.1 _).setCell (p := ⟨g, 2, none⟩) hg2.1 _
        obtain ⟨w3, hw3⟩ : ∃ w3, (((w2.setCell ⟨g, 0, none⟩ (.int .i64 2)).setCell ⟨g, 1, none⟩ (.int .i64 5)).setCell ⟨g, 2, none⟩ (.int .u64 1)) = w3 := ⟨_, rfl⟩
        rw [hw3] at hr1 HB3
        have HR3 := Lib.hid hr1
        have HW3 := Lib.hid hw3
        clear hr0 hr1 hg2 hw3 hb2
        have HS : Hid (SlT w3 (.slice (some ⟨g, 0, none⟩) (n + 1) oc) (longL ⟨2, 5, 1⟩ n)) := show SlT _ _ _ from slT_of_vec (by rw [longL_length]; exact vec_of_own HR3.out)
        have HOK : Hid (∀ t ∈ longL ⟨2, 5, 1⟩ n, okT t) := show ∀ t ∈ longL ⟨2, 5, 1⟩ n, okT t from longL_ok n ⟨⟨by show (-9223372036854775808 : Int) ≤ 5; omega, by show (5 : Int) ≤ _; omega⟩, by decide⟩
        have HLN := Lib.hid (longL_length ⟨2, 5, 1⟩ n)
        have HCL := Lib.hid (closed_any w3 (by rw [HLN.out]; omega) HOK.out HS.out)
        have HCK := Lib.hid (fun W (hb : Below w3.heap.size w3 W) => checkT_any W (by rw [HLN.out]; omega) (HS.out.below hb))
        have HRC := Lib.hid (fun W (hb : Below w3.heap.size w3 W) => refCheck_any W (by rw [HLN.out]; omega) (HS.out.below hb))
        rw [HZE.out.1] at HCL
        go_wp2_with fail
        clear f0 f1 f2 c0 c1 c2
        rw [HW3.out]
        refine HCL.out.mono ?_
        rintro e w4 ⟨u, rfl, hr, hb4⟩
        have hsl : ∃ a c, u = .slice a (closedV (longL ⟨2, 5, 1⟩ n)).length c := GrowB.slice hr
        obtain ⟨ua, uc, rfl⟩ := hsl
        have HB4 := Lib.hid hb4
        have HZL := Lib.hid HZE.out.2
        obtain ⟨J, hJ⟩ : ∃ J, (closedV (longL ⟨2, 5, 1⟩ n)).length = J := ⟨_, rfl⟩
        obtain ⟨C, hC⟩ : ∃ C, checkT (longL ⟨2, 5, 1⟩ n) = C := ⟨_, rfl⟩
        rw [hJ] at HZL ⊢
        rw [hC] at HCK HRC
        have hcc : (C == C) = true := by simp
        clear hr hb4 hJ hC
        by_cases h0 : 0 < m
        · have hlw : longW m true = 3 := by unfold longW; rw [if_pos (by simp; omega)]
          rw [hlw] at HZL ⊢
          have hJ : ¬ (0 : Int) < (J : Int) := by have := HZL.out; omega
          go_wp2_with fail
          refine (HCK.out w4 HB4.out).mono ?_
          rintro e w5 ⟨rfl, hb5⟩
          have HB5 : Hid (Below w3.heap.size w3 w5) := show Below _ _ _ from HB4.out.trans (hb5.mono HB4.out.size)
          clear hb5
          go_wp2_with fail
          refine (HNU.out C w5).mono ?_
          rintro e w6 ⟨rfl, hw⟩
          rw [hw]
          clear hw w6
          go_wp2_with fail
          refine (HRC.out w5 HB5.out).mono ?_
          rintro e w6 ⟨rfl, hb6⟩
          have HB6 : Hid (Below w3.heap.size w3 w6) := show Below _ _ _ from HB5.out.trans (hb6.mono HB5.out.size)
          clear hb6
          go_wp2_with fail
          refine (HNU.out 3 w6).mono ?_
          rintro e w7 ⟨rfl, hw⟩
          rw [hw]
          clear hw w7
          go_wp2_with fail
          refine (HW.out w6).mono ?_
          rintro e w8 ⟨rfl, hb8⟩
          go_wp2_with fail
          go_ret
          exact ⟨rfl, HB3.out.trans ((HB6.out.trans (hb8.mono HB6.out.size)).mono HB3.out.size)⟩
        · by_cases h3 : -2 < m
          · have hlw : longW m true = 3 := by unfold longW; rw [if_pos (by simp; omega)]
            rw [hlw] at HZL ⊢
            have hJ : ¬ (0 : Int) < (J : Int) := by have := HZL.out; omega
            go_wp2_with fail
            refine (HCK.out w4 HB4.out).mono ?_
            rintro e w5 ⟨rfl, hb5⟩
            have HB5 : Hid (Below w3.heap.size w3 w5) := show Below _ _ _ from HB4.out.trans (hb5.mono HB4.out.size)
            clear hb5
            go_wp2_with fail
            refine (HNU.out C w5).mono ?_
            rintro e w6 ⟨rfl, hw⟩
            rw [hw]
            clear hw w6
            go_wp2_with fail
            refine (HRC.out w5 HB5.out).mono ?_
            rintro e w6 ⟨rfl, hb6⟩
            have HB6 : Hid (Below w3.heap.size w3 w6) := show Below _ _ _ from HB5.out.trans (hb6.mono HB5.out.size)
            clear hb6
            go_wp2_with fail
            refine (HNU.out 3 w6).mono ?_
            rintro e w7 ⟨rfl, hw⟩
            rw [hw]
            clear hw w7
            go_wp2_with fail
            refine (HW.out w6).mono ?_
            rintro e w8 ⟨rfl, hb8⟩
            go_wp2_with fail
            go_ret
            exact ⟨rfl, HB3.out.trans ((HB6.out.trans (hb8.mono HB6.out.size)).mono HB3.out.size)⟩
          · have hlw : longW m true = 0 := by unfold longW; rw [if_neg (by simp; omega)]
            rw [hlw] at HZL ⊢
            have hJ : (0 : Int) < (J : Int) := by have := HZL.out; omega
            go_wp2_with fail
            refine (HCK.out w4 HB4.out).mono ?_
            rintro e w5 ⟨rfl, hb5⟩
            have HB5 : Hid (Below w3.heap.size w3 w5) := show Below _ _ _ from HB4.out.trans (hb5.mono HB4.out.size)
            clear hb5
            go_wp2_with fail
            refine (HNU.out C w5).mono ?_
            rintro e w6 ⟨rfl, hw⟩
            rw [hw]
            clear hw w6
            go_wp2_with fail
            refine (HRC.out w5 HB5.out).mono ?_
            rintro e w6 ⟨rfl, hb6⟩
            have HB6 : Hid (Below w3.heap.size w3 w6) := show Below _ _ _ from HB5.out.trans (hb6.mono HB5.out.size)
            clear hb6
            go_wp2_with fail
            refine (HNU.out 0 w6).mono ?_
            rintro e w7 ⟨rfl, hw⟩
            rw [hw]
            clear hw w7
            go_wp2_with fail
            refine (HW.out w6).mono ?_
            rintro e w8 ⟨rfl, hb8⟩
            go_wp2_with fail
            go_ret
            exact ⟨rfl, HB3.out.trans ((HB6.out.trans (hb8.mono HB6.out.size)).mono HB3.out.size)⟩
theorem long5_any (m : Int) (s : Bool) (w : World) :
    Calls Try.prog 6 #[.int .i64 m, .bool s] w fun e w' => e = .returned (.bool true) ∧ Below w.heap.size w w' := by
  have HW := Lib.hid works5_any
  by_cases h1 : m < -3
  · go_enter Try.func6, Try.ntmps6
    go_wp2_with fail
    refine (HW.out w).mono ?_
    rintro e w' ⟨rfl, hb⟩
    go_wp2_with fail
    go_ret
    exact ⟨rfl, hb⟩
  by_cases h2 : 2 < m
  · go_enter Try.func6, Try.ntmps6
    go_wp2_with fail
    refine (HW.out w).mono ?_
    rintro e w' ⟨rfl, hb⟩
    go_wp2_with fail
    go_ret
    exact ⟨rfl, hb⟩
  exact long5_main m s (by omega) (by omega) w
end Go.Proofs.Ytkpiehejkhjhlaa
