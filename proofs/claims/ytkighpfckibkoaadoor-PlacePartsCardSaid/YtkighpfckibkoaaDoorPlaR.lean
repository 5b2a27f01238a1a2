/-
  Contracts of the document's answers (waterlineref03) and of the law's same.
-/
import Derived.Test.YtkighpfckibkoaaDoorPlaN
namespace Go.Proofs.YtkighpfckibkoaaDoor
open Go.RowKit Go.Shelf

theorem right3_any (l v : Int) (w : World) :
    Calls Tryd.prog 11 #[.agg #[.int .i64 l, .int .i64 v]] w fun e w' => e = .returned (.bool (okP l v)) ∧ Below w.heap.size w w' := by
  by_cases h1 : 0 ≤ l
  · by_cases h2 : l < 1024
    · by_cases h3 : 0 ≤ v
      · have hk : okP l v = decide (v < 8) := by unfold okP; rw [decide_eq_decide]; omega
        go_enter Tryd.func11, Tryd.ntmps11
        go_wp2
        all_goals go_ret
        all_goals exact ⟨by first | rfl | (exact ret_bool (by unfold okP; apply decide_eq_decide.2; omega)), (by repeat (first | exact Below.refl _ _ | assumption | refine Below.drew ?_ | refine below_drewN ?_ _ | refine Below.alloc ?_ (by (try simp) <;> omega) _ | refine Below.setCell ?_ (by (try simp) <;> omega) _ | refine Below.trans ?_ (Below.mono (by assumption) (by (try simp) <;> omega))))⟩
      · have hk : okP l v = false := by unfold okP; rw [decide_eq_false_iff_not]; omega
        go_enter Tryd.func11, Tryd.ntmps11
        go_wp2
        all_goals go_ret
        all_goals exact ⟨by first | rfl | (exact ret_bool (by unfold okP; apply decide_eq_decide.2; omega)), (by repeat (first | exact Below.refl _ _ | assumption | refine Below.drew ?_ | refine below_drewN ?_ _ | refine Below.alloc ?_ (by (try simp) <;> omega) _ | refine Below.setCell ?_ (by (try simp) <;> omega) _ | refine Below.trans ?_ (Below.mono (by assumption) (by (try simp) <;> omega))))⟩
    · have hk : okP l v = false := by unfold okP; rw [decide_eq_false_iff_not]; omega
      go_enter Tryd.func11, Tryd.ntmps11
      go_wp2
      all_goals go_ret
      all_goals exact ⟨by first | rfl | (exact ret_bool (by unfold okP; apply decide_eq_decide.2; omega)), (by repeat (first | exact Below.refl _ _ | assumption | refine Below.drew ?_ | refine below_drewN ?_ _ | refine Below.alloc ?_ (by (try simp) <;> omega) _ | refine Below.setCell ?_ (by (try simp) <;> omega) _ | refine Below.trans ?_ (Below.mono (by assumption) (by (try simp) <;> omega))))⟩
  · have hk : okP l v = false := by unfold okP; rw [decide_eq_false_iff_not]; omega
    go_enter Tryd.func11, Tryd.ntmps11
    go_wp2
    all_goals go_ret
    all_goals exact ⟨by first | rfl | (exact ret_bool (by unfold okP; apply decide_eq_decide.2; omega)), (by repeat (first | exact Below.refl _ _ | assumption | refine Below.drew ?_ | refine below_drewN ?_ _ | refine Below.alloc ?_ (by (try simp) <;> omega) _ | refine Below.setCell ?_ (by (try simp) <;> omega) _ | refine Below.trans ?_ (Below.mono (by assumption) (by (try simp) <;> omega))))⟩
theorem there3_any (n : Int) (w : World) :
    Calls Tryd.prog 14 #[.int .i64 n] w fun e w' => e = .returned (.bool (decide (0 ≤ n ∧ n < 8192))) ∧ w = w' := by
  by_cases h1 : 0 ≤ n
  · go_enter Tryd.func14, Tryd.ntmps14
    go_wp2
    all_goals go_ret
    all_goals exact ⟨by first | rfl | (exact ret_bool (by rw [eq_comm, decide_eq_false_iff_not]; omega)) | (exact ret_bool (by apply decide_eq_decide.2; omega)) | (exact ret_bool (by rw [decide_eq_false (show ¬ 0 ≤ n by omega)]; rfl)) | (exact ret_bool (by rw [decide_eq_true h1]; rfl)), rfl⟩
  · go_enter Tryd.func14, Tryd.ntmps14
    go_wp2
    all_goals go_ret
    all_goals exact ⟨by first | rfl | (exact ret_bool (by rw [eq_comm, decide_eq_false_iff_not]; omega)) | (exact ret_bool (by apply decide_eq_decide.2; omega)) | (exact ret_bool (by rw [decide_eq_false (show ¬ 0 ≤ n by omega)]; rfl)) | (exact ret_bool (by rw [decide_eq_true h1]; rfl)), rfl⟩
theorem address3_any (l v : Int) (h : okP l v = true) (w : World) :
    Calls Tryd.prog 13 #[.agg #[.int .i64 l, .int .i64 v]] w fun e w' => e = .returned (.int .i64 (8 * l + v)) ∧ Below w.heap.size w w' := by
  have o := okP_iff.1 h
  go_enter Tryd.func13, Tryd.ntmps13
  go_wp2
  go_ret
  exact ⟨rfl, (by repeat (first | exact Below.refl _ _ | assumption | refine Below.drew ?_ | refine below_drewN ?_ _ | refine Below.alloc ?_ (by (try simp) <;> omega) _ | refine Below.setCell ?_ (by (try simp) <;> omega) _ | refine Below.trans ?_ (Below.mono (by assumption) (by (try simp) <;> omega))))⟩
theorem at3_any (n : Int) (h : 0 ≤ n ∧ n < 8192) (w : World) :
    Calls Tryd.prog 16 #[.int .i64 n] w fun e w' => e = .returned (.agg #[.int .i64 (n / 8), .int .i64 (n % 8)]) ∧ Below w.heap.size w w' := by
  have e1 : n.tdiv 8 = n / 8 := Int.tdiv_eq_ediv_of_nonneg h.1
  have e2 : n.tmod 8 = n % 8 := Int.tmod_eq_emod_of_nonneg h.1
  go_enter Tryd.func16, Tryd.ntmps16
  go_wp2
  refine bodyPost_ret (v := .agg #[.int .i64 (n / 8), .int .i64 (n % 8)]) (by simp [results, Tryd.results16, go_sem]) rfl ⟨rfl, (by repeat (first | exact Below.refl _ _ | assumption | refine Below.drew ?_ | refine below_drewN ?_ _ | refine Below.alloc ?_ (by (try simp) <;> omega) _ | refine Below.setCell ?_ (by (try simp) <;> omega) _ | refine Below.trans ?_ (Below.mono (by assumption) (by (try simp) <;> omega))))⟩
theorem places_at (l v : Int) (k : Nat) (hk : k < roomN l v) : (places l v)[k]?.getD (0, 0) = cur l v k := by
  unfold places
  rw [List.getElem?_map, List.getElem?_range hk]; rfl
theorem runP_len (l v many : Int) : (runP l v many).length = min many.toNat (roomN l v) := by unfold runP; rw [List.length_take, places_len]
set_option maxHeartbeats 4000000 in
theorem refRun_any (l v many : Int) (hm1 : -9223372036854775808 ≤ many) (hm2 : many ≤ 9223372036854775807) (w : World) :
    Calls Tryd.prog 19 #[.agg #[.int .i64 l, .int .i64 v], .int .i64 many] w fun e w' => ∃ r, e = .returned r ∧ w'.ownsRow w.heap.size 23 2 r (runP l v many).length (cellsP (runP l v many)) ∧ Below w.heap.size w w' := by
  obtain ⟨i0, hi, hz0, hz1, hz2⟩ := info_parts infoP
  cases hok : okP l v with
  | false =>
    have HL : Hid (runP l v many = []) := show _ = _ by unfold runP places roomN; rw [hok]; simp
    have HOK := Lib.hid hok
    rw [HL.out]
    clear hok
    go_enter Tryd.func19, Tryd.ntmps19
    go_wp2_with fail
    refine (right3_any l v _).mono ?_
    rintro e w1 ⟨rfl, hb1⟩
    rw [HOK.out]
    go_wp2_with fail
    go_ret
    exact ⟨_, rfl, World.ownsRow_nil _ _ _ _, (by repeat (first | exact Below.refl _ _ | assumption | refine Below.drew ?_ | refine below_drewN ?_ _ | refine Below.alloc ?_ (by (try simp) <;> omega) _ | refine Below.setCell ?_ (by (try simp) <;> omega) _ | refine Below.trans ?_ (Below.mono (by assumption) (by (try simp) <;> omega))))⟩
  | true =>
    have HOK := Lib.hid hok
    have o := okP_iff.1 hok
    have hA : ∃ A : Nat, 8 * l + v = A := ⟨(8 * l + v).toNat, by omega⟩
    obtain ⟨A, hA⟩ := hA
    have hrm : A + roomN l v = 8192 := by unfold roomN; rw [hok]; simp; omega
    have HAD := Lib.hid (address3_any l v hok)
    rw [hA] at HAD
    have HA := Lib.hid hA
    obtain ⟨L, hL⟩ : ∃ L, runP l v many = L := ⟨_, rfl⟩
    rw [hL]
    have HL := Lib.hid hL
    have HRM := Lib.hid hrm
    clear hok o hA hL hrm
    go_enter Tryd.func19, Tryd.ntmps19
    go_wp2_with fail
    refine (right3_any l v _).mono ?_
    rintro e w1 ⟨rfl, hb1⟩
    rw [HOK.out]
    have z1 := hb1.size; try simp at z1
    have jP : Box2 w1 w.heap.size 23 l v := (Box2.new w 23 l v).below hb1 (by simp)
    have b1 : Below w.heap.size w w1 := (by repeat (first | exact Below.refl _ _ | assumption | refine Below.drew ?_ | refine below_drewN ?_ _ | refine Below.alloc ?_ (by (try simp) <;> omega) _ | refine Below.setCell ?_ (by (try simp) <;> omega) _ | refine Below.trans ?_ (Below.mono (by assumption) (by (try simp) <;> omega))))
    clear hb1
    have p0 := jP.cell0
    have p1 := jP.cell1
    go_wp2_with fail
    refine (HAD.out _).mono ?_
    rintro e w2 ⟨rfl, hb2⟩
    have b2 : Below w.heap.size w w2 := b1.trans (hb2.mono (by omega))
    clear hb2 b1 p0 p1 jP
    have hbs := b2.size
    go_wp2_with fail
    go_loopw [5, 6] (fun o i wr => ∃ k : Nat, k ≤ roomN l v ∧ (0 < k → (k : Int) ≤ many) ∧ i = .int .i64 ((A + k : Nat) : Int) ∧ wr.ownsRow w.heap.size 23 2 o k (cellsP ((places l v).take k)) ∧ Below w.heap.size w wr) (fun _ i _ => 8192 - (intOf i).toNat)
    case atStart => exact ⟨0, Nat.zero_le _, fun h => by omega, rfl, World.ownsRow_nil _ _ _ _, b2⟩
    case round =>
      obtain ⟨k, hk, hkm, rfl, hrow, hb⟩ := hrel
      have zb := hb.size
      by_cases hlt : k < roomN l v
      · by_cases hlm : (k : Int) < many
        · have hA8 : ((A + k : Nat) : Int) < 8192 := by have := HRM.out; omega
          have HTK := Lib.hid (places_take l v k hlt)
          have HCU := Lib.hid (show cur l v k = (((A + k : Nat) : Int) / 8, ((A + k : Nat) : Int) % 8) by
            unfold cur
            rw [HOK.out]
            have := HA.out
            simp only [if_true]
            rw [this]; rfl)
          have HAT := Lib.hid (at3_any ((A + k : Nat) : Int) ⟨by omega, hA8⟩)
          have hrm8 := roomN_le l v
          obtain ⟨z, hz⟩ : ∃ z, A + k = z := ⟨_, rfl⟩
          rw [hz] at HAT HCU hA8 ⊢
          have HZ := Lib.hid hz
          clear hz
          obtain ⟨a1, c1, rfl⟩ := own_slice hrow
          go_wp2_with fail
          refine (HAT.out _).mono ?_
          rintro e w3 ⟨rfl, hb3⟩
          have hrow3 := ownsRow_below hrow hb3
          have b3 : Below w.heap.size w w3 := hb.trans (hb3.mono zb)
          have z3 := b3.size
          clear hrow hb3
          go_wp2_with (at_builtin; refine park ?_)
          unfold Park
          refine wpList_append_own _ rfl _ _ 39 rfl w.heap.size 23 i0 (.agg #[.int .i64 0, .int .i64 0]) 2 16 Tryd.underlying39 hi hz0 hz1 hz2 rfl (by decide) _ k (cellsP ((places l v).take k)) rfl (hrow3.alloc _) ⟨w3.heap.size, 0, none⟩ 1 1 [.int .i64 ((z : Int) / 8), .int .i64 ((z : Int) % 8)] rfl rfl (cell_two_new _ _ _ _) (by simp [Value.oneCell']) (by unfold maxLen; omega) (by omega) (by simp; omega) ?_
          intro v4 w4 own4 grow4 _
          have b4 : Below w.heap.size w w4 := (b3.alloc z3 _).grown grow4 (by simp; omega) (fun j e => (own_lt hrow3 e).1)
          obtain ⟨g', cap', rfl⟩ := ownsRow_succ own4
          go_wp2_with fail
          go_roundw
          case rel =>
            refine ⟨k + 1, hlt, fun _ => by omega, ?_, ?_, b4⟩
            · have := HZ.out; rw [show A + (k + 1) = z + 1 by omega]; go_num
            · rw [← HTK.out, cellsP_append, HCU.out]; exact own4
          case measure => simp [intOf]; omega
        · have hA8 : ((A + k : Nat) : Int) < 8192 := by have := HRM.out; omega
          have HF : Hid (L = (places l v).take k) := show _ = _ by
            rw [← HL.out]
            unfold runP
            congr 1
            rcases Nat.eq_zero_or_pos k with h0 | h0
            · omega
            · have := hkm h0; omega
          have HN := Lib.hid (show ((places l v).take k).length = k by rw [List.length_take, places_len]; omega)
          obtain ⟨z, hz⟩ : ∃ z, A + k = z := ⟨_, rfl⟩
          rw [hz] at hA8 ⊢
          obtain ⟨a1, c1, rfl⟩ := own_slice hrow
          go_wp2_with fail
          go_ret
          exact ⟨_, rfl, by rw [HF.out, HN.out]; exact hrow, hb⟩
      · obtain rfl : k = roomN l v := by omega
        have hA8 : ¬ ((A + roomN l v : Nat) : Int) < 8192 := by have := HRM.out; omega
        have HF : Hid (L = (places l v).take (roomN l v)) := show _ = _ by
          rw [← HL.out]
          unfold runP
          rw [List.take_of_length_le (i := roomN l v) (by rw [places_len]; exact Nat.le_refl _)]
          refine List.take_of_length_le ?_
          rw [places_len]
          rcases Nat.eq_zero_or_pos (roomN l v) with h0 | h0
          · omega
          · have := hkm h0; omega
        have HN := Lib.hid (show ((places l v).take (roomN l v)).length = roomN l v by rw [List.length_take, places_len]; omega)
        obtain ⟨z, hz⟩ : ∃ z, A + roomN l v = z := ⟨_, rfl⟩
        rw [hz] at hA8 ⊢
        go_wp2_with fail
        go_ret
        exact ⟨_, rfl, by rw [HF.out, HN.out]; exact hrow, hb⟩
set_option maxHeartbeats 4000000 in
theorem refLines_any (l v many : Int) (hok : okP l v = true) (hm1 : -9223372036854775808 ≤ many) (hm2 : many ≤ 9223372036854775807) (w : World) :
    Calls Tryd.prog 24 #[.agg #[.int .i64 l, .int .i64 v], .int .i64 many] w fun e w' => ∃ r, e = .returned r ∧ w'.ownsRow w.heap.size 3 1 r (lns (8 * l + v).toNat (runP l v many).length).length (valsOf .i64 (lns (8 * l + v).toNat (runP l v many).length)) ∧ Below w.heap.size w w' := by
  obtain ⟨i0, hi, hz0, hz1, hz2⟩ := info_parts infoI
  have hpl := runP_len l v many
  have hrm := roomN_le l v
  have HCUR := Lib.hid (fun (k : Nat) (hk : k < (runP l v many).length) => show ∃ y, (runP l v many)[k]?.getD (0, 0) = (((((8 * l + v).toNat + k) / 8 : Nat) : Int), y) by
    have h1 : (runP l v many)[k]?.getD (0, 0) = cur l v k := by
      unfold runP
      rw [List.getElem?_take, if_pos (by omega)]
      exact places_at l v k (by omega)
    exact ⟨(cur l v k).2, by rw [h1, ← cur_line l v k hok]⟩)
  have hroom : (8 * l + v).toNat + roomN l v = 8192 := by
    have := okP_iff.1 hok
    unfold roomN; rw [hok]; simp; omega
  have hall : (8 * l + v).toNat + (runP l v many).length ≤ 8192 := by omega
  have hn : (runP l v many).length ≤ 8192 := by omega
  clear hpl hrm hroom
  generalize (8 * l + v).toNat = A at *
  have HRUN := Lib.hid (refRun_any l v many hm1 hm2)
  generalize runP l v many = L at *
  go_enter Tryd.func24, Tryd.ntmps24
  go_wp2_with fail
  refine (HRUN.out _).mono ?_
  rintro e w1 ⟨r, rfl, hrow1, hb1⟩
  have s1 := slP_of_own hrow1
  have b1 : Below w.heap.size w w1 := (by repeat (first | exact Below.refl _ _ | assumption | refine Below.drew ?_ | refine below_drewN ?_ _ | refine Below.alloc ?_ (by (try simp) <;> omega) _ | refine Below.setCell ?_ (by (try simp) <;> omega) _ | refine Below.trans ?_ (Below.mono (by assumption) (by (try simp) <;> omega))))
  clear hrow1 hb1
  have hbs := b1.size
  obtain ⟨a1, c1, b, off, rfl, hlc, ha1, hcells⟩ := s1.cell
  have hcur := HCUR.out
  clear s1 HCUR
  generalize hnn : L.length = n at *
  have HN := Lib.hid hnn
  have HC := Lib.hid hcells
  have HCUR := Lib.hid hcur
  clear hnn hcells hcur
  go_wp2_with fail
  go_loopw [5, 7] (fun o i wr => ∃ k : Nat, k ≤ n ∧ i = .int .i64 (k : Nat) ∧ wr.ownsRow w1.heap.size 3 1 o (lns A k).length (valsOf .i64 (lns A k)) ∧ Below w1.heap.size w1 wr) (fun _ i _ => n - (intOf i).toNat)
  case atStart => exact ⟨0, Nat.zero_le _, rfl, World.ownsRow_nil _ _ _ _, Below.refl _ _⟩
  case round =>
    obtain ⟨k, hk, rfl, hrow, hb⟩ := hrel
    have zb := hb.size
    by_cases hlt : k < n
    · obtain rfl := ha1 (by omega)
      obtain ⟨hbl, hj⟩ := HC.out (by omega)
      obtain ⟨y, hy⟩ := HCUR.out k hlt
      have c1' := (hb.cell (p := ⟨b, off + k * 2, none⟩) hbl).trans (hj k hlt).1
      rw [hy] at c1'
      dsimp only at c1'
      have hkn : (k : Int) < (n : Int) := by omega
      have hll := lns_len_le A k (by omega)
      obtain ⟨z, hzz⟩ : ∃ z, (A + k) / 8 = z := ⟨_, rfl⟩
      rw [hzz] at c1'
      have HZ := Lib.hid hzz
      have HALL := Lib.hid hall
      clear hy hj hzz hall
      rcases Nat.eq_zero_or_pos k with hp | hp
      · have hz0' : (lns A k).length = 0 := by rw [hp, lns_zero]; rfl
        have HLN := Lib.hid (show lns A (k + 1) = lns A k ++ [z] by
          have := HZ.out
          rw [hp] at this ⊢
          rw [lns_one, lns_zero, ← this]; rfl)
        obtain ⟨a2, c2, rfl⟩ := own_slice hrow
        rw [hz0'] at hrow
        have HLZ := Lib.hid hz0'
        rw [hz0']
        have HP := Lib.hid hp
        clear hp hz0'
        generalize lns A k = xs at *
        go_wp2_with fail
        go_quiet (fail)
        go_wp2_with (at_builtin; refine park ?_)
        unfold Park
        refine wpList_append_own _ rfl _ _ 41 rfl w1.heap.size 3 i0 (.int .i64 0) 1 8 Tryd.underlying41 hi hz0 hz1 hz2 rfl (by decide) _ 0 (valsOf .i64 xs) rfl (World.ownsRow.alloc (w := wr.drewN nq) hrow _) ⟨wr.heap.size, 0, none⟩ 1 1 [.int .i64 (z : Nat)] rfl rfl (cell_one_new _ _ _) (by simp [Value.oneCell']) (by unfold maxLen; omega) (by omega) (by simp; omega) ?_
        intro v4 w4 own4 grow4 _
        have b4 : Below w1.heap.size w1 w4 := ((below_drewN hb nq).alloc zb _).grown grow4 (by simp; omega) (fun j e => (own_lt hrow e).1)
        obtain ⟨g', cap', rfl⟩ := ownsRow_succ own4
        go_wp2_with fail
        go_roundw
        case rel =>
          refine ⟨k + 1, hlt, by go_num, ?_, b4⟩
          rw [HLN.out, valsOf_append, List.length_append, HLZ.out]
          exact own4
        case measure => simp [intOf]; omega
      · have hlast := lns_last A k hp
        have hne : 0 < (lns A k).length := by rw [lns_len]; unfold lnsN; rw [if_neg (by omega)]; omega
        obtain ⟨g, cap, hv', hg1, hg2, hcap⟩ := own_form hrow hne
        subst hv'
        have hcell := own_cell hrow ((lns A k).length - 1) (by omega)
        rw [hlast] at hcell
        have HSAME := Lib.hid (lns_same A k hp)
        have HMORE := Lib.hid (lns_more A k hp)
        rw [HZ.out] at HSAME HMORE
        generalize lns A k = xs at *
        obtain ⟨m, hm'⟩ : ∃ m, xs.length = m + 1 := ⟨xs.length - 1, by omega⟩
        have HXM := Lib.hid hm'
        rw [hm'] at hrow hcell hcap hll ⊢
        rw [show m + 1 - 1 = m from rfl] at hcell
        obtain ⟨y0, hy0⟩ : ∃ y0, (A + k - 1) / 8 = y0 := ⟨_, rfl⟩
        rw [hy0] at hcell HSAME HMORE
        have HY := Lib.hid (show y0 ≤ z by have := HZ.out; omega)
        have HP := Lib.hid hp
        clear hp hlast hne hm' hy0
        have hd0 : ((m : Int) + 1 == 0) = false := beq_eq_false_iff_ne.2 (by omega)
        by_cases hlt2 : y0 < z
        · have hltI : ((y0 : Int) != (z : Int)) = true := bne_iff_ne.2 (by omega)
          go_wp2_with fail
          go_quiet (fail)
          go_wp2_with (at_builtin; refine park ?_)
          unfold Park
          refine wpList_append_own _ rfl _ _ 41 rfl w1.heap.size 3 i0 (.int .i64 0) 1 8 Tryd.underlying41 hi hz0 hz1 hz2 rfl (by decide) _ (m + 1) (valsOf .i64 xs) rfl (World.ownsRow.alloc (w := wr.drewN nq) hrow _) ⟨wr.heap.size, 0, none⟩ 1 1 [.int .i64 (z : Nat)] rfl rfl (cell_one_new _ _ _) (by simp [Value.oneCell']) (by unfold maxLen; omega) (by omega) (by simp; omega) ?_
          intro v4 w4 own4 grow4 _
          have b4 : Below w1.heap.size w1 w4 := ((below_drewN hb nq).alloc zb _).grown grow4 (by simp; omega) (fun j e => (own_lt hrow e).1)
          obtain ⟨g', cap', rfl⟩ := ownsRow_succ own4
          go_wp2_with fail
          go_roundw
          case rel =>
            refine ⟨k + 1, hlt, by go_num, ?_, b4⟩
            rw [HMORE.out hlt2, valsOf_append, List.length_append, HXM.out]
            exact own4
          case measure => simp [intOf]; omega
        · have hyz : y0 = z := by have := HY.out; omega
          have hltI : ((y0 : Int) != (z : Int)) = false := by rw [hyz]; simp
          have HYZ := Lib.hid hyz
          clear hyz
          go_wp2_with fail
          go_quiet (fail)
          go_wp2_with fail
          go_roundw
          case rel =>
            refine ⟨k + 1, hlt, by go_num, ?_, below_drewN hb nq⟩
            rw [HSAME.out HYZ.out, HXM.out]
            exact hrow
          case measure => simp [intOf]; omega
    · obtain rfl : k = n := by omega
      obtain ⟨a2, c2, rfl⟩ := own_slice hrow
      go_wp2_with fail
      go_ret
      exact ⟨_, rfl, by rw [HN.out]; exact ownsRow_base hrow hbs, b1.trans (hb.mono hbs)⟩
theorem ints3_any (v u : Value) (xs ys : List Nat) (hx : xs.length ≤ 140737488351232) (_ : ys.length ≤ 140737488351232) (w : World) (hv : Sl w .i64 v xs) (hu : Sl w .i64 u ys) :
    Calls Tryd.prog 23 #[v, u] w fun e w' => e = .returned (.bool (decide (xs = ys))) ∧ Below w.heap.size w w' := by
  obtain ⟨a, cap, b, off, rfl, hlc, ha, hc⟩ := hv.cell
  obtain ⟨a', cap', b', off', rfl, hlc', ha', hc'⟩ := hu.cell
  clear hv hu
  have HC := Lib.hid hc; clear hc
  have HC' := Lib.hid hc'; clear hc'
  by_cases hl : xs.length = ys.length
  · have HL := Lib.hid hl
    have hne : ((xs.length : Int) != (xs.length : Int)) = false := by simp
    rw [← hl] at ha' hlc' ⊢
    clear hl hne
    generalize hn : xs.length = n at *
    go_enter Tryd.func23, Tryd.ntmps23
    go_wp2
    go_loopw [5] (fun i wr => ∃ k : Nat, k ≤ n ∧ i = .int .i64 k ∧ (∀ j, j < k → xs[j]?.getD 0 = ys[j]?.getD 0) ∧ Below w.heap.size w wr) (fun i _ => n - (intOf i).toNat)
    case atStart => exact ⟨0, Nat.zero_le _, rfl, fun j h => by omega, Below.refl _ _⟩
    case round =>
      obtain ⟨k, hk, rfl, heq, hb⟩ := hrel
      have HE := Lib.hid heq; clear heq
      by_cases hlt : k < n
      · obtain rfl := ha (by omega)
        obtain rfl := ha' (by omega)
        have c1 : wr.cell? ⟨b, off + k, none⟩ = some (.int .i64 (xs[k]?.getD 0 : Nat)) := (hb.cell (p := ⟨b, off + k, none⟩) (HC.out (by omega)).1).trans ((HC.out (by omega)).2 k (by omega))
        have c2 : wr.cell? ⟨b', off' + k, none⟩ = some (.int .i64 (ys[k]?.getD 0 : Nat)) := (hb.cell (p := ⟨b', off' + k, none⟩) (HC'.out (by rw [← HL.out]; omega)).1).trans ((HC'.out (by rw [← HL.out]; omega)).2 k (by rw [← HL.out]; omega))
        have hn' : ((k : Nat) : Int) < (n : Int) := by omega
        obtain ⟨x, hx1⟩ : ∃ x, x = xs[k]?.getD 0 := ⟨_, rfl⟩
        obtain ⟨y, hy1⟩ : ∃ y, y = ys[k]?.getD 0 := ⟨_, rfl⟩
        rw [← hx1] at c1
        rw [← hy1] at c2
        have HX1 := Lib.hid hx1; clear hx1
        have HY1 := Lib.hid hy1; clear hy1
        by_cases hxy : x = y
        · have HX : Hid (xs[k]?.getD 0 = ys[k]?.getD 0) := HX1.out.symm.trans (hxy.trans HY1.out)
          subst hxy
          go_wp2
          go_quiet (fail)
          go_wp2
          go_roundw
          case rel => exact ⟨k + 1, by omega, by go_num, fun j hj => by
            by_cases hjk : j = k
            · rw [hjk]; exact HX.out
            · exact HE.out j (by omega), below_drewN hb _⟩
          case measure => simp [intOf]; omega
        · have hne : ((x : Int) != (y : Int)) = true := by rw [bne_iff_ne]; omega
          have HX := Lib.hid (ne_of_at xs ys k (by rw [← HX1.out, ← HY1.out]; exact hxy))
          clear hxy
          go_wp2
          go_quiet (fail)
          go_wp2
          go_ret
          exact ⟨ret_bool (by rw [HX.out]), below_drewN hb _⟩
      · go_wp2
        go_ret
        exact ⟨ret_bool (by rw [eq_of_at xs ys (by rw [hn]; exact HL.out) (fun j hj => HE.out j (by omega))]), hb⟩
  · have hne : ((xs.length : Int) != (ys.length : Int)) = true := by rw [bne_iff_ne]; omega
    have HX := Lib.hid (show decide (xs = ys) = false from decide_eq_false fun e => hl (by rw [e]))
    clear hl
    go_enter Tryd.func23, Tryd.ntmps23
    go_wp2
    go_ret
    exact ⟨ret_bool (by rw [HX.out]), Below.refl _ _⟩
end Go.Proofs.YtkighpfckibkoaaDoor
