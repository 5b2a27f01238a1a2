/-
  path: the law PathJoins.
-/
import Derived.Test.YtohdgjmmekgcmaaDoorQPthR
namespace Go.Proofs.YtohdgjmmekgcmaaDoor
open Go.RowKit Go.Shelf Go.Sort

theorem joinE_zero {l : List (List UInt8)} (h : (joinE l).2 = 0) : l.length ≤ 16 ∧ l.all rightN = true ∧ joinE l = (pathOf l, 0) := by
  unfold joinE at h ⊢
  by_cases h0 : (underE l).2 = 0
  · obtain ⟨e1, e2, e3⟩ := underE_zero h0
    exact ⟨e2, e3, if_pos h0⟩
  · rw [if_neg h0] at h
    exact absurd h h0
set_option maxRecDepth 100000 in
set_option maxHeartbeats 8000000 in
theorem joins7_any (v : Value) (l : List (List UInt8)) (w : World) (hv : TxS w v l) (hm : MaxC w) :
    Calls Tryd.prog 6 #[v] w fun e w' => e = .returned (.bool true) ∧ Below w.heap.size w w' := by
  have HW := Lib.hid (works7_any w hm)
  have HV := Lib.hid hv
  have HMX := Lib.hid (fun W (hb : Below w.heap.size w W) => hm.below hb hm.room)
  obtain ⟨a, cap, b, off, rfl, hlc, ha, hx⟩ := hv.cell
  have HX := Lib.hid hx
  clear hv hx hm
  by_cases h20 : 20 < l.length
  · have q1 : (20 : Int) < (l.length : Int) := by omega
    clear h20
    go_enter Tryd.func6, Tryd.ntmps6
    go_wp2_with fail
    refine HW.out.mono ?_
    rintro e w1 ⟨rfl, hb⟩
    go_wp2_with fail
    go_ret
    exact ⟨rfl, hb⟩
  · have q1 : ¬ (20 : Int) < (l.length : Int) := by omega
    obtain ⟨n, hn⟩ : ∃ n, l.length = n := ⟨_, rfl⟩
    have HN := Lib.hid hn
    rw [hn] at h20 q1 hlc ha HX
    go_enter Tryd.func6, Tryd.ntmps6
    go_wp2_with fail
    clear hn
    go_loopw [3] (fun i wr => ∃ k : Nat, k ≤ n ∧ i = .int .i64 (k : Nat) ∧ wr = w) (fun i _ => n - (intOf i).toNat)
    case atStart => exact ⟨0, Nat.zero_le _, rfl, rfl⟩
    case round =>
      obtain ⟨k, hk, rfl, rfl⟩ := hrel
      by_cases hlt : k < n
      · obtain rfl := ha (by omega)
        have c1 := (HX.out (by omega)).2 k hlt
        have hn' : (k : Int) < (n : Int) := by omega
        obtain ⟨x, hxx⟩ : ∃ x, x = l[k]?.getD [] := ⟨_, rfl⟩
        rw [← hxx] at c1
        by_cases h60 : 60 < x.length
        · have q2 : (60 : Int) < (x.length : Int) := by omega
          clear h60 hxx
          go_wp2_with fail
          refine HW.out.mono ?_
          rintro e w1 ⟨rfl, hb⟩
          go_wp2_with fail
          go_ret
          exact ⟨rfl, hb⟩
        · have q2 : ¬ (60 : Int) < (x.length : Int) := by omega
          clear h60 hxx
          go_wp2_with fail
          go_roundw
          case rel => exact ⟨k + 1, by omega, by go_num, by trivial⟩
          case measure => simp [intOf]; omega
      · obtain rfl : k = n := by omega
        have HJ := Lib.hid (paJoin_any _ l (by rw [HN.out]; omega) wr HV.out)
        have HRJ := Lib.hid (fun w (hb : Below wr.heap.size wr w) => refJoin_any _ l w (HV.out.below hb))
        rw [HN.out] at HJ HRJ
        by_cases h0 : (joinE l).2 = 0
        · obtain ⟨e1, e2, e3⟩ := joinE_zero h0
          rw [e3] at HJ HRJ
          dsimp only at HJ HRJ
          have HS := Lib.hid (fun w hm => paSplit_any (pathOf l) (by have := pathOf_length l e2 e1; omega) w hm)
          rw [splitE_path l e1 e2] at HS
          dsimp only at HS
          obtain ⟨p, hp⟩ : ∃ p, pathOf l = p := ⟨_, rfl⟩
          rw [hp] at HJ HRJ HS
          have hpp : (p == p) = true := by simp
          clear h0 e1 e2 e3 hp
          go_wp2_with fail
          refine HJ.out.mono ?_
          rintro e w1 ⟨rfl, hb1⟩
          have HB1 := Lib.hid hb1
          clear hb1
          go_wp2_with fail
          refine (HRJ.out _ HB1.out).mono ?_
          rintro e w2 ⟨rfl, rfl⟩
          go_wp2_with (first | (go_at_call 36; refine (num7_any _ _).mono ?_; rintro e wz ⟨rfl, rfl⟩) | (go_at_call 31; refine park ?_))
          unfold Park
          refine (HS.out _ (HMX.out _ HB1.out)).mono ?_
          rintro e w3 ⟨u, rfl, hu, hb3⟩
          have HU := Lib.hid hu.txs
          have HB3 : Hid (Below wr.heap.size wr w3) := show Below _ _ _ from HB1.out.trans (hb3.mono HB1.out.size)
          obtain ⟨ua, uc, rfl⟩ := hu.txs.slice
          clear hu hb3
          have HTX := Lib.hid (refTexts_any _ _ l l (by rw [HN.out]; omega) (by rw [HN.out]; omega) w3 HU.out (HV.out.below HB3.out))
          rw [HN.out, show decide (l = l) = true from decide_eq_true rfl] at HTX
          rw [HN.out]
          go_wp2_with fail
          refine HTX.out.mono ?_
          rintro e w4 ⟨rfl, hb4⟩
          have HB4 : Hid (Below wr.heap.size wr w4) := show Below _ _ _ from HB3.out.trans (hb4.mono HB3.out.size)
          clear hb4
          go_wp2_with (first | (go_at_call 36; refine (num7_any _ _).mono ?_; rintro e wz ⟨rfl, rfl⟩) | (go_at_call 30; refine (works7_any _ (HMX.out _ HB4.out)).mono ?_; rintro e w5 ⟨rfl, hb5⟩))
          go_ret
          exact ⟨rfl, HB4.out.trans (hb5.mono HB4.out.size)⟩
        · obtain ⟨⟨s, no⟩, hj⟩ : ∃ x, joinE l = x := ⟨_, rfl⟩
          rw [hj] at HJ HRJ h0
          dsimp only at HJ HRJ h0
          have hq : (no == 0) = false := by simp [h0]
          have hnn : (no == no) = true := by simp
          have hpp : (s == s) = true := by simp
          clear h0 hj
          go_wp2_with fail
          refine HJ.out.mono ?_
          rintro e w1 ⟨rfl, hb1⟩
          have HB1 := Lib.hid hb1
          clear hb1
          go_wp2_with fail
          refine (HRJ.out _ HB1.out).mono ?_
          rintro e w2 ⟨rfl, rfl⟩
          go_wp2_with (first | (go_at_call 36; refine (num7_any _ _).mono ?_; rintro e wz ⟨rfl, rfl⟩) | (go_at_call 30; refine (works7_any _ (HMX.out _ HB1.out)).mono ?_; rintro e w5 ⟨rfl, hb5⟩))
          go_ret
          exact ⟨rfl, HB1.out.trans (hb5.mono HB1.out.size)⟩
end Go.Proofs.YtohdgjmmekgcmaaDoor
