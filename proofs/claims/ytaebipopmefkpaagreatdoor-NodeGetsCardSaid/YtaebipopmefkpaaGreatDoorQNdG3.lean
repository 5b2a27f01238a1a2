/-
  node: the document's answers: GetInode.
-/
import Derived.Test.YtaebipopmefkpaaGreatDoorMn22
namespace Go.Proofs.YtaebipopmefkpaaGreatDoor
open Go.RowKit Go.Shelf
attribute [local go_sem] Oper.semAt_some

set_option maxRecDepth 100000 in
set_option maxHeartbeats 8000000 in
theorem refGetInode_far (l : List Int) (hl : Line8 l) (h : (1048576 : Int) ≤ l[0]?.getD 0) (w : World) : Calls Tryz.prog 10 #[.agg (lnA l)] w fun e w' => e = .returned (.tuple #[.agg ndZeroI, .bool false]) ∧ Below w.heap.size w w' := by
  obtain ⟨X, hX⟩ : ∃ X, lnA l = X := ⟨_, rfl⟩
  rw [hX]
  obtain ⟨W1, hW1⟩ : ∃ W1, (w.alloc (.cells X 23)).alloc (.cells #[.int .i64 0, .int .i64 0, .int .i64 0] 31) = W1 := ⟨_, rfl⟩
  have HB1 : Hid (Below w.heap.size w W1) := show Below _ _ _ by rw [← hW1]; exact (by repeat (first | exact Below.refl _ _ | assumption | refine Below.drew ?_ | refine below_drewN ?_ _ | refine Below.alloc ?_ (by (try simp) <;> omega) _ | refine Below.setCell ?_ (by (try simp) <;> omega) _ | refine Below.trans ?_ (Below.mono (by assumption) (by (try simp) <;> omega))))
  have HX1 : Hid (Blk W1 w.heap.size 23 X) := show Blk _ _ _ _ by rw [← hW1]; exact (Blk.new w _ _).below (n := w.heap.size + 1) ((Below.refl _ _).alloc (by simp) _) (by omega)
  have HZ1 : Hid (Blk W1 (w.heap.size + 1) 31 #[.int .i64 0, .int .i64 0, .int .i64 0]) := show Blk _ _ _ _ by
    rw [← hW1]
    have := Blk.new (w.alloc (.cells X 23)) 31 #[.int .i64 0, .int .i64 0, .int .i64 0]
    rw [World.size_alloc] at this
    exact this
  have c1 : W1.cell? ⟨w.heap.size, 1, none⟩ = some (.int .u64 (l[1]?.getD 0)) := HX1.out.cell (by rw [← hX]; exact lnA_at l 1 (by rw [hl.1]; decide))
  have c00 : ((w.alloc (.cells X 23)).alloc (.cells #[.int .i64 0, .int .i64 0, .int .i64 0] 31)).cell? ⟨w.heap.size, 0, none⟩ = some (.int .u64 (l[0]?.getD 0)) := by rw [hW1]; exact HX1.out.cell (by rw [← hX]; exact lnA_at l 0 (by rw [hl.1]; decide))
  have g0 : (0 : Int) ≤ l[0]?.getD 0 := by omega
  have g1 : (0 : Int) ≤ l[1]?.getD 0 := by
    have h1 : 1 < l.length := by rw [hl.1]; decide
    rw [List.getElem?_eq_getElem h1, Option.getD_some]
    exact (hl.2 _ (List.getElem_mem h1)).1
  obtain ⟨x0, h0⟩ : ∃ x, l[0]?.getD 0 = x := ⟨_, rfl⟩
  obtain ⟨x1, h1⟩ : ∃ x, l[1]?.getD 0 = x := ⟨_, rfl⟩
  rw [h0] at c00 g0 h
  rw [h1] at c1 g1
  have hs : smN x0 = -1 := if_pos h
  have HS0 : Hid (∀ W, Calls Tryz.prog 26 #[.int .u64 x0] W fun e w' => e = .returned (.int .i64 (-1)) ∧ W = w') := show ∀ W, _ from fun W => by
    have := refSmall_any x0 g0 W
    rw [hs] at this
    exact this
  obtain ⟨y, hy⟩ : ∃ y, smN x1 = y := ⟨_, rfl⟩
  have HS1 : Hid (∀ W, Calls Tryz.prog 26 #[.int .u64 x1] W fun e w' => e = .returned (.int .i64 y) ∧ W = w') := show ∀ W, _ from fun W => by
    have := refSmall_any x1 g1 W
    rw [hy] at this
    exact this
  have HW := Lib.hid hW1
  clear hW1 hX hl h h0 h1 g0 g1 hs hy
  go_enter Tryz.func10, Tryz.ntmps10
  go_wp2_with fail
  rw [HW.out]
  refine (HS0.out _).mono ?_
  rintro e w' ⟨rfl, rfl⟩
  clear c00
  go_wp2_with fail
  refine (HS1.out _).mono ?_
  rintro e w' ⟨rfl, rfl⟩
  have hal : Below W1.heap.size W1 (W1.alloc (.cells #[.int .i64 (-1), .int .i64 0, .int .i64 y] 31)) := (Below.refl _ _).alloc (Nat.le_refl _) _
  obtain ⟨W3, hs, hx3, ht3⟩ := (HZ1.out.below hal HZ1.out.lt).store (tt := 31) (P := Tryz.prog) (Y := #[.int .i64 0, .int .i64 0, .int .i64 0]) (by kernel_rfl) rfl (goodI_one goodI_zero3)
  have HST := Lib.hid hs
  have HX3 := Lib.hid hx3
  have HB3 : Hid (Below w.heap.size w W3) := show Below _ _ _ from (HB1.out.trans (hal.mono HB1.out.size)).trans (ht3.below (B := w.heap.size) (fun k h => by omega) (HB1.out.trans (hal.mono HB1.out.size)).size)
  clear hal hs hx3 ht3
  go_wp2_with (first | (refine ndList_store rfl 31 _ _ rfl _ _ rfl rfl HST.out ?_))
  exact bodyPost_ret (results_cell_tmp (fn := Tryz.f10) rfl rfl (HX3.out.loadVar (tt := 31) Tryz.underlying31 rfl (by kernel_rfl)) rfl) rfl ⟨rfl, HB3.out⟩
set_option maxRecDepth 100000 in
set_option maxHeartbeats 8000000 in
theorem refGetInode_near (l : List Int) (hl : Line8 l) (h : l[0]?.getD 0 < (1048576 : Int)) (r q : Bool) (hr : okSp inodeSpecs #[.int .i64 (l[0]?.getD 0 % 256), .int .i64 (l[0]?.getD 0 / 256), .int .i64 (smN (l[1]?.getD 0))] = r) (hq : noughtsN l = q) (w : World) : Calls Tryz.prog 10 #[.agg (lnA l)] w fun e w' => e = .returned (.tuple #[.agg (if (r && q) = true then #[.int .i64 (l[0]?.getD 0 % 256), .int .i64 (l[0]?.getD 0 / 256), .int .i64 (smN (l[1]?.getD 0))] else ndZeroI), .bool (r && q)]) ∧ Below w.heap.size w w' := by
  obtain ⟨X, hX⟩ : ∃ X, lnA l = X := ⟨_, rfl⟩
  rw [hX]
  obtain ⟨W1, hW1⟩ : ∃ W1, (w.alloc (.cells X 23)).alloc (.cells #[.int .i64 0, .int .i64 0, .int .i64 0] 31) = W1 := ⟨_, rfl⟩
  have HB1 : Hid (Below w.heap.size w W1) := show Below _ _ _ by rw [← hW1]; exact (by repeat (first | exact Below.refl _ _ | assumption | refine Below.drew ?_ | refine below_drewN ?_ _ | refine Below.alloc ?_ (by (try simp) <;> omega) _ | refine Below.setCell ?_ (by (try simp) <;> omega) _ | refine Below.trans ?_ (Below.mono (by assumption) (by (try simp) <;> omega))))
  have HX1 : Hid (Blk W1 w.heap.size 23 X) := show Blk _ _ _ _ by rw [← hW1]; exact (Blk.new w _ _).below (n := w.heap.size + 1) ((Below.refl _ _).alloc (by simp) _) (by omega)
  have HZ1 : Hid (Blk W1 (w.heap.size + 1) 31 #[.int .i64 0, .int .i64 0, .int .i64 0]) := show Blk _ _ _ _ by
    rw [← hW1]
    have := Blk.new (w.alloc (.cells X 23)) 31 #[.int .i64 0, .int .i64 0, .int .i64 0]
    rw [World.size_alloc] at this
    exact this
  have c1 : W1.cell? ⟨w.heap.size, 1, none⟩ = some (.int .u64 (l[1]?.getD 0)) := HX1.out.cell (by rw [← hX]; exact lnA_at l 1 (by rw [hl.1]; decide))
  have c00 : ((w.alloc (.cells X 23)).alloc (.cells #[.int .i64 0, .int .i64 0, .int .i64 0] 31)).cell? ⟨w.heap.size, 0, none⟩ = some (.int .u64 (l[0]?.getD 0)) := by rw [hW1]; exact HX1.out.cell (by rw [← hX]; exact lnA_at l 0 (by rw [hl.1]; decide))
  have g0 : (0 : Int) ≤ l[0]?.getD 0 := by
    have h1 : 0 < l.length := by rw [hl.1]; decide
    rw [List.getElem?_eq_getElem h1, Option.getD_some]
    exact (hl.2 _ (List.getElem_mem h1)).1
  have g1 : (0 : Int) ≤ l[1]?.getD 0 := by
    have h1 : 1 < l.length := by rw [hl.1]; decide
    rw [List.getElem?_eq_getElem h1, Option.getD_some]
    exact (hl.2 _ (List.getElem_mem h1)).1
  obtain ⟨x0, h0⟩ : ∃ x : Nat, l[0]?.getD 0 = (x : Int) := Int.eq_ofNat_of_zero_le g0
  obtain ⟨x1, h1⟩ : ∃ x, l[1]?.getD 0 = x := ⟨_, rfl⟩
  rw [h0] at c00 g0 h hr ⊢
  rw [h1] at c1 g1 hr ⊢
  have hs : smN (x0 : Int) = (x0 : Int) := if_neg (by omega)
  have HS0 : Hid (∀ W, Calls Tryz.prog 26 #[.int .u64 (x0 : Int)] W fun e w' => e = .returned (.int .i64 (x0 : Int)) ∧ W = w') := show ∀ W, _ from fun W => by
    have := refSmall_any (x0 : Int) g0 W
    rw [hs] at this
    exact this
  obtain ⟨y, hy⟩ : ∃ y, smN x1 = y := ⟨_, rfl⟩
  rw [hy] at hr ⊢
  have HS1 : Hid (∀ W, Calls Tryz.prog 26 #[.int .u64 x1] W fun e w' => e = .returned (.int .i64 y) ∧ W = w') := show ∀ W, _ from fun W => by
    have := refSmall_any x1 g1 W
    rw [hy] at this
    exact this
  have k0 : (x0 : Int).tmod 256 = (x0 : Int) % 256 := Int.tmod_eq_emod_of_nonneg g0
  have k1 : (x0 : Int).tdiv 256 = (x0 : Int) / 256 := Int.tdiv_eq_ediv_of_nonneg g0
  obtain ⟨k, hk⟩ : ∃ k, (x0 : Int) % 256 = k := ⟨_, rfl⟩
  obtain ⟨m, hm⟩ : ∃ m, (x0 : Int) / 256 = m := ⟨_, rfl⟩
  rw [hk] at k0 hr ⊢
  rw [hm] at k1 hr ⊢
  have k2 : wrap64 m = m := by unfold wrap64; omega
  have k3 : wrap64 k = k := by unfold wrap64; omega
  have HRI : Hid (∀ W, Calls Tryz.prog 29 #[.agg #[.int .i64 k, .int .i64 m, .int .i64 y]] W fun e w' => e = .returned (.bool r) ∧ Below W.heap.size W w') := show ∀ W, _ from fun W => by
    have := refRightInode_any k m y W
    rw [hr] at this
    exact this
  have HNO : Hid (∀ W, Calls Tryz.prog 30 #[.agg X, .int .i64 2] W fun e w' => e = .returned (.bool q) ∧ Below W.heap.size W w') := show ∀ W, _ from fun W => by
    have := refNoughts_any l hl.1 W
    rw [show ((List.range 8).all fun j => decide (j < 2) || l[j]?.getD 0 == 0) = q from hq, hX] at this
    exact this
  have HXS : Hid (X.size = 8) := show _ = _ by rw [← hX, lnA_size, hl.1]
  have hn0 : ¬ (x0 : Int) < 0 := by omega
  have HW := Lib.hid hW1
  clear hW1 hX hl h h0 h1 g0 g1 hs hy hk hm hr hq
  have hal : Below W1.heap.size W1 (W1.alloc (.cells #[.int .i64 k, .int .i64 m, .int .i64 y] 31)) := (Below.refl _ _).alloc (Nat.le_refl _) _
  obtain ⟨W2, hW2⟩ : ∃ W2, W1.alloc (.cells #[.int .i64 k, .int .i64 m, .int .i64 y] 31) = W2 := ⟨_, rfl⟩
  rw [hW2] at hal
  have HX2 := Lib.hid (HX1.out.below hal HX1.out.lt)
  have HZ2 := Lib.hid (HZ1.out.below hal HZ1.out.lt)
  have HB2 := Lib.hid (HB1.out.trans (hal.mono HB1.out.size))
  have HY2 : Hid (Blk W2 W1.heap.size 31 #[.int .i64 k, .int .i64 m, .int .i64 y]) := show Blk _ _ _ _ by rw [← hW2]; exact Blk.new _ _ _
  have HW2 := Lib.hid hW2
  clear hal hW2
  go_enter Tryz.func10, Tryz.ntmps10
  go_wp2_with fail
  rw [HW.out]
  refine (HS0.out _).mono ?_
  rintro e w' ⟨rfl, rfl⟩
  clear c00
  go_wp2_with fail
  refine (HS1.out _).mono ?_
  rintro e w' ⟨rfl, rfl⟩
  go_wp2_with fail
  rw [HW2.out]
  refine (HRI.out _).mono ?_
  rintro e w3 ⟨rfl, hb3⟩
  have HX3 := Lib.hid (HX2.out.below hb3 HX2.out.lt)
  have HZ3 := Lib.hid (HZ2.out.below hb3 HZ2.out.lt)
  have HY3 := Lib.hid (HY2.out.below hb3 HY2.out.lt)
  have HB3 := Lib.hid (HB2.out.trans (hb3.mono HB2.out.size))
  have HO3 : Hid (Array.all (#[.int .i64 k, .int .i64 m, .int .i64 y] : Array Value) (·.oneCell') = true) := show _ = _ by simp [Value.oneCell']
  clear hb3
  cases r
  · obtain ⟨W5, hs, hx5, ht5⟩ := HZ3.out.store (tt := 31) (P := Tryz.prog) (Y := #[.int .i64 0, .int .i64 0, .int .i64 0]) (by kernel_rfl) rfl (goodI_one goodI_zero3)
    have HST := Lib.hid hs
    have HX5 := Lib.hid hx5
    have HB5 : Hid (Below w.heap.size w W5) := show Below _ _ _ from HB3.out.trans (ht5.below (B := w.heap.size) (fun k h => by omega) HB3.out.size)
    clear hs hx5 ht5
    go_wp2_with (first | (refine ndList_store rfl 31 _ _ rfl _ _ rfl rfl HST.out ?_))
    exact bodyPost_ret (results_cell_tmp (fn := Tryz.f10) rfl rfl (HX5.out.loadVar (tt := 31) Tryz.underlying31 rfl (by kernel_rfl)) rfl) rfl ⟨rfl, HB5.out⟩
  have HLD : Hid ((Instr.loadAt 23 (.pointer (some ⟨w.heap.size, 0, none⟩))).run Tryz.prog w3 = .ok (.agg X) w3) := show _ = _ from HX3.out.load (tt := 23) Tryz.underlying23 rfl (by rw [HXS.out]; kernel_rfl)
  go_wp2_with (first | (refine ndList_loadW (by rfl) 23 _ rfl _ _ rfl HLD.out ?_))
  refine (HNO.out _).mono ?_
  rintro e w4 ⟨rfl, hb4⟩
  have HZ4 := Lib.hid (HZ3.out.below hb4 HZ3.out.lt)
  have HY4 := Lib.hid (HY3.out.below hb4 HY3.out.lt)
  have HB4 := Lib.hid (HB3.out.trans (hb4.mono HB3.out.size))
  clear hb4
  cases q
  · obtain ⟨W5, hs, hx5, ht5⟩ := HZ4.out.store (tt := 31) (P := Tryz.prog) (Y := #[.int .i64 0, .int .i64 0, .int .i64 0]) (by kernel_rfl) rfl (goodI_one goodI_zero3)
    have HST := Lib.hid hs
    have HX5 := Lib.hid hx5
    have HB5 : Hid (Below w.heap.size w W5) := show Below _ _ _ from HB4.out.trans (ht5.below (B := w.heap.size) (fun k h => by omega) HB4.out.size)
    clear hs hx5 ht5
    go_wp2_with (first | (refine ndList_store rfl 31 _ _ rfl _ _ rfl rfl HST.out ?_))
    exact bodyPost_ret (results_cell_tmp (fn := Tryz.f10) rfl rfl (HX5.out.loadVar (tt := 31) Tryz.underlying31 rfl (by kernel_rfl)) rfl) rfl ⟨rfl, HB5.out⟩
  have HLY : Hid ((Instr.loadAt 31 (.pointer (some ⟨W1.heap.size, 0, none⟩))).run Tryz.prog w4 = .ok (.agg #[.int .i64 k, .int .i64 m, .int .i64 y]) w4) := show _ = _ from HY4.out.load (tt := 31) Tryz.underlying31 rfl (by kernel_rfl)
  obtain ⟨W5, hs, hx5, ht5⟩ := HZ4.out.store (tt := 31) (P := Tryz.prog) (Y := #[.int .i64 k, .int .i64 m, .int .i64 y]) (by kernel_rfl) rfl HO3.out
  have HST := Lib.hid hs
  have HX5 := Lib.hid hx5
  have HB5 : Hid (Below w.heap.size w W5) := show Below _ _ _ from HB4.out.trans (ht5.below (B := w.heap.size) (fun k h => by omega) HB4.out.size)
  clear hs hx5 ht5
  go_wp2_with (first | (refine ndList_store rfl 31 _ _ rfl _ _ rfl rfl HST.out ?_) | (refine ndList_load rfl 31 _ rfl _ _ rfl HLY.out ?_))
  exact bodyPost_ret (results_cell_tmp (fn := Tryz.f10) rfl rfl (HX5.out.loadVar (tt := 31) Tryz.underlying31 rfl (by kernel_rfl)) rfl) rfl ⟨rfl, HB5.out⟩
end Go.Proofs.YtaebipopmefkpaaGreatDoor
