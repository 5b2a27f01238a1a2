/-
  Texts PthV to MeN, as one.
-/
import Derived.Test.YtgoemaecdolioaaGreatDoorMo5
import Derived.Test.YtgoemaecdolioaaGreatDoorMo10
import Derived.Test.YtgoemaecdolioaaGreatDoorMo38
import Derived.Lay
import Derived.Deep.DeepHandedRow
/-
  The witness of a row that lists pinned tables: all the listed variables laid by the library's function.
-/
namespace Go.Proofs.YtgoemaecdolioaaGreatDoor
open Go.ChangeShapes Go.WideShapes Go.ChangeAt Go.RowKit

theorem witness_laidAll {H : Type} {enc : TypeId × Value → H} {C : Checked} {os : Os} {f : FuncId} {fn : Func} {s : OpenSpec} {conds : List PathCond} {apart : Bool} (laid : List (String × DataW Unit)) (args : Array Value)
    (hsh : ((World.laidAll C.prog os laid).forCall (fun _ _ => 0) ⟨#[], args, []⟩).Shaped C.prog)
    (hok : Input.okWideB C.prog ((World.laidAll C.prog os laid).forCall (fun _ _ => 0) ⟨#[], args, []⟩) f ⟨#[], args, []⟩ = true)
    (hrow : s.preRow enc C.prog fn conds apart laid ((World.laidAll C.prog os laid).forCall (fun _ _ => 0) ⟨#[], args, []⟩).memory args) :
    ∃ (w : World) (tape : Tape) (i : Input), w.os = os ∧ (w.forCall tape i).Shaped C.prog ∧ i.vars = [] ∧ Input.okWide C.prog (w.forCall tape i) .any w.heap.size f i ∧
      s.preRow enc C.prog fn conds apart laid (w.forCall tape i).memory i.args ∧ ({ modest := false } : Assume).holds C.prog (lone (Frame.enter C.prog f i.args .normal) [] (w.forCall tape i)) :=
  ⟨World.laidAll C.prog os laid, fun _ _ => 0, ⟨#[], args, []⟩, World.laidAll_os _ _ _, hsh, (Input.okWide_of_okWideB (base := 0) hok).1, (Input.okWide_of_okWideB hok).2, hrow, by
    simp only [Assume.holds]
    exact ⟨by simp, by simp, fun _ => Modest.zero, by simp, by simp⟩⟩
end Go.Proofs.YtgoemaecdolioaaGreatDoor

/-
  The law ModelEquals: its walk. (gen_men.py)
-/
namespace Go.Proofs.YtgoemaecdolioaaGreatDoor
open Go.RowKit Go.Shelf
attribute [local go_sem] Oper.semAt_some

set_option maxRecDepth 100000 in
set_option maxHeartbeats 16000000 in
theorem equals11_law {x y : ResX} (w : World) (hm : MaxC w) (tx : TxS w x.names x.texts) (ty : TxS w y.names y.texts) (fx : FB w x.ub x.bytes) (fy : FB w y.ub y.bytes) :
    Calls Tryz.prog 6 #[.agg (resX x), .agg (resX y)] w fun e w' => e = .returned (.bool true) ∧ Below w.heap.size w w' := by
  have HWK := Lib.hid (fun W (hW : Below w.heap.size w W) => works11_any W (hm.below hW hm.room))
  have H12 := Lib.hid (fun W (hW : Below w.heap.size w W) h1 h2 => equal11_any (x := x) (y := y) W (Vec.below tx hW) (Vec.below ty hW) (fx.below hW) (fy.below hW) h1 h2)
  have H21 := Lib.hid (fun W (hW : Below w.heap.size w W) h1 h2 => equal11_any (x := y) (y := x) W (Vec.below ty hW) (Vec.below tx hW) (fy.below hW) (fx.below hW) h1 h2)
  have H11 := Lib.hid (fun W (hW : Below w.heap.size w W) h1 h2 => equal11_any (x := x) (y := x) W (Vec.below tx hW) (Vec.below tx hW) (fx.below hW) (fx.below hW) h1 h2)
  have HRE := Lib.hid (fun W (hW : Below w.heap.size w W) h1 h2 => refEqual11_any (x := x) (y := y) W (Vec.below tx hW) (Vec.below ty hW) (fx.below hW) (fy.below hW) h1 h2)
  rw [sameX_comm y x] at H21
  rw [sameX_self x] at H11
  obtain ⟨sm, hsm⟩ : ∃ b, sameX x y = b := ⟨_, rfl⟩
  rw [hsm] at H12 H21 HRE
  clear hsm
  obtain ⟨e1, k1, l1, n1, v1, t1, u1, c1⟩ := x
  obtain ⟨e2, k2, l2, n2, v2, t2, u2, c2⟩ := y
  unfold resX at *
  dsimp only at *
  obtain ⟨a1, m1, rfl⟩ := tx.form
  obtain ⟨a2, m2, rfl⟩ := ty.form
  obtain ⟨a3, m3, rfl, -⟩ := fx.form
  obtain ⟨a4, m4, rfl, -⟩ := fy.form
  obtain ⟨nt1, hn1⟩ : ∃ n, t1.length = n := ⟨_, rfl⟩
  obtain ⟨nt2, hn2⟩ : ∃ n, t2.length = n := ⟨_, rfl⟩
  obtain ⟨nb1, hb1⟩ : ∃ n, c1.length = n := ⟨_, rfl⟩
  obtain ⟨nb2, hb2⟩ : ∃ n, c2.length = n := ⟨_, rfl⟩
  rw [hn1, hn2, hb1, hb2] at H12 H21 HRE ⊢
  rw [hn1, hb1] at H11
  clear hm tx ty fx fy hn1 hn2 hb1 hb2
  obtain ⟨W1, hW1⟩ : ∃ W1, ((w.alloc (.cells #[.int .i64 e1, .int .i64 k1, .int .i64 l1, .int .i64 n1, .slice a1 nt1 m1, .slice a3 nb1 m3] 44)).alloc (.cells #[.int .i64 e2, .int .i64 k2, .int .i64 l2, .int .i64 n2, .slice a2 nt2 m2, .slice a4 nb2 m4] 44)) = W1 := ⟨_, rfl⟩
  have tr := two_res w #[.int .i64 e1, .int .i64 k1, .int .i64 l1, .int .i64 n1, .slice a1 nt1 m1, .slice a3 nb1 m3] #[.int .i64 e2, .int .i64 k2, .int .i64 l2, .int .i64 n2, .slice a2 nt2 m2, .slice a4 nb2 m4]
  rw [hW1] at tr
  obtain ⟨b1, x1, x2⟩ := tr
  have HB1 := Lib.hid b1
  have HX1 := Lib.hid x1
  have HX2 := Lib.hid x2
  have HW1 := Lib.hid hW1
  have HLX : Hid (∀ V, Below W1.heap.size W1 V → (Instr.loadAt 44 (.pointer (some ⟨w.heap.size, 0, none⟩))).run Tryz.prog V = .ok (.agg #[.int .i64 e1, .int .i64 k1, .int .i64 l1, .int .i64 n1, .slice a1 nt1 m1, .slice a3 nb1 m3]) V) := show ∀ V, _ from fun V hV => (HX1.out.below hV HX1.out.lt).load (tt := 44) Tryz.underlying44 rfl (by kernel_rfl)
  have HLY : Hid (∀ V, Below W1.heap.size W1 V → (Instr.loadAt 44 (.pointer (some ⟨w.heap.size + 1, 0, none⟩))).run Tryz.prog V = .ok (.agg #[.int .i64 e2, .int .i64 k2, .int .i64 l2, .int .i64 n2, .slice a2 nt2 m2, .slice a4 nb2 m4]) V) := show ∀ V, _ from fun V hV => (HX2.out.below hV HX2.out.lt).load (tt := 44) Tryz.underlying44 rfl (by kernel_rfl)
  have HBW : Hid (∀ V, Below W1.heap.size W1 V → Below w.heap.size w V) := show ∀ V, _ from fun V hV => HB1.out.trans (hV.mono HB1.out.size)
  clear hW1 b1 x1 x2
  by_cases g0 : (20 : Int) < (nt1 : Int)
  · go_enter Tryz.func6, Tryz.ntmps6
    go_wp2_with fail
    rw [HW1.out]
    refine (HWK.out _ HB1.out).mono ?_
    rintro e w4 ⟨rfl, hb⟩
    go_wp2_with fail
    go_ret
    exact ⟨rfl, HB1.out.trans (hb.mono HB1.out.size)⟩
  by_cases g1 : (20 : Int) < (nt2 : Int)
  · go_enter Tryz.func6, Tryz.ntmps6
    go_wp2_with fail
    rw [HW1.out]
    refine (HWK.out _ HB1.out).mono ?_
    rintro e w4 ⟨rfl, hb⟩
    go_wp2_with fail
    go_ret
    exact ⟨rfl, HB1.out.trans (hb.mono HB1.out.size)⟩
  by_cases g2 : (500 : Int) < (nb1 : Int)
  · go_enter Tryz.func6, Tryz.ntmps6
    go_wp2_with fail
    rw [HW1.out]
    refine (HWK.out _ HB1.out).mono ?_
    rintro e w4 ⟨rfl, hb⟩
    go_wp2_with fail
    go_ret
    exact ⟨rfl, HB1.out.trans (hb.mono HB1.out.size)⟩
  by_cases g3 : (500 : Int) < (nb2 : Int)
  · go_enter Tryz.func6, Tryz.ntmps6
    go_wp2_with fail
    rw [HW1.out]
    refine (HWK.out _ HB1.out).mono ?_
    rintro e w4 ⟨rfl, hb⟩
    go_wp2_with fail
    go_ret
    exact ⟨rfl, HB1.out.trans (hb.mono HB1.out.size)⟩
  have HN : Hid (nt1 ≤ 1000000 ∧ nt2 ≤ 1000000) := show _ ∧ _ from ⟨by omega, by omega⟩
  go_enter Tryz.func6, Tryz.ntmps6
  go_wp2_with fail
  rw [HW1.out]
  refine (HRE.out _ (HBW.out _ (Below.refl W1.heap.size W1)) HN.out.1 HN.out.2).mono ?_
  rintro e w2 ⟨rfl, hb⟩
  have HV2 : Hid (Below W1.heap.size W1 w2) := show Below _ _ _ from ((Below.refl W1.heap.size W1)).trans (hb.mono ((Below.refl W1.heap.size W1)).size)
  clear hb
  have y0 := (HX1.out.below HV2.out HX1.out.lt).cell (j := 0) rfl
  have z0 := (HX2.out.below HV2.out HX2.out.lt).cell (j := 0) rfl
  have y1 := (HX1.out.below HV2.out HX1.out.lt).cell (j := 1) rfl
  have z1 := (HX2.out.below HV2.out HX2.out.lt).cell (j := 1) rfl
  have y2 := (HX1.out.below HV2.out HX1.out.lt).cell (j := 2) rfl
  have z2 := (HX2.out.below HV2.out HX2.out.lt).cell (j := 2) rfl
  have y3 := (HX1.out.below HV2.out HX1.out.lt).cell (j := 3) rfl
  have z3 := (HX2.out.below HV2.out HX2.out.lt).cell (j := 3) rfl
  have y4 := (HX1.out.below HV2.out HX1.out.lt).cell (j := 4) rfl
  have z4 := (HX2.out.below HV2.out HX2.out.lt).cell (j := 4) rfl
  have y5 := (HX1.out.below HV2.out HX1.out.lt).cell (j := 5) rfl
  have z5 := (HX2.out.below HV2.out HX2.out.lt).cell (j := 5) rfl
  go_wp2_with fail
  clear y0 z0 y1 z1 y2 z2 y3 z3 y4 z4 y5 z5
  refine (H12.out _ (HBW.out _ HV2.out) HN.out.1 HN.out.2).mono ?_
  rintro e w3 ⟨rfl, hb⟩
  have HV3 : Hid (Below W1.heap.size W1 w3) := show Below _ _ _ from (HV2.out).trans (hb.mono (HV2.out).size)
  clear hb
  have y0 := (HX1.out.below HV3.out HX1.out.lt).cell (j := 0) rfl
  have z0 := (HX2.out.below HV3.out HX2.out.lt).cell (j := 0) rfl
  have y1 := (HX1.out.below HV3.out HX1.out.lt).cell (j := 1) rfl
  have z1 := (HX2.out.below HV3.out HX2.out.lt).cell (j := 1) rfl
  have y2 := (HX1.out.below HV3.out HX1.out.lt).cell (j := 2) rfl
  have z2 := (HX2.out.below HV3.out HX2.out.lt).cell (j := 2) rfl
  have y3 := (HX1.out.below HV3.out HX1.out.lt).cell (j := 3) rfl
  have z3 := (HX2.out.below HV3.out HX2.out.lt).cell (j := 3) rfl
  have y4 := (HX1.out.below HV3.out HX1.out.lt).cell (j := 4) rfl
  have z4 := (HX2.out.below HV3.out HX2.out.lt).cell (j := 4) rfl
  have y5 := (HX1.out.below HV3.out HX1.out.lt).cell (j := 5) rfl
  have z5 := (HX2.out.below HV3.out HX2.out.lt).cell (j := 5) rfl
  go_wp2_with fail
  clear y0 z0 y1 z1 y2 z2 y3 z3 y4 z4 y5 z5
  refine (H21.out _ (HBW.out _ HV3.out) HN.out.2 HN.out.1).mono ?_
  rintro e w4 ⟨rfl, hb⟩
  have HV4 : Hid (Below W1.heap.size W1 w4) := show Below _ _ _ from (HV3.out).trans (hb.mono (HV3.out).size)
  clear hb
  have y0 := (HX1.out.below HV4.out HX1.out.lt).cell (j := 0) rfl
  have z0 := (HX2.out.below HV4.out HX2.out.lt).cell (j := 0) rfl
  have y1 := (HX1.out.below HV4.out HX1.out.lt).cell (j := 1) rfl
  have z1 := (HX2.out.below HV4.out HX2.out.lt).cell (j := 1) rfl
  have y2 := (HX1.out.below HV4.out HX1.out.lt).cell (j := 2) rfl
  have z2 := (HX2.out.below HV4.out HX2.out.lt).cell (j := 2) rfl
  have y3 := (HX1.out.below HV4.out HX1.out.lt).cell (j := 3) rfl
  have z3 := (HX2.out.below HV4.out HX2.out.lt).cell (j := 3) rfl
  have y4 := (HX1.out.below HV4.out HX1.out.lt).cell (j := 4) rfl
  have z4 := (HX2.out.below HV4.out HX2.out.lt).cell (j := 4) rfl
  have y5 := (HX1.out.below HV4.out HX1.out.lt).cell (j := 5) rfl
  have z5 := (HX2.out.below HV4.out HX2.out.lt).cell (j := 5) rfl
  go_wp2_with fail
  clear y0 z0 y1 z1 y2 z2 y3 z3 y4 z4 y5 z5
  refine (H11.out _ (HBW.out _ HV4.out) HN.out.1 HN.out.1).mono ?_
  rintro e w5 ⟨rfl, hb⟩
  have HV5 : Hid (Below W1.heap.size W1 w5) := show Below _ _ _ from (HV4.out).trans (hb.mono (HV4.out).size)
  clear hb
  have y0 := (HX1.out.below HV5.out HX1.out.lt).cell (j := 0) rfl
  have z0 := (HX2.out.below HV5.out HX2.out.lt).cell (j := 0) rfl
  have y1 := (HX1.out.below HV5.out HX1.out.lt).cell (j := 1) rfl
  have z1 := (HX2.out.below HV5.out HX2.out.lt).cell (j := 1) rfl
  have y2 := (HX1.out.below HV5.out HX1.out.lt).cell (j := 2) rfl
  have z2 := (HX2.out.below HV5.out HX2.out.lt).cell (j := 2) rfl
  have y3 := (HX1.out.below HV5.out HX1.out.lt).cell (j := 3) rfl
  have z3 := (HX2.out.below HV5.out HX2.out.lt).cell (j := 3) rfl
  have y4 := (HX1.out.below HV5.out HX1.out.lt).cell (j := 4) rfl
  have z4 := (HX2.out.below HV5.out HX2.out.lt).cell (j := 4) rfl
  have y5 := (HX1.out.below HV5.out HX1.out.lt).cell (j := 5) rfl
  have z5 := (HX2.out.below HV5.out HX2.out.lt).cell (j := 5) rfl
  go_wp2_with fail
  clear y0 z0 y1 z1 y2 z2 y3 z3 y4 z4 y5 z5
  refine (HWK.out _ (HBW.out _ HV5.out)).mono ?_
  rintro e w6 ⟨rfl, hb⟩
  have HV6 : Hid (Below w.heap.size w w6) := show Below _ _ _ from (HBW.out _ HV5.out).trans (hb.mono (HBW.out _ HV5.out).size)
  clear hb
  go_wp2_with fail
  go_ret
  exact ⟨rfl, HV6.out⟩
end Go.Proofs.YtgoemaecdolioaaGreatDoor
