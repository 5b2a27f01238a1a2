/-
  node: an equality of structs of which the run is known.
-/
import Derived.Test.YtaebipopmefkpaaGreatDoorMn22
namespace Go.Proofs.YtaebipopmefkpaaGreatDoor
open Go.RowKit Go.Shelf

theorem nd_eql_run {ty : TypeId} {x y : Operand} {A B : Array Value} {b : Bool} {w : World} (hG : Tryz.prog.eqGuardType Tryz.prog.depth ty = false) (hr : (Op.equalIn 10000 ty (.agg A) (.agg B)).run Tryz.prog w = .ok b w) :
    (do eqGuard .eql ty x y (.agg A) (.agg B); binOp .eql ty (.agg A) (.agg B) : Sem Value).run Tryz.prog w = .ok (.bool b) w := by
  have h1 : (eqGuard .eql ty x y (.agg A) (.agg B)).run Tryz.prog w = .ok () w := by
    have hp : (Sem.program Sem.pure).run Tryz.prog w = .ok Tryz.prog w := rfl
    simp only [eqGuard]
    simp [hG, hp, Sem.run_bind, program, go_sem]
  have h2 : (binOp .eql ty (.agg A) (.agg B)).run Tryz.prog w = .ok (.bool b) w := by
    unfold binOp Op.equal
    simp only [Sem.run_bind]
    rw [show Op.maxDepth = 10000 from rfl, hr]
    rfl
  simp only [Sem.run_bind, h1, h2, Result.andThen_ok]
/-- An equality of structs of which the run is known. -/
theorem ndList_eql {ops : Array Oper} {Q : Exit → Act → World → Prop} {w : World} {a : Act} {o : Oper} {rest : List Oper} (hgd : o.guard = none) (ty ty2 : TypeId) (x y : Operand) (ho : o.op = .binOp .eql ty x y ty2) (hG : Tryz.prog.eqGuardType Tryz.prog.depth ty = false) (A B : Array Value) (b : Bool) (hx : a.eval x = .agg A) (hy : a.eval y = .agg B)
    (hr : (Op.equalIn 10000 ty (.agg A) (.agg B)).run Tryz.prog w = .ok b w) (h : wpList Tryz.prog ops Q rest (a.put o.dst (.bool b)) w) : wpList Tryz.prog ops Q (o :: rest) a w :=
  wpList_plain hgd fun _ hK => by
    unfold Oper.wp execOp
    simp only [ho, hx, hy, Sem.run_bind, nd_eql_run (x := x) (y := y) hG hr, Result.andThen_ok]
    exact hK _ _ h
theorem ndList_eqlW {ops : Array Oper} {Q : Exit → Act → World → Prop} {w : World} {a : Act} {o : Oper} {rest : List Oper} (hwt : Region.wanted o (yielded ops a.tmps) = true) (ty ty2 : TypeId) (x y : Operand) (ho : o.op = .binOp .eql ty x y ty2) (hG : Tryz.prog.eqGuardType Tryz.prog.depth ty = false) (A B : Array Value) (b : Bool) (hx : a.eval x = .agg A) (hy : a.eval y = .agg B)
    (hr : (Op.equalIn 10000 ty (.agg A) (.agg B)).run Tryz.prog w = .ok b w) (h : wpList Tryz.prog ops Q rest (a.put o.dst (.bool b)) w) : wpList Tryz.prog ops Q (o :: rest) a w :=
  BigFrame.wpList_want hwt fun _ hK => by
    unfold Oper.wp execOp
    simp only [ho, hx, hy, Sem.run_bind, nd_eql_run (x := x) (y := y) hG hr, Result.andThen_ok]
    exact hK _ _ h
end Go.Proofs.YtaebipopmefkpaaGreatDoor
