/-
  A scope with one label, to which the run jumps forward.
-/
import Derived.Test.YtoaloeipgadkjaaWordS
import Derived.Scope
namespace Go.Proofs.Ytoaloeipgadkjaa
open Go.RowKit

section
variable {P : Program} {a : Act} {w : World} {Q : Exit → Act → World → Prop}
theorem Exit.jump_normal {l : Nat} {J : Act → World → Prop} : Exit.jump l J Q .normal a w = Q .normal a w := rfl
theorem Exit.jump_ret {l : Nat} {J : Act → World → Prop} : Exit.jump l J Q .ret a w = Q .ret a w := rfl
/-- A scope with one label, to which the run jumps forward. -/
theorem wp_scope_forward {c rest : Code} (l : Nat) (hf : findLabel c l = some rest)
    (first : c.wp P (Exit.jump l (fun a w => rest.wp P (Exit.jump l (fun _ _ => False) Q) a w) Q) a w) : (Code.scope c).wp P Q a w :=
  wp_scope_jumps l (fun a w => rest.wp P (Exit.jump l (fun _ _ => False) Q) a w) (fun _ _ => 0) hf first
    fun a w h => wp_mono h fun e a' w' h' => by
      cases e <;> first | exact h' | exact h'.2.elim
end
end Go.Proofs.Ytoaloeipgadkjaa
