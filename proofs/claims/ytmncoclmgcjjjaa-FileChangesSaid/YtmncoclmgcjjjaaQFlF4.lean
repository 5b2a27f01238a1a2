/-
  The law waterlinelaw09.FileChanges (P9.2, P9.3): it is told which chunks change; whatever the two lists of bytes, it answers true, and the bytes read as they did.
-/
import Derived.Test.YtmncoclmgcjjjaaMf11
import Derived.Test.YtmncoclmgcjjjaaQFlX
import Derived.Lib.SmallJoins
namespace Go.Proofs.Ytmncoclmgcjjjaa
namespace fFileChanges
open Go.ChangeShapes Go.WideShapes Go.ChangeAt Go.RowKit Go.Joins

set_option maxRecDepth 100000 in
theorem contract (H : Type) (enc : TypeId × Value → H) (W : World) (base : Nat) (args : Array Value) (ds gs : List (DataW H)) (before : List MemPlace)
    (hval : ∀ (j : Nat) t v, Try.f6.params[j]? = some t → args[j]? = some v → Value.okWide Try.prog W .any base t v)
    (hW : DataW.Whole enc Try.prog Try.f6.params.toList Rows.fileChangesSpec.vars false W args.toList ds gs before)
    (hsz0 : (DataW.weightsEach Try.prog (Try.f6.params.toList ++ (OpenSpec.ofChange Rows.fileChangesSpec).bare.plain.varTypes Try.prog) (ds ++ gs)).all (· ≤ reachBytes) = true) :
    Calls Try.prog 6 args W fun e W' => ∃ v, e = .returned v ∧ Rows.fileChangesSpec.post enc Try.prog Try.f6 false true false false W args v W' := by
  have hW' := hW
  obtain ⟨p, q, hA0, hV, hbef, hfz, hnd⟩ := hW
  have hA : DataW.TrodAll enc Try.prog W 0 (fun _ => true) true Try.f6.params.toList args.toList ds p := hA0
  have hsz : (DataW.weightsEach Try.prog (Try.f6.params.toList ++ Rows.fileChangesSpec.plain.varTypes Try.prog) (ds ++ gs)).all (· ≤ reachBytes) = true := hsz0
  clear hsz0
  rw [Try.params6] at hA hval hsz
  obtain ⟨v0, vs0, d0, ds0, p0, q0, hargs, rfl, rfl, h0, r0⟩ := trodAll_cons hA
  obtain ⟨v1, vs1, d1, ds1, p1, q1, rfl, rfl, rfl, h1, r1⟩ := trodAll_cons r0
  obtain ⟨rfl, rfl, rfl⟩ := trodAll_nil r1
  obtain rfl : args = #[v0, v1] := by cases args; simp_all
  have hlt0 : ∀ x ∈ p0, x.block < W.heap.size := fun x hx => hW'.lt x (by rw [hbef]; simp [hx])
  obtain ⟨xs0, hs0, hw0, hcase0⟩ := open_sl Try.underlying22 Try.underlying5 (by kernel_rfl) nn8 (hval 0 22 v0 rfl rfl) h0 hlt0
  have hcap0 : (v0 = .slice none 0 0 ∧ xs0 = []) ∨ ∃ a cap, v0 = .slice (some a) xs0.length cap ∧ cap * 1 ≤ 140737488351232 := by
    rcases hcase0 with ⟨e1, e2, _⟩ | ⟨a, cap, el, sp, e1, rfl, e3⟩
    · exact .inl ⟨e1, e2⟩
    · refine .inr ⟨a, cap, e1, ?_⟩
      have := sized_slice hsz (j := 0) (t := 22) (e := 5) rfl rfl Try.underlying22
      rw [show Try.prog.bytesOf 5 = 1 from by kernel_rfl, e3, show reachBytes = 140737488351232 from rfl] at this
      exact this
  have hl0 : xs0.length ≤ 140737488351232 := by
    rcases hcap0 with ⟨_, e⟩ | ⟨a, cap, e, hc⟩
    · simp [e]
    · obtain ⟨a', c', e', hlc, _⟩ := id hs0
      rw [e] at e'
      simp only [Value.slice.injEq] at e'
      omega
  have hlt1 : ∀ x ∈ p1, x.block < W.heap.size := fun x hx => hW'.lt x (by rw [hbef]; simp [hx])
  obtain ⟨xs1, hs1, hw1, hcase1⟩ := open_sl Try.underlying22 Try.underlying5 (by kernel_rfl) nn8 (hval 1 22 v1 rfl rfl) h1 hlt1
  have hcap1 : (v1 = .slice none 0 0 ∧ xs1 = []) ∨ ∃ a cap, v1 = .slice (some a) xs1.length cap ∧ cap * 1 ≤ 140737488351232 := by
    rcases hcase1 with ⟨e1, e2, _⟩ | ⟨a, cap, el, sp, e1, rfl, e3⟩
    · exact .inl ⟨e1, e2⟩
    · refine .inr ⟨a, cap, e1, ?_⟩
      have := sized_slice hsz (j := 1) (t := 22) (e := 5) rfl rfl Try.underlying22
      rw [show Try.prog.bytesOf 5 = 1 from by kernel_rfl, e3, show reachBytes = 140737488351232 from rfl] at this
      exact this
  have hl1 : xs1.length ≤ 140737488351232 := by
    rcases hcap1 with ⟨_, e⟩ | ⟨a, cap, e, hc⟩
    · simp [e]
    · obtain ⟨a', c', e', hlc, _⟩ := id hs1
      rw [e] at e'
      simp only [Value.slice.injEq] at e'
      omega
  refine (changes9_any W (fb_of hs0 hw0 hcap0) (fb_of hs1 hw1 hcap1)).mono fun e W' ⟨he, hb⟩ => ?_
  subst he
  exact ⟨_, rfl, law_post laidOut hW' rfl rfl rfl rfl (by kernel_rfl) rfl Try.underlying4 hb⟩
theorem laid_met (os : Os) : laidMet Try.prog Rows.fileChangesRow.laid ((World.holding Try.prog os ⟨#[], #[], []⟩).forCall (fun _ _ => 0) ⟨#[], #[.slice none 0 0, .slice none 0 0], []⟩).memory :=
  laidMet_of_run' 8 (by kernel_rfl) (by kernel_rfl)
theorem reads (os : Os) {H : Type} (enc : TypeId × Value → H) : ∃ places, DataW.whole enc Try.prog ((World.holding Try.prog os ⟨#[], #[], []⟩).forCall (fun _ _ => 0) ⟨#[], #[.slice none 0 0, .slice none 0 0], []⟩).memory Try.f6.params.toList Rows.fileChangesSpec.vars false (#[.slice none 0 0, .slice none 0 0] : Array Value).toList 8 = some ([.nil, .nil], [], places) :=
  ⟨[], by kernel_rfl⟩
set_option maxRecDepth 100000 in
theorem lifted (os : Os) (started : os.Started) (H : Type) (enc : TypeId × Value → H) (F : Stop.Interp) :
    ReturnsInHanded {} Try.checked os 6 .any ((OpenSpec.ofChange Rows.fileChangesSpec).preRow enc Try.prog Try.f6 Rows.fileChangesRow.domain false Rows.fileChangesRow.laid) (((OpenSpec.ofChange Rows.fileChangesSpec).at F).post enc Try.prog Try.f6 false true false false) := by
  obtain ⟨places, hx⟩ := reads os enc
  refine returnsInHanded_of_row (C := Try.checked) (s := OpenSpec.ofChange Rows.fileChangesSpec) own started (by kernel_rfl) Try.func6
    (witness_row_at (enc := enc) (C := Try.checked) false (World.holding Try.prog os ⟨#[], #[], []⟩) #[.slice none 0 0, .slice none 0 0] rfl (by kernel_rfl) (by kernel_rfl) (by kernel_rfl)
      (OpenSpec.preRow_of_cond 8 hx (by kernel_rfl) (fun k hk => by cases hk) (by kernel_rfl) (laid_met os))) ?_
  intro W base args ds gs before hval hW _ _ hsz _ _ _
  exact contract H enc W base args ds gs before hval hW hsz
/-- THE LAW, FOR EVERY INPUT. -/
theorem said : Rows.FileChangesSaid :=
  OpenClaim.holds_of_cond 6 Try.f6 rfl rfl rfl rfl rfl rfl rfl ⟨rfl, rfl, rfl, rfl, rfl⟩ rfl rfl rfl rfl rfl (by kernel_rfl) Try.func6 (by kernel_rfl)
    (of_decide_eq_true (by kernel_rfl)) (by unfold Func.isWrapper; first | (rw [if_pos (by decide +kernel)]; kernel_rfl) | (rw [if_neg (by decide +kernel)]; exact ⟨rfl, rfl⟩))
    (fun os started H enc _ F => by rw [OpenClaim.pre_eq_preRow]; exact lifted os started H enc F)
end fFileChanges
end Go.Proofs.Ytmncoclmgcjjjaa
