/-
  The law waterlinelaw01.WordBytes (P1.2, P1.4): words of bytes: for every list of bytes. The package-level tables hold what the program's text lays (the card ties them).
-/
import Derived.Test.YtlkbikgeghafgaaDoorCards
import Derived.Test.YtlkbikgeghafgaaDoorTie
import Derived.Test.YtlkbikgeghafgaaDoorWordF
import Derived.Test.YtlkbikgeghafgaaDoorWordO
import Derived.Test.YtlkbikgeghafgaaDoorWordL2
namespace Go.Proofs.YtlkbikgeghafgaaDoor
namespace fWordBytes
open Go.ChangeShapes Go.WideShapes Go.ChangeAt Go.RowKit Go.Joins

theorem contract (H : Type) (enc : TypeId × Value → H) (W : World) (base : Nat) (args : Array Value) (ds gs : List (DataW H)) (before : List MemPlace)
    (hval : ∀ (j : Nat) t v, Tryd.f4.params[j]? = some t → args[j]? = some v → Value.okWide Tryd.prog W .any base t v)
    (hW : DataW.Whole enc Tryd.prog Tryd.f4.params.toList Rows.wordBytesSpec.vars false W args.toList ds gs before)
    (hsz0 : (DataW.weightsEach Tryd.prog (Tryd.f4.params.toList ++ (OpenSpec.ofChange Rows.wordBytesSpec).bare.plain.varTypes Tryd.prog) (ds ++ gs)).all (· ≤ reachBytes) = true) (hL : laidMetH Tryd.prog Rows.wordBytesRow.laid W) :
    Calls Tryd.prog 4 args W fun e W' => ∃ v, e = .returned v ∧ Rows.wordBytesSpec.post enc Tryd.prog Tryd.f4 false true false false W args v W' := by
  have hW' := hW
  obtain ⟨p, q, hA0, hV, hbef, hfz, hnd⟩ := hW
  have hA : DataW.TrodAll enc Tryd.prog W 0 (fun _ => true) true Tryd.f4.params.toList args.toList ds p := hA0
  have hsz : (DataW.weightsEach Tryd.prog (Tryd.f4.params.toList ++ Rows.wordBytesSpec.plain.varTypes Tryd.prog) (ds ++ gs)).all (· ≤ reachBytes) = true := hsz0
  clear hsz0
  rw [Tryd.params4] at hA hval hsz
  obtain ⟨v0, vs0, d0, ds0, p0, q0, hargs, rfl, rfl, h0, r0⟩ := trodAll_cons hA
  obtain ⟨rfl, rfl, rfl⟩ := trodAll_nil r0
  obtain rfl : args = #[v0] := by cases args; simp_all
  have hlt : ∀ x ∈ p0, x.block < W.heap.size := fun x hx => hW'.lt x (by rw [hbef]; exact List.mem_append_left _ (by simpa using hx))
  obtain ⟨xs, hs, hw, hcase⟩ := open_sl Tryd.underlying36 Tryd.underlying5 (by kernel_rfl) nn8 (hval 0 36 v0 rfl rfl) h0 hlt
  have ht := tabs_of_laid hL
  have hcap : (v0 = .slice none 0 0 ∧ xs = []) ∨ ∃ a cap, v0 = .slice (some a) xs.length cap ∧ cap * 1 ≤ 140737488351232 := by
    rcases hcase with ⟨e1, e2, _⟩ | ⟨a, cap, el, sp, e1, rfl, e3⟩
    · exact .inl ⟨e1, e2⟩
    · refine .inr ⟨a, cap, e1, ?_⟩
      have := sized_slice hsz (j := 0) (t := 36) (e := 5) rfl rfl Tryd.underlying36
      rw [show Tryd.prog.bytesOf 5 = 1 from by kernel_rfl, e3, show reachBytes = 140737488351232 from rfl] at this
      exact this
  have hl : xs.length ≤ 140737488351232 := by
    rcases hcap with ⟨_, e⟩ | ⟨a, cap, e, hc⟩
    · simp [e]
    · obtain ⟨a', c', e', hlc, _⟩ := id hs
      rw [e] at e'
      simp only [Value.slice.injEq] at e'
      omega
  have h256 : WM.Bytes256 xs := getD_all (by decide) (fun x hx => by have := bounds_u8 (hw x hx); omega)
  have hcap2 : ∀ a n c, v0 = .slice a n c → c ≤ 140737488351232 := fun a n c e => by
    rcases hcap with ⟨e', _⟩ | ⟨a', cap, e', hc⟩
    · rw [e] at e'; simp only [Value.slice.injEq] at e'; omega
    · rw [e] at e'; simp only [Value.slice.injEq] at e'; omega
  refine (lawBytes_any v0 xs hl h256 W ht hs hcap2).mono fun e W' ⟨he, hb⟩ => ?_
  subst he
  exact ⟨_, rfl, law_post laidOut hW' rfl rfl rfl rfl (by kernel_rfl) rfl Tryd.underlying4 hb⟩
theorem laid_met (os : Os) : laidMet Tryd.prog Rows.wordBytesRow.laid ((laidWorld os).forCall (fun _ _ => 0) ⟨#[], #[.slice none 0 0], []⟩).memory :=
  laidMet_of_run' 8 (by kernel_rfl) (by kernel_rfl)
theorem reads (os : Os) {H : Type} (enc : TypeId × Value → H) : ∃ places, DataW.whole enc Tryd.prog ((laidWorld os).forCall (fun _ _ => 0) ⟨#[], #[.slice none 0 0], []⟩).memory Tryd.f4.params.toList Rows.wordBytesSpec.vars false (#[.slice none 0 0] : Array Value).toList 8 = some ([.nil], [], places) :=
  ⟨[], by kernel_rfl⟩
set_option maxRecDepth 100000 in
theorem lifted (os : Os) (started : os.Started) (H : Type) (enc : TypeId × Value → H) (F : Stop.Interp) :
    ReturnsInHanded {} Tryd.checked os 4 .any ((OpenSpec.ofChange Rows.wordBytesSpec).preRow enc Tryd.prog Tryd.f4 Rows.wordBytesRow.domain false Rows.wordBytesRow.laid) (((OpenSpec.ofChange Rows.wordBytesSpec).at F).post enc Tryd.prog Tryd.f4 false true false false) := by
  obtain ⟨places, hx⟩ := reads os enc
  refine returnsInHanded_of_row (C := Tryd.checked) (s := OpenSpec.ofChange Rows.wordBytesSpec) own started (by kernel_rfl) Tryd.func4
    (witness_row_at (enc := enc) (C := Tryd.checked) false (laidWorld os) #[.slice none 0 0] rfl (by kernel_rfl) (by kernel_rfl) (by kernel_rfl)
      (OpenSpec.preRow_of_cond 8 hx (by kernel_rfl) (fun k hk => by cases hk) (by kernel_rfl) (laid_met os))) ?_
  intro W base args ds gs before hval hW _ _ hsz hL _ _
  exact contract H enc W base args ds gs before hval hW hsz hL
theorem said : Rows.WordBytesSaid :=
  OpenClaim.holds_of_cond 4 Tryd.f4 rfl rfl rfl rfl rfl rfl rfl ⟨rfl, rfl, rfl, rfl, rfl⟩ rfl rfl rfl rfl rfl (by kernel_rfl) Tryd.func4 (by kernel_rfl)
    (of_decide_eq_true (by kernel_rfl)) (by unfold Func.isWrapper; first | (rw [if_pos (by decide +kernel)]; kernel_rfl) | (rw [if_neg (by decide +kernel)]; exact ⟨rfl, rfl⟩))
    (fun os started H enc _ F => by rw [OpenClaim.pre_eq_preRow]; exact lifted os started H enc F)
theorem plain (f : FuncId) (fn : Func) (hf : Tryd.pinned.checked.prog.funcNamed "waterline/waterlinelaw01.WordBytes" = some f) (hfn : Tryd.pinned.checked.prog.funcs[f]? = some fn) :
    false = Tryd.pinned.checked.prog.looks [] ∧ ∀ (j : Nat) t, fn.params[j]? = some t → Tryd.pinned.checked.prog.wantsStandIn t = false := by
  obtain rfl : f = 4 := Option.some.inj ((show Tryd.prog.funcNamed "waterline/waterlinelaw01.WordBytes" = some 4 by kernel_rfl).symm.trans hf) |>.symm
  obtain rfl : fn = Tryd.f4 := (Option.some.inj (Tryd.func4.symm.trans hfn)).symm
  refine ⟨by kernel_rfl, fun j t ht => ?_⟩
  have hall : Tryd.f4.params.all (fun t => !Tryd.prog.wantsStandIn t) = true := by kernel_rfl
  have := (Array.all_eq_true_iff_forall_mem.1 hall) t (Array.mem_of_getElem? ht)
  exact (show Tryd.prog.wantsStandIn t = false by simpa using this)
/-- ████ THE CARD ████ -/
theorem card : Rows.WordBytesCardSaid :=
  Claim7.holds_tied_plain_at .later [] _ _ _ _ said (fun _ h => by cases h) (by kernel_rfl) (fun _ h => by cases h) wordBytes_row_tie rfl ⟨rfl, rfl⟩ (by kernel_rfl) rfl plain (by kernel_rfl)
end fWordBytes
end Go.Proofs.YtlkbikgeghafgaaDoor
