/-
  label: a text's bytes as an iterator; first.
-/
import Derived.RangeFuncCalls
import Derived.Test.YtoaloeipgadkjaaLaC
import Derived.Test.YtoaloeipgadkjaaRowG
namespace Go.Proofs.Ytoaloeipgadkjaa
open Go.RowKit Go.Shelf Go.Sort
attribute [local go_sem] Oper.semAt_some

theorem laBytes_any (s : List UInt8) (w : World) :
    Calls Try.prog 36 #[encStr s] w fun e w' => ∃ p g c, e = .returned (.func (.func 63) #[] #[.pointer (some ⟨p, 0, none⟩)]) ∧
      Boxed w' p 58 (.slice (some ⟨g, 0, none⟩) s.length c) ∧ Sl w' .u8 (.slice (some ⟨g, 0, none⟩) s.length c) (bsN s) ∧ w.heap.size ≤ p ∧ w.heap.size ≤ g ∧ g < w'.heap.size ∧ Below w.heap.size w w' := by
  have hcv := fun W => conv_bytes 50 Try.underlying50 s W
  have hv : Calls Try.prog 50 #[.slice (some ⟨w.heap.size, 0, none⟩) s.length (capC w s)] (bytesW w s) fun e w' => e = .returned (.func (.func 63) #[] #[.pointer (some ⟨(bytesW w s).heap.size, 0, none⟩)]) ∧ w' = (bytesW w s).alloc (.cells #[.slice (some ⟨w.heap.size, 0, none⟩) s.length (capC w s)] 58) := by
    generalize bytesW w s = W
    go_enter Try.func50, Try.ntmps50
    go_wp2
    go_ret
    exact ⟨rfl, rfl⟩
  have HV := Lib.hid hv
  clear hv
  go_enter Try.func36, Try.ntmps36
  go_wp2_with fail
  refine HV.out.mono ?_
  rintro e w1 ⟨rfl, rfl⟩
  go_wp2_with fail
  go_ret
  have hb1 : Below (bytesW w s).heap.size (bytesW w s) ((bytesW w s).alloc (.cells #[.slice (some ⟨w.heap.size, 0, none⟩) s.length (capC w s)] 58)) := (Below.refl _ _).alloc (Nat.le_refl _) _
  have hz := bytesW_size w s
  exact ⟨_, _, _, rfl, Boxed.new _ _ _, (bytesW_sl w s).below hb1, by omega, Nat.le_refl _, by rw [World.size_alloc]; omega, (bytesW_below w s).trans (hb1.mono (by omega))⟩
abbrev encB (x : Nat) : Array Value := #[.int .u8 (x : Nat)]
def vaP (p g : Nat) (k : Nat) : Prop := k = p ∨ k = g
set_option maxRecDepth 100000 in
set_option maxHeartbeats 4000000 in
theorem values_seq (n : Nat) (_ : 1 ≤ n) {p g c : Nat} {xs : List Nat} (w : World) (hbx : Boxed w p 58 (.slice (some ⟨g, 0, none⟩) xs.length c)) (hs : Sl w .u8 (.slice (some ⟨g, 0, none⟩) xs.length c) xs) (hg : g < w.heap.size) (hl : xs.length ≤ 140737488355328) :
    SeqF (vaP p g) n Try.prog 63 #[.pointer (some ⟨p, 0, none⟩)] encB (fun ys => ys = xs) (fun pre => pre <+: xs) w := fun lp J Jx W hW hJ hJx hY h0 => by
  have c0 : W.cell? ⟨p, 0, none⟩ = some (.slice (some ⟨g, 0, none⟩) xs.length c) := Boxed.cell ((hW.block _ hbx.lt).trans hbx)
  have HC := Lib.hid (fun (k : Nat) (hk : k < xs.length) => show W.cell? ⟨g, k, none⟩ = some (.int .u8 (xs[k]?.getD 0 : Nat)) from by
    obtain ⟨a', cap', e0, -, h⟩ := hs
    obtain ⟨b, off, ea, hlt, hj⟩ := h (by omega)
    simp only [Value.slice.injEq] at e0
    obtain ⟨rfl, -, -⟩ := e0
    simp only [Option.some.injEq, Addr.mk.injEq, and_true] at ea
    obtain ⟨rfl, rfl⟩ := ea
    have := hj k hk
    rw [Nat.zero_add] at this
    exact (hW.cell (p := ⟨g, k, none⟩) hg).trans this)
  have hgW : g < W.heap.size := Nat.lt_of_lt_of_le hg hW.size
  have HY := Lib.hid hY
  clear hY hJ hJx hs hbx hW
  obtain ⟨M, hM⟩ : ∃ M, xs.length = M := ⟨_, rfl⟩
  have HM := Lib.hid hM
  rw [hM] at c0 HC hl
  have HT := Lib.hid (fun (k : Nat) (hk : k < M) => show xs.take k ++ [xs[k]?.getD 0] = xs.take (k + 1) from by
    rw [List.take_succ_eq_append_getElem (by omega), List.getElem?_eq_getElem (by omega)]; rfl)
  clear hM
  refine callsIn_of_wp Try.func63 rfl trivial ?_ rfl
  simp only [Try.ntmps63, List.size_toArray, List.length_cons, List.length_nil, Nat.reduceAdd, Nat.reduceSub, Array.replicate_succ, Array.replicate_zero, List.push_toArray, List.append_toArray, List.nil_append, List.cons_append]
  gi_wp2_with fail
  gi_loopw [7] (fun i wr => ∃ k : Nat, k ≤ M ∧ i = .int .i64 (k : Nat) ∧ Hid (J (xs.take k) (fun _ => False) wr) ∧ Hid (Keeps (vaP p g) W wr)) (fun i _ => M - (intOf i).toNat)
  case atStart => exact ⟨0, Nat.zero_le _, rfl, Lib.hid (by simpa using h0), Lib.hid (Keeps.refl _ _)⟩
  case round =>
    obtain ⟨k, hk, rfl, HJs, HKP⟩ := hrel
    clear c0
    by_cases hlt : k < M
    · have ck := (World.cell?_of_block (a := ⟨g, k, none⟩) (HKP.out.2 g (.inr rfl) hgW)).trans (HC.out k hlt)
      have HF := Lib.hid (HT.out k hlt)
      obtain ⟨fn, tmps, assign, body, hy, hR⟩ := HY.out _ (xs[k]?.getD 0) _ _ HJs.out HKP.out.1 (fun q h => h.elim) (by rw [HF.out]; exact List.take_prefix _ _)
      rw [HF.out] at hR
      have HR := Lib.hid hR
      unfold encB at hy
      obtain ⟨z, hz⟩ : ∃ z, xs[k]?.getD 0 = z := ⟨_, rfl⟩
      rw [hz] at hy ck
      have k2 : (k : Int) < (M : Int) := by omega
      clear hR hz
      gi_wp2_with fail
      refine HR.out.mono ?_
      rintro e W3 ⟨hk3, ⟨rfl, hJ3⟩ | ⟨rfl, hJx3⟩⟩
      · have HKP3 : Hid (Keeps (vaP p g) W W3) := show Keeps _ _ _ from HKP.out.trans (hk3.weaken fun k h => .inl h)
        have HJ3 := Lib.hid hJ3
        clear hy hk3 hJ3 ck
        gi_wp2_with fail
        go_roundw
        case rel => exact ⟨k + 1, by omega, by go_num, HJ3, HKP3⟩
        case measure => simp [intOf]; omega
      · clear hy ck
        gi_wp2_with fail
        refine bodyPost_ret (results_none rfl _ _ _) rfl ?_
        exact ⟨⟨_, rfl⟩, .inr ⟨_, List.take_prefix _ _, hJx3⟩⟩
    · obtain rfl : k = M := by omega
      gi_wp2_with fail
      go_end0
      exact ⟨⟨_, rfl⟩, .inl ⟨_, by rw [List.take_of_length_le (by rw [HM.out]; exact Nat.le_refl _)], HJs.out⟩⟩
end Go.Proofs.Ytoaloeipgadkjaa
