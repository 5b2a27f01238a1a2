/-
  trace: Stores' iterator.
-/
import Derived.Test.YtkpiehejkhjhlaaTrS
namespace Go.Proofs.Ytkpiehejkhjhlaa
open Go.RowKit Go.Shelf Go.Maps

/-- What a list stores. -/
def putsV (ts : List Tch) : List (Nat × Int) := (addrsV ts).map fun k : Nat => (k, (wordsV ts (k : Int)).getD 0)
abbrev encS (x : Nat × Int) : Array Value := #[.int .i64 (x.1 : Nat), .int .u64 x.2]
/-- The iterator's blocks. -/
def stP (u : Value) (B m : Nat) (k : Nat) : Prop := u.ownBlock = some k ∨ k = B ∨ k = m
theorem addrs_short (ts : List Tch) : (addrsV ts).length ≤ 8192 := by
  unfold addrsV
  exact Nat.le_trans (List.length_filter_le _ _) (by simp)
theorem putsV_snoc (ts : List Tch) (k : Nat) (h : k < (addrsV ts).length) : (putsV ts).take k ++ [((addrsV ts)[k]?.getD 0, (wordsV ts (((addrsV ts)[k]?.getD 0 : Nat) : Int)).getD 0)] = (putsV ts).take (k + 1) := by
  unfold putsV
  rw [List.take_succ_eq_append_getElem (by simpa using h), List.getElem?_eq_getElem h]
  simp
theorem addrs_in64 (ts : List Tch) (k : Nat) : in64 ((addrsV ts)[k]?.getD 0 : Nat) := by
  have h : (addrsV ts)[k]?.getD 0 < 8192 := by
    cases e : (addrsV ts)[k]? with
    | none => exact (by decide : 0 < 8192)
    | some x =>
      have hm := List.mem_of_getElem? e
      unfold addrsV at hm
      exact List.mem_range.1 (List.mem_filter.1 hm).1
  unfold in64
  omega
set_option maxRecDepth 100000 in
set_option maxHeartbeats 4000000 in
theorem stores_seq (n : Nat) (hn : 1 ≤ n) {B p m c : Nat} {u : Value} {ts : List Tch} (w : World) (h : StoresAt w B p m u c ts) :
    SeqF (stP u B m) n Try.prog 41 #[.pointer (some ⟨p, 0, none⟩), .pointer (some ⟨m, 0, none⟩)] encS (fun ys => ys = putsV ts) (fun pre => pre <+: putsV ts) w := fun lp J Jx W hW hJ hJx hY h0 => by
  have c0 : W.cell? ⟨p, 0, none⟩ = some u := Boxed.cell ((hW.block _ h.box.lt).trans h.box)
  have hlp : p < W.heap.size := Nat.lt_of_lt_of_le h.box.lt hW.size
  have hlm : m < W.heap.size := Nat.lt_of_lt_of_le h.mbox.lt hW.size
  have hlB : B < W.heap.size := Nat.lt_of_lt_of_le h.map.lt hW.size
  have HMP := Lib.hid (h.map.below hW)
  have HMB : Hid (Boxed W m 56 (.map (some B))) := show Boxed _ _ _ _ from (hW.block _ h.mbox.lt).trans h.mbox
  have hrow := h.row
  have hsl := own_slice2 hrow
  obtain ⟨ua, uc, rfl⟩ := hsl
  have HA := Lib.hid (fun h0 : 0 < (addrsV ts).length => And.intro (own_form hrow h0) (fun (g : Nat) (e : ua = some ⟨g, 0, none⟩) (k : Nat) (hk : k < (addrsV ts).length) => (hW.cell (p := ⟨g, k, none⟩) (own_lt2 (e ▸ hrow))).trans (own_cell (e ▸ hrow) k hk)))
  have HG := Lib.hid (fun (g : Nat) (e : ua = some ⟨g, 0, none⟩) => Nat.lt_of_lt_of_le (own_lt2 (e ▸ hrow)) hW.size)
  have HY := Lib.hid hY
  have HJ := Lib.hid hJ
  have HJX := Lib.hid hJx
  have hM := addrs_short ts
  clear hY hJ hJx h hrow hW
  obtain ⟨M, hmm⟩ : ∃ M, (addrsV ts).length = M := ⟨_, rfl⟩
  have HM := Lib.hid hmm
  rw [hmm] at c0 hM
  have HPL : Hid ((putsV ts).length = M) := show _ = _ by unfold putsV; rw [List.length_map, hmm]
  obtain ⟨pp, hpp⟩ : ∃ pp, stP (.slice ua (addrsV ts).length uc) B m = pp := ⟨_, rfl⟩
  have HPP : Hid (pp B ∧ pp m ∧ ∀ g, ua = some ⟨g, 0, none⟩ → pp g) := show _ ∧ _ by
    rw [← hpp]
    exact ⟨.inr (.inl rfl), .inr (.inr rfl), fun g e => .inl (by rw [e]; rfl)⟩
  rw [hpp] at HY
  clear hmm hpp
  refine callsIn_of_wp Try.func41 rfl trivial ?_ rfl
  simp only [Try.ntmps41, List.size_toArray, List.length_cons, List.length_nil, Nat.reduceAdd, Nat.reduceSub, Array.replicate_succ, Array.replicate_zero, List.push_toArray, List.append_toArray, List.nil_append, List.cons_append]
  gi_wp2_with fail
  gi_loopw [8] (fun i wr => ∃ k : Nat, k ≤ M ∧ i = .int .i64 (k : Nat) ∧ Hid (J ((putsV ts).take k) (fun _ => False) wr) ∧ Hid (Keeps pp W wr)) (fun i _ => M - (intOf i).toNat)
  case atStart => exact ⟨0, Nat.zero_le _, rfl, Lib.hid (by simpa using h0), Lib.hid (Keeps.refl _ _)⟩
  case round =>
    obtain ⟨k, hk, rfl, HJs, HKP⟩ := hrel
    clear c0
    by_cases hlt : k < M
    · have hkl : k < (addrsV ts).length := by rw [HM.out]; exact hlt
      obtain ⟨⟨g, cap, e0, _⟩, hcell⟩ := HA.out (by omega)
      simp only [Value.slice.injEq, true_and] at e0
      obtain ⟨rfl, rfl⟩ := e0
      have hgW := HG.out g rfl
      have ck := (World.cell?_of_block (a := ⟨g, k, none⟩) (HKP.out.2 g (HPP.out.2.2 g rfl) hgW)).trans (hcell g rfl k hkl)
      have hmb : Boxed wr m 56 (.map (some B)) := (HKP.out.2 m HPP.out.2.1 hlm).trans HMB.out
      have cm := hmb.cell
      have hmp := HMP.out.keep (HKP.out.2 B HPP.out.1 hlB)
      have HF := Lib.hid (putsV_snoc ts k hkl)
      have h64 := addrs_in64 ts k
      obtain ⟨fn, tmps, assign, body, hy, hR⟩ := HY.out _ ((addrsV ts)[k]?.getD 0, (wordsV ts (((addrsV ts)[k]?.getD 0 : Nat) : Int)).getD 0) _ _ HJs.out HKP.out.1 (fun q h => h.elim) (by rw [HF.out]; exact List.take_prefix _ _)
      rw [HF.out] at hR
      have HR := Lib.hid hR
      unfold encS at hy
      obtain ⟨z, hz⟩ : ∃ z, (addrsV ts)[k]?.getD 0 = z := ⟨_, rfl⟩
      rw [hz] at hy ck h64
      have hlk := hmp.look (t := 56) Try.underlying56 Try.underlying30 zeroU h64
      obtain ⟨x, hx⟩ : ∃ x, (wordsV ts ((z : Nat) : Int)).getD 0 = x := ⟨_, rfl⟩
      rw [hx] at hlk hy
      have k2 : (k : Int) < (M : Int) := by omega
      clear hR hz hcell hmb hmp h64 hx
      gi_wp2_with fail
      refine HR.out.mono ?_
      rintro e W3 ⟨hk3, ⟨rfl, hJ3⟩ | ⟨rfl, hJx3⟩⟩
      · have HKP3 : Hid (Keeps pp W W3) := show Keeps _ _ _ from HKP.out.trans (hk3.weaken fun k h => .inl h)
        have HJ3 := Lib.hid hJ3
        clear hy hk3 hJ3 ck cm hlk
        gi_wp2_with fail
        go_roundw
        case rel => exact ⟨k + 1, by omega, by go_num, HJ3, HKP3⟩
        case measure => simp [intOf]; omega
      · clear hy ck cm hlk
        gi_wp2_with fail
        refine bodyPost_ret (results_none rfl _ _ _) rfl ?_
        exact ⟨⟨_, rfl⟩, .inr ⟨_, List.take_prefix _ _, hJx3⟩⟩
    · obtain rfl : k = M := by omega
      gi_wp2_with fail
      go_end0
      exact ⟨⟨_, rfl⟩, .inl ⟨_, by rw [List.take_of_length_le (by rw [HPL.out]; exact Nat.le_refl _)], HJs.out⟩⟩
end Go.Proofs.Ytkpiehejkhjhlaa
