/-
  Contracts of slices.Chunk at bytes.
-/
import Derived.Test.YtoaloeipgadkjaaWordI
import Derived.Test.YtoaloeipgadkjaaWordN
import Derived.WalkLawsBesides
import Derived.Sort.QuietIn
namespace Go.Proofs.Ytoaloeipgadkjaa
open Go.RowKit Go.Shelf
attribute [local go_sem] Oper.semAt_some
/-- The slice value v holds the numbers xs of kind k. -/
def Sl (W : World) (k : IntKind) (v : Value) (xs : List Nat) : Prop :=
  ∃ (a : Option Addr) (cap : Nat), v = .slice a xs.length cap ∧ xs.length ≤ cap ∧ (0 < xs.length → ∃ b off, a = some ⟨b, off, none⟩ ∧ b < W.heap.size ∧ ∀ j, j < xs.length → W.cell? ⟨b, off + j, none⟩ = some (.int k ((xs[j]?.getD 0 : Nat) : Int)))
theorem Sl.below {W W' : World} {k : IntKind} {v : Value} {xs : List Nat} (h : Sl W k v xs) (hb : Below W.heap.size W W') : Sl W' k v xs := by
  obtain ⟨a, cap, hv, hl, hc⟩ := h
  refine ⟨a, cap, hv, hl, fun h0 => ?_⟩
  obtain ⟨b, off, ha, hlt, hj⟩ := hc h0
  exact ⟨b, off, ha, Nat.lt_of_lt_of_le hlt hb.size, fun j hl => (hb.cell (p := ⟨b, off + j, none⟩) hlt).trans (hj j hl)⟩
theorem chunk_any (a : Option Addr) (len cap : Nat) (w : World) :
    Calls Try.prog 44 #[.slice a len cap, .int .i64 8] w fun e w' => e = .returned (.func (.func 54) #[] #[.pointer (some ⟨w.heap.size, 0, none⟩), .pointer (some ⟨w.heap.size + 1, 0, none⟩)]) ∧ w' = (w.alloc (.cells #[.slice a len cap] 58)).alloc (.cells #[.int .i64 8] 3) := by
  go_enter Try.func44, Try.ntmps44
  go_wp2
  go_ret
  exact ⟨rfl, rfl⟩
/-- What an iterator over chunks needs: its two boxes. -/
def ChunkBlocks (Bs : Nat) (k : Nat) : Prop := k = Bs ∨ k = Bs + 1
theorem grownBy_drewN (W : World) (n : Nat) : W.grownBy (W.drewN n) none := ⟨rfl, rfl, rfl, Nat.le_refl _, fun _ _ _ => rfl⟩
theorem take_finRange (m k : Nat) (h : k < m) : (List.finRange m).take k ++ [⟨k, h⟩] = (List.finRange m).take (k + 1) := by
  rw [List.take_succ_eq_append_getElem (by simpa using h)]; simp
set_option maxRecDepth 100000 in
set_option maxHeartbeats 2000000 in
theorem chunk1_in (n : Nat) (hn : 1 ≤ n) (l Bs b off len cap m B0 : Nat) (hm : m = WM.need len) (hreach : cap ≤ 9223372036854775807) (hlen4 : len ≤ 4096) (hlc : len ≤ cap) (J Jx : List (Fin m) → World → Prop) (hJ : AbidesFrom B0 J)
    (hY : ∀ pre (y : Fin m) W, J pre W → pre.length < m → YieldAt Fence.wide (n - 1) Try.prog l #[.slice (some ⟨b, off + 8 * y.1, none⟩) (min 8 (len - 8 * y.1)) (min 8 (len - 8 * y.1))] W fun e W' =>
      (e = .returned (.bool true) ∧ J (pre ++ [y]) W' ∧ Keeps (ChunkBlocks Bs) W W') ∨ (e = .returned (.bool false) ∧ Jx (pre ++ [y]) W'))
    (W : World) (hB1 : W.cell? ⟨Bs, 0, none⟩ = some (.slice (some ⟨b, off, none⟩) len cap)) (hB2 : W.cell? ⟨Bs + 1, 0, none⟩ = some (.int .i64 8)) (h0 : J [] W) :
    CallsIn Fence.wide n Try.prog 54 #[.func (.yield l) #[] #[], .pointer (some ⟨Bs, 0, none⟩), .pointer (some ⟨Bs + 1, 0, none⟩)] W fun e W' => (∃ v, e = .returned v) ∧
      ((∃ ys, ys = List.finRange m ∧ J ys W') ∨ (∃ pre, pre <+: List.finRange m ∧ Jx pre W')) := by
  refine callsIn_of_wp Try.func54 rfl trivial ?_ rfl
  simp only [Try.ntmps54, List.size_toArray, List.length_cons, List.length_nil, Nat.reduceAdd, Nat.reduceSub, Array.replicate_succ, Array.replicate_zero, List.push_toArray, List.append_toArray, List.nil_append, List.cons_append]
  gi_wp2
  gi_loopw [4] (fun i wr => ∃ k : Nat, k ≤ m ∧ i = .int .i64 (8 * (k : Int)) ∧ J ((List.finRange m).take k) wr ∧ Keeps (ChunkBlocks Bs) W wr)
    (fun i _ => (8 * m - (intOf i).toNat))
  case atStart => exact ⟨0, Nat.zero_le _, rfl, by simpa using h0, Keeps.refl _ _⟩
  case round =>
    obtain ⟨k, hk, rfl, hJs, hb⟩ := hrel
    have c1 : wr.cell? ⟨Bs, 0, none⟩ = some (.slice (some ⟨b, off, none⟩) len cap) := hb.cell (q := ⟨Bs, 0, none⟩) (.inl rfl) hB1
    have c2 : wr.cell? ⟨Bs + 1, 0, none⟩ = some (.int .i64 8) := hb.cell (q := ⟨Bs + 1, 0, none⟩) (.inr rfl) hB2
    clear hB1 hB2
    by_cases hlt : k < m
    · have hk8 : 8 * k < len := by unfold WM.need at hm; omega
      have HM := Lib.hid hm; clear hm
      have HY := Lib.hid hY; clear hY
      have HJ := Lib.hid hJ; clear hJ
      have HF := Lib.hid (take_finRange m k hlt)
      have ew : IntKind.i64.wrap (8 * (k : Int) + 8) = 8 * ((k + 1 : Nat) : Int) := by rw [IntWalk.i64_in _ (by omega)]; omega
      have HW := Lib.hid ew; clear ew
      by_cases h8 : 8 ≤ len - 8 * k
      · have h8' : (8 : Int) ≤ ((len - 8 * k : Nat) : Int) := by omega
        have hq : (8 * (k : Int) + 8).toNat - 8 * k = 8 := by omega
        have hmin : min 8 (len - 8 * k) = 8 := by omega
        have HQ := Lib.hid hmin; clear hmin h8
        gi_wp2
        gi_quiet (fail)
        rename_i nq
        obtain ⟨fn, tmps, assign, body, hy, hR⟩ := HY.out _ ⟨k, hlt⟩ (wr.drewN nq) (HJ.out _ _ _ none hJs (grownBy_drewN _ _) (fun r e => by cases e)) (by simp; omega)
        dsimp only at hy
        rw [HQ.out] at hy
        rw [HF.out] at hR
        have HR := Lib.hid hR; clear hR
        gi_wp2
        refine HR.out.mono ?_
        rintro e W3 (⟨rfl, hJ3, hk3⟩ | ⟨rfl, hJx3⟩)
        · have c3 : W3.cell? ⟨Bs + 1, 0, none⟩ = some (.int .i64 8) := hk3.cell (q := ⟨Bs + 1, 0, none⟩) (.inr rfl) (by simpa [go_sem] using c2)
          gi_wp2
          go_roundw
          case rel => exact ⟨k + 1, by omega, by go_num, hJ3, (hb.drewN _).trans hk3⟩
          case measure => simp [intOf]; omega
        · gi_wp2
          refine bodyPost_ret (results_none rfl _ _ _) rfl ?_
          exact ⟨⟨_, rfl⟩, .inr ⟨_, List.take_prefix _ _, hJx3⟩⟩
      · have h8' : ((len - 8 * k : Nat) : Int) < 8 := by omega
        have hq : (8 * (k : Int) + ((len - 8 * k : Nat) : Int)).toNat - 8 * k = len - 8 * k := by omega
        have hle : 8 * (k : Int) + ((len - 8 * k : Nat) : Int) ≤ (cap : Int) := by omega
        have hle2 : 8 * (k : Int) + ((len - 8 * k : Nat) : Int) ≤ 9223372036854775807 := by omega
        have hmin : min 8 (len - 8 * k) = len - 8 * k := by omega
        have HQ := Lib.hid hmin; clear hmin h8
        gi_wp2
        gi_quiet (fail)
        rename_i nq
        obtain ⟨fn, tmps, assign, body, hy, hR⟩ := HY.out _ ⟨k, hlt⟩ (wr.drewN nq) (HJ.out _ _ _ none hJs (grownBy_drewN _ _) (fun r e => by cases e)) (by simp; omega)
        dsimp only at hy
        rw [HQ.out] at hy
        rw [HF.out] at hR
        have HR := Lib.hid hR; clear hR
        gi_wp2
        refine HR.out.mono ?_
        rintro e W3 (⟨rfl, hJ3, hk3⟩ | ⟨rfl, hJx3⟩)
        · have c3 : W3.cell? ⟨Bs + 1, 0, none⟩ = some (.int .i64 8) := hk3.cell (q := ⟨Bs + 1, 0, none⟩) (.inr rfl) (by simpa [go_sem] using c2)
          gi_wp2
          go_roundw
          case rel => exact ⟨k + 1, by omega, by go_num, hJ3, (hb.drewN _).trans hk3⟩
          case measure => simp [intOf]; omega
        · gi_wp2
          refine bodyPost_ret (results_none rfl _ _ _) rfl ?_
          exact ⟨⟨_, rfl⟩, .inr ⟨_, List.take_prefix _ _, hJx3⟩⟩
    · obtain rfl : k = m := by omega
      have hk8 : len ≤ 8 * k := by unfold WM.need at hm; omega
      have HM := Lib.hid hm; clear hm
      gi_wp2
      go_end0
      exact ⟨⟨_, rfl⟩, .inl ⟨_, by rw [List.take_of_length_le (by simp)], hJs⟩⟩
set_option maxRecDepth 100000 in
set_option maxHeartbeats 2000000 in
theorem chunk0_in (n : Nat) (l Bs cap : Nat) (a : Option Addr) (J : List (Fin 0) → World → Prop) (W : World) (hB1 : W.cell? ⟨Bs, 0, none⟩ = some (.slice a 0 cap)) (h0 : J [] W) :
    CallsIn Fence.wide n Try.prog 54 #[.func (.yield l) #[] #[], .pointer (some ⟨Bs, 0, none⟩), .pointer (some ⟨Bs + 1, 0, none⟩)] W fun e W' => (∃ v, e = .returned v) ∧ J [] W' := by
  refine callsIn_of_wp Try.func54 rfl trivial ?_ rfl
  simp only [Try.ntmps54, List.size_toArray, List.length_cons, List.length_nil, Nat.reduceAdd, Nat.reduceSub, Array.replicate_succ, Array.replicate_zero, List.push_toArray, List.append_toArray, List.nil_append, List.cons_append]
  gi_wp2
  gi_loopw [4] (fun i wr => i = .int .i64 0 ∧ J [] wr ∧ wr.cell? ⟨Bs, 0, none⟩ = some (.slice a 0 cap)) (fun _ _ => 0)
  case atStart => exact ⟨rfl, h0, hB1⟩
  case round =>
    obtain ⟨rfl, hJs, hc⟩ := hrel
    gi_wp2
    go_end0
    exact ⟨⟨_, rfl⟩, hJs⟩
/-- **slices.Chunk(b, 8) hands back an iterator over the chunks of eight bytes.** -/
theorem chunk_stops (n : Nat) (hn : 1 ≤ n) (Bs b off len cap : Nat) (a : Option Addr) (ha : 0 < len → a = some ⟨b, off, none⟩) (hreach : cap ≤ 9223372036854775807) (hlen4 : len ≤ 4096) (hlc : len ≤ cap) (w : World) (hBs : Bs + 1 < w.heap.size)
    (hB1 : w.cell? ⟨Bs, 0, none⟩ = some (.slice a len cap)) (hB2 : w.cell? ⟨Bs + 1, 0, none⟩ = some (.int .i64 8)) :
    SeqStopsK Fence.wide n Try.prog 54 #[.pointer (some ⟨Bs, 0, none⟩), .pointer (some ⟨Bs + 1, 0, none⟩)] (fun y : Fin (WM.need len) => #[Value.slice (some ⟨b, off + 8 * y.1, none⟩) (min 8 (len - 8 * y.1)) (min 8 (len - 8 * y.1))]) (Keeps (ChunkBlocks Bs))
      (fun ys => ys = List.finRange (WM.need len)) (fun pre => pre <+: List.finRange (WM.need len)) (WM.need len) w := fun l J Jx W hW hJ _ hY h0 => by
  rcases Nat.eq_zero_or_pos len with rfl | hl
  · exact (chunk0_in n l Bs cap a J W ((hW.cell (p := ⟨Bs, 0, none⟩) (show Bs < w.heap.size by omega)).trans hB1) h0).mono fun e W' ⟨he, hj⟩ => ⟨he, .inl ⟨_, rfl, hj⟩⟩
  · obtain rfl := ha hl
    exact chunk1_in n hn l Bs b off len cap (WM.need len) _ rfl hreach hlen4 hlc J Jx hJ hY W ((hW.cell (p := ⟨Bs, 0, none⟩) (show Bs < w.heap.size by omega)).trans hB1) ((hW.cell (p := ⟨Bs + 1, 0, none⟩) (show Bs + 1 < w.heap.size by omega)).trans hB2) h0
end Go.Proofs.Ytoaloeipgadkjaa
