/-
  Contracts of package sum's functions: take, told, seal, fold, More, Of, Seal, Sealed.
-/
import Derived.Test.YtoaloeipgadkjaaSumM
import Derived.Test.YtoaloeipgadkjaaBase
namespace Go.Proofs.Ytoaloeipgadkjaa
open Go.RowKit Go.Shelf

def U64s (l : List Nat) : Prop := ∀ x ∈ l, x < 18446744073709551616
theorem U64s.at {l : List Nat} (h : U64s l) (k : Nat) : l[k]?.getD 0 < 18446744073709551616 := by
  by_cases hk : k < l.length
  · simp [hk]; exact h _ (List.getElem_mem hk)
  · simp [List.getElem?_eq_none (by omega : l.length ≤ k)]
theorem take_any (s x B : Nat) (hs : s < 18446744073709551616) (hx : x < 18446744073709551616) (w : World) (hc : w.cell? ⟨B, 0, none⟩ = some (.int .u64 s)) (hf : w.frozen? ⟨B, 0, none⟩ = false) :
    Calls Try.prog 58 #[.pointer (some ⟨B, 0, none⟩), .int .u64 x] w fun e w' => e = .returned (.tuple #[]) ∧ w' = w.setCell ⟨B, 0, none⟩ (.int .u64 (SM.mix s x : Nat)) := by
  have H := Lib.hid (SM.mix_int s x hs hx)
  go_enter Try.func58, Try.ntmps58
  go_wp2
  go_end0
  exact ⟨rfl, by rw [H.out]⟩
theorem told_any (s : Nat) (w : World) : Calls Try.prog 59 #[.int .u64 s] w fun e w' => e = .returned (.int .u64 s) ∧ w = w' := by
  go_enter Try.func59, Try.ntmps59
  go_wp2
  go_ret
  exact ⟨rfl, rfl⟩
theorem foldS_any (v : Value) (xs : List Nat) (s B : Nat) (hl : xs.length ≤ 4096) (hx : U64s xs) (hs0 : s < 18446744073709551616) (w : World) (hs : Sl w .u64 v xs) (hB : ∀ b off c, v = .slice (some ⟨b, off, none⟩) xs.length c → 0 < xs.length → b < B) (hbx : Boxed w B 101 (.int .u64 s)) :
    Calls Try.prog 57 #[v, .func (.func 58) #[.pointer (some ⟨B, 0, none⟩)] #[]] w fun e w' => e = .returned (.tuple #[]) ∧ Boxed w' B 101 (.int .u64 (SM.sumFrom s xs : Nat)) ∧ Below B w w' := by
  obtain ⟨a, cap, rfl, hlc, hcells⟩ := hs
  have HC := Lib.hid hcells; clear hcells hlc
  have HX := Lib.hid hx; clear hx
  have HT := Lib.hid (List.take_length (l := xs))
  have HS := Lib.hid (SM.sumFrom_step s xs)
  generalize hn : xs.length = n at *
  have HN := Lib.hid hn; clear hn
  go_enter Try.func57, Try.ntmps57
  go_wp2
  go_loopw [8, 5] (fun i _ wr => ∃ k : Nat, k ≤ n ∧ i = .int .i64 k ∧ Boxed wr B 101 (.int .u64 (SM.sumFrom s (xs.take k) : Nat)) ∧ Below B w wr) (fun i _ _ => n - (intOf i).toNat)
  case atStart => exact ⟨0, Nat.zero_le _, rfl, hbx, Below.refl _ _⟩
  case round =>
    obtain ⟨k, hk, rfl, hbk, hb⟩ := hrel
    by_cases hlt : k < n
    · obtain ⟨b, off, rfl, hbl, hj⟩ := HC.out (by omega)
      have hbB : b < B := hB b off cap rfl (by omega)
      have hc : wr.cell? ⟨b, off + k, none⟩ = some (.int .u64 (xs[k]?.getD 0 : Nat)) := (hb.cell (p := ⟨b, off + k, none⟩) hbB).trans (hj k (by omega))
      have hxk := HX.out.at k
      have HK := Lib.hid (HS.out k hlt)
      have hj1 := Lib.hid (take_any (SM.sumFrom s (xs.take k)) (xs[k]?.getD 0) B (SM.sumFrom_lt _ _ hs0) hxk wr hbk.cell hbk.frozen)
      clear hj HC HS hxk
      generalize hxe : xs[k]?.getD 0 = x at *
      clear hxe
      go_wp2_with fail
      refine hj1.out.mono ?_
      rintro e w1 ⟨rfl, rfl⟩
      go_wp2_with fail
      go_roundw
      case rel => exact ⟨k + 1, by omega, by go_num, by rw [HK.out]; exact hbk.set _, hb.setCell (Nat.le_refl _) _⟩
      case measure => simp [intOf]; omega
    · obtain rfl : k = n := by omega
      go_wp2
      go_end0
      exact ⟨rfl, by rw [HT.out] at hbk; exact hbk, hb⟩
theorem more_any (v : Value) (xs : List Nat) (s : Nat) (hl : xs.length ≤ 4096) (hx : U64s xs) (hs0 : s < 18446744073709551616) (w : World) (hs : Sl w .u64 v xs) :
    Calls Try.prog 46 #[.int .u64 s, v] w fun e w' => e = .returned (.tuple #[.int .u64 (SM.sumFrom s xs : Nat), .int .i64 0]) ∧ Below w.heap.size w w' := by
  have hs' := hs.below ((Below.refl _ _).alloc (Nat.le_refl _) (.cells #[.int .u64 s] 101))
  have hf := Lib.hid (foldS_any v xs s w.heap.size hl hx hs0 _ hs' (by
    rintro b off c rfl h0
    obtain ⟨a, cap, e, _, h⟩ := hs
    obtain ⟨b', off', ea, hlt, _⟩ := h h0
    simp only [Value.slice.injEq] at e
    obtain ⟨e1, _, _⟩ := e
    rw [ea] at e1; simp at e1
    omega) (Boxed.new w 101 (.int .u64 s)))
  obtain ⟨a, cap, b, off, rfl, -, -, -⟩ := hs.cell
  have k1 : (xs.length : Int) ≤ 4096 := by omega
  clear hs hs'
  go_enter Try.func46, Try.ntmps46
  go_wp2
  refine wp_scope_forward 0 rfl ?_
  go_wp2_with fail
  refine hf.out.mono ?_
  rintro e w1 ⟨rfl, hbx, hb1⟩
  have hc1 := hbx.cell
  have hlt1 := hbx.lt
  go_wp2_with (go_at_call 59; refine (told_any _ _).mono ?_; rintro e w' ⟨rfl, rfl⟩)
  rw [Exit.jump_ret]
  go_ret2
  exact ⟨rfl, ((Below.refl _ _).alloc (Nat.le_refl _) _).trans hb1⟩
theorem more_long (v : Value) (xs : List Nat) (s : Nat) (hl : 4096 < xs.length) (hl2 : xs.length ≤ 140737488351232) (w : World) (hs : Sl w .u64 v xs) :
    Calls Try.prog 46 #[.int .u64 s, v] w fun e w' => e = .returned (.tuple #[.int .u64 0, .int .i64 3]) ∧ Below w.heap.size w w' := by
  obtain ⟨a, cap, b, off, rfl, -, -, -⟩ := hs.cell
  have k1 : 4096 < (xs.length : Int) := by omega
  clear hs
  go_enter Try.func46, Try.ntmps46
  go_wp2
  refine wp_scope_forward 0 rfl ?_
  go_wp2
  go_step3
  refine ⟨rfl, ?_⟩
  go_wp2
  rw [Exit.jump_ret]
  go_ret2
  exact ⟨rfl, (Below.refl _ _).alloc (Nat.le_refl _) _⟩
theorem of_any (v : Value) (xs : List Nat) (hl : xs.length ≤ 4096) (hx : U64s xs) (w : World) (hs : Sl w .u64 v xs) :
    Calls Try.prog 34 #[v] w fun e w' => e = .returned (.tuple #[.int .u64 (SM.sumOf xs : Nat), .int .i64 0]) ∧ Below w.heap.size w w' := by
  have hf := Lib.hid (more_any v xs SM.start hl hx SM.start_lt w hs)
  clear hs
  go_enter Try.func34, Try.ntmps34
  go_wp2_with fail
  refine hf.out.mono ?_
  rintro e w1 ⟨rfl, hb1⟩
  go_wp2_with fail
  go_ret2
  exact ⟨rfl, hb1⟩
theorem of_long (v : Value) (xs : List Nat) (hl : 4096 < xs.length) (hl2 : xs.length ≤ 140737488351232) (w : World) (hs : Sl w .u64 v xs) :
    Calls Try.prog 34 #[v] w fun e w' => e = .returned (.tuple #[.int .u64 0, .int .i64 3]) ∧ Below w.heap.size w w' := by
  have hf := Lib.hid (more_long v xs SM.start hl hl2 w hs)
  clear hs
  go_enter Try.func34, Try.ntmps34
  go_wp2_with fail
  refine hf.out.mono ?_
  rintro e w1 ⟨rfl, hb1⟩
  go_wp2_with fail
  go_ret2
  exact ⟨rfl, hb1⟩
end Go.Proofs.Ytoaloeipgadkjaa
