/-
  Contracts of word's joined and of the fold over bytes.
-/
import Derived.Test.YtoaloeipgadkjaaWordC
namespace Go.Proofs.Ytoaloeipgadkjaa
open Go.RowKit Go.Shelf

theorem or_int (x a k : Nat) (hx : x < 18446744073709551616) : bits .or .u64 (x : Int) (IntKind.u64.wrap ((a : Int) * 2 ^ k)) = ((x ||| (a * 2 ^ k % 18446744073709551616) : Nat) : Int) := by
  rw [WM.shl_int, u64_or_nat _ _ hx (Nat.mod_lt _ (by decide))]
theorem joined1_any (x a k B : Nat) (hx : x < 18446744073709551616) (ha : a < 256) (hk : k ≤ 64) (w : World) (hc : w.cell? ⟨B, 0, none⟩ = some (.int .i64 (k : Nat))) (hf : w.frozen? ⟨B, 0, none⟩ = false) :
    Calls Try.prog 56 #[.int .u64 x, .int .u8 a, .pointer (some ⟨B, 0, none⟩)] w fun e w' => e = .returned (.int .u64 ((x ||| (a * 2 ^ k % 18446744073709551616) : Nat))) ∧ w' = w.setCell ⟨B, 0, none⟩ (.int .i64 ((k + 8 : Nat))) := by
  have H := Lib.hid (or_int x a k hx)
  have h1 : (a : Int) < 256 := by omega
  have h2 : (k : Int) ≤ 64 := by omega
  have e1 : ((k : Nat) : Int) + 8 = ((k + 8 : Nat) : Int) := by omega
  have H1 := Lib.hid e1; clear e1
  go_enter Try.func56, Try.ntmps56
  go_wp2
  go_ret
  exact ⟨ret_int H.out, by rw [H1.out]⟩
theorem fold1_any (v : Value) (xs : List Nat) (B : Nat) (hx8 : xs.length ≤ 8) (hx : WM.Bytes256 xs) (w : World) (hs : Sl w .u8 v xs) (hB : ∀ b off, v = .slice (some ⟨b, off, none⟩) xs.length xs.length → 0 < xs.length → b < B) (hv : ∃ a, v = .slice a xs.length xs.length) (hbx : Boxed w B 3 (.int .i64 0)) :
    Calls Try.prog 55 #[.int .u64 0, v, .func (.func 56) #[] #[.pointer (some ⟨B, 0, none⟩)]] w fun e w' => e = .returned (.int .u64 (WM.joinTo xs xs.length : Nat)) ∧ Below B w w' := by
  obtain ⟨a, cap, rfl, hlc, hcells⟩ := hs
  obtain ⟨a', ha'⟩ := hv
  obtain ⟨rfl, rfl⟩ : a' = a ∧ cap = xs.length := by simpa [eq_comm] using ha'
  have HC := Lib.hid hcells; clear hcells hlc
  have hl := hx8
  generalize hn : xs.length = n at *
  have HN := Lib.hid hn; clear hn
  go_enter Try.func55, Try.ntmps55
  go_wp2
  go_loopw [0, 8, 11] (fun t _ i wr => ∃ k : Nat, k ≤ n ∧ i = .int .i64 k ∧ t = .int .u64 (WM.joinTo xs k : Nat) ∧ Boxed wr B 3 (.int .i64 ((8 * k : Nat) : Int)) ∧ Below B w wr) (fun _ _ i _ => n - (intOf i).toNat)
  case atStart => exact ⟨0, Nat.zero_le _, rfl, rfl, hbx, Below.refl _ _⟩
  case round =>
    obtain ⟨k, hk, rfl, rfl, hbk, hb⟩ := hrel
    by_cases hlt : k < n
    · obtain ⟨b, off, rfl, hbl, hj⟩ := HC.out (by omega)
      have hbB : b < B := hB b off rfl (by omega)
      have hc : wr.cell? ⟨b, off + k, none⟩ = some (.int .u8 (xs[k]?.getD 0 : Nat)) := (hb.cell (p := ⟨b, off + k, none⟩) hbB).trans (hj k (by omega))
      have hxk := hx k
      have hj1 := Lib.hid (joined1_any (WM.joinTo xs k) (xs[k]?.getD 0) (8 * k) B (WM.joinTo_lt _ _) hxk (by omega) wr hbk.cell hbk.frozen)
      clear hj HC
      generalize hxe : xs[k]?.getD 0 = x at *
      have HX := Lib.hid hxe; clear hxe
      go_wp2_with fail
      refine hj1.out.mono ?_
      rintro e w1 ⟨rfl, rfl⟩
      go_wp2_with fail
      go_roundw
      case rel => exact ⟨k + 1, by omega, by go_num, by rw [WM.joinTo, show WM.at' xs k = x from HX.out], hbk.set _, hb.setCell (Nat.le_refl _) _⟩
      case measure => simp [intOf]; omega
    · obtain rfl : k = n := by omega
      go_wp2
      go_ret
      exact ⟨rfl, hb⟩
theorem joined_any (v : Value) (xs : List Nat) (hx8 : xs.length ≤ 8) (hx : WM.Bytes256 xs) (w : World) (hs : Sl w .u8 v xs) (hv : ∃ a, v = .slice a xs.length xs.length) :
    Calls Try.prog 45 #[v] w fun e w' => e = .returned (.int .u64 (WM.joinTo xs xs.length : Nat)) ∧ Below w.heap.size w w' := by
  have hs' := hs.below ((Below.refl _ _).alloc (Nat.le_refl _) (.cells #[.int .i64 0] 3))
  have hf := Lib.hid (fold1_any v xs w.heap.size hx8 hx _ hs' (by
    rintro b off rfl h0
    obtain ⟨a, cap, e, _, h⟩ := hs
    obtain ⟨b', off', ea, hlt, _⟩ := h h0
    simp only [Value.slice.injEq] at e
    obtain ⟨e1, _, _⟩ := e
    rw [ea] at e1; simp at e1
    omega) hv (Boxed.new w 3 (.int .i64 0)))
  obtain ⟨a, rfl⟩ := hv
  clear hs hs'
  go_enter Try.func45, Try.ntmps45
  go_wp2_with fail
  refine hf.out.mono ?_
  rintro e w1 ⟨rfl, hb1⟩
  go_wp2_with fail
  go_ret
  exact ⟨rfl, ((Below.refl _ _).alloc (Nat.le_refl _) _).trans hb1⟩
end Go.Proofs.Ytoaloeipgadkjaa
