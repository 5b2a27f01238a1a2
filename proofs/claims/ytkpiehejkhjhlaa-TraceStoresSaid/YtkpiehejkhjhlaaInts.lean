/-
  waterlineref03.Ints: are two lists of numbers the same?
-/
import Derived.Test.YtkpiehejkhjhlaaWordS
import Derived.Test.YtkpiehejkhjhlaaHeldFar
namespace Go.Proofs.Ytkpiehejkhjhlaa
open Go.RowKit Go.Shelf

theorem intsL_any (v u : Value) (xs ys : List Nat) (hx : xs.length ≤ 140737488351232) (_ : ys.length ≤ 140737488351232) (w : World) (hv : Sl w .i64 v xs) (hu : Sl w .i64 u ys) :
    Calls Try.prog 16 #[v, u] w fun e w' => e = .returned (.bool (decide (xs = ys))) ∧ Below w.heap.size w w' := by
  obtain ⟨a, cap, b, off, rfl, hlc, ha, hc⟩ := hv.cell
  obtain ⟨a', cap', b', off', rfl, hlc', ha', hc'⟩ := hu.cell
  clear hv hu
  have HC := Lib.hid hc; clear hc
  have HC' := Lib.hid hc'; clear hc'
  by_cases hl : xs.length = ys.length
  · have HL := Lib.hid hl
    have hne : ((xs.length : Int) != (xs.length : Int)) = false := by simp
    rw [← hl] at ha' hlc' ⊢
    clear hl hne
    generalize hn : xs.length = n at *
    go_enter Try.func16, Try.ntmps16
    go_wp2
    go_loopw [5] (fun i wr => ∃ k : Nat, k ≤ n ∧ i = .int .i64 k ∧ (∀ j, j < k → xs[j]?.getD 0 = ys[j]?.getD 0) ∧ Below w.heap.size w wr) (fun i _ => n - (intOf i).toNat)
    case atStart => exact ⟨0, Nat.zero_le _, rfl, fun j h => by omega, Below.refl _ _⟩
    case round =>
      obtain ⟨k, hk, rfl, heq, hb⟩ := hrel
      have HE := Lib.hid heq; clear heq
      by_cases hlt : k < n
      · obtain rfl := ha (by omega)
        obtain rfl := ha' (by omega)
        have c1 : wr.cell? ⟨b, off + k, none⟩ = some (.int .i64 (xs[k]?.getD 0 : Nat)) := (hb.cell (p := ⟨b, off + k, none⟩) (HC.out (by omega)).1).trans ((HC.out (by omega)).2 k (by omega))
        have c2 : wr.cell? ⟨b', off' + k, none⟩ = some (.int .i64 (ys[k]?.getD 0 : Nat)) := (hb.cell (p := ⟨b', off' + k, none⟩) (HC'.out (by rw [← HL.out]; omega)).1).trans ((HC'.out (by rw [← HL.out]; omega)).2 k (by rw [← HL.out]; omega))
        have hn' : ((k : Nat) : Int) < (n : Int) := by omega
        obtain ⟨x, hx1⟩ : ∃ x, x = xs[k]?.getD 0 := ⟨_, rfl⟩
        obtain ⟨y, hy1⟩ : ∃ y, y = ys[k]?.getD 0 := ⟨_, rfl⟩
        rw [← hx1] at c1
        rw [← hy1] at c2
        have HX1 := Lib.hid hx1; clear hx1
        have HY1 := Lib.hid hy1; clear hy1
        by_cases hxy : x = y
        · have HX : Hid (xs[k]?.getD 0 = ys[k]?.getD 0) := HX1.out.symm.trans (hxy.trans HY1.out)
          subst hxy
          go_wp2
          go_quiet (fail)
          go_wp2
          go_roundw
          case rel => exact ⟨k + 1, by omega, by go_num, fun j hj => by
            by_cases hjk : j = k
            · rw [hjk]; exact HX.out
            · exact HE.out j (by omega), below_drewN hb _⟩
          case measure => simp [intOf]; omega
        · have hne : ((x : Int) != (y : Int)) = true := by rw [bne_iff_ne]; omega
          have HX := Lib.hid (ne_of_at xs ys k (by rw [← HX1.out, ← HY1.out]; exact hxy))
          clear hxy
          go_wp2
          go_quiet (fail)
          go_wp2
          go_ret
          exact ⟨ret_bool (by rw [HX.out]), below_drewN hb _⟩
      · go_wp2
        go_ret
        exact ⟨ret_bool (by rw [eq_of_at xs ys (by rw [hn]; exact HL.out) (fun j hj => HE.out j (by omega))]), hb⟩
  · have hne : ((xs.length : Int) != (ys.length : Int)) = true := by rw [bne_iff_ne]; omega
    have HX := Lib.hid (show decide (xs = ys) = false from decide_eq_false fun e => hl (by rw [e]))
    clear hl
    go_enter Try.func16, Try.ntmps16
    go_wp2
    go_ret
    exact ⟨ret_bool (by rw [HX.out]), Below.refl _ _⟩
end Go.Proofs.Ytkpiehejkhjhlaa
