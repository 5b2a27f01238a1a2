/-
  label: slices of texts; the document's Texts.
-/
import Derived.Laws.Cover1
import Derived.Test.YtoaloeipgadkjaaLaH
import Derived.Test.YtoaloeipgadkjaaLaJ
import Derived.Test.YtoaloeipgadkjaaVec
namespace Go.Proofs.Ytoaloeipgadkjaa
open Go.RowKit Go.Shelf Go.Sort

/-- A slice of texts. -/
abbrev TxS (W : World) (v : Value) (l : List (List UInt8)) : Prop := Vec W v l.length 1 (l.map encStr)
theorem TxS.cell {W : World} {v : Value} {l : List (List UInt8)} (h : TxS W v l) : ∃ (a : Option Addr) (cap b off : Nat), v = .slice a l.length cap ∧ l.length ≤ cap ∧ (0 < l.length → a = some ⟨b, off, none⟩) ∧ (0 < l.length → b < W.heap.size ∧ ∀ j, j < l.length → W.cell? ⟨b, off + j, none⟩ = some (encStr (l[j]?.getD []))) := by
  obtain ⟨-, a, cap, rfl, hc, hj⟩ := h
  by_cases h0 : 0 < l.length
  · obtain ⟨b, off, rfl, hb, hx⟩ := hj h0
    exact ⟨_, cap, b, off, rfl, hc, fun _ => rfl, fun _ => ⟨hb, fun j hl => hx j _ (by simp [hl])⟩⟩
  · exact ⟨a, cap, 0, 0, rfl, hc, fun h => absurd h h0, fun h => absurd h h0⟩
theorem txs_same_of (xs ys : List (List UInt8)) (hl : xs.length = ys.length) (h : ∀ j, j < xs.length → xs[j]?.getD [] = ys[j]?.getD []) : decide (xs = ys) = true := by
  refine decide_eq_true (List.ext_getElem hl fun j h1 h2 => ?_)
  have := h j h1
  simpa [h1, h2] using this
theorem txs_ne_of (xs ys : List (List UInt8)) (k : Nat) (h : xs[k]?.getD [] ≠ ys[k]?.getD []) : decide (xs = ys) = false := decide_eq_false fun e => h (by rw [e])
set_option maxRecDepth 100000 in
set_option maxHeartbeats 2000000 in
theorem refTexts_any (v u : Value) (xs ys : List (List UInt8)) (hx : xs.length ≤ 1000000) (_hy : ys.length ≤ 1000000) (w : World) (hv : TxS w v xs) (hu : TxS w u ys) :
    Calls Try.prog 21 #[v, u] w fun e w' => e = .returned (.bool (decide (xs = ys))) ∧ Below w.heap.size w w' := by
  obtain ⟨a, cap, b, off, rfl, hlc, ha, hc⟩ := hv.cell
  obtain ⟨a', cap', b', off', rfl, hlc', ha', hc'⟩ := hu.cell
  clear hv hu
  have HC := Lib.hid hc; clear hc
  have HC' := Lib.hid hc'; clear hc'
  by_cases hl : xs.length = ys.length
  · have HL := Lib.hid hl
    have hne : ((xs.length : Int) != (xs.length : Int)) = false := by simp
    rw [← hl] at ha' hlc' ⊢
    clear hl hne
    generalize hn : xs.length = n at *
    go_enter Try.func21, Try.ntmps21
    go_wp2
    go_loopw [5] (fun i wr => ∃ k : Nat, k ≤ n ∧ i = .int .i64 k ∧ (∀ j, j < k → xs[j]?.getD [] = ys[j]?.getD []) ∧ Below w.heap.size w wr) (fun i _ => n - (intOf i).toNat)
    case atStart => exact ⟨0, Nat.zero_le _, rfl, fun j h => by omega, Below.refl _ _⟩
    case round =>
      obtain ⟨k, hk, rfl, heq, hb⟩ := hrel
      have HE := Lib.hid heq; clear heq
      by_cases hlt : k < n
      · obtain rfl := ha (by omega)
        obtain rfl := ha' (by omega)
        have c1 : wr.cell? ⟨b, off + k, none⟩ = some (encStr (xs[k]?.getD [])) := (hb.cell (p := ⟨b, off + k, none⟩) (HC.out (by omega)).1).trans ((HC.out (by omega)).2 k (by omega))
        have c2 : wr.cell? ⟨b', off' + k, none⟩ = some (encStr (ys[k]?.getD [])) := (hb.cell (p := ⟨b', off' + k, none⟩) (HC'.out (by rw [← HL.out]; omega)).1).trans ((HC'.out (by rw [← HL.out]; omega)).2 k (by rw [← HL.out]; omega))
        have hn' : ((k : Nat) : Int) < (n : Int) := by omega
        obtain ⟨x, hx1⟩ : ∃ x, x = xs[k]?.getD [] := ⟨_, rfl⟩
        obtain ⟨y, hy1⟩ : ∃ y, y = ys[k]?.getD [] := ⟨_, rfl⟩
        rw [← hx1] at c1
        rw [← hy1] at c2
        have HX1 := Lib.hid hx1; clear hx1
        have HY1 := Lib.hid hy1; clear hy1
        by_cases hxy : x = y
        · have HX : Hid (xs[k]?.getD [] = ys[k]?.getD []) := show _ = _ from HX1.out.symm.trans (hxy.trans HY1.out)
          subst hxy
          go_wp2
          go_quiet (fail)
          go_wp2
          go_roundw
          case rel => exact ⟨k + 1, by omega, by go_num, fun j hj => by
            by_cases hjk : j = k
            · rw [hjk]; exact HX.out
            · exact HE.out j (by omega), below_drewN hb _⟩
          case measure => simp [intOf]; omega
        · have hne : (x == y) = false := by simp [hxy]
          have HX := Lib.hid (txs_ne_of xs ys k (by rw [← HX1.out, ← HY1.out]; exact hxy))
          clear hxy
          go_wp2
          go_quiet (fail)
          go_wp2
          go_ret
          exact ⟨ret_bool (by rw [HX.out]), below_drewN hb _⟩
      · go_wp2
        go_ret
        exact ⟨ret_bool (by rw [txs_same_of xs ys (by rw [hn]; exact HL.out) (fun j hj => HE.out j (by omega))]), hb⟩
  · have hne : ((xs.length : Int) != (ys.length : Int)) = true := by rw [bne_iff_ne]; omega
    have HX := Lib.hid (show decide (xs = ys) = false from decide_eq_false fun e => hl (by rw [e]))
    clear hl
    go_enter Try.func21, Try.ntmps21
    go_wp2
    go_ret
    exact ⟨ret_bool (by rw [HX.out]), Below.refl _ _⟩
end Go.Proofs.Ytoaloeipgadkjaa
