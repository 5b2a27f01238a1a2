/-
  Contract of the law's same: lists of places that are the same.
-/
import Derived.Test.YtkighpfckibkoaaDoorPlaR
namespace Go.Proofs.YtkighpfckibkoaaDoor
open Go.RowKit Go.Shelf

theorem neq_place (x y a b : Int) (W : World) : (binOp .neq 23 (.agg #[.int .i64 x, .int .i64 y]) (.agg #[.int .i64 a, .int .i64 b])).run Tryd.prog W = .ok (.bool (!((x == a) && (y == b)))) W := by
  rw [run_neq_struct]
  have h : (Op.equalIn 10000 23 (.agg #[.int .i64 x, .int .i64 y]) (.agg #[.int .i64 a, .int .i64 b])).run Tryd.prog W = .ok ((x == a) && (y == b)) W := by
    rw [run_equalIn_agg (P := Tryd.prog) W 9999 23 _ _ (by kernel_rfl) (by kernel_rfl)]
    have hf : (Tryd.prog.fieldsOf 23).toList.map (fun f => (f.type, f.offset, f.name)) = [(3, 0, "Line"), (3, 1, "Word")] := by kernel_rfl
    generalize (Tryd.prog.fieldsOf 23).toList = l at hf
    rcases l with _ | ⟨f, _ | ⟨g, _ | ⟨h, r⟩⟩⟩
    · simp at hf
    · simp at hf
    · simp at hf
      obtain ⟨⟨h1, h2, h3⟩, h4, h5, h6⟩ := hf
      simp [Op.eqFields, go_sem, h1, h2, h3, h4, h5, h6]
      by_cases ha : x = a <;> by_cases hb : y = b <;> simp [ha, hb]
    · simp at hf
  rw [h]; rfl
theorem pairs_ext (a b : List (Int × Int)) (hl : a.length = b.length) (h : ∀ i, i < a.length → a[i]?.getD (0, 0) = b[i]?.getD (0, 0)) : a = b := by
  refine List.ext_getElem hl fun i h1 h2 => ?_
  have := h i h1
  rw [List.getElem?_eq_getElem h1, List.getElem?_eq_getElem h2] at this
  exact this
set_option maxHeartbeats 1000000 in
theorem same3_any (v u : Value) (xs ys : List (Int × Int)) (hx : xs.length ≤ 140737488351232) (_hy : ys.length ≤ 140737488351232) (w : World) (hv : SlP w v xs) (hu : SlP w u ys) :
    Calls Tryd.prog 21 #[v, u] w fun e w' => e = .returned (.bool (decide (xs = ys))) ∧ Below w.heap.size w w' := by
  obtain ⟨a, cap, b, off, rfl, hlc, ha, hc⟩ := hv.cell
  obtain ⟨a', cap', b', off', rfl, hlc', ha', hc'⟩ := hu.cell
  clear hv hu
  have HC := Lib.hid hc; clear hc
  have HC' := Lib.hid hc'; clear hc'
  by_cases hl : xs.length = ys.length
  · have HL := Lib.hid hl
    rw [← hl] at ha' hlc' ⊢
    clear hl
    generalize hn : xs.length = n at *
    go_enter Tryd.func21, Tryd.ntmps21
    go_wp2
    go_loopw [5] (fun i wr => ∃ k : Nat, k ≤ n ∧ i = .int .i64 k ∧ (∀ j, j < k → xs[j]?.getD (0, 0) = ys[j]?.getD (0, 0)) ∧ Below w.heap.size w wr) (fun i _ => n - (intOf i).toNat)
    case atStart => exact ⟨0, Nat.zero_le _, rfl, fun j h => by omega, Below.refl _ _⟩
    case round =>
      obtain ⟨k, hk, rfl, heq, hb⟩ := hrel
      have HE := Lib.hid heq; clear heq
      by_cases hlt : k < n
      · obtain rfl := ha (by omega)
        obtain rfl := ha' (by omega)
        have c1 := (hb.cell (p := ⟨b, off + k * 2, none⟩) (HC.out (by omega)).1).trans ((HC.out (by omega)).2 k (by omega)).1
        have c2 := (hb.cell (p := ⟨b, off + k * 2 + 1, none⟩) (HC.out (by omega)).1).trans ((HC.out (by omega)).2 k (by omega)).2
        have c3 := (hb.cell (p := ⟨b', off' + k * 2, none⟩) (HC'.out (by rw [← HL.out]; omega)).1).trans ((HC'.out (by rw [← HL.out]; omega)).2 k (by rw [← HL.out]; omega)).1
        have c4 := (hb.cell (p := ⟨b', off' + k * 2 + 1, none⟩) (HC'.out (by rw [← HL.out]; omega)).1).trans ((HC'.out (by rw [← HL.out]; omega)).2 k (by rw [← HL.out]; omega)).2
        have hn' : ((k : Nat) : Int) < (n : Int) := by omega
        obtain ⟨⟨x1, x2⟩, hx1⟩ : ∃ x, xs[k]?.getD (0, 0) = x := ⟨_, rfl⟩
        obtain ⟨⟨y1, y2⟩, hy1⟩ : ∃ y, ys[k]?.getD (0, 0) = y := ⟨_, rfl⟩
        rw [hx1] at c1 c2
        rw [hy1] at c3 c4
        dsimp only at c1 c2 c3 c4
        have HX1 := Lib.hid hx1; clear hx1
        have HY1 := Lib.hid hy1; clear hy1
        have hq := neq_place x1 x2 y1 y2
        by_cases hxy : x1 = y1 ∧ x2 = y2
        · obtain ⟨rfl, rfl⟩ := hxy
          have HX : Hid (xs[k]?.getD (0, 0) = ys[k]?.getD (0, 0)) := HX1.out.trans HY1.out.symm
          rw [show (!((x1 == x1) && (x2 == x2))) = false by simp] at hq
          go_wp2
          go_quiet (fail)
          go_wp2
          go_roundw
          case rel => exact ⟨k + 1, by omega, by go_num, fun j hj => by
            by_cases hjk : j = k
            · rw [hjk]; exact HX.out
            · exact HE.out j (by omega), below_drewN hb _⟩
          case measure => simp [intOf]; omega
        · have HX := Lib.hid (show decide (xs = ys) = false from decide_eq_false fun e => hxy (by
            have h1 := HX1.out
            rw [e, HY1.out] at h1
            simp only [Prod.mk.injEq] at h1
            exact ⟨h1.1.symm, h1.2.symm⟩))
          rw [show (!((x1 == y1) && (x2 == y2))) = true by simp; omega] at hq
          clear hxy
          go_wp2
          go_quiet (fail)
          go_wp2
          go_ret
          exact ⟨ret_bool (by rw [HX.out]), below_drewN hb _⟩
      · go_wp2
        go_ret
        exact ⟨ret_bool (by rw [eq_comm, decide_eq_true_iff]; exact pairs_ext xs ys (by rw [hn]; exact HL.out) (fun j hj => HE.out j (by omega))), hb⟩
  · have hne : ((xs.length : Int) != (ys.length : Int)) = true := by rw [bne_iff_ne]; omega
    have HX := Lib.hid (show decide (xs = ys) = false from decide_eq_false fun e => hl (by rw [e]))
    clear hl
    go_enter Tryd.func21, Tryd.ntmps21
    go_wp2
    go_ret
    exact ⟨ret_bool (by rw [HX.out]), Below.refl _ _⟩
end Go.Proofs.YtkighpfckibkoaaDoor
