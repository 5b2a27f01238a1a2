/-
  Contracts of place.stand: what may be a place.
-/
import Derived.Test.YtkighpfckibkoaaDoorPlaA
namespace Go.Proofs.YtkighpfckibkoaaDoor
open Go.RowKit

/-- What the package-level variable ends holds. -/
structure Ends (w : World) : Prop where
  lines : w.cell? ⟨0, 0, none⟩ = some (.int .i64 1024)
  words : w.cell? ⟨0, 1, none⟩ = some (.int .i64 8)
  room : 0 < w.heap.size
theorem Ends.below {B : Nat} {w w' : World} (h : Ends w) (hb : Below B w w') (hB : 0 < B) : Ends w' :=
  ⟨(hb.cell (p := ⟨0, 0, none⟩) hB).trans h.lines, (hb.cell (p := ⟨0, 1, none⟩) hB).trans h.words, Nat.lt_of_lt_of_le h.room hb.size⟩
/-- May a place be? -/
def okP (l v : Int) : Bool := decide (0 ≤ l ∧ l < 1024 ∧ 0 ≤ v ∧ v < 8)
def I64 (n : Int) : Prop := -9223372036854775808 ≤ n ∧ n ≤ 9223372036854775807
set_option maxHeartbeats 1000000 in
theorem stand1_any (l v : Int) (w : World) (ht : Ends w) :
    Calls Tryd.prog 30 #[.agg #[.int .i64 l, .int .i64 v]] w fun e w' => e = .returned (.bool (okP l v)) ∧ Below w.heap.size w w' := by
  have hc1 := ht.lines
  have hc2 := ht.words
  have hz := ht.room
  clear ht
  go_enter Tryd.func30, Tryd.ntmps30
  go_wp2_with fail
  refine (pair_any l v _).mono ?_
  rintro e w1 ⟨rfl, hb1⟩
  have z1 := hb1.size; try simp at z1
  have b1 : Below w.heap.size w w1 := (by repeat (first | exact Below.refl _ _ | assumption | refine Below.drew ?_ | refine below_drewN ?_ _ | refine Below.alloc ?_ (by (try simp) <;> omega) _ | refine Below.setCell ?_ (by (try simp) <;> omega) _ | refine Below.trans ?_ (Below.mono (by assumption) (by (try simp) <;> omega))))
  have d1 := (b1.cell (p := ⟨0, 0, none⟩) hz).trans hc1
  have d2 := (b1.cell (p := ⟨0, 1, none⟩) hz).trans hc2
  clear hc1 hc2 hb1
  go_wp2_with fail
  have hi0 : ∀ W : World, (Instr.index 59 (.agg #[.int .i64 l, .int .i64 v]) (.int .i64 0)).run Tryd.prog W = .ok (.int .i64 l) W := fun W => by kernel_rfl
  have hi1 : ∀ W : World, (Instr.index 59 (.agg #[.int .i64 l, .int .i64 v]) (.int .i64 1)).run Tryd.prog W = .ok (.int .i64 v) W := fun W => by kernel_rfl
  go_loopw [7] (fun i wr => ∃ k : Nat, k ≤ 2 ∧ i = .int .i64 (k : Nat) ∧ (1 ≤ k → 0 ≤ l ∧ l < 1024) ∧ (2 ≤ k → 0 ≤ v ∧ v < 8) ∧ wr = w1) (fun i _ => 2 - (intOf i).toNat)
  case atStart => exact ⟨0, by omega, rfl, by omega, by omega, rfl⟩
  case round =>
    obtain ⟨k, hk, rfl, h1, h2, rfl⟩ := hrel
    have h3 : k = 0 ∨ k = 1 ∨ k = 2 := by omega
    rcases h3 with rfl | rfl | rfl
    · by_cases c1 : l < 0
      · go_wp2
        go_ret
        exact ⟨ret_bool (by unfold okP; rw [eq_comm, decide_eq_false_iff_not]; omega), (by repeat (first | exact Below.refl _ _ | assumption | refine Below.drew ?_ | refine below_drewN ?_ _ | refine Below.alloc ?_ (by (try simp) <;> omega) _ | refine Below.setCell ?_ (by (try simp) <;> omega) _ | refine Below.trans ?_ (Below.mono (by assumption) (by (try simp) <;> omega))))⟩
      · go_wp2
        · go_ret
          exact ⟨ret_bool (by unfold okP; rw [eq_comm, decide_eq_false_iff_not]; omega), (by repeat (first | exact Below.refl _ _ | assumption | refine Below.drew ?_ | refine below_drewN ?_ _ | refine Below.alloc ?_ (by (try simp) <;> omega) _ | refine Below.setCell ?_ (by (try simp) <;> omega) _ | refine Below.trans ?_ (Below.mono (by assumption) (by (try simp) <;> omega))))⟩
        · go_round
          case rel => exact ⟨1, by omega, by go_num, by omega, by omega, trivial⟩
          case measure => simp [intOf]
    · have h4 := h1 (by omega)
      by_cases c1 : v < 0
      · go_wp2
        go_ret
        exact ⟨ret_bool (by unfold okP; rw [eq_comm, decide_eq_false_iff_not]; omega), (by repeat (first | exact Below.refl _ _ | assumption | refine Below.drew ?_ | refine below_drewN ?_ _ | refine Below.alloc ?_ (by (try simp) <;> omega) _ | refine Below.setCell ?_ (by (try simp) <;> omega) _ | refine Below.trans ?_ (Below.mono (by assumption) (by (try simp) <;> omega))))⟩
      · go_wp2
        · go_ret
          exact ⟨ret_bool (by unfold okP; rw [eq_comm, decide_eq_false_iff_not]; omega), (by repeat (first | exact Below.refl _ _ | assumption | refine Below.drew ?_ | refine below_drewN ?_ _ | refine Below.alloc ?_ (by (try simp) <;> omega) _ | refine Below.setCell ?_ (by (try simp) <;> omega) _ | refine Below.trans ?_ (Below.mono (by assumption) (by (try simp) <;> omega))))⟩
        · go_round
          case rel => exact ⟨2, by omega, by go_num, by omega, by omega, trivial⟩
          case measure => simp [intOf]
    · have h4 := h1 (by omega)
      have h5 := h2 (by omega)
      go_wp2
      go_ret
      exact ⟨ret_bool (by unfold okP; rw [eq_comm, decide_eq_true_iff]; omega), (by repeat (first | exact Below.refl _ _ | assumption | refine Below.drew ?_ | refine below_drewN ?_ _ | refine Below.alloc ?_ (by (try simp) <;> omega) _ | refine Below.setCell ?_ (by (try simp) <;> omega) _ | refine Below.trans ?_ (Below.mono (by assumption) (by (try simp) <;> omega))))⟩
/-- The slice value v holds these places. -/
def SlM (W : World) (v : Value) (fs : List (Int × Int)) : Prop :=
  ∃ (b off cap : Nat), v = .slice (some ⟨b, off, none⟩) fs.length cap ∧ fs.length ≤ cap ∧ b < W.heap.size ∧ ∀ j, j < fs.length → W.cell? ⟨b, off + j * 2, none⟩ = some (.int .i64 (fs[j]?.getD (0, 0)).1) ∧ W.cell? ⟨b, off + j * 2 + 1, none⟩ = some (.int .i64 (fs[j]?.getD (0, 0)).2)
def okAll (fs : List (Int × Int)) : Bool := fs.all fun m => okP m.1 m.2
set_option maxHeartbeats 2000000 in
theorem each_any (v : Value) (fs : List (Int × Int)) (hl : fs.length ≤ 2) (w : World) (ht : Ends w) (hs : SlM w v fs) :
    Calls Tryd.prog 29 #[.func (.func 30) #[] #[], v] w fun e w' => e = .returned (.bool (okAll fs)) ∧ Below w.heap.size w w' := by
  obtain ⟨b, off, cap, rfl, hlc, hbw, hcells⟩ := hs
  have HC := Lib.hid hcells; clear hcells hlc
  have hz := ht.room
  have HM := Lib.hid (show okAll fs = okAll (fs.drop 0) from rfl)
  generalize hm : fs.length = m at *
  have HLEN := Lib.hid hm; clear hm
  go_enter Tryd.func29, Tryd.ntmps29
  go_wp2_with fail
  go_loopw [9] (fun i wr => ∃ k : Nat, k ≤ m ∧ i = .int .i64 (k : Nat) ∧ Hid (okAll fs = okAll (fs.drop k)) ∧ Below w.heap.size w wr) (fun i _ => m - (intOf i).toNat)
  case atStart => exact ⟨0, by omega, rfl, HM, Below.refl _ _⟩
  case round =>
    obtain ⟨k, hk, rfl, HK, hb⟩ := hrel
    have zb := hb.size
    clear HM
    by_cases hlt : k < m
    · obtain ⟨x, y, exy⟩ : ∃ x y, fs[k]?.getD (0, 0) = (x, y) := ⟨_, _, rfl⟩
      have hc1 := (hb.cell (p := ⟨b, off + k * 2, none⟩) hbw).trans (HC.out k hlt).1
      have hc2 := (hb.cell (p := ⟨b, off + k * 2 + 1, none⟩) hbw).trans (HC.out k hlt).2
      rw [exy] at hc1 hc2
      have e1 : fs.drop k = (x, y) :: fs.drop (k + 1) := by
        have hkl : k < fs.length := by rw [HLEN.out]; exact hlt
        rw [List.drop_eq_getElem_cons hkl]
        congr 1
        rw [List.getElem?_eq_getElem hkl] at exy
        exact exy
      have HE := Lib.hid (show okAll (fs.drop k) = (okP x y && okAll (fs.drop (k + 1))) by rw [e1]; rfl)
      have k2 : (k : Int) < (m : Int) := by omega
      clear exy e1
      have ht2 := ht.below hb hz
      have HT := Lib.hid ht2; clear ht2
      go_wp2_with fail
      refine (stand1_any x y _ (HT.out.below ((Below.refl _ _).alloc (Nat.le_refl _) _) HT.out.room)).mono ?_
      rintro e w1 ⟨rfl, hb1⟩
      have z1 := hb1.size; try simp at z1
      have b1 : Below w.heap.size w w1 := (by repeat (first | exact Below.refl _ _ | assumption | refine Below.drew ?_ | refine below_drewN ?_ _ | refine Below.alloc ?_ (by (try simp) <;> omega) _ | refine Below.setCell ?_ (by (try simp) <;> omega) _ | refine Below.trans ?_ (Below.mono (by assumption) (by (try simp) <;> omega))))
      clear hc1 hc2 hb1
      cases hok : okP x y with
      | true =>
        go_wp2_with fail
        go_roundw
        case rel => exact ⟨k + 1, by omega, by go_num, Lib.hid (by rw [HK.out, HE.out, hok, Bool.true_and]), b1⟩
        case measure => simp [intOf]; omega
      | false =>
        go_wp2_with fail
        go_ret
        exact ⟨ret_bool (by rw [HK.out, HE.out, hok, Bool.false_and]), b1⟩
    · go_wp2_with fail
      go_ret
      have e1 : fs.drop k = [] := List.drop_eq_nil_of_le (by rw [HLEN.out]; omega)
      exact ⟨ret_bool (by rw [HK.out, e1]; rfl), hb⟩
theorem stand_any (v : Value) (fs : List (Int × Int)) (hl : fs.length ≤ 2) (w : World) (ht : Ends w) (hs : SlM w v fs) :
    Calls Tryd.prog 25 #[v] w fun e w' => e = .returned (.bool (okAll fs)) ∧ Below w.heap.size w w' := by
  have HE := Lib.hid (each_any v fs hl w ht hs)
  obtain ⟨b, off, cap, rfl, -, -, -⟩ := hs
  go_enter Tryd.func25, Tryd.ntmps25
  go_wp2_with fail
  refine HE.out.mono ?_
  rintro e w1 ⟨rfl, hb1⟩
  go_wp2_with fail
  go_ret
  exact ⟨rfl, hb1⟩
end Go.Proofs.YtkighpfckibkoaaDoor
