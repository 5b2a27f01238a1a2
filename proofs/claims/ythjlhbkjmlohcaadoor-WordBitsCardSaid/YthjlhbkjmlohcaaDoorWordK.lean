/-
  The chapter's rows (waterlinelaw01.works) come out true.
-/
import Derived.Test.YthjlhbkjmlohcaaDoorWordB
import Derived.Test.YthjlhbkjmlohcaaDoorWordP
import Derived.Test.YthjlhbkjmlohcaaDoorWordE
import Derived.Laws.BytesArg
namespace Go.Proofs.YthjlhbkjmlohcaaDoor
open Go.RowKit Go.Shelf
attribute [local go_sem] Oper.semAt_some

theorem row1 : WM.getN 4660 4 8 = 35 := by decide +kernel
theorem row2 : WM.putN 4660 4 8 255 = 8180 := by decide +kernel
def nine : List Nat := [1, 2, 3, 4, 5, 6, 7, 8, 9]
theorem nine256 : WM.Bytes256 nine := fun i => by
  rcases Nat.lt_or_ge i 9 with h | h
  · have : ∀ i, i < 9 → WM.at' nine i < 256 := by decide
    exact this i h
  · rw [WM.at_none nine i h]; decide
theorem row3 : WM.wordsOf nine = [578437695752307201, 9] := by decide +kernel
theorem row4 : ((WM.bytesOf [578437695752307201, 9]).drop 9).any (· != 0) = false := by decide +kernel
theorem row5 : (WM.bytesOf [578437695752307201, 9]).take 9 = nine := by decide +kernel
theorem row6 : ((WM.bytesOf [578437695752307201, 9]).drop 8).any (· != 0) = true := by decide +kernel
theorem row7 : WM.bitsOf 133 = [0, 2, 7] := by decide +kernel
theorem row8 : WM.okF 63 2 = false := by decide
theorem two64 : Words64 [578437695752307201, 9] := fun i => by
  match i with
  | 0 => decide
  | 1 => decide
  | n + 2 => simp
theorem nineSl (w : World) : Sl (w.alloc (.cells #[.int .u8 1, .int .u8 2, .int .u8 3, .int .u8 4, .int .u8 5, .int .u8 6, .int .u8 7, .int .u8 8, .int .u8 9] 5)) .u8 (.slice (some ⟨w.heap.size, 0, none⟩) 9 9) nine := by
  refine ⟨_, 9, rfl, by decide, fun _ => ⟨w.heap.size, 0, rfl, by simp, fun j hj => ?_⟩⟩
  have hj9 : j < 9 := hj
  have : j = 0 ∨ j = 1 ∨ j = 2 ∨ j = 3 ∨ j = 4 ∨ j = 5 ∨ j = 6 ∨ j = 7 ∨ j = 8 := by omega
  rcases this with rfl | rfl | rfl | rfl | rfl | rfl | rfl | rfl | rfl <;> simp [go_sem, nine]
/-- The bytes as a string. -/
def strOf (xs : List Nat) : ByteArray := strOfNums (xs.map Int.ofNat)
theorem conv_sl {W : World} {v : Value} {xs : List Nat} (h : Sl W .u8 v xs) : (convert 41 9 v).run Tryd.prog W = .ok (.string (strOf xs)) W := by
  obtain ⟨a, cap, b, off, rfl, hlc, ha, hc⟩ := h.cell
  rcases Nat.eq_zero_or_pos xs.length with h0 | h0
  · obtain rfl := List.eq_nil_of_length_eq_zero h0
    rcases a with _ | a
    · exact run_convert_bytes_nil W 41 5 Tryd.underlying41 Tryd.underlying5 _ _ 9 Tryd.underlying9
    · rw [run_convert_bytes_string W 41 9 5 _ _ cap Tryd.underlying41 Tryd.underlying5 Tryd.underlying9]
      rw [run_bytesToString W a _ cap [] (by simp [loadCells, loadCellsFrom])]
      rfl
  · obtain rfl := ha h0
    exact run_convert_bytes_arg W 41 5 Tryd.underlying41 Tryd.underlying5 b off xs.length cap (xs.map Int.ofNat) (by simp) (fun i hi => by
      rw [(hc h0).2 i hi]
      simp [List.getElem?_eq_getElem hi]) 9 Tryd.underlying9
/-- Digits, as the chapter's row folds them. -/
def dig (pre : List (Fin 64)) : Nat := pre.foldl (fun n x => 10 * n + x.1) 0
theorem dig_map (pre : List (Fin 64)) : dig pre = (pre.map (·.1)).foldl (fun n x => 10 * n + x) 0 := by simp [dig, List.foldl_map]
theorem dig_all (pre : List (Fin 64)) (h : pre.map (·.1) = WM.bitsOf 133) : dig pre = 27 := by rw [dig_map, h, row7]; decide
theorem dig_pre (pre : List (Fin 64)) (h : pre.map (·.1) <+: WM.bitsOf 133) : dig pre ≤ 27 := by
  rw [dig_map]
  rw [row7] at h
  generalize pre.map (·.1) = l at *
  obtain ⟨t, ht⟩ := h
  match l, ht with
  | [], _ => decide
  | [a], ht => simp at ht; obtain ⟨rfl, _⟩ := ht; decide
  | [a, b], ht => simp at ht; obtain ⟨rfl, rfl, _⟩ := ht; decide
  | [a, b, c], ht => simp at ht; obtain ⟨rfl, rfl, rfl, _⟩ := ht; decide
  | a :: b :: c :: d :: l, ht => simp at ht
theorem dig_snoc (pre : List (Fin 64)) (x : Fin 64) : dig (pre ++ [x]) = 10 * dig pre + x.1 := by simp [dig]
theorem twoSl (w : World) : Sl (w.alloc (.cells #[.int .u64 578437695752307201, .int .u64 9] 22)) .u64 (.slice (some ⟨w.heap.size, 0, none⟩) 2 2) [578437695752307201, 9] := by
  refine ⟨_, 2, rfl, by decide, fun _ => ⟨w.heap.size, 0, rfl, by simp, fun j hj => ?_⟩⟩
  have hj9 : j < 2 := hj
  have : j = 0 ∨ j = 1 := by omega
  rcases this with rfl | rfl <;> simp [go_sem]
set_option maxRecDepth 100000 in
set_option maxHeartbeats 4000000 in
theorem works_any (w : World) (ht : Tabs w) :
    Calls Tryd.prog 6 #[] w fun e w' => e = .returned (.bool true) ∧ Below w.heap.size w w' := by
  have R1 := Lib.hid row1
  have R2 := Lib.hid row2
  have R3 := Lib.hid row3
  have R4 := Lib.hid row4
  have R5 := Lib.hid row5
  have R6 := Lib.hid row6
  refine (callsIn_wide (n := 5)).1 ?_
  refine callsIn_of_wp_marks Tryd.func6 rfl trivial ?_ rfl
  simp only [Tryd.ntmps6, List.size_toArray, List.length_nil, Nat.reduceSub, Array.replicate_succ, Array.replicate_zero, List.push_toArray, List.append_toArray, List.nil_append, List.cons_append]
  gi_wp2_with fail
  refine ⟨trivial, ?_⟩
  have z0 := ht.room
  refine (callsIn_wide.2 (get_yes 4 8 4660 (by decide) (by decide) (by decide) (by decide) _ (by exact ht.below (by repeat (first | exact Below.refl _ _ | assumption | refine Below.drew ?_ | refine below_drewN ?_ _ | refine Below.alloc ?_ (by (try simp) <;> omega) _ | refine Below.setCell ?_ (by (try simp) <;> omega) _ | refine Below.trans ?_ (Below.mono (by assumption) (by (try simp) <;> omega)))) ht.room))).mono ?_
  rintro e w1 ⟨rfl, hb1⟩
  have z1 := hb1.size; try simp at z1
  obtain ⟨hc1, hf1⟩ := bcell hb1
  rw [R1.out]
  have t1 : Tabs w1 := (by exact ht.below (by repeat (first | exact Below.refl _ _ | assumption | refine Below.drew ?_ | refine below_drewN ?_ _ | refine Below.alloc ?_ (by (try simp) <;> omega) _ | refine Below.setCell ?_ (by (try simp) <;> omega) _ | refine Below.trans ?_ (Below.mono (by assumption) (by (try simp) <;> omega)))) ht.room)
  gi_wp2_with fail
  refine ⟨trivial, ?_⟩
  refine (callsIn_wide.2 (put_yes 4 8 4660 255 (by decide) (by decide) (by decide) (by decide) (by decide) _ t1)).mono ?_
  rintro e w2 ⟨rfl, hb2⟩
  have z2 := hb2.size; try simp at z2
  obtain ⟨hc2, hf2⟩ := bcell hb2
  have t2 : Tabs w2 := t1.below hb2 t1.room
  have l1 : w.heap.size < w1.heap.size := by omega
  rw [R2.out]
  gi_wp2_with fail
  refine ⟨trivial, ?_⟩
  refine (callsIn_wide.2 (put_big 4 8 0 256 (by decide) (by decide) (by decide) (by decide) (by decide) _ t2)).mono ?_
  rintro e w3 ⟨rfl, hb3⟩
  have z3 := hb3.size; try simp at z3
  gi_wp2_with fail
  refine ⟨trivial, ?_⟩
  refine (callsIn_wide.2 (get_no 63 2 1 row8 (by decide) _)).mono ?_
  rintro e w4 ⟨rfl, hb4⟩
  have z4 := hb4.size; try simp at z4
  have t3 : Tabs w3 := t2.below hb3 t2.room
  have t4 : Tabs w4 := t3.below hb4 t3.room
  gi_wp2_with fail
  refine ⟨trivial, ?_⟩
  have s5 : Sl (w4.alloc (.cells #[.int .u8 1, .int .u8 2, .int .u8 3, .int .u8 4, .int .u8 5, .int .u8 6, .int .u8 7, .int .u8 8, .int .u8 9] 5)) .u8 (.slice (some ⟨w4.heap.size, 0, none⟩) 9 9) nine := nineSl w4
  have t5 : Tabs (w4.alloc (.cells #[.int .u8 1, .int .u8 2, .int .u8 3, .int .u8 4, .int .u8 5, .int .u8 6, .int .u8 7, .int .u8 8, .int .u8 9] 5)) := t4.below ((Below.refl _ _).alloc (Nat.le_refl _) _) t4.room
  refine (callsIn_wide.2 (words_any _ nine (by decide) nine256 _ s5 (by intro a n c e; simp at e; omega))).mono ?_
  rintro e w6 ⟨r, rfl, -, hrow6, hb6⟩
  have z6 := hb6.size; try simp at z6
  have t6 : Tabs w6 := t5.below hb6 t5.room
  rw [R3.out] at hrow6
  have s6 : Sl w6 .u64 r [578437695752307201, 9] := sl_of_owns hrow6
  have s56 : Sl w6 .u8 (.slice (some ⟨w4.heap.size, 0, none⟩) 9 9) nine := s5.below hb6
  clear hrow6 s5
  gi_wp2_with fail
  refine ⟨trivial, ?_⟩
  refine (callsIn_wide.2 (bytes_rest r [578437695752307201, 9] 9 two64 (by decide) (by decide) (by decide) (by decide) _ s6)).mono ?_
  rintro e w7 ⟨⟨-, hok⟩, hb7⟩
  obtain ⟨c, rfl, s7⟩ := hok R4.out
  have z7 := hb7.size; try simp at z7
  have t7 : Tabs w7 := t6.below hb7 t6.room
  rw [R5.out] at s7
  have s67 : Sl w7 .u64 r [578437695752307201, 9] := s6.below hb7
  have s57 : Sl w7 .u8 (.slice (some ⟨w4.heap.size, 0, none⟩) 9 9) nine := s56.below hb7
  clear hok s6 s56
  gi_wp2_with fail
  refine ⟨trivial, ?_⟩
  refine (callsIn_wide.2 (bytes_tail1 r [578437695752307201, 9] 8 (by decide) (by decide) (by decide) (by decide) _ s67)).mono ?_
  rintro e w8 ⟨rfl, hb8⟩
  have z8 := hb8.size; try simp at z8
  have t8 : Tabs w8 := t7.below hb8 t7.room
  have s8 : Sl w8 .u8 c nine := s7.below hb8
  have s68 : Sl w8 .u64 r [578437695752307201, 9] := s67.below hb8
  have s58 : Sl w8 .u8 (.slice (some ⟨w4.heap.size, 0, none⟩) 9 9) nine := s57.below hb8
  have l8 : w4.heap.size < w8.heap.size := by omega
  clear s7 s67 s57
  gi_wp2_with fail
  refine ⟨trivial, ?_⟩
  refine (callsIn_wide.2 (bits_any 133 _)).mono ?_
  rintro e w9 ⟨rfl, rfl⟩
  gi_wp2_with fail
  rename_i hKn
  refine hKn _ _ ?_
  clear hKn
  gi_wp2_with fail
  refine ⟨trivial, ?_⟩
  refine (callsIn_wide.2 (bits_any 133 _)).mono ?_
  rintro e w10 ⟨rfl, rfl⟩
  gi_wp2_with fail
  have bN := ((Boxed.new w8 3 (.int .i64 0)).alloc (.cells #[.int .u64 133] 22)).alloc (.cells #[.int .u64 133] 22)
  have bX := Boxed.new ((w8.alloc (.cells #[.int .i64 0] 3)).alloc (.cells #[.int .u64 133] 22)) 22 (.int .u64 133)
  have b8 : Below w8.heap.size w8 (((w8.alloc (.cells #[.int .i64 0] 3)).alloc (.cells #[.int .u64 133] 22)).alloc (.cells #[.int .u64 133] 22)) := (by repeat (first | exact Below.refl _ _ | assumption | refine Below.drew ?_ | refine below_drewN ?_ _ | refine Below.alloc ?_ (by (try simp) <;> omega) _ | refine Below.setCell ?_ (by (try simp) <;> omega) _ | refine Below.trans ?_ (Below.mono (by assumption) (by (try simp) <;> omega))))
  have hsz : (((w8.alloc (.cells #[.int .i64 0] 3)).alloc (.cells #[.int .u64 133] 22)).alloc (.cells #[.int .u64 133] 22)).heap.size = w8.heap.size + 3 := by simp
  simp only [World.size_alloc] at bX
  generalize hW0 : (((w8.alloc (.cells #[.int .i64 0] 3)).alloc (.cells #[.int .u64 133] 22)).alloc (.cells #[.int .u64 133] 22)) = W0 at *
  clear hW0
  have t9 : Tabs W0 := t8.below b8 t8.room
  have zw : w.heap.size ≤ w8.heap.size := by omega
  have bw8 : Below w.heap.size w w8 := (by repeat (first | exact Below.refl _ _ | assumption | refine Below.drew ?_ | refine below_drewN ?_ _ | refine Below.alloc ?_ (by (try simp) <;> omega) _ | refine Below.setCell ?_ (by (try simp) <;> omega) _ | refine Below.trans ?_ (Below.mono (by assumption) (by (try simp) <;> omega))))
  clear hb1 hb2 hb3 hb4 hb6 hb7 hb8 hc1 hf1 hc2 hf2 t1 t2 t3 t4 t5 t6 t7 R1 R2 R3 R4 R5 R6 ht
  refine wpIn_rangeFunc_ownG (N := (WM.bitsOf 133).length) (n := 5) rfl (by decide) (gf := 17) (lb := #[.pointer (some ⟨w8.heap.size + 1 + 1, 0, none⟩)]) rfl trivial (enters_of Tryd.func17 (by kernel_rfl) rfl)
    (bits_stops 4 (by decide) (w8.heap.size + 1 + 1) 133 (by decide) W0 t9 (by omega) bX.cell) (fun h k => Keeps.trans h k) (keeps_b (fun k hk => by rcases hk with rfl | hk <;> omega)) (Below.refl _ _) (fun _ => rfl)
    (fun pre W => Boxed W w8.heap.size 3 (.int .i64 (dig pre : Nat)) ∧ dig pre ≤ 1000 ∧ Below w8.heap.size w8 W)
    (fun _ pre W => 1000 < dig pre ∧ Below w8.heap.size w8 W)
    (OwnFrom.and (Own.from (boxed_own _ _ (fun pre => .int .i64 (dig pre : Nat))) _) (OwnFrom.and (ownFrom_pure _ (fun pre => dig pre ≤ 1000)) (ownFrom_below (Nat.le_refl _) (by omega))))
    (fun _ => OwnFrom.and (ownFrom_pure _ (fun pre => 1000 < dig pre)) (ownFrom_below (Nat.le_refl _) (by omega)))
    ⟨bN, by decide, b8⟩
    ?a1 ?assign ?body ?done ?stop
  case assign =>
    intro l x W K hK
    gi_wp2
    exact hK
  case body =>
    rintro l pre x W ⟨hv, hle, hB⟩ hlt
    have hc := hv.cell
    have hf := hv.frozen
    have hx := x.2
    have HD := Lib.hid (dig_snoc pre x)
    have e1 : (10 * (dig pre : Int) + ((x.1 : Nat) : Int)) = ((10 * dig pre + x.1 : Nat) : Int) := by omega
    have HE := Lib.hid e1; clear e1
    gi_wp2
    · have hgt : 1000 < 10 * (dig pre : Int) + (x.1 : Int) := by assumption
      exact ⟨(KeepsOthers.setCell _ _ _).from _, by rw [HD.out]; omega, hB.setCell (p := ⟨w8.heap.size, 0, none⟩) (Nat.le_refl _) _⟩
    · have hgt : 10 * (dig pre : Int) + (x.1 : Int) ≤ 1000 := by assumption
      exact ⟨(KeepsOthers.setCell _ _ _).from _, Keeps.set _ _ (by rintro (h | h) <;> omega), by rw [HD.out, HE.out]; exact hv.set _, by rw [HD.out]; omega, hB.setCell (p := ⟨w8.heap.size, 0, none⟩) (Nat.le_refl _) _⟩
  case done =>
    rintro D ys W hD hys ⟨hv, -, hB⟩ hK
    rw [dig_all ys hys] at hv
    have hc := hv.cell
    have zW := hB.size
    have s8' : Sl W .u8 c nine := s8.below hB
    have s68' : Sl W .u64 r [578437695752307201, 9] := s68.below hB
    have s58' : Sl W .u8 (.slice (some ⟨w4.heap.size, 0, none⟩) 9 9) nine := s58.below hB
    have ltv := hv.lt
    clear s8 s68 s58 hys
    gi_wp2_with (refine ⟨trivial, ?_⟩; gi_at_call 12; refine (callsIn_wide.2 (num_any _ _)).mono ?_; rintro e w' ⟨rfl, rfl⟩)
    refine ⟨trivial, ?_⟩
    refine (callsIn_wide.2 (same_any r _ [578437695752307201, 9] [578437695752307201, 9] (by decide) (by decide) _ (s68'.below (by repeat (first | exact Below.refl _ _ | assumption | refine Below.drew ?_ | refine below_drewN ?_ _ | refine Below.alloc ?_ (by (try simp) <;> omega) _ | refine Below.setCell ?_ (by (try simp) <;> omega) _ | refine Below.trans ?_ (Below.mono (by assumption) (by (try simp) <;> omega))))) (twoSl W))).mono ?_
    rintro e w11 ⟨rfl, hb11⟩
    have z11 := hb11.size; try simp at z11
    have c1 := conv_sl (s8'.below (W' := w11) (by repeat (first | exact Below.refl _ _ | assumption | refine Below.drew ?_ | refine below_drewN ?_ _ | refine Below.alloc ?_ (by (try simp) <;> omega) _ | refine Below.setCell ?_ (by (try simp) <;> omega) _ | refine Below.trans ?_ (Below.mono (by assumption) (by (try simp) <;> omega)))))
    have c2 := conv_sl (s58'.below (W' := w11) (by repeat (first | exact Below.refl _ _ | assumption | refine Below.drew ?_ | refine below_drewN ?_ _ | refine Below.alloc ?_ (by (try simp) <;> omega) _ | refine Below.setCell ?_ (by (try simp) <;> omega) _ | refine Below.trans ?_ (Below.mono (by assumption) (by (try simp) <;> omega)))))
    have hv11 : w11.cell? ⟨w8.heap.size, 0, none⟩ = some (.int .i64 27) := (hb11.cell (p := ⟨w8.heap.size, 0, none⟩) (by simp; omega)).trans (by simp [go_sem, hc, ltv])
    obtain ⟨a8, cap8, b8', off8, rfl, -, -, -⟩ := s8'.cell
    gi_wp2_with (refine ⟨trivial, ?_⟩; gi_at_call 12; refine (callsIn_wide.2 (num_any _ _)).mono ?_; rintro e w' ⟨rfl, rfl⟩)
    have hDl : D < W.heap.size := (Array.getElem?_eq_some_iff.1 hK).1
    have hK' : w11.heap[D]? = some (.deferred (some [])) := (hb11.block D (by simp; omega)).trans ((Below.heap_alloc W _ D hDl).trans hK)
    refine ⟨by simp, .inl ⟨_, _, rfl, run_takeDeferred hK', ?_⟩⟩
    have bW : Below w.heap.size w W := bw8.trans (hB.mono zw)
    have b11 : Below w.heap.size w w11 := (bW.alloc (by omega) _).trans (hb11.mono (by simp; omega))
    exact ⟨_, results_tmp rfl _ _ _, rfl, b11.trans (belowK_b (w := w) (Nat.le_refl _) w11 D _ _ (by omega) hK' rfl rfl)⟩
  case stop =>
    rintro D cd pre W _ hpre ⟨h1, -⟩ _
    exact absurd (dig_pre pre hpre) (by omega)
end Go.Proofs.YthjlhbkjmlohcaaDoor
