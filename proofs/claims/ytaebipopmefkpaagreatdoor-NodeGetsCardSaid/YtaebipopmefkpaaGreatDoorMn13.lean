/-
  Texts NdKH to NdMI, as one.
-/
import Derived.Test.YtaebipopmefkpaaGreatDoorMn12
/-
  node: the part of an inode that is two numbers in one word.
-/
namespace Go.Proofs.YtaebipopmefkpaaGreatDoor
open Go.RowKit Go.Shelf Go.Sort
attribute [local go_sem] Oper.semAt_some

theorem head_word (l k m : Nat) (hl : l < 18446744073709551616) (hk : k < 256) (hm : m < 72057594037927936) : WM.putN (WM.putN l 0 8 k) 8 56 m = k + 256 * m := by
  have h1 := WM.putN_lt l 0 8 k hl
  have h2 := WM.putN_lt (WM.putN l 0 8 k) 8 56 m h1
  have a := WM.get_put (WM.putN l 0 8 k) 8 56 m (by decide) hm h1
  have b := WM.get_other (WM.putN l 0 8 k) 8 56 m 0 8 (by decide) hm h1 (fun j h => by omega)
  rw [WM.get_put l 0 8 k (by decide) hk hl] at b
  unfold WM.getN at a b
  generalize WM.putN (WM.putN l 0 8 k) 8 56 m = z at *
  have e8 : (2 : Nat) ^ 8 = 256 := by decide
  have e56 : (2 : Nat) ^ 56 = 72057594037927936 := by decide
  rw [e8, e56] at a
  rw [e8, Nat.pow_zero, Nat.div_one] at b
  omega
/-- Two fields in boxes. -/
def FieldBox (W : World) (n : Nat) (f v : Nat) : Prop := Blk W n 181 #[.int .i64 (f : Nat), .int .i64 (v : Nat)]
def headOk (k m : Int) : Bool := inB (k, 1, 2) && inB (m, 1, if k = 2 then 1 else 200)
set_option maxRecDepth 100000 in
set_option maxHeartbeats 4000000 in
theorem headMay (w : World) (x : Array Value) (k m : Int) (_hs : x.size = 3) (hk : x[0]? = some (.int .i64 k)) (hm : x[1]? = some (.int .i64 m)) :
    Calls Tryz.prog 90 #[.agg x] w fun e w' => e = .returned (.bool (headOk k m)) ∧ Below w.heap.size w w' := by
  obtain ⟨W1, hW1⟩ : ∃ W1, w.alloc (.cells x 31) = W1 := ⟨_, rfl⟩
  obtain ⟨W2, hW2⟩ : ∃ W2, (W1.alloc (.cells #[.int .i64 k, .int .i64 1, .int .i64 2] 112)).drew = W2 := ⟨_, rfl⟩
  have hb1 : Below w.heap.size w W1 := by rw [← hW1]; exact (by repeat (first | exact Below.refl _ _ | assumption | refine Below.drew ?_ | refine below_drewN ?_ _ | refine Below.alloc ?_ (by (try simp) <;> omega) _ | refine Below.setCell ?_ (by (try simp) <;> omega) _ | refine Below.trans ?_ (Below.mono (by assumption) (by (try simp) <;> omega))))
  have hx1 : Blk W1 w.heap.size 31 x := by rw [← hW1]; exact Blk.new _ _ _
  have hb2 : Below W1.heap.size W1 W2 := by rw [← hW2]; exact (by repeat (first | exact Below.refl _ _ | assumption | refine Below.drew ?_ | refine below_drewN ?_ _ | refine Below.alloc ?_ (by (try simp) <;> omega) _ | refine Below.setCell ?_ (by (try simp) <;> omega) _ | refine Below.trans ?_ (Below.mono (by assumption) (by (try simp) <;> omega))))
  have hx2 := hx1.below hb2 hx1.lt
  have hz2 : W1.heap.size = w.heap.size + 1 := by rw [← hW1]; simp
  have hd2 : Blk W2 (w.heap.size + 1) 112 #[.int .i64 k, .int .i64 1, .int .i64 2] := by rw [← hW2, ← hz2]; exact Blk.new _ _ _
  have hW12 : ((w.alloc (.cells x 31)).alloc (.cells #[.int .i64 k, .int .i64 1, .int .i64 2] 112)).drew = W2 := by rw [hW1]; exact hW2
  have HW := Lib.hid hW12
  have c10 := hx1.cell hk
  have HW1 := Lib.hid hW1
  have HB2 := Lib.hid (hb1.trans (hb2.mono hb1.size))
  have hR : (fun W : World => W.cell? ⟨w.heap.size, 0, none⟩ = some (.int .i64 k) ∧ W.cell? ⟨w.heap.size, 1, none⟩ = some (.int .i64 m) ∧ W.cell? ⟨w.heap.size + 1, 0, none⟩ = some (.int .i64 k) ∧ W.cell? ⟨w.heap.size + 1, 1, none⟩ = some (.int .i64 1) ∧ W.cell? ⟨w.heap.size + 1, 2, none⟩ = some (.int .i64 2)) W2 := ⟨hx2.cell hk, hx2.cell hm, hd2.cell (j := 0) rfl, hd2.cell (j := 1) rfl, hd2.cell (j := 2) rfl⟩
  have HX2 := Lib.hid hx2
  have HD2 := Lib.hid hd2
  have hk0 : x[0]? = some (.int .i64 k) := hk
  clear hW2 hb1 hb2 hx1 hx2 hz2 hd2 hm hW12
  have HML := Lib.hid (fun V => mostLinks_any k V)
  have hc0 : (w.alloc (.cells x 31)).cell? ⟨w.heap.size, 0, none⟩ = some (.int .i64 k) := (Blk.new w _ x).cell hk
  clear hW1 c10 hk hk0
  go_enter Tryz.func90, Tryz.ntmps90
  go_wp2_with fail
  refine wp_region_M 9 (fun W : World => W.cell? ⟨w.heap.size, 0, none⟩ = some (.int .i64 k) ∧ W.cell? ⟨w.heap.size, 1, none⟩ = some (.int .i64 m) ∧ W.cell? ⟨w.heap.size + 1, 0, none⟩ = some (.int .i64 k) ∧ W.cell? ⟨w.heap.size + 1, 1, none⟩ = some (.int .i64 1) ∧ W.cell? ⟨w.heap.size + 1, 2, none⟩ = some (.int .i64 2)) (by kernel_rfl) ?_
  rw [HW.out]
  (refine wpAnyM_take2 8 (i := 0) (v := ?_) rfl (by kernel_rfl) (by kernel_rfl) (fun _ _ _ h => h) (Or.inl ⟨by rfl, ?_⟩) hR ?_; rotate_left; (focus (intro w hSw; (try dsimp only at hSw); go_simp; (try with_reducible rfl))); (try simp only [put_laws])); (refine wpAnyM_take2 8 (i := 1) (v := ?_) rfl (by kernel_rfl) (by kernel_rfl) (fun _ _ _ h => h) (Or.inl ⟨by rfl, ?_⟩) hR ?_; rotate_left; (focus (intro w hSw; (try dsimp only at hSw); go_simp; (try with_reducible rfl))); (try simp only [put_laws])); (refine wpAnyM_take2 8 (i := 2) (v := ?_) rfl (by kernel_rfl) (by kernel_rfl) (fun _ _ _ h => h) (Or.inl ⟨by rfl, ?_⟩) hR ?_; rotate_left; (focus (intro w hSw; (try dsimp only at hSw); go_simp; (try with_reducible rfl))); (try simp only [put_laws])); (refine wpAnyM_take2 8 (i := 3) (v := ?_) rfl (by kernel_rfl) (by kernel_rfl) (fun _ _ _ h => h) (Or.inl ⟨by rfl, ?_⟩) hR ?_; rotate_left; (focus (intro w hSw; (try dsimp only at hSw); go_simp; (try with_reducible rfl))); (try simp only [put_laws])); (refine wpAnyM_take2 8 (i := 4) (v := ?_) rfl (by kernel_rfl) (by kernel_rfl) (fun _ _ _ h => h) (Or.inl ⟨by rfl, ?_⟩) hR ?_; rotate_left; (focus (intro w hSw; (try dsimp only at hSw); go_simp; (try with_reducible rfl))); (try simp only [put_laws]))
  (refine wpAnyM_one (i := 5) rfl (by kernel_rfl) (fun K hK => ?_); rw [if_pos (by rfl)]; (try simp only [elem_laws]))
  go_simp
  refine (HML.out _).mono ?_
  rintro e w3 ⟨rfl, rfl⟩
  refine hK _ _ (fun _ => hR) ?_
  clear hK K
  (try simp only [put_laws])
  obtain ⟨u, hu⟩ : ∃ u : Int, (if k = 2 then 1 else 200) = u := ⟨_, rfl⟩
  have HU := Lib.hid hu
  rw [hu]
  clear hu
  (refine wpAnyM_one (i := 6) rfl (by kernel_rfl) (fun K hK => ?_); rw [if_pos (by rfl)]; (try simp only [elem_laws]))
  go_simp
  refine hK _ _ (fun _ => hR) ?_
  clear hK K
  (try simp only [put_laws])
  (refine wpAnyM_one (i := 7) rfl (by kernel_rfl) (fun K hK => ?_); rw [if_pos (by rfl)]; (try simp only [elem_laws]))
  go_simp
  obtain ⟨W4, hW4⟩ : ∃ W4, w3.alloc (.cells #[.int .i64 k, .int .i64 1, .int .i64 2, .int .i64 m, .int .i64 1, .int .i64 u] 112) = W4 := ⟨_, rfl⟩
  have hb4 : Below w3.heap.size w3 W4 := by rw [← hW4]; exact (Below.refl _ _).alloc (Nat.le_refl _) _
  have hbd : BoundsAt W4 w3.heap.size [(k, 1, 2), (m, 1, u)] := by rw [← hW4]; exact bounds_two k 1 2 m 1 u
  have hx4 := HX2.out.below hb4 HX2.out.lt
  have hd4 := HD2.out.below hb4 HD2.out.lt
  have c0 := (hb4.cell (p := ⟨w.heap.size, 0, none⟩) HX2.out.lt).trans hR.1
  have c1 := (hb4.cell (p := ⟨w.heap.size, 1, none⟩) HX2.out.lt).trans hR.2.1
  have hR4 : (fun W : World => W.cell? ⟨w.heap.size, 0, none⟩ = some (.int .i64 k) ∧ W.cell? ⟨w.heap.size, 1, none⟩ = some (.int .i64 m) ∧ W.cell? ⟨w.heap.size + 1, 0, none⟩ = some (.int .i64 k) ∧ W.cell? ⟨w.heap.size + 1, 1, none⟩ = some (.int .i64 1) ∧ W.cell? ⟨w.heap.size + 1, 2, none⟩ = some (.int .i64 2)) W4 := ⟨c0, c1, hd4.cell (j := 0) rfl, hd4.cell (j := 1) rfl, hd4.cell (j := 2) rfl⟩
  rw [hW4]
  refine hK _ _ (fun _ => hR4) ?_
  clear hK K hR c0 c1 hd4
  have HB4 := Lib.hid (HB2.out.trans (hb4.mono HB2.out.size))
  have HX4 := Lib.hid hx4
  have HWI := Lib.hid (within_any [(k, 1, 2), (m, 1, u)] (by simp) w3.heap.size W4 hbd)
  have HD4 := Lib.hid (HD2.out.below hb4 HD2.out.lt)
  clear hb4 hx4 hW4 hbd
  (try simp only [put_laws])
  (refine wpAnyM_one (i := 8) rfl (by kernel_rfl) (fun K hK => ?_); rw [if_pos (by rfl)]; (try simp only [elem_laws]))
  go_simp
  refine HWI.out.mono ?_
  rintro e w5 ⟨rfl, hb5⟩
  have c0 := (hb5.cell (p := ⟨w.heap.size, 0, none⟩) HX4.out.lt).trans hR4.1
  have c1 := (hb5.cell (p := ⟨w.heap.size, 1, none⟩) HX4.out.lt).trans hR4.2.1
  have hd5 := HD4.out.below hb5 HD4.out.lt
  have hR5 : (fun W : World => W.cell? ⟨w.heap.size, 0, none⟩ = some (.int .i64 k) ∧ W.cell? ⟨w.heap.size, 1, none⟩ = some (.int .i64 m) ∧ W.cell? ⟨w.heap.size + 1, 0, none⟩ = some (.int .i64 k) ∧ W.cell? ⟨w.heap.size + 1, 1, none⟩ = some (.int .i64 1) ∧ W.cell? ⟨w.heap.size + 1, 2, none⟩ = some (.int .i64 2)) w5 := ⟨c0, c1, hd5.cell (j := 0) rfl, hd5.cell (j := 1) rfl, hd5.cell (j := 2) rfl⟩
  refine hK _ _ (fun _ => hR5) ?_
  clear hK K hR4 hR5 c0 c1 hd5
  have HB5 := Lib.hid (HB4.out.trans (hb5.mono HB4.out.size))
  clear hb5
  (try simp only [put_laws])
  (refine wpAnyM_last rfl (by kernel_rfl) (fun K hK => ?_); rw [if_pos (by rfl)]; (try simp only [elem_laws]))
  go_simp
  refine hK _ _ ?_
  clear hK K
  (try simp only [put_laws])
  refine wpAnyM_done (by kernel_rfl) ?_ _
  go_wp2_with fail
  go_ret
  exact ⟨by simp [headOk, HU.out], HB5.out⟩
set_option maxRecDepth 100000 in
set_option maxHeartbeats 4000000 in
theorem headWrite (w : World) (ht : Tabs w) (x : Array Value) (k m b n1 n2 l0 : Nat) (l : List Int) (hl : Line8 l) (hl0 : l[0]?.getD 0 = ((l0 : Nat) : Int)) (hk : x[0]? = some (.int .i64 ((k : Nat) : Int))) (hm : x[1]? = some (.int .i64 ((m : Nat) : Int))) (hk2 : k < 256) (hm2 : m < 1000)
    (h1 : FieldBox w n1 0 8) (h2 : FieldBox w n2 8 56) (hb : Blk w b 113 (lnA l)) (hb0 : 0 + 1 ≤ b) :
    Calls Tryz.prog 92 #[.agg x, .pointer (some ⟨b, 0, none⟩), .pointer (some ⟨n1, 0, none⟩), .pointer (some ⟨n2, 0, none⟩)] w fun e w' => (∃ u, e = .returned u) ∧ Blk w' b 113 (lnA (l.set 0 ((k + 256 * m : Nat) : Int))) ∧ Turn (fun k => k = b) w w' := by
  have hl64 : l0 < 18446744073709551616 := by
    have h := (hl.2 (l[0]?.getD 0) (by rw [List.getElem?_eq_getElem (by rw [hl.1]; decide)]; exact List.getElem_mem _)).2
    rw [hl0] at h
    omega
  have hp1 := WM.putN_lt l0 0 8 k hl64
  have hhw := head_word l0 k m hl64 hk2 (by omega)
  obtain ⟨W1, hW1⟩ : ∃ W1, (w.alloc (.cells x 31)).drew = W1 := ⟨_, rfl⟩
  have hb1 : Below w.heap.size w W1 := by rw [← hW1]; exact (by repeat (first | exact Below.refl _ _ | assumption | refine Below.drew ?_ | refine below_drewN ?_ _ | refine Below.alloc ?_ (by (try simp) <;> omega) _ | refine Below.setCell ?_ (by (try simp) <;> omega) _ | refine Below.trans ?_ (Below.mono (by assumption) (by (try simp) <;> omega))))
  have hx1 : Blk W1 w.heap.size 31 x := by rw [← hW1]; exact Blk.new _ _ _
  have f11 := Blk.below h1 hb1 (Blk.lt h1)
  have f21 := Blk.below h2 hb1 (Blk.lt h2)
  have hl1 := hb.below hb1 hb.lt
  have ht1 : Tabs W1 := ht.below hb1 ht.room
  have cb1 := hl1.cell (lnA_at l 0 (by rw [hl.1]; decide))
  rw [hl0] at cb1
  have hR : ((fun W : World => W.cell? ⟨b, 0, none⟩ = some (.int .u64 ((l0 : Nat) : Int)) ∧ W.cell? ⟨n1, 0, none⟩ = some (.int .i64 0) ∧ W.cell? ⟨n1, 1, none⟩ = some (.int .i64 8) ∧ W.cell? ⟨w.heap.size, 0, none⟩ = some (.int .i64 ((k : Nat) : Int)))) W1 := ⟨cb1, f11.cell (j := 0) rfl, f11.cell (j := 1) rfl, hx1.cell hk⟩
  have HPU := Lib.hid (fun V (hV : Below W1.heap.size W1 V) => put_yes 0 8 l0 k (by decide) (by decide) (by decide) hl64 hk2 V (ht1.below hV ht1.room))
  have HPV := Lib.hid (fun V (hV : Tabs V) => put_yes 8 56 (WM.putN l0 0 8 k) m (by decide) (by decide) (by decide) hp1 (by omega) V hV)
  have HHW := Lib.hid hhw
  obtain ⟨p0, hp0⟩ : ∃ p0, WM.putN l0 0 8 k = p0 := ⟨_, rfl⟩
  rw [hp0] at HPU HPV HHW
  obtain ⟨p1, hp1'⟩ : ∃ p1, WM.putN p0 8 56 m = p1 := ⟨_, rfl⟩
  rw [hp1'] at HPV HHW
  have wk : IntKind.u64.wrap ((k : Nat) : Int) = ((k : Nat) : Int) := by simp [IntKind.wrap, IntKind.bits, IntKind.signed]; omega
  have wm : IntKind.u64.wrap ((m : Nat) : Int) = ((m : Nat) : Int) := by simp [IntKind.wrap, IntKind.bits, IntKind.signed]; omega
  have HW1 := Lib.hid hW1
  have HB1 := Lib.hid hb1
  have HX1 := Lib.hid hx1
  have HF1 := Lib.hid f11
  have HF2 := Lib.hid f21
  have HL1 := Lib.hid hl1
  have HT1 := Lib.hid ht1
  have HK := Lib.hid hk
  have HM := Lib.hid hm
  have HL8 := Lib.hid hl.1
  have HLB := Lib.hid hb.lt
  have HB0 := Lib.hid hb0
  have HN1 := Lib.hid (Blk.lt h1)
  have HN2 := Lib.hid (Blk.lt h2)
  clear hW1 hb1 hx1 f11 f21 hl1 ht1 cb1 hk hm hl hl0 h1 h2 hb hb0 ht hp0 hp1 hp1' hhw hk2 hm2 hl64
  go_enter Tryz.func92, Tryz.ntmps92
  go_wp2_with fail
  refine wp_region_M 15 (fun W : World => W.cell? ⟨b, 0, none⟩ = some (.int .u64 ((l0 : Nat) : Int)) ∧ W.cell? ⟨n1, 0, none⟩ = some (.int .i64 0) ∧ W.cell? ⟨n1, 1, none⟩ = some (.int .i64 8) ∧ W.cell? ⟨w.heap.size, 0, none⟩ = some (.int .i64 ((k : Nat) : Int))) (by kernel_rfl) ?_
  rw [HW1.out]
  (refine wpAnyM_take2 8 (i := 0) (v := ?_) rfl (by kernel_rfl) (by kernel_rfl) (fun _ _ _ h => h) (Or.inl ⟨by rfl, ?_⟩) hR ?_; rotate_left; (focus (intro w hSw; (try dsimp only at hSw); go_simp; (try with_reducible rfl))); (try simp only [put_laws])); (refine wpAnyM_take2 8 (i := 1) (v := ?_) rfl (by kernel_rfl) (by kernel_rfl) (fun _ _ _ h => h) (Or.inl ⟨by rfl, ?_⟩) hR ?_; rotate_left; (focus (intro w hSw; (try dsimp only at hSw); go_simp; (try with_reducible rfl))); (try simp only [put_laws])); (refine wpAnyM_take2 8 (i := 2) (v := ?_) rfl (by kernel_rfl) (by kernel_rfl) (fun _ _ _ h => h) (Or.inl ⟨by rfl, ?_⟩) hR ?_; rotate_left; (focus (intro w hSw; (try dsimp only at hSw); go_simp; (try with_reducible rfl))); (try simp only [put_laws])); (refine wpAnyM_take2 8 (i := 3) (v := ?_) rfl (by kernel_rfl) (by kernel_rfl) (fun _ _ _ h => h) (Or.inl ⟨by rfl, ?_⟩) hR ?_; rotate_left; (focus (intro w hSw; (try dsimp only at hSw); go_simp; (try with_reducible rfl))); (try simp only [put_laws])); (refine wpAnyM_take2 8 (i := 4) (v := ?_) rfl (by kernel_rfl) (by kernel_rfl) (fun _ _ _ h => h) (Or.inl ⟨by rfl, ?_⟩) hR ?_; rotate_left; (focus (intro w hSw; (try dsimp only at hSw); go_simp; (try with_reducible rfl))); (try simp only [put_laws])); (refine wpAnyM_take2 8 (i := 5) (v := ?_) rfl (by kernel_rfl) (by kernel_rfl) (fun _ _ _ h => h) (Or.inl ⟨by rfl, ?_⟩) hR ?_; rotate_left; (focus (intro w hSw; (try dsimp only at hSw); go_simp; (try with_reducible rfl))); (try simp only [put_laws])); (refine wpAnyM_take2 8 (i := 6) (v := ?_) rfl (by kernel_rfl) (by kernel_rfl) (fun _ _ _ h => h) (Or.inl ⟨by rfl, ?_⟩) hR ?_; rotate_left; (focus (intro w hSw; (try dsimp only at hSw); go_simp; (try with_reducible rfl))); (try simp only [put_laws])); (refine wpAnyM_take2 8 (i := 7) (v := ?_) rfl (by kernel_rfl) (by kernel_rfl) (fun _ _ _ h => h) (Or.inl ⟨by rfl, ?_⟩) hR ?_; rotate_left; (focus (intro w hSw; (try dsimp only at hSw); go_simp; (try with_reducible rfl))); (try simp only [put_laws])); (refine wpAnyM_take2 8 (i := 8) (v := ?_) rfl (by kernel_rfl) (by kernel_rfl) (fun _ _ _ h => h) (Or.inl ⟨by rfl, ?_⟩) hR ?_; rotate_left; (focus (intro w hSw; (try dsimp only at hSw); go_simp; (try with_reducible rfl))); (try simp only [put_laws])); (refine wpAnyM_take2 8 (i := 13) (v := ?_) rfl (by kernel_rfl) (by kernel_rfl) (fun _ _ _ h => h) (Or.inl ⟨by rfl, ?_⟩) hR ?_; rotate_left; (focus (intro w hSw; (try dsimp only at hSw); go_simp; (try with_reducible rfl))); (try simp only [put_laws]))
  (refine wpAnyM_one (i := 9) rfl (by kernel_rfl) (fun K hK => ?_); rw [if_pos (by rfl)]; (try simp only [elem_laws]))
  go_simp
  refine (HPU.out _ (Below.refl _ _)).mono ?_
  rintro e w2 ⟨rfl, hb2⟩
  have hl2 := HL1.out.below hb2 HL1.out.lt
  have hx2 := HX1.out.below hb2 HX1.out.lt
  have f12 := HF1.out.below hb2 HF1.out.lt
  have f22 := HF2.out.below hb2 HF2.out.lt
  have hR2 : ((fun W : World => W.cell? ⟨b, 0, none⟩ = some (.int .u64 ((l0 : Nat) : Int)) ∧ W.cell? ⟨n1, 0, none⟩ = some (.int .i64 0) ∧ W.cell? ⟨n1, 1, none⟩ = some (.int .i64 8) ∧ W.cell? ⟨w.heap.size, 0, none⟩ = some (.int .i64 ((k : Nat) : Int)))) w2 := ⟨(hb2.cell (p := ⟨b, 0, none⟩) HL1.out.lt).trans hR.1, f12.cell (j := 0) rfl, f12.cell (j := 1) rfl, hx2.cell HK.out⟩
  refine hK _ _ (fun _ => hR2) ?_
  clear hK K hR
  have hR := hR2
  clear hR2
  (try simp only [put_laws])
  (refine wpAnyM_take2 8 (i := 10) (v := ?_) rfl (by kernel_rfl) (by kernel_rfl) (fun _ _ _ h => h) (Or.inl ⟨by rfl, ?_⟩) hR ?_; rotate_left; (focus (intro w hSw; (try dsimp only at hSw); go_simp; (try with_reducible rfl))); (try simp only [put_laws])); (refine wpAnyM_take2 8 (i := 11) (v := ?_) rfl (by kernel_rfl) (by kernel_rfl) (fun _ _ _ h => h) (Or.inl ⟨by rfl, ?_⟩) hR ?_; rotate_left; (focus (intro w hSw; (try dsimp only at hSw); go_simp; (try with_reducible rfl))); (try simp only [put_laws]))
  (refine wpAnyM_pure (i := 12) (v := ?_) rfl (by kernel_rfl) (by kernel_rfl) (fun _ _ _ h => h) (Or.inl ⟨by rfl, ?_⟩) hR ?_; rotate_left; (focus (intro w; go_simp; (try with_reducible rfl))); (try simp only [put_laws]))
  (refine wpAnyM_one (i := 14) rfl (by kernel_rfl) (fun K hK => ?_); rw [if_pos (by rfl)]; (try simp only [elem_laws]))
  go_simp
  refine hK _ _ (fun _ => hR) ?_
  clear hK K
  (try simp only [put_laws])
  have cb2 := hR.1
  have fb2 := hl2.frozen 0
  have lb2 := hl2.lt
  have HB2 := Lib.hid (HB1.out.trans (hb2.mono HB1.out.size))
  have HL2 := Lib.hid hl2
  have HX2 := Lib.hid hx2
  have HF22 := Lib.hid f22
  have HT2 : Hid (Tabs w2) := show Tabs _ from HT1.out.below hb2 HT1.out.room
  clear hR hb2 hl2 hx2 f12 f22
  (refine wpAnyM_last rfl (by kernel_rfl) (fun K hK => ?_); rw [if_pos (by rfl)]; (try simp only [elem_laws]))
  go_simp
  refine hK _ _ ?_
  clear hK K
  (try simp only [put_laws])
  refine wpAnyM_done (by kernel_rfl) ?_ _
  obtain ⟨W3, hW3⟩ : ∃ W3, (w2.setCell ⟨b, 0, none⟩ (.int .u64 ((p0 : Nat) : Int))).drew = W3 := ⟨_, rfl⟩
  go_wp2_with fail
  have hl3 : Blk W3 b 113 (lnA (l.set 0 ((p0 : Nat) : Int))) := by
    rw [← hW3, ← lnA_set]
    exact HL2.out.set 0 _
  have hln := HLB.out
  have ht3 : Turn (fun k => k = b) w2 W3 := by rw [← hW3]; exact (Turn.setCell (q := fun k => k = b) w2 _ rfl).trans (Turn.of_below (Below.drew (Below.refl _ _)) (Nat.le_refl _))
  have hx3 : Blk W3 w.heap.size 31 x := HX2.out.turn ht3 (by omega)
  have f23 : Blk W3 n2 181 #[.int .i64 ((8 : Nat) : Int), .int .i64 ((56 : Nat) : Int)] := HF22.out.turn ht3 (fun h => by
    have h1 := HF22.out
    unfold Blk at h1
    rw [h, show w2.heap[b]? = _ from HL2.out] at h1
    simp only [Option.some.injEq, Obj.cells.injEq] at h1
    exact absurd h1.2.1 (by decide))
  have HT3 : Hid (Tabs W3) := show Tabs _ by
    rw [← hW3]
    refine Tabs.below HT2.out (B := b) ((Below.drew (((Below.refl b w2).setCell (p := ⟨b, 0, none⟩) (Nat.le_refl _) _)))) ?_
    exact HB0.out
  have cb3 := hl3.cell (lnA_at (l.set 0 ((p0 : Nat) : Int)) 0 (by rw [List.length_set, HL8.out]; decide))
  rw [List.getElem?_set_self (by rw [HL8.out]; decide), Option.getD_some] at cb3
  have hR : ((fun W : World => W.cell? ⟨b, 0, none⟩ = some (.int .u64 ((p0 : Nat) : Int)) ∧ W.cell? ⟨n2, 0, none⟩ = some (.int .i64 8) ∧ W.cell? ⟨n2, 1, none⟩ = some (.int .i64 56) ∧ W.cell? ⟨w.heap.size, 1, none⟩ = some (.int .i64 ((m : Nat) : Int)))) W3 := ⟨cb3, f23.cell (j := 0) rfl, f23.cell (j := 1) rfl, hx3.cell HM.out⟩
  have HW3 := Lib.hid hW3
  have HTT := Lib.hid ht3
  have HL3 := Lib.hid hl3
  have HX3 := Lib.hid hx3
  have HF3 := Lib.hid f23
  clear hW3 hl3 ht3 hx3 f23 cb3 cb2 fb2 lb2
  refine wp_region_M 15 (fun W : World => W.cell? ⟨b, 0, none⟩ = some (.int .u64 ((p0 : Nat) : Int)) ∧ W.cell? ⟨n2, 0, none⟩ = some (.int .i64 8) ∧ W.cell? ⟨n2, 1, none⟩ = some (.int .i64 56) ∧ W.cell? ⟨w.heap.size, 1, none⟩ = some (.int .i64 ((m : Nat) : Int))) (by kernel_rfl) ?_
  rw [HW3.out]
  (refine wpAnyM_take2 8 (i := 0) (v := ?_) rfl (by kernel_rfl) (by kernel_rfl) (fun _ _ _ h => h) (Or.inl ⟨by rfl, ?_⟩) hR ?_; rotate_left; (focus (intro w hSw; (try dsimp only at hSw); go_simp; (try with_reducible rfl))); (try simp only [put_laws])); (refine wpAnyM_take2 8 (i := 1) (v := ?_) rfl (by kernel_rfl) (by kernel_rfl) (fun _ _ _ h => h) (Or.inl ⟨by rfl, ?_⟩) hR ?_; rotate_left; (focus (intro w hSw; (try dsimp only at hSw); go_simp; (try with_reducible rfl))); (try simp only [put_laws])); (refine wpAnyM_take2 8 (i := 2) (v := ?_) rfl (by kernel_rfl) (by kernel_rfl) (fun _ _ _ h => h) (Or.inl ⟨by rfl, ?_⟩) hR ?_; rotate_left; (focus (intro w hSw; (try dsimp only at hSw); go_simp; (try with_reducible rfl))); (try simp only [put_laws])); (refine wpAnyM_take2 8 (i := 3) (v := ?_) rfl (by kernel_rfl) (by kernel_rfl) (fun _ _ _ h => h) (Or.inl ⟨by rfl, ?_⟩) hR ?_; rotate_left; (focus (intro w hSw; (try dsimp only at hSw); go_simp; (try with_reducible rfl))); (try simp only [put_laws])); (refine wpAnyM_take2 8 (i := 4) (v := ?_) rfl (by kernel_rfl) (by kernel_rfl) (fun _ _ _ h => h) (Or.inl ⟨by rfl, ?_⟩) hR ?_; rotate_left; (focus (intro w hSw; (try dsimp only at hSw); go_simp; (try with_reducible rfl))); (try simp only [put_laws])); (refine wpAnyM_take2 8 (i := 5) (v := ?_) rfl (by kernel_rfl) (by kernel_rfl) (fun _ _ _ h => h) (Or.inl ⟨by rfl, ?_⟩) hR ?_; rotate_left; (focus (intro w hSw; (try dsimp only at hSw); go_simp; (try with_reducible rfl))); (try simp only [put_laws])); (refine wpAnyM_take2 8 (i := 6) (v := ?_) rfl (by kernel_rfl) (by kernel_rfl) (fun _ _ _ h => h) (Or.inl ⟨by rfl, ?_⟩) hR ?_; rotate_left; (focus (intro w hSw; (try dsimp only at hSw); go_simp; (try with_reducible rfl))); (try simp only [put_laws])); (refine wpAnyM_take2 8 (i := 7) (v := ?_) rfl (by kernel_rfl) (by kernel_rfl) (fun _ _ _ h => h) (Or.inl ⟨by rfl, ?_⟩) hR ?_; rotate_left; (focus (intro w hSw; (try dsimp only at hSw); go_simp; (try with_reducible rfl))); (try simp only [put_laws])); (refine wpAnyM_take2 8 (i := 8) (v := ?_) rfl (by kernel_rfl) (by kernel_rfl) (fun _ _ _ h => h) (Or.inl ⟨by rfl, ?_⟩) hR ?_; rotate_left; (focus (intro w hSw; (try dsimp only at hSw); go_simp; (try with_reducible rfl))); (try simp only [put_laws])); (refine wpAnyM_take2 8 (i := 13) (v := ?_) rfl (by kernel_rfl) (by kernel_rfl) (fun _ _ _ h => h) (Or.inl ⟨by rfl, ?_⟩) hR ?_; rotate_left; (focus (intro w hSw; (try dsimp only at hSw); go_simp; (try with_reducible rfl))); (try simp only [put_laws]))
  (refine wpAnyM_one (i := 9) rfl (by kernel_rfl) (fun K hK => ?_); rw [if_pos (by rfl)]; (try simp only [elem_laws]))
  go_simp
  refine (HPV.out _ HT3.out).mono ?_
  rintro e w4 ⟨rfl, hb4⟩
  have hl4 := HL3.out.below hb4 HL3.out.lt
  have hx4 := HX3.out.below hb4 HX3.out.lt
  have f24 := HF3.out.below hb4 HF3.out.lt
  have hR2 : ((fun W : World => W.cell? ⟨b, 0, none⟩ = some (.int .u64 ((p0 : Nat) : Int)) ∧ W.cell? ⟨n2, 0, none⟩ = some (.int .i64 8) ∧ W.cell? ⟨n2, 1, none⟩ = some (.int .i64 56) ∧ W.cell? ⟨w.heap.size, 1, none⟩ = some (.int .i64 ((m : Nat) : Int)))) w4 := ⟨(hb4.cell (p := ⟨b, 0, none⟩) HL3.out.lt).trans hR.1, f24.cell (j := 0) rfl, f24.cell (j := 1) rfl, hx4.cell HM.out⟩
  refine hK _ _ (fun _ => hR2) ?_
  clear hK K hR
  have hR := hR2
  clear hR2
  (try simp only [put_laws])
  (refine wpAnyM_take2 8 (i := 10) (v := ?_) rfl (by kernel_rfl) (by kernel_rfl) (fun _ _ _ h => h) (Or.inl ⟨by rfl, ?_⟩) hR ?_; rotate_left; (focus (intro w hSw; (try dsimp only at hSw); go_simp; (try with_reducible rfl))); (try simp only [put_laws])); (refine wpAnyM_take2 8 (i := 11) (v := ?_) rfl (by kernel_rfl) (by kernel_rfl) (fun _ _ _ h => h) (Or.inl ⟨by rfl, ?_⟩) hR ?_; rotate_left; (focus (intro w hSw; (try dsimp only at hSw); go_simp; (try with_reducible rfl))); (try simp only [put_laws]))
  (refine wpAnyM_pure (i := 12) (v := ?_) rfl (by kernel_rfl) (by kernel_rfl) (fun _ _ _ h => h) (Or.inl ⟨by rfl, ?_⟩) hR ?_; rotate_left; (focus (intro w; go_simp; (try with_reducible rfl))); (try simp only [put_laws]))
  (refine wpAnyM_one (i := 14) rfl (by kernel_rfl) (fun K hK => ?_); rw [if_pos (by rfl)]; (try simp only [elem_laws]))
  go_simp
  refine hK _ _ (fun _ => hR) ?_
  clear hK K
  (try simp only [put_laws])
  have cb4 := hR.1
  have fb4 := hl4.frozen 0
  have lb4 := hl4.lt
  have HT4 := Lib.hid (HTT.out.trans (Turn.of_below hb4 (Nat.le_refl _)))
  have HL4 := Lib.hid hl4
  clear hR hb4 hl4 hx4 f24
  (refine wpAnyM_last rfl (by kernel_rfl) (fun K hK => ?_); rw [if_pos (by rfl)]; (try simp only [elem_laws]))
  go_simp
  refine hK _ _ ?_
  clear hK K
  (try simp only [put_laws])
  refine wpAnyM_done (by kernel_rfl) ?_ _
  go_wp2_with fail
  first
  | go_end0
  | refine bodyPost_ret (results_none rfl _ _ _) rfl ?_
  refine ⟨⟨_, rfl⟩, ?_, ((Turn.of_below HB2.out (Nat.le_refl _)).trans HT4.out).trans (Turn.setCell (q := fun k => k = b) w4 _ rfl)⟩
  have h5 := HL4.out.set 0 (.int .u64 ((p1 : Nat) : Int))
  rw [lnA_set, List.set_set, HHW.out] at h5
  rw [← HHW.out] at h5 ⊢
  exact h5
def headRd (y : Int) (x : Array Value) : Option (Array Value) := if y / 256 ≤ 1024 then some ((x.setIfInBounds 0 (.int .i64 (y % 256))).setIfInBounds 1 (.int .i64 (y / 256))) else none
set_option maxRecDepth 100000 in
set_option maxHeartbeats 4000000 in
theorem headRead (w : World) (ht : Tabs w) (x : Array Value) (b n1 n2 l0 : Nat) (k0 m0 : Int) (l : List Int) (hl : Line8 l) (hl0 : l[0]?.getD 0 = ((l0 : Nat) : Int)) (hk : x[0]? = some (.int .i64 k0)) (hm : x[1]? = some (.int .i64 m0))
    (h1 : FieldBox w n1 0 8) (h2 : FieldBox w n2 8 56) (hb : Blk w b 31 x) :
    Calls Tryz.prog 94 #[.agg (lnA l), .pointer (some ⟨b, 0, none⟩), .pointer (some ⟨n1, 0, none⟩), .pointer (some ⟨n2, 0, none⟩)] w fun e w' => Turn (fun k => k = b) w w' ∧
      ((∃ u y, e = .returned u ∧ headRd (l[0]?.getD 0) x = some y ∧ Blk w' b 31 y) ∨ (e = .panicked noLine ∧ headRd (l[0]?.getD 0) x = none ∧ Blk w' b 31 x)) := by
  have hl64 : l0 < 18446744073709551616 := by
    have h := (hl.2 (l[0]?.getD 0) (by rw [List.getElem?_eq_getElem (by rw [hl.1]; decide)]; exact List.getElem_mem _)).2
    rw [hl0] at h
    omega
  rw [hl0]
  have g1 : WM.getN l0 0 8 = l0 % 256 := by unfold WM.getN; rw [Nat.pow_zero, Nat.div_one]
  have g2 : WM.getN l0 8 56 = l0 / 256 := by unfold WM.getN; rw [show (2 : Nat) ^ 8 = 256 by decide, show (2 : Nat) ^ 56 = 72057594037927936 by decide]; omega
  obtain ⟨W1, hW1⟩ : ∃ W1, w.alloc (.cells (lnA l) 113) = W1 := ⟨_, rfl⟩
  have hb1 : Below w.heap.size w W1 := by rw [← hW1]; exact (by repeat (first | exact Below.refl _ _ | assumption | refine Below.drew ?_ | refine below_drewN ?_ _ | refine Below.alloc ?_ (by (try simp) <;> omega) _ | refine Below.setCell ?_ (by (try simp) <;> omega) _ | refine Below.trans ?_ (Below.mono (by assumption) (by (try simp) <;> omega))))
  have hx1 : Blk W1 w.heap.size 113 (lnA l) := by rw [← hW1]; exact Blk.new _ _ _
  have f11 := Blk.below h1 hb1 (Blk.lt h1)
  have f21 := Blk.below h2 hb1 (Blk.lt h2)
  have hbx1 := hb.below hb1 hb.lt
  have ht1 : Tabs W1 := ht.below hb1 ht.room
  have cb1 := hx1.cell (lnA_at l 0 (by rw [hl.1]; decide))
  rw [hl0] at cb1
  have HPU := Lib.hid (fun V (hV : Tabs V) => get_yes 0 8 l0 (by decide) (by decide) (by decide) hl64 V hV)
  have HPV := Lib.hid (fun V (hV : Tabs V) => get_yes 8 56 l0 (by decide) (by decide) (by decide) hl64 V hV)
  rw [g1] at HPU
  rw [g2] at HPV
  have hrd : headRd ((l0 : Nat) : Int) x = if l0 / 256 ≤ 1024 then some ((x.setIfInBounds 0 (.int .i64 ((l0 % 256 : Nat) : Int))).setIfInBounds 1 (.int .i64 ((l0 / 256 : Nat) : Int))) else none := by
    unfold headRd
    by_cases h : l0 / 256 ≤ 1024
    · rw [if_pos h, if_pos (by omega)]; rfl
    · rw [if_neg h, if_neg (by omega)]
  have HRD := Lib.hid hrd
  have hq : l0 % 256 < 256 := Nat.mod_lt _ (by decide)
  obtain ⟨p, hp⟩ : ∃ p, l0 % 256 = p := ⟨_, rfl⟩
  obtain ⟨q, hq2⟩ : ∃ q, l0 / 256 = q := ⟨_, rfl⟩
  rw [hp] at HPU hq
  rw [hq2] at HPV
  have HP := Lib.hid hp
  have HQ := Lib.hid hq2
  have HNU := Lib.hid (fun V => number_anyN ((q : Nat) : Int) (by omega) V)
  have wp : IntKind.i64.wrap ((p : Nat) : Int) = ((p : Nat) : Int) := by simp [IntKind.wrap, IntKind.bits, IntKind.signed]; omega
  have wp64 : wrap64 ((p : Nat) : Int) = ((p : Nat) : Int) := by unfold wrap64; omega
  have c10 := f11.cell (j := 0) rfl
  have c11 := f11.cell (j := 1) rfl
  have HB1 := Lib.hid hb1
  have HL1 := Lib.hid hx1
  have HF2 := Lib.hid f21
  have HX1 := Lib.hid hbx1
  have HT1 := Lib.hid ht1
  have HK := Lib.hid hk
  have HM := Lib.hid hm
  have HW1 := Lib.hid hW1
  have cb0 : (w.alloc (.cells (lnA l) 113)).cell? ⟨w.heap.size, 0, none⟩ = some (.int .u64 ((l0 : Nat) : Int)) := by rw [hW1]; exact cb1
  have d10 : w.cell? ⟨n1, 0, none⟩ = some (.int .i64 ((0 : Nat) : Int)) := Blk.cell h1 (j := 0) rfl
  have d11 : w.cell? ⟨n1, 1, none⟩ = some (.int .i64 ((8 : Nat) : Int)) := Blk.cell h1 (j := 1) rfl
  have ln1 := Blk.lt h1
  have HL8 := Lib.hid hl.1
  have HCB := Lib.hid cb1
  clear hW1 hb1 hx1 f11 f21 hbx1 ht1 cb1 hk hm hl hl0 h1 h2 hb ht g1 g2 hrd hp hq2 hq hl64 c10 c11
  go_enter Tryz.func94, Tryz.ntmps94
  go_wp2_with fail
  rw [HW1.out]
  refine (HPU.out W1 HT1.out).mono ?_
  rintro e w2 ⟨rfl, hb2⟩
  have e0 := (hb2.cell (p := ⟨w.heap.size, 0, none⟩) HL1.out.lt).trans HCB.out
  have f2 := HF2.out.below hb2 HF2.out.lt
  have e1 := f2.cell (j := 0) rfl
  have e2 := f2.cell (j := 1) rfl
  have HB2 := Lib.hid (HB1.out.trans (hb2.mono HB1.out.size))
  have HX2 := Lib.hid (HX1.out.below hb2 HX1.out.lt)
  have HT2 : Hid (Tabs w2) := show Tabs _ from HT1.out.below hb2 HT1.out.room
  clear hb2 f2 cb0 d10 d11 ln1 HW1
  go_wp2_with fail
  refine (HPV.out w2 HT2.out).mono ?_
  rintro e w3 ⟨rfl, hb3⟩
  have HB3 := Lib.hid (HB2.out.trans (hb3.mono HB2.out.size))
  have hx3 := HX2.out.below hb3 HX2.out.lt
  have c30 := hx3.cell HK.out
  have c31 := hx3.cell HM.out
  have f30 := hx3.frozen 0
  have f31 := hx3.frozen 1
  have l3 := hx3.lt
  have HX3 := Lib.hid hx3
  clear hb3 hx3 e0 e1 e2
  go_wp2_with fail
  refine (HNU.out w3).mono ?_
  rintro e w4 ⟨rfl, ⟨hle, rfl⟩ | ⟨hgt, rfl⟩⟩
  · have HLE := Lib.hid hle
    clear hle
    go_wp2_with fail
    first
    | go_end0
    | refine bodyPost_ret (results_none rfl _ _ _) rfl ?_
    refine ⟨((Turn.of_below HB3.out (Nat.le_refl _)).trans (Turn.setCell (q := fun k => k = b) w4 _ rfl)).trans (Turn.setCell _ _ rfl), .inl ⟨_, _, rfl, ?_, (HX3.out.set 0 _).set 1 _⟩⟩
    rw [HRD.out, if_pos (by have := HLE.out; have := HQ.out; omega), HP.out, HQ.out]
  · have HGT := Lib.hid hgt
    exact ⟨rfl, Turn.of_below HB3.out (Nat.le_refl _), .inr ⟨rfl, by rw [HRD.out, if_neg (by have := HGT.out; have := HQ.out; omega)], HX3.out⟩⟩
end Go.Proofs.YtaebipopmefkpaaGreatDoor

/-
  node: what an inode is.
-/
namespace Go.Proofs.YtaebipopmefkpaaGreatDoor
open Go.RowKit Go.Shelf Go.Sort
attribute [local go_sem] Oper.semAt_some

def headS : NdS := { ok := fun x => headOk (numAt x 0) (numAt x 1), wr := fun x l => l.set 0 (numAt x 0 + 256 * numAt x 1), rd := fun l x => headRd (l[0]?.getD 0) x }
theorem headOk_nat {k m : Int} (h : headOk k m = true) : ∃ a b : Nat, k = a ∧ m = b ∧ 1 ≤ a ∧ a ≤ 2 ∧ 1 ≤ b ∧ b ≤ 200 := by
  unfold headOk inB at h
  simp only [Bool.and_eq_true, decide_eq_true_eq] at h
  obtain ⟨⟨h1, h2⟩, h3, h4⟩ := h
  have h5 : m ≤ 200 := by split at h4 <;> omega
  exact ⟨k.toNat, m.toNat, by omega, by omega, by omega, by omega, by omega, by omega⟩
theorem head_part (w : World) (ht : Tabs w) {n1 n2 : Nat} (h1 : FieldBox w n1 0 8) (h2 : FieldBox w n2 8 56) : NdPart (GoodI 3) 31 w ⟨90, #[], 92, #[.pointer (some ⟨n1, 0, none⟩), .pointer (some ⟨n2, 0, none⟩)], 94, #[.pointer (some ⟨n1, 0, none⟩), .pointer (some ⟨n2, 0, none⟩)], headS⟩ where
  e0 := enters_of Tryz.func90 (by kernel_rfl) rfl
  e1 := enters_of Tryz.func92 (by kernel_rfl) rfl
  e2 := enters_of Tryz.func94 (by kernel_rfl) rfl
  mayBe x W hx _ := by
    obtain ⟨k, hk, -⟩ := hx.2 0 (by decide)
    obtain ⟨m, hm, -⟩ := hx.2 1 (by decide)
    have h := headMay W x k m hx.1 hk hm
    show Calls _ _ _ _ fun e w' => e = .returned (.bool (headOk (numAt x 0) (numAt x 1))) ∧ _
    rw [numAt_of hk, numAt_of hm]
    exact h
  write x l b W hx ho hl hW hwb hb := by
    obtain ⟨k, hk, -⟩ := hx.2 0 (by decide)
    obtain ⟨m, hm, -⟩ := hx.2 1 (by decide)
    have ho2 : headOk (numAt x 0) (numAt x 1) = true := ho
    rw [numAt_of hk, numAt_of hm] at ho2
    obtain ⟨a, c, rfl, rfl, h3, h4, h5, h6⟩ := headOk_nat ho2
    have hlt : 0 < l.length := by rw [hl.1]; decide
    have hn := hl.2 _ (List.getElem_mem hlt)
    have h := headWrite W (ht.below hW ht.room) x a c b n1 n2 (l[0]'hlt).toNat l hl (by rw [List.getElem?_eq_getElem hlt, Option.getD_some]; omega) hk hm (by omega) (by omega) (Blk.below h1 hW (Blk.lt h1)) (Blk.below h2 hW (Blk.lt h2)) hb (Nat.le_trans ht.room hwb)
    show Calls _ _ _ _ fun e w' => (∃ u, e = .returned u) ∧ Blk w' b _ (lnA (l.set 0 (numAt x 0 + 256 * numAt x 1))) ∧ _
    rw [numAt_of hk, numAt_of hm, show ((a : Nat) : Int) + 256 * ((c : Nat) : Int) = ((a + 256 * c : Nat) : Int) by omega]
    exact h
  read x l b W hx hl hW _ hb := by
    obtain ⟨k, hk, -⟩ := hx.2 0 (by decide)
    obtain ⟨m, hm, -⟩ := hx.2 1 (by decide)
    have hlt : 0 < l.length := by rw [hl.1]; decide
    have hn := hl.2 _ (List.getElem_mem hlt)
    exact headRead W (ht.below hW ht.room) x b n1 n2 (l[0]'hlt).toNat k m l hl (by rw [List.getElem?_eq_getElem hlt, Option.getD_some]; omega) hk hm (Blk.below h1 hW (Blk.lt h1)) (Blk.below h2 hW (Blk.lt h2)) hb
  wrLine x l hx ho hl := by
    obtain ⟨a, c, ha, hc, h3, h4, h5, h6⟩ := headOk_nat (show headOk (numAt x 0) (numAt x 1) = true from ho)
    show Line8 (l.set 0 (numAt x 0 + 256 * numAt x 1))
    rw [ha, hc]
    exact hl.set 0 (by omega) (by omega)
  rdGood x l y hx hl h := by
    have h2 : headRd (l[0]?.getD 0) x = some y := h
    have hlt : 0 < l.length := by rw [hl.1]; decide
    have hn := hl.2 _ (List.getElem_mem hlt)
    rw [List.getElem?_eq_getElem hlt, Option.getD_some] at h2
    unfold headRd at h2
    split at h2
    · rw [← Option.some.inj h2]
      have g0 := (goodI_num (k := 3) (i := 0) (by decide)).set x (l[0]'hlt % 256) hx (Int.emod_nonneg _ (by decide)) (by have := Int.emod_lt_of_pos (l[0]'hlt) (show (0 : Int) < 256 by decide); omega)
      exact (goodI_num (k := 3) (i := 1) (by decide)).set _ _ g0 (by omega) (by assumption)
    · cases h2
abbrev headV (n : Nat) : PartV := ⟨90, #[], 92, #[.pointer (some ⟨n + 1, 0, none⟩), .pointer (some ⟨n + 1 + 1, 0, none⟩)], 94, #[.pointer (some ⟨n + 1, 0, none⟩), .pointer (some ⟨n + 1 + 1, 0, none⟩)], headS⟩
def inodeSpecs : List NdS := [headS, numS 1 2 1 1023]
set_option maxRecDepth 100000 in
set_option maxHeartbeats 4000000 in
theorem inodeLine_any (w : World) (ht : Tabs w) : Calls Tryz.prog 18 #[] w fun e w' => ∃ v ps, e = .returned v ∧ Below w.heap.size w w' ∧ KindAtI w' v ps ∧ (∀ p ∈ ps, NdPart (GoodI 3) 31 w' p) ∧ ps.map (·.S) = inodeSpecs := by
  have hmg : ∀ W, Calls Tryz.prog 49 #[] W fun e w' => e = .returned (.agg #[(headV W.heap.size).v0, (headV W.heap.size).v1, (headV W.heap.size).v2]) ∧ Below W.heap.size W w' ∧ FieldBox w' (W.heap.size + 1) 0 8 ∧ FieldBox w' (W.heap.size + 1 + 1) 8 56 := fun W => by
    go_enter Tryz.func49, Tryz.ntmps49
    go_wp2
    generalize hW : World.alloc _ _ = W4
    have hB : Below W.heap.size W W4 := by rw [← hW]; exact (by repeat (first | exact Below.refl _ _ | assumption | refine Below.drew ?_ | refine below_drewN ?_ _ | refine Below.alloc ?_ (by (try simp) <;> omega) _ | refine Below.setCell ?_ (by (try simp) <;> omega) _ | refine Below.trans ?_ (Below.mono (by assumption) (by (try simp) <;> omega))))
    have h0 : Blk W4 W.heap.size 126 #[(headV W.heap.size).v0, (headV W.heap.size).v1, (headV W.heap.size).v2] := by unfold Blk; rw [← hW]; (simp only [heap_at, World.size_alloc]; repeat (first | rw [if_pos (by omega)] | rw [if_neg (by omega)] | rw [if_pos trivial]))
    have h1 : FieldBox W4 (W.heap.size + 1) 0 8 := by unfold FieldBox Blk; rw [← hW]; (simp only [heap_at, World.size_alloc]; repeat (first | rw [if_pos (by omega)] | rw [if_neg (by omega)] | rw [if_pos trivial])); rfl
    have h2 : FieldBox W4 (W.heap.size + 1 + 1) 8 56 := by unfold FieldBox Blk; rw [← hW]; (simp only [heap_at, World.size_alloc]; repeat (first | rw [if_pos (by omega)] | rw [if_neg (by omega)] | rw [if_pos trivial])); rfl
    exact bodyPost_ret (results_cell (fn := Tryz.f49) rfl rfl (h0.loadVar (tt := 126) Tryz.underlying126 rfl (by kernel_rfl))) rfl ⟨rfl, hB, h1, h2⟩
  have HMG := Lib.hid hmg
  have HT := Lib.hid ht
  have HN1 := Lib.hid (fun W => numbered_I (Good := GoodI 3) (wd := 1) (by decide) (goodI_num (by decide)) W (field_top W) needed_lies)
  clear hmg ht
  go_enter Tryz.func18, Tryz.ntmps18
  go_wp2_with fail
  refine (HMG.out _).mono ?_
  rintro e w1 ⟨rfl, hb1, hf1, hf2⟩
  have HB1 := Lib.hid hb1
  have HF1 := Lib.hid hf1
  have HF2 := Lib.hid hf2
  clear hb1 hf1 hf2
  go_wp2_with fail
  refine (HN1.out _).mono ?_
  rintro e w2 ⟨p1, rfl, hb2, hp1, hs1⟩
  have HB2 := Lib.hid (HB1.out.trans (hb2.mono HB1.out.size))
  have HP1 := Lib.hid hp1
  have HS1 := Lib.hid hs1
  have HF12 : Hid (FieldBox w2 (w.heap.size + 1) 0 8) := show FieldBox _ _ _ _ from Blk.below HF1.out hb2 (Blk.lt HF1.out)
  have HF22 : Hid (FieldBox w2 (w.heap.size + 1 + 1) 8 56) := show FieldBox _ _ _ _ from Blk.below HF2.out hb2 (Blk.lt HF2.out)
  clear hb2 hp1 hs1
  go_wp2_with fail
  have hb3 : Below w2.heap.size w2 (w2.alloc (.cells (flatC partC [headV w.heap.size, p1]).toArray 126)) := (Below.refl _ _).alloc (Nat.le_refl _) _
  have hB3 := HB2.out.trans (hb3.mono HB2.out.size)
  refine bodyPost_ret (results_tmp rfl _ _ _) rfl ⟨_, [headV w.heap.size, p1], rfl, hB3, ⟨⟨w2.heap.size, 2, rfl, by simp, fun k hk => cells_new w2 _ _ k hk⟩, by simp⟩, ?_, ?_⟩
  · intro p hp
    rcases List.mem_cons.1 hp with rfl | hp
    · exact head_part _ (HT.out.below hB3 HT.out.room) (Blk.below HF12.out hb3 (Blk.lt HF12.out)) (Blk.below HF22.out hb3 (Blk.lt HF22.out))
    rcases List.mem_cons.1 hp with rfl | hp
    · exact HP1.out.below hb3
    · cases hp
  · simp only [List.map_cons, List.map_nil, HS1.out]
    rfl
end Go.Proofs.YtaebipopmefkpaaGreatDoor

/-
  node: what is put and got, by the kinds' parts.
-/
namespace Go.Proofs.YtaebipopmefkpaaGreatDoor
open Go.RowKit Go.Shelf

def okSp (L : List NdS) (x : Array Value) : Bool := L.all fun S => S.ok x
def wrSp (L : List NdS) (x : Array Value) (l : List Int) : List Int := L.foldl (fun l S => S.wr x l) l
def rdSp (l : List Int) : List NdS → Array Value → Option (Array Value)
  | [], x => some x
  | S :: L, x => (S.rd l x).bind (rdSp l L)
def putSp (L : List NdS) (x : Array Value) : List Int := if okSp L x then wrSp L x zeros8 else zeros8
def putSpE (L : List NdS) (x : Array Value) : Int := if okSp L x then 0 else 2
def getSp (L : List NdS) (l : List Int) (z : Array Value) : Option (Array Value) := (rdSp l L z).bind fun y => if okSp L y = true ∧ putSp L y = l then some y else none
theorem ok_sp (ps : List PartV) (x : Array Value) : okAll ps x = okSp (ps.map (·.S)) x := by unfold okAll okSp; rw [List.all_map]; rfl
theorem wr_sp (ps : List PartV) (x : Array Value) (l : List Int) : wrAll ps x l = wrSp (ps.map (·.S)) x l := by unfold wrAll wrSp; rw [List.foldl_map]
theorem rd_sp (l : List Int) : ∀ (ps : List PartV) (x : Array Value), rdAll l ps x = rdSp l (ps.map (·.S)) x
  | [], _ => rfl
  | p :: ps, x => by
    simp only [rdAll, rdSp, List.map_cons]
    cases p.S.rd l x with
    | none => rfl
    | some y => exact rd_sp l ps y
theorem put_sp (ps : List PartV) (x : Array Value) : putOut ps x = putSp (ps.map (·.S)) x := by unfold putOut putSp; rw [ok_sp, wr_sp]
theorem putE_sp (ps : List PartV) (x : Array Value) : putErr ps x = putSpE (ps.map (·.S)) x := by unfold putErr putSpE; rw [ok_sp]
theorem get_sp (ps : List PartV) (l : List Int) (z : Array Value) : getM ps l z = getSp (ps.map (·.S)) l z := by
  unfold getM getSp
  rw [rd_sp]
  congr 1
  funext y
  rw [ok_sp, put_sp]
theorem nd_store_eq {P : Program} {w w' : World} {o : Oper} {a : Act} {K : Act → World → Prop} {Q : Exit → Act → World → Prop} (ty : TypeId) (x y : Operand) (ho : o.op = .store ty x y) (p v : Value) (hx : a.eval x = p) (hy : a.eval y = v) (hr : (Instr.storeAt ty p v).run P w = .ok () w') (h : K (a.put o.dst undef) w') : o.wp P a w K Q := by
  unfold Oper.wp execOp
  simp only [ho, hx, hy, hr, Sem.run_bind, Result.andThen_ok]
  exact h
end Go.Proofs.YtaebipopmefkpaaGreatDoor

/-
  node: PutInode, GetInode. Written by gen_nd.py.
-/
namespace Go.Proofs.YtaebipopmefkpaaGreatDoor
open Go.RowKit Go.Shelf Go.Sort
attribute [local go_sem] Oper.semAt_some

set_option maxRecDepth 100000 in
set_option maxHeartbeats 4000000 in
theorem putInode_any (x : Array Value) (hx : (GoodI 3) x) (w : World) (ht : Tabs w) :
    Calls Tryz.prog 36 #[.agg x] w fun e w' => e = .returned (.tuple #[.agg (lnA (putSp inodeSpecs x)), .int .i64 (putSpE inodeSpecs x)]) ∧ Line8 (putSp inodeSpecs x) ∧ Below w.heap.size w w' := by
  obtain ⟨W1, hW1⟩ : ∃ W1, ((w.alloc (.cells x 31)).alloc (.cells (lnA zeros8) 23)).drew = W1 := ⟨_, rfl⟩
  have hb1 : Below w.heap.size w W1 := by rw [← hW1]; exact (by repeat (first | exact Below.refl _ _ | assumption | refine Below.drew ?_ | refine below_drewN ?_ _ | refine Below.alloc ?_ (by (try simp) <;> omega) _ | refine Below.setCell ?_ (by (try simp) <;> omega) _ | refine Below.trans ?_ (Below.mono (by assumption) (by (try simp) <;> omega))))
  have hx1 : Blk W1 w.heap.size 31 x := by rw [← hW1]; exact (Blk.new w _ _).below (n := w.heap.size + 1) (by refine Below.drew ?_; exact (Below.refl _ _).alloc (by simp) _) (Nat.lt_succ_self _)
  have hr1 : Blk W1 (w.heap.size + 1) 23 (lnA zeros8) := by
    rw [← hW1]
    have h := Blk.new (w.alloc (.cells x 31)) 23 (lnA zeros8)
    rwa [World.size_alloc] at h
  have HW1 : Hid (((w.alloc (.cells x 31)).alloc (.cells #[.int .u64 0, .int .u64 0, .int .u64 0, .int .u64 0, .int .u64 0, .int .u64 0, .int .u64 0, .int .u64 0] 23)).drew = W1) := show _ = _ from hW1
  have HLN := Lib.hid (fun V (ht : Tabs V) => inodeLine_any V ht)
  have HT1 : Hid (Tabs W1) := show Tabs _ from ht.below hb1 ht.room
  have HX := Lib.hid hx
  have hsz : x.size = 3 := hx.1
  have HLD := Lib.hid (fun V (h : Blk V w.heap.size 31 x) => h.load (tt := 31) Tryz.underlying31 rfl (by rw [hsz]; kernel_rfl))
  have HX1 := Lib.hid hx1
  have HR1 := Lib.hid hr1
  have HB1 := Lib.hid hb1
  have HSZ := Lib.hid hsz
  have hR : (fun V : World => (Instr.loadAt 31 (.pointer (some ⟨w.heap.size, 0, none⟩))).run Tryz.prog V = .ok (.agg x) V) W1 := HLD.out _ hx1
  clear hW1 hb1 hx1 hr1 ht hx hsz
  go_enter Tryz.func36, Tryz.ntmps36
  go_wp2_with fail
  refine wp_region_M 5 (fun V : World => (Instr.loadAt 31 (.pointer (some ⟨w.heap.size, 0, none⟩))).run Tryz.prog V = .ok (.agg x) V) (by kernel_rfl) ?_
  rw [HW1.out]
  refine wpAnyM_take2 8 (i := 1) (v := _) rfl (by kernel_rfl) (by kernel_rfl) (fun _ _ _ h => h) (Or.inl ⟨by rfl, fun w hSw => nd_exec_load rfl rfl hSw⟩) hR ?_
  (try simp only [put_laws])
  (refine wpAnyM_one (i := 0) rfl (by kernel_rfl) (fun K hK => ?_); rw [if_pos (by rfl)]; (try simp only [elem_laws]))
  go_simp
  refine (HLN.out W1 HT1.out).mono ?_
  rintro e w2 ⟨v, ps, rfl, hb2, hk2, hp2, hs2⟩
  have hx2 := HX1.out.below hb2 HX1.out.lt
  have hr2 := HR1.out.below hb2 HR1.out.lt
  have hR2 : (fun V : World => (Instr.loadAt 31 (.pointer (some ⟨w.heap.size, 0, none⟩))).run Tryz.prog V = .ok (.agg x) V) w2 := HLD.out _ hx2
  refine hK _ _ (fun _ => hR2) ?_
  clear hK K hR
  have HPK := Lib.hid (putK_I x HX.out HSZ.out w2 hk2 hp2)
  have h8 := putOut_len HX.out ps hp2
  rw [put_sp, hs2] at h8
  rw [put_sp, putE_sp, hs2] at HPK
  have H8 := Lib.hid h8
  have HX2 := Lib.hid hx2
  have HR2 := Lib.hid hr2
  have HB2 := Lib.hid (HB1.out.trans (hb2.mono HB1.out.size))
  clear hb2 hk2 hp2 hs2 hx2 hr2 h8
  obtain ⟨O, hO⟩ : ∃ O, putSp inodeSpecs x = O := ⟨_, rfl⟩
  obtain ⟨E, hE⟩ : ∃ E, putSpE inodeSpecs x = E := ⟨_, rfl⟩
  have HO := Lib.hid hO
  have HE := Lib.hid hE
  rw [hO, hE] at HPK
  rw [hO] at H8
  clear hO hE
  (try simp only [put_laws])
  (refine wpAnyM_one (i := 2) rfl (by kernel_rfl) (fun K hK => ?_); rw [if_pos (by rfl)]; (try simp only [elem_laws]))
  go_simp
  refine HPK.out.mono ?_
  rintro e w3 ⟨rfl, hb3⟩
  have hx3 := HX2.out.below hb3 HX2.out.lt
  have hr3 := HR2.out.below hb3 HR2.out.lt
  have hR3 : (fun V : World => (Instr.loadAt 31 (.pointer (some ⟨w.heap.size, 0, none⟩))).run Tryz.prog V = .ok (.agg x) V) w3 := HLD.out _ hx3
  refine hK _ _ (fun _ => hR3) ?_
  clear hK K hR2
  have hR := hR3
  clear hR3
  have HR3 := Lib.hid hr3
  have HB3 := Lib.hid (HB2.out.trans (hb3.mono HB2.out.size))
  clear hb3 hx3 hr3
  (try simp only [put_laws])
  (refine wpAnyM_take2 8 (i := 3) (v := ?_) rfl (by kernel_rfl) (by kernel_rfl) (fun _ _ _ h => h) (Or.inl ⟨by rfl, ?_⟩) hR ?_; rotate_left; (focus (intro w hSw; (try dsimp only at hSw); go_simp; (try with_reducible rfl))); (try simp only [put_laws])); (refine wpAnyM_take2 8 (i := 4) (v := ?_) rfl (by kernel_rfl) (by kernel_rfl) (fun _ _ _ h => h) (Or.inl ⟨by rfl, ?_⟩) hR ?_; rotate_left; (focus (intro w hSw; (try dsimp only at hSw); go_simp; (try with_reducible rfl))); (try simp only [put_laws]))
  (refine wpAnyM_last rfl (by kernel_rfl) (fun K hK => ?_); rw [if_pos (by rfl)]; (try simp only [elem_laws]))
  clear hR
  obtain ⟨W4, hst, hr4, ht4⟩ := HR3.out.store (P := Tryz.prog) (tt := 23) (Y := lnA O) (by rw [lnA_size, H8.out.1]; kernel_rfl) (by rw [lnA_size, lnA_size, H8.out.1]; rfl) (lnA_one _)
  refine nd_store_eq 23 _ _ rfl _ _ rfl rfl hst ?_
  refine hK _ _ ?_
  clear hK K
  (try simp only [put_laws])
  (refine wpAnyM_one (i := 6) rfl (by kernel_rfl) (fun K hK => ?_); rw [if_pos (by rfl)]; (try simp only [elem_laws]))
  go_simp
  refine hK _ _ (fun h => by cases h) ?_
  clear hK K
  (try simp only [put_laws])
  refine wpAnyM_done (by kernel_rfl) ?_ _
  have HR4 := Lib.hid hr4
  have HT4 := Lib.hid ht4
  clear hst hr4 ht4
  go_wp2_with fail
  exact bodyPost_ret (results_cell_tmp (fn := Tryz.f36) rfl rfl (HR4.out.loadVar (tt := 23) Tryz.underlying23 rfl (by rw [lnA_size, H8.out.1]; kernel_rfl)) rfl) rfl ⟨by rw [HO.out, HE.out]; rfl, by rw [HO.out]; exact H8.out, HB3.out.trans (HT4.out.below (B := w.heap.size) (fun k h => by omega) HB3.out.size)⟩
end Go.Proofs.YtaebipopmefkpaaGreatDoor

/-
  node: GetInode. Written by gen_nd.py.
-/
namespace Go.Proofs.YtaebipopmefkpaaGreatDoor
open Go.RowKit Go.Shelf Go.Sort
attribute [local go_sem] Oper.semAt_some

set_option maxRecDepth 100000 in
set_option maxHeartbeats 4000000 in
theorem getInode_any (l : List Int) (hl : Line8 l) (w : World) (ht : Tabs w) :
    Calls Tryz.prog 5 #[.agg (lnA l)] w fun e w' => e = .returned (.tuple #[.agg ((getSp inodeSpecs l ndZeroI).getD ndZeroI), .int .i64 (getErr (getSp inodeSpecs l ndZeroI))]) ∧ (GoodI 3) ((getSp inodeSpecs l ndZeroI).getD ndZeroI) ∧ Below w.heap.size w w' := by
  obtain ⟨W1, hW1⟩ : ∃ W1, ((w.alloc (.cells (lnA l) 23)).alloc (.cells ndZeroI 31)).drew = W1 := ⟨_, rfl⟩
  have hb1 : Below w.heap.size w W1 := by rw [← hW1]; exact (by repeat (first | exact Below.refl _ _ | assumption | refine Below.drew ?_ | refine below_drewN ?_ _ | refine Below.alloc ?_ (by (try simp) <;> omega) _ | refine Below.setCell ?_ (by (try simp) <;> omega) _ | refine Below.trans ?_ (Below.mono (by assumption) (by (try simp) <;> omega))))
  have hx1 : Blk W1 w.heap.size 23 (lnA l) := by rw [← hW1]; exact (Blk.new w _ _).below (n := w.heap.size + 1) (by refine Below.drew ?_; exact (Below.refl _ _).alloc (by simp) _) (Nat.lt_succ_self _)
  have hr1 : Blk W1 (w.heap.size + 1) 31 ndZeroI := by
    rw [← hW1]
    have h := Blk.new (w.alloc (.cells (lnA l) 23)) 31 ndZeroI
    rwa [World.size_alloc] at h
  have HW1 : Hid (((w.alloc (.cells (lnA l) 23)).alloc (.cells #[.int .i64 0, .int .i64 0, .int .i64 0] 31)).drew = W1) := show _ = _ from hW1
  have HLN := Lib.hid (fun V (ht : Tabs V) => inodeLine_any V ht)
  have HT1 : Hid (Tabs W1) := show Tabs _ from ht.below hb1 ht.room
  have hl8 := hl.1
  have HLD := Lib.hid (fun V (h : Blk V w.heap.size 23 (lnA l)) => h.load (tt := 23) Tryz.underlying23 rfl (by rw [lnA_size, hl8]; kernel_rfl))
  have HX1 := Lib.hid hx1
  have HR1 := Lib.hid hr1
  have HB1 := Lib.hid hb1
  have HL := Lib.hid hl
  have hR : (fun V : World => (Instr.loadAt 23 (.pointer (some ⟨w.heap.size, 0, none⟩))).run Tryz.prog V = .ok (.agg (lnA l)) V) W1 := HLD.out _ hx1
  clear hW1 hb1 hx1 hr1 ht hl hl8
  go_enter Tryz.func5, Tryz.ntmps5
  go_wp2_with fail
  refine wp_region_M 5 (fun V : World => (Instr.loadAt 23 (.pointer (some ⟨w.heap.size, 0, none⟩))).run Tryz.prog V = .ok (.agg (lnA l)) V) (by kernel_rfl) ?_
  rw [HW1.out]
  refine wpAnyM_take2 8 (i := 1) (v := _) rfl (by kernel_rfl) (by kernel_rfl) (fun _ _ _ h => h) (Or.inl ⟨by rfl, fun w hSw => nd_exec_load rfl rfl hSw⟩) hR ?_
  (try simp only [put_laws])
  (refine wpAnyM_one (i := 0) rfl (by kernel_rfl) (fun K hK => ?_); rw [if_pos (by rfl)]; (try simp only [elem_laws]))
  go_simp
  refine (HLN.out W1 HT1.out).mono ?_
  rintro e w2 ⟨v, ps, rfl, hb2, hk2, hp2, hs2⟩
  have hx2 := HX1.out.below hb2 HX1.out.lt
  have hr2 := HR1.out.below hb2 HR1.out.lt
  have hR2 : (fun V : World => (Instr.loadAt 23 (.pointer (some ⟨w.heap.size, 0, none⟩))).run Tryz.prog V = .ok (.agg (lnA l)) V) w2 := HLD.out _ hx2
  refine hK _ _ (fun _ => hR2) ?_
  clear hK K hR
  have hgz : (GoodI 3) ndZeroI := goodI_zero3
  have HPK := Lib.hid (getK_I l HL.out hgz (fun x h => ⟨h.1, goodI_one h⟩) w2 hk2 hp2)
  have hgg : (GoodI 3) ((getSp inodeSpecs l ndZeroI).getD ndZeroI) := by
    unfold getSp
    rw [← hs2, ← rd_sp]
    cases hr : rdAll l ps ndZeroI with
    | none => exact hgz
    | some y =>
      have hy := rdAll_good HL.out ps ndZeroI y hp2 hgz hr
      simp only [Option.bind_some]
      split
      · exact hy
      · exact hgz
  rw [get_sp, hs2] at HPK
  have HG := Lib.hid hgg
  have HX2 := Lib.hid hx2
  have HR2 := Lib.hid hr2
  have HB2 := Lib.hid (HB1.out.trans (hb2.mono HB1.out.size))
  clear hb2 hk2 hp2 hs2 hx2 hr2 hgg hgz
  obtain ⟨O, hO⟩ : ∃ O, (getSp inodeSpecs l ndZeroI).getD ndZeroI = O := ⟨_, rfl⟩
  obtain ⟨E, hE⟩ : ∃ E, getErr (getSp inodeSpecs l ndZeroI) = E := ⟨_, rfl⟩
  have HO := Lib.hid hO
  have HE := Lib.hid hE
  rw [hO, hE] at HPK
  rw [hO] at HG
  clear hO hE
  (try simp only [put_laws])
  (refine wpAnyM_one (i := 2) rfl (by kernel_rfl) (fun K hK => ?_); rw [if_pos (by rfl)]; (try simp only [elem_laws]))
  go_simp
  refine HPK.out.mono ?_
  rintro e w3 ⟨rfl, hb3⟩
  have hx3 := HX2.out.below hb3 HX2.out.lt
  have hr3 := HR2.out.below hb3 HR2.out.lt
  have hR3 : (fun V : World => (Instr.loadAt 23 (.pointer (some ⟨w.heap.size, 0, none⟩))).run Tryz.prog V = .ok (.agg (lnA l)) V) w3 := HLD.out _ hx3
  refine hK _ _ (fun _ => hR3) ?_
  clear hK K hR2
  have hR := hR3
  clear hR3
  have HR3 := Lib.hid hr3
  have HB3 := Lib.hid (HB2.out.trans (hb3.mono HB2.out.size))
  clear hb3 hx3 hr3
  (try simp only [put_laws])
  (refine wpAnyM_take2 8 (i := 3) (v := ?_) rfl (by kernel_rfl) (by kernel_rfl) (fun _ _ _ h => h) (Or.inl ⟨by rfl, ?_⟩) hR ?_; rotate_left; (focus (intro w hSw; (try dsimp only at hSw); go_simp; (try with_reducible rfl))); (try simp only [put_laws])); (refine wpAnyM_take2 8 (i := 4) (v := ?_) rfl (by kernel_rfl) (by kernel_rfl) (fun _ _ _ h => h) (Or.inl ⟨by rfl, ?_⟩) hR ?_; rotate_left; (focus (intro w hSw; (try dsimp only at hSw); go_simp; (try with_reducible rfl))); (try simp only [put_laws]))
  (refine wpAnyM_last rfl (by kernel_rfl) (fun K hK => ?_); rw [if_pos (by rfl)]; (try simp only [elem_laws]))
  clear hR
  have hos := HG.out.1
  have ho1 : O.all (·.oneCell') = true := by have h := HG.out; exact goodI_one h
  obtain ⟨W4, hst, hr4, ht4⟩ := HR3.out.store (P := Tryz.prog) (tt := 31) (Y := O) (by rw [hos]; kernel_rfl) (by rw [hos]; rfl) ho1
  refine nd_store_eq 31 _ _ rfl _ _ rfl rfl hst ?_
  refine hK _ _ ?_
  clear hK K
  (try simp only [put_laws])
  (refine wpAnyM_one (i := 6) rfl (by kernel_rfl) (fun K hK => ?_); rw [if_pos (by rfl)]; (try simp only [elem_laws]))
  go_simp
  refine hK _ _ (fun h => by cases h) ?_
  clear hK K
  (try simp only [put_laws])
  refine wpAnyM_done (by kernel_rfl) ?_ _
  have HR4 := Lib.hid hr4
  have HT4 := Lib.hid ht4
  have HOS := Lib.hid hos
  clear hst hr4 ht4 ho1 hos
  go_wp2_with fail
  exact bodyPost_ret (results_cell_tmp (fn := Tryz.f5) rfl rfl (HR4.out.loadVar (tt := 31) Tryz.underlying31 rfl (by rw [HOS.out]; kernel_rfl)) rfl) rfl ⟨by rw [HO.out, HE.out]; rfl, by rw [HO.out]; exact HG.out, HB3.out.trans (HT4.out.below (B := w.heap.size) (fun k h => by omega) HB3.out.size)⟩
end Go.Proofs.YtaebipopmefkpaaGreatDoor
