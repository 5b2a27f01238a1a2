/-
  The walk of the law PlaceHolds.
-/
import Derived.Test.YtkighpfckibkoaaDoorPlaLi
namespace Go.Proofs.YtkighpfckibkoaaDoor
open Go.RowKit Go.Shelf

set_option maxRecDepth 100000 in
set_option maxHeartbeats 8000000 in
theorem holds3_some (al av bl bv many : Int) (ha : okP al av = true) (hb : okP bl bv = true) (k0 : 0 ≤ many) (k1 : many ≤ 200) (w : World) (ht : Ends w) :
    Calls Tryd.prog 6 #[.agg #[.int .i64 al, .int .i64 av], .agg #[.int .i64 bl, .int .i64 bv], .int .i64 many] w fun e w' => e = .returned (.bool true) ∧ Below w.heap.size w w' := by
  have hz := ht.room
  have HT := Lib.hid ht; clear ht
  have HRA := Lib.hid (right3_any al av)
  have HRB := Lib.hid (right3_any bl bv)
  rw [ha] at HRA
  rw [hb] at HRB
  have oa := okP_iff.1 ha
  have ob := okP_iff.1 hb
  have HAD := Lib.hid (fun W (hb : Below w.heap.size w W) => address_any al av W (HT.out.below hb hz))
  rw [dist_ok ha] at HAD
  have HAT := Lib.hid (fun W (hb : Below w.heap.size w W) => at_any (8 * al + av) W (HT.out.below hb hz))
  rw [at_to ha] at HAT
  have HDI := Lib.hid (fun W (hb : Below w.heap.size w W) => distance_any al av bl bv W (HT.out.below hb hz))
  rw [dist_out_ok ha hb] at HDI
  have HMB := Lib.hid (fun W (hb : Below w.heap.size w W) => move_any al av ((8 * bl + bv) - (8 * al + av)) W (HT.out.below hb hz))
  rw [move_to ha hb] at HMB
  have HMA := Lib.hid (fun W (hb : Below w.heap.size w W) => move_any bl bv ((8 * al + av) - (8 * bl + bv)) W (HT.out.below hb hz))
  rw [move_to hb ha, show (8 * al + av) - (8 * bl + bv) = -((8 * bl + bv) - (8 * al + av)) by omega] at HMA
  obtain ⟨D, hD⟩ : ∃ D : Int, (8 * bl + bv) - (8 * al + av) = D := ⟨_, rfl⟩
  have hD1 : -8192 < D ∧ D < 8192 := by omega
  rw [hD] at HDI HMB HMA
  clear hD
  have hnD : IntKind.i64.wrap (-D) = -D := by have := IntWalk.i64_in (-D); first | exact this (by omega) | (simp [go_sem]; omega) | go_num
  have HRX := Lib.hid (fun W (hb : Below w.heap.size w W) => runL_any al av many 300 (by omega) (by omega) (by decide) (by decide) W (HT.out.below hb hz))
  rw [runP_few al av many (300 : Int).toNat (by show many.toNat ≤ 300; omega)] at HRX
  have hpl := runP_len al av many
  have HRC := Lib.hid (runP_cur al av many)
  have HDC := Lib.hid (fun (k : Nat) (hk : k < roomN al av) W (hb : Below w.heap.size w W) => distance_any al av (cur al av k).1 (cur al av k).2 W (HT.out.below hb hz))
  have HDE := Lib.hid (fun (k : Nat) (hk : k < roomN al av) => dist_cur al av k ha hk)
  have HCL := Lib.hid (fun k : Nat => cur_line al av k ha)
  have HLF := Lib.hid (fun (h : 8192 - (8 * al + av) < many) W (hb : Below w.heap.size w W) => lines_far al av many ha h W (HT.out.below hb hz))
  have HLY := Lib.hid (fun (h : many ≤ 8192 - (8 * al + av)) W (hb : Below w.heap.size w W) => lines_yes al av many ha k0 h W (HT.out.below hb hz))
  have hrm : roomN al av = (8192 - (8 * al + av)).toNat := by unfold roomN; rw [ha]; rfl
  obtain ⟨A, hA⟩ : ∃ A : Int, 8 * al + av = A := ⟨_, rfl⟩
  have hA1 : 0 ≤ A ∧ A < 8192 := by omega
  rw [hA] at HAD HAT HCL HLF HLY hrm
  obtain ⟨L, hL⟩ : ∃ L, runP al av many = L := ⟨_, rfl⟩
  rw [hL] at HRX hpl HRC
  have hn1 : L.length ≤ 200 := by omega
  have hn2 : L.length ≤ roomN al av := by omega
  have hn3 : 8192 - A < many → (L.length : Int) < many := by omega
  have hn4 : many ≤ 8192 - A → (L.length : Int) = many := by omega
  have hqa := neq_same al av
  have hqb := neq_same bl bv
  clear hL hA oa ob ha hb hpl hrm
  go_enter Tryd.func6, Tryd.ntmps6
  go_wp2_with fail
  refine (HRA.out _).mono ?_
  rintro e w1 ⟨rfl, hb1⟩
  have z1 := hb1.size; try simp at z1
  have jA1 : Box2 w1 w.heap.size 23 al av := ((Box2.new w 23 al av).alloc (.cells #[.int .i64 bl, .int .i64 bv] 23)).below hb1 (by simp; omega)
  have jB1 : Box2 w1 (w.heap.size + 1) 23 bl bv := (by have := Box2.new (w.alloc (.cells #[.int .i64 al, .int .i64 av] 23)) 23 bl bv; simp at this; exact this.below hb1 (by simp))
  have b1 : Below w.heap.size w w1 := (by repeat (first | exact Below.refl _ _ | assumption | refine Below.drew ?_ | refine below_drewN ?_ _ | refine Below.alloc ?_ (by (try simp) <;> omega) _ | refine Below.setCell ?_ (by (try simp) <;> omega) _ | refine Below.trans ?_ (Below.mono (by assumption) (by (try simp) <;> omega))))
  clear hb1
  have c11 := jA1.cell0
  have c12 := jA1.cell1
  have d11 := jB1.cell0
  have d12 := jB1.cell1
  have l1 := jB1.lt
  have la1 := jA1.lt
  go_wp2_with fail
  refine (HRB.out _).mono ?_
  rintro e w2 ⟨rfl, hb2⟩
  have z2 := hb2.size
  have jA2 := jA1.below hb2 (by omega)
  have jB2 := jB1.below hb2 (by omega)
  have b2 : Below w.heap.size w w2 := (by repeat (first | exact Below.refl _ _ | assumption | refine Below.drew ?_ | refine below_drewN ?_ _ | refine Below.alloc ?_ (by (try simp) <;> omega) _ | refine Below.setCell ?_ (by (try simp) <;> omega) _ | refine Below.trans ?_ (Below.mono (by assumption) (by (try simp) <;> omega))))
  clear hb2 b1 c11 c12 d11 d12 jA1 jB1
  have c21 := jA2.cell0
  have c22 := jA2.cell1
  have d21 := jB2.cell0
  have d22 := jB2.cell1
  have l2 := jB2.lt
  have la2 := jA2.lt
  go_wp2_with fail
  refine (HAD.out _ (by repeat (first | exact Below.refl _ _ | assumption | refine Below.drew ?_ | refine below_drewN ?_ _ | refine Below.alloc ?_ (by (try simp) <;> omega) _ | refine Below.setCell ?_ (by (try simp) <;> omega) _ | refine Below.trans ?_ (Below.mono (by assumption) (by (try simp) <;> omega))))).mono ?_
  rintro e w3 ⟨rfl, hb3⟩
  have z3 := hb3.size
  have jA3 := jA2.below hb3 (by omega)
  have jB3 := jB2.below hb3 (by omega)
  have b3 : Below w.heap.size w w3 := (by repeat (first | exact Below.refl _ _ | assumption | refine Below.drew ?_ | refine below_drewN ?_ _ | refine Below.alloc ?_ (by (try simp) <;> omega) _ | refine Below.setCell ?_ (by (try simp) <;> omega) _ | refine Below.trans ?_ (Below.mono (by assumption) (by (try simp) <;> omega))))
  clear hb3 b2 c21 c22 d21 d22 jA2 jB2
  have c31 := jA3.cell0
  have c32 := jA3.cell1
  have d31 := jB3.cell0
  have d32 := jB3.cell1
  have l3 := jB3.lt
  have la3 := jA3.lt
  go_wp2_with fail
  refine (HAT.out _ (by repeat (first | exact Below.refl _ _ | assumption | refine Below.drew ?_ | refine below_drewN ?_ _ | refine Below.alloc ?_ (by (try simp) <;> omega) _ | refine Below.setCell ?_ (by (try simp) <;> omega) _ | refine Below.trans ?_ (Below.mono (by assumption) (by (try simp) <;> omega))))).mono ?_
  rintro e w4 ⟨rfl, hb4⟩
  have z4 := hb4.size
  have jA4 := jA3.below hb4 (by omega)
  have jB4 := jB3.below hb4 (by omega)
  have b4 : Below w.heap.size w w4 := (by repeat (first | exact Below.refl _ _ | assumption | refine Below.drew ?_ | refine below_drewN ?_ _ | refine Below.alloc ?_ (by (try simp) <;> omega) _ | refine Below.setCell ?_ (by (try simp) <;> omega) _ | refine Below.trans ?_ (Below.mono (by assumption) (by (try simp) <;> omega))))
  clear hb4 b3 c31 c32 d31 d32 jA3 jB3
  have c41 := jA4.cell0
  have c42 := jA4.cell1
  have d41 := jB4.cell0
  have d42 := jB4.cell1
  have l4 := jB4.lt
  have la4 := jA4.lt
  go_wp2_with fail
  refine (HDI.out _ (by repeat (first | exact Below.refl _ _ | assumption | refine Below.drew ?_ | refine below_drewN ?_ _ | refine Below.alloc ?_ (by (try simp) <;> omega) _ | refine Below.setCell ?_ (by (try simp) <;> omega) _ | refine Below.trans ?_ (Below.mono (by assumption) (by (try simp) <;> omega))))).mono ?_
  rintro e w5 ⟨rfl, hb5⟩
  have z5 := hb5.size; try simp at z5
  have jA5 := (jA4.alloc (.cells #[.int .i64 al, .int .i64 av] 23)).below hb5 (by simp; omega)
  have jB5 := (jB4.alloc (.cells #[.int .i64 al, .int .i64 av] 23)).below hb5 (by simp; omega)
  have jP5 : Box2 w5 w4.heap.size 23 al av := (Box2.new w4 23 al av).below hb5 (by simp)
  have b5 : Below w.heap.size w w5 := (by repeat (first | exact Below.refl _ _ | assumption | refine Below.drew ?_ | refine below_drewN ?_ _ | refine Below.alloc ?_ (by (try simp) <;> omega) _ | refine Below.setCell ?_ (by (try simp) <;> omega) _ | refine Below.trans ?_ (Below.mono (by assumption) (by (try simp) <;> omega))))
  clear hb5 b4 c41 c42 d41 d42 jA4 jB4
  have c51 := jA5.cell0
  have c52 := jA5.cell1
  have d51 := jB5.cell0
  have d52 := jB5.cell1
  have l5 := jP5.lt
  have lb5 := jB5.lt
  have la5 := jA5.lt
  go_wp2_with fail
  refine (HMB.out _ (by repeat (first | exact Below.refl _ _ | assumption | refine Below.drew ?_ | refine below_drewN ?_ _ | refine Below.alloc ?_ (by (try simp) <;> omega) _ | refine Below.setCell ?_ (by (try simp) <;> omega) _ | refine Below.trans ?_ (Below.mono (by assumption) (by (try simp) <;> omega))))).mono ?_
  rintro e w6 ⟨rfl, hb6⟩
  have z6 := hb6.size
  have jA6 := jA5.below hb6 (by omega)
  have jB6 := jB5.below hb6 (by omega)
  have jP6 := jP5.below hb6 (by omega)
  have b6 : Below w.heap.size w w6 := (by repeat (first | exact Below.refl _ _ | assumption | refine Below.drew ?_ | refine below_drewN ?_ _ | refine Below.alloc ?_ (by (try simp) <;> omega) _ | refine Below.setCell ?_ (by (try simp) <;> omega) _ | refine Below.trans ?_ (Below.mono (by assumption) (by (try simp) <;> omega))))
  clear hb6 b5 c51 c52 d51 d52 jA5 jB5 jP5
  have l6 := jP6.lt
  have lb6 := jB6.lt
  have la6 := jA6.lt
  go_wp2_with fail
  refine (HMA.out _ (by repeat (first | exact Below.refl _ _ | assumption | refine Below.drew ?_ | refine below_drewN ?_ _ | refine Below.alloc ?_ (by (try simp) <;> omega) _ | refine Below.setCell ?_ (by (try simp) <;> omega) _ | refine Below.trans ?_ (Below.mono (by assumption) (by (try simp) <;> omega))))).mono ?_
  rintro e w7 ⟨rfl, hb7⟩
  have z7 := hb7.size; try simp at z7
  have jA7 := (jA6.alloc (.cells #[.int .i64 bl, .int .i64 bv] 23)).below hb7 (by simp; omega)
  have jB7 := (jB6.alloc (.cells #[.int .i64 bl, .int .i64 bv] 23)).below hb7 (by simp; omega)
  have jP7 := (jP6.alloc (.cells #[.int .i64 bl, .int .i64 bv] 23)).below hb7 (by simp; omega)
  have jQ7 : Box2 w7 w6.heap.size 23 bl bv := (Box2.new w6 23 bl bv).below hb7 (by simp)
  have b7 : Below w.heap.size w w7 := (by repeat (first | exact Below.refl _ _ | assumption | refine Below.drew ?_ | refine below_drewN ?_ _ | refine Below.alloc ?_ (by (try simp) <;> omega) _ | refine Below.setCell ?_ (by (try simp) <;> omega) _ | refine Below.trans ?_ (Below.mono (by assumption) (by (try simp) <;> omega))))
  clear hb7 b6 jA6 jB6 jP6
  have c71 := jA7.cell0
  have c72 := jA7.cell1
  have d71 := jB7.cell0
  have d72 := jB7.cell1
  have p71 := jP7.cell0
  have p72 := jP7.cell1
  have q71 := jQ7.cell0
  have q72 := jQ7.cell1
  have l7 := jQ7.lt
  have lb7 := jB7.lt
  have lp7 := jP7.lt
  have la7 := jA7.lt
  go_wp2_with (go_at_call 12; refine (num3_any _ _).mono ?_; rintro e w' ⟨rfl, rfl⟩)
  refine (HRX.out _ (by repeat (first | exact Below.refl _ _ | assumption | refine Below.drew ?_ | refine below_drewN ?_ _ | refine Below.alloc ?_ (by (try simp) <;> omega) _ | refine Below.setCell ?_ (by (try simp) <;> omega) _ | refine Below.trans ?_ (Below.mono (by assumption) (by (try simp) <;> omega))))).mono ?_
  rintro e w8 ⟨rl, rfl, own8, hb8⟩
  have s8 := slP_of_own own8
  have z8 := hb8.size; try simp at z8
  have jA8 := (jA7.alloc (.cells #[.int .i64 al, .int .i64 av] 23)).below hb8 (by simp; omega)
  have b8 : Below w.heap.size w w8 := (by repeat (first | exact Below.refl _ _ | assumption | refine Below.drew ?_ | refine below_drewN ?_ _ | refine Below.alloc ?_ (by (try simp) <;> omega) _ | refine Below.setCell ?_ (by (try simp) <;> omega) _ | refine Below.trans ?_ (Below.mono (by assumption) (by (try simp) <;> omega))))
  clear hb8 b7 own8 jA7 jB7 jP7 jQ7 c71 c72 d71 d72 p71 p72 q71 q72
  obtain ⟨sa, scap, sb, off, rfl, hlc, hsa, hsc⟩ := s8.cell
  have HSC := Lib.hid hsc; clear hsc s8
  have c81 := jA8.cell0
  have c82 := jA8.cell1
  have la8 := jA8.lt
  have hz1 : (many < 0) = False := by simp; omega
  by_cases hfar : 8192 - A < many
  · have hlm := hn3 hfar
    go_wp2_with fail
    refine (HLF.out hfar _ (by repeat (first | exact Below.refl _ _ | assumption | refine Below.drew ?_ | refine below_drewN ?_ _ | refine Below.alloc ?_ (by (try simp) <;> omega) _ | refine Below.setCell ?_ (by (try simp) <;> omega) _ | refine Below.trans ?_ (Below.mono (by assumption) (by (try simp) <;> omega))))).mono ?_
    rintro e w9 ⟨rfl, hb9⟩
    have z9 := hb9.size
    have b9 : Below w.heap.size w w9 := (by repeat (first | exact Below.refl _ _ | assumption | refine Below.drew ?_ | refine below_drewN ?_ _ | refine Below.alloc ?_ (by (try simp) <;> omega) _ | refine Below.setCell ?_ (by (try simp) <;> omega) _ | refine Below.trans ?_ (Below.mono (by assumption) (by (try simp) <;> omega))))
    clear hb9 b8
    go_wp2_with (go_at_call 12; refine (num3_any _ _).mono ?_; rintro e w' ⟨rfl, rfl⟩)
    refine (works3_any _ (HT.out.below (B := w.heap.size) (by repeat (first | exact Below.refl _ _ | assumption | refine Below.drew ?_ | refine below_drewN ?_ _ | refine Below.alloc ?_ (by (try simp) <;> omega) _ | refine Below.setCell ?_ (by (try simp) <;> omega) _ | refine Below.trans ?_ (Below.mono (by assumption) (by (try simp) <;> omega)))) hz)).mono ?_
    rintro e w10 ⟨rfl, hb10⟩
    go_wp2_with fail
    go_ret
    exact ⟨rfl, (by repeat (first | exact Below.refl _ _ | assumption | refine Below.drew ?_ | refine below_drewN ?_ _ | refine Below.alloc ?_ (by (try simp) <;> omega) _ | refine Below.setCell ?_ (by (try simp) <;> omega) _ | refine Below.trans ?_ (Below.mono (by assumption) (by (try simp) <;> omega))))⟩
  · have hlm := hn4 (by omega)
    go_wp2_with fail
    refine (HLY.out (by omega) _ (by repeat (first | exact Below.refl _ _ | assumption | refine Below.drew ?_ | refine below_drewN ?_ _ | refine Below.alloc ?_ (by (try simp) <;> omega) _ | refine Below.setCell ?_ (by (try simp) <;> omega) _ | refine Below.trans ?_ (Below.mono (by assumption) (by (try simp) <;> omega))))).mono ?_
    rintro e w9 ⟨r9, rfl, own9, hb9⟩
    have HLM := Lib.hid (show L.length = many.toNat by omega)
    rw [lns_len, ← HLM.out] at own9
    obtain ⟨a9, c9, rfl⟩ := own_slice own9
    have z9 := hb9.size
    have jA9 := jA8.below hb9 (by omega)
    have HSD := Lib.hid (fun h0 : 0 < L.length => And.intro (Nat.lt_of_lt_of_le (HSC.out h0).1 hb9.size) fun j hj => And.intro ((hb9.cell (p := ⟨sb, off + j * 2, none⟩) (HSC.out h0).1).trans ((HSC.out h0).2 j hj).1) ((hb9.cell (p := ⟨sb, off + j * 2 + 1, none⟩) (HSC.out h0).1).trans ((HSC.out h0).2 j hj).2))
    have b9 : Below w.heap.size w w9 := (by repeat (first | exact Below.refl _ _ | assumption | refine Below.drew ?_ | refine below_drewN ?_ _ | refine Below.alloc ?_ (by (try simp) <;> omega) _ | refine Below.setCell ?_ (by (try simp) <;> omega) _ | refine Below.trans ?_ (Below.mono (by assumption) (by (try simp) <;> omega))))
    clear hb9 b8 own9 jA8 c81 c82 HSC
    have hN : lnsN A.toNat L.length ≤ 1024 := by rw [← lns_len]; exact lns_len_le _ _ (by omega)
    have HN := Lib.hid (fun k : Nat => (show k ≤ L.length → lnsN A.toNat k ≤ 1024 from fun h => by rw [← lns_len]; exact lns_len_le _ _ (by omega)))
    go_wp2_with (go_at_call 12; refine (num3_any _ _).mono ?_; rintro e w' ⟨rfl, rfl⟩)
    go_loopw [20, 21] (fun x i wr => ∃ k : Nat, k ≤ L.length ∧ i = .int .i64 k ∧ x = .int .i64 (lnsN A.toNat k : Nat) ∧ Below w9.heap.size w9 wr) (fun _ i _ => L.length - (intOf i).toNat)
    case atStart => exact ⟨0, Nat.zero_le _, rfl, rfl, Below.refl _ _⟩
    case round =>
      obtain ⟨k, hk, rfl, rfl, hbk⟩ := hrel
      have zk := hbk.size
      by_cases hlt : k < L.length
      · obtain rfl := hsa (by omega)
        obtain ⟨hsb, hsj⟩ := HSD.out (by omega)
        have HJ := Lib.hid hsj; clear hsj
        have hkr : k < roomN al av := by omega
        have e1 := (hbk.cell (p := ⟨sb, off + k * 2, none⟩) hsb).trans (HJ.out k hlt).1
        have e2 := (hbk.cell (p := ⟨sb, off + k * 2 + 1, none⟩) hsb).trans (HJ.out k hlt).2
        rw [HRC.out k hlt] at e1 e2
        have HDK := Lib.hid (fun W (hb : Below w.heap.size w W) => HDC.out k hkr W hb)
        rw [HDE.out k hkr] at HDK
        have hck := HCL.out k
        obtain ⟨⟨x1, x2⟩, hx⟩ : ∃ x, cur al av k = x := ⟨_, rfl⟩
        rw [hx] at e1 e2 HDK hck
        dsimp only at e1 e2 HDK hck
        have HCK := Lib.hid hck
        clear hx hck
        have a1 := (hbk.cell (p := ⟨w.heap.size, 0, none⟩) jA9.lt).trans jA9.cell0
        have a2 := (hbk.cell (p := ⟨w.heap.size, 1, none⟩) jA9.lt).trans jA9.cell1
        have lk : w.heap.size < wr.heap.size := by have := jA9.lt; omega
        have lsb : sb < wr.heap.size := by omega
        have hkn : (k : Int) < (L.length : Int) := by omega
        have bk : Below w.heap.size w wr := b9.trans (hbk.mono b9.size)
        have bkk : Below w9.heap.size w9 wr := hbk
        have hNk := HN.out k (by omega)
        have HNN := Lib.hid (lnsN_next A.toNat k)
        clear hbk b9
        rcases Nat.eq_zero_or_pos k with hp | hp
        · have hk0 : ((k : Int) == 0) = true := beq_iff_eq.2 (by omega)
          have hz9 : lnsN A.toNat k = 0 := by rw [hp]; rfl
          have HNX := Lib.hid (show lnsN A.toNat (k + 1) = 1 by rw [HNN.out, if_pos hp])
          rw [hz9]
          clear hNk HNN hz9
          have HP := Lib.hid hp; clear hp
          go_wp2_with fail
          go_region_held3 (fun w' => w'.cell? ⟨w.heap.size, 0, none⟩ = some (.int .i64 al) ∧ w'.cell? ⟨w.heap.size, 1, none⟩ = some (.int .i64 av) ∧ w'.cell? ⟨sb, off + k * 2, none⟩ = some (.int .i64 x1) ∧ w'.cell? ⟨sb, off + k * 2 + 1, none⟩ = some (.int .i64 x2) ∧ w.heap.size < w'.heap.size ∧ sb < w'.heap.size) (exact ⟨a1, a2, e1, e2, lk, lsb⟩)
            (first | (go_at_call 18; refine (HDK.out _ (by repeat (first | exact Below.refl _ _ | assumption | refine Below.drew ?_ | refine below_drewN ?_ _ | refine Below.alloc ?_ (by (try simp) <;> omega) _ | refine Below.setCell ?_ (by (try simp) <;> omega) _ | refine Below.trans ?_ (Below.mono (by assumption) (by (try simp) <;> omega))))).mono ?_; rintro e wA ⟨rfl, hbA⟩; have bk : Below w.heap.size w wA := (by repeat (first | exact Below.refl _ _ | assumption | refine Below.drew ?_ | refine below_drewN ?_ _ | refine Below.alloc ?_ (by (try simp) <;> omega) _ | refine Below.setCell ?_ (by (try simp) <;> omega) _ | refine Below.trans ?_ (Below.mono (by assumption) (by (try simp) <;> omega)))); have bkk : Below w9.heap.size w9 wA := (by first | exact bkk.trans (hbA.mono bkk.size) | exact bkk.drew.trans (hbA.mono bkk.size)); have a1 := (hbA.cell (p := ⟨w.heap.size, 0, none⟩) lk).trans a1; have a2 := (hbA.cell (p := ⟨w.heap.size, 1, none⟩) lk).trans a2; have e1 := (hbA.cell (p := ⟨sb, off + k * 2, none⟩) lsb).trans e1; have e2 := (hbA.cell (p := ⟨sb, off + k * 2 + 1, none⟩) lsb).trans e2; have lk : w.heap.size < wA.heap.size := Nat.lt_of_lt_of_le lk hbA.size; have lsb : sb < wA.heap.size := Nat.lt_of_lt_of_le lsb hbA.size; clear hbA))
          all_goals
            go_wp2_with (go_at_call 12; refine (num3_any _ _).mono ?_; rintro e w' ⟨rfl, rfl⟩)
            go_quiet (fail)
            go_wp2_with fail
            go_roundw
            case rel => exact ⟨k + 1, hlt, by go_num, by rw [HNX.out]; rfl, (by repeat (first | exact Below.refl _ _ | assumption | refine Below.drew ?_ | refine below_drewN ?_ _ | refine Below.alloc ?_ (by (try simp) <;> omega) _ | refine Below.setCell ?_ (by (try simp) <;> omega) _ | refine Below.trans ?_ (Below.mono (by assumption) (by (try simp) <;> omega))))⟩
            case measure => simp [intOf]; omega
        · have hk0 : ((k : Int) == 0) = false := beq_eq_false_iff_ne.2 (by omega)
          obtain ⟨j, hj⟩ : ∃ j, k = j + 1 := ⟨k - 1, by omega⟩
          have hjk : (k : Int) - 1 = (j : Int) := by omega
          have hjn : (j : Int) < (L.length : Int) := by omega
          have f1 : wr.cell? ⟨sb, off + j * 2, none⟩ = _ := (bkk.cell (p := ⟨sb, off + j * 2, none⟩) hsb).trans (HJ.out j (by omega)).1
          rw [HRC.out j (by omega)] at f1
          have hcj := HCL.out j
          obtain ⟨y1, hy⟩ : ∃ y, (cur al av j).1 = y := ⟨_, rfl⟩
          rw [hy] at f1 hcj
          have HCJ := Lib.hid hcj
          clear hy hcj
          obtain ⟨N, hNe⟩ : ∃ N, lnsN A.toNat k = N := ⟨_, rfl⟩
          rw [hNe] at hNk HNN ⊢
          have hNw : IntKind.i64.wrap ((N : Int) + 1) = (N : Int) + 1 := IntWalk.i64_in _ (by omega)
          have HNX : Hid (if x1 = y1 then lnsN A.toNat (k + 1) = N else lnsN A.toNat (k + 1) = N + 1) := Lib.hid (by
            have h1 := HCK.out
            have h2 := HCJ.out
            by_cases h : x1 = y1
            · rw [if_pos h, HNN.out, if_neg (by omega), if_pos (by omega)]
            · rw [if_neg h, HNN.out, if_neg (by omega), if_neg (by omega)])
          clear HNN hNe
          have HJK := Lib.hid hj; clear hj
          have HP := Lib.hid hp; clear hp
          go_wp2_with fail
          go_region_held3 (fun w' => w'.cell? ⟨w.heap.size, 0, none⟩ = some (.int .i64 al) ∧ w'.cell? ⟨w.heap.size, 1, none⟩ = some (.int .i64 av) ∧ w'.cell? ⟨sb, off + k * 2, none⟩ = some (.int .i64 x1) ∧ w'.cell? ⟨sb, off + k * 2 + 1, none⟩ = some (.int .i64 x2) ∧ w'.cell? ⟨sb, off + j * 2, none⟩ = some (.int .i64 y1) ∧ w.heap.size < w'.heap.size ∧ sb < w'.heap.size) (exact ⟨a1, a2, e1, e2, f1, lk, lsb⟩)
            (first | (go_at_call 18; refine (HDK.out _ (by repeat (first | exact Below.refl _ _ | assumption | refine Below.drew ?_ | refine below_drewN ?_ _ | refine Below.alloc ?_ (by (try simp) <;> omega) _ | refine Below.setCell ?_ (by (try simp) <;> omega) _ | refine Below.trans ?_ (Below.mono (by assumption) (by (try simp) <;> omega))))).mono ?_; rintro e wA ⟨rfl, hbA⟩; have bk : Below w.heap.size w wA := (by repeat (first | exact Below.refl _ _ | assumption | refine Below.drew ?_ | refine below_drewN ?_ _ | refine Below.alloc ?_ (by (try simp) <;> omega) _ | refine Below.setCell ?_ (by (try simp) <;> omega) _ | refine Below.trans ?_ (Below.mono (by assumption) (by (try simp) <;> omega)))); have bkk : Below w9.heap.size w9 wA := (by first | exact bkk.trans (hbA.mono bkk.size) | exact bkk.drew.trans (hbA.mono bkk.size)); have a1 := (hbA.cell (p := ⟨w.heap.size, 0, none⟩) lk).trans a1; have a2 := (hbA.cell (p := ⟨w.heap.size, 1, none⟩) lk).trans a2; have e1 := (hbA.cell (p := ⟨sb, off + k * 2, none⟩) lsb).trans e1; have e2 := (hbA.cell (p := ⟨sb, off + k * 2 + 1, none⟩) lsb).trans e2; have f1 := (hbA.cell (p := ⟨sb, off + j * 2, none⟩) lsb).trans f1; have lk : w.heap.size < wA.heap.size := Nat.lt_of_lt_of_le lk hbA.size; have lsb : sb < wA.heap.size := Nat.lt_of_lt_of_le lsb hbA.size; clear hbA))
          all_goals
            by_cases hxy : x1 = y1
            · subst hxy
              replace HNX : Hid (lnsN A.toNat (k + 1) = N) := Lib.hid (by have := HNX.out; rwa [if_pos rfl] at this)
              go_wp2_with (go_at_call 12; refine (num3_any _ _).mono ?_; rintro e w' ⟨rfl, rfl⟩)
              go_quiet (fail)
              go_wp2_with fail
              go_roundw
              case rel => exact ⟨k + 1, hlt, by go_num, by rw [HNX.out], (by repeat (first | exact Below.refl _ _ | assumption | refine Below.drew ?_ | refine below_drewN ?_ _ | refine Below.alloc ?_ (by (try simp) <;> omega) _ | refine Below.setCell ?_ (by (try simp) <;> omega) _ | refine Below.trans ?_ (Below.mono (by assumption) (by (try simp) <;> omega))))⟩
              case measure => simp [intOf]; omega
            · replace HNX : Hid (lnsN A.toNat (k + 1) = N + 1) := Lib.hid (by have := HNX.out; rwa [if_neg hxy] at this)
              have hne : (x1 != y1) = true := bne_iff_ne.2 hxy
              clear hxy
              go_wp2_with (go_at_call 12; refine (num3_any _ _).mono ?_; rintro e w' ⟨rfl, rfl⟩)
              go_quiet (fail)
              go_wp2_with fail
              go_roundw
              case rel => exact ⟨k + 1, hlt, by go_num, by rw [HNX.out]; go_num, (by repeat (first | exact Below.refl _ _ | assumption | refine Below.drew ?_ | refine below_drewN ?_ _ | refine Below.alloc ?_ (by (try simp) <;> omega) _ | refine Below.setCell ?_ (by (try simp) <;> omega) _ | refine Below.trans ?_ (Below.mono (by assumption) (by (try simp) <;> omega))))⟩
              case measure => simp [intOf]; omega
      · obtain rfl : k = L.length := by omega
        have bk : Below w.heap.size w wr := b9.trans (hbk.mono b9.size)
        go_wp2_with fail
        refine (works3_any _ (HT.out.below (B := w.heap.size) (by repeat (first | exact Below.refl _ _ | assumption | refine Below.drew ?_ | refine below_drewN ?_ _ | refine Below.alloc ?_ (by (try simp) <;> omega) _ | refine Below.setCell ?_ (by (try simp) <;> omega) _ | refine Below.trans ?_ (Below.mono (by assumption) (by (try simp) <;> omega)))) hz)).mono ?_
        rintro e w10 ⟨rfl, hb10⟩
        go_wp2_with fail
        go_ret
        exact ⟨rfl, (by repeat (first | exact Below.refl _ _ | assumption | refine Below.drew ?_ | refine below_drewN ?_ _ | refine Below.alloc ?_ (by (try simp) <;> omega) _ | refine Below.setCell ?_ (by (try simp) <;> omega) _ | refine Below.trans ?_ (Below.mono (by assumption) (by (try simp) <;> omega))))⟩
theorem holds3_any (al av bl bv many : Int) (w : World) (ht : Ends w) :
    Calls Tryd.prog 6 #[.agg #[.int .i64 al, .int .i64 av], .agg #[.int .i64 bl, .int .i64 bv], .int .i64 many] w fun e w' => e = .returned (.bool true) ∧ Below w.heap.size w w' := by
  cases ha : okP al av with
  | false => exact holds3_skip0 al av bl bv many ha w ht
  | true =>
    cases hb : okP bl bv with
    | false => exact holds3_skip1 al av bl bv many ha hb w ht
    | true =>
      by_cases h0 : many < 0
      · exact holds3_skip2 al av bl bv many ha hb h0 w ht
      · by_cases h1 : 200 < many
        · exact holds3_skip3 al av bl bv many ha hb h0 h1 w ht
        · exact holds3_some al av bl bv many ha hb (by omega) (by omega) w ht
end Go.Proofs.YtkighpfckibkoaaDoor
