/-
  The law FileHolds: its walk. Written by gen_flu.py.
-/
import Derived.Test.YtmncoclmgcjjjaaMf11
namespace Go.Proofs.Ytmncoclmgcjjjaa
open Go.RowKit Go.Shelf
attribute [local go_sem] Oper.semAt_some

theorem strNe9 (s : ByteArray) (W : World) : (binOp .neq 9 (.string s) (.string s)).run Try.prog W = .ok (.bool false) W := by
  simp [go_sem]
set_option maxRecDepth 100000 in
set_option maxHeartbeats 16000000 in
theorem holds9_any {v u : Value} {xs ds : List Nat} (p n2 m2 : Int) (hp0 : -9223372036854775808 ≤ p) (hp1 : p ≤ 9223372036854775807) (hn : -9223372036854775808 ≤ n2 ∧ n2 ≤ 9223372036854775807) (hm : -9223372036854775808 ≤ m2 ∧ m2 ≤ 9223372036854775807) (w : World) (hv : FB w v xs) (hu : FB w u ds) :
    Calls Try.prog 7 #[v, .int .i64 p, u, .agg #[.int .i64 n2, .int .i64 m2]] w fun e w' => e = .returned (.bool true) ∧ Below w.heap.size w w' := by
  have HK := Lib.hid works9_any
  have HN := Lib.hid num9_any
  have HS := Lib.hid strEq9
  have HSN := Lib.hid strNe9
  have HV := Lib.hid hv
  have HU := Lib.hid hu
  have HW1 := Lib.hid (fun h1 h2 => holds_write xs p ds h1 h2)
  have HC1 := Lib.hid (fun h1 h2 h3 => holds_cut xs n2 m2 h1 h2 h3)
  have H1 : Hid (∀ W, Below w.heap.size w W → Calls Try.prog 11 #[v, .int .i64 p, u] W fun e w' => ∃ r, e = .returned (.tuple #[r, .int .i64 (errW xs.length p ds.length)]) ∧ FB w' r (outW xs p ds) ∧ Below W.heap.size W w') := show ∀ W, _ from fun W hW => write_any p hp0 hp1 W (hv.below hW) (hu.below hW)
  have H2 : Hid (∀ W r ys, FB W r ys → Calls Try.prog 13 #[r, .int .i64 p, .int .i64 (ds.length : Nat)] W fun e w' => ∃ r, e = .returned (.tuple #[r, .int .i64 (errR ys.length p (ds.length : Nat))]) ∧ FB w' r (outR ys p (ds.length : Nat)) ∧ Below W.heap.size W w') := show ∀ W, _ from fun W r ys hr => readF_any p _ W hr
  have H3 : Hid (∀ W, Below w.heap.size w W → Calls Try.prog 12 #[v, .int .i64 n2] W fun e w' => ∃ r, e = .returned (.tuple #[r, .int .i64 (errW xs.length n2 0)]) ∧ FB w' r (outC xs n2) ∧ Below W.heap.size W w') := show ∀ W, _ from fun W hW => cut_any n2 hn.1 hn.2 W (hv.below hW)
  have H4 : Hid (∀ W r, FB W r (outC xs n2) → Calls Try.prog 12 #[r, .int .i64 m2] W fun e w' => ∃ r, e = .returned (.tuple #[r, .int .i64 (errW (outC xs n2).length m2 0)]) ∧ FB w' r (outC (outC xs n2) m2) ∧ Below W.heap.size W w') := show ∀ W, _ from fun W r hr => cut_any m2 hm.1 hm.2 W hr
  have H5 : Hid (∀ W, Below w.heap.size w W → Calls Try.prog 12 #[v, .int .i64 m2] W fun e w' => ∃ r, e = .returned (.tuple #[r, .int .i64 (errW xs.length m2 0)]) ∧ FB w' r (outC xs m2) ∧ Below W.heap.size W w') := show ∀ W, _ from fun W hW => cut_any m2 hm.1 hm.2 W (hv.below hW)
  obtain ⟨a, c, rfl, hlc, -⟩ := hv.form
  obtain ⟨a', c', rfl, hlc', -⟩ := hu.form
  obtain ⟨n, hn'⟩ : ∃ n, xs.length = n := ⟨_, rfl⟩
  obtain ⟨k, hk'⟩ : ∃ k, ds.length = k := ⟨_, rfl⟩
  have HLN := Lib.hid (And.intro hn' hk')
  rw [hn'] at HV H1 H3 H5 HW1 HC1 hlc ⊢
  rw [hk'] at HU H1 H2 HW1 hlc' ⊢
  obtain ⟨e1, he1⟩ : ∃ e, errW n p k = e := ⟨_, rfl⟩
  obtain ⟨e2, he2⟩ : ∃ e, errW n n2 0 = e := ⟨_, rfl⟩
  obtain ⟨e3, he3⟩ : ∃ e, errW (outC xs n2).length m2 0 = e := ⟨_, rfl⟩
  obtain ⟨e4, he4⟩ : ∃ e, errW n m2 0 = e := ⟨_, rfl⟩
  rw [he1] at H1 HW1
  rw [he2] at H3 HC1
  rw [he3] at H4 HC1
  rw [he4] at H5 HC1
  clear hv hu hn' hk' he1 he2 he3 he4 hn hm
  obtain ⟨W0, hW0⟩ : ∃ W0, w.alloc (.cells #[.int .i64 n2, .int .i64 m2] 55) = W0 := ⟨_, rfl⟩
  have HB0 : Hid (Below w.heap.size w W0) := show Below _ _ _ by rw [← hW0]; exact (Below.refl _ _).alloc (Nat.le_refl _) _
  have HT0 : Hid (Blk W0 w.heap.size 55 #[.int .i64 n2, .int .i64 m2]) := show Blk _ _ _ _ by rw [← hW0]; exact Blk.new _ _ _
  have HW0 := Lib.hid hW0
  clear hW0
  by_cases g0 : (448 : Int) < (n : Int)
  · go_enter Try.func7, Try.ntmps7
    go_wp2_with fail
    rw [HW0.out]
    refine (HK.out _).mono ?_
    rintro e w1 ⟨rfl, hb⟩
    go_wp2_with fail
    go_ret
    exact ⟨rfl, HB0.out.trans (hb.mono HB0.out.size)⟩
  by_cases g1 : (448 : Int) < (k : Int)
  · go_enter Try.func7, Try.ntmps7
    go_wp2_with fail
    rw [HW0.out]
    refine (HK.out _).mono ?_
    rintro e w1 ⟨rfl, hb⟩
    go_wp2_with fail
    go_ret
    exact ⟨rfl, HB0.out.trans (hb.mono HB0.out.size)⟩
  have hn4 : n ≤ 448 := by omega
  have hk4 : k ≤ 448 := by omega
  go_enter Try.func7, Try.ntmps7
  go_wp2_with fail
  rw [HW0.out]
  refine (H1.out W0 HB0.out).mono ?_
  rintro e w1 ⟨r1, rfl, f1, hb⟩
  have HB1 : Hid (Below w.heap.size w w1) := show Below _ _ _ from HB0.out.trans (hb.mono HB0.out.size)
  have HT1 : Hid (Blk w1 w.heap.size 55 #[.int .i64 n2, .int .i64 m2]) := show Blk _ _ _ _ from HT0.out.below hb HT0.out.lt
  have F1 := Lib.hid f1
  clear hb f1
  by_cases h1 : e1 = 0
  · obtain ⟨p0, pk, hl4, q1, q2, q3, q4, q5⟩ := HW1.out hn4 h1
    have HR2 := H2.out w1 r1 (outW xs p ds) F1.out
    rw [q1, q2] at HR2
    have HRD := Lib.hid HR2
    obtain ⟨a1, c1, rfl, hl1, -⟩ := F1.out.form
    obtain ⟨L, hL⟩ : ∃ L, (outW xs p ds).length = L := ⟨_, rfl⟩
    have F1 : Hid (FB w1 (.slice a1 L c1) (outW xs p ds)) := show FB _ _ _ by rw [← hL]; exact F1.out
    rw [hL] at HRD hl1 q3 q5 hl4 ⊢
    have HL := Lib.hid hL
    have HQ5 := Lib.hid q5
    obtain ⟨P, rfl⟩ : ∃ P : Nat, p = (P : Int) := ⟨p.toNat, by omega⟩
    rw [Int.toNat_natCast] at q3
    have HQ3 := Lib.hid q3
    have HQ4 := Lib.hid q4
    subst h1
    clear HR2 q1 q2 q3 q4 q5 hL HW1
    go_wp2_with (go_at_call 17; refine (HN.out _ _).mono ?_; rintro e w' ⟨rfl, rfl⟩)
    refine HRD.out.mono ?_
    rintro e w2 ⟨r2, rfl, f2, hb⟩
    have HB2 : Hid (Below w.heap.size w w2) := show Below _ _ _ from HB1.out.trans (hb.mono HB1.out.size)
    have HT2 : Hid (Blk w2 w.heap.size 55 #[.int .i64 n2, .int .i64 m2]) := show Blk _ _ _ _ from HT1.out.below hb HT1.out.lt
    have F2 := Lib.hid (F1.out.below hb)
    have d1 := conv_sl f2.sl
    have d2 := conv_sl (HU.out.below HB2.out).sl
    have d3 := conv_sl F2.out.sl
    have d4 := conv_sl (HV.out.below HB2.out).sl
    obtain ⟨s1, hs1⟩ : ∃ s, strOf ds = s := ⟨_, rfl⟩
    rw [hs1] at d1 d2
    have k1 := HSN.out s1
    have w3 : IntKind.i64.wrap ((P : Int) + (k : Int)) = ((P + k : Nat) : Int) := by rw [IntWalk.i64_in _ (by omega)]; omega
    obtain ⟨A, hA⟩ : ∃ A, P + k = A := ⟨_, rfl⟩
    rw [hA] at w3
    have HA := Lib.hid hA
    clear hs1 hb f2 HRD hA
    have HLOOP : Hid True := show True from trivial
    by_cases h0 : k = 0
    · have hz : outW xs P ds = xs := HQ4.out h0
      rw [hz] at d3
      obtain ⟨s2, hs2⟩ : ∃ s, strOf xs = s := ⟨_, rfl⟩
      rw [hs2] at d3 d4
      have k2 := HSN.out s2
      have g3 : ¬ 0 < (k : Int) := by omega
      have g4 : ((k : Int) == 0) = true := by rw [beq_iff_eq]; omega
      clear hs2 hz h0
      go_wp2_with (go_at_call 17; refine (HN.out _ _).mono ?_; rintro e w' ⟨rfl, rfl⟩)
      go_loopw [13] (fun i wr => ∃ j : Nat, j ≤ n ∧ i = .int .i64 j ∧ Below w2.heap.size w2 wr) (fun i _ => n - (intOf i).toNat)
      case atStart => exact ⟨0, Nat.zero_le _, rfl, Below.refl _ _⟩
      case round =>
        obtain ⟨j, hj, rfl, hb⟩ := hrel
        have HBJ : Hid (Below w.heap.size w wr) := show Below _ _ _ from HB2.out.trans (hb.mono HB2.out.size)
        have HTJ : Hid (Blk wr w.heap.size 55 #[.int .i64 n2, .int .i64 m2]) := show Blk _ _ _ _ from HT2.out.below hb HT2.out.lt
        have HBW : Hid (Below w2.heap.size w2 wr.drew) := show Below _ _ _ from Below.drew hb
        by_cases hlt : j < n
        · have hjn : (j : Int) < (n : Int) := by omega
          by_cases hin : (j : Int) < (P : Int) ∨ (P : Int) + k ≤ j
          · obtain ⟨hjL, hcell⟩ := HQ5.out j hlt hin
            obtain ⟨ax, cx, bx, ox, hxe, -, hxa, hxc⟩ := (F2.out.below hb).sl.cell
            rw [HL.out] at hxe hxa hxc
            obtain ⟨av, cv, bv, ov, hve, -, hva, hvc⟩ := (HV.out.below HBJ.out).sl.cell
            rw [HLN.out.1] at hve hva hvc
            simp only [Value.slice.injEq] at hxe hve
            obtain ⟨rfl, -, rfl⟩ := hxe
            obtain ⟨rfl, -, rfl⟩ := hve
            obtain rfl := hxa (by omega)
            obtain rfl := hva (by omega)
            have cX : wr.drew.cell? ⟨bx, ox + j, none⟩ = some (.int .u8 ((outW xs P ds)[j]?.getD 0 : Nat)) := (hxc (by omega)).2 j (by omega)
            have cV : wr.drew.cell? ⟨bv, ov + j, none⟩ = some (.int .u8 (xs[j]?.getD 0 : Nat)) := (hvc (by omega)).2 j hlt
            rw [hcell] at cX
            obtain ⟨z, hz⟩ : ∃ z, xs[j]?.getD 0 = z := ⟨_, rfl⟩
            rw [hz] at cX cV
            have hR : (fun W : World => W.cell? ⟨bx, ox + j, none⟩ = some (.int .u8 (z : Nat)) ∧ W.cell? ⟨bv, ov + j, none⟩ = some (.int .u8 (z : Nat))) wr.drew := ⟨cX, cV⟩
            have hjL' : ¬ (L : Int) ≤ (j : Int) := by omega
            have hzz : ((z : Int) != (z : Int)) = false := by simp
            clear hcell hxc hvc hxa hva hz cX cV
            by_cases hjp : (j : Int) < (P : Int)
            · clear hin
              go_wp2_with fail
              refine wp_region_M 27 (fun W : World => (W.cell? ⟨bx, ox + j, none⟩ = some (.int .u8 (z : Nat)) ∧ W.cell? ⟨bv, ov + j, none⟩ = some (.int .u8 (z : Nat)))) (by kernel_rfl) ?_
              (refine wpAnyM_take2 8 (i := 0) (v := ?_) rfl (by kernel_rfl) (by kernel_rfl) (fun _ _ _ h => h) (Or.inl ⟨by rfl, ?_⟩) hR ?_; rotate_left; (focus (intro w hSw; (try dsimp only at hSw); go_simp; (try with_reducible rfl))); (try simp only [put_laws])); (refine wpAnyM_take2 8 (i := 1) (v := ?_) rfl (by kernel_rfl) (by kernel_rfl) (fun _ _ _ h => h) (Or.inl ⟨by rfl, ?_⟩) hR ?_; rotate_left; (focus (intro w hSw; (try dsimp only at hSw); go_simp; (try with_reducible rfl))); (try simp only [put_laws]))
              (refine wpAnyM_take2 8 (i := 2) (v := .bool true) rfl (by kernel_rfl) (by kernel_rfl) (fun _ _ _ h => h) (Or.inl ⟨by rfl, ?_⟩) hR ?_; (focus (intro w hSw; (try dsimp only at hSw); go_simp; (try simp [*]); (try omega))); (try simp only [put_laws]))
              (refine wpAnyM_take2 8 (i := 3) (v := ?_) rfl (by kernel_rfl) (by kernel_rfl) (fun _ _ _ h => h) (Or.inl ⟨by rfl, ?_⟩) hR ?_; rotate_left; (focus (intro w hSw; (try dsimp only at hSw); go_simp; (try with_reducible rfl))); (try simp only [put_laws]))
              (refine wpAnyM_take2 8 (i := 4) (v := undef) rfl (by kernel_rfl) (by kernel_rfl) (fun _ _ _ h => h) (Or.inr ⟨by rfl, rfl⟩) hR ?_; (try simp only [put_laws])); (refine wpAnyM_take2 8 (i := 5) (v := undef) rfl (by kernel_rfl) (by kernel_rfl) (fun _ _ _ h => h) (Or.inr ⟨by rfl, rfl⟩) hR ?_; (try simp only [put_laws])); (refine wpAnyM_take2 8 (i := 6) (v := undef) rfl (by kernel_rfl) (by kernel_rfl) (fun _ _ _ h => h) (Or.inr ⟨by rfl, rfl⟩) hR ?_; (try simp only [put_laws])); (refine wpAnyM_take2 8 (i := 7) (v := undef) rfl (by kernel_rfl) (by kernel_rfl) (fun _ _ _ h => h) (Or.inr ⟨by rfl, rfl⟩) hR ?_; (try simp only [put_laws])); (refine wpAnyM_take2 8 (i := 8) (v := undef) rfl (by kernel_rfl) (by kernel_rfl) (fun _ _ _ h => h) (Or.inr ⟨by rfl, rfl⟩) hR ?_; (try simp only [put_laws])); (refine wpAnyM_take2 8 (i := 9) (v := undef) rfl (by kernel_rfl) (by kernel_rfl) (fun _ _ _ h => h) (Or.inr ⟨by rfl, rfl⟩) hR ?_; (try simp only [put_laws]))
              (refine wpAnyM_take2 8 (i := 10) (v := ?_) rfl (by kernel_rfl) (by kernel_rfl) (fun _ _ _ h => h) (Or.inl ⟨by rfl, ?_⟩) hR ?_; rotate_left; (focus (intro w hSw; (try dsimp only at hSw); go_simp; (try with_reducible rfl))); (try simp only [put_laws])); (refine wpAnyM_take2 8 (i := 11) (v := ?_) rfl (by kernel_rfl) (by kernel_rfl) (fun _ _ _ h => h) (Or.inl ⟨by rfl, ?_⟩) hR ?_; rotate_left; (focus (intro w hSw; (try dsimp only at hSw); go_simp; (try with_reducible rfl))); (try simp only [put_laws]))
              (refine wpAnyM_take2 8 (i := 12) (v := ?_) rfl (by kernel_rfl) (by kernel_rfl) (fun _ _ _ h => h) (Or.inl ⟨by rfl, ?_⟩) hR ?_; rotate_left; (focus (intro w hSw; (try dsimp only at hSw); go_simp; (try with_reducible rfl))); (try simp only [put_laws])); (refine wpAnyM_take2 8 (i := 13) (v := ?_) rfl (by kernel_rfl) (by kernel_rfl) (fun _ _ _ h => h) (Or.inl ⟨by rfl, ?_⟩) hR ?_; rotate_left; (focus (intro w hSw; (try dsimp only at hSw); go_simp; (try with_reducible rfl))); (try simp only [put_laws])); (refine wpAnyM_take2 8 (i := 14) (v := ?_) rfl (by kernel_rfl) (by kernel_rfl) (fun _ _ _ h => h) (Or.inl ⟨by rfl, ?_⟩) hR ?_; rotate_left; (focus (intro w hSw; (try dsimp only at hSw); go_simp; (try with_reducible rfl))); (try simp only [put_laws]))
              (refine wpAnyM_take2 8 (i := 15) (v := .bool false) rfl (by kernel_rfl) (by kernel_rfl) (fun _ _ _ h => h) (Or.inl ⟨by rfl, ?_⟩) hR ?_; (focus (intro w hSw; (try dsimp only at hSw); go_simp; (try simp [*]); (try omega))); (try simp only [put_laws]))
              (refine wpAnyM_take2 8 (i := 16) (v := ?_) rfl (by kernel_rfl) (by kernel_rfl) (fun _ _ _ h => h) (Or.inl ⟨by rfl, ?_⟩) hR ?_; rotate_left; (focus (intro w hSw; (try dsimp only at hSw); go_simp; (try with_reducible rfl))); (try simp only [put_laws])); (refine wpAnyM_take2 8 (i := 17) (v := ?_) rfl (by kernel_rfl) (by kernel_rfl) (fun _ _ _ h => h) (Or.inl ⟨by rfl, ?_⟩) hR ?_; rotate_left; (focus (intro w hSw; (try dsimp only at hSw); go_simp; (try with_reducible rfl))); (try simp only [put_laws])); (refine wpAnyM_take2 8 (i := 18) (v := ?_) rfl (by kernel_rfl) (by kernel_rfl) (fun _ _ _ h => h) (Or.inl ⟨by rfl, ?_⟩) hR ?_; rotate_left; (focus (intro w hSw; (try dsimp only at hSw); go_simp; (try with_reducible rfl))); (try simp only [put_laws])); (refine wpAnyM_take2 8 (i := 19) (v := ?_) rfl (by kernel_rfl) (by kernel_rfl) (fun _ _ _ h => h) (Or.inl ⟨by rfl, ?_⟩) hR ?_; rotate_left; (focus (intro w hSw; (try dsimp only at hSw); go_simp; (try with_reducible rfl))); (try simp only [put_laws])); (refine wpAnyM_take2 8 (i := 20) (v := ?_) rfl (by kernel_rfl) (by kernel_rfl) (fun _ _ _ h => h) (Or.inl ⟨by rfl, ?_⟩) hR ?_; rotate_left; (focus (intro w hSw; (try dsimp only at hSw); go_simp; (try with_reducible rfl))); (try simp only [put_laws])); (refine wpAnyM_take2 8 (i := 21) (v := ?_) rfl (by kernel_rfl) (by kernel_rfl) (fun _ _ _ h => h) (Or.inl ⟨by rfl, ?_⟩) hR ?_; rotate_left; (focus (intro w hSw; (try dsimp only at hSw); go_simp; (try with_reducible rfl))); (try simp only [put_laws])); (refine wpAnyM_take2 8 (i := 22) (v := ?_) rfl (by kernel_rfl) (by kernel_rfl) (fun _ _ _ h => h) (Or.inl ⟨by rfl, ?_⟩) hR ?_; rotate_left; (focus (intro w hSw; (try dsimp only at hSw); go_simp; (try with_reducible rfl))); (try simp only [put_laws])); (refine wpAnyM_take2 8 (i := 23) (v := ?_) rfl (by kernel_rfl) (by kernel_rfl) (fun _ _ _ h => h) (Or.inl ⟨by rfl, ?_⟩) hR ?_; rotate_left; (focus (intro w hSw; (try dsimp only at hSw); go_simp; (try with_reducible rfl))); (try simp only [put_laws])); (refine wpAnyM_take2 8 (i := 24) (v := ?_) rfl (by kernel_rfl) (by kernel_rfl) (fun _ _ _ h => h) (Or.inl ⟨by rfl, ?_⟩) hR ?_; rotate_left; (focus (intro w hSw; (try dsimp only at hSw); go_simp; (try with_reducible rfl))); (try simp only [put_laws]))
              (refine wpAnyM_take2 8 (i := 25) (v := .bool false) rfl (by kernel_rfl) (by kernel_rfl) (fun _ _ _ h => h) (Or.inl ⟨by rfl, ?_⟩) hR ?_; (focus (intro w hSw; (try dsimp only at hSw); go_simp; (try simp [*]); (try omega))); (try simp only [put_laws]))
              (refine wpAnyM_take2 8 (i := 26) (v := ?_) rfl (by kernel_rfl) (by kernel_rfl) (fun _ _ _ h => h) (Or.inl ⟨by rfl, ?_⟩) hR ?_; rotate_left; (focus (intro w hSw; (try dsimp only at hSw); go_simp; (try with_reducible rfl))); (try simp only [put_laws]))
              (refine wpAnyM_last rfl (by kernel_rfl) (fun K hK => ?_); rw [if_pos (by rfl)]; (try simp only [elem_laws]))
              go_simp
              refine hK _ _ ?_
              clear hK K hR
              (try simp only [put_laws])
              refine wpAnyM_done (by kernel_rfl) ?_ _
              go_wp2_with fail
              go_roundw
              case rel => exact ⟨j + 1, by omega, by go_num, HBW.out⟩
              case measure => simp [intOf]; omega
            · have hjk : (k : Int) ≤ ((j - P : Nat) : Int) := by omega
              have hw4 : IntKind.i64.wrap ((j : Int) - (P : Int)) = ((j - P : Nat) : Int) := by rw [IntWalk.i64_in _ (by omega)]; omega
              clear hin
              go_wp2_with fail
              refine wp_region_M 27 (fun W : World => (W.cell? ⟨bx, ox + j, none⟩ = some (.int .u8 (z : Nat)) ∧ W.cell? ⟨bv, ov + j, none⟩ = some (.int .u8 (z : Nat)))) (by kernel_rfl) ?_
              (refine wpAnyM_take2 8 (i := 0) (v := ?_) rfl (by kernel_rfl) (by kernel_rfl) (fun _ _ _ h => h) (Or.inl ⟨by rfl, ?_⟩) hR ?_; rotate_left; (focus (intro w hSw; (try dsimp only at hSw); go_simp; (try with_reducible rfl))); (try simp only [put_laws])); (refine wpAnyM_take2 8 (i := 1) (v := ?_) rfl (by kernel_rfl) (by kernel_rfl) (fun _ _ _ h => h) (Or.inl ⟨by rfl, ?_⟩) hR ?_; rotate_left; (focus (intro w hSw; (try dsimp only at hSw); go_simp; (try with_reducible rfl))); (try simp only [put_laws]))
              (refine wpAnyM_take2 8 (i := 2) (v := .bool false) rfl (by kernel_rfl) (by kernel_rfl) (fun _ _ _ h => h) (Or.inl ⟨by rfl, ?_⟩) hR ?_; (focus (intro w hSw; (try dsimp only at hSw); go_simp; (try simp [*]); (try omega))); (try simp only [put_laws]))
              (refine wpAnyM_take2 8 (i := 3) (v := ?_) rfl (by kernel_rfl) (by kernel_rfl) (fun _ _ _ h => h) (Or.inl ⟨by rfl, ?_⟩) hR ?_; rotate_left; (focus (intro w hSw; (try dsimp only at hSw); go_simp; (try with_reducible rfl))); (try simp only [put_laws]))
              (refine wpAnyM_take2 8 (i := 4) (v := ?_) rfl (by kernel_rfl) (by kernel_rfl) (fun _ _ _ h => h) (Or.inl ⟨by rfl, ?_⟩) hR ?_; rotate_left; (focus (intro w hSw; (try dsimp only at hSw); go_simp; (try with_reducible rfl))); (try simp only [put_laws])); (refine wpAnyM_take2 8 (i := 5) (v := ?_) rfl (by kernel_rfl) (by kernel_rfl) (fun _ _ _ h => h) (Or.inl ⟨by rfl, ?_⟩) hR ?_; rotate_left; (focus (intro w hSw; (try dsimp only at hSw); go_simp; (try with_reducible rfl))); (try simp only [put_laws]))
              (refine wpAnyM_take2 8 (i := 6) (v := ?_) rfl (by kernel_rfl) (by kernel_rfl) (fun _ _ _ h => h) (Or.inl ⟨by rfl, ?_⟩) hR ?_; rotate_left; (focus (intro w hSw; (try dsimp only at hSw); go_simp; (try with_reducible rfl))); (try simp only [put_laws]))
              (refine wpAnyM_take2 8 (i := 7) (v := ?_) rfl (by kernel_rfl) (by kernel_rfl) (fun _ _ _ h => h) (Or.inl ⟨by rfl, ?_⟩) hR ?_; rotate_left; (focus (intro w hSw; (try dsimp only at hSw); go_simp; (try with_reducible rfl))); (try simp only [put_laws])); (refine wpAnyM_take2 8 (i := 8) (v := ?_) rfl (by kernel_rfl) (by kernel_rfl) (fun _ _ _ h => h) (Or.inl ⟨by rfl, ?_⟩) hR ?_; rotate_left; (focus (intro w hSw; (try dsimp only at hSw); go_simp; (try with_reducible rfl))); (try simp only [put_laws]))
              (refine wpAnyM_take2 8 (i := 9) (v := .bool true) rfl (by kernel_rfl) (by kernel_rfl) (fun _ _ _ h => h) (Or.inl ⟨by rfl, ?_⟩) hR ?_; (focus (intro w hSw; (try dsimp only at hSw); go_simp; (try simp [*]); (try omega))); (try simp only [put_laws]))
              (refine wpAnyM_take2 8 (i := 10) (v := ?_) rfl (by kernel_rfl) (by kernel_rfl) (fun _ _ _ h => h) (Or.inl ⟨by rfl, ?_⟩) hR ?_; rotate_left; (focus (intro w hSw; (try dsimp only at hSw); go_simp; (try with_reducible rfl))); (try simp only [put_laws])); (refine wpAnyM_take2 8 (i := 11) (v := ?_) rfl (by kernel_rfl) (by kernel_rfl) (fun _ _ _ h => h) (Or.inl ⟨by rfl, ?_⟩) hR ?_; rotate_left; (focus (intro w hSw; (try dsimp only at hSw); go_simp; (try with_reducible rfl))); (try simp only [put_laws]))
              (refine wpAnyM_take2 8 (i := 12) (v := ?_) rfl (by kernel_rfl) (by kernel_rfl) (fun _ _ _ h => h) (Or.inl ⟨by rfl, ?_⟩) hR ?_; rotate_left; (focus (intro w hSw; (try dsimp only at hSw); go_simp; (try with_reducible rfl))); (try simp only [put_laws])); (refine wpAnyM_take2 8 (i := 13) (v := ?_) rfl (by kernel_rfl) (by kernel_rfl) (fun _ _ _ h => h) (Or.inl ⟨by rfl, ?_⟩) hR ?_; rotate_left; (focus (intro w hSw; (try dsimp only at hSw); go_simp; (try with_reducible rfl))); (try simp only [put_laws])); (refine wpAnyM_take2 8 (i := 14) (v := ?_) rfl (by kernel_rfl) (by kernel_rfl) (fun _ _ _ h => h) (Or.inl ⟨by rfl, ?_⟩) hR ?_; rotate_left; (focus (intro w hSw; (try dsimp only at hSw); go_simp; (try with_reducible rfl))); (try simp only [put_laws]))
              (refine wpAnyM_take2 8 (i := 15) (v := .bool false) rfl (by kernel_rfl) (by kernel_rfl) (fun _ _ _ h => h) (Or.inl ⟨by rfl, ?_⟩) hR ?_; (focus (intro w hSw; (try dsimp only at hSw); go_simp; (try simp [*]); (try omega))); (try simp only [put_laws]))
              (refine wpAnyM_take2 8 (i := 16) (v := ?_) rfl (by kernel_rfl) (by kernel_rfl) (fun _ _ _ h => h) (Or.inl ⟨by rfl, ?_⟩) hR ?_; rotate_left; (focus (intro w hSw; (try dsimp only at hSw); go_simp; (try with_reducible rfl))); (try simp only [put_laws])); (refine wpAnyM_take2 8 (i := 17) (v := ?_) rfl (by kernel_rfl) (by kernel_rfl) (fun _ _ _ h => h) (Or.inl ⟨by rfl, ?_⟩) hR ?_; rotate_left; (focus (intro w hSw; (try dsimp only at hSw); go_simp; (try with_reducible rfl))); (try simp only [put_laws])); (refine wpAnyM_take2 8 (i := 18) (v := ?_) rfl (by kernel_rfl) (by kernel_rfl) (fun _ _ _ h => h) (Or.inl ⟨by rfl, ?_⟩) hR ?_; rotate_left; (focus (intro w hSw; (try dsimp only at hSw); go_simp; (try with_reducible rfl))); (try simp only [put_laws])); (refine wpAnyM_take2 8 (i := 19) (v := ?_) rfl (by kernel_rfl) (by kernel_rfl) (fun _ _ _ h => h) (Or.inl ⟨by rfl, ?_⟩) hR ?_; rotate_left; (focus (intro w hSw; (try dsimp only at hSw); go_simp; (try with_reducible rfl))); (try simp only [put_laws])); (refine wpAnyM_take2 8 (i := 20) (v := ?_) rfl (by kernel_rfl) (by kernel_rfl) (fun _ _ _ h => h) (Or.inl ⟨by rfl, ?_⟩) hR ?_; rotate_left; (focus (intro w hSw; (try dsimp only at hSw); go_simp; (try with_reducible rfl))); (try simp only [put_laws])); (refine wpAnyM_take2 8 (i := 21) (v := ?_) rfl (by kernel_rfl) (by kernel_rfl) (fun _ _ _ h => h) (Or.inl ⟨by rfl, ?_⟩) hR ?_; rotate_left; (focus (intro w hSw; (try dsimp only at hSw); go_simp; (try with_reducible rfl))); (try simp only [put_laws])); (refine wpAnyM_take2 8 (i := 22) (v := ?_) rfl (by kernel_rfl) (by kernel_rfl) (fun _ _ _ h => h) (Or.inl ⟨by rfl, ?_⟩) hR ?_; rotate_left; (focus (intro w hSw; (try dsimp only at hSw); go_simp; (try with_reducible rfl))); (try simp only [put_laws])); (refine wpAnyM_take2 8 (i := 23) (v := ?_) rfl (by kernel_rfl) (by kernel_rfl) (fun _ _ _ h => h) (Or.inl ⟨by rfl, ?_⟩) hR ?_; rotate_left; (focus (intro w hSw; (try dsimp only at hSw); go_simp; (try with_reducible rfl))); (try simp only [put_laws])); (refine wpAnyM_take2 8 (i := 24) (v := ?_) rfl (by kernel_rfl) (by kernel_rfl) (fun _ _ _ h => h) (Or.inl ⟨by rfl, ?_⟩) hR ?_; rotate_left; (focus (intro w hSw; (try dsimp only at hSw); go_simp; (try with_reducible rfl))); (try simp only [put_laws]))
              (refine wpAnyM_take2 8 (i := 25) (v := .bool false) rfl (by kernel_rfl) (by kernel_rfl) (fun _ _ _ h => h) (Or.inl ⟨by rfl, ?_⟩) hR ?_; (focus (intro w hSw; (try dsimp only at hSw); go_simp; (try simp [*]); (try omega))); (try simp only [put_laws]))
              (refine wpAnyM_take2 8 (i := 26) (v := ?_) rfl (by kernel_rfl) (by kernel_rfl) (fun _ _ _ h => h) (Or.inl ⟨by rfl, ?_⟩) hR ?_; rotate_left; (focus (intro w hSw; (try dsimp only at hSw); go_simp; (try with_reducible rfl))); (try simp only [put_laws]))
              (refine wpAnyM_last rfl (by kernel_rfl) (fun K hK => ?_); rw [if_pos (by rfl)]; (try simp only [elem_laws]))
              go_simp
              refine hK _ _ ?_
              clear hK K hR
              (try simp only [put_laws])
              refine wpAnyM_done (by kernel_rfl) ?_ _
              go_wp2_with fail
              go_roundw
              case rel => exact ⟨j + 1, by omega, by go_num, HBW.out⟩
              case measure => simp [intOf]; omega
          · have hjp : ¬ (j : Int) < (P : Int) := by omega
            have hjk : ¬ (k : Int) ≤ ((j - P : Nat) : Int) := by omega
            have hw4 : IntKind.i64.wrap ((j : Int) - (P : Int)) = ((j - P : Nat) : Int) := by rw [IntWalk.i64_in _ (by omega)]; omega
            have hR : (fun _ : World => True) wr.drew := trivial
            clear hin
            go_wp2_with fail
            refine wp_region_M 27 (fun _ : World => True) (by kernel_rfl) ?_
            (refine wpAnyM_take2 8 (i := 0) (v := ?_) rfl (by kernel_rfl) (by kernel_rfl) (fun _ _ _ h => h) (Or.inl ⟨by rfl, ?_⟩) hR ?_; rotate_left; (focus (intro w hSw; (try dsimp only at hSw); go_simp; (try with_reducible rfl))); (try simp only [put_laws])); (refine wpAnyM_take2 8 (i := 1) (v := ?_) rfl (by kernel_rfl) (by kernel_rfl) (fun _ _ _ h => h) (Or.inl ⟨by rfl, ?_⟩) hR ?_; rotate_left; (focus (intro w hSw; (try dsimp only at hSw); go_simp; (try with_reducible rfl))); (try simp only [put_laws]))
            (refine wpAnyM_take2 8 (i := 2) (v := .bool false) rfl (by kernel_rfl) (by kernel_rfl) (fun _ _ _ h => h) (Or.inl ⟨by rfl, ?_⟩) hR ?_; (focus (intro w hSw; (try dsimp only at hSw); go_simp; (try simp [*]); (try omega))); (try simp only [put_laws]))
            (refine wpAnyM_take2 8 (i := 3) (v := ?_) rfl (by kernel_rfl) (by kernel_rfl) (fun _ _ _ h => h) (Or.inl ⟨by rfl, ?_⟩) hR ?_; rotate_left; (focus (intro w hSw; (try dsimp only at hSw); go_simp; (try with_reducible rfl))); (try simp only [put_laws])); (refine wpAnyM_take2 8 (i := 4) (v := ?_) rfl (by kernel_rfl) (by kernel_rfl) (fun _ _ _ h => h) (Or.inl ⟨by rfl, ?_⟩) hR ?_; rotate_left; (focus (intro w hSw; (try dsimp only at hSw); go_simp; (try with_reducible rfl))); (try simp only [put_laws])); (refine wpAnyM_take2 8 (i := 5) (v := ?_) rfl (by kernel_rfl) (by kernel_rfl) (fun _ _ _ h => h) (Or.inl ⟨by rfl, ?_⟩) hR ?_; rotate_left; (focus (intro w hSw; (try dsimp only at hSw); go_simp; (try with_reducible rfl))); (try simp only [put_laws])); (refine wpAnyM_take2 8 (i := 6) (v := ?_) rfl (by kernel_rfl) (by kernel_rfl) (fun _ _ _ h => h) (Or.inl ⟨by rfl, ?_⟩) hR ?_; rotate_left; (focus (intro w hSw; (try dsimp only at hSw); go_simp; (try with_reducible rfl))); (try simp only [put_laws])); (refine wpAnyM_take2 8 (i := 7) (v := ?_) rfl (by kernel_rfl) (by kernel_rfl) (fun _ _ _ h => h) (Or.inl ⟨by rfl, ?_⟩) hR ?_; rotate_left; (focus (intro w hSw; (try dsimp only at hSw); go_simp; (try with_reducible rfl))); (try simp only [put_laws])); (refine wpAnyM_take2 8 (i := 8) (v := ?_) rfl (by kernel_rfl) (by kernel_rfl) (fun _ _ _ h => h) (Or.inl ⟨by rfl, ?_⟩) hR ?_; rotate_left; (focus (intro w hSw; (try dsimp only at hSw); go_simp; (try with_reducible rfl))); (try simp only [put_laws]))
            (refine wpAnyM_take2 8 (i := 9) (v := .bool false) rfl (by kernel_rfl) (by kernel_rfl) (fun _ _ _ h => h) (Or.inl ⟨by rfl, ?_⟩) hR ?_; (focus (intro w hSw; (try dsimp only at hSw); go_simp; (try simp [*]); (try omega))); (try simp only [put_laws]))
            (refine wpAnyM_take2 8 (i := 10) (v := ?_) rfl (by kernel_rfl) (by kernel_rfl) (fun _ _ _ h => h) (Or.inl ⟨by rfl, ?_⟩) hR ?_; rotate_left; (focus (intro w hSw; (try dsimp only at hSw); go_simp; (try with_reducible rfl))); (try simp only [put_laws])); (refine wpAnyM_take2 8 (i := 11) (v := ?_) rfl (by kernel_rfl) (by kernel_rfl) (fun _ _ _ h => h) (Or.inl ⟨by rfl, ?_⟩) hR ?_; rotate_left; (focus (intro w hSw; (try dsimp only at hSw); go_simp; (try with_reducible rfl))); (try simp only [put_laws]))
            (refine wpAnyM_take2 8 (i := 12) (v := undef) rfl (by kernel_rfl) (by kernel_rfl) (fun _ _ _ h => h) (Or.inr ⟨by rfl, rfl⟩) hR ?_; (try simp only [put_laws])); (refine wpAnyM_take2 8 (i := 13) (v := undef) rfl (by kernel_rfl) (by kernel_rfl) (fun _ _ _ h => h) (Or.inr ⟨by rfl, rfl⟩) hR ?_; (try simp only [put_laws])); (refine wpAnyM_take2 8 (i := 14) (v := undef) rfl (by kernel_rfl) (by kernel_rfl) (fun _ _ _ h => h) (Or.inr ⟨by rfl, rfl⟩) hR ?_; (try simp only [put_laws])); (refine wpAnyM_take2 8 (i := 15) (v := undef) rfl (by kernel_rfl) (by kernel_rfl) (fun _ _ _ h => h) (Or.inr ⟨by rfl, rfl⟩) hR ?_; (try simp only [put_laws])); (refine wpAnyM_take2 8 (i := 16) (v := undef) rfl (by kernel_rfl) (by kernel_rfl) (fun _ _ _ h => h) (Or.inr ⟨by rfl, rfl⟩) hR ?_; (try simp only [put_laws])); (refine wpAnyM_take2 8 (i := 17) (v := undef) rfl (by kernel_rfl) (by kernel_rfl) (fun _ _ _ h => h) (Or.inr ⟨by rfl, rfl⟩) hR ?_; (try simp only [put_laws])); (refine wpAnyM_take2 8 (i := 18) (v := undef) rfl (by kernel_rfl) (by kernel_rfl) (fun _ _ _ h => h) (Or.inr ⟨by rfl, rfl⟩) hR ?_; (try simp only [put_laws])); (refine wpAnyM_take2 8 (i := 19) (v := undef) rfl (by kernel_rfl) (by kernel_rfl) (fun _ _ _ h => h) (Or.inr ⟨by rfl, rfl⟩) hR ?_; (try simp only [put_laws])); (refine wpAnyM_take2 8 (i := 20) (v := undef) rfl (by kernel_rfl) (by kernel_rfl) (fun _ _ _ h => h) (Or.inr ⟨by rfl, rfl⟩) hR ?_; (try simp only [put_laws])); (refine wpAnyM_take2 8 (i := 21) (v := undef) rfl (by kernel_rfl) (by kernel_rfl) (fun _ _ _ h => h) (Or.inr ⟨by rfl, rfl⟩) hR ?_; (try simp only [put_laws])); (refine wpAnyM_take2 8 (i := 22) (v := undef) rfl (by kernel_rfl) (by kernel_rfl) (fun _ _ _ h => h) (Or.inr ⟨by rfl, rfl⟩) hR ?_; (try simp only [put_laws])); (refine wpAnyM_take2 8 (i := 23) (v := undef) rfl (by kernel_rfl) (by kernel_rfl) (fun _ _ _ h => h) (Or.inr ⟨by rfl, rfl⟩) hR ?_; (try simp only [put_laws])); (refine wpAnyM_take2 8 (i := 24) (v := undef) rfl (by kernel_rfl) (by kernel_rfl) (fun _ _ _ h => h) (Or.inr ⟨by rfl, rfl⟩) hR ?_; (try simp only [put_laws])); (refine wpAnyM_take2 8 (i := 25) (v := undef) rfl (by kernel_rfl) (by kernel_rfl) (fun _ _ _ h => h) (Or.inr ⟨by rfl, rfl⟩) hR ?_; (try simp only [put_laws])); (refine wpAnyM_take2 8 (i := 26) (v := undef) rfl (by kernel_rfl) (by kernel_rfl) (fun _ _ _ h => h) (Or.inr ⟨by rfl, rfl⟩) hR ?_; (try simp only [put_laws]))
            (refine wpAnyM_last rfl (by kernel_rfl) (fun K hK => ?_); rw [if_pos (by rfl)]; (try simp only [elem_laws]))
            go_simp
            refine hK _ _ ?_
            clear hK K hR
            (try simp only [put_laws])
            refine wpAnyM_done (by kernel_rfl) ?_ _
            go_wp2_with fail
            go_roundw
            case rel => exact ⟨j + 1, by omega, by go_num, HBW.out⟩
            case measure => simp [intOf]; omega
        · obtain rfl : j = n := by omega
          have t0 := (HTJ.out).cell (j := 0) rfl
          have t1 := (HTJ.out).cell (j := 1) rfl
          go_wp2_with fail
          refine (H3.out _ HBJ.out).mono ?_
          rintro e wA ⟨rA, rfl, fA, hb⟩
          have HBA : Hid (Below w.heap.size w wA) := show Below _ _ _ from HBJ.out.trans (hb.mono HBJ.out.size)
          have HTA : Hid (Blk wA w.heap.size 55 #[.int .i64 n2, .int .i64 m2]) := show Blk _ _ _ _ from HTJ.out.below hb HTJ.out.lt
          have FA := Lib.hid fA
          clear hb fA t0 t1
          have t0 := (HTA.out).cell (j := 0) rfl
          have t1 := (HTA.out).cell (j := 1) rfl
          go_wp2_with fail
          refine (H4.out _ _ FA.out).mono ?_
          rintro e wB ⟨rB, rfl, fB, hb⟩
          have HBB : Hid (Below w.heap.size w wB) := show Below _ _ _ from HBA.out.trans (hb.mono HBA.out.size)
          have HTB : Hid (Blk wB w.heap.size 55 #[.int .i64 n2, .int .i64 m2]) := show Blk _ _ _ _ from HTA.out.below hb HTA.out.lt
          have FB1 := Lib.hid fB
          clear hb fB t0 t1
          have t0 := (HTB.out).cell (j := 0) rfl
          have t1 := (HTB.out).cell (j := 1) rfl
          go_wp2_with fail
          refine (H5.out _ HBB.out).mono ?_
          rintro e wC ⟨rC, rfl, fC, hb⟩
          have HBC : Hid (Below w.heap.size w wC) := show Below _ _ _ from HBB.out.trans (hb.mono HBB.out.size)
          have HTC : Hid (Blk wC w.heap.size 55 #[.int .i64 n2, .int .i64 m2]) := show Blk _ _ _ _ from HTB.out.below hb HTB.out.lt
          have FB2 := Lib.hid (FB1.out.below hb)
          have FC := Lib.hid fC
          clear hb fC t0 t1
          have t0 := (HTC.out).cell (j := 0) rfl
          have t1 := (HTC.out).cell (j := 1) rfl
          by_cases q2 : e2 = 0
          · by_cases q3 : e3 = 0
            · by_cases q4 : m2 ≤ n2
              · obtain ⟨q5, q6⟩ := HC1.out q2 q3 q4
                have c1 := conv_sl FB2.out.sl
                have c2 := conv_sl FC.out.sl
                rw [q6] at c1
                obtain ⟨s0, hs0⟩ : ∃ s, strOf (outC xs m2) = s := ⟨_, rfl⟩
                rw [hs0] at c1 c2
                have k1 := HS.out s0
                have q7 : ¬ n2 < m2 := by omega
                subst q2
                subst q3
                subst q5
                clear hs0 q6 q4
                go_wp2_with (go_at_call 17; refine (HN.out _ _).mono ?_; rintro e w' ⟨rfl, rfl⟩)
                refine (HK.out _).mono ?_
                rintro e wD ⟨rfl, hb⟩
                have HBD : Hid (Below w.heap.size w wD) := show Below _ _ _ from HBC.out.trans (hb.mono HBC.out.size)
                clear hb
                go_wp2_with fail
                go_ret
                exact ⟨rfl, HBD.out⟩
              · have q7 : n2 < m2 := by omega
                subst q2
                subst q3
                clear q4
                go_wp2_with (go_at_call 17; refine (HN.out _ _).mono ?_; rintro e w' ⟨rfl, rfl⟩)
                refine (HK.out _).mono ?_
                rintro e wD ⟨rfl, hb⟩
                have HBD : Hid (Below w.heap.size w wD) := show Below _ _ _ from HBC.out.trans (hb.mono HBC.out.size)
                clear hb
                go_wp2_with fail
                go_ret
                exact ⟨rfl, HBD.out⟩
            · have q7 : (e3 != 0) = true := by rw [bne_iff_ne]; exact q3
              subst q2
              clear q3
              go_wp2_with (go_at_call 17; refine (HN.out _ _).mono ?_; rintro e w' ⟨rfl, rfl⟩)
              refine (HK.out _).mono ?_
              rintro e wD ⟨rfl, hb⟩
              have HBD : Hid (Below w.heap.size w wD) := show Below _ _ _ from HBC.out.trans (hb.mono HBC.out.size)
              clear hb
              go_wp2_with fail
              go_ret
              exact ⟨rfl, HBD.out⟩
          · have q7 : (e2 != 0) = true := by rw [bne_iff_ne]; exact q2
            clear q2
            go_wp2_with (go_at_call 17; refine (HN.out _ _).mono ?_; rintro e w' ⟨rfl, rfl⟩)
            refine (HK.out _).mono ?_
            rintro e wD ⟨rfl, hb⟩
            have HBD : Hid (Below w.heap.size w wD) := show Below _ _ _ from HBC.out.trans (hb.mono HBC.out.size)
            clear hb
            go_wp2_with fail
            go_ret
            exact ⟨rfl, HBD.out⟩
    · have g3 : 0 < (k : Int) := by omega
      have g4 : ((k : Int) == 0) = false := by rw [beq_eq_false_iff_ne]; omega
      have hLm := HQ3.out (by omega)
      have hif : (if n < A then (A : Int) else (n : Int)) = (L : Int) := by have := HA.out; split <;> omega
      have hne : ((L : Int) != (L : Int)) = false := by simp
      clear hLm d3 d4
      go_wp2_with (go_at_call 17; refine (HN.out _ _).mono ?_; rintro e w' ⟨rfl, rfl⟩)
      go_loopw [13] (fun i wr => ∃ j : Nat, j ≤ n ∧ i = .int .i64 j ∧ Below w2.heap.size w2 wr) (fun i _ => n - (intOf i).toNat)
      case atStart => exact ⟨0, Nat.zero_le _, rfl, Below.refl _ _⟩
      case round =>
        obtain ⟨j, hj, rfl, hb⟩ := hrel
        have HBJ : Hid (Below w.heap.size w wr) := show Below _ _ _ from HB2.out.trans (hb.mono HB2.out.size)
        have HTJ : Hid (Blk wr w.heap.size 55 #[.int .i64 n2, .int .i64 m2]) := show Blk _ _ _ _ from HT2.out.below hb HT2.out.lt
        have HBW : Hid (Below w2.heap.size w2 wr.drew) := show Below _ _ _ from Below.drew hb
        by_cases hlt : j < n
        · have hjn : (j : Int) < (n : Int) := by omega
          by_cases hin : (j : Int) < (P : Int) ∨ (P : Int) + k ≤ j
          · obtain ⟨hjL, hcell⟩ := HQ5.out j hlt hin
            obtain ⟨ax, cx, bx, ox, hxe, -, hxa, hxc⟩ := (F2.out.below hb).sl.cell
            rw [HL.out] at hxe hxa hxc
            obtain ⟨av, cv, bv, ov, hve, -, hva, hvc⟩ := (HV.out.below HBJ.out).sl.cell
            rw [HLN.out.1] at hve hva hvc
            simp only [Value.slice.injEq] at hxe hve
            obtain ⟨rfl, -, rfl⟩ := hxe
            obtain ⟨rfl, -, rfl⟩ := hve
            obtain rfl := hxa (by omega)
            obtain rfl := hva (by omega)
            have cX : wr.drew.cell? ⟨bx, ox + j, none⟩ = some (.int .u8 ((outW xs P ds)[j]?.getD 0 : Nat)) := (hxc (by omega)).2 j (by omega)
            have cV : wr.drew.cell? ⟨bv, ov + j, none⟩ = some (.int .u8 (xs[j]?.getD 0 : Nat)) := (hvc (by omega)).2 j hlt
            rw [hcell] at cX
            obtain ⟨z, hz⟩ : ∃ z, xs[j]?.getD 0 = z := ⟨_, rfl⟩
            rw [hz] at cX cV
            have hR : (fun W : World => W.cell? ⟨bx, ox + j, none⟩ = some (.int .u8 (z : Nat)) ∧ W.cell? ⟨bv, ov + j, none⟩ = some (.int .u8 (z : Nat))) wr.drew := ⟨cX, cV⟩
            have hjL' : ¬ (L : Int) ≤ (j : Int) := by omega
            have hzz : ((z : Int) != (z : Int)) = false := by simp
            clear hcell hxc hvc hxa hva hz cX cV
            by_cases hjp : (j : Int) < (P : Int)
            · clear hin
              go_wp2_with fail
              refine wp_region_M 27 (fun W : World => (W.cell? ⟨bx, ox + j, none⟩ = some (.int .u8 (z : Nat)) ∧ W.cell? ⟨bv, ov + j, none⟩ = some (.int .u8 (z : Nat)))) (by kernel_rfl) ?_
              (refine wpAnyM_take2 8 (i := 0) (v := ?_) rfl (by kernel_rfl) (by kernel_rfl) (fun _ _ _ h => h) (Or.inl ⟨by rfl, ?_⟩) hR ?_; rotate_left; (focus (intro w hSw; (try dsimp only at hSw); go_simp; (try with_reducible rfl))); (try simp only [put_laws])); (refine wpAnyM_take2 8 (i := 1) (v := ?_) rfl (by kernel_rfl) (by kernel_rfl) (fun _ _ _ h => h) (Or.inl ⟨by rfl, ?_⟩) hR ?_; rotate_left; (focus (intro w hSw; (try dsimp only at hSw); go_simp; (try with_reducible rfl))); (try simp only [put_laws]))
              (refine wpAnyM_take2 8 (i := 2) (v := .bool true) rfl (by kernel_rfl) (by kernel_rfl) (fun _ _ _ h => h) (Or.inl ⟨by rfl, ?_⟩) hR ?_; (focus (intro w hSw; (try dsimp only at hSw); go_simp; (try simp [*]); (try omega))); (try simp only [put_laws]))
              (refine wpAnyM_take2 8 (i := 3) (v := ?_) rfl (by kernel_rfl) (by kernel_rfl) (fun _ _ _ h => h) (Or.inl ⟨by rfl, ?_⟩) hR ?_; rotate_left; (focus (intro w hSw; (try dsimp only at hSw); go_simp; (try with_reducible rfl))); (try simp only [put_laws]))
              (refine wpAnyM_take2 8 (i := 4) (v := undef) rfl (by kernel_rfl) (by kernel_rfl) (fun _ _ _ h => h) (Or.inr ⟨by rfl, rfl⟩) hR ?_; (try simp only [put_laws])); (refine wpAnyM_take2 8 (i := 5) (v := undef) rfl (by kernel_rfl) (by kernel_rfl) (fun _ _ _ h => h) (Or.inr ⟨by rfl, rfl⟩) hR ?_; (try simp only [put_laws])); (refine wpAnyM_take2 8 (i := 6) (v := undef) rfl (by kernel_rfl) (by kernel_rfl) (fun _ _ _ h => h) (Or.inr ⟨by rfl, rfl⟩) hR ?_; (try simp only [put_laws])); (refine wpAnyM_take2 8 (i := 7) (v := undef) rfl (by kernel_rfl) (by kernel_rfl) (fun _ _ _ h => h) (Or.inr ⟨by rfl, rfl⟩) hR ?_; (try simp only [put_laws])); (refine wpAnyM_take2 8 (i := 8) (v := undef) rfl (by kernel_rfl) (by kernel_rfl) (fun _ _ _ h => h) (Or.inr ⟨by rfl, rfl⟩) hR ?_; (try simp only [put_laws])); (refine wpAnyM_take2 8 (i := 9) (v := undef) rfl (by kernel_rfl) (by kernel_rfl) (fun _ _ _ h => h) (Or.inr ⟨by rfl, rfl⟩) hR ?_; (try simp only [put_laws]))
              (refine wpAnyM_take2 8 (i := 10) (v := ?_) rfl (by kernel_rfl) (by kernel_rfl) (fun _ _ _ h => h) (Or.inl ⟨by rfl, ?_⟩) hR ?_; rotate_left; (focus (intro w hSw; (try dsimp only at hSw); go_simp; (try with_reducible rfl))); (try simp only [put_laws])); (refine wpAnyM_take2 8 (i := 11) (v := ?_) rfl (by kernel_rfl) (by kernel_rfl) (fun _ _ _ h => h) (Or.inl ⟨by rfl, ?_⟩) hR ?_; rotate_left; (focus (intro w hSw; (try dsimp only at hSw); go_simp; (try with_reducible rfl))); (try simp only [put_laws]))
              (refine wpAnyM_take2 8 (i := 12) (v := ?_) rfl (by kernel_rfl) (by kernel_rfl) (fun _ _ _ h => h) (Or.inl ⟨by rfl, ?_⟩) hR ?_; rotate_left; (focus (intro w hSw; (try dsimp only at hSw); go_simp; (try with_reducible rfl))); (try simp only [put_laws])); (refine wpAnyM_take2 8 (i := 13) (v := ?_) rfl (by kernel_rfl) (by kernel_rfl) (fun _ _ _ h => h) (Or.inl ⟨by rfl, ?_⟩) hR ?_; rotate_left; (focus (intro w hSw; (try dsimp only at hSw); go_simp; (try with_reducible rfl))); (try simp only [put_laws])); (refine wpAnyM_take2 8 (i := 14) (v := ?_) rfl (by kernel_rfl) (by kernel_rfl) (fun _ _ _ h => h) (Or.inl ⟨by rfl, ?_⟩) hR ?_; rotate_left; (focus (intro w hSw; (try dsimp only at hSw); go_simp; (try with_reducible rfl))); (try simp only [put_laws]))
              (refine wpAnyM_take2 8 (i := 15) (v := .bool false) rfl (by kernel_rfl) (by kernel_rfl) (fun _ _ _ h => h) (Or.inl ⟨by rfl, ?_⟩) hR ?_; (focus (intro w hSw; (try dsimp only at hSw); go_simp; (try simp [*]); (try omega))); (try simp only [put_laws]))
              (refine wpAnyM_take2 8 (i := 16) (v := ?_) rfl (by kernel_rfl) (by kernel_rfl) (fun _ _ _ h => h) (Or.inl ⟨by rfl, ?_⟩) hR ?_; rotate_left; (focus (intro w hSw; (try dsimp only at hSw); go_simp; (try with_reducible rfl))); (try simp only [put_laws])); (refine wpAnyM_take2 8 (i := 17) (v := ?_) rfl (by kernel_rfl) (by kernel_rfl) (fun _ _ _ h => h) (Or.inl ⟨by rfl, ?_⟩) hR ?_; rotate_left; (focus (intro w hSw; (try dsimp only at hSw); go_simp; (try with_reducible rfl))); (try simp only [put_laws])); (refine wpAnyM_take2 8 (i := 18) (v := ?_) rfl (by kernel_rfl) (by kernel_rfl) (fun _ _ _ h => h) (Or.inl ⟨by rfl, ?_⟩) hR ?_; rotate_left; (focus (intro w hSw; (try dsimp only at hSw); go_simp; (try with_reducible rfl))); (try simp only [put_laws])); (refine wpAnyM_take2 8 (i := 19) (v := ?_) rfl (by kernel_rfl) (by kernel_rfl) (fun _ _ _ h => h) (Or.inl ⟨by rfl, ?_⟩) hR ?_; rotate_left; (focus (intro w hSw; (try dsimp only at hSw); go_simp; (try with_reducible rfl))); (try simp only [put_laws])); (refine wpAnyM_take2 8 (i := 20) (v := ?_) rfl (by kernel_rfl) (by kernel_rfl) (fun _ _ _ h => h) (Or.inl ⟨by rfl, ?_⟩) hR ?_; rotate_left; (focus (intro w hSw; (try dsimp only at hSw); go_simp; (try with_reducible rfl))); (try simp only [put_laws])); (refine wpAnyM_take2 8 (i := 21) (v := ?_) rfl (by kernel_rfl) (by kernel_rfl) (fun _ _ _ h => h) (Or.inl ⟨by rfl, ?_⟩) hR ?_; rotate_left; (focus (intro w hSw; (try dsimp only at hSw); go_simp; (try with_reducible rfl))); (try simp only [put_laws])); (refine wpAnyM_take2 8 (i := 22) (v := ?_) rfl (by kernel_rfl) (by kernel_rfl) (fun _ _ _ h => h) (Or.inl ⟨by rfl, ?_⟩) hR ?_; rotate_left; (focus (intro w hSw; (try dsimp only at hSw); go_simp; (try with_reducible rfl))); (try simp only [put_laws])); (refine wpAnyM_take2 8 (i := 23) (v := ?_) rfl (by kernel_rfl) (by kernel_rfl) (fun _ _ _ h => h) (Or.inl ⟨by rfl, ?_⟩) hR ?_; rotate_left; (focus (intro w hSw; (try dsimp only at hSw); go_simp; (try with_reducible rfl))); (try simp only [put_laws])); (refine wpAnyM_take2 8 (i := 24) (v := ?_) rfl (by kernel_rfl) (by kernel_rfl) (fun _ _ _ h => h) (Or.inl ⟨by rfl, ?_⟩) hR ?_; rotate_left; (focus (intro w hSw; (try dsimp only at hSw); go_simp; (try with_reducible rfl))); (try simp only [put_laws]))
              (refine wpAnyM_take2 8 (i := 25) (v := .bool false) rfl (by kernel_rfl) (by kernel_rfl) (fun _ _ _ h => h) (Or.inl ⟨by rfl, ?_⟩) hR ?_; (focus (intro w hSw; (try dsimp only at hSw); go_simp; (try simp [*]); (try omega))); (try simp only [put_laws]))
              (refine wpAnyM_take2 8 (i := 26) (v := ?_) rfl (by kernel_rfl) (by kernel_rfl) (fun _ _ _ h => h) (Or.inl ⟨by rfl, ?_⟩) hR ?_; rotate_left; (focus (intro w hSw; (try dsimp only at hSw); go_simp; (try with_reducible rfl))); (try simp only [put_laws]))
              (refine wpAnyM_last rfl (by kernel_rfl) (fun K hK => ?_); rw [if_pos (by rfl)]; (try simp only [elem_laws]))
              go_simp
              refine hK _ _ ?_
              clear hK K hR
              (try simp only [put_laws])
              refine wpAnyM_done (by kernel_rfl) ?_ _
              go_wp2_with fail
              go_roundw
              case rel => exact ⟨j + 1, by omega, by go_num, HBW.out⟩
              case measure => simp [intOf]; omega
            · have hjk : (k : Int) ≤ ((j - P : Nat) : Int) := by omega
              have hw4 : IntKind.i64.wrap ((j : Int) - (P : Int)) = ((j - P : Nat) : Int) := by rw [IntWalk.i64_in _ (by omega)]; omega
              clear hin
              go_wp2_with fail
              refine wp_region_M 27 (fun W : World => (W.cell? ⟨bx, ox + j, none⟩ = some (.int .u8 (z : Nat)) ∧ W.cell? ⟨bv, ov + j, none⟩ = some (.int .u8 (z : Nat)))) (by kernel_rfl) ?_
              (refine wpAnyM_take2 8 (i := 0) (v := ?_) rfl (by kernel_rfl) (by kernel_rfl) (fun _ _ _ h => h) (Or.inl ⟨by rfl, ?_⟩) hR ?_; rotate_left; (focus (intro w hSw; (try dsimp only at hSw); go_simp; (try with_reducible rfl))); (try simp only [put_laws])); (refine wpAnyM_take2 8 (i := 1) (v := ?_) rfl (by kernel_rfl) (by kernel_rfl) (fun _ _ _ h => h) (Or.inl ⟨by rfl, ?_⟩) hR ?_; rotate_left; (focus (intro w hSw; (try dsimp only at hSw); go_simp; (try with_reducible rfl))); (try simp only [put_laws]))
              (refine wpAnyM_take2 8 (i := 2) (v := .bool false) rfl (by kernel_rfl) (by kernel_rfl) (fun _ _ _ h => h) (Or.inl ⟨by rfl, ?_⟩) hR ?_; (focus (intro w hSw; (try dsimp only at hSw); go_simp; (try simp [*]); (try omega))); (try simp only [put_laws]))
              (refine wpAnyM_take2 8 (i := 3) (v := ?_) rfl (by kernel_rfl) (by kernel_rfl) (fun _ _ _ h => h) (Or.inl ⟨by rfl, ?_⟩) hR ?_; rotate_left; (focus (intro w hSw; (try dsimp only at hSw); go_simp; (try with_reducible rfl))); (try simp only [put_laws]))
              (refine wpAnyM_take2 8 (i := 4) (v := ?_) rfl (by kernel_rfl) (by kernel_rfl) (fun _ _ _ h => h) (Or.inl ⟨by rfl, ?_⟩) hR ?_; rotate_left; (focus (intro w hSw; (try dsimp only at hSw); go_simp; (try with_reducible rfl))); (try simp only [put_laws])); (refine wpAnyM_take2 8 (i := 5) (v := ?_) rfl (by kernel_rfl) (by kernel_rfl) (fun _ _ _ h => h) (Or.inl ⟨by rfl, ?_⟩) hR ?_; rotate_left; (focus (intro w hSw; (try dsimp only at hSw); go_simp; (try with_reducible rfl))); (try simp only [put_laws]))
              (refine wpAnyM_take2 8 (i := 6) (v := ?_) rfl (by kernel_rfl) (by kernel_rfl) (fun _ _ _ h => h) (Or.inl ⟨by rfl, ?_⟩) hR ?_; rotate_left; (focus (intro w hSw; (try dsimp only at hSw); go_simp; (try with_reducible rfl))); (try simp only [put_laws]))
              (refine wpAnyM_take2 8 (i := 7) (v := ?_) rfl (by kernel_rfl) (by kernel_rfl) (fun _ _ _ h => h) (Or.inl ⟨by rfl, ?_⟩) hR ?_; rotate_left; (focus (intro w hSw; (try dsimp only at hSw); go_simp; (try with_reducible rfl))); (try simp only [put_laws])); (refine wpAnyM_take2 8 (i := 8) (v := ?_) rfl (by kernel_rfl) (by kernel_rfl) (fun _ _ _ h => h) (Or.inl ⟨by rfl, ?_⟩) hR ?_; rotate_left; (focus (intro w hSw; (try dsimp only at hSw); go_simp; (try with_reducible rfl))); (try simp only [put_laws]))
              (refine wpAnyM_take2 8 (i := 9) (v := .bool true) rfl (by kernel_rfl) (by kernel_rfl) (fun _ _ _ h => h) (Or.inl ⟨by rfl, ?_⟩) hR ?_; (focus (intro w hSw; (try dsimp only at hSw); go_simp; (try simp [*]); (try omega))); (try simp only [put_laws]))
              (refine wpAnyM_take2 8 (i := 10) (v := ?_) rfl (by kernel_rfl) (by kernel_rfl) (fun _ _ _ h => h) (Or.inl ⟨by rfl, ?_⟩) hR ?_; rotate_left; (focus (intro w hSw; (try dsimp only at hSw); go_simp; (try with_reducible rfl))); (try simp only [put_laws])); (refine wpAnyM_take2 8 (i := 11) (v := ?_) rfl (by kernel_rfl) (by kernel_rfl) (fun _ _ _ h => h) (Or.inl ⟨by rfl, ?_⟩) hR ?_; rotate_left; (focus (intro w hSw; (try dsimp only at hSw); go_simp; (try with_reducible rfl))); (try simp only [put_laws]))
              (refine wpAnyM_take2 8 (i := 12) (v := ?_) rfl (by kernel_rfl) (by kernel_rfl) (fun _ _ _ h => h) (Or.inl ⟨by rfl, ?_⟩) hR ?_; rotate_left; (focus (intro w hSw; (try dsimp only at hSw); go_simp; (try with_reducible rfl))); (try simp only [put_laws])); (refine wpAnyM_take2 8 (i := 13) (v := ?_) rfl (by kernel_rfl) (by kernel_rfl) (fun _ _ _ h => h) (Or.inl ⟨by rfl, ?_⟩) hR ?_; rotate_left; (focus (intro w hSw; (try dsimp only at hSw); go_simp; (try with_reducible rfl))); (try simp only [put_laws])); (refine wpAnyM_take2 8 (i := 14) (v := ?_) rfl (by kernel_rfl) (by kernel_rfl) (fun _ _ _ h => h) (Or.inl ⟨by rfl, ?_⟩) hR ?_; rotate_left; (focus (intro w hSw; (try dsimp only at hSw); go_simp; (try with_reducible rfl))); (try simp only [put_laws]))
              (refine wpAnyM_take2 8 (i := 15) (v := .bool false) rfl (by kernel_rfl) (by kernel_rfl) (fun _ _ _ h => h) (Or.inl ⟨by rfl, ?_⟩) hR ?_; (focus (intro w hSw; (try dsimp only at hSw); go_simp; (try simp [*]); (try omega))); (try simp only [put_laws]))
              (refine wpAnyM_take2 8 (i := 16) (v := ?_) rfl (by kernel_rfl) (by kernel_rfl) (fun _ _ _ h => h) (Or.inl ⟨by rfl, ?_⟩) hR ?_; rotate_left; (focus (intro w hSw; (try dsimp only at hSw); go_simp; (try with_reducible rfl))); (try simp only [put_laws])); (refine wpAnyM_take2 8 (i := 17) (v := ?_) rfl (by kernel_rfl) (by kernel_rfl) (fun _ _ _ h => h) (Or.inl ⟨by rfl, ?_⟩) hR ?_; rotate_left; (focus (intro w hSw; (try dsimp only at hSw); go_simp; (try with_reducible rfl))); (try simp only [put_laws])); (refine wpAnyM_take2 8 (i := 18) (v := ?_) rfl (by kernel_rfl) (by kernel_rfl) (fun _ _ _ h => h) (Or.inl ⟨by rfl, ?_⟩) hR ?_; rotate_left; (focus (intro w hSw; (try dsimp only at hSw); go_simp; (try with_reducible rfl))); (try simp only [put_laws])); (refine wpAnyM_take2 8 (i := 19) (v := ?_) rfl (by kernel_rfl) (by kernel_rfl) (fun _ _ _ h => h) (Or.inl ⟨by rfl, ?_⟩) hR ?_; rotate_left; (focus (intro w hSw; (try dsimp only at hSw); go_simp; (try with_reducible rfl))); (try simp only [put_laws])); (refine wpAnyM_take2 8 (i := 20) (v := ?_) rfl (by kernel_rfl) (by kernel_rfl) (fun _ _ _ h => h) (Or.inl ⟨by rfl, ?_⟩) hR ?_; rotate_left; (focus (intro w hSw; (try dsimp only at hSw); go_simp; (try with_reducible rfl))); (try simp only [put_laws])); (refine wpAnyM_take2 8 (i := 21) (v := ?_) rfl (by kernel_rfl) (by kernel_rfl) (fun _ _ _ h => h) (Or.inl ⟨by rfl, ?_⟩) hR ?_; rotate_left; (focus (intro w hSw; (try dsimp only at hSw); go_simp; (try with_reducible rfl))); (try simp only [put_laws])); (refine wpAnyM_take2 8 (i := 22) (v := ?_) rfl (by kernel_rfl) (by kernel_rfl) (fun _ _ _ h => h) (Or.inl ⟨by rfl, ?_⟩) hR ?_; rotate_left; (focus (intro w hSw; (try dsimp only at hSw); go_simp; (try with_reducible rfl))); (try simp only [put_laws])); (refine wpAnyM_take2 8 (i := 23) (v := ?_) rfl (by kernel_rfl) (by kernel_rfl) (fun _ _ _ h => h) (Or.inl ⟨by rfl, ?_⟩) hR ?_; rotate_left; (focus (intro w hSw; (try dsimp only at hSw); go_simp; (try with_reducible rfl))); (try simp only [put_laws])); (refine wpAnyM_take2 8 (i := 24) (v := ?_) rfl (by kernel_rfl) (by kernel_rfl) (fun _ _ _ h => h) (Or.inl ⟨by rfl, ?_⟩) hR ?_; rotate_left; (focus (intro w hSw; (try dsimp only at hSw); go_simp; (try with_reducible rfl))); (try simp only [put_laws]))
              (refine wpAnyM_take2 8 (i := 25) (v := .bool false) rfl (by kernel_rfl) (by kernel_rfl) (fun _ _ _ h => h) (Or.inl ⟨by rfl, ?_⟩) hR ?_; (focus (intro w hSw; (try dsimp only at hSw); go_simp; (try simp [*]); (try omega))); (try simp only [put_laws]))
              (refine wpAnyM_take2 8 (i := 26) (v := ?_) rfl (by kernel_rfl) (by kernel_rfl) (fun _ _ _ h => h) (Or.inl ⟨by rfl, ?_⟩) hR ?_; rotate_left; (focus (intro w hSw; (try dsimp only at hSw); go_simp; (try with_reducible rfl))); (try simp only [put_laws]))
              (refine wpAnyM_last rfl (by kernel_rfl) (fun K hK => ?_); rw [if_pos (by rfl)]; (try simp only [elem_laws]))
              go_simp
              refine hK _ _ ?_
              clear hK K hR
              (try simp only [put_laws])
              refine wpAnyM_done (by kernel_rfl) ?_ _
              go_wp2_with fail
              go_roundw
              case rel => exact ⟨j + 1, by omega, by go_num, HBW.out⟩
              case measure => simp [intOf]; omega
          · have hjp : ¬ (j : Int) < (P : Int) := by omega
            have hjk : ¬ (k : Int) ≤ ((j - P : Nat) : Int) := by omega
            have hw4 : IntKind.i64.wrap ((j : Int) - (P : Int)) = ((j - P : Nat) : Int) := by rw [IntWalk.i64_in _ (by omega)]; omega
            have hR : (fun _ : World => True) wr.drew := trivial
            clear hin
            go_wp2_with fail
            refine wp_region_M 27 (fun _ : World => True) (by kernel_rfl) ?_
            (refine wpAnyM_take2 8 (i := 0) (v := ?_) rfl (by kernel_rfl) (by kernel_rfl) (fun _ _ _ h => h) (Or.inl ⟨by rfl, ?_⟩) hR ?_; rotate_left; (focus (intro w hSw; (try dsimp only at hSw); go_simp; (try with_reducible rfl))); (try simp only [put_laws])); (refine wpAnyM_take2 8 (i := 1) (v := ?_) rfl (by kernel_rfl) (by kernel_rfl) (fun _ _ _ h => h) (Or.inl ⟨by rfl, ?_⟩) hR ?_; rotate_left; (focus (intro w hSw; (try dsimp only at hSw); go_simp; (try with_reducible rfl))); (try simp only [put_laws]))
            (refine wpAnyM_take2 8 (i := 2) (v := .bool false) rfl (by kernel_rfl) (by kernel_rfl) (fun _ _ _ h => h) (Or.inl ⟨by rfl, ?_⟩) hR ?_; (focus (intro w hSw; (try dsimp only at hSw); go_simp; (try simp [*]); (try omega))); (try simp only [put_laws]))
            (refine wpAnyM_take2 8 (i := 3) (v := ?_) rfl (by kernel_rfl) (by kernel_rfl) (fun _ _ _ h => h) (Or.inl ⟨by rfl, ?_⟩) hR ?_; rotate_left; (focus (intro w hSw; (try dsimp only at hSw); go_simp; (try with_reducible rfl))); (try simp only [put_laws])); (refine wpAnyM_take2 8 (i := 4) (v := ?_) rfl (by kernel_rfl) (by kernel_rfl) (fun _ _ _ h => h) (Or.inl ⟨by rfl, ?_⟩) hR ?_; rotate_left; (focus (intro w hSw; (try dsimp only at hSw); go_simp; (try with_reducible rfl))); (try simp only [put_laws])); (refine wpAnyM_take2 8 (i := 5) (v := ?_) rfl (by kernel_rfl) (by kernel_rfl) (fun _ _ _ h => h) (Or.inl ⟨by rfl, ?_⟩) hR ?_; rotate_left; (focus (intro w hSw; (try dsimp only at hSw); go_simp; (try with_reducible rfl))); (try simp only [put_laws])); (refine wpAnyM_take2 8 (i := 6) (v := ?_) rfl (by kernel_rfl) (by kernel_rfl) (fun _ _ _ h => h) (Or.inl ⟨by rfl, ?_⟩) hR ?_; rotate_left; (focus (intro w hSw; (try dsimp only at hSw); go_simp; (try with_reducible rfl))); (try simp only [put_laws])); (refine wpAnyM_take2 8 (i := 7) (v := ?_) rfl (by kernel_rfl) (by kernel_rfl) (fun _ _ _ h => h) (Or.inl ⟨by rfl, ?_⟩) hR ?_; rotate_left; (focus (intro w hSw; (try dsimp only at hSw); go_simp; (try with_reducible rfl))); (try simp only [put_laws])); (refine wpAnyM_take2 8 (i := 8) (v := ?_) rfl (by kernel_rfl) (by kernel_rfl) (fun _ _ _ h => h) (Or.inl ⟨by rfl, ?_⟩) hR ?_; rotate_left; (focus (intro w hSw; (try dsimp only at hSw); go_simp; (try with_reducible rfl))); (try simp only [put_laws]))
            (refine wpAnyM_take2 8 (i := 9) (v := .bool false) rfl (by kernel_rfl) (by kernel_rfl) (fun _ _ _ h => h) (Or.inl ⟨by rfl, ?_⟩) hR ?_; (focus (intro w hSw; (try dsimp only at hSw); go_simp; (try simp [*]); (try omega))); (try simp only [put_laws]))
            (refine wpAnyM_take2 8 (i := 10) (v := ?_) rfl (by kernel_rfl) (by kernel_rfl) (fun _ _ _ h => h) (Or.inl ⟨by rfl, ?_⟩) hR ?_; rotate_left; (focus (intro w hSw; (try dsimp only at hSw); go_simp; (try with_reducible rfl))); (try simp only [put_laws])); (refine wpAnyM_take2 8 (i := 11) (v := ?_) rfl (by kernel_rfl) (by kernel_rfl) (fun _ _ _ h => h) (Or.inl ⟨by rfl, ?_⟩) hR ?_; rotate_left; (focus (intro w hSw; (try dsimp only at hSw); go_simp; (try with_reducible rfl))); (try simp only [put_laws]))
            (refine wpAnyM_take2 8 (i := 12) (v := undef) rfl (by kernel_rfl) (by kernel_rfl) (fun _ _ _ h => h) (Or.inr ⟨by rfl, rfl⟩) hR ?_; (try simp only [put_laws])); (refine wpAnyM_take2 8 (i := 13) (v := undef) rfl (by kernel_rfl) (by kernel_rfl) (fun _ _ _ h => h) (Or.inr ⟨by rfl, rfl⟩) hR ?_; (try simp only [put_laws])); (refine wpAnyM_take2 8 (i := 14) (v := undef) rfl (by kernel_rfl) (by kernel_rfl) (fun _ _ _ h => h) (Or.inr ⟨by rfl, rfl⟩) hR ?_; (try simp only [put_laws])); (refine wpAnyM_take2 8 (i := 15) (v := undef) rfl (by kernel_rfl) (by kernel_rfl) (fun _ _ _ h => h) (Or.inr ⟨by rfl, rfl⟩) hR ?_; (try simp only [put_laws])); (refine wpAnyM_take2 8 (i := 16) (v := undef) rfl (by kernel_rfl) (by kernel_rfl) (fun _ _ _ h => h) (Or.inr ⟨by rfl, rfl⟩) hR ?_; (try simp only [put_laws])); (refine wpAnyM_take2 8 (i := 17) (v := undef) rfl (by kernel_rfl) (by kernel_rfl) (fun _ _ _ h => h) (Or.inr ⟨by rfl, rfl⟩) hR ?_; (try simp only [put_laws])); (refine wpAnyM_take2 8 (i := 18) (v := undef) rfl (by kernel_rfl) (by kernel_rfl) (fun _ _ _ h => h) (Or.inr ⟨by rfl, rfl⟩) hR ?_; (try simp only [put_laws])); (refine wpAnyM_take2 8 (i := 19) (v := undef) rfl (by kernel_rfl) (by kernel_rfl) (fun _ _ _ h => h) (Or.inr ⟨by rfl, rfl⟩) hR ?_; (try simp only [put_laws])); (refine wpAnyM_take2 8 (i := 20) (v := undef) rfl (by kernel_rfl) (by kernel_rfl) (fun _ _ _ h => h) (Or.inr ⟨by rfl, rfl⟩) hR ?_; (try simp only [put_laws])); (refine wpAnyM_take2 8 (i := 21) (v := undef) rfl (by kernel_rfl) (by kernel_rfl) (fun _ _ _ h => h) (Or.inr ⟨by rfl, rfl⟩) hR ?_; (try simp only [put_laws])); (refine wpAnyM_take2 8 (i := 22) (v := undef) rfl (by kernel_rfl) (by kernel_rfl) (fun _ _ _ h => h) (Or.inr ⟨by rfl, rfl⟩) hR ?_; (try simp only [put_laws])); (refine wpAnyM_take2 8 (i := 23) (v := undef) rfl (by kernel_rfl) (by kernel_rfl) (fun _ _ _ h => h) (Or.inr ⟨by rfl, rfl⟩) hR ?_; (try simp only [put_laws])); (refine wpAnyM_take2 8 (i := 24) (v := undef) rfl (by kernel_rfl) (by kernel_rfl) (fun _ _ _ h => h) (Or.inr ⟨by rfl, rfl⟩) hR ?_; (try simp only [put_laws])); (refine wpAnyM_take2 8 (i := 25) (v := undef) rfl (by kernel_rfl) (by kernel_rfl) (fun _ _ _ h => h) (Or.inr ⟨by rfl, rfl⟩) hR ?_; (try simp only [put_laws])); (refine wpAnyM_take2 8 (i := 26) (v := undef) rfl (by kernel_rfl) (by kernel_rfl) (fun _ _ _ h => h) (Or.inr ⟨by rfl, rfl⟩) hR ?_; (try simp only [put_laws]))
            (refine wpAnyM_last rfl (by kernel_rfl) (fun K hK => ?_); rw [if_pos (by rfl)]; (try simp only [elem_laws]))
            go_simp
            refine hK _ _ ?_
            clear hK K hR
            (try simp only [put_laws])
            refine wpAnyM_done (by kernel_rfl) ?_ _
            go_wp2_with fail
            go_roundw
            case rel => exact ⟨j + 1, by omega, by go_num, HBW.out⟩
            case measure => simp [intOf]; omega
        · obtain rfl : j = n := by omega
          have t0 := (HTJ.out).cell (j := 0) rfl
          have t1 := (HTJ.out).cell (j := 1) rfl
          go_wp2_with fail
          refine (H3.out _ HBJ.out).mono ?_
          rintro e wA ⟨rA, rfl, fA, hb⟩
          have HBA : Hid (Below w.heap.size w wA) := show Below _ _ _ from HBJ.out.trans (hb.mono HBJ.out.size)
          have HTA : Hid (Blk wA w.heap.size 55 #[.int .i64 n2, .int .i64 m2]) := show Blk _ _ _ _ from HTJ.out.below hb HTJ.out.lt
          have FA := Lib.hid fA
          clear hb fA t0 t1
          have t0 := (HTA.out).cell (j := 0) rfl
          have t1 := (HTA.out).cell (j := 1) rfl
          go_wp2_with fail
          refine (H4.out _ _ FA.out).mono ?_
          rintro e wB ⟨rB, rfl, fB, hb⟩
          have HBB : Hid (Below w.heap.size w wB) := show Below _ _ _ from HBA.out.trans (hb.mono HBA.out.size)
          have HTB : Hid (Blk wB w.heap.size 55 #[.int .i64 n2, .int .i64 m2]) := show Blk _ _ _ _ from HTA.out.below hb HTA.out.lt
          have FB1 := Lib.hid fB
          clear hb fB t0 t1
          have t0 := (HTB.out).cell (j := 0) rfl
          have t1 := (HTB.out).cell (j := 1) rfl
          go_wp2_with fail
          refine (H5.out _ HBB.out).mono ?_
          rintro e wC ⟨rC, rfl, fC, hb⟩
          have HBC : Hid (Below w.heap.size w wC) := show Below _ _ _ from HBB.out.trans (hb.mono HBB.out.size)
          have HTC : Hid (Blk wC w.heap.size 55 #[.int .i64 n2, .int .i64 m2]) := show Blk _ _ _ _ from HTB.out.below hb HTB.out.lt
          have FB2 := Lib.hid (FB1.out.below hb)
          have FC := Lib.hid fC
          clear hb fC t0 t1
          have t0 := (HTC.out).cell (j := 0) rfl
          have t1 := (HTC.out).cell (j := 1) rfl
          by_cases q2 : e2 = 0
          · by_cases q3 : e3 = 0
            · by_cases q4 : m2 ≤ n2
              · obtain ⟨q5, q6⟩ := HC1.out q2 q3 q4
                have c1 := conv_sl FB2.out.sl
                have c2 := conv_sl FC.out.sl
                rw [q6] at c1
                obtain ⟨s0, hs0⟩ : ∃ s, strOf (outC xs m2) = s := ⟨_, rfl⟩
                rw [hs0] at c1 c2
                have k1 := HS.out s0
                have q7 : ¬ n2 < m2 := by omega
                subst q2
                subst q3
                subst q5
                clear hs0 q6 q4
                go_wp2_with (go_at_call 17; refine (HN.out _ _).mono ?_; rintro e w' ⟨rfl, rfl⟩)
                refine (HK.out _).mono ?_
                rintro e wD ⟨rfl, hb⟩
                have HBD : Hid (Below w.heap.size w wD) := show Below _ _ _ from HBC.out.trans (hb.mono HBC.out.size)
                clear hb
                go_wp2_with fail
                go_ret
                exact ⟨rfl, HBD.out⟩
              · have q7 : n2 < m2 := by omega
                subst q2
                subst q3
                clear q4
                go_wp2_with (go_at_call 17; refine (HN.out _ _).mono ?_; rintro e w' ⟨rfl, rfl⟩)
                refine (HK.out _).mono ?_
                rintro e wD ⟨rfl, hb⟩
                have HBD : Hid (Below w.heap.size w wD) := show Below _ _ _ from HBC.out.trans (hb.mono HBC.out.size)
                clear hb
                go_wp2_with fail
                go_ret
                exact ⟨rfl, HBD.out⟩
            · have q7 : (e3 != 0) = true := by rw [bne_iff_ne]; exact q3
              subst q2
              clear q3
              go_wp2_with (go_at_call 17; refine (HN.out _ _).mono ?_; rintro e w' ⟨rfl, rfl⟩)
              refine (HK.out _).mono ?_
              rintro e wD ⟨rfl, hb⟩
              have HBD : Hid (Below w.heap.size w wD) := show Below _ _ _ from HBC.out.trans (hb.mono HBC.out.size)
              clear hb
              go_wp2_with fail
              go_ret
              exact ⟨rfl, HBD.out⟩
          · have q7 : (e2 != 0) = true := by rw [bne_iff_ne]; exact q2
            clear q2
            go_wp2_with (go_at_call 17; refine (HN.out _ _).mono ?_; rintro e w' ⟨rfl, rfl⟩)
            refine (HK.out _).mono ?_
            rintro e wD ⟨rfl, hb⟩
            have HBD : Hid (Below w.heap.size w wD) := show Below _ _ _ from HBC.out.trans (hb.mono HBC.out.size)
            clear hb
            go_wp2_with fail
            go_ret
            exact ⟨rfl, HBD.out⟩
  · have hne : (e1 == 0) = false := by rw [beq_eq_false_iff_ne]; exact h1
    clear HW1 H1 H2
    have t0 := (HT1.out).cell (j := 0) rfl
    have t1 := (HT1.out).cell (j := 1) rfl
    go_wp2_with (go_at_call 17; refine (HN.out _ _).mono ?_; rintro e w' ⟨rfl, rfl⟩)
    refine (H3.out _ HB1.out).mono ?_
    rintro e wA ⟨rA, rfl, fA, hb⟩
    have HBA : Hid (Below w.heap.size w wA) := show Below _ _ _ from HB1.out.trans (hb.mono HB1.out.size)
    have HTA : Hid (Blk wA w.heap.size 55 #[.int .i64 n2, .int .i64 m2]) := show Blk _ _ _ _ from HT1.out.below hb HT1.out.lt
    have FA := Lib.hid fA
    clear hb fA t0 t1
    have t0 := (HTA.out).cell (j := 0) rfl
    have t1 := (HTA.out).cell (j := 1) rfl
    go_wp2_with fail
    refine (H4.out _ _ FA.out).mono ?_
    rintro e wB ⟨rB, rfl, fB, hb⟩
    have HBB : Hid (Below w.heap.size w wB) := show Below _ _ _ from HBA.out.trans (hb.mono HBA.out.size)
    have HTB : Hid (Blk wB w.heap.size 55 #[.int .i64 n2, .int .i64 m2]) := show Blk _ _ _ _ from HTA.out.below hb HTA.out.lt
    have FB1 := Lib.hid fB
    clear hb fB t0 t1
    have t0 := (HTB.out).cell (j := 0) rfl
    have t1 := (HTB.out).cell (j := 1) rfl
    go_wp2_with fail
    refine (H5.out _ HBB.out).mono ?_
    rintro e wC ⟨rC, rfl, fC, hb⟩
    have HBC : Hid (Below w.heap.size w wC) := show Below _ _ _ from HBB.out.trans (hb.mono HBB.out.size)
    have HTC : Hid (Blk wC w.heap.size 55 #[.int .i64 n2, .int .i64 m2]) := show Blk _ _ _ _ from HTB.out.below hb HTB.out.lt
    have FB2 := Lib.hid (FB1.out.below hb)
    have FC := Lib.hid fC
    clear hb fC t0 t1
    have t0 := (HTC.out).cell (j := 0) rfl
    have t1 := (HTC.out).cell (j := 1) rfl
    by_cases q2 : e2 = 0
    · by_cases q3 : e3 = 0
      · by_cases q4 : m2 ≤ n2
        · obtain ⟨q5, q6⟩ := HC1.out q2 q3 q4
          have c1 := conv_sl FB2.out.sl
          have c2 := conv_sl FC.out.sl
          rw [q6] at c1
          obtain ⟨s0, hs0⟩ : ∃ s, strOf (outC xs m2) = s := ⟨_, rfl⟩
          rw [hs0] at c1 c2
          have k1 := HS.out s0
          have q7 : ¬ n2 < m2 := by omega
          subst q2
          subst q3
          subst q5
          clear hs0 q6 q4
          go_wp2_with (go_at_call 17; refine (HN.out _ _).mono ?_; rintro e w' ⟨rfl, rfl⟩)
          refine (HK.out _).mono ?_
          rintro e wD ⟨rfl, hb⟩
          have HBD : Hid (Below w.heap.size w wD) := show Below _ _ _ from HBC.out.trans (hb.mono HBC.out.size)
          clear hb
          go_wp2_with fail
          go_ret
          exact ⟨rfl, HBD.out⟩
        · have q7 : n2 < m2 := by omega
          subst q2
          subst q3
          clear q4
          go_wp2_with (go_at_call 17; refine (HN.out _ _).mono ?_; rintro e w' ⟨rfl, rfl⟩)
          refine (HK.out _).mono ?_
          rintro e wD ⟨rfl, hb⟩
          have HBD : Hid (Below w.heap.size w wD) := show Below _ _ _ from HBC.out.trans (hb.mono HBC.out.size)
          clear hb
          go_wp2_with fail
          go_ret
          exact ⟨rfl, HBD.out⟩
      · have q7 : (e3 != 0) = true := by rw [bne_iff_ne]; exact q3
        subst q2
        clear q3
        go_wp2_with (go_at_call 17; refine (HN.out _ _).mono ?_; rintro e w' ⟨rfl, rfl⟩)
        refine (HK.out _).mono ?_
        rintro e wD ⟨rfl, hb⟩
        have HBD : Hid (Below w.heap.size w wD) := show Below _ _ _ from HBC.out.trans (hb.mono HBC.out.size)
        clear hb
        go_wp2_with fail
        go_ret
        exact ⟨rfl, HBD.out⟩
    · have q7 : (e2 != 0) = true := by rw [bne_iff_ne]; exact q2
      clear q2
      go_wp2_with (go_at_call 17; refine (HN.out _ _).mono ?_; rintro e w' ⟨rfl, rfl⟩)
      refine (HK.out _).mono ?_
      rintro e wD ⟨rfl, hb⟩
      have HBD : Hid (Below w.heap.size w wD) := show Below _ _ _ from HBC.out.trans (hb.mono HBC.out.size)
      clear hb
      go_wp2_with fail
      go_ret
      exact ⟨rfl, HBD.out⟩
end Go.Proofs.Ytmncoclmgcjjjaa
