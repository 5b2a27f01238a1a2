/-
  trace: unkept, its rounds.
-/
import Derived.Test.YtkpiehejkhjhlaaTrP
namespace Go.Proofs.Ytkpiehejkhjhlaa
open Go.RowKit Go.Shelf Go.Maps

theorem zeroI (w : World) : (zeroValue 3).run Try.prog w = .ok (.int .i64 0) w := by kernel_rfl
theorem ukStep_2 (N : Int) (i : Nat) (s : Uk) {t : Tch} (h : t.kind = 2) : ukStep N i s t = { s with fl := upd s.fl (lineT t) N } := by unfold ukStep; rw [if_pos h]
theorem ukStep_3n (N : Int) (i : Nat) (s : Uk) {t : Tch} (h : t.kind = 3) (hf : (s.fl (lineT t)).getD 0 = N) : ukStep N i s t = { s with fl := upd s.fl (lineT t) i } := by unfold ukStep; rw [if_neg (by omega), if_pos h, if_pos hf]
theorem ukStep_3o (N : Int) (i : Nat) (s : Uk) {t : Tch} (h : t.kind = 3) (hf : ¬ (s.fl (lineT t)).getD 0 = N) : ukStep N i s t = s := by unfold ukStep; rw [if_neg (by omega), if_pos h, if_neg hf]
theorem ukStep_4 (N : Int) (i : Nat) (s : Uk) {t : Tch} (h : t.kind = 4) : ukStep N i s t = { s with fence := i } := by unfold ukStep; rw [if_neg (by omega), if_neg (by omega), if_pos h]
theorem ukStep_o (N : Int) (i : Nat) (s : Uk) {t : Tch} (h2 : ¬ t.kind = 2) (h3 : ¬ t.kind = 3) (h4 : ¬ t.kind = 4) : ukStep N i s t = s := by unfold ukStep; rw [if_neg h2, if_neg h3, if_neg h4]
set_option maxRecDepth 100000 in
set_option maxHeartbeats 4000000 in
theorem unkept_any {v : Value} {ts : List Tch} (w : World) (hl : ts.length ≤ 90000) (hok : ∀ t ∈ ts, okT t) (hs : SlT w v ts) :
    Calls Try.prog 36 #[v] w fun e w' => e = .returned (.func (.func 44) #[] #[.pointer (some ⟨w.heap.size + 2, 0, none⟩), .pointer (some ⟨w.heap.size, 0, none⟩)]) ∧ UkI w ts.length (ukAt ts.length ts ts.length) w' := by
  obtain ⟨a, cap, rfl, -⟩ := id hs
  obtain ⟨N, hN⟩ : ∃ N, ts.length = N := ⟨_, rfl⟩
  have HOK := Lib.hid hok
  rw [hN] at hs hl ⊢
  have HAT := Lib.hid (hs.at_ hN)
  have HN := Lib.hid hN
  obtain ⟨W0, hW0⟩ : ∃ W0, ((w.alloc (.cells #[.int .i64 (-1)] 3)).alloc (.map #[] 0)).alloc (.cells #[.map (some (w.heap.size + 1))] 74) = W0 := ⟨_, rfl⟩
  have HI0 : Hid (UkI w 0 (ukAt N ts 0) W0) := show UkI _ _ _ _ by
    rw [← hW0]
    have b1 : Below w.heap.size w (w.alloc (.cells #[.int .i64 (-1)] 3)) := (Below.refl _ _).alloc (Nat.le_refl _) _
    have hm := NumMap.new 3 .i64 (w.alloc (.cells #[.int .i64 (-1)] 3))
    rw [World.size_alloc] at hm
    refine ⟨hm.below ((Below.refl _ _).alloc (Nat.le_refl _) _), ?_, ?_, (by repeat (first | exact Below.refl _ _ | assumption | refine Below.drew ?_ | refine below_drewN ?_ _ | refine Below.alloc ?_ (by (try simp) <;> omega) _ | refine Below.setCell ?_ (by (try simp) <;> omega) _ | refine Below.trans ?_ (Below.mono (by assumption) (by (try simp) <;> omega))))⟩
    · show _ = some (Obj.cells #[Value.int .i64 (-1)] 3 (0, 0)); (simp only [heap_at, World.size_alloc]; repeat (first | rw [if_pos (by omega)] | rw [if_neg (by omega)] | rw [if_pos trivial]))
    · unfold Boxed; (simp only [heap_at, World.size_alloc]; repeat (first | rw [if_pos (by omega)] | rw [if_neg (by omega)] | rw [if_pos trivial]))
  have HW := Lib.hid hW0
  clear hs hok hN hW0
  have hmk := fun w => run_makeMap (P := Try.prog) 74 w
  go_enter Try.func36, Try.ntmps36
  go_wp2_with fail
  clear hmk
  rw [HW.out]
  go_loopw [14] (fun i wr => ∃ k : Nat, k ≤ N ∧ i = .int .i64 (k : Nat) ∧ Hid (UkI w k (ukAt N ts k) wr)) (fun i _ => N - (intOf i).toNat)
  case atStart => exact ⟨0, by omega, rfl, HI0⟩
  case round =>
    obtain ⟨k, hk, rfl, HI⟩ := hrel
    by_cases hlt : k < N
    · obtain ⟨b, off, t, ht, hmem, rfl, hat⟩ := HAT.out k hlt
      obtain ⟨c0, c1, c2⟩ := hat wr HI.out.below
      have k2 : (k : Int) < (N : Int) := by omega
      have HST : Hid (ukAt N ts (k + 1) = ukStep N k (ukAt N ts k) t) := show _ = _ from ukAt_succ ht
      obtain ⟨s, hs⟩ : ∃ s, ukAt N ts k = s := ⟨_, rfl⟩
      rw [hs] at HI HST
      have HO := Lib.hid (HOK.out t hmem)
      obtain ⟨x, y, z⟩ := t
      simp only at c0 c1 c2
      have HLN := Lib.hid (fun W => lineT_any ⟨x, y, z⟩ HO.out.1 W)
      have HL6 := Lib.hid (in64_line HO.out)
      obtain ⟨W8, hW8⟩ : ∃ W8, ((wr.alloc (.cells #[.int .i64 x, .int .i64 y, .int .u64 z] 32)).alloc (.cells #[.int .i64 x, .int .i64 y, .int .u64 z] 62)) = W8 := ⟨_, rfl⟩
      have b8 : Below wr.heap.size wr W8 := by rw [← hW8]; exact (by repeat (first | exact Below.refl _ _ | assumption | refine Below.drew ?_ | refine below_drewN ?_ _ | refine Below.alloc ?_ (by (try simp) <;> omega) _ | refine Below.setCell ?_ (by (try simp) <;> omega) _ | refine Below.trans ?_ (Below.mono (by assumption) (by (try simp) <;> omega))))
      have hX : Tri W8 (wr.heap.size + 1) 62 (.int .i64 x) (.int .i64 y) (.int .u64 z) := by rw [← hW8]; unfold Tri; (simp only [heap_at, World.size_alloc]; repeat (first | rw [if_pos (by omega)] | rw [if_neg (by omega)] | rw [if_pos trivial]))
      have HI8 := Lib.hid (HI.out.turn b8)
      have HX := Lib.hid hX
      have HW8 := Lib.hid hW8
      clear ht hmem hat hs b8 hX hW8
      obtain ⟨Y, hY⟩ : ∃ Y, lineT ⟨x, y, z⟩ = Y := ⟨_, rfl⟩
      rw [hY] at HLN HL6
      by_cases h2 : x = 2
      · subst h2
        have HS1 : Hid (ukAt N ts (k + 1) = { s with fl := upd s.fl Y N }) := show _ = _ by rw [HST.out, ukStep_2 N k s rfl, hY]
        clear hY HST
        go_wp2_with fail
        rw [HW8.out]
        obtain ⟨d0, d1, d2, -⟩ := HX.out.cells
        have d3 := HI8.out.box.cell
        have hdr : Below W8.heap.size W8 W8.drew := Below.drew (Below.refl _ _)
        have HI9 := Lib.hid (HI8.out.turn hdr)
        have HX9 := Lib.hid (HX.out.below hdr HX.out.lt)
        have hR : (fun W : World => W.cell? ⟨w.heap.size + 2, 0, none⟩ = some (.map (some (w.heap.size + 1))) ∧ W.cell? ⟨wr.heap.size + 1, 0, none⟩ = some (.int .i64 2) ∧ W.cell? ⟨wr.heap.size + 1, 1, none⟩ = some (.int .i64 y) ∧ W.cell? ⟨wr.heap.size + 1, 2, none⟩ = some (.int .u64 z)) W8.drew := ⟨d3, d0, d1, d2⟩
        clear hdr d0 d1 d2 d3
        refine wp_region_M 4 (fun W : World => W.cell? ⟨w.heap.size + 2, 0, none⟩ = some (.map (some (w.heap.size + 1))) ∧ W.cell? ⟨wr.heap.size + 1, 0, none⟩ = some (.int .i64 2) ∧ W.cell? ⟨wr.heap.size + 1, 1, none⟩ = some (.int .i64 y) ∧ W.cell? ⟨wr.heap.size + 1, 2, none⟩ = some (.int .u64 z)) (by kernel_rfl) ?_
        (refine wpAnyM_take (i := 0) (v := ?_) rfl (by kernel_rfl) (by kernel_rfl) (fun _ _ _ h => h) (Or.inl ⟨by rfl, ?_⟩) hR ?_; rotate_left; (focus (intro w hSw; (try dsimp only at hSw); go_simp; (try with_reducible rfl))); (try simp only [put_laws])); (refine wpAnyM_take (i := 1) (v := ?_) rfl (by kernel_rfl) (by kernel_rfl) (fun _ _ _ h => h) (Or.inl ⟨by rfl, ?_⟩) hR ?_; rotate_left; (focus (intro w hSw; (try dsimp only at hSw); go_simp; (try with_reducible rfl))); (try simp only [put_laws])); (refine wpAnyM_take (i := 3) (v := ?_) rfl (by kernel_rfl) (by kernel_rfl) (fun _ _ _ h => h) (Or.inl ⟨by rfl, ?_⟩) hR ?_; rotate_left; (focus (intro w hSw; (try dsimp only at hSw); go_simp; (try with_reducible rfl))); (try simp only [put_laws]))
        (refine wpAnyM_one (i := 2) rfl (by kernel_rfl) (fun K hK => ?_); rw [if_pos (by rfl)]; (try simp only [elem_laws]))
        go_simp
        refine (HLN.out _).mono ?_
        rintro e wB ⟨rfl, hbB⟩
        have HIB := Lib.hid (HI9.out.turn hbB)
        have HXB := Lib.hid (HX9.out.below hbB HX9.out.lt)
        obtain ⟨d0, d1, d2, -⟩ := HXB.out.cells
        have d3 := HIB.out.box.cell
        refine hK _ _ (fun _ => ⟨d3, d0, d1, d2⟩) ?_
        clear hK K hR hbB
        have hR : (fun W : World => W.cell? ⟨w.heap.size + 2, 0, none⟩ = some (.map (some (w.heap.size + 1))) ∧ W.cell? ⟨wr.heap.size + 1, 0, none⟩ = some (.int .i64 2) ∧ W.cell? ⟨wr.heap.size + 1, 1, none⟩ = some (.int .i64 y) ∧ W.cell? ⟨wr.heap.size + 1, 2, none⟩ = some (.int .u64 z)) wB := ⟨d3, d0, d1, d2⟩
        clear d0 d1 d2 d3
        (try simp only [put_laws])
        obtain ⟨wD, hrun, hm, hg⟩ := HIB.out.map.store (t := 74) Try.underlying74 Try.underlying3 (by omega) HL6.out (z := (N : Nat)) (by simp [Lit.wf, IntKind.min, IntKind.max, IntKind.signed, IntKind.bits]; omega)
        have HID := Lib.hid (HIB.out.stored hm hg)
        clear hm hg
        (refine wpAnyM_last rfl (by kernel_rfl) (fun K hK => ?_); rw [if_pos (by rfl)]; (try simp only [elem_laws]))
        clear hR
        go_simp
        refine hK _ _ ?_
        clear hK K hrun
        (try simp only [put_laws])
        refine wpAnyM_done (by kernel_rfl) ?_ _
        go_wp2_with fail
        go_roundw
        case rel => exact ⟨k + 1, by omega, by go_num, by rw [HS1.out]; exact HID⟩
        case measure => simp [intOf]; omega
      by_cases h3 : x = 3
      · subst h3
        by_cases hf : (s.fl Y).getD 0 = N
        · have HS1 : Hid (ukAt N ts (k + 1) = { s with fl := upd s.fl Y k }) := show _ = _ by rw [HST.out, ukStep_3n N k s rfl (by rw [hY]; exact hf), hY]
          clear hY HST
          go_wp2_with fail
          rw [HW8.out]
          obtain ⟨d0, d1, d2, -⟩ := HX.out.cells
          have d3 := HI8.out.box.cell
          have hdr : Below W8.heap.size W8 W8.drew := Below.drew (Below.refl _ _)
          have HI9 := Lib.hid (HI8.out.turn hdr)
          have HX9 := Lib.hid (HX.out.below hdr HX.out.lt)
          have hR : (fun W : World => W.cell? ⟨w.heap.size + 2, 0, none⟩ = some (.map (some (w.heap.size + 1))) ∧ W.cell? ⟨wr.heap.size + 1, 0, none⟩ = some (.int .i64 3) ∧ W.cell? ⟨wr.heap.size + 1, 1, none⟩ = some (.int .i64 y) ∧ W.cell? ⟨wr.heap.size + 1, 2, none⟩ = some (.int .u64 z)) W8.drew := ⟨d3, d0, d1, d2⟩
          clear hdr d0 d1 d2 d3
          refine wp_region_M 5 (fun W : World => W.cell? ⟨w.heap.size + 2, 0, none⟩ = some (.map (some (w.heap.size + 1))) ∧ W.cell? ⟨wr.heap.size + 1, 0, none⟩ = some (.int .i64 3) ∧ W.cell? ⟨wr.heap.size + 1, 1, none⟩ = some (.int .i64 y) ∧ W.cell? ⟨wr.heap.size + 1, 2, none⟩ = some (.int .u64 z)) (by kernel_rfl) ?_
          (refine wpAnyM_take2 8 (i := 0) (v := ?_) rfl (by kernel_rfl) (by kernel_rfl) (fun _ _ _ h => h) (Or.inl ⟨by rfl, ?_⟩) hR ?_; rotate_left; (focus (intro w hSw; (try dsimp only at hSw); go_simp; (try with_reducible rfl))); (try simp only [put_laws])); (refine wpAnyM_take2 8 (i := 1) (v := ?_) rfl (by kernel_rfl) (by kernel_rfl) (fun _ _ _ h => h) (Or.inl ⟨by rfl, ?_⟩) hR ?_; rotate_left; (focus (intro w hSw; (try dsimp only at hSw); go_simp; (try with_reducible rfl))); (try simp only [put_laws])); (refine wpAnyM_take2 8 (i := 4) (v := ?_) rfl (by kernel_rfl) (by kernel_rfl) (fun _ _ _ h => h) (Or.inl ⟨by rfl, ?_⟩) hR ?_; rotate_left; (focus (intro w hSw; (try dsimp only at hSw); go_simp; (try with_reducible rfl))); (try simp only [put_laws]))
          (refine wpAnyM_one (i := 2) rfl (by kernel_rfl) (fun K hK => ?_); rw [if_pos (by rfl)]; (try simp only [elem_laws]))
          go_simp
          refine (HLN.out _).mono ?_
          rintro e wC ⟨rfl, hbB⟩
          have HIC := Lib.hid (HI9.out.turn hbB)
          have HXC := Lib.hid (HX9.out.below hbB HX9.out.lt)
          obtain ⟨d0, d1, d2, -⟩ := HXC.out.cells
          have d3 := HIC.out.box.cell
          refine hK _ _ (fun _ => ⟨d3, d0, d1, d2⟩) ?_
          clear hK K hR hbB
          have hR : (fun W : World => W.cell? ⟨w.heap.size + 2, 0, none⟩ = some (.map (some (w.heap.size + 1))) ∧ W.cell? ⟨wr.heap.size + 1, 0, none⟩ = some (.int .i64 3) ∧ W.cell? ⟨wr.heap.size + 1, 1, none⟩ = some (.int .i64 y) ∧ W.cell? ⟨wr.heap.size + 1, 2, none⟩ = some (.int .u64 z)) wC := ⟨d3, d0, d1, d2⟩
          clear d0 d1 d2 d3
          (try simp only [put_laws])
          have hlk := HIC.out.map.look (t := 74) Try.underlying74 Try.underlying3 zeroI HL6.out
          (refine wpAnyM_one (i := 3) rfl (by kernel_rfl) (fun K hK => ?_); rw [if_pos (by rfl)]; (try simp only [elem_laws]))
          go_simp
          refine hK _ _ (fun _ => hR) ?_
          clear hK K hlk
          (try simp only [put_laws])
          (refine wpAnyM_last rfl (by kernel_rfl) (fun K hK => ?_); rw [if_pos (by rfl)]; (try simp only [elem_laws]))
          clear hR
          go_simp
          refine hK _ _ ?_
          clear hK K
          (try simp only [put_laws])
          refine wpAnyM_done (by kernel_rfl) ?_ _
          have hff : ((s.fl Y).getD 0 == (N : Int)) = true := by simp [hf]
          go_wp2_with fail
          obtain ⟨d0, d1, d2, -⟩ := HXC.out.cells
          have d3 := HIC.out.box.cell
          have hdr : Below wC.heap.size wC wC.drew := Below.drew (Below.refl _ _)
          have HI9 := Lib.hid (HIC.out.turn hdr)
          have HX9 := Lib.hid (HXC.out.below hdr HXC.out.lt)
          have hR : (fun W : World => W.cell? ⟨w.heap.size + 2, 0, none⟩ = some (.map (some (w.heap.size + 1))) ∧ W.cell? ⟨wr.heap.size + 1, 0, none⟩ = some (.int .i64 3) ∧ W.cell? ⟨wr.heap.size + 1, 1, none⟩ = some (.int .i64 y) ∧ W.cell? ⟨wr.heap.size + 1, 2, none⟩ = some (.int .u64 z)) wC.drew := ⟨d3, d0, d1, d2⟩
          clear hdr d0 d1 d2 d3
          refine wp_region_M 4 (fun W : World => W.cell? ⟨w.heap.size + 2, 0, none⟩ = some (.map (some (w.heap.size + 1))) ∧ W.cell? ⟨wr.heap.size + 1, 0, none⟩ = some (.int .i64 3) ∧ W.cell? ⟨wr.heap.size + 1, 1, none⟩ = some (.int .i64 y) ∧ W.cell? ⟨wr.heap.size + 1, 2, none⟩ = some (.int .u64 z)) (by kernel_rfl) ?_
          (refine wpAnyM_take (i := 0) (v := ?_) rfl (by kernel_rfl) (by kernel_rfl) (fun _ _ _ h => h) (Or.inl ⟨by rfl, ?_⟩) hR ?_; rotate_left; (focus (intro w hSw; (try dsimp only at hSw); go_simp; (try with_reducible rfl))); (try simp only [put_laws])); (refine wpAnyM_take (i := 1) (v := ?_) rfl (by kernel_rfl) (by kernel_rfl) (fun _ _ _ h => h) (Or.inl ⟨by rfl, ?_⟩) hR ?_; rotate_left; (focus (intro w hSw; (try dsimp only at hSw); go_simp; (try with_reducible rfl))); (try simp only [put_laws])); (refine wpAnyM_take (i := 3) (v := ?_) rfl (by kernel_rfl) (by kernel_rfl) (fun _ _ _ h => h) (Or.inl ⟨by rfl, ?_⟩) hR ?_; rotate_left; (focus (intro w hSw; (try dsimp only at hSw); go_simp; (try with_reducible rfl))); (try simp only [put_laws]))
          (refine wpAnyM_one (i := 2) rfl (by kernel_rfl) (fun K hK => ?_); rw [if_pos (by rfl)]; (try simp only [elem_laws]))
          go_simp
          refine (HLN.out _).mono ?_
          rintro e wB ⟨rfl, hbB⟩
          have HIB := Lib.hid (HI9.out.turn hbB)
          have HXB := Lib.hid (HX9.out.below hbB HX9.out.lt)
          obtain ⟨d0, d1, d2, -⟩ := HXB.out.cells
          have d3 := HIB.out.box.cell
          refine hK _ _ (fun _ => ⟨d3, d0, d1, d2⟩) ?_
          clear hK K hR hbB
          have hR : (fun W : World => W.cell? ⟨w.heap.size + 2, 0, none⟩ = some (.map (some (w.heap.size + 1))) ∧ W.cell? ⟨wr.heap.size + 1, 0, none⟩ = some (.int .i64 3) ∧ W.cell? ⟨wr.heap.size + 1, 1, none⟩ = some (.int .i64 y) ∧ W.cell? ⟨wr.heap.size + 1, 2, none⟩ = some (.int .u64 z)) wB := ⟨d3, d0, d1, d2⟩
          clear d0 d1 d2 d3
          (try simp only [put_laws])
          obtain ⟨wD, hrun, hm, hg⟩ := HIB.out.map.store (t := 74) Try.underlying74 Try.underlying3 (by omega) HL6.out (z := (k : Nat)) (by simp [Lit.wf, IntKind.min, IntKind.max, IntKind.signed, IntKind.bits]; omega)
          have HID := Lib.hid (HIB.out.stored hm hg)
          clear hm hg
          (refine wpAnyM_last rfl (by kernel_rfl) (fun K hK => ?_); rw [if_pos (by rfl)]; (try simp only [elem_laws]))
          clear hR
          go_simp
          refine hK _ _ ?_
          clear hK K hrun
          (try simp only [put_laws])
          refine wpAnyM_done (by kernel_rfl) ?_ _
          go_wp2_with fail
          go_roundw
          case rel => exact ⟨k + 1, by omega, by go_num, by rw [HS1.out]; exact HID⟩
          case measure => simp [intOf]; omega
        · have HS1 : Hid (ukAt N ts (k + 1) = s) := show _ = _ by rw [HST.out, ukStep_3o N k s rfl (by rw [hY]; exact hf)]
          clear hY HST
          go_wp2_with fail
          rw [HW8.out]
          obtain ⟨d0, d1, d2, -⟩ := HX.out.cells
          have d3 := HI8.out.box.cell
          have hdr : Below W8.heap.size W8 W8.drew := Below.drew (Below.refl _ _)
          have HI9 := Lib.hid (HI8.out.turn hdr)
          have HX9 := Lib.hid (HX.out.below hdr HX.out.lt)
          have hR : (fun W : World => W.cell? ⟨w.heap.size + 2, 0, none⟩ = some (.map (some (w.heap.size + 1))) ∧ W.cell? ⟨wr.heap.size + 1, 0, none⟩ = some (.int .i64 3) ∧ W.cell? ⟨wr.heap.size + 1, 1, none⟩ = some (.int .i64 y) ∧ W.cell? ⟨wr.heap.size + 1, 2, none⟩ = some (.int .u64 z)) W8.drew := ⟨d3, d0, d1, d2⟩
          clear hdr d0 d1 d2 d3
          refine wp_region_M 5 (fun W : World => W.cell? ⟨w.heap.size + 2, 0, none⟩ = some (.map (some (w.heap.size + 1))) ∧ W.cell? ⟨wr.heap.size + 1, 0, none⟩ = some (.int .i64 3) ∧ W.cell? ⟨wr.heap.size + 1, 1, none⟩ = some (.int .i64 y) ∧ W.cell? ⟨wr.heap.size + 1, 2, none⟩ = some (.int .u64 z)) (by kernel_rfl) ?_
          (refine wpAnyM_take2 8 (i := 0) (v := ?_) rfl (by kernel_rfl) (by kernel_rfl) (fun _ _ _ h => h) (Or.inl ⟨by rfl, ?_⟩) hR ?_; rotate_left; (focus (intro w hSw; (try dsimp only at hSw); go_simp; (try with_reducible rfl))); (try simp only [put_laws])); (refine wpAnyM_take2 8 (i := 1) (v := ?_) rfl (by kernel_rfl) (by kernel_rfl) (fun _ _ _ h => h) (Or.inl ⟨by rfl, ?_⟩) hR ?_; rotate_left; (focus (intro w hSw; (try dsimp only at hSw); go_simp; (try with_reducible rfl))); (try simp only [put_laws])); (refine wpAnyM_take2 8 (i := 4) (v := ?_) rfl (by kernel_rfl) (by kernel_rfl) (fun _ _ _ h => h) (Or.inl ⟨by rfl, ?_⟩) hR ?_; rotate_left; (focus (intro w hSw; (try dsimp only at hSw); go_simp; (try with_reducible rfl))); (try simp only [put_laws]))
          (refine wpAnyM_one (i := 2) rfl (by kernel_rfl) (fun K hK => ?_); rw [if_pos (by rfl)]; (try simp only [elem_laws]))
          go_simp
          refine (HLN.out _).mono ?_
          rintro e wC ⟨rfl, hbB⟩
          have HIC := Lib.hid (HI9.out.turn hbB)
          have HXC := Lib.hid (HX9.out.below hbB HX9.out.lt)
          obtain ⟨d0, d1, d2, -⟩ := HXC.out.cells
          have d3 := HIC.out.box.cell
          refine hK _ _ (fun _ => ⟨d3, d0, d1, d2⟩) ?_
          clear hK K hR hbB
          have hR : (fun W : World => W.cell? ⟨w.heap.size + 2, 0, none⟩ = some (.map (some (w.heap.size + 1))) ∧ W.cell? ⟨wr.heap.size + 1, 0, none⟩ = some (.int .i64 3) ∧ W.cell? ⟨wr.heap.size + 1, 1, none⟩ = some (.int .i64 y) ∧ W.cell? ⟨wr.heap.size + 1, 2, none⟩ = some (.int .u64 z)) wC := ⟨d3, d0, d1, d2⟩
          clear d0 d1 d2 d3
          (try simp only [put_laws])
          have hlk := HIC.out.map.look (t := 74) Try.underlying74 Try.underlying3 zeroI HL6.out
          (refine wpAnyM_one (i := 3) rfl (by kernel_rfl) (fun K hK => ?_); rw [if_pos (by rfl)]; (try simp only [elem_laws]))
          go_simp
          refine hK _ _ (fun _ => hR) ?_
          clear hK K hlk
          (try simp only [put_laws])
          (refine wpAnyM_last rfl (by kernel_rfl) (fun K hK => ?_); rw [if_pos (by rfl)]; (try simp only [elem_laws]))
          clear hR
          go_simp
          refine hK _ _ ?_
          clear hK K
          (try simp only [put_laws])
          refine wpAnyM_done (by kernel_rfl) ?_ _
          have hff : ((s.fl Y).getD 0 == (N : Int)) = false := by simp [hf]
          go_wp2_with fail
          go_roundw
          case rel => exact ⟨k + 1, by omega, by go_num, by rw [HS1.out]; exact Lib.hid (HIC.out.mono (by omega))⟩
          case measure => simp [intOf]; omega
      have e2 : (x == 2) = false := by simp [h2]
      have e3 : (x == 3) = false := by simp [h3]
      by_cases h4 : x = 4
      · subst h4
        have HS1 : Hid (ukAt N ts (k + 1) = { s with fence := k }) := show _ = _ by rw [HST.out, ukStep_4 N k s rfl]
        clear hY HST
        have f0 := HI8.out.fence.frozen
        have f1 := HI8.out.fence.cell
        rw [← HW8.out] at f0 f1
        go_wp2_with fail
        rw [HW8.out]
        go_roundw
        case rel => exact ⟨k + 1, by omega, by go_num, by rw [HS1.out]; exact Lib.hid ((HI8.out.fenced k).mono (by omega))⟩
        case measure => simp [intOf]; omega
      · have e4 : (x == 4) = false := by simp [h4]
        have HS1 : Hid (ukAt N ts (k + 1) = s) := show _ = _ by rw [HST.out, ukStep_o N k s h2 h3 h4]
        clear hY HST
        go_wp2_with fail
        rw [HW8.out]
        go_wp2_with fail
        go_roundw
        case rel => exact ⟨k + 1, by omega, by go_num, by rw [HS1.out]; exact Lib.hid (HI8.out.mono (by omega))⟩
        case measure => simp [intOf]; omega
    · obtain rfl : k = N := by omega
      go_wp2_with fail
      go_ret
      exact ⟨rfl, HI.out⟩
/-- What the closure tells. -/
def unkV (s : Uk) (y : Int) : Bool := decide (s.fence < (s.fl y).getD 0)
set_option maxRecDepth 100000 in
theorem unkept1_any {W : World} {A k : Nat} {s : Uk} (y : Int) (hy : in64 y) (hm : NumMap 3 .i64 W (A + 1) k s.fl) (hf : Boxed W A 3 (.int .i64 s.fence)) (hb : Boxed W (A + 2) 74 (.map (some (A + 1)))) :
    Calls Try.prog 44 #[.int .i64 y, .pointer (some ⟨A + 2, 0, none⟩), .pointer (some ⟨A, 0, none⟩)] W fun e w' => e = .returned (.bool (unkV s y)) ∧ w' = W := by
  have c0 := hb.cell
  have c1 := hf.cell
  have hlk := hm.look (t := 74) Try.underlying74 Try.underlying3 zeroI hy
  obtain ⟨R, hR⟩ : ∃ R, unkV s y = R := ⟨_, rfl⟩
  have hR2 : decide (s.fence < (s.fl y).getD 0) = R := hR
  rw [hR]
  obtain ⟨z, hz⟩ : ∃ z, (s.fl y).getD 0 = z := ⟨_, rfl⟩
  clear hf
  obtain ⟨f, hf⟩ : ∃ f, s.fence = f := ⟨_, rfl⟩
  rw [hz] at hlk hR2
  rw [hf] at c1 hR2
  clear hm hb hR hy hz hf
  go_enter Try.func44, Try.ntmps44
  go_wp2_with fail
  go_ret
  exact ⟨rfl, rfl⟩
end Go.Proofs.Ytkpiehejkhjhlaa
