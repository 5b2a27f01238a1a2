/-
  Texts PmQ to HeldFar, as one.
-/
import Derived.Test.YtohdgjmmekgcmaaDoorMg6
import Derived.RangeFuncLeaves
import Derived.RangeFuncCalls
import Derived.BigRegionIn
/-
  pmem: Evict.
-/
namespace Go.Proofs.YtohdgjmmekgcmaaDoor
open Go.RowKit Go.Shelf

theorem store_line {t : TypeId} (hi : (Tryd.prog.info? t).map (·.size) = some 8) {W : World} {e : TypeId} {g n c : Nat} {ws : List Int} (h : W.ownsRow 0 e 8 (.slice (some ⟨g, 0, none⟩) n c) n (vals ws)) (j : Nat) (hj : j < n) {L : List Int} (hL : L.length = 8) :
    (Instr.storeAt t (.pointer (some ⟨g, j * 8, none⟩)) (.agg (vals L).toArray)).run Tryd.prog W = .ok () (W.setCells g (j * 8) (vals L)) := by
  have := run_storeAt_mid (P := Tryd.prog) W g (j * 8) t (vals L).toArray (row_there h _ _ (by simp [vals_length, hL]; omega)) (by rw [hi]; simp [vals_length, hL]) (all_oneCell_toArray (vals_one L))
  simpa using this
set_option maxRecDepth 100000 in
set_option maxHeartbeats 2000000 in
theorem evict_yes {F : Nat → Prop} {B S T n cS cT : Nat} {q : Value} {d : Dv} (j : Nat) (hj : j < n) (w : World) (h : DevB w F B S T n cS cT q d) :
    Calls Tryd.prog 27 #[.pointer (some ⟨B, 0, none⟩), .int .i64 j] w fun e w' => e = .returned (.int .i64 0) ∧ Turn F w w' ∧ ∃ q', DevB w' F B S T n cS cT q' (d.evict n j) := by
  have HR := Lib.hid (refuses_any (j : Int) w h)
  rw [show inR n (j : Int) = true from decide_eq_true (by omega)] at HR
  have HD := Lib.hid h; clear h
  go_enter Tryd.func27, Tryd.ntmps27
  go_wp2_with fail
  refine wp_scope_forward 0 rfl ?_
  go_wp2_with fail
  refine HR.out.mono ?_
  rintro e w1 ⟨rfl, hb⟩
  have z1 := hb.size
  rw [show errR true = 0 from rfl]
  go_wp2_with fail
  refine (forget_any (j : Int) w1 (HD.out.below hb)).mono ?_
  rintro e w2 ⟨⟨u, rfl⟩, ht2, q2, hd2⟩
  have z2 := ht2.size
  go_wp2_with fail
  have hj2 : (j : Int) < (n : Int) := by omega
  have hL := lineAt_length hd2.ok.seen hj
  have hS0 : hd2.ok.seen = hd2.ok.seen := rfl
  have HD2 := Lib.hid hd2
  have hS3 := hd2.below (Below.drew (Below.refl _ _))
  obtain ⟨L, hLL⟩ : ∃ L, lineAt (d.forget (j : Int)).seen j = L := ⟨_, rfl⟩
  have HLS := Lib.hid (store_line (t := 110) (by kernel_rfl) hS3.stays j hj hL)
  have HPL := Lib.hid (row_putLine hS3.stays j hj _ hL)
  rw [hLL] at HLS HPL hL
  have hlr : ∀ w', (w'.cell? ⟨B, 0, none⟩ = some (.slice (some ⟨S, 0, none⟩) n cS) ∧ w'.cell? ⟨B, 1, none⟩ = some (.slice (some ⟨T, 0, none⟩) n cT) ∧ w'.rangeAt S (j * 8) (vals L)) →
      (Instr.loadAt 110 (.pointer (some ⟨S, j * 8, none⟩))).run Tryd.prog w' = .ok (.agg (vals L).toArray) w' := fun w' h =>
    run_loadAt_mid w' S (j * 8) 110 _ _ h.2.2 Tryd.underlying110 rfl (by rw [vals_length, hL]; kernel_rfl)
  have hRR := row_range hS3.seen (j * 8) 8
  rw [vals_line, hLL] at hRR
  have HLL := Lib.hid hLL
  have HL8 := Lib.hid hL
  refine wp_region_M 14 (fun w' => w'.cell? ⟨B, 0, none⟩ = some (.slice (some ⟨S, 0, none⟩) n cS) ∧ w'.cell? ⟨B, 1, none⟩ = some (.slice (some ⟨T, 0, none⟩) n cT) ∧ w'.rangeAt S (j * 8) (vals L)) (by kernel_rfl) ?_
  have hR : (fun w' : World => w'.cell? ⟨B, 0, none⟩ = some (.slice (some ⟨S, 0, none⟩) n cS) ∧ w'.cell? ⟨B, 1, none⟩ = some (.slice (some ⟨T, 0, none⟩) n cT) ∧ w'.rangeAt S (j * 8) (vals L)) w2.drew := ⟨hS3.cell0, hS3.cell1, hRR⟩
  have hlB := hd2.lt.1
  have HLR := Lib.hid hlr
  clear hd2 hS3 hLL hRR hL hS0 hlr
  (refine wpAnyM_take (i := 0) (v := ?_) rfl (by kernel_rfl) (by kernel_rfl) (fun _ _ _ h => h) (Or.inl ⟨by rfl, ?_⟩) hR ?_; rotate_left; (focus (intro w hSw; (try dsimp only at hSw); go_simp; (try with_reducible rfl))); (try simp only [put_laws])); (refine wpAnyM_take (i := 1) (v := ?_) rfl (by kernel_rfl) (by kernel_rfl) (fun _ _ _ h => h) (Or.inl ⟨by rfl, ?_⟩) hR ?_; rotate_left; (focus (intro w hSw; (try dsimp only at hSw); go_simp; (try with_reducible rfl))); (try simp only [put_laws])); (refine wpAnyM_take (i := 2) (v := ?_) rfl (by kernel_rfl) (by kernel_rfl) (fun _ _ _ h => h) (Or.inl ⟨by rfl, ?_⟩) hR ?_; rotate_left; (focus (intro w hSw; (try dsimp only at hSw); go_simp; (try with_reducible rfl))); (try simp only [put_laws])); (refine wpAnyM_take (i := 3) (v := ?_) rfl (by kernel_rfl) (by kernel_rfl) (fun _ _ _ h => h) (Or.inl ⟨by rfl, ?_⟩) hR ?_; rotate_left; (focus (intro w hSw; (try dsimp only at hSw); go_simp; (try with_reducible rfl))); (try simp only [put_laws])); (refine wpAnyM_take (i := 4) (v := ?_) rfl (by kernel_rfl) (by kernel_rfl) (fun _ _ _ h => h) (Or.inl ⟨by rfl, ?_⟩) hR ?_; rotate_left; (focus (intro w hSw; (try dsimp only at hSw); go_simp; (try with_reducible rfl))); (try simp only [put_laws])); (refine wpAnyM_take (i := 5) (v := ?_) rfl (by kernel_rfl) (by kernel_rfl) (fun _ _ _ h => h) (Or.inl ⟨by rfl, ?_⟩) hR ?_; rotate_left; (focus (intro w hSw; (try dsimp only at hSw); go_simp; (try with_reducible rfl))); (try simp only [put_laws])); (refine wpAnyM_take (i := 6) (v := ?_) rfl (by kernel_rfl) (by kernel_rfl) (fun _ _ _ h => h) (Or.inl ⟨by rfl, ?_⟩) hR ?_; rotate_left; (focus (intro w hSw; (try dsimp only at hSw); go_simp; (try with_reducible rfl))); (try simp only [put_laws])); (refine wpAnyM_take (i := 7) (v := ?_) rfl (by kernel_rfl) (by kernel_rfl) (fun _ _ _ h => h) (Or.inl ⟨by rfl, ?_⟩) hR ?_; rotate_left; (focus (intro w hSw; (try dsimp only at hSw); go_simp; (try with_reducible rfl))); (try simp only [put_laws])); (refine wpAnyM_take (i := 8) (v := ?_) rfl (by kernel_rfl) (by kernel_rfl) (fun _ _ _ h => h) (Or.inl ⟨by rfl, ?_⟩) hR ?_; rotate_left; (focus (intro w hSw; (try dsimp only at hSw); go_simp; (try with_reducible rfl))); (try simp only [put_laws])); (refine wpAnyM_take (i := 9) (v := ?_) rfl (by kernel_rfl) (by kernel_rfl) (fun _ _ _ h => h) (Or.inl ⟨by rfl, ?_⟩) hR ?_; rotate_left; (focus (intro w hSw; (try dsimp only at hSw); go_simp; (try with_reducible rfl))); (try simp only [put_laws])); (refine wpAnyM_take (i := 10) (v := ?_) rfl (by kernel_rfl) (by kernel_rfl) (fun _ _ _ h => h) (Or.inl ⟨by rfl, ?_⟩) hR ?_; rotate_left; (focus (intro w hSw; (try dsimp only at hSw); go_simp; (try with_reducible rfl))); (try simp only [put_laws])); (refine wpAnyM_take (i := 11) (v := ?_) rfl (by kernel_rfl) (by kernel_rfl) (fun _ _ _ h => h) (Or.inl ⟨by rfl, ?_⟩) hR ?_; rotate_left; (focus (intro w hSw; (try dsimp only at hSw); go_simp; (try with_reducible rfl))); (try simp only [put_laws]))
  (refine wpAnyM_take (i := 12) (v := _) rfl (by kernel_rfl) (by kernel_rfl) (fun _ _ _ h => h) (Or.inl ⟨by rfl, fun w hSw => exec_load_eq rfl rfl (HLR.out w hSw)⟩) hR ?_; (try simp only [put_laws]))
  (refine wpAnyM_take (i := 13) (v := ?_) rfl (by kernel_rfl) (by kernel_rfl) (fun _ _ _ h => h) (Or.inl ⟨by rfl, ?_⟩) hR ?_; rotate_left; (focus (intro w hSw; (try dsimp only at hSw); go_simp; (try with_reducible rfl))); (try simp only [put_laws]))
  (refine wpAnyM_last rfl (by kernel_rfl) (fun K hK => ?_); rw [if_pos (by rfl)]; (try simp only [elem_laws]))
  refine wp_store_eq 110 _ _ rfl _ _ rfl rfl HLS.out ?_
  refine hK _ _ ?_
  clear hK K
  (try simp only [put_laws])
  refine wpAnyM_done (by kernel_rfl) ?_ _
  clear hR
  go_wp2_with fail
  go_step3
  go_wp2
  rw [Exit.jump_ret]
  go_ret
  have hfl : d.evict n (j : Int) = { d.forget (j : Int) with stays := putLine (d.forget (j : Int)).stays j L } := by
    unfold Dv.evict
    rw [show inR n (j : Int) = true from decide_eq_true (by omega), if_pos rfl, Int.toNat_natCast, ← HLL.out]
    rfl
  refine ⟨rfl, (Turn.of_below hb (Nat.le_refl _)).trans (ht2.trans ((Turn.of_below (Below.drew (Below.refl _ _)) (Nat.le_refl _)).trans (HPL.out.2.mono fun k e => by rw [e]; exact HD2.out.inT))), q2, ?_⟩
  rw [hfl]
  exact (HD2.out.below (Below.drew (Below.refl _ _))).set_stays HPL.out.2 HPL.out.1
theorem evict_any {F : Nat → Prop} {B S T n cS cT : Nat} {q : Value} {d : Dv} (i : Int) (w : World) (h : DevB w F B S T n cS cT q d) :
    Calls Tryd.prog 27 #[.pointer (some ⟨B, 0, none⟩), .int .i64 i] w fun e w' => e = .returned (.int .i64 (errR (inR n i))) ∧ Turn F w w' ∧ ∃ q', DevB w' F B S T n cS cT q' (d.evict n i) := by
  cases hr : inR n i with
  | true =>
    rw [inR_iff] at hr
    obtain ⟨j, rfl⟩ := Int.eq_ofNat_of_zero_le hr.1
    exact evict_yes j (by omega) w h
  | false =>
    have HR := Lib.hid (refuses_any i w h)
    rw [hr] at HR
    have HL := Lib.hid (show d.evict n i = d by unfold Dv.evict; rw [hr]; rfl)
    have HD := Lib.hid h; clear h
    go_enter Tryd.func27, Tryd.ntmps27
    go_wp2_with fail
    refine wp_scope_forward 0 rfl ?_
    go_wp2_with fail
    refine HR.out.mono ?_
    rintro e w1 ⟨rfl, hb⟩
    have z1 := hb.size
    rw [show errR false = 4 from rfl]
    go_wp2_with fail
    go_step3
    refine ⟨rfl, ?_⟩
    go_wp2
    rw [Exit.jump_ret]
    go_ret
    refine ⟨rfl, Turn.of_below hb (Nat.le_refl _), q, ?_⟩
    rw [HL.out]
    exact HD.out.below hb
end Go.Proofs.YtohdgjmmekgcmaaDoor

/-
  pmem: Fence.
-/
namespace Go.Proofs.YtohdgjmmekgcmaaDoor
open Go.RowKit Go.Shelf

/-- A slice's own block, where it has elements. -/
theorem GrowV.row {W : World} {e : TypeId} {size : Nat} {a : Option Addr} {c : Nat} {n : Nat} {xs : List Value} (h : GrowV W e size (.slice a n c) n xs) (hn : 0 < n) : ∃ g, a = some ⟨g, 0, none⟩ ∧ W.ownsRow 0 e size (.slice (some ⟨g, 0, none⟩) n c) n xs := by
  rcases h with ⟨h, _⟩ | h
  · omega
  · rcases h.2 with ⟨_, h0⟩ | ⟨g, cap, cur, e0, _⟩
    · omega
    · simp only [Value.slice.injEq] at e0
      obtain ⟨rfl, -, rfl⟩ := e0
      exact ⟨g, rfl, h⟩
theorem GrowV.slice_n {W : World} {e : TypeId} {size : Nat} {v : Value} {n : Nat} {xs : List Value} (h : GrowV W e size v n xs) : ∃ a c, v = .slice a n c := by
  rcases h with ⟨rfl, _, ad, rfl⟩ | h
  · exact ⟨_, _, rfl⟩
  · exact own_slice h
theorem wait_block {W : World} {b : Nat} {x : Nat × List Int} {t : TypeId} (h : W.heap[b]? = some (.cells (waitA x) t (0, 0))) : W.cell? ⟨b, 0, none⟩ = some (.int .i64 (x.1 : Nat)) ∧ W.rangeAt b 1 (vals x.2) := by
  refine ⟨(cell_of_row W b 0 _ _ _ h).trans rfl, fun j v hv => ?_⟩
  rw [cell_of_row W b (1 + j) _ _ _ h, ← hv]
  simp [waitA, Nat.add_comm 1 j]
set_option maxRecDepth 100000 in
set_option maxHeartbeats 2000000 in
theorem fence_any {F : Nat → Prop} {B S T n cS cT : Nat} {q : Value} {d : Dv} (w : World) (h : DevB w F B S T n cS cT q d) :
    Calls Tryd.prog 26 #[.pointer (some ⟨B, 0, none⟩)] w fun e w' => e = .returned (.int .i64 0) ∧ Turn F w w' ∧ ∃ q', DevB w' F B S T n cS cT q' d.fence := by
  have HM := Lib.hid (missing_any w h)
  obtain ⟨a, c, rfl⟩ := h.waits.slice_n
  have HD := Lib.hid h; clear h
  have c2 := HD.out.cell2
  have hlB := HD.out.lt.1
  obtain ⟨N, hN⟩ : ∃ N, d.waits.length = N := ⟨_, rfl⟩
  rw [hN] at c2
  have HN := Lib.hid hN
  have hNN : N ≤ 1024 := by have := HD.out.ok.few; have := HD.out.most; omega
  clear hN
  have H0 : Hid (DevB w F B S T n cS cT (.slice a d.waits.length c) { d with stays := putAll d.stays (d.waits.take 0) }) := HD
  go_enter Tryd.func26, Tryd.ntmps26
  go_wp2_with fail
  refine wp_scope_forward 0 rfl ?_
  go_wp2_with fail
  refine HM.out.mono ?_
  rintro e w1 ⟨rfl, rfl⟩
  go_wp2_with fail
  go_loopw [15] (fun i wr => ∃ k : Nat, k ≤ N ∧ i = .int .i64 (k : Nat) ∧ Hid (DevB wr F B S T n cS cT (.slice a d.waits.length c) { d with stays := putAll d.stays (d.waits.take k) }) ∧ Hid (Turn F w wr)) (fun i _ => N - (intOf i).toNat)
  case atStart => exact ⟨0, by omega, rfl, H0, Lib.hid (Turn.refl _ _)⟩
  case round =>
    obtain ⟨k, hk, rfl, HK, HT⟩ := hrel
    clear H0 c2
    by_cases hlt : k < N
    · obtain ⟨g, rfl, hrow⟩ := HK.out.waits.row (by show 0 < d.waits.length; rw [HN.out]; omega)
      have hkl : k < d.waits.length := by rw [HN.out]; exact hlt
      have hw8 : ∀ x ∈ d.waits, x.2.length = 8 := fun x hx => (HK.out.ok.waits x hx).2
      have hld := load_wait Tryd.underlying113 rfl (by kernel_rfl) hrow hw8 k hkl
      have hTK := take_snoc d.waits k hkl
      obtain ⟨x, hx⟩ : ∃ x, d.waits[k]?.getD (0, []) = x := ⟨_, rfl⟩
      rw [hx] at hld hTK
      have hx9 : x.1 < n ∧ x.2.length = 8 := by
        rw [← hx, List.getElem?_eq_getElem hkl, Option.getD_some]
        exact HK.out.ok.waits _ (List.getElem_mem hkl)
      have hinfo : (Tryd.prog.info? 113).map (·.size) = some (waitA x).size := by rw [waitA_size hx9.2]; kernel_rfl
      have HX1 : Hid ((waitA x).all (·.oneCell') = true) := show _ = true from Array.all_eq_true_iff_forall_mem.2 fun v hv => cellsW_one [x] v (by rw [cellsW_cons]; simp [cellsW]; simpa using hv)
      have HSN := Lib.hid (run_storeAt_new (P := Tryd.prog) wr 113 #[.int .i64 0, .int .u64 0, .int .u64 0, .int .u64 0, .int .u64 0, .int .u64 0, .int .u64 0, .int .u64 0, .int .u64 0] (waitA x) hinfo (by rw [waitA_size hx9.2]; rfl) HX1.out)
      obtain ⟨l, hl⟩ : ∃ l, x.1 = l := ⟨_, rfl⟩
      obtain ⟨L, hL⟩ : ∃ L, x.2 = L := ⟨_, rfl⟩
      have hwb := wait_block (x := x) (World.alloc_heap_new wr (.cells (waitA x) 113))
      have HD2 := Lib.hid (HK.out.below ((Below.refl _ _).alloc (Nat.le_refl _) (.cells (waitA x) 113)))
      obtain ⟨X, hX⟩ : ∃ X, waitA x = X := ⟨_, rfl⟩
      rw [hX] at hld HSN hwb HD2
      rw [hl, hL] at hwb
      rw [hl, hL] at hx9
      have HLD := Lib.hid hld
      have HTK := Lib.hid hTK
      have HXX : Hid (x.1 = l ∧ x.2 = L) := show _ ∧ _ from ⟨hl, hL⟩
      have k2 : (k : Int) < (N : Int) := by omega
      clear hld hTK hx hinfo hX hl hL hrow hw8
      go_wp2_with (first | (refine wpList_load_eq rfl 113 _ rfl _ _ rfl HLD.out ?_) | (refine wpList_store_eq rfl 113 _ _ rfl _ _ rfl rfl HSN.out ?_))
      have hl2 : (l : Int) < (n : Int) := by omega
      have hS3 := HD2.out.below (Below.drew (Below.refl _ _))
      have HLS := Lib.hid (store_line (t := 110) (by kernel_rfl) hS3.stays l hx9.1 hx9.2)
      have HPL := Lib.hid (row_putLine hS3.stays l hx9.1 _ hx9.2)
      have HLR := Lib.hid (fun (w' : World) (h : w'.cell? ⟨B, 1, none⟩ = some (.slice (some ⟨T, 0, none⟩) n cT) ∧ w'.cell? ⟨wr.heap.size, 0, none⟩ = some (.int .i64 (l : Nat)) ∧ w'.rangeAt wr.heap.size 1 (vals L)) =>
        run_loadAt_mid (P := Tryd.prog) w' wr.heap.size 1 110 _ _ h.2.2 Tryd.underlying110 rfl (by rw [vals_length, hx9.2]; kernel_rfl))
      refine wp_region_M 9 (fun w' => w'.cell? ⟨B, 1, none⟩ = some (.slice (some ⟨T, 0, none⟩) n cT) ∧ w'.cell? ⟨wr.heap.size, 0, none⟩ = some (.int .i64 (l : Nat)) ∧ w'.rangeAt wr.heap.size 1 (vals L)) (by kernel_rfl) ?_
      have hR : (fun w' : World => w'.cell? ⟨B, 1, none⟩ = some (.slice (some ⟨T, 0, none⟩) n cT) ∧ w'.cell? ⟨wr.heap.size, 0, none⟩ = some (.int .i64 (l : Nat)) ∧ w'.rangeAt wr.heap.size 1 (vals L)) (wr.alloc (.cells X 113)).drew := ⟨hS3.cell1, hwb.1, hwb.2⟩
      clear hS3 hwb
      (refine wpAnyM_take (i := 0) (v := ?_) rfl (by kernel_rfl) (by kernel_rfl) (fun _ _ _ h => h) (Or.inl ⟨by rfl, ?_⟩) hR ?_; rotate_left; (focus (intro w hSw; (try dsimp only at hSw); go_simp; (try with_reducible rfl))); (try simp only [put_laws])); (refine wpAnyM_take (i := 1) (v := ?_) rfl (by kernel_rfl) (by kernel_rfl) (fun _ _ _ h => h) (Or.inl ⟨by rfl, ?_⟩) hR ?_; rotate_left; (focus (intro w hSw; (try dsimp only at hSw); go_simp; (try with_reducible rfl))); (try simp only [put_laws])); (refine wpAnyM_take (i := 2) (v := ?_) rfl (by kernel_rfl) (by kernel_rfl) (fun _ _ _ h => h) (Or.inl ⟨by rfl, ?_⟩) hR ?_; rotate_left; (focus (intro w hSw; (try dsimp only at hSw); go_simp; (try with_reducible rfl))); (try simp only [put_laws])); (refine wpAnyM_take (i := 3) (v := ?_) rfl (by kernel_rfl) (by kernel_rfl) (fun _ _ _ h => h) (Or.inl ⟨by rfl, ?_⟩) hR ?_; rotate_left; (focus (intro w hSw; (try dsimp only at hSw); go_simp; (try with_reducible rfl))); (try simp only [put_laws])); (refine wpAnyM_take (i := 4) (v := ?_) rfl (by kernel_rfl) (by kernel_rfl) (fun _ _ _ h => h) (Or.inl ⟨by rfl, ?_⟩) hR ?_; rotate_left; (focus (intro w hSw; (try dsimp only at hSw); go_simp; (try with_reducible rfl))); (try simp only [put_laws])); (refine wpAnyM_take (i := 5) (v := ?_) rfl (by kernel_rfl) (by kernel_rfl) (fun _ _ _ h => h) (Or.inl ⟨by rfl, ?_⟩) hR ?_; rotate_left; (focus (intro w hSw; (try dsimp only at hSw); go_simp; (try with_reducible rfl))); (try simp only [put_laws])); (refine wpAnyM_take (i := 6) (v := ?_) rfl (by kernel_rfl) (by kernel_rfl) (fun _ _ _ h => h) (Or.inl ⟨by rfl, ?_⟩) hR ?_; rotate_left; (focus (intro w hSw; (try dsimp only at hSw); go_simp; (try with_reducible rfl))); (try simp only [put_laws]))
      (refine wpAnyM_take (i := 7) (v := _) rfl (by kernel_rfl) (by kernel_rfl) (fun _ _ _ h => h) (Or.inl ⟨by rfl, fun w hSw => exec_load_eq rfl rfl (HLR.out w hSw)⟩) hR ?_; (try simp only [put_laws]))
      (refine wpAnyM_take (i := 8) (v := ?_) rfl (by kernel_rfl) (by kernel_rfl) (fun _ _ _ h => h) (Or.inl ⟨by rfl, ?_⟩) hR ?_; rotate_left; (focus (intro w hSw; (try dsimp only at hSw); go_simp; (try with_reducible rfl))); (try simp only [put_laws]))
      (refine wpAnyM_last rfl (by kernel_rfl) (fun K hK => ?_); rw [if_pos (by rfl)]; (try simp only [elem_laws]))
      refine wp_store_eq 110 _ _ rfl _ _ rfl rfl HLS.out ?_
      refine hK _ _ ?_
      clear hK K
      (try simp only [put_laws])
      refine wpAnyM_done (by kernel_rfl) ?_ _
      clear hR
      have HD4 := Lib.hid ((HD2.out.below (Below.drew (Below.refl _ _))).set_stays HPL.out.2 HPL.out.1)
      have HT4 : Hid (Turn F w (((wr.alloc (.cells X 113)).drew).setCells T (l * 8) (vals L))) := show Turn _ _ _ from HT.out.trans ((Turn.of_below (Below.drew ((Below.refl _ _).alloc (Nat.le_refl _) _)) (Nat.le_refl _)).trans (HPL.out.2.mono fun k e => by rw [e]; exact HD2.out.inT))
      obtain ⟨W5, hW5⟩ : ∃ W5, ((wr.alloc (.cells X 113)).drew).setCells T (l * 8) (vals L) = W5 := ⟨_, rfl⟩
      rw [hW5] at HD4 HT4
      rw [hW5]
      clear hW5 HPL HLS
      go_wp2_with fail
      go_roundw
      case rel =>
        refine ⟨k + 1, by omega, by go_num, ?_, HT4⟩
        rw [HTK.out, putAll_snoc, HXX.out.1, HXX.out.2]
        exact HD4
      case measure => simp [intOf]; omega
    · obtain rfl : k = N := by omega
      have c2 := HK.out.cell2
      have f2 := HK.out.frozen 2
      have hlB2 := HK.out.lt.1
      rw [HN.out] at c2
      go_wp2_with fail
      go_step3
      go_wp2
      rw [Exit.jump_ret]
      go_ret
      refine ⟨rfl, HT.out.trans (Turn.setCell (q := F) wr _ HK.out.inB), .slice none 0 0, ?_⟩
      have hfe : d.fence = { (⟨d.seen, putAll d.stays (d.waits.take k), d.waits⟩ : Dv) with waits := [] } := by
        unfold Dv.fence
        rw [List.take_of_length_le (Nat.le_of_eq HN.out)]
      rw [hfe]
      refine HK.out.set_waits (p := fun _ => False) (F' := F) (Turn.refl _ _) ⟨id, id, id⟩ (.inr (World.ownsRow_nil _ _ _ _)) (fun _ h => h) (.inr fun g hg => by cases hg) (fun k hk => ⟨HK.out.far k hk, HK.out.live k hk⟩) ?_
      exact ⟨HK.out.ok.seen, HK.out.ok.stays, by simp, by simp⟩
end Go.Proofs.YtohdgjmmekgcmaaDoor

/-
  A region that draws its order, inside a fence, in a round too: what only reads comes first, as long as a condition on the world holds, which the operation that waits for all others need not keep.
-/
namespace Go.Proofs.YtohdgjmmekgcmaaDoor
open Go.RowKit Go.Shelf

section
variable {Fc : Fence} {n : Nat} {P : Program} {md : Region.Mode} {ops : Array Oper} {Q : Exit → Act → World → Prop} {m : Nat} {R : World → Prop}
/-- It only reads, and calls nothing. -/
def ReadsIf (P : Program) (ops : Array Oper) (R : World → Prop) (o : Oper) (v : Value) (a : Act) : Prop := YieldsIf P ops R o v a ∧ ∀ w, o.about P w a.eval = none
def NoDefers (ops : Array Oper) : Prop := ∀ (j : Nat) o, ops[j]? = some o → ∀ c, o.op ≠ .defer c
theorem noDefers_of {l : List Oper} (h : l.all noDefer = true) : NoDefers l.toArray := fun j o ho => noDefer_spec ((List.all_eq_true.1 h) o (List.mem_of_getElem? (by simpa using ho)))
theorem ReadsIf.wpOpIn {i : Nat} {o : Oper} {v : Value} {a : Act} (hd : NoDefers ops) (hi : ops[i]? = some o) (hy : ReadsIf P ops R o v a) {K : Act → World → Prop} {w : World} (hw : R w) (h : K (a.put o.dst v) w) : wpOpIn Fc n P ops Q i K a w := by
  have hab : ∀ f, o.about P w a.eval = some f → Fc.fn f := fun f hf => by rw [hy.2 w] at hf; cases hf
  unfold Go.wpOpIn
  simp only [hi]
  rcases hy.1 with ⟨h1, h2⟩ | ⟨h1, rfl⟩
  · rw [if_pos h1]
    unfold Oper.wpIn
    rw [Oper.semAt_plain _ _ _ (hd i o hi), h2 w hw]
    exact ⟨hab, h⟩
  · rw [if_neg (by rw [h1]; decide)]
    exact ⟨hab, h⟩
theorem wpOpIn_read {j : Nat} {oi oj : Oper} {v : Value} (hd : NoDefers ops) (hj : ops[j]? = some oj) (hap : oi.apart ops oj = true) (hsi : ∀ cs b, oi.op ≠ .select cs b) (hsj : ∀ cs b, oj.op ≠ .select cs b)
    (hQ : ∀ c a w, Q (.panic c) (a.put oi.dst v) w → Q (.panic c) a w) {K : Act → World → Prop} {a : Act} {w : World} (hy : ReadsIf P ops R oi v a) (h : wpOpIn Fc n P ops Q j K (a.put oi.dst v) w) :
    wpOpIn Fc n P ops Q j (fun a' w' => ReadsIf P ops R oi v a' ∧ K (a'.put oi.dst v) w') a w := by
  obtain ⟨h1, h2, h3⟩ := Oper.apart_spec hap
  have same : ∀ u, ReadsIf P ops R oi v (a.put oj.dst u) := fun u => ⟨hy.1.of_same (execOp_put oi hsi a oj.dst u h3) (wanted_put oi a oj.dst u h3), fun w => by rw [about_put oi w a oj.dst u h3]; exact hy.2 w⟩
  have turn : ∀ u w', K ((a.put oi.dst v).put oj.dst u) w' → ReadsIf P ops R oi v (a.put oj.dst u) ∧ K ((a.put oj.dst u).put oi.dst v) w' := fun u w' hk => ⟨same u, by rw [← Act.put_comm a v u h2]; exact hk⟩
  have hnd := hd j oj hj
  unfold Go.wpOpIn at h ⊢
  simp only [hj] at h ⊢
  rw [wanted_put oj a oi.dst v h1, about_put oj w a oi.dst v h1] at h
  by_cases hw : Region.wanted oj (yielded ops a.tmps) = true
  · rw [if_pos hw] at h ⊢
    unfold Oper.wpIn at h ⊢
    rw [about_put oj w a oi.dst v h1, Oper.semAt_plain _ _ _ hnd, execOp_put oj hsj a oi.dst v h1] at h
    rw [Oper.semAt_plain _ _ _ hnd]
    refine ⟨h.1, ?_⟩
    have h4 := h.2
    generalize hr : (execOp a.eval oj).run P w = r at *
    cases r with
    | halt x w' =>
      cases x <;> simp only [Oper.uponIn] at h4 ⊢
      case panic u => exact hQ _ _ _ h4
    | ok x w' =>
      cases x <;> simp only [Oper.uponIn] at h4 ⊢
      case value u => exact turn u w' h4
      case skip => exact turn _ w' h4
      case defer d =>
        have hyD : ReadsIf P ops R oi v { a with defers := d :: a.defers } := ⟨hy.1.of_same rfl rfl, fun w => hy.2 w⟩
        refine ⟨⟨hyD.1.of_same (execOp_put oi hsi _ oj.dst undef h3) (wanted_put oi _ oj.dst undef h3), fun w => by rw [about_put oi w _ oj.dst undef h3]; exact hyD.2 w⟩, ?_⟩
        rw [← Act.put_comm _ v undef h2, ← Act.put_defers]
        exact h4
      case enter f args =>
        refine ⟨h4.1, CallsIn.mono h4.2 fun e w'' he => ?_⟩
        cases e with
        | returned u => exact turn u w'' he
        | panicked c => exact hQ _ _ _ he
        | outgrown => exact he
      case row row args => exact ⟨h4.1, RowsIn.mono h4.2 fun u w'' he => turn u w'' he⟩
      case round l f tmps assign body =>
        refine ⟨h4.1, RoundIn.mono h4.2 fun e w'' he => ?_⟩
        cases e with
        | returned u => exact turn u w'' he
        | panicked c => exact hQ _ _ _ he
        | outgrown => exact he
  · rw [if_neg hw] at h ⊢
    exact ⟨h.1, turn _ w h.2⟩
def wpAnyN (Fc : Fence) (n : Nat) (P : Program) (md : Region.Mode) (ops : Array Oper) (Q : Exit → Act → World → Prop) (m : Nat) (R : World → Prop) : Nat → Array Bool → Act → World → Prop
  | 0, l, a, w => wpAnyIn Fc n P md ops Q 0 l a w
  | f + 1, l, a, w => (Region.ready md ops l = [] → Q .normal a w) ∧ ∀ i ∈ Region.ready md ops l, wpOpIn Fc n P ops Q i (fun a' w' => Till m R (l.setIfInBounds i true) w' ∧ wpAnyN Fc n P md ops Q m R f (l.setIfInBounds i true) a' w') a w
theorem wpAnyIn_of_N : ∀ (f : Nat) (l : Array Bool) (a : Act) (w : World), wpAnyN Fc n P md ops Q m R f l a w → wpAnyIn Fc n P md ops Q f l a w
  | 0, _, _, _, h => h
  | f + 1, _, _, _, h => ⟨h.1, fun i hi => wpOpIn_mono (fun a' w' h' => wpAnyIn_of_N f _ a' w' h'.2) (h.2 i hi)⟩
theorem wpAnyN_first {i : Nat} {oi : Oper} {v : Value} (hd : NoDefers ops) (hi : ops[i]? = some oi) (hsel : ∀ (j : Nat) (o : Oper) cs b, ops[j]? = some o → o.op ≠ .select cs b)
    (hQ : ∀ c a w, Q (.panic c) (a.put oi.dst v) w → Q (.panic c) a w) (hmi : m ≠ i) (hmw : Region.waitsFor md ops m i = true) : ∀ (f : Nat) (l : Array Bool) (a : Act) (w : World),
      (∀ j oj, ops[j]? = some oj → j ≠ i → l.getD j true = false → (∀ e ∈ oj.after, Region.binds md e = true → e.on ≠ i) → oi.apart ops oj = true) →
      i ∈ Region.ready md ops l → l.getD m true = false → ReadsIf P ops R oi v a → R w →
      wpAnyN Fc n P md ops Q m R f (l.setIfInBounds i true) (a.put oi.dst v) w → wpAnyN Fc n P md ops Q m R (f + 1) l a w
  | f, l, a, w, hfree, hr, hml, hy, hw, H => by
    have hil := (mem_ready.1 hr).1
    refine ⟨fun h => (by rw [h] at hr; cases hr), fun j hj => ?_⟩
    by_cases hji : j = i
    · subst hji
      exact hy.wpOpIn hd hi hw ⟨fun _ => hw, H⟩
    · have hrj := ready_mono hj hji
      cases f with
      | zero =>
        have h0 := H.1
        rw [h0] at hrj
        cases hrj
      | succ f =>
        obtain ⟨hjun, oj, hoj, -⟩ := mem_ready.1 hj
        have hnot := unlisted_not hj hoj hil
        have hjm : j ≠ m := by
          rintro rfl
          obtain ⟨om, hom, e, he, hb, hon⟩ := Region.waitsFor_spec hmw
          exact unlisted_not hj hom hil e he hb hon
        have h2 := wpOpIn_read hd hoj (hfree j oj hoj hji hjun hnot) (fun cs b => hsel i oi cs b hi) (fun cs b => hsel j oj cs b hoj) hQ hy (H.2 j hrj)
        refine wpOpIn_mono (fun a' w' h3 => ?_) h2
        obtain ⟨hya, hTa, hMa⟩ := h3
        have hml2 : (l.setIfInBounds j true).getD m true = false := by rw [getD_set_ne true hjm]; exact hml
        have hw2 : R w' := hTa (by rw [getD_set_ne true hjm, getD_set_ne true (Ne.symm hmi)]; exact hml)
        refine ⟨fun _ => hw2, wpAnyN_first hd hi hsel hQ hmi hmw f (l.setIfInBounds j true) a' w' (fun k ok hk hki hku hno => ?_) (ready_mono hr (Ne.symm hji)) hml2 hya hw2 ?_⟩
        · exact hfree k ok hk hki (getD_set_true hku) hno
        · rw [Array.setIfInBounds_comm _ _ hji]; exact hMa
theorem wpAnyN_take {i : Nat} {oi : Oper} {v : Value} {f : Nat} {l : Array Bool} {a : Act} {w : World} (hd : NoDefers ops) (hi : ops[i]? = some oi) (hs : Region.noSelect ops = true)
    (hc : (Region.free md ops l i && (Region.ready md ops l).contains i && (m != i) && Region.waitsFor md ops m i && !(l.getD m true)) = true)
    (hQ : ∀ c a w, Q (.panic c) (a.put oi.dst v) w → Q (.panic c) a w) (hb : ∀ w, oi.about P w a.eval = none) (hy : YieldsIf P ops R oi v a) (hw : R w)
    (h : wpAnyN Fc n P md ops Q m R f (l.setIfInBounds i true) (a.put oi.dst v) w) : wpAnyN Fc n P md ops Q m R (f + 1) l a w := by
  simp only [Bool.and_eq_true, bne_iff_ne, ne_eq, Bool.not_eq_true'] at hc
  obtain ⟨⟨⟨⟨h1, h2⟩, h3⟩, h4⟩, h5⟩ := hc
  exact wpAnyN_first hd hi (Region.noSelect_spec hs) hQ h3 h4 f l a w (Region.free_spec hi h1) (by simpa using h2) h5 ⟨hy, hb⟩ hw h
theorem wpAnyN_one {i : Nat} {oi : Oper} {f : Nat} {l : Array Bool} {a : Act} {w : World} (hi : ops[i]? = some oi) (hr : Region.ready md ops l = [i]) (hg : Region.wanted oi (yielded ops a.tmps) = true)
    (h : ∀ K : Act → World → Prop, (∀ a' w', ((l.setIfInBounds i true).getD m true = false → R w') → wpAnyN Fc n P md ops Q m R f (l.setIfInBounds i true) a' w' → K a' w') → Oper.wpIn Fc n P oi a w K Q) : wpAnyN Fc n P md ops Q m R (f + 1) l a w := by
  refine ⟨fun h0 => (by rw [h0] at hr; cases hr), fun j hj => ?_⟩
  rw [hr] at hj
  obtain rfl : j = i := by simpa using hj
  unfold wpOpIn
  simp only [hi]
  rw [if_pos hg]
  exact h _ fun a' w' h1 h2 => ⟨h1, h2⟩
theorem wpAnyN_last {om : Oper} {f : Nat} {l : Array Bool} {a : Act} {w : World} (hi : ops[m]? = some om) (hr : Region.ready md ops l = [m]) (hg : Region.wanted om (yielded ops a.tmps) = true)
    (h : ∀ K : Act → World → Prop, (∀ a' w', wpAnyN Fc n P md ops Q m R f (l.setIfInBounds m true) a' w' → K a' w') → Oper.wpIn Fc n P om a w K Q) : wpAnyN Fc n P md ops Q m R (f + 1) l a w :=
  wpAnyN_one hi hr hg fun K hK => h K fun a' w' hM => hK a' w' (fun h0 => by
    rcases Nat.lt_or_ge m l.size with h' | h'
    · simp [h'] at h0
    · rw [Array.getD_eq_getD_getElem?, Array.getElem?_eq_none (by simpa using h')] at h0
      cases h0) hM
theorem wpAnyN_done {l : Array Bool} {a : Act} {w : World} (hr : Region.ready md ops l = []) (h : Q .normal a w) : ∀ f, wpAnyN Fc n P md ops Q m R f l a w
  | 0 => ⟨hr, h⟩
  | _ + 1 => ⟨fun _ => h, by rw [hr]; simp⟩
theorem wpIn_region_N {id : Nat} {a : Act} {w : World} (m : Nat) (R : World → Prop) (hm : P.follows .mixedOrders = true)
    (h : wpAnyN Fc n P .any ops Q m R ops.size (Array.replicate ops.size false) a w.drew) : (Code.region id ops true).wpIn Fc n P Q a w :=
  wpIn_region_any hm (wpAnyIn_of_N _ _ _ _ h)
/-- A load of which the run is known. -/
theorem wpIn_load_eq {w : World} {a : Act} {o : Oper} {K : Act → World → Prop} (ty : TypeId) (x : Operand) (ho : o.op = .load ty x) (p v : Value) (hx : a.eval x = p) (hr : (Instr.loadAt ty p).run P w = .ok v w) (h : K (a.put o.dst v) w) : o.wpIn Fc n P a w K Q := by
  unfold Oper.wpIn
  refine ⟨by simp [Oper.about, ho], ?_⟩
  rw [Oper.semAt_plain Fc _ _ (by rw [ho]; intro c hc; cases hc)]
  unfold execOp
  simp only [ho, hx, hr, Sem.run_bind, Result.andThen_ok]
  exact h
theorem wpIn_store_eq {w w' : World} {a : Act} {o : Oper} {K : Act → World → Prop} (ty : TypeId) (x y : Operand) (ho : o.op = .store ty x y) (p v : Value) (hx : a.eval x = p) (hy : a.eval y = v) (hr : (Instr.storeAt ty p v).run P w = .ok () w') (h : K (a.put o.dst undef) w') : o.wpIn Fc n P a w K Q := by
  unfold Oper.wpIn
  refine ⟨by simp [Oper.about, ho], ?_⟩
  rw [Oper.semAt_plain Fc _ _ (by rw [ho]; intro c hc; cases hc)]
  unfold execOp
  simp only [ho, hx, hy, hr, Sem.run_bind, Result.andThen_ok]
  exact h
theorem wpListIn_load_eq {w : World} {a : Act} {o : Oper} {rest : List Oper} (hgd : o.guard = none) (ty : TypeId) (x : Operand) (ho : o.op = .load ty x) (p v : Value) (hx : a.eval x = p) (hr : (Instr.loadAt ty p).run P w = .ok v w) (h : wpListIn Fc n P ops Q rest (a.put o.dst v) w) : wpListIn Fc n P ops Q (o :: rest) a w :=
  wpListIn_plain hgd fun _ hK => wpIn_load_eq ty x ho p v hx hr (hK _ _ h)
theorem wpListIn_store_eq {w w' : World} {a : Act} {o : Oper} {rest : List Oper} (hgd : o.guard = none) (ty : TypeId) (x y : Operand) (ho : o.op = .store ty x y) (p v : Value) (hx : a.eval x = p) (hy : a.eval y = v) (hr : (Instr.storeAt ty p v).run P w = .ok () w') (h : wpListIn Fc n P ops Q rest (a.put o.dst undef) w') : wpListIn Fc n P ops Q (o :: rest) a w :=
  wpListIn_plain hgd fun _ hK => wpIn_store_eq ty x y ho p v hx hy hr (hK _ _ h)
end
end Go.Proofs.YtohdgjmmekgcmaaDoor

/-
  pmem: the iterators over what waits, and over lines' numbers.
-/
namespace Go.Proofs.YtohdgjmmekgcmaaDoor
open Go.RowKit Go.Shelf
attribute [local go_sem] Oper.semAt_some

theorem finRange_snoc (m k : Nat) (h : k < m) : (List.finRange m).take k ++ [⟨k, h⟩] = (List.finRange m).take (k + 1) := by
  rw [List.take_succ_eq_append_getElem (by simpa using h)]; simp
/-- The k-th that waits. -/
def ithW (l : List (Nat × List Int)) (k : Nat) : Nat × List Int := l[k]?.getD (0, [])
def encW (l : List (Nat × List Int)) (y : Fin l.length) : Array Value := #[.int .i64 (y.1 : Nat), .agg (waitA (ithW l y.1))]
theorem allW_any (a : Option Addr) (n c : Nat) (w : World) :
    Calls Tryd.prog 66 #[.slice a n c] w fun e w' => e = .returned (.func (.func 96) #[] #[.pointer (some ⟨w.heap.size, 0, none⟩)]) ∧ w' = w.alloc (.cells #[.slice a n c] 97) := by
  go_enter Tryd.func66, Tryd.ntmps66
  go_wp2
  go_ret
  exact ⟨rfl, rfl⟩
set_option maxRecDepth 100000 in
set_option maxHeartbeats 4000000 in
theorem allW_seq (n : Nat) (hn : 1 ≤ n) (Bs g c : Nat) (a : Option Addr) (l : List (Nat × List Int)) (hm : l.length ≤ 100000) (hl : ∀ x ∈ l, x.2.length = 8) (w : World) (ha : 0 < l.length → a = some ⟨g, 0, none⟩ ∧ w.ownsRow 0 113 9 (.slice (some ⟨g, 0, none⟩) l.length c) l.length (cellsW l)) (hB : Boxed w Bs 97 (.slice a l.length c)) :
    SeqF (fun k => k = g) n Tryd.prog 96 #[.pointer (some ⟨Bs, 0, none⟩)] (encW l) (fun ys => ys = List.finRange l.length) (fun pre => pre <+: List.finRange l.length) w := fun lp J Jx W hW hJ hJx hY h0 => by
  have c0 : W.cell? ⟨Bs, 0, none⟩ = some (.slice a l.length c) := Boxed.cell ((hW.block _ hB.lt).trans hB)
  have hlB : Bs < W.heap.size := Nat.lt_of_lt_of_le hB.lt hW.size
  have HA := Lib.hid (fun h : 0 < l.length => And.intro (ha h).1 (And.intro (own_lt2 (ha h).2) (own_keeps (ha h).2 fun h => hW.block _ h)))
  have HY := Lib.hid hY
  have HJ := Lib.hid hJ
  have HJX := Lib.hid hJx
  have HL := Lib.hid hl
  have zW := hW.size
  clear hY hJ hJx ha hl hB
  obtain ⟨m, hmm⟩ : ∃ m, l.length = m := ⟨_, rfl⟩
  have HM := Lib.hid hmm
  rw [hmm] at c0 hm
  clear hmm
  refine callsIn_of_wp Tryd.func96 rfl trivial ?_ rfl
  simp only [Tryd.ntmps96, List.size_toArray, List.length_cons, List.length_nil, Nat.reduceAdd, Nat.reduceSub, Array.replicate_succ, Array.replicate_zero, List.push_toArray, List.append_toArray, List.nil_append, List.cons_append]
  gi_wp2_with fail
  gi_loopw [7] (fun i wr => ∃ k : Nat, k ≤ m ∧ i = .int .i64 (k : Nat) ∧ Hid (J ((List.finRange l.length).take k) (fun _ => False) wr) ∧ Hid (Keeps (fun q => q = g) W wr)) (fun i _ => m - (intOf i).toNat)
  case atStart => exact ⟨0, Nat.zero_le _, rfl, Lib.hid (by simpa using h0), Lib.hid (Keeps.refl _ _)⟩
  case round =>
    obtain ⟨k, hk, rfl, HJs, HKP⟩ := hrel
    clear c0
    by_cases hlt : k < m
    · have hkl : k < l.length := by rw [HM.out]; exact hlt
      obtain ⟨rfl, hgw, hrow0⟩ := HA.out (by omega)
      have zr := HKP.out.1
      have hrow : wr.ownsRow 0 113 9 (.slice (some ⟨g, 0, none⟩) l.length c) l.length (cellsW l) := own_keeps hrow0 (fun h => HKP.out.2 g rfl h)
      have hld := load_wait Tryd.underlying113 rfl (by kernel_rfl) hrow HL.out k hkl
      have hx8 : (ithW l k).2.length = 8 := by
        unfold ithW
        rw [List.getElem?_eq_getElem hkl, Option.getD_some]
        exact HL.out _ (List.getElem_mem hkl)
      rw [show l[k]?.getD (0, []) = ithW l k from rfl] at hld
      have hinfo : (Tryd.prog.info? 113).map (·.size) = some (waitA (ithW l k)).size := by rw [waitA_size hx8]; kernel_rfl
      have HX1 : Hid ((waitA (ithW l k)).all (·.oneCell') = true) := show _ = true from Array.all_eq_true_iff_forall_mem.2 fun v hv => cellsW_one [ithW l k] v (by rw [cellsW_cons]; simp [cellsW]; simpa using hv)
      have HSN := Lib.hid (run_storeAt_new (P := Tryd.prog) wr 113 #[.int .i64 0, .int .u64 0, .int .u64 0, .int .u64 0, .int .u64 0, .int .u64 0, .int .u64 0, .int .u64 0, .int .u64 0] (waitA (ithW l k)) hinfo (by rw [waitA_size hx8]; rfl) HX1.out)
      have HLN := Lib.hid (load_blk Tryd.underlying113 rfl hinfo (World.alloc_heap_new wr (.cells (waitA (ithW l k)) 113)))
      have HF := Lib.hid (finRange_snoc l.length k hkl)
      have hJ1 := HJ.out _ _ (fun _ => False) _ _ HJs.out (Turn.of_below ((Below.refl _ _).alloc (Nat.le_refl _) (.cells (waitA (ithW l k)) 113)) (Nat.le_refl _)) (fun q h => h.elim)
      obtain ⟨fn, tmps, assign, body, hy, hR⟩ := HY.out _ ⟨k, hkl⟩ _ _ hJ1 (by simp; omega) (fun q h => h.elim) (by rw [HF.out]; exact List.take_prefix _ _)
      rw [HF.out] at hR
      have HR := Lib.hid hR
      unfold encW at hy
      dsimp only at hy
      obtain ⟨X, hX⟩ : ∃ X, waitA (ithW l k) = X := ⟨_, rfl⟩
      rw [hX] at hld HSN HLN hy HR
      have HLD := Lib.hid hld
      have k2 : (k : Int) < (m : Int) := by omega
      clear hld hR hrow hrow0 hinfo hJ1 hX HX1
      gi_wp2_with (first | (refine wpListIn_load_eq rfl 113 _ rfl _ _ rfl HLD.out ?_) | (refine wpListIn_store_eq rfl 113 _ _ rfl _ _ rfl rfl HSN.out ?_) | (refine wpListIn_load_eq rfl 113 _ rfl _ _ rfl HLN.out ?_))
      refine HR.out.mono ?_
      rintro e W3 ⟨hk3, ⟨rfl, hJ3⟩ | ⟨rfl, hJx3⟩⟩
      · have HKP3 : Hid (Keeps (fun q => q = g) W W3) := show Keeps _ _ _ from HKP.out.trans (Keeps.trans (B := wr.alloc (.cells X 113)) ⟨by simp, fun k _ hl => Below.heap_alloc _ _ _ hl⟩ (hk3.weaken fun k h => .inl h))
        have HJ3 := Lib.hid hJ3
        clear hy hk3 hJ3
        gi_wp2_with fail
        go_roundw
        case rel => exact ⟨k + 1, by omega, by go_num, HJ3, HKP3⟩
        case measure => simp [intOf]; omega
      · clear hy
        gi_wp2_with fail
        refine bodyPost_ret (results_none rfl _ _ _) rfl ?_
        exact ⟨⟨_, rfl⟩, .inr ⟨_, List.take_prefix _ _, hJx3⟩⟩
    · obtain rfl : k = m := by omega
      gi_wp2_with fail
      go_end0
      exact ⟨⟨_, rfl⟩, .inl ⟨_, by rw [List.take_of_length_le (by rw [List.length_finRange, HM.out]; exact Nat.le_refl _)], HJs.out⟩⟩
end Go.Proofs.YtohdgjmmekgcmaaDoor

/-
  As in HeldIn: the operation that comes last need not wait for each one itself.
-/
namespace Go.Proofs.YtohdgjmmekgcmaaDoor
open Go.RowKit Go.Shelf

section
variable {Fc : Fence} {n : Nat} {P : Program} {md : Region.Mode} {ops : Array Oper} {Q : Exit → Act → World → Prop} {m : Nat} {R : World → Prop}
/-- What the listed ones wait for is listed. -/
def Closed (md : Region.Mode) (ops : Array Oper) (l : Array Bool) : Prop := ∀ j oj, ops[j]? = some oj → l.getD j false = true → ∀ e ∈ oj.after, Region.binds md e = true → l.getD e.on false = true
def closedB (md : Region.Mode) (ops : Array Oper) (l : Array Bool) : Bool := (List.range ops.size).all fun j => match ops[j]? with
  | some oj => !(l.getD j false) || oj.after.all fun e => !(Region.binds md e) || l.getD e.on false
  | none => true
theorem closedB_spec {l : Array Bool} (h : closedB md ops l = true) : Closed md ops l := fun j oj hj hl e he hb => by
  have h1 := List.all_eq_true.1 h j (List.mem_range.2 (Array.getElem?_eq_some_iff.1 hj).1)
  simp only [hj, hl, Bool.not_true, Bool.false_or] at h1
  have h2 := Array.all_eq_true_iff_forall_mem.1 h1 e he
  simpa [hb] using h2
theorem Closed.set {l : Array Bool} {i : Nat} (h : Closed md ops l) (hi : i ∈ Region.ready md ops l) : Closed md ops (l.setIfInBounds i true) := fun j oj hj hl e he hb => by
  obtain ⟨_, oi, hoi, hall⟩ := mem_ready.1 hi
  by_cases hij : i = j
  · subst hij
    have : oj = oi := Option.some.inj (hj.symm.trans hoi)
    subst this
    exact Go.getD_set_true (hall e he hb)
  · rw [getD_set_ne false hij] at hl
    exact Go.getD_set_true (h j oj hj hl e he hb)
/-- m comes after i. -/
def late (md : Region.Mode) (ops : Array Oper) (i : Nat) : Nat → Nat → Bool
  | 0, m => Region.waitsFor md ops m i
  | f + 1, m => Region.waitsFor md ops m i || (List.range ops.size).any fun j => Region.waitsFor md ops m j && late md ops i f j
theorem late_spec {l : Array Bool} {i : Nat} (h : Closed md ops l) (hi : l.getD i true = false) : ∀ (f m : Nat), late md ops i f m = true → ∃ om, ops[m]? = some om ∧ ∃ e ∈ om.after, Region.binds md e = true ∧ l.getD e.on false = false
  | 0, m, hm => by
    obtain ⟨om, h1, e, h2, h3, h4⟩ := Region.waitsFor_spec hm
    exact ⟨om, h1, e, h2, h3, by rw [h4]; exact getD_both hi⟩
  | f + 1, m, hm => by
    unfold late at hm
    rcases Bool.or_eq_true_iff.1 hm with hm | hm
    · obtain ⟨om, h1, e, h2, h3, h4⟩ := Region.waitsFor_spec hm
      exact ⟨om, h1, e, h2, h3, by rw [h4]; exact getD_both hi⟩
    · obtain ⟨j, -, hj⟩ := List.any_eq_true.1 hm
      rw [Bool.and_eq_true] at hj
      obtain ⟨om, h1, e, h2, h3, h4⟩ := Region.waitsFor_spec hj.1
      obtain ⟨oj, k1, e', k2, k3, k4⟩ := late_spec h hi f j hj.2
      refine ⟨om, h1, e, h2, h3, ?_⟩
      rw [h4]
      cases hl : l.getD j false with
      | false => rfl
      | true => rw [h j oj k1 hl e' k2 k3] at k4; cases k4
theorem late_not {l : Array Bool} {i f : Nat} (h : Closed md ops l) (hi : l.getD i true = false) (hm : late md ops i f m = true) : m ∉ Region.ready md ops l := fun hr => by
  obtain ⟨om, h1, e, h2, h3, h4⟩ := late_spec h hi f m hm
  obtain ⟨_, om', h1', hall⟩ := mem_ready.1 hr
  have : om = om' := Option.some.inj (h1.symm.trans h1')
  subst this
  rw [hall e h2 h3] at h4
  cases h4
theorem wpAnyN_first2 {i k : Nat} {oi : Oper} {v : Value} (hd : NoDefers ops) (hi : ops[i]? = some oi) (hsel : ∀ (j : Nat) (o : Oper) cs b, ops[j]? = some o → o.op ≠ .select cs b)
    (hQ : ∀ c a w, Q (.panic c) (a.put oi.dst v) w → Q (.panic c) a w) (hmi : m ≠ i) (hmw : late md ops i k m = true) : ∀ (f : Nat) (l : Array Bool) (a : Act) (w : World),
      (∀ j oj, ops[j]? = some oj → j ≠ i → j ≠ m → l.getD j true = false → (∀ e ∈ oj.after, Region.binds md e = true → e.on ≠ i) → oi.apart ops oj = true) →
      i ∈ Region.ready md ops l → l.getD m true = false → Closed md ops l → ReadsIf P ops R oi v a → R w →
      wpAnyN Fc n P md ops Q m R f (l.setIfInBounds i true) (a.put oi.dst v) w → wpAnyN Fc n P md ops Q m R (f + 1) l a w
  | f, l, a, w, hfree, hr, hml, hcl, hy, hw, H => by
    have hil := (mem_ready.1 hr).1
    refine ⟨fun h => (by rw [h] at hr; cases hr), fun j hj => ?_⟩
    by_cases hji : j = i
    · subst hji
      exact hy.wpOpIn hd hi hw ⟨fun _ => hw, H⟩
    · have hrj := ready_mono hj hji
      cases f with
      | zero =>
        have h0 := H.1
        rw [h0] at hrj
        cases hrj
      | succ f =>
        obtain ⟨hjun, oj, hoj, -⟩ := mem_ready.1 hj
        have hnot := unlisted_not hj hoj hil
        have hjm : j ≠ m := by
          rintro rfl
          exact late_not hcl hil hmw hj
        have h2 := wpOpIn_read hd hoj (hfree j oj hoj hji hjm hjun hnot) (fun cs b => hsel i oi cs b hi) (fun cs b => hsel j oj cs b hoj) hQ hy (H.2 j hrj)
        refine wpOpIn_mono (fun a' w' h3 => ?_) h2
        obtain ⟨hya, hTa, hMa⟩ := h3
        have hml2 : (l.setIfInBounds j true).getD m true = false := by rw [getD_set_ne true hjm]; exact hml
        have hw2 : R w' := hTa (by rw [getD_set_ne true hjm, getD_set_ne true (Ne.symm hmi)]; exact hml)
        refine ⟨fun _ => hw2, wpAnyN_first2 hd hi hsel hQ hmi hmw f (l.setIfInBounds j true) a' w' (fun k ok hk hki hkm hku hno => ?_) (ready_mono hr (Ne.symm hji)) hml2 (hcl.set hj) hya hw2 ?_⟩
        · exact hfree k ok hk hki hkm (getD_set_true hku) hno
        · rw [Array.setIfInBounds_comm _ _ hji]; exact hMa
/-- free, m aside. -/
def freeM (md : Region.Mode) (ops : Array Oper) (l : Array Bool) (m i : Nat) : Bool :=
  match ops[i]? with
  | none => false
  | some oi => (List.range ops.size).all fun j => j == i || j == m || l.getD j true || match ops[j]? with
      | some oj => oj.after.any (fun e => Region.binds md e && e.on == i) || oi.apart ops oj
      | none => true
theorem freeM_spec {i : Nat} {oi : Oper} {l : Array Bool} (hi : ops[i]? = some oi) (h : freeM md ops l m i = true) (j : Nat) (oj : Oper)
    (hj : ops[j]? = some oj) (hne : j ≠ i) (hnm : j ≠ m) (hun : l.getD j true = false) (hno : ∀ e ∈ oj.after, Region.binds md e = true → e.on ≠ i) : oi.apart ops oj = true := by
  simp only [freeM, hi, List.all_eq_true, List.mem_range] at h
  have h1 := h j (Array.getElem?_eq_some_iff.1 hj).1
  simp only [hj, hun, Bool.or_false, Bool.or_eq_true, beq_iff_eq, hne, hnm, false_or] at h1
  rcases h1 with h1 | h1
  · obtain ⟨e, he, hb⟩ := Array.any_eq_true'.1 h1
    simp only [Bool.and_eq_true, beq_iff_eq] at hb
    exact absurd hb.2 (hno e he hb.1)
  · exact h1
theorem wpAnyN_take2 {i : Nat} {oi : Oper} {v : Value} {f : Nat} {l : Array Bool} {a : Act} {w : World} (k : Nat) (hd : NoDefers ops) (hi : ops[i]? = some oi) (hs : Region.noSelect ops = true)
    (hc : (freeM md ops l m i && (Region.ready md ops l).contains i && (m != i) && late md ops i k m && !(l.getD m true) && closedB md ops l) = true)
    (hQ : ∀ c a w, Q (.panic c) (a.put oi.dst v) w → Q (.panic c) a w) (hb : ∀ w, oi.about P w a.eval = none) (hy : YieldsIf P ops R oi v a) (hw : R w)
    (h : wpAnyN Fc n P md ops Q m R f (l.setIfInBounds i true) (a.put oi.dst v) w) : wpAnyN Fc n P md ops Q m R (f + 1) l a w := by
  simp only [Bool.and_eq_true, bne_iff_ne, ne_eq, Bool.not_eq_true'] at hc
  obtain ⟨⟨⟨⟨⟨h1, h2⟩, h3⟩, h4⟩, h5⟩, h6⟩ := hc
  exact wpAnyN_first2 hd hi (Region.noSelect_spec hs) hQ h3 h4 f l a w (freeM_spec hi h1) (by simpa using h2) h5 (closedB_spec h6) ⟨hy, hb⟩ hw h
end
end Go.Proofs.YtohdgjmmekgcmaaDoor
