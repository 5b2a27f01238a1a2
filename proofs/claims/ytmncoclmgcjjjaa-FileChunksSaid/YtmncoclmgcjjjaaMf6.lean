/-
  Texts FlC to FlJ, as one.
-/
import Derived.Test.YtmncoclmgcjjjaaMf5
import Derived.Maps.OwnIn
import Derived.RangeFuncBox
/-
  file: write, behind; Write, Cut, Read.
-/
namespace Go.Proofs.Ytmncoclmgcjjjaa
open Go.RowKit Go.Shelf
attribute [local go_sem] Oper.semAt_some

/-- A file when bytes are written at a place. -/
def writeF (xs : List Nat) (p : Nat) (ds : List Nat) : List Nat := if ds.length = 0 then xs else spliceN (cutF xs (max xs.length (p + ds.length))) p ds
theorem spliceN_length (ys : List Nat) (o : Nat) (zs : List Nat) (h : o + zs.length ≤ ys.length) : (spliceN ys o zs).length = ys.length := by simp [spliceN]; omega
theorem writeF_length (xs : List Nat) (p : Nat) (ds : List Nat) : (writeF xs p ds).length = if ds.length = 0 then xs.length else max xs.length (p + ds.length) := by
  unfold writeF
  split
  · rfl
  · rw [spliceN_length _ _ _ (by rw [cutF_length]; omega), cutF_length]
theorem writeF_256 {xs ds : List Nat} (hx : WM.Bytes256 xs) (hd : WM.Bytes256 ds) (p : Nat) : WM.Bytes256 (writeF xs p ds) := by
  unfold writeF
  split
  · exact hx
  · exact bytes256_app (bytes256_app (bytes256_take (cutF_256 hx _) _) hd) (bytes256_drop (cutF_256 hx _) _)
theorem slice_from {t : TypeId} (ht : Try.prog.underlying t = some (.slice 5)) (g n p : Nat) (hp : p < n) (W : World) :
    (Instr.sliceAt t (.slice (some ⟨g, 0, none⟩) n n) (some (.int .i64 (p : Nat))) none none).run Try.prog W = .ok (.slice (some ⟨g, p, none⟩) (n - p) (n - p)) W := by
  obtain ⟨i0, hi, hz0, hz1, hz2⟩ := info_parts infoU8
  have he : Try.prog.elem t = 5 := by simp [Program.elem, ht]
  have ht' : Try.prog.underlying t = some (.slice (Try.prog.elem t)) := by rw [he]; exact ht
  rw [run_sliceAt_slice W t _ _ _ _ ht', run_slice_l W t _ n n ht' .i64 (p : Int) (by omega) (by omega), he]
  have hne : ¬ n = p := by omega
  simp [sizeOf, typeInfo, hi, hz1, sliced, Result.andThen, Addr.add, hne]
  exact fun h => h.symm
set_option maxHeartbeats 2000000 in
theorem write1_any {B : Nat} {v u : Value} {xs ds : List Nat} (p : Nat) (hx : xs.length ≤ 448) (hp : p + ds.length ≤ 448) (w : World) (h : Fil w B v u xs ds) :
    Calls Try.prog 28 #[.pointer (some ⟨B, 0, none⟩), .int .i64 p] w fun e w' => (∃ r, e = .returned r) ∧ (∃ v', Fil w' B v' u (writeF xs p ds) ds) ∧ Turn (fun k => k = B) w w' := by
  obtain ⟨c0, c1, -⟩ := h.cells
  have HE : Hid (∀ W n, n ≤ 100000 → Fil W B v u xs ds → Calls Try.prog 29 #[.pointer (some ⟨B, 0, none⟩), .int .i64 (n : Nat)] W fun e w' => (∃ r, e = .returned r) ∧ Fil w' B (.slice (some ⟨W.heap.size, 0, none⟩) n n) u (cutF xs n) ds ∧ Blk w' W.heap.size 5 (byA (cutF xs n)) ∧ Turn (fun k => k = B) W w') := show ∀ W n, _ from fun W n hn h => end_any n hn W h
  obtain ⟨a, c, rfl, hl, hc⟩ := h.c.form
  obtain ⟨a', c', rfl, hl', hc'⟩ := h.d.form
  have HF := Lib.hid h
  by_cases h0 : ds.length = 0
  · have HX : Hid (writeF xs p ds = xs) := show _ = _ from if_pos h0
    rw [h0] at c1
    clear h
    go_enter Try.func28, Try.ntmps28
    go_wp2_with fail
    refine bodyPost_ret (results_none rfl _ _ _) rfl ?_
    exact ⟨⟨_, rfl⟩, ⟨_, by rw [HX.out]; exact HF.out⟩, Turn.refl _ _⟩
  · have HX : Hid (writeF xs p ds = spliceN (cutF xs (max xs.length (p + ds.length))) p ds) := show _ = _ from if_neg h0
    obtain ⟨n, hn⟩ : ∃ n, max xs.length (p + ds.length) = n := ⟨_, rfl⟩
    rw [hn] at HX
    obtain ⟨m, hm⟩ : ∃ m, ds.length = m := ⟨_, rfl⟩
    have hw : IntKind.i64.wrap ((p : Int) + (m : Int)) = ((p + m : Nat) : Int) := by rw [IntWalk.i64_in _ (by omega)]; omega
    obtain ⟨q, hq⟩ : ∃ q, p + m = q := ⟨_, rfl⟩
    rw [hq] at hw
    have hmax : (if (q : Int) > ((xs.length : Nat) : Int) then (q : Int) else ((xs.length : Nat) : Int)) = (n : Int) := by rw [← hn, hm, hq]; split <;> omega
    have hmax2 : max ((xs.length : Nat) : Int) (q : Int) = (n : Int) := by rw [← hn, hm, hq]; omega
    have hdr : Below w.heap.size w w.drew := Below.drew (Below.refl _ _)
    have HF1 := Lib.hid (h.below hdr)
    have d0 := (HF1.out.cells).1
    have d1 := (HF1.out.cells).2.1
    rw [hm] at c1 d1 h0 hl'
    obtain ⟨l, hll⟩ : ∃ l, xs.length = l := ⟨_, rfl⟩
    rw [hll] at c0 d0 hmax hmax2 hl hx
    have hR : (fun W : World => W.cell? ⟨B, 0, none⟩ = some (.slice a l c) ∧ W.cell? ⟨B, 1, none⟩ = some (.slice a' m c')) w.drew := ⟨d0, d1⟩
    have HM := Lib.hid hm
    have HL := Lib.hid hll
    have HQ := Lib.hid hq
    have HN := Lib.hid hn
    have hn1 : n ≤ 448 := by omega
    have hq1 : q ≤ 448 := by omega
    have hp1 : p ≤ 448 := by omega
    have hpn : p < n := by omega
    have hqn : q ≤ n := by omega
    have hm0 : ((m : Int) == 0) = false := by rw [beq_eq_false_iff_ne]; omega
    clear h hdr d0 d1 hq hn hm hll hp
    go_enter Try.func28, Try.ntmps28
    go_wp2_with fail
    refine wp_region_M 16 (fun W : World => W.cell? ⟨B, 0, none⟩ = some (.slice a l c) ∧ W.cell? ⟨B, 1, none⟩ = some (.slice a' m c')) (by kernel_rfl) ?_
    (refine wpAnyM_take2 8 (i := 0) (v := ?_) rfl (by kernel_rfl) (by kernel_rfl) (fun _ _ _ h => h) (Or.inl ⟨by rfl, ?_⟩) hR ?_; rotate_left; (focus (intro w hSw; (try dsimp only at hSw); go_simp; (try with_reducible rfl))); (try simp only [put_laws])); (refine wpAnyM_take2 8 (i := 3) (v := ?_) rfl (by kernel_rfl) (by kernel_rfl) (fun _ _ _ h => h) (Or.inl ⟨by rfl, ?_⟩) hR ?_; rotate_left; (focus (intro w hSw; (try dsimp only at hSw); go_simp; (try with_reducible rfl))); (try simp only [put_laws])); (refine wpAnyM_take2 8 (i := 8) (v := ?_) rfl (by kernel_rfl) (by kernel_rfl) (fun _ _ _ h => h) (Or.inl ⟨by rfl, ?_⟩) hR ?_; rotate_left; (focus (intro w hSw; (try dsimp only at hSw); go_simp; (try with_reducible rfl))); (try simp only [put_laws])); (refine wpAnyM_take2 8 (i := 9) (v := ?_) rfl (by kernel_rfl) (by kernel_rfl) (fun _ _ _ h => h) (Or.inl ⟨by rfl, ?_⟩) hR ?_; rotate_left; (focus (intro w hSw; (try dsimp only at hSw); go_simp; (try with_reducible rfl))); (try simp only [put_laws])); (refine wpAnyM_take2 8 (i := 1) (v := ?_) rfl (by kernel_rfl) (by kernel_rfl) (fun _ _ _ h => h) (Or.inl ⟨by rfl, ?_⟩) hR ?_; rotate_left; (focus (intro w hSw; (try dsimp only at hSw); go_simp; (try with_reducible rfl))); (try simp only [put_laws])); (refine wpAnyM_take2 8 (i := 4) (v := ?_) rfl (by kernel_rfl) (by kernel_rfl) (fun _ _ _ h => h) (Or.inl ⟨by rfl, ?_⟩) hR ?_; rotate_left; (focus (intro w hSw; (try dsimp only at hSw); go_simp; (try with_reducible rfl))); (try simp only [put_laws])); (refine wpAnyM_take2 8 (i := 10) (v := ?_) rfl (by kernel_rfl) (by kernel_rfl) (fun _ _ _ h => h) (Or.inl ⟨by rfl, ?_⟩) hR ?_; rotate_left; (focus (intro w hSw; (try dsimp only at hSw); go_simp; (try with_reducible rfl))); (try simp only [put_laws])); (refine wpAnyM_take2 8 (i := 2) (v := ?_) rfl (by kernel_rfl) (by kernel_rfl) (fun _ _ _ h => h) (Or.inl ⟨by rfl, ?_⟩) hR ?_; rotate_left; (focus (intro w hSw; (try dsimp only at hSw); go_simp; (try with_reducible rfl))); (try simp only [put_laws])); (refine wpAnyM_take2 8 (i := 5) (v := ?_) rfl (by kernel_rfl) (by kernel_rfl) (fun _ _ _ h => h) (Or.inl ⟨by rfl, ?_⟩) hR ?_; rotate_left; (focus (intro w hSw; (try dsimp only at hSw); go_simp; (try with_reducible rfl))); (try simp only [put_laws])); (refine wpAnyM_take2 8 (i := 11) (v := ?_) rfl (by kernel_rfl) (by kernel_rfl) (fun _ _ _ h => h) (Or.inl ⟨by rfl, ?_⟩) hR ?_; rotate_left; (focus (intro w hSw; (try dsimp only at hSw); go_simp; (try with_reducible rfl))); (try simp only [put_laws])); (refine wpAnyM_take2 8 (i := 6) (v := ?_) rfl (by kernel_rfl) (by kernel_rfl) (fun _ _ _ h => h) (Or.inl ⟨by rfl, ?_⟩) hR ?_; rotate_left; (focus (intro w hSw; (try dsimp only at hSw); go_simp; (try with_reducible rfl))); (try simp only [put_laws])); (refine wpAnyM_take2 8 (i := 12) (v := ?_) rfl (by kernel_rfl) (by kernel_rfl) (fun _ _ _ h => h) (Or.inl ⟨by rfl, ?_⟩) hR ?_; rotate_left; (focus (intro w hSw; (try dsimp only at hSw); go_simp; (try with_reducible rfl))); (try simp only [put_laws])); (refine wpAnyM_take2 8 (i := 7) (v := ?_) rfl (by kernel_rfl) (by kernel_rfl) (fun _ _ _ h => h) (Or.inl ⟨by rfl, ?_⟩) hR ?_; rotate_left; (focus (intro w hSw; (try dsimp only at hSw); go_simp; (try with_reducible rfl))); (try simp only [put_laws])); (refine wpAnyM_take2 8 (i := 13) (v := ?_) rfl (by kernel_rfl) (by kernel_rfl) (fun _ _ _ h => h) (Or.inl ⟨by rfl, ?_⟩) hR ?_; rotate_left; (focus (intro w hSw; (try dsimp only at hSw); go_simp; (try with_reducible rfl))); (try simp only [put_laws])); (refine wpAnyM_take2 8 (i := 14) (v := ?_) rfl (by kernel_rfl) (by kernel_rfl) (fun _ _ _ h => h) (Or.inl ⟨by rfl, ?_⟩) hR ?_; rotate_left; (focus (intro w hSw; (try dsimp only at hSw); go_simp; (try with_reducible rfl))); (try simp only [put_laws])); (refine wpAnyM_take2 8 (i := 15) (v := ?_) rfl (by kernel_rfl) (by kernel_rfl) (fun _ _ _ h => h) (Or.inl ⟨by rfl, ?_⟩) hR ?_; rotate_left; (focus (intro w hSw; (try dsimp only at hSw); go_simp; (try with_reducible rfl))); (try simp only [put_laws]))
    (refine wpAnyM_last rfl (by kernel_rfl) (fun K hK => ?_); rw [if_pos (by rfl)]; (try simp only [elem_laws]))
    go_simp
    have hif : (if l < q then (q : Int) else (l : Int)) = (n : Int) := by rw [← hmax]; split <;> split <;> omega
    rw [hif]
    refine (HE.out w.drew n (by omega) HF1.out).mono ?_
    rintro e w1 ⟨⟨r, rfl⟩, hfil, hblk, ht⟩
    refine hK _ _ ?_
    clear hK K hR hif hmax hmax2
    (try simp only [put_laws])
    refine wpAnyM_done (by kernel_rfl) ?_ _
    have hdr1 : Below w1.heap.size w1 w1.drew := Below.drew (Below.refl _ _)
    have HF2 := Lib.hid (hfil.below hdr1)
    have HB2 := Lib.hid (hblk.below hdr1 hblk.lt)
    have HT2 : Hid (Turn (fun k => k = B) w w1.drew) := show Turn _ _ _ from ((Turn.of_below (Below.drew (Below.refl w.heap.size w)) (Nat.le_refl _)).trans ht).trans (Turn.of_below hdr1 (Nat.le_refl _))
    have hcp := fun ty => copy_bytes 59 22 ty Try.underlying59 (o := p) (dl := n - p) (dc := n - p) HB2.out (by rw [cutF_length]; omega) HF2.out.d.sl
    rw [List.take_of_length_le (show ds.length ≤ n - p by rw [HM.out]; have := HQ.out; omega), ← HX.out, HM.out] at hcp
    have hHs : w.drew.heap.size = w.heap.size := by simp
    rw [hHs] at hcp HB2 HF2
    obtain ⟨d0, d1, -⟩ := HF2.out.cells
    rw [HM.out] at d1
    obtain ⟨W3, hW3⟩ : ∃ W3, w1.drew.setRow w.heap.size (byA (writeF xs p ds)) = W3 := ⟨_, rfl⟩
    rw [hW3] at hcp
    have hsl := slice_from Try.underlying59 w.heap.size n p hpn
    have hR : (fun W : World => W.cell? ⟨B, 0, none⟩ = some (.slice (some ⟨w.heap.size, 0, none⟩) n n) ∧ W.cell? ⟨B, 1, none⟩ = some (.slice a' m c')) w1.drew := ⟨d0, d1⟩
    have HW3 := Lib.hid hW3
    clear hW3 hfil hblk ht hdr1 d0 d1 c0 c1 hHs
    go_wp2_with fail
    refine wp_region_M 10 (fun W : World => W.cell? ⟨B, 0, none⟩ = some (.slice (some ⟨w.heap.size, 0, none⟩) n n) ∧ W.cell? ⟨B, 1, none⟩ = some (.slice a' m c')) (by kernel_rfl) ?_
    (refine wpAnyM_take2 8 (i := 0) (v := ?_) rfl (by kernel_rfl) (by kernel_rfl) (fun _ _ _ h => h) (Or.inl ⟨by rfl, ?_⟩) hR ?_; rotate_left; (focus (intro w hSw; (try dsimp only at hSw); go_simp; (try with_reducible rfl))); (try simp only [put_laws])); (refine wpAnyM_take2 8 (i := 6) (v := ?_) rfl (by kernel_rfl) (by kernel_rfl) (fun _ _ _ h => h) (Or.inl ⟨by rfl, ?_⟩) hR ?_; rotate_left; (focus (intro w hSw; (try dsimp only at hSw); go_simp; (try with_reducible rfl))); (try simp only [put_laws])); (refine wpAnyM_take2 8 (i := 4) (v := ?_) rfl (by kernel_rfl) (by kernel_rfl) (fun _ _ _ h => h) (Or.inl ⟨by rfl, ?_⟩) hR ?_; rotate_left; (focus (intro w hSw; (try dsimp only at hSw); go_simp; (try with_reducible rfl))); (try simp only [put_laws])); (refine wpAnyM_take2 8 (i := 1) (v := ?_) rfl (by kernel_rfl) (by kernel_rfl) (fun _ _ _ h => h) (Or.inl ⟨by rfl, ?_⟩) hR ?_; rotate_left; (focus (intro w hSw; (try dsimp only at hSw); go_simp; (try with_reducible rfl))); (try simp only [put_laws])); (refine wpAnyM_take2 8 (i := 7) (v := ?_) rfl (by kernel_rfl) (by kernel_rfl) (fun _ _ _ h => h) (Or.inl ⟨by rfl, ?_⟩) hR ?_; rotate_left; (focus (intro w hSw; (try dsimp only at hSw); go_simp; (try with_reducible rfl))); (try simp only [put_laws])); (refine wpAnyM_take2 8 (i := 2) (v := ?_) rfl (by kernel_rfl) (by kernel_rfl) (fun _ _ _ h => h) (Or.inl ⟨by rfl, ?_⟩) hR ?_; rotate_left; (focus (intro w hSw; (try dsimp only at hSw); go_simp; (try with_reducible rfl))); (try simp only [put_laws])); (refine wpAnyM_take2 8 (i := 8) (v := ?_) rfl (by kernel_rfl) (by kernel_rfl) (fun _ _ _ h => h) (Or.inl ⟨by rfl, ?_⟩) hR ?_; rotate_left; (focus (intro w hSw; (try dsimp only at hSw); go_simp; (try with_reducible rfl))); (try simp only [put_laws])); (refine wpAnyM_take2 8 (i := 3) (v := ?_) rfl (by kernel_rfl) (by kernel_rfl) (fun _ _ _ h => h) (Or.inl ⟨by rfl, ?_⟩) hR ?_; rotate_left; (focus (intro w hSw; (try dsimp only at hSw); go_simp; (try with_reducible rfl))); (try simp only [put_laws])); (refine wpAnyM_take2 8 (i := 9) (v := ?_) rfl (by kernel_rfl) (by kernel_rfl) (fun _ _ _ h => h) (Or.inl ⟨by rfl, ?_⟩) hR ?_; rotate_left; (focus (intro w hSw; (try dsimp only at hSw); go_simp; (try with_reducible rfl))); (try simp only [put_laws])); (refine wpAnyM_take2 8 (i := 5) (v := ?_) rfl (by kernel_rfl) (by kernel_rfl) (fun _ _ _ h => h) (Or.inl ⟨by rfl, ?_⟩) hR ?_; rotate_left; (focus (intro w hSw; (try dsimp only at hSw); go_simp; (try with_reducible rfl))); (try simp only [put_laws]))
    (refine wpAnyM_last rfl (by kernel_rfl) (fun K hK => ?_); rw [if_pos (by rfl)]; (try simp only [elem_laws]))
    go_simp
    refine hK _ _ ?_
    clear hK K hR hcp
    (try simp only [put_laws])
    refine wpAnyM_done (by kernel_rfl) ?_ _
    have HFIN : Hid ((∃ v', Fil W3 B v' (.slice a' ds.length c') (writeF xs p ds) ds) ∧ Turn (fun k => k = B) w W3) := show _ ∧ _ from by
      obtain ⟨h3, ht3⟩ := HB2.out.setRow (byA (writeF xs p ds))
      rw [HW3.out] at h3 ht3
      have hlen : (writeF xs p ds).length = n := by rw [writeF_length, if_neg (by rw [HM.out]; exact h0), ← HN.out]
      have hsl3 := blk_sl_all h3
      rw [hlen] at hsl3
      have hbl := HF.out.blk.lt
      have hT : Turn (fun k => k = B) w W3 := ⟨ht3.os.trans HT2.out.os, ht3.tape.trans HT2.out.tape, ht3.output.trans HT2.out.output, Nat.le_trans HT2.out.size ht3.size, fun k hk hn => (ht3.block k (Nat.lt_of_lt_of_le hk HT2.out.size) (by omega)).trans (HT2.out.block k hk hn)⟩
      exact ⟨⟨_, HF2.out.blk.turn ht3 (by omega), ⟨hsl3, writeF_256 HF.out.c.all HF.out.d.all p, fun a n' c e => by cases e; omega⟩, HF.out.d.slices HF.out.blk hT⟩, hT⟩
    go_wp2_with fail
    go_end0
    exact ⟨⟨_, rfl⟩, HFIN.out⟩
end Go.Proofs.Ytmncoclmgcjjjaa

/-
  file: behind, Write, Cut, Read. Written by gen_fld.py.
-/
namespace Go.Proofs.Ytmncoclmgcjjjaa
open Go.RowKit Go.Shelf
attribute [local go_sem] Oper.semAt_some

/-- What is wrong with a change of a file. -/
def errW (n : Nat) (p : Int) (m : Nat) : Int := if p < 0 then 2 else if 448 < n ∨ 448 - p < m then 190 else 0
theorem errW_neg {n : Nat} {p : Int} {m : Nat} (h : p < 0) : errW n p m = 2 := if_pos h
theorem errW_big {n : Nat} {p : Int} {m : Nat} (h : 0 ≤ p) (hb : 448 < n ∨ 448 - p < m) : errW n p m = 190 := by unfold errW; rw [if_neg (by omega), if_pos hb]
theorem errW_ok {n : Nat} {p : Int} {m : Nat} (h : 0 ≤ p) (hb : ¬ (448 < n ∨ 448 - p < m)) : errW n p m = 0 := by unfold errW; rw [if_neg (by omega), if_neg hb]
def outW (xs : List Nat) (p : Int) (ds : List Nat) : List Nat := if errW xs.length p ds.length = 0 then writeF xs p.toNat ds else []
def outC (xs : List Nat) (p : Int) : List Nat := if errW xs.length p 0 = 0 then cutF xs p.toNat else []
def errR (n : Nat) (p m : Int) : Int := if p < 0 ∨ m < 0 then 2 else if 448 < n then 190 else 0
def outR (xs : List Nat) (p m : Int) : List Nat := if errR xs.length p m = 0 then (xs.drop p.toNat).take m.toNat else []
theorem cutF_self (xs : List Nat) : cutF xs xs.length = xs := by simp [cutF]
set_option maxHeartbeats 2000000 in
theorem behindW_neg {B : Nat} {v u : Value} {xs ds : List Nat} (p : Int) (m : Nat) (hp : p < 0) (w : World) (_h : Fil w B v u xs ds) :
    Calls Try.prog 27 #[.pointer (some ⟨B, 0, none⟩), .func (.func 28) #[.pointer (some ⟨B, 0, none⟩)] #[], .int .i64 p, .int .i64 m] w fun e w' => e = .returned (.tuple #[.slice none 0 0, .int .i64 2]) ∧ w = w' := by
  go_enter Try.func27, Try.ntmps27
  go_wp2_with fail
  refine wp_scope_forward 0 rfl ?_
  go_wp2_with fail
  go_step3
  refine ⟨rfl, ?_⟩
  go_wp2
  rw [Exit.jump_ret]
  go_ret2
  exact ⟨rfl, rfl⟩
set_option maxHeartbeats 2000000 in
theorem behindW_big {B : Nat} {v u : Value} {xs ds : List Nat} (p : Int) (m : Nat) (hp : 0 ≤ p) (hp2 : p ≤ 9223372036854775807) (_hm : m ≤ 9223372036854775807) (hb : 448 < xs.length ∨ 448 - p < m) (w : World) (h : Fil w B v u xs ds) :
    Calls Try.prog 27 #[.pointer (some ⟨B, 0, none⟩), .func (.func 28) #[.pointer (some ⟨B, 0, none⟩)] #[], .int .i64 p, .int .i64 m] w fun e w' => e = .returned (.tuple #[.slice none 0 0, .int .i64 190]) ∧ w = w' := by
  have HG := Lib.hid isBig_any
  obtain ⟨c0, -⟩ := h.cells
  obtain ⟨a, c, rfl, hl, hc⟩ := h.c.form
  obtain ⟨n, hn⟩ : ∃ n, xs.length = n := ⟨_, rfl⟩
  rw [hn] at c0 hb hl
  have hwr : IntKind.i64.wrap (448 - p) = 448 - p := IntWalk.i64_in _ (by omega)
  clear h hn
  by_cases hbig : 448 < n
  · have hd : decide (448 < (n : Int)) = true := decide_eq_true (by omega)
    clear hb
    go_enter Try.func27, Try.ntmps27
    go_wp2_with fail
    refine wp_scope_forward 0 rfl ?_
    go_wp2_with (go_at_call 30; refine (HG.out _ _ _ _).mono ?_; rintro e w' ⟨rfl, rfl⟩; rw [hd])
    go_step3
    refine ⟨rfl, ?_⟩
    go_wp2
    rw [Exit.jump_ret]
    go_ret2
    exact ⟨rfl, rfl⟩
  · have hd : decide (448 < (n : Int)) = false := decide_eq_false (by omega)
    have hb2 : 448 - p < (m : Int) := by omega
    clear hb
    go_enter Try.func27, Try.ntmps27
    go_wp2_with fail
    refine wp_scope_forward 0 rfl ?_
    go_wp2_with (go_at_call 30; refine (HG.out _ _ _ _).mono ?_; rintro e w' ⟨rfl, rfl⟩; rw [hd])
    go_step3
    refine ⟨rfl, ?_⟩
    go_wp2
    rw [Exit.jump_ret]
    go_ret2
    exact ⟨rfl, rfl⟩
set_option maxRecDepth 100000 in
set_option maxHeartbeats 4000000 in
theorem behindW_ok {B : Nat} {v u : Value} {xs ds : List Nat} (p m : Nat) (hx : xs.length ≤ 448) (hp : p + m ≤ 448) (hm : m = ds.length) (w : World) (h : Fil w B v u xs ds) :
    Calls Try.prog 27 #[.pointer (some ⟨B, 0, none⟩), .func (.func 28) #[.pointer (some ⟨B, 0, none⟩)] #[], .int .i64 p, .int .i64 m] w fun e w' => ∃ r, e = .returned (.tuple #[r, .int .i64 0]) ∧ FB w' r (writeF xs p ds) ∧ Turn (fun k => k = B) w w' := by
  have HG := Lib.hid isBig_any
  have HE := Lib.hid (fun W (n : Nat) (hn : n ≤ 100000) (h : Fil W B v u xs ds) => end_any n hn W h)
  have HC := Lib.hid (fun W v (h : Fil W B v u xs ds) => write1_any p hx (by omega) W h)
  obtain ⟨c0, c1, -⟩ := h.cells
  obtain ⟨a, c, rfl, hl, hc⟩ := h.c.form
  have hdr : Below w.heap.size w w.drew := Below.drew (Below.refl _ _)
  have HF1 := Lib.hid (h.below hdr)
  have d0 := (HF1.out.cells).1
  obtain ⟨n, hn⟩ : ∃ n, xs.length = n := ⟨_, rfl⟩
  have HN := Lib.hid hn
  rw [hn] at c0 d0 hx hl
  have hwr : IntKind.i64.wrap (448 - (p : Int)) = 448 - (p : Int) := IntWalk.i64_in _ (by omega)
  have hd : decide (448 < (n : Int)) = false := decide_eq_false (by omega)
  have hb2 : ¬ 448 - (p : Int) < (m : Int) := by omega
  have hp1 : ¬ (p : Int) < 0 := by omega
  have hR : (fun W : World => W.cell? ⟨B, 0, none⟩ = some (.slice a n c)) w.drew := d0
  clear hn h hdr d0
  go_enter Try.func27, Try.ntmps27
  go_wp2_with fail
  refine wp_scope_forward 0 rfl ?_
  go_wp2_with (go_at_call 30; refine (HG.out _ _ _ _).mono ?_; rintro e w' ⟨rfl, rfl⟩; rw [hd])
  refine wp_region_M 8 (fun W : World => W.cell? ⟨B, 0, none⟩ = some (.slice a n c)) (by kernel_rfl) ?_
  (refine wpAnyM_take2 8 (i := 0) (v := ?_) rfl (by kernel_rfl) (by kernel_rfl) (fun _ _ _ h => h) (Or.inl ⟨by rfl, ?_⟩) hR ?_; rotate_left; (focus (intro w hSw; (try dsimp only at hSw); go_simp; (try with_reducible rfl))); (try simp only [put_laws])); (refine wpAnyM_take2 8 (i := 3) (v := ?_) rfl (by kernel_rfl) (by kernel_rfl) (fun _ _ _ h => h) (Or.inl ⟨by rfl, ?_⟩) hR ?_; rotate_left; (focus (intro w hSw; (try dsimp only at hSw); go_simp; (try with_reducible rfl))); (try simp only [put_laws])); (refine wpAnyM_take2 8 (i := 1) (v := ?_) rfl (by kernel_rfl) (by kernel_rfl) (fun _ _ _ h => h) (Or.inl ⟨by rfl, ?_⟩) hR ?_; rotate_left; (focus (intro w hSw; (try dsimp only at hSw); go_simp; (try with_reducible rfl))); (try simp only [put_laws])); (refine wpAnyM_take2 8 (i := 4) (v := ?_) rfl (by kernel_rfl) (by kernel_rfl) (fun _ _ _ h => h) (Or.inl ⟨by rfl, ?_⟩) hR ?_; rotate_left; (focus (intro w hSw; (try dsimp only at hSw); go_simp; (try with_reducible rfl))); (try simp only [put_laws])); (refine wpAnyM_take2 8 (i := 2) (v := ?_) rfl (by kernel_rfl) (by kernel_rfl) (fun _ _ _ h => h) (Or.inl ⟨by rfl, ?_⟩) hR ?_; rotate_left; (focus (intro w hSw; (try dsimp only at hSw); go_simp; (try with_reducible rfl))); (try simp only [put_laws])); (refine wpAnyM_take2 8 (i := 5) (v := ?_) rfl (by kernel_rfl) (by kernel_rfl) (fun _ _ _ h => h) (Or.inl ⟨by rfl, ?_⟩) hR ?_; rotate_left; (focus (intro w hSw; (try dsimp only at hSw); go_simp; (try with_reducible rfl))); (try simp only [put_laws])); (refine wpAnyM_take2 8 (i := 6) (v := ?_) rfl (by kernel_rfl) (by kernel_rfl) (fun _ _ _ h => h) (Or.inl ⟨by rfl, ?_⟩) hR ?_; rotate_left; (focus (intro w hSw; (try dsimp only at hSw); go_simp; (try with_reducible rfl))); (try simp only [put_laws])); (refine wpAnyM_take2 8 (i := 7) (v := ?_) rfl (by kernel_rfl) (by kernel_rfl) (fun _ _ _ h => h) (Or.inl ⟨by rfl, ?_⟩) hR ?_; rotate_left; (focus (intro w hSw; (try dsimp only at hSw); go_simp; (try with_reducible rfl))); (try simp only [put_laws]))
  (refine wpAnyM_last rfl (by kernel_rfl) (fun K hK => ?_); rw [if_pos (by rfl)]; (try simp only [elem_laws]))
  go_simp
  have H1 := HE.out w.drew n (by omega) HF1.out
  refine H1.mono ?_
  clear H1
  rintro e w1 ⟨⟨r, rfl⟩, hfil, hblk, ht⟩
  refine hK _ _ ?_
  clear hK K hR
  (try simp only [put_laws])
  refine wpAnyM_done (by kernel_rfl) ?_ _
  rw [← HN.out, cutF_self] at hfil
  have HF2 := Lib.hid hfil
  have HT2 : Hid (Turn (fun k => k = B) w w1) := show Turn _ _ _ from (Turn.of_below (Below.drew (Below.refl w.heap.size w)) (Nat.le_refl _)).trans ht
  clear hfil hblk ht c0 c1
  go_wp2_with fail
  refine (HC.out w1 _ HF2.out).mono ?_
  rintro e w2 ⟨⟨r2, rfl⟩, ⟨v2, hf2⟩, ht2⟩
  obtain ⟨e0, -⟩ := hf2.cells
  have HF3 := Lib.hid hf2
  have HT3 : Hid (Turn (fun k => k = B) w w2) := show Turn _ _ _ from HT2.out.trans ht2
  clear hf2 ht2
  go_wp2_with fail
  rw [Exit.jump_ret]
  go_ret2
  exact ⟨_, rfl, HF3.out.c, HT3.out⟩
set_option maxHeartbeats 2000000 in
theorem behindC_neg {B : Nat} {v u : Value} {xs ds : List Nat} (p : Int) (m : Nat) (hp : p < 0) (w : World) (_h : Fil w B v u xs ds) :
    Calls Try.prog 27 #[.pointer (some ⟨B, 0, none⟩), .func (.func 29) #[.pointer (some ⟨B, 0, none⟩)] #[], .int .i64 p, .int .i64 m] w fun e w' => e = .returned (.tuple #[.slice none 0 0, .int .i64 2]) ∧ w = w' := by
  go_enter Try.func27, Try.ntmps27
  go_wp2_with fail
  refine wp_scope_forward 0 rfl ?_
  go_wp2_with fail
  go_step3
  refine ⟨rfl, ?_⟩
  go_wp2
  rw [Exit.jump_ret]
  go_ret2
  exact ⟨rfl, rfl⟩
set_option maxHeartbeats 2000000 in
theorem behindC_big {B : Nat} {v u : Value} {xs ds : List Nat} (p : Int) (m : Nat) (hp : 0 ≤ p) (hp2 : p ≤ 9223372036854775807) (_hm : m ≤ 9223372036854775807) (hb : 448 < xs.length ∨ 448 - p < m) (w : World) (h : Fil w B v u xs ds) :
    Calls Try.prog 27 #[.pointer (some ⟨B, 0, none⟩), .func (.func 29) #[.pointer (some ⟨B, 0, none⟩)] #[], .int .i64 p, .int .i64 m] w fun e w' => e = .returned (.tuple #[.slice none 0 0, .int .i64 190]) ∧ w = w' := by
  have HG := Lib.hid isBig_any
  obtain ⟨c0, -⟩ := h.cells
  obtain ⟨a, c, rfl, hl, hc⟩ := h.c.form
  obtain ⟨n, hn⟩ : ∃ n, xs.length = n := ⟨_, rfl⟩
  rw [hn] at c0 hb hl
  have hwr : IntKind.i64.wrap (448 - p) = 448 - p := IntWalk.i64_in _ (by omega)
  clear h hn
  by_cases hbig : 448 < n
  · have hd : decide (448 < (n : Int)) = true := decide_eq_true (by omega)
    clear hb
    go_enter Try.func27, Try.ntmps27
    go_wp2_with fail
    refine wp_scope_forward 0 rfl ?_
    go_wp2_with (go_at_call 30; refine (HG.out _ _ _ _).mono ?_; rintro e w' ⟨rfl, rfl⟩; rw [hd])
    go_step3
    refine ⟨rfl, ?_⟩
    go_wp2
    rw [Exit.jump_ret]
    go_ret2
    exact ⟨rfl, rfl⟩
  · have hd : decide (448 < (n : Int)) = false := decide_eq_false (by omega)
    have hb2 : 448 - p < (m : Int) := by omega
    clear hb
    go_enter Try.func27, Try.ntmps27
    go_wp2_with fail
    refine wp_scope_forward 0 rfl ?_
    go_wp2_with (go_at_call 30; refine (HG.out _ _ _ _).mono ?_; rintro e w' ⟨rfl, rfl⟩; rw [hd])
    go_step3
    refine ⟨rfl, ?_⟩
    go_wp2
    rw [Exit.jump_ret]
    go_ret2
    exact ⟨rfl, rfl⟩
set_option maxRecDepth 100000 in
set_option maxHeartbeats 4000000 in
theorem behindC_ok {B : Nat} {v u : Value} {xs ds : List Nat} (p m : Nat) (hx : xs.length ≤ 448) (hp : p + m ≤ 448) (_ : m = 0) (w : World) (h : Fil w B v u xs ds) :
    Calls Try.prog 27 #[.pointer (some ⟨B, 0, none⟩), .func (.func 29) #[.pointer (some ⟨B, 0, none⟩)] #[], .int .i64 p, .int .i64 m] w fun e w' => ∃ r, e = .returned (.tuple #[r, .int .i64 0]) ∧ FB w' r (cutF xs p) ∧ Turn (fun k => k = B) w w' := by
  have HG := Lib.hid isBig_any
  have HE := Lib.hid (fun W (n : Nat) (hn : n ≤ 100000) (h : Fil W B v u xs ds) => end_any n hn W h)
  have HC : Hid (∀ W v, Fil W B v u xs ds → Calls Try.prog 29 #[.pointer (some ⟨B, 0, none⟩), .int .i64 (p : Nat)] W fun e w' => (∃ r, e = .returned r) ∧ (∃ v', Fil w' B v' u (cutF xs p) ds) ∧ Turn (fun k => k = B) W w') :=
    show ∀ W v, _ from fun W v h => (end_any p (by omega) W h).mono fun e w' ⟨he, hf, _, ht⟩ => ⟨he, ⟨_, hf⟩, ht⟩
  obtain ⟨c0, c1, -⟩ := h.cells
  obtain ⟨a, c, rfl, hl, hc⟩ := h.c.form
  have hdr : Below w.heap.size w w.drew := Below.drew (Below.refl _ _)
  have HF1 := Lib.hid (h.below hdr)
  have d0 := (HF1.out.cells).1
  obtain ⟨n, hn⟩ : ∃ n, xs.length = n := ⟨_, rfl⟩
  have HN := Lib.hid hn
  rw [hn] at c0 d0 hx hl
  have hwr : IntKind.i64.wrap (448 - (p : Int)) = 448 - (p : Int) := IntWalk.i64_in _ (by omega)
  have hd : decide (448 < (n : Int)) = false := decide_eq_false (by omega)
  have hb2 : ¬ 448 - (p : Int) < (m : Int) := by omega
  have hp1 : ¬ (p : Int) < 0 := by omega
  have hR : (fun W : World => W.cell? ⟨B, 0, none⟩ = some (.slice a n c)) w.drew := d0
  clear hn h hdr d0
  go_enter Try.func27, Try.ntmps27
  go_wp2_with fail
  refine wp_scope_forward 0 rfl ?_
  go_wp2_with (go_at_call 30; refine (HG.out _ _ _ _).mono ?_; rintro e w' ⟨rfl, rfl⟩; rw [hd])
  refine wp_region_M 8 (fun W : World => W.cell? ⟨B, 0, none⟩ = some (.slice a n c)) (by kernel_rfl) ?_
  (refine wpAnyM_take2 8 (i := 0) (v := ?_) rfl (by kernel_rfl) (by kernel_rfl) (fun _ _ _ h => h) (Or.inl ⟨by rfl, ?_⟩) hR ?_; rotate_left; (focus (intro w hSw; (try dsimp only at hSw); go_simp; (try with_reducible rfl))); (try simp only [put_laws])); (refine wpAnyM_take2 8 (i := 3) (v := ?_) rfl (by kernel_rfl) (by kernel_rfl) (fun _ _ _ h => h) (Or.inl ⟨by rfl, ?_⟩) hR ?_; rotate_left; (focus (intro w hSw; (try dsimp only at hSw); go_simp; (try with_reducible rfl))); (try simp only [put_laws])); (refine wpAnyM_take2 8 (i := 1) (v := ?_) rfl (by kernel_rfl) (by kernel_rfl) (fun _ _ _ h => h) (Or.inl ⟨by rfl, ?_⟩) hR ?_; rotate_left; (focus (intro w hSw; (try dsimp only at hSw); go_simp; (try with_reducible rfl))); (try simp only [put_laws])); (refine wpAnyM_take2 8 (i := 4) (v := ?_) rfl (by kernel_rfl) (by kernel_rfl) (fun _ _ _ h => h) (Or.inl ⟨by rfl, ?_⟩) hR ?_; rotate_left; (focus (intro w hSw; (try dsimp only at hSw); go_simp; (try with_reducible rfl))); (try simp only [put_laws])); (refine wpAnyM_take2 8 (i := 2) (v := ?_) rfl (by kernel_rfl) (by kernel_rfl) (fun _ _ _ h => h) (Or.inl ⟨by rfl, ?_⟩) hR ?_; rotate_left; (focus (intro w hSw; (try dsimp only at hSw); go_simp; (try with_reducible rfl))); (try simp only [put_laws])); (refine wpAnyM_take2 8 (i := 5) (v := ?_) rfl (by kernel_rfl) (by kernel_rfl) (fun _ _ _ h => h) (Or.inl ⟨by rfl, ?_⟩) hR ?_; rotate_left; (focus (intro w hSw; (try dsimp only at hSw); go_simp; (try with_reducible rfl))); (try simp only [put_laws])); (refine wpAnyM_take2 8 (i := 6) (v := ?_) rfl (by kernel_rfl) (by kernel_rfl) (fun _ _ _ h => h) (Or.inl ⟨by rfl, ?_⟩) hR ?_; rotate_left; (focus (intro w hSw; (try dsimp only at hSw); go_simp; (try with_reducible rfl))); (try simp only [put_laws])); (refine wpAnyM_take2 8 (i := 7) (v := ?_) rfl (by kernel_rfl) (by kernel_rfl) (fun _ _ _ h => h) (Or.inl ⟨by rfl, ?_⟩) hR ?_; rotate_left; (focus (intro w hSw; (try dsimp only at hSw); go_simp; (try with_reducible rfl))); (try simp only [put_laws]))
  (refine wpAnyM_last rfl (by kernel_rfl) (fun K hK => ?_); rw [if_pos (by rfl)]; (try simp only [elem_laws]))
  go_simp
  have H1 := HE.out w.drew n (by omega) HF1.out
  refine H1.mono ?_
  clear H1
  rintro e w1 ⟨⟨r, rfl⟩, hfil, hblk, ht⟩
  refine hK _ _ ?_
  clear hK K hR
  (try simp only [put_laws])
  refine wpAnyM_done (by kernel_rfl) ?_ _
  rw [← HN.out, cutF_self] at hfil
  have HF2 := Lib.hid hfil
  have HT2 : Hid (Turn (fun k => k = B) w w1) := show Turn _ _ _ from (Turn.of_below (Below.drew (Below.refl w.heap.size w)) (Nat.le_refl _)).trans ht
  clear hfil hblk ht c0 c1
  go_wp2_with fail
  refine (HC.out w1 _ HF2.out).mono ?_
  rintro e w2 ⟨⟨r2, rfl⟩, ⟨v2, hf2⟩, ht2⟩
  obtain ⟨e0, -⟩ := hf2.cells
  have HF3 := Lib.hid hf2
  have HT3 : Hid (Turn (fun k => k = B) w w2) := show Turn _ _ _ from HT2.out.trans ht2
  clear hf2 ht2
  go_wp2_with fail
  rw [Exit.jump_ret]
  go_ret2
  exact ⟨_, rfl, HF3.out.c, HT3.out⟩
end Go.Proofs.Ytmncoclmgcjjjaa

/-
  file: the contracts of Write, Cut, Read.
-/
namespace Go.Proofs.Ytmncoclmgcjjjaa
open Go.RowKit Go.Shelf
attribute [local go_sem] Oper.semAt_some

theorem fb_after {w w1 w' : World} {r : Value} {xs : List Nat} (h : FB w' r xs) (hb : Below w.heap.size w w1) (hn : w1.heap.size = w.heap.size + 1) (ht : Turn (fun k => k = w.heap.size) w1 w') : FB w' r xs ∧ Below w.heap.size w w' :=
  ⟨h, hb.trans (ht.below (B := w.heap.size) (fun k hk => by omega) (by omega))⟩
set_option maxHeartbeats 2000000 in
theorem write_any {v u : Value} {xs ds : List Nat} (p : Int) (hp0 : -9223372036854775808 ≤ p) (hp1 : p ≤ 9223372036854775807) (w : World) (hv : FB w v xs) (hu : FB w u ds) :
    Calls Try.prog 11 #[v, .int .i64 p, u] w fun e w' => ∃ r, e = .returned (.tuple #[r, .int .i64 (errW xs.length p ds.length)]) ∧ FB w' r (outW xs p ds) ∧ Below w.heap.size w w' := by
  have hdl : ds.length ≤ 9223372036854775807 := by obtain ⟨a, c, -, h1, h2⟩ := hu.form; omega
  have HB : Hid (∀ W1, w.alloc (.cells #[v, u] 61) = W1 → Calls Try.prog 27 #[.pointer (some ⟨w.heap.size, 0, none⟩), .func (.func 28) #[.pointer (some ⟨w.heap.size, 0, none⟩)] #[], .int .i64 p, .int .i64 (ds.length : Nat)] W1 fun e w' => ∃ r, e = .returned (.tuple #[r, .int .i64 (errW xs.length p ds.length)]) ∧ FB w' r (outW xs p ds) ∧ Below w.heap.size w w') := show ∀ W1, _ from by
    rintro W1 rfl
    have hf := fil_new w hv hu
    have hb : Below w.heap.size w (w.alloc (.cells #[v, u] 61)) := (Below.refl _ _).alloc (Nat.le_refl _) _
    have hn : (w.alloc (.cells #[v, u] 61)).heap.size = w.heap.size + 1 := by simp
    by_cases h1 : p < 0
    · refine (behindW_neg p ds.length h1 _ hf).mono ?_
      rintro e w' ⟨rfl, rfl⟩
      exact ⟨_, by rw [errW_neg h1], by unfold outW; rw [errW_neg h1]; exact nil_fb _, hb⟩
    · by_cases h2 : 448 < xs.length ∨ 448 - p < ds.length
      · refine (behindW_big p ds.length (by omega) hp1 hdl h2 _ hf).mono ?_
        rintro e w' ⟨rfl, rfl⟩
        exact ⟨_, by rw [errW_big (by omega) h2], by unfold outW; rw [errW_big (by omega) h2]; exact nil_fb _, hb⟩
      · have hx : xs.length ≤ 448 := by omega
        obtain ⟨q, rfl⟩ : ∃ q : Nat, p = (q : Int) := ⟨p.toNat, by omega⟩
        refine (behindW_ok q ds.length hx (by omega) rfl _ hf).mono ?_
        rintro e w' ⟨r, rfl, hr, ht⟩
        obtain ⟨hr, hb'⟩ := fb_after hr hb hn ht
        exact ⟨r, by rw [errW_ok (by omega) h2], by unfold outW; rw [errW_ok (by omega) h2]; exact hr, hb'⟩
  obtain ⟨a, c, rfl, -⟩ := hv.form
  obtain ⟨a', c', rfl, -⟩ := hu.form
  clear hv hu
  go_enter Try.func11, Try.ntmps11
  go_wp2_with fail
  refine (HB.out _ rfl).mono ?_
  rintro e w' ⟨r, rfl, hr, hb⟩
  go_wp2_with fail
  go_ret2
  exact ⟨r, rfl, hr, hb⟩
set_option maxHeartbeats 2000000 in
theorem cut_any {v : Value} {xs : List Nat} (p : Int) (hp0 : -9223372036854775808 ≤ p) (hp1 : p ≤ 9223372036854775807) (w : World) (hv : FB w v xs) :
    Calls Try.prog 12 #[v, .int .i64 p] w fun e w' => ∃ r, e = .returned (.tuple #[r, .int .i64 (errW xs.length p 0)]) ∧ FB w' r (outC xs p) ∧ Below w.heap.size w w' := by
  have HB : Hid (∀ W1, w.alloc (.cells #[v, .slice none 0 0] 61) = W1 → Calls Try.prog 27 #[.pointer (some ⟨w.heap.size, 0, none⟩), .func (.func 29) #[.pointer (some ⟨w.heap.size, 0, none⟩)] #[], .int .i64 p, .int .i64 0] W1 fun e w' => ∃ r, e = .returned (.tuple #[r, .int .i64 (errW xs.length p 0)]) ∧ FB w' r (outC xs p) ∧ Below w.heap.size w w') := show ∀ W1, _ from by
    rintro W1 rfl
    have hf := fil_new w hv (nil_fb w)
    have hb : Below w.heap.size w (w.alloc (.cells #[v, .slice none 0 0] 61)) := (Below.refl _ _).alloc (Nat.le_refl _) _
    have hn : (w.alloc (.cells #[v, .slice none 0 0] 61)).heap.size = w.heap.size + 1 := by simp
    by_cases h1 : p < 0
    · refine (behindC_neg p 0 h1 _ hf).mono ?_
      rintro e w' ⟨rfl, rfl⟩
      exact ⟨_, by rw [errW_neg h1], by unfold outC; rw [errW_neg h1]; exact nil_fb _, hb⟩
    · by_cases h2 : 448 < xs.length ∨ 448 - p < (0 : Nat)
      · refine (behindC_big p 0 (by omega) hp1 (by omega) h2 _ hf).mono ?_
        rintro e w' ⟨rfl, rfl⟩
        exact ⟨_, by rw [errW_big (by omega) h2], by unfold outC; rw [errW_big (by omega) h2]; exact nil_fb _, hb⟩
      · have hx : xs.length ≤ 448 := by omega
        obtain ⟨q, rfl⟩ : ∃ q : Nat, p = (q : Int) := ⟨p.toNat, by omega⟩
        refine (behindC_ok q 0 hx (by omega) rfl _ hf).mono ?_
        rintro e w' ⟨r, rfl, hr, ht⟩
        obtain ⟨hr, hb'⟩ := fb_after hr hb hn ht
        exact ⟨r, by rw [errW_ok (by omega) h2], by unfold outC; rw [errW_ok (by omega) h2]; exact hr, hb'⟩
  obtain ⟨a, c, rfl, -⟩ := hv.form
  clear hv
  go_enter Try.func12, Try.ntmps12
  go_wp2_with fail
  refine (HB.out _ rfl).mono ?_
  rintro e w' ⟨r, rfl, hr, hb⟩
  go_wp2_with fail
  go_ret2
  exact ⟨r, rfl, hr, hb⟩
set_option maxHeartbeats 2000000 in
theorem readF_any {v : Value} {xs : List Nat} (p m : Int) (w : World) (hv : FB w v xs) :
    Calls Try.prog 13 #[v, .int .i64 p, .int .i64 m] w fun e w' => ∃ r, e = .returned (.tuple #[r, .int .i64 (errR xs.length p m)]) ∧ FB w' r (outR xs p m) ∧ Below w.heap.size w w' := by
  have HG := Lib.hid isBig_any
  by_cases h1 : p < 0 ∨ m < 0
  · have HX : Hid (errR xs.length p m = 2) := show _ = _ from if_pos h1
    have HY : Hid (outR xs p m = []) := show _ = _ by unfold outR; rw [HX.out]; rfl
    obtain ⟨a, c, rfl, -⟩ := hv.form
    obtain ⟨n, hn⟩ : ∃ n, xs.length = n := ⟨_, rfl⟩
    rw [hn] at hv HX ⊢
    rw [HX.out, HY.out]
    clear hv hn
    by_cases h0 : p < 0
    · clear h1
      go_enter Try.func13, Try.ntmps13
      go_wp2_with fail
      refine wp_scope_forward 0 rfl ?_
      go_wp2_with fail
      go_step3
      refine ⟨rfl, ?_⟩
      go_wp2
      rw [Exit.jump_ret]
      go_ret2
      exact ⟨_, rfl, nil_fb _, (by repeat (first | exact Below.refl _ _ | assumption | refine Below.drew ?_ | refine below_drewN ?_ _ | refine Below.alloc ?_ (by (try simp) <;> omega) _ | refine Below.setCell ?_ (by (try simp) <;> omega) _ | refine Below.trans ?_ (Below.mono (by assumption) (by (try simp) <;> omega))))⟩
    · have h2 : m < 0 := by omega
      clear h1
      go_enter Try.func13, Try.ntmps13
      go_wp2_with fail
      refine wp_scope_forward 0 rfl ?_
      go_wp2_with fail
      go_step3
      refine ⟨rfl, ?_⟩
      go_wp2
      rw [Exit.jump_ret]
      go_ret2
      exact ⟨_, rfl, nil_fb _, (by repeat (first | exact Below.refl _ _ | assumption | refine Below.drew ?_ | refine below_drewN ?_ _ | refine Below.alloc ?_ (by (try simp) <;> omega) _ | refine Below.setCell ?_ (by (try simp) <;> omega) _ | refine Below.trans ?_ (Below.mono (by assumption) (by (try simp) <;> omega))))⟩
  · have h2 : ¬ p < 0 := by omega
    have h3 : ¬ m < 0 := by omega
    by_cases h4 : 448 < xs.length
    · have HX : Hid (errR xs.length p m = 190) := show _ = _ by unfold errR; rw [if_neg h1, if_pos h4]
      have HY : Hid (outR xs p m = []) := show _ = _ by unfold outR; rw [HX.out]; rfl
      obtain ⟨a, c, rfl, -⟩ := hv.form
      obtain ⟨n, hn⟩ : ∃ n, xs.length = n := ⟨_, rfl⟩
      rw [hn] at hv HX h4 ⊢
      rw [HX.out, HY.out]
      have hd : decide (448 < (n : Int)) = true := decide_eq_true (by omega)
      clear hv hn h1
      go_enter Try.func13, Try.ntmps13
      go_wp2_with fail
      refine wp_scope_forward 0 rfl ?_
      go_wp2_with (go_at_call 30; refine (HG.out _ _ _ _).mono ?_; rintro e w' ⟨rfl, rfl⟩; rw [hd])
      go_step3
      refine ⟨rfl, ?_⟩
      go_wp2
      rw [Exit.jump_ret]
      go_ret2
      exact ⟨_, rfl, nil_fb _, (by repeat (first | exact Below.refl _ _ | assumption | refine Below.drew ?_ | refine below_drewN ?_ _ | refine Below.alloc ?_ (by (try simp) <;> omega) _ | refine Below.setCell ?_ (by (try simp) <;> omega) _ | refine Below.trans ?_ (Below.mono (by assumption) (by (try simp) <;> omega))))⟩
    · have HX : Hid (errR xs.length p m = 0) := show _ = _ by unfold errR; rw [if_neg h1, if_neg h4]
      have HY : Hid (outR xs p m = (xs.drop p.toNat).take m.toNat) := show _ = _ by unfold outR; rw [HX.out]; rfl
      have HP : Hid (∀ W1, w.alloc (.cells #[v, .slice none 0 0] 61) = W1 → Calls Try.prog 31 #[v, .int .i64 p, .int .i64 m] W1 fun e w' => ∃ r, e = .returned r ∧ FB w' r ((xs.drop p.toNat).take m.toNat) ∧ Below w.heap.size w w') := show ∀ W1, _ from by
        rintro W1 rfl
        have hb : Below w.heap.size w (w.alloc (.cells #[v, .slice none 0 0] 61)) := (Below.refl _ _).alloc (Nat.le_refl _) _
        refine (part_any p m (by omega) (by omega) (by omega) _ (hv.below hb)).mono ?_
        rintro e w' ⟨r, he, hr, hb'⟩
        exact ⟨r, he, hr, hb.trans (hb'.mono hb.size)⟩
      obtain ⟨a, c, rfl, -⟩ := hv.form
      obtain ⟨n, hn⟩ : ∃ n, xs.length = n := ⟨_, rfl⟩
      rw [hn] at hv HX HP h4 ⊢
      rw [HX.out, HY.out]
      have hd : decide (448 < (n : Int)) = false := decide_eq_false (by omega)
      clear hv hn h1
      go_enter Try.func13, Try.ntmps13
      go_wp2_with fail
      refine wp_scope_forward 0 rfl ?_
      go_wp2_with (go_at_call 30; refine (HG.out _ _ _ _).mono ?_; rintro e w' ⟨rfl, rfl⟩; rw [hd])
      refine (HP.out _ rfl).mono ?_
      rintro e w' ⟨r, rfl, hr, hb⟩
      go_wp2_with fail
      rw [Exit.jump_ret]
      go_ret2
      exact ⟨r, rfl, hr, hb⟩
end Go.Proofs.Ytmncoclmgcjjjaa

/-
  A box that holds a row which grows in the rounds of a range.
-/
namespace Go.Proofs.Ytmncoclmgcjjjaa
open Go.RowKit Go.Shelf

/-- A box that holds a row from n₁ on; neither is part of q. -/
def RowG (n₁ B : Nat) (t e : TypeId) (size n : Nat) (xs : List Value) (q : Nat → Prop) (W : World) : Prop :=
  ∃ v, Boxed W B t v ∧ W.ownsRow n₁ e size v n xs ∧ ¬ q B ∧ ∀ g, v.ownBlock = some g → ¬ q g
theorem own_keptG {W W' : World} {base : Nat} {e : TypeId} {size : Nat} {v : Value} {n : Nat} {xs : List Value} (h : W.ownsRow base e size v n xs) (hk : ∀ g, v.ownBlock = some g → g < W.heap.size → W'.heap[g]? = W.heap[g]?) : W'.ownsRow base e size v n xs := by
  obtain ⟨hl, h⟩ := h
  refine ⟨hl, h.imp id fun ⟨g, cap, cur, hv, hb, hg, hr⟩ => ⟨g, cap, cur, hv, hb, ?_, hr⟩⟩
  rw [hk g (by rw [hv]; rfl) (Array.getElem?_eq_some_iff.1 hg).1]; exact hg
theorem own_lowG {W : World} {base base' : Nat} {e : TypeId} {size : Nat} {v : Value} {n : Nat} {xs : List Value} (h : W.ownsRow base e size v n xs) (hb : base' ≤ base) : W.ownsRow base' e size v n xs :=
  ⟨h.1, h.2.imp id fun ⟨g, cap, cur, h1, h2, h3⟩ => ⟨g, cap, cur, h1, Nat.le_trans hb h2, h3⟩⟩
theorem abides_rowG {β : Type} (n₁ B : Nat) (t e : TypeId) (size : Nat) (k : β → Nat) (f : β → List Value) : Abides (fun s q W => RowG n₁ B t e size (k s) (f s) q W) := fun s q q' W W' ⟨v, hv, hr, hB, hg⟩ ht hq =>
  ⟨v, (ht.block B hv.lt hB).trans hv, own_keptG hr (fun g e hl => ht.block g hl (hg g e)), fun h => (hq B h).elim hB fun h2 => by have := hv.lt; omega, fun g e h => (hq g h).elim (hg g e) fun h2 => by have := (hr.lt g e).2; omega⟩
/-- An append in a round, and the store of the new slice into its box. -/
theorem row_appG {W w2 w : World} {n₀ n₁ B : Nat} {t e : TypeId} {size n m : Nat} {v v' : Value} {xs ys : List Value} {tmp : Obj} {p q : Nat → Prop}
    (hv : Boxed W B t v) (hte : t ≠ e) (hrow : W.ownsRow n₁ e size v n xs) (hqB : ¬ q B) (hqg : ∀ g, v.ownBlock = some g → ¬ q g) (hB : BelowF n₀ w q W) (hnB : n₀ ≤ B) (hn : n₀ ≤ n₁) (hq : ∀ k, q k → k < W.heap.size) (hpB : ¬ p B) (hp : ∀ k, n₁ ≤ k → ¬ p k)
    (own2 : w2.ownsRow n₁ e size v' m ys) (grow2 : (W.alloc tmp).grownBy w2 v.ownBlock) (at2 : v'.ownBlock = v.ownBlock ∨ v'.ownBlock = some (W.alloc tmp).heap.size) :
    Boxed w2 B t v ∧ Boxed (w2.setCell ⟨B, 0, none⟩ v') B t v' ∧ Keeps (fun k => p k ∨ q k) W (w2.setCell ⟨B, 0, none⟩ v') ∧ RowG n₁ B t e size m ys q (w2.setCell ⟨B, 0, none⟩ v') ∧ BelowF n₀ w q (w2.setCell ⟨B, 0, none⟩ v') := by
  obtain ⟨hv1, hv2, -, hk2, hb2⟩ := hv.appended hte (own_lowG hrow hn) hB.2.1 hnB (own_lowG own2 hn) grow2
  have hr2 : (w2.setCell ⟨B, 0, none⟩ v').ownsRow n₁ e size v' m ys := own2.kept (grownBy_setCell' w2 B v') (.inr (hv1.not_row hte own2).symm)
  refine ⟨hv1, hv2, ?_, ⟨v', hv2, hr2, hqB, fun g e hg => ?_⟩, ⟨hB.1.trans hb2, Nat.le_trans hB.2.1 hb2.size, hB.2.2⟩⟩
  · refine (Keeps.trans (B := W.alloc tmp) ⟨by simp, fun k _ hl => Below.heap_alloc _ _ _ hl⟩ (Keeps.of_grown grow2 (fun k e => ?_))).trans (Keeps.set w2 (b := B) (o := 0) _ ?_)
    · rintro (h | h)
      · exact hp k (hrow.lt k e).1 h
      · exact hqg k e h
    · rintro (h | h)
      · exact hpB h
      · exact hqB h
  · rcases at2 with h | h
    · exact hqg g (by rw [← h]; exact e) hg
    · rw [h] at e
      simp only [Option.some.injEq] at e
      have := hq g hg
      simp at e
      omega
end Go.Proofs.Ytmncoclmgcjjjaa

/-
  file: slices.Chunk at words, as an iterator.
-/
namespace Go.Proofs.Ytmncoclmgcjjjaa
open Go.RowKit Go.Shelf
attribute [local go_sem] Oper.semAt_some

theorem chunkU_any (a : Option Addr) (len cap : Nat) (w : World) :
    Calls Try.prog 45 #[.slice a len cap, .int .i64 8] w fun e w' => e = .returned (.func (.func 56) #[] #[.pointer (some ⟨w.heap.size, 0, none⟩), .pointer (some ⟨w.heap.size + 1, 0, none⟩)]) ∧ w' = (w.alloc (.cells #[.slice a len cap] 71)).alloc (.cells #[.int .i64 8] 3) := by
  go_enter Try.func45, Try.ntmps45
  go_wp2
  go_ret
  exact ⟨rfl, rfl⟩
/-- A chunk of words, as a slice. -/
def encU (b off len : Nat) (y : Nat) : Array Value := #[.slice (some ⟨b, off + 8 * y, none⟩) (min 8 (len - 8 * y)) (min 8 (len - 8 * y))]
theorem take_range (m k : Nat) (h : k < m) : (List.range m).take k ++ [k] = (List.range m).take (k + 1) := by
  rw [List.take_succ_eq_append_getElem (by simpa using h)]; simp
def chP (p : Nat) (k : Nat) : Prop := k = p ∨ k = p + 1
set_option maxRecDepth 100000 in
set_option maxHeartbeats 4000000 in
theorem chunkU_seq (n : Nat) (_ : 1 ≤ n) {p b off len cap m : Nat} (w : World) (hm : m = WM.need len) (hlen : len ≤ 100000) (hlc : len ≤ cap) (hcap : cap ≤ 9223372036854775807) (h1 : Boxed w p 71 (.slice (some ⟨b, off, none⟩) len cap)) (h2 : Boxed w (p + 1) 3 (.int .i64 8)) :
    SeqF (chP p) n Try.prog 56 #[.pointer (some ⟨p, 0, none⟩), .pointer (some ⟨p + 1, 0, none⟩)] (encU b off len) (fun ys => ys = List.range m) (fun pre => pre <+: List.range m) w := fun lp J Jx W hW hJ hJx hY h0 => by
  have B1 : Hid (Boxed W p 71 (.slice (some ⟨b, off, none⟩) len cap)) := show Boxed _ _ _ _ from (hW.block _ h1.lt).trans h1
  have B2 : Hid (Boxed W (p + 1) 3 (.int .i64 8)) := show Boxed _ _ _ _ from (hW.block _ h2.lt).trans h2
  have HY := Lib.hid hY
  have HJ := Lib.hid hJ
  have HT := Lib.hid (fun (k : Nat) (hk : k < m) => take_range m k hk)
  have HM := Lib.hid hm
  clear hY hJx hW h1 h2 hm hJ
  refine callsIn_of_wp Try.func56 rfl trivial ?_ rfl
  simp only [Try.ntmps56, List.size_toArray, List.length_cons, List.length_nil, Nat.reduceAdd, Nat.reduceSub, Array.replicate_succ, Array.replicate_zero, List.push_toArray, List.append_toArray, List.nil_append, List.cons_append]
  gi_wp2_with fail
  gi_loopw [4] (fun i wr => ∃ k : Nat, k ≤ m ∧ i = .int .i64 (8 * (k : Int)) ∧ Hid (J ((List.range m).take k) (fun _ => False) wr) ∧ Hid (Keeps (chP p) W wr)) (fun i _ => 8 * m - (intOf i).toNat)
  case atStart => exact ⟨0, Nat.zero_le _, rfl, Lib.hid (by simpa using h0), Lib.hid (Keeps.refl _ _)⟩
  case round =>
    obtain ⟨k, hk, rfl, HJs, HKP⟩ := hrel
    have c1 : wr.cell? ⟨p, 0, none⟩ = some (.slice (some ⟨b, off, none⟩) len cap) := Boxed.cell ((HKP.out.2 p (.inl rfl) B1.out.lt).trans B1.out)
    have c2 : wr.cell? ⟨p + 1, 0, none⟩ = some (.int .i64 8) := Boxed.cell ((HKP.out.2 (p + 1) (.inr rfl) B2.out.lt).trans B2.out)
    by_cases hlt : k < m
    · have hk8 : 8 * k < len := by have hm := HM.out; unfold WM.need at hm; omega
      have HF := Lib.hid (HT.out k hlt)
      have ew : IntKind.i64.wrap (8 * (k : Int) + 8) = 8 * ((k + 1 : Nat) : Int) := by rw [IntWalk.i64_in _ (by omega)]; omega
      have HW := Lib.hid ew; clear ew
      by_cases h8 : 8 ≤ len - 8 * k
      · have h8' : (8 : Int) ≤ ((len - 8 * k : Nat) : Int) := by omega
        have hq : (8 * (k : Int) + 8).toNat - 8 * k = 8 := by omega
        have hmin : min 8 (len - 8 * k) = 8 := by omega
        have HQ := Lib.hid hmin; clear hmin h8
        gi_wp2
        gi_quiet (fail)
        rename_i nq
        obtain ⟨fn, tmps, assign, body, hy, hR⟩ := HY.out _ k _ (wr.drewN nq) (HJ.out _ _ _ _ _ HJs.out (Turn.of_below (grownBy_drewN wr nq |> fun h => (Below.refl wr.heap.size wr).grown h (Nat.le_refl _) (fun k e => by cases e)) (Nat.le_refl _)) (fun k h => .inl h)) (HKP.out.1) (fun q h => h.elim) (by rw [HF.out]; exact List.take_prefix _ _)
        unfold encU at hy
        rw [HQ.out] at hy
        rw [HF.out] at hR
        have HR := Lib.hid hR; clear hR
        gi_wp2
        refine HR.out.mono ?_
        rintro e W3 ⟨hk3, ⟨rfl, hJ3⟩ | ⟨rfl, hJx3⟩⟩
        · have HKP3 : Hid (Keeps (chP p) W W3) := show Keeps _ _ _ from (HKP.out.drewN _).trans (hk3.weaken fun k h => .inl h)
          have HJ3 := Lib.hid hJ3
          have c3 : W3.cell? ⟨p + 1, 0, none⟩ = some (.int .i64 8) := Boxed.cell ((HKP3.out.2 (p + 1) (.inr rfl) B2.out.lt).trans B2.out)
          clear hk3 hJ3 hy
          gi_wp2
          go_roundw
          case rel => exact ⟨k + 1, by omega, by go_num, HJ3, HKP3⟩
          case measure => simp [intOf]; omega
        · clear hy
          gi_wp2
          refine bodyPost_ret (results_none rfl _ _ _) rfl ?_
          exact ⟨⟨_, rfl⟩, .inr ⟨_, List.take_prefix _ _, hJx3⟩⟩
      · have h8' : ((len - 8 * k : Nat) : Int) < 8 := by omega
        have hq : (8 * (k : Int) + ((len - 8 * k : Nat) : Int)).toNat - 8 * k = len - 8 * k := by omega
        have hle : 8 * (k : Int) + ((len - 8 * k : Nat) : Int) ≤ (cap : Int) := by omega
        have hle2 : 8 * (k : Int) + ((len - 8 * k : Nat) : Int) ≤ 9223372036854775807 := by omega
        have hmin : min 8 (len - 8 * k) = len - 8 * k := by omega
        have HQ := Lib.hid hmin; clear hmin h8
        gi_wp2
        gi_quiet (fail)
        rename_i nq
        obtain ⟨fn, tmps, assign, body, hy, hR⟩ := HY.out _ k _ (wr.drewN nq) (HJ.out _ _ _ _ _ HJs.out (Turn.of_below (grownBy_drewN wr nq |> fun h => (Below.refl wr.heap.size wr).grown h (Nat.le_refl _) (fun k e => by cases e)) (Nat.le_refl _)) (fun k h => .inl h)) (HKP.out.1) (fun q h => h.elim) (by rw [HF.out]; exact List.take_prefix _ _)
        unfold encU at hy
        rw [HQ.out] at hy
        rw [HF.out] at hR
        have HR := Lib.hid hR; clear hR
        gi_wp2
        refine HR.out.mono ?_
        rintro e W3 ⟨hk3, ⟨rfl, hJ3⟩ | ⟨rfl, hJx3⟩⟩
        · have HKP3 : Hid (Keeps (chP p) W W3) := show Keeps _ _ _ from (HKP.out.drewN _).trans (hk3.weaken fun k h => .inl h)
          have HJ3 := Lib.hid hJ3
          have c3 : W3.cell? ⟨p + 1, 0, none⟩ = some (.int .i64 8) := Boxed.cell ((HKP3.out.2 (p + 1) (.inr rfl) B2.out.lt).trans B2.out)
          clear hk3 hJ3 hy
          gi_wp2
          go_roundw
          case rel => exact ⟨k + 1, by omega, by go_num, HJ3, HKP3⟩
          case measure => simp [intOf]; omega
        · clear hy
          gi_wp2
          refine bodyPost_ret (results_none rfl _ _ _) rfl ?_
          exact ⟨⟨_, rfl⟩, .inr ⟨_, List.take_prefix _ _, hJx3⟩⟩
    · obtain rfl : k = m := by omega
      have hk8 : len ≤ 8 * k := by have hm := HM.out; unfold WM.need at hm; omega
      gi_wp2
      go_end0
      exact ⟨⟨_, rfl⟩, .inl ⟨_, by rw [List.take_of_length_le (by simp)], HJs.out⟩⟩
end Go.Proofs.Ytmncoclmgcjjjaa
