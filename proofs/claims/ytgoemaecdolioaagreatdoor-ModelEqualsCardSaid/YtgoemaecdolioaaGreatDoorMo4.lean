/-
  Texts FlD to Tri, as one.
-/
import Derived.Test.YtgoemaecdolioaaGreatDoorMo1
import Derived.Test.YtgoemaecdolioaaGreatDoorMo2
import Derived.Test.YtgoemaecdolioaaGreatDoorMo3
import Derived.Maps.OwnIn
import Derived.RangeFuncBox
import Derived.WalkSpells
/-
  file: behind, Write, Cut, Read. Written by gen_fld.py.
-/
namespace Go.Proofs.YtgoemaecdolioaaGreatDoor
open Go.RowKit Go.Shelf
attribute [local go_sem] Oper.semAt_some

/-- What is wrong with a change of a file. -/
def errW (n : Nat) (p : Int) (m : Nat) : Int := if p < 0 then 2 else if 448 < n ∨ 448 - p < m then 190 else 0
theorem errW_neg {n : Nat} {p : Int} {m : Nat} (h : p < 0) : errW n p m = 2 := if_pos h
theorem errW_big {n : Nat} {p : Int} {m : Nat} (h : 0 ≤ p) (hb : 448 < n ∨ 448 - p < m) : errW n p m = 190 := by unfold errW; rw [if_neg (by omega), if_pos hb]
theorem errW_ok {n : Nat} {p : Int} {m : Nat} (h : 0 ≤ p) (hb : ¬ (448 < n ∨ 448 - p < m)) : errW n p m = 0 := by unfold errW; rw [if_neg (by omega), if_neg hb]
def outW (xs : List Nat) (p : Int) (ds : List Nat) : List Nat := if errW xs.length p ds.length = 0 then writeF xs p.toNat ds else []
def outC (xs : List Nat) (p : Int) : List Nat := if errW xs.length p 0 = 0 then cutF xs p.toNat else []
def errR (n : Nat) (p m : Int) : Int := if p < 0 ∨ m < 0 then 2 else if 448 < n then 190 else 0
def outR (xs : List Nat) (p m : Int) : List Nat := if errR xs.length p m = 0 then (xs.drop p.toNat).take m.toNat else []
theorem cutF_self (xs : List Nat) : cutF xs xs.length = xs := by simp [cutF]
set_option maxHeartbeats 2000000 in
theorem behindW_neg {B : Nat} {v u : Value} {xs ds : List Nat} (p : Int) (m : Nat) (hp : p < 0) (w : World) (_h : Fil w B v u xs ds) :
    Calls Tryz.prog 171 #[.pointer (some ⟨B, 0, none⟩), .func (.func 172) #[.pointer (some ⟨B, 0, none⟩)] #[], .int .i64 p, .int .i64 m] w fun e w' => e = .returned (.tuple #[.slice none 0 0, .int .i64 2]) ∧ w = w' := by
  go_enter Tryz.func171, Tryz.ntmps171
  go_wp2_with fail
  refine wp_scope_forward 0 rfl ?_
  go_wp2_with fail
  go_step3
  refine ⟨rfl, ?_⟩
  go_wp2
  rw [Exit.jump_ret]
  go_ret2
  exact ⟨rfl, rfl⟩
set_option maxHeartbeats 2000000 in
theorem behindW_big {B : Nat} {v u : Value} {xs ds : List Nat} (p : Int) (m : Nat) (hp : 0 ≤ p) (hp2 : p ≤ 9223372036854775807) (_hm : m ≤ 9223372036854775807) (hb : 448 < xs.length ∨ 448 - p < m) (w : World) (h : Fil w B v u xs ds) :
    Calls Tryz.prog 171 #[.pointer (some ⟨B, 0, none⟩), .func (.func 172) #[.pointer (some ⟨B, 0, none⟩)] #[], .int .i64 p, .int .i64 m] w fun e w' => e = .returned (.tuple #[.slice none 0 0, .int .i64 190]) ∧ w = w' := by
  have HG := Lib.hid isBig_any
  obtain ⟨c0, -⟩ := h.cells
  obtain ⟨a, c, rfl, hl, hc⟩ := h.c.form
  obtain ⟨n, hn⟩ : ∃ n, xs.length = n := ⟨_, rfl⟩
  rw [hn] at c0 hb hl
  have hwr : IntKind.i64.wrap (448 - p) = 448 - p := IntWalk.i64_in _ (by omega)
  clear h hn
  by_cases hbig : 448 < n
  · have hd : decide (448 < (n : Int)) = true := decide_eq_true (by omega)
    clear hb
    go_enter Tryz.func171, Tryz.ntmps171
    go_wp2_with fail
    refine wp_scope_forward 0 rfl ?_
    go_wp2_with (go_at_call 153; refine (HG.out _ _ _ _).mono ?_; rintro e w' ⟨rfl, rfl⟩; rw [hd])
    go_step3
    refine ⟨rfl, ?_⟩
    go_wp2
    rw [Exit.jump_ret]
    go_ret2
    exact ⟨rfl, rfl⟩
  · have hd : decide (448 < (n : Int)) = false := decide_eq_false (by omega)
    have hb2 : 448 - p < (m : Int) := by omega
    clear hb
    go_enter Tryz.func171, Tryz.ntmps171
    go_wp2_with fail
    refine wp_scope_forward 0 rfl ?_
    go_wp2_with (go_at_call 153; refine (HG.out _ _ _ _).mono ?_; rintro e w' ⟨rfl, rfl⟩; rw [hd])
    go_step3
    refine ⟨rfl, ?_⟩
    go_wp2
    rw [Exit.jump_ret]
    go_ret2
    exact ⟨rfl, rfl⟩
set_option maxRecDepth 100000 in
set_option maxHeartbeats 4000000 in
theorem behindW_ok {B : Nat} {v u : Value} {xs ds : List Nat} (p m : Nat) (hx : xs.length ≤ 448) (hp : p + m ≤ 448) (hm : m = ds.length) (w : World) (h : Fil w B v u xs ds) :
    Calls Tryz.prog 171 #[.pointer (some ⟨B, 0, none⟩), .func (.func 172) #[.pointer (some ⟨B, 0, none⟩)] #[], .int .i64 p, .int .i64 m] w fun e w' => ∃ r, e = .returned (.tuple #[r, .int .i64 0]) ∧ FB w' r (writeF xs p ds) ∧ Turn (fun k => k = B) w w' := by
  have HG := Lib.hid isBig_any
  have HE := Lib.hid (fun W (n : Nat) (hn : n ≤ 100000) (h : Fil W B v u xs ds) => end_any n hn W h)
  have HC := Lib.hid (fun W v (h : Fil W B v u xs ds) => write1_any p hx (by omega) W h)
  obtain ⟨c0, c1, -⟩ := h.cells
  obtain ⟨a, c, rfl, hl, hc⟩ := h.c.form
  have hdr : Below w.heap.size w w.drew := Below.drew (Below.refl _ _)
  have HF1 := Lib.hid (h.below hdr)
  have d0 := (HF1.out.cells).1
  obtain ⟨n, hn⟩ : ∃ n, xs.length = n := ⟨_, rfl⟩
  have HN := Lib.hid hn
  rw [hn] at c0 d0 hx hl
  have hwr : IntKind.i64.wrap (448 - (p : Int)) = 448 - (p : Int) := IntWalk.i64_in _ (by omega)
  have hd : decide (448 < (n : Int)) = false := decide_eq_false (by omega)
  have hb2 : ¬ 448 - (p : Int) < (m : Int) := by omega
  have hp1 : ¬ (p : Int) < 0 := by omega
  have hR : (fun W : World => W.cell? ⟨B, 0, none⟩ = some (.slice a n c)) w.drew := d0
  clear hn h hdr d0
  go_enter Tryz.func171, Tryz.ntmps171
  go_wp2_with fail
  refine wp_scope_forward 0 rfl ?_
  go_wp2_with (go_at_call 153; refine (HG.out _ _ _ _).mono ?_; rintro e w' ⟨rfl, rfl⟩; rw [hd])
  refine wp_region_M 8 (fun W : World => W.cell? ⟨B, 0, none⟩ = some (.slice a n c)) (by kernel_rfl) ?_
  (refine wpAnyM_take2 8 (i := 0) (v := ?_) rfl (by kernel_rfl) (by kernel_rfl) (fun _ _ _ h => h) (Or.inl ⟨by rfl, ?_⟩) hR ?_; rotate_left; (focus (intro w hSw; (try dsimp only at hSw); go_simp; (try with_reducible rfl))); (try simp only [put_laws])); (refine wpAnyM_take2 8 (i := 3) (v := ?_) rfl (by kernel_rfl) (by kernel_rfl) (fun _ _ _ h => h) (Or.inl ⟨by rfl, ?_⟩) hR ?_; rotate_left; (focus (intro w hSw; (try dsimp only at hSw); go_simp; (try with_reducible rfl))); (try simp only [put_laws])); (refine wpAnyM_take2 8 (i := 1) (v := ?_) rfl (by kernel_rfl) (by kernel_rfl) (fun _ _ _ h => h) (Or.inl ⟨by rfl, ?_⟩) hR ?_; rotate_left; (focus (intro w hSw; (try dsimp only at hSw); go_simp; (try with_reducible rfl))); (try simp only [put_laws])); (refine wpAnyM_take2 8 (i := 4) (v := ?_) rfl (by kernel_rfl) (by kernel_rfl) (fun _ _ _ h => h) (Or.inl ⟨by rfl, ?_⟩) hR ?_; rotate_left; (focus (intro w hSw; (try dsimp only at hSw); go_simp; (try with_reducible rfl))); (try simp only [put_laws])); (refine wpAnyM_take2 8 (i := 2) (v := ?_) rfl (by kernel_rfl) (by kernel_rfl) (fun _ _ _ h => h) (Or.inl ⟨by rfl, ?_⟩) hR ?_; rotate_left; (focus (intro w hSw; (try dsimp only at hSw); go_simp; (try with_reducible rfl))); (try simp only [put_laws])); (refine wpAnyM_take2 8 (i := 5) (v := ?_) rfl (by kernel_rfl) (by kernel_rfl) (fun _ _ _ h => h) (Or.inl ⟨by rfl, ?_⟩) hR ?_; rotate_left; (focus (intro w hSw; (try dsimp only at hSw); go_simp; (try with_reducible rfl))); (try simp only [put_laws])); (refine wpAnyM_take2 8 (i := 6) (v := ?_) rfl (by kernel_rfl) (by kernel_rfl) (fun _ _ _ h => h) (Or.inl ⟨by rfl, ?_⟩) hR ?_; rotate_left; (focus (intro w hSw; (try dsimp only at hSw); go_simp; (try with_reducible rfl))); (try simp only [put_laws])); (refine wpAnyM_take2 8 (i := 7) (v := ?_) rfl (by kernel_rfl) (by kernel_rfl) (fun _ _ _ h => h) (Or.inl ⟨by rfl, ?_⟩) hR ?_; rotate_left; (focus (intro w hSw; (try dsimp only at hSw); go_simp; (try with_reducible rfl))); (try simp only [put_laws]))
  (refine wpAnyM_last rfl (by kernel_rfl) (fun K hK => ?_); rw [if_pos (by rfl)]; (try simp only [elem_laws]))
  go_simp
  have H1 := HE.out w.drew n (by omega) HF1.out
  refine H1.mono ?_
  clear H1
  rintro e w1 ⟨⟨r, rfl⟩, hfil, hblk, ht⟩
  refine hK _ _ ?_
  clear hK K hR
  (try simp only [put_laws])
  refine wpAnyM_done (by kernel_rfl) ?_ _
  rw [← HN.out, cutF_self] at hfil
  have HF2 := Lib.hid hfil
  have HT2 : Hid (Turn (fun k => k = B) w w1) := show Turn _ _ _ from (Turn.of_below (Below.drew (Below.refl w.heap.size w)) (Nat.le_refl _)).trans ht
  clear hfil hblk ht c0 c1
  go_wp2_with fail
  refine (HC.out w1 _ HF2.out).mono ?_
  rintro e w2 ⟨⟨r2, rfl⟩, ⟨v2, hf2⟩, ht2⟩
  obtain ⟨e0, -⟩ := hf2.cells
  have HF3 := Lib.hid hf2
  have HT3 : Hid (Turn (fun k => k = B) w w2) := show Turn _ _ _ from HT2.out.trans ht2
  clear hf2 ht2
  go_wp2_with fail
  rw [Exit.jump_ret]
  go_ret2
  exact ⟨_, rfl, HF3.out.c, HT3.out⟩
set_option maxHeartbeats 2000000 in
theorem behindC_neg {B : Nat} {v u : Value} {xs ds : List Nat} (p : Int) (m : Nat) (hp : p < 0) (w : World) (_h : Fil w B v u xs ds) :
    Calls Tryz.prog 171 #[.pointer (some ⟨B, 0, none⟩), .func (.func 173) #[.pointer (some ⟨B, 0, none⟩)] #[], .int .i64 p, .int .i64 m] w fun e w' => e = .returned (.tuple #[.slice none 0 0, .int .i64 2]) ∧ w = w' := by
  go_enter Tryz.func171, Tryz.ntmps171
  go_wp2_with fail
  refine wp_scope_forward 0 rfl ?_
  go_wp2_with fail
  go_step3
  refine ⟨rfl, ?_⟩
  go_wp2
  rw [Exit.jump_ret]
  go_ret2
  exact ⟨rfl, rfl⟩
set_option maxHeartbeats 2000000 in
theorem behindC_big {B : Nat} {v u : Value} {xs ds : List Nat} (p : Int) (m : Nat) (hp : 0 ≤ p) (hp2 : p ≤ 9223372036854775807) (_hm : m ≤ 9223372036854775807) (hb : 448 < xs.length ∨ 448 - p < m) (w : World) (h : Fil w B v u xs ds) :
    Calls Tryz.prog 171 #[.pointer (some ⟨B, 0, none⟩), .func (.func 173) #[.pointer (some ⟨B, 0, none⟩)] #[], .int .i64 p, .int .i64 m] w fun e w' => e = .returned (.tuple #[.slice none 0 0, .int .i64 190]) ∧ w = w' := by
  have HG := Lib.hid isBig_any
  obtain ⟨c0, -⟩ := h.cells
  obtain ⟨a, c, rfl, hl, hc⟩ := h.c.form
  obtain ⟨n, hn⟩ : ∃ n, xs.length = n := ⟨_, rfl⟩
  rw [hn] at c0 hb hl
  have hwr : IntKind.i64.wrap (448 - p) = 448 - p := IntWalk.i64_in _ (by omega)
  clear h hn
  by_cases hbig : 448 < n
  · have hd : decide (448 < (n : Int)) = true := decide_eq_true (by omega)
    clear hb
    go_enter Tryz.func171, Tryz.ntmps171
    go_wp2_with fail
    refine wp_scope_forward 0 rfl ?_
    go_wp2_with (go_at_call 153; refine (HG.out _ _ _ _).mono ?_; rintro e w' ⟨rfl, rfl⟩; rw [hd])
    go_step3
    refine ⟨rfl, ?_⟩
    go_wp2
    rw [Exit.jump_ret]
    go_ret2
    exact ⟨rfl, rfl⟩
  · have hd : decide (448 < (n : Int)) = false := decide_eq_false (by omega)
    have hb2 : 448 - p < (m : Int) := by omega
    clear hb
    go_enter Tryz.func171, Tryz.ntmps171
    go_wp2_with fail
    refine wp_scope_forward 0 rfl ?_
    go_wp2_with (go_at_call 153; refine (HG.out _ _ _ _).mono ?_; rintro e w' ⟨rfl, rfl⟩; rw [hd])
    go_step3
    refine ⟨rfl, ?_⟩
    go_wp2
    rw [Exit.jump_ret]
    go_ret2
    exact ⟨rfl, rfl⟩
set_option maxRecDepth 100000 in
set_option maxHeartbeats 4000000 in
theorem behindC_ok {B : Nat} {v u : Value} {xs ds : List Nat} (p m : Nat) (hx : xs.length ≤ 448) (hp : p + m ≤ 448) (_ : m = 0) (w : World) (h : Fil w B v u xs ds) :
    Calls Tryz.prog 171 #[.pointer (some ⟨B, 0, none⟩), .func (.func 173) #[.pointer (some ⟨B, 0, none⟩)] #[], .int .i64 p, .int .i64 m] w fun e w' => ∃ r, e = .returned (.tuple #[r, .int .i64 0]) ∧ FB w' r (cutF xs p) ∧ Turn (fun k => k = B) w w' := by
  have HG := Lib.hid isBig_any
  have HE := Lib.hid (fun W (n : Nat) (hn : n ≤ 100000) (h : Fil W B v u xs ds) => end_any n hn W h)
  have HC : Hid (∀ W v, Fil W B v u xs ds → Calls Tryz.prog 173 #[.pointer (some ⟨B, 0, none⟩), .int .i64 (p : Nat)] W fun e w' => (∃ r, e = .returned r) ∧ (∃ v', Fil w' B v' u (cutF xs p) ds) ∧ Turn (fun k => k = B) W w') :=
    show ∀ W v, _ from fun W v h => (end_any p (by omega) W h).mono fun e w' ⟨he, hf, _, ht⟩ => ⟨he, ⟨_, hf⟩, ht⟩
  obtain ⟨c0, c1, -⟩ := h.cells
  obtain ⟨a, c, rfl, hl, hc⟩ := h.c.form
  have hdr : Below w.heap.size w w.drew := Below.drew (Below.refl _ _)
  have HF1 := Lib.hid (h.below hdr)
  have d0 := (HF1.out.cells).1
  obtain ⟨n, hn⟩ : ∃ n, xs.length = n := ⟨_, rfl⟩
  have HN := Lib.hid hn
  rw [hn] at c0 d0 hx hl
  have hwr : IntKind.i64.wrap (448 - (p : Int)) = 448 - (p : Int) := IntWalk.i64_in _ (by omega)
  have hd : decide (448 < (n : Int)) = false := decide_eq_false (by omega)
  have hb2 : ¬ 448 - (p : Int) < (m : Int) := by omega
  have hp1 : ¬ (p : Int) < 0 := by omega
  have hR : (fun W : World => W.cell? ⟨B, 0, none⟩ = some (.slice a n c)) w.drew := d0
  clear hn h hdr d0
  go_enter Tryz.func171, Tryz.ntmps171
  go_wp2_with fail
  refine wp_scope_forward 0 rfl ?_
  go_wp2_with (go_at_call 153; refine (HG.out _ _ _ _).mono ?_; rintro e w' ⟨rfl, rfl⟩; rw [hd])
  refine wp_region_M 8 (fun W : World => W.cell? ⟨B, 0, none⟩ = some (.slice a n c)) (by kernel_rfl) ?_
  (refine wpAnyM_take2 8 (i := 0) (v := ?_) rfl (by kernel_rfl) (by kernel_rfl) (fun _ _ _ h => h) (Or.inl ⟨by rfl, ?_⟩) hR ?_; rotate_left; (focus (intro w hSw; (try dsimp only at hSw); go_simp; (try with_reducible rfl))); (try simp only [put_laws])); (refine wpAnyM_take2 8 (i := 3) (v := ?_) rfl (by kernel_rfl) (by kernel_rfl) (fun _ _ _ h => h) (Or.inl ⟨by rfl, ?_⟩) hR ?_; rotate_left; (focus (intro w hSw; (try dsimp only at hSw); go_simp; (try with_reducible rfl))); (try simp only [put_laws])); (refine wpAnyM_take2 8 (i := 1) (v := ?_) rfl (by kernel_rfl) (by kernel_rfl) (fun _ _ _ h => h) (Or.inl ⟨by rfl, ?_⟩) hR ?_; rotate_left; (focus (intro w hSw; (try dsimp only at hSw); go_simp; (try with_reducible rfl))); (try simp only [put_laws])); (refine wpAnyM_take2 8 (i := 4) (v := ?_) rfl (by kernel_rfl) (by kernel_rfl) (fun _ _ _ h => h) (Or.inl ⟨by rfl, ?_⟩) hR ?_; rotate_left; (focus (intro w hSw; (try dsimp only at hSw); go_simp; (try with_reducible rfl))); (try simp only [put_laws])); (refine wpAnyM_take2 8 (i := 2) (v := ?_) rfl (by kernel_rfl) (by kernel_rfl) (fun _ _ _ h => h) (Or.inl ⟨by rfl, ?_⟩) hR ?_; rotate_left; (focus (intro w hSw; (try dsimp only at hSw); go_simp; (try with_reducible rfl))); (try simp only [put_laws])); (refine wpAnyM_take2 8 (i := 5) (v := ?_) rfl (by kernel_rfl) (by kernel_rfl) (fun _ _ _ h => h) (Or.inl ⟨by rfl, ?_⟩) hR ?_; rotate_left; (focus (intro w hSw; (try dsimp only at hSw); go_simp; (try with_reducible rfl))); (try simp only [put_laws])); (refine wpAnyM_take2 8 (i := 6) (v := ?_) rfl (by kernel_rfl) (by kernel_rfl) (fun _ _ _ h => h) (Or.inl ⟨by rfl, ?_⟩) hR ?_; rotate_left; (focus (intro w hSw; (try dsimp only at hSw); go_simp; (try with_reducible rfl))); (try simp only [put_laws])); (refine wpAnyM_take2 8 (i := 7) (v := ?_) rfl (by kernel_rfl) (by kernel_rfl) (fun _ _ _ h => h) (Or.inl ⟨by rfl, ?_⟩) hR ?_; rotate_left; (focus (intro w hSw; (try dsimp only at hSw); go_simp; (try with_reducible rfl))); (try simp only [put_laws]))
  (refine wpAnyM_last rfl (by kernel_rfl) (fun K hK => ?_); rw [if_pos (by rfl)]; (try simp only [elem_laws]))
  go_simp
  have H1 := HE.out w.drew n (by omega) HF1.out
  refine H1.mono ?_
  clear H1
  rintro e w1 ⟨⟨r, rfl⟩, hfil, hblk, ht⟩
  refine hK _ _ ?_
  clear hK K hR
  (try simp only [put_laws])
  refine wpAnyM_done (by kernel_rfl) ?_ _
  rw [← HN.out, cutF_self] at hfil
  have HF2 := Lib.hid hfil
  have HT2 : Hid (Turn (fun k => k = B) w w1) := show Turn _ _ _ from (Turn.of_below (Below.drew (Below.refl w.heap.size w)) (Nat.le_refl _)).trans ht
  clear hfil hblk ht c0 c1
  go_wp2_with fail
  refine (HC.out w1 _ HF2.out).mono ?_
  rintro e w2 ⟨⟨r2, rfl⟩, ⟨v2, hf2⟩, ht2⟩
  obtain ⟨e0, -⟩ := hf2.cells
  have HF3 := Lib.hid hf2
  have HT3 : Hid (Turn (fun k => k = B) w w2) := show Turn _ _ _ from HT2.out.trans ht2
  clear hf2 ht2
  go_wp2_with fail
  rw [Exit.jump_ret]
  go_ret2
  exact ⟨_, rfl, HF3.out.c, HT3.out⟩
end Go.Proofs.YtgoemaecdolioaaGreatDoor

/-
  file: the contracts of Write, Cut, Read.
-/
namespace Go.Proofs.YtgoemaecdolioaaGreatDoor
open Go.RowKit Go.Shelf
attribute [local go_sem] Oper.semAt_some

theorem fb_after {w w1 w' : World} {r : Value} {xs : List Nat} (h : FB w' r xs) (hb : Below w.heap.size w w1) (hn : w1.heap.size = w.heap.size + 1) (ht : Turn (fun k => k = w.heap.size) w1 w') : FB w' r xs ∧ Below w.heap.size w w' :=
  ⟨h, hb.trans (ht.below (B := w.heap.size) (fun k hk => by omega) (by omega))⟩
set_option maxHeartbeats 2000000 in
theorem write_any {v u : Value} {xs ds : List Nat} (p : Int) (hp0 : -9223372036854775808 ≤ p) (hp1 : p ≤ 9223372036854775807) (w : World) (hv : FB w v xs) (hu : FB w u ds) :
    Calls Tryz.prog 133 #[v, .int .i64 p, u] w fun e w' => ∃ r, e = .returned (.tuple #[r, .int .i64 (errW xs.length p ds.length)]) ∧ FB w' r (outW xs p ds) ∧ Below w.heap.size w w' := by
  have hdl : ds.length ≤ 9223372036854775807 := by obtain ⟨a, c, -, h1, h2⟩ := hu.form; omega
  have HB : Hid (∀ W1, w.alloc (.cells #[v, u] 208) = W1 → Calls Tryz.prog 171 #[.pointer (some ⟨w.heap.size, 0, none⟩), .func (.func 172) #[.pointer (some ⟨w.heap.size, 0, none⟩)] #[], .int .i64 p, .int .i64 (ds.length : Nat)] W1 fun e w' => ∃ r, e = .returned (.tuple #[r, .int .i64 (errW xs.length p ds.length)]) ∧ FB w' r (outW xs p ds) ∧ Below w.heap.size w w') := show ∀ W1, _ from by
    rintro W1 rfl
    have hf := fil_new w hv hu
    have hb : Below w.heap.size w (w.alloc (.cells #[v, u] 208)) := (Below.refl _ _).alloc (Nat.le_refl _) _
    have hn : (w.alloc (.cells #[v, u] 208)).heap.size = w.heap.size + 1 := by simp
    by_cases h1 : p < 0
    · refine (behindW_neg p ds.length h1 _ hf).mono ?_
      rintro e w' ⟨rfl, rfl⟩
      exact ⟨_, by rw [errW_neg h1], by unfold outW; rw [errW_neg h1]; exact nil_fb _, hb⟩
    · by_cases h2 : 448 < xs.length ∨ 448 - p < ds.length
      · refine (behindW_big p ds.length (by omega) hp1 hdl h2 _ hf).mono ?_
        rintro e w' ⟨rfl, rfl⟩
        exact ⟨_, by rw [errW_big (by omega) h2], by unfold outW; rw [errW_big (by omega) h2]; exact nil_fb _, hb⟩
      · have hx : xs.length ≤ 448 := by omega
        obtain ⟨q, rfl⟩ : ∃ q : Nat, p = (q : Int) := ⟨p.toNat, by omega⟩
        refine (behindW_ok q ds.length hx (by omega) rfl _ hf).mono ?_
        rintro e w' ⟨r, rfl, hr, ht⟩
        obtain ⟨hr, hb'⟩ := fb_after hr hb hn ht
        exact ⟨r, by rw [errW_ok (by omega) h2], by unfold outW; rw [errW_ok (by omega) h2]; exact hr, hb'⟩
  obtain ⟨a, c, rfl, -⟩ := hv.form
  obtain ⟨a', c', rfl, -⟩ := hu.form
  clear hv hu
  go_enter Tryz.func133, Tryz.ntmps133
  go_wp2_with fail
  refine (HB.out _ rfl).mono ?_
  rintro e w' ⟨r, rfl, hr, hb⟩
  go_wp2_with fail
  go_ret2
  exact ⟨r, rfl, hr, hb⟩
set_option maxHeartbeats 2000000 in
theorem cut_any {v : Value} {xs : List Nat} (p : Int) (hp0 : -9223372036854775808 ≤ p) (hp1 : p ≤ 9223372036854775807) (w : World) (hv : FB w v xs) :
    Calls Tryz.prog 134 #[v, .int .i64 p] w fun e w' => ∃ r, e = .returned (.tuple #[r, .int .i64 (errW xs.length p 0)]) ∧ FB w' r (outC xs p) ∧ Below w.heap.size w w' := by
  have HB : Hid (∀ W1, w.alloc (.cells #[v, .slice none 0 0] 208) = W1 → Calls Tryz.prog 171 #[.pointer (some ⟨w.heap.size, 0, none⟩), .func (.func 173) #[.pointer (some ⟨w.heap.size, 0, none⟩)] #[], .int .i64 p, .int .i64 0] W1 fun e w' => ∃ r, e = .returned (.tuple #[r, .int .i64 (errW xs.length p 0)]) ∧ FB w' r (outC xs p) ∧ Below w.heap.size w w') := show ∀ W1, _ from by
    rintro W1 rfl
    have hf := fil_new w hv (nil_fb w)
    have hb : Below w.heap.size w (w.alloc (.cells #[v, .slice none 0 0] 208)) := (Below.refl _ _).alloc (Nat.le_refl _) _
    have hn : (w.alloc (.cells #[v, .slice none 0 0] 208)).heap.size = w.heap.size + 1 := by simp
    by_cases h1 : p < 0
    · refine (behindC_neg p 0 h1 _ hf).mono ?_
      rintro e w' ⟨rfl, rfl⟩
      exact ⟨_, by rw [errW_neg h1], by unfold outC; rw [errW_neg h1]; exact nil_fb _, hb⟩
    · by_cases h2 : 448 < xs.length ∨ 448 - p < (0 : Nat)
      · refine (behindC_big p 0 (by omega) hp1 (by omega) h2 _ hf).mono ?_
        rintro e w' ⟨rfl, rfl⟩
        exact ⟨_, by rw [errW_big (by omega) h2], by unfold outC; rw [errW_big (by omega) h2]; exact nil_fb _, hb⟩
      · have hx : xs.length ≤ 448 := by omega
        obtain ⟨q, rfl⟩ : ∃ q : Nat, p = (q : Int) := ⟨p.toNat, by omega⟩
        refine (behindC_ok q 0 hx (by omega) rfl _ hf).mono ?_
        rintro e w' ⟨r, rfl, hr, ht⟩
        obtain ⟨hr, hb'⟩ := fb_after hr hb hn ht
        exact ⟨r, by rw [errW_ok (by omega) h2], by unfold outC; rw [errW_ok (by omega) h2]; exact hr, hb'⟩
  obtain ⟨a, c, rfl, -⟩ := hv.form
  clear hv
  go_enter Tryz.func134, Tryz.ntmps134
  go_wp2_with fail
  refine (HB.out _ rfl).mono ?_
  rintro e w' ⟨r, rfl, hr, hb⟩
  go_wp2_with fail
  go_ret2
  exact ⟨r, rfl, hr, hb⟩
set_option maxHeartbeats 2000000 in
theorem readF_any {v : Value} {xs : List Nat} (p m : Int) (w : World) (hv : FB w v xs) :
    Calls Tryz.prog 125 #[v, .int .i64 p, .int .i64 m] w fun e w' => ∃ r, e = .returned (.tuple #[r, .int .i64 (errR xs.length p m)]) ∧ FB w' r (outR xs p m) ∧ Below w.heap.size w w' := by
  have HG := Lib.hid isBig_any
  by_cases h1 : p < 0 ∨ m < 0
  · have HX : Hid (errR xs.length p m = 2) := show _ = _ from if_pos h1
    have HY : Hid (outR xs p m = []) := show _ = _ by unfold outR; rw [HX.out]; rfl
    obtain ⟨a, c, rfl, -⟩ := hv.form
    obtain ⟨n, hn⟩ : ∃ n, xs.length = n := ⟨_, rfl⟩
    rw [hn] at hv HX ⊢
    rw [HX.out, HY.out]
    clear hv hn
    by_cases h0 : p < 0
    · clear h1
      go_enter Tryz.func125, Tryz.ntmps125
      go_wp2_with fail
      refine wp_scope_forward 0 rfl ?_
      go_wp2_with fail
      go_step3
      refine ⟨rfl, ?_⟩
      go_wp2
      rw [Exit.jump_ret]
      go_ret2
      exact ⟨_, rfl, nil_fb _, (by repeat (first | exact Below.refl _ _ | assumption | refine Below.drew ?_ | refine below_drewN ?_ _ | refine Below.alloc ?_ (by (try simp) <;> omega) _ | refine Below.setCell ?_ (by (try simp) <;> omega) _ | refine Below.trans ?_ (Below.mono (by assumption) (by (try simp) <;> omega))))⟩
    · have h2 : m < 0 := by omega
      clear h1
      go_enter Tryz.func125, Tryz.ntmps125
      go_wp2_with fail
      refine wp_scope_forward 0 rfl ?_
      go_wp2_with fail
      go_step3
      refine ⟨rfl, ?_⟩
      go_wp2
      rw [Exit.jump_ret]
      go_ret2
      exact ⟨_, rfl, nil_fb _, (by repeat (first | exact Below.refl _ _ | assumption | refine Below.drew ?_ | refine below_drewN ?_ _ | refine Below.alloc ?_ (by (try simp) <;> omega) _ | refine Below.setCell ?_ (by (try simp) <;> omega) _ | refine Below.trans ?_ (Below.mono (by assumption) (by (try simp) <;> omega))))⟩
  · have h2 : ¬ p < 0 := by omega
    have h3 : ¬ m < 0 := by omega
    by_cases h4 : 448 < xs.length
    · have HX : Hid (errR xs.length p m = 190) := show _ = _ by unfold errR; rw [if_neg h1, if_pos h4]
      have HY : Hid (outR xs p m = []) := show _ = _ by unfold outR; rw [HX.out]; rfl
      obtain ⟨a, c, rfl, -⟩ := hv.form
      obtain ⟨n, hn⟩ : ∃ n, xs.length = n := ⟨_, rfl⟩
      rw [hn] at hv HX h4 ⊢
      rw [HX.out, HY.out]
      have hd : decide (448 < (n : Int)) = true := decide_eq_true (by omega)
      clear hv hn h1
      go_enter Tryz.func125, Tryz.ntmps125
      go_wp2_with fail
      refine wp_scope_forward 0 rfl ?_
      go_wp2_with (go_at_call 153; refine (HG.out _ _ _ _).mono ?_; rintro e w' ⟨rfl, rfl⟩; rw [hd])
      go_step3
      refine ⟨rfl, ?_⟩
      go_wp2
      rw [Exit.jump_ret]
      go_ret2
      exact ⟨_, rfl, nil_fb _, (by repeat (first | exact Below.refl _ _ | assumption | refine Below.drew ?_ | refine below_drewN ?_ _ | refine Below.alloc ?_ (by (try simp) <;> omega) _ | refine Below.setCell ?_ (by (try simp) <;> omega) _ | refine Below.trans ?_ (Below.mono (by assumption) (by (try simp) <;> omega))))⟩
    · have HX : Hid (errR xs.length p m = 0) := show _ = _ by unfold errR; rw [if_neg h1, if_neg h4]
      have HY : Hid (outR xs p m = (xs.drop p.toNat).take m.toNat) := show _ = _ by unfold outR; rw [HX.out]; rfl
      have HP : Hid (∀ W1, w.alloc (.cells #[v, .slice none 0 0] 208) = W1 → Calls Tryz.prog 154 #[v, .int .i64 p, .int .i64 m] W1 fun e w' => ∃ r, e = .returned r ∧ FB w' r ((xs.drop p.toNat).take m.toNat) ∧ Below w.heap.size w w') := show ∀ W1, _ from by
        rintro W1 rfl
        have hb : Below w.heap.size w (w.alloc (.cells #[v, .slice none 0 0] 208)) := (Below.refl _ _).alloc (Nat.le_refl _) _
        refine (part_any p m (by omega) (by omega) (by omega) _ (hv.below hb)).mono ?_
        rintro e w' ⟨r, he, hr, hb'⟩
        exact ⟨r, he, hr, hb.trans (hb'.mono hb.size)⟩
      obtain ⟨a, c, rfl, -⟩ := hv.form
      obtain ⟨n, hn⟩ : ∃ n, xs.length = n := ⟨_, rfl⟩
      rw [hn] at hv HX HP h4 ⊢
      rw [HX.out, HY.out]
      have hd : decide (448 < (n : Int)) = false := decide_eq_false (by omega)
      clear hv hn h1
      go_enter Tryz.func125, Tryz.ntmps125
      go_wp2_with fail
      refine wp_scope_forward 0 rfl ?_
      go_wp2_with (go_at_call 153; refine (HG.out _ _ _ _).mono ?_; rintro e w' ⟨rfl, rfl⟩; rw [hd])
      refine (HP.out _ rfl).mono ?_
      rintro e w' ⟨r, rfl, hr, hb⟩
      go_wp2_with fail
      rw [Exit.jump_ret]
      go_ret2
      exact ⟨r, rfl, hr, hb⟩
end Go.Proofs.YtgoemaecdolioaaGreatDoor

/-
  A box that holds a row which grows in the rounds of a range.
-/
namespace Go.Proofs.YtgoemaecdolioaaGreatDoor
open Go.RowKit Go.Shelf

theorem own_keptG {W W' : World} {base : Nat} {e : TypeId} {size : Nat} {v : Value} {n : Nat} {xs : List Value} (h : W.ownsRow base e size v n xs) (hk : ∀ g, v.ownBlock = some g → g < W.heap.size → W'.heap[g]? = W.heap[g]?) : W'.ownsRow base e size v n xs := by
  obtain ⟨hl, h⟩ := h
  refine ⟨hl, h.imp id fun ⟨g, cap, cur, hv, hb, hg, hr⟩ => ⟨g, cap, cur, hv, hb, ?_, hr⟩⟩
  rw [hk g (by rw [hv]; rfl) (Array.getElem?_eq_some_iff.1 hg).1]; exact hg
theorem own_lowG {W : World} {base base' : Nat} {e : TypeId} {size : Nat} {v : Value} {n : Nat} {xs : List Value} (h : W.ownsRow base e size v n xs) (hb : base' ≤ base) : W.ownsRow base' e size v n xs :=
  ⟨h.1, h.2.imp id fun ⟨g, cap, cur, h1, h2, h3⟩ => ⟨g, cap, cur, h1, Nat.le_trans hb h2, h3⟩⟩
end Go.Proofs.YtgoemaecdolioaaGreatDoor

/-
  Slices of elements of any number of cells: what is read (Vec), what is appended to (GrowB); append of the one to the other; clones.
-/
namespace Go.Proofs.YtgoemaecdolioaaGreatDoor
open Go.RowKit Go.Shelf

/-- v is a slice of n elements of s cells each, which holds the cells xs. -/
def Vec (W : World) (v : Value) (n s : Nat) (xs : List Value) : Prop :=
  xs.length = n * s ∧ ∃ a cap, v = .slice a n cap ∧ n ≤ cap ∧ (0 < n → ∃ b off, a = some ⟨b, off, none⟩ ∧ b < W.heap.size ∧ ∀ j y, xs[j]? = some y → W.cell? ⟨b, off + j, none⟩ = some y)
theorem Vec.keeps {W W' : World} {v : Value} {n s : Nat} {xs : List Value} (h : Vec W v n s xs) (hk : ∀ b, b < W.heap.size → b < W'.heap.size ∧ W'.heap[b]? = W.heap[b]?) : Vec W' v n s xs := by
  obtain ⟨hl, a, cap, hv, hc, hj⟩ := h
  refine ⟨hl, a, cap, hv, hc, fun h0 => ?_⟩
  obtain ⟨b, off, ha, hb, hx⟩ := hj h0
  exact ⟨b, off, ha, (hk b hb).1, fun j y hy => (World.cell?_of_block (a := ⟨b, off + j, none⟩) (hk b hb).2).trans (hx j y hy)⟩
theorem Vec.below {W W' : World} {v : Value} {n s : Nat} {xs : List Value} (h : Vec W v n s xs) (hb : Below W.heap.size W W') : Vec W' v n s xs :=
  h.keeps fun b hl => ⟨Nat.lt_of_lt_of_le hl hb.size, hb.block b hl⟩
theorem Vec.slice {W : World} {v : Value} {n s : Nat} {xs : List Value} (h : Vec W v n s xs) : ∃ a cap, v = .slice a n cap := by
  obtain ⟨-, a, cap, hv, -⟩ := h
  exact ⟨a, cap, hv⟩
theorem vec_of_own {W : World} {base : Nat} {e : TypeId} {v : Value} {n s : Nat} {xs : List Value} (h : W.ownsRow base e s v n xs) : Vec W v n s xs := by
  refine ⟨h.1, ?_⟩
  rcases h.2 with ⟨rfl, h0⟩ | ⟨g, cap, cur, rfl, hb, hg, hc, hm, hs, ht⟩
  · exact ⟨none, 0, by rw [h0], by omega, fun h => by omega⟩
  · refine ⟨_, cap, rfl, hc, fun _ => ⟨g, 0, rfl, (Array.getElem?_eq_some_iff.1 hg).1, fun j y hy => ?_⟩⟩
    have hj : j < n * s := by rw [← h.1]; exact (List.getElem?_eq_some_iff.1 hy).1
    rw [Nat.zero_add, World.ownsRow.cellAt h j hj]
    exact hy
/-- A slice to which one appends: empty, with no room; or a row that lies from B on. -/
def GrowB (W : World) (B : Nat) (e : TypeId) (s : Nat) (v : Value) (n : Nat) (xs : List Value) : Prop :=
  (n = 0 ∧ xs = [] ∧ ∃ ad, v = .slice (some ad) 0 0) ∨ W.ownsRow B e s v n xs
theorem GrowB.vec {W : World} {B : Nat} {e : TypeId} {s : Nat} {v : Value} {n : Nat} {xs : List Value} (h : GrowB W B e s v n xs) : Vec W v n s xs := by
  rcases h with ⟨rfl, rfl, ad, rfl⟩ | h
  · exact ⟨by simp, some ad, 0, rfl, Nat.le_refl _, fun h => absurd h (by simp)⟩
  · exact vec_of_own h
theorem GrowB.keeps {W W' : World} {B : Nat} {e : TypeId} {s : Nat} {v : Value} {n : Nat} {xs : List Value} (h : GrowB W B e s v n xs) (hk : ∀ b, b < W.heap.size → W'.heap[b]? = W.heap[b]?) : GrowB W' B e s v n xs := by
  rcases h with h | ⟨hl, h⟩
  · exact .inl h
  · refine .inr ⟨hl, h.imp id fun ⟨g, cap, cur, hv, hb, hg, hr⟩ => ⟨g, cap, cur, hv, hb, ?_, hr⟩⟩
    rw [hk g (Array.getElem?_eq_some_iff.1 hg).1]
    exact hg
theorem GrowB.below {W W' : World} {B : Nat} {e : TypeId} {s : Nat} {v : Value} {n : Nat} {xs : List Value} (h : GrowB W B e s v n xs) (hb : Below W.heap.size W W') : GrowB W' B e s v n xs := h.keeps fun b hl => hb.block b hl
theorem GrowB.slice {W : World} {B : Nat} {e : TypeId} {s : Nat} {v : Value} {n : Nat} {xs : List Value} (h : GrowB W B e s v n xs) : ∃ a cap, v = .slice a n cap := h.vec.slice
theorem GrowB.low {W : World} {B B' : Nat} {e : TypeId} {s : Nat} {v : Value} {n : Nat} {xs : List Value} (h : GrowB W B e s v n xs) (hb : B' ≤ B) : GrowB W B' e s v n xs :=
  h.imp id fun h => ⟨h.1, h.2.imp id fun ⟨g, cap, cur, h1, h2, h3⟩ => ⟨g, cap, cur, h1, Nat.le_trans hb h2, h3⟩⟩
theorem GrowB.new (W : World) (B : Nat) (e : TypeId) (s : Nat) : GrowB W B e s (.slice none 0 0) 0 [] := .inr (World.ownsRow_nil _ _ _ _)
/-- What an append does: a row of both; of what there was only the old row's room is written. -/
theorem vec_append_run {P : Program} (w : World) (t ty e : TypeId) (i : TypeInfo) (z : Value) (s bytes : Nat) (h1 : P.underlying t = some (.slice e)) (h2 : P.info? e = some i) (h3 : i.zero = some z) (h4 : i.size = s) (h5 : i.bytes = bytes) (h6 : z.cells.size = s) (h7 : 0 < s)
    (B : Nat) (v u : Value) (n m : Nat) (xs ys : List Value) (hG : GrowB w B e s v n xs) (hV : Vec w u m s ys) (one : ∀ u ∈ ys, u.oneCell' = true) (hl : n + m ≤ 1000000) (hby : (n + m) * bytes ≤ 140737488355328) (hB : B ≤ w.heap.size) :
    ∃ v' w', (Builtin.append_ #[t, t] ty #[v, u]).run P w = .ok v' w' ∧ GrowB w' B e s v' (n + m) (xs ++ ys) ∧ Below B w w' ∧ w.grownBy w' v.ownBlock ∧ (∀ g, v'.ownBlock = some g → v.ownBlock = some g ∨ g = w.heap.size) ∧ (w.ownsRow B e s v n xs → w'.ownsRow B e s v' (n + m) (xs ++ ys)) := by
  obtain ⟨hlen, ad, cap, rfl, hlc, hc⟩ := hV
  rcases Nat.eq_zero_or_pos m with h0 | h0
  · subst h0
    have hys : ys = [] := List.eq_nil_of_length_eq_zero (by rw [hlen, Nat.zero_mul])
    subst hys
    have hrun : (Builtin.append_ #[t, t] ty #[v, .slice ad 0 cap]).run P w = .ok v w := by
      rcases hG with ⟨_, _, g, rfl⟩ | hG
      · cases ad <;> simp [Builtin.append_, run_underlying h1, sizeOf, typeInfo, h2, Builtin.lenOf, Builtin.firstCells, storeCells, loadCells, loadCellsFrom]
      · rcases hG.2 with ⟨rfl, e0⟩ | ⟨g, c, cur, rfl, _, _, hnc, _⟩
        · cases ad <;> simp [Builtin.append_, run_underlying h1, sizeOf, typeInfo, h2, Builtin.lenOf, Builtin.firstCells, loadCells, loadCellsFrom]
        · cases ad <;> simp [Builtin.append_, run_underlying h1, sizeOf, typeInfo, h2, Builtin.lenOf, Builtin.firstCells, hnc, storeCells, loadCells, loadCellsFrom]
    exact ⟨v, w, hrun, by rw [List.append_nil]; exact hG, Below.refl _ _, World.grownBy.refl w _, fun g h => .inl h, fun h => by rw [List.append_nil]; exact h⟩
  · obtain ⟨b, off, rfl, _, hcell⟩ := hc h0
    have hcells : ∀ j y, ys[j]? = some y → w.cell? ((⟨b, off, none⟩ : Addr).add j) = some y := fun j y hy => by
      have e1 : (⟨b, off, none⟩ : Addr).add j = ⟨b, off + j, none⟩ := by
        unfold Addr.add; split <;> simp_all
      rw [e1]
      exact hcell j y hy
    have key : ∀ (v : Value), w.ownsRow B e s v n xs → ∃ v' w', (Builtin.append_ #[t, t] ty #[v, .slice (some ⟨b, off, none⟩) m cap]).run P w = .ok v' w' ∧ w'.ownsRow B e s v' (n + m) (xs ++ ys) ∧ Below B w w' ∧ w.grownBy w' v.ownBlock ∧ ∀ g, v'.ownBlock = some g → v.ownBlock = some g ∨ g = w.heap.size := fun v hown => by
      obtain ⟨v', w', hrun, r1, r2, _, r3⟩ := run_append_own_at (P := P) w B t ty e i z s bytes h1 h2 h3 h4 h5 h6 h7 v n xs hown ⟨b, off, none⟩ m cap ys hlen hcells one (by unfold maxLen; omega) hby hB
      exact ⟨v', w', hrun, r1, (Below.refl B w).grown r2 hB fun k e => (hown.lt k e).1, r2, fun g h => r3.elim (fun e => .inl (by rw [← e]; exact h)) fun e => .inr (by rw [h] at e; exact Option.some.inj e)⟩
    rcases hG with ⟨rfl, rfl, g, rfl⟩ | hG
    · have hby2 : m * bytes ≤ 140737488355328 := by rw [Nat.zero_add] at hby; exact hby
      have hr := run_append_grow (P := P) w t ty e i z h1 h2 h3 g 0 0 [] (by simp) (by simp) ⟨b, off, none⟩ m cap ys (by rw [hlen, h4]) hcells (by omega) (by omega) (by rw [h5]; exact growslice_fits (by omega) hby)
      have hr0 := run_append_nil (P := P) w t ty e i z h1 h2 h3 ⟨b, off, none⟩ m cap ys (by rw [hlen, h4]) hcells (by omega) (by omega) (by rw [h5]; exact Nat.le_trans hby2 (by decide))
      obtain ⟨v', w', hrun, r1, r2, r3, r4⟩ := key (.slice none 0 0) (World.ownsRow_nil _ _ _ _)
      refine ⟨v', w', ?_, .inr r1, r2, ⟨r3.os, r3.tape, r3.output, r3.size, fun k hk _ => r3.block k hk (by simp [Value.ownBlock])⟩, fun g h => (r4 g h).imp (fun h => by simp [Value.ownBlock] at h) id, fun _ => r1⟩
      rw [hr, ← hrun, hr0]
      simp
    · obtain ⟨v', w', hrun, r1, r2, r3, r4⟩ := key v hG
      exact ⟨v', w', hrun, .inr r1, r2, r3, r4, fun _ => r1⟩
/-- At an append. -/
theorem wpList_append_vec {P : Program} {w : World} {ops : Array Oper} {rest : List Oper} {o : Oper} {a : Act} {Q : Exit → Act → World → Prop} (hgd : o.guard = none) (sx x : Operand) (t : TypeId)
    (ho : o.op = .call { callee := .builtin .append, args := #[sx, x], argTypes := #[t, t] }) (e : TypeId) (i : TypeInfo) (z : Value) (s bytes : Nat) (h1 : P.underlying t = some (.slice e)) (h2 : P.info? e = some i) (h3 : i.zero = some z) (h4 : i.size = s) (h5 : i.bytes = bytes) (h6 : z.cells.size = s) (h7 : 0 < s)
    (B : Nat) (v u : Value) (n m : Nat) (xs ys : List Value) (hv : a.eval sx = v) (hu : a.eval x = u) (hG : GrowB w B e s v n xs) (hV : Vec w u m s ys) (one : ∀ u ∈ ys, u.oneCell' = true) (hl : n + m ≤ 1000000) (hby : (n + m) * bytes ≤ 140737488355328) (hB : B ≤ w.heap.size)
    (h : ∀ v' w', GrowB w' B e s v' (n + m) (xs ++ ys) → Below B w w' → (w.grownBy w' v.ownBlock ∧ (∀ g, v'.ownBlock = some g → v.ownBlock = some g ∨ g = w.heap.size) ∧ (w.ownsRow B e s v n xs → w'.ownsRow B e s v' (n + m) (xs ++ ys))) → wpList P ops Q rest (a.put o.dst v') w') : wpList P ops Q (o :: rest) a w :=
  wpList_plain hgd fun K hK => by
    obtain ⟨v', w', hr, r1, r2, r3⟩ := vec_append_run (P := P) w t o.type e i z s bytes h1 h2 h3 h4 h5 h6 h7 B v u n m xs ys hG hV one hl hby hB
    unfold Oper.wp execOp
    simp only [ho, resolve, invoke, builtin, Sem.run_bind, Sem.run_pure, Result.andThen_ok, List.map_toArray, List.map_cons, List.map_nil, hv, hu, hr]
    exact hK _ _ (h v' w' r1 r2 r3)
/-- The cells of a list whose elements have so many each. -/
def flatC {α : Type} (f : α → List Value) (l : List α) : List Value := l.flatMap f
theorem flatC_at {α : Type} {f : α → List Value} {s : Nat} (hf : ∀ x, (f x).length = s) : ∀ (l : List α) (k : Nat) (hk : k < l.length) (j : Nat), j < s → (flatC f l)[k * s + j]? = (f l[k])[j]?
  | x :: l, 0, _, j, hj => by
    show (flatC f (x :: l))[0 * s + j]? = (f x)[j]?
    rw [Nat.zero_mul, Nat.zero_add]
    unfold flatC
    rw [List.flatMap_cons, List.getElem?_append_left (by rw [hf]; exact hj)]
  | x :: l, k + 1, hk, j, hj => by
    have h := flatC_at hf l k (by simpa using hk) j hj
    show (flatC f (x :: l))[(k + 1) * s + j]? = (f (l[k]'(by simpa using hk)))[j]?
    rw [← h]
    unfold flatC
    rw [List.flatMap_cons, List.getElem?_append_right (by rw [hf, Nat.add_mul]; omega), hf]
    congr 1
    rw [Nat.add_mul]
    omega
/-- An element of a list in memory, cell by cell. -/
theorem Vec.at_ {α : Type} {f : α → List Value} {s : Nat} (hf : ∀ x, (f x).length = s) {W : World} {v : Value} {l : List α} (h : Vec W v l.length s (flatC f l)) (k : Nat) (hk : k < l.length) :
    ∃ b off cap, v = .slice (some ⟨b, off, none⟩) l.length cap ∧ b < W.heap.size ∧ W.rangeAt b (off + k * s) (f l[k]) := by
  obtain ⟨-, a, cap, hv, -, hj⟩ := h
  obtain ⟨b, off, ha, hb, hx⟩ := hj (by omega)
  refine ⟨b, off, cap, by rw [hv, ha], hb, fun j y hy => ?_⟩
  have hjs : j < s := by rw [← hf l[k]]; exact (List.getElem?_eq_some_iff.1 hy).1
  rw [Nat.add_assoc]
  exact hx _ _ ((flatC_at hf l k hk j hjs).trans hy)
end Go.Proofs.YtgoemaecdolioaaGreatDoor

/-
  A block of three cells.
-/
namespace Go.Proofs.YtgoemaecdolioaaGreatDoor
open Go.RowKit Go.Shelf

/-- A block of three cells. -/
def Tri (W : World) (B : Nat) (t : TypeId) (x y z : Value) : Prop := W.heap[B]? = some (.cells #[x, y, z] t (0, 0))
section
variable {W W' : World} {B : Nat} {t : TypeId} {x y z : Value}
theorem Tri.lt (h : Tri W B t x y z) : B < W.heap.size := (Array.getElem?_eq_some_iff.1 h).1
theorem Tri.cells (h : Tri W B t x y z) : W.cell? ⟨B, 0, none⟩ = some x ∧ W.cell? ⟨B, 1, none⟩ = some y ∧ W.cell? ⟨B, 2, none⟩ = some z ∧ W.frozen? ⟨B, 0, none⟩ = false ∧ W.frozen? ⟨B, 1, none⟩ = false ∧ W.frozen? ⟨B, 2, none⟩ = false := by
  unfold Tri at h
  simp [World.cell?, World.frozen?, h]
theorem Tri.new (W : World) (t : TypeId) (x y z : Value) : Tri (W.alloc (.cells #[x, y, z] t)) W.heap.size t x y z := World.alloc_heap_new W _
theorem Tri.below {n : Nat} (h : Tri W B t x y z) (hb : Below n W W') (hl : B < n) : Tri W' B t x y z := (hb.block B hl).trans h
end
/-- A block of two cells. -/
def Duo (W : World) (B : Nat) (t : TypeId) (x y : Value) : Prop := W.heap[B]? = some (.cells #[x, y] t (0, 0))
section
variable {W W' : World} {B : Nat} {t : TypeId} {x y : Value}
theorem Duo.lt (h : Duo W B t x y) : B < W.heap.size := (Array.getElem?_eq_some_iff.1 h).1
theorem Duo.cells (h : Duo W B t x y) : W.cell? ⟨B, 0, none⟩ = some x ∧ W.cell? ⟨B, 1, none⟩ = some y ∧ W.frozen? ⟨B, 0, none⟩ = false ∧ W.frozen? ⟨B, 1, none⟩ = false := by
  unfold Duo at h
  simp [World.cell?, World.frozen?, h]
theorem Duo.new (W : World) (t : TypeId) (x y : Value) : Duo (W.alloc (.cells #[x, y] t)) W.heap.size t x y := World.alloc_heap_new W _
theorem Duo.below {n : Nat} (h : Duo W B t x y) (hb : Below n W W') (hl : B < n) : Duo W' B t x y := (hb.block B hl).trans h
end
end Go.Proofs.YtgoemaecdolioaaGreatDoor
