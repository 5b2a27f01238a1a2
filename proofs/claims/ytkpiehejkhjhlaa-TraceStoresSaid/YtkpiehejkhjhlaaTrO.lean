/-
  trace: Clone, closing.
-/
import Derived.Test.YtkpiehejkhjhlaaTrN
namespace Go.Proofs.Ytkpiehejkhjhlaa
open Go.RowKit Go.Shelf Go.Maps

/-- Touches in a row that lies from B on. -/
def RowT (W : World) (B : Nat) (v : Value) (ts : List Tch) : Prop := GrowB W B 32 3 v ts.length (flatC cT ts)
theorem RowT.slT {W : World} {B : Nat} {v : Value} {ts : List Tch} (h : RowT W B v ts) : SlT W v ts := slT_of_vec (GrowB.vec h)
theorem RowT.below {W W' : World} {B : Nat} {v : Value} {ts : List Tch} (h : RowT W B v ts) (hb : Below W.heap.size W W') : RowT W' B v ts := GrowB.below h hb
theorem run_append_zero_T (W : World) (ad : Option Addr) (a : Addr) (c : Nat) : (Builtin.append_ #[22, 22] 22 #[.slice (some a) 0 0, .slice ad 0 c]).run Try.prog W = .ok (.slice (some a) 0 0) W := by
  cases ad <;> kernel_rfl
set_option maxHeartbeats 2000000 in
theorem cloneT_any {v : Value} {ts : List Tch} (w : World) (hl : ts.length ≤ 900000) (hs : SlT w v ts) :
    Calls Try.prog 34 #[v] w fun e w' => ∃ u, e = .returned u ∧ RowT w' w.heap.size u ts ∧ Below w.heap.size w w' := by
  obtain ⟨i0, hi, hz0, hz1, hz2⟩ := info_of infoT
  have hb1 : Below w.heap.size w (w.alloc (.cells #[] 32)) := (Below.refl _ _).alloc (Nat.le_refl _) _
  have qT : ∀ (w : World) (a : Option Addr) (n c : Nat), (binOp .eql 22 (.slice a n c) (.slice none 0 0)).run Try.prog w = .ok (.bool a.isNone) w := fun w a n c => Lib.run_eql_slice_nil w _ _ a n c 0 0 Try.underlying22
  have hV := (hs.below hb1).vec
  obtain ⟨N, hN⟩ : ∃ N, ts.length = N := ⟨_, rfl⟩
  obtain ⟨a, cap, rfl, hlc, hc⟩ := hs
  rcases a with _ | ad
  · have h0 : ts = [] := by
      rcases ts with _ | ⟨t, ts⟩
      · rfl
      · obtain ⟨b, off, e, _⟩ := hc (by simp)
        cases e
    subst h0
    clear hV hc hb1 hN
    go_enter Try.func34, Try.ntmps34
    go_wp2_with fail
    go_ret
    exact ⟨_, rfl, .inr (World.ownsRow_nil _ _ _ _), Below.refl _ _⟩
  · have HV := Lib.hid hV
    have HB := Lib.hid hb1
    have HN := Lib.hid hN
    rw [hN] at HV hl ⊢
    clear hV hc hb1 hN hlc
    go_enter Try.func34, Try.ntmps34
    go_wp2_with (at_builtin; refine park ?_)
    unfold Park
    refine wpList_append_vec rfl _ _ 22 rfl 32 i0 _ 3 24 Try.underlying22 hi hz0 hz1 hz2 rfl (by decide) w.heap.size _ _ 0 N [] (flatC cT ts) rfl rfl (.inl ⟨rfl, rfl, _, rfl⟩) HV.out (flatC_all cT_one ts) (by omega) (by omega) (by simp) ?_
    intro v2 w2 g2 t2 _
    rw [Nat.zero_add, List.nil_append] at g2
    obtain ⟨b, c', rfl⟩ := g2.slice
    have HG : Hid (RowT w2 w.heap.size (.slice b N c') ts) := show GrowB _ _ _ _ _ _ _ by rw [HN.out]; exact g2
    have HB2 : Hid (Below w.heap.size w w2) := show Below _ _ _ from HB.out.trans t2
    clear g2 t2
    go_wp2_with fail
    go_ret
    exact ⟨_, rfl, HG.out, HB2.out⟩
/-- The first so many flushes. -/
def flushes (L : List Nat) (k : Nat) : List Tch := (L.take k).map (fun k : Nat => (⟨3, k, 0⟩ : Tch))
theorem flushes_length (L : List Nat) (k : Nat) (h : k ≤ L.length) : (flushes L k).length = k := by
  unfold flushes
  rw [List.length_map, List.length_take, Nat.min_eq_left h]
theorem flushes_succ (L : List Nat) (k : Nat) (h : k < L.length) : flushes L (k + 1) = flushes L k ++ [⟨3, (L[k]?.getD 0 : Nat), 0⟩] := by
  unfold flushes
  rw [List.take_succ_eq_append_getElem h, List.map_append, List.getElem?_eq_getElem h]
  rfl
theorem linesV_short (p : Tch → Bool) (ts : List Tch) : (linesV p ts).length ≤ 1024 := by
  unfold linesV
  exact Nat.le_trans (List.length_filter_le _ _) (by simp)
theorem vec_touch (W : World) (x y z : Value) : Vec (W.alloc (.cells #[x, y, z] 32)) (.slice (some ⟨W.heap.size, 0, none⟩) 1 1) 1 3 [x, y, z] := vec_new W #[x, y, z] 32 1 3 rfl
theorem one_touch (a b c : Int) : ∀ u ∈ [Value.int .i64 a, .int .i64 b, .int .u64 c], u.oneCell' = true := by
  intro u hu
  simp at hu
  rcases hu with rfl | rfl | rfl <;> rfl
set_option maxHeartbeats 4000000 in
theorem closing_any {v : Value} {ts : List Tch} (w : World) (hl : ts.length ≤ 4096) (hs : SlT w v ts) (hr : ts.all rightT = true) :
    Calls Try.prog 35 #[v] w fun e w' => ∃ u, e = .returned u ∧ RowT w' w.heap.size u (closeV ts) ∧ Below w.heap.size w w' := by
  obtain ⟨i0, hi, hz0, hz1, hz2⟩ := info_of infoT
  have HI := Lib.hid hi
  have HL := Lib.hid (linesS_any w hl hs hr)
  obtain ⟨a, cap, rfl, -⟩ := id hs
  obtain ⟨N, hN⟩ : ∃ N, ts.length = N := ⟨_, rfl⟩
  obtain ⟨L, hL⟩ : ∃ L, linesV storesL ts = L := ⟨_, rfl⟩
  have hM := linesV_short storesL ts
  have HCV : Hid (closeV ts = flushes L L.length ++ [⟨4, 0, 0⟩]) := show _ = _ by unfold closeV flushes; rw [hL, List.take_length]
  rw [hN, hL] at HL
  rw [hL] at hM
  rw [hN]
  clear hs hr hL hN hl hi
  go_enter Try.func35, Try.ntmps35
  go_wp2_with fail
  refine HL.out.mono ?_
  rintro e w1 ⟨u, rfl, hrow, hb1⟩
  obtain ⟨M, hMe⟩ : ∃ M, L.length = M := ⟨_, rfl⟩
  have HSL := Lib.hid (fun W (hb : Below w1.heap.size w1 W) => (own_sl hrow).below hb)
  have hsl : ∃ a c, u = .slice a L.length c := own_slice2 hrow
  obtain ⟨ua, uc, rfl⟩ := hsl
  have HB1 := Lib.hid hb1
  have HM := Lib.hid hMe
  rw [hMe] at HSL hM ⊢
  clear hrow hb1 hMe
  go_wp2_with fail
  go_loopw [3, 9] (fun m i wr => ∃ k : Nat, k ≤ M ∧ i = .int .i64 (k : Nat) ∧ Hid (GrowB wr w1.heap.size 32 3 m k (flatC cT (flushes L k))) ∧ Hid (Below w1.heap.size w1 wr)) (fun _ i _ => M - (intOf i).toNat)
  case atStart => exact ⟨0, by omega, rfl, (show GrowB _ _ _ _ _ _ _ from GrowB.new _ _ _ _), (show Below _ _ _ from Below.refl _ _)⟩
  case round =>
    obtain ⟨k, hk, rfl, HG, HB⟩ := hrel
    have hg := HG.out
    obtain ⟨ga, gc, rfl⟩ := hg.slice
    by_cases hlt : k < M
    · obtain ⟨a', c', e', hc', hj⟩ := HSL.out wr HB.out
      rw [HM.out] at e'
      simp only [Value.slice.injEq, true_and] at e'
      obtain ⟨rfl, rfl⟩ := e'
      obtain ⟨b, off, rfl, hbl, hcell⟩ := hj (by rw [HM.out]; omega)
      have c0 := hcell k (by rw [HM.out]; exact hlt)
      obtain ⟨y, hy⟩ : ∃ y, L[k]?.getD 0 = y := ⟨_, rfl⟩
      rw [hy] at c0
      have k2 : (k : Int) < (M : Int) := by omega
      have hbx : Below wr.heap.size wr (wr.alloc (.cells #[.int .i64 3, .int .i64 (y : Nat), .int .u64 0] 32)) := (Below.refl _ _).alloc (Nat.le_refl _) _
      have HGX := Lib.hid (hg.below hbx)
      have HVX := Lib.hid (vec_touch wr (.int .i64 3) (.int .i64 (y : Nat)) (.int .u64 0))
      have HFS : Hid (flatC cT (flushes L k) ++ [.int .i64 3, .int .i64 (y : Nat), .int .u64 0] = flatC cT (flushes L (k + 1))) := show _ = _ by
        rw [flushes_succ L k (by rw [HM.out]; exact hlt), flatC_append, flatC_one, hy]
      have HBX : Hid (Below w1.heap.size w1 (wr.alloc (.cells #[.int .i64 3, .int .i64 (y : Nat), .int .u64 0] 32))) := show Below _ _ _ from HB.out.trans (hbx.mono HB.out.size)
      have hs2 := HB.out.size
      clear hcell hj hg hy hbx
      go_wp2_with (at_builtin; refine park ?_)
      unfold Park
      refine wpList_append_vec rfl _ _ 22 rfl 32 i0 _ 3 24 Try.underlying22 HI.out hz0 hz1 hz2 rfl (by decide) w1.heap.size _ _ k 1 _ _ rfl rfl HGX.out HVX.out (one_touch _ _ _) (by omega) (by omega) (by simp; omega) ?_
      intro v2 w2 g2 t2 _
      have HG2 : Hid (GrowB w2 w1.heap.size 32 3 v2 (k + 1) (flatC cT (flushes L (k + 1)))) := show GrowB _ _ _ _ _ _ _ by rw [← HFS.out]; exact g2
      have HB2 : Hid (Below w1.heap.size w1 w2) := show Below _ _ _ from HBX.out.trans t2
      clear g2 t2
      go_wp2_with fail
      go_roundw
      case rel => exact ⟨k + 1, by omega, by go_num, HG2, HB2⟩
      case measure => simp [intOf]; omega
    · obtain rfl : k = M := by omega
      have hbx : Below wr.heap.size wr (wr.alloc (.cells #[.int .i64 4, .int .i64 0, .int .u64 0] 32)) := (Below.refl _ _).alloc (Nat.le_refl _) _
      have HGX := Lib.hid (hg.below hbx)
      have HVX := Lib.hid (vec_touch wr (.int .i64 4) (.int .i64 0) (.int .u64 0))
      have HBX : Hid (Below w1.heap.size w1 (wr.alloc (.cells #[.int .i64 4, .int .i64 0, .int .u64 0] 32))) := show Below _ _ _ from HB.out.trans (hbx.mono HB.out.size)
      have hs2 := HB.out.size
      clear hg hbx
      go_wp2_with (at_builtin; refine park ?_)
      unfold Park
      refine wpList_append_vec rfl _ _ 22 rfl 32 i0 _ 3 24 Try.underlying22 HI.out hz0 hz1 hz2 rfl (by decide) w1.heap.size _ _ k 1 _ _ rfl rfl HGX.out HVX.out (one_touch _ _ _) (by omega) (by omega) (by simp; omega) ?_
      intro v2 w2 g2 t2 _
      have HG2 : Hid (RowT w2 w.heap.size v2 (closeV ts)) := show GrowB _ _ _ _ _ _ _ by
        rw [HCV.out, HM.out, List.length_append, flushes_length L k (by rw [HM.out]; omega), flatC_append, flatC_one]
        exact g2.low HB1.out.size
      have HB2 : Hid (Below w.heap.size w w2) := show Below _ _ _ from HB1.out.trans ((HBX.out.trans t2).mono HB1.out.size)
      obtain ⟨b2, c2, rfl⟩ := g2.slice
      clear g2 t2
      go_wp2_with fail
      go_ret
      exact ⟨_, rfl, HG2.out, HB2.out⟩
end Go.Proofs.Ytkpiehejkhjhlaa
