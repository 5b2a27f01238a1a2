/-
  The document's answers for trace: Orderly, Closed.
-/
import Derived.Test.YtkpiehejkhjhlaaTrZ
namespace Go.Proofs.Ytkpiehejkhjhlaa
open Go.RowKit Go.Shelf Go.Maps

/-- Is each line that a list stores to sure? -/
def orderR (ts : List Tch) : Bool := (linesV storesL ts).all fun k => sureV ts (k : Int)
theorem all_takeN {ls : List Nat} {f : Nat → Bool} {k : Nat} (h : k < ls.length) : (ls.take (k + 1)).all f = ((ls.take k).all f && f (ls[k]?.getD 0)) := by
  rw [List.take_succ_eq_append_getElem h, List.all_append, List.getElem?_eq_getElem h]
  simp
/-- The numbers of a row, wherever the walk stands. -/
theorem nums_at {w : World} {B : Nat} {a : Option Addr} {c M : Nat} {ls : List Nat} (hM : ls.length = M) (h : GrowB w B 3 1 (.slice a M c) ls.length (valsOf .i64 ls)) (k : Nat) (hk : k < M) :
    ∃ b off, a = some ⟨b, off, none⟩ ∧ ∀ W, Below w.heap.size w W → W.cell? ⟨b, off + k, none⟩ = some (.int .i64 (ls[k]?.getD 0 : Nat)) := by
  subst hM
  obtain ⟨a', c', e, _, hj⟩ := sl_of_vec h.vec
  simp only [Value.slice.injEq, true_and] at e
  obtain ⟨rfl, rfl⟩ := e
  obtain ⟨b, off, ha, hb, hc⟩ := hj (by omega)
  exact ⟨b, off, ha, fun W hW => (hW.cell (p := ⟨b, off + k, none⟩) hb).trans (hc k hk)⟩
theorem own_row_below {W W' : World} {B : Nat} {e : TypeId} {s n : Nat} {v : Value} {xs : List Value} (h : W.ownsRow B e s v n xs) (hb : Below W.heap.size W W') : W'.ownsRow B e s v n xs := by
  refine ⟨h.1, h.2.imp id fun ⟨g, cap, cur, hv, h1, hg, hr⟩ => ⟨g, cap, cur, hv, h1, ?_, hr⟩⟩
  rw [hb.block g (Array.getElem?_eq_some_iff.1 hg).1]
  exact hg
set_option maxRecDepth 100000 in
set_option maxHeartbeats 4000000 in
theorem ref5Orderly_any {v : Value} {ts : List Tch} (w : World) (hl : ts.length ≤ 90000) (hok : ∀ t ∈ ts, okT t) (hs : SlT w v ts) :
    Calls Try.prog 21 #[v] w fun e w' => e = .returned (.bool (orderR ts)) ∧ Below w.heap.size w w' := by
  have HST := Lib.hid (stored_any w hl hok hs)
  have HSU := Lib.hid (fun line W (hb : Below w.heap.size w W) => sure_any line W hl hok (hs.below hb))
  have HLS := Lib.hid (linesV_short storesL ts)
  have HOR : Hid (orderR ts = (linesV storesL ts).all fun k => sureV ts (k : Int)) := show _ = _ from rfl
  obtain ⟨a, cap, rfl, -⟩ := id hs
  obtain ⟨N, hN⟩ : ∃ N, ts.length = N := ⟨_, rfl⟩
  obtain ⟨X, hX⟩ : ∃ X, linesV storesL ts = X := ⟨_, rfl⟩
  rw [hX] at HST HLS HOR
  rw [hN] at HST HSU ⊢
  clear hs hok hN hX
  go_enter Try.func21, Try.ntmps21
  go_wp2_with fail
  refine HST.out.mono ?_
  rintro e w1 ⟨u, rfl, hg, hb1⟩
  have hsl := hg.slice
  obtain ⟨ua, uc, rfl⟩ := hsl
  have HB1 := Lib.hid hb1
  obtain ⟨M, hM⟩ : ∃ M, X.length = M := ⟨_, rfl⟩
  have HM := Lib.hid hM
  have hg' := hg
  rw [hM] at hg'
  have HNA := Lib.hid (nums_at (w := w1) (B := w.heap.size) (a := ua) (c := uc) hM (by rw [hM]; exact hg'))
  rw [hM] at HLS ⊢
  clear hg hb1 hM hg'
  go_wp2_with fail
  go_loopw [4] (fun i wr => ∃ k : Nat, k ≤ M ∧ i = .int .i64 (k : Nat) ∧ Hid ((X.take k).all (fun k => sureV ts (k : Int)) = true) ∧ Hid (Below w1.heap.size w1 wr)) (fun i _ => M - (intOf i).toNat)
  case atStart => exact ⟨0, by omega, rfl, (show _ = _ from rfl), (show Below _ _ _ from Below.refl _ _)⟩
  case round =>
    obtain ⟨k, hk, rfl, HJ, HB⟩ := hrel
    have hm1024 := HLS.out
    by_cases hlt : k < M
    · obtain ⟨b, off, rfl, hat⟩ := HNA.out k hlt
      have c0 := hat wr HB.out
      have k2 : (k : Int) < (M : Int) := by omega
      have HTK := Lib.hid (all_takeN (f := fun k => sureV ts (k : Int)) (ls := X) (k := k) (by rw [HM.out]; exact hlt))
      obtain ⟨y, hy⟩ : ∃ y, X[k]?.getD 0 = y := ⟨_, rfl⟩
      rw [hy] at c0 HTK
      have hmem : y ∈ X := by
        have h : k < X.length := by rw [HM.out]; exact hlt
        rw [List.getElem?_eq_getElem h] at hy
        rw [← hy]
        exact List.getElem_mem h
      have HMEM := Lib.hid hmem
      have HBW : Hid (Below w.heap.size w wr) := show Below _ _ _ from HB1.out.trans (HB.out.mono HB1.out.size)
      clear hat hy hmem
      go_wp2_with fail
      refine (HSU.out (y : Int) wr HBW.out).mono ?_
      rintro e w2 ⟨rfl, hb2⟩
      have HB2 : Hid (Below w1.heap.size w1 w2) := show Below _ _ _ from HB.out.trans (hb2.mono HB.out.size)
      clear hb2
      cases hsu : sureV ts (y : Int) with
      | true =>
        have HJ1 : Hid ((X.take (k + 1)).all (fun k => sureV ts (k : Int)) = true) := show _ = _ by rw [HTK.out, HJ.out, hsu]; rfl
        go_wp2_with fail
        go_roundw
        case rel => exact ⟨k + 1, by omega, by go_num, HJ1, HB2⟩
        case measure => simp [intOf]; omega
      | false =>
        have HE : Hid (orderR ts = false) := show _ = _ by rw [HOR.out]; exact List.all_eq_false.2 ⟨y, HMEM.out, by rw [hsu]; simp⟩
        go_wp2_with fail
        go_ret
        exact ⟨by rw [HE.out]; rfl, HB1.out.trans (HB2.out.mono HB1.out.size)⟩
    · obtain rfl : k = M := by omega
      have HE : Hid (orderR ts = true) := show _ = _ by
        have h := HJ.out
        rw [List.take_of_length_le (Nat.le_of_eq HM.out)] at h
        rw [HOR.out]; exact h
      go_wp2_with fail
      go_ret
      exact ⟨by rw [HE.out]; rfl, HB1.out.trans (HB.out.mono HB1.out.size)⟩
/-- What the document makes of a right list; its error. -/
def closedRE (ts : List Tch) : Int := if orderR ts then 0 else if 4096 < (ts ++ closeV ts).length then 3 else 0
def closedR (ts : List Tch) : List Tch := if orderR ts then ts else if 4096 < (ts ++ closeV ts).length then [] else ts ++ closeV ts
set_option maxRecDepth 100000 in
set_option maxHeartbeats 4000000 in
theorem ref5Closed_any {v : Value} {ts : List Tch} (w : World) (hl : ts.length ≤ 90000) (hok : ∀ t ∈ ts, okT t) (hs : SlT w v ts) :
    Calls Try.prog 20 #[v] w fun e w' => ∃ u, e = .returned (.tuple #[u, .int .i64 (closedRE ts)]) ∧ SlT w' u (closedR ts) ∧ Below w.heap.size w w' := by
  obtain ⟨i0, hi, hz0, hz1, hz2⟩ := info_of infoT
  have HII := Lib.hid hi
  have HV := Lib.hid hs.vec
  have HOD := Lib.hid (fun W (hb : Below w.heap.size w W) => ref5Orderly_any W hl hok (hs.below hb))
  have HST := Lib.hid (fun W (hb : Below w.heap.size w W) => stored_any W hl hok (hs.below hb))
  have HLS := Lib.hid (linesV_short storesL ts)
  obtain ⟨a, cap, rfl, -⟩ := id hs
  obtain ⟨N, hN⟩ : ∃ N, ts.length = N := ⟨_, rfl⟩
  have HN := Lib.hid hN
  obtain ⟨X, hX⟩ : ∃ X, linesV storesL ts = X := ⟨_, rfl⟩
  have HCV : Hid (closeV ts = flushes X X.length ++ [⟨4, 0, 0⟩]) := show _ = _ by unfold closeV flushes; rw [hX, List.take_length]
  rw [hX] at HST HLS
  rw [hN] at HV HOD HST hl ⊢
  clear hs hok hN hX hi
  go_enter Try.func20, Try.ntmps20
  go_wp2_with (at_builtin; refine park ?_)
  unfold Park
  refine wpList_append_vec rfl _ _ 22 rfl 32 i0 _ 3 24 Try.underlying22 HII.out hz0 hz1 hz2 rfl (by decide) w.heap.size _ _ 0 N _ _ rfl rfl (GrowB.new _ _ _ _) HV.out (flatC_all cT_one _) (by omega) (by omega) (Nat.le_refl _) ?_
  rintro v1 w1 - t1 ⟨-, -, g1⟩
  have g1 := g1 (World.ownsRow_nil _ _ _ _)
  rw [Nat.zero_add, List.nil_append] at g1
  have hsl := own_slice2 g1
  obtain ⟨oa, oc, rfl⟩ := hsl
  have HG1 := Lib.hid g1
  have HB1 := Lib.hid t1
  clear g1 t1
  go_wp2_with fail
  refine (HOD.out w1 HB1.out).mono ?_
  rintro e w2 ⟨rfl, hb2⟩
  have HG2 : Hid (w2.ownsRow w.heap.size 32 3 (.slice oa N oc) N (flatC cT ts)) := show World.ownsRow _ _ _ _ _ _ _ from own_row_below HG1.out hb2
  have HB2 : Hid (Below w.heap.size w w2) := show Below _ _ _ from HB1.out.trans (hb2.mono HB1.out.size)
  clear hb2
  cases ho : orderR ts with
  | true =>
    have HE : Hid (closedRE ts = 0) := show _ = _ by unfold closedRE; rw [ho]; rfl
    have HC : Hid (closedR ts = ts) := show _ = _ by unfold closedR; rw [ho]; rfl
    clear ho
    go_wp2_with fail
    go_ret2
    refine ⟨.slice oa N oc, by rw [HE.out]; rfl, ?_, HB2.out⟩
    rw [HC.out]
    exact slT_of_vec (by rw [HN.out]; exact vec_of_own HG2.out)
  | false =>
    have HE : Hid (closedRE ts = if 4096 < (ts ++ closeV ts).length then 3 else 0) := show _ = _ by unfold closedRE; rw [ho]; rfl
    have HC : Hid (closedR ts = if 4096 < (ts ++ closeV ts).length then [] else ts ++ closeV ts) := show _ = _ by unfold closedR; rw [ho]; rfl
    clear ho
    go_wp2_with fail
    refine (HST.out w2 HB2.out).mono ?_
    rintro e w3 ⟨u, rfl, hg3, hb3⟩
    have hsl3 := hg3.slice
    obtain ⟨ua, uc, rfl⟩ := hsl3
    have HG3 : Hid (w3.ownsRow w.heap.size 32 3 (.slice oa N oc) N (flatC cT ts)) := show World.ownsRow _ _ _ _ _ _ _ from own_row_below HG2.out hb3
    have HB3 : Hid (Below w.heap.size w w3) := show Below _ _ _ from HB2.out.trans (hb3.mono HB2.out.size)
    obtain ⟨M, hM⟩ : ∃ M, X.length = M := ⟨_, rfl⟩
    have HM := Lib.hid hM
    have HNA := Lib.hid (fun k (hk : k < M) => nums_at (w := w3) (B := w2.heap.size) (a := ua) (c := uc) hM (by rw [hM] at hg3 ⊢; exact hg3) k hk)
    have HOB : Hid (∀ g, (Value.slice ua M uc).ownBlock = some g → 0 < M → w2.heap.size ≤ g ∧ g < w3.heap.size) := show ∀ g, _ from fun g e h0 => by
      rcases hg3 with ⟨h, _⟩ | h
      · omega
      · rw [hM] at h
        exact h.lt g e
    have HUB : Hid (∀ g, (Value.slice oa N oc).ownBlock = some g → g < w2.heap.size ∨ w3.heap.size ≤ g) := show ∀ g, _ from fun g e => .inl (HG2.out.lt g e).2
    have hs1 := HB2.out.size
    have hs3 := hb3.size
    rw [hM] at HLS ⊢
    clear hg3 hb3 hM
    go_wp2_with fail
    go_loopw [4, 6] (fun o i wr => ∃ k : Nat, k ≤ M ∧ i = .int .i64 (k : Nat) ∧ Hid (wr.ownsRow w.heap.size 32 3 o (N + k) (flatC cT (ts ++ flushes X k))) ∧ Hid (∀ g, o.ownBlock = some g → g < w2.heap.size ∨ w3.heap.size ≤ g) ∧ Hid (Keeps (fun k => w2.heap.size ≤ k ∧ k < w3.heap.size) w3 wr) ∧ Hid (Below w.heap.size w wr)) (fun _ i _ => M - (intOf i).toNat)
    case atStart => exact ⟨0, by omega, rfl, (show World.ownsRow _ _ _ _ _ _ _ by unfold flushes; rw [List.take_zero, List.map_nil, List.append_nil]; exact HG3.out), HUB, Lib.hid (Keeps.refl _ _), HB3⟩
    case round =>
      obtain ⟨k, hk, rfl, HG, HU, HK, HB⟩ := hrel
      have hsl := own_slice2 HG.out
      obtain ⟨ga, gc, rfl⟩ := hsl
      have hm1024 := HLS.out
      by_cases hlt : k < M
      · obtain ⟨b, off, rfl, hat⟩ := HNA.out k hlt
        obtain ⟨hb2, hb3⟩ := HOB.out b rfl (by omega)
        have c0 : wr.cell? ⟨b, off + k, none⟩ = some (.int .i64 (X[k]?.getD 0 : Nat)) := (World.cell?_of_block (a := ⟨b, off + k, none⟩) (HK.out.2 b ⟨hb2, hb3⟩ hb3)).trans (hat w3 (Below.refl _ _))
        have HFS : Hid (flatC cT (ts ++ flushes X k) ++ [.int .i64 3, .int .i64 (X[k]?.getD 0 : Nat), .int .u64 0] = flatC cT (ts ++ flushes X (k + 1))) := show _ = _ by
          rw [flushes_succ X k (by rw [HM.out]; exact hlt), ← List.append_assoc, flatC_append cT (ts ++ flushes X k), flatC_one]
        obtain ⟨y, hy⟩ : ∃ y, X[k]?.getD 0 = y := ⟨_, rfl⟩
        rw [hy] at c0 HFS
        have k2 : (k : Int) < (M : Int) := by omega
        have hbx : Below wr.heap.size wr (wr.alloc (.cells #[.int .i64 3, .int .i64 (y : Nat), .int .u64 0] 32)) := (Below.refl _ _).alloc (Nat.le_refl _) _
        have HGX : Hid ((wr.alloc (.cells #[.int .i64 3, .int .i64 (y : Nat), .int .u64 0] 32)).ownsRow w.heap.size 32 3 (.slice ga (N + k) gc) (N + k) (flatC cT (ts ++ flushes X k))) := show World.ownsRow _ _ _ _ _ _ _ from own_row_below HG.out hbx
        have HVX := Lib.hid (vec_touch wr (.int .i64 3) (.int .i64 (y : Nat)) (.int .u64 0))
        have HBX : Hid (Below w.heap.size w (wr.alloc (.cells #[.int .i64 3, .int .i64 (y : Nat), .int .u64 0] 32))) := show Below _ _ _ from HB.out.trans (hbx.mono HB.out.size)
        have hsz : w.heap.size ≤ (wr.alloc (.cells #[.int .i64 3, .int .i64 (y : Nat), .int .u64 0] 32)).heap.size := HBX.out.size
        have HSW : Hid (w3.heap.size ≤ (wr.alloc (.cells #[.int .i64 3, .int .i64 (y : Nat), .int .u64 0] 32)).heap.size) := show _ ≤ _ from Nat.le_trans HK.out.1 hbx.size
        have HKX : Hid (Keeps (fun k => w2.heap.size ≤ k ∧ k < w3.heap.size) w3 (wr.alloc (.cells #[.int .i64 3, .int .i64 (y : Nat), .int .u64 0] 32))) := show Keeps _ _ _ from
          ⟨HSW.out, fun k hk hl => (hbx.block k (Nat.lt_of_lt_of_le hl HK.out.1)).trans (HK.out.2 k hk hl)⟩
        clear hbx hat hy hb2 hb3
        go_wp2_with (at_builtin; refine park ?_)
        unfold Park
        refine wpList_append_vec rfl _ _ 22 rfl 32 i0 _ 3 24 Try.underlying22 HII.out hz0 hz1 hz2 rfl (by decide) w.heap.size _ _ (N + k) 1 _ _ rfl rfl (.inr HGX.out) HVX.out (one_touch _ _ _) (by omega) (by omega) hsz ?_
        rintro v4 w4 - t4 ⟨g4, u4, r4⟩
        have HG4 : Hid (w4.ownsRow w.heap.size 32 3 v4 (N + (k + 1)) (flatC cT (ts ++ flushes X (k + 1)))) := show World.ownsRow _ _ _ _ _ _ _ by rw [← HFS.out]; exact r4 HGX.out
        have HU4 : Hid (∀ g, v4.ownBlock = some g → g < w2.heap.size ∨ w3.heap.size ≤ g) := show ∀ g, _ from fun g e => (u4 g e).elim (HU.out g) fun h => .inr (by rw [h]; exact HSW.out)
        have HK4 : Hid (Keeps (fun k => w2.heap.size ≤ k ∧ k < w3.heap.size) w3 w4) := show Keeps _ _ _ from
          ⟨Nat.le_trans HSW.out (by have := g4.size; exact this), fun k hk hl => (g4.block k (Nat.lt_of_lt_of_le hl HSW.out) (fun e => (HU.out k e.symm).elim (fun h => by omega) fun h => by omega)).trans (HKX.out.2 k hk hl)⟩
        have HB4 : Hid (Below w.heap.size w w4) := show Below _ _ _ from HBX.out.trans t4
        clear t4 g4 u4 r4 hsz
        go_wp2_with fail
        go_roundw
        case rel => exact ⟨k + 1, by omega, by go_num, HG4, HU4, HK4, HB4⟩
        case measure => simp [intOf]; omega
      · obtain rfl : k = M := by omega
        have hbx : Below wr.heap.size wr (wr.alloc (.cells #[.int .i64 4, .int .i64 0, .int .u64 0] 32)) := (Below.refl _ _).alloc (Nat.le_refl _) _
        have HGX : Hid ((wr.alloc (.cells #[.int .i64 4, .int .i64 0, .int .u64 0] 32)).ownsRow w.heap.size 32 3 (.slice ga (N + k) gc) (N + k) (flatC cT (ts ++ flushes X k))) := show World.ownsRow _ _ _ _ _ _ _ from own_row_below HG.out hbx
        have HVX := Lib.hid (vec_touch wr (.int .i64 4) (.int .i64 0) (.int .u64 0))
        have HBX : Hid (Below w.heap.size w (wr.alloc (.cells #[.int .i64 4, .int .i64 0, .int .u64 0] 32))) := show Below _ _ _ from HB.out.trans (hbx.mono HB.out.size)
        have hsz : w.heap.size ≤ (wr.alloc (.cells #[.int .i64 4, .int .i64 0, .int .u64 0] 32)).heap.size := HBX.out.size
        clear hbx
        go_wp2_with (at_builtin; refine park ?_)
        unfold Park
        refine wpList_append_vec rfl _ _ 22 rfl 32 i0 _ 3 24 Try.underlying22 HII.out hz0 hz1 hz2 rfl (by decide) w.heap.size _ _ (N + k) 1 _ _ rfl rfl (.inr HGX.out) HVX.out (one_touch _ _ _) (by omega) (by omega) hsz ?_
        rintro v4 w4 - t4 ⟨-, -, r4⟩
        have HEQ : Hid (ts ++ closeV ts = ts ++ flushes X k ++ [⟨4, 0, 0⟩]) := show _ = _ by rw [HCV.out, HM.out, List.append_assoc]
        have HLN : Hid ((ts ++ closeV ts).length = N + k + 1) := show _ = _ by rw [HEQ.out, List.length_append, List.length_append, flushes_length X k (by rw [HM.out]; omega), HN.out]; rfl
        have HG4 : Hid (w4.ownsRow w.heap.size 32 3 v4 (N + k + 1) (flatC cT (ts ++ closeV ts))) := show World.ownsRow _ _ _ _ _ _ _ by rw [HEQ.out, flatC_append, flatC_one]; exact r4 HGX.out
        have HB4 : Hid (Below w.heap.size w w4) := show Below _ _ _ from HBX.out.trans t4
        have hsl4 := own_slice2 HG4.out
        obtain ⟨ha, hc, rfl⟩ := hsl4
        rw [HLN.out] at HE HC
        clear t4 r4 hsz
        by_cases h4 : 4096 < N + k + 1
        · have h4i : (4096 : Int) < ((N + k + 1 : Nat) : Int) := by omega
          rw [if_pos h4] at HE HC
          go_wp2_with fail
          go_ret2
          exact ⟨_, by rw [HE.out]; rfl, by rw [HC.out]; exact ⟨none, 0, rfl, by simp, fun h => by simp at h⟩, HB4.out⟩
        · have h4i : ¬ (4096 : Int) < ((N + k + 1 : Nat) : Int) := by omega
          rw [if_neg h4] at HE HC
          go_wp2_with fail
          go_ret2
          refine ⟨.slice ha (N + k + 1) hc, by rw [HE.out]; rfl, ?_, HB4.out⟩
          rw [HC.out]
          exact slT_of_vec (by rw [HLN.out]; exact vec_of_own HG4.out)
end Go.Proofs.Ytkpiehejkhjhlaa
