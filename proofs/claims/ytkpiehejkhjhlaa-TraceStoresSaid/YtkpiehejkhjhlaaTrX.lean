/-
  The document's answers for trace: Lines, stored.
-/
import Derived.Test.YtkpiehejkhjhlaaTrW
namespace Go.Proofs.Ytkpiehejkhjhlaa
open Go.RowKit Go.Shelf Go.Maps

theorem infoI5 : (Try.prog.info? 3).map (fun i => (i.zero, i.size, i.bytes)) = some (some (.int .i64 0), 1, 8) := by kernel_rfl
/-- Is k the line of one of these touches? -/
def anyR (ts : List Tch) (x : Int) : Bool := ts.any fun t => lineR t == x
theorem anyR_take {ts : List Tch} {k : Nat} {t : Tch} (ht : ts[k]? = some t) (x : Int) : anyR (ts.take (k + 1)) x = (anyR (ts.take k) x || (lineR t == x)) := by
  obtain ⟨hk, rfl⟩ := List.getElem?_eq_some_iff.1 ht
  unfold anyR
  rw [List.take_succ_eq_append_getElem hk, List.any_append]
  simp
theorem anyR_hit {ts : List Tch} {k : Nat} {t : Tch} (ht : ts[k]? = some t) {x : Int} (h : lineR t = x) : anyR ts x = true :=
  List.any_eq_true.2 ⟨t, List.mem_of_getElem? ht, by simp [h]⟩
theorem anyR_has (ts : List Tch) (k : Nat) : anyR ts (k : Int) = anyL hasL ts (k : Int) := by
  unfold anyR anyL
  congr 1
  funext t
  unfold lineR lineT hasL
  by_cases h3 : t.kind = 3
  · rw [if_pos h3, if_pos h3]; simp [h3]
  · rw [if_neg h3, if_neg h3]
    by_cases h4 : t.kind = 4
    · rw [if_pos h4]
      simp [h4]
    · rw [if_neg h4]; simp [h4]
/-- The lines up to k. -/
def linesTo (ts : List Tch) (k : Nat) : List Nat := (List.range k).filter fun k => anyR ts (k : Int)
theorem linesTo_succ (ts : List Tch) (k : Nat) : linesTo ts (k + 1) = linesTo ts k ++ if anyR ts (k : Int) then [k] else [] := by
  unfold linesTo
  rw [List.range_succ, List.filter_append]
  cases h : anyR ts (k : Int) <;> simp [h]
theorem linesTo_all (ts : List Tch) : linesTo ts 1024 = linesV hasL ts := by
  unfold linesTo linesV
  exact List.filter_congr fun k _ => anyR_has ts k
theorem linesTo_short (ts : List Tch) (k : Nat) : (linesTo ts k).length ≤ k := by
  unfold linesTo
  exact Nat.le_trans (List.length_filter_le _ _) (by simp)
theorem one_int (k : IntKind) (a : Int) : ∀ u ∈ [Value.int k a], u.oneCell' = true := by
  intro u hu
  simp at hu
  rw [hu]; rfl
set_option maxRecDepth 100000 in
set_option maxHeartbeats 4000000 in
theorem ref5Lines_any {v : Value} {ts : List Tch} (w : World) (hl : ts.length ≤ 90000) (hok : ∀ t ∈ ts, okT t) (hs : SlT w v ts) :
    Calls Try.prog 17 #[v] w fun e w' => ∃ u, e = .returned u ∧ GrowB w' w.heap.size 3 1 u (linesV hasL ts).length (valsOf .i64 (linesV hasL ts)) ∧ Below w.heap.size w w' := by
  obtain ⟨i0, hi, hz0, hz1, hz2⟩ := info_of infoI5
  have HII := Lib.hid hi
  obtain ⟨a, cap, rfl, -⟩ := id hs
  obtain ⟨N, hN⟩ : ∃ N, ts.length = N := ⟨_, rfl⟩
  have HOK := Lib.hid hok
  rw [hN] at hs hl ⊢
  have HAT := Lib.hid (hs.at_ hN)
  have HN := Lib.hid hN
  clear hs hok hN hi
  go_enter Try.func17, Try.ntmps17
  go_wp2_with fail
  go_loopw [3, 4] (fun o kk wr => ∃ k : Nat, k ≤ 1024 ∧ kk = .int .i64 (k : Nat) ∧ Hid (GrowB wr w.heap.size 3 1 o (linesTo ts k).length (valsOf .i64 (linesTo ts k))) ∧ Hid (Below w.heap.size w wr)) (fun _ kk _ => 1024 - (intOf kk).toNat)
  case atStart => exact ⟨0, by omega, rfl, (show GrowB _ _ _ _ _ _ _ from GrowB.new _ _ _ _), (show Below _ _ _ from Below.refl _ _)⟩
  case round =>
    rename World => wo
    obtain ⟨k, hk, rfl, HG, HB⟩ := hrel
    have hsl := HG.out.slice
    obtain ⟨oa, oc, rfl⟩ := hsl
    by_cases hlt : k < 1024
    · have k2 : (k : Int) < 1024 := by omega
      have HLS := Lib.hid (linesTo_short ts k)
      have HSU := Lib.hid (linesTo_succ ts k)
      obtain ⟨X, hX⟩ : ∃ X, linesTo ts k = X := ⟨_, rfl⟩
      rw [hX] at HG HLS HSU
      obtain ⟨L, hL⟩ : ∃ L, X.length = L := ⟨_, rfl⟩
      have HL := Lib.hid hL
      rw [hX, hL]
      rw [hL] at HG HLS
      clear hX hL
      go_wp2_with fail
      go_loopw [3, 5] (fun o i wr => ∃ j : Nat, j ≤ N ∧ o = .slice oa L oc ∧ i = .int .i64 (j : Nat) ∧ Hid (anyR (ts.take j) (k : Int) = false) ∧ Hid (Below wo.heap.size wo wr)) (fun _ i _ => N - (intOf i).toNat)
      case atStart => exact ⟨0, by omega, rfl, rfl, (show _ = _ from rfl), (show Below _ _ _ from Below.refl _ _)⟩
      case round =>
        obtain ⟨j, hj, rfl, rfl, HJ, HQ⟩ := hrel
        by_cases hjn : j < N
        · obtain ⟨b, off, t, ht, hmem, rfl, hat⟩ := HAT.out j hjn
          have hbb : Below w.heap.size w wr := HB.out.trans (HQ.out.mono HB.out.size)
          obtain ⟨c0, c1, c2⟩ := hat wr hbb
          have j2 : (j : Int) < (N : Int) := by omega
          have HLN := Lib.hid (refLine_any t (HOK.out t hmem).1 wr)
          have HT := Lib.hid ht
          obtain ⟨y, hy⟩ : ∃ y, lineR t = y := ⟨_, rfl⟩
          rw [hy] at HLN
          have HY := Lib.hid hy
          clear ht hat hbb hmem hy
          go_wp2_with fail
          refine HLN.out.mono ?_
          rintro e w1 ⟨rfl, hb1⟩
          have HQ1 : Hid (Below wo.heap.size wo w1) := show Below _ _ _ from HQ.out.trans (hb1.mono HQ.out.size)
          clear hb1 c0 c1 c2
          by_cases hyk : y = (k : Int)
          · have hyb : (y == (k : Int)) = true := by simp [hyk]
            have HH : Hid (linesTo ts (k + 1) = X ++ [k]) := show _ = _ by rw [HSU.out, anyR_hit HT.out (HY.out.trans hyk)]; rfl
            have hbx : Below w1.heap.size w1 (w1.alloc (.cells #[.int .i64 (k : Nat)] 3)) := (Below.refl _ _).alloc (Nat.le_refl _) _
            have HGX := Lib.hid ((HG.out.below HQ1.out).below hbx)
            have HVX := Lib.hid (vec_new w1 #[.int .i64 (k : Nat)] 3 1 1 rfl)
            have HBX : Hid (Below w.heap.size w (w1.alloc (.cells #[.int .i64 (k : Nat)] 3))) := show Below _ _ _ from (HB.out.trans (HQ1.out.mono HB.out.size)).trans (hbx.mono (Nat.le_trans HB.out.size HQ1.out.size))
            have hsz : w.heap.size ≤ (w1.alloc (.cells #[.int .i64 (k : Nat)] 3)).heap.size := HBX.out.size
            have hls := HLS.out
            clear hbx hyk
            go_wp2_with (at_builtin; refine park ?_)
            unfold Park
            refine wpList_append_vec rfl _ _ 24 rfl 3 i0 _ 1 8 Try.underlying24 HII.out hz0 hz1 hz2 rfl (by decide) w.heap.size _ _ L 1 _ _ rfl rfl HGX.out HVX.out (one_int _ _) (by omega) (by omega) hsz ?_
            intro v2 w2 g2 t2 _
            have HG2 : Hid (GrowB w2 w.heap.size 3 1 v2 (linesTo ts (k + 1)).length (valsOf .i64 (linesTo ts (k + 1)))) := show GrowB _ _ _ _ _ _ _ by
              rw [HH.out, List.length_append, HL.out, valsOf_append]
              exact g2
            have HB2 : Hid (Below w.heap.size w w2) := show Below _ _ _ from HBX.out.trans t2
            clear g2 t2 hls hsz
            go_wp2_with fail
            go_roundw
            case rel => exact ⟨k + 1, by omega, by go_num, HG2, HB2⟩
            case measure => simp [intOf]; omega
          · have hyb : (y == (k : Int)) = false := by simp [hyk]
            have HJ1 : Hid (anyR (ts.take (j + 1)) (k : Int) = false) := show _ = _ by rw [anyR_take HT.out, HJ.out, HY.out, hyb]; rfl
            clear hyk
            go_wp2_with fail
            go_roundw
            case rel => exact ⟨j + 1, by omega, rfl, by go_num, HJ1, HQ1⟩
            case measure => simp [intOf]; omega
        · obtain rfl : j = N := by omega
          have HH : Hid (linesTo ts (k + 1) = X) := show _ = _ by
            have h := HJ.out
            rw [List.take_of_length_le (Nat.le_of_eq HN.out)] at h
            rw [HSU.out, h]
            simp
          have HG2 : Hid (GrowB wr w.heap.size 3 1 (.slice oa L oc) (linesTo ts (k + 1)).length (valsOf .i64 (linesTo ts (k + 1)))) := show GrowB _ _ _ _ _ _ _ by
            rw [HH.out, HL.out]
            exact HG.out.below HQ.out
          have HB2 : Hid (Below w.heap.size w wr) := show Below _ _ _ from HB.out.trans (HQ.out.mono HB.out.size)
          go_wp2_with fail
          go_roundw
          case rel => exact ⟨k + 1, by omega, by go_num, HG2, HB2⟩
          case measure => simp [intOf]; omega
    · obtain rfl : k = 1024 := by omega
      have HLA := Lib.hid (linesTo_all ts)
      obtain ⟨L, hL⟩ : ∃ L, (linesTo ts 1024).length = L := ⟨_, rfl⟩
      have HG2 := HG
      rw [HLA.out] at HG2
      rw [HLA.out] at hL
      rw [hL] at HG2
      have HL := Lib.hid hL
      rw [HLA.out, hL]
      clear hL
      go_wp2_with fail
      go_ret
      refine ⟨.slice oa L oc, rfl, ?_, HB.out⟩
      rw [HL.out]
      exact HG2.out
end Go.Proofs.Ytkpiehejkhjhlaa
