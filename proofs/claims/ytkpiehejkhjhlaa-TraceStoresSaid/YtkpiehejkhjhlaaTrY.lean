/-
  The document's answers for trace: stored, sure.
-/
import Derived.Test.YtkpiehejkhjhlaaTrX
namespace Go.Proofs.Ytkpiehejkhjhlaa
open Go.RowKit Go.Shelf Go.Maps

theorem linesV_stores (ts : List Tch) : linesV hasL (ts.filter storesL) = linesV storesL ts := by
  unfold linesV
  refine List.filter_congr fun k _ => ?_
  unfold anyL
  rw [List.any_filter]
  congr 1
  funext t
  unfold hasL storesL
  by_cases h2 : t.kind = 2
  · simp [h2]
  · simp [h2]
theorem sl_of_vec {W : World} {k : IntKind} {v : Value} {xs : List Nat} (h : Vec W v xs.length 1 (valsOf k xs)) : Sl W k v xs := by
  obtain ⟨-, a, cap, rfl, hc, hj⟩ := h
  refine ⟨a, cap, rfl, hc, fun h0 => ?_⟩
  obtain ⟨b, off, ha, hb, hx⟩ := hj h0
  exact ⟨b, off, ha, hb, fun j hj => hx j _ (by simp [valsOf, hj])⟩
theorem filter_take_succ {ts : List Tch} {k : Nat} {t : Tch} (ht : ts[k]? = some t) : (ts.take (k + 1)).filter storesL = (ts.take k).filter storesL ++ if storesL t then [t] else [] := by
  obtain ⟨hk, rfl⟩ := List.getElem?_eq_some_iff.1 ht
  rw [List.take_succ_eq_append_getElem hk, List.filter_append]
  cases h : storesL ts[k] <;> simp [h]
set_option maxRecDepth 100000 in
set_option maxHeartbeats 4000000 in
theorem stored_any {v : Value} {ts : List Tch} (w : World) (hl : ts.length ≤ 90000) (hok : ∀ t ∈ ts, okT t) (hs : SlT w v ts) :
    Calls Try.prog 37 #[v] w fun e w' => ∃ u, e = .returned u ∧ GrowB w' w.heap.size 3 1 u (linesV storesL ts).length (valsOf .i64 (linesV storesL ts)) ∧ Below w.heap.size w w' := by
  obtain ⟨i0, hi, hz0, hz1, hz2⟩ := info_of infoT
  have HII := Lib.hid hi
  obtain ⟨a, cap, rfl, -⟩ := id hs
  obtain ⟨N, hN⟩ : ∃ N, ts.length = N := ⟨_, rfl⟩
  have HOK := Lib.hid hok
  rw [hN] at hs hl ⊢
  have HAT := Lib.hid (hs.at_ hN)
  have HN := Lib.hid hN
  clear hs hok hN hi
  go_enter Try.func37, Try.ntmps37
  go_wp2_with fail
  go_loopw [3, 4] (fun o i wr => ∃ k : Nat, k ≤ N ∧ i = .int .i64 (k : Nat) ∧ Hid (RowT wr w.heap.size o ((ts.take k).filter storesL)) ∧ Hid (Below w.heap.size w wr)) (fun _ i _ => N - (intOf i).toNat)
  case atStart => exact ⟨0, by omega, rfl, (show GrowB _ _ _ _ _ _ _ from GrowB.new _ _ _ _), (show Below _ _ _ from Below.refl _ _)⟩
  case round =>
    obtain ⟨k, hk, rfl, HG, HB⟩ := hrel
    have hsl : ∃ a c, _ = Value.slice a ((ts.take k).filter storesL).length c := GrowB.slice HG.out
    obtain ⟨oa, oc, rfl⟩ := hsl
    by_cases hlt : k < N
    · obtain ⟨b, off, t, ht, hmem, rfl, hat⟩ := HAT.out k hlt
      obtain ⟨c0, c1, c2⟩ := hat wr HB.out
      have k2 : (k : Int) < (N : Int) := by omega
      have HFS := Lib.hid (filter_take_succ ht)
      have hlen : ((ts.take k).filter storesL).length ≤ 90000 := Nat.le_trans (List.length_filter_le _ _) (by rw [List.length_take]; omega)
      obtain ⟨X, hX⟩ : ∃ X, (ts.take k).filter storesL = X := ⟨_, rfl⟩
      rw [hX] at HG HFS hlen ⊢
      clear ht hat hmem hX
      have hg : GrowB wr w.heap.size 32 3 (.slice oa X.length oc) X.length (flatC cT X) := HG.out
      obtain ⟨L, hL⟩ : ∃ L, X.length = L := ⟨_, rfl⟩
      have HL := Lib.hid hL
      rw [hL] at hg hlen ⊢
      clear hL
      by_cases h2 : t.kind = 2
      · have hk2 : (t.kind == 2) = true := by simp [h2]
        have HS : Hid ((ts.take (k + 1)).filter storesL = X ++ [t]) := show _ = _ by rw [HFS.out]; unfold storesL; simp [h2]
        have hbx : Below wr.heap.size wr (wr.alloc (.cells #[.int .i64 t.kind, .int .i64 t.at_, .int .u64 t.word] 32)) := (Below.refl _ _).alloc (Nat.le_refl _) _
        have HGX := Lib.hid (hg.below hbx)
        have HVX := Lib.hid (vec_touch wr (.int .i64 t.kind) (.int .i64 t.at_) (.int .u64 t.word))
        have HBX : Hid (Below w.heap.size w (wr.alloc (.cells #[.int .i64 t.kind, .int .i64 t.at_, .int .u64 t.word] 32))) := show Below _ _ _ from HB.out.trans (hbx.mono HB.out.size)
        have hsz : w.heap.size ≤ (wr.alloc (.cells #[.int .i64 t.kind, .int .i64 t.at_, .int .u64 t.word] 32)).heap.size := HBX.out.size
        clear hbx h2 hg
        go_wp2_with (at_builtin; refine park ?_)
        unfold Park
        refine wpList_append_vec rfl _ _ 22 rfl 32 i0 _ 3 24 Try.underlying22 HII.out hz0 hz1 hz2 rfl (by decide) w.heap.size _ _ L 1 _ _ rfl rfl HGX.out HVX.out (one_touch _ _ _) (by omega) (by omega) hsz ?_
        intro v2 w2 g2 t2 _
        have HG2 : Hid (RowT w2 w.heap.size v2 ((ts.take (k + 1)).filter storesL)) := show GrowB _ _ _ _ _ _ _ by
          rw [HS.out, List.length_append, HL.out, flatC_append, flatC_one]
          exact g2
        have HB2 : Hid (Below w.heap.size w w2) := show Below _ _ _ from HBX.out.trans t2
        clear g2 t2 hsz
        go_wp2_with fail
        go_roundw
        case rel => exact ⟨k + 1, by omega, by go_num, HG2, HB2⟩
        case measure => simp [intOf]; omega
      · have hk2 : (t.kind == 2) = false := by simp [h2]
        have HS : Hid ((ts.take (k + 1)).filter storesL = X) := show _ = _ by rw [HFS.out]; unfold storesL; simp [h2]
        have HG2 : Hid (RowT wr w.heap.size (.slice oa L oc) ((ts.take (k + 1)).filter storesL)) := show GrowB _ _ _ _ _ _ _ by
          rw [HS.out, HL.out]
          exact hg
        clear h2 hg
        go_wp2_with fail
        go_roundw
        case rel => exact ⟨k + 1, by omega, by go_num, HG2, HB⟩
        case measure => simp [intOf]; omega
    · obtain rfl : k = N := by omega
      have e : ts.take k = ts := List.take_of_length_le (Nat.le_of_eq HN.out)
      rw [e] at HG
      rw [e]
      have HLS := Lib.hid (ref5Lines_any wr (Nat.le_trans (List.length_filter_le _ _) (by rw [HN.out]; exact hl)) (fun t ht => HOK.out t (List.mem_filter.1 ht).1) HG.out.slT)
      rw [linesV_stores] at HLS
      obtain ⟨L, hL⟩ : ∃ L, (ts.filter storesL).length = L := ⟨_, rfl⟩
      rw [hL] at HLS ⊢
      clear hL e
      go_wp2_with fail
      refine HLS.out.mono ?_
      rintro e w2 ⟨u, rfl, hg, hb⟩
      have hsl2 := hg.slice
      obtain ⟨ua, uc, rfl⟩ := hsl2
      have HG2 := Lib.hid hg
      have HB2 : Hid (Below w.heap.size w w2) := show Below _ _ _ from HB.out.trans (hb.mono HB.out.size)
      have hs := HB.out.size
      clear hg hb
      go_wp2_with fail
      go_ret
      exact ⟨_, rfl, HG2.out.low hs, HB2.out⟩
/-- How sure a line is behind so many touches. -/
def sureStep (line s : Int) (t : Tch) : Int :=
  if t.kind = 2 ∧ lineR t = line then 1 else if t.kind = 3 ∧ t.at_ = line ∧ s = 1 then 2 else if t.kind = 4 ∧ s = 2 then 3 else s
def sureAt (line : Int) (ts : List Tch) : Nat → Int
  | 0 => 0
  | k + 1 => match ts[k]? with | some t => sureStep line (sureAt line ts k) t | none => sureAt line ts k
theorem sureAt_succ {line : Int} {ts : List Tch} {k : Nat} {t : Tch} (h : ts[k]? = some t) : sureAt line ts (k + 1) = sureStep line (sureAt line ts k) t := by
  show (match ts[k]? with | some t => sureStep line (sureAt line ts k) t | none => sureAt line ts k) = _
  rw [h]
def sureV (ts : List Tch) (line : Int) : Bool := sureAt line ts ts.length == 0 || sureAt line ts ts.length == 3
end Go.Proofs.Ytkpiehejkhjhlaa
