/-
  The document's answers for trace: Stores.
-/
import Derived.Test.YtkpiehejkhjhlaaTsA
import Derived.Test.YtkpiehejkhjhlaaTri
namespace Go.Proofs.Ytkpiehejkhjhlaa
open Go.RowKit Go.Shelf Go.Maps

/-- A put's cells. -/
abbrev cP (x : Nat × Int) : List Value := [.int .i64 (x.1 : Nat), .int .u64 x.2]
theorem cP_len (x : Nat × Int) : (cP x).length = 2 := rfl
/-- Address k of the lines X. -/
def adr (X : List Nat) (k : Nat) : Nat := 8 * X[k / 8]?.getD 0 + k % 8
/-- What the document goes over, up to address k. -/
def refPuts (ts : List Tch) (X : List Nat) (k : Nat) : List (Nat × Int) := (List.range k).filterMap fun k => (stAt ts ts.length (adr X k : Nat)).map fun x => (adr X k, x)
theorem refPuts_succ (ts : List Tch) (X : List Nat) (k : Nat) : refPuts ts X (k + 1) = refPuts ts X k ++ (match stAt ts ts.length (adr X k : Nat) with | some x => [(adr X k, x)] | none => []) := by
  unfold refPuts
  rw [List.range_succ, List.filterMap_append]
  cases h : stAt ts ts.length (adr X k : Nat) <;> simp [h]
theorem refPuts_short (ts : List Tch) (X : List Nat) (k : Nat) : (refPuts ts X k).length ≤ k := by
  unfold refPuts
  exact Nat.le_trans (List.length_filterMap_le _ _) (by simp)
theorem infoPt : (Try.prog.info? 52).map (fun i => (i.zero, i.size, i.bytes)) = some (some (.agg #[.int .i64 0, .int .u64 0]), 2, 16) := by kernel_rfl
theorem one_put (a b : Int) : ∀ u ∈ [Value.int .i64 a, .int .u64 b], u.oneCell' = true := by
  intro u hu
  simp at hu
  rcases hu with rfl | rfl <;> rfl
theorem stAt_hit {ts : List Tch} {k : Nat} {t : Tch} (ht : ts[k]? = some t) (h2 : t.kind = 2) : stAt ts (k + 1) t.at_ = some t.word := by
  rw [stAt_succ ht]
  unfold stStep storesL upd
  simp [h2]
theorem stAt_miss {ts : List Tch} {k : Nat} {t : Tch} {x : Int} (ht : ts[k]? = some t) (h : ¬ (t.kind = 2 ∧ t.at_ = x)) : stAt ts (k + 1) x = stAt ts k x := by
  rw [stAt_succ ht]
  unfold stStep storesL upd
  by_cases h2 : t.kind = 2
  · rw [if_pos (by simp [h2]), if_neg (fun e => h ⟨h2, e.symm⟩)]
  · rw [if_neg (by simp [h2])]
set_option maxRecDepth 100000 in
set_option maxHeartbeats 4000000 in
theorem ref5Stores_any {v : Value} {ts : List Tch} (w : World) (hl : ts.length ≤ 90000) (hok : ∀ t ∈ ts, okT t) (hs : SlT w v ts) :
    Calls Try.prog 23 #[v] w fun e w' => ∃ u, e = .returned u ∧ w'.ownsRow w.heap.size 52 2 u (refPuts ts (linesV storesL ts) (8 * (linesV storesL ts).length)).length (flatC cP (refPuts ts (linesV storesL ts) (8 * (linesV storesL ts).length))) ∧ Below w.heap.size w w' := by
  obtain ⟨i0, hi, hz0, hz1, hz2⟩ := info_of infoPt
  have HII := Lib.hid hi
  have HST := Lib.hid (stored_any w hl hok hs)
  have HLS := Lib.hid (linesV_short storesL ts)
  have HXB : Hid (∀ y ∈ linesV storesL ts, y < 1024) := show ∀ y, _ from fun y hy => by
    unfold linesV at hy
    exact List.mem_range.1 (List.mem_filter.1 hy).1
  obtain ⟨a, cap, rfl, -⟩ := id hs
  obtain ⟨N, hN⟩ : ∃ N, ts.length = N := ⟨_, rfl⟩
  have HOK := Lib.hid hok
  obtain ⟨X, hX⟩ : ∃ X, linesV storesL ts = X := ⟨_, rfl⟩
  rw [hX] at HST HLS HXB ⊢
  rw [hN] at hs hl HST ⊢
  have HAT := Lib.hid (hs.at_ hN)
  have HN := Lib.hid hN
  clear hs hok hN hX hi
  go_enter Try.func23, Try.ntmps23
  go_wp2_with fail
  refine HST.out.mono ?_
  rintro e w1 ⟨u, rfl, hg, hb1⟩
  have hsl := hg.slice
  obtain ⟨ua, uc, rfl⟩ := hsl
  have HB1 := Lib.hid hb1
  obtain ⟨M, hM⟩ : ∃ M, X.length = M := ⟨_, rfl⟩
  have HM := Lib.hid hM
  have HNA := Lib.hid (fun k (hk : k < M) => nums_at (w := w1) (B := w.heap.size) (a := ua) (c := uc) hM (by rw [hM] at hg ⊢; exact hg) k hk)
  rw [hM] at HLS ⊢
  clear hg hb1 hM
  have hm1024 := HLS.out
  have hw8 : IntKind.i64.wrap (8 * (M : Int)) = 8 * (M : Int) := IntWalk.i64_in _ (by omega)
  go_wp2_with fail
  go_loopw [3, 5] (fun o i wr => ∃ k : Nat, k ≤ 8 * M ∧ i = .int .i64 (k : Nat) ∧ Hid (wr.ownsRow w1.heap.size 52 2 o (refPuts ts X k).length (flatC cP (refPuts ts X k))) ∧ Hid (Below w1.heap.size w1 wr)) (fun _ i _ => 8 * M - (intOf i).toNat)
  case atStart => exact ⟨0, by omega, rfl, (show World.ownsRow _ _ _ _ _ _ _ from World.ownsRow_nil _ _ _ _), (show Below _ _ _ from Below.refl _ _)⟩
  case round =>
    rename World => wo
    obtain ⟨k, hk, rfl, HG, HB⟩ := hrel
    have hsl := own_slice2 HG.out
    obtain ⟨oa, oc, rfl⟩ := hsl
    by_cases hlt : k < 8 * M
    · have hk8 : k / 8 < M := by omega
      obtain ⟨b, off, rfl, hat⟩ := HNA.out (k / 8) hk8
      have c0 := hat wo HB.out
      have k2 : (k : Int) < 8 * (M : Int) := by omega
      have HSU := Lib.hid (refPuts_succ ts X k)
      have hxb : X[k / 8]?.getD 0 < 1024 := by
        have h : k / 8 < X.length := by rw [HM.out]; exact hk8
        rw [List.getElem?_eq_getElem h]
        exact HXB.out _ (List.getElem_mem h)
      have hshort := refPuts_short ts X k
      obtain ⟨x, hx⟩ : ∃ x, X[k / 8]?.getD 0 = x := ⟨_, rfl⟩
      have hadr : adr X k = 8 * x + k % 8 := by unfold adr; rw [hx]
      rw [hx] at c0 hxb
      obtain ⟨P, hP⟩ : ∃ P, refPuts ts X k = P := ⟨_, rfl⟩
      rw [hP] at HG HSU hshort ⊢
      rw [hadr] at HSU
      obtain ⟨L, hL⟩ : ∃ L, P.length = L := ⟨_, rfl⟩
      have HL := Lib.hid hL
      rw [hL] at HG hshort ⊢
      obtain ⟨ad, had⟩ : ∃ ad, 8 * x + k % 8 = ad := ⟨_, rfl⟩
      rw [had] at HSU
      have hq1 : IntKind.i64.wrap ((k : Int) / 8) = (k : Int) / 8 := IntWalk.i64_in _ (by omega)
      have hq2 : IntKind.i64.wrap ((k : Int) % 8) = (k : Int) % 8 := IntWalk.i64_in _ (by omega)
      have hq9 : (k : Int).tmod 8 = (k : Int) % 8 := Int.tmod_eq_emod_of_nonneg (by omega)
      have hq3 : 0 ≤ (k : Int) / 8 := by omega
      have hq4 : (k : Int) / 8 < (M : Int) := by omega
      have hq5 : ((k : Int) / 8).toNat = k / 8 := by omega
      have hq6 : IntKind.i64.wrap (8 * (x : Int)) = 8 * (x : Int) := IntWalk.i64_in _ (by omega)
      have hq7 : IntKind.i64.wrap (8 * (x : Int) + (k : Int) % 8) = (ad : Int) := by
        rw [show 8 * (x : Int) + (k : Int) % 8 = (ad : Int) by omega]
        exact IntWalk.i64_in _ (by omega)
      obtain ⟨W1, hW1⟩ : ∃ W1, wo.alloc (.cells #[.int .i64 (ad : Nat), .int .u64 0] 52) = W1 := ⟨_, rfl⟩
      have hbx : Below wo.heap.size wo W1 := by rw [← hW1]; exact (by repeat (first | exact Below.refl _ _ | assumption | refine Below.drew ?_ | refine below_drewN ?_ _ | refine Below.alloc ?_ (by (try simp) <;> omega) _ | refine Below.setCell ?_ (by (try simp) <;> omega) _ | refine Below.trans ?_ (Below.mono (by assumption) (by (try simp) <;> omega))))
      have HD0 : Hid (Duo W1 wo.heap.size 52 (.int .i64 (ad : Nat)) (.int .u64 0)) := show Duo _ _ _ _ _ by rw [← hW1]; exact Duo.new _ _ _ _
      have HBX := Lib.hid hbx
      have HW1 := Lib.hid hW1
      have hk8M : k < 8 * M := hlt
      clear hat hx hadr hP hL hbx hW1
      go_wp2_with fail
      clear hq1 hq2 hq3 hq4 hq5 hq6 hq7 hq9 c0
      rw [HW1.out]
      go_loopw [8, 9] (fun isv i wr => ∃ j : Nat, j ≤ N ∧ i = .int .i64 (j : Nat) ∧ isv = .bool (stAt ts j (ad : Nat)).isSome ∧ Hid (Duo wr wo.heap.size 52 (.int .i64 (ad : Nat)) (.int .u64 ((stAt ts j (ad : Nat)).getD 0))) ∧ Hid (Below wo.heap.size wo wr)) (fun _ i _ => N - (intOf i).toNat)
      case atStart => exact ⟨0, by omega, rfl, rfl, HD0, HBX⟩
      case round =>
        obtain ⟨j, hj, rfl, rfl, HD, HQ⟩ := hrel
        by_cases hjn : j < N
        · obtain ⟨b, off, t, ht, hmem, rfl, hat⟩ := HAT.out j hjn
          obtain ⟨c0, c1, c2⟩ := hat wr (HB1.out.trans ((HB.out.trans (HQ.out.mono HB.out.size)).mono HB1.out.size))
          have j2 : (j : Int) < (N : Int) := by omega
          have HT := Lib.hid ht
          clear ht hat hmem
          obtain ⟨y0, y1, y2⟩ := t
          simp only at c0 c1 c2
          by_cases h2 : y0 = 2
          · subst h2
            by_cases ha : y1 = (ad : Int)
            · subst ha
              have hb : (((ad : Nat) : Int) == ((ad : Nat) : Int)) = true := by simp
              have HS : Hid (stAt ts (j + 1) (ad : Nat) = some y2) := show _ = _ from stAt_hit HT.out rfl
              obtain ⟨d0, d1, f0, f1⟩ := HD.out.cells
              have HD2 := Lib.hid (HD.out.set1 (.int .u64 y2))
              have HQ2 : Hid (Below wo.heap.size wo (wr.setCell ⟨wo.heap.size, 1, none⟩ (.int .u64 y2))) := show Below _ _ _ from HQ.out.setCell (p := ⟨wo.heap.size, 1, none⟩) (Nat.le_refl _) _
              go_wp2_with fail
              go_roundw
              case rel => exact ⟨j + 1, by omega, by go_num, by rw [HS.out]; rfl, by rw [HS.out]; exact HD2, HQ2⟩
              case measure => simp [intOf]; omega
            · have hb : (y1 == ((ad : Nat) : Int)) = false := by simp [ha]
              have HS : Hid (stAt ts (j + 1) (ad : Nat) = stAt ts j (ad : Nat)) := show _ = _ from stAt_miss HT.out (fun h => ha h.2)
              clear ha
              go_wp2_with fail
              go_roundw
              case rel => exact ⟨j + 1, by omega, by go_num, by rw [HS.out], by rw [HS.out]; exact HD, HQ⟩
              case measure => simp [intOf]; omega
          · have hb : (y0 == 2) = false := by simp [h2]
            have HS : Hid (stAt ts (j + 1) (ad : Nat) = stAt ts j (ad : Nat)) := show _ = _ from stAt_miss HT.out (fun h => h2 h.1)
            clear h2
            go_wp2_with fail
            go_roundw
            case rel => exact ⟨j + 1, by omega, by go_num, by rw [HS.out], by rw [HS.out]; exact HD, HQ⟩
            case measure => simp [intOf]; omega
        · obtain rfl : j = N := by omega
          rw [HN.out] at HSU
          cases hst : stAt ts j (ad : Nat) with
          | none =>
            have HEQ : Hid (refPuts ts X (k + 1) = P) := show _ = _ by rw [HSU.out, hst]; simp
            have HG2 : Hid (wr.ownsRow w1.heap.size 52 2 (.slice oa L oc) (refPuts ts X (k + 1)).length (flatC cP (refPuts ts X (k + 1)))) := show World.ownsRow _ _ _ _ _ _ _ by
              rw [HEQ.out, HL.out]
              exact own_row_below HG.out HQ.out
            have HB2 : Hid (Below w1.heap.size w1 wr) := show Below _ _ _ from HB.out.trans (HQ.out.mono HB.out.size)
            clear hst
            go_wp2_with fail
            go_roundw
            case rel => exact ⟨k + 1, by omega, by go_num, HG2, HB2⟩
            case measure => simp [intOf]; omega
          | some z =>
            have HEQ : Hid (refPuts ts X (k + 1) = P ++ [(ad, z)]) := show _ = _ by rw [HSU.out, hst]
            rw [hst] at HD
            obtain ⟨d0, d1, f0, f1⟩ := HD.out.cells
            simp only [Option.getD_some] at d1
            have hbx : Below wr.heap.size wr (wr.alloc (.cells #[.int .i64 (ad : Nat), .int .u64 z] 52)) := (Below.refl _ _).alloc (Nat.le_refl _) _
            have HGX : Hid ((wr.alloc (.cells #[.int .i64 (ad : Nat), .int .u64 z] 52)).ownsRow w1.heap.size 52 2 (.slice oa L oc) L (flatC cP P)) := show World.ownsRow _ _ _ _ _ _ _ from own_row_below (own_row_below HG.out HQ.out) hbx
            have HVX := Lib.hid (vec_new wr #[.int .i64 (ad : Nat), .int .u64 z] 52 1 2 rfl)
            have HBX : Hid (Below w1.heap.size w1 (wr.alloc (.cells #[.int .i64 (ad : Nat), .int .u64 z] 52))) := show Below _ _ _ from (HB.out.trans (HQ.out.mono HB.out.size)).trans (hbx.mono (Nat.le_trans HB.out.size HQ.out.size))
            have hsz : w1.heap.size ≤ (wr.alloc (.cells #[.int .i64 (ad : Nat), .int .u64 z] 52)).heap.size := HBX.out.size
            clear hbx hst
            go_wp2_with (at_builtin; refine park ?_)
            unfold Park
            refine wpList_append_vec rfl _ _ 46 rfl 52 i0 _ 2 16 Try.underlying46 HII.out hz0 hz1 hz2 rfl (by decide) w1.heap.size _ _ L 1 _ _ rfl rfl (.inr HGX.out) HVX.out (one_put _ _) (by omega) (by omega) hsz ?_
            rintro v4 w4 - t4 ⟨-, -, r4⟩
            have HG4 : Hid (w4.ownsRow w1.heap.size 52 2 v4 (refPuts ts X (k + 1)).length (flatC cP (refPuts ts X (k + 1)))) := show World.ownsRow _ _ _ _ _ _ _ by
              rw [HEQ.out, List.length_append, HL.out, flatC_append, flatC_one]
              exact r4 HGX.out
            have HB4 : Hid (Below w1.heap.size w1 w4) := show Below _ _ _ from HBX.out.trans t4
            clear t4 r4 hsz d0 d1 f0 f1
            go_wp2_with fail
            go_roundw
            case rel => exact ⟨k + 1, by omega, by go_num, HG4, HB4⟩
            case measure => simp [intOf]; omega
    · obtain rfl : k = 8 * M := by omega
      have k2 : ¬ ((8 * M : Nat) : Int) < 8 * (M : Int) := by omega
      obtain ⟨L, hL⟩ : ∃ L, (refPuts ts X (8 * M)).length = L := ⟨_, rfl⟩
      have HL := Lib.hid hL
      rw [hL] at HG ⊢
      clear hL
      go_wp2_with fail
      go_ret
      refine ⟨.slice oa L oc, rfl, ?_, HB1.out.trans (HB.out.mono HB1.out.size)⟩
      rw [HM.out, HL.out]
      exact own_low HG.out HB1.out.size
end Go.Proofs.Ytkpiehejkhjhlaa
