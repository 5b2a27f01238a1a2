/-
  trace: linesOf, Lines (written by gen_trm.py).
-/
import Derived.Test.YtkpiehejkhjhlaaTrB
import Derived.Test.YtkpiehejkhjhlaaTri
import Derived.Test.YtkpiehejkhjhlaaTrL
import Derived.Maps.OwnSet
import Derived.Maps.Range
namespace Go.Proofs.Ytkpiehejkhjhlaa
open Go.RowKit Go.Shelf Go.Maps

/-- A map that has just such keys. -/
def KeyMap (W : World) (R : Value → Option (DataW Unit × List MemPlace)) (b n : Nat) (f : Int → Bool) : Prop := ∃ D : DataW Unit, W.ownsMap Try.prog 3 R b n D ∧ ∀ x : Int, Maps.has D (.int .i64 x) = f x
theorem ownsMap_below {W W' : World} {R : Value → Option (DataW Unit × List MemPlace)} {b n : Nat} {D : DataW Unit} (h : W.ownsMap Try.prog 3 R b n D) (hb : Below W.heap.size W W') : W'.ownsMap Try.prog 3 R b n D := by
  have hlt := h.lt
  obtain ⟨es, clock, hm, r⟩ := h
  exact ⟨es, clock, (hb.block b hlt).trans hm, r⟩
theorem KeyMap.below {W W' : World} {R : Value → Option (DataW Unit × List MemPlace)} {b n : Nat} {f : Int → Bool} (h : KeyMap W R b n f) (hb : Below W.heap.size W W') : KeyMap W' R b n f := by
  obtain ⟨D, h1, h2⟩ := h
  exact ⟨D, ownsMap_below h1 hb, h2⟩
theorem below_grown {B b : Nat} {w0 w w1 : World} (h : Below B w0 w) (hg : w.grownBy w1 (some b)) (hb : B ≤ b) (hs : B ≤ w.heap.size) : Below B w0 w1 :=
  h.trans ⟨hg.os, hg.tape, hg.output, hg.size, fun k hk => hg.block k (Nat.lt_of_lt_of_le hk hs) (fun e => by simp at e; omega)⟩
theorem keyed_int : Keyed Try.prog 3 := int_keyed Try.underlying3
theorem has_put {D : DataW Unit} (hD : IsMap D) (y x : Int) (d : DataW Unit) : Maps.has (D.put (.int .i64 y) d) (.int .i64 x) = (Maps.has D (.int .i64 x) || (y == x)) := by
  by_cases h : y = x
  · subst h
    rw [Maps.has_put_same hD (show WideAt.IsKeyLit (.int .i64 y) from trivial)]
    simp
  · rw [Maps.has_put_other (fun e => h (by simp at e; exact e.symm))]
    simp [h]
/-- Which touches have a line, which store. -/
def hasL (t : Tch) : Bool := decide (t.kind ≠ 4)
def storesL (t : Tch) : Bool := decide (t.kind = 2)
/-- Is x the line of one of such touches? -/
def anyL (p : Tch → Bool) (ts : List Tch) (x : Int) : Bool := ts.any fun t => p t && (lineT t == x)
theorem anyL_take {p : Tch → Bool} {ts : List Tch} {k : Nat} {t : Tch} (ht : ts[k]? = some t) (x : Int) : anyL p (ts.take (k + 1)) x = (anyL p (ts.take k) x || (p t && (lineT t == x))) := by
  obtain ⟨hk, rfl⟩ := List.getElem?_eq_some_iff.1 ht
  unfold anyL
  rw [List.take_succ_eq_append_getElem hk, List.any_append]
  simp
/-- Of a right list the lines of such touches, rising. -/
def linesV (p : Tch → Bool) (ts : List Tch) : List Nat := (List.range 1024).filter fun k => anyL p ts (k : Int)
theorem lineT_range {t : Tch} (h : rightT t = true) (h4 : t.kind ≠ 4) : 0 ≤ lineT t ∧ lineT t < 1024 := by
  obtain ⟨k, a, x⟩ := t
  unfold rightT at h
  unfold lineT
  simp only at h h4 ⊢
  by_cases h1 : k = 1 ∨ k = 2
  · rw [if_pos h1] at h
    have h := of_decide_eq_true h
    rw [if_neg (by omega), Int.tdiv_eq_ediv_of_nonneg h.1]
    omega
  · rw [if_neg h1] at h
    by_cases h3 : k = 3
    · rw [if_pos h3] at h ⊢
      have h := of_decide_eq_true h
      omega
    · rw [if_neg h3] at h
      exact absurd (of_decide_eq_true h).1 h4
theorem mem_linesV {p : Tch → Bool} {ts : List Tch} (hr : ts.all rightT = true) (hp : ∀ t, p t = true → t.kind ≠ 4) (x : Int) : x ∈ (linesV p ts).map (fun k : Nat => (k : Int)) ↔ anyL p ts x = true := by
  unfold linesV
  rw [List.mem_map]
  constructor
  · rintro ⟨k, hk, rfl⟩
    exact (List.mem_filter.1 hk).2
  · intro h
    obtain ⟨t, ht, h2⟩ := List.any_eq_true.1 (show (ts.any fun t => p t && (lineT t == x)) = true from h)
    rw [Bool.and_eq_true, beq_iff_eq] at h2
    obtain ⟨h0, h1⟩ := lineT_range (List.all_eq_true.1 hr t ht) (hp t h2.1)
    refine ⟨x.toNat, List.mem_filter.2 ⟨List.mem_range.2 (by omega), ?_⟩, by omega⟩
    rw [show ((x.toNat : Nat) : Int) = x by omega]
    exact h
theorem linesV_nodup (p : Tch → Bool) (ts : List Tch) : ((linesV p ts).map (fun k : Nat => (k : Int))).Nodup := by
  refine List.Pairwise.map _ (fun a b h e => h (by omega)) (List.Pairwise.filter _ List.nodup_range)
theorem linesV_sorted (p : Tch → Bool) (ts : List Tch) : ((linesV p ts).map (fun k : Nat => (k : Int))).Pairwise (fun a b => leI a b = true) := by
  have h : (linesV p ts).Pairwise (fun a b => a < b) := List.Pairwise.filter _ List.pairwise_lt_range
  exact List.pairwise_map.2 (h.imp fun {a b} h => decide_eq_true (by omega))
/-- What is sorted, and has just these keys, is the list. -/
theorem sorted_eq {ss L : List Int} (h : ss.Perm L) (hs : L.Pairwise (fun a b => leI a b = true)) : ss.mergeSort leI = L := by
  rw [mergeSort_of_perm_i h]
  exact List.mergeSort_of_pairwise hs
theorem perm_keys {W : World} {R : Value → Option (DataW Unit × List MemPlace)} {b n : Nat} {D : DataW Unit} (hown : W.ownsMap Try.prog 3 R b n D) {L : List Int} (hn : L.Nodup) (hm : ∀ x, x ∈ L ↔ Maps.has D (.int .i64 x) = true) : L.Perm (intKeys D) :=
  CollectedI.perm (left := fun _ => false) ⟨hn, fun x => by rw [hm x]; simp⟩ hown keyed_int Try.underlying3 (fun _ => rfl)
theorem own_slice2 {W : World} {base : Nat} {e : TypeId} {size : Nat} {v : Value} {n : Nat} {xs : List Value} (h : W.ownsRow base e size v n xs) : ∃ a cap, v = .slice a n cap := by
  rcases h.2 with ⟨rfl, rfl⟩ | ⟨g, cap, cur, rfl, _⟩
  · exact ⟨_, _, rfl⟩
  · exact ⟨_, _, rfl⟩
theorem own_low {W : World} {base base' : Nat} {e : TypeId} {size : Nat} {v : Value} {n : Nat} {xs : List Value} (h : W.ownsRow base e size v n xs) (hb : base' ≤ base) : W.ownsRow base' e size v n xs :=
  ⟨h.1, h.2.imp id fun ⟨g, cap, cur, h1, h2, h3⟩ => ⟨g, cap, cur, h1, Nat.le_trans hb h2, h3⟩⟩
theorem vals_int (l : List Nat) : (l.map (fun k : Nat => (k : Int))).map encZ = valsOf .i64 l := by
  unfold valsOf
  rw [List.map_map]
  rfl
set_option maxRecDepth 100000 in
set_option maxHeartbeats 4000000 in
theorem linesH_any {v : Value} {ts : List Tch} (w : World) (hl : ts.length ≤ 4096) (hs : SlT w v ts) (hr : ts.all rightT = true) :
    Calls Try.prog 29 #[v, .func (.func 30) #[] #[]] w fun e w' => ∃ u, e = .returned u ∧ w'.ownsRow w.heap.size 3 1 u (linesV hasL ts).length (valsOf .i64 (linesV hasL ts)) ∧ Below w.heap.size w w' := by
  obtain ⟨a, cap, rfl, -⟩ := id hs
  obtain ⟨N, hN⟩ : ∃ N, ts.length = N := ⟨_, rfl⟩
  have HRT := Lib.hid (List.all_eq_true.1 hr)
  have HMV := Lib.hid (fun x => mem_linesV (p := hasL) hr (fun t h => by simp [hasL] at h; omega) x)
  rw [hN] at hs hl ⊢
  have HAT := Lib.hid (hs.at_ hN)
  have HN := Lib.hid hN
  obtain ⟨L, hL⟩ : ∃ L, linesV hasL ts = L := ⟨_, rfl⟩
  have HND := Lib.hid (linesV_nodup hasL ts)
  have HSO := Lib.hid (linesV_sorted hasL ts)
  rw [hL] at HMV HND HSO ⊢
  clear hs hN hr hL
  have hM0 : KeyMap (w.alloc (.map #[] 0)) unitElem w.heap.size 0 (anyL hasL (ts.take 0)) := ⟨.map [], World.ownsMap_made w _ _ _, fun x => rfl⟩
  have hb0 : Below w.heap.size w (w.alloc (.map #[] 0)) := (Below.refl _ _).alloc (Nat.le_refl _) _
  have HM0 := Lib.hid hM0
  have HB0 := Lib.hid hb0
  clear hM0 hb0
  have hmk := run_makeMap (P := Try.prog) 70 w
  go_enter Try.func29, Try.ntmps29
  go_wp2_with fail
  clear hmk
  go_loopw [12] (fun i wr => ∃ k : Nat, k ≤ N ∧ i = .int .i64 (k : Nat) ∧ Hid (KeyMap wr unitElem w.heap.size k (anyL hasL (ts.take k))) ∧ Hid (Below w.heap.size w wr)) (fun i _ => N - (intOf i).toNat)
  case atStart => exact ⟨0, by omega, rfl, HM0, HB0⟩
  case round =>
    obtain ⟨k, hk, rfl, HM, HB⟩ := hrel
    by_cases hlt : k < N
    · obtain ⟨b, off, t, ht, hmem, rfl, hat⟩ := HAT.out k hlt
      obtain ⟨c0, c1, c2⟩ := hat wr HB.out
      have hrt := HRT.out t hmem
      have k2 : (k : Int) < (N : Int) := by omega
      have HTK := Lib.hid (fun x => anyL_take (p := hasL) ht x)
      have hbx : Below wr.heap.size wr ((wr.alloc (.cells #[.int .i64 t.kind, .int .i64 t.at_, .int .u64 t.word] 32)).alloc (.cells #[.int .i64 t.kind, .int .i64 t.at_, .int .u64 t.word] 62)) := (by repeat (first | exact Below.refl _ _ | assumption | refine Below.drew ?_ | refine below_drewN ?_ _ | refine Below.alloc ?_ (by (try simp) <;> omega) _ | refine Below.setCell ?_ (by (try simp) <;> omega) _ | refine Below.trans ?_ (Below.mono (by assumption) (by (try simp) <;> omega))))
      have HQ := Lib.hid (hasT_any t ((wr.alloc (.cells #[.int .i64 t.kind, .int .i64 t.at_, .int .u64 t.word] 32)).alloc (.cells #[.int .i64 t.kind, .int .i64 t.at_, .int .u64 t.word] 62)))
      have HBX := Lib.hid hbx
      have hX : Tri ((wr.alloc (.cells #[.int .i64 t.kind, .int .i64 t.at_, .int .u64 t.word] 32)).alloc (.cells #[.int .i64 t.kind, .int .i64 t.at_, .int .u64 t.word] 62)) (wr.heap.size + 1) 62 (.int .i64 t.kind) (.int .i64 t.at_) (.int .u64 t.word) := by unfold Tri; (simp only [heap_at, World.size_alloc]; repeat (first | rw [if_pos (by omega)] | rw [if_neg (by omega)] | rw [if_pos trivial]))
      have HX := Lib.hid hX
      have HRT1 := Lib.hid hrt
      clear ht hat hbx hX hmem hrt
      go_wp2_with fail
      refine HQ.out.mono ?_
      rintro e w1 ⟨rfl, hb1⟩
      have HB1 : Hid (Below wr.heap.size wr w1) := show Below _ _ _ from HBX.out.trans (hb1.mono HBX.out.size)
      have hX1 := HX.out.below hb1 HX.out.lt
      obtain ⟨d0, d1, d2, -⟩ := hX1.cells
      have HW1 : Hid (Below w.heap.size w w1) := show Below _ _ _ from HB.out.trans (HB1.out.mono HB.out.size)
      clear hb1 hX1
      cases hq : hasL t with
      | false =>
        have hM1 : KeyMap w1 unitElem w.heap.size (k + 1) (anyL hasL (ts.take (k + 1))) := by
          obtain ⟨D, h1, h2⟩ := HM.out.below HB1.out
          refine ⟨D, h1.mono (by omega), fun x => ?_⟩
          rw [h2 x, HTK.out x, hq]
          simp
        have HM1 := Lib.hid hM1
        have hq' : decide (t.kind ≠ 4) = false := hq
        clear hM1 hq
        go_wp2_with fail
        go_roundw
        case rel => exact ⟨k + 1, by omega, by go_num, HM1, HW1⟩
        case measure => simp [intOf]; omega
      | true =>
        have hk4 : t.kind ≠ 4 := by simp [hasL] at hq; omega
        have hat1 : -9223372036854775808 ≤ t.at_ ∧ t.at_ ≤ 9223372036854775807 := by
          have h := HRT1.out
          unfold rightT at h
          split at h
          · have := of_decide_eq_true h; omega
          · split at h
            · have := of_decide_eq_true h; omega
            · have := of_decide_eq_true h; omega
        have HLN := Lib.hid (lineT_any t hat1 w1)
        have HLR := Lib.hid (lineT_range HRT1.out hk4)
        have HHQ := Lib.hid hq
        have hq' : decide (t.kind ≠ 4) = true := hq
        clear hq hk4 hat1
        go_wp2_with fail
        refine HLN.out.mono ?_
        rintro e w2 ⟨rfl, hb2⟩
        obtain ⟨D, h1, h2⟩ := (HM.out.below HB1.out).below hb2
        have HD1 := Lib.hid h1
        have HD2 := Lib.hid h2
        have HW2 : Hid (Below w.heap.size w w2) := show Below _ _ _ from HW1.out.trans (hb2.mono HW1.out.size)
        obtain ⟨y, hy⟩ : ∃ y, lineT t = y := ⟨_, rfl⟩
        have HLR2 := HLR.out
        rw [hy] at HLR2 ⊢
        have HY := Lib.hid hy
        have HKY := Lib.hid (keyOf_int_mk (P := Try.prog) (k := 3) (q := .i64) Try.underlying3 (a := y) (by simp [Lit.wf, IntKind.min, IntKind.max, IntKind.signed, IntKind.bits]; omega))
        clear h1 h2 hb2 hy
        go_wp2_with (at_mapUpdate; refine park ?_)
        unfold Park
        refine wpList_mapUpdate_own _ rfl _ _ _ 70 rfl 3 71 keyed_int Try.underlying70 unitElem w.heap.size k D rfl HD1.out (by unfold maxLen; omega) _ _ (.int .i64 y) rfl rfl HKY.out (.agg []) [] unitElem_mk ?_
        intro w3 own3 grow3
        have HW3 : Hid (Below w.heap.size w w3) := show Below _ _ _ from below_grown HW2.out grow3 (Nat.le_refl _) HW2.out.size
        have hM3 : KeyMap w3 unitElem w.heap.size (k + 1) (anyL hasL (ts.take (k + 1))) := by
          refine ⟨_, own3, fun x => ?_⟩
          rw [has_put HD1.out.isMap, HD2.out x, HTK.out x, HHQ.out, HY.out]
          simp
        have HM3 := Lib.hid hM3
        clear own3 grow3 hM3
        go_wp2_with fail
        go_roundw
        case rel => exact ⟨k + 1, by omega, by go_num, HM3, HW3⟩
        case measure => simp [intOf]; omega
    · have hkN : k = N := by omega
      have k2 : ¬ (k : Int) < (N : Int) := by omega
      obtain ⟨D, h1, h2⟩ := HM.out
      have hp := perm_keys h1 HND.out (fun x => by
        rw [HMV.out x, h2 x, List.take_of_length_le (by rw [HN.out]; omega)])
      have hsz := h1.size_le
      have HRI := Lib.hid (risingA_any w.heap.size k D unitElem wr h1 (by unfold maxLen; omega) (by omega))
      have HP := Lib.hid hp
      clear h1 h2 hp hsz
      go_wp2_with fail
      refine HRI.out.mono ?_
      rintro e w1 ⟨u, ss, rfl, hpe, hrow, -, hb1⟩
      have hsl := own_slice2 hrow
      have e1 : ss.mergeSort leI = L.map (fun k : Nat => (k : Int)) := sorted_eq (hpe.trans HP.out.symm) HSO.out
      have e2 : ss.length = L.length := by
        have := (hpe.trans HP.out.symm).length_eq
        rw [this, List.length_map]
      obtain ⟨ua, uc, rfl⟩ := hsl
      rw [show (fun x y : Int => decide (x ≤ y)) = leI from rfl, e1, vals_int, e2] at hrow
      rw [e2]
      have HRW := Lib.hid hrow
      have HB1 : Hid (Below w.heap.size w w1) := show Below _ _ _ from HB.out.trans (hb1.mono HB.out.size)
      clear hrow hb1 e1 hpe
      go_wp2_with fail
      go_ret
      exact ⟨_, rfl, own_low HRW.out HB.out.size, HB1.out⟩
set_option maxRecDepth 100000 in
set_option maxHeartbeats 4000000 in
theorem linesS_any {v : Value} {ts : List Tch} (w : World) (hl : ts.length ≤ 4096) (hs : SlT w v ts) (hr : ts.all rightT = true) :
    Calls Try.prog 29 #[v, .func (.func 39) #[] #[]] w fun e w' => ∃ u, e = .returned u ∧ w'.ownsRow w.heap.size 3 1 u (linesV storesL ts).length (valsOf .i64 (linesV storesL ts)) ∧ Below w.heap.size w w' := by
  obtain ⟨a, cap, rfl, -⟩ := id hs
  obtain ⟨N, hN⟩ : ∃ N, ts.length = N := ⟨_, rfl⟩
  have HRT := Lib.hid (List.all_eq_true.1 hr)
  have HMV := Lib.hid (fun x => mem_linesV (p := storesL) hr (fun t h => by simp [storesL] at h; omega) x)
  rw [hN] at hs hl ⊢
  have HAT := Lib.hid (hs.at_ hN)
  have HN := Lib.hid hN
  obtain ⟨L, hL⟩ : ∃ L, linesV storesL ts = L := ⟨_, rfl⟩
  have HND := Lib.hid (linesV_nodup storesL ts)
  have HSO := Lib.hid (linesV_sorted storesL ts)
  rw [hL] at HMV HND HSO ⊢
  clear hs hN hr hL
  have hM0 : KeyMap (w.alloc (.map #[] 0)) unitElem w.heap.size 0 (anyL storesL (ts.take 0)) := ⟨.map [], World.ownsMap_made w _ _ _, fun x => rfl⟩
  have hb0 : Below w.heap.size w (w.alloc (.map #[] 0)) := (Below.refl _ _).alloc (Nat.le_refl _) _
  have HM0 := Lib.hid hM0
  have HB0 := Lib.hid hb0
  clear hM0 hb0
  have hmk := run_makeMap (P := Try.prog) 70 w
  go_enter Try.func29, Try.ntmps29
  go_wp2_with fail
  clear hmk
  go_loopw [12] (fun i wr => ∃ k : Nat, k ≤ N ∧ i = .int .i64 (k : Nat) ∧ Hid (KeyMap wr unitElem w.heap.size k (anyL storesL (ts.take k))) ∧ Hid (Below w.heap.size w wr)) (fun i _ => N - (intOf i).toNat)
  case atStart => exact ⟨0, by omega, rfl, HM0, HB0⟩
  case round =>
    obtain ⟨k, hk, rfl, HM, HB⟩ := hrel
    by_cases hlt : k < N
    · obtain ⟨b, off, t, ht, hmem, rfl, hat⟩ := HAT.out k hlt
      obtain ⟨c0, c1, c2⟩ := hat wr HB.out
      have hrt := HRT.out t hmem
      have k2 : (k : Int) < (N : Int) := by omega
      have HTK := Lib.hid (fun x => anyL_take (p := storesL) ht x)
      have hbx : Below wr.heap.size wr ((wr.alloc (.cells #[.int .i64 t.kind, .int .i64 t.at_, .int .u64 t.word] 32)).alloc (.cells #[.int .i64 t.kind, .int .i64 t.at_, .int .u64 t.word] 62)) := (by repeat (first | exact Below.refl _ _ | assumption | refine Below.drew ?_ | refine below_drewN ?_ _ | refine Below.alloc ?_ (by (try simp) <;> omega) _ | refine Below.setCell ?_ (by (try simp) <;> omega) _ | refine Below.trans ?_ (Below.mono (by assumption) (by (try simp) <;> omega))))
      have HQ := Lib.hid (storesT_any t ((wr.alloc (.cells #[.int .i64 t.kind, .int .i64 t.at_, .int .u64 t.word] 32)).alloc (.cells #[.int .i64 t.kind, .int .i64 t.at_, .int .u64 t.word] 62)))
      have HBX := Lib.hid hbx
      have hX : Tri ((wr.alloc (.cells #[.int .i64 t.kind, .int .i64 t.at_, .int .u64 t.word] 32)).alloc (.cells #[.int .i64 t.kind, .int .i64 t.at_, .int .u64 t.word] 62)) (wr.heap.size + 1) 62 (.int .i64 t.kind) (.int .i64 t.at_) (.int .u64 t.word) := by unfold Tri; (simp only [heap_at, World.size_alloc]; repeat (first | rw [if_pos (by omega)] | rw [if_neg (by omega)] | rw [if_pos trivial]))
      have HX := Lib.hid hX
      have HRT1 := Lib.hid hrt
      clear ht hat hbx hX hmem hrt
      go_wp2_with fail
      refine HQ.out.mono ?_
      rintro e w1 ⟨rfl, hb1⟩
      have HB1 : Hid (Below wr.heap.size wr w1) := show Below _ _ _ from HBX.out.trans (hb1.mono HBX.out.size)
      have hX1 := HX.out.below hb1 HX.out.lt
      obtain ⟨d0, d1, d2, -⟩ := hX1.cells
      have HW1 : Hid (Below w.heap.size w w1) := show Below _ _ _ from HB.out.trans (HB1.out.mono HB.out.size)
      clear hb1 hX1
      cases hq : storesL t with
      | false =>
        have hM1 : KeyMap w1 unitElem w.heap.size (k + 1) (anyL storesL (ts.take (k + 1))) := by
          obtain ⟨D, h1, h2⟩ := HM.out.below HB1.out
          refine ⟨D, h1.mono (by omega), fun x => ?_⟩
          rw [h2 x, HTK.out x, hq]
          simp
        have HM1 := Lib.hid hM1
        have hq' : decide (t.kind = 2) = false := hq
        clear hM1 hq
        go_wp2_with fail
        go_roundw
        case rel => exact ⟨k + 1, by omega, by go_num, HM1, HW1⟩
        case measure => simp [intOf]; omega
      | true =>
        have hk4 : t.kind ≠ 4 := by simp [storesL] at hq; omega
        have hat1 : -9223372036854775808 ≤ t.at_ ∧ t.at_ ≤ 9223372036854775807 := by
          have h := HRT1.out
          unfold rightT at h
          split at h
          · have := of_decide_eq_true h; omega
          · split at h
            · have := of_decide_eq_true h; omega
            · have := of_decide_eq_true h; omega
        have HLN := Lib.hid (lineT_any t hat1 w1)
        have HLR := Lib.hid (lineT_range HRT1.out hk4)
        have HHQ := Lib.hid hq
        have hq' : decide (t.kind = 2) = true := hq
        clear hq hk4 hat1
        go_wp2_with fail
        refine HLN.out.mono ?_
        rintro e w2 ⟨rfl, hb2⟩
        obtain ⟨D, h1, h2⟩ := (HM.out.below HB1.out).below hb2
        have HD1 := Lib.hid h1
        have HD2 := Lib.hid h2
        have HW2 : Hid (Below w.heap.size w w2) := show Below _ _ _ from HW1.out.trans (hb2.mono HW1.out.size)
        obtain ⟨y, hy⟩ : ∃ y, lineT t = y := ⟨_, rfl⟩
        have HLR2 := HLR.out
        rw [hy] at HLR2 ⊢
        have HY := Lib.hid hy
        have HKY := Lib.hid (keyOf_int_mk (P := Try.prog) (k := 3) (q := .i64) Try.underlying3 (a := y) (by simp [Lit.wf, IntKind.min, IntKind.max, IntKind.signed, IntKind.bits]; omega))
        clear h1 h2 hb2 hy
        go_wp2_with (at_mapUpdate; refine park ?_)
        unfold Park
        refine wpList_mapUpdate_own _ rfl _ _ _ 70 rfl 3 71 keyed_int Try.underlying70 unitElem w.heap.size k D rfl HD1.out (by unfold maxLen; omega) _ _ (.int .i64 y) rfl rfl HKY.out (.agg []) [] unitElem_mk ?_
        intro w3 own3 grow3
        have HW3 : Hid (Below w.heap.size w w3) := show Below _ _ _ from below_grown HW2.out grow3 (Nat.le_refl _) HW2.out.size
        have hM3 : KeyMap w3 unitElem w.heap.size (k + 1) (anyL storesL (ts.take (k + 1))) := by
          refine ⟨_, own3, fun x => ?_⟩
          rw [has_put HD1.out.isMap, HD2.out x, HTK.out x, HHQ.out, HY.out]
          simp
        have HM3 := Lib.hid hM3
        clear own3 grow3 hM3
        go_wp2_with fail
        go_roundw
        case rel => exact ⟨k + 1, by omega, by go_num, HM3, HW3⟩
        case measure => simp [intOf]; omega
    · have hkN : k = N := by omega
      have k2 : ¬ (k : Int) < (N : Int) := by omega
      obtain ⟨D, h1, h2⟩ := HM.out
      have hp := perm_keys h1 HND.out (fun x => by
        rw [HMV.out x, h2 x, List.take_of_length_le (by rw [HN.out]; omega)])
      have hsz := h1.size_le
      have HRI := Lib.hid (risingA_any w.heap.size k D unitElem wr h1 (by unfold maxLen; omega) (by omega))
      have HP := Lib.hid hp
      clear h1 h2 hp hsz
      go_wp2_with fail
      refine HRI.out.mono ?_
      rintro e w1 ⟨u, ss, rfl, hpe, hrow, -, hb1⟩
      have hsl := own_slice2 hrow
      have e1 : ss.mergeSort leI = L.map (fun k : Nat => (k : Int)) := sorted_eq (hpe.trans HP.out.symm) HSO.out
      have e2 : ss.length = L.length := by
        have := (hpe.trans HP.out.symm).length_eq
        rw [this, List.length_map]
      obtain ⟨ua, uc, rfl⟩ := hsl
      rw [show (fun x y : Int => decide (x ≤ y)) = leI from rfl, e1, vals_int, e2] at hrow
      rw [e2]
      have HRW := Lib.hid hrow
      have HB1 : Hid (Below w.heap.size w w1) := show Below _ _ _ from HB.out.trans (hb1.mono HB.out.size)
      clear hrow hb1 e1 hpe
      go_wp2_with fail
      go_ret
      exact ⟨_, rfl, own_low HRW.out HB.out.size, HB1.out⟩
end Go.Proofs.Ytkpiehejkhjhlaa
