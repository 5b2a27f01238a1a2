/-
  Texts TeI to PthC, as one.
-/
import Derived.Test.YtgoemaecdolioaaGreatDoorMo5
import Derived.Test.YtgoemaecdolioaaGreatDoorMo6
import Derived.Test.YtgoemaecdolioaaGreatDoorMo7
import Derived.Defers
import Derived.Recover
import Derived.Lib.SplitLaws
import Derived.Lib.IndexBytes
/-
  tree: spots: giveWay.
-/
namespace Go.Proofs.YtgoemaecdolioaaGreatDoor
open Go.RowKit Go.Shelf
attribute [local go_sem] Oper.semAt_some

/-- May y give way to z? An error. -/
def giveN (y z : TN) : Int := if (y.isDir || !z.isDir) = false then 201 else if (z.isDir || !y.isDir) = false then 204 else if y.nm = [] then 0 else 205
set_option maxRecDepth 100000 in
set_option maxHeartbeats 4000000 in
theorem giveWay10_none {w : World} {d n : Nat} {x : TN} (h : NodeAt w d x) (s : List UInt8) (hs : s.length ≤ 1000) (hp : lookNm x.nm s = none) :
    Calls Tryz.prog 167 #[.agg #[.pointer (some ⟨d, 0, none⟩), encStr s], .pointer (some ⟨n, 0, none⟩)] w fun e w' => (∃ u, e = .returned u) ∧ Below w.heap.size w w' := by
  obtain ⟨t, ht⟩ : ∃ t, encStr s = .string t := ⟨_, rfl⟩
  obtain ⟨W1, hW1⟩ : ∃ W1, w.alloc (.cells #[.pointer (some ⟨d, 0, none⟩), .string t] 139) = W1 := ⟨_, rfl⟩
  have hb1 : Below w.heap.size w W1 := by rw [← hW1]; exact (by repeat (first | exact Below.refl _ _ | assumption | refine Below.drew ?_ | refine below_drewN ?_ _ | refine Below.alloc ?_ (by (try simp) <;> omega) _ | refine Below.setCell ?_ (by (try simp) <;> omega) _ | refine Below.trans ?_ (Below.mono (by assumption) (by (try simp) <;> omega))))
  have k0 : W1.cell? ⟨w.heap.size, 0, none⟩ = some (.pointer (some ⟨d, 0, none⟩)) := by rw [← hW1]; exact (Blk.new w 139 #[.pointer (some ⟨d, 0, none⟩), .string t]).cell rfl
  have k1 : W1.cell? ⟨w.heap.size, 1, none⟩ = some (.string t) := by rw [← hW1]; exact (Blk.new w 139 #[.pointer (some ⟨d, 0, none⟩), .string t]).cell rfl
  have hh := held10_any (h.below hb1) s hs
  rw [hp, ht] at hh
  have HH : Hid (Calls Tryz.prog 85 #[.agg #[.pointer (some ⟨d, 0, none⟩), .string t]] W1 fun e w' => e = .returned (.pointer none) ∧ Below W1.heap.size W1 w') := show Calls _ _ _ _ _ from hh
  have HB1 := Lib.hid hb1
  rw [ht]
  clear h ht hs hp hb1 hh
  go_enter Tryz.func167, Tryz.ntmps167
  go_wp2_with fail
  refine HH.out.mono ?_
  rintro e w' ⟨rfl, hb⟩
  have HB2 := Lib.hid (HB1.out.trans (hb.mono HB1.out.size))
  clear hb
  go_wp2_with fail
  first
  | go_end0
  | refine bodyPost_ret (results_none rfl _ _ _) rfl ?_
  exact ⟨⟨_, rfl⟩, HB2.out⟩
set_option maxRecDepth 100000 in
set_option maxHeartbeats 16000000 in
theorem giveWay10_some {w : World} {d n c : Nat} {x y z : TN} (h : NodeAt w d x) (hc : NodeAt w c y) (hz : NodeAt w n z) (hdc : d ≠ c) (s : List UInt8) (hs : s.length ≤ 1000) (hp : lookNm x.nm s = some c) (hl : 0 < y.links ∧ y.links ≤ 1000) (hmm : x.map ≠ y.map) :
    Calls Tryz.prog 167 #[.agg #[.pointer (some ⟨d, 0, none⟩), encStr s], .pointer (some ⟨n, 0, none⟩)] w fun e w' => 
      (giveN y z ≠ 0 ∧ e = .panicked (refuse (giveN y z)) ∧ Below w.heap.size w w') ∨
      (giveN y z = 0 ∧ (∃ u, e = .returned u) ∧ NodeAt w' d { x with nm := delNm x.nm s } ∧ NodeAt w' c { y with links := y.links - 1 } ∧ Turn (fun k => k = x.map ∨ k = c) w w') := by
  obtain ⟨t, ht⟩ : ∃ t, encStr s = .string t := ⟨_, rfl⟩
  obtain ⟨W1, hW1⟩ : ∃ W1, w.alloc (.cells #[.pointer (some ⟨d, 0, none⟩), .string t] 139) = W1 := ⟨_, rfl⟩
  have hb1 : Below w.heap.size w W1 := by rw [← hW1]; exact (by repeat (first | exact Below.refl _ _ | assumption | refine Below.drew ?_ | refine below_drewN ?_ _ | refine Below.alloc ?_ (by (try simp) <;> omega) _ | refine Below.setCell ?_ (by (try simp) <;> omega) _ | refine Below.trans ?_ (Below.mono (by assumption) (by (try simp) <;> omega))))
  have k0 : W1.cell? ⟨w.heap.size, 0, none⟩ = some (.pointer (some ⟨d, 0, none⟩)) := by rw [← hW1]; exact (Blk.new w 139 #[.pointer (some ⟨d, 0, none⟩), .string t]).cell rfl
  have k1 : W1.cell? ⟨w.heap.size, 1, none⟩ = some (.string t) := by rw [← hW1]; exact (Blk.new w 139 #[.pointer (some ⟨d, 0, none⟩), .string t]).cell rfl
  have hh := held10_any (h.below hb1) s hs
  rw [hp, ht] at hh
  have HH : Hid (Calls Tryz.prog 85 #[.agg #[.pointer (some ⟨d, 0, none⟩), .string t]] W1 fun e w' => e = .returned (.pointer (some ⟨c, 0, none⟩)) ∧ Below W1.heap.size W1 w') := show Calls _ _ _ _ _ from hh
  have HSX : Hid (w.heap.size < W1.heap.size) := show _ < _ by rw [← hW1]; simp
  have HBX : Hid (Blk W1 w.heap.size 139 #[.pointer (some ⟨d, 0, none⟩), .string t]) := show Blk _ _ _ _ by rw [← hW1]; exact Blk.new _ _ _
  have HB1 := Lib.hid hb1
  have HDY := Lib.hid (fun V (hV : Below w.heap.size w V) => isDir_any (hc.below hV))
  have HDZ := Lib.hid (fun V (hV : Below w.heap.size w V) => isDir_any (hz.below hV))
  have HCM := Lib.hid (fun V (hV : Below w.heap.size w V) => (hc.below hV).blk.cell (j := 0) (v := .map (some y.map)) rfl)
  have HEM := Lib.hid (fun V (hV : Below w.heap.size w V) => mustBeEmpty_any (hc.below hV).names)
  have HLV : Hid (∀ V, Below w.heap.size w V → Calls Tryz.prog 162 #[.agg #[.pointer (some ⟨d, 0, none⟩), .string t]] V fun e w' => (∃ u, e = .returned u) ∧
      NodeAt w' d { x with nm := delNm x.nm s } ∧ NodeAt w' c { y with links := y.links - 1 } ∧ Turn (fun k => k = x.map ∨ k = c) V w') := show ∀ V, _ from fun V hV => by
    have := leave10_any (h.below hV) (hc.below hV) hdc s hs hp hl hmm
    rw [ht] at this
    exact this
  have HM1 := Lib.hid (fun b w => mustBe10_any b 201 (by decide) w)
  have HM4 := Lib.hid (fun b w => mustBe10_any b 204 (by decide) w)
  obtain ⟨b, hb⟩ : ∃ b, y.isDir = b := ⟨_, rfl⟩
  obtain ⟨q, hq⟩ : ∃ q, z.isDir = q := ⟨_, rfl⟩
  rw [hb] at HDY
  rw [hq] at HDZ
  have hgn : giveN y z = if (b || !q) = false then 201 else if (q || !b) = false then 204 else if y.nm = [] then 0 else 205 := by unfold giveN; rw [hb, hq]
  obtain ⟨g, hg⟩ : ∃ g, giveN y z = g := ⟨_, rfl⟩
  rw [hg] at hgn ⊢
  have HG := Lib.hid hgn
  rw [ht]
  clear h ht hs hp hb1 hh hc hz hdc hl hmm hb hq hgn hg
  go_enter Tryz.func167, Tryz.ntmps167
  go_wp2_with fail
  refine HH.out.mono ?_
  rintro e w2 ⟨rfl, hb⟩
  have HB2 := Lib.hid (HB1.out.trans (hb.mono HB1.out.size))
  have HBX2 := Lib.hid (HBX.out.below hb HSX.out)
  clear hb k0 k1
  go_wp2_with fail
  refine (HDY.out _ HB2.out).mono ?_
  rintro e w3 ⟨rfl, rfl⟩
  cases b
  · go_wp2_with fail
    refine (HDZ.out _ HB2.out).mono ?_
    rintro e w3 ⟨rfl, rfl⟩
    cases q
    · go_wp2_with fail
      refine (HM1.out _ _).mono ?_
      rintro e w4 (⟨hg, ⟨u, rfl⟩, rfl⟩ | ⟨hg, rfl, rfl⟩)
      · clear hg
        go_wp2_with fail
        refine (HDZ.out _ HB2.out).mono ?_
        rintro e w3 ⟨rfl, rfl⟩
        go_wp2_with fail
        refine (HDY.out _ HB2.out).mono ?_
        rintro e w3 ⟨rfl, rfl⟩
        go_wp2_with fail
        refine (HM4.out _ _).mono ?_
        rintro e w4 (⟨hg, ⟨u, rfl⟩, rfl⟩ | ⟨hg, rfl, rfl⟩)
        · clear hg
          have cm := HCM.out _ HB2.out
          go_wp2_with fail
          refine (HEM.out _ HB2.out).mono ?_
          rintro e w5 (⟨hg, ⟨u, rfl⟩, rfl⟩ | ⟨hg, rfl, rfl⟩)
          · have he : y.nm = [] := List.eq_nil_of_length_eq_zero (by have := beq_iff_eq.1 hg; omega)
            have hc : g = 0 := by have := HG.out; simpa [he] using this
            have HC0 := Lib.hid hc
            have l0 := HBX2.out.cell (j := 0) (v := .pointer (some ⟨d, 0, none⟩)) rfl
            have l1 := HBX2.out.cell (j := 1) (v := .string t) rfl
            clear hg he hc cm
            go_wp2_with fail
            refine (HLV.out _ HB2.out).mono ?_
            rintro e w6 ⟨⟨u, rfl⟩, h1, h2, h3⟩
            have HEND : Hid (NodeAt w6 d { x with nm := delNm x.nm s } ∧ NodeAt w6 c { y with links := y.links - 1 } ∧ Turn (fun k => k = x.map ∨ k = c) w w6) := show _ ∧ _ from ⟨h1, h2, (Turn.of_below HB2.out (Nat.le_refl _)).trans h3⟩
            clear h1 h2 h3
            go_wp2_with fail
            first
            | go_end0
            | refine bodyPost_ret (results_none rfl _ _ _) rfl ?_
            exact .inr ⟨HC0.out, ⟨_, rfl⟩, HEND.out⟩
          · refine ⟨rfl, .inl ?_⟩
            have he : y.nm ≠ [] := fun e => by rw [e] at hg; cases hg
            have hc : g = 205 := by have := HG.out; simpa [he] using this
            exact ⟨by rw [hc]; decide, by rw [hc], HB2.out⟩
        · cases hg
      · cases hg
    · go_wp2_with fail
      refine (HM1.out _ _).mono ?_
      rintro e w4 (⟨hg, ⟨u, rfl⟩, rfl⟩ | ⟨hg, rfl, rfl⟩)
      · cases hg
      · refine ⟨rfl, .inl ?_⟩
        have hc : g = 201 := by have := HG.out; simpa using this
        exact ⟨by rw [hc]; decide, by rw [hc], HB2.out⟩
  · go_wp2_with fail
    refine (HM1.out _ _).mono ?_
    rintro e w4 (⟨hg, ⟨u, rfl⟩, rfl⟩ | ⟨hg, rfl, rfl⟩)
    · clear hg
      go_wp2_with fail
      refine (HDZ.out _ HB2.out).mono ?_
      rintro e w3 ⟨rfl, rfl⟩
      cases q
      · go_wp2_with fail
        refine (HDY.out _ HB2.out).mono ?_
        rintro e w3 ⟨rfl, rfl⟩
        go_wp2_with fail
        refine (HM4.out _ _).mono ?_
        rintro e w4 (⟨hg, ⟨u, rfl⟩, rfl⟩ | ⟨hg, rfl, rfl⟩)
        · cases hg
        · refine ⟨rfl, .inl ?_⟩
          have hc : g = 204 := by have := HG.out; simpa using this
          exact ⟨by rw [hc]; decide, by rw [hc], HB2.out⟩
      · go_wp2_with fail
        refine (HM4.out _ _).mono ?_
        rintro e w4 (⟨hg, ⟨u, rfl⟩, rfl⟩ | ⟨hg, rfl, rfl⟩)
        · clear hg
          have cm := HCM.out _ HB2.out
          go_wp2_with fail
          refine (HEM.out _ HB2.out).mono ?_
          rintro e w5 (⟨hg, ⟨u, rfl⟩, rfl⟩ | ⟨hg, rfl, rfl⟩)
          · have he : y.nm = [] := List.eq_nil_of_length_eq_zero (by have := beq_iff_eq.1 hg; omega)
            have hc : g = 0 := by have := HG.out; simpa [he] using this
            have HC0 := Lib.hid hc
            have l0 := HBX2.out.cell (j := 0) (v := .pointer (some ⟨d, 0, none⟩)) rfl
            have l1 := HBX2.out.cell (j := 1) (v := .string t) rfl
            clear hg he hc cm
            go_wp2_with fail
            refine (HLV.out _ HB2.out).mono ?_
            rintro e w6 ⟨⟨u, rfl⟩, h1, h2, h3⟩
            have HEND : Hid (NodeAt w6 d { x with nm := delNm x.nm s } ∧ NodeAt w6 c { y with links := y.links - 1 } ∧ Turn (fun k => k = x.map ∨ k = c) w w6) := show _ ∧ _ from ⟨h1, h2, (Turn.of_below HB2.out (Nat.le_refl _)).trans h3⟩
            clear h1 h2 h3
            go_wp2_with fail
            first
            | go_end0
            | refine bodyPost_ret (results_none rfl _ _ _) rfl ?_
            exact .inr ⟨HC0.out, ⟨_, rfl⟩, HEND.out⟩
          · refine ⟨rfl, .inl ?_⟩
            have he : y.nm ≠ [] := fun e => by rw [e] at hg; cases hg
            have hc : g = 205 := by have := HG.out; simpa [he] using this
            exact ⟨by rw [hc]; decide, by rw [hc], HB2.out⟩
        · cases hg
    · cases hg
end Go.Proofs.YtgoemaecdolioaaGreatDoor

/-
  tree: fill.
-/
namespace Go.Proofs.YtgoemaecdolioaaGreatDoor
open Go.RowKit Go.Shelf
attribute [local go_sem] Oper.semAt_some

theorem writeF_nil (ds : List Nat) : writeF [] 0 ds = ds := by
  unfold writeF
  split
  · exact (List.eq_nil_of_length_eq_zero (by assumption)).symm
  · simp [spliceN, cutF]
def fillN (x : TN) (ds : List Nat) : Int := if x.isDir = true then 204 else if 448 < ds.length then 190 else 0
set_option maxRecDepth 100000 in
set_option maxHeartbeats 4000000 in
theorem fill10_any {w : World} {b : Nat} {x : TN} (h : NodeAt w b x) {u : Value} {ds : List Nat} (hu : FB w u ds) :
    Calls Tryz.prog 170 #[.pointer (some ⟨b, 0, none⟩), u] w fun e w' =>
      (fillN x ds ≠ 0 ∧ e = .panicked (refuse (fillN x ds)) ∧ Below w.heap.size w w') ∨
      (fillN x ds = 0 ∧ (∃ u, e = .returned u) ∧ (∃ r, NodeAt w' b { x with cont := r, bytes := ds }) ∧ Turn (fun k => k = b) w w') := by
  have HM := Lib.hid (mustBeFile_any h)
  have hwr := write_any (v := .slice none 0 0) (xs := []) 0 (by decide) (by decide) w (nil_fb w) hu
  have heq : errW ([] : List Nat).length 0 ds.length = if 448 < ds.length then 190 else 0 := by
    unfold errW
    rw [if_neg (by decide)]
    by_cases hb : 448 < ds.length
    · rw [if_pos hb, if_pos (.inr (by omega))]
    · rw [if_neg hb, if_neg (by simp; omega)]
  have hfn : fillN x ds = if x.isDir = true then 204 else if 448 < ds.length then 190 else 0 := rfl
  obtain ⟨d, hd⟩ : ∃ d, x.isDir = d := ⟨_, rfl⟩
  rw [hd] at HM hfn
  have HX := Lib.hid h
  cases d
  · by_cases hb : 448 < ds.length
    · have hg : fillN x ds = 190 := by rw [hfn]; simp [hb]
      rw [heq, if_pos hb] at hwr
      have HW := Lib.hid hwr
      have HMG := Lib.hid (mustGo_no 190 (by decide))
      have HG := Lib.hid hg
      clear hwr heq hfn hd h hu hb hg
      go_enter Tryz.func170, Tryz.ntmps170
      go_wp2_with fail
      refine HM.out.mono ?_
      rintro e w2 (⟨hg, ⟨q, rfl⟩, rfl⟩ | ⟨hg, rfl, rfl⟩)
      · clear hg
        go_wp2_with fail
        refine HW.out.mono ?_
        rintro e w3 ⟨r, rfl, hf, hbl⟩
        have HBL := Lib.hid hbl
        clear hf hbl
        go_wp2_with fail
        refine (HMG.out _).mono ?_
        rintro e w4 ⟨rfl, rfl⟩
        exact ⟨rfl, .inl ⟨by rw [HG.out]; decide, by rw [HG.out], HBL.out⟩⟩
      · cases hg
    · have hg : fillN x ds = 0 := by rw [hfn]; simp [hb]
      have ho : outW [] 0 ds = ds := by
        unfold outW
        rw [heq, if_neg hb, if_pos rfl]
        exact writeF_nil ds
      rw [heq, if_neg hb, ho] at hwr
      have HW := Lib.hid hwr
      have HMG := Lib.hid mustGo_ok
      have HG := Lib.hid hg
      clear hwr heq hfn hd h hu hb hg ho
      go_enter Tryz.func170, Tryz.ntmps170
      go_wp2_with fail
      refine HM.out.mono ?_
      rintro e w2 (⟨hg, ⟨q, rfl⟩, rfl⟩ | ⟨hg, rfl, rfl⟩)
      · clear hg
        go_wp2_with fail
        refine HW.out.mono ?_
        rintro e w3 ⟨r, rfl, hf, hbl⟩
        have hx3 := HX.out.below hbl
        have HX3 := Lib.hid hx3
        have HF3 := Lib.hid hf
        have HBL := Lib.hid hbl
        have cc3 : w3.cell? ⟨b, 3, none⟩ = some x.cont := hx3.blk.cell rfl
        have ff3 := hx3.blk.frozen 3
        clear hf hbl hx3
        go_wp2_with fail
        refine (HMG.out _).mono ?_
        rintro e w4 ⟨⟨q2, rfl⟩, rfl⟩
        have ht : Turn (fun k => k = b) w4 (w4.setCell ⟨b, 3, none⟩ r) := Turn.setCell _ _ rfl
        have hno : ∀ k, (fun k => k = b) k → k < w4.heap.size → NoU8 w4 k := fun k hk _ => by
          subst hk
          exact HX3.out.noU8
        have HEND : Hid ((∃ r, NodeAt (w4.setCell ⟨b, 3, none⟩ r) b { x with cont := r, bytes := ds }) ∧ Turn (fun k => k = b) w2 (w4.setCell ⟨b, 3, none⟩ r) ∧ NodeAt (w4.setCell ⟨b, 3, none⟩ r) b { x with cont := r, bytes := ds }) := show _ ∧ _ from by
          have hh : NodeAt (w4.setCell ⟨b, 3, none⟩ r) b { x with cont := r, bytes := ds } := ⟨HX3.out.blk.set 3 r, HX3.out.names.turn ht (fun e => HX3.out.ne_map HX3.out e.symm), HF3.out.turn8 ht hno⟩
          exact ⟨⟨r, hh⟩, (Turn.of_below HBL.out (Nat.le_refl _)).trans ht, hh⟩
        obtain ⟨ra, rn, rc, rfl⟩ : ∃ a n c, r = .slice a n c := by
          obtain ⟨a, c, hv, -⟩ := HF3.out.form
          exact ⟨a, _, c, hv⟩
        obtain ⟨xa, xn, xc, hxc⟩ : ∃ a n c, x.cont = .slice a n c := by
          obtain ⟨a, c, hv, -⟩ := HX3.out.fb.form
          exact ⟨a, _, c, hv⟩
        rw [hxc] at cc3
        clear ht hno hxc
        go_wp2_with fail
        first
        | go_end0
        | refine bodyPost_ret (results_none rfl _ _ _) rfl ?_
        exact .inr ⟨HG.out, ⟨_, rfl⟩, ⟨_, HEND.out.2.2⟩, HEND.out.2.1⟩
      · cases hg
  · have hg : fillN x ds = 204 := by rw [hfn]; simp
    have HG := Lib.hid hg
    clear hwr heq hfn hd h hu hg
    go_enter Tryz.func170, Tryz.ntmps170
    go_wp2_with fail
    refine HM.out.mono ?_
    rintro e w2 (⟨hg, ⟨q, rfl⟩, rfl⟩ | ⟨hg, rfl, rfl⟩)
    · cases hg
    · exact ⟨rfl, .inl ⟨by rw [HG.out]; decide, by rw [HG.out], Below.refl _ _⟩⟩
end Go.Proofs.YtgoemaecdolioaaGreatDoor

/-
  tree: tried: what is given up with is told.
-/
namespace Go.Proofs.YtgoemaecdolioaaGreatDoor
open Go.RowKit Go.Shelf
attribute [local go_sem] Oper.semAt_some

theorem infoRF : (Tryz.prog.info? 216).map (fun i => (i.zero, i.size, i.bytes)) = some (some (.int .i64 0), 1, 8) := by kernel_rfl
theorem ta10_nil (W : World) : (Instr.typeAssert .nilIface 20 216 true).run Tryz.prog W = .ok (.tuple #[.int .i64 0, .bool false]) W := by
  obtain ⟨i, hi, hz, -, -⟩ := nd_info infoRF
  simp [Instr.typeAssert, run_underlying Tryz.underlying216, zeroValue, typeInfo, hi, hz]
theorem ta10_some (c : Int) (W : World) : (Instr.typeAssert (.iface 216 (.int .i64 c)) 20 216 true).run Tryz.prog W = .ok (.tuple #[.int .i64 c, .bool true]) W := by
  simp [Instr.typeAssert, run_underlying Tryz.underlying216]
def refused (c : Int) : List PanicEntry := [{ v := .iface 216 (.int .i64 c), recovered := true }]
theorem triedD_ok (E : Nat) (w : World) : CallsD Tryz.prog 184 #[.pointer (some ⟨E, 0, none⟩)] .returning w fun e u' w' => e = .returned (.tuple #[]) ∧ u' = .returning ∧ w' = w := by
  refine callsD_of_wpS Tryz.func184 rfl fun c₀ cs hu => ?_
  apply wpS_seq
  apply wpS_region
  have h1 := ta10_nil
  simp [wpOpsS, go_sem, recoverD, hu, Tryz.ntmps184, Exit.thenS, h1]
  generalize hA : (#[Value.pointer (some ⟨E, 0, none⟩)] ++ _ : Array Value) = A0
  have hA2 : A0 = #[.pointer (some ⟨E, 0, none⟩), .int .i64 0, .bool false, .tuple #[.int .i64 0, .bool false], .nilIface, .tuple #[.int .i64 0, .bool false], .int .i64 0, .bool false, undef, undef] := by rw [← hA]; kernel_rfl
  subst hA2
  clear hA
  refine wpS_of_wp ?_
  go_wp2_with fail
  cases c₀
  simp_all [bodyPostS, results, Tryz.results184]
theorem triedD_no (E : Nat) (c : Int) (v : Value) (w : World) (hE : Boxed w E 30 v) : CallsD Tryz.prog 184 #[.pointer (some ⟨E, 0, none⟩)] (.panicking (refuse c)) w fun e u' w' => e = .returned (.tuple #[]) ∧ u' = .panicking (refused c) ∧ w' = w.setCell ⟨E, 0, none⟩ (.int .i64 c) := by
  have ce := hE.cell
  have fe := hE.frozen
  refine callsD_of_wpS Tryz.func184 rfl fun c₀ cs hu => ?_
  apply wpS_seq
  apply wpS_region
  have h1 := ta10_some c
  unfold refuse at hu
  simp [wpOpsS, go_sem, recoverD, hu, Tryz.ntmps184, Exit.thenS, h1]
  generalize hA : (#[Value.pointer (some ⟨E, 0, none⟩)] ++ _ : Array Value) = A0
  have hA2 : A0 = #[.pointer (some ⟨E, 0, none⟩), .int .i64 c, .bool true, .tuple #[.int .i64 c, .bool true], (.iface 216 (.int .i64 c)), .tuple #[.int .i64 c, .bool true], .int .i64 c, .bool true, undef, undef] := by rw [← hA]; kernel_rfl
  subst hA2
  clear hA
  refine wpS_of_wp ?_
  go_wp2_with fail
  cases c₀
  simp_all [bodyPostS, results, Tryz.results184]
  rfl
theorem isThere_any {w : World} {T r : Nat} (hT : TreeAt w T r) : Calls Tryz.prog 80 #[.pointer (some ⟨T, 0, none⟩)] w fun e w' => e = .returned (.bool true) ∧ w' = w := by
  have c0 := hT.cell
  clear hT
  go_enter Tryz.func80, Tryz.ntmps80
  go_wp2
  go_ret
  exact ⟨rfl, rfl⟩
set_option maxRecDepth 100000 in
set_option maxHeartbeats 4000000 in
/-- What is done goes well (0), or tells an error; behind it P holds, and the box for the answer stands. -/
theorem tried10_any {f : FuncId} (hf : Enters Tryz.prog f) (caps : Array Value) (w : World) {T r : Nat} (hT : TreeAt w T r) (P : Int → World → Prop)
    (hD : Calls Tryz.prog f caps (w.alloc (.cells #[.int .i64 0] 30)) fun e w1 => (∃ c, Boxed w1 w.heap.size 30 (.int .i64 0) ∧ P c w1 ∧ ((c = 0 ∧ ∃ u, e = .returned u) ∨ (c ≠ 0 ∧ e = .panicked (refuse c))))) :
    Calls Tryz.prog 155 #[.pointer (some ⟨T, 0, none⟩), .func (.func f) #[] caps] w fun e w' => ∃ c w1, e = .returned (.int .i64 c) ∧ P c w1 ∧ Turn (fun k => k = w.heap.size) w1 w' := by
  have hmf : ∀ (fn : Fn) (first cap : Array Value) (w : World), (Instr.makeFunc fn first cap).run Tryz.prog w = .ok (.func fn first cap) w := fun _ _ _ _ => rfl
  have e0 : ∀ args W, (callFunc f args).run Tryz.prog W = .ok (.enter f args) W := hf
  have HT := Lib.hid (isThere_any (w := w.alloc (.cells #[.int .i64 0] 30)) ((Below.block ((Below.refl w.heap.size w).alloc (Nat.le_refl _) _) T hT.lt).trans hT))
  have HM := Lib.hid (fun b w => mustBe10_any b 1 (by decide) w)
  have HDD := Lib.hid hD
  clear hT hD hf
  go_enter_defers Tryz.func155, Tryz.ntmps155
  go_wp2_with fail
  refine HT.out.mono ?_
  rintro e w1 ⟨rfl, rfl⟩
  go_wp2_with fail
  refine (HM.out _ _).mono ?_
  rintro e w2 (⟨hg, ⟨u, rfl⟩, rfl⟩ | ⟨hg, rfl, rfl⟩)
  · clear hg
    go_wp2_with fail
    refine HDD.out.mono ?_
    rintro e w3 ⟨c, hbx, hp, ⟨rfl, u2, rfl⟩ | ⟨hc, rfl⟩⟩
    · have HP := Lib.hid hp
      have HBX := Lib.hid hbx
      have ceb := hbx.cell
      have feb := hbx.frozen
      clear hp hbx
      go_wp2_with fail
      have HB2 : Hid (Boxed (w3.setCell ⟨w.heap.size, 0, none⟩ (.int .i64 0)) w.heap.size 30 (.int .i64 0)) := show Boxed _ _ _ _ from HBX.out.set _
      have ht : Turn (fun k => k = w.heap.size) w3 (w3.setCell ⟨w.heap.size, 0, none⟩ (.int .i64 0)) := Turn.setCell _ _ rfl
      have HTT := Lib.hid ht
      obtain ⟨W4, hW4⟩ : ∃ W4, w3.setCell ⟨w.heap.size, 0, none⟩ (.int .i64 0) = W4 := ⟨_, rfl⟩
      rw [hW4] at HB2 HTT ⊢
      have cc4 := HB2.out.cell
      clear ht hW4 ceb feb
      refine leaves_cons (f := 184) (args := #[.pointer (some ⟨w.heap.size, 0, none⟩)]) (by simp) (by simp [go_sem]) ?_
      refine (triedD_ok _ _).mono ?_
      rintro e u' w'' ⟨rfl, rfl, rfl⟩
      simp [Leaves, settle, results, Tryz.results155, go_sem, cc4]
      exact ⟨w3, HP.out, HTT.out⟩
    · have HP := Lib.hid hp
      have HBX := Lib.hid hbx
      have HC := Lib.hid hc
      clear hp hbx hc
      refine leaves_cons (f := 184) (args := #[.pointer (some ⟨w.heap.size, 0, none⟩)]) (by simp) (by simp [go_sem]) ?_
      refine (triedD_no _ c _ _ HBX.out).mono ?_
      rintro e u' w'' ⟨rfl, rfl, rfl⟩
      have HB2 : Hid (Boxed (w3.setCell ⟨w.heap.size, 0, none⟩ (.int .i64 c)) w.heap.size 30 (.int .i64 c)) := show Boxed _ _ _ _ from HBX.out.set _
      have ht : Turn (fun k => k = w.heap.size) w3 (w3.setCell ⟨w.heap.size, 0, none⟩ (.int .i64 c)) := Turn.setCell _ _ rfl
      have HTT := Lib.hid ht
      obtain ⟨W4, hW4⟩ : ∃ W4, w3.setCell ⟨w.heap.size, 0, none⟩ (.int .i64 c) = W4 := ⟨_, rfl⟩
      rw [hW4] at HB2 HTT ⊢
      have cc4 := HB2.out.cell
      clear ht hW4
      simp [Leaves, settle, results, Tryz.results155, go_sem, cc4, refused]
      exact ⟨w3, HP.out, HTT.out⟩
  · cases hg
end Go.Proofs.YtgoemaecdolioaaGreatDoor

/-
  path: texts cut at their slashes; what a path is, in plain words.
-/
namespace Go.Proofs.YtgoemaecdolioaaGreatDoor
open Go.RowKit Go.Shelf Go.Sort

/-- The parts of a text between its slashes. -/
def partsP : List UInt8 → List (List UInt8)
  | [] => [[]]
  | c :: s => if c = 47 then [] :: partsP s else (c :: (partsP s).headD []) :: (partsP s).tail
/-- Names, each behind a slash. -/
def flatP (l : List (List UInt8)) : List UInt8 := (l.map (47 :: ·)).flatten
/-- The path of names. -/
def pathOf (l : List (List UInt8)) : List UInt8 := if l = [] then [47] else flatP l
theorem partsP_cons (s : List UInt8) : ∃ h t, partsP s = h :: t := by
  cases s with
  | nil => exact ⟨[], [], rfl⟩
  | cons c s =>
    unfold partsP
    split
    · exact ⟨_, _, rfl⟩
    · exact ⟨_, _, rfl⟩
theorem partsP_slash (s : List UInt8) : partsP (47 :: s) = [] :: partsP s := by simp [partsP]
theorem partsP_other (c : UInt8) (s h : List UInt8) (t : List (List UInt8)) (hc : c ≠ 47) (he : partsP s = h :: t) : partsP (c :: s) = (c :: h) :: t := by
  rw [partsP, if_neg hc, he]
  rfl
theorem partsP_app : ∀ (a s : List UInt8), partsP (a ++ 47 :: s) = partsP a ++ partsP s
  | [], s => by rw [List.nil_append, partsP_slash]; rfl
  | c :: a, s => by
    have ih := partsP_app a s
    obtain ⟨h, t, e⟩ := partsP_cons a
    by_cases hc : c = 47
    · subst hc
      rw [List.cons_append, partsP_slash, partsP_slash, ih]
      rfl
    · rw [List.cons_append, partsP_other c a h t hc e, partsP_other c (a ++ 47 :: s) h (t ++ partsP s) hc (by rw [ih, e]; rfl)]
      rfl
theorem partsP_no : ∀ (a : List UInt8), 47 ∉ a → partsP a = [a]
  | [], _ => rfl
  | c :: a, h => by
    have hc : c ≠ 47 := fun e => h (by rw [e]; exact List.mem_cons_self)
    exact partsP_other c a a [] hc (partsP_no a fun k => h (List.mem_cons_of_mem _ k))
theorem partsP_flat : ∀ (s : List UInt8), flatP (partsP s) = 47 :: s
  | [] => rfl
  | c :: s => by
    have ih := partsP_flat s
    obtain ⟨h, t, e⟩ := partsP_cons s
    rw [e] at ih
    by_cases hc : c = 47
    · subst hc
      rw [partsP_slash, e]
      unfold flatP at ih ⊢
      rw [List.map_cons, List.flatten_cons, ih]
      rfl
    · rw [partsP_other c s h t hc e]
      unfold flatP at ih ⊢
      rw [List.map_cons, List.flatten_cons] at ih ⊢
      simp only [List.cons_append, List.cons.injEq, true_and] at ih ⊢
      exact ih
theorem partsP_names : ∀ (l : List (List UInt8)) (x : List UInt8), (∀ y ∈ x :: l, (47 : UInt8) ∉ y) → partsP (x ++ flatP l) = x :: l
  | [], x, h => by
    rw [show x ++ flatP [] = x from List.append_nil x]
    exact partsP_no x (h x List.mem_cons_self)
  | y :: l, x, h => by
    have ih := partsP_names l y fun z hz => h z (List.mem_cons_of_mem _ hz)
    rw [show x ++ flatP (y :: l) = x ++ 47 :: (y ++ flatP l) from rfl, partsP_app, ih, partsP_no x (h x List.mem_cons_self)]
    rfl
theorem partsP_length (s : List UInt8) : (partsP s).length ≤ s.length + 1 := by
  induction s with
  | nil => exact Nat.le_refl _
  | cons c s ih =>
    obtain ⟨h, t, e⟩ := partsP_cons s
    by_cases hc : c = 47
    · subst hc; rw [partsP_slash, List.length_cons, List.length_cons]; omega
    · rw [partsP_other c s h t hc e, List.length_cons, List.length_cons]
      rw [e, List.length_cons] at ih
      omega
/-- What Split tells of a text: names, an error. -/
def underE (l : List (List UInt8)) : List (List UInt8) × Int := if 16 < l.length then ([], 170) else if l.all rightN then (l, 0) else ([], 160)
def splitE (s : List UInt8) : List (List UInt8) × Int :=
  if s = [47] then ([], 0) else if s.head? = some 47 ∧ [] ∉ partsP s.tail then underE (partsP s.tail) else ([], 170)
theorem rightN_noSlash {x : List UInt8} (h : rightN x = true) : (47 : UInt8) ∉ x := fun hm => by
  have := List.all_eq_true.1 ((rightN_iff x).1 h).2.2.2.2 47 hm
  exact absurd this (by decide)
theorem rightN_nonempty {x : List UInt8} (h : rightN x = true) : x ≠ [] := fun e => by
  subst e
  exact absurd h (by decide)
theorem underE_cases (l : List (List UInt8)) : (l.length ≤ 16 ∧ l.all rightN = true ∧ underE l = (l, 0)) ∨ (16 < l.length ∧ underE l = ([], 170)) ∨ (l.length ≤ 16 ∧ l.all rightN = false ∧ underE l = ([], 160)) := by
  unfold underE
  by_cases h : 16 < l.length
  · exact .inr (.inl ⟨h, if_pos h⟩)
  · rw [if_neg h]
    cases ha : l.all rightN with
    | true => exact .inl ⟨by omega, rfl, if_pos rfl⟩
    | false => exact .inr (.inr ⟨by omega, rfl, if_neg (by simp)⟩)
/-- Either a text is the path of right names, or an error is told, and no names. -/
theorem splitE_cases (s : List UInt8) : (∃ l : List (List UInt8), l.length ≤ 16 ∧ l.all rightN = true ∧ s = pathOf l ∧ splitE s = (l, 0)) ∨ splitE s = ([], 170) ∨ splitE s = ([], 160) := by
  unfold splitE
  by_cases h : s = [47]
  · rw [if_pos h]
    exact .inl ⟨[], by decide, rfl, h, rfl⟩
  · rw [if_neg h]
    by_cases h2 : s.head? = some 47 ∧ [] ∉ partsP s.tail
    · rw [if_pos h2]
      rcases underE_cases (partsP s.tail) with ⟨a, b, c⟩ | ⟨a, c⟩ | ⟨a, b, c⟩
      · refine .inl ⟨partsP s.tail, a, b, ?_, c⟩
        obtain ⟨x, t, e⟩ := partsP_cons s.tail
        unfold pathOf
        rw [if_neg (by rw [e]; exact List.cons_ne_nil _ _), partsP_flat]
        cases s with
        | nil => cases h2.1
        | cons c s => simp at h2 ⊢; exact h2.1
      · exact .inr (.inl c)
      · exact .inr (.inr c)
    · rw [if_neg h2]
      exact .inr (.inl rfl)
theorem splitE_len (s : List UInt8) : (splitE s).1.length ≤ 16 := by
  rcases splitE_cases s with ⟨l, h, -, -, e⟩ | e | e
  · rw [e]; exact h
  · rw [e]; decide
  · rw [e]; decide
theorem splitE_right (s : List UInt8) : (splitE s).1.all rightN = true := by
  rcases splitE_cases s with ⟨l, -, h, -, e⟩ | e | e
  · rw [e]; exact h
  · rw [e]; rfl
  · rw [e]; rfl
theorem splitE_back (s : List UInt8) (h : (splitE s).2 = 0) : s = pathOf (splitE s).1 := by
  rcases splitE_cases s with ⟨l, -, -, e, k⟩ | e | e
  · rw [k]; exact e
  · rw [e] at h; cases h
  · rw [e] at h; cases h
end Go.Proofs.YtgoemaecdolioaaGreatDoor

/-
  path: what strings.SplitN at one slash tells, in plain words.
-/
namespace Go.Proofs.YtgoemaecdolioaaGreatDoor
open Go.RowKit Go.Shelf Go.Sort

/-- A text ends ahead of its first slash, or there is none. -/
theorem slash_cut (s : List UInt8) : (Lib.index s [47] = -1 ∧ (47 : UInt8) ∉ s) ∨ ∃ a b : List UInt8, (47 : UInt8) ∉ a ∧ s = a ++ 47 :: b ∧ Lib.index s [47] = (a.length : Int) := by
  rw [Lib.index_one]
  induction s with
  | nil => exact .inl ⟨rfl, by simp⟩
  | cons c s ih =>
    by_cases hc : c = 47
    · subst hc
      exact .inr ⟨[], s, by simp, rfl, by simp [Lib.indexByte]⟩
    · have e : (c == 47) = false := by simpa using hc
      rcases ih with ⟨h1, h2⟩ | ⟨a, b, h1, h2, h3⟩
      · refine .inl ⟨by simp [Lib.indexByte, e, h1], ?_⟩
        intro hm
        rcases List.mem_cons.1 hm with k | k
        · exact hc k.symm
        · exact h2 k
      · refine .inr ⟨c :: a, b, ?_, by rw [h2]; rfl, ?_⟩
        · intro hm
          rcases List.mem_cons.1 hm with k | k
          · exact hc k.symm
          · exact h1 k
        · have hne : ((Lib.indexByte s 47) == -1) = false := by rw [h3]; simp
          rw [Lib.indexByte, e, if_neg (by simp), hne, if_neg (by simp), h3]
          simp
theorem splitK_parts : ∀ (k : Nat) (s : List UInt8), ((partsP s).length ≤ k + 1 ∧ Lib.splitK [47] 0 k s = partsP s) ∨ (k + 1 < (partsP s).length ∧ (Lib.splitK [47] 0 k s).length = k + 1)
  | 0, s => by
    obtain ⟨h, t, e⟩ := partsP_cons s
    by_cases ht : t = []
    · subst ht
      refine .inl ⟨by rw [e]; simp, ?_⟩
      have := partsP_flat s
      rw [e] at this
      unfold flatP at this
      simp at this
      rw [e, this]
      rfl
    · refine .inr ⟨?_, rfl⟩
      rw [e, List.length_cons]
      have := List.length_pos_iff.2 ht
      omega
  | k + 1, s => by
    rcases slash_cut s with ⟨h1, h2⟩ | ⟨a, b, h1, h2, h3⟩
    · refine .inl ⟨by rw [partsP_no s h2]; simp, ?_⟩
      rw [Lib.splitK, h1, partsP_no s h2]
      rfl
    · have hs : Lib.splitK [47] 0 (k + 1) s = a :: Lib.splitK [47] 0 k b := by
        have hne : ((Lib.index s [47]) == -1) = false := by rw [h3]; simp
        rw [Lib.splitK, hne, if_neg (by simp), h3, h2]
        simp
      have hp : partsP s = a :: partsP b := by rw [h2, partsP_app, partsP_no a h1]; rfl
      rw [hs, hp, List.length_cons, List.length_cons]
      rcases splitK_parts k b with ⟨g1, g2⟩ | ⟨g1, g2⟩
      · exact .inl ⟨by omega, by rw [g2]⟩
      · exact .inr ⟨by omega, by rw [g2]⟩
/-- How many cuts SplitN makes of at most 18 pieces. -/
def cutsP (s : List UInt8) : Nat := min 18 (s.length + 1) - 1
def piecesP (s : List UInt8) : List (List UInt8) := Lib.splitK [47] 0 (cutsP s) s
theorem piecesP_cases (s : List UInt8) : ((partsP s).length ≤ 18 ∧ piecesP s = partsP s) ∨ (18 < (partsP s).length ∧ (piecesP s).length = 18) := by
  have hl := partsP_length s
  unfold piecesP cutsP
  rcases splitK_parts (min 18 (s.length + 1) - 1) s with ⟨h1, h2⟩ | ⟨h1, h2⟩
  · exact .inl ⟨by omega, h2⟩
  · exact .inr ⟨by omega, by rw [h2]; omega⟩
theorem piecesP_len (s : List UInt8) : 1 ≤ (piecesP s).length ∧ (piecesP s).length ≤ 18 := by
  obtain ⟨h, t, e⟩ := partsP_cons s
  rcases piecesP_cases s with ⟨h1, h2⟩ | ⟨h1, h2⟩
  · rw [h2]
    exact ⟨by rw [e]; simp, h1⟩
  · omega
/-- The pieces as the library's function has them. -/
theorem pieces_data (s : List UInt8) : (Lib.splitB ⟨#[47]⟩ 0 (min 18 ((⟨s.toArray⟩ : ByteArray).size + 1) - 1) ⟨s.toArray⟩).map Value.string = (piecesP s).map encStr := by
  have hz : (⟨s.toArray⟩ : ByteArray).size = s.length := by simp [ByteArray.size]
  have h := Lib.splitB_data ⟨#[47]⟩ 0 (min 18 ((⟨s.toArray⟩ : ByteArray).size + 1) - 1) ⟨s.toArray⟩
  have e : piecesP s = Lib.splitK [47] 0 (min 18 ((⟨s.toArray⟩ : ByteArray).size + 1) - 1) s := by
    rw [hz]
    rfl
  rw [e]
  have h' : (Lib.splitB ⟨#[47]⟩ 0 (min 18 ((⟨s.toArray⟩ : ByteArray).size + 1) - 1) ⟨s.toArray⟩).map (·.data.toList) = Lib.splitK [47] 0 (min 18 ((⟨s.toArray⟩ : ByteArray).size + 1) - 1) s := h
  rw [← h', List.map_map]
  rfl
theorem pieces_count (s : List UInt8) : (Lib.splitB ⟨#[47]⟩ 0 (min 18 ((⟨s.toArray⟩ : ByteArray).size + 1) - 1) ⟨s.toArray⟩).length = (piecesP s).length := by
  have := congrArg List.length (pieces_data s)
  simpa using this
/-- What read tells of its pieces. -/
theorem read_splits (s : List UInt8) : splitE s = if s = [47] then ([], 0) else if (piecesP s).tail = [] ∨ (piecesP s)[0]?.getD [] ≠ [] ∨ [] ∈ (piecesP s).tail then ([], 170) else underE (piecesP s).tail := by
  unfold splitE
  by_cases h0 : s = [47]
  · rw [if_pos h0, if_pos h0]
  · rw [if_neg h0, if_neg h0]
    have hhead : ∀ c r, s = c :: r → c = 47 → partsP s = [] :: partsP s.tail := fun c r e ec => by subst e; subst ec; exact partsP_slash r
    have hother : s.head? ≠ some 47 → partsP s = [[]] ∨ ∃ x t, partsP s = x :: t ∧ x ≠ [] := fun h => by
      cases s with
      | nil => exact .inl rfl
      | cons c r =>
        obtain ⟨x, t, e⟩ := partsP_cons r
        exact .inr ⟨c :: x, t, partsP_other c r x t (fun ec => h (by rw [ec]; rfl)) e, List.cons_ne_nil _ _⟩
    rcases piecesP_cases s with ⟨h1, h2⟩ | ⟨h1, h2⟩
    · rw [h2]
      by_cases hh : s.head? = some 47
      · have hp : partsP s = [] :: partsP s.tail := by
          cases s with
          | nil => cases hh
          | cons c r => exact hhead c r rfl (by simpa using hh)
        obtain ⟨x, t, e⟩ := partsP_cons s.tail
        rw [hp, List.tail_cons]
        by_cases hm : [] ∈ partsP s.tail
        · rw [if_neg (fun h => h.2 hm), if_pos (.inr (.inr hm))]
        · rw [if_pos ⟨hh, hm⟩, if_neg]
          rintro (h | h | h)
          · rw [e] at h; cases h
          · exact h rfl
          · exact hm h
      · rw [if_neg (fun h => hh h.1), if_pos]
        rcases hother hh with h | ⟨x, t, h, hx⟩
        · rw [h]; exact .inl rfl
        · rw [h]; exact .inr (.inl hx)
    · have hlong : ∀ l : List (List UInt8), 16 < l.length → underE l = ([], 170) := fun l h => if_pos h
      have hr : (piecesP s).tail.length = 17 := by rw [List.length_tail, h2]
      rw [hlong (piecesP s).tail (by omega), ite_self]
      by_cases hh : s.head? = some 47
      · have hp : partsP s = [] :: partsP s.tail := by
          cases s with
          | nil => cases hh
          | cons c r => exact hhead c r rfl (by simpa using hh)
        rw [hlong (partsP s.tail) (by rw [hp, List.length_cons] at h1; omega), ite_self]
      · rw [if_neg (fun h => hh h.1)]
end Go.Proofs.YtgoemaecdolioaaGreatDoor

/-
  path: the list's methods that read; first; take, as an append to names; the closure of next.
-/
namespace Go.Proofs.YtgoemaecdolioaaGreatDoor
open Go.RowKit Go.Shelf Go.Sort

theorem lsNames_any (v : Value) (w : World) : Calls Tryz.prog 206 #[v] w fun e w' => e = .returned v ∧ w = w' := by
  go_enter Tryz.func206, Tryz.ntmps206
  go_wp2
  go_ret
  exact ⟨rfl, rfl⟩
theorem lsMany_any (v : Value) (l : List (List UInt8)) (w : World) (hv : TxS w v l) : Calls Tryz.prog 209 #[v] w fun e w' => e = .returned (.int .i64 (l.length : Nat)) ∧ w = w' := by
  obtain ⟨a, c, rfl⟩ := hv.slice
  clear hv
  go_enter Tryz.func209, Tryz.ntmps209
  go_wp2
  go_ret
  exact ⟨rfl, rfl⟩
theorem infoLs : Tryz.prog.underlying 256 = some (.slice 9) := Tryz.underlying256
end Go.Proofs.YtgoemaecdolioaaGreatDoor
