/-
  Texts TeU to TeX, as one.
-/
import Derived.Test.YtgoemaecdolioaaGreatDoorMo12
/-
  tree: Remove. Written by gen_teu.py.
-/
namespace Go.Proofs.YtgoemaecdolioaaGreatDoor
open Go.RowKit Go.Shelf
attribute [local go_sem] Oper.semAt_some

set_option maxRecDepth 100000 in
set_option maxHeartbeats 16000000 in
theorem removeClos_any {G : Gr} {V : World} {T r m bp bt : Nat} (hT : TreeG V T r G m) (hL : Links10 G) (hmx : MaxC V) (s : List UInt8) (hs : s.length ≤ 1000000) (b0 : Boxed V bp 9 (encStr s)) (b1 : Boxed V bt 52 (.pointer (some ⟨T, 0, none⟩))) :
    Calls Tryz.prog 163 #[.pointer (some ⟨bp, 0, none⟩), .pointer (some ⟨bt, 0, none⟩)] V (ClosEnd T r m G (lessQ G s (removeE G r s)) V) := by
  obtain ⟨xr, hxr, hdir⟩ := hT.root
  have c0 := b0.cell
  have HRR := Lib.hid (fun W (hW : Below V.heap.size V W) => (boxed_low b1 hW).cell)
  have HM := Lib.hid (fun b w => mustBe10_any b 200 (by decide) w)
  obtain ⟨t, ht⟩ : ∃ t, encStr s = t := ⟨_, rfl⟩
  rw [ht] at c0
  by_cases h1 : (splitE s).2 = 0
  · have hsp := split10_ok s hs V hmx h1
    rw [ht] at hsp
    have HS := Lib.hid hsp
    have hsl := splitE_len s
    have hsr := splitE_right s
    obtain ⟨names, hnm⟩ : ∃ names, (splitE s).1 = names := ⟨_, rfl⟩
    have HAT := Lib.hid (fun W v (hW : Below V.heap.size V W) (hv : TxS W v (splitE s).1) => at10_any (hT.below hW).nodes hT.leads (hT.below hW).at_ hxr (names := (splitE s).1) (by omega) (rightN_short hsr) hv)
    have hE : removeE G r s = if (splitE s).1 = [] then .error 200 else match walkN G r (splitE s).1 with
      | .error c => .error c
      | .ok c => match G c with
        | none => .error 0
        | some y => if y.isDir = false then .error 201 else if y.nm ≠ [] then .error 205 else match spotN G r (splitE s).1 with
          | .error k => .error k
          | .ok d => .ok (d, c) := if_neg (by simpa using h1)
    by_cases h0 : (splitE s).1 = []
    · have hq : lessQ G s (removeE G r s) = .error 200 := by rw [hE, if_pos h0]; rfl
      rw [hq]
      rw [hnm] at HS h0
      subst h0
      clear hT hmx hs b0 b1 hxr hdir h1 ht hsp hsl hsr hE hq hnm hL
      go_enter Tryz.func163, Tryz.ntmps163
      go_wp2_with fail
      refine HS.out.mono ?_
      rintro e w1 ⟨u, rfl, ho, hb⟩
      have HO := Lib.hid ho.txs
      have HB := Lib.hid hb
      have c1 := HRR.out w1 hb
      obtain ⟨ua, uc, -, -, hue, -⟩ := ho.txs.cell
      subst hue
      clear ho hb
      go_wp2_with fail
      refine (HM.out _ _).mono ?_
      rintro e w2 (⟨hg, ⟨u2, rfl⟩, rfl⟩ | ⟨hg, rfl, rfl⟩)
      · exfalso
        first
        | cases hg
        | (have := of_decide_eq_true hg; omega)
        | (have := of_decide_eq_false hg; omega)
      · exact ⟨rfl, (show _ ∧ _ ∧ _ from ⟨by decide, rfl, HB.out⟩)⟩
    · rw [if_neg h0] at hE
      have hl0 : (0 : Int) < ((names.length : Nat) : Int) := by have := List.length_pos_iff.2 h0; rw [hnm] at this; omega
      cases hw : walkN G r (splitE s).1 with
      | error c =>
        have hc : c ≠ 0 := by rcases walkN_err hT.leads _ _ _ _ hxr hw with rfl | rfl <;> decide
        rw [hw] at hE HAT
        have hq : lessQ G s (removeE G r s) = .error c := by rw [hE]; rfl
        rw [hq]
        have HC := Lib.hid hc
        rw [hnm] at HS HAT
        clear hT hmx hs b0 b1 hxr hdir h1 ht hsp hsl hsr hE hq hnm hL hw hc h0
        go_enter Tryz.func163, Tryz.ntmps163
        go_wp2_with fail
        refine HS.out.mono ?_
        rintro e w1 ⟨u, rfl, ho, hb⟩
        have HO := Lib.hid ho.txs
        have HB := Lib.hid hb
        have c1 := HRR.out w1 hb
        obtain ⟨ua, uc, -, -, hue, -⟩ := ho.txs.cell
        subst hue
        clear ho hb
        go_wp2_with fail
        refine (HM.out _ _).mono ?_
        rintro e w2 (⟨hg, ⟨u2, rfl⟩, rfl⟩ | ⟨hg, rfl, rfl⟩)
        · clear hg
          go_wp2_with fail
          refine (HAT.out _ _ HB.out HO.out).mono ?_
          rintro e w3 ⟨hb, rfl⟩
          exact ⟨rfl, (show _ ∧ _ ∧ _ from ⟨HC.out, rfl, HB.out.trans (hb.mono HB.out.size)⟩)⟩
        · exfalso
          first
          | cases hg
          | (have := of_decide_eq_false hg; omega)
          | (have := of_decide_eq_true hg; omega)
      | ok c =>
        obtain ⟨y, hy⟩ := walkN_leads hT.leads _ _ _ _ hxr hw
        rw [hw] at hE HAT
        simp only [hy] at hE
        have HMD := Lib.hid (fun W (hW : Below V.heap.size V W) => mustBeDir_any ((hT.below hW).nodes c y hy))
        have HME := Lib.hid (fun W (hW : Below V.heap.size V W) => mustBeEmpty_any ((hT.below hW).nodes c y hy).names)
        have HCM := Lib.hid (fun W (hW : Below V.heap.size V W) => ((hT.below hW).nodes c y hy).blk.cell (j := 0) (v := .map (some y.map)) rfl)
        by_cases hyd : y.isDir = false
        · rw [if_pos hyd] at hE
          have hq : lessQ G s (removeE G r s) = .error 201 := by rw [hE]; rfl
          rw [hq]
          rw [hnm] at HS HAT
          rw [hyd] at HMD
          clear hT hmx hs b0 b1 hxr hdir h1 ht hsp hsl hsr hE hq hnm hL hw h0 hy hyd
          go_enter Tryz.func163, Tryz.ntmps163
          go_wp2_with fail
          refine HS.out.mono ?_
          rintro e w1 ⟨u, rfl, ho, hb⟩
          have HO := Lib.hid ho.txs
          have HB := Lib.hid hb
          have c1 := HRR.out w1 hb
          obtain ⟨ua, uc, -, -, hue, -⟩ := ho.txs.cell
          subst hue
          clear ho hb
          go_wp2_with fail
          refine (HM.out _ _).mono ?_
          rintro e w2 (⟨hg, ⟨u2, rfl⟩, rfl⟩ | ⟨hg, rfl, rfl⟩)
          · clear hg
            go_wp2_with fail
            refine (HAT.out _ _ HB.out HO.out).mono ?_
            rintro e w3 ⟨hb, rfl⟩
            have HB3 := Lib.hid (HB.out.trans (hb.mono HB.out.size))
            have HO3 : Hid (TxS w3 (.slice ua names.length uc) names) := show TxS _ _ _ from HO.out.below hb
            clear hb
            go_wp2_with fail
            refine (HMD.out _ HB3.out).mono ?_
            rintro e w4 (⟨hg, ⟨u4, rfl⟩, rfl⟩ | ⟨hg, rfl, rfl⟩)
            · cases hg
            · exact ⟨rfl, (show _ ∧ _ ∧ _ from ⟨by decide, rfl, HB3.out⟩)⟩
          · exfalso
            first
            | cases hg
            | (have := of_decide_eq_false hg; omega)
            | (have := of_decide_eq_true hg; omega)
        · rw [if_neg hyd] at hE
          have hyt : y.isDir = true := by simpa using hyd
          rw [hyt] at HMD
          by_cases hye : y.nm = []
          · rw [if_neg (by simpa using hye)] at hE
            obtain ⟨d, x, hsd, hxd, hlk⟩ := walkN_last hT.leads hxr h0 hw
            rw [hsd] at hE
            have hq : lessQ G s (removeE G r s) = .ok (lessR G (lastN (splitE s).1) d c) := by rw [hE]; rfl
            rw [hq]
            have HSPT := Lib.hid (fun W v (hW : Below V.heap.size V W) (hv : TxS W v (splitE s).1) => spot10_any (hT.below hW).nodes hT.leads (hT.below hW).at_ hxr (List.length_pos_iff.2 h0) (by omega) (rightN_short hsr) hv)
            rw [hsd] at HSPT
            have HLV := Lib.hid (fun W (hW : Below V.heap.size V W) => leaves_spot hT hL hxd hy (rightN_short hsr _ (lastN_mem h0)) hlk W hW)
            rw [hnm] at HS HAT HSPT HLV ⊢
            rw [hye] at HME
            clear hT hmx hs b0 b1 hxr hdir h1 ht hsp hsl hsr hE hq hnm hL hw h0 hy hyd hyt hye hsd hxd hlk
            go_enter Tryz.func163, Tryz.ntmps163
            go_wp2_with fail
            refine HS.out.mono ?_
            rintro e w1 ⟨u, rfl, ho, hb⟩
            have HO := Lib.hid ho.txs
            have HB := Lib.hid hb
            have c1 := HRR.out w1 hb
            obtain ⟨ua, uc, -, -, hue, -⟩ := ho.txs.cell
            subst hue
            clear ho hb
            go_wp2_with fail
            refine (HM.out _ _).mono ?_
            rintro e w2 (⟨hg, ⟨u2, rfl⟩, rfl⟩ | ⟨hg, rfl, rfl⟩)
            · clear hg
              go_wp2_with fail
              refine (HAT.out _ _ HB.out HO.out).mono ?_
              rintro e w3 ⟨hb, rfl⟩
              have HB3 := Lib.hid (HB.out.trans (hb.mono HB.out.size))
              have HO3 : Hid (TxS w3 (.slice ua names.length uc) names) := show TxS _ _ _ from HO.out.below hb
              clear hb
              go_wp2_with fail
              refine (HMD.out _ HB3.out).mono ?_
              rintro e w4 (⟨hg, ⟨u4, rfl⟩, rfl⟩ | ⟨hg, rfl, rfl⟩)
              · clear hg
                have cm := HCM.out _ HB3.out
                have c3 := HRR.out _ HB3.out
                go_wp2_with fail
                refine (HME.out _ HB3.out).mono ?_
                rintro e w5 (⟨hg, ⟨u5, rfl⟩, rfl⟩ | ⟨hg, rfl, rfl⟩)
                · clear hg
                  go_wp2_with fail
                  refine (HSPT.out _ _ HB3.out HO3.out).mono ?_
                  rintro e w6 ⟨hb, rfl⟩
                  have HB6 := Lib.hid (HB3.out.trans (hb.mono HB3.out.size))
                  clear hb
                  go_wp2_with fail
                  refine (HLV.out _ HB6.out).mono ?_
                  rintro e w7 ⟨⟨u7, rfl⟩, hl⟩
                  have HL7 := Lib.hid hl
                  clear hl
                  go_wp2_with fail
                  first
                  | go_end0
                  | refine bodyPost_ret (results_none rfl _ _ _) rfl ?_
                  exact (show _ ∧ _ from ⟨⟨_, rfl⟩, HL7.out⟩)
                · cases hg
              · cases hg
            · exfalso
              first
              | cases hg
              | (have := of_decide_eq_false hg; omega)
              | (have := of_decide_eq_true hg; omega)
          · rw [if_pos hye] at hE
            have hq : lessQ G s (removeE G r s) = .error 205 := by rw [hE]; rfl
            rw [hq]
            rw [hnm] at HS HAT
            have hne : (((y.nm.length : Nat) : Int) == 0) = false := by
              have := List.length_pos_iff.2 hye
              rw [beq_eq_false_iff_ne]
              omega
            rw [hne] at HME
            clear hT hmx hs b0 b1 hxr hdir h1 ht hsp hsl hsr hE hq hnm hL hw h0 hy hyd hyt hye hne
            go_enter Tryz.func163, Tryz.ntmps163
            go_wp2_with fail
            refine HS.out.mono ?_
            rintro e w1 ⟨u, rfl, ho, hb⟩
            have HO := Lib.hid ho.txs
            have HB := Lib.hid hb
            have c1 := HRR.out w1 hb
            obtain ⟨ua, uc, -, -, hue, -⟩ := ho.txs.cell
            subst hue
            clear ho hb
            go_wp2_with fail
            refine (HM.out _ _).mono ?_
            rintro e w2 (⟨hg, ⟨u2, rfl⟩, rfl⟩ | ⟨hg, rfl, rfl⟩)
            · clear hg
              go_wp2_with fail
              refine (HAT.out _ _ HB.out HO.out).mono ?_
              rintro e w3 ⟨hb, rfl⟩
              have HB3 := Lib.hid (HB.out.trans (hb.mono HB.out.size))
              have HO3 : Hid (TxS w3 (.slice ua names.length uc) names) := show TxS _ _ _ from HO.out.below hb
              clear hb
              go_wp2_with fail
              refine (HMD.out _ HB3.out).mono ?_
              rintro e w4 (⟨hg, ⟨u4, rfl⟩, rfl⟩ | ⟨hg, rfl, rfl⟩)
              · clear hg
                have cm := HCM.out _ HB3.out
                go_wp2_with fail
                refine (HME.out _ HB3.out).mono ?_
                rintro e w5 (⟨hg, ⟨u5, rfl⟩, rfl⟩ | ⟨hg, rfl, rfl⟩)
                · cases hg
                · exact ⟨rfl, (show _ ∧ _ ∧ _ from ⟨by decide, rfl, HB3.out⟩)⟩
              · cases hg
            · exfalso
              first
              | cases hg
              | (have := of_decide_eq_false hg; omega)
              | (have := of_decide_eq_true hg; omega)
  · have hsp := split10_no s hs V hmx h1
    rw [ht] at hsp
    have HS := Lib.hid hsp
    have hq : lessQ G s (removeE G r s) = .error (splitE s).2 := by unfold removeE; rw [if_pos h1]; rfl
    rw [hq]
    have H1 := Lib.hid h1
    clear hT hmx hs b0 b1 hxr hdir h1 ht hq hsp hL
    go_enter Tryz.func163, Tryz.ntmps163
    go_wp2_with fail
    refine HS.out.mono ?_
    rintro e w1 ⟨rfl, hb⟩
    exact ⟨rfl, (show _ ∧ _ ∧ _ from ⟨H1.out, rfl, hb⟩)⟩
end Go.Proofs.YtgoemaecdolioaaGreatDoor

/-
  tree: Link.
-/
namespace Go.Proofs.YtgoemaecdolioaaGreatDoor
open Go.RowKit Go.Shelf
attribute [local go_sem] Oper.semAt_some

/-- To which node a name more leads, and where it stands. -/
def linkE (G : Gr) (r : Nat) (f s : List UInt8) : Except Int (Nat × Nat) := if (splitE f).2 ≠ 0 then .error (splitE f).2 else if (splitE s).2 ≠ 0 then .error (splitE s).2 else match walkN G r (splitE f).1 with
  | .error c => .error c
  | .ok c => match G c with
    | none => .error 0
    | some y => if y.isDir = true then .error 204 else match addE G r (splitE s).1 y with
      | .error k => .error k
      | .ok d => .ok (d, c)
def linkR (G : Gr) (s : List UInt8) (d c : Nat) : Nat → Gr → Prop := fun _ G' => ∃ x y, G d = some x ∧ G c = some y ∧ G' = addG G d x s c y
def linkQ (G : Gr) (r : Nat) (f s : List UInt8) : Except Int (Nat → Gr → Prop) := match linkE G r f s with
  | .error c => .error c
  | .ok (d, c) => .ok (linkR G (lastN (splitE s).1) d c)
theorem linkQ_lower (G : Gr) (r : Nat) (f s : List UInt8) : Lower (linkQ G r f s) := by
  unfold linkQ
  cases linkE G r f s with
  | error c => trivial
  | ok d => exact fun n n' G' hn h => h
def addQ (G : Gr) (r : Nat) (s : List UInt8) (y : TN) (n : Nat) : Except Int (Nat → Gr → Prop) := match addE G r (splitE s).1 y with
  | .error k => .error k
  | .ok d => .ok (linkR G (lastN (splitE s).1) d n)
theorem adds_node {G : Gr} {V : World} {T r m : Nat} (hT : TreeG V T r G m) (hm : m < 90000) {n : Nat} {y : TN} (hy : G n = some y) (hf : y.isDir = false) (s : List UInt8) (W : World) (hW : Below V.heap.size V W) {v : Value} (hv : TxS W v (splitE s).1) :
    Calls Tryz.prog 158 #[.pointer (some ⟨T, 0, none⟩), .pointer (some ⟨n, 0, none⟩), v] W (ClosEnd T r m G (addQ G r s y n) V) := by
  obtain ⟨xr, hxr, hdir⟩ := hT.root
  have hTW := hT.below hW
  have hsl := splitE_len s
  refine (add10_any hTW.nodes hTW.leads hTW.at_ hxr (by omega) (rightN_short (splitE_right s)) hv (hTW.nodes n y hy) (fun d x hd hdd => ?_) (fun d x hd => by have := hT.cnt d x hd; omega)).mono fun e w' h => ?_
  · have hdn : d ≠ n := fun e => by
      subst e
      rw [hy] at hd
      cases hd
      rw [hf] at hdd
      cases hdd
    exact ⟨hdn, fun e => hdn (hT.apart d n x y hd hy e)⟩
  · unfold addQ
    cases hq : addE G r (splitE s).1 y with
    | error c =>
      rw [hq] at h
      obtain ⟨h1, h2, h3⟩ := h
      exact (show _ ∧ _ ∧ _ from ⟨h1, h2, hW.trans (h3.mono hW.size)⟩)
    | ok d =>
      rw [hq] at h
      obtain ⟨x, h1, h2, h3, h4, h5⟩ := h
      have hdn : d ≠ n := fun e => by
        subst e
        rw [hy] at h1
        cases h1
        have hz : ∃ x, G d = some x ∧ x.isDir = true := by
          have he := hq
          unfold addE at he
          split at he
          · cases he
          · cases hsp : spotN G r (splitE s).1 with
            | error k => rw [hsp] at he; cases he
            | ok d2 =>
              obtain ⟨x2, hx2, hd2, -⟩ := spotN_some hsp
              rw [hsp] at he
              simp only [hx2] at he
              split at he
              · cases he
              · split at he
                · cases he
                  exact ⟨x2, hx2, hd2⟩
                · cases he
        obtain ⟨x2, g1, g2⟩ := hz
        rw [hy] at g1
        cases g1
        rw [hf] at g2
        cases g2
      have hyc := hT.cnt n y hy
      obtain ⟨f1, f2⟩ := hTW.added h1 h3 h4 (.inl hy) hdn (by omega) (h5.mono fun j hj => by
        rcases hj with hj | hj
        · exact .inl hj
        · exact .inr (.inl hj))
      exact (show _ ∧ _ from ⟨h2, _, f1, (Turn.of_below hW (Nat.le_refl _)).trans (f2.mono fun j hj => by
        rcases hj with hj | hj
        · exact .inl hj
        · exact .inr (Nat.le_trans hW.size hj)), x, y, h1, hy, rfl⟩)
end Go.Proofs.YtgoemaecdolioaaGreatDoor

/-
  tree: Link, what is done. Written by gen_tev2.py.
-/
namespace Go.Proofs.YtgoemaecdolioaaGreatDoor
open Go.RowKit Go.Shelf
attribute [local go_sem] Oper.semAt_some

set_option maxRecDepth 100000 in
set_option maxHeartbeats 16000000 in
theorem linkClos_any {G : Gr} {V : World} {T r m bf bp bt : Nat} (hT : TreeG V T r G m) (hm : m < 90000) (hmx : MaxC V) (f s : List UInt8) (hf : f.length ≤ 1000000) (hs : s.length ≤ 1000000) (b2 : Boxed V bf 9 (encStr f)) (b0 : Boxed V bp 9 (encStr s)) (b1 : Boxed V bt 52 (.pointer (some ⟨T, 0, none⟩))) :
    Calls Tryz.prog 168 #[.pointer (some ⟨bf, 0, none⟩), .pointer (some ⟨bp, 0, none⟩), .pointer (some ⟨bt, 0, none⟩)] V (ClosEnd T r m G (linkQ G r f s) V) := by
  obtain ⟨xr, hxr, hdir⟩ := hT.root
  have HRR := Lib.hid (fun W (hW : Below V.heap.size V W) => (boxed_low b1 hW).cell)
  obtain ⟨tf, htf⟩ : ∃ t, encStr f = t := ⟨_, rfl⟩
  obtain ⟨t, ht⟩ : ∃ t, encStr s = t := ⟨_, rfl⟩
  rw [htf] at b2
  rw [ht] at b0
  have HR0 : Hid (∀ W, Below V.heap.size V W → (fun W : World => W.cell? ⟨bf, 0, none⟩ = some tf ∧ W.cell? ⟨bp, 0, none⟩ = some t ∧ Below V.heap.size V W) W) := show ∀ W, _ from fun W hW => ⟨(boxed_low b2 hW).cell, (boxed_low b0 hW).cell, hW⟩
  by_cases h1 : (splitE f).2 = 0
  · have HS1 := Lib.hid (fun W (hW : Below V.heap.size V W) => split10_ok f hf W (hmx.below hW hmx.room) h1)
    rw [htf] at HS1
    by_cases h2 : (splitE s).2 = 0
    · have HS2 := Lib.hid (fun W (hW : Below V.heap.size V W) => split10_ok s hs W (hmx.below hW hmx.room) h2)
      rw [ht] at HS2
      have hsl := splitE_len f
      have hsr := splitE_right f
      obtain ⟨names1, hnm1⟩ : ∃ names, (splitE f).1 = names := ⟨_, rfl⟩
      have HAT := Lib.hid (fun W v (hW : Below V.heap.size V W) (hv : TxS W v (splitE f).1) => at10_any (hT.below hW).nodes hT.leads (hT.below hW).at_ hxr (names := (splitE f).1) (by omega) (rightN_short hsr) hv)
      have hE : linkE G r f s = match walkN G r (splitE f).1 with
        | .error c => .error c
        | .ok c => match G c with
          | none => .error 0
          | some y => if y.isDir = true then .error 204 else match addE G r (splitE s).1 y with
            | .error k => .error k
            | .ok d => .ok (d, c) := (if_neg (by simpa using h1)).trans (if_neg (by simpa using h2))
      cases hw : walkN G r (splitE f).1 with
      | error c =>
        have hc : c ≠ 0 := by rcases walkN_err hT.leads _ _ _ _ hxr hw with rfl | rfl <;> decide
        rw [hw] at hE HAT
        have hq : linkQ G r f s = .error c := by unfold linkQ; rw [hE]
        rw [hq]
        have HC := Lib.hid hc
        rw [hnm1] at HS1 HAT
        clear hT hm hmx hf hs b0 b1 b2 hxr hdir h1 ht htf hq hw hc hsl hsr hE h2 hnm1
        go_enter Tryz.func168, Tryz.ntmps168
        go_wp2_with fail
        have hR := HR0.out _ (Below.refl _ V).drew
        refine wp_region_M 5 (fun W : World => W.cell? ⟨bf, 0, none⟩ = some tf ∧ W.cell? ⟨bp, 0, none⟩ = some t ∧ Below V.heap.size V W) (by kernel_rfl) ?_
        (refine wpAnyM_take2 8 (i := 0) (v := ?_) rfl (by kernel_rfl) (by kernel_rfl) (fun _ _ _ h => h) (Or.inl ⟨by rfl, ?_⟩) hR ?_; rotate_left; (focus (intro w hSw; (try dsimp only at hSw); go_simp; (try with_reducible rfl))); (try simp only [put_laws])); (refine wpAnyM_take2 8 (i := 2) (v := ?_) rfl (by kernel_rfl) (by kernel_rfl) (fun _ _ _ h => h) (Or.inl ⟨by rfl, ?_⟩) hR ?_; rotate_left; (focus (intro w hSw; (try dsimp only at hSw); go_simp; (try with_reducible rfl))); (try simp only [put_laws]))
        (refine wpAnyM_one (i := 1) rfl (by kernel_rfl) (fun K hK => ?_); rw [if_pos (by rfl)]; (try simp only [elem_laws]))
        go_simp
        refine (HS1.out _ hR.2.2).mono ?_
        rintro e w1 ⟨u, rfl, ho1, hb⟩
        have hR' := HR0.out _ (hR.2.2.trans (hb.mono hR.2.2.size))
        refine hK _ _ (fun _ => hR') ?_
        clear hK K hR hb
        have hR := hR'
        clear hR'
        (try simp only [put_laws])
        (refine wpAnyM_one (i := 3) rfl (by kernel_rfl) (fun K hK => ?_); rw [if_pos (by rfl)]; (try simp only [elem_laws]))
        go_simp
        refine (HS2.out _ hR.2.2).mono ?_
        rintro e w2 ⟨u2, rfl, ho2, hb⟩
        have HO1 : Hid (TxS w2 u names1) := show TxS _ _ _ from ho1.txs.below hb
        have HO2 := Lib.hid ho2.txs
        have hR' := HR0.out _ (hR.2.2.trans (hb.mono hR.2.2.size))
        refine hK _ _ (fun _ => hR') ?_
        clear hK K hR hb ho1 ho2
        have hR := hR'
        clear hR'
        (try simp only [put_laws])
        (refine wpAnyM_take2 8 (i := 4) (v := ?_) rfl (by kernel_rfl) (by kernel_rfl) (fun _ _ _ h => h) (Or.inl ⟨by rfl, ?_⟩) hR ?_; rotate_left; (focus (intro w hSw; (try dsimp only at hSw); go_simp; (try with_reducible rfl))); (try simp only [put_laws]))
        (refine wpAnyM_last rfl (by kernel_rfl) (fun K hK => ?_); rw [if_pos (by rfl)]; (try simp only [elem_laws]))
        go_simp
        have HB2 := Lib.hid hR.2.2
        refine hK _ _ ?_
        clear hK K hR
        (try simp only [put_laws])
        refine wpAnyM_done (by kernel_rfl) ?_ _
        have c1 := HRR.out _ HB2.out
        go_wp2_with fail
        refine (HAT.out _ _ HB2.out HO1.out).mono ?_
        rintro e w3 ⟨hb, rfl⟩
        exact ⟨rfl, (show _ ∧ _ ∧ _ from ⟨HC.out, rfl, HB2.out.trans (hb.mono HB2.out.size)⟩)⟩
      | ok c =>
        obtain ⟨y, hy⟩ := walkN_leads hT.leads _ _ _ _ hxr hw
        rw [hw] at hE HAT
        simp only [hy] at hE
        have HMF := Lib.hid (fun W (hW : Below V.heap.size V W) => mustBeFile_any ((hT.below hW).nodes c y hy))
        by_cases hyd : y.isDir = true
        · rw [if_pos hyd] at hE
          have hq : linkQ G r f s = .error 204 := by unfold linkQ; rw [hE]
          rw [hq]
          rw [hyd] at HMF
          rw [hnm1] at HS1 HAT
          clear hT hm hmx hf hs b0 b1 b2 hxr hdir h1 ht htf hq hw hsl hsr hE hy hyd h2 hnm1
          go_enter Tryz.func168, Tryz.ntmps168
          go_wp2_with fail
          have hR := HR0.out _ (Below.refl _ V).drew
          refine wp_region_M 5 (fun W : World => W.cell? ⟨bf, 0, none⟩ = some tf ∧ W.cell? ⟨bp, 0, none⟩ = some t ∧ Below V.heap.size V W) (by kernel_rfl) ?_
          (refine wpAnyM_take2 8 (i := 0) (v := ?_) rfl (by kernel_rfl) (by kernel_rfl) (fun _ _ _ h => h) (Or.inl ⟨by rfl, ?_⟩) hR ?_; rotate_left; (focus (intro w hSw; (try dsimp only at hSw); go_simp; (try with_reducible rfl))); (try simp only [put_laws])); (refine wpAnyM_take2 8 (i := 2) (v := ?_) rfl (by kernel_rfl) (by kernel_rfl) (fun _ _ _ h => h) (Or.inl ⟨by rfl, ?_⟩) hR ?_; rotate_left; (focus (intro w hSw; (try dsimp only at hSw); go_simp; (try with_reducible rfl))); (try simp only [put_laws]))
          (refine wpAnyM_one (i := 1) rfl (by kernel_rfl) (fun K hK => ?_); rw [if_pos (by rfl)]; (try simp only [elem_laws]))
          go_simp
          refine (HS1.out _ hR.2.2).mono ?_
          rintro e w1 ⟨u, rfl, ho1, hb⟩
          have hR' := HR0.out _ (hR.2.2.trans (hb.mono hR.2.2.size))
          refine hK _ _ (fun _ => hR') ?_
          clear hK K hR hb
          have hR := hR'
          clear hR'
          (try simp only [put_laws])
          (refine wpAnyM_one (i := 3) rfl (by kernel_rfl) (fun K hK => ?_); rw [if_pos (by rfl)]; (try simp only [elem_laws]))
          go_simp
          refine (HS2.out _ hR.2.2).mono ?_
          rintro e w2 ⟨u2, rfl, ho2, hb⟩
          have HO1 : Hid (TxS w2 u names1) := show TxS _ _ _ from ho1.txs.below hb
          have HO2 := Lib.hid ho2.txs
          have hR' := HR0.out _ (hR.2.2.trans (hb.mono hR.2.2.size))
          refine hK _ _ (fun _ => hR') ?_
          clear hK K hR hb ho1 ho2
          have hR := hR'
          clear hR'
          (try simp only [put_laws])
          (refine wpAnyM_take2 8 (i := 4) (v := ?_) rfl (by kernel_rfl) (by kernel_rfl) (fun _ _ _ h => h) (Or.inl ⟨by rfl, ?_⟩) hR ?_; rotate_left; (focus (intro w hSw; (try dsimp only at hSw); go_simp; (try with_reducible rfl))); (try simp only [put_laws]))
          (refine wpAnyM_last rfl (by kernel_rfl) (fun K hK => ?_); rw [if_pos (by rfl)]; (try simp only [elem_laws]))
          go_simp
          have HB2 := Lib.hid hR.2.2
          refine hK _ _ ?_
          clear hK K hR
          (try simp only [put_laws])
          refine wpAnyM_done (by kernel_rfl) ?_ _
          have c1 := HRR.out _ HB2.out
          go_wp2_with fail
          refine (HAT.out _ _ HB2.out HO1.out).mono ?_
          rintro e w3 ⟨hb, rfl⟩
          have HB3 := Lib.hid (HB2.out.trans (hb.mono HB2.out.size))
          have HO3 : Hid (TxS w3 u2 (splitE s).1) := show TxS _ _ _ from HO2.out.below hb
          clear hb
          go_wp2_with fail
          refine (HMF.out _ HB3.out).mono ?_
          rintro e w4 (⟨hg, ⟨u4, rfl⟩, rfl⟩ | ⟨hg, rfl, rfl⟩)
          · cases hg
          · exact ⟨rfl, (show _ ∧ _ ∧ _ from ⟨by decide, rfl, HB3.out⟩)⟩
        · rw [if_neg hyd] at hE
          have hyf : y.isDir = false := by simpa using hyd
          have HAD := Lib.hid (fun W v (hW : Below V.heap.size V W) (hv : TxS W v (splitE s).1) => adds_node hT hm hy hyf s W hW hv)
          have hq : linkQ G r f s = addQ G r s y c := by
            unfold linkQ addQ
            rw [hE]
            cases addE G r (splitE s).1 y <;> rfl
          rw [← hq] at HAD
          obtain ⟨q, hq2⟩ : ∃ q, linkQ G r f s = q := ⟨_, rfl⟩
          rw [hq2] at HAD ⊢
          rw [hyf] at HMF
          rw [hnm1] at HS1 HAT
          clear hT hm hmx hf hs b0 b1 b2 hxr hdir h1 ht htf hq hw hsl hsr hE hy hyd hyf hq2 h2 hnm1
          go_enter Tryz.func168, Tryz.ntmps168
          go_wp2_with fail
          have hR := HR0.out _ (Below.refl _ V).drew
          refine wp_region_M 5 (fun W : World => W.cell? ⟨bf, 0, none⟩ = some tf ∧ W.cell? ⟨bp, 0, none⟩ = some t ∧ Below V.heap.size V W) (by kernel_rfl) ?_
          (refine wpAnyM_take2 8 (i := 0) (v := ?_) rfl (by kernel_rfl) (by kernel_rfl) (fun _ _ _ h => h) (Or.inl ⟨by rfl, ?_⟩) hR ?_; rotate_left; (focus (intro w hSw; (try dsimp only at hSw); go_simp; (try with_reducible rfl))); (try simp only [put_laws])); (refine wpAnyM_take2 8 (i := 2) (v := ?_) rfl (by kernel_rfl) (by kernel_rfl) (fun _ _ _ h => h) (Or.inl ⟨by rfl, ?_⟩) hR ?_; rotate_left; (focus (intro w hSw; (try dsimp only at hSw); go_simp; (try with_reducible rfl))); (try simp only [put_laws]))
          (refine wpAnyM_one (i := 1) rfl (by kernel_rfl) (fun K hK => ?_); rw [if_pos (by rfl)]; (try simp only [elem_laws]))
          go_simp
          refine (HS1.out _ hR.2.2).mono ?_
          rintro e w1 ⟨u, rfl, ho1, hb⟩
          have hR' := HR0.out _ (hR.2.2.trans (hb.mono hR.2.2.size))
          refine hK _ _ (fun _ => hR') ?_
          clear hK K hR hb
          have hR := hR'
          clear hR'
          (try simp only [put_laws])
          (refine wpAnyM_one (i := 3) rfl (by kernel_rfl) (fun K hK => ?_); rw [if_pos (by rfl)]; (try simp only [elem_laws]))
          go_simp
          refine (HS2.out _ hR.2.2).mono ?_
          rintro e w2 ⟨u2, rfl, ho2, hb⟩
          have HO1 : Hid (TxS w2 u names1) := show TxS _ _ _ from ho1.txs.below hb
          have HO2 := Lib.hid ho2.txs
          have hR' := HR0.out _ (hR.2.2.trans (hb.mono hR.2.2.size))
          refine hK _ _ (fun _ => hR') ?_
          clear hK K hR hb ho1 ho2
          have hR := hR'
          clear hR'
          (try simp only [put_laws])
          (refine wpAnyM_take2 8 (i := 4) (v := ?_) rfl (by kernel_rfl) (by kernel_rfl) (fun _ _ _ h => h) (Or.inl ⟨by rfl, ?_⟩) hR ?_; rotate_left; (focus (intro w hSw; (try dsimp only at hSw); go_simp; (try with_reducible rfl))); (try simp only [put_laws]))
          (refine wpAnyM_last rfl (by kernel_rfl) (fun K hK => ?_); rw [if_pos (by rfl)]; (try simp only [elem_laws]))
          go_simp
          have HB2 := Lib.hid hR.2.2
          refine hK _ _ ?_
          clear hK K hR
          (try simp only [put_laws])
          refine wpAnyM_done (by kernel_rfl) ?_ _
          have c1 := HRR.out _ HB2.out
          go_wp2_with fail
          refine (HAT.out _ _ HB2.out HO1.out).mono ?_
          rintro e w3 ⟨hb, rfl⟩
          have HB3 := Lib.hid (HB2.out.trans (hb.mono HB2.out.size))
          have HO3 : Hid (TxS w3 u2 (splitE s).1) := show TxS _ _ _ from HO2.out.below hb
          clear hb
          go_wp2_with fail
          refine (HMF.out _ HB3.out).mono ?_
          rintro e w4 (⟨hg, ⟨u4, rfl⟩, rfl⟩ | ⟨hg, rfl, rfl⟩)
          · clear hg
            have c3 := HRR.out _ HB3.out
            go_wp2_with fail
            refine (HAD.out _ _ HB3.out HO3.out).mono ?_
            cases q with
            | error k =>
              rintro e w5 ⟨hc, rfl, hb⟩
              exact ⟨rfl, (show _ ∧ _ ∧ _ from ⟨hc, rfl, hb⟩)⟩
            | ok Rl =>
              rintro e w5 ⟨⟨u5, rfl⟩, hl⟩
              have HL := Lib.hid hl
              clear hl
              go_wp2_with fail
              first
              | go_end0
              | refine bodyPost_ret (results_none rfl _ _ _) rfl ?_
              exact (show _ ∧ _ from ⟨⟨_, rfl⟩, HL.out⟩)
          · cases hg
    · have HS2 := Lib.hid (fun W (hW : Below V.heap.size V W) => split10_no s hs W (hmx.below hW hmx.room) h2)
      rw [ht] at HS2
      have hq : linkQ G r f s = .error (splitE s).2 := by unfold linkQ linkE; rw [if_neg (by simpa using h1), if_pos h2]
      rw [hq]
      have H2 := Lib.hid h2
      clear hT hm hmx hf hs b0 b1 b2 hxr hdir h1 ht htf hq h2
      go_enter Tryz.func168, Tryz.ntmps168
      go_wp2_with fail
      have hR := HR0.out _ (Below.refl _ V).drew
      refine wp_region_M 5 (fun W : World => W.cell? ⟨bf, 0, none⟩ = some tf ∧ W.cell? ⟨bp, 0, none⟩ = some t ∧ Below V.heap.size V W) (by kernel_rfl) ?_
      (refine wpAnyM_take2 8 (i := 0) (v := ?_) rfl (by kernel_rfl) (by kernel_rfl) (fun _ _ _ h => h) (Or.inl ⟨by rfl, ?_⟩) hR ?_; rotate_left; (focus (intro w hSw; (try dsimp only at hSw); go_simp; (try with_reducible rfl))); (try simp only [put_laws])); (refine wpAnyM_take2 8 (i := 2) (v := ?_) rfl (by kernel_rfl) (by kernel_rfl) (fun _ _ _ h => h) (Or.inl ⟨by rfl, ?_⟩) hR ?_; rotate_left; (focus (intro w hSw; (try dsimp only at hSw); go_simp; (try with_reducible rfl))); (try simp only [put_laws]))
      (refine wpAnyM_one (i := 1) rfl (by kernel_rfl) (fun K hK => ?_); rw [if_pos (by rfl)]; (try simp only [elem_laws]))
      go_simp
      refine (HS1.out _ hR.2.2).mono ?_
      rintro e w1 ⟨u, rfl, ho1, hb⟩
      have hR' := HR0.out _ (hR.2.2.trans (hb.mono hR.2.2.size))
      refine hK _ _ (fun _ => hR') ?_
      clear hK K hR hb
      have hR := hR'
      clear hR'
      (try simp only [put_laws])
      (refine wpAnyM_one (i := 3) rfl (by kernel_rfl) (fun K hK => ?_); rw [if_pos (by rfl)]; (try simp only [elem_laws]))
      go_simp
      refine (HS2.out _ hR.2.2).mono ?_
      rintro e w2 ⟨rfl, hb⟩
      exact ⟨rfl, (show _ ∧ _ ∧ _ from ⟨H2.out, rfl, hR.2.2.trans (hb.mono hR.2.2.size)⟩)⟩
  · have HS1 := Lib.hid (fun W (hW : Below V.heap.size V W) => split10_no f hf W (hmx.below hW hmx.room) h1)
    rw [htf] at HS1
    have hq : linkQ G r f s = .error (splitE f).2 := by unfold linkQ linkE; rw [if_pos h1]
    rw [hq]
    have H1 := Lib.hid h1
    clear hT hm hmx hf hs b0 b1 b2 hxr hdir h1 ht htf hq
    go_enter Tryz.func168, Tryz.ntmps168
    go_wp2_with fail
    have hR := HR0.out _ (Below.refl _ V).drew
    refine wp_region_M 5 (fun W : World => W.cell? ⟨bf, 0, none⟩ = some tf ∧ W.cell? ⟨bp, 0, none⟩ = some t ∧ Below V.heap.size V W) (by kernel_rfl) ?_
    (refine wpAnyM_take2 8 (i := 0) (v := ?_) rfl (by kernel_rfl) (by kernel_rfl) (fun _ _ _ h => h) (Or.inl ⟨by rfl, ?_⟩) hR ?_; rotate_left; (focus (intro w hSw; (try dsimp only at hSw); go_simp; (try with_reducible rfl))); (try simp only [put_laws])); (refine wpAnyM_take2 8 (i := 2) (v := ?_) rfl (by kernel_rfl) (by kernel_rfl) (fun _ _ _ h => h) (Or.inl ⟨by rfl, ?_⟩) hR ?_; rotate_left; (focus (intro w hSw; (try dsimp only at hSw); go_simp; (try with_reducible rfl))); (try simp only [put_laws]))
    (refine wpAnyM_one (i := 1) rfl (by kernel_rfl) (fun K hK => ?_); rw [if_pos (by rfl)]; (try simp only [elem_laws]))
    go_simp
    refine (HS1.out _ hR.2.2).mono ?_
    rintro e w1 ⟨rfl, hb⟩
    exact ⟨rfl, (show _ ∧ _ ∧ _ from ⟨H1.out, rfl, hR.2.2.trans (hb.mono hR.2.2.size)⟩)⟩
end Go.Proofs.YtgoemaecdolioaaGreatDoor

/-
  tree: New; what Kind and Links ask.
-/
namespace Go.Proofs.YtgoemaecdolioaaGreatDoor
open Go.RowKit Go.Shelf
attribute [local go_sem] Oper.semAt_some

/-- A root alone. -/
def rootG (b m : Nat) : Gr := fun j => if j = b then some { newN 2 m with links := 1 } else none
set_option maxRecDepth 100000 in
theorem new10_any (w : World) : Calls Tryz.prog 35 #[] w fun e w' => ∃ T r mm, e = .returned (.pointer (some ⟨T, 0, none⟩)) ∧ TreeG w' T r (rootG r mm) 0 ∧ w.heap.size ≤ T ∧ w.heap.size ≤ r ∧ w.heap.size ≤ mm ∧ Below w.heap.size w w' := by
  have HMD := Lib.hid (made10_ok 2 (.inr rfl) w)
  go_enter Tryz.func35, Tryz.ntmps35
  go_wp2_with fail
  refine HMD.out.mono ?_
  rintro e w1 ⟨rfl, hn, hz, hb⟩
  have HN := Lib.hid hn
  have HB := Lib.hid hb
  have HZ := Lib.hid hz
  have cl : w1.cell? ⟨w.heap.size + 1, 2, none⟩ = some (.int .i64 0) := hn.blk.cell rfl
  have fl := hn.blk.frozen 2
  clear hn hb hz
  go_wp2_with fail
  have ht : Turn (fun k => k = w.heap.size + 1) w1 (w1.setCell ⟨w.heap.size + 1, 2, none⟩ (.int .i64 1)) := Turn.setCell _ _ rfl
  have hno : ∀ k, (fun k => k = w.heap.size + 1) k → k < w1.heap.size → NoU8 w1 k := fun k hk _ => by
    subst hk
    exact HN.out.noU8
  have hn2 : NodeAt (w1.setCell ⟨w.heap.size + 1, 2, none⟩ (.int .i64 1)) (w.heap.size + 1) { newN 2 w.heap.size with links := 1 } := ⟨HN.out.blk.set 2 (.int .i64 1), HN.out.names.turn ht (by show ¬ w.heap.size = _; omega), HN.out.fb.turn8 ht hno⟩
  have hb2 : Below w.heap.size w (w1.setCell ⟨w.heap.size + 1, 2, none⟩ (.int .i64 1)) := HB.out.setCell (p := ⟨w.heap.size + 1, 2, none⟩) (by show w.heap.size ≤ w.heap.size + 1; omega) _
  obtain ⟨W2, hW2⟩ : ∃ W2, w1.setCell ⟨w.heap.size + 1, 2, none⟩ (.int .i64 1) = W2 := ⟨_, rfl⟩
  rw [hW2] at hn2 hb2 ⊢
  have hz2 : W2.heap.size = w.heap.size + 2 := by rw [← hW2, ← HZ.out]; simp
  have hs12 : W2.heap.size = w1.heap.size := by rw [← hW2]; simp
  have HF : Hid (TreeG (W2.alloc (.cells #[.pointer (some ⟨w.heap.size + 1, 0, none⟩)] 110)) w1.heap.size (w.heap.size + 1) (rootG (w.heap.size + 1) w.heap.size) 0) := show TreeG _ _ _ _ _ from by
    rw [← hs12]
    have hba : Below W2.heap.size W2 (W2.alloc (.cells #[.pointer (some ⟨w.heap.size + 1, 0, none⟩)] 110)) := (Below.refl _ _).alloc (Nat.le_refl _) _
    have key : ∀ b x, rootG (w.heap.size + 1) w.heap.size b = some x → b = w.heap.size + 1 ∧ x = { newN 2 w.heap.size with links := 1 } := fun b x h => by
      unfold rootG at h
      split at h
      · rename_i e
        exact ⟨e, (Option.some.inj h).symm⟩
      · cases h
    refine ⟨Boxed.new _ _ _, fun b x hx => ?_, fun b x s c hx hc => ?_, fun b c x y hx hy _ => ?_, ⟨_, if_pos rfl, rfl⟩, fun b x hx => ?_⟩
    · obtain ⟨rfl, rfl⟩ := key b x hx
      exact hn2.below hba
    · obtain ⟨rfl, rfl⟩ := key b x hx
      cases hc
    · rw [(key b x hx).1, (key c y hy).1]
    · obtain ⟨rfl, rfl⟩ := key b x hx
      exact Nat.le_refl _
  have HB3 : Hid (Below w.heap.size w (W2.alloc (.cells #[.pointer (some ⟨w.heap.size + 1, 0, none⟩)] 110)) ∧ w.heap.size ≤ w1.heap.size) := show _ ∧ _ from ⟨hb2.alloc hb2.size _, by rw [← hs12]; exact hb2.size⟩
  clear ht hno hn2 hb2 hW2 hz2 hs12 cl fl
  go_wp2_with fail
  go_ret
  exact ⟨_, w.heap.size + 1, w.heap.size, rfl, HF.out, HB3.out.2, by omega, by omega, HB3.out.1⟩
theorem askLinks_any {W : World} {b : Nat} {x : TN} (h : NodeAt W b x) : Calls Tryz.prog 145 #[.pointer (some ⟨b, 0, none⟩)] W fun e w' => e = .returned (.int .i64 (x.links : Nat)) ∧ w' = W := by
  have c1 : W.cell? ⟨b, 2, none⟩ = some (.int .i64 (x.links : Nat)) := h.blk.cell rfl
  clear h
  go_enter Tryz.func145, Tryz.ntmps145
  go_wp2
  go_ret
  exact ⟨rfl, rfl⟩
theorem askKind_any {W : World} {b : Nat} {x : TN} (h : NodeAt W b x) : Calls Tryz.prog 136 #[.pointer (some ⟨b, 0, none⟩)] W fun e w' => e = .returned (.int .i64 x.kind) ∧ w' = W := by
  have c1 : W.cell? ⟨b, 1, none⟩ = some (.int .i64 x.kind) := h.blk.cell rfl
  clear h
  go_enter Tryz.func136, Tryz.ntmps136
  go_wp2
  go_ret
  exact ⟨rfl, rfl⟩
end Go.Proofs.YtgoemaecdolioaaGreatDoor
