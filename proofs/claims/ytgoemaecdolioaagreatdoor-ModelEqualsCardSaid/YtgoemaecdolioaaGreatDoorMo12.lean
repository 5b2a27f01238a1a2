/-
  Texts TeR to TeT, as one.
-/
import Derived.Test.YtgoemaecdolioaaGreatDoorMo11
/-
  tree: nodes that change; Put.
-/
namespace Go.Proofs.YtgoemaecdolioaaGreatDoor
open Go.RowKit Go.Shelf
attribute [local go_sem] Oper.semAt_some

theorem TreeG.changed {V w1 : World} {T r m m' : Nat} {G : Gr} (h : TreeG V T r G m) {G' : Gr} {q : Nat → Prop} (ht : Turn q V w1) (hqf : ∀ j, q j → Foot G j)
    (hN : ∀ b y', G' b = some y' → NodeAt w1 b y' ∨ (G b = some y' ∧ ¬ q b ∧ ¬ q y'.map))
    (hmap : ∀ b y', G' b = some y' → ∃ y, G b = some y ∧ y'.map = y.map ∧ y'.cnt ≤ m')
    (hsome : ∀ b y, G b = some y → ∃ y', G' b = some y' ∧ y'.isDir = y.isDir)
    (hlead : ∀ b y' s c, G' b = some y' → lookNm y'.nm s = some c → ∃ y, G c = some y) :
    TreeG w1 T r G' m' ∧ Turn (fun j => Foot G j ∨ V.heap.size ≤ j) V w1 := by
  have hno : ∀ j, q j → j < V.heap.size → NoU8 V j := fun j hj _ => Foot.noU8 h.nodes (hqf j hj)
  refine ⟨⟨(ht.block T h.at_.lt fun e => h.not_foot (hqf T e)).trans h.at_, fun b y' hy => ?_, fun b y' s c hy hc => ?_, fun b c y y' hy hy' he => ?_, ?_, fun b y' hy => ?_⟩, ht.mono fun j hj => .inl (hqf j hj)⟩
  · rcases hN b y' hy with hn | ⟨h1, h2, h3⟩
    · exact hn
    · exact (h.nodes b y' h1).turn ht hno h2 h3
  · obtain ⟨y, hy⟩ := hlead b y' s c hy hc
    obtain ⟨y2, hy2, -⟩ := hsome c y hy
    exact ⟨y2, hy2⟩
  · obtain ⟨z, hz, e1, -⟩ := hmap b y hy
    obtain ⟨z', hz', e2, -⟩ := hmap c y' hy'
    exact h.apart b c z z' hz hz' (by rw [← e1, ← e2]; exact he)
  · obtain ⟨xr, hr, hd⟩ := h.root
    obtain ⟨y', hy', e⟩ := hsome r xr hr
    exact ⟨y', hy', by rw [e]; exact hd⟩
  · obtain ⟨-, -, -, hc⟩ := hmap b y' hy
    exact hc
theorem TreeG.filled {V w1 : World} {T r m b : Nat} {G : Gr} {x : TN} (h : TreeG V T r G m) (hx : G b = some x) {v : Value} {ds : List Nat} (hb : NodeAt w1 b { x with cont := v, bytes := ds }) (ht : Turn (fun j => j = b ∨ V.heap.size ≤ j) V w1) :
    TreeG w1 T r (setG G b { x with cont := v, bytes := ds }) (m + 1) ∧ Turn (fun j => Foot G j ∨ V.heap.size ≤ j) V w1 := by
  have ht2 : Turn (fun j => j = b) V w1 := ⟨ht.os, ht.tape, ht.output, ht.size, fun k hk hn => ht.block k hk (by rintro (e | e); exact hn e; omega)⟩
  refine h.changed ht2 (fun j hj => ⟨b, x, hx, .inl hj⟩) (fun c y' hy => ?_) (fun c y' hy => ?_) (fun c y hy => ?_) (fun c y' s k hy hk => ?_)
  · by_cases e : c = b
    · subst e
      rw [setG_same] at hy
      cases hy
      exact .inl hb
    · rw [setG_other _ _ e] at hy
      exact .inr ⟨hy, e, fun e2 => (h.nodes b x hx).ne_map (h.nodes c y' hy) e2.symm⟩
  · by_cases e : c = b
    · subst e
      rw [setG_same] at hy
      cases hy
      exact ⟨x, hx, rfl, by have := h.cnt c x hx; show x.cnt ≤ m + 1; omega⟩
    · rw [setG_other _ _ e] at hy
      exact ⟨y', hy, rfl, by have := h.cnt c y' hy; omega⟩
  · by_cases e : c = b
    · subst e
      rw [hx] at hy
      cases hy
      exact ⟨_, setG_same _ _ _, rfl⟩
    · exact ⟨y, (setG_other _ _ e).trans hy, rfl⟩
  · by_cases e : c = b
    · subst e
      rw [setG_same] at hy
      cases hy
      exact h.leads c x s k hx hk
    · rw [setG_other _ _ e] at hy
      exact h.leads c y' s k hy hk
/-- A name less: at d, to c. -/
def lessG (G : Gr) (d : Nat) (x : TN) (s : List UInt8) (c : Nat) (y : TN) : Gr := setG (setG G d { x with nm := delNm x.nm s }) c { y with links := y.links - 1 }
theorem TreeG.left0 {V w1 : World} {T r m d c : Nat} {G : Gr} {x y : TN} {s : List UInt8} (h : TreeG V T r G m) (hx : G d = some x) (hy : G c = some y) (hdc : d ≠ c) (hd : NodeAt w1 d { x with nm := delNm x.nm s }) (hc : NodeAt w1 c { y with links := y.links - 1 }) (ht : Turn (fun j => j = x.map ∨ j = c) V w1) :
    TreeG w1 T r (lessG G d x s c y) m ∧ Turn (fun j => Foot G j ∨ V.heap.size ≤ j) V w1 := by
  have key : ∀ b y', lessG G d x s c y b = some y' → (b = c ∧ y' = { y with links := y.links - 1 }) ∨ (b = d ∧ y' = { x with nm := delNm x.nm s }) ∨ (b ≠ c ∧ b ≠ d ∧ G b = some y') := fun b y' hb => by
    unfold lessG at hb
    by_cases h1 : b = c
    · subst h1
      rw [setG_same] at hb
      exact .inl ⟨rfl, (Option.some.inj hb).symm⟩
    · rw [setG_other _ _ h1] at hb
      by_cases h2 : b = d
      · subst h2
        rw [setG_same] at hb
        exact .inr (.inl ⟨rfl, (Option.some.inj hb).symm⟩)
      · rw [setG_other _ _ h2] at hb
        exact .inr (.inr ⟨h1, h2, hb⟩)
  refine h.changed ht (fun j hj => by
    rcases hj with rfl | rfl
    · exact ⟨d, x, hx, .inr rfl⟩
    · exact ⟨_, y, hy, .inl rfl⟩) (fun b y' hb => ?_) (fun b y' hb => ?_) (fun b z hz => ?_) (fun b y' s' k hb hk => ?_)
  · rcases key b y' hb with ⟨rfl, rfl⟩ | ⟨rfl, rfl⟩ | ⟨h1, h2, h3⟩
    · exact .inl hc
    · exact .inl hd
    · refine .inr ⟨h3, ?_, ?_⟩
      · rintro (e | e)
        · exact (h.nodes b y' h3).ne_map (h.nodes d x hx) e
        · exact h1 e
      · rintro (e | e)
        · exact h2 (h.apart b d y' x h3 hx e)
        · exact (h.nodes c y hy).ne_map (h.nodes b y' h3) e.symm
  · rcases key b y' hb with ⟨rfl, rfl⟩ | ⟨rfl, rfl⟩ | ⟨h1, h2, h3⟩
    · exact ⟨y, hy, rfl, h.cnt b y hy⟩
    · exact ⟨x, hx, rfl, h.cnt b x hx⟩
    · exact ⟨y', h3, rfl, h.cnt b y' h3⟩
  · unfold lessG
    by_cases h1 : b = c
    · subst h1
      rw [hy] at hz
      cases hz
      exact ⟨_, setG_same _ _ _, rfl⟩
    · by_cases h2 : b = d
      · subst h2
        rw [hx] at hz
        cases hz
        exact ⟨_, (setG_other _ _ h1).trans (setG_same _ _ _), rfl⟩
      · exact ⟨z, (setG_other _ _ h1).trans ((setG_other _ _ h2).trans hz), rfl⟩
  · rcases key b y' hb with ⟨rfl, rfl⟩ | ⟨rfl, rfl⟩ | ⟨h1, h2, h3⟩
    · exact h.leads b y s' k hy hk
    · have hk' : lookNm (delNm x.nm s) s' = some k := hk
      rw [look_del] at hk'
      split at hk'
      · cases hk'
      · exact h.leads b x s' k hx hk'
    · exact h.leads b y' s' k h3 hk
theorem TreeG.mono {W : World} {T r m m' : Nat} {G : Gr} (h : TreeG W T r G m) (hm : m ≤ m') : TreeG W T r G m' := ⟨h.at_, h.nodes, h.leads, h.apart, h.root, fun b x hx => Nat.le_trans (h.cnt b x hx) hm⟩
theorem TreeG.left {V w1 : World} {T r m d c : Nat} {G : Gr} {x y : TN} {s : List UInt8} (h : TreeG V T r G m) (hx : G d = some x) (hy : G c = some y) (hdc : d ≠ c) (hd : NodeAt w1 d { x with nm := delNm x.nm s }) (hc : NodeAt w1 c { y with links := y.links - 1 }) (ht : Turn (fun j => j = x.map ∨ j = c) V w1) :
    TreeG w1 T r (lessG G d x s c y) (m + 1) ∧ Turn (fun j => Foot G j ∨ V.heap.size ≤ j) V w1 := by
  obtain ⟨h1, h2⟩ := h.left0 hx hy hdc hd hc ht
  exact ⟨h1.mono (Nat.le_succ _), h2⟩
end Go.Proofs.YtgoemaecdolioaaGreatDoor

/-
  tree: Put.
-/
namespace Go.Proofs.YtgoemaecdolioaaGreatDoor
open Go.RowKit Go.Shelf
attribute [local go_sem] Oper.semAt_some

def putE (G : Gr) (r : Nat) (s : List UInt8) (ds : List Nat) : Except Int Nat := if (splitE s).2 ≠ 0 then .error (splitE s).2 else match walkN G r (splitE s).1 with
  | .error c => .error c
  | .ok b => match G b with
    | none => .error 0
    | some x => if fillN x ds ≠ 0 then .error (fillN x ds) else .ok b
def putR (G : Gr) (ds : List Nat) (b : Nat) : Nat → Gr → Prop := fun _ G' => ∃ x v, G b = some x ∧ G' = setG G b { x with cont := v, bytes := ds }
def putQ (G : Gr) (r : Nat) (s : List UInt8) (ds : List Nat) : Except Int (Nat → Gr → Prop) := match putE G r s ds with
  | .error c => .error c
  | .ok b => .ok (putR G ds b)
theorem putQ_lower (G : Gr) (r : Nat) (s : List UInt8) (ds : List Nat) : Lower (putQ G r s ds) := by
  unfold putQ
  cases putE G r s ds with
  | error c => trivial
  | ok d => exact fun n n' G' hn h => h
theorem boxed_low {W W' : World} {B : Nat} {t : TypeId} {v : Value} (h : Boxed W B t v) (hb : Below W.heap.size W W') : Boxed W' B t v := (hb.block B h.lt).trans h
set_option maxRecDepth 100000 in
set_option maxHeartbeats 8000000 in
theorem putClos_any {G : Gr} {V : World} {T r m bp bt bk : Nat} (hT : TreeG V T r G m) (hmx : MaxC V) (s : List UInt8) (hs : s.length ≤ 1000000) {ub : Value} {ds : List Nat} (hu : FB V ub ds) (b1 : Boxed V bt 52 (.pointer (some ⟨T, 0, none⟩))) (b0 : Boxed V bp 9 (encStr s)) (b2 : Boxed V bk 23 ub) :
    Calls Tryz.prog 169 #[.pointer (some ⟨bt, 0, none⟩), .pointer (some ⟨bp, 0, none⟩), .pointer (some ⟨bk, 0, none⟩)] V (ClosEnd T r m G (putQ G r s ds) V) := by
  obtain ⟨xr, hxr, hdir⟩ := hT.root
  obtain ⟨ua, un, uc, rfl⟩ : ∃ a n c, ub = .slice a n c := by
    obtain ⟨a, c, hv, -⟩ := hu.form
    exact ⟨a, _, c, hv⟩
  have HRR : Hid (∀ W, Below V.heap.size V W → W.cell? ⟨bt, 0, none⟩ = some (.pointer (some ⟨T, 0, none⟩)) ∧ W.cell? ⟨bp, 0, none⟩ = some (encStr s) ∧ W.cell? ⟨bk, 0, none⟩ = some (.slice ua un uc) ∧ Below V.heap.size V W) := show ∀ W, _ from fun W hW => ⟨(boxed_low b1 hW).cell, (boxed_low b0 hW).cell, (boxed_low b2 hW).cell, hW⟩
  obtain ⟨t, ht⟩ : ∃ t, encStr s = t := ⟨_, rfl⟩
  by_cases h1 : (splitE s).2 = 0
  · have HS := Lib.hid (fun W (hW : Below V.heap.size V W) => split10_ok s hs W (hmx.below hW hmx.room) h1)
    have hsl := splitE_len s
    have hsr := splitE_right s
    have HAT := Lib.hid (fun W v (hW : Below V.heap.size V W) (hv : TxS W v (splitE s).1) => at10_any (hT.below hW).nodes hT.leads (hT.below hW).at_ hxr (names := (splitE s).1) (by omega) (rightN_short hsr) hv)
    have hE : putE G r s ds = match walkN G r (splitE s).1 with
      | .error c => .error c
      | .ok b => match G b with
        | none => .error 0
        | some x => if fillN x ds ≠ 0 then .error (fillN x ds) else .ok b := if_neg (by simpa using h1)
    cases hw : walkN G r (splitE s).1 with
    | error c =>
      have hc : c ≠ 0 := by rcases walkN_err hT.leads _ _ _ _ hxr hw with rfl | rfl <;> decide
      rw [hw] at hE
      have hq : putQ G r s ds = .error c := by unfold putQ; rw [hE]
      rw [hq]
      rw [hw] at HAT
      rw [ht] at HS HRR
      obtain ⟨names, hnm⟩ : ∃ names, (splitE s).1 = names := ⟨_, rfl⟩
      rw [hnm] at HS HAT
      have HC := Lib.hid hc
      clear hT hmx hs hu b0 b1 b2 hxr hdir h1 ht hsl hsr hE hw hc hq hnm
      go_enter Tryz.func169, Tryz.ntmps169
      go_wp2_with fail
      have hR := HRR.out _ (Below.refl _ V).drew
      refine wp_region_M 5 (fun W : World => W.cell? ⟨bt, 0, none⟩ = some (.pointer (some ⟨T, 0, none⟩)) ∧ W.cell? ⟨bp, 0, none⟩ = some t ∧ W.cell? ⟨bk, 0, none⟩ = some (.slice ua un uc) ∧ Below V.heap.size V W) (by kernel_rfl) ?_
      (refine wpAnyM_take2 8 (i := 0) (v := ?_) rfl (by kernel_rfl) (by kernel_rfl) (fun _ _ _ h => h) (Or.inl ⟨by rfl, ?_⟩) hR ?_; rotate_left; (focus (intro w hSw; (try dsimp only at hSw); go_simp; (try with_reducible rfl))); (try simp only [put_laws])); (refine wpAnyM_take2 8 (i := 1) (v := ?_) rfl (by kernel_rfl) (by kernel_rfl) (fun _ _ _ h => h) (Or.inl ⟨by rfl, ?_⟩) hR ?_; rotate_left; (focus (intro w hSw; (try dsimp only at hSw); go_simp; (try with_reducible rfl))); (try simp only [put_laws])); (refine wpAnyM_take2 8 (i := 4) (v := ?_) rfl (by kernel_rfl) (by kernel_rfl) (fun _ _ _ h => h) (Or.inl ⟨by rfl, ?_⟩) hR ?_; rotate_left; (focus (intro w hSw; (try dsimp only at hSw); go_simp; (try with_reducible rfl))); (try simp only [put_laws]))
      (refine wpAnyM_one (i := 2) rfl (by kernel_rfl) (fun K hK => ?_); rw [if_pos (by rfl)]; (try simp only [elem_laws]))
      go_simp
      refine (HS.out _ hR.2.2.2).mono ?_
      rintro e w1 ⟨u, rfl, ho, hb⟩
      have hR' := HRR.out _ (hR.2.2.2.trans (hb.mono hR.2.2.2.size))
      refine hK _ _ (fun _ => hR') ?_
      clear hK K hR hb
      have hR := hR'
      clear hR'
      (try simp only [put_laws])
      (refine wpAnyM_one (i := 3) rfl (by kernel_rfl) (fun K hK => ?_); rw [if_pos (by rfl)]; (try simp only [elem_laws]))
      go_simp
      refine (HAT.out _ _ hR.2.2.2 ho.txs).mono ?_
      rintro e w2 ⟨hb, rfl⟩
      refine ⟨rfl, ?_⟩
      exact (show _ ∧ _ ∧ _ from ⟨HC.out, rfl, hR.2.2.2.trans (hb.mono hR.2.2.2.size)⟩)
    | ok b =>
      obtain ⟨x, hx⟩ := walkN_leads hT.leads _ _ _ _ hxr hw
      rw [hw] at hE
      simp only [hx] at hE
      rw [hw] at HAT
      have HFL : Hid (∀ W, Below V.heap.size V W → Calls Tryz.prog 170 #[.pointer (some ⟨b, 0, none⟩), .slice ua un uc] W (ClosEnd T r m G (putQ G r s ds) V)) := show ∀ W, _ from fun W hW => by
        refine (fill10_any ((hT.below hW).nodes b x hx) (hu.below hW)).mono fun e w' h => ?_
        unfold putQ
        rcases h with ⟨g1, g2, g3⟩ | ⟨g1, g2, ⟨v, g3⟩, g4⟩
        · rw [hE, if_pos g1]
          exact (show _ ∧ _ ∧ _ from ⟨g1, g2, hW.trans (g3.mono hW.size)⟩)
        · rw [hE, if_neg (by simpa using g1)]
          have ht2 : Turn (fun j => j = b ∨ V.heap.size ≤ j) V w' := (Turn.of_below hW (Nat.le_refl _)).trans (g4.mono fun j hj => .inl hj)
          obtain ⟨f1, f2⟩ := hT.filled hx g3 ht2
          exact (show _ ∧ _ from ⟨g2, _, f1, f2, x, v, hx, rfl⟩)
      obtain ⟨q, hq⟩ : ∃ q, putQ G r s ds = q := ⟨_, rfl⟩
      rw [hq] at HFL ⊢
      rw [ht] at HS HRR
      obtain ⟨names, hnm⟩ : ∃ names, (splitE s).1 = names := ⟨_, rfl⟩
      rw [hnm] at HS HAT
      clear hT hmx hs hu b0 b1 b2 hxr hdir h1 ht hsl hsr hE hw hq hnm hx
      go_enter Tryz.func169, Tryz.ntmps169
      go_wp2_with fail
      have hR := HRR.out _ (Below.refl _ V).drew
      refine wp_region_M 5 (fun W : World => W.cell? ⟨bt, 0, none⟩ = some (.pointer (some ⟨T, 0, none⟩)) ∧ W.cell? ⟨bp, 0, none⟩ = some t ∧ W.cell? ⟨bk, 0, none⟩ = some (.slice ua un uc) ∧ Below V.heap.size V W) (by kernel_rfl) ?_
      (refine wpAnyM_take2 8 (i := 0) (v := ?_) rfl (by kernel_rfl) (by kernel_rfl) (fun _ _ _ h => h) (Or.inl ⟨by rfl, ?_⟩) hR ?_; rotate_left; (focus (intro w hSw; (try dsimp only at hSw); go_simp; (try with_reducible rfl))); (try simp only [put_laws])); (refine wpAnyM_take2 8 (i := 1) (v := ?_) rfl (by kernel_rfl) (by kernel_rfl) (fun _ _ _ h => h) (Or.inl ⟨by rfl, ?_⟩) hR ?_; rotate_left; (focus (intro w hSw; (try dsimp only at hSw); go_simp; (try with_reducible rfl))); (try simp only [put_laws])); (refine wpAnyM_take2 8 (i := 4) (v := ?_) rfl (by kernel_rfl) (by kernel_rfl) (fun _ _ _ h => h) (Or.inl ⟨by rfl, ?_⟩) hR ?_; rotate_left; (focus (intro w hSw; (try dsimp only at hSw); go_simp; (try with_reducible rfl))); (try simp only [put_laws]))
      (refine wpAnyM_one (i := 2) rfl (by kernel_rfl) (fun K hK => ?_); rw [if_pos (by rfl)]; (try simp only [elem_laws]))
      go_simp
      refine (HS.out _ hR.2.2.2).mono ?_
      rintro e w1 ⟨u, rfl, ho, hb⟩
      have hR' := HRR.out _ (hR.2.2.2.trans (hb.mono hR.2.2.2.size))
      refine hK _ _ (fun _ => hR') ?_
      clear hK K hR hb
      have hR := hR'
      clear hR'
      (try simp only [put_laws])
      (refine wpAnyM_one (i := 3) rfl (by kernel_rfl) (fun K hK => ?_); rw [if_pos (by rfl)]; (try simp only [elem_laws]))
      go_simp
      refine (HAT.out _ _ hR.2.2.2 ho.txs).mono ?_
      rintro e w2 ⟨hb, rfl⟩
      have hR' := HRR.out _ (hR.2.2.2.trans (hb.mono hR.2.2.2.size))
      refine hK _ _ (fun _ => hR') ?_
      clear hK K hR hb
      have hR := hR'
      clear hR'
      (try simp only [put_laws])
      (refine wpAnyM_last rfl (by kernel_rfl) (fun K hK => ?_); rw [if_pos (by rfl)]; (try simp only [elem_laws]))
      go_simp
      refine (HFL.out _ hR.2.2.2).mono ?_
      cases q with
      | error c =>
        rintro e w3 ⟨hc, rfl, hb⟩
        exact ⟨rfl, (show _ ∧ _ ∧ _ from ⟨hc, rfl, hb⟩)⟩
      | ok Rl =>
        rintro e w3 ⟨⟨u3, rfl⟩, hl⟩
        have HL := Lib.hid hl
        refine hK _ _ ?_
        clear hK K hR hl
        (try simp only [put_laws])
        refine wpAnyM_done (by kernel_rfl) ?_ _
        go_wp2_with fail
        first
        | go_end0
        | refine bodyPost_ret (results_none rfl _ _ _) rfl ?_
        exact (show _ ∧ _ from ⟨⟨_, rfl⟩, HL.out⟩)
  · have HS := Lib.hid (fun W (hW : Below V.heap.size V W) => split10_no s hs W (hmx.below hW hmx.room) h1)
    have hq : putQ G r s ds = .error (splitE s).2 := by unfold putQ putE; rw [if_pos h1]
    rw [hq]
    rw [ht] at HS HRR
    have H1 := Lib.hid h1
    clear hT hmx hs hu b0 b1 b2 hxr hdir h1 ht hq
    go_enter Tryz.func169, Tryz.ntmps169
    go_wp2_with fail
    have hR := HRR.out _ (Below.refl _ V).drew
    refine wp_region_M 5 (fun W : World => W.cell? ⟨bt, 0, none⟩ = some (.pointer (some ⟨T, 0, none⟩)) ∧ W.cell? ⟨bp, 0, none⟩ = some t ∧ W.cell? ⟨bk, 0, none⟩ = some (.slice ua un uc) ∧ Below V.heap.size V W) (by kernel_rfl) ?_
    (refine wpAnyM_take2 8 (i := 0) (v := ?_) rfl (by kernel_rfl) (by kernel_rfl) (fun _ _ _ h => h) (Or.inl ⟨by rfl, ?_⟩) hR ?_; rotate_left; (focus (intro w hSw; (try dsimp only at hSw); go_simp; (try with_reducible rfl))); (try simp only [put_laws])); (refine wpAnyM_take2 8 (i := 1) (v := ?_) rfl (by kernel_rfl) (by kernel_rfl) (fun _ _ _ h => h) (Or.inl ⟨by rfl, ?_⟩) hR ?_; rotate_left; (focus (intro w hSw; (try dsimp only at hSw); go_simp; (try with_reducible rfl))); (try simp only [put_laws])); (refine wpAnyM_take2 8 (i := 4) (v := ?_) rfl (by kernel_rfl) (by kernel_rfl) (fun _ _ _ h => h) (Or.inl ⟨by rfl, ?_⟩) hR ?_; rotate_left; (focus (intro w hSw; (try dsimp only at hSw); go_simp; (try with_reducible rfl))); (try simp only [put_laws]))
    (refine wpAnyM_one (i := 2) rfl (by kernel_rfl) (fun K hK => ?_); rw [if_pos (by rfl)]; (try simp only [elem_laws]))
    go_simp
    refine (HS.out _ hR.2.2.2).mono ?_
    rintro e w1 ⟨rfl, hb⟩
    refine ⟨rfl, ?_⟩
    exact (show _ ∧ _ ∧ _ from ⟨H1.out, rfl, hR.2.2.2.trans (hb.mono hR.2.2.2.size)⟩)
end Go.Proofs.YtgoemaecdolioaaGreatDoor

/-
  tree: Drop, Remove.
-/
namespace Go.Proofs.YtgoemaecdolioaaGreatDoor
open Go.RowKit Go.Shelf
attribute [local go_sem] Oper.semAt_some

/-- Names lead elsewhere, to what knows of it. -/
def Links10 (G : Gr) : Prop := ∀ d x s c y, G d = some x → lookNm x.nm s = some c → G c = some y → d ≠ c ∧ 0 < y.links ∧ y.links ≤ 200
theorem walkN_last {G : Gr} (hS : Leads G) {r c : Nat} {xr : TN} (hr : G r = some xr) {names : List (List UInt8)} (h0 : names ≠ []) (h : walkN G r names = .ok c) : ∃ d x, spotN G r names = .ok d ∧ G d = some x ∧ lookNm x.nm (lastN names) = some c := by
  have he : names = names.dropLast ++ [lastN names] := by
    unfold lastN
    rw [List.getLast?_eq_some_getLast h0, Option.getD_some, List.dropLast_concat_getLast h0]
  have hw := walkN_append G names.dropLast [lastN names] r
  rw [← he, h] at hw
  cases hd : walkN G r names.dropLast with
  | error k => rw [hd] at hw; cases hw
  | ok d =>
    rw [hd] at hw
    obtain ⟨x, hx⟩ := walkN_leads hS _ _ _ _ hr hd
    simp only [walkN, hx] at hw
    unfold nextN at hw
    by_cases hdir : x.isDir = true
    · rw [if_pos hdir] at hw
      cases hl : lookNm x.nm (lastN names) with
      | none => rw [hl] at hw; cases hw
      | some c2 =>
        rw [hl] at hw
        simp only [Except.ok.injEq] at hw
        refine ⟨d, x, ?_, hx, hw ▸ hl⟩
        unfold spotN
        rw [hd]
        simp only [hx]
        exact if_pos hdir
    · rw [if_neg hdir] at hw
      cases hw
def lessR (G : Gr) (s : List UInt8) (d c : Nat) : Nat → Gr → Prop := fun _ G' => ∃ x y, G d = some x ∧ G c = some y ∧ G' = lessG G d x s c y
/-- Which name goes, to which node. -/
def dropE (G : Gr) (r : Nat) (s : List UInt8) : Except Int (Nat × Nat) := if (splitE s).2 ≠ 0 then .error (splitE s).2 else match walkN G r (splitE s).1 with
  | .error c => .error c
  | .ok c => match G c with
    | none => .error 0
    | some y => if y.isDir = true then .error 204 else match spotN G r (splitE s).1 with
      | .error k => .error k
      | .ok d => .ok (d, c)
def removeE (G : Gr) (r : Nat) (s : List UInt8) : Except Int (Nat × Nat) := if (splitE s).2 ≠ 0 then .error (splitE s).2 else if (splitE s).1 = [] then .error 200 else match walkN G r (splitE s).1 with
  | .error c => .error c
  | .ok c => match G c with
    | none => .error 0
    | some y => if y.isDir = false then .error 201 else if y.nm ≠ [] then .error 205 else match spotN G r (splitE s).1 with
      | .error k => .error k
      | .ok d => .ok (d, c)
def lessQ (G : Gr) (s : List UInt8) (q : Except Int (Nat × Nat)) : Except Int (Nat → Gr → Prop) := match q with
  | .error c => .error c
  | .ok (d, c) => .ok (lessR G (lastN (splitE s).1) d c)
theorem lessQ_lower (G : Gr) (s : List UInt8) (q : Except Int (Nat × Nat)) : Lower (lessQ G s q) := by
  unfold lessQ
  cases q with
  | error c => trivial
  | ok d => exact fun n n' G' hn h => h
/-- A spot that is left. -/
theorem leaves_spot {G : Gr} {V : World} {T r m : Nat} (hT : TreeG V T r G m) (hL : Links10 G) {d c : Nat} {x y : TN} (hx : G d = some x) (hy : G c = some y) {nm : List UInt8} (hs : nm.length ≤ 1000) (hl : lookNm x.nm nm = some c) (W : World) (hW : Below V.heap.size V W) :
    Calls Tryz.prog 162 #[.agg #[.pointer (some ⟨d, 0, none⟩), encStr nm]] W (ClosEnd T r m G (.ok (lessR G nm d c)) V) := by
  obtain ⟨h1, h2, h3⟩ := hL d x nm c y hx hl hy
  have hTW := hT.below hW
  refine (leave10_any (hTW.nodes d x hx) (hTW.nodes c y hy) h1 nm hs hl ⟨h2, by omega⟩ (fun e => h1 (hT.apart d c x y hx hy e))).mono fun e w' h => ?_
  obtain ⟨g1, g2, g3, g4⟩ := h
  obtain ⟨f1, f2⟩ := hTW.left hx hy h1 g2 g3 g4
  exact (show _ ∧ _ from ⟨g1, _, f1, (Turn.of_below hW (Nat.le_refl _)).trans (f2.mono fun j hj => by
    rcases hj with hj | hj
    · exact .inl hj
    · exact .inr (Nat.le_trans hW.size hj)), x, y, hx, hy, rfl⟩)
set_option maxRecDepth 100000 in
set_option maxHeartbeats 8000000 in
theorem dropClos_any {G : Gr} {V : World} {T r m bp bt : Nat} (hT : TreeG V T r G m) (hL : Links10 G) (hmx : MaxC V) (s : List UInt8) (hs : s.length ≤ 1000000) (b0 : Boxed V bp 9 (encStr s)) (b1 : Boxed V bt 52 (.pointer (some ⟨T, 0, none⟩))) :
    Calls Tryz.prog 159 #[.pointer (some ⟨bp, 0, none⟩), .pointer (some ⟨bt, 0, none⟩)] V (ClosEnd T r m G (lessQ G s (dropE G r s)) V) := by
  obtain ⟨xr, hxr, hdir⟩ := hT.root
  have c0 := b0.cell
  have HRR := Lib.hid (fun W (hW : Below V.heap.size V W) => (boxed_low b1 hW).cell)
  obtain ⟨t, ht⟩ : ∃ t, encStr s = t := ⟨_, rfl⟩
  rw [ht] at c0
  by_cases h1 : (splitE s).2 = 0
  · have hsp := split10_ok s hs V hmx h1
    rw [ht] at hsp
    have HS := Lib.hid hsp
    have hsl := splitE_len s
    have hsr := splitE_right s
    obtain ⟨names, hnm⟩ : ∃ names, (splitE s).1 = names := ⟨_, rfl⟩
    have HAT := Lib.hid (fun W v (hW : Below V.heap.size V W) (hv : TxS W v (splitE s).1) => at10_any (hT.below hW).nodes hT.leads (hT.below hW).at_ hxr (names := (splitE s).1) (by omega) (rightN_short hsr) hv)
    have hE : dropE G r s = match walkN G r (splitE s).1 with
      | .error c => .error c
      | .ok c => match G c with
        | none => .error 0
        | some y => if y.isDir = true then .error 204 else match spotN G r (splitE s).1 with
          | .error k => .error k
          | .ok d => .ok (d, c) := if_neg (by simpa using h1)
    cases hw : walkN G r (splitE s).1 with
    | error c =>
      have hc : c ≠ 0 := by rcases walkN_err hT.leads _ _ _ _ hxr hw with rfl | rfl <;> decide
      rw [hw] at hE HAT
      have hq : lessQ G s (dropE G r s) = .error c := by rw [hE]; rfl
      rw [hq]
      have HC := Lib.hid hc
      rw [hnm] at HS HAT
      clear hT hmx hs b0 b1 hxr hdir h1 ht hsp hsl hsr hE hw hc hq hnm hL
      go_enter Tryz.func159, Tryz.ntmps159
      go_wp2_with fail
      refine HS.out.mono ?_
      rintro e w1 ⟨u, rfl, ho, hb⟩
      have HO := Lib.hid ho
      have HB := Lib.hid hb
      have c1 := HRR.out w1 hb
      clear ho hb
      go_wp2_with fail
      refine (HAT.out _ _ HB.out HO.out.txs).mono ?_
      rintro e w2 ⟨hb, rfl⟩
      exact ⟨rfl, (show _ ∧ _ ∧ _ from ⟨HC.out, rfl, HB.out.trans (hb.mono HB.out.size)⟩)⟩
    | ok c =>
      obtain ⟨y, hy⟩ := walkN_leads hT.leads _ _ _ _ hxr hw
      rw [hw] at hE HAT
      simp only [hy] at hE
      have HMF := Lib.hid (fun W (hW : Below V.heap.size V W) => mustBeFile_any ((hT.below hW).nodes c y hy))
      by_cases hyd : y.isDir = true
      · rw [if_pos hyd] at hE
        have hq : lessQ G s (dropE G r s) = .error 204 := by rw [hE]; rfl
        rw [hq]
        rw [hnm] at HS HAT
        rw [hyd] at HMF
        clear hT hmx hs b0 b1 hxr hdir h1 ht hsp hsl hsr hE hw hq hnm hL hy hyd
        go_enter Tryz.func159, Tryz.ntmps159
        go_wp2_with fail
        refine HS.out.mono ?_
        rintro e w1 ⟨u, rfl, ho, hb⟩
        have HO := Lib.hid ho
        have HB := Lib.hid hb
        have c1 := HRR.out w1 hb
        clear ho hb
        go_wp2_with fail
        refine (HAT.out _ _ HB.out HO.out.txs).mono ?_
        rintro e w2 ⟨hb, rfl⟩
        have HB2 := Lib.hid (HB.out.trans (hb.mono HB.out.size))
        clear hb
        go_wp2_with fail
        refine (HMF.out _ HB2.out).mono ?_
        rintro e w3 (⟨hg, ⟨u3, rfl⟩, rfl⟩ | ⟨hg, rfl, rfl⟩)
        · cases hg
        · exact ⟨rfl, (show _ ∧ _ ∧ _ from ⟨by decide, rfl, HB2.out⟩)⟩
      · have h0 : (splitE s).1 ≠ [] := fun e => by
          rw [e] at hw
          simp only [walkN, Except.ok.injEq] at hw
          subst hw
          rw [hxr] at hy
          cases hy
          exact hyd hdir
        obtain ⟨d, x, hsd, hxd, hlk⟩ := walkN_last hT.leads hxr h0 hw
        rw [if_neg hyd] at hE
        rw [hsd] at hE
        have hq : lessQ G s (dropE G r s) = .ok (lessR G (lastN (splitE s).1) d c) := by rw [hE]; rfl
        rw [hq]
        have hyf : y.isDir = false := by simpa using hyd
        rw [hyf] at HMF
        have HSPT := Lib.hid (fun W v (hW : Below V.heap.size V W) (hv : TxS W v (splitE s).1) => spot10_any (hT.below hW).nodes hT.leads (hT.below hW).at_ hxr (List.length_pos_iff.2 h0) (by omega) (rightN_short hsr) hv)
        rw [hsd] at HSPT
        have HLV := Lib.hid (fun W (hW : Below V.heap.size V W) => leaves_spot hT hL hxd hy (rightN_short hsr _ (lastN_mem h0)) hlk W hW)
        rw [hnm] at HS HAT HSPT HLV ⊢
        clear hT hmx hs b0 b1 hxr hdir h1 ht hsp hsl hsr hE hw hq hnm hL hy hyd h0 hsd hxd hlk hyf
        go_enter Tryz.func159, Tryz.ntmps159
        go_wp2_with fail
        refine HS.out.mono ?_
        rintro e w1 ⟨u, rfl, ho, hb⟩
        have HO := Lib.hid ho.txs
        have HB := Lib.hid hb
        have c1 := HRR.out w1 hb
        clear ho hb
        go_wp2_with fail
        refine (HAT.out _ _ HB.out HO.out).mono ?_
        rintro e w2 ⟨hb, rfl⟩
        have HB2 := Lib.hid (HB.out.trans (hb.mono HB.out.size))
        have HO2 : Hid (TxS w2 u names) := show TxS _ _ _ from HO.out.below hb
        have c2 := HRR.out w2 HB2.out
        clear hb
        go_wp2_with fail
        refine (HMF.out _ HB2.out).mono ?_
        rintro e w3 (⟨hg, ⟨u3, rfl⟩, rfl⟩ | ⟨hg, rfl, rfl⟩)
        · clear hg
          go_wp2_with fail
          refine (HSPT.out _ _ HB2.out HO2.out).mono ?_
          rintro e w4 ⟨hb, rfl⟩
          have HB4 := Lib.hid (HB2.out.trans (hb.mono HB2.out.size))
          clear hb
          go_wp2_with fail
          refine (HLV.out _ HB4.out).mono ?_
          rintro e w5 ⟨⟨u5, rfl⟩, hl⟩
          have HL5 := Lib.hid hl
          clear hl
          go_wp2_with fail
          first
          | go_end0
          | refine bodyPost_ret (results_none rfl _ _ _) rfl ?_
          exact (show _ ∧ _ from ⟨⟨_, rfl⟩, HL5.out⟩)
        · cases hg
  · have hsp := split10_no s hs V hmx h1
    rw [ht] at hsp
    have HS := Lib.hid hsp
    have hq : lessQ G s (dropE G r s) = .error (splitE s).2 := by unfold dropE; rw [if_pos h1]; rfl
    rw [hq]
    have H1 := Lib.hid h1
    clear hT hmx hs b0 b1 hxr hdir h1 ht hq hsp hL
    go_enter Tryz.func159, Tryz.ntmps159
    go_wp2_with fail
    refine HS.out.mono ?_
    rintro e w1 ⟨rfl, hb⟩
    exact ⟨rfl, (show _ ∧ _ ∧ _ from ⟨H1.out, rfl, hb⟩)⟩
end Go.Proofs.YtgoemaecdolioaaGreatDoor
