/-
  Texts TeM to TeQ, as one.
-/
import Derived.Test.YtgoemaecdolioaaGreatDoorMo2
import Derived.Test.YtgoemaecdolioaaGreatDoorMo10
/-
  tree: a name is added.
-/
namespace Go.Proofs.YtgoemaecdolioaaGreatDoor
open Go.RowKit Go.Shelf
attribute [local go_sem] Oper.semAt_some

/-- Where a name is added, or why it is not. -/
def addE (G : Gr) (r : Nat) (names : List (List UInt8)) (z : TN) : Except Int Nat := if names = [] then .error 203 else match spotN G r names with
  | .error e => .error e
  | .ok d => match G d with
    | none => .error 0
    | some x => if (lookNm x.nm (lastN names)).isSome = true then .error 203 else if z.links < 200 then .ok d else .error 207
theorem spotN_some {G : Gr} {r d : Nat} {names : List (List UInt8)} (h : spotN G r names = .ok d) : ∃ x, G d = some x ∧ x.isDir = true ∧ walkN G r names.dropLast = .ok d := by
  unfold spotN at h
  cases hw : walkN G r names.dropLast with
  | error e => rw [hw] at h; cases h
  | ok q =>
    rw [hw] at h
    simp only at h
    cases hG : G q with
    | none => rw [hG] at h; cases h
    | some x =>
      rw [hG] at h
      simp only at h
      split at h
      · rename_i hd
        simp only [Except.ok.injEq] at h
        subst h
        exact ⟨x, hG, hd, rfl⟩
      · cases h
/-- What adding leaves. -/
def AddEnd (G : Gr) (s : List UInt8) (n : Nat) (z : TN) (w : World) (q : Except Int Nat) (e : Ending) (w' : World) : Prop := match q with
  | .error c => c ≠ 0 ∧ e = .panicked (refuse c) ∧ Below w.heap.size w w'
  | .ok d => ∃ x, G d = some x ∧ (∃ u, e = .returned u) ∧ NodeAt w' d { x with nm := putNm x.nm s n, cnt := x.cnt + 1 } ∧ NodeAt w' n { z with links := z.links + 1 } ∧ Turn (fun k => k = x.map ∨ k = n) w w'
theorem lastN_mem {names : List (List UInt8)} (h : names ≠ []) : lastN names ∈ names := by
  unfold lastN
  rw [List.getLast?_eq_some_getLast h]
  exact List.getLast_mem h
/-- An error of the way is one. -/
theorem walkN_err {G : Gr} (hS : Leads G) : ∀ (l : List (List UInt8)) (b : Nat) (x : TN) (e : Int), G b = some x → walkN G b l = .error e → e = 201 ∨ e = 202
  | [], _, _, _, _, h => by cases h
  | s :: r, b, x, e, hx, h => by
    simp only [walkN, hx] at h
    cases hn : nextN x s with
    | error k =>
      rw [hn] at h
      simp only [Except.error.injEq] at h
      subst h
      unfold nextN at hn
      split at hn
      · split at hn
        · cases hn
        · cases hn; exact .inr rfl
      · cases hn; exact .inl rfl
    | ok c =>
      rw [hn] at h
      obtain ⟨y, hy⟩ := nextN_leads hS hx hn
      exact walkN_err hS r c y e hy h
theorem spotN_err {G : Gr} (hS : Leads G) {r : Nat} {x : TN} (hx : G r = some x) {names : List (List UInt8)} {e : Int} (h : spotN G r names = .error e) : e = 201 ∨ e = 202 := by
  unfold spotN at h
  cases hw : walkN G r names.dropLast with
  | error k =>
    rw [hw] at h
    simp only [Except.error.injEq] at h
    subst h
    exact walkN_err hS _ _ _ _ hx hw
  | ok d =>
    rw [hw] at h
    obtain ⟨y, hy⟩ := walkN_leads hS _ _ _ _ hx hw
    simp only [hy] at h
    split at h
    · cases h
    · cases h; exact .inl rfl
set_option maxRecDepth 100000 in
set_option maxHeartbeats 8000000 in
theorem add10_any {G : Gr} {w : World} (hG : GraphAt w G) (hS : Leads G) {T r n : Nat} (hT : TreeAt w T r) {xr z : TN} (hx : G r = some xr) {v : Value} {names : List (List UInt8)} (hn : names.length ≤ 1000) (hs : ∀ s ∈ names, s.length ≤ 1000) (hv : TxS w v names)
    (hz : NodeAt w n z) (hap : ∀ d x, G d = some x → x.isDir = true → d ≠ n ∧ x.map ≠ z.map) (hcnt : ∀ d x, G d = some x → x.cnt < 100000) :
    Calls Tryz.prog 158 #[.pointer (some ⟨T, 0, none⟩), .pointer (some ⟨n, 0, none⟩), v] w (AddEnd G (lastN names) n z w (addE G r names z)) := by
  have HM := Lib.hid (fun b w => mustBe10_any b 203 (by decide) w)
  by_cases h0 : names = []
  · subst h0
    obtain ⟨a, cap, b, off, rfl, -⟩ := hv.cell
    have he : addE G r [] z = .error 203 := rfl
    rw [he]
    clear hv hG hS hT hx hn hs hz hap he hcnt
    go_enter Tryz.func158, Tryz.ntmps158
    go_wp2_with fail
    refine (HM.out _ _).mono ?_
    rintro e w2 (⟨hg, ⟨u, rfl⟩, rfl⟩ | ⟨hg, rfl, rfl⟩)
    · cases hg
    · refine ⟨rfl, ?_⟩
      exact (show _ ∧ _ ∧ _ from ⟨by decide, rfl, Below.refl _ _⟩)
  · have hlen : 0 < names.length := List.length_pos_iff.2 h0
    have hsp := spot10_any hG hS hT hx hlen hn hs hv
    have hls : (lastN names).length ≤ 1000 := hs _ (lastN_mem h0)
    have hE : addE G r names z = match spotN G r names with
      | .error e => .error e
      | .ok d => match G d with
        | none => .error 0
        | some x => if (lookNm x.nm (lastN names)).isSome = true then .error 203 else if z.links < 200 then .ok d else .error 207 := if_neg h0
    obtain ⟨a, cap, vb, off, rfl, -⟩ := hv.cell
    have hl0 : ((0 : Int) < ((names.length : Nat) : Int)) := by omega
    obtain ⟨N, hN⟩ : ∃ N, names.length = N := ⟨_, rfl⟩
    rw [hN] at hsp hl0 ⊢
    cases hq : spotN G r names with
    | error c =>
      rw [hq] at hsp hE
      have hc : c ≠ 0 := by rcases spotN_err hS hx hq with rfl | rfl <;> decide
      rw [hE]
      have HS := Lib.hid hsp
      have HC := Lib.hid hc
      clear hv hG hS hT hx hn hs hz hap hsp hE hq hc h0 hlen hN hcnt
      go_enter Tryz.func158, Tryz.ntmps158
      go_wp2_with fail
      refine (HM.out _ _).mono ?_
      rintro e w2 (⟨hg, ⟨u, rfl⟩, rfl⟩ | ⟨hg, rfl, rfl⟩)
      · clear hg
        go_wp2_with fail
        refine HS.out.mono ?_
        rintro e w3 ⟨hb, rfl⟩
        refine ⟨rfl, ?_⟩
        exact (show _ ∧ _ ∧ _ from ⟨HC.out, rfl, hb⟩)
      · exfalso
        first
        | cases hg
        | (have := of_decide_eq_false hg; omega)
    | ok d =>
      obtain ⟨x, hxd, hdir, -⟩ := spotN_some hq
      rw [hq] at hsp
      rw [hq] at hE
      simp only [hxd] at hE
      obtain ⟨hdn, hmm⟩ := hap d x hxd hdir
      have HS := Lib.hid hsp
      have HXD := Lib.hid hxd
      have HTK : Hid (∀ V, Below w.heap.size w V → Calls Tryz.prog 83 #[.agg #[.pointer (some ⟨d, 0, none⟩), encStr (lastN names)], .pointer (some ⟨n, 0, none⟩)] V (AddEnd G (lastN names) n z V (addE G r names z))) := show ∀ V, _ from fun V hV => by
        have hd := (hG d x hxd).below hV
        have hnz := hz.below hV
        rw [hE]
        cases hl : lookNm x.nm (lastN names) with
        | some p =>
          rw [if_pos (by rfl)]
          exact (take10_there hd _ hls p hl).mono fun e w' h => (show _ ∧ _ ∧ _ from ⟨by decide, h.1, h.2⟩)
        | none =>
          rw [if_neg (by decide)]
          by_cases h2 : z.links < 200
          · rw [if_pos h2]
            exact (take10_ok hd hnz hdn _ hls hl h2 (hcnt d x hxd) hmm).mono fun e w' h => (show ∃ _, _ from ⟨x, hxd, h⟩)
          · rw [if_neg h2]
            exact (take10_full hd hnz _ hls hl h2).mono fun e w' h => (show _ ∧ _ ∧ _ from ⟨by decide, h.1, h.2⟩)
      obtain ⟨q, hq2⟩ : ∃ q, addE G r names z = q := ⟨_, rfl⟩
      rw [hq2] at HTK ⊢
      clear hv hG hS hT hx hn hs hz hap hsp hE hq hxd hdir hdn hmm h0 hlen hls hcnt hN hq2
      go_enter Tryz.func158, Tryz.ntmps158
      go_wp2_with fail
      refine (HM.out _ _).mono ?_
      rintro e w2 (⟨hg, ⟨u, rfl⟩, rfl⟩ | ⟨hg, rfl, rfl⟩)
      · clear hg
        go_wp2_with fail
        refine HS.out.mono ?_
        rintro e w3 ⟨hb, rfl⟩
        have HB := Lib.hid hb
        clear hb
        go_wp2_with fail
        refine (HTK.out _ HB.out).mono ?_
        cases q with
        | error c =>
          rintro e w4 ⟨hc, rfl, hb⟩
          refine ⟨rfl, ?_⟩
          exact (show _ ∧ _ ∧ _ from ⟨hc, rfl, HB.out.trans (hb.mono HB.out.size)⟩)
        | ok d2 =>
          rintro e w4 ⟨x2, hx2, ⟨u2, rfl⟩, h1, h2, h3⟩
          have HEND : Hid (∃ x, G d2 = some x ∧ NodeAt w4 d2 { x with nm := putNm x.nm (lastN names) n, cnt := x.cnt + 1 } ∧ NodeAt w4 n { z with links := z.links + 1 } ∧ Turn (fun k => k = x.map ∨ k = n) w2 w4) := show ∃ _, _ from
            ⟨x2, hx2, h1, h2, (Turn.of_below HB.out (Nat.le_refl _)).trans h3⟩
          clear hx2 h1 h2 h3
          go_wp2_with fail
          first
          | go_end0
          | refine bodyPost_ret (results_none rfl _ _ _) rfl ?_
          obtain ⟨x3, g1, g2, g3, g4⟩ := HEND.out
          exact (show ∃ _, _ from ⟨x3, g1, ⟨_, rfl⟩, g2, g3, g4⟩)
      · exfalso
        first
        | cases hg
        | (have := of_decide_eq_false hg; omega)
end Go.Proofs.YtgoemaecdolioaaGreatDoor

/-
  tree: Make.
-/
namespace Go.Proofs.YtgoemaecdolioaaGreatDoor
open Go.RowKit Go.Shelf
attribute [local go_sem] Oper.semAt_some

/-- A tree in memory: its root, its nodes. -/
structure TreeG (W : World) (T r : Nat) (G : Gr) (m : Nat) : Prop where
  at_ : TreeAt W T r
  nodes : GraphAt W G
  leads : Leads G
  apart : ∀ b c x y, G b = some x → G c = some y → x.map = y.map → b = c
  root : ∃ x, G r = some x ∧ x.isDir = true
  cnt : ∀ b x, G b = some x → x.cnt ≤ m
theorem TreeG.below {W W' : World} {T r : Nat} {G : Gr} {m : Nat} (h : TreeG W T r G m) (hb : Below W.heap.size W W') : TreeG W' T r G m := ⟨(hb.block T h.at_.lt).trans h.at_, h.nodes.below hb, h.leads, h.apart, h.root, h.cnt⟩
theorem rightN_short {l : List (List UInt8)} (h : l.all rightN = true) : ∀ s ∈ l, s.length ≤ 1000 := fun s hs => by
  have := ((rightN_iff s).1 (List.all_eq_true.1 h s hs)).2.1
  omega
def makeE (G : Gr) (r : Nat) (s : List UInt8) (k : Int) : Except Int Nat := if (splitE s).2 ≠ 0 then .error (splitE s).2 else if k ≠ 1 ∧ k ≠ 2 then .error 2 else addE G r (splitE s).1 (newN k 0)
theorem addE_new (G : Gr) (r : Nat) (names : List (List UInt8)) (k k' : Int) (m m' : Nat) : addE G r names (newN k m) = addE G r names (newN k' m') := rfl
def MakeEnd (G : Gr) (s : List UInt8) (k : Int) (V : World) (q : Except Int Nat) (e : Ending) (w' : World) : Prop := match q with
  | .error c => c ≠ 0 ∧ e = .panicked (refuse c) ∧ Below V.heap.size V w'
  | .ok d => ∃ x n m, G d = some x ∧ V.heap.size ≤ n ∧ V.heap.size ≤ m ∧ n ≠ m ∧ (∃ u, e = .returned u) ∧ NodeAt w' d { x with nm := putNm x.nm (lastN (splitE s).1) n, cnt := x.cnt + 1 } ∧ NodeAt w' n { newN k m with links := 1 } ∧ Turn (fun j => j = x.map ∨ V.heap.size ≤ j) V w'
set_option maxRecDepth 100000 in
set_option maxHeartbeats 8000000 in
theorem make1_any {G : Gr} {V : World} {T r m bp bt bk : Nat} (hT : TreeG V T r G m) (hm : m < 90000) (hmx : MaxC V) (s : List UInt8) (hs : s.length ≤ 1000000) (k : Int) (b0 : Boxed V bp 9 (encStr s)) (b1 : Boxed V bt 52 (.pointer (some ⟨T, 0, none⟩))) (b2 : Boxed V bk 41 (.int .i64 k)) :
    Calls Tryz.prog 156 #[.pointer (some ⟨bp, 0, none⟩), .pointer (some ⟨bt, 0, none⟩), .pointer (some ⟨bk, 0, none⟩)] V (MakeEnd G s k V (makeE G r s k)) := by
  have c0 := b0.cell
  by_cases h1 : (splitE s).2 = 0
  · have hsp := split10_ok s hs V hmx h1
    have HS := Lib.hid hsp
    have HRR : Hid (∀ W, Below V.heap.size V W → W.cell? ⟨bt, 0, none⟩ = some (.pointer (some ⟨T, 0, none⟩)) ∧ W.cell? ⟨bk, 0, none⟩ = some (.int .i64 k) ∧ Below V.heap.size V W) := show ∀ W, _ from fun W hW => ⟨Boxed.cell ((hW.block bt b1.lt).trans b1), Boxed.cell ((hW.block bk b2.lt).trans b2), hW⟩
    obtain ⟨t, ht⟩ : ∃ t, encStr s = t := ⟨_, rfl⟩
    rw [ht] at HS c0
    by_cases h2 : k ≠ 1 ∧ k ≠ 2
    · have hE : makeE G r s k = .error 2 := by unfold makeE; rw [if_neg (by simpa using h1), if_pos h2]
      rw [hE]
      have HMD := Lib.hid (fun W => made10_no k h2.1 h2.2 W)
      clear hsp hT hmx hs b0 b1 b2 h1 ht h2 hE
      go_enter Tryz.func156, Tryz.ntmps156
      go_wp2_with fail
      refine HS.out.mono ?_
      rintro e w1 ⟨u, rfl, -, hb⟩
      have HB1 := Lib.hid hb
      clear hb
      go_wp2_with fail
      have hR := HRR.out _ HB1.out.drew
      refine wp_region_M 4 (fun W : World => W.cell? ⟨bt, 0, none⟩ = some (.pointer (some ⟨T, 0, none⟩)) ∧ W.cell? ⟨bk, 0, none⟩ = some (.int .i64 k) ∧ Below V.heap.size V W) (by kernel_rfl) ?_
      (refine wpAnyM_take2 8 (i := 0) (v := ?_) rfl (by kernel_rfl) (by kernel_rfl) (fun _ _ _ h => h) (Or.inl ⟨by rfl, ?_⟩) hR ?_; rotate_left; (focus (intro w hSw; (try dsimp only at hSw); go_simp; (try with_reducible rfl))); (try simp only [put_laws])); (refine wpAnyM_take2 8 (i := 1) (v := ?_) rfl (by kernel_rfl) (by kernel_rfl) (fun _ _ _ h => h) (Or.inl ⟨by rfl, ?_⟩) hR ?_; rotate_left; (focus (intro w hSw; (try dsimp only at hSw); go_simp; (try with_reducible rfl))); (try simp only [put_laws])); (refine wpAnyM_take2 8 (i := 3) (v := ?_) rfl (by kernel_rfl) (by kernel_rfl) (fun _ _ _ h => h) (Or.inl ⟨by rfl, ?_⟩) hR ?_; rotate_left; (focus (intro w hSw; (try dsimp only at hSw); go_simp; (try with_reducible rfl))); (try simp only [put_laws]))
      (refine wpAnyM_one (i := 2) rfl (by kernel_rfl) (fun K hK => ?_); rw [if_pos (by rfl)]; (try simp only [elem_laws]))
      go_simp
      refine (HMD.out _).mono ?_
      rintro e w2 ⟨rfl, rfl⟩
      exact ⟨rfl, (show _ ∧ _ ∧ _ from ⟨by decide, rfl, hR.2.2⟩)⟩
    · have hk : k = 1 ∨ k = 2 := by omega
      have hE : makeE G r s k = addE G r (splitE s).1 (newN k 0) := by unfold makeE; rw [if_neg (by simpa using h1), if_neg h2]
      rw [hE]
      have HMD := Lib.hid (fun W => made10_ok k hk W)
      have hsl := splitE_len s
      have hsr := splitE_right s
      obtain ⟨xr, hxr, hdir⟩ := hT.root
      have HAD : Hid (∀ W v n mm, Below V.heap.size V W → V.heap.size ≤ n → V.heap.size ≤ mm → TxS W v (splitE s).1 → NodeAt W n (newN k mm) → Calls Tryz.prog 158 #[.pointer (some ⟨T, 0, none⟩), .pointer (some ⟨n, 0, none⟩), v] W (AddEnd G (lastN (splitE s).1) n (newN k mm) W (addE G r (splitE s).1 (newN k 0)))) := show ∀ W v n mm, _ from fun W v n mm hW hn hmm hv hz => by
        have hTW := hT.below hW
        have := add10_any hTW.nodes hTW.leads hTW.at_ hxr (names := (splitE s).1) (by omega) (rightN_short hsr) hv hz (fun d x hd _ => by
          have h1 := (hT.nodes d x hd).blk.lt
          have h2 := (hT.nodes d x hd).names.lt
          exact ⟨by omega, by show x.map ≠ mm; omega⟩) (fun d x hd => by have := hT.cnt d x hd; omega)
        rw [addE_new G r _ k k mm 0] at this
        exact this
      obtain ⟨names, hnm⟩ : ∃ names, (splitE s).1 = names := ⟨_, rfl⟩
      obtain ⟨q, hq⟩ : ∃ q, addE G r names (newN k 0) = q := ⟨_, rfl⟩
      rw [hnm] at HS HAD ⊢
      rw [hq] at HAD ⊢
      have HNM := Lib.hid hnm
      clear hsp hT hmx hs b0 b1 b2 h1 ht h2 hE hk hsl hsr hxr hdir hnm hq hm
      go_enter Tryz.func156, Tryz.ntmps156
      go_wp2_with fail
      refine HS.out.mono ?_
      rintro e w1 ⟨u, rfl, ho, hb⟩
      have HB1 := Lib.hid hb
      have HO := Lib.hid ho
      clear hb ho
      go_wp2_with fail
      have hR := HRR.out _ HB1.out.drew
      refine wp_region_M 4 (fun W : World => W.cell? ⟨bt, 0, none⟩ = some (.pointer (some ⟨T, 0, none⟩)) ∧ W.cell? ⟨bk, 0, none⟩ = some (.int .i64 k) ∧ Below V.heap.size V W) (by kernel_rfl) ?_
      (refine wpAnyM_take2 8 (i := 0) (v := ?_) rfl (by kernel_rfl) (by kernel_rfl) (fun _ _ _ h => h) (Or.inl ⟨by rfl, ?_⟩) hR ?_; rotate_left; (focus (intro w hSw; (try dsimp only at hSw); go_simp; (try with_reducible rfl))); (try simp only [put_laws])); (refine wpAnyM_take2 8 (i := 1) (v := ?_) rfl (by kernel_rfl) (by kernel_rfl) (fun _ _ _ h => h) (Or.inl ⟨by rfl, ?_⟩) hR ?_; rotate_left; (focus (intro w hSw; (try dsimp only at hSw); go_simp; (try with_reducible rfl))); (try simp only [put_laws])); (refine wpAnyM_take2 8 (i := 3) (v := ?_) rfl (by kernel_rfl) (by kernel_rfl) (fun _ _ _ h => h) (Or.inl ⟨by rfl, ?_⟩) hR ?_; rotate_left; (focus (intro w hSw; (try dsimp only at hSw); go_simp; (try with_reducible rfl))); (try simp only [put_laws]))
      (refine wpAnyM_one (i := 2) rfl (by kernel_rfl) (fun K hK => ?_); rw [if_pos (by rfl)]; (try simp only [elem_laws]))
      go_simp
      refine (HMD.out _).mono ?_
      rintro e w2 ⟨rfl, hnd, hsz, hb2⟩
      have hR' := HRR.out _ (hR.2.2.trans (hb2.mono hR.2.2.size))
      have HO2 : Hid (TxS w2 u names) := show TxS _ _ _ from ((HO.out.txs.below (Below.refl _ _).drew).below hb2)
      have HND := Lib.hid hnd
      have HS1 : Hid (V.heap.size ≤ w1.heap.size) := show _ ≤ _ from HB1.out.size
      refine hK _ _ (fun _ => hR') ?_
      clear hK K hR hb2 hnd hsz
      have hR := hR'
      clear hR'
      (try simp only [put_laws])
      (refine wpAnyM_last rfl (by kernel_rfl) (fun K hK => ?_); rw [if_pos (by rfl)]; (try simp only [elem_laws]))
      go_simp
      refine (HAD.out w2 u (w1.heap.size + 1) w1.heap.size hR.2.2 (by have := HS1.out; omega) HS1.out HO2.out HND.out).mono ?_
      have HB2 := Lib.hid hR.2.2
      cases q with
      | error c =>
        rintro e w4 ⟨hc, rfl, hb⟩
        refine ⟨rfl, ?_⟩
        exact (show _ ∧ _ ∧ _ from ⟨hc, rfl, HB2.out.trans (hb.mono HB2.out.size)⟩)
      | ok d2 =>
        rintro e w4 ⟨x2, hx2, ⟨u2, rfl⟩, g1, g2, g3⟩
        have HEND : Hid (∃ x n m, G d2 = some x ∧ V.heap.size ≤ n ∧ V.heap.size ≤ m ∧ n ≠ m ∧ NodeAt w4 d2 { x with nm := putNm x.nm (lastN (splitE s).1) n, cnt := x.cnt + 1 } ∧ NodeAt w4 n { newN k m with links := 1 } ∧ Turn (fun j => j = x.map ∨ V.heap.size ≤ j) V w4) := show ∃ _, _ from by
          rw [HNM.out]
          refine ⟨x2, _, w1.heap.size, hx2, ?_, HS1.out, ?_, g1, g2, ?_⟩
          · have := HS1.out
            omega
          · omega
          · refine (Turn.of_below HB2.out (Nat.le_refl _)).trans (g3.mono fun j hj => ?_)
            rcases hj with rfl | rfl
            · exact .inl rfl
            · have := HS1.out
              exact .inr (by omega)
        refine hK _ _ ?_
        clear hK K hR hx2 g1 g2 g3
        (try simp only [put_laws])
        refine wpAnyM_done (by kernel_rfl) ?_ _
        go_wp2_with fail
        first
        | go_end0
        | refine bodyPost_ret (results_none rfl _ _ _) rfl ?_
        obtain ⟨x, n, mm, e1, e2, e3, e4, e5, e6, e7⟩ := HEND.out
        exact (show ∃ _, _ from ⟨x, n, mm, e1, e2, e3, e4, ⟨_, rfl⟩, e5, e6, e7⟩)
  · have hsp := split10_no s hs V hmx h1
    have hE : makeE G r s k = .error (splitE s).2 := by unfold makeE; rw [if_pos h1]
    rw [hE]
    have HS := Lib.hid hsp
    have H1 := Lib.hid h1
    obtain ⟨t, ht⟩ : ∃ t, encStr s = t := ⟨_, rfl⟩
    rw [ht] at HS c0
    clear hsp hT hmx hs b0 b1 b2 h1 ht hE
    go_enter Tryz.func156, Tryz.ntmps156
    go_wp2_with fail
    refine HS.out.mono ?_
    rintro e w1 ⟨rfl, hb⟩
    refine ⟨rfl, ?_⟩
    exact (show _ ∧ _ ∧ _ from ⟨H1.out, rfl, hb⟩)
end Go.Proofs.YtgoemaecdolioaaGreatDoor

/-
  tree: Make, as it is called.
-/
namespace Go.Proofs.YtgoemaecdolioaaGreatDoor
open Go.RowKit Go.Shelf
attribute [local go_sem] Oper.semAt_some

theorem boxed_noU8 {W : World} {E : Nat} {t : TypeId} {c : Int} (h : Boxed W E t (.int .i64 c)) : NoU8 W E := fun off z e => by
  have := cell_of_row W E off _ t (0, 0) h
  rw [this] at e
  rcases off with _ | off <;> simp at e
end Go.Proofs.YtgoemaecdolioaaGreatDoor

/-
  tree: names put and taken away; nodes that change; what an operation leaves.
-/
namespace Go.Proofs.YtgoemaecdolioaaGreatDoor
open Go.RowKit Go.Shelf
attribute [local go_sem] Oper.semAt_some

theorem look_ins (s : List UInt8) (p : Nat) (s' : List UInt8) : ∀ (l : Nm), (∀ q ∈ l, q.1 ≠ s) → lookNm (insNm (s, p) l) s' = if s' = s then some p else lookNm l s'
  | [], _ => by
    unfold insNm lookNm
    by_cases h : s' = s
    · subst h; simp
    · rw [if_neg h]
      have : (s == s') = false := by simpa using fun e => h e.symm
      simp [this]
  | y :: r, h => by
    have hy : y.1 ≠ s := h y (by simp)
    unfold insNm
    split
    · unfold lookNm
      by_cases e : s' = s
      · subst e; simp
      · rw [if_neg e]
        have : (s == s') = false := by simpa using fun e2 => e e2.symm
        simp [List.find?_cons, this]
    · have ih := look_ins s p s' r (fun q hq => h q (by simp [hq]))
      by_cases e : s' = s
      · subst e
        rw [if_pos rfl] at ih ⊢
        have : (y.1 == s') = false := by simpa using hy
        unfold lookNm at ih ⊢
        rw [List.find?_cons, this]
        exact ih
      · rw [if_neg e] at ih ⊢
        unfold lookNm at ih ⊢
        rw [List.find?_cons, List.find?_cons]
        cases y.1 == s'
        · exact ih
        · rfl
theorem look_del (nm : Nm) (s s' : List UInt8) : lookNm (delNm nm s) s' = if s' = s then none else lookNm nm s' := by
  unfold delNm
  induction nm with
  | nil => unfold lookNm; split <;> rfl
  | cons y r ih =>
    rw [List.filter_cons]
    by_cases hy : y.1 = s
    · have h1 : (!(y.1 == s)) = false := by simp [hy]
      rw [h1, if_neg (by decide), ih]
      by_cases e : s' = s
      · rw [if_pos e, if_pos e]
      · rw [if_neg e, if_neg e]
        unfold lookNm
        have : (y.1 == s') = false := by rw [hy]; simpa using fun e2 => e e2.symm
        rw [List.find?_cons, this]
    · have h1 : (!(y.1 == s)) = true := by simp [hy]
      rw [h1, if_pos rfl]
      unfold lookNm at ih ⊢
      rw [List.find?_cons, List.find?_cons]
      by_cases e : s' = s
      · have : (y.1 == s') = false := by rw [e]; simpa using hy
        rw [this]
        exact ih
      · cases y.1 == s'
        · exact ih
        · rw [if_neg e]
theorem look_put (nm : Nm) (s : List UInt8) (p : Nat) (s' : List UInt8) : lookNm (putNm nm s p) s' = if s' = s then some p else lookNm nm s' := by
  unfold putNm
  rw [look_ins s p s' _ (fun q hq => by
    unfold delNm at hq
    have := (List.mem_filter.1 hq).2
    simpa using this), look_del]
  by_cases h : s' = s
  · rw [if_pos h, if_pos h]
  · rw [if_neg h, if_neg h, if_neg h]
/-- The blocks of nodes. -/
def Foot (G : Gr) (j : Nat) : Prop := ∃ b x, G b = some x ∧ (j = b ∨ j = x.map)
theorem Foot.lt {W : World} {G : Gr} (hG : GraphAt W G) {j : Nat} (h : Foot G j) : j < W.heap.size := by
  obtain ⟨b, x, hx, rfl | rfl⟩ := h
  · exact (hG _ x hx).blk.lt
  · exact (hG b x hx).names.lt
theorem Foot.noU8 {W : World} {G : Gr} (hG : GraphAt W G) {j : Nat} (h : Foot G j) : NoU8 W j := by
  obtain ⟨b, x, hx, rfl | rfl⟩ := h
  · exact (hG _ x hx).noU8
  · exact (hG b x hx).mapU8
theorem TreeG.not_foot {W : World} {T r m : Nat} {G : Gr} (h : TreeG W T r G m) : ¬ Foot G T := by
  rintro ⟨b, x, hx, rfl | rfl⟩
  · have h1 := (h.nodes _ x hx).blk
    have h2 := h.at_
    unfold Blk at h1
    unfold TreeAt Boxed at h2
    rw [h1] at h2
    simp [TN.cells] at h2
  · obtain ⟨es, clock, hm, -⟩ := (h.nodes b x hx).names
    have h2 := h.at_
    unfold TreeAt Boxed at h2
    rw [hm] at h2
    cases h2
theorem boxed_not_foot {W : World} {G : Gr} (hG : GraphAt W G) {E : Nat} {t : TypeId} {v : Value} (hE : Boxed W E t v) : ¬ Foot G E := by
  rintro ⟨b, x, hx, rfl | rfl⟩
  · have h1 := (hG _ x hx).blk
    unfold Blk at h1
    unfold Boxed at hE
    rw [h1] at hE
    simp [TN.cells] at hE
  · obtain ⟨es, clock, hm, -⟩ := (hG b x hx).names
    unfold Boxed at hE
    rw [hm] at hE
    cases hE
/-- What turns elsewhere leaves a tree. -/
theorem TreeG.turn {W W' : World} {T r m : Nat} {G : Gr} {q : Nat → Prop} (h : TreeG W T r G m) (ht : Turn q W W') (hq : ∀ j, q j → j < W.heap.size → NoU8 W j) (hf : ∀ j, q j → ¬ Foot G j) (hT : ¬ q T) : TreeG W' T r G m :=
  ⟨(ht.block T h.at_.lt hT).trans h.at_, fun b x hx => (h.nodes b x hx).turn ht hq (fun e => hf _ e ⟨b, x, hx, .inl rfl⟩) (fun e => hf _ e ⟨b, x, hx, .inr rfl⟩), h.leads, h.apart, h.root, h.cnt⟩
/-- What an operation leaves: another tree at the same place, and nothing else turned; Rl: what is the other tree. -/
def Leaves10 (T r m : Nat) (G : Gr) (Rl : Nat → Gr → Prop) (w w' : World) : Prop := ∃ G', TreeG w' T r G' (m + 1) ∧ Turn (fun j => Foot G j ∨ w.heap.size ≤ j) w w' ∧ Rl w.heap.size G'
def ClosEnd (T r m : Nat) (G : Gr) (q : Except Int (Nat → Gr → Prop)) (V : World) (e : Ending) (w' : World) : Prop := match q with
  | .error c => c ≠ 0 ∧ e = .panicked (refuse c) ∧ Below V.heap.size V w'
  | .ok Rl => (∃ u, e = .returned u) ∧ Leaves10 T r m G Rl V w'
def OpEnd (T r m : Nat) (G : Gr) (q : Except Int (Nat → Gr → Prop)) (V : World) (e : Ending) (w' : World) : Prop := match q with
  | .error c => e = .returned (.int .i64 c) ∧ Below V.heap.size V w'
  | .ok Rl => e = .returned (.int .i64 0) ∧ Leaves10 T r m G Rl V w'
/-- A relation that a lower bound of new blocks leaves. -/
def Lower (q : Except Int (Nat → Gr → Prop)) : Prop := match q with
  | .error _ => True
  | .ok Rl => ∀ n n' G, n' ≤ n → Rl n G → Rl n' G
/-- tried, of what changes a tree. -/
theorem tried_op {f : FuncId} (hf : Enters Tryz.prog f) (caps : Array Value) {w W3 : World} {T r m : Nat} {G : Gr} (hT : TreeG w T r G m) (hb3 : Below w.heap.size w W3) (q : Except Int (Nat → Gr → Prop)) (hq : Lower q)
    (hcl : Calls Tryz.prog f caps (W3.alloc (.cells #[.int .i64 0] 30)) (ClosEnd T r m G q (W3.alloc (.cells #[.int .i64 0] 30)))) :
    Calls Tryz.prog 155 #[.pointer (some ⟨T, 0, none⟩), .func (.func f) #[] caps] W3 (OpEnd T r m G q w) := by
  obtain ⟨V, hV⟩ : ∃ V, W3.alloc (.cells #[.int .i64 0] 30) = V := ⟨_, rfl⟩
  rw [hV] at hcl
  have h3V : Below W3.heap.size W3 V := by rw [← hV]; exact (Below.refl _ _).alloc (Nat.le_refl _) _
  have hbV : Below w.heap.size w V := hb3.trans (h3V.mono hb3.size)
  have hzV : V.heap.size = W3.heap.size + 1 := by rw [← hV, World.size_alloc]
  have hs3 := hb3.size
  have bE : Boxed V W3.heap.size 30 (.int .i64 0) := by rw [← hV]; exact Boxed.new _ _ _
  have hTV := hT.below hbV
  refine (tried10_any hf caps W3 ((hT.below hb3).at_) (fun c w1 => Boxed w1 W3.heap.size 30 (.int .i64 0) ∧ match q with
    | .error k => c = k ∧ Below V.heap.size V w1
    | .ok Rl => c = 0 ∧ Leaves10 T r m G Rl V w1) ?_).mono ?_
  · rw [hV]
    refine hcl.mono fun e w1 h => ?_
    cases q with
    | error c =>
      obtain ⟨h1, h2, h3⟩ := h
      have hbx : Boxed w1 W3.heap.size 30 (.int .i64 0) := (h3.block _ (by omega)).trans bE
      exact ⟨c, hbx, ⟨hbx, rfl, h3⟩, .inr ⟨h1, h2⟩⟩
    | ok Rl =>
      obtain ⟨h1, G', h2, h3, h4⟩ := h
      have hbx : Boxed w1 W3.heap.size 30 (.int .i64 0) := (h3.block _ (by omega) (fun hj => by
        rcases hj with hj | hj
        · exact boxed_not_foot hTV.nodes bE hj
        · omega)).trans bE
      exact ⟨0, hbx, ⟨hbx, rfl, G', h2, h3, h4⟩, .inl ⟨rfl, h1⟩⟩
  · rintro e w' ⟨c, w1, rfl, ⟨hbx, h⟩, ht⟩
    have hno : ∀ j, (fun j => j = W3.heap.size) j → j < w1.heap.size → NoU8 w1 j := fun j hj _ => by
      subst hj
      exact boxed_noU8 hbx
    cases q with
    | error k =>
      obtain ⟨rfl, hb⟩ := h
      exact (show _ ∧ _ from ⟨rfl, hbV.trans ((hb.mono hbV.size).trans (ht.below (B := w.heap.size) (fun j hj => by omega) (Nat.le_trans hbV.size hb.size)))⟩)
    | ok Rl =>
      obtain ⟨rfl, G', h2, h3, h4⟩ := h
      refine (show _ ∧ _ from ⟨rfl, G', h2.turn ht hno (fun j hj => by subst hj; exact boxed_not_foot h2.nodes hbx) (fun e => ?_), ?_, hq _ _ _ hbV.size h4⟩)
      · have l1 := hT.at_.lt
        omega
      · refine ((Turn.of_below hbV (Nat.le_refl _)).trans (h3.mono fun j hj => ?_)).trans (ht.mono fun j hj => ?_)
        · rcases hj with hj | hj
          · exact .inl hj
          · exact .inr (by omega)
        · exact .inr (by omega)
end Go.Proofs.YtgoemaecdolioaaGreatDoor

/-
  tree: a name more, a name less: the nodes behind it. Make.
-/
namespace Go.Proofs.YtgoemaecdolioaaGreatDoor
open Go.RowKit Go.Shelf
attribute [local go_sem] Oper.semAt_some

def setG (G : Gr) (b : Nat) (x : TN) : Gr := fun j => if j = b then some x else G j
theorem setG_same (G : Gr) (b : Nat) (x : TN) : setG G b x b = some x := if_pos rfl
theorem setG_other (G : Gr) {b j : Nat} (x : TN) (h : j ≠ b) : setG G b x j = G j := if_neg h
/-- A name more: at d, to n. -/
def addG (G : Gr) (d : Nat) (x : TN) (s : List UInt8) (n : Nat) (z : TN) : Gr := setG (setG G d { x with nm := putNm x.nm s n, cnt := x.cnt + 1 }) n { z with links := z.links + 1 }
theorem addG_cases {G : Gr} {d n b : Nat} {x z y : TN} {s : List UInt8} (hdn : d ≠ n) (h : addG G d x s n z b = some y) :
    (b = n ∧ y = { z with links := z.links + 1 }) ∨ (b = d ∧ y = { x with nm := putNm x.nm s n, cnt := x.cnt + 1 }) ∨ (b ≠ n ∧ b ≠ d ∧ G b = some y) := by
  unfold addG at h
  by_cases h1 : b = n
  · subst h1
    rw [setG_same] at h
    exact .inl ⟨rfl, (Option.some.inj h).symm⟩
  · rw [setG_other _ _ h1] at h
    by_cases h2 : b = d
    · subst h2
      rw [setG_same] at h
      exact .inr (.inl ⟨rfl, (Option.some.inj h).symm⟩)
    · rw [setG_other _ _ h2] at h
      exact .inr (.inr ⟨h1, h2, h⟩)
theorem addG_some {G : Gr} {d n c : Nat} {x z : TN} {s : List UInt8} (h : c = n ∨ c = d ∨ ∃ y, G c = some y) : ∃ y, addG G d x s n z c = some y := by
  unfold addG
  by_cases h1 : c = n
  · exact ⟨_, by rw [h1]; exact setG_same _ _ _⟩
  · rw [setG_other _ _ h1]
    by_cases h2 : c = d
    · exact ⟨_, by rw [h2]; exact setG_same _ _ _⟩
    · rw [setG_other _ _ h2]
      rcases h with h | h | h
      · exact absurd h h1
      · exact absurd h h2
      · exact h
theorem TreeG.added {V w1 : World} {T r m d n : Nat} {G : Gr} {x z : TN} {s : List UInt8} (h : TreeG V T r G m) (hx : G d = some x)
    (hd : NodeAt w1 d { x with nm := putNm x.nm s n, cnt := x.cnt + 1 }) (hn : NodeAt w1 n { z with links := z.links + 1 })
    (hz : G n = some z ∨ (V.heap.size ≤ n ∧ V.heap.size ≤ z.map ∧ z.nm = [])) (hdn : d ≠ n) (hzc : z.cnt ≤ m + 1)
    (ht : Turn (fun j => j = x.map ∨ j = n ∨ V.heap.size ≤ j) V w1) :
    TreeG w1 T r (addG G d x s n z) (m + 1) ∧ Turn (fun j => Foot G j ∨ V.heap.size ≤ j) V w1 := by
  have hdl := (h.nodes d x hx).blk.lt
  have hnl : ∀ b y, G b = some y → b < V.heap.size ∧ y.map < V.heap.size := fun b y hy => ⟨(h.nodes b y hy).blk.lt, (h.nodes b y hy).names.lt⟩
  have hno : ∀ j, (j = x.map ∨ j = n ∨ V.heap.size ≤ j) → j < V.heap.size → NoU8 V j := fun j hj hl => by
    rcases hj with rfl | rfl | hj
    · exact (h.nodes d x hx).mapU8
    · rcases hz with hz | hz
      · exact (h.nodes _ z hz).noU8
      · omega
    · omega
  have hTq : ¬ (T = x.map ∨ T = n ∨ V.heap.size ≤ T) := by
    have hl := h.at_.lt
    rintro (e | e | e)
    · exact h.not_foot ⟨d, x, hx, .inr e⟩
    · rcases hz with hz | hz
      · exact h.not_foot ⟨n, z, hz, .inl e⟩
      · omega
    · omega
  have hold : ∀ b y, G b = some y → b ≠ n → b ≠ d → NodeAt w1 b y := fun b y hy h1 h2 => by
    have hb := h.nodes b y hy
    have l1 := hb.blk.lt
    have l2 := hb.names.lt
    refine hb.turn ht hno ?_ ?_
    · rintro (e | e | e)
      · exact hb.ne_map (h.nodes d x hx) e
      · exact h1 e
      · omega
    · rintro (e | e | e)
      · exact h2 (h.apart b d y x hy hx e)
      · rcases hz with hz | hz
        · exact (h.nodes n z hz).ne_map hb e.symm
        · omega
      · omega
  refine ⟨⟨(ht.block T h.at_.lt hTq).trans h.at_, fun b y hy => ?_, fun b y s' c hy hc => ?_, fun b c y y' hy hy' he => ?_, ?_, fun b y hy => ?_⟩, ht.mono fun j hj => ?_⟩
  · rcases addG_cases hdn hy with ⟨rfl, rfl⟩ | ⟨rfl, rfl⟩ | ⟨h1, h2, h3⟩
    · exact hn
    · exact hd
    · exact hold b y h3 h1 h2
  · rcases addG_cases hdn hy with ⟨rfl, rfl⟩ | ⟨rfl, rfl⟩ | ⟨h1, h2, h3⟩
    · rcases hz with hz | ⟨-, -, hz⟩
      · exact addG_some (.inr (.inr (h.leads b z s' c hz hc)))
      · have hc' : lookNm z.nm s' = some c := hc
        rw [hz] at hc'
        cases hc'
    · have hc' : lookNm (putNm x.nm s n) s' = some c := hc
      rw [look_put] at hc'
      split at hc'
      · cases hc'
        exact addG_some (.inl rfl)
      · exact addG_some (.inr (.inr (h.leads b x s' c hx hc')))
    · exact addG_some (.inr (.inr (h.leads b y s' c h3 hc)))
  · have key : ∀ b y, addG G d x s n z b = some y → (b = n ∧ y.map = z.map) ∨ (b ≠ n ∧ ∃ y0, G b = some y0 ∧ y.map = y0.map) := fun b y hy => by
      rcases addG_cases hdn hy with ⟨rfl, rfl⟩ | ⟨rfl, rfl⟩ | ⟨h1, h2, h3⟩
      · exact .inl ⟨rfl, rfl⟩
      · exact .inr ⟨hdn, x, hx, rfl⟩
      · exact .inr ⟨h1, y, h3, rfl⟩
    rcases key b y hy with ⟨rfl, e1⟩ | ⟨hb, y0, g0, e1⟩
    · rcases key c y' hy' with ⟨rfl, e2⟩ | ⟨hc, y1, g1, e2⟩
      · rfl
      · rcases hz with hz | ⟨-, hz, -⟩
        · exact h.apart b c z y1 hz g1 (by rw [← e1, ← e2]; exact he)
        · have := (hnl c y1 g1).2
          omega
    · rcases key c y' hy' with ⟨rfl, e2⟩ | ⟨hc, y1, g1, e2⟩
      · rcases hz with hz | ⟨-, hz, -⟩
        · exact h.apart b c y0 z g0 hz (by rw [← e1, ← e2]; exact he)
        · have := (hnl b y0 g0).2
          omega
      · exact h.apart b c y0 y1 g0 g1 (by rw [← e1, ← e2]; exact he)
  · obtain ⟨xr, hr, hdir⟩ := h.root
    by_cases h1 : r = n
    · subst h1
      rcases hz with hz | ⟨hz, -⟩
      · rw [hz] at hr
        cases hr
        exact ⟨_, setG_same _ _ _, hdir⟩
      · have := (hnl r xr hr).1
        omega
    · by_cases h2 : r = d
      · subst h2
        rw [hx] at hr
        cases hr
        exact ⟨_, (setG_other _ _ h1).trans (setG_same _ _ _), hdir⟩
      · exact ⟨xr, (setG_other _ _ h1).trans ((setG_other _ _ h2).trans hr), hdir⟩
  · rcases addG_cases hdn hy with ⟨rfl, rfl⟩ | ⟨rfl, rfl⟩ | ⟨h1, h2, h3⟩
    · exact hzc
    · have := h.cnt b x hx
      show x.cnt + 1 ≤ m + 1
      omega
    · have := h.cnt b y h3
      omega
  · rcases hj with rfl | rfl | hj
    · exact .inl ⟨d, x, hx, .inr rfl⟩
    · rcases hz with hz | ⟨hz, -⟩
      · exact .inl ⟨j, z, hz, .inl rfl⟩
      · exact .inr hz
    · exact .inr hj
/-- What Make leaves. -/
def makeR (G : Gr) (s : List UInt8) (k : Int) (d : Nat) : Nat → Gr → Prop := fun N G' => ∃ x n m, G d = some x ∧ N ≤ n ∧ N ≤ m ∧ n ≠ m ∧ G' = addG G d x (lastN (splitE s).1) n (newN k m)
def makeQ (G : Gr) (r : Nat) (s : List UInt8) (k : Int) : Except Int (Nat → Gr → Prop) := match makeE G r s k with
  | .error c => .error c
  | .ok d => .ok (makeR G s k d)
theorem makeClos_any {G : Gr} {V : World} {T r m bp bt bk : Nat} (hT : TreeG V T r G m) (hm : m < 90000) (hmx : MaxC V) (s : List UInt8) (hs : s.length ≤ 1000000) (k : Int) (b0 : Boxed V bp 9 (encStr s)) (b1 : Boxed V bt 52 (.pointer (some ⟨T, 0, none⟩))) (b2 : Boxed V bk 41 (.int .i64 k)) :
    Calls Tryz.prog 156 #[.pointer (some ⟨bp, 0, none⟩), .pointer (some ⟨bt, 0, none⟩), .pointer (some ⟨bk, 0, none⟩)] V (ClosEnd T r m G (makeQ G r s k) V) := by
  refine (make1_any hT hm hmx s hs k b0 b1 b2).mono fun e w1 h => ?_
  unfold makeQ
  cases hq : makeE G r s k with
  | error c => rw [hq] at h; exact h
  | ok d =>
    rw [hq] at h
    obtain ⟨x, n, mm, h1, h2, h3, h4, h5, h6, h7, h8⟩ := h
    have hdl := (hT.nodes d x h1).blk.lt
    obtain ⟨g1, g2⟩ := hT.added h1 h6 h7 (.inr ⟨h2, h3, rfl⟩) (by omega) (by show 0 ≤ m + 1; omega) (h8.mono fun j hj => by
      rcases hj with hj | hj
      · exact .inl hj
      · exact .inr (.inr hj))
    exact (show _ ∧ _ from ⟨h5, _, g1, g2, x, n, mm, h1, h2, h3, h4, rfl⟩)
theorem makeQ_lower (G : Gr) (r : Nat) (s : List UInt8) (k : Int) : Lower (makeQ G r s k) := by
  unfold makeQ
  cases makeE G r s k with
  | error c => trivial
  | ok d =>
    rintro n n' G' hn ⟨x, a, b, h1, h2, h3, h4, h5⟩
    exact ⟨x, a, b, h1, Nat.le_trans hn h2, Nat.le_trans hn h3, h4, h5⟩
end Go.Proofs.YtgoemaecdolioaaGreatDoor
