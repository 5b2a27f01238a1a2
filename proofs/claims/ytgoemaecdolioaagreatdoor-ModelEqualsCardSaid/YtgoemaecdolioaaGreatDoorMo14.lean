/-
  Texts TeY to TeZ, as one.
-/
import Derived.Test.YtgoemaecdolioaaGreatDoorMo13
/-
  tree: Kind, Links. Written by gen_tey.py.
-/
namespace Go.Proofs.YtgoemaecdolioaaGreatDoor
open Go.RowKit Go.Shelf
attribute [local go_sem] Oper.semAt_some

/-- The node that is asked. -/
def askE (G : Gr) (r : Nat) (s : List UInt8) : Except Int Nat := if (splitE s).2 ≠ 0 then .error (splitE s).2 else walkN G r (splitE s).1
/-- What is told of it, or an error. -/
def askV (G : Gr) (r : Nat) (s : List UInt8) (f : TN → Int) : Int × Int := match askE G r s with
  | .error c => (0, c)
  | .ok b => match G b with
    | some x => (f x, 0)
    | none => (0, 0)
set_option maxRecDepth 100000 in
set_option maxHeartbeats 16000000 in
theorem toldKind1_any {G : Gr} {V : World} {T r m ba bt bp bx : Nat} (hT : TreeG V T r G m) (hmx : MaxC V) (s : List UInt8) (hs : s.length ≤ 1000000) (b3 : Boxed V ba 193 (.func (.func 136) #[] #[])) (b1 : Boxed V bt 52 (.pointer (some ⟨T, 0, none⟩))) (b0 : Boxed V bp 9 (encStr s)) (b2 : Boxed V bx 41 (.int .i64 0)) :
    Calls Tryz.prog 174 #[.pointer (some ⟨ba, 0, none⟩), .pointer (some ⟨bt, 0, none⟩), .pointer (some ⟨bp, 0, none⟩), .pointer (some ⟨bx, 0, none⟩)] V fun e w' => Turn (fun k => k = bx) V w' ∧ ∃ c, Boxed w' bx 41 (.int .i64 (askV G r s fun x => x.kind).1) ∧ c = (askV G r s fun x => x.kind).2 ∧ ((c = 0 ∧ ∃ u, e = .returned u) ∨ (c ≠ 0 ∧ e = .panicked (refuse c))) := by
  obtain ⟨xr, hxr, hdir⟩ := hT.root
  obtain ⟨t, ht⟩ : ∃ t, encStr s = t := ⟨_, rfl⟩
  rw [ht] at b0
  have HR0 : Hid (∀ W, Below V.heap.size V W → (fun W : World => W.cell? ⟨ba, 0, none⟩ = some (.func (.func 136) #[] #[]) ∧ W.cell? ⟨bt, 0, none⟩ = some (.pointer (some ⟨T, 0, none⟩)) ∧ W.cell? ⟨bp, 0, none⟩ = some t ∧ Below V.heap.size V W) W) := show ∀ W, _ from fun W hW => ⟨(boxed_low b3 hW).cell, (boxed_low b1 hW).cell, (boxed_low b0 hW).cell, hW⟩
  have HBX : Hid (∀ W, Below V.heap.size V W → Boxed W bx 41 (.int .i64 0)) := show ∀ W, _ from fun W hW => boxed_low b2 hW
  by_cases h1 : (splitE s).2 = 0
  · have HS := Lib.hid (fun W (hW : Below V.heap.size V W) => split10_ok s hs W (hmx.below hW hmx.room) h1)
    rw [ht] at HS
    have hsl := splitE_len s
    have hsr := splitE_right s
    have HAT := Lib.hid (fun W v (hW : Below V.heap.size V W) (hv : TxS W v (splitE s).1) => at10_any (hT.below hW).nodes hT.leads (hT.below hW).at_ hxr (names := (splitE s).1) (by omega) (rightN_short hsr) hv)
    have hA : askE G r s = walkN G r (splitE s).1 := if_neg (by simpa using h1)
    cases hw : walkN G r (splitE s).1 with
    | error c =>
      have hc : c ≠ 0 := by rcases walkN_err hT.leads _ _ _ _ hxr hw with rfl | rfl <;> decide
      rw [hw] at HAT hA
      have hv : askV G r s (fun x => x.kind) = (0, c) := by unfold askV; rw [hA]
      rw [hv]
      have HC := Lib.hid hc
      obtain ⟨names, hnm⟩ : ∃ names, (splitE s).1 = names := ⟨_, rfl⟩
      rw [hnm] at HS HAT
      clear hT hmx hs b0 b1 b2 b3 hxr hdir h1 ht hsl hsr hA hw hc hv hnm
      go_enter Tryz.func174, Tryz.ntmps174
      go_wp2_with fail
      have hR := HR0.out _ (Below.refl _ V).drew
      refine wp_region_M 6 (fun W : World => W.cell? ⟨ba, 0, none⟩ = some (.func (.func 136) #[] #[]) ∧ W.cell? ⟨bt, 0, none⟩ = some (.pointer (some ⟨T, 0, none⟩)) ∧ W.cell? ⟨bp, 0, none⟩ = some t ∧ Below V.heap.size V W) (by kernel_rfl) ?_
      (refine wpAnyM_take2 8 (i := 0) (v := ?_) rfl (by kernel_rfl) (by kernel_rfl) (fun _ _ _ h => h) (Or.inl ⟨by rfl, ?_⟩) hR ?_; rotate_left; (focus (intro w hSw; (try dsimp only at hSw); go_simp; (try with_reducible rfl))); (try simp only [put_laws])); (refine wpAnyM_take2 8 (i := 1) (v := ?_) rfl (by kernel_rfl) (by kernel_rfl) (fun _ _ _ h => h) (Or.inl ⟨by rfl, ?_⟩) hR ?_; rotate_left; (focus (intro w hSw; (try dsimp only at hSw); go_simp; (try with_reducible rfl))); (try simp only [put_laws])); (refine wpAnyM_take2 8 (i := 2) (v := ?_) rfl (by kernel_rfl) (by kernel_rfl) (fun _ _ _ h => h) (Or.inl ⟨by rfl, ?_⟩) hR ?_; rotate_left; (focus (intro w hSw; (try dsimp only at hSw); go_simp; (try with_reducible rfl))); (try simp only [put_laws]))
      (refine wpAnyM_one (i := 3) rfl (by kernel_rfl) (fun K hK => ?_); rw [if_pos (by rfl)]; (try simp only [elem_laws]))
      go_simp
      refine (HS.out _ hR.2.2.2).mono ?_
      rintro e w1 ⟨u, rfl, ho, hb⟩
      have hR' := HR0.out _ (hR.2.2.2.trans (hb.mono hR.2.2.2.size))
      refine hK _ _ (fun _ => hR') ?_
      clear hK K hR hb
      have hR := hR'
      clear hR'
      (try simp only [put_laws])
      (refine wpAnyM_one (i := 4) rfl (by kernel_rfl) (fun K hK => ?_); rw [if_pos (by rfl)]; (try simp only [elem_laws]))
      go_simp
      refine (HAT.out _ _ hR.2.2.2 ho.txs).mono ?_
      rintro e w2 ⟨hb, rfl⟩
      have hb2 := hR.2.2.2.trans (hb.mono hR.2.2.2.size)
      exact ⟨rfl, Turn.of_below hb2 (Nat.le_refl _), c, HBX.out _ hb2, rfl, .inr ⟨HC.out, rfl⟩⟩
    | ok b =>
      obtain ⟨x, hx⟩ := walkN_leads hT.leads _ _ _ _ hxr hw
      rw [hw] at HAT hA
      have hv : askV G r s (fun x => x.kind) = (x.kind, 0) := by unfold askV; rw [hA]; simp only [hx]
      rw [hv]
      have HAK := Lib.hid (fun W (hW : Below V.heap.size V W) => askKind_any ((hT.below hW).nodes b x hx))
      obtain ⟨names, hnm⟩ : ∃ names, (splitE s).1 = names := ⟨_, rfl⟩
      rw [hnm] at HS HAT
      obtain ⟨z, hz⟩ : ∃ z, x.kind = z := ⟨_, rfl⟩
      rw [hz] at HAK ⊢
      clear hT hmx hs b0 b1 b2 b3 hxr hdir h1 ht hsl hsr hA hw hv hnm hx hz
      go_enter Tryz.func174, Tryz.ntmps174
      go_wp2_with fail
      have hR := HR0.out _ (Below.refl _ V).drew
      refine wp_region_M 6 (fun W : World => W.cell? ⟨ba, 0, none⟩ = some (.func (.func 136) #[] #[]) ∧ W.cell? ⟨bt, 0, none⟩ = some (.pointer (some ⟨T, 0, none⟩)) ∧ W.cell? ⟨bp, 0, none⟩ = some t ∧ Below V.heap.size V W) (by kernel_rfl) ?_
      (refine wpAnyM_take2 8 (i := 0) (v := ?_) rfl (by kernel_rfl) (by kernel_rfl) (fun _ _ _ h => h) (Or.inl ⟨by rfl, ?_⟩) hR ?_; rotate_left; (focus (intro w hSw; (try dsimp only at hSw); go_simp; (try with_reducible rfl))); (try simp only [put_laws])); (refine wpAnyM_take2 8 (i := 1) (v := ?_) rfl (by kernel_rfl) (by kernel_rfl) (fun _ _ _ h => h) (Or.inl ⟨by rfl, ?_⟩) hR ?_; rotate_left; (focus (intro w hSw; (try dsimp only at hSw); go_simp; (try with_reducible rfl))); (try simp only [put_laws])); (refine wpAnyM_take2 8 (i := 2) (v := ?_) rfl (by kernel_rfl) (by kernel_rfl) (fun _ _ _ h => h) (Or.inl ⟨by rfl, ?_⟩) hR ?_; rotate_left; (focus (intro w hSw; (try dsimp only at hSw); go_simp; (try with_reducible rfl))); (try simp only [put_laws]))
      (refine wpAnyM_one (i := 3) rfl (by kernel_rfl) (fun K hK => ?_); rw [if_pos (by rfl)]; (try simp only [elem_laws]))
      go_simp
      refine (HS.out _ hR.2.2.2).mono ?_
      rintro e w1 ⟨u, rfl, ho, hb⟩
      have hR' := HR0.out _ (hR.2.2.2.trans (hb.mono hR.2.2.2.size))
      refine hK _ _ (fun _ => hR') ?_
      clear hK K hR hb
      have hR := hR'
      clear hR'
      (try simp only [put_laws])
      (refine wpAnyM_one (i := 4) rfl (by kernel_rfl) (fun K hK => ?_); rw [if_pos (by rfl)]; (try simp only [elem_laws]))
      go_simp
      refine (HAT.out _ _ hR.2.2.2 ho.txs).mono ?_
      rintro e w2 ⟨hb, rfl⟩
      have hR' := HR0.out _ (hR.2.2.2.trans (hb.mono hR.2.2.2.size))
      refine hK _ _ (fun _ => hR') ?_
      clear hK K hR hb ho
      have hR := hR'
      clear hR'
      (try simp only [put_laws])
      (refine wpAnyM_one (i := 5) rfl (by kernel_rfl) (fun K hK => ?_); rw [if_pos (by rfl)]; (try simp only [elem_laws]))
      go_simp
      refine (HAK.out _ hR.2.2.2).mono ?_
      rintro e w3 ⟨rfl, rfl⟩
      refine hK _ _ (fun _ => hR) ?_
      clear hK K
      (try simp only [put_laws])
      have hbx := HBX.out _ hR.2.2.2
      have xc := hbx.cell
      have xf := hbx.frozen
      have HB3 := Lib.hid hR.2.2.2
      have HX3 := Lib.hid hbx
      clear hbx
      (refine wpAnyM_last rfl (by kernel_rfl) (fun K hK => ?_); rw [if_pos (by rfl)]; (try simp only [elem_laws]))
      go_simp
      refine hK _ _ ?_
      clear hK K hR xc xf
      (try simp only [put_laws])
      refine wpAnyM_done (by kernel_rfl) ?_ _
      go_wp2_with fail
      first
      | go_end0
      | refine bodyPost_ret (results_none rfl _ _ _) rfl ?_
      exact ⟨(Turn.of_below HB3.out (Nat.le_refl _)).trans (Turn.setCell _ _ rfl), 0, HX3.out.set _, rfl, .inl ⟨rfl, _, rfl⟩⟩
  · have HS := Lib.hid (fun W (hW : Below V.heap.size V W) => split10_no s hs W (hmx.below hW hmx.room) h1)
    rw [ht] at HS
    have hv : askV G r s (fun x => x.kind) = (0, (splitE s).2) := by unfold askV askE; rw [if_pos h1]
    rw [hv]
    have H1 := Lib.hid h1
    clear hT hmx hs b0 b1 b2 b3 hxr hdir h1 ht hv
    go_enter Tryz.func174, Tryz.ntmps174
    go_wp2_with fail
    have hR := HR0.out _ (Below.refl _ V).drew
    refine wp_region_M 6 (fun W : World => W.cell? ⟨ba, 0, none⟩ = some (.func (.func 136) #[] #[]) ∧ W.cell? ⟨bt, 0, none⟩ = some (.pointer (some ⟨T, 0, none⟩)) ∧ W.cell? ⟨bp, 0, none⟩ = some t ∧ Below V.heap.size V W) (by kernel_rfl) ?_
    (refine wpAnyM_take2 8 (i := 0) (v := ?_) rfl (by kernel_rfl) (by kernel_rfl) (fun _ _ _ h => h) (Or.inl ⟨by rfl, ?_⟩) hR ?_; rotate_left; (focus (intro w hSw; (try dsimp only at hSw); go_simp; (try with_reducible rfl))); (try simp only [put_laws])); (refine wpAnyM_take2 8 (i := 1) (v := ?_) rfl (by kernel_rfl) (by kernel_rfl) (fun _ _ _ h => h) (Or.inl ⟨by rfl, ?_⟩) hR ?_; rotate_left; (focus (intro w hSw; (try dsimp only at hSw); go_simp; (try with_reducible rfl))); (try simp only [put_laws])); (refine wpAnyM_take2 8 (i := 2) (v := ?_) rfl (by kernel_rfl) (by kernel_rfl) (fun _ _ _ h => h) (Or.inl ⟨by rfl, ?_⟩) hR ?_; rotate_left; (focus (intro w hSw; (try dsimp only at hSw); go_simp; (try with_reducible rfl))); (try simp only [put_laws]))
    (refine wpAnyM_one (i := 3) rfl (by kernel_rfl) (fun K hK => ?_); rw [if_pos (by rfl)]; (try simp only [elem_laws]))
    go_simp
    refine (HS.out _ hR.2.2.2).mono ?_
    rintro e w1 ⟨rfl, hb⟩
    have hb2 := hR.2.2.2.trans (hb.mono hR.2.2.2.size)
    exact ⟨rfl, Turn.of_below hb2 (Nat.le_refl _), _, HBX.out _ hb2, rfl, .inr ⟨H1.out, rfl⟩⟩
set_option maxRecDepth 100000 in
set_option maxHeartbeats 16000000 in
theorem toldLinks1_any {G : Gr} {V : World} {T r m ba bt bp bx : Nat} (hT : TreeG V T r G m) (hmx : MaxC V) (s : List UInt8) (hs : s.length ≤ 1000000) (b3 : Boxed V ba 200 (.func (.func 145) #[] #[])) (b1 : Boxed V bt 52 (.pointer (some ⟨T, 0, none⟩))) (b0 : Boxed V bp 9 (encStr s)) (b2 : Boxed V bx 3 (.int .i64 0)) :
    Calls Tryz.prog 178 #[.pointer (some ⟨ba, 0, none⟩), .pointer (some ⟨bt, 0, none⟩), .pointer (some ⟨bp, 0, none⟩), .pointer (some ⟨bx, 0, none⟩)] V fun e w' => Turn (fun k => k = bx) V w' ∧ ∃ c, Boxed w' bx 3 (.int .i64 (askV G r s fun x => ((x.links : Nat) : Int)).1) ∧ c = (askV G r s fun x => ((x.links : Nat) : Int)).2 ∧ ((c = 0 ∧ ∃ u, e = .returned u) ∨ (c ≠ 0 ∧ e = .panicked (refuse c))) := by
  obtain ⟨xr, hxr, hdir⟩ := hT.root
  obtain ⟨t, ht⟩ : ∃ t, encStr s = t := ⟨_, rfl⟩
  rw [ht] at b0
  have HR0 : Hid (∀ W, Below V.heap.size V W → (fun W : World => W.cell? ⟨ba, 0, none⟩ = some (.func (.func 145) #[] #[]) ∧ W.cell? ⟨bt, 0, none⟩ = some (.pointer (some ⟨T, 0, none⟩)) ∧ W.cell? ⟨bp, 0, none⟩ = some t ∧ Below V.heap.size V W) W) := show ∀ W, _ from fun W hW => ⟨(boxed_low b3 hW).cell, (boxed_low b1 hW).cell, (boxed_low b0 hW).cell, hW⟩
  have HBX : Hid (∀ W, Below V.heap.size V W → Boxed W bx 3 (.int .i64 0)) := show ∀ W, _ from fun W hW => boxed_low b2 hW
  by_cases h1 : (splitE s).2 = 0
  · have HS := Lib.hid (fun W (hW : Below V.heap.size V W) => split10_ok s hs W (hmx.below hW hmx.room) h1)
    rw [ht] at HS
    have hsl := splitE_len s
    have hsr := splitE_right s
    have HAT := Lib.hid (fun W v (hW : Below V.heap.size V W) (hv : TxS W v (splitE s).1) => at10_any (hT.below hW).nodes hT.leads (hT.below hW).at_ hxr (names := (splitE s).1) (by omega) (rightN_short hsr) hv)
    have hA : askE G r s = walkN G r (splitE s).1 := if_neg (by simpa using h1)
    cases hw : walkN G r (splitE s).1 with
    | error c =>
      have hc : c ≠ 0 := by rcases walkN_err hT.leads _ _ _ _ hxr hw with rfl | rfl <;> decide
      rw [hw] at HAT hA
      have hv : askV G r s (fun x => ((x.links : Nat) : Int)) = (0, c) := by unfold askV; rw [hA]
      rw [hv]
      have HC := Lib.hid hc
      obtain ⟨names, hnm⟩ : ∃ names, (splitE s).1 = names := ⟨_, rfl⟩
      rw [hnm] at HS HAT
      clear hT hmx hs b0 b1 b2 b3 hxr hdir h1 ht hsl hsr hA hw hc hv hnm
      go_enter Tryz.func178, Tryz.ntmps178
      go_wp2_with fail
      have hR := HR0.out _ (Below.refl _ V).drew
      refine wp_region_M 6 (fun W : World => W.cell? ⟨ba, 0, none⟩ = some (.func (.func 145) #[] #[]) ∧ W.cell? ⟨bt, 0, none⟩ = some (.pointer (some ⟨T, 0, none⟩)) ∧ W.cell? ⟨bp, 0, none⟩ = some t ∧ Below V.heap.size V W) (by kernel_rfl) ?_
      (refine wpAnyM_take2 8 (i := 0) (v := ?_) rfl (by kernel_rfl) (by kernel_rfl) (fun _ _ _ h => h) (Or.inl ⟨by rfl, ?_⟩) hR ?_; rotate_left; (focus (intro w hSw; (try dsimp only at hSw); go_simp; (try with_reducible rfl))); (try simp only [put_laws])); (refine wpAnyM_take2 8 (i := 1) (v := ?_) rfl (by kernel_rfl) (by kernel_rfl) (fun _ _ _ h => h) (Or.inl ⟨by rfl, ?_⟩) hR ?_; rotate_left; (focus (intro w hSw; (try dsimp only at hSw); go_simp; (try with_reducible rfl))); (try simp only [put_laws])); (refine wpAnyM_take2 8 (i := 2) (v := ?_) rfl (by kernel_rfl) (by kernel_rfl) (fun _ _ _ h => h) (Or.inl ⟨by rfl, ?_⟩) hR ?_; rotate_left; (focus (intro w hSw; (try dsimp only at hSw); go_simp; (try with_reducible rfl))); (try simp only [put_laws]))
      (refine wpAnyM_one (i := 3) rfl (by kernel_rfl) (fun K hK => ?_); rw [if_pos (by rfl)]; (try simp only [elem_laws]))
      go_simp
      refine (HS.out _ hR.2.2.2).mono ?_
      rintro e w1 ⟨u, rfl, ho, hb⟩
      have hR' := HR0.out _ (hR.2.2.2.trans (hb.mono hR.2.2.2.size))
      refine hK _ _ (fun _ => hR') ?_
      clear hK K hR hb
      have hR := hR'
      clear hR'
      (try simp only [put_laws])
      (refine wpAnyM_one (i := 4) rfl (by kernel_rfl) (fun K hK => ?_); rw [if_pos (by rfl)]; (try simp only [elem_laws]))
      go_simp
      refine (HAT.out _ _ hR.2.2.2 ho.txs).mono ?_
      rintro e w2 ⟨hb, rfl⟩
      have hb2 := hR.2.2.2.trans (hb.mono hR.2.2.2.size)
      exact ⟨rfl, Turn.of_below hb2 (Nat.le_refl _), c, HBX.out _ hb2, rfl, .inr ⟨HC.out, rfl⟩⟩
    | ok b =>
      obtain ⟨x, hx⟩ := walkN_leads hT.leads _ _ _ _ hxr hw
      rw [hw] at HAT hA
      have hv : askV G r s (fun x => ((x.links : Nat) : Int)) = (((x.links : Nat) : Int), 0) := by unfold askV; rw [hA]; simp only [hx]
      rw [hv]
      have HAK := Lib.hid (fun W (hW : Below V.heap.size V W) => askLinks_any ((hT.below hW).nodes b x hx))
      obtain ⟨names, hnm⟩ : ∃ names, (splitE s).1 = names := ⟨_, rfl⟩
      rw [hnm] at HS HAT
      obtain ⟨z, hz⟩ : ∃ z, ((x.links : Nat) : Int) = z := ⟨_, rfl⟩
      rw [hz] at HAK ⊢
      clear hT hmx hs b0 b1 b2 b3 hxr hdir h1 ht hsl hsr hA hw hv hnm hx hz
      go_enter Tryz.func178, Tryz.ntmps178
      go_wp2_with fail
      have hR := HR0.out _ (Below.refl _ V).drew
      refine wp_region_M 6 (fun W : World => W.cell? ⟨ba, 0, none⟩ = some (.func (.func 145) #[] #[]) ∧ W.cell? ⟨bt, 0, none⟩ = some (.pointer (some ⟨T, 0, none⟩)) ∧ W.cell? ⟨bp, 0, none⟩ = some t ∧ Below V.heap.size V W) (by kernel_rfl) ?_
      (refine wpAnyM_take2 8 (i := 0) (v := ?_) rfl (by kernel_rfl) (by kernel_rfl) (fun _ _ _ h => h) (Or.inl ⟨by rfl, ?_⟩) hR ?_; rotate_left; (focus (intro w hSw; (try dsimp only at hSw); go_simp; (try with_reducible rfl))); (try simp only [put_laws])); (refine wpAnyM_take2 8 (i := 1) (v := ?_) rfl (by kernel_rfl) (by kernel_rfl) (fun _ _ _ h => h) (Or.inl ⟨by rfl, ?_⟩) hR ?_; rotate_left; (focus (intro w hSw; (try dsimp only at hSw); go_simp; (try with_reducible rfl))); (try simp only [put_laws])); (refine wpAnyM_take2 8 (i := 2) (v := ?_) rfl (by kernel_rfl) (by kernel_rfl) (fun _ _ _ h => h) (Or.inl ⟨by rfl, ?_⟩) hR ?_; rotate_left; (focus (intro w hSw; (try dsimp only at hSw); go_simp; (try with_reducible rfl))); (try simp only [put_laws]))
      (refine wpAnyM_one (i := 3) rfl (by kernel_rfl) (fun K hK => ?_); rw [if_pos (by rfl)]; (try simp only [elem_laws]))
      go_simp
      refine (HS.out _ hR.2.2.2).mono ?_
      rintro e w1 ⟨u, rfl, ho, hb⟩
      have hR' := HR0.out _ (hR.2.2.2.trans (hb.mono hR.2.2.2.size))
      refine hK _ _ (fun _ => hR') ?_
      clear hK K hR hb
      have hR := hR'
      clear hR'
      (try simp only [put_laws])
      (refine wpAnyM_one (i := 4) rfl (by kernel_rfl) (fun K hK => ?_); rw [if_pos (by rfl)]; (try simp only [elem_laws]))
      go_simp
      refine (HAT.out _ _ hR.2.2.2 ho.txs).mono ?_
      rintro e w2 ⟨hb, rfl⟩
      have hR' := HR0.out _ (hR.2.2.2.trans (hb.mono hR.2.2.2.size))
      refine hK _ _ (fun _ => hR') ?_
      clear hK K hR hb ho
      have hR := hR'
      clear hR'
      (try simp only [put_laws])
      (refine wpAnyM_one (i := 5) rfl (by kernel_rfl) (fun K hK => ?_); rw [if_pos (by rfl)]; (try simp only [elem_laws]))
      go_simp
      refine (HAK.out _ hR.2.2.2).mono ?_
      rintro e w3 ⟨rfl, rfl⟩
      refine hK _ _ (fun _ => hR) ?_
      clear hK K
      (try simp only [put_laws])
      have hbx := HBX.out _ hR.2.2.2
      have xc := hbx.cell
      have xf := hbx.frozen
      have HB3 := Lib.hid hR.2.2.2
      have HX3 := Lib.hid hbx
      clear hbx
      (refine wpAnyM_last rfl (by kernel_rfl) (fun K hK => ?_); rw [if_pos (by rfl)]; (try simp only [elem_laws]))
      go_simp
      refine hK _ _ ?_
      clear hK K hR xc xf
      (try simp only [put_laws])
      refine wpAnyM_done (by kernel_rfl) ?_ _
      go_wp2_with fail
      first
      | go_end0
      | refine bodyPost_ret (results_none rfl _ _ _) rfl ?_
      exact ⟨(Turn.of_below HB3.out (Nat.le_refl _)).trans (Turn.setCell _ _ rfl), 0, HX3.out.set _, rfl, .inl ⟨rfl, _, rfl⟩⟩
  · have HS := Lib.hid (fun W (hW : Below V.heap.size V W) => split10_no s hs W (hmx.below hW hmx.room) h1)
    rw [ht] at HS
    have hv : askV G r s (fun x => ((x.links : Nat) : Int)) = (0, (splitE s).2) := by unfold askV askE; rw [if_pos h1]
    rw [hv]
    have H1 := Lib.hid h1
    clear hT hmx hs b0 b1 b2 b3 hxr hdir h1 ht hv
    go_enter Tryz.func178, Tryz.ntmps178
    go_wp2_with fail
    have hR := HR0.out _ (Below.refl _ V).drew
    refine wp_region_M 6 (fun W : World => W.cell? ⟨ba, 0, none⟩ = some (.func (.func 145) #[] #[]) ∧ W.cell? ⟨bt, 0, none⟩ = some (.pointer (some ⟨T, 0, none⟩)) ∧ W.cell? ⟨bp, 0, none⟩ = some t ∧ Below V.heap.size V W) (by kernel_rfl) ?_
    (refine wpAnyM_take2 8 (i := 0) (v := ?_) rfl (by kernel_rfl) (by kernel_rfl) (fun _ _ _ h => h) (Or.inl ⟨by rfl, ?_⟩) hR ?_; rotate_left; (focus (intro w hSw; (try dsimp only at hSw); go_simp; (try with_reducible rfl))); (try simp only [put_laws])); (refine wpAnyM_take2 8 (i := 1) (v := ?_) rfl (by kernel_rfl) (by kernel_rfl) (fun _ _ _ h => h) (Or.inl ⟨by rfl, ?_⟩) hR ?_; rotate_left; (focus (intro w hSw; (try dsimp only at hSw); go_simp; (try with_reducible rfl))); (try simp only [put_laws])); (refine wpAnyM_take2 8 (i := 2) (v := ?_) rfl (by kernel_rfl) (by kernel_rfl) (fun _ _ _ h => h) (Or.inl ⟨by rfl, ?_⟩) hR ?_; rotate_left; (focus (intro w hSw; (try dsimp only at hSw); go_simp; (try with_reducible rfl))); (try simp only [put_laws]))
    (refine wpAnyM_one (i := 3) rfl (by kernel_rfl) (fun K hK => ?_); rw [if_pos (by rfl)]; (try simp only [elem_laws]))
    go_simp
    refine (HS.out _ hR.2.2.2).mono ?_
    rintro e w1 ⟨rfl, hb⟩
    have hb2 := hR.2.2.2.trans (hb.mono hR.2.2.2.size)
    exact ⟨rfl, Turn.of_below hb2 (Nat.le_refl _), _, HBX.out _ hb2, rfl, .inr ⟨H1.out, rfl⟩⟩
end Go.Proofs.YtgoemaecdolioaaGreatDoor

/-
  tree: Put, Link, Drop, Remove, Kind, Links, as they are called. Written by gen_tez.py.
-/
namespace Go.Proofs.YtgoemaecdolioaaGreatDoor
open Go.RowKit Go.Shelf
attribute [local go_sem] Oper.semAt_some

set_option maxRecDepth 100000 in
set_option maxHeartbeats 8000000 in
theorem makeOp_any {G : Gr} {w : World} {T r m : Nat} (hT : TreeG w T r G m) (hm : m < 90000) (hmx : MaxC w) (s : List UInt8) (hs : s.length ≤ 1000000) (k : Int) :
    Calls Tryz.prog 127 #[.pointer (some ⟨T, 0, none⟩), encStr s, .int .i64 k] w (OpEnd T r m G (makeQ G r s k) w) := by
  have hmf : ∀ (fn : Fn) (first cap : Array Value) (w : World), (Instr.makeFunc fn first cap).run Tryz.prog w = .ok (.func fn first cap) w := fun _ _ _ _ => rfl
  obtain ⟨t1, ht1⟩ : ∃ t, encStr s = .string t := ⟨_, rfl⟩
  obtain ⟨W3, hW3⟩ : ∃ W3, ((w.alloc (.cells #[.pointer (some ⟨T, 0, none⟩)] 52)).alloc (.cells #[.string t1] 9)).alloc (.cells #[.int .i64 k] 41) = W3 := ⟨_, rfl⟩
  have hb3 : Below w.heap.size w W3 := by rw [← hW3]; exact (by repeat (first | exact Below.refl _ _ | assumption | refine Below.drew ?_ | refine below_drewN ?_ _ | refine Below.alloc ?_ (by (try simp) <;> omega) _ | refine Below.setCell ?_ (by (try simp) <;> omega) _ | refine Below.trans ?_ (Below.mono (by assumption) (by (try simp) <;> omega))))
  have hz3 : W3.heap.size = w.heap.size + 3 := by rw [← hW3]; simp
  have b0 : Boxed W3 (w.heap.size) 52 (.pointer (some ⟨T, 0, none⟩)) := by unfold Boxed; rw [← hW3]; (simp only [heap_at, World.size_alloc]; repeat (first | rw [if_pos (by omega)] | rw [if_neg (by omega)] | rw [if_pos trivial]))
  have b1 : Boxed W3 (w.heap.size + 1) 9 (.string t1) := by unfold Boxed; rw [← hW3]; (simp only [heap_at, World.size_alloc]; repeat (first | rw [if_pos (by omega)] | rw [if_neg (by omega)] | rw [if_pos trivial]))
  have b2 : Boxed W3 (w.heap.size + 1 + 1) 41 (.int .i64 k) := by unfold Boxed; rw [← hW3]; (simp only [heap_at, World.size_alloc]; repeat (first | rw [if_pos (by omega)] | rw [if_neg (by omega)] | rw [if_pos trivial]))
  have hbV : Below w.heap.size w (W3.alloc (.cells #[.int .i64 0] 30)) := hb3.alloc hb3.size _
  have h3V : Below W3.heap.size W3 (W3.alloc (.cells #[.int .i64 0] 30)) := (Below.refl _ _).alloc (Nat.le_refl _) _
  rw [← ht1] at b1
  have hcl := makeClos_any (hT.below hbV) hm (hmx.below hbV hmx.room) s hs k (boxed_low b1 h3V) (boxed_low b0 h3V) (boxed_low b2 h3V)
  have HTR := Lib.hid (tried_op (f := 156) (enters_of Tryz.func156 (by kernel_rfl) rfl) #[.pointer (some ⟨w.heap.size + 1, 0, none⟩), .pointer (some ⟨w.heap.size, 0, none⟩), .pointer (some ⟨w.heap.size + 1 + 1, 0, none⟩)] hT hb3 _ (makeQ_lower G r s k) hcl)
  obtain ⟨q, hq⟩ : ∃ q, makeQ G r s k = q := ⟨_, rfl⟩
  rw [hq] at HTR ⊢
  rw [ht1]
  have HW3 := Lib.hid hW3
  clear hcl hT hb3 hz3 hbV h3V hW3 hq b0 b1 b2 ht1
  go_enter Tryz.func127, Tryz.ntmps127
  go_wp2_with fail
  rw [HW3.out]
  refine HTR.out.mono ?_
  cases q with
  | error c =>
    rintro e w' ⟨rfl, hb⟩
    have HB := Lib.hid hb
    clear hb
    go_wp2_with fail
    go_ret
    exact (show _ ∧ _ from ⟨rfl, HB.out⟩)
  | ok Rl =>
    rintro e w' ⟨rfl, hl⟩
    have HL := Lib.hid hl
    clear hl
    go_wp2_with fail
    go_ret
    exact (show _ ∧ _ from ⟨rfl, HL.out⟩)
set_option maxRecDepth 100000 in
set_option maxHeartbeats 8000000 in
theorem put10_any {G : Gr} {w : World} {T r m : Nat} (hT : TreeG w T r G m) (hmx : MaxC w) (s : List UInt8) (hs : s.length ≤ 1000000) {ub : Value} {ds : List Nat} (hu : FB w ub ds) :
    Calls Tryz.prog 132 #[.pointer (some ⟨T, 0, none⟩), encStr s, ub] w (OpEnd T r m G (putQ G r s ds) w) := by
  have hmf : ∀ (fn : Fn) (first cap : Array Value) (w : World), (Instr.makeFunc fn first cap).run Tryz.prog w = .ok (.func fn first cap) w := fun _ _ _ _ => rfl
  obtain ⟨t1, ht1⟩ : ∃ t, encStr s = .string t := ⟨_, rfl⟩
  obtain ⟨ua, un, uc, hub⟩ : ∃ a n c, ub = .slice a n c := by
    obtain ⟨a, c, hv, -⟩ := hu.form
    exact ⟨a, _, c, hv⟩
  subst hub
  obtain ⟨W3, hW3⟩ : ∃ W3, ((w.alloc (.cells #[.pointer (some ⟨T, 0, none⟩)] 52)).alloc (.cells #[.string t1] 9)).alloc (.cells #[.slice ua un uc] 23) = W3 := ⟨_, rfl⟩
  have hb3 : Below w.heap.size w W3 := by rw [← hW3]; exact (by repeat (first | exact Below.refl _ _ | assumption | refine Below.drew ?_ | refine below_drewN ?_ _ | refine Below.alloc ?_ (by (try simp) <;> omega) _ | refine Below.setCell ?_ (by (try simp) <;> omega) _ | refine Below.trans ?_ (Below.mono (by assumption) (by (try simp) <;> omega))))
  have hz3 : W3.heap.size = w.heap.size + 3 := by rw [← hW3]; simp
  have b0 : Boxed W3 (w.heap.size) 52 (.pointer (some ⟨T, 0, none⟩)) := by unfold Boxed; rw [← hW3]; (simp only [heap_at, World.size_alloc]; repeat (first | rw [if_pos (by omega)] | rw [if_neg (by omega)] | rw [if_pos trivial]))
  have b1 : Boxed W3 (w.heap.size + 1) 9 (.string t1) := by unfold Boxed; rw [← hW3]; (simp only [heap_at, World.size_alloc]; repeat (first | rw [if_pos (by omega)] | rw [if_neg (by omega)] | rw [if_pos trivial]))
  have b2 : Boxed W3 (w.heap.size + 1 + 1) 23 (.slice ua un uc) := by unfold Boxed; rw [← hW3]; (simp only [heap_at, World.size_alloc]; repeat (first | rw [if_pos (by omega)] | rw [if_neg (by omega)] | rw [if_pos trivial]))
  have hbV : Below w.heap.size w (W3.alloc (.cells #[.int .i64 0] 30)) := hb3.alloc hb3.size _
  have h3V : Below W3.heap.size W3 (W3.alloc (.cells #[.int .i64 0] 30)) := (Below.refl _ _).alloc (Nat.le_refl _) _
  rw [← ht1] at b1
  have hcl := putClos_any (hT.below hbV) (hmx.below hbV hmx.room) s hs (hu.below hbV) (boxed_low b0 h3V) (boxed_low b1 h3V) (boxed_low b2 h3V)
  have HTR := Lib.hid (tried_op (f := 169) (enters_of Tryz.func169 (by kernel_rfl) rfl) #[.pointer (some ⟨w.heap.size, 0, none⟩), .pointer (some ⟨w.heap.size + 1, 0, none⟩), .pointer (some ⟨w.heap.size + 1 + 1, 0, none⟩)] hT hb3 _ (putQ_lower G r s ds) hcl)
  obtain ⟨q, hq⟩ : ∃ q, putQ G r s ds = q := ⟨_, rfl⟩
  rw [hq] at HTR ⊢
  rw [ht1]
  have HW3 := Lib.hid hW3
  clear hcl hT hb3 hz3 hbV h3V hW3 hq b0 b1 b2 ht1
  go_enter Tryz.func132, Tryz.ntmps132
  go_wp2_with fail
  rw [HW3.out]
  refine HTR.out.mono ?_
  cases q with
  | error c =>
    rintro e w' ⟨rfl, hb⟩
    have HB := Lib.hid hb
    clear hb
    go_wp2_with fail
    go_ret
    exact (show _ ∧ _ from ⟨rfl, HB.out⟩)
  | ok Rl =>
    rintro e w' ⟨rfl, hl⟩
    have HL := Lib.hid hl
    clear hl
    go_wp2_with fail
    go_ret
    exact (show _ ∧ _ from ⟨rfl, HL.out⟩)
set_option maxRecDepth 100000 in
set_option maxHeartbeats 8000000 in
theorem link10_any {G : Gr} {w : World} {T r m : Nat} (hT : TreeG w T r G m) (hm : m < 90000) (hmx : MaxC w) (f s : List UInt8) (hf : f.length ≤ 1000000) (hs : s.length ≤ 1000000) :
    Calls Tryz.prog 131 #[.pointer (some ⟨T, 0, none⟩), encStr f, encStr s] w (OpEnd T r m G (linkQ G r f s) w) := by
  have hmf : ∀ (fn : Fn) (first cap : Array Value) (w : World), (Instr.makeFunc fn first cap).run Tryz.prog w = .ok (.func fn first cap) w := fun _ _ _ _ => rfl
  obtain ⟨t1, ht1⟩ : ∃ t, encStr f = .string t := ⟨_, rfl⟩
  obtain ⟨t2, ht2⟩ : ∃ t, encStr s = .string t := ⟨_, rfl⟩
  obtain ⟨W3, hW3⟩ : ∃ W3, ((w.alloc (.cells #[.pointer (some ⟨T, 0, none⟩)] 52)).alloc (.cells #[.string t1] 9)).alloc (.cells #[.string t2] 9) = W3 := ⟨_, rfl⟩
  have hb3 : Below w.heap.size w W3 := by rw [← hW3]; exact (by repeat (first | exact Below.refl _ _ | assumption | refine Below.drew ?_ | refine below_drewN ?_ _ | refine Below.alloc ?_ (by (try simp) <;> omega) _ | refine Below.setCell ?_ (by (try simp) <;> omega) _ | refine Below.trans ?_ (Below.mono (by assumption) (by (try simp) <;> omega))))
  have hz3 : W3.heap.size = w.heap.size + 3 := by rw [← hW3]; simp
  have b0 : Boxed W3 (w.heap.size) 52 (.pointer (some ⟨T, 0, none⟩)) := by unfold Boxed; rw [← hW3]; (simp only [heap_at, World.size_alloc]; repeat (first | rw [if_pos (by omega)] | rw [if_neg (by omega)] | rw [if_pos trivial]))
  have b1 : Boxed W3 (w.heap.size + 1) 9 (.string t1) := by unfold Boxed; rw [← hW3]; (simp only [heap_at, World.size_alloc]; repeat (first | rw [if_pos (by omega)] | rw [if_neg (by omega)] | rw [if_pos trivial]))
  have b2 : Boxed W3 (w.heap.size + 1 + 1) 9 (.string t2) := by unfold Boxed; rw [← hW3]; (simp only [heap_at, World.size_alloc]; repeat (first | rw [if_pos (by omega)] | rw [if_neg (by omega)] | rw [if_pos trivial]))
  have hbV : Below w.heap.size w (W3.alloc (.cells #[.int .i64 0] 30)) := hb3.alloc hb3.size _
  have h3V : Below W3.heap.size W3 (W3.alloc (.cells #[.int .i64 0] 30)) := (Below.refl _ _).alloc (Nat.le_refl _) _
  rw [← ht1] at b1
  rw [← ht2] at b2
  have hcl := linkClos_any (hT.below hbV) hm (hmx.below hbV hmx.room) f s hf hs (boxed_low b1 h3V) (boxed_low b2 h3V) (boxed_low b0 h3V)
  have HTR := Lib.hid (tried_op (f := 168) (enters_of Tryz.func168 (by kernel_rfl) rfl) #[.pointer (some ⟨w.heap.size + 1, 0, none⟩), .pointer (some ⟨w.heap.size + 1 + 1, 0, none⟩), .pointer (some ⟨w.heap.size, 0, none⟩)] hT hb3 _ (linkQ_lower G r f s) hcl)
  obtain ⟨q, hq⟩ : ∃ q, linkQ G r f s = q := ⟨_, rfl⟩
  rw [hq] at HTR ⊢
  rw [ht1]
  rw [ht2]
  have HW3 := Lib.hid hW3
  clear hcl hT hb3 hz3 hbV h3V hW3 hq b0 b1 b2 ht1 ht2
  go_enter Tryz.func131, Tryz.ntmps131
  go_wp2_with fail
  rw [HW3.out]
  refine HTR.out.mono ?_
  cases q with
  | error c =>
    rintro e w' ⟨rfl, hb⟩
    have HB := Lib.hid hb
    clear hb
    go_wp2_with fail
    go_ret
    exact (show _ ∧ _ from ⟨rfl, HB.out⟩)
  | ok Rl =>
    rintro e w' ⟨rfl, hl⟩
    have HL := Lib.hid hl
    clear hl
    go_wp2_with fail
    go_ret
    exact (show _ ∧ _ from ⟨rfl, HL.out⟩)
set_option maxRecDepth 100000 in
set_option maxHeartbeats 8000000 in
theorem drop10_any {G : Gr} {w : World} {T r m : Nat} (hT : TreeG w T r G m) (hL : Links10 G) (hmx : MaxC w) (s : List UInt8) (hs : s.length ≤ 1000000) :
    Calls Tryz.prog 128 #[.pointer (some ⟨T, 0, none⟩), encStr s] w (OpEnd T r m G (lessQ G s (dropE G r s)) w) := by
  have hmf : ∀ (fn : Fn) (first cap : Array Value) (w : World), (Instr.makeFunc fn first cap).run Tryz.prog w = .ok (.func fn first cap) w := fun _ _ _ _ => rfl
  obtain ⟨t1, ht1⟩ : ∃ t, encStr s = .string t := ⟨_, rfl⟩
  obtain ⟨W3, hW3⟩ : ∃ W3, (w.alloc (.cells #[.pointer (some ⟨T, 0, none⟩)] 52)).alloc (.cells #[.string t1] 9) = W3 := ⟨_, rfl⟩
  have hb3 : Below w.heap.size w W3 := by rw [← hW3]; exact (by repeat (first | exact Below.refl _ _ | assumption | refine Below.drew ?_ | refine below_drewN ?_ _ | refine Below.alloc ?_ (by (try simp) <;> omega) _ | refine Below.setCell ?_ (by (try simp) <;> omega) _ | refine Below.trans ?_ (Below.mono (by assumption) (by (try simp) <;> omega))))
  have hz3 : W3.heap.size = w.heap.size + 2 := by rw [← hW3]; simp
  have b0 : Boxed W3 (w.heap.size) 52 (.pointer (some ⟨T, 0, none⟩)) := by unfold Boxed; rw [← hW3]; (simp only [heap_at, World.size_alloc]; repeat (first | rw [if_pos (by omega)] | rw [if_neg (by omega)] | rw [if_pos trivial]))
  have b1 : Boxed W3 (w.heap.size + 1) 9 (.string t1) := by unfold Boxed; rw [← hW3]; (simp only [heap_at, World.size_alloc]; repeat (first | rw [if_pos (by omega)] | rw [if_neg (by omega)] | rw [if_pos trivial]))
  have hbV : Below w.heap.size w (W3.alloc (.cells #[.int .i64 0] 30)) := hb3.alloc hb3.size _
  have h3V : Below W3.heap.size W3 (W3.alloc (.cells #[.int .i64 0] 30)) := (Below.refl _ _).alloc (Nat.le_refl _) _
  rw [← ht1] at b1
  have hcl := dropClos_any (hT.below hbV) hL (hmx.below hbV hmx.room) s hs (boxed_low b1 h3V) (boxed_low b0 h3V)
  have HTR := Lib.hid (tried_op (f := 159) (enters_of Tryz.func159 (by kernel_rfl) rfl) #[.pointer (some ⟨w.heap.size + 1, 0, none⟩), .pointer (some ⟨w.heap.size, 0, none⟩)] hT hb3 _ (lessQ_lower G s _) hcl)
  obtain ⟨q, hq⟩ : ∃ q, lessQ G s (dropE G r s) = q := ⟨_, rfl⟩
  rw [hq] at HTR ⊢
  rw [ht1]
  have HW3 := Lib.hid hW3
  clear hcl hT hb3 hz3 hbV h3V hW3 hq b0 b1 ht1
  go_enter Tryz.func128, Tryz.ntmps128
  go_wp2_with fail
  rw [HW3.out]
  refine HTR.out.mono ?_
  cases q with
  | error c =>
    rintro e w' ⟨rfl, hb⟩
    have HB := Lib.hid hb
    clear hb
    go_wp2_with fail
    go_ret
    exact (show _ ∧ _ from ⟨rfl, HB.out⟩)
  | ok Rl =>
    rintro e w' ⟨rfl, hl⟩
    have HL := Lib.hid hl
    clear hl
    go_wp2_with fail
    go_ret
    exact (show _ ∧ _ from ⟨rfl, HL.out⟩)
set_option maxRecDepth 100000 in
set_option maxHeartbeats 8000000 in
theorem remove10_any {G : Gr} {w : World} {T r m : Nat} (hT : TreeG w T r G m) (hL : Links10 G) (hmx : MaxC w) (s : List UInt8) (hs : s.length ≤ 1000000) :
    Calls Tryz.prog 129 #[.pointer (some ⟨T, 0, none⟩), encStr s] w (OpEnd T r m G (lessQ G s (removeE G r s)) w) := by
  have hmf : ∀ (fn : Fn) (first cap : Array Value) (w : World), (Instr.makeFunc fn first cap).run Tryz.prog w = .ok (.func fn first cap) w := fun _ _ _ _ => rfl
  obtain ⟨t1, ht1⟩ : ∃ t, encStr s = .string t := ⟨_, rfl⟩
  obtain ⟨W3, hW3⟩ : ∃ W3, (w.alloc (.cells #[.pointer (some ⟨T, 0, none⟩)] 52)).alloc (.cells #[.string t1] 9) = W3 := ⟨_, rfl⟩
  have hb3 : Below w.heap.size w W3 := by rw [← hW3]; exact (by repeat (first | exact Below.refl _ _ | assumption | refine Below.drew ?_ | refine below_drewN ?_ _ | refine Below.alloc ?_ (by (try simp) <;> omega) _ | refine Below.setCell ?_ (by (try simp) <;> omega) _ | refine Below.trans ?_ (Below.mono (by assumption) (by (try simp) <;> omega))))
  have hz3 : W3.heap.size = w.heap.size + 2 := by rw [← hW3]; simp
  have b0 : Boxed W3 (w.heap.size) 52 (.pointer (some ⟨T, 0, none⟩)) := by unfold Boxed; rw [← hW3]; (simp only [heap_at, World.size_alloc]; repeat (first | rw [if_pos (by omega)] | rw [if_neg (by omega)] | rw [if_pos trivial]))
  have b1 : Boxed W3 (w.heap.size + 1) 9 (.string t1) := by unfold Boxed; rw [← hW3]; (simp only [heap_at, World.size_alloc]; repeat (first | rw [if_pos (by omega)] | rw [if_neg (by omega)] | rw [if_pos trivial]))
  have hbV : Below w.heap.size w (W3.alloc (.cells #[.int .i64 0] 30)) := hb3.alloc hb3.size _
  have h3V : Below W3.heap.size W3 (W3.alloc (.cells #[.int .i64 0] 30)) := (Below.refl _ _).alloc (Nat.le_refl _) _
  rw [← ht1] at b1
  have hcl := removeClos_any (hT.below hbV) hL (hmx.below hbV hmx.room) s hs (boxed_low b1 h3V) (boxed_low b0 h3V)
  have HTR := Lib.hid (tried_op (f := 163) (enters_of Tryz.func163 (by kernel_rfl) rfl) #[.pointer (some ⟨w.heap.size + 1, 0, none⟩), .pointer (some ⟨w.heap.size, 0, none⟩)] hT hb3 _ (lessQ_lower G s _) hcl)
  obtain ⟨q, hq⟩ : ∃ q, lessQ G s (removeE G r s) = q := ⟨_, rfl⟩
  rw [hq] at HTR ⊢
  rw [ht1]
  have HW3 := Lib.hid hW3
  clear hcl hT hb3 hz3 hbV h3V hW3 hq b0 b1 ht1
  go_enter Tryz.func129, Tryz.ntmps129
  go_wp2_with fail
  rw [HW3.out]
  refine HTR.out.mono ?_
  cases q with
  | error c =>
    rintro e w' ⟨rfl, hb⟩
    have HB := Lib.hid hb
    clear hb
    go_wp2_with fail
    go_ret
    exact (show _ ∧ _ from ⟨rfl, HB.out⟩)
  | ok Rl =>
    rintro e w' ⟨rfl, hl⟩
    have HL := Lib.hid hl
    clear hl
    go_wp2_with fail
    go_ret
    exact (show _ ∧ _ from ⟨rfl, HL.out⟩)
end Go.Proofs.YtgoemaecdolioaaGreatDoor
