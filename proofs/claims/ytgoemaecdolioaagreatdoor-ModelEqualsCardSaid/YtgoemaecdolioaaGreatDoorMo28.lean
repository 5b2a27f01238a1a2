/-
  Texts MdH to MdH, as one.
-/
import Derived.Test.YtgoemaecdolioaaGreatDoorMo27
/-
  model: what is listed, what is read. (gen_mdh.py)
-/
namespace Go.Proofs.YtgoemaecdolioaaGreatDoor
open Go.RowKit Go.Shelf
attribute [local go_sem] Oper.semAt_some

/-- What is asked: told, or given up with; memory grows. -/
def AskM (c : Int) (P : Value → World → Prop) (w : World) (e : Ending) (w' : World) : Prop := Below w.heap.size w w' ∧ ((c = 0 ∧ ∃ v, e = .returned v ∧ P v w') ∨ (c ≠ 0 ∧ e = .panicked (refuseM c)))
def readC (t : RT) (x : OpX) : Int := if bytesC t x.path ≠ 0 then bytesC t x.path else errR (xsR t x.path).length x.place x.many
set_option maxRecDepth 100000 in
set_option maxHeartbeats 4000000 in
theorem list11_any {lo T r m : Nat} {G : Gr} {t : RT} {w : World} (h : TreeR lo w T r G m t) (hm : m ≤ 1000) (x : OpX) (hp : x.path.length ≤ 1000000) :
    Calls Tryz.prog 91 #[.agg #[.pointer (some ⟨T, 0, none⟩)], .agg (opA x)] w (AskM (namesC t x.path) (fun v w' => TxS w' v (namesR t x.path)) w) := by
  obtain ⟨W2, hW2, hb, hA⟩ := argsAt_new w T x
  have HS := Lib.hid (names_spec (h.below hb) hm x.path hp)
  have HT := Lib.hid told11S_any
  have HB := Lib.hid hb
  obtain ⟨cw, -, c1, -⟩ := hA W2 (Below.refl _ _)
  obtain ⟨p, hp2⟩ : ∃ p, encStr x.path = p := ⟨_, rfl⟩
  obtain ⟨q, hq⟩ : ∃ p, encStr x.other = p := ⟨_, rfl⟩
  obtain ⟨ub, hub⟩ : ∃ p, x.ub = p := ⟨_, rfl⟩
  obtain ⟨c, hc⟩ : ∃ c, namesC t x.path = c := ⟨_, rfl⟩
  obtain ⟨l, hl⟩ : ∃ c, namesR t x.path = c := ⟨_, rfl⟩
  unfold opA at hW2 ⊢
  rw [hc, hl, hp2] at HS
  rw [hc, hl, hp2, hq, hub]
  rw [hp2] at c1
  rw [hp2, hq, hub] at hW2
  clear h hb hA hp hp2 hq hub hc hl hm
  go_enter Tryz.func91, Tryz.ntmps91
  go_wp2_with fail
  refine HS.out.mono ?_
  rintro e w3 ⟨v, rfl, hv, hb3⟩
  have HV := Lib.hid hv
  have HB3 : Hid (Below w.heap.size w w3) := show Below _ _ _ from HB.out.trans (hb3.mono HB.out.size)
  clear hv hb3 cw c1 hW2
  go_wp2_with fail
  refine (HT.out v c w3).mono ?_
  rintro e w4 ⟨rfl, ⟨rfl, rfl⟩ | ⟨hc, rfl⟩⟩
  · have hv := HV.out
    rw [if_pos rfl] at hv
    have HV2 := Lib.hid hv
    clear hv HV
    go_wp2_with fail
    go_ret
    exact ⟨HB3.out, .inl ⟨rfl, v, by first | rfl | simp, HV2.out⟩⟩
  · exact ⟨rfl, HB3.out, .inr ⟨hc, rfl⟩⟩
set_option maxRecDepth 100000 in
set_option maxHeartbeats 8000000 in
theorem read11_any {lo T r m : Nat} {G : Gr} {t : RT} {w : World} (h : TreeR lo w T r G m t) (x : OpX) (hp : x.path.length ≤ 1000000) :
    Calls Tryz.prog 94 #[.agg #[.pointer (some ⟨T, 0, none⟩)], .agg (opA x)] w (AskM (readC t x) (fun v w' => FB w' v (outR (xsR t x.path) x.place x.many)) w) := by
  obtain ⟨W2, hW2, hb, hA⟩ := argsAt_new w T x
  have HS := Lib.hid (fun W (hW : Below w.heap.size w W) => bytes_spec (h.below hW) x.path hp)
  have HF := Lib.hid (fun W v (hv : FB W v (xsR t x.path)) => readF_any x.place x.many W hv)
  have HT := Lib.hid told11B_any
  have HB := Lib.hid hb
  have HA : Hid (∀ W, Below W2.heap.size W2 W → W.cell? ⟨w.heap.size, 0, none⟩ = some (.pointer (some ⟨T, 0, none⟩)) ∧ W.cell? ⟨w.heap.size + 1, 1, none⟩ = some (encStr x.path) ∧ W.cell? ⟨w.heap.size + 1, 3, none⟩ = some (.int .i64 x.place) ∧ W.cell? ⟨w.heap.size + 1, 4, none⟩ = some (.int .i64 x.many) ∧ Below W2.heap.size W2 W) := show ∀ W, _ from fun W hW => ⟨(hA W hW).w, (hA W hW).c1, (hA W hW).c3, (hA W hW).c4, hW⟩
  have HFR : Hid (readC t x = if bytesC t x.path ≠ 0 then bytesC t x.path else errR (xsR t x.path).length x.place x.many) := show _ = _ from rfl
  obtain ⟨xs, hxs⟩ : ∃ xs, xsR t x.path = xs := ⟨_, rfl⟩
  have hxs2 : bytesN (bytesR t (askR t x.path).2) = xs := hxs
  rw [hxs2] at HS
  rw [hxs] at HF HFR ⊢
  obtain ⟨p, hp2⟩ : ∃ p, encStr x.path = p := ⟨_, rfl⟩
  obtain ⟨q, hq⟩ : ∃ p, encStr x.other = p := ⟨_, rfl⟩
  obtain ⟨ub, hub⟩ : ∃ p, x.ub = p := ⟨_, rfl⟩
  obtain ⟨c, hc⟩ : ∃ c, bytesC t x.path = c := ⟨_, rfl⟩
  obtain ⟨d, hd⟩ : ∃ d, errR xs.length x.place x.many = d := ⟨_, rfl⟩
  obtain ⟨R, hR⟩ : ∃ R, readC t x = R := ⟨_, rfl⟩
  obtain ⟨out, hout⟩ : ∃ R, outR xs x.place x.many = R := ⟨_, rfl⟩
  unfold opA at hW2 ⊢
  rw [hR] at HFR ⊢
  rw [hc, hd] at HFR
  rw [hc, hp2] at HS
  rw [hd, hout] at HF
  rw [hp2] at HA
  rw [hout]
  rw [hp2, hq, hub] at hW2 ⊢
  obtain ⟨pl, hpl⟩ : ∃ y, x.place = y := ⟨_, rfl⟩
  obtain ⟨mn, hmn⟩ : ∃ y, x.many = y := ⟨_, rfl⟩
  rw [hpl, hmn] at hW2 HA HF ⊢
  obtain ⟨kd, hkd⟩ : ∃ y, x.kind = y := ⟨_, rfl⟩
  rw [hkd] at hW2 ⊢
  clear h hb hA hp hp2 hq hub hR hxs hxs2 hc hd hpl hmn hkd hout
  go_enter Tryz.func94, Tryz.ntmps94
  go_wp2_with fail
  skip
  clear hW2
  have hR := HA.out _ (Below.refl _ W2).drew
  refine wp_region_M 15 (fun V : World => V.cell? ⟨w.heap.size, 0, none⟩ = some (.pointer (some ⟨T, 0, none⟩)) ∧ V.cell? ⟨w.heap.size + 1, 1, none⟩ = some p ∧ V.cell? ⟨w.heap.size + 1, 3, none⟩ = some (.int .i64 pl) ∧ V.cell? ⟨w.heap.size + 1, 4, none⟩ = some (.int .i64 mn) ∧ Below W2.heap.size W2 V) (by kernel_rfl) ?_
  (refine wpAnyM_take2 8 (i := 0) (v := ?_) rfl (by kernel_rfl) (by kernel_rfl) (fun _ _ _ h => h) (Or.inl ⟨by rfl, ?_⟩) hR ?_; rotate_left; (focus (intro w hSw; (try dsimp only at hSw); go_simp; (try with_reducible rfl))); (try simp only [put_laws])); (refine wpAnyM_take2 8 (i := 2) (v := ?_) rfl (by kernel_rfl) (by kernel_rfl) (fun _ _ _ h => h) (Or.inl ⟨by rfl, ?_⟩) hR ?_; rotate_left; (focus (intro w hSw; (try dsimp only at hSw); go_simp; (try with_reducible rfl))); (try simp only [put_laws])); (refine wpAnyM_take2 8 (i := 8) (v := ?_) rfl (by kernel_rfl) (by kernel_rfl) (fun _ _ _ h => h) (Or.inl ⟨by rfl, ?_⟩) hR ?_; rotate_left; (focus (intro w hSw; (try dsimp only at hSw); go_simp; (try with_reducible rfl))); (try simp only [put_laws])); (refine wpAnyM_take2 8 (i := 10) (v := ?_) rfl (by kernel_rfl) (by kernel_rfl) (fun _ _ _ h => h) (Or.inl ⟨by rfl, ?_⟩) hR ?_; rotate_left; (focus (intro w hSw; (try dsimp only at hSw); go_simp; (try with_reducible rfl))); (try simp only [put_laws])); (refine wpAnyM_take2 8 (i := 1) (v := ?_) rfl (by kernel_rfl) (by kernel_rfl) (fun _ _ _ h => h) (Or.inl ⟨by rfl, ?_⟩) hR ?_; rotate_left; (focus (intro w hSw; (try dsimp only at hSw); go_simp; (try with_reducible rfl))); (try simp only [put_laws])); (refine wpAnyM_take2 8 (i := 3) (v := ?_) rfl (by kernel_rfl) (by kernel_rfl) (fun _ _ _ h => h) (Or.inl ⟨by rfl, ?_⟩) hR ?_; rotate_left; (focus (intro w hSw; (try dsimp only at hSw); go_simp; (try with_reducible rfl))); (try simp only [put_laws])); (refine wpAnyM_take2 8 (i := 9) (v := ?_) rfl (by kernel_rfl) (by kernel_rfl) (fun _ _ _ h => h) (Or.inl ⟨by rfl, ?_⟩) hR ?_; rotate_left; (focus (intro w hSw; (try dsimp only at hSw); go_simp; (try with_reducible rfl))); (try simp only [put_laws])); (refine wpAnyM_take2 8 (i := 11) (v := ?_) rfl (by kernel_rfl) (by kernel_rfl) (fun _ _ _ h => h) (Or.inl ⟨by rfl, ?_⟩) hR ?_; rotate_left; (focus (intro w hSw; (try dsimp only at hSw); go_simp; (try with_reducible rfl))); (try simp only [put_laws]))
  (refine wpAnyM_one (i := 4) rfl (by kernel_rfl) (fun K hK => ?_); rw [if_pos (by rfl)]; (try simp only [elem_laws]))
  go_simp
  refine (HS.out _ (HB.out.trans (hR.2.2.2.2.mono HB.out.size))).mono ?_
  rintro e w3 ⟨v, rfl, hv, hb3⟩
  have hR' := HA.out _ (hR.2.2.2.2.trans (hb3.mono hR.2.2.2.2.size))
  refine hK _ _ (fun _ => hR') ?_
  have HV := Lib.hid hv
  clear hK K hR hv hb3
  have hR := hR'
  clear hR'
  (try simp only [put_laws])
  (refine wpAnyM_take2 8 (i := 5) (v := ?_) rfl (by kernel_rfl) (by kernel_rfl) (fun _ _ _ h => h) (Or.inl ⟨by rfl, ?_⟩) hR ?_; rotate_left; (focus (intro w hSw; (try dsimp only at hSw); go_simp; (try with_reducible rfl))); (try simp only [put_laws])); (refine wpAnyM_take2 8 (i := 6) (v := ?_) rfl (by kernel_rfl) (by kernel_rfl) (fun _ _ _ h => h) (Or.inl ⟨by rfl, ?_⟩) hR ?_; rotate_left; (focus (intro w hSw; (try dsimp only at hSw); go_simp; (try with_reducible rfl))); (try simp only [put_laws]))
  (refine wpAnyM_one (i := 7) rfl (by kernel_rfl) (fun K hK => ?_); rw [if_pos (by rfl)]; (try simp only [elem_laws]))
  go_simp
  refine (HT.out v c w3).mono ?_
  rintro e w4 ⟨rfl, ⟨rfl, rfl⟩ | ⟨hc, rfl⟩⟩
  rotate_left
  · have hr := HFR.out
    rw [if_pos hc] at hr
    exact ⟨rfl, HB.out.trans (hR.2.2.2.2.mono HB.out.size), .inr (by rw [hr]; exact ⟨hc, rfl⟩)⟩
  refine hK _ _ (fun _ => hR) ?_
  clear hK K
  (try simp only [put_laws])
  have hv := HV.out
  rw [if_pos rfl] at hv
  have hr := HFR.out
  rw [if_neg (fun h => h rfl)] at hr
  (refine wpAnyM_one (i := 12) rfl (by kernel_rfl) (fun K hK => ?_); rw [if_pos (by rfl)]; (try simp only [elem_laws]))
  go_simp
  refine (HF.out _ v hv).mono ?_
  rintro e w5 ⟨v5, rfl, hv5, hb5⟩
  have hR' := HA.out _ (hR.2.2.2.2.trans (hb5.mono hR.2.2.2.2.size))
  refine hK _ _ (fun _ => hR') ?_
  have HV5 := Lib.hid hv5
  have HR := Lib.hid hr
  clear hK K hR hv5 hb5 hv hr
  have hR := hR'
  clear hR'
  (try simp only [put_laws])
  (refine wpAnyM_take2 8 (i := 13) (v := ?_) rfl (by kernel_rfl) (by kernel_rfl) (fun _ _ _ h => h) (Or.inl ⟨by rfl, ?_⟩) hR ?_; rotate_left; (focus (intro w hSw; (try dsimp only at hSw); go_simp; (try with_reducible rfl))); (try simp only [put_laws])); (refine wpAnyM_take2 8 (i := 14) (v := ?_) rfl (by kernel_rfl) (by kernel_rfl) (fun _ _ _ h => h) (Or.inl ⟨by rfl, ?_⟩) hR ?_; rotate_left; (focus (intro w hSw; (try dsimp only at hSw); go_simp; (try with_reducible rfl))); (try simp only [put_laws]))
  (refine wpAnyM_one (i := 15) rfl (by kernel_rfl) (fun K hK => ?_); rw [if_pos (by rfl)]; (try simp only [elem_laws]))
  go_simp
  refine (HT.out v5 d w5).mono ?_
  rintro e w6 ⟨rfl, ⟨rfl, rfl⟩ | ⟨hc, rfl⟩⟩
  rotate_left
  · exact ⟨rfl, HB.out.trans (hR.2.2.2.2.mono HB.out.size), .inr (by rw [HR.out]; exact ⟨hc, rfl⟩)⟩
  refine hK _ _ (fun h => by cases h) ?_
  have HB6 : Hid (Below w.heap.size w w6) := show Below _ _ _ from HB.out.trans (hR.2.2.2.2.mono HB.out.size)
  clear hK K hR
  (try simp only [put_laws])
  (refine wpAnyM_one (i := 16) rfl (by kernel_rfl) (fun K hK => ?_); rw [if_pos (by rfl)]; (try simp only [elem_laws]))
  go_simp
  refine hK _ _ (fun h => by cases h) ?_
  clear hK K
  (try simp only [put_laws])
  refine wpAnyM_done (by kernel_rfl) ?_ _
  go_wp2_with fail
  go_ret
  exact ⟨HB6.out, .inl ⟨HR.out, v5, by first | rfl | simp, HV5.out⟩⟩
end Go.Proofs.YtgoemaecdolioaaGreatDoor
