/-
  Texts MdI to MdI, as one.
-/
import Derived.Test.YtgoemaecdolioaaGreatDoorMo28
/-
  model: what a node is. (gen_mdi.py)
-/
namespace Go.Proofs.YtgoemaecdolioaaGreatDoor
open Go.RowKit Go.Shelf
attribute [local go_sem] Oper.semAt_some

def statN (t : RT) (s : List UInt8) : Nat := if dirR t (askR t s).2 = true then (namesR t s).length else (xsR t s).length
def zeroRes : Array Value := #[.int .i64 0, .int .i64 0, .int .i64 0, .int .i64 0, .slice none 0 0, .slice none 0 0]
def statV (k l n : Int) : Value := .agg #[.int .i64 0, .int .i64 k, .int .i64 l, .int .i64 n, .slice none 0 0, .slice none 0 0]
theorem TxS.form {W : World} {v : Value} {l : List (List UInt8)} (h : TxS W v l) : ∃ a c, v = .slice a l.length c := by
  obtain ⟨h1, a, c, h2, -⟩ := h
  exact ⟨_, _, h2⟩
set_option maxRecDepth 100000 in
set_option maxHeartbeats 16000000 in
theorem stat11_any {lo T r m : Nat} {G : Gr} {t : RT} {w : World} (h : TreeR lo w T r G m t) (hm : m ≤ 1000) (x : OpX) (hp : x.path.length ≤ 1000000) :
    Calls Tryz.prog 88 #[.agg #[.pointer (some ⟨T, 0, none⟩)], .agg (opA x)] w (AskM (askR t x.path).1 (fun v _ => v = statV (kindR t (askR t x.path).2) (linksR t (askR t x.path).2 : Nat) (statN t x.path : Nat)) w) := by
  obtain ⟨W2, hW2, hb, hA⟩ := argsAt_new w T x
  have hb3 : Below W2.heap.size W2 (W2.alloc (.cells zeroRes 44)) := (Below.refl _ W2).alloc (Nat.le_refl _) _
  have hx3 : Blk (W2.alloc (.cells zeroRes 44)) W2.heap.size 44 zeroRes := Blk.new _ _ _
  have HS1 := Lib.hid (fun W (hW : Below w.heap.size w W) => kind_spec (h.below hW) x.path hp)
  have HS2 := Lib.hid (fun W (hW : Below w.heap.size w W) => links_spec (h.below hW) x.path hp)
  have HS3 := Lib.hid (fun W (hW : Below w.heap.size w W) => bytes_spec (h.below hW) x.path hp)
  have HS4 := Lib.hid (fun W (hW : Below w.heap.size w W) => names_spec (h.below hW) hm x.path hp)
  have HTK := Lib.hid told11K_any
  have HTI := Lib.hid told11I_any
  have HTB := Lib.hid told11B_any
  have HTS := Lib.hid told11S_any
  obtain ⟨W3, hW3⟩ : ∃ W3, W2.alloc (.cells zeroRes 44) = W3 := ⟨_, rfl⟩
  rw [hW3] at hb3 hx3
  have HB : Hid (Below w.heap.size w W3) := show Below _ _ _ from hb.trans (hb3.mono hb.size)
  have HLO : Hid (w.heap.size ≤ W2.heap.size) := show _ ≤ _ from hb.size
  have HA : Hid (∀ W, Below W3.heap.size W3 W → W.cell? ⟨w.heap.size, 0, none⟩ = some (.pointer (some ⟨T, 0, none⟩)) ∧ W.cell? ⟨w.heap.size + 1, 1, none⟩ = some (encStr x.path) ∧ Below W3.heap.size W3 W) := show ∀ W, _ from fun W hW => ⟨(hA W (hb3.trans (hW.mono hb3.size))).w, (hA W (hb3.trans (hW.mono hb3.size))).c1, hW⟩
  have HX3 : Hid (∀ W, Below W3.heap.size W3 W → Blk W W2.heap.size 44 zeroRes) := show ∀ W, _ from fun W hW => hx3.below hW hx3.lt
  have HC3 : Hid (bytesC t x.path = if (askR t x.path).1 ≠ 0 then (askR t x.path).1 else if dirR t (askR t x.path).2 = true then 204 else 0) := show _ = _ from rfl
  have HC4 : Hid (namesC t x.path = if (askR t x.path).1 ≠ 0 then (askR t x.path).1 else if dirR t (askR t x.path).2 = true then 0 else 201) := show _ = _ from rfl
  have HKD : Hid (kindR t (askR t x.path).2 = if dirR t (askR t x.path).2 = true then 2 else 1) := show _ = _ from rfl
  have HSN : Hid (statN t x.path = if dirR t (askR t x.path).2 = true then (namesR t x.path).length else (xsR t x.path).length) := show _ = _ from rfl
  obtain ⟨xs, hxs⟩ : ∃ xs, xsR t x.path = xs := ⟨_, rfl⟩
  have hxs2 : bytesN (bytesR t (askR t x.path).2) = xs := hxs
  rw [hxs2] at HS3
  rw [hxs] at HSN
  obtain ⟨p, hp2⟩ : ∃ p, encStr x.path = p := ⟨_, rfl⟩
  obtain ⟨q, hq⟩ : ∃ p, encStr x.other = p := ⟨_, rfl⟩
  obtain ⟨ub, hub⟩ : ∃ p, x.ub = p := ⟨_, rfl⟩
  obtain ⟨kk, hkk⟩ : ∃ p, kindR t (askR t x.path).2 = p := ⟨_, rfl⟩
  obtain ⟨ll, hll⟩ : ∃ p, linksR t (askR t x.path).2 = p := ⟨_, rfl⟩
  obtain ⟨nn, hnn⟩ : ∃ p, statN t x.path = p := ⟨_, rfl⟩
  obtain ⟨cb, hcb⟩ : ∃ p, bytesC t x.path = p := ⟨_, rfl⟩
  obtain ⟨cn, hcn⟩ : ∃ p, namesC t x.path = p := ⟨_, rfl⟩
  obtain ⟨nm, hnm⟩ : ∃ p, namesR t x.path = p := ⟨_, rfl⟩
  obtain ⟨dd, hdd⟩ : ∃ p, dirR t (askR t x.path).2 = p := ⟨_, rfl⟩
  obtain ⟨c, hc⟩ : ∃ p, (askR t x.path).1 = p := ⟨_, rfl⟩
  unfold opA at hW2 ⊢
  rw [hkk, hc, hp2] at HS1
  rw [hll, hc, hp2] at HS2
  rw [hcb, hp2] at HS3
  rw [hcn, hnm, hp2] at HS4
  rw [hcb, hc, hdd] at HC3
  rw [hcn, hc, hdd] at HC4
  rw [hkk, hdd] at HKD
  rw [hnn, hdd, hnm] at HSN
  rw [hkk, hll, hnn, hc]
  rw [hp2] at HA
  rw [hp2, hq, hub] at hW2 ⊢
  obtain ⟨pl, hpl⟩ : ∃ y, x.place = y := ⟨_, rfl⟩
  obtain ⟨mn, hmn⟩ : ∃ y, x.many = y := ⟨_, rfl⟩
  obtain ⟨kd, hkd⟩ : ∃ y, x.kind = y := ⟨_, rfl⟩
  rw [hpl, hmn, hkd] at hW2
  rw [hpl, hmn, hkd]
  clear h hb hA hp hp2 hq hub hkk hll hnn hcb hcn hnm hdd hc hpl hmn hkd hxs hxs2 hb3 hx3 hm
  unfold zeroRes at hW3 HX3
  go_enter Tryz.func88, Tryz.ntmps88
  go_wp2_with fail
  clear hW2 hW3
  have hR := HA.out _ (Below.refl _ W3).drew
  refine wp_region_M 18 (fun V : World => V.cell? ⟨w.heap.size, 0, none⟩ = some (.pointer (some ⟨T, 0, none⟩)) ∧ V.cell? ⟨w.heap.size + 1, 1, none⟩ = some p ∧ Below W3.heap.size W3 V) (by kernel_rfl) ?_
  (refine wpAnyM_take2 8 (i := 0) (v := ?_) rfl (by kernel_rfl) (by kernel_rfl) (fun _ _ _ h => h) (Or.inl ⟨by rfl, ?_⟩) hR ?_; rotate_left; (focus (intro w hSw; (try dsimp only at hSw); go_simp; (try with_reducible rfl))); (try simp only [put_laws])); (refine wpAnyM_take2 8 (i := 2) (v := ?_) rfl (by kernel_rfl) (by kernel_rfl) (fun _ _ _ h => h) (Or.inl ⟨by rfl, ?_⟩) hR ?_; rotate_left; (focus (intro w hSw; (try dsimp only at hSw); go_simp; (try with_reducible rfl))); (try simp only [put_laws])); (refine wpAnyM_take2 8 (i := 8) (v := ?_) rfl (by kernel_rfl) (by kernel_rfl) (fun _ _ _ h => h) (Or.inl ⟨by rfl, ?_⟩) hR ?_; rotate_left; (focus (intro w hSw; (try dsimp only at hSw); go_simp; (try with_reducible rfl))); (try simp only [put_laws])); (refine wpAnyM_take2 8 (i := 10) (v := ?_) rfl (by kernel_rfl) (by kernel_rfl) (fun _ _ _ h => h) (Or.inl ⟨by rfl, ?_⟩) hR ?_; rotate_left; (focus (intro w hSw; (try dsimp only at hSw); go_simp; (try with_reducible rfl))); (try simp only [put_laws])); (refine wpAnyM_take2 8 (i := 1) (v := ?_) rfl (by kernel_rfl) (by kernel_rfl) (fun _ _ _ h => h) (Or.inl ⟨by rfl, ?_⟩) hR ?_; rotate_left; (focus (intro w hSw; (try dsimp only at hSw); go_simp; (try with_reducible rfl))); (try simp only [put_laws])); (refine wpAnyM_take2 8 (i := 3) (v := ?_) rfl (by kernel_rfl) (by kernel_rfl) (fun _ _ _ h => h) (Or.inl ⟨by rfl, ?_⟩) hR ?_; rotate_left; (focus (intro w hSw; (try dsimp only at hSw); go_simp; (try with_reducible rfl))); (try simp only [put_laws])); (refine wpAnyM_take2 8 (i := 9) (v := ?_) rfl (by kernel_rfl) (by kernel_rfl) (fun _ _ _ h => h) (Or.inl ⟨by rfl, ?_⟩) hR ?_; rotate_left; (focus (intro w hSw; (try dsimp only at hSw); go_simp; (try with_reducible rfl))); (try simp only [put_laws])); (refine wpAnyM_take2 8 (i := 11) (v := ?_) rfl (by kernel_rfl) (by kernel_rfl) (fun _ _ _ h => h) (Or.inl ⟨by rfl, ?_⟩) hR ?_; rotate_left; (focus (intro w hSw; (try dsimp only at hSw); go_simp; (try with_reducible rfl))); (try simp only [put_laws]))
  obtain ⟨V0, hV0⟩ : ∃ V0, W3.drew = V0 := ⟨_, rfl⟩
  rw [hV0] at hR ⊢
  clear hV0
  by_cases hc : c = 0
  · subst hc
    refine wpAnyM_two (i := 4) (j := 17) rfl rfl (by kernel_rfl) (fun K hK => ?_) (fun K hK => ?_)
    · rw [if_pos (by rfl)]
      (try simp only [elem_laws])
      go_simp
      refine (HS1.out _ (HB.out.trans (hR.2.2.mono HB.out.size))).mono ?_
      rintro e w4 ⟨rfl, hbb⟩
      rw [if_pos rfl]
      have hR' := HA.out _ (hR.2.2.trans (hbb.mono hR.2.2.size))
      refine hK _ _ (fun _ => hR') ?_
      clear hK K hR hbb
      have hR := hR'
      clear hR'
      (try simp only [put_laws])
      (refine wpAnyM_take2 8 (i := 5) (v := ?_) rfl (by kernel_rfl) (by kernel_rfl) (fun _ _ _ h => h) (Or.inl ⟨by rfl, ?_⟩) hR ?_; rotate_left; (focus (intro w hSw; (try dsimp only at hSw); go_simp; (try with_reducible rfl))); (try simp only [put_laws])); (refine wpAnyM_take2 8 (i := 6) (v := ?_) rfl (by kernel_rfl) (by kernel_rfl) (fun _ _ _ h => h) (Or.inl ⟨by rfl, ?_⟩) hR ?_; rotate_left; (focus (intro w hSw; (try dsimp only at hSw); go_simp; (try with_reducible rfl))); (try simp only [put_laws]))
      refine wpAnyM_two (i := 7) (j := 17) rfl rfl (by kernel_rfl) (fun K hK => ?_) (fun K hK => ?_)
      · rw [if_pos (by rfl)]
        (try simp only [elem_laws])
        go_simp
        refine (HTK.out _ _ _).mono ?_
        rintro e w5 ⟨rfl, ⟨-, rfl⟩ | ⟨hc, -⟩⟩
        rotate_left
        · exact absurd rfl hc
        refine hK _ _ (fun _ => hR) ?_
        clear hK K
        (try simp only [put_laws])
        refine wpAnyM_two (i := 12) (j := 17) rfl rfl (by kernel_rfl) (fun K hK => ?_) (fun K hK => ?_)
        · rw [if_pos (by rfl)]
          (try simp only [elem_laws])
          go_simp
          refine (HS2.out _ (HB.out.trans (hR.2.2.mono HB.out.size))).mono ?_
          rintro e w6 ⟨rfl, hbb⟩
          rw [if_pos rfl]
          have hR' := HA.out _ (hR.2.2.trans (hbb.mono hR.2.2.size))
          refine hK _ _ (fun _ => hR') ?_
          clear hK K hR hbb
          have hR := hR'
          clear hR'
          (try simp only [put_laws])
          (refine wpAnyM_take2 8 (i := 13) (v := ?_) rfl (by kernel_rfl) (by kernel_rfl) (fun _ _ _ h => h) (Or.inl ⟨by rfl, ?_⟩) hR ?_; rotate_left; (focus (intro w hSw; (try dsimp only at hSw); go_simp; (try with_reducible rfl))); (try simp only [put_laws])); (refine wpAnyM_take2 8 (i := 14) (v := ?_) rfl (by kernel_rfl) (by kernel_rfl) (fun _ _ _ h => h) (Or.inl ⟨by rfl, ?_⟩) hR ?_; rotate_left; (focus (intro w hSw; (try dsimp only at hSw); go_simp; (try with_reducible rfl))); (try simp only [put_laws]))
          refine wpAnyM_two (i := 15) (j := 17) rfl rfl (by kernel_rfl) (fun K hK => ?_) (fun K hK => ?_)
          · rw [if_pos (by rfl)]
            (try simp only [elem_laws])
            go_simp
            refine (HTI.out _ _ _).mono ?_
            rintro e w7 ⟨rfl, ⟨-, rfl⟩ | ⟨hc, -⟩⟩
            rotate_left
            · exact absurd rfl hc
            refine hK _ _ (fun _ => hR) ?_
            clear hK K
            (try simp only [put_laws])
            (refine wpAnyM_take2 8 (i := 16) (v := ?_) rfl (by kernel_rfl) (by kernel_rfl) (fun _ _ _ h => h) (Or.inl ⟨by rfl, ?_⟩) hR ?_; rotate_left; (focus (intro w hSw; (try dsimp only at hSw); go_simp; (try with_reducible rfl))); (try simp only [put_laws]))
            (refine wpAnyM_one (i := 17) rfl (by kernel_rfl) (fun K hK => ?_); rw [if_pos (by rfl)]; (try simp only [elem_laws]))
            go_simp
            have hbn : Below W3.heap.size W3 (w7.alloc (.cells #[.int .i64 0, .int .i64 0, .int .i64 0, .int .i64 0, .slice none 0 0, .slice none 0 0] 44)) := hR.2.2.alloc hR.2.2.size _
            have hbx : Blk (w7.alloc (.cells #[.int .i64 0, .int .i64 0, .int .i64 0, .int .i64 0, .slice none 0 0, .slice none 0 0] 44)) w7.heap.size 44 #[.int .i64 0, .int .i64 0, .int .i64 0, .int .i64 0, .slice none 0 0, .slice none 0 0] := Blk.new _ _ _
            have hlo : W3.heap.size ≤ w7.heap.size := hR.2.2.size
            have hR' := HA.out _ hbn
            refine hK _ _ (fun _ => hR') ?_
            clear hK K hR
            have hR := hR'
            clear hR' hbn
            obtain ⟨V5, hV5⟩ : ∃ V5, w7.alloc (.cells #[.int .i64 0, .int .i64 0, .int .i64 0, .int .i64 0, .slice none 0 0, .slice none 0 0] 44) = V5 := ⟨_, rfl⟩
            rw [hV5] at hR hbx ⊢
            obtain ⟨B5, hB5⟩ : ∃ B5, w7.heap.size = B5 := ⟨_, rfl⟩
            rw [hB5] at hbx hlo ⊢
            have HBX := Lib.hid hbx
            have HLO5 := Lib.hid hlo
            clear hbx hlo hV5 hB5
            (try simp only [put_laws])
            (refine wpAnyM_last rfl (by kernel_rfl) (fun K hK => ?_); rw [if_pos (by rfl)]; (try simp only [elem_laws]))
            have hz := HBX.out
            have z0 := hz.cell (j := 0) rfl
            have z1 := hz.cell (j := 1) rfl
            have z2 := hz.cell (j := 2) rfl
            have z3 := hz.cell (j := 3) rfl
            have z4 := hz.cell (j := 4) rfl
            have z5 := hz.cell (j := 5) rfl
            have y0 := hz.frozen 0
            have y1 := hz.frozen 1
            have y2 := hz.frozen 2
            have y3 := hz.frozen 3
            have y4 := hz.frozen 4
            have y5 := hz.frozen 5
            clear hz
            go_simp
            have hb6 := ((((((hR.2.2.setCell (p := ⟨B5, 0, none⟩) HLO5.out (.int .i64 0)).setCell (p := ⟨B5, 1, none⟩) HLO5.out (.int .i64 kk)).setCell (p := ⟨B5, 2, none⟩) HLO5.out (.int .i64 (ll : Nat))).setCell (p := ⟨B5, 3, none⟩) HLO5.out (.int .i64 0)).setCell (p := ⟨B5, 4, none⟩) HLO5.out (.slice none 0 0)).setCell (p := ⟨B5, 5, none⟩) HLO5.out (.slice none 0 0))
            have hx6 := ((((((HBX.out.set 0 (.int .i64 0)).set 1 (.int .i64 kk)).set 2 (.int .i64 (ll : Nat))).set 3 (.int .i64 0)).set 4 (.slice none 0 0)).set 5 (.slice none 0 0))
            refine hK _ _ ?_
            clear hK K hR z0 z1 z2 z3 z4 z5 y0 y1 y2 y3 y4 y5
            revert hb6 hx6
            generalize hV6 : (World.setCell _ _ _) = V6
            intro hb6 hx6
            have HX6 : Hid (Blk V6 B5 44 #[.int .i64 0, .int .i64 kk, .int .i64 (ll : Nat), .int .i64 0, .slice none 0 0, .slice none 0 0]) := show Blk _ _ _ _ from hx6
            have HB6 := Lib.hid hb6
            clear hV6 hb6 hx6 HBX
            (try simp only [put_laws])
            refine wpAnyM_done (by kernel_rfl) ?_ _
            have hne : W2.heap.size ≠ B5 := by
              have h1 := (HX3.out W3 (Below.refl _ _)).lt
              have h2 := HLO5.out
              omega
            have hne' : B5 ≠ W2.heap.size := fun e => hne e.symm
            cases dd
            · obtain rfl : kk = 1 := by simpa using HKD.out
              obtain rfl : cb = 0 := by simpa using HC3.out
              obtain rfl : nn = xs.length := by simpa using HSN.out
              have k1 : V6.cell? ⟨B5, 1, none⟩ = some (.int .i64 1) := HX6.out.cell rfl
              obtain ⟨cw, c1, hbV⟩ := HA.out _ HB6.out
              clear hbV
              go_wp2_with fail
              refine (HS3.out _ (HB.out.trans (HB6.out.mono HB.out.size))).mono ?_
              rintro e w8 ⟨v8, rfl, hv, hbb⟩
              first
              | rw [if_pos rfl] at hv
              | rw [if_pos trivial] at hv
              obtain ⟨a8, cc8, rfl, -⟩ := hv.form
              have HB8 : Hid (Below W3.heap.size W3 w8) := show Below _ _ _ from HB6.out.trans (hbb.mono HB6.out.size)
              have HX8 : Hid (Blk w8 B5 44 #[.int .i64 0, .int .i64 1, .int .i64 (ll : Nat), .int .i64 0, .slice none 0 0, .slice none 0 0]) := show Blk _ _ _ _ from HX6.out.below hbb HX6.out.lt
              clear hv hbb k1 cw c1 HB6 HX6
              go_wp2_with fail
              refine (HTB.out _ 0 w8).mono ?_
              rintro e w9 ⟨rfl, ⟨-, rfl⟩ | ⟨hc, -⟩⟩
              rotate_left
              · exact absurd rfl hc
              have z0 := HX8.out.cell (j := 0) rfl
              have z1 := HX8.out.cell (j := 1) rfl
              have z2 := HX8.out.cell (j := 2) rfl
              have z3 := HX8.out.cell (j := 3) rfl
              have z4 := HX8.out.cell (j := 4) rfl
              have z5 := HX8.out.cell (j := 5) rfl
              have y3 := HX8.out.frozen 3
              have hr3 := HX3.out _ HB8.out
              have r0 := hr3.cell (j := 0) rfl
              have r1 := hr3.cell (j := 1) rfl
              have r2 := hr3.cell (j := 2) rfl
              have r3 := hr3.cell (j := 3) rfl
              have r4 := hr3.cell (j := 4) rfl
              have r5 := hr3.cell (j := 5) rfl
              have q0 := hr3.frozen 0
              have q1 := hr3.frozen 1
              have q2 := hr3.frozen 2
              have q3 := hr3.frozen 3
              have q4 := hr3.frozen 4
              have q5 := hr3.frozen 5
              clear hr3
              have HHR := Lib.hid (HX3.out _ HB8.out)
              have HBF : Hid (Below w.heap.size w w9) := show Below _ _ _ from HB.out.trans (HB8.out.mono HB.out.size)
              go_wp2_with fail
              refine bodyPost_ret (results_cell (fn := Tryz.f88) rfl rfl (Blk.loadVar (X := #[.int .i64 0, .int .i64 1, .int .i64 (ll : Nat), .int .i64 (xs.length : Nat), .slice none 0 0, .slice none 0 0]) ((((((((HHR.out.setOther _ hne).set 0 _).set 1 _).set 2 _).set 3 _).set 4 _).set 5 _)) (tt := 44) Tryz.underlying44 rfl (by kernel_rfl))) rfl ⟨?_, .inl ⟨rfl, _, rfl, rfl⟩⟩
              have h5 : w.heap.size ≤ B5 := Nat.le_trans HB.out.size HLO5.out
              exact (((((((HBF.out.setCell (p := ⟨B5, 3, none⟩) h5 _).setCell (p := ⟨W2.heap.size, 0, none⟩) HLO.out _).setCell (p := ⟨W2.heap.size, 1, none⟩) HLO.out _).setCell (p := ⟨W2.heap.size, 2, none⟩) HLO.out _).setCell (p := ⟨W2.heap.size, 3, none⟩) HLO.out _).setCell (p := ⟨W2.heap.size, 4, none⟩) HLO.out _).setCell (p := ⟨W2.heap.size, 5, none⟩) HLO.out _)
            · obtain rfl : kk = 2 := by simpa using HKD.out
              obtain rfl : cn = 0 := by simpa using HC4.out
              obtain rfl : nn = nm.length := by simpa using HSN.out
              have k1 : V6.cell? ⟨B5, 1, none⟩ = some (.int .i64 2) := HX6.out.cell rfl
              obtain ⟨cw, c1, hbV⟩ := HA.out _ HB6.out
              clear hbV
              go_wp2_with fail
              refine (HS4.out _ (HB.out.trans (HB6.out.mono HB.out.size))).mono ?_
              rintro e w8 ⟨v8, rfl, hv, hbb⟩
              first
              | rw [if_pos rfl] at hv
              | rw [if_pos trivial] at hv
              obtain ⟨a8, cc8, rfl⟩ := hv.form
              have HB8 : Hid (Below W3.heap.size W3 w8) := show Below _ _ _ from HB6.out.trans (hbb.mono HB6.out.size)
              have HX8 : Hid (Blk w8 B5 44 #[.int .i64 0, .int .i64 2, .int .i64 (ll : Nat), .int .i64 0, .slice none 0 0, .slice none 0 0]) := show Blk _ _ _ _ from HX6.out.below hbb HX6.out.lt
              clear hv hbb k1 cw c1 HB6 HX6
              go_wp2_with fail
              refine (HTS.out _ 0 w8).mono ?_
              rintro e w9 ⟨rfl, ⟨-, rfl⟩ | ⟨hc, -⟩⟩
              rotate_left
              · exact absurd rfl hc
              have z0 := HX8.out.cell (j := 0) rfl
              have z1 := HX8.out.cell (j := 1) rfl
              have z2 := HX8.out.cell (j := 2) rfl
              have z3 := HX8.out.cell (j := 3) rfl
              have z4 := HX8.out.cell (j := 4) rfl
              have z5 := HX8.out.cell (j := 5) rfl
              have y3 := HX8.out.frozen 3
              have hr3 := HX3.out _ HB8.out
              have r0 := hr3.cell (j := 0) rfl
              have r1 := hr3.cell (j := 1) rfl
              have r2 := hr3.cell (j := 2) rfl
              have r3 := hr3.cell (j := 3) rfl
              have r4 := hr3.cell (j := 4) rfl
              have r5 := hr3.cell (j := 5) rfl
              have q0 := hr3.frozen 0
              have q1 := hr3.frozen 1
              have q2 := hr3.frozen 2
              have q3 := hr3.frozen 3
              have q4 := hr3.frozen 4
              have q5 := hr3.frozen 5
              clear hr3
              have HHR := Lib.hid (HX3.out _ HB8.out)
              have HBF : Hid (Below w.heap.size w w9) := show Below _ _ _ from HB.out.trans (HB8.out.mono HB.out.size)
              go_wp2_with fail
              refine bodyPost_ret (results_cell (fn := Tryz.f88) rfl rfl (Blk.loadVar (X := #[.int .i64 0, .int .i64 2, .int .i64 (ll : Nat), .int .i64 (nm.length : Nat), .slice none 0 0, .slice none 0 0]) ((((((((HHR.out.setOther _ hne).set 0 _).set 1 _).set 2 _).set 3 _).set 4 _).set 5 _)) (tt := 44) Tryz.underlying44 rfl (by kernel_rfl))) rfl ⟨?_, .inl ⟨rfl, _, rfl, rfl⟩⟩
              have h5 : w.heap.size ≤ B5 := Nat.le_trans HB.out.size HLO5.out
              exact (((((((HBF.out.setCell (p := ⟨B5, 3, none⟩) h5 _).setCell (p := ⟨W2.heap.size, 0, none⟩) HLO.out _).setCell (p := ⟨W2.heap.size, 1, none⟩) HLO.out _).setCell (p := ⟨W2.heap.size, 2, none⟩) HLO.out _).setCell (p := ⟨W2.heap.size, 3, none⟩) HLO.out _).setCell (p := ⟨W2.heap.size, 4, none⟩) HLO.out _).setCell (p := ⟨W2.heap.size, 5, none⟩) HLO.out _)
          · rw [if_pos (by rfl)]
            (try simp only [elem_laws])
            go_simp
            have hbn : Below W3.heap.size W3 (w6.alloc (.cells #[.int .i64 0, .int .i64 0, .int .i64 0, .int .i64 0, .slice none 0 0, .slice none 0 0] 44)) := hR.2.2.alloc hR.2.2.size _
            have hbx : Blk (w6.alloc (.cells #[.int .i64 0, .int .i64 0, .int .i64 0, .int .i64 0, .slice none 0 0, .slice none 0 0] 44)) w6.heap.size 44 #[.int .i64 0, .int .i64 0, .int .i64 0, .int .i64 0, .slice none 0 0, .slice none 0 0] := Blk.new _ _ _
            have hlo : W3.heap.size ≤ w6.heap.size := hR.2.2.size
            have hR' := HA.out _ hbn
            refine hK _ _ (fun _ => hR') ?_
            clear hK K hR
            have hR := hR'
            clear hR' hbn
            obtain ⟨V5, hV5⟩ : ∃ V5, w6.alloc (.cells #[.int .i64 0, .int .i64 0, .int .i64 0, .int .i64 0, .slice none 0 0, .slice none 0 0] 44) = V5 := ⟨_, rfl⟩
            rw [hV5] at hR hbx ⊢
            obtain ⟨B5, hB5⟩ : ∃ B5, w6.heap.size = B5 := ⟨_, rfl⟩
            rw [hB5] at hbx hlo ⊢
            have HBX := Lib.hid hbx
            have HLO5 := Lib.hid hlo
            clear hbx hlo hV5 hB5
            (try simp only [put_laws])
            (refine wpAnyM_one (i := 15) rfl (by kernel_rfl) (fun K hK => ?_); rw [if_pos (by rfl)]; (try simp only [elem_laws]))
            go_simp
            refine (HTI.out _ _ _).mono ?_
            rintro e w7 ⟨rfl, ⟨-, rfl⟩ | ⟨hc, -⟩⟩
            rotate_left
            · exact absurd rfl hc
            refine hK _ _ (fun _ => hR) ?_
            clear hK K
            (try simp only [put_laws])
            (refine wpAnyM_take2 8 (i := 16) (v := ?_) rfl (by kernel_rfl) (by kernel_rfl) (fun _ _ _ h => h) (Or.inl ⟨by rfl, ?_⟩) hR ?_; rotate_left; (focus (intro w hSw; (try dsimp only at hSw); go_simp; (try with_reducible rfl))); (try simp only [put_laws]))
            (refine wpAnyM_last rfl (by kernel_rfl) (fun K hK => ?_); rw [if_pos (by rfl)]; (try simp only [elem_laws]))
            have hz := HBX.out
            have z0 := hz.cell (j := 0) rfl
            have z1 := hz.cell (j := 1) rfl
            have z2 := hz.cell (j := 2) rfl
            have z3 := hz.cell (j := 3) rfl
            have z4 := hz.cell (j := 4) rfl
            have z5 := hz.cell (j := 5) rfl
            have y0 := hz.frozen 0
            have y1 := hz.frozen 1
            have y2 := hz.frozen 2
            have y3 := hz.frozen 3
            have y4 := hz.frozen 4
            have y5 := hz.frozen 5
            clear hz
            go_simp
            have hb6 := ((((((hR.2.2.setCell (p := ⟨B5, 0, none⟩) HLO5.out (.int .i64 0)).setCell (p := ⟨B5, 1, none⟩) HLO5.out (.int .i64 kk)).setCell (p := ⟨B5, 2, none⟩) HLO5.out (.int .i64 (ll : Nat))).setCell (p := ⟨B5, 3, none⟩) HLO5.out (.int .i64 0)).setCell (p := ⟨B5, 4, none⟩) HLO5.out (.slice none 0 0)).setCell (p := ⟨B5, 5, none⟩) HLO5.out (.slice none 0 0))
            have hx6 := ((((((HBX.out.set 0 (.int .i64 0)).set 1 (.int .i64 kk)).set 2 (.int .i64 (ll : Nat))).set 3 (.int .i64 0)).set 4 (.slice none 0 0)).set 5 (.slice none 0 0))
            refine hK _ _ ?_
            clear hK K hR z0 z1 z2 z3 z4 z5 y0 y1 y2 y3 y4 y5
            revert hb6 hx6
            generalize hV6 : (World.setCell _ _ _) = V6
            intro hb6 hx6
            have HX6 : Hid (Blk V6 B5 44 #[.int .i64 0, .int .i64 kk, .int .i64 (ll : Nat), .int .i64 0, .slice none 0 0, .slice none 0 0]) := show Blk _ _ _ _ from hx6
            have HB6 := Lib.hid hb6
            clear hV6 hb6 hx6 HBX
            (try simp only [put_laws])
            refine wpAnyM_done (by kernel_rfl) ?_ _
            have hne : W2.heap.size ≠ B5 := by
              have h1 := (HX3.out W3 (Below.refl _ _)).lt
              have h2 := HLO5.out
              omega
            have hne' : B5 ≠ W2.heap.size := fun e => hne e.symm
            cases dd
            · obtain rfl : kk = 1 := by simpa using HKD.out
              obtain rfl : cb = 0 := by simpa using HC3.out
              obtain rfl : nn = xs.length := by simpa using HSN.out
              have k1 : V6.cell? ⟨B5, 1, none⟩ = some (.int .i64 1) := HX6.out.cell rfl
              obtain ⟨cw, c1, hbV⟩ := HA.out _ HB6.out
              clear hbV
              go_wp2_with fail
              refine (HS3.out _ (HB.out.trans (HB6.out.mono HB.out.size))).mono ?_
              rintro e w8 ⟨v8, rfl, hv, hbb⟩
              first
              | rw [if_pos rfl] at hv
              | rw [if_pos trivial] at hv
              obtain ⟨a8, cc8, rfl, -⟩ := hv.form
              have HB8 : Hid (Below W3.heap.size W3 w8) := show Below _ _ _ from HB6.out.trans (hbb.mono HB6.out.size)
              have HX8 : Hid (Blk w8 B5 44 #[.int .i64 0, .int .i64 1, .int .i64 (ll : Nat), .int .i64 0, .slice none 0 0, .slice none 0 0]) := show Blk _ _ _ _ from HX6.out.below hbb HX6.out.lt
              clear hv hbb k1 cw c1 HB6 HX6
              go_wp2_with fail
              refine (HTB.out _ 0 w8).mono ?_
              rintro e w9 ⟨rfl, ⟨-, rfl⟩ | ⟨hc, -⟩⟩
              rotate_left
              · exact absurd rfl hc
              have z0 := HX8.out.cell (j := 0) rfl
              have z1 := HX8.out.cell (j := 1) rfl
              have z2 := HX8.out.cell (j := 2) rfl
              have z3 := HX8.out.cell (j := 3) rfl
              have z4 := HX8.out.cell (j := 4) rfl
              have z5 := HX8.out.cell (j := 5) rfl
              have y3 := HX8.out.frozen 3
              have hr3 := HX3.out _ HB8.out
              have r0 := hr3.cell (j := 0) rfl
              have r1 := hr3.cell (j := 1) rfl
              have r2 := hr3.cell (j := 2) rfl
              have r3 := hr3.cell (j := 3) rfl
              have r4 := hr3.cell (j := 4) rfl
              have r5 := hr3.cell (j := 5) rfl
              have q0 := hr3.frozen 0
              have q1 := hr3.frozen 1
              have q2 := hr3.frozen 2
              have q3 := hr3.frozen 3
              have q4 := hr3.frozen 4
              have q5 := hr3.frozen 5
              clear hr3
              have HHR := Lib.hid (HX3.out _ HB8.out)
              have HBF : Hid (Below w.heap.size w w9) := show Below _ _ _ from HB.out.trans (HB8.out.mono HB.out.size)
              go_wp2_with fail
              refine bodyPost_ret (results_cell (fn := Tryz.f88) rfl rfl (Blk.loadVar (X := #[.int .i64 0, .int .i64 1, .int .i64 (ll : Nat), .int .i64 (xs.length : Nat), .slice none 0 0, .slice none 0 0]) ((((((((HHR.out.setOther _ hne).set 0 _).set 1 _).set 2 _).set 3 _).set 4 _).set 5 _)) (tt := 44) Tryz.underlying44 rfl (by kernel_rfl))) rfl ⟨?_, .inl ⟨rfl, _, rfl, rfl⟩⟩
              have h5 : w.heap.size ≤ B5 := Nat.le_trans HB.out.size HLO5.out
              exact (((((((HBF.out.setCell (p := ⟨B5, 3, none⟩) h5 _).setCell (p := ⟨W2.heap.size, 0, none⟩) HLO.out _).setCell (p := ⟨W2.heap.size, 1, none⟩) HLO.out _).setCell (p := ⟨W2.heap.size, 2, none⟩) HLO.out _).setCell (p := ⟨W2.heap.size, 3, none⟩) HLO.out _).setCell (p := ⟨W2.heap.size, 4, none⟩) HLO.out _).setCell (p := ⟨W2.heap.size, 5, none⟩) HLO.out _)
            · obtain rfl : kk = 2 := by simpa using HKD.out
              obtain rfl : cn = 0 := by simpa using HC4.out
              obtain rfl : nn = nm.length := by simpa using HSN.out
              have k1 : V6.cell? ⟨B5, 1, none⟩ = some (.int .i64 2) := HX6.out.cell rfl
              obtain ⟨cw, c1, hbV⟩ := HA.out _ HB6.out
              clear hbV
              go_wp2_with fail
              refine (HS4.out _ (HB.out.trans (HB6.out.mono HB.out.size))).mono ?_
              rintro e w8 ⟨v8, rfl, hv, hbb⟩
              first
              | rw [if_pos rfl] at hv
              | rw [if_pos trivial] at hv
              obtain ⟨a8, cc8, rfl⟩ := hv.form
              have HB8 : Hid (Below W3.heap.size W3 w8) := show Below _ _ _ from HB6.out.trans (hbb.mono HB6.out.size)
              have HX8 : Hid (Blk w8 B5 44 #[.int .i64 0, .int .i64 2, .int .i64 (ll : Nat), .int .i64 0, .slice none 0 0, .slice none 0 0]) := show Blk _ _ _ _ from HX6.out.below hbb HX6.out.lt
              clear hv hbb k1 cw c1 HB6 HX6
              go_wp2_with fail
              refine (HTS.out _ 0 w8).mono ?_
              rintro e w9 ⟨rfl, ⟨-, rfl⟩ | ⟨hc, -⟩⟩
              rotate_left
              · exact absurd rfl hc
              have z0 := HX8.out.cell (j := 0) rfl
              have z1 := HX8.out.cell (j := 1) rfl
              have z2 := HX8.out.cell (j := 2) rfl
              have z3 := HX8.out.cell (j := 3) rfl
              have z4 := HX8.out.cell (j := 4) rfl
              have z5 := HX8.out.cell (j := 5) rfl
              have y3 := HX8.out.frozen 3
              have hr3 := HX3.out _ HB8.out
              have r0 := hr3.cell (j := 0) rfl
              have r1 := hr3.cell (j := 1) rfl
              have r2 := hr3.cell (j := 2) rfl
              have r3 := hr3.cell (j := 3) rfl
              have r4 := hr3.cell (j := 4) rfl
              have r5 := hr3.cell (j := 5) rfl
              have q0 := hr3.frozen 0
              have q1 := hr3.frozen 1
              have q2 := hr3.frozen 2
              have q3 := hr3.frozen 3
              have q4 := hr3.frozen 4
              have q5 := hr3.frozen 5
              clear hr3
              have HHR := Lib.hid (HX3.out _ HB8.out)
              have HBF : Hid (Below w.heap.size w w9) := show Below _ _ _ from HB.out.trans (HB8.out.mono HB.out.size)
              go_wp2_with fail
              refine bodyPost_ret (results_cell (fn := Tryz.f88) rfl rfl (Blk.loadVar (X := #[.int .i64 0, .int .i64 2, .int .i64 (ll : Nat), .int .i64 (nm.length : Nat), .slice none 0 0, .slice none 0 0]) ((((((((HHR.out.setOther _ hne).set 0 _).set 1 _).set 2 _).set 3 _).set 4 _).set 5 _)) (tt := 44) Tryz.underlying44 rfl (by kernel_rfl))) rfl ⟨?_, .inl ⟨rfl, _, rfl, rfl⟩⟩
              have h5 : w.heap.size ≤ B5 := Nat.le_trans HB.out.size HLO5.out
              exact (((((((HBF.out.setCell (p := ⟨B5, 3, none⟩) h5 _).setCell (p := ⟨W2.heap.size, 0, none⟩) HLO.out _).setCell (p := ⟨W2.heap.size, 1, none⟩) HLO.out _).setCell (p := ⟨W2.heap.size, 2, none⟩) HLO.out _).setCell (p := ⟨W2.heap.size, 3, none⟩) HLO.out _).setCell (p := ⟨W2.heap.size, 4, none⟩) HLO.out _).setCell (p := ⟨W2.heap.size, 5, none⟩) HLO.out _)
        · rw [if_pos (by rfl)]
          (try simp only [elem_laws])
          go_simp
          have hbn : Below W3.heap.size W3 (w5.alloc (.cells #[.int .i64 0, .int .i64 0, .int .i64 0, .int .i64 0, .slice none 0 0, .slice none 0 0] 44)) := hR.2.2.alloc hR.2.2.size _
          have hbx : Blk (w5.alloc (.cells #[.int .i64 0, .int .i64 0, .int .i64 0, .int .i64 0, .slice none 0 0, .slice none 0 0] 44)) w5.heap.size 44 #[.int .i64 0, .int .i64 0, .int .i64 0, .int .i64 0, .slice none 0 0, .slice none 0 0] := Blk.new _ _ _
          have hlo : W3.heap.size ≤ w5.heap.size := hR.2.2.size
          have hR' := HA.out _ hbn
          refine hK _ _ (fun _ => hR') ?_
          clear hK K hR
          have hR := hR'
          clear hR' hbn
          obtain ⟨V5, hV5⟩ : ∃ V5, w5.alloc (.cells #[.int .i64 0, .int .i64 0, .int .i64 0, .int .i64 0, .slice none 0 0, .slice none 0 0] 44) = V5 := ⟨_, rfl⟩
          rw [hV5] at hR hbx ⊢
          obtain ⟨B5, hB5⟩ : ∃ B5, w5.heap.size = B5 := ⟨_, rfl⟩
          rw [hB5] at hbx hlo ⊢
          have HBX := Lib.hid hbx
          have HLO5 := Lib.hid hlo
          clear hbx hlo hV5 hB5
          (try simp only [put_laws])
          (refine wpAnyM_one (i := 12) rfl (by kernel_rfl) (fun K hK => ?_); rw [if_pos (by rfl)]; (try simp only [elem_laws]))
          go_simp
          refine (HS2.out _ (HB.out.trans (hR.2.2.mono HB.out.size))).mono ?_
          rintro e w6 ⟨rfl, hbb⟩
          rw [if_pos rfl]
          have hR' := HA.out _ (hR.2.2.trans (hbb.mono hR.2.2.size))
          refine hK _ _ (fun _ => hR') ?_
          have HBX := Lib.hid (HBX.out.below hbb HBX.out.lt)
          clear hK K hR hbb
          have hR := hR'
          clear hR'
          (try simp only [put_laws])
          (refine wpAnyM_take2 8 (i := 13) (v := ?_) rfl (by kernel_rfl) (by kernel_rfl) (fun _ _ _ h => h) (Or.inl ⟨by rfl, ?_⟩) hR ?_; rotate_left; (focus (intro w hSw; (try dsimp only at hSw); go_simp; (try with_reducible rfl))); (try simp only [put_laws])); (refine wpAnyM_take2 8 (i := 14) (v := ?_) rfl (by kernel_rfl) (by kernel_rfl) (fun _ _ _ h => h) (Or.inl ⟨by rfl, ?_⟩) hR ?_; rotate_left; (focus (intro w hSw; (try dsimp only at hSw); go_simp; (try with_reducible rfl))); (try simp only [put_laws]))
          (refine wpAnyM_one (i := 15) rfl (by kernel_rfl) (fun K hK => ?_); rw [if_pos (by rfl)]; (try simp only [elem_laws]))
          go_simp
          refine (HTI.out _ _ _).mono ?_
          rintro e w7 ⟨rfl, ⟨-, rfl⟩ | ⟨hc, -⟩⟩
          rotate_left
          · exact absurd rfl hc
          refine hK _ _ (fun _ => hR) ?_
          clear hK K
          (try simp only [put_laws])
          (refine wpAnyM_take2 8 (i := 16) (v := ?_) rfl (by kernel_rfl) (by kernel_rfl) (fun _ _ _ h => h) (Or.inl ⟨by rfl, ?_⟩) hR ?_; rotate_left; (focus (intro w hSw; (try dsimp only at hSw); go_simp; (try with_reducible rfl))); (try simp only [put_laws]))
          (refine wpAnyM_last rfl (by kernel_rfl) (fun K hK => ?_); rw [if_pos (by rfl)]; (try simp only [elem_laws]))
          have hz := HBX.out
          have z0 := hz.cell (j := 0) rfl
          have z1 := hz.cell (j := 1) rfl
          have z2 := hz.cell (j := 2) rfl
          have z3 := hz.cell (j := 3) rfl
          have z4 := hz.cell (j := 4) rfl
          have z5 := hz.cell (j := 5) rfl
          have y0 := hz.frozen 0
          have y1 := hz.frozen 1
          have y2 := hz.frozen 2
          have y3 := hz.frozen 3
          have y4 := hz.frozen 4
          have y5 := hz.frozen 5
          clear hz
          go_simp
          have hb6 := ((((((hR.2.2.setCell (p := ⟨B5, 0, none⟩) HLO5.out (.int .i64 0)).setCell (p := ⟨B5, 1, none⟩) HLO5.out (.int .i64 kk)).setCell (p := ⟨B5, 2, none⟩) HLO5.out (.int .i64 (ll : Nat))).setCell (p := ⟨B5, 3, none⟩) HLO5.out (.int .i64 0)).setCell (p := ⟨B5, 4, none⟩) HLO5.out (.slice none 0 0)).setCell (p := ⟨B5, 5, none⟩) HLO5.out (.slice none 0 0))
          have hx6 := ((((((HBX.out.set 0 (.int .i64 0)).set 1 (.int .i64 kk)).set 2 (.int .i64 (ll : Nat))).set 3 (.int .i64 0)).set 4 (.slice none 0 0)).set 5 (.slice none 0 0))
          refine hK _ _ ?_
          clear hK K hR z0 z1 z2 z3 z4 z5 y0 y1 y2 y3 y4 y5
          revert hb6 hx6
          generalize hV6 : (World.setCell _ _ _) = V6
          intro hb6 hx6
          have HX6 : Hid (Blk V6 B5 44 #[.int .i64 0, .int .i64 kk, .int .i64 (ll : Nat), .int .i64 0, .slice none 0 0, .slice none 0 0]) := show Blk _ _ _ _ from hx6
          have HB6 := Lib.hid hb6
          clear hV6 hb6 hx6 HBX
          (try simp only [put_laws])
          refine wpAnyM_done (by kernel_rfl) ?_ _
          have hne : W2.heap.size ≠ B5 := by
            have h1 := (HX3.out W3 (Below.refl _ _)).lt
            have h2 := HLO5.out
            omega
          have hne' : B5 ≠ W2.heap.size := fun e => hne e.symm
          cases dd
          · obtain rfl : kk = 1 := by simpa using HKD.out
            obtain rfl : cb = 0 := by simpa using HC3.out
            obtain rfl : nn = xs.length := by simpa using HSN.out
            have k1 : V6.cell? ⟨B5, 1, none⟩ = some (.int .i64 1) := HX6.out.cell rfl
            obtain ⟨cw, c1, hbV⟩ := HA.out _ HB6.out
            clear hbV
            go_wp2_with fail
            refine (HS3.out _ (HB.out.trans (HB6.out.mono HB.out.size))).mono ?_
            rintro e w8 ⟨v8, rfl, hv, hbb⟩
            first
            | rw [if_pos rfl] at hv
            | rw [if_pos trivial] at hv
            obtain ⟨a8, cc8, rfl, -⟩ := hv.form
            have HB8 : Hid (Below W3.heap.size W3 w8) := show Below _ _ _ from HB6.out.trans (hbb.mono HB6.out.size)
            have HX8 : Hid (Blk w8 B5 44 #[.int .i64 0, .int .i64 1, .int .i64 (ll : Nat), .int .i64 0, .slice none 0 0, .slice none 0 0]) := show Blk _ _ _ _ from HX6.out.below hbb HX6.out.lt
            clear hv hbb k1 cw c1 HB6 HX6
            go_wp2_with fail
            refine (HTB.out _ 0 w8).mono ?_
            rintro e w9 ⟨rfl, ⟨-, rfl⟩ | ⟨hc, -⟩⟩
            rotate_left
            · exact absurd rfl hc
            have z0 := HX8.out.cell (j := 0) rfl
            have z1 := HX8.out.cell (j := 1) rfl
            have z2 := HX8.out.cell (j := 2) rfl
            have z3 := HX8.out.cell (j := 3) rfl
            have z4 := HX8.out.cell (j := 4) rfl
            have z5 := HX8.out.cell (j := 5) rfl
            have y3 := HX8.out.frozen 3
            have hr3 := HX3.out _ HB8.out
            have r0 := hr3.cell (j := 0) rfl
            have r1 := hr3.cell (j := 1) rfl
            have r2 := hr3.cell (j := 2) rfl
            have r3 := hr3.cell (j := 3) rfl
            have r4 := hr3.cell (j := 4) rfl
            have r5 := hr3.cell (j := 5) rfl
            have q0 := hr3.frozen 0
            have q1 := hr3.frozen 1
            have q2 := hr3.frozen 2
            have q3 := hr3.frozen 3
            have q4 := hr3.frozen 4
            have q5 := hr3.frozen 5
            clear hr3
            have HHR := Lib.hid (HX3.out _ HB8.out)
            have HBF : Hid (Below w.heap.size w w9) := show Below _ _ _ from HB.out.trans (HB8.out.mono HB.out.size)
            go_wp2_with fail
            refine bodyPost_ret (results_cell (fn := Tryz.f88) rfl rfl (Blk.loadVar (X := #[.int .i64 0, .int .i64 1, .int .i64 (ll : Nat), .int .i64 (xs.length : Nat), .slice none 0 0, .slice none 0 0]) ((((((((HHR.out.setOther _ hne).set 0 _).set 1 _).set 2 _).set 3 _).set 4 _).set 5 _)) (tt := 44) Tryz.underlying44 rfl (by kernel_rfl))) rfl ⟨?_, .inl ⟨rfl, _, rfl, rfl⟩⟩
            have h5 : w.heap.size ≤ B5 := Nat.le_trans HB.out.size HLO5.out
            exact (((((((HBF.out.setCell (p := ⟨B5, 3, none⟩) h5 _).setCell (p := ⟨W2.heap.size, 0, none⟩) HLO.out _).setCell (p := ⟨W2.heap.size, 1, none⟩) HLO.out _).setCell (p := ⟨W2.heap.size, 2, none⟩) HLO.out _).setCell (p := ⟨W2.heap.size, 3, none⟩) HLO.out _).setCell (p := ⟨W2.heap.size, 4, none⟩) HLO.out _).setCell (p := ⟨W2.heap.size, 5, none⟩) HLO.out _)
          · obtain rfl : kk = 2 := by simpa using HKD.out
            obtain rfl : cn = 0 := by simpa using HC4.out
            obtain rfl : nn = nm.length := by simpa using HSN.out
            have k1 : V6.cell? ⟨B5, 1, none⟩ = some (.int .i64 2) := HX6.out.cell rfl
            obtain ⟨cw, c1, hbV⟩ := HA.out _ HB6.out
            clear hbV
            go_wp2_with fail
            refine (HS4.out _ (HB.out.trans (HB6.out.mono HB.out.size))).mono ?_
            rintro e w8 ⟨v8, rfl, hv, hbb⟩
            first
            | rw [if_pos rfl] at hv
            | rw [if_pos trivial] at hv
            obtain ⟨a8, cc8, rfl⟩ := hv.form
            have HB8 : Hid (Below W3.heap.size W3 w8) := show Below _ _ _ from HB6.out.trans (hbb.mono HB6.out.size)
            have HX8 : Hid (Blk w8 B5 44 #[.int .i64 0, .int .i64 2, .int .i64 (ll : Nat), .int .i64 0, .slice none 0 0, .slice none 0 0]) := show Blk _ _ _ _ from HX6.out.below hbb HX6.out.lt
            clear hv hbb k1 cw c1 HB6 HX6
            go_wp2_with fail
            refine (HTS.out _ 0 w8).mono ?_
            rintro e w9 ⟨rfl, ⟨-, rfl⟩ | ⟨hc, -⟩⟩
            rotate_left
            · exact absurd rfl hc
            have z0 := HX8.out.cell (j := 0) rfl
            have z1 := HX8.out.cell (j := 1) rfl
            have z2 := HX8.out.cell (j := 2) rfl
            have z3 := HX8.out.cell (j := 3) rfl
            have z4 := HX8.out.cell (j := 4) rfl
            have z5 := HX8.out.cell (j := 5) rfl
            have y3 := HX8.out.frozen 3
            have hr3 := HX3.out _ HB8.out
            have r0 := hr3.cell (j := 0) rfl
            have r1 := hr3.cell (j := 1) rfl
            have r2 := hr3.cell (j := 2) rfl
            have r3 := hr3.cell (j := 3) rfl
            have r4 := hr3.cell (j := 4) rfl
            have r5 := hr3.cell (j := 5) rfl
            have q0 := hr3.frozen 0
            have q1 := hr3.frozen 1
            have q2 := hr3.frozen 2
            have q3 := hr3.frozen 3
            have q4 := hr3.frozen 4
            have q5 := hr3.frozen 5
            clear hr3
            have HHR := Lib.hid (HX3.out _ HB8.out)
            have HBF : Hid (Below w.heap.size w w9) := show Below _ _ _ from HB.out.trans (HB8.out.mono HB.out.size)
            go_wp2_with fail
            refine bodyPost_ret (results_cell (fn := Tryz.f88) rfl rfl (Blk.loadVar (X := #[.int .i64 0, .int .i64 2, .int .i64 (ll : Nat), .int .i64 (nm.length : Nat), .slice none 0 0, .slice none 0 0]) ((((((((HHR.out.setOther _ hne).set 0 _).set 1 _).set 2 _).set 3 _).set 4 _).set 5 _)) (tt := 44) Tryz.underlying44 rfl (by kernel_rfl))) rfl ⟨?_, .inl ⟨rfl, _, rfl, rfl⟩⟩
            have h5 : w.heap.size ≤ B5 := Nat.le_trans HB.out.size HLO5.out
            exact (((((((HBF.out.setCell (p := ⟨B5, 3, none⟩) h5 _).setCell (p := ⟨W2.heap.size, 0, none⟩) HLO.out _).setCell (p := ⟨W2.heap.size, 1, none⟩) HLO.out _).setCell (p := ⟨W2.heap.size, 2, none⟩) HLO.out _).setCell (p := ⟨W2.heap.size, 3, none⟩) HLO.out _).setCell (p := ⟨W2.heap.size, 4, none⟩) HLO.out _).setCell (p := ⟨W2.heap.size, 5, none⟩) HLO.out _)
      · rw [if_pos (by rfl)]
        (try simp only [elem_laws])
        go_simp
        have hbn : Below W3.heap.size W3 (w4.alloc (.cells #[.int .i64 0, .int .i64 0, .int .i64 0, .int .i64 0, .slice none 0 0, .slice none 0 0] 44)) := hR.2.2.alloc hR.2.2.size _
        have hbx : Blk (w4.alloc (.cells #[.int .i64 0, .int .i64 0, .int .i64 0, .int .i64 0, .slice none 0 0, .slice none 0 0] 44)) w4.heap.size 44 #[.int .i64 0, .int .i64 0, .int .i64 0, .int .i64 0, .slice none 0 0, .slice none 0 0] := Blk.new _ _ _
        have hlo : W3.heap.size ≤ w4.heap.size := hR.2.2.size
        have hR' := HA.out _ hbn
        refine hK _ _ (fun _ => hR') ?_
        clear hK K hR
        have hR := hR'
        clear hR' hbn
        obtain ⟨V5, hV5⟩ : ∃ V5, w4.alloc (.cells #[.int .i64 0, .int .i64 0, .int .i64 0, .int .i64 0, .slice none 0 0, .slice none 0 0] 44) = V5 := ⟨_, rfl⟩
        rw [hV5] at hR hbx ⊢
        obtain ⟨B5, hB5⟩ : ∃ B5, w4.heap.size = B5 := ⟨_, rfl⟩
        rw [hB5] at hbx hlo ⊢
        have HBX := Lib.hid hbx
        have HLO5 := Lib.hid hlo
        clear hbx hlo hV5 hB5
        (try simp only [put_laws])
        (refine wpAnyM_one (i := 7) rfl (by kernel_rfl) (fun K hK => ?_); rw [if_pos (by rfl)]; (try simp only [elem_laws]))
        go_simp
        refine (HTK.out _ _ _).mono ?_
        rintro e w5 ⟨rfl, ⟨-, rfl⟩ | ⟨hc, -⟩⟩
        rotate_left
        · exact absurd rfl hc
        refine hK _ _ (fun _ => hR) ?_
        clear hK K
        (try simp only [put_laws])
        (refine wpAnyM_one (i := 12) rfl (by kernel_rfl) (fun K hK => ?_); rw [if_pos (by rfl)]; (try simp only [elem_laws]))
        go_simp
        refine (HS2.out _ (HB.out.trans (hR.2.2.mono HB.out.size))).mono ?_
        rintro e w6 ⟨rfl, hbb⟩
        rw [if_pos rfl]
        have hR' := HA.out _ (hR.2.2.trans (hbb.mono hR.2.2.size))
        refine hK _ _ (fun _ => hR') ?_
        have HBX := Lib.hid (HBX.out.below hbb HBX.out.lt)
        clear hK K hR hbb
        have hR := hR'
        clear hR'
        (try simp only [put_laws])
        (refine wpAnyM_take2 8 (i := 13) (v := ?_) rfl (by kernel_rfl) (by kernel_rfl) (fun _ _ _ h => h) (Or.inl ⟨by rfl, ?_⟩) hR ?_; rotate_left; (focus (intro w hSw; (try dsimp only at hSw); go_simp; (try with_reducible rfl))); (try simp only [put_laws])); (refine wpAnyM_take2 8 (i := 14) (v := ?_) rfl (by kernel_rfl) (by kernel_rfl) (fun _ _ _ h => h) (Or.inl ⟨by rfl, ?_⟩) hR ?_; rotate_left; (focus (intro w hSw; (try dsimp only at hSw); go_simp; (try with_reducible rfl))); (try simp only [put_laws]))
        (refine wpAnyM_one (i := 15) rfl (by kernel_rfl) (fun K hK => ?_); rw [if_pos (by rfl)]; (try simp only [elem_laws]))
        go_simp
        refine (HTI.out _ _ _).mono ?_
        rintro e w7 ⟨rfl, ⟨-, rfl⟩ | ⟨hc, -⟩⟩
        rotate_left
        · exact absurd rfl hc
        refine hK _ _ (fun _ => hR) ?_
        clear hK K
        (try simp only [put_laws])
        (refine wpAnyM_take2 8 (i := 16) (v := ?_) rfl (by kernel_rfl) (by kernel_rfl) (fun _ _ _ h => h) (Or.inl ⟨by rfl, ?_⟩) hR ?_; rotate_left; (focus (intro w hSw; (try dsimp only at hSw); go_simp; (try with_reducible rfl))); (try simp only [put_laws]))
        (refine wpAnyM_last rfl (by kernel_rfl) (fun K hK => ?_); rw [if_pos (by rfl)]; (try simp only [elem_laws]))
        have hz := HBX.out
        have z0 := hz.cell (j := 0) rfl
        have z1 := hz.cell (j := 1) rfl
        have z2 := hz.cell (j := 2) rfl
        have z3 := hz.cell (j := 3) rfl
        have z4 := hz.cell (j := 4) rfl
        have z5 := hz.cell (j := 5) rfl
        have y0 := hz.frozen 0
        have y1 := hz.frozen 1
        have y2 := hz.frozen 2
        have y3 := hz.frozen 3
        have y4 := hz.frozen 4
        have y5 := hz.frozen 5
        clear hz
        go_simp
        have hb6 := ((((((hR.2.2.setCell (p := ⟨B5, 0, none⟩) HLO5.out (.int .i64 0)).setCell (p := ⟨B5, 1, none⟩) HLO5.out (.int .i64 kk)).setCell (p := ⟨B5, 2, none⟩) HLO5.out (.int .i64 (ll : Nat))).setCell (p := ⟨B5, 3, none⟩) HLO5.out (.int .i64 0)).setCell (p := ⟨B5, 4, none⟩) HLO5.out (.slice none 0 0)).setCell (p := ⟨B5, 5, none⟩) HLO5.out (.slice none 0 0))
        have hx6 := ((((((HBX.out.set 0 (.int .i64 0)).set 1 (.int .i64 kk)).set 2 (.int .i64 (ll : Nat))).set 3 (.int .i64 0)).set 4 (.slice none 0 0)).set 5 (.slice none 0 0))
        refine hK _ _ ?_
        clear hK K hR z0 z1 z2 z3 z4 z5 y0 y1 y2 y3 y4 y5
        revert hb6 hx6
        generalize hV6 : (World.setCell _ _ _) = V6
        intro hb6 hx6
        have HX6 : Hid (Blk V6 B5 44 #[.int .i64 0, .int .i64 kk, .int .i64 (ll : Nat), .int .i64 0, .slice none 0 0, .slice none 0 0]) := show Blk _ _ _ _ from hx6
        have HB6 := Lib.hid hb6
        clear hV6 hb6 hx6 HBX
        (try simp only [put_laws])
        refine wpAnyM_done (by kernel_rfl) ?_ _
        have hne : W2.heap.size ≠ B5 := by
          have h1 := (HX3.out W3 (Below.refl _ _)).lt
          have h2 := HLO5.out
          omega
        have hne' : B5 ≠ W2.heap.size := fun e => hne e.symm
        cases dd
        · obtain rfl : kk = 1 := by simpa using HKD.out
          obtain rfl : cb = 0 := by simpa using HC3.out
          obtain rfl : nn = xs.length := by simpa using HSN.out
          have k1 : V6.cell? ⟨B5, 1, none⟩ = some (.int .i64 1) := HX6.out.cell rfl
          obtain ⟨cw, c1, hbV⟩ := HA.out _ HB6.out
          clear hbV
          go_wp2_with fail
          refine (HS3.out _ (HB.out.trans (HB6.out.mono HB.out.size))).mono ?_
          rintro e w8 ⟨v8, rfl, hv, hbb⟩
          first
          | rw [if_pos rfl] at hv
          | rw [if_pos trivial] at hv
          obtain ⟨a8, cc8, rfl, -⟩ := hv.form
          have HB8 : Hid (Below W3.heap.size W3 w8) := show Below _ _ _ from HB6.out.trans (hbb.mono HB6.out.size)
          have HX8 : Hid (Blk w8 B5 44 #[.int .i64 0, .int .i64 1, .int .i64 (ll : Nat), .int .i64 0, .slice none 0 0, .slice none 0 0]) := show Blk _ _ _ _ from HX6.out.below hbb HX6.out.lt
          clear hv hbb k1 cw c1 HB6 HX6
          go_wp2_with fail
          refine (HTB.out _ 0 w8).mono ?_
          rintro e w9 ⟨rfl, ⟨-, rfl⟩ | ⟨hc, -⟩⟩
          rotate_left
          · exact absurd rfl hc
          have z0 := HX8.out.cell (j := 0) rfl
          have z1 := HX8.out.cell (j := 1) rfl
          have z2 := HX8.out.cell (j := 2) rfl
          have z3 := HX8.out.cell (j := 3) rfl
          have z4 := HX8.out.cell (j := 4) rfl
          have z5 := HX8.out.cell (j := 5) rfl
          have y3 := HX8.out.frozen 3
          have hr3 := HX3.out _ HB8.out
          have r0 := hr3.cell (j := 0) rfl
          have r1 := hr3.cell (j := 1) rfl
          have r2 := hr3.cell (j := 2) rfl
          have r3 := hr3.cell (j := 3) rfl
          have r4 := hr3.cell (j := 4) rfl
          have r5 := hr3.cell (j := 5) rfl
          have q0 := hr3.frozen 0
          have q1 := hr3.frozen 1
          have q2 := hr3.frozen 2
          have q3 := hr3.frozen 3
          have q4 := hr3.frozen 4
          have q5 := hr3.frozen 5
          clear hr3
          have HHR := Lib.hid (HX3.out _ HB8.out)
          have HBF : Hid (Below w.heap.size w w9) := show Below _ _ _ from HB.out.trans (HB8.out.mono HB.out.size)
          go_wp2_with fail
          refine bodyPost_ret (results_cell (fn := Tryz.f88) rfl rfl (Blk.loadVar (X := #[.int .i64 0, .int .i64 1, .int .i64 (ll : Nat), .int .i64 (xs.length : Nat), .slice none 0 0, .slice none 0 0]) ((((((((HHR.out.setOther _ hne).set 0 _).set 1 _).set 2 _).set 3 _).set 4 _).set 5 _)) (tt := 44) Tryz.underlying44 rfl (by kernel_rfl))) rfl ⟨?_, .inl ⟨rfl, _, rfl, rfl⟩⟩
          have h5 : w.heap.size ≤ B5 := Nat.le_trans HB.out.size HLO5.out
          exact (((((((HBF.out.setCell (p := ⟨B5, 3, none⟩) h5 _).setCell (p := ⟨W2.heap.size, 0, none⟩) HLO.out _).setCell (p := ⟨W2.heap.size, 1, none⟩) HLO.out _).setCell (p := ⟨W2.heap.size, 2, none⟩) HLO.out _).setCell (p := ⟨W2.heap.size, 3, none⟩) HLO.out _).setCell (p := ⟨W2.heap.size, 4, none⟩) HLO.out _).setCell (p := ⟨W2.heap.size, 5, none⟩) HLO.out _)
        · obtain rfl : kk = 2 := by simpa using HKD.out
          obtain rfl : cn = 0 := by simpa using HC4.out
          obtain rfl : nn = nm.length := by simpa using HSN.out
          have k1 : V6.cell? ⟨B5, 1, none⟩ = some (.int .i64 2) := HX6.out.cell rfl
          obtain ⟨cw, c1, hbV⟩ := HA.out _ HB6.out
          clear hbV
          go_wp2_with fail
          refine (HS4.out _ (HB.out.trans (HB6.out.mono HB.out.size))).mono ?_
          rintro e w8 ⟨v8, rfl, hv, hbb⟩
          first
          | rw [if_pos rfl] at hv
          | rw [if_pos trivial] at hv
          obtain ⟨a8, cc8, rfl⟩ := hv.form
          have HB8 : Hid (Below W3.heap.size W3 w8) := show Below _ _ _ from HB6.out.trans (hbb.mono HB6.out.size)
          have HX8 : Hid (Blk w8 B5 44 #[.int .i64 0, .int .i64 2, .int .i64 (ll : Nat), .int .i64 0, .slice none 0 0, .slice none 0 0]) := show Blk _ _ _ _ from HX6.out.below hbb HX6.out.lt
          clear hv hbb k1 cw c1 HB6 HX6
          go_wp2_with fail
          refine (HTS.out _ 0 w8).mono ?_
          rintro e w9 ⟨rfl, ⟨-, rfl⟩ | ⟨hc, -⟩⟩
          rotate_left
          · exact absurd rfl hc
          have z0 := HX8.out.cell (j := 0) rfl
          have z1 := HX8.out.cell (j := 1) rfl
          have z2 := HX8.out.cell (j := 2) rfl
          have z3 := HX8.out.cell (j := 3) rfl
          have z4 := HX8.out.cell (j := 4) rfl
          have z5 := HX8.out.cell (j := 5) rfl
          have y3 := HX8.out.frozen 3
          have hr3 := HX3.out _ HB8.out
          have r0 := hr3.cell (j := 0) rfl
          have r1 := hr3.cell (j := 1) rfl
          have r2 := hr3.cell (j := 2) rfl
          have r3 := hr3.cell (j := 3) rfl
          have r4 := hr3.cell (j := 4) rfl
          have r5 := hr3.cell (j := 5) rfl
          have q0 := hr3.frozen 0
          have q1 := hr3.frozen 1
          have q2 := hr3.frozen 2
          have q3 := hr3.frozen 3
          have q4 := hr3.frozen 4
          have q5 := hr3.frozen 5
          clear hr3
          have HHR := Lib.hid (HX3.out _ HB8.out)
          have HBF : Hid (Below w.heap.size w w9) := show Below _ _ _ from HB.out.trans (HB8.out.mono HB.out.size)
          go_wp2_with fail
          refine bodyPost_ret (results_cell (fn := Tryz.f88) rfl rfl (Blk.loadVar (X := #[.int .i64 0, .int .i64 2, .int .i64 (ll : Nat), .int .i64 (nm.length : Nat), .slice none 0 0, .slice none 0 0]) ((((((((HHR.out.setOther _ hne).set 0 _).set 1 _).set 2 _).set 3 _).set 4 _).set 5 _)) (tt := 44) Tryz.underlying44 rfl (by kernel_rfl))) rfl ⟨?_, .inl ⟨rfl, _, rfl, rfl⟩⟩
          have h5 : w.heap.size ≤ B5 := Nat.le_trans HB.out.size HLO5.out
          exact (((((((HBF.out.setCell (p := ⟨B5, 3, none⟩) h5 _).setCell (p := ⟨W2.heap.size, 0, none⟩) HLO.out _).setCell (p := ⟨W2.heap.size, 1, none⟩) HLO.out _).setCell (p := ⟨W2.heap.size, 2, none⟩) HLO.out _).setCell (p := ⟨W2.heap.size, 3, none⟩) HLO.out _).setCell (p := ⟨W2.heap.size, 4, none⟩) HLO.out _).setCell (p := ⟨W2.heap.size, 5, none⟩) HLO.out _)
    · rw [if_pos (by rfl)]
      (try simp only [elem_laws])
      go_simp
      have hbn : Below W3.heap.size W3 (V0.alloc (.cells #[.int .i64 0, .int .i64 0, .int .i64 0, .int .i64 0, .slice none 0 0, .slice none 0 0] 44)) := hR.2.2.alloc hR.2.2.size _
      have hbx : Blk (V0.alloc (.cells #[.int .i64 0, .int .i64 0, .int .i64 0, .int .i64 0, .slice none 0 0, .slice none 0 0] 44)) V0.heap.size 44 #[.int .i64 0, .int .i64 0, .int .i64 0, .int .i64 0, .slice none 0 0, .slice none 0 0] := Blk.new _ _ _
      have hlo : W3.heap.size ≤ V0.heap.size := hR.2.2.size
      have hR' := HA.out _ hbn
      refine hK _ _ (fun _ => hR') ?_
      clear hK K hR
      have hR := hR'
      clear hR' hbn
      obtain ⟨V5, hV5⟩ : ∃ V5, V0.alloc (.cells #[.int .i64 0, .int .i64 0, .int .i64 0, .int .i64 0, .slice none 0 0, .slice none 0 0] 44) = V5 := ⟨_, rfl⟩
      rw [hV5] at hR hbx ⊢
      obtain ⟨B5, hB5⟩ : ∃ B5, V0.heap.size = B5 := ⟨_, rfl⟩
      rw [hB5] at hbx hlo ⊢
      have HBX := Lib.hid hbx
      have HLO5 := Lib.hid hlo
      clear hbx hlo hV5 hB5
      (try simp only [put_laws])
      (refine wpAnyM_one (i := 4) rfl (by kernel_rfl) (fun K hK => ?_); rw [if_pos (by rfl)]; (try simp only [elem_laws]))
      go_simp
      refine (HS1.out _ (HB.out.trans (hR.2.2.mono HB.out.size))).mono ?_
      rintro e w4 ⟨rfl, hbb⟩
      rw [if_pos rfl]
      have hR' := HA.out _ (hR.2.2.trans (hbb.mono hR.2.2.size))
      refine hK _ _ (fun _ => hR') ?_
      have HBX := Lib.hid (HBX.out.below hbb HBX.out.lt)
      clear hK K hR hbb
      have hR := hR'
      clear hR'
      (try simp only [put_laws])
      (refine wpAnyM_take2 8 (i := 5) (v := ?_) rfl (by kernel_rfl) (by kernel_rfl) (fun _ _ _ h => h) (Or.inl ⟨by rfl, ?_⟩) hR ?_; rotate_left; (focus (intro w hSw; (try dsimp only at hSw); go_simp; (try with_reducible rfl))); (try simp only [put_laws])); (refine wpAnyM_take2 8 (i := 6) (v := ?_) rfl (by kernel_rfl) (by kernel_rfl) (fun _ _ _ h => h) (Or.inl ⟨by rfl, ?_⟩) hR ?_; rotate_left; (focus (intro w hSw; (try dsimp only at hSw); go_simp; (try with_reducible rfl))); (try simp only [put_laws]))
      (refine wpAnyM_one (i := 7) rfl (by kernel_rfl) (fun K hK => ?_); rw [if_pos (by rfl)]; (try simp only [elem_laws]))
      go_simp
      refine (HTK.out _ _ _).mono ?_
      rintro e w5 ⟨rfl, ⟨-, rfl⟩ | ⟨hc, -⟩⟩
      rotate_left
      · exact absurd rfl hc
      refine hK _ _ (fun _ => hR) ?_
      clear hK K
      (try simp only [put_laws])
      (refine wpAnyM_one (i := 12) rfl (by kernel_rfl) (fun K hK => ?_); rw [if_pos (by rfl)]; (try simp only [elem_laws]))
      go_simp
      refine (HS2.out _ (HB.out.trans (hR.2.2.mono HB.out.size))).mono ?_
      rintro e w6 ⟨rfl, hbb⟩
      rw [if_pos rfl]
      have hR' := HA.out _ (hR.2.2.trans (hbb.mono hR.2.2.size))
      refine hK _ _ (fun _ => hR') ?_
      have HBX := Lib.hid (HBX.out.below hbb HBX.out.lt)
      clear hK K hR hbb
      have hR := hR'
      clear hR'
      (try simp only [put_laws])
      (refine wpAnyM_take2 8 (i := 13) (v := ?_) rfl (by kernel_rfl) (by kernel_rfl) (fun _ _ _ h => h) (Or.inl ⟨by rfl, ?_⟩) hR ?_; rotate_left; (focus (intro w hSw; (try dsimp only at hSw); go_simp; (try with_reducible rfl))); (try simp only [put_laws])); (refine wpAnyM_take2 8 (i := 14) (v := ?_) rfl (by kernel_rfl) (by kernel_rfl) (fun _ _ _ h => h) (Or.inl ⟨by rfl, ?_⟩) hR ?_; rotate_left; (focus (intro w hSw; (try dsimp only at hSw); go_simp; (try with_reducible rfl))); (try simp only [put_laws]))
      (refine wpAnyM_one (i := 15) rfl (by kernel_rfl) (fun K hK => ?_); rw [if_pos (by rfl)]; (try simp only [elem_laws]))
      go_simp
      refine (HTI.out _ _ _).mono ?_
      rintro e w7 ⟨rfl, ⟨-, rfl⟩ | ⟨hc, -⟩⟩
      rotate_left
      · exact absurd rfl hc
      refine hK _ _ (fun _ => hR) ?_
      clear hK K
      (try simp only [put_laws])
      (refine wpAnyM_take2 8 (i := 16) (v := ?_) rfl (by kernel_rfl) (by kernel_rfl) (fun _ _ _ h => h) (Or.inl ⟨by rfl, ?_⟩) hR ?_; rotate_left; (focus (intro w hSw; (try dsimp only at hSw); go_simp; (try with_reducible rfl))); (try simp only [put_laws]))
      (refine wpAnyM_last rfl (by kernel_rfl) (fun K hK => ?_); rw [if_pos (by rfl)]; (try simp only [elem_laws]))
      have hz := HBX.out
      have z0 := hz.cell (j := 0) rfl
      have z1 := hz.cell (j := 1) rfl
      have z2 := hz.cell (j := 2) rfl
      have z3 := hz.cell (j := 3) rfl
      have z4 := hz.cell (j := 4) rfl
      have z5 := hz.cell (j := 5) rfl
      have y0 := hz.frozen 0
      have y1 := hz.frozen 1
      have y2 := hz.frozen 2
      have y3 := hz.frozen 3
      have y4 := hz.frozen 4
      have y5 := hz.frozen 5
      clear hz
      go_simp
      have hb6 := ((((((hR.2.2.setCell (p := ⟨B5, 0, none⟩) HLO5.out (.int .i64 0)).setCell (p := ⟨B5, 1, none⟩) HLO5.out (.int .i64 kk)).setCell (p := ⟨B5, 2, none⟩) HLO5.out (.int .i64 (ll : Nat))).setCell (p := ⟨B5, 3, none⟩) HLO5.out (.int .i64 0)).setCell (p := ⟨B5, 4, none⟩) HLO5.out (.slice none 0 0)).setCell (p := ⟨B5, 5, none⟩) HLO5.out (.slice none 0 0))
      have hx6 := ((((((HBX.out.set 0 (.int .i64 0)).set 1 (.int .i64 kk)).set 2 (.int .i64 (ll : Nat))).set 3 (.int .i64 0)).set 4 (.slice none 0 0)).set 5 (.slice none 0 0))
      refine hK _ _ ?_
      clear hK K hR z0 z1 z2 z3 z4 z5 y0 y1 y2 y3 y4 y5
      revert hb6 hx6
      generalize hV6 : (World.setCell _ _ _) = V6
      intro hb6 hx6
      have HX6 : Hid (Blk V6 B5 44 #[.int .i64 0, .int .i64 kk, .int .i64 (ll : Nat), .int .i64 0, .slice none 0 0, .slice none 0 0]) := show Blk _ _ _ _ from hx6
      have HB6 := Lib.hid hb6
      clear hV6 hb6 hx6 HBX
      (try simp only [put_laws])
      refine wpAnyM_done (by kernel_rfl) ?_ _
      have hne : W2.heap.size ≠ B5 := by
        have h1 := (HX3.out W3 (Below.refl _ _)).lt
        have h2 := HLO5.out
        omega
      have hne' : B5 ≠ W2.heap.size := fun e => hne e.symm
      cases dd
      · obtain rfl : kk = 1 := by simpa using HKD.out
        obtain rfl : cb = 0 := by simpa using HC3.out
        obtain rfl : nn = xs.length := by simpa using HSN.out
        have k1 : V6.cell? ⟨B5, 1, none⟩ = some (.int .i64 1) := HX6.out.cell rfl
        obtain ⟨cw, c1, hbV⟩ := HA.out _ HB6.out
        clear hbV
        go_wp2_with fail
        refine (HS3.out _ (HB.out.trans (HB6.out.mono HB.out.size))).mono ?_
        rintro e w8 ⟨v8, rfl, hv, hbb⟩
        first
        | rw [if_pos rfl] at hv
        | rw [if_pos trivial] at hv
        obtain ⟨a8, cc8, rfl, -⟩ := hv.form
        have HB8 : Hid (Below W3.heap.size W3 w8) := show Below _ _ _ from HB6.out.trans (hbb.mono HB6.out.size)
        have HX8 : Hid (Blk w8 B5 44 #[.int .i64 0, .int .i64 1, .int .i64 (ll : Nat), .int .i64 0, .slice none 0 0, .slice none 0 0]) := show Blk _ _ _ _ from HX6.out.below hbb HX6.out.lt
        clear hv hbb k1 cw c1 HB6 HX6
        go_wp2_with fail
        refine (HTB.out _ 0 w8).mono ?_
        rintro e w9 ⟨rfl, ⟨-, rfl⟩ | ⟨hc, -⟩⟩
        rotate_left
        · exact absurd rfl hc
        have z0 := HX8.out.cell (j := 0) rfl
        have z1 := HX8.out.cell (j := 1) rfl
        have z2 := HX8.out.cell (j := 2) rfl
        have z3 := HX8.out.cell (j := 3) rfl
        have z4 := HX8.out.cell (j := 4) rfl
        have z5 := HX8.out.cell (j := 5) rfl
        have y3 := HX8.out.frozen 3
        have hr3 := HX3.out _ HB8.out
        have r0 := hr3.cell (j := 0) rfl
        have r1 := hr3.cell (j := 1) rfl
        have r2 := hr3.cell (j := 2) rfl
        have r3 := hr3.cell (j := 3) rfl
        have r4 := hr3.cell (j := 4) rfl
        have r5 := hr3.cell (j := 5) rfl
        have q0 := hr3.frozen 0
        have q1 := hr3.frozen 1
        have q2 := hr3.frozen 2
        have q3 := hr3.frozen 3
        have q4 := hr3.frozen 4
        have q5 := hr3.frozen 5
        clear hr3
        have HHR := Lib.hid (HX3.out _ HB8.out)
        have HBF : Hid (Below w.heap.size w w9) := show Below _ _ _ from HB.out.trans (HB8.out.mono HB.out.size)
        go_wp2_with fail
        refine bodyPost_ret (results_cell (fn := Tryz.f88) rfl rfl (Blk.loadVar (X := #[.int .i64 0, .int .i64 1, .int .i64 (ll : Nat), .int .i64 (xs.length : Nat), .slice none 0 0, .slice none 0 0]) ((((((((HHR.out.setOther _ hne).set 0 _).set 1 _).set 2 _).set 3 _).set 4 _).set 5 _)) (tt := 44) Tryz.underlying44 rfl (by kernel_rfl))) rfl ⟨?_, .inl ⟨rfl, _, rfl, rfl⟩⟩
        have h5 : w.heap.size ≤ B5 := Nat.le_trans HB.out.size HLO5.out
        exact (((((((HBF.out.setCell (p := ⟨B5, 3, none⟩) h5 _).setCell (p := ⟨W2.heap.size, 0, none⟩) HLO.out _).setCell (p := ⟨W2.heap.size, 1, none⟩) HLO.out _).setCell (p := ⟨W2.heap.size, 2, none⟩) HLO.out _).setCell (p := ⟨W2.heap.size, 3, none⟩) HLO.out _).setCell (p := ⟨W2.heap.size, 4, none⟩) HLO.out _).setCell (p := ⟨W2.heap.size, 5, none⟩) HLO.out _)
      · obtain rfl : kk = 2 := by simpa using HKD.out
        obtain rfl : cn = 0 := by simpa using HC4.out
        obtain rfl : nn = nm.length := by simpa using HSN.out
        have k1 : V6.cell? ⟨B5, 1, none⟩ = some (.int .i64 2) := HX6.out.cell rfl
        obtain ⟨cw, c1, hbV⟩ := HA.out _ HB6.out
        clear hbV
        go_wp2_with fail
        refine (HS4.out _ (HB.out.trans (HB6.out.mono HB.out.size))).mono ?_
        rintro e w8 ⟨v8, rfl, hv, hbb⟩
        first
        | rw [if_pos rfl] at hv
        | rw [if_pos trivial] at hv
        obtain ⟨a8, cc8, rfl⟩ := hv.form
        have HB8 : Hid (Below W3.heap.size W3 w8) := show Below _ _ _ from HB6.out.trans (hbb.mono HB6.out.size)
        have HX8 : Hid (Blk w8 B5 44 #[.int .i64 0, .int .i64 2, .int .i64 (ll : Nat), .int .i64 0, .slice none 0 0, .slice none 0 0]) := show Blk _ _ _ _ from HX6.out.below hbb HX6.out.lt
        clear hv hbb k1 cw c1 HB6 HX6
        go_wp2_with fail
        refine (HTS.out _ 0 w8).mono ?_
        rintro e w9 ⟨rfl, ⟨-, rfl⟩ | ⟨hc, -⟩⟩
        rotate_left
        · exact absurd rfl hc
        have z0 := HX8.out.cell (j := 0) rfl
        have z1 := HX8.out.cell (j := 1) rfl
        have z2 := HX8.out.cell (j := 2) rfl
        have z3 := HX8.out.cell (j := 3) rfl
        have z4 := HX8.out.cell (j := 4) rfl
        have z5 := HX8.out.cell (j := 5) rfl
        have y3 := HX8.out.frozen 3
        have hr3 := HX3.out _ HB8.out
        have r0 := hr3.cell (j := 0) rfl
        have r1 := hr3.cell (j := 1) rfl
        have r2 := hr3.cell (j := 2) rfl
        have r3 := hr3.cell (j := 3) rfl
        have r4 := hr3.cell (j := 4) rfl
        have r5 := hr3.cell (j := 5) rfl
        have q0 := hr3.frozen 0
        have q1 := hr3.frozen 1
        have q2 := hr3.frozen 2
        have q3 := hr3.frozen 3
        have q4 := hr3.frozen 4
        have q5 := hr3.frozen 5
        clear hr3
        have HHR := Lib.hid (HX3.out _ HB8.out)
        have HBF : Hid (Below w.heap.size w w9) := show Below _ _ _ from HB.out.trans (HB8.out.mono HB.out.size)
        go_wp2_with fail
        refine bodyPost_ret (results_cell (fn := Tryz.f88) rfl rfl (Blk.loadVar (X := #[.int .i64 0, .int .i64 2, .int .i64 (ll : Nat), .int .i64 (nm.length : Nat), .slice none 0 0, .slice none 0 0]) ((((((((HHR.out.setOther _ hne).set 0 _).set 1 _).set 2 _).set 3 _).set 4 _).set 5 _)) (tt := 44) Tryz.underlying44 rfl (by kernel_rfl))) rfl ⟨?_, .inl ⟨rfl, _, rfl, rfl⟩⟩
        have h5 : w.heap.size ≤ B5 := Nat.le_trans HB.out.size HLO5.out
        exact (((((((HBF.out.setCell (p := ⟨B5, 3, none⟩) h5 _).setCell (p := ⟨W2.heap.size, 0, none⟩) HLO.out _).setCell (p := ⟨W2.heap.size, 1, none⟩) HLO.out _).setCell (p := ⟨W2.heap.size, 2, none⟩) HLO.out _).setCell (p := ⟨W2.heap.size, 3, none⟩) HLO.out _).setCell (p := ⟨W2.heap.size, 4, none⟩) HLO.out _).setCell (p := ⟨W2.heap.size, 5, none⟩) HLO.out _)
  · refine wpAnyM_two (i := 4) (j := 17) rfl rfl (by kernel_rfl) (fun K hK => ?_) (fun K hK => ?_)
    · rw [if_pos (by rfl)]
      (try simp only [elem_laws])
      go_simp
      refine (HS1.out _ (HB.out.trans (hR.2.2.mono HB.out.size))).mono ?_
      rintro e w4 ⟨rfl, hbb⟩
      rw [if_neg hc]
      have hR' := HA.out _ (hR.2.2.trans (hbb.mono hR.2.2.size))
      refine hK _ _ (fun _ => hR') ?_
      clear hK K hR hbb
      have hR := hR'
      clear hR'
      (try simp only [put_laws])
      (refine wpAnyM_take2 8 (i := 5) (v := ?_) rfl (by kernel_rfl) (by kernel_rfl) (fun _ _ _ h => h) (Or.inl ⟨by rfl, ?_⟩) hR ?_; rotate_left; (focus (intro w hSw; (try dsimp only at hSw); go_simp; (try with_reducible rfl))); (try simp only [put_laws])); (refine wpAnyM_take2 8 (i := 6) (v := ?_) rfl (by kernel_rfl) (by kernel_rfl) (fun _ _ _ h => h) (Or.inl ⟨by rfl, ?_⟩) hR ?_; rotate_left; (focus (intro w hSw; (try dsimp only at hSw); go_simp; (try with_reducible rfl))); (try simp only [put_laws]))
      refine wpAnyM_two (i := 7) (j := 17) rfl rfl (by kernel_rfl) (fun K hK => ?_) (fun K hK => ?_)
      · rw [if_pos (by rfl)]
        (try simp only [elem_laws])
        go_simp
        refine (HTK.out _ _ _).mono ?_
        rintro e w5 ⟨rfl, ⟨h0, -⟩ | ⟨-, rfl⟩⟩
        · exact absurd h0 hc
        · exact ⟨rfl, HB.out.trans (hR.2.2.mono HB.out.size), .inr ⟨hc, rfl⟩⟩
      · rw [if_pos (by rfl)]
        (try simp only [elem_laws])
        go_simp
        have hbn : Below W3.heap.size W3 (w4.alloc (.cells #[.int .i64 0, .int .i64 0, .int .i64 0, .int .i64 0, .slice none 0 0, .slice none 0 0] 44)) := hR.2.2.alloc hR.2.2.size _
        have hbx : Blk (w4.alloc (.cells #[.int .i64 0, .int .i64 0, .int .i64 0, .int .i64 0, .slice none 0 0, .slice none 0 0] 44)) w4.heap.size 44 #[.int .i64 0, .int .i64 0, .int .i64 0, .int .i64 0, .slice none 0 0, .slice none 0 0] := Blk.new _ _ _
        have hlo : W3.heap.size ≤ w4.heap.size := hR.2.2.size
        have hR' := HA.out _ hbn
        refine hK _ _ (fun _ => hR') ?_
        clear hK K hR
        have hR := hR'
        clear hR' hbn
        obtain ⟨V5, hV5⟩ : ∃ V5, w4.alloc (.cells #[.int .i64 0, .int .i64 0, .int .i64 0, .int .i64 0, .slice none 0 0, .slice none 0 0] 44) = V5 := ⟨_, rfl⟩
        rw [hV5] at hR hbx ⊢
        obtain ⟨B5, hB5⟩ : ∃ B5, w4.heap.size = B5 := ⟨_, rfl⟩
        rw [hB5] at hbx hlo ⊢
        have HBX := Lib.hid hbx
        have HLO5 := Lib.hid hlo
        clear hbx hlo hV5 hB5
        (try simp only [put_laws])
        (refine wpAnyM_one (i := 7) rfl (by kernel_rfl) (fun K hK => ?_); rw [if_pos (by rfl)]; (try simp only [elem_laws]))
        go_simp
        refine (HTK.out _ _ _).mono ?_
        rintro e w5 ⟨rfl, ⟨h0, -⟩ | ⟨-, rfl⟩⟩
        · exact absurd h0 hc
        · exact ⟨rfl, HB.out.trans (hR.2.2.mono HB.out.size), .inr ⟨hc, rfl⟩⟩
    · rw [if_pos (by rfl)]
      (try simp only [elem_laws])
      go_simp
      have hbn : Below W3.heap.size W3 (V0.alloc (.cells #[.int .i64 0, .int .i64 0, .int .i64 0, .int .i64 0, .slice none 0 0, .slice none 0 0] 44)) := hR.2.2.alloc hR.2.2.size _
      have hbx : Blk (V0.alloc (.cells #[.int .i64 0, .int .i64 0, .int .i64 0, .int .i64 0, .slice none 0 0, .slice none 0 0] 44)) V0.heap.size 44 #[.int .i64 0, .int .i64 0, .int .i64 0, .int .i64 0, .slice none 0 0, .slice none 0 0] := Blk.new _ _ _
      have hlo : W3.heap.size ≤ V0.heap.size := hR.2.2.size
      have hR' := HA.out _ hbn
      refine hK _ _ (fun _ => hR') ?_
      clear hK K hR
      have hR := hR'
      clear hR' hbn
      obtain ⟨V5, hV5⟩ : ∃ V5, V0.alloc (.cells #[.int .i64 0, .int .i64 0, .int .i64 0, .int .i64 0, .slice none 0 0, .slice none 0 0] 44) = V5 := ⟨_, rfl⟩
      rw [hV5] at hR hbx ⊢
      obtain ⟨B5, hB5⟩ : ∃ B5, V0.heap.size = B5 := ⟨_, rfl⟩
      rw [hB5] at hbx hlo ⊢
      have HBX := Lib.hid hbx
      have HLO5 := Lib.hid hlo
      clear hbx hlo hV5 hB5
      (try simp only [put_laws])
      (refine wpAnyM_one (i := 4) rfl (by kernel_rfl) (fun K hK => ?_); rw [if_pos (by rfl)]; (try simp only [elem_laws]))
      go_simp
      refine (HS1.out _ (HB.out.trans (hR.2.2.mono HB.out.size))).mono ?_
      rintro e w4 ⟨rfl, hbb⟩
      rw [if_neg hc]
      have hR' := HA.out _ (hR.2.2.trans (hbb.mono hR.2.2.size))
      refine hK _ _ (fun _ => hR') ?_
      have HBX := Lib.hid (HBX.out.below hbb HBX.out.lt)
      clear hK K hR hbb
      have hR := hR'
      clear hR'
      (try simp only [put_laws])
      (refine wpAnyM_take2 8 (i := 5) (v := ?_) rfl (by kernel_rfl) (by kernel_rfl) (fun _ _ _ h => h) (Or.inl ⟨by rfl, ?_⟩) hR ?_; rotate_left; (focus (intro w hSw; (try dsimp only at hSw); go_simp; (try with_reducible rfl))); (try simp only [put_laws])); (refine wpAnyM_take2 8 (i := 6) (v := ?_) rfl (by kernel_rfl) (by kernel_rfl) (fun _ _ _ h => h) (Or.inl ⟨by rfl, ?_⟩) hR ?_; rotate_left; (focus (intro w hSw; (try dsimp only at hSw); go_simp; (try with_reducible rfl))); (try simp only [put_laws]))
      (refine wpAnyM_one (i := 7) rfl (by kernel_rfl) (fun K hK => ?_); rw [if_pos (by rfl)]; (try simp only [elem_laws]))
      go_simp
      refine (HTK.out _ _ _).mono ?_
      rintro e w5 ⟨rfl, ⟨h0, -⟩ | ⟨-, rfl⟩⟩
      · exact absurd h0 hc
      · exact ⟨rfl, HB.out.trans (hR.2.2.mono HB.out.size), .inr ⟨hc, rfl⟩⟩
end Go.Proofs.YtgoemaecdolioaaGreatDoor
