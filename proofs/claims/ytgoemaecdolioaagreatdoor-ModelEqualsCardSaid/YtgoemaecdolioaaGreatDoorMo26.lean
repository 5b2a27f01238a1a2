/-
  Texts MdD to MdE, as one.
-/
import Derived.Test.YtgoemaecdolioaaGreatDoorMo25
/-
  model: what may be done. (gen_mdd.py)
-/
namespace Go.Proofs.YtgoemaecdolioaaGreatDoor
open Go.RowKit Go.Shelf
attribute [local go_sem] Oper.semAt_some

/-- An operation: its kind, its texts, its numbers, its bytes (as they lie). -/
structure OpX where
  kind : Int
  path : List UInt8
  other : List UInt8
  place : Int
  many : Int
  ub : Value
  bytes : List UInt8
def opA (x : OpX) : Array Value := #[.int .i64 x.kind, encStr x.path, encStr x.other, .int .i64 x.place, .int .i64 x.many, x.ub]
/-- What is wrong with it. -/
def rightC (x : OpX) : Int :=
  if ¬ (1 ≤ x.kind ∧ x.kind ≤ 11) then 2 else
  if (splitE x.path).2 ≠ 0 then (splitE x.path).2 else
  if x.kind = 8 ∨ x.kind = 9 then (splitE x.other).2 else
  if x.kind = 3 then (if 0 ≤ x.place ∧ 0 ≤ x.many then 0 else 2) else
  if x.kind = 10 then (if 0 ≤ x.place then (if x.place ≤ 448 ∧ (x.bytes.length : Int) ≤ 448 - x.place then 0 else 190) else 2) else
  if x.kind = 11 then (if 0 ≤ x.many then (if x.many ≤ 448 then 0 else 190) else 2) else 0
theorem Deeds.clos {W : World} {lo : Nat} {l : List (Int × Value)} (h : Deeds W lo l) {p : Int × Value} (hp : p ∈ l) : ∃ f b, p.2 = closV f b := by
  rcases h p hp with ⟨h1, b, h2, h3⟩ | ⟨h1, b, h2, h3⟩ | ⟨h1, b, h2, h3⟩ | ⟨h1, b, h2, h3⟩ | ⟨h1, b, h2, h3⟩ | ⟨h1, b, h2, h3⟩ | ⟨h1, b, h2, h3⟩ | ⟨h1, b, h2, h3⟩ | ⟨h1, b, h2, h3⟩ | ⟨h1, b, h2, h3⟩ | ⟨h1, b, h2, h3⟩
  all_goals exact ⟨_, b, h2⟩
theorem KinI.at_ {w W : World} {l : List (Int × Value)} (h : KinI w 11 W l) (k : Int) :
    (1 ≤ k ∧ k ≤ 11 ∧ ∃ p ∈ l, p.1 = k ∧ (Instr.lookup 98 (.map (some w.heap.size)) (.int .i64 k) false).run Tryz.prog W = .ok p.2 W) ∨
    (¬ (1 ≤ k ∧ k ≤ 11) ∧ (Instr.lookup 98 (.map (some w.heap.size)) (.int .i64 k) false).run Tryz.prog W = .ok .nilFunc W) := by
  have hl := h.map.look k
  cases hf : l.find? fun p => p.1 == k with
  | none =>
    rw [hf] at hl
    refine .inr ⟨fun hk => ?_, hl⟩
    rw [List.find?_eq_none] at hf
    have hm : k ∈ l.map (·.1) := by
      rw [h.keys]
      exact List.mem_map.2 ⟨k.toNat - 1, List.mem_range.2 (by omega), by omega⟩
    obtain ⟨p, hp, he⟩ := List.mem_map.1 hm
    exact hf p hp (by simpa using he)
  | some p =>
    rw [hf] at hl
    have hp := List.mem_of_find?_eq_some hf
    have he : p.1 = k := by simpa using List.find?_some hf
    have hm : p.1 ∈ l.map (·.1) := List.mem_map.2 ⟨p, hp, rfl⟩
    rw [h.keys] at hm
    obtain ⟨i, hi, h2⟩ := List.mem_map.1 hm
    have h3 := List.mem_range.1 hi
    exact .inl ⟨by omega, by omega, p, hp, he, hl⟩
theorem intsAt_one (W : World) (a : Int) (t : TypeId) : IntsAt (W.alloc (.cells #[.int .i64 a] t)) W.heap.size [a] := fun k hk => by
  have h := Blk.new W t #[.int .i64 a]
  cases k with
  | zero => exact h.cell rfl
  | succ k => simp at hk
theorem intsAt_two (W : World) (a b : Int) (t : TypeId) : IntsAt (W.alloc (.cells #[.int .i64 a, .int .i64 b] t)) W.heap.size [a, b] := fun k hk => by
  have h := Blk.new W t #[.int .i64 a, .int .i64 b]
  cases k with
  | zero => exact h.cell rfl
  | succ k =>
    cases k with
    | zero => exact h.cell rfl
    | succ k => simp at hk; omega
/-- It goes on, or gives up with an error; memory may grow. -/
def GrowsM (c : Int) (w : World) (e : Ending) (w' : World) : Prop := Below w.heap.size w w' ∧ ((c = 0 ∧ ∃ u, e = .returned u) ∨ (c ≠ 0 ∧ e = .panicked (refuseM c)))
theorem GrowsM.ok {c : Int} {w w' : World} {u : Value} (hc : c = 0) (hb : Below w.heap.size w w') : GrowsM c w (.returned u) w' := ⟨hb, .inl ⟨hc, u, rfl⟩⟩
theorem GrowsM.no {c d : Int} {w w' : World} (hc : c = d) (hd : d ≠ 0) (hb : Below w.heap.size w w') : GrowsM c w (.panicked (refuseM d)) w' := by
  subst hc
  exact ⟨hb, .inr ⟨hd, rfl⟩⟩
set_option maxRecDepth 100000 in
set_option maxHeartbeats 8000000 in
theorem right11_any (x : OpX) (hp : x.path.length ≤ 1000000) (ho : x.other.length ≤ 1000000) (w : World) (hm : MaxC w) (hu : FB w x.ub (bytesN x.bytes)) :
    Calls Tryz.prog 32 #[.agg (opA x)] w (GrowsM (rightC x) w) := by
  have HKI := Lib.hid kinds_any
  have HM := Lib.hid mustBe11_any
  have HT := Lib.hid mustBe11_true
  have HP := Lib.hid (fun W (hb : Below w.heap.size w W) => path11_any x.path hp W (hm.below hb hm.room))
  have HQ := Lib.hid (fun W (hb : Below w.heap.size w W) => path11_any x.other ho W (hm.below hb hm.room))
  have HI1 := Lib.hid (show ∀ (a : Int) b W, IntsAt W b [a] → Calls Tryz.prog 56 #[.slice (some ⟨b, 0, none⟩) 1 1] W (EndsM (∀ x ∈ [a], 0 ≤ x) 2 W) from fun a b W hc => notBelow_any [a] b 1 (by simp) (by simp) W hc)
  have HI2 := Lib.hid (show ∀ (a a2 : Int) b W, IntsAt W b [a, a2] → Calls Tryz.prog 56 #[.slice (some ⟨b, 0, none⟩) 2 2] W (EndsM (∀ x ∈ [a, a2], 0 ≤ x) 2 W) from fun a a2 b W hc => notBelow_any [a, a2] b 2 (by simp) (by simp) W hc)
  have HF1 := Lib.hid (show ∀ (a : Int) b W, 0 ≤ a → IntsAt W b [a] → Calls Tryz.prog 57 #[.slice (some ⟨b, 0, none⟩) 1 1] W (EndsM (fitN [a] 448 = true) 190 W) from fun a b W h0 hc => fit11_any [a] (by simpa using h0) b 1 (by simp) (by simp) W hc)
  have HF2 := Lib.hid (show ∀ (a a2 : Int) b W, 0 ≤ a → 0 ≤ a2 → IntsAt W b [a, a2] → Calls Tryz.prog 57 #[.slice (some ⟨b, 0, none⟩) 2 2] W (EndsM (fitN [a, a2] 448 = true) 190 W) from fun a a2 b W h0 h1 hc => fit11_any [a, a2] (by simp only [List.mem_cons, List.not_mem_nil, or_false, forall_eq_or_imp, forall_eq]; exact ⟨h0, h1⟩) b 2 (by simp) (by simp) W hc)
  obtain ⟨ua, uc, ub, uo, hub, -⟩ := Sl.cell hu.sl
  have hlen : (bytesN x.bytes).length = x.bytes.length := by simp [bytesN]
  rw [hlen] at hub
  obtain ⟨r, hr⟩ : ∃ r, rightC x = r := ⟨_, rfl⟩
  rw [hr]
  unfold rightC at hr
  unfold opA
  rw [hub]
  obtain ⟨k, hk⟩ : ∃ k, x.kind = k := ⟨_, rfl⟩
  obtain ⟨p, hp2⟩ : ∃ p, encStr x.path = p := ⟨_, rfl⟩
  obtain ⟨q, hq⟩ : ∃ q, encStr x.other = q := ⟨_, rfl⟩
  obtain ⟨at', hat⟩ : ∃ a, x.place = a := ⟨_, rfl⟩
  obtain ⟨n, hn⟩ : ∃ a, x.many = a := ⟨_, rfl⟩
  obtain ⟨un, hun⟩ : ∃ a, x.bytes.length = a := ⟨_, rfl⟩
  obtain ⟨cp, hcp⟩ : ∃ a, (splitE x.path).2 = a := ⟨_, rfl⟩
  obtain ⟨cq, hcq⟩ : ∃ a, (splitE x.other).2 = a := ⟨_, rfl⟩
  rw [hk, hat, hn, hun, hcp, hcq] at hr
  rw [hk, hp2, hq, hat, hn, hun]
  rw [hp2, hcp] at HP
  rw [hq, hcq] at HQ
  have HR := Lib.hid hr
  clear hp ho hm hu hub hlen hr hk hp2 hq hat hn hun hcp hcq
  go_enter Tryz.func32, Tryz.ntmps32
  go_wp2_with fail
  obtain ⟨W1, hW1⟩ : ∃ W1, w.alloc (.cells #[.int .i64 k, p, q, .int .i64 at', .int .i64 n, .slice ua un uc] 25) = W1 := ⟨_, rfl⟩
  have HCELL : Hid (∀ W, Below W1.heap.size W1 W → W.cell? ⟨w.heap.size, 0, none⟩ = some (.int .i64 k) ∧ W.cell? ⟨w.heap.size, 1, none⟩ = some p ∧ W.cell? ⟨w.heap.size, 2, none⟩ = some q ∧ W.cell? ⟨w.heap.size, 3, none⟩ = some (.int .i64 at') ∧ W.cell? ⟨w.heap.size, 4, none⟩ = some (.int .i64 n) ∧ W.cell? ⟨w.heap.size, 5, none⟩ = some (.slice ua un uc) ∧ Below w.heap.size w W ∧ Below W1.heap.size W1 W) := show ∀ W, _ from fun W hW => by
    rw [← hW1] at hW
    have h := (Blk.new w 25 #[.int .i64 k, p, q, .int .i64 at', .int .i64 n, .slice ua un uc]).below hW (by rw [World.size_alloc]; omega)
    have hb : Below w.heap.size w W := ((Below.refl _ w).alloc (Nat.le_refl _) _).trans (hW.mono (by rw [World.size_alloc]; omega))
    exact ⟨h.cell rfl, h.cell rfl, h.cell rfl, h.cell rfl, h.cell rfl, h.cell rfl, hb, by rw [← hW1]; exact hW⟩
  rw [hW1]
  clear hW1
  have hR := HCELL.out _ (Below.refl _ W1).drew
  refine wp_region_M 5 (fun V : World => V.cell? ⟨w.heap.size, 0, none⟩ = some (.int .i64 k) ∧ V.cell? ⟨w.heap.size, 1, none⟩ = some p ∧ V.cell? ⟨w.heap.size, 2, none⟩ = some q ∧ V.cell? ⟨w.heap.size, 3, none⟩ = some (.int .i64 at') ∧ V.cell? ⟨w.heap.size, 4, none⟩ = some (.int .i64 n) ∧ V.cell? ⟨w.heap.size, 5, none⟩ = some (.slice ua un uc) ∧ Below w.heap.size w V ∧ Below W1.heap.size W1 V) (by kernel_rfl) ?_
  (refine wpAnyM_take2 8 (i := 1) (v := ?_) rfl (by kernel_rfl) (by kernel_rfl) (fun _ _ _ h => h) (Or.inl ⟨by rfl, ?_⟩) hR ?_; rotate_left; (focus (intro w hSw; (try dsimp only at hSw); go_simp; (try with_reducible rfl))); (try simp only [put_laws]))
  refine wpAnyM_two (i := 0) (j := 2) rfl rfl (by kernel_rfl) (fun K hK => ?_) (fun K hK => ?_)
  · rw [if_pos (by rfl)]
    (try simp only [elem_laws])
    go_simp
    refine (HKI.out _).mono ?_
    rintro e w1 ⟨l, rfl, hki⟩
    have hR' := HCELL.out _ (hR.2.2.2.2.2.2.2.trans (hki.below.mono hR.2.2.2.2.2.2.2.size))
    refine hK _ _ (fun _ => hR') ?_
    clear hK K hR
    have hR := hR'
    clear hR'
    (try simp only [put_laws])
    (refine wpAnyM_one (i := 2) rfl (by kernel_rfl) (fun K hK => ?_); rw [if_pos (by rfl)]; (try simp only [elem_laws]))
    go_simp
    refine hK _ _ (fun _ => hR) ?_
    clear hK K
    (try simp only [put_laws])
    rcases hki.at_ k with ⟨hk1, hk2, pr, hpr, -, hlk⟩ | ⟨hk1, hlk⟩
    all_goals rw [show W1.drew.heap.size = W1.heap.size from rfl] at hlk
    · obtain ⟨f, b, hv⟩ := hki.deeds.clos hpr
      rw [hv] at hlk
      clear hv hpr hki
      (refine wpAnyM_one (i := 3) rfl (by kernel_rfl) (fun K hK => ?_); rw [if_pos (by rfl)]; (try simp only [elem_laws]))
      go_simp
      refine hK _ _ (fun _ => hR) ?_
      clear hK K hlk
      (try simp only [put_laws])
      (refine wpAnyM_one (i := 4) rfl (by kernel_rfl) (fun K hK => ?_); rw [if_pos (by rfl)]; (try simp only [elem_laws]))
      go_simp
      refine hK _ _ (fun _ => hR) ?_
      clear hK K
      (try simp only [put_laws])
      (refine wpAnyM_one (i := 5) rfl (by kernel_rfl) (fun K hK => ?_); rw [if_pos (by rfl)]; (try simp only [elem_laws]))
      go_simp
      refine (HT.out _ _).mono ?_
      rintro e w2 ⟨⟨u, rfl⟩, rfl⟩
      refine hK _ _ (fun _ => hR) ?_
      clear hK K
      (try simp only [put_laws])
      refine wpAnyM_done (by kernel_rfl) ?_ _
      obtain ⟨c0, c1, c2, c3, c4, c5, hb, hb1⟩ := hR
      have HBW := Lib.hid hb
      have HB1 := Lib.hid hb1
      have hkin : 1 ≤ k ∧ k ≤ 11 := ⟨hk1, hk2⟩
      have hr := HR.out
      rw [if_neg (fun h => h hkin)] at hr
      clear hb hb1 hk1 hk2 HR
      have HR := Lib.hid hr
      have HKK := Lib.hid hkin
      clear hr hkin
      go_wp2_with fail
      refine (HP.out _ HBW.out).mono ?_
      clear c0 c1 c2 c3 c4 c5
      rintro e w3 ⟨hb3, ⟨hc, u3, rfl⟩ | ⟨hc, rfl⟩⟩
      rotate_left
      · have hr := HR.out
        rw [if_pos hc] at hr
        exact ⟨rfl, GrowsM.no hr.symm hc (HBW.out.trans (hb3.mono HBW.out.size))⟩
      obtain ⟨c0, c1, c2, c3, c4, c5, hb, hb1⟩ := HCELL.out _ (HB1.out.trans (hb3.mono HB1.out.size))
      have hr := HR.out
      rw [if_neg (fun h => h hc)] at hr
      have HW3 := Lib.hid hb
      have HB3 := Lib.hid hb1
      clear hb hb1 hb3 hc HR HBW HB1 HP HKI HM HT
      by_cases k8 : k = 8 ∨ k = 9
      · rw [if_pos k8] at hr
        have HR := Lib.hid hr
        clear hr
        rcases k8 with rfl | rfl
        all_goals
          go_wp2_with fail
          refine (HQ.out _ HW3.out).mono ?_
          clear c0 c1 c2 c3 c4 c5
          rintro e w4 ⟨hb4, ⟨hc, u4, rfl⟩ | ⟨hc, rfl⟩⟩
        · go_wp2_with fail
          first
          | go_end0
          | refine bodyPost_ret (results_none rfl _ _ _) rfl ?_
          exact GrowsM.ok (HR.out.symm.trans hc) (HW3.out.trans (hb4.mono HW3.out.size))
        · exact ⟨rfl, GrowsM.no HR.out.symm hc (HW3.out.trans (hb4.mono HW3.out.size))⟩
        · go_wp2_with fail
          first
          | go_end0
          | refine bodyPost_ret (results_none rfl _ _ _) rfl ?_
          exact GrowsM.ok (HR.out.symm.trans hc) (HW3.out.trans (hb4.mono HW3.out.size))
        · exact ⟨rfl, GrowsM.no HR.out.symm hc (HW3.out.trans (hb4.mono HW3.out.size))⟩
      rw [if_neg k8] at hr
      by_cases k3 : k = 3
      · rw [if_pos k3] at hr
        have HR := Lib.hid hr
        clear hr k8
        subst k3
        go_wp2_with fail
        refine (HI2.out _ _ _ _ (intsAt_two _ _ _ _)).mono ?_
        rintro e w4 ⟨he4, hg4⟩
        have HB4 : Hid (Below W1.heap.size W1 w4) := show Below _ _ _ from by rw [he4]; exact HB3.out.alloc HB3.out.size _
        clear c0 c1 c2 c3 c4 c5
        obtain ⟨c0, c1, c2, c3, c4, c5, hw4, -⟩ := HCELL.out _ HB4.out
        have HW4 := Lib.hid hw4
        clear he4 hw4
        rcases hg4 with ⟨hg, u4, rfl⟩ | ⟨hg, rfl⟩
        · have h0 : 0 ≤ at' ∧ 0 ≤ n := ⟨hg _ (by simp), hg _ (by simp)⟩
          have hr := HR.out
          rw [if_pos h0] at hr
          have HR2 := Lib.hid hr
          clear hg h0 hr
          go_wp2_with fail
          first
          | go_end0
          | refine bodyPost_ret (results_none rfl _ _ _) rfl ?_
          exact GrowsM.ok HR2.out.symm HW4.out
        · have hr := HR.out
          rw [if_neg (fun h => hg (by simpa using h))] at hr
          exact ⟨rfl, GrowsM.no hr.symm (by decide) HW4.out⟩
      rw [if_neg k3] at hr
      by_cases k10 : k = 10
      · rw [if_pos k10] at hr
        have HR := Lib.hid hr
        clear hr k8 k3
        subst k10
        go_wp2_with fail
        refine (HI1.out _ _ _ (intsAt_one _ _ _)).mono ?_
        rintro e w4 ⟨he4, hg4⟩
        have HB4 : Hid (Below W1.heap.size W1 w4) := show Below _ _ _ from by rw [he4]; exact HB3.out.alloc HB3.out.size _
        clear c0 c1 c2 c3 c4 c5
        obtain ⟨c0, c1, c2, c3, c4, c5, hw4, -⟩ := HCELL.out _ HB4.out
        have HW4 := Lib.hid hw4
        clear he4 hw4
        rcases hg4 with ⟨hg, u4, rfl⟩ | ⟨hg, rfl⟩
        · have h0 : 0 ≤ at' := hg _ (by simp)
          have hr := HR.out
          rw [if_pos h0] at hr
          have HR2 := Lib.hid hr
          clear hg hr
          go_wp2_with fail
          refine (HF2.out _ _ _ _ h0 (by omega) (intsAt_two _ _ _ _)).mono ?_
          rintro e w5 ⟨he5, hg5⟩
          have HW5 : Hid (Below w.heap.size w w5) := show Below _ _ _ from by rw [he5]; exact HW4.out.alloc HW4.out.size _
          clear he5 c0 c1 c2 c3 c4 c5
          rcases hg5 with ⟨hg, u5, rfl⟩ | ⟨hg, rfl⟩
          · have h1 : at' ≤ 448 ∧ (un : Int) ≤ 448 - at' := by simpa [fitN] using hg
            have hr := HR2.out
            rw [if_pos h1] at hr
            have HR3 := Lib.hid hr
            clear hg h1 hr
            go_wp2_with fail
            first
            | go_end0
            | refine bodyPost_ret (results_none rfl _ _ _) rfl ?_
            exact GrowsM.ok HR3.out.symm HW5.out
          · have hr := HR2.out
            rw [if_neg (fun h => hg (by simpa [fitN] using h))] at hr
            exact ⟨rfl, GrowsM.no hr.symm (by decide) HW5.out⟩
        · have hr := HR.out
          rw [if_neg (fun h => hg (by simpa using h))] at hr
          exact ⟨rfl, GrowsM.no hr.symm (by decide) HW4.out⟩
      rw [if_neg k10] at hr
      by_cases k11 : k = 11
      · rw [if_pos k11] at hr
        have HR := Lib.hid hr
        clear hr k8 k3 k10
        subst k11
        go_wp2_with fail
        refine (HI1.out _ _ _ (intsAt_one _ _ _)).mono ?_
        rintro e w4 ⟨he4, hg4⟩
        have HB4 : Hid (Below W1.heap.size W1 w4) := show Below _ _ _ from by rw [he4]; exact HB3.out.alloc HB3.out.size _
        clear c0 c1 c2 c3 c4 c5
        obtain ⟨c0, c1, c2, c3, c4, c5, hw4, -⟩ := HCELL.out _ HB4.out
        have HW4 := Lib.hid hw4
        clear he4 hw4
        rcases hg4 with ⟨hg, u4, rfl⟩ | ⟨hg, rfl⟩
        · have h0 : 0 ≤ n := hg _ (by simp)
          have hr := HR.out
          rw [if_pos h0] at hr
          have HR2 := Lib.hid hr
          clear hg hr
          go_wp2_with fail
          refine (HF1.out _ _ _ h0 (intsAt_one _ _ _)).mono ?_
          rintro e w5 ⟨he5, hg5⟩
          have HW5 : Hid (Below w.heap.size w w5) := show Below _ _ _ from by rw [he5]; exact HW4.out.alloc HW4.out.size _
          clear he5 c0 c1 c2 c3 c4 c5
          rcases hg5 with ⟨hg, u5, rfl⟩ | ⟨hg, rfl⟩
          · have h1 : n ≤ 448 := by simpa [fitN] using hg
            have hr := HR2.out
            rw [if_pos h1] at hr
            have HR3 := Lib.hid hr
            clear hg h1 hr
            go_wp2_with fail
            first
            | go_end0
            | refine bodyPost_ret (results_none rfl _ _ _) rfl ?_
            exact GrowsM.ok HR3.out.symm HW5.out
          · have hr := HR2.out
            rw [if_neg (fun h => hg (by simpa [fitN] using h))] at hr
            exact ⟨rfl, GrowsM.no hr.symm (by decide) HW5.out⟩
        · have hr := HR.out
          rw [if_neg (fun h => hg (by simpa using h))] at hr
          exact ⟨rfl, GrowsM.no hr.symm (by decide) HW4.out⟩
      rw [if_neg k11] at hr
      have HR := Lib.hid hr
      have b8 : (k == 8) = false := by simpa using fun h => k8 (.inl h)
      have b9 : (k == 9) = false := by simpa using fun h => k8 (.inr h)
      have b3 : (k == 3) = false := by simpa using k3
      have b10 : (k == 10) = false := by simpa using k10
      have b11 : (k == 11) = false := by simpa using k11
      clear hr k8 k3 k10 k11 HKK
      go_wp2_with fail
      first
      | go_end0
      | refine bodyPost_ret (results_none rfl _ _ _) rfl ?_
      exact GrowsM.ok HR.out.symm HW3.out
    · (refine wpAnyM_one (i := 3) rfl (by kernel_rfl) (fun K hK => ?_); rw [if_pos (by rfl)]; (try simp only [elem_laws]))
      go_simp
      refine hK _ _ (fun _ => hR) ?_
      clear hK K hlk hki
      (try simp only [put_laws])
      (refine wpAnyM_one (i := 4) rfl (by kernel_rfl) (fun K hK => ?_); rw [if_pos (by rfl)]; (try simp only [elem_laws]))
      go_simp
      refine hK _ _ (fun _ => hR) ?_
      clear hK K
      (try simp only [put_laws])
      (refine wpAnyM_one (i := 5) rfl (by kernel_rfl) (fun K hK => ?_); rw [if_pos (by rfl)]; (try simp only [elem_laws]))
      go_simp
      refine (HM.out _ _ (by decide) _).mono ?_
      rintro e w2 (⟨hg, -, -⟩ | ⟨-, rfl, rfl⟩)
      · cases hg
      · have hr := HR.out
        rw [if_pos hk1] at hr
        exact ⟨rfl, GrowsM.no hr.symm (by decide) hR.2.2.2.2.2.2.1⟩
  · rw [if_pos (by rfl)]
    (try simp only [elem_laws])
    go_simp
    refine hK _ _ (fun _ => hR) ?_
    clear hK K
    (try simp only [put_laws])
    (refine wpAnyM_one (i := 0) rfl (by kernel_rfl) (fun K hK => ?_); rw [if_pos (by rfl)]; (try simp only [elem_laws]))
    go_simp
    refine (HKI.out _).mono ?_
    rintro e w1 ⟨l, rfl, hki⟩
    have hR' := HCELL.out _ (hR.2.2.2.2.2.2.2.trans (hki.below.mono hR.2.2.2.2.2.2.2.size))
    refine hK _ _ (fun _ => hR') ?_
    clear hK K hR
    have hR := hR'
    clear hR'
    (try simp only [put_laws])
    rcases hki.at_ k with ⟨hk1, hk2, pr, hpr, -, hlk⟩ | ⟨hk1, hlk⟩
    all_goals rw [show W1.drew.heap.size = W1.heap.size from rfl] at hlk
    · obtain ⟨f, b, hv⟩ := hki.deeds.clos hpr
      rw [hv] at hlk
      clear hv hpr hki
      (refine wpAnyM_one (i := 3) rfl (by kernel_rfl) (fun K hK => ?_); rw [if_pos (by rfl)]; (try simp only [elem_laws]))
      go_simp
      refine hK _ _ (fun _ => hR) ?_
      clear hK K hlk
      (try simp only [put_laws])
      (refine wpAnyM_one (i := 4) rfl (by kernel_rfl) (fun K hK => ?_); rw [if_pos (by rfl)]; (try simp only [elem_laws]))
      go_simp
      refine hK _ _ (fun _ => hR) ?_
      clear hK K
      (try simp only [put_laws])
      (refine wpAnyM_one (i := 5) rfl (by kernel_rfl) (fun K hK => ?_); rw [if_pos (by rfl)]; (try simp only [elem_laws]))
      go_simp
      refine (HT.out _ _).mono ?_
      rintro e w2 ⟨⟨u, rfl⟩, rfl⟩
      refine hK _ _ (fun _ => hR) ?_
      clear hK K
      (try simp only [put_laws])
      refine wpAnyM_done (by kernel_rfl) ?_ _
      obtain ⟨c0, c1, c2, c3, c4, c5, hb, hb1⟩ := hR
      have HBW := Lib.hid hb
      have HB1 := Lib.hid hb1
      have hkin : 1 ≤ k ∧ k ≤ 11 := ⟨hk1, hk2⟩
      have hr := HR.out
      rw [if_neg (fun h => h hkin)] at hr
      clear hb hb1 hk1 hk2 HR
      have HR := Lib.hid hr
      have HKK := Lib.hid hkin
      clear hr hkin
      go_wp2_with fail
      refine (HP.out _ HBW.out).mono ?_
      clear c0 c1 c2 c3 c4 c5
      rintro e w3 ⟨hb3, ⟨hc, u3, rfl⟩ | ⟨hc, rfl⟩⟩
      rotate_left
      · have hr := HR.out
        rw [if_pos hc] at hr
        exact ⟨rfl, GrowsM.no hr.symm hc (HBW.out.trans (hb3.mono HBW.out.size))⟩
      obtain ⟨c0, c1, c2, c3, c4, c5, hb, hb1⟩ := HCELL.out _ (HB1.out.trans (hb3.mono HB1.out.size))
      have hr := HR.out
      rw [if_neg (fun h => h hc)] at hr
      have HW3 := Lib.hid hb
      have HB3 := Lib.hid hb1
      clear hb hb1 hb3 hc HR HBW HB1 HP HKI HM HT
      by_cases k8 : k = 8 ∨ k = 9
      · rw [if_pos k8] at hr
        have HR := Lib.hid hr
        clear hr
        rcases k8 with rfl | rfl
        all_goals
          go_wp2_with fail
          refine (HQ.out _ HW3.out).mono ?_
          clear c0 c1 c2 c3 c4 c5
          rintro e w4 ⟨hb4, ⟨hc, u4, rfl⟩ | ⟨hc, rfl⟩⟩
        · go_wp2_with fail
          first
          | go_end0
          | refine bodyPost_ret (results_none rfl _ _ _) rfl ?_
          exact GrowsM.ok (HR.out.symm.trans hc) (HW3.out.trans (hb4.mono HW3.out.size))
        · exact ⟨rfl, GrowsM.no HR.out.symm hc (HW3.out.trans (hb4.mono HW3.out.size))⟩
        · go_wp2_with fail
          first
          | go_end0
          | refine bodyPost_ret (results_none rfl _ _ _) rfl ?_
          exact GrowsM.ok (HR.out.symm.trans hc) (HW3.out.trans (hb4.mono HW3.out.size))
        · exact ⟨rfl, GrowsM.no HR.out.symm hc (HW3.out.trans (hb4.mono HW3.out.size))⟩
      rw [if_neg k8] at hr
      by_cases k3 : k = 3
      · rw [if_pos k3] at hr
        have HR := Lib.hid hr
        clear hr k8
        subst k3
        go_wp2_with fail
        refine (HI2.out _ _ _ _ (intsAt_two _ _ _ _)).mono ?_
        rintro e w4 ⟨he4, hg4⟩
        have HB4 : Hid (Below W1.heap.size W1 w4) := show Below _ _ _ from by rw [he4]; exact HB3.out.alloc HB3.out.size _
        clear c0 c1 c2 c3 c4 c5
        obtain ⟨c0, c1, c2, c3, c4, c5, hw4, -⟩ := HCELL.out _ HB4.out
        have HW4 := Lib.hid hw4
        clear he4 hw4
        rcases hg4 with ⟨hg, u4, rfl⟩ | ⟨hg, rfl⟩
        · have h0 : 0 ≤ at' ∧ 0 ≤ n := ⟨hg _ (by simp), hg _ (by simp)⟩
          have hr := HR.out
          rw [if_pos h0] at hr
          have HR2 := Lib.hid hr
          clear hg h0 hr
          go_wp2_with fail
          first
          | go_end0
          | refine bodyPost_ret (results_none rfl _ _ _) rfl ?_
          exact GrowsM.ok HR2.out.symm HW4.out
        · have hr := HR.out
          rw [if_neg (fun h => hg (by simpa using h))] at hr
          exact ⟨rfl, GrowsM.no hr.symm (by decide) HW4.out⟩
      rw [if_neg k3] at hr
      by_cases k10 : k = 10
      · rw [if_pos k10] at hr
        have HR := Lib.hid hr
        clear hr k8 k3
        subst k10
        go_wp2_with fail
        refine (HI1.out _ _ _ (intsAt_one _ _ _)).mono ?_
        rintro e w4 ⟨he4, hg4⟩
        have HB4 : Hid (Below W1.heap.size W1 w4) := show Below _ _ _ from by rw [he4]; exact HB3.out.alloc HB3.out.size _
        clear c0 c1 c2 c3 c4 c5
        obtain ⟨c0, c1, c2, c3, c4, c5, hw4, -⟩ := HCELL.out _ HB4.out
        have HW4 := Lib.hid hw4
        clear he4 hw4
        rcases hg4 with ⟨hg, u4, rfl⟩ | ⟨hg, rfl⟩
        · have h0 : 0 ≤ at' := hg _ (by simp)
          have hr := HR.out
          rw [if_pos h0] at hr
          have HR2 := Lib.hid hr
          clear hg hr
          go_wp2_with fail
          refine (HF2.out _ _ _ _ h0 (by omega) (intsAt_two _ _ _ _)).mono ?_
          rintro e w5 ⟨he5, hg5⟩
          have HW5 : Hid (Below w.heap.size w w5) := show Below _ _ _ from by rw [he5]; exact HW4.out.alloc HW4.out.size _
          clear he5 c0 c1 c2 c3 c4 c5
          rcases hg5 with ⟨hg, u5, rfl⟩ | ⟨hg, rfl⟩
          · have h1 : at' ≤ 448 ∧ (un : Int) ≤ 448 - at' := by simpa [fitN] using hg
            have hr := HR2.out
            rw [if_pos h1] at hr
            have HR3 := Lib.hid hr
            clear hg h1 hr
            go_wp2_with fail
            first
            | go_end0
            | refine bodyPost_ret (results_none rfl _ _ _) rfl ?_
            exact GrowsM.ok HR3.out.symm HW5.out
          · have hr := HR2.out
            rw [if_neg (fun h => hg (by simpa [fitN] using h))] at hr
            exact ⟨rfl, GrowsM.no hr.symm (by decide) HW5.out⟩
        · have hr := HR.out
          rw [if_neg (fun h => hg (by simpa using h))] at hr
          exact ⟨rfl, GrowsM.no hr.symm (by decide) HW4.out⟩
      rw [if_neg k10] at hr
      by_cases k11 : k = 11
      · rw [if_pos k11] at hr
        have HR := Lib.hid hr
        clear hr k8 k3 k10
        subst k11
        go_wp2_with fail
        refine (HI1.out _ _ _ (intsAt_one _ _ _)).mono ?_
        rintro e w4 ⟨he4, hg4⟩
        have HB4 : Hid (Below W1.heap.size W1 w4) := show Below _ _ _ from by rw [he4]; exact HB3.out.alloc HB3.out.size _
        clear c0 c1 c2 c3 c4 c5
        obtain ⟨c0, c1, c2, c3, c4, c5, hw4, -⟩ := HCELL.out _ HB4.out
        have HW4 := Lib.hid hw4
        clear he4 hw4
        rcases hg4 with ⟨hg, u4, rfl⟩ | ⟨hg, rfl⟩
        · have h0 : 0 ≤ n := hg _ (by simp)
          have hr := HR.out
          rw [if_pos h0] at hr
          have HR2 := Lib.hid hr
          clear hg hr
          go_wp2_with fail
          refine (HF1.out _ _ _ h0 (intsAt_one _ _ _)).mono ?_
          rintro e w5 ⟨he5, hg5⟩
          have HW5 : Hid (Below w.heap.size w w5) := show Below _ _ _ from by rw [he5]; exact HW4.out.alloc HW4.out.size _
          clear he5 c0 c1 c2 c3 c4 c5
          rcases hg5 with ⟨hg, u5, rfl⟩ | ⟨hg, rfl⟩
          · have h1 : n ≤ 448 := by simpa [fitN] using hg
            have hr := HR2.out
            rw [if_pos h1] at hr
            have HR3 := Lib.hid hr
            clear hg h1 hr
            go_wp2_with fail
            first
            | go_end0
            | refine bodyPost_ret (results_none rfl _ _ _) rfl ?_
            exact GrowsM.ok HR3.out.symm HW5.out
          · have hr := HR2.out
            rw [if_neg (fun h => hg (by simpa [fitN] using h))] at hr
            exact ⟨rfl, GrowsM.no hr.symm (by decide) HW5.out⟩
        · have hr := HR.out
          rw [if_neg (fun h => hg (by simpa using h))] at hr
          exact ⟨rfl, GrowsM.no hr.symm (by decide) HW4.out⟩
      rw [if_neg k11] at hr
      have HR := Lib.hid hr
      have b8 : (k == 8) = false := by simpa using fun h => k8 (.inl h)
      have b9 : (k == 9) = false := by simpa using fun h => k8 (.inr h)
      have b3 : (k == 3) = false := by simpa using k3
      have b10 : (k == 10) = false := by simpa using k10
      have b11 : (k == 11) = false := by simpa using k11
      clear hr k8 k3 k10 k11 HKK
      go_wp2_with fail
      first
      | go_end0
      | refine bodyPost_ret (results_none rfl _ _ _) rfl ?_
      exact GrowsM.ok HR.out.symm HW3.out
    · (refine wpAnyM_one (i := 3) rfl (by kernel_rfl) (fun K hK => ?_); rw [if_pos (by rfl)]; (try simp only [elem_laws]))
      go_simp
      refine hK _ _ (fun _ => hR) ?_
      clear hK K hlk hki
      (try simp only [put_laws])
      (refine wpAnyM_one (i := 4) rfl (by kernel_rfl) (fun K hK => ?_); rw [if_pos (by rfl)]; (try simp only [elem_laws]))
      go_simp
      refine hK _ _ (fun _ => hR) ?_
      clear hK K
      (try simp only [put_laws])
      (refine wpAnyM_one (i := 5) rfl (by kernel_rfl) (fun K hK => ?_); rw [if_pos (by rfl)]; (try simp only [elem_laws]))
      go_simp
      refine (HM.out _ _ (by decide) _).mono ?_
      rintro e w2 (⟨hg, -, -⟩ | ⟨-, rfl, rfl⟩)
      · cases hg
      · have hr := HR.out
        rw [if_pos hk1] at hr
        exact ⟨rfl, GrowsM.no hr.symm (by decide) hR.2.2.2.2.2.2.1⟩
end Go.Proofs.YtgoemaecdolioaaGreatDoor

/-
  model: Check and Asks; the document's.
-/
namespace Go.Proofs.YtgoemaecdolioaaGreatDoor
open Go.RowKit Go.Shelf
attribute [local go_sem] Oper.semAt_some

theorem asks11_any (k : Int) (w : World) : Calls Tryz.prog 15 #[.int .i64 k] w fun e w' => e = .returned (.bool (decide (k = 1 ∨ k = 2 ∨ k = 3))) ∧ w' = w := by
  by_cases h1 : k = 1
  · subst h1
    go_enter Tryz.func15, Tryz.ntmps15
    go_wp2
    go_ret
    exact ⟨rfl, rfl⟩
  by_cases h2 : k = 2
  · subst h2
    go_enter Tryz.func15, Tryz.ntmps15
    go_wp2
    go_ret
    exact ⟨rfl, rfl⟩
  by_cases h3 : k = 3
  · subst h3
    go_enter Tryz.func15, Tryz.ntmps15
    go_wp2
    go_ret
    exact ⟨rfl, rfl⟩
  have b1 : (k == 1) = false := by simpa using h1
  have b2 : (k == 2) = false := by simpa using h2
  have b3 : (k == 3) = false := by simpa using h3
  have hd : decide (k = 1 ∨ k = 2 ∨ k = 3) = false := by simp [h1, h2, h3]
  rw [hd]
  clear hd h1 h2 h3
  go_enter Tryz.func15, Tryz.ntmps15
  go_wp2
  go_ret
  exact ⟨rfl, rfl⟩
set_option maxRecDepth 100000 in
set_option maxHeartbeats 4000000 in
theorem check11_any (x : OpX) (hp : x.path.length ≤ 1000000) (ho : x.other.length ≤ 1000000) (w : World) (hm : MaxC w) (hu : FB w x.ub (bytesN x.bytes)) :
    Calls Tryz.prog 13 #[.agg (opA x)] w fun e w' => e = .returned (.int .i64 (rightC x)) ∧ Below w.heap.size w w' := by
  have hb1 : Below w.heap.size w (w.alloc (.cells (opA x) 25)) := (Below.refl _ w).alloc (Nat.le_refl _) _
  have hbx : Blk (w.alloc (.cells (opA x) 25)) w.heap.size 25 (opA x) := Blk.new _ _ _
  obtain ⟨W1, hW1⟩ : ∃ W1, w.alloc (.cells (opA x) 25) = W1 := ⟨_, rfl⟩
  rw [hW1] at hb1 hbx
  have hs1 : w.heap.size < W1.heap.size := hbx.lt
  have hb2 : Below W1.heap.size W1 (W1.alloc (.cells #[.int .i64 0] 30)) := (Below.refl _ W1).alloc (Nat.le_refl _) _
  have he2 : Boxed (W1.alloc (.cells #[.int .i64 0] 30)) W1.heap.size 30 (.int .i64 0) := Boxed.new _ _ _
  obtain ⟨W2, hW2⟩ : ∃ W2, W1.alloc (.cells #[.int .i64 0] 30) = W2 := ⟨_, rfl⟩
  rw [hW2] at hb2 he2
  have hb02 : Below w.heap.size w W2 := hb1.trans (hb2.mono hb1.size)
  have hbx2 : Blk W2 w.heap.size 25 (opA x) := hbx.below hb2 hs1
  have hc2 : ∀ i v, (opA x)[i]? = some v → W2.cell? ⟨w.heap.size, i, none⟩ = some v := fun i v h => hbx2.cell h
  have HR := Lib.hid (right11_any x hp ho W2 (hm.below hb02 hm.room) (hu.below hb02))
  have HT := Lib.hid (tried11_any (f := 31) (enters_of Tryz.func31 (by kernel_rfl) rfl) #[.pointer (some ⟨w.heap.size, 0, none⟩)] W1 (fun c w1 => c = rightC x ∧ Below w.heap.size w w1) (by
    rw [hW2]
    have HE2 := Lib.hid he2
    have HB02 := Lib.hid hb02
    obtain ⟨ua, uc, hub, -⟩ := hu.form
    have hx6 : opA x = #[.int .i64 x.kind, encStr x.path, encStr x.other, .int .i64 x.place, .int .i64 x.many, .slice ua (bytesN x.bytes).length uc] := by unfold opA; rw [hub]
    rw [hx6] at HR hc2
    obtain ⟨p, hp2⟩ : ∃ p, encStr x.path = p := ⟨_, rfl⟩
    obtain ⟨q, hq⟩ : ∃ p, encStr x.other = p := ⟨_, rfl⟩
    obtain ⟨r, hr⟩ : ∃ r, rightC x = r := ⟨_, rfl⟩
    rw [hp2, hq] at HR hc2
    rw [hr] at HR
    rw [hr]
    have k0 := hc2 0 _ rfl
    have k1 := hc2 1 _ rfl
    have k2 := hc2 2 _ rfl
    have k3 := hc2 3 _ rfl
    have k4 := hc2 4 _ rfl
    have k5 := hc2 5 _ rfl
    clear hp ho hm hu hb1 hbx hW1 hs1 hb2 he2 hW2 hb02 hbx2 hc2 hub hx6 hp2 hq hr
    go_enter Tryz.func31, Tryz.ntmps31
    go_wp2_with fail
    refine HR.out.mono ?_
    rintro e w3 ⟨hb, ⟨rfl, u, rfl⟩ | ⟨hc, rfl⟩⟩
    · have HB := Lib.hid hb
      clear hb
      go_wp2_with fail
      first
      | go_end0
      | refine bodyPost_ret (results_none rfl _ _ _) rfl ?_
      exact ⟨0, (HB.out.block _ HE2.out.lt).trans HE2.out, ⟨rfl, HB02.out.trans (HB.out.mono HB02.out.size)⟩, .inl ⟨rfl, _, rfl⟩⟩
    · exact ⟨rfl, r, (hb.block _ HE2.out.lt).trans HE2.out, ⟨rfl, HB02.out.trans (hb.mono HB02.out.size)⟩, .inr ⟨hc, rfl⟩⟩))
  have HS1 := Lib.hid hs1
  obtain ⟨v, hv⟩ : ∃ v, opA x = v := ⟨_, rfl⟩
  rw [hv] at hW1 ⊢
  clear hp ho hm hu hb1 hbx hs1 hb2 he2 hW2 hb02 hbx2 hc2 HR hv
  have hmf : ∀ (fn : Fn) (first cap : Array Value) (w : World), (Instr.makeFunc fn first cap).run Tryz.prog w = .ok (.func fn first cap) w := fun _ _ _ _ => rfl
  go_enter Tryz.func13, Tryz.ntmps13
  go_wp2_with fail
  refine HT.out.mono ?_
  rintro e w3 ⟨c, w4, rfl, ⟨rfl, hb⟩, ht⟩
  have hb3 := hb.trans (ht.below (B := w.heap.size) (fun k hk => by rw [hk]; exact Nat.le_of_lt HS1.out) hb.size)
  have HB := Lib.hid hb3
  clear hb ht hb3 hW1
  go_wp2_with fail
  go_ret
  exact ⟨by first | rfl | simp, HB.out⟩
end Go.Proofs.YtgoemaecdolioaaGreatDoor
