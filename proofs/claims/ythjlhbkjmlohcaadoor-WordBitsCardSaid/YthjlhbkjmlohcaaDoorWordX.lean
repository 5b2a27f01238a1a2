/-
  Slices of fields, and the contract of word.Apart.
-/
import Derived.Test.YthjlhbkjmlohcaaDoorWordG
import Derived.Test.YthjlhbkjmlohcaaDoorMark
import Derived.BigRegionIn
namespace Go.Proofs.YthjlhbkjmlohcaaDoor
open Go.RowKit Go.Shelf
attribute [local go_sem] Oper.semAt_some

/-- The slice value v holds these fields. -/
def SlF (W : World) (v : Value) (fs : List (Int × Int)) : Prop :=
  ∃ (a : Option Addr) (cap : Nat), v = .slice a fs.length cap ∧ fs.length ≤ cap ∧ (0 < fs.length → ∃ b off, a = some ⟨b, off, none⟩ ∧ b < W.heap.size ∧ ∀ j, j < fs.length → W.cell? ⟨b, off + j * 2, none⟩ = some (.int .i64 (fs[j]?.getD (0, 0)).1) ∧ W.cell? ⟨b, off + j * 2 + 1, none⟩ = some (.int .i64 (fs[j]?.getD (0, 0)).2))
theorem SlF.below {W W' : World} {v : Value} {fs : List (Int × Int)} (h : SlF W v fs) (hb : Below W.heap.size W W') : SlF W' v fs := by
  obtain ⟨a, cap, hv, hl, hc⟩ := h
  refine ⟨a, cap, hv, hl, fun h0 => ?_⟩
  obtain ⟨b, off, ha, hlt, hj⟩ := hc h0
  exact ⟨b, off, ha, Nat.lt_of_lt_of_le hlt hb.size, fun j hl => ⟨(hb.cell (p := ⟨b, off + j * 2, none⟩) hlt).trans (hj j hl).1, (hb.cell (p := ⟨b, off + j * 2 + 1, none⟩) hlt).trans (hj j hl).2⟩⟩
/-- The numbers of fields are machine integers. -/
def FieldInts (fs : List (Int × Int)) : Prop := ∀ x ∈ fs, -9223372036854775808 ≤ x.1 ∧ x.1 ≤ 9223372036854775807 ∧ -9223372036854775808 ≤ x.2 ∧ x.2 ≤ 9223372036854775807
theorem boxed_b {W W' : World} {B : Nat} {t : TypeId} {v : Value} (h : Boxed W B t v) (hb : Below W.heap.size W W') : Boxed W' B t v := (hb.block B h.lt).trans h
set_option maxRecDepth 100000 in
set_option maxHeartbeats 4000000 in
theorem apart_any (v : Value) (fs : List (Int × Int)) (hl : fs.length ≤ 1000) (hfs : FieldInts fs) (w : World) (ht : Tabs w) (hs : SlF w v fs) :
    Calls Tryd.prog 9 #[v] w fun e w' => e = .returned (.bool (WM.apartFrom 0 fs)) ∧ Below w.heap.size w w' := by
  obtain ⟨a, cap, rfl, hlc, hcells⟩ := hs
  have HC := Lib.hid hcells; clear hcells hlc
  have HX := Lib.hid hfs; clear hfs
  have z0 := ht.room
  refine (callsIn_wide (n := 6)).1 ?_
  refine callsIn_of_wp_marks Tryd.func9 rfl trivial ?_ rfl
  simp only [Tryd.ntmps9, List.size_toArray, List.length_nil, List.length_cons, Nat.reduceAdd, Nat.reduceSub, Array.replicate_succ, Array.replicate_zero, List.push_toArray, List.append_toArray, List.nil_append, List.cons_append]
  gi_wp2_with fail
  refine wpIn_scope_straight ?_
  gi_wp2_with fail
  refine wpIn_label ?_
  gi_wp2_with fail
  rename_i K hK
  refine wpIn_loop (fun a' W => ∃ (k t : Nat) (kk : Int) (ds : List Deferred) (u6 u7 u12 u13 u14 u15 u16 u17 u18 u19 u20 u21 u22 u33 : Value), (k ≤ fs.length ∧ kk = k ∧ t < 18446744073709551616 ∧ WM.apartFrom 0 fs = WM.apartFrom t (fs.drop k) ∧ Boxed W w.heap.size 4 (.bool true) ∧ Boxed W (w.heap.size + 1) 22 (.int .u64 (t : Nat)) ∧ Below w.heap.size w W ∧ Marks w.heap.size W.heap.size ds W) ∧
    a' = { tmps := #[.slice a fs.length cap, undef, .bool false, .pointer (some ⟨w.heap.size, 0, none⟩), .pointer (some ⟨w.heap.size + 1, 0, none⟩), undef, u6, u7, undef, .slice a fs.length cap, .int .i64 (fs.length : Nat), .int .i64 kk, u12, u13, u14, u15, u16, u17, u18, u19, u20, u21, u22, undef, undef, undef, undef, undef, undef, undef, undef, undef, undef, u33, undef], defers := ds })
    (fun a' _ => fs.length - (intOf (a'.tmps.getD 11 undef)).toNat) ?_ ?_
  · refine ⟨0, 0, 0, [], _, _, _, _, _, _, _, _, _, _, _, _, _, _, ⟨Nat.zero_le _, rfl, by decide, rfl, (Boxed.new w 4 (.bool true)).alloc _, ?_, (by repeat (first | exact Below.refl _ _ | assumption | refine Below.drew ?_ | refine below_drewN ?_ _ | refine Below.alloc ?_ (by (try simp) <;> omega) _ | refine Below.setCell ?_ (by (try simp) <;> omega) _ | refine Below.trans ?_ (Below.mono (by assumption) (by (try simp) <;> omega)))), trivial⟩, rfl⟩
    have h := Boxed.new (w.alloc (.cells #[.bool true] 4)) 22 (.int .u64 0)
    rw [World.size_alloc] at h; exact h
  · rintro a' wr ⟨k, t, _, ds, u6, u7, u12, u13, u14, u15, u16, u17, u18, u19, u20, u21, u22, u33, ⟨hk, rfl, htl, hsp, hA, hT, hb, hM⟩, rfl⟩
    have zb := hb.size
    by_cases hlt : k < fs.length
    · have e0 : fs.drop k = fs[k] :: fs.drop (k + 1) := List.drop_eq_getElem_cons hlt
      have k2 : (k : Int) < (fs.length : Int) := by omega
      obtain ⟨b, off, rfl, hbl, hj⟩ := HC.out (by omega)
      obtain ⟨x, y, exy⟩ : ∃ x y, fs[k] = (x, y) := ⟨_, _, rfl⟩
      have hr := HX.out fs[k] (List.getElem_mem hlt)
      have hg : fs[k]?.getD (0, 0) = (x, y) := by rw [← exy]; simp [hlt]
      have hc1 : wr.cell? ⟨b, off + k * 2, none⟩ = some (.int .i64 x) := (hb.cell (p := ⟨b, off + k * 2, none⟩) hbl).trans (by have := (hj k hlt).1; rwa [hg] at this)
      have hc2 : wr.cell? ⟨b, off + k * 2 + 1, none⟩ = some (.int .i64 y) := (hb.cell (p := ⟨b, off + k * 2 + 1, none⟩) hbl).trans (by have := (hj k hlt).2; rwa [hg] at this)
      rw [exy] at hr e0
      rw [e0] at hsp
      have HSP := Lib.hid hsp
      have HR := Lib.hid hr
      have HJ := Lib.hid hj
      have hfr := hA.frozen
      clear hsp hr hj hg e0 exy
      have hwr : 2 ≤ wr.heap.size := by omega
      gi_wp2_with fail
      refine ⟨trivial, ?_⟩
      refine (callsIn_wide.2 (spanOf_any x y _)).mono ?_
      rintro e w1 ⟨rfl, hb1⟩
      have z1 := hb1.size; simp at z1
      have b1 : Below wr.heap.size wr w1 := ((Below.refl _ _).alloc (Nat.le_refl _) _).trans (hb1.mono (by simp))
      gi_wp2_with fail
      refine ⟨trivial, ?_⟩
      refine (callsIn_wide.2 (mayBe_any x y HR.out.1 _)).mono ?_
      rintro e w2 ⟨rfl, hb2⟩
      have z2 := hb2.size; simp at z2
      have b2 : Below wr.heap.size wr w2 := (b1.alloc (by omega) _).trans (hb2.mono (by simp; omega))
      have hA2 := boxed_b hA b2
      have hT2 := boxed_b hT b2
      obtain ⟨hc2, hf2⟩ := bcell hb2
      by_cases hok : WM.okF x y = true
      · obtain ⟨f, v, rfl, rfl, hfv, hf64, hv1⟩ := WM.okF_parts x y hok
        rw [hok]
        have HOK := Lib.hid hok
        clear hok
        have t2 : Tabs w2 := ht.below (hb.trans (b2.mono zb)) z0
        have hm := WM.maskN_lt f v
        have HSM := Lib.hid (show WM.apartFrom 0 fs = (WM.okF (f : Int) (v : Int) && decide (t &&& WM.maskN f v = 0) && WM.apartFrom (t ||| WM.maskN f v) (fs.drop (k + 1))) from HSP.out)
        gi_wp2_with fail
        refine ⟨trivial, ?_⟩
        refine (callsIn_wide.2 (mask_any f v hfv hf64 _ t2)).mono ?_
        rintro e w3 ⟨rfl, hb3⟩
        generalize hmm : WM.maskN f v = m at *
        clear hmm
        have z3 := hb3.size
        have b3 : Below wr.heap.size wr w3 := b2.trans (hb3.mono (by omega))
        have hA3 := boxed_b hA b3
        have hT3 := boxed_b hT b3
        have t3 : Tabs w3 := t2.below hb3 t2.room
        gi_wp2_with fail
        refine ⟨trivial, ?_⟩
        refine (callsIn_wide.2 (bits_any m _)).mono ?_
        rintro e w4 ⟨rfl, rfl⟩
        have bX := Boxed.new w3 22 (.int .u64 (m : Nat))
        have b4 : Below wr.heap.size wr (w3.alloc (.cells #[.int .u64 (m : Nat)] 22)) := b3.alloc (by omega) _
        have hA4 := boxed_b hA b4
        have hT4 := boxed_b hT b4
        have t4 : Tabs (w3.alloc (.cells #[.int .u64 (m : Nat)] 22)) := t3.below ((Below.refl _ _).alloc (Nat.le_refl _) _) t3.room
        have hM4 := hM.below b4
        have hsz : (w3.alloc (.cells #[.int .u64 (m : Nat)] 22)).heap.size = w3.heap.size + 1 := by simp
        have hlA := hA.lt
        have hlT := hT.lt
        clear hc1 hc2 hf2 hfr hb1 hb2 b1 b2 hb3 b3 hA2 hT2 hA3 hT3 t2 t3
        gi_wp2_with fail
        generalize hW0 : w3.alloc (.cells #[.int .u64 (m : Nat)] 22) = W0 at *
        clear hW0
        refine wpIn_rangeFunc_ownG (N := (WM.bitsOf m).length) (n := 6) rfl (by decide) (gf := 17) (lb := #[.pointer (some ⟨w3.heap.size, 0, none⟩)]) rfl trivial (enters_of Tryd.func17 (by kernel_rfl) rfl)
          (bits_stops 5 (by decide) w3.heap.size m hm W0 t4 (by omega) bX.cell) (fun h k => Keeps.trans h k) (keeps_b (fun k hk => by rcases hk with rfl | hk <;> omega)) (Below.refl _ _) (fun _ => rfl)
          (fun pre W => Boxed W w.heap.size 4 (.bool true) ∧ Boxed W (w.heap.size + 1) 22 (.int .u64 (WM.orBits t (pre.map (·.1)) : Nat)) ∧ WM.Free t (pre.map (·.1)) ∧ Below w.heap.size w W ∧ Marks w.heap.size wr.heap.size ds W)
          (fun cd pre W => cd = .exit 0 ∧ Boxed W w.heap.size 4 (.bool false) ∧ (∃ p y, pre.map (·.1) = p ++ [y] ∧ (WM.orBits t p).testBit y = true) ∧ Below w.heap.size w W ∧ Marks w.heap.size wr.heap.size ds W)
          (OwnFrom.and (Own.from (boxed_own _ _ (fun _ => .bool true)) _) (OwnFrom.and (Own.from (boxed_own _ _ (fun pre : List (Fin 64) => .int .u64 (WM.orBits t (pre.map (·.1)) : Nat))) _) (OwnFrom.and (ownFrom_pure _ (fun pre : List (Fin 64) => WM.Free t (pre.map (·.1)))) (OwnFrom.and (ownFrom_below (Nat.le_refl _) (by omega)) (Marks.own ds (by omega))))))
          (fun cd => OwnFrom.and (ownFrom_pure _ (fun _ => cd = .exit 0)) (OwnFrom.and (Own.from (boxed_own _ _ (fun _ => .bool false)) _) (OwnFrom.and (ownFrom_pure _ (fun pre : List (Fin 64) => ∃ p y, pre.map (·.1) = p ++ [y] ∧ (WM.orBits t p).testBit y = true)) (OwnFrom.and (ownFrom_below (Nat.le_refl _) (by omega)) (Marks.own ds (by omega))))))
          ⟨hA4, hT4, WM.free_nil t, hb.trans (b4.mono zb), hM4⟩
          ?a1 ?assign ?body ?done ?stop
        case assign =>
          intro l x W K hK
          gi_wp2
          exact hK
        case body =>
          rintro l pre x W ⟨jA, jT, jF, jB, jM⟩ hlen
          have ho := WM.orBits_lt (pre.map (·.1)) t htl (fun y hy => by obtain ⟨z, _, rfl⟩ := List.mem_map.1 hy; exact z.2)
          have hsh := WM.shr_one (WM.orBits t (pre.map (·.1))) x.1 ho
          have hor := WM.or_shl (WM.orBits t (pre.map (·.1))) x.1 ho x.2
          have HMO := Lib.hid (WM.orBits_more t (pre.map (·.1)) x.1)
          have HMA := Lib.hid (show (pre ++ [x]).map (·.1) = pre.map (·.1) ++ [x.1] by simp)
          have HFS := Lib.hid (@WM.free_snoc t (pre.map (·.1)) x.1 jF)
          clear jF
          generalize hpm : pre.map (·.1) = q at *
          have HQ := Lib.hid hpm; clear hpm
          generalize hoo : WM.orBits t q = o at *
          have HOO := Lib.hid hoo; clear hoo
          have hx : ((x.1 : Nat) : Int) < 64 := by have := x.2; omega
          have cA := jA.cell
          have cT := jT.cell
          have fA := jA.frozen
          have fT := jT.frozen
          cases hbit : o.testBit x.1 with
          | true =>
            rw [hbit] at hsh
            have HB := Lib.hid hbit
            clear hbit hor
            gi_wp2
            exact ⟨(KeepsOthers.setCell _ _ _).from _, rfl, jA.set _, ⟨q, x.1, HMA.out, by rw [HOO.out]; exact HB.out⟩, jB.setCell (p := ⟨w.heap.size, 0, none⟩) (Nat.le_refl _) _, jM.set jA _⟩
          | false =>
            rw [hbit] at hsh
            have HB := Lib.hid hbit
            clear hbit
            gi_wp2
            gi_region
            all_goals exact ⟨((KeepsOthers.setCell _ _ _).trans (KeepsOthers.drew _)).from _, Keeps.set _ _ (by rintro (h | h) <;> omega), jA.other (by omega) _, by rw [HMA.out, HMO.out]; exact jT.set _, by rw [HMA.out]; exact HFS.out HB.out, (jB.setCell (p := ⟨w.heap.size + 1, 0, none⟩) (by show w.heap.size ≤ w.heap.size + 1; omega) _).drew, (jM.set jT _).below ((Below.refl _ _).drew)⟩
        case done =>
          rintro D ys W hD hys ⟨jA, jT, jF, jB, jM⟩ hK'
          rw [hys] at jT jF
          rw [WM.orBits_all t m hm] at jT
          have h0 := WM.free_all hm jF
          have HE : Hid (WM.apartFrom 0 fs = WM.apartFrom (t ||| m) (fs.drop (k + 1))) := by
            rw [HSM.out, HOK.out, decide_eq_true h0]; rfl
          clear h0 jF hys
          have zB := jB.size
          have hDW := (Array.getElem?_eq_some_iff.1 hK').1
          gi_wp2
          refine ⟨⟨k + 1, t ||| m, _, _ :: ds, _, _, _, _, _, _, _, _, _, _, _, _, _, _, ⟨by omega, ?_, Nat.or_lt_two_pow (n := 64) htl hm, HE.out, jA, jT, jB, ⟨D, rfl, by omega, hDW, hK', jM.more (by omega)⟩⟩, rfl⟩, ?_⟩
          · omega
          · simp [intOf]; omega
        case stop =>
          rintro D cd pre W hD hpre ⟨rfl, jA, ⟨p, y, jp, jy⟩, jB, jM⟩ hK'
          rw [jp] at hpre
          have HF : Hid (WM.apartFrom 0 fs = false) := by
            show _ = _
            rw [HSM.out, decide_eq_false (WM.not_free hm hpre jy), Bool.and_false, Bool.false_and]
          clear hpre jp jy
          have hcA := jA.cell
          have hDW := (Array.getElem?_eq_some_iff.1 hK').1
          have zB := jB.size
          gi_wp2
          exact leaves_marks (_ :: ds) (D + 1) _ ⟨D, rfl, by omega, by omega, hK', jM.more (by omega)⟩ fun W' hs => ⟨_, results_tmp rfl _ _ _, by rw [HF.out]; rfl, jB.trans hs.1⟩
      · have hok' : WM.okF x y = false := by simpa using hok
        rw [hok']
        have HF : Hid (WM.apartFrom 0 fs = false) := by rw [HSP.out, WM.apartFrom, hok']; rfl
        clear hok hok'
        have hcA := hA2.cell
        have hfA := hA2.frozen
        have hlA := hA2.lt
        clear hc2 hf2
        gi_wp2_with fail
        exact leaves_marks ds wr.heap.size _ ((hM.below b2).set hA2 _) fun W' hs => ⟨_, results_tmp rfl _ _ _, by rw [HF.out]; rfl, ((hb.trans (b2.mono zb)).setCell (p := ⟨w.heap.size, 0, none⟩) (Nat.le_refl _) _).trans hs.1⟩
    · have e0 : fs.drop k = [] := List.drop_eq_nil_of_le (by omega)
      have HE : Hid (WM.apartFrom 0 fs = true) := by rw [e0] at hsp; exact hsp
      clear hsp e0
      have k2 : (fs.length : Int) ≤ (k : Int) := by omega
      have hcA := hA.cell
      gi_wp2_with fail
      exact leaves_marks ds _ _ hM fun W' hs => ⟨_, results_tmp rfl _ _ _, by rw [HE.out]; rfl, hb.trans hs.1⟩
end Go.Proofs.YthjlhbkjmlohcaaDoor
