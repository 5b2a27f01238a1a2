/-
  Texts PnN to PnS, as one.
-/
import Derived.Test.YtohdgjmmekgcmaaDoorMg11
/-
  The document's device: State.
-/
namespace Go.Proofs.YtohdgjmmekgcmaaDoor
open Go.RowKit Go.Shelf

theorem neq_lineA (L M : List Int) (hL : L.length = 8) (hM : M.length = 8) (w : World) : (binOp .neq 48 (.agg (vals L).toArray) (.agg (vals M).toArray)).run Tryd.prog w = .ok (.bool (!(L == M))) w := by
  rw [run_neq_struct, equal_line Tryd.underlying48 9998 L M hL hM w]
  rfl
set_option maxRecDepth 100000 in
set_option maxHeartbeats 1000000 in
theorem refState_any {F : Nat → Prop} {S T n cS cT : Nat} {q : Value} {d : Dv} (w : World) (h : RefV w F S T n cS cT q d) :
    Calls Tryd.prog 58 #[.agg (refA S T n cS cT q)] w fun e w' => e = .returned (.agg #[.int .i64 (n : Nat), .int .i64 (d.waits.length : Nat), .int .i64 (dirty d.seen d.stays n : Nat)]) ∧ Below w.heap.size w w' := by
  obtain ⟨a, c, rfl⟩ := h.waits.slice_n
  have hN2 : d.waits.length ≤ 1024 := by have := h.ok.few; have := h.most; omega
  have b0 : Below w.heap.size w ((w.alloc (.cells (refA S T n cS cT (.slice a d.waits.length c)) 36)).alloc (.cells #[.int .i64 0, .int .i64 0, .int .i64 0] 62)) := (by repeat (first | exact Below.refl _ _ | assumption | refine Below.drew ?_ | refine below_drewN ?_ _ | refine Below.alloc ?_ (by (try simp) <;> omega) _ | refine Below.setCell ?_ (by (try simp) <;> omega) _ | refine Below.trans ?_ (Below.mono (by assumption) (by (try simp) <;> omega))))
  have HX := Lib.hid ((Box3.new w 36 (.slice (some ⟨S, 0, none⟩) n cS) (.slice (some ⟨T, 0, none⟩) n cT) (.slice a d.waits.length c)).below ((Below.refl (w.heap.size + 1) _).alloc (by simp) (.cells #[.int .i64 0, .int .i64 0, .int .i64 0] 62)) (by omega))
  have HY0 := Lib.hid (Box3.new (w.alloc (.cells (refA S T n cS cT (.slice a d.waits.length c)) 36)) 62 (.int .i64 0) (.int .i64 0) (.int .i64 0))
  rw [World.size_alloc] at HY0
  obtain ⟨W0, hW0⟩ : ∃ W0, ((w.alloc (.cells (refA S T n cS cT (.slice a d.waits.length c)) 36)).alloc (.cells #[.int .i64 0, .int .i64 0, .int .i64 0] 62)) = W0 := ⟨_, rfl⟩
  have HX1 : Hid (Box3 W0 w.heap.size 36 (.slice (some ⟨S, 0, none⟩) n cS) (.slice (some ⟨T, 0, none⟩) n cT) (.slice a d.waits.length c)) := show Box3 _ _ _ _ _ _ by rw [← hW0]; exact HX.out
  have HY1 : Hid (Box3 W0 (w.heap.size + 1) 62 (.int .i64 0) (.int .i64 0) (.int .i64 0)) := show Box3 _ _ _ _ _ _ by rw [← hW0]; exact HY0.out
  have hz0 : W0.heap.size = w.heap.size + 2 := by rw [← hW0]; simp
  rw [hW0] at b0
  have hb1 : Below W0.heap.size W0 (W0.alloc (.cells #[.int .i64 (n : Nat), .int .i64 (d.waits.length : Nat), .int .i64 0] 62)) := (Below.refl _ _).alloc (Nat.le_refl _) _
  obtain ⟨c0, c1, c2, g0, g1, g2⟩ := HX1.out.cells
  have H := Lib.hid h
  have hm := h.most
  have HB0 := Lib.hid b0
  have HB1 := Lib.hid hb1
  clear h b0 HX HY0 hb1
  go_enter Tryd.func58, Tryd.ntmps58
  go_wp2_with fail
  clear hW0 c0 c1 c2 g0 g1 g2
  obtain ⟨W1, hW1⟩ : ∃ W1, W0.alloc (.cells #[.int .i64 (n : Nat), .int .i64 (d.waits.length : Nat), .int .i64 0] 62) = W1 := ⟨_, rfl⟩
  have HM1 : Hid (Box3 W1 (w.heap.size + 2) 62 (.int .i64 (n : Nat)) (.int .i64 (d.waits.length : Nat)) (.int .i64 (dirty d.seen d.stays 0 : Nat))) := show Box3 _ _ _ _ _ _ by rw [← hW1, ← hz0]; exact Box3.new W0 _ _ _ _
  have hz1 : W1.heap.size = w.heap.size + 3 := by rw [← hW1, World.size_alloc]; omega
  rw [hW1] at HB1
  rw [hW1]
  clear hW1
  have HBW := Lib.hid (HB0.out.trans (HB1.out.mono (by omega)))
  have HX2 := Lib.hid (HX1.out.below HB1.out (by omega))
  have HY2 := Lib.hid (HY1.out.below HB1.out (by omega))
  obtain ⟨N, hN⟩ : ∃ N, d.waits.length = N := ⟨_, rfl⟩
  have HN := Lib.hid hN
  simp only [hN] at HM1 hN2 HX2 ⊢
  clear hN
  go_loopw [4] (fun i wr => ∃ k : Nat, k ≤ n ∧ i = .int .i64 (k : Nat) ∧ Hid (Below (w.heap.size + 2) W1 wr) ∧ Hid (Box3 wr (w.heap.size + 2) 62 (.int .i64 (n : Nat)) (.int .i64 (N : Nat)) (.int .i64 (dirty d.seen d.stays k : Nat)))) (fun i _ => n - (intOf i).toNat)
  case atStart => exact ⟨0, by omega, rfl, Lib.hid (Below.refl _ _), HM1⟩
  case round =>
    obtain ⟨k, hk, rfl, HB, HM⟩ := hrel
    clear HM1
    have zb := HB.out.size
    have hX := HX2.out.below HB.out (by omega)
    obtain ⟨c0, c1, c2, -⟩ := hX.cells
    obtain ⟨m0, m1, m2, n0, n1, n2⟩ := HM.out.cells
    by_cases hlt : k < n
    · have hV := H.out.below (HBW.out.trans (HB.out.mono (by omega)))
      have hd : Below wr.heap.size wr wr.drew := Below.drew (Below.refl _ _)
      have hL := lineAt_length H.out.ok.seen hlt
      have hM := lineAt_length H.out.ok.stays hlt
      have HLX := Lib.hid (load_line Tryd.underlying48 rfl (by kernel_rfl) (hV.below hd).seen k hlt)
      have HLY := Lib.hid (load_line Tryd.underlying48 rfl (by kernel_rfl) (hV.below hd).stays k hlt)
      have HNE := neq_lineA (lineAt d.seen k) (lineAt d.stays k) hL hM
      have hdk := dirty_le d.seen d.stays k
      have HDS := Lib.hid (dirty_succ d.seen d.stays k)
      obtain ⟨X, hX'⟩ : ∃ X, (vals (lineAt d.seen k)).toArray = X := ⟨_, rfl⟩
      obtain ⟨Y, hY'⟩ : ∃ Y, (vals (lineAt d.stays k)).toArray = Y := ⟨_, rfl⟩
      obtain ⟨t, ht⟩ : ∃ t, (lineAt d.seen k == lineAt d.stays k) = t := ⟨_, rfl⟩
      rw [hX'] at HLX HNE
      rw [hY'] at HLY HNE
      rw [ht] at HNE
      have HTT := Lib.hid ht
      have HB2 : Hid ((lineAt d.seen k != lineAt d.stays k) = !t) := show _ = _ by rw [bne, HTT.out]
      have HBD := Lib.hid (HB.out.trans (hd.mono (by omega)))
      have HMD := Lib.hid (HM.out.below hd HM.out.lt)
      have k2 : (k : Int) < (n : Int) := by omega
      clear hX' hY' ht hL hM hV hX hd
      go_wp2_with fail
      refine wp_region_still_lit (by kernel_rfl) (by kernel_rfl) ?_
      still_step
      still_step
      still_step
      still_step
      refine wpStill_load_eq rfl 48 _ rfl _ _ rfl HLX.out ?_
      still_step
      still_step
      still_step
      still_step
      refine wpStill_load_eq rfl 48 _ rfl _ _ rfl HLY.out ?_
      still_step
      refine wpStill_nil ?_
      cases t with
      | true =>
        have HM3 : Hid (Box3 wr.drew (w.heap.size + 2) 62 (.int .i64 (n : Nat)) (.int .i64 (N : Nat)) (.int .i64 (dirty d.seen d.stays (k + 1) : Nat))) := show Box3 _ _ _ _ _ _ by rw [HDS.out, HB2.out]; exact HMD.out
        go_wp2_with fail
        go_roundw
        case rel => exact ⟨k + 1, by omega, by go_num, HBD, HM3⟩
        case measure => simp [intOf]; omega
      | false =>
        obtain ⟨q0, q1, q2, r0, r1, r2⟩ := HMD.out.cells
        have HM3 : Hid (Box3 (wr.drew.setCell ⟨w.heap.size + 2, 2, none⟩ (.int .i64 ((dirty d.seen d.stays k : Nat) + 1))) (w.heap.size + 2) 62 (.int .i64 (n : Nat)) (.int .i64 (N : Nat)) (.int .i64 (dirty d.seen d.stays (k + 1) : Nat))) := show Box3 _ _ _ _ _ _ by rw [HDS.out, HB2.out]; exact HMD.out.set2 _
        have HB3 := Lib.hid (HBD.out.setCell (p := ⟨w.heap.size + 2, 2, none⟩) (Nat.le_refl _) (.int .i64 ((dirty d.seen d.stays k : Nat) + 1)))
        go_wp2_with fail
        go_roundw
        case rel => exact ⟨k + 1, by omega, by go_num, HB3, HM3⟩
        case measure => simp [intOf]; omega
    · obtain rfl : k = n := by omega
      obtain ⟨e0, e1, e2, f0, f1, f2⟩ := (HY2.out.below HB.out (by omega)).cells
      have HBF := Lib.hid (HBW.out.trans (HB.out.mono (by omega)))
      clear hX
      go_wp2_with fail
      refine bodyPost_ret (v := .agg #[.int .i64 (k : Nat), .int .i64 (N : Nat), .int .i64 (dirty d.seen d.stays k : Nat)]) (by simp [results, Tryd.results58, go_sem, World.cell?_setCell_same', e0, e1, e2]) rfl ⟨by rw [HN.out], ?_⟩
      exact below_set3 HBF.out (by omega) _ _ _
end Go.Proofs.YtohdgjmmekgcmaaDoor

/-
  A call by both devices: what it asks, how they step; the call 4 (Fence).
-/
namespace Go.Proofs.YtohdgjmmekgcmaaDoor
open Go.RowKit Go.Shelf

/-- What a call asks. -/
structure Ask where
  what : Int
  at_ : Int
  line : Int
  word : Int
  from_ : Int
  marks : List Bool
/-- Its six cells. -/
abbrev askA (x : Ask) (m : Value) : Array Value := #[.int .i64 x.what, .int .i64 x.at_, .int .i64 x.line, .int .u64 x.word, .int .u64 x.from_, m]
/-- How a device steps. -/
def Dv.step (d : Dv) (n : Nat) (x : Ask) : Dv :=
  if x.what = 1 then d.store n x.at_ x.word else if x.what = 2 then d.swap n x.at_ x.from_ x.word else if x.what = 3 then d.flush n x.line else if x.what = 4 then d.fence else if x.what = 5 then d.evict n x.line else if x.what = 6 then d.crash x.marks else d
/-- F, and three more. -/
abbrev three (F : Nat → Prop) (s : Nat) (k : Nat) : Prop := F k ∨ (k = s ∨ k = s + 1 ∨ k = s + 1 + 1)
/-- How a call ends: the device is f, of the blocks F', the document's e. -/
def ActEnd (w : World) (F : Nat → Prop) (n : Nat) (f e : Dv) (good : Bool → Prop) (en : Ending) (w' : World) : Prop :=
  ∃ F' B S T cS cT q S' T' cS' cT' q' b, en = .returned (.tuple #[.pointer (some ⟨B, 0, none⟩), .agg (refA S' T' n cS' cT' q'), .bool b]) ∧ good b ∧ DevB w' F' B S T n cS cT q f ∧ RefV w' F' S' T' n cS' cT' q' e ∧ Turn F w w' ∧ ∀ k, F' k → F k ∨ w.heap.size ≤ k
/-- The three blocks of a call of act, laid. -/
theorem act_boxes (w : World) (x y z m : Value) (a : Ask) :
    Below w.heap.size w (((w.alloc (.cells #[x, y, z] 36)).alloc (.cells (askA a m) 26)).alloc (.cells #[.slice none 0 0, .slice none 0 0, .slice none 0 0] 36)) ∧
    (((w.alloc (.cells #[x, y, z] 36)).alloc (.cells (askA a m) 26)).alloc (.cells #[.slice none 0 0, .slice none 0 0, .slice none 0 0] 36)).heap.size = w.heap.size + 3 ∧
    Box3 (((w.alloc (.cells #[x, y, z] 36)).alloc (.cells (askA a m) 26)).alloc (.cells #[.slice none 0 0, .slice none 0 0, .slice none 0 0] 36)) w.heap.size 36 x y z ∧
    (((w.alloc (.cells #[x, y, z] 36)).alloc (.cells (askA a m) 26)).alloc (.cells #[.slice none 0 0, .slice none 0 0, .slice none 0 0] 36)).heap[w.heap.size + 1]? = some (.cells (askA a m) 26 (0, 0)) ∧
    Box3 (((w.alloc (.cells #[x, y, z] 36)).alloc (.cells (askA a m) 26)).alloc (.cells #[.slice none 0 0, .slice none 0 0, .slice none 0 0] 36)) (w.heap.size + 1 + 1) 36 (.slice none 0 0) (.slice none 0 0) (.slice none 0 0) := by
  refine ⟨(by repeat (first | exact Below.refl _ _ | assumption | refine Below.drew ?_ | refine below_drewN ?_ _ | refine Below.alloc ?_ (by (try simp) <;> omega) _ | refine Below.setCell ?_ (by (try simp) <;> omega) _ | refine Below.trans ?_ (Below.mono (by assumption) (by (try simp) <;> omega)))), by simp, ?_, ?_, ?_⟩
  · unfold Box3; (simp only [heap_at, World.size_alloc]; repeat (first | rw [if_pos (by omega)] | rw [if_neg (by omega)] | rw [if_pos trivial]))
  · (simp only [heap_at, World.size_alloc]; repeat (first | rw [if_pos (by omega)] | rw [if_neg (by omega)] | rw [if_pos trivial]))
  · unfold Box3; (simp only [heap_at, World.size_alloc]; repeat (first | rw [if_pos (by omega)] | rw [if_neg (by omega)] | rw [if_pos trivial]))
/-- What the body of act reads, in every world that turned in F alone. -/
structure ActR (w : World) (F : Nat → Prop) (x y z m : Value) (a : Ask) (W0 : World) : Prop where
  size : W0.heap.size = w.heap.size + 3
  below : Below w.heap.size w W0
  want : Box3 W0 w.heap.size 36 x y z
  ask : W0.heap[w.heap.size + 1]? = some (.cells (askA a m) 26 (0, 0))
  res : Box3 W0 (w.heap.size + 1 + 1) 36 (.slice none 0 0) (.slice none 0 0) (.slice none 0 0)
  live : ∀ k, F k → k < w.heap.size
section
variable {w W0 W : World} {F : Nat → Prop} {x y z m : Value} {a : Ask}
theorem ActR.at_ (h : ActR w F x y z m a W0) (ht : Turn F W0 W) : Box3 W w.heap.size 36 x y z ∧ W.heap[w.heap.size + 1]? = some (.cells (askA a m) 26 (0, 0)) ∧ Box3 W (w.heap.size + 1 + 1) 36 (.slice none 0 0) (.slice none 0 0) (.slice none 0 0) :=
  ⟨(ht.block _ h.want.lt (fun hk => by have := h.live _ hk; omega)).trans h.want, (ht.block _ (Array.getElem?_eq_some_iff.1 h.ask).1 (fun hk => by have := h.live _ hk; omega)).trans h.ask, (ht.block _ h.res.lt (fun hk => by have := h.live _ hk; omega)).trans h.res⟩
theorem ActR.cells (h : ActR w F x y z m a W0) (ht : Turn F W0 W) : W.cell? ⟨w.heap.size + 1, 0, none⟩ = some (.int .i64 a.what) ∧ W.cell? ⟨w.heap.size + 1, 1, none⟩ = some (.int .i64 a.at_) ∧ W.cell? ⟨w.heap.size + 1, 2, none⟩ = some (.int .i64 a.line) ∧
    W.cell? ⟨w.heap.size + 1, 3, none⟩ = some (.int .u64 a.word) ∧ W.cell? ⟨w.heap.size + 1, 4, none⟩ = some (.int .u64 a.from_) ∧ W.cell? ⟨w.heap.size + 1, 5, none⟩ = some m := by
  have := (h.at_ ht).2.1
  simp [World.cell?, this]
end
theorem turn_set3 (W : World) (b : Nat) (x y z : Value) : Turn (fun k => k = b) W (((W.setCell ⟨b, 0, none⟩ x).setCell ⟨b, 1, none⟩ y).setCell ⟨b, 2, none⟩ z) := ⟨rfl, rfl, rfl, by simp [World.setCell], fun k _ hk => heap_set3 W b k hk x y z⟩
/-- How a call ends well: the document's device comes last, and is laid into the result's cells. -/
theorem ActR.ends {w W0 w1 w2 : World} {F : Nat → Prop} {x y z m : Value} {a : Ask} (h : ActR w F x y z m a W0) {n : Nat} {f e : Dv} {good : Bool → Prop} {F' : Nat → Prop} {B S T cS cT : Nat} {q : Value} {S' T' cS' cT' : Nat} {qa : Option Addr} {ql qc : Nat} {b : Bool}
    (ht1 : Turn F W0 w1) (hF' : ∀ k, F' k → F k ∨ W0.heap.size ≤ k) (hd : DevB w1 F' B S T n cS cT q f) (hb2 : Below w1.heap.size w1 w2) (hv : RefV w2 (three F' w.heap.size) S' T' n cS' cT' (.slice qa ql qc) e) (hg : good b) :
    ActEnd w F n f e good (.returned (.tuple #[.pointer (some ⟨B, 0, none⟩), .agg (refA S' T' n cS' cT' (.slice qa ql qc)), .bool b])) (((w2.setCell ⟨w.heap.size + 1 + 1, 0, none⟩ (.slice (some ⟨S', 0, none⟩) n cS')).setCell ⟨w.heap.size + 1 + 1, 1, none⟩ (.slice (some ⟨T', 0, none⟩) n cT')).setCell ⟨w.heap.size + 1 + 1, 2, none⟩ (.slice qa ql qc)) := by
  have z0 := h.size
  have nF : ¬ F' (w.heap.size + 1 + 1) := fun hk => by
    rcases hF' _ hk with hk | hk
    · have := h.live _ hk; omega
    · omega
  refine ⟨F', B, S, T, cS, cT, q, S', T', cS', cT', _, b, rfl, hg, ?_, ?_, ?_, fun k hk => (hF' k hk).imp id fun hk => by omega⟩
  · exact (hd.below hb2).keeps (fun k hk _ => heap_set3 _ _ k (fun e => nF (by rw [← e]; exact hk)) _ _ _) (by simp [World.setCell])
  · exact (hv.keeps fun k hk _ => heap_set3 _ _ k (fun e => hk (.inr (.inr (.inr e)))) _ _ _).weak fun k hk => .inl hk
  · refine Turn.tail (((Turn.of_below h.below (Nat.le_refl _)).trans ht1).trans (Turn.of_below hb2 (Nat.le_refl _))) (turn_set3 w2 (w.heap.size + 1 + 1) _ _ _) (fun k hk => by omega)
set_option maxRecDepth 100000 in
set_option maxHeartbeats 1000000 in
theorem act_fence {F : Nat → Prop} {B S T n cS cT S' T' cS' cT' : Nat} {q q' m : Value} {d e : Dv} (x : Ask) (hx : x.what = 4) (w : World) (h : DevB w F B S T n cS cT q d) (hv : RefV w F S' T' n cS' cT' q' e) (hm1 : ∃ ma k mc, m = .slice ma k mc) :
    Calls Tryd.prog 15 #[.pointer (some ⟨B, 0, none⟩), .agg (refA S' T' n cS' cT' q'), .agg (askA x m)] w (ActEnd w F n (d.step n x) (e.step n x) (fun b => b = true)) := by
  obtain ⟨a, c, rfl⟩ := hv.waits.slice_n
  obtain ⟨ma, mk, mc, rfl⟩ := hm1
  obtain ⟨b0, z0, bW, bA, bR⟩ := act_boxes w (.slice (some ⟨S', 0, none⟩) n cS') (.slice (some ⟨T', 0, none⟩) n cT') (.slice a e.waits.length c) (.slice ma mk mc) x
  obtain ⟨W0, hW0⟩ : ∃ W0, (((w.alloc (.cells (refA S' T' n cS' cT' (.slice a e.waits.length c)) 36)).alloc (.cells (askA x (.slice ma mk mc)) 26)).alloc (.cells #[.slice none 0 0, .slice none 0 0, .slice none 0 0] 36)) = W0 := ⟨_, rfl⟩
  have HA : Hid (ActR w F (.slice (some ⟨S', 0, none⟩) n cS') (.slice (some ⟨T', 0, none⟩) n cT') (.slice a e.waits.length c) (.slice ma mk mc) x W0) := show ActR _ _ _ _ _ _ _ _ from by
    rw [← hW0]; exact ⟨z0, b0, bW, bA, bR, h.live⟩
  obtain ⟨k0, k1, k2, k3, k4, k5⟩ := HA.out.cells (Turn.refl _ _)
  rw [hx] at k0
  have HD := Lib.hid (h.below HA.out.below)
  have HV := Lib.hid ((hv.wide (fun k => k = w.heap.size ∨ k = w.heap.size + 1 ∨ k = w.heap.size + 1 + 1) (fun k hk => by omega)).below HA.out.below)
  have HL := Lib.hid h.live
  have HSD : Hid (d.step n x = d.fence) := show _ = _ by unfold Dv.step; simp [hx]
  have HSE : Hid (e.step n x = e.fence) := show _ = _ by unfold Dv.step; simp [hx]
  have HFE := Lib.hid (fence_any W0 HD.out)
  clear h hv b0 z0 bW bA bR hx
  go_enter Tryd.func15, Tryd.ntmps15
  go_wp2_with fail
  refine HFE.out.mono ?_
  rintro en w1 ⟨rfl, ht1, q1, hd1⟩
  obtain ⟨hw1, ha1, hr1⟩ := HA.out.at_ ht1
  obtain ⟨c0, c1, c2, -⟩ := hw1.cells
  have HF3 : Hid (∀ k, three F w.heap.size k → k < w1.heap.size) := show ∀ k, _ from fun k hk => by
    have := ht1.size
    have := HA.out.size
    rcases hk with hk | hk | hk | hk
    · have := HL.out k hk; omega
    · omega
    · omega
    · omega
  have HRF := Lib.hid (refFence_any (F := three F w.heap.size) w1 HF3.out (HV.out.turn (ht1.mono fun k hk => .inl hk)))
  have HR1 := Lib.hid hr1
  have HT1 := Lib.hid ht1
  have HD1 := Lib.hid hd1
  clear hW0 k0 k1 k2 k3 k4 k5 hw1 ha1 hr1 ht1 hd1
  go_wp2_with fail
  refine HRF.out.mono ?_
  rintro en w2 ⟨hb2, T2, cT2, rfl, hv2⟩
  obtain ⟨e0, e1, e2, f0, f1, f2⟩ := (HR1.out.below hb2 HR1.out.lt).cells
  have HB2 := Lib.hid hb2
  have HV2 := Lib.hid hv2
  clear hb2 hv2
  have HNM := Lib.hid (num4_any 0 w2)
  go_wp2_with fail
  refine HNM.out.mono ?_
  rintro en w3 ⟨rfl, rfl⟩
  go_wp2_with fail
  refine bodyPost_ret (v := .tuple #[.pointer (some ⟨B, 0, none⟩), .agg (refA S' T2 n cS' cT2 (.slice none 0 0)), .bool true]) (by simp [results, Tryd.results15, go_sem, World.cell?_setCell_same', e0, e1, e2]) rfl ?_
  rw [HSD.out, HSE.out]
  exact HA.out.ends HT1.out (fun k hk => .inl hk) HD1.out HB2.out HV2.out rfl
end Go.Proofs.YtohdgjmmekgcmaaDoor

/-
  A call by both devices: the call 1 (Store).
-/
namespace Go.Proofs.YtohdgjmmekgcmaaDoor
open Go.RowKit Go.Shelf

set_option maxRecDepth 100000 in
set_option maxHeartbeats 1000000 in
theorem act_store {F : Nat → Prop} {B S T n cS cT S' T' cS' cT' : Nat} {q q' m : Value} {d e : Dv} (x : Ask) (hx : x.what = 1) (hi1 : -9223372036854775808 ≤ x.at_) (hi2 : x.at_ ≤ 9223372036854775807) (w : World) (hen : Ends w) (h : DevB w F B S T n cS cT q d) (hv : RefV w F S' T' n cS' cT' q' e) (hm1 : ∃ ma k mc, m = .slice ma k mc) :
    Calls Tryd.prog 15 #[.pointer (some ⟨B, 0, none⟩), .agg (refA S' T' n cS' cT' q'), .agg (askA x m)] w (ActEnd w F n (d.step n x) (e.step n x) (fun b => b = true)) := by
  obtain ⟨a, c, rfl⟩ := hv.waits.slice_n
  obtain ⟨ma, mk, mc, rfl⟩ := hm1
  obtain ⟨b0, z0, bW, bA, bR⟩ := act_boxes w (.slice (some ⟨S', 0, none⟩) n cS') (.slice (some ⟨T', 0, none⟩) n cT') (.slice a e.waits.length c) (.slice ma mk mc) x
  obtain ⟨W0, hW0⟩ : ∃ W0, (((w.alloc (.cells (refA S' T' n cS' cT' (.slice a e.waits.length c)) 36)).alloc (.cells (askA x (.slice ma mk mc)) 26)).alloc (.cells #[.slice none 0 0, .slice none 0 0, .slice none 0 0] 36)) = W0 := ⟨_, rfl⟩
  have HA : Hid (ActR w F (.slice (some ⟨S', 0, none⟩) n cS') (.slice (some ⟨T', 0, none⟩) n cT') (.slice a e.waits.length c) (.slice ma mk mc) x W0) := show ActR _ _ _ _ _ _ _ _ from by
    rw [← hW0]; exact ⟨z0, b0, bW, bA, bR, h.live⟩
  obtain ⟨k0, k1, k2, k3, k4, k5⟩ := HA.out.cells (Turn.refl _ _)
  rw [hx] at k0
  have HD := Lib.hid (h.below HA.out.below)
  have HV := Lib.hid ((hv.wide (fun k => k = w.heap.size ∨ k = w.heap.size + 1 ∨ k = w.heap.size + 1 + 1) (fun k hk => by omega)).below HA.out.below)
  have HL := Lib.hid h.live
  have HSD : Hid (d.step n x = d.store n x.at_ x.word) := show _ = _ by unfold Dv.step; simp [hx]
  have HSE : Hid (e.step n x = e.store n x.at_ x.word) := show _ = _ by unfold Dv.step; simp [hx]
  have HE0 := Lib.hid (hen.below HA.out.below hen.room)
  have HFE := Lib.hid (store_any x.at_ x.word W0 HE0.out HD.out)
  clear hen h hv b0 z0 bW bA bR hx
  go_enter Tryd.func15, Tryd.ntmps15
  go_wp2_with fail
  refine HFE.out.mono ?_
  rintro en w1 ⟨rfl, ht1, hd1⟩
  obtain ⟨hw1, ha1, hr1⟩ := HA.out.at_ ht1
  obtain ⟨k0, k1, k2, k3, k4, k5⟩ := HA.out.cells ht1
  obtain ⟨c0, c1, c2, -⟩ := hw1.cells
  have HF3 : Hid (∀ k, three F w.heap.size k → k < w1.heap.size) := show ∀ k, _ from fun k hk => by
    have := ht1.size
    have := HA.out.size
    rcases hk with hk | hk | hk | hk
    · have := HL.out k hk; omega
    · omega
    · omega
    · omega
  have HRF := Lib.hid (refStore_any (F := three F w.heap.size) x.at_ x.word hi1 hi2 w1 HF3.out (HV.out.turn (ht1.mono fun k hk => .inl hk)))
  have HR1 := Lib.hid hr1
  have HT1 := Lib.hid ht1
  have HD1 := Lib.hid hd1
  clear hW0 hw1 ha1 hr1 ht1 hd1
  go_wp2_with fail
  refine HRF.out.mono ?_
  rintro en w2 ⟨hb2, S2, cS2, rfl, hv2⟩
  have HB2 := Lib.hid hb2
  have HV2 := Lib.hid hv2
  clear hb2 hv2 c0 c1 c2 k0 k1 k2 k3 k4 k5
  obtain ⟨r, hr⟩ : ∃ r, errR (inR (n * 8) x.at_) = r := ⟨_, rfl⟩
  rw [hr]
  clear hr
  go_wp2_with fail
  have hb3 : Below w2.heap.size w2 (w2.alloc (.cells (refA S2 T' n cS2 cT' (.slice a e.waits.length c)) 36)).drew := Below.drew ((Below.refl _ _).alloc (Nat.le_refl _) _)
  have hX3 : Box3 (w2.alloc (.cells (refA S2 T' n cS2 cT' (.slice a e.waits.length c)) 36)).drew w2.heap.size 36 (.slice (some ⟨S2, 0, none⟩) n cS2) (.slice (some ⟨T', 0, none⟩) n cT') (.slice a e.waits.length c) := Box3.new w2 _ _ _ _
  have hz2 := HB2.out.size
  have hz1 := HT1.out.size
  have hz0 := HA.out.size
  have hr3 := (HR1.out.below HB2.out HR1.out.lt).below hb3 (by omega)
  have hk3 := hX3.cells
  have HX3 := Lib.hid hX3
  have HR3 := Lib.hid hr3
  have HB3 := Lib.hid (HB2.out.trans (hb3.mono hz2))
  have HV3 := Lib.hid (HV2.out.below hb3)
  have hR : (fun W : World => W.cell? ⟨w2.heap.size, 0, none⟩ = some (.slice (some ⟨S2, 0, none⟩) n cS2) ∧ W.cell? ⟨w2.heap.size, 1, none⟩ = some (.slice (some ⟨T', 0, none⟩) n cT') ∧ W.cell? ⟨w2.heap.size, 2, none⟩ = some (.slice a e.waits.length c)) (w2.alloc (.cells (refA S2 T' n cS2 cT' (.slice a e.waits.length c)) 36)).drew := ⟨hk3.1, hk3.2.1, hk3.2.2.1⟩
  have hR6 : (fun W : World => W.cell? ⟨w2.heap.size, 0, none⟩ = some (.slice (some ⟨S2, 0, none⟩) n cS2) ∧ W.cell? ⟨w2.heap.size, 1, none⟩ = some (.slice (some ⟨T', 0, none⟩) n cT') ∧ W.cell? ⟨w2.heap.size, 2, none⟩ = some (.slice a e.waits.length c)) ((((w2.alloc (.cells (refA S2 T' n cS2 cT' (.slice a e.waits.length c)) 36)).drew.setCell ⟨w.heap.size + 1 + 1, 0, none⟩ (.slice (some ⟨S2, 0, none⟩) n cS2)).setCell ⟨w.heap.size + 1 + 1, 1, none⟩ (.slice (some ⟨T', 0, none⟩) n cT')).setCell ⟨w.heap.size + 1 + 1, 2, none⟩ (.slice a e.waits.length c)) := by
    have hx6 : Box3 ((((w2.alloc (.cells (refA S2 T' n cS2 cT' (.slice a e.waits.length c)) 36)).drew.setCell ⟨w.heap.size + 1 + 1, 0, none⟩ (.slice (some ⟨S2, 0, none⟩) n cS2)).setCell ⟨w.heap.size + 1 + 1, 1, none⟩ (.slice (some ⟨T', 0, none⟩) n cT')).setCell ⟨w.heap.size + 1 + 1, 2, none⟩ (.slice a e.waits.length c)) w2.heap.size 36 (.slice (some ⟨S2, 0, none⟩) n cS2) (.slice (some ⟨T', 0, none⟩) n cT') (.slice a e.waits.length c) := (heap_set3 _ _ w2.heap.size (by omega) _ _ _).trans hX3
    exact ⟨hx6.cells.1, hx6.cells.2.1, hx6.cells.2.2.1⟩
  obtain ⟨e0, e1, e2, f0, f1, f2⟩ := (show Box3 (w2.alloc (.cells #[.slice (some ⟨S2, 0, none⟩) n cS2, .slice (some ⟨T', 0, none⟩) n cT', .slice a e.waits.length c] 36)) (w.heap.size + 1 + 1) 36 (.slice none 0 0) (.slice none 0 0) (.slice none 0 0) from hr3).cells
  clear hb3 hX3 hr3 hk3
  refine wp_region_M 8 (fun W : World => W.cell? ⟨w2.heap.size, 0, none⟩ = some (.slice (some ⟨S2, 0, none⟩) n cS2) ∧ W.cell? ⟨w2.heap.size, 1, none⟩ = some (.slice (some ⟨T', 0, none⟩) n cT') ∧ W.cell? ⟨w2.heap.size, 2, none⟩ = some (.slice a e.waits.length c)) (by kernel_rfl) ?_
  (refine wpAnyM_take (i := 0) (v := ?_) rfl (by kernel_rfl) (by kernel_rfl) (fun _ _ _ h => h) (Or.inl ⟨by rfl, ?_⟩) hR ?_; rotate_left; (focus (intro w hSw; (try dsimp only at hSw); go_simp; (try with_reducible rfl))); (try simp only [put_laws])); (refine wpAnyM_take (i := 1) (v := ?_) rfl (by kernel_rfl) (by kernel_rfl) (fun _ _ _ h => h) (Or.inl ⟨by rfl, ?_⟩) hR ?_; rotate_left; (focus (intro w hSw; (try dsimp only at hSw); go_simp; (try with_reducible rfl))); (try simp only [put_laws])); (refine wpAnyM_take (i := 2) (v := ?_) rfl (by kernel_rfl) (by kernel_rfl) (fun _ _ _ h => h) (Or.inl ⟨by rfl, ?_⟩) hR ?_; rotate_left; (focus (intro w hSw; (try dsimp only at hSw); go_simp; (try with_reducible rfl))); (try simp only [put_laws])); (refine wpAnyM_take (i := 4) (v := ?_) rfl (by kernel_rfl) (by kernel_rfl) (fun _ _ _ h => h) (Or.inl ⟨by rfl, ?_⟩) hR ?_; rotate_left; (focus (intro w hSw; (try dsimp only at hSw); go_simp; (try with_reducible rfl))); (try simp only [put_laws]))
  (refine wpAnyM_one (i := 3) rfl (by kernel_rfl) (fun K hK => ?_); rw [if_pos (by rfl)]; (try simp only [elem_laws]))
  go_simp
  refine (num4_any _ _).mono ?_
  rintro en w5 ⟨rfl, rfl⟩
  refine hK _ _ (fun _ => hR) ?_
  clear hK K
  (try simp only [put_laws])
  (refine wpAnyM_take (i := 5) (v := ?_) rfl (by kernel_rfl) (by kernel_rfl) (fun _ _ _ h => h) (Or.inl ⟨by rfl, ?_⟩) hR ?_; rotate_left; (focus (intro w hSw; (try dsimp only at hSw); go_simp; (try with_reducible rfl))); (try simp only [put_laws]))
  (refine wpAnyM_one (i := 6) rfl (by kernel_rfl) (fun K hK => ?_); rw [if_pos (by rfl)]; (try simp only [elem_laws]))
  go_simp
  refine hK _ _ (fun _ => hR) ?_
  clear hK K
  (try simp only [put_laws])
  (refine wpAnyM_one (i := 7) rfl (by kernel_rfl) (fun K hK => ?_); rw [if_pos (by rfl)]; (try simp only [elem_laws]))
  go_simp
  refine hK _ _ (fun _ => hR6) ?_
  clear hK K hR
  (try simp only [put_laws])
  (refine wpAnyM_last rfl (by kernel_rfl) (fun K hK => ?_); rw [if_pos (by rfl)]; (try simp only [elem_laws]))
  go_simp
  refine hK _ _ ?_
  clear hK K hR6
  (try simp only [put_laws])
  refine wpAnyM_done (by kernel_rfl) ?_ _
  go_wp2_with fail
  refine bodyPost_ret (v := .tuple #[.pointer (some ⟨B, 0, none⟩), .agg (refA S2 T' n cS2 cT' (.slice a e.waits.length c)), .bool true]) (by simp [results, Tryd.results15, go_sem, World.cell?_setCell_same', e0, e1, e2]) rfl ?_
  rw [HSD.out, HSE.out]
  exact HA.out.ends HT1.out (fun k hk => .inl hk) HD1.out HB3.out HV3.out rfl
end Go.Proofs.YtohdgjmmekgcmaaDoor

/-
  A call by both devices: the call 5 (Evict).
-/
namespace Go.Proofs.YtohdgjmmekgcmaaDoor
open Go.RowKit Go.Shelf

set_option maxRecDepth 100000 in
set_option maxHeartbeats 1000000 in
theorem act_evict {F : Nat → Prop} {B S T n cS cT S' T' cS' cT' : Nat} {q q' m : Value} {d e : Dv} (x : Ask) (hx : x.what = 5) (w : World) (h : DevB w F B S T n cS cT q d) (hv : RefV w F S' T' n cS' cT' q' e) (hm1 : ∃ ma k mc, m = .slice ma k mc) :
    Calls Tryd.prog 15 #[.pointer (some ⟨B, 0, none⟩), .agg (refA S' T' n cS' cT' q'), .agg (askA x m)] w (ActEnd w F n (d.step n x) (e.step n x) (fun b => b = true)) := by
  obtain ⟨a, c, rfl⟩ := hv.waits.slice_n
  obtain ⟨ma, mk, mc, rfl⟩ := hm1
  obtain ⟨b0, z0, bW, bA, bR⟩ := act_boxes w (.slice (some ⟨S', 0, none⟩) n cS') (.slice (some ⟨T', 0, none⟩) n cT') (.slice a e.waits.length c) (.slice ma mk mc) x
  obtain ⟨W0, hW0⟩ : ∃ W0, (((w.alloc (.cells (refA S' T' n cS' cT' (.slice a e.waits.length c)) 36)).alloc (.cells (askA x (.slice ma mk mc)) 26)).alloc (.cells #[.slice none 0 0, .slice none 0 0, .slice none 0 0] 36)) = W0 := ⟨_, rfl⟩
  have HA : Hid (ActR w F (.slice (some ⟨S', 0, none⟩) n cS') (.slice (some ⟨T', 0, none⟩) n cT') (.slice a e.waits.length c) (.slice ma mk mc) x W0) := show ActR _ _ _ _ _ _ _ _ from by
    rw [← hW0]; exact ⟨z0, b0, bW, bA, bR, h.live⟩
  obtain ⟨k0, k1, k2, k3, k4, k5⟩ := HA.out.cells (Turn.refl _ _)
  rw [hx] at k0
  have HD := Lib.hid (h.below HA.out.below)
  have HV := Lib.hid ((hv.wide (fun k => k = w.heap.size ∨ k = w.heap.size + 1 ∨ k = w.heap.size + 1 + 1) (fun k hk => by omega)).below HA.out.below)
  have HL := Lib.hid h.live
  have HSD : Hid (d.step n x = d.evict n x.line) := show _ = _ by unfold Dv.step; simp [hx]
  have HSE : Hid (e.step n x = e.evict n x.line) := show _ = _ by unfold Dv.step; simp [hx]
  have HFE := Lib.hid (evict_any x.line W0 HD.out)
  clear h hv b0 z0 bW bA bR hx
  go_enter Tryd.func15, Tryd.ntmps15
  go_wp2_with fail
  refine HFE.out.mono ?_
  rintro en w1 ⟨rfl, ht1, q1, hd1⟩
  obtain ⟨hw1, ha1, hr1⟩ := HA.out.at_ ht1
  obtain ⟨k0, k1, k2, k3, k4, k5⟩ := HA.out.cells ht1
  obtain ⟨c0, c1, c2, -⟩ := hw1.cells
  have HF3 : Hid (∀ k, three F w.heap.size k → k < w1.heap.size) := show ∀ k, _ from fun k hk => by
    have := ht1.size
    have := HA.out.size
    rcases hk with hk | hk | hk | hk
    · have := HL.out k hk; omega
    · omega
    · omega
    · omega
  have HRF := Lib.hid (refEvict_any (F := three F w.heap.size) x.line w1 HF3.out (HV.out.turn (ht1.mono fun k hk => .inl hk)))
  have HR1 := Lib.hid hr1
  have HT1 := Lib.hid ht1
  have HD1 := Lib.hid hd1
  clear hW0 hw1 ha1 hr1 ht1 hd1
  go_wp2_with fail
  refine HRF.out.mono ?_
  rintro en w2 ⟨hb2, T2, cT2, qq, rfl, hv2⟩
  obtain ⟨qa, qc, rfl⟩ := hv2.waits.slice_n
  obtain ⟨ql, hql⟩ : ∃ ql, (e.evict n x.line).waits.length = ql := ⟨_, rfl⟩
  simp only [hql] at hv2 ⊢
  have HB2 := Lib.hid hb2
  have HV2 := Lib.hid hv2
  clear hb2 hv2 c0 c1 c2 k0 k1 k2 k3 k4 k5
  obtain ⟨r, hr⟩ : ∃ r, errR (inR n x.line) = r := ⟨_, rfl⟩
  rw [hr]
  clear hr
  go_wp2_with fail
  have hb3 : Below w2.heap.size w2 (w2.alloc (.cells (refA S' T2 n cS' cT2 (.slice qa ql qc)) 36)).drew := Below.drew ((Below.refl _ _).alloc (Nat.le_refl _) _)
  have hX3 : Box3 (w2.alloc (.cells (refA S' T2 n cS' cT2 (.slice qa ql qc)) 36)).drew w2.heap.size 36 (.slice (some ⟨S', 0, none⟩) n cS') (.slice (some ⟨T2, 0, none⟩) n cT2) (.slice qa ql qc) := Box3.new w2 _ _ _ _
  have hz2 := HB2.out.size
  have hz1 := HT1.out.size
  have hz0 := HA.out.size
  have hr3 := (HR1.out.below HB2.out HR1.out.lt).below hb3 (by omega)
  have hk3 := hX3.cells
  have HX3 := Lib.hid hX3
  have HR3 := Lib.hid hr3
  have HB3 := Lib.hid (HB2.out.trans (hb3.mono hz2))
  have HV3 := Lib.hid (HV2.out.below hb3)
  have hR : (fun W : World => W.cell? ⟨w2.heap.size, 0, none⟩ = some (.slice (some ⟨S', 0, none⟩) n cS') ∧ W.cell? ⟨w2.heap.size, 1, none⟩ = some (.slice (some ⟨T2, 0, none⟩) n cT2) ∧ W.cell? ⟨w2.heap.size, 2, none⟩ = some (.slice qa ql qc)) (w2.alloc (.cells (refA S' T2 n cS' cT2 (.slice qa ql qc)) 36)).drew := ⟨hk3.1, hk3.2.1, hk3.2.2.1⟩
  have hR6 : (fun W : World => W.cell? ⟨w2.heap.size, 0, none⟩ = some (.slice (some ⟨S', 0, none⟩) n cS') ∧ W.cell? ⟨w2.heap.size, 1, none⟩ = some (.slice (some ⟨T2, 0, none⟩) n cT2) ∧ W.cell? ⟨w2.heap.size, 2, none⟩ = some (.slice qa ql qc)) ((((w2.alloc (.cells (refA S' T2 n cS' cT2 (.slice qa ql qc)) 36)).drew.setCell ⟨w.heap.size + 1 + 1, 0, none⟩ (.slice (some ⟨S', 0, none⟩) n cS')).setCell ⟨w.heap.size + 1 + 1, 1, none⟩ (.slice (some ⟨T2, 0, none⟩) n cT2)).setCell ⟨w.heap.size + 1 + 1, 2, none⟩ (.slice qa ql qc)) := by
    have hx6 : Box3 ((((w2.alloc (.cells (refA S' T2 n cS' cT2 (.slice qa ql qc)) 36)).drew.setCell ⟨w.heap.size + 1 + 1, 0, none⟩ (.slice (some ⟨S', 0, none⟩) n cS')).setCell ⟨w.heap.size + 1 + 1, 1, none⟩ (.slice (some ⟨T2, 0, none⟩) n cT2)).setCell ⟨w.heap.size + 1 + 1, 2, none⟩ (.slice qa ql qc)) w2.heap.size 36 (.slice (some ⟨S', 0, none⟩) n cS') (.slice (some ⟨T2, 0, none⟩) n cT2) (.slice qa ql qc) := (heap_set3 _ _ w2.heap.size (by omega) _ _ _).trans hX3
    exact ⟨hx6.cells.1, hx6.cells.2.1, hx6.cells.2.2.1⟩
  obtain ⟨e0, e1, e2, f0, f1, f2⟩ := (show Box3 (w2.alloc (.cells #[.slice (some ⟨S', 0, none⟩) n cS', .slice (some ⟨T2, 0, none⟩) n cT2, .slice qa ql qc] 36)) (w.heap.size + 1 + 1) 36 (.slice none 0 0) (.slice none 0 0) (.slice none 0 0) from hr3).cells
  clear hb3 hX3 hr3 hk3
  refine wp_region_M 8 (fun W : World => W.cell? ⟨w2.heap.size, 0, none⟩ = some (.slice (some ⟨S', 0, none⟩) n cS') ∧ W.cell? ⟨w2.heap.size, 1, none⟩ = some (.slice (some ⟨T2, 0, none⟩) n cT2) ∧ W.cell? ⟨w2.heap.size, 2, none⟩ = some (.slice qa ql qc)) (by kernel_rfl) ?_
  (refine wpAnyM_take (i := 0) (v := ?_) rfl (by kernel_rfl) (by kernel_rfl) (fun _ _ _ h => h) (Or.inl ⟨by rfl, ?_⟩) hR ?_; rotate_left; (focus (intro w hSw; (try dsimp only at hSw); go_simp; (try with_reducible rfl))); (try simp only [put_laws])); (refine wpAnyM_take (i := 1) (v := ?_) rfl (by kernel_rfl) (by kernel_rfl) (fun _ _ _ h => h) (Or.inl ⟨by rfl, ?_⟩) hR ?_; rotate_left; (focus (intro w hSw; (try dsimp only at hSw); go_simp; (try with_reducible rfl))); (try simp only [put_laws])); (refine wpAnyM_take (i := 2) (v := ?_) rfl (by kernel_rfl) (by kernel_rfl) (fun _ _ _ h => h) (Or.inl ⟨by rfl, ?_⟩) hR ?_; rotate_left; (focus (intro w hSw; (try dsimp only at hSw); go_simp; (try with_reducible rfl))); (try simp only [put_laws])); (refine wpAnyM_take (i := 4) (v := ?_) rfl (by kernel_rfl) (by kernel_rfl) (fun _ _ _ h => h) (Or.inl ⟨by rfl, ?_⟩) hR ?_; rotate_left; (focus (intro w hSw; (try dsimp only at hSw); go_simp; (try with_reducible rfl))); (try simp only [put_laws]))
  (refine wpAnyM_one (i := 3) rfl (by kernel_rfl) (fun K hK => ?_); rw [if_pos (by rfl)]; (try simp only [elem_laws]))
  go_simp
  refine (num4_any _ _).mono ?_
  rintro en w5 ⟨rfl, rfl⟩
  refine hK _ _ (fun _ => hR) ?_
  clear hK K
  (try simp only [put_laws])
  (refine wpAnyM_take (i := 5) (v := ?_) rfl (by kernel_rfl) (by kernel_rfl) (fun _ _ _ h => h) (Or.inl ⟨by rfl, ?_⟩) hR ?_; rotate_left; (focus (intro w hSw; (try dsimp only at hSw); go_simp; (try with_reducible rfl))); (try simp only [put_laws]))
  (refine wpAnyM_one (i := 6) rfl (by kernel_rfl) (fun K hK => ?_); rw [if_pos (by rfl)]; (try simp only [elem_laws]))
  go_simp
  refine hK _ _ (fun _ => hR) ?_
  clear hK K
  (try simp only [put_laws])
  (refine wpAnyM_one (i := 7) rfl (by kernel_rfl) (fun K hK => ?_); rw [if_pos (by rfl)]; (try simp only [elem_laws]))
  go_simp
  refine hK _ _ (fun _ => hR6) ?_
  clear hK K hR
  (try simp only [put_laws])
  (refine wpAnyM_last rfl (by kernel_rfl) (fun K hK => ?_); rw [if_pos (by rfl)]; (try simp only [elem_laws]))
  go_simp
  refine hK _ _ ?_
  clear hK K hR6
  (try simp only [put_laws])
  refine wpAnyM_done (by kernel_rfl) ?_ _
  go_wp2_with fail
  refine bodyPost_ret (v := .tuple #[.pointer (some ⟨B, 0, none⟩), .agg (refA S' T2 n cS' cT2 (.slice qa ql qc)), .bool true]) (by simp [results, Tryd.results15, go_sem, World.cell?_setCell_same', e0, e1, e2]) rfl ?_
  rw [HSD.out, HSE.out]
  exact HA.out.ends HT1.out (fun k hk => .inl hk) HD1.out HB3.out HV3.out rfl
end Go.Proofs.YtohdgjmmekgcmaaDoor

/-
  A call by both devices: the call 3 (Flush).
-/
namespace Go.Proofs.YtohdgjmmekgcmaaDoor
open Go.RowKit Go.Shelf

set_option maxRecDepth 100000 in
set_option maxHeartbeats 1000000 in
theorem act_flush {F : Nat → Prop} {B S T n cS cT S' T' cS' cT' : Nat} {q q' m : Value} {d e : Dv} (x : Ask) (hx : x.what = 3) (w : World) (h : DevB w F B S T n cS cT q d) (hv : RefV w F S' T' n cS' cT' q' e) (hm1 : ∃ ma k mc, m = .slice ma k mc) :
    Calls Tryd.prog 15 #[.pointer (some ⟨B, 0, none⟩), .agg (refA S' T' n cS' cT' q'), .agg (askA x m)] w (ActEnd w F n (d.step n x) (e.step n x) (fun b => b = true)) := by
  obtain ⟨a, c, rfl⟩ := hv.waits.slice_n
  obtain ⟨ma, mk, mc, rfl⟩ := hm1
  obtain ⟨b0, z0, bW, bA, bR⟩ := act_boxes w (.slice (some ⟨S', 0, none⟩) n cS') (.slice (some ⟨T', 0, none⟩) n cT') (.slice a e.waits.length c) (.slice ma mk mc) x
  obtain ⟨W0, hW0⟩ : ∃ W0, (((w.alloc (.cells (refA S' T' n cS' cT' (.slice a e.waits.length c)) 36)).alloc (.cells (askA x (.slice ma mk mc)) 26)).alloc (.cells #[.slice none 0 0, .slice none 0 0, .slice none 0 0] 36)) = W0 := ⟨_, rfl⟩
  have HA : Hid (ActR w F (.slice (some ⟨S', 0, none⟩) n cS') (.slice (some ⟨T', 0, none⟩) n cT') (.slice a e.waits.length c) (.slice ma mk mc) x W0) := show ActR _ _ _ _ _ _ _ _ from by
    rw [← hW0]; exact ⟨z0, b0, bW, bA, bR, h.live⟩
  obtain ⟨k0, k1, k2, k3, k4, k5⟩ := HA.out.cells (Turn.refl _ _)
  rw [hx] at k0
  have HD := Lib.hid (h.below HA.out.below)
  have HV := Lib.hid ((hv.wide (fun k => k = w.heap.size ∨ k = w.heap.size + 1 ∨ k = w.heap.size + 1 + 1) (fun k hk => by omega)).below HA.out.below)
  have HL := Lib.hid h.live
  have HSD : Hid (d.step n x = d.flush n x.line) := show _ = _ by unfold Dv.step; simp [hx]
  have HSE : Hid (e.step n x = e.flush n x.line) := show _ = _ by unfold Dv.step; simp [hx]
  have HFE := Lib.hid (flush_any x.line W0 HD.out)
  clear h hv b0 z0 bW bA bR hx
  go_enter Tryd.func15, Tryd.ntmps15
  go_wp2_with fail
  refine HFE.out.mono ?_
  rintro en w1 ⟨rfl, ht1, q1, hd1⟩
  obtain ⟨hw1, ha1, hr1⟩ := HA.out.at_ ht1
  obtain ⟨k0, k1, k2, k3, k4, k5⟩ := HA.out.cells ht1
  obtain ⟨c0, c1, c2, -⟩ := hw1.cells
  have HF3 : Hid (∀ k, three (more F W0 w1) w.heap.size k → k < w1.heap.size) := show ∀ k, _ from fun k hk => by
    have := ht1.size
    have := HA.out.size
    rcases hk with (hk | hk) | hk | hk | hk
    · have := HL.out k hk; omega
    · exact hk.2
    · omega
    · omega
    · omega
  have hvw : RefV w1 (three (more F W0 w1) w.heap.size) S' T' n cS' cT' (.slice a e.waits.length c) e := by
    refine RefV.weak (F' := fun k => (F k ∨ k = w.heap.size ∨ k = w.heap.size + 1 ∨ k = w.heap.size + 1 + 1) ∨ (W0.heap.size ≤ k ∧ k < w1.heap.size)) ?_ ?_
    · exact (HV.out.wide (fun k => W0.heap.size ≤ k ∧ k < w1.heap.size) (fun k hk => hk.1)).turn (ht1.mono fun k hk => .inl (.inl hk))
    · rintro k ((hk | hk) | hk)
      · exact .inl (.inl hk)
      · exact .inr hk
      · exact .inl (.inr hk)
  have HRF := Lib.hid (refFlush_any (F := three (more F W0 w1) w.heap.size) x.line w1 HF3.out hvw)
  have HR1 := Lib.hid hr1
  have HT1 := Lib.hid ht1
  have HD1 := Lib.hid hd1
  clear hW0 hw1 ha1 hr1 ht1 hd1 hvw
  go_wp2_with fail
  refine HRF.out.mono ?_
  rintro en w2 ⟨hb2, qq, rfl, hv2⟩
  obtain ⟨qa, qc, rfl⟩ := hv2.waits.slice_n
  obtain ⟨ql, hql⟩ : ∃ ql, (e.flush n x.line).waits.length = ql := ⟨_, rfl⟩
  simp only [hql] at hv2 ⊢
  have HB2 := Lib.hid hb2
  have HV2 := Lib.hid hv2
  clear hb2 hv2 c0 c1 c2 k0 k1 k2 k3 k4 k5
  obtain ⟨r, hr⟩ : ∃ r, errR (inR n x.line) = r := ⟨_, rfl⟩
  rw [hr]
  clear hr
  go_wp2_with fail
  have hb3 : Below w2.heap.size w2 (w2.alloc (.cells (refA S' T' n cS' cT' (.slice qa ql qc)) 36)).drew := Below.drew ((Below.refl _ _).alloc (Nat.le_refl _) _)
  have hX3 : Box3 (w2.alloc (.cells (refA S' T' n cS' cT' (.slice qa ql qc)) 36)).drew w2.heap.size 36 (.slice (some ⟨S', 0, none⟩) n cS') (.slice (some ⟨T', 0, none⟩) n cT') (.slice qa ql qc) := Box3.new w2 _ _ _ _
  have hz2 := HB2.out.size
  have hz1 := HT1.out.size
  have hz0 := HA.out.size
  have hr3 := (HR1.out.below HB2.out HR1.out.lt).below hb3 (by omega)
  have hk3 := hX3.cells
  have HX3 := Lib.hid hX3
  have HR3 := Lib.hid hr3
  have HB3 := Lib.hid (HB2.out.trans (hb3.mono hz2))
  have HV3 := Lib.hid (HV2.out.below hb3)
  have hR : (fun W : World => W.cell? ⟨w2.heap.size, 0, none⟩ = some (.slice (some ⟨S', 0, none⟩) n cS') ∧ W.cell? ⟨w2.heap.size, 1, none⟩ = some (.slice (some ⟨T', 0, none⟩) n cT') ∧ W.cell? ⟨w2.heap.size, 2, none⟩ = some (.slice qa ql qc)) (w2.alloc (.cells (refA S' T' n cS' cT' (.slice qa ql qc)) 36)).drew := ⟨hk3.1, hk3.2.1, hk3.2.2.1⟩
  have hR6 : (fun W : World => W.cell? ⟨w2.heap.size, 0, none⟩ = some (.slice (some ⟨S', 0, none⟩) n cS') ∧ W.cell? ⟨w2.heap.size, 1, none⟩ = some (.slice (some ⟨T', 0, none⟩) n cT') ∧ W.cell? ⟨w2.heap.size, 2, none⟩ = some (.slice qa ql qc)) ((((w2.alloc (.cells (refA S' T' n cS' cT' (.slice qa ql qc)) 36)).drew.setCell ⟨w.heap.size + 1 + 1, 0, none⟩ (.slice (some ⟨S', 0, none⟩) n cS')).setCell ⟨w.heap.size + 1 + 1, 1, none⟩ (.slice (some ⟨T', 0, none⟩) n cT')).setCell ⟨w.heap.size + 1 + 1, 2, none⟩ (.slice qa ql qc)) := by
    have hx6 : Box3 ((((w2.alloc (.cells (refA S' T' n cS' cT' (.slice qa ql qc)) 36)).drew.setCell ⟨w.heap.size + 1 + 1, 0, none⟩ (.slice (some ⟨S', 0, none⟩) n cS')).setCell ⟨w.heap.size + 1 + 1, 1, none⟩ (.slice (some ⟨T', 0, none⟩) n cT')).setCell ⟨w.heap.size + 1 + 1, 2, none⟩ (.slice qa ql qc)) w2.heap.size 36 (.slice (some ⟨S', 0, none⟩) n cS') (.slice (some ⟨T', 0, none⟩) n cT') (.slice qa ql qc) := (heap_set3 _ _ w2.heap.size (by omega) _ _ _).trans hX3
    exact ⟨hx6.cells.1, hx6.cells.2.1, hx6.cells.2.2.1⟩
  obtain ⟨e0, e1, e2, f0, f1, f2⟩ := (show Box3 (w2.alloc (.cells #[.slice (some ⟨S', 0, none⟩) n cS', .slice (some ⟨T', 0, none⟩) n cT', .slice qa ql qc] 36)) (w.heap.size + 1 + 1) 36 (.slice none 0 0) (.slice none 0 0) (.slice none 0 0) from hr3).cells
  clear hb3 hX3 hr3 hk3
  refine wp_region_M 8 (fun W : World => W.cell? ⟨w2.heap.size, 0, none⟩ = some (.slice (some ⟨S', 0, none⟩) n cS') ∧ W.cell? ⟨w2.heap.size, 1, none⟩ = some (.slice (some ⟨T', 0, none⟩) n cT') ∧ W.cell? ⟨w2.heap.size, 2, none⟩ = some (.slice qa ql qc)) (by kernel_rfl) ?_
  (refine wpAnyM_take (i := 0) (v := ?_) rfl (by kernel_rfl) (by kernel_rfl) (fun _ _ _ h => h) (Or.inl ⟨by rfl, ?_⟩) hR ?_; rotate_left; (focus (intro w hSw; (try dsimp only at hSw); go_simp; (try with_reducible rfl))); (try simp only [put_laws])); (refine wpAnyM_take (i := 1) (v := ?_) rfl (by kernel_rfl) (by kernel_rfl) (fun _ _ _ h => h) (Or.inl ⟨by rfl, ?_⟩) hR ?_; rotate_left; (focus (intro w hSw; (try dsimp only at hSw); go_simp; (try with_reducible rfl))); (try simp only [put_laws])); (refine wpAnyM_take (i := 2) (v := ?_) rfl (by kernel_rfl) (by kernel_rfl) (fun _ _ _ h => h) (Or.inl ⟨by rfl, ?_⟩) hR ?_; rotate_left; (focus (intro w hSw; (try dsimp only at hSw); go_simp; (try with_reducible rfl))); (try simp only [put_laws])); (refine wpAnyM_take (i := 4) (v := ?_) rfl (by kernel_rfl) (by kernel_rfl) (fun _ _ _ h => h) (Or.inl ⟨by rfl, ?_⟩) hR ?_; rotate_left; (focus (intro w hSw; (try dsimp only at hSw); go_simp; (try with_reducible rfl))); (try simp only [put_laws]))
  (refine wpAnyM_one (i := 3) rfl (by kernel_rfl) (fun K hK => ?_); rw [if_pos (by rfl)]; (try simp only [elem_laws]))
  go_simp
  refine (num4_any _ _).mono ?_
  rintro en w5 ⟨rfl, rfl⟩
  refine hK _ _ (fun _ => hR) ?_
  clear hK K
  (try simp only [put_laws])
  (refine wpAnyM_take (i := 5) (v := ?_) rfl (by kernel_rfl) (by kernel_rfl) (fun _ _ _ h => h) (Or.inl ⟨by rfl, ?_⟩) hR ?_; rotate_left; (focus (intro w hSw; (try dsimp only at hSw); go_simp; (try with_reducible rfl))); (try simp only [put_laws]))
  (refine wpAnyM_one (i := 6) rfl (by kernel_rfl) (fun K hK => ?_); rw [if_pos (by rfl)]; (try simp only [elem_laws]))
  go_simp
  refine hK _ _ (fun _ => hR) ?_
  clear hK K
  (try simp only [put_laws])
  (refine wpAnyM_one (i := 7) rfl (by kernel_rfl) (fun K hK => ?_); rw [if_pos (by rfl)]; (try simp only [elem_laws]))
  go_simp
  refine hK _ _ (fun _ => hR6) ?_
  clear hK K hR
  (try simp only [put_laws])
  (refine wpAnyM_last rfl (by kernel_rfl) (fun K hK => ?_); rw [if_pos (by rfl)]; (try simp only [elem_laws]))
  go_simp
  refine hK _ _ ?_
  clear hK K hR6
  (try simp only [put_laws])
  refine wpAnyM_done (by kernel_rfl) ?_ _
  go_wp2_with fail
  refine bodyPost_ret (v := .tuple #[.pointer (some ⟨B, 0, none⟩), .agg (refA S' T' n cS' cT' (.slice qa ql qc)), .bool true]) (by simp [results, Tryd.results15, go_sem, World.cell?_setCell_same', e0, e1, e2]) rfl ?_
  rw [HSD.out, HSE.out]
  exact HA.out.ends HT1.out (fun k hk => hk.imp id fun h => h.1) HD1.out HB3.out HV3.out rfl
end Go.Proofs.YtohdgjmmekgcmaaDoor

/-
  A call by both devices: the call 6 (Crash).
-/
namespace Go.Proofs.YtohdgjmmekgcmaaDoor
open Go.RowKit Go.Shelf

set_option maxRecDepth 100000 in
set_option maxHeartbeats 1000000 in
theorem act_crash {F : Nat → Prop} {B S T n cS cT S' T' cS' cT' : Nat} {q q' m : Value} {d e : Dv} (x : Ask) (hx : x.what = 6) (w : World) (h : DevB w F B S T n cS cT q d) (hv : RefV w F S' T' n cS' cT' q' e) (hmk : x.marks.length ≤ 100000) (hsl : SlB w F m x.marks) :
    Calls Tryd.prog 15 #[.pointer (some ⟨B, 0, none⟩), .agg (refA S' T' n cS' cT' q'), .agg (askA x m)] w (ActEnd w F n (d.step n x) (e.step n x) (fun b => b = true)) := by
  obtain ⟨a, c, rfl⟩ := hv.waits.slice_n
  obtain ⟨ma, mc, hm0, -⟩ := id hsl
  obtain ⟨mk, hmk2⟩ : ∃ mk, x.marks.length = mk := ⟨_, rfl⟩
  rw [hmk2] at hm0
  subst hm0
  obtain ⟨b0, z0, bW, bA, bR⟩ := act_boxes w (.slice (some ⟨S', 0, none⟩) n cS') (.slice (some ⟨T', 0, none⟩) n cT') (.slice a e.waits.length c) (.slice ma mk mc) x
  obtain ⟨W0, hW0⟩ : ∃ W0, (((w.alloc (.cells (refA S' T' n cS' cT' (.slice a e.waits.length c)) 36)).alloc (.cells (askA x (.slice ma mk mc)) 26)).alloc (.cells #[.slice none 0 0, .slice none 0 0, .slice none 0 0] 36)) = W0 := ⟨_, rfl⟩
  have HA : Hid (ActR w F (.slice (some ⟨S', 0, none⟩) n cS') (.slice (some ⟨T', 0, none⟩) n cT') (.slice a e.waits.length c) (.slice ma mk mc) x W0) := show ActR _ _ _ _ _ _ _ _ from by
    rw [← hW0]; exact ⟨z0, b0, bW, bA, bR, h.live⟩
  obtain ⟨k0, k1, k2, k3, k4, k5⟩ := HA.out.cells (Turn.refl _ _)
  rw [hx] at k0
  have HD := Lib.hid (h.below HA.out.below)
  have HV := Lib.hid ((hv.wide (fun k => k = w.heap.size ∨ k = w.heap.size + 1 ∨ k = w.heap.size + 1 + 1) (fun k hk => by omega)).below HA.out.below)
  have HL := Lib.hid h.live
  have HSD : Hid (d.step n x = d.crash x.marks) := show _ = _ by unfold Dv.step; simp [hx]
  have HSE : Hid (e.step n x = e.crash x.marks) := show _ = _ by unfold Dv.step; simp [hx]
  have hsl0 : SlB W0 F (.slice ma mk mc) x.marks := hsl.turn (Turn.of_below HA.out.below (Nat.le_refl _))
  have HSL := Lib.hid hsl0
  have HSW := Lib.hid hsl
  have HFE := Lib.hid (crash_any x.marks hmk W0 HD.out HSL.out)
  have HMK := Lib.hid hmk
  clear h hv b0 z0 bW bA bR hx hsl hsl0 hmk hmk2
  go_enter Tryd.func15, Tryd.ntmps15
  go_wp2_with fail
  refine HFE.out.mono ?_
  rintro en w1 ⟨rfl, ht1, q1, hd1⟩
  obtain ⟨hw1, ha1, hr1⟩ := HA.out.at_ ht1
  obtain ⟨c0, c1, c2, -⟩ := hw1.cells
  obtain ⟨k0', k1', k2', k3', k4', k5'⟩ := HA.out.cells ht1
  have HF3 : Hid (∀ k, three F w.heap.size k → k < w1.heap.size) := show ∀ k, _ from fun k hk => by
    have := ht1.size
    have := HA.out.size
    rcases hk with hk | hk | hk | hk
    · have := HL.out k hk; omega
    · omega
    · omega
    · omega
  have hsl1 : SlB w1 (three F w.heap.size) (.slice ma mk mc) x.marks := by
    obtain ⟨a1, c1, e1, h1⟩ := HSW.out
    refine ⟨a1, c1, e1, fun h0 => ?_⟩
    obtain ⟨b, off, ha, hb, hF, hj⟩ := h1 h0
    have htw : Turn F w w1 := (Turn.of_below HA.out.below (Nat.le_refl _)).trans ht1
    refine ⟨b, off, ha, Nat.lt_of_lt_of_le hb htw.size, ?_, fun j hl => (World.cell?_of_block (a := ⟨b, off + j, none⟩) (htw.block b hb hF)).trans (hj j hl)⟩
    rintro (hk | hk | hk | hk)
    · exact hF hk
    · omega
    · omega
    · omega
  have HRF := Lib.hid (refCrash_any (F := three F w.heap.size) x.marks HMK.out (.slice ma mk mc) w1 HF3.out (HV.out.turn (ht1.mono fun k hk => .inl hk)) hsl1)
  have HR1 := Lib.hid hr1
  have HT1 := Lib.hid ht1
  have HD1 := Lib.hid hd1
  clear hW0 k0 k1 k2 k3 k4 k5 hsl1 hw1 ha1 hr1 ht1 hd1
  go_wp2_with fail
  refine HRF.out.mono ?_
  rintro en w2 ⟨hb2, S2, cS2, T2, cT2, rfl, hv2⟩
  obtain ⟨e0, e1, e2, f0, f1, f2⟩ := (HR1.out.below hb2 HR1.out.lt).cells
  have HB2 := Lib.hid hb2
  have HV2 := Lib.hid hv2
  clear hb2 hv2
  have HNM := Lib.hid (num4_any 0 w2)
  go_wp2_with fail
  refine HNM.out.mono ?_
  rintro en w3 ⟨rfl, rfl⟩
  go_wp2_with fail
  refine bodyPost_ret (v := .tuple #[.pointer (some ⟨B, 0, none⟩), .agg (refA S2 T2 n cS2 cT2 (.slice none 0 0)), .bool true]) (by simp [results, Tryd.results15, go_sem, World.cell?_setCell_same', e0, e1, e2]) rfl ?_
  rw [HSD.out, HSE.out]
  exact HA.out.ends HT1.out (fun k hk => .inl hk) HD1.out HB2.out HV2.out rfl
end Go.Proofs.YtohdgjmmekgcmaaDoor
