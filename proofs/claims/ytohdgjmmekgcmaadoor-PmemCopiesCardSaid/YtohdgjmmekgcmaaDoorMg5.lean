/-
  Texts PmG to PmK, as one.
-/
import Derived.Test.YtohdgjmmekgcmaaDoorMg4
/-
  pmem: Store, Swap.
-/
namespace Go.Proofs.YtohdgjmmekgcmaaDoor
open Go.RowKit Go.Shelf

section
variable {W W' : World} {F : Nat → Prop} {B S T n cS cT : Nat} {q : Value} {d : Dv}
theorem DevB.ne (h : DevB W F B S T n cS cT q d) : B ≠ S ∧ B ≠ T := by
  have hB := h.dev
  have hS := h.seen.2
  have hT := h.stays.2
  refine ⟨?_, ?_⟩
  · rintro rfl
    rcases hS with ⟨e, _⟩ | ⟨g, cap, cur, e, _, hg, _⟩
    · cases e
    · simp only [Value.slice.injEq, Option.some.injEq, Addr.mk.injEq, and_true, true_and] at e
      obtain ⟨rfl, rfl⟩ := e
      rw [hB] at hg
      simp at hg
  · rintro rfl
    rcases hT with ⟨e, _⟩ | ⟨g, cap, cur, e, _, hg, _⟩
    · cases e
    · simp only [Value.slice.injEq, Option.some.injEq, Addr.mk.injEq, and_true, true_and] at e
      obtain ⟨rfl, rfl⟩ := e
      rw [hB] at hg
      simp at hg
/-- What waits lies in neither, nor in the device's own block. -/
theorem DevB.wait_ne (h : DevB W F B S T n cS cT q d) : (∃ ad, q = .slice (some ad) 0 0) ∨ ∀ g, q.ownBlock = some g → g ≠ B ∧ g ≠ S ∧ g ≠ T := by
  rcases h.waits with ⟨_, _, ad, rfl⟩ | hq
  · exact .inl ⟨ad, rfl⟩
  · refine .inr fun g hg => ?_
    rcases hq.2 with ⟨rfl, _⟩ | ⟨g', cap, cur, rfl, _, hgg, _⟩
    · cases hg
    · simp only [Value.ownBlock, Option.some.injEq] at hg
      subst hg
      have hB := h.dev
      have hS := h.seen.2
      have hT := h.stays.2
      refine ⟨?_, ?_, ?_⟩
      · rintro rfl
        rw [hB] at hgg
        simp at hgg
      · rintro rfl
        rcases hS with ⟨e, _⟩ | ⟨g, cap, cur, e, _, hg, _⟩
        · cases e
        · simp only [Value.slice.injEq, Option.some.injEq, Addr.mk.injEq, and_true, true_and] at e
          obtain ⟨rfl, rfl⟩ := e
          rw [hg] at hgg
          simp at hgg
      · rintro rfl
        rcases hT with ⟨e, _⟩ | ⟨g, cap, cur, e, _, hg, _⟩
        · cases e
        · simp only [Value.slice.injEq, Option.some.injEq, Addr.mk.injEq, and_true, true_and] at e
          obtain ⟨rfl, rfl⟩ := e
          rw [hg] at hgg
          simp at hgg
theorem GrowV.turn {W W' : World} {e : TypeId} {size : Nat} {v : Value} {n : Nat} {xs : List Value} {p : Nat → Prop} (h : GrowV W e size v n xs) (hp : (∃ ad, v = .slice (some ad) 0 0) ∨ ∀ g, v.ownBlock = some g → ¬ p g) (ht : Turn p W W') : GrowV W' e size v n xs := by
  refine h.keeps (F := fun k => ¬ p k) hp fun k hk hl => ht.block k hl hk
/-- Another seen. -/
theorem DevB.set_seen {ws : List Int} (h : DevB W F B S T n cS cT q d) (ht : Turn (fun k => k = S) W W') (ho : W'.ownsRow 0 110 8 (.slice (some ⟨S, 0, none⟩) n cS) n (vals ws)) : DevB W' F B S T n cS cT q { d with seen := ws } :=
  ⟨⟨by have := ho.1; rw [vals_length] at this; exact this, h.ok.stays, h.ok.waits, h.ok.apart⟩, h.pos, h.most, (ht.block B h.lt.1 h.ne.1).trans h.dev, ho, own_keeps h.stays (fun hl => ht.block T hl (fun e => h.apart e.symm)),
    h.waits.turn (h.wait_ne.imp id fun f g hg => (f g hg).2.1) ht, h.apart, h.inB, h.inS, h.inT, h.inQ, h.far, fun k hk => Nat.lt_of_lt_of_le (h.live k hk) ht.size⟩
theorem DevB.set_stays {ws : List Int} (h : DevB W F B S T n cS cT q d) (ht : Turn (fun k => k = T) W W') (ho : W'.ownsRow 0 110 8 (.slice (some ⟨T, 0, none⟩) n cT) n (vals ws)) : DevB W' F B S T n cS cT q { d with stays := ws } :=
  ⟨⟨h.ok.seen, by have := ho.1; rw [vals_length] at this; exact this, h.ok.waits, h.ok.apart⟩, h.pos, h.most, (ht.block B h.lt.1 h.ne.2).trans h.dev, own_keeps h.seen (fun hl => ht.block S hl h.apart), ho,
    h.waits.turn (h.wait_ne.imp id fun f g hg => (f g hg).2.2) ht, h.apart, h.inB, h.inS, h.inT, h.inQ, h.far, fun k hk => Nat.lt_of_lt_of_le (h.live k hk) ht.size⟩
end
theorem store_any {F : Nat → Prop} {B S T n cS cT : Nat} {q : Value} {d : Dv} (i x : Int) (w : World) (ht : Ends w) (h : DevB w F B S T n cS cT q d) :
    Calls Tryd.prog 22 #[.pointer (some ⟨B, 0, none⟩), .int .i64 i, .int .u64 x] w fun e w' => e = .returned (.int .i64 (errR (inR (n * 8) i))) ∧ Turn F w w' ∧ DevB w' F B S T n cS cT q (d.store n i x) := by
  have hz := ht.room
  have HF := Lib.hid (find_any i w ht h)
  have HD := Lib.hid h; clear h ht
  cases hr : inR (n * 8) i with
  | true =>
    have HO := Lib.hid (show findOut n i = .tuple #[.agg #[.int .i64 (i.toNat / 8 : Nat), .int .i64 (i.toNat % 8 : Nat)], .int .i64 0] by unfold findOut; rw [hr]; rfl)
    have HL := Lib.hid (show d.store n i x = { d with seen := d.seen.set (i.toNat / 8 * 8 + i.toNat % 8) x } by unfold Dv.store; rw [hr, if_pos rfl, show i.toNat / 8 * 8 + i.toNat % 8 = i.toNat by omega])
    rw [inR_iff] at hr
    obtain ⟨j, hj⟩ : ∃ j, i.toNat / 8 = j := ⟨_, rfl⟩
    obtain ⟨v, hv⟩ : ∃ v, i.toNat % 8 = v := ⟨_, rfl⟩
    have hj1 : j < n := by omega
    have hv1 : v < 8 := by omega
    rw [hj, hv] at HO HL
    clear hj hv
    go_enter Tryd.func22, Tryd.ntmps22
    go_wp2_with fail
    refine wp_scope_forward 0 rfl ?_
    go_wp2_with fail
    refine HF.out.mono ?_
    rintro e w1 ⟨rfl, hb⟩
    have z1 := hb.size
    rw [HO.out]
    have HD1 := HD.out.below hb
    go_wp2_with fail
    have j1 := Box2.new w1 121 (j : Int) (v : Int)
    have b1 : Below w.heap.size w (w1.alloc (.cells #[.int .i64 (j : Int), .int .i64 (v : Int)] 121)) := (by repeat (first | exact Below.refl _ _ | assumption | refine Below.drew ?_ | refine below_drewN ?_ _ | refine Below.alloc ?_ (by (try simp) <;> omega) _ | refine Below.setCell ?_ (by (try simp) <;> omega) _ | refine Below.trans ?_ (Below.mono (by assumption) (by (try simp) <;> omega))))
    have HD2 := HD1.below ((Below.refl _ _).alloc (Nat.le_refl _) (.cells #[.int .i64 (j : Int), .int .i64 (v : Int)] 121))
    obtain ⟨wq, hwq⟩ : ∃ wq, w1.alloc (.cells #[.int .i64 (j : Int), .int .i64 (v : Int)] 121) = wq := ⟨_, rfl⟩
    rw [hwq] at j1 b1 HD2
    rw [hwq]
    clear hwq HD1 hb
    have hlS := HD2.lt.2.1
    have hSw := HD.out.lt.2.1
    have HN := Lib.hid HD2.ne.1
    have HS := Lib.hid (fun W (tq : Turn (fun k => k = S) wq W) => And.intro ((cell_of_row W B 0 _ _ _ ((tq.block B HD2.lt.1 HD2.ne.1).trans HD2.dev)).trans rfl) (And.intro (Box2.cell0 (t := 121) (l := j) (v := v) ((tq.block _ j1.lt (by omega)).trans j1)) (Box2.cell1 (t := 121) (l := j) (v := v) ((tq.block _ j1.lt (by omega)).trans j1))))
    have bq : Below wq.heap.size wq wq := Below.refl _ _
    have tq : Turn (fun k => k = S) wq wq := Turn.refl _ _
    have c0 := HD2.cell0
    have d0 := j1.cell0
    have d1 := j1.cell1
    have hlB := HD2.lt.1
    have hl1 := j1.lt
    have HDD := Lib.hid HD2
    clear HD2 j1
    go_region_held3 (fun w' => w'.cell? ⟨B, 0, none⟩ = some (.slice (some ⟨S, 0, none⟩) n cS) ∧ w'.cell? ⟨w1.heap.size, 0, none⟩ = some (.int .i64 (j : Int)) ∧ w'.cell? ⟨w1.heap.size, 1, none⟩ = some (.int .i64 (v : Int))) (exact HS.out _ (tq.trans (Turn.of_below (by repeat (first | exact Below.refl _ _ | assumption | refine Below.drew ?_ | refine below_drewN ?_ _ | refine Below.alloc ?_ (by (try simp) <;> omega) _ | refine Below.setCell ?_ (by (try simp) <;> omega) _ | refine Below.trans ?_ (Below.mono (by assumption) (by (try simp) <;> omega)))) (Nat.le_refl _))))
      (first | (go_at_call 62; refine (put_any j v x hj1 hv1 _ (HDD.out.row_below (by repeat (first | exact Below.refl _ _ | assumption | refine Below.drew ?_ | refine below_drewN ?_ _ | refine Below.alloc ?_ (by (try simp) <;> omega) _ | refine Below.setCell ?_ (by (try simp) <;> omega) _ | refine Below.trans ?_ (Below.mono (by assumption) (by (try simp) <;> omega))))).1).mono ?_; rintro e wA ⟨⟨u, rfl⟩, tA, oA⟩; have tq : Turn (fun k => k = S) wq wA := (Turn.of_below (by repeat (first | exact Below.refl _ _ | assumption | refine Below.drew ?_ | refine below_drewN ?_ _ | refine Below.alloc ?_ (by (try simp) <;> omega) _ | refine Below.setCell ?_ (by (try simp) <;> omega) _ | refine Below.trans ?_ (Below.mono (by assumption) (by (try simp) <;> omega)))) (Nat.le_refl _)).trans tA; clear tA))
    all_goals
      go_wp2_with fail
      go_step3
      go_wp2
      rw [Exit.jump_ret]
      go_ret
      refine ⟨rfl, ?_, ?_⟩
      · exact (Turn.of_below b1 (Nat.le_refl _)).trans (tq.mono (fun k e => by rw [e]; exact HD.out.inS))
      · rw [HL.out]; exact HDD.out.set_seen tq oA
  | false =>
    have HO := Lib.hid (show findOut n i = .tuple #[.agg #[.int .i64 0, .int .i64 0], .int .i64 4] by unfold findOut; rw [hr]; rfl)
    have HL := Lib.hid (show d.store n i x = d by unfold Dv.store; rw [hr]; rfl)
    go_enter Tryd.func22, Tryd.ntmps22
    go_wp2_with fail
    refine wp_scope_forward 0 rfl ?_
    go_wp2_with fail
    refine HF.out.mono ?_
    rintro e w1 ⟨rfl, hb⟩
    have z1 := hb.size
    rw [HO.out]
    go_wp2_with fail
    go_step3
    refine ⟨rfl, ?_⟩
    go_wp2
    rw [Exit.jump_ret]
    go_ret
    have hb2 : Below w.heap.size w (w1.alloc (.cells #[.int .i64 0, .int .i64 0] 121)) := (by repeat (first | exact Below.refl _ _ | assumption | refine Below.drew ?_ | refine below_drewN ?_ _ | refine Below.alloc ?_ (by (try simp) <;> omega) _ | refine Below.setCell ?_ (by (try simp) <;> omega) _ | refine Below.trans ?_ (Below.mono (by assumption) (by (try simp) <;> omega))))
    exact ⟨rfl, Turn.of_below hb2 (Nat.le_refl _), by rw [HL.out]; exact HD.out.below hb2⟩
def Dv.swaps (d : Dv) (n : Nat) (i a : Int) : Bool := inR (n * 8) i && decide (d.load n i = a)
def Dv.swap (d : Dv) (n : Nat) (i a b : Int) : Dv := if d.swaps n i a then d.store n i b else d
theorem Dv.Ok.swap {n : Nat} {d : Dv} (h : d.Ok n) (i a b : Int) : (d.swap n i a b).Ok n := by
  unfold Dv.swap
  split
  · exact h.store _ _
  · exact h
theorem swap_yes {F : Nat → Prop} {B S T n cS cT : Nat} {q : Value} {d : Dv} (i a x : Int) (w : World) (ht : Ends w) (h : DevB w F B S T n cS cT q d) (hr : inR (n * 8) i = true) (hw : d.load n i = a) :
    Calls Tryd.prog 23 #[.pointer (some ⟨B, 0, none⟩), .int .i64 i, .int .u64 a, .int .u64 x] w fun e w' => e = .returned (.tuple #[.bool (d.swaps n i a), .int .i64 (errR (inR (n * 8) i))]) ∧ Turn F w w' ∧ DevB w' F B S T n cS cT q (d.swap n i a x) := by
    have hz := ht.room
    have HF := Lib.hid (find_any i w ht h)
    have HD := Lib.hid h; clear h ht
    rw [hr]
    have HO := Lib.hid (show findOut n i = .tuple #[.agg #[.int .i64 (i.toNat / 8 : Nat), .int .i64 (i.toNat % 8 : Nat)], .int .i64 0] by unfold findOut; rw [hr]; rfl)
    have HL := Lib.hid (show d.swap n i a x = { d with seen := d.seen.set (i.toNat / 8 * 8 + i.toNat % 8) x } by unfold Dv.swap Dv.swaps; rw [hr, decide_eq_true hw]; unfold Dv.store; rw [hr, if_pos rfl]; simp only [Bool.and_self, if_true]; rw [show i.toNat / 8 * 8 + i.toNat % 8 = i.toNat by omega])
    have hw2 : d.seen[i.toNat / 8 * 8 + i.toNat % 8]?.getD 0 = a := by unfold Dv.load at hw; rw [hr, if_pos rfl] at hw; rw [show i.toNat / 8 * 8 + i.toNat % 8 = i.toNat by omega]; exact hw
    have HSW := Lib.hid (show d.swaps n i a = true by unfold Dv.swaps; rw [hr, decide_eq_true hw]; rfl)
    clear hw
    rw [inR_iff] at hr
    obtain ⟨j, hj⟩ : ∃ j, i.toNat / 8 = j := ⟨_, rfl⟩
    obtain ⟨v, hv⟩ : ∃ v, i.toNat % 8 = v := ⟨_, rfl⟩
    have hj1 : j < n := by omega
    have hv1 : v < 8 := by omega
    rw [hj, hv] at HO HL hw2
    clear hj hv
    go_enter Tryd.func23, Tryd.ntmps23
    go_wp2_with fail
    refine wp_scope_forward 0 rfl ?_
    go_wp2_with fail
    refine HF.out.mono ?_
    rintro e w1 ⟨rfl, hb⟩
    have z1 := hb.size
    rw [HO.out]
    have HD1 := HD.out.below hb
    go_wp2_with fail
    have j1 := Box2.new w1 121 (j : Int) (v : Int)
    have b1 : Below w.heap.size w (w1.alloc (.cells #[.int .i64 (j : Int), .int .i64 (v : Int)] 121)) := (by repeat (first | exact Below.refl _ _ | assumption | refine Below.drew ?_ | refine below_drewN ?_ _ | refine Below.alloc ?_ (by (try simp) <;> omega) _ | refine Below.setCell ?_ (by (try simp) <;> omega) _ | refine Below.trans ?_ (Below.mono (by assumption) (by (try simp) <;> omega))))
    have HD2 := HD1.below ((Below.refl _ _).alloc (Nat.le_refl _) (.cells #[.int .i64 (j : Int), .int .i64 (v : Int)] 121))
    obtain ⟨wq, hwq⟩ : ∃ wq, w1.alloc (.cells #[.int .i64 (j : Int), .int .i64 (v : Int)] 121) = wq := ⟨_, rfl⟩
    rw [hwq] at j1 b1 HD2
    rw [hwq]
    clear hwq HD1 hb
    have hlS := HD2.lt.2.1
    have hSw := HD.out.lt.2.1
    have HN := Lib.hid HD2.ne.1
    have HS := Lib.hid (fun W (tq : Turn (fun k => k = S) wq W) => And.intro ((cell_of_row W B 0 _ _ _ ((tq.block B HD2.lt.1 HD2.ne.1).trans HD2.dev)).trans rfl) (And.intro (Box2.cell0 (t := 121) (l := j) (v := v) ((tq.block _ j1.lt (by omega)).trans j1)) (Box2.cell1 (t := 121) (l := j) (v := v) ((tq.block _ j1.lt (by omega)).trans j1))))
    have bq : Below wq.heap.size wq wq := Below.refl _ _
    have tq : Turn (fun k => k = S) wq wq := Turn.refl _ _
    have c0 := HD2.cell0
    have d0 := j1.cell0
    have d1 := j1.cell1
    have hlB := HD2.lt.1
    have hl1 := j1.lt
    have HDD := Lib.hid HD2
    clear HD2 j1
    obtain ⟨W0, hW0⟩ : ∃ W0, d.seen[j * 8 + v]?.getD 0 = W0 := ⟨_, rfl⟩
    rw [hW0] at hw2
    have HW0 := Lib.hid hW0
    clear hW0
    subst hw2
    go_region_held3 (fun w' => w'.cell? ⟨B, 0, none⟩ = some (.slice (some ⟨S, 0, none⟩) n cS) ∧ w'.cell? ⟨w1.heap.size, 0, none⟩ = some (.int .i64 (j : Int)) ∧ w'.cell? ⟨w1.heap.size, 1, none⟩ = some (.int .i64 (v : Int))) (exact HS.out _ (tq.trans (Turn.of_below (by repeat (first | exact Below.refl _ _ | assumption | refine Below.drew ?_ | refine below_drewN ?_ _ | refine Below.alloc ?_ (by (try simp) <;> omega) _ | refine Below.setCell ?_ (by (try simp) <;> omega) _ | refine Below.trans ?_ (Below.mono (by assumption) (by (try simp) <;> omega)))) (Nat.le_refl _))))
      (first | (go_at_call 63; refine (word_any j v hj1 hv1 _ (HDD.out.row_below (by repeat (first | exact Below.refl _ _ | assumption | refine Below.drew ?_ | refine below_drewN ?_ _ | refine Below.alloc ?_ (by (try simp) <;> omega) _ | refine Below.setCell ?_ (by (try simp) <;> omega) _ | refine Below.trans ?_ (Below.mono (by assumption) (by (try simp) <;> omega))))).1).mono ?_; rintro e wA ⟨rfl, hbA⟩; rw [HW0.out]; have bq : Below wq.heap.size wq wA := (by repeat (first | exact Below.refl _ _ | assumption | refine Below.drew ?_ | refine below_drewN ?_ _ | refine Below.alloc ?_ (by (try simp) <;> omega) _ | refine Below.setCell ?_ (by (try simp) <;> omega) _ | refine Below.trans ?_ (Below.mono (by assumption) (by (try simp) <;> omega)))); have tq : Turn (fun k => k = S) wq wA := (Turn.of_below bq (Nat.le_refl _)); clear hbA))
    all_goals
      go_wp2_with fail
      obtain ⟨c0, d0, d1⟩ := HS.out _ tq
      have hlB2 := Nat.lt_of_lt_of_le hlB bq.size
      have hl12 := Nat.lt_of_lt_of_le hl1 bq.size
      have hlS2 := Nat.lt_of_lt_of_le hlS bq.size
      go_region_held3 (fun w' => w'.cell? ⟨B, 0, none⟩ = some (.slice (some ⟨S, 0, none⟩) n cS) ∧ w'.cell? ⟨w1.heap.size, 0, none⟩ = some (.int .i64 (j : Int)) ∧ w'.cell? ⟨w1.heap.size, 1, none⟩ = some (.int .i64 (v : Int))) (exact HS.out _ (tq.trans (Turn.of_below (by repeat (first | exact Below.refl _ _ | assumption | refine Below.drew ?_ | refine below_drewN ?_ _ | refine Below.alloc ?_ (by (try simp) <;> omega) _ | refine Below.setCell ?_ (by (try simp) <;> omega) _ | refine Below.trans ?_ (Below.mono (by assumption) (by (try simp) <;> omega)))) (Nat.le_refl _))))
        (first | (go_at_call 62; refine (put_any j v x hj1 hv1 _ (HDD.out.row_below (by repeat (first | exact Below.refl _ _ | assumption | refine Below.drew ?_ | refine below_drewN ?_ _ | refine Below.alloc ?_ (by (try simp) <;> omega) _ | refine Below.setCell ?_ (by (try simp) <;> omega) _ | refine Below.trans ?_ (Below.mono (by assumption) (by (try simp) <;> omega))))).1).mono ?_; rintro e wB ⟨⟨u, rfl⟩, tA, oA⟩; have tq : Turn (fun k => k = S) wq wB := (Turn.of_below (by repeat (first | exact Below.refl _ _ | assumption | refine Below.drew ?_ | refine below_drewN ?_ _ | refine Below.alloc ?_ (by (try simp) <;> omega) _ | refine Below.setCell ?_ (by (try simp) <;> omega) _ | refine Below.trans ?_ (Below.mono (by assumption) (by (try simp) <;> omega)))) (Nat.le_refl _)).trans tA; clear tA))
    all_goals
      go_wp2_with fail
      rw [Exit.jump_ret]
      go_ret2
      refine ⟨by rw [HSW.out]; rfl, ?_, ?_⟩
      · exact (Turn.of_below b1 (Nat.le_refl _)).trans (tq.mono (fun k e => by rw [e]; exact HD.out.inS))
      · rw [HL.out]; exact HDD.out.set_seen tq oA
theorem swap_not {F : Nat → Prop} {B S T n cS cT : Nat} {q : Value} {d : Dv} (i a x : Int) (w : World) (ht : Ends w) (h : DevB w F B S T n cS cT q d) (hr : inR (n * 8) i = true) (hw : ¬ d.load n i = a) :
    Calls Tryd.prog 23 #[.pointer (some ⟨B, 0, none⟩), .int .i64 i, .int .u64 a, .int .u64 x] w fun e w' => e = .returned (.tuple #[.bool (d.swaps n i a), .int .i64 (errR (inR (n * 8) i))]) ∧ Turn F w w' ∧ DevB w' F B S T n cS cT q (d.swap n i a x) := by
    have hz := ht.room
    have HF := Lib.hid (find_any i w ht h)
    have HD := Lib.hid h; clear h ht
    rw [hr]
    have HO := Lib.hid (show findOut n i = .tuple #[.agg #[.int .i64 (i.toNat / 8 : Nat), .int .i64 (i.toNat % 8 : Nat)], .int .i64 0] by unfold findOut; rw [hr]; rfl)
    have HL := Lib.hid (show d.swap n i a x = d by unfold Dv.swap Dv.swaps; rw [hr, decide_eq_false hw]; rfl)
    have hw2 : ¬ d.seen[i.toNat / 8 * 8 + i.toNat % 8]?.getD 0 = a := by unfold Dv.load at hw; rw [hr, if_pos rfl] at hw; rw [show i.toNat / 8 * 8 + i.toNat % 8 = i.toNat by omega]; exact hw
    have HSW := Lib.hid (show d.swaps n i a = false by unfold Dv.swaps; rw [hr, decide_eq_false hw]; rfl)
    clear hw
    rw [inR_iff] at hr
    obtain ⟨j, hj⟩ : ∃ j, i.toNat / 8 = j := ⟨_, rfl⟩
    obtain ⟨v, hv⟩ : ∃ v, i.toNat % 8 = v := ⟨_, rfl⟩
    have hj1 : j < n := by omega
    have hv1 : v < 8 := by omega
    rw [hj, hv] at HO hw2
    clear hj hv
    go_enter Tryd.func23, Tryd.ntmps23
    go_wp2_with fail
    refine wp_scope_forward 0 rfl ?_
    go_wp2_with fail
    refine HF.out.mono ?_
    rintro e w1 ⟨rfl, hb⟩
    have z1 := hb.size
    rw [HO.out]
    have HD1 := HD.out.below hb
    go_wp2_with fail
    have j1 := Box2.new w1 121 (j : Int) (v : Int)
    have b1 : Below w.heap.size w (w1.alloc (.cells #[.int .i64 (j : Int), .int .i64 (v : Int)] 121)) := (by repeat (first | exact Below.refl _ _ | assumption | refine Below.drew ?_ | refine below_drewN ?_ _ | refine Below.alloc ?_ (by (try simp) <;> omega) _ | refine Below.setCell ?_ (by (try simp) <;> omega) _ | refine Below.trans ?_ (Below.mono (by assumption) (by (try simp) <;> omega))))
    have HD2 := HD1.below ((Below.refl _ _).alloc (Nat.le_refl _) (.cells #[.int .i64 (j : Int), .int .i64 (v : Int)] 121))
    obtain ⟨wq, hwq⟩ : ∃ wq, w1.alloc (.cells #[.int .i64 (j : Int), .int .i64 (v : Int)] 121) = wq := ⟨_, rfl⟩
    rw [hwq] at j1 b1 HD2
    rw [hwq]
    clear hwq HD1 hb
    have hlS := HD2.lt.2.1
    have hSw := HD.out.lt.2.1
    have HN := Lib.hid HD2.ne.1
    have HS := Lib.hid (fun W (tq : Turn (fun k => k = S) wq W) => And.intro ((cell_of_row W B 0 _ _ _ ((tq.block B HD2.lt.1 HD2.ne.1).trans HD2.dev)).trans rfl) (And.intro (Box2.cell0 (t := 121) (l := j) (v := v) ((tq.block _ j1.lt (by omega)).trans j1)) (Box2.cell1 (t := 121) (l := j) (v := v) ((tq.block _ j1.lt (by omega)).trans j1))))
    have bq : Below wq.heap.size wq wq := Below.refl _ _
    have tq : Turn (fun k => k = S) wq wq := Turn.refl _ _
    have c0 := HD2.cell0
    have d0 := j1.cell0
    have d1 := j1.cell1
    have hlB := HD2.lt.1
    have hl1 := j1.lt
    have HDD := Lib.hid HD2
    clear HD2 j1
    obtain ⟨W0, hW0⟩ : ∃ W0, d.seen[j * 8 + v]?.getD 0 = W0 := ⟨_, rfl⟩
    rw [hW0] at hw2
    have HW0 := Lib.hid hW0
    clear hW0
    have hw3 : (W0 == a) = false := by simpa using hw2
    go_region_held3 (fun w' => w'.cell? ⟨B, 0, none⟩ = some (.slice (some ⟨S, 0, none⟩) n cS) ∧ w'.cell? ⟨w1.heap.size, 0, none⟩ = some (.int .i64 (j : Int)) ∧ w'.cell? ⟨w1.heap.size, 1, none⟩ = some (.int .i64 (v : Int))) (exact HS.out _ (tq.trans (Turn.of_below (by repeat (first | exact Below.refl _ _ | assumption | refine Below.drew ?_ | refine below_drewN ?_ _ | refine Below.alloc ?_ (by (try simp) <;> omega) _ | refine Below.setCell ?_ (by (try simp) <;> omega) _ | refine Below.trans ?_ (Below.mono (by assumption) (by (try simp) <;> omega)))) (Nat.le_refl _))))
      (first | (go_at_call 63; refine (word_any j v hj1 hv1 _ (HDD.out.row_below (by repeat (first | exact Below.refl _ _ | assumption | refine Below.drew ?_ | refine below_drewN ?_ _ | refine Below.alloc ?_ (by (try simp) <;> omega) _ | refine Below.setCell ?_ (by (try simp) <;> omega) _ | refine Below.trans ?_ (Below.mono (by assumption) (by (try simp) <;> omega))))).1).mono ?_; rintro e wA ⟨rfl, hbA⟩; rw [HW0.out]; have bq : Below wq.heap.size wq wA := (by repeat (first | exact Below.refl _ _ | assumption | refine Below.drew ?_ | refine below_drewN ?_ _ | refine Below.alloc ?_ (by (try simp) <;> omega) _ | refine Below.setCell ?_ (by (try simp) <;> omega) _ | refine Below.trans ?_ (Below.mono (by assumption) (by (try simp) <;> omega)))); have tq : Turn (fun k => k = S) wq wA := (Turn.of_below bq (Nat.le_refl _)); clear hbA))
    all_goals
      go_wp2_with fail
      rw [Exit.jump_ret]
      go_ret2
      refine ⟨by rw [HSW.out]; rfl, ?_, ?_⟩
      · exact (Turn.of_below b1 (Nat.le_refl _)).trans (Turn.of_below bq (Nat.le_refl _))
      · rw [HL.out]; exact HDD.out.below bq
theorem swap_far {F : Nat → Prop} {B S T n cS cT : Nat} {q : Value} {d : Dv} (i a x : Int) (w : World) (ht : Ends w) (h : DevB w F B S T n cS cT q d) (hr : inR (n * 8) i = false) :
    Calls Tryd.prog 23 #[.pointer (some ⟨B, 0, none⟩), .int .i64 i, .int .u64 a, .int .u64 x] w fun e w' => e = .returned (.tuple #[.bool (d.swaps n i a), .int .i64 (errR (inR (n * 8) i))]) ∧ Turn F w w' ∧ DevB w' F B S T n cS cT q (d.swap n i a x) := by
    have hz := ht.room
    have HF := Lib.hid (find_any i w ht h)
    have HD := Lib.hid h; clear h ht
    rw [hr]
    have HO := Lib.hid (show findOut n i = .tuple #[.agg #[.int .i64 0, .int .i64 0], .int .i64 4] by unfold findOut; rw [hr]; rfl)
    have HL := Lib.hid (show d.swap n i a x = d by unfold Dv.swap Dv.swaps; rw [hr]; rfl)
    have HSW := Lib.hid (show d.swaps n i a = false by unfold Dv.swaps; rw [hr]; rfl)
    go_enter Tryd.func23, Tryd.ntmps23
    go_wp2_with fail
    refine wp_scope_forward 0 rfl ?_
    go_wp2_with fail
    refine HF.out.mono ?_
    rintro e w1 ⟨rfl, hb⟩
    have z1 := hb.size
    rw [HO.out]
    go_wp2_with fail
    go_step3
    refine ⟨rfl, ?_⟩
    go_wp2
    rw [Exit.jump_ret]
    go_ret2
    have hb2 : Below w.heap.size w (w1.alloc (.cells #[.int .i64 0, .int .i64 0] 121)) := (by repeat (first | exact Below.refl _ _ | assumption | refine Below.drew ?_ | refine below_drewN ?_ _ | refine Below.alloc ?_ (by (try simp) <;> omega) _ | refine Below.setCell ?_ (by (try simp) <;> omega) _ | refine Below.trans ?_ (Below.mono (by assumption) (by (try simp) <;> omega))))
    exact ⟨by rw [HSW.out]; rfl, Turn.of_below hb2 (Nat.le_refl _), by rw [HL.out]; exact HD.out.below hb2⟩
theorem swap_any {F : Nat → Prop} {B S T n cS cT : Nat} {q : Value} {d : Dv} (i a x : Int) (w : World) (ht : Ends w) (h : DevB w F B S T n cS cT q d) :
    Calls Tryd.prog 23 #[.pointer (some ⟨B, 0, none⟩), .int .i64 i, .int .u64 a, .int .u64 x] w fun e w' => e = .returned (.tuple #[.bool (d.swaps n i a), .int .i64 (errR (inR (n * 8) i))]) ∧ Turn F w w' ∧ DevB w' F B S T n cS cT q (d.swap n i a x) := by
  cases hr : inR (n * 8) i with
  | false => have := swap_far i a x w ht h hr; rw [hr] at this; exact this
  | true =>
    by_cases hw : d.load n i = a
    · have := swap_yes i a x w ht h hr hw; rw [hr] at this; exact this
    · have := swap_not i a x w ht h hr hw; rw [hr] at this; exact this
end Go.Proofs.YtohdgjmmekgcmaaDoor

/-
  pmem: New.
-/
namespace Go.Proofs.YtohdgjmmekgcmaaDoor
open Go.RowKit Go.Shelf

def zero8 : Array Value := #[.int .u64 0, .int .u64 0, .int .u64 0, .int .u64 0, .int .u64 0, .int .u64 0, .int .u64 0, .int .u64 0]
theorem infoL : (Tryd.prog.info? 110).map (fun i => (i.zero, i.size, i.bytes)) = some (some (.agg zero8), 8, 64) := by kernel_rfl
theorem infoA : (Tryd.prog.info? 48).map (fun i => (i.zero, i.size, i.bytes)) = some (some (.agg zero8), 8, 64) := by kernel_rfl
theorem zero8_at (k : Nat) : zero8[k % 8]! = .int .u64 0 := by
  have h : k % 8 < 8 := Nat.mod_lt _ (by decide)
  generalize k % 8 = j at *
  have : j = 0 ∨ j = 1 ∨ j = 2 ∨ j = 3 ∨ j = 4 ∨ j = 5 ∨ j = 6 ∨ j = 7 := by omega
  rcases this with rfl | rfl | rfl | rfl | rfl | rfl | rfl | rfl <;> rfl
theorem made8 (m : Nat) : (madeCells zero8 m).toList = vals (List.replicate m 0) := by
  apply List.ext_getElem?
  intro j
  by_cases hj : j < m
  · simp only [madeCells, Array.toList_map, List.getElem?_map, Array.toList_range, vals]
    rw [List.getElem?_range hj, List.getElem?_replicate, if_pos hj]
    simp only [Option.map_some]
    rw [show zero8.size = 8 from rfl, zero8_at]
  · simp [madeCells, vals, hj]
theorem run_make8 {t e : TypeId} (ht : Tryd.prog.underlying t = some (.slice e)) (he : (Tryd.prog.info? e).map (fun i => (i.zero, i.size, i.bytes)) = some (some (.agg zero8), 8, 64)) (n : Nat) (hn : n ≤ 100000) (W : World) :
    (Instr.makeSlice t (.int .i64 (n : Int)) (.int .i64 (n : Int))).run Tryd.prog W = .ok (.slice (some ⟨W.heap.size, 0, none⟩) n n) (W.alloc (.cells (madeCells zero8 (n * 8)) e)) := by
  obtain ⟨i0, hi, hz0, hz1, hz2⟩ := info_parts he
  have := run_make (P := Tryd.prog) W t e i0 _ ht hi hz0 .i64 .i64 n n (by omega) (Int.le_refl _) (by rw [hz2]; omega) (by omega)
  rw [hz1] at this
  simp only [Int.toNat_natCast] at this
  exact this
/-- A made row. -/
theorem own_made8 {W : World} {S n : Nat} {e : TypeId} (hn : n ≤ 100000) (h : W.heap[S]? = some (.cells (madeCells zero8 (n * 8)) e (0, 0))) : W.ownsRow 0 e 8 (.slice (some ⟨S, 0, none⟩) n n) n (vals (List.replicate (n * 8) 0)) := by
  refine ⟨by simp [vals], .inr ⟨S, n, _, rfl, Nat.zero_le _, h, Nat.le_refl _, by unfold maxLen; omega, size_madeCells _ _, ?_⟩⟩
  rw [made8, List.take_of_length_le (by simp [vals])]
theorem new_bad (i : Int) (hi : i < 1 ∨ 1024 < i) (w : World) :
    Calls Tryd.prog 13 #[.int .i64 i] w fun e w' => e = .returned (.tuple #[.pointer none, .int .i64 2]) ∧ Below w.heap.size w w' := by
  rcases hi with hi | hi
  · go_enter Tryd.func13, Tryd.ntmps13
    go_wp2
    go_ret2
    exact ⟨rfl, Below.refl _ _⟩
  · have hi2 : ¬ i < 1 := by omega
    go_enter Tryd.func13, Tryd.ntmps13
    go_wp2
    go_ret2
    exact ⟨rfl, Below.refl _ _⟩
theorem new_any (n : Nat) (h1 : 0 < n) (h2 : n ≤ 1024) (w : World) (hz : 0 < w.heap.size) :
    Calls Tryd.prog 13 #[.int .i64 n] w fun e w' => ∃ B, e = .returned (.tuple #[.pointer (some ⟨B, 0, none⟩), .int .i64 0]) ∧ Below w.heap.size w w' ∧ DevAt w' (fun k => w.heap.size ≤ k ∧ k < w'.heap.size) B n (Dv.new n) := by
  have hm := fun W => run_make8 Tryd.underlying94 infoL n (by omega) W
  have hi1 : ¬ (n : Int) < 1 := by omega
  have hi2 : ¬ 1024 < (n : Int) := by omega
  have fin : ∀ (W : World) (S T B : Nat), W.heap[S]? = some (.cells (madeCells zero8 (n * 8)) 110 (0, 0)) → W.heap[T]? = some (.cells (madeCells zero8 (n * 8)) 110 (0, 0)) → S ≠ T → W.heap[B]? = some (.cells #[.slice (some ⟨S, 0, none⟩) n n, .slice (some ⟨T, 0, none⟩) n n, .slice none 0 0] 99 (0, 0)) →
      w.heap.size ≤ S → w.heap.size ≤ T → w.heap.size ≤ B → DevAt W (fun k => w.heap.size ≤ k ∧ k < W.heap.size) B n (Dv.new n) := fun W S T B hS hT hST hB lS lT lB =>
    ⟨S, T, n, n, _, ⟨Dv.ok_new n, h1, h2, hB, own_made8 (by omega) hS, own_made8 (by omega) hT, .inr (World.ownsRow_nil _ _ _ _), hST, ⟨lB, (Array.getElem?_eq_some_iff.1 hB).1⟩, ⟨lS, (Array.getElem?_eq_some_iff.1 hS).1⟩, ⟨lT, (Array.getElem?_eq_some_iff.1 hT).1⟩, .inr (fun g hg => by cases hg), fun k hk => by omega, fun k hk => hk.2⟩⟩
  have HF := Lib.hid fin; clear fin
  go_enter Tryd.func13, Tryd.ntmps13
  go_wp2
  go_region
  all_goals go_wp2
  all_goals go_ret2
  all_goals refine ⟨w.heap.size + 1 + 1, rfl, (by repeat (first | exact Below.refl _ _ | assumption | refine Below.drew ?_ | refine below_drewN ?_ _ | refine Below.alloc ?_ (by (try simp) <;> omega) _ | refine Below.setCell ?_ (by (try simp) <;> omega) _ | refine Below.trans ?_ (Below.mono (by assumption) (by (try simp) <;> omega)))), ?_⟩
  all_goals first
    | (refine HF.out _ w.heap.size (w.heap.size + 1) (w.heap.size + 1 + 1) ?_ ?_ ?_ ?_ ?_ ?_ ?_ <;> first | omega | (rw [heap_drew]; (simp only [heap_at, World.size_alloc]; repeat (first | rw [if_pos (by omega)] | rw [if_neg (by omega)] | rw [if_pos trivial])); done))
    | (refine HF.out _ (w.heap.size + 1) w.heap.size (w.heap.size + 1 + 1) ?_ ?_ ?_ ?_ ?_ ?_ ?_ <;> first | omega | (rw [heap_drew]; (simp only [heap_at, World.size_alloc]; repeat (first | rw [if_pos (by omega)] | rw [if_neg (by omega)] | rw [if_pos trivial])); done))
end Go.Proofs.YtohdgjmmekgcmaaDoor

/-
  pmem: no device.
-/
namespace Go.Proofs.YtohdgjmmekgcmaaDoor
open Go.RowKit Go.Shelf

theorem NoDev.ptr {W : World} {v : Value} (h : NoDev W v) : ∃ p, v = .pointer p := by
  rcases h with rfl | ⟨B, rfl, _⟩
  · exact ⟨_, rfl⟩
  · exact ⟨_, rfl⟩
theorem find_none {v : Value} (i : Int) (w : World) (h : NoDev w v) :
    Calls Tryd.prog 61 #[v, .int .i64 i] w fun e w' => e = .returned (.tuple #[.agg #[.int .i64 0, .int .i64 0], .int .i64 1]) ∧ Below w.heap.size w w' := by
  have HD := Lib.hid h
  obtain ⟨p, rfl⟩ := h.ptr
  clear h
  go_enter Tryd.func61, Tryd.ntmps61
  go_wp2_with fail
  refine wp_scope_forward 0 rfl ?_
  go_wp2_with fail
  obtain ⟨W0, hW0⟩ : ∃ W0, (((((w.alloc (.cells #[.pointer p] 29)).alloc (.cells #[.int .i64 i] 3)).alloc (.cells #[.int .i64 0, .int .i64 0] 121)).alloc (.cells #[.int .i64 0, .int .i64 0] 121)).alloc (.cells #[.func (.func 52) #[.pointer p] #[], .func (.func 89) #[] #[.pointer (some ⟨w.heap.size + 1, 0, none⟩), .pointer (some ⟨w.heap.size + 1 + 1 + 1, 0, none⟩)], .func (.func 91) #[] #[.pointer (some ⟨w.heap.size, 0, none⟩), .pointer (some ⟨w.heap.size + 1 + 1 + 1, 0, none⟩)]] 59)) = W0 := ⟨_, rfl⟩
  have j2 : Box2 W0 (w.heap.size + 1 + 1) 121 0 0 := by rw [← hW0]; unfold Box2; (simp only [heap_at, World.size_alloc]; repeat (first | rw [if_pos (by omega)] | rw [if_neg (by omega)] | rw [if_pos trivial]))
  have j4 : W0.heap[w.heap.size + 1 + 1 + 1 + 1]? = some (.cells #[.func (.func 52) #[.pointer p] #[], .func (.func 89) #[] #[.pointer (some ⟨w.heap.size + 1, 0, none⟩), .pointer (some ⟨w.heap.size + 1 + 1 + 1, 0, none⟩)], .func (.func 91) #[] #[.pointer (some ⟨w.heap.size, 0, none⟩), .pointer (some ⟨w.heap.size + 1 + 1 + 1, 0, none⟩)]] 59 (0, 0)) := by
    rw [← hW0]; (simp only [heap_at, World.size_alloc]; repeat (first | rw [if_pos (by omega)] | rw [if_neg (by omega)] | rw [if_pos trivial]))
  have b0 : Below w.heap.size w W0 := by rw [← hW0]; exact (by repeat (first | exact Below.refl _ _ | assumption | refine Below.drew ?_ | refine below_drewN ?_ _ | refine Below.alloc ?_ (by (try simp) <;> omega) _ | refine Below.setCell ?_ (by (try simp) <;> omega) _ | refine Below.trans ?_ (Below.mono (by assumption) (by (try simp) <;> omega))))
  rw [hW0]
  clear hW0
  have HD0 := Lib.hid (HD.out.below b0)
  have l4 := (Array.getElem?_eq_some_iff.1 j4).1
  refine (first_any [.func (.func 52) #[.pointer p] #[], .func (.func 89) #[] #[.pointer (some ⟨w.heap.size + 1, 0, none⟩), .pointer (some ⟨w.heap.size + 1 + 1 + 1, 0, none⟩)], .func (.func 91) #[] #[.pointer (some ⟨w.heap.size, 0, none⟩), .pointer (some ⟨w.heap.size + 1 + 1 + 1, 0, none⟩)]] (w.heap.size + 1 + 1 + 1 + 1) (by simp)
    (fun k W => Below W0.heap.size W0 W ∧ k = 0) (fun a W => a = 1 ∧ Below W0.heap.size W0 W) W0 ?_ ?_ ?_ ⟨Below.refl _ _, rfl⟩).mono ?_
  · rintro k W ⟨hb, -⟩ j v hv
    rw [cell_of_row W _ j _ _ _ ((hb.block _ l4).trans j4)]
    simpa using hv
  · rintro k W hk ⟨hb, rfl⟩
    refine ⟨_, _, _, rfl, enters_of Tryd.func52 (by kernel_rfl) rfl, ?_⟩
    refine (missing_no W (HD0.out.below hb)).mono ?_
    rintro e w' ⟨rfl, rfl⟩
    exact ⟨_, rfl, fun h => absurd h (by decide), fun h => ⟨rfl, hb⟩⟩
  · rintro W ⟨hb, h⟩
    cases h
  · rintro e w1 ⟨a, rfl, rfl, hb⟩
    have k2 := j2.below hb j2.lt
    have f0 := k2.frozen0
    have f1 := k2.frozen1
    have d0 := k2.cell0
    have d1 := k2.cell1
    have kl := k2.lt
    have b1 : Below w.heap.size w w1 := b0.trans (hb.mono b0.size)
    clear j2 j4 hb
    go_wp2_with fail
    go_step3
    refine ⟨rfl, ?_⟩
    go_wp2
    rw [Exit.jump_ret]
    refine bodyPost_ret (v := .tuple #[.agg #[.int .i64 0, .int .i64 0], .int .i64 1]) (by simp [results, Tryd.results61, go_sem, World.cell?_setCell_same', d0, d1]) rfl ⟨rfl, ?_⟩
    exact (b1.setCell (p := ⟨w.heap.size + 1 + 1, 0, none⟩) (by show w.heap.size ≤ w.heap.size + 1 + 1; omega) _).setCell (p := ⟨w.heap.size + 1 + 1, 1, none⟩) (by show w.heap.size ≤ w.heap.size + 1 + 1; omega) _
theorem load_no {v : Value} (i : Int) (w : World) (h : NoDev w v) :
    Calls Tryd.prog 43 #[v, .int .i64 i] w fun e w' => e = .returned (.tuple #[.int .u64 0, .int .i64 1]) ∧ Below w.heap.size w w' := by
  have HF := Lib.hid (find_none i w h)
  obtain ⟨p, rfl⟩ := h.ptr
  clear h
  go_enter Tryd.func43, Tryd.ntmps43
  go_wp2_with fail
  refine wp_scope_forward 0 rfl ?_
  go_wp2_with fail
  refine HF.out.mono ?_
  rintro e w1 ⟨rfl, hb⟩
  have z1 := hb.size
  go_wp2_with fail
  go_step3
  refine ⟨rfl, ?_⟩
  go_wp2
  rw [Exit.jump_ret]
  go_ret2
  exact ⟨rfl, (by repeat (first | exact Below.refl _ _ | assumption | refine Below.drew ?_ | refine below_drewN ?_ _ | refine Below.alloc ?_ (by (try simp) <;> omega) _ | refine Below.setCell ?_ (by (try simp) <;> omega) _ | refine Below.trans ?_ (Below.mono (by assumption) (by (try simp) <;> omega))))⟩
theorem stays_no {v : Value} (i : Int) (w : World) (h : NoDev w v) :
    Calls Tryd.prog 44 #[v, .int .i64 i] w fun e w' => e = .returned (.tuple #[.int .u64 0, .int .i64 1]) ∧ Below w.heap.size w w' := by
  have HF := Lib.hid (find_none i w h)
  obtain ⟨p, rfl⟩ := h.ptr
  clear h
  go_enter Tryd.func44, Tryd.ntmps44
  go_wp2_with fail
  refine wp_scope_forward 0 rfl ?_
  go_wp2_with fail
  refine HF.out.mono ?_
  rintro e w1 ⟨rfl, hb⟩
  have z1 := hb.size
  go_wp2_with fail
  go_step3
  refine ⟨rfl, ?_⟩
  go_wp2
  rw [Exit.jump_ret]
  go_ret2
  exact ⟨rfl, (by repeat (first | exact Below.refl _ _ | assumption | refine Below.drew ?_ | refine below_drewN ?_ _ | refine Below.alloc ?_ (by (try simp) <;> omega) _ | refine Below.setCell ?_ (by (try simp) <;> omega) _ | refine Below.trans ?_ (Below.mono (by assumption) (by (try simp) <;> omega))))⟩
theorem swap_no {v : Value} (i a b : Int) (w : World) (h : NoDev w v) :
    Calls Tryd.prog 23 #[v, .int .i64 i, .int .u64 a, .int .u64 b] w fun e w' => e = .returned (.tuple #[.bool false, .int .i64 1]) ∧ Below w.heap.size w w' := by
  have HF := Lib.hid (find_none i w h)
  obtain ⟨p, rfl⟩ := h.ptr
  clear h
  go_enter Tryd.func23, Tryd.ntmps23
  go_wp2_with fail
  refine wp_scope_forward 0 rfl ?_
  go_wp2_with fail
  refine HF.out.mono ?_
  rintro e w1 ⟨rfl, hb⟩
  have z1 := hb.size
  go_wp2_with fail
  go_step3
  refine ⟨rfl, ?_⟩
  go_wp2
  rw [Exit.jump_ret]
  go_ret2
  exact ⟨rfl, (by repeat (first | exact Below.refl _ _ | assumption | refine Below.drew ?_ | refine below_drewN ?_ _ | refine Below.alloc ?_ (by (try simp) <;> omega) _ | refine Below.setCell ?_ (by (try simp) <;> omega) _ | refine Below.trans ?_ (Below.mono (by assumption) (by (try simp) <;> omega))))⟩
theorem store_no {v : Value} (i a : Int) (w : World) (h : NoDev w v) :
    Calls Tryd.prog 22 #[v, .int .i64 i, .int .u64 a] w fun e w' => e = .returned (.int .i64 1) ∧ Below w.heap.size w w' := by
  have HF := Lib.hid (find_none i w h)
  obtain ⟨p, rfl⟩ := h.ptr
  clear h
  go_enter Tryd.func22, Tryd.ntmps22
  go_wp2_with fail
  refine wp_scope_forward 0 rfl ?_
  go_wp2_with fail
  refine HF.out.mono ?_
  rintro e w1 ⟨rfl, hb⟩
  have z1 := hb.size
  go_wp2_with fail
  go_step3
  refine ⟨rfl, ?_⟩
  go_wp2
  rw [Exit.jump_ret]
  go_ret
  exact ⟨rfl, (by repeat (first | exact Below.refl _ _ | assumption | refine Below.drew ?_ | refine below_drewN ?_ _ | refine Below.alloc ?_ (by (try simp) <;> omega) _ | refine Below.setCell ?_ (by (try simp) <;> omega) _ | refine Below.trans ?_ (Below.mono (by assumption) (by (try simp) <;> omega))))⟩
theorem flush_no {v : Value} (i : Int) (w : World) (h : NoDev w v) :
    Calls Tryd.prog 24 #[v, .int .i64 i] w fun e w' => e = .returned (.int .i64 1) ∧ Below w.heap.size w w' := by
  have HF := Lib.hid (refuses_no i w h)
  obtain ⟨p, rfl⟩ := h.ptr
  clear h
  go_enter Tryd.func24, Tryd.ntmps24
  go_wp2_with fail
  refine wp_scope_forward 0 rfl ?_
  go_wp2_with fail
  refine HF.out.mono ?_
  rintro e w1 ⟨rfl, hb⟩
  have z1 := hb.size
  go_wp2_with fail
  go_step3
  refine ⟨rfl, ?_⟩
  go_wp2
  rw [Exit.jump_ret]
  go_ret
  exact ⟨rfl, (by repeat (first | exact Below.refl _ _ | assumption | refine Below.drew ?_ | refine below_drewN ?_ _ | refine Below.alloc ?_ (by (try simp) <;> omega) _ | refine Below.setCell ?_ (by (try simp) <;> omega) _ | refine Below.trans ?_ (Below.mono (by assumption) (by (try simp) <;> omega))))⟩
theorem evict_no {v : Value} (i : Int) (w : World) (h : NoDev w v) :
    Calls Tryd.prog 27 #[v, .int .i64 i] w fun e w' => e = .returned (.int .i64 1) ∧ Below w.heap.size w w' := by
  have HF := Lib.hid (refuses_no i w h)
  obtain ⟨p, rfl⟩ := h.ptr
  clear h
  go_enter Tryd.func27, Tryd.ntmps27
  go_wp2_with fail
  refine wp_scope_forward 0 rfl ?_
  go_wp2_with fail
  refine HF.out.mono ?_
  rintro e w1 ⟨rfl, hb⟩
  have z1 := hb.size
  go_wp2_with fail
  go_step3
  refine ⟨rfl, ?_⟩
  go_wp2
  rw [Exit.jump_ret]
  go_ret
  exact ⟨rfl, (by repeat (first | exact Below.refl _ _ | assumption | refine Below.drew ?_ | refine below_drewN ?_ _ | refine Below.alloc ?_ (by (try simp) <;> omega) _ | refine Below.setCell ?_ (by (try simp) <;> omega) _ | refine Below.trans ?_ (Below.mono (by assumption) (by (try simp) <;> omega))))⟩
theorem fence_no {v : Value} (w : World) (h : NoDev w v) :
    Calls Tryd.prog 26 #[v] w fun e w' => e = .returned (.int .i64 1) ∧ Below w.heap.size w w' := by
  have HF := Lib.hid (missing_no w h)
  obtain ⟨p, rfl⟩ := h.ptr
  clear h
  go_enter Tryd.func26, Tryd.ntmps26
  go_wp2_with fail
  refine wp_scope_forward 0 rfl ?_
  go_wp2_with fail
  refine HF.out.mono ?_
  rintro e w1 ⟨rfl, rfl⟩
  go_wp2_with fail
  go_step3
  refine ⟨rfl, ?_⟩
  go_wp2
  rw [Exit.jump_ret]
  go_ret
  exact ⟨rfl, (by repeat (first | exact Below.refl _ _ | assumption | refine Below.drew ?_ | refine below_drewN ?_ _ | refine Below.alloc ?_ (by (try simp) <;> omega) _ | refine Below.setCell ?_ (by (try simp) <;> omega) _ | refine Below.trans ?_ (Below.mono (by assumption) (by (try simp) <;> omega))))⟩
theorem state_no {v : Value} (w : World) (h : NoDev w v) :
    Calls Tryd.prog 29 #[v] w fun e w' => e = .returned (.agg #[.int .i64 0, .int .i64 0, .int .i64 0]) ∧ Below w.heap.size w w' := by
  have HF := Lib.hid (missing_no _ (h.below ((Below.refl _ _).alloc (Nat.le_refl _) (.cells #[.int .i64 0, .int .i64 0, .int .i64 0] 62))))
  obtain ⟨p, rfl⟩ := h.ptr
  clear h
  go_enter Tryd.func29, Tryd.ntmps29
  go_wp2_with fail
  refine HF.out.mono ?_
  rintro e w1 ⟨rfl, rfl⟩
  go_wp2_with fail
  refine bodyPost_ret (v := .agg #[.int .i64 0, .int .i64 0, .int .i64 0]) (by simp [results, Tryd.results29, go_sem]) rfl ⟨rfl, ?_⟩
  exact (by repeat (first | exact Below.refl _ _ | assumption | refine Below.drew ?_ | refine below_drewN ?_ _ | refine Below.alloc ?_ (by (try simp) <;> omega) _ | refine Below.setCell ?_ (by (try simp) <;> omega) _ | refine Below.trans ?_ (Below.mono (by assumption) (by (try simp) <;> omega))))
theorem copy_no {v : Value} (w : World) (h : NoDev w v) :
    Calls Tryd.prog 16 #[v] w fun e w' => e = .returned (.pointer none) ∧ Below w.heap.size w w' := by
  have HF := Lib.hid (missing_no w h)
  obtain ⟨p, rfl⟩ := h.ptr
  clear h
  go_enter Tryd.func16, Tryd.ntmps16
  go_wp2_with fail
  refine HF.out.mono ?_
  rintro e w1 ⟨rfl, rfl⟩
  go_wp2_with fail
  go_ret
  exact ⟨rfl, Below.refl _ _⟩
end Go.Proofs.YtohdgjmmekgcmaaDoor

/-
  pmem: a line that waits no more.
-/
namespace Go.Proofs.YtohdgjmmekgcmaaDoor
open Go.RowKit Go.Shelf

/-- A line that waits, as a value. -/
def waitA (x : Nat × List Int) : Array Value := (.int .i64 (x.1 : Nat) :: vals x.2).toArray
theorem waitA_size {x : Nat × List Int} (h : x.2.length = 8) : (waitA x).size = 9 := by simp [waitA, vals_length, h]
theorem forget1_any (P : Nat) (i : Int) (x : Nat × List Int) (w : World) (hP : Boxed w P 3 (.int .i64 i)) :
    Calls Tryd.prog 95 #[.agg (waitA x), .pointer (some ⟨P, 0, none⟩)] w fun e w' => e = .returned (.bool (decide ((x.1 : Int) = i))) ∧ Below w.heap.size w w' := by
  obtain ⟨X, hX⟩ : ∃ X, waitA x = X := ⟨_, rfl⟩
  obtain ⟨l, hl⟩ : ∃ l, ((x.1 : Nat) : Int) = l := ⟨_, rfl⟩
  have hX0 : X[0]? = some (.int .i64 l) := by rw [← hX, ← hl]; rfl
  rw [hX, hl]
  clear hX hl
  have e0 := hP.cell
  have lP := hP.lt
  clear hP
  go_enter Tryd.func95, Tryd.ntmps95
  go_wp2
  go_ret
  exact ⟨rfl, (by repeat (first | exact Below.refl _ _ | assumption | refine Below.drew ?_ | refine below_drewN ?_ _ | refine Below.alloc ?_ (by (try simp) <;> omega) _ | refine Below.setCell ?_ (by (try simp) <;> omega) _ | refine Below.trans ?_ (Below.mono (by assumption) (by (try simp) <;> omega))))⟩
theorem waitA_list (x : Nat × List Int) : (waitA x).toList = .int .i64 (x.1 : Nat) :: vals x.2 := rfl
/-- The j-th that waits, loaded. -/
theorem load_wait {t : TypeId} {dd : TypeDesc} (hu : Tryd.prog.underlying t = some dd) (hd : dd.isRow = true) (hi : (Tryd.prog.info? t).map (·.size) = some 9) {W : World} {e : TypeId} {g n c : Nat} {l : List (Nat × List Int)} (h : W.ownsRow 0 e 9 (.slice (some ⟨g, 0, none⟩) n c) n (cellsW l)) (hl : ∀ x ∈ l, x.2.length = 8) (j : Nat) (hj : j < l.length) :
    (Instr.loadAt t (.pointer (some ⟨g, j * 9, none⟩))).run Tryd.prog W = .ok (.agg (waitA (l[j]?.getD (0, [])))) W := by
  have hr := row_range h (j * 9) 9
  rw [cellsW_cut l hl j hj] at hr
  refine run_loadAt_mid W g (j * 9) t _ dd hr hu hd ?_
  rw [hi, List.length_cons, vals_length, List.getElem?_eq_getElem hj, Option.getD_some, hl _ (List.getElem_mem hj)]
def isAt (i : Int) (x : Nat × List Int) : Bool := decide ((x.1 : Int) = i)
def idxInt : Option Nat → Int
  | some k => (k : Nat)
  | none => -1
theorem idx_from (l : List (Nat × List Int)) (p : Nat × List Int → Bool) (k : Nat) (hk : k < l.length) : (l.drop k).findIdx? p = if p (l[k]?.getD (0, [])) then some 0 else ((l.drop (k + 1)).findIdx? p).map (· + 1) := by
  rw [List.drop_eq_getElem_cons hk, List.findIdx?_cons, List.getElem?_eq_getElem hk]
  rfl
set_option maxRecDepth 100000 in
set_option maxHeartbeats 1000000 in
theorem indexFunc_any (P : Nat) (i : Int) (l : List (Nat × List Int)) (hl : ∀ x ∈ l, x.2.length = 8) (hm : l.length ≤ 100000) (q : Value) (w : World) (hP : Boxed w P 3 (.int .i64 i)) (hq : GrowV w 113 9 q l.length (cellsW l)) :
    Calls Tryd.prog 105 #[q, .func (.func 95) #[] #[.pointer (some ⟨P, 0, none⟩)]] w fun e w' => e = .returned (.int .i64 (idxInt (l.findIdx? (isAt i)))) ∧ Below w.heap.size w w' := by
  obtain ⟨a, c, rfl⟩ : ∃ a c, q = .slice a l.length c := by
    rcases hq with ⟨h1, _, ad, rfl⟩ | hq
    · exact ⟨_, 0, by rw [h1]⟩
    · exact own_slice hq
  have hg : 0 < l.length → ∃ g, a = some ⟨g, 0, none⟩ ∧ g < w.heap.size ∧ w.ownsRow 0 113 9 (.slice (some ⟨g, 0, none⟩) l.length c) l.length (cellsW l) := fun h0 => by
    rcases hq with ⟨h1, _⟩ | hq
    · omega
    · rcases hq.2 with ⟨e0, h1⟩ | ⟨g, cap, cur, e0, _, hgg, _⟩
      · omega
      · simp only [Value.slice.injEq] at e0
        obtain ⟨rfl, -, rfl⟩ := e0
        exact ⟨g, rfl, (Array.getElem?_eq_some_iff.1 hgg).1, hq⟩
  have HG := Lib.hid hg
  have HP := Lib.hid hP
  have HL := Lib.hid hl
  clear hg hq hP hl
  obtain ⟨n, hn⟩ : ∃ n, l.length = n := ⟨_, rfl⟩
  have HN := Lib.hid hn
  rw [hn] at hm ⊢
  clear hn
  have H0 := Lib.hid (show idxInt (l.findIdx? (isAt i)) = idxInt (((l.drop 0).findIdx? (isAt i)).map (· + 0)) by simp)
  go_enter Tryd.func105, Tryd.ntmps105
  go_wp2_with fail
  go_loopw [8] (fun j wr => ∃ k : Nat, k ≤ n ∧ j = .int .i64 (k : Nat) ∧ Hid (idxInt (l.findIdx? (isAt i)) = idxInt (((l.drop k).findIdx? (isAt i)).map (· + k))) ∧ Below w.heap.size w wr) (fun j _ => n - (intOf j).toNat)
  case atStart => exact ⟨0, by omega, rfl, H0, Below.refl _ _⟩
  case round =>
    obtain ⟨k, hk, rfl, HK, hb⟩ := hrel
    have zb := hb.size
    clear H0
    by_cases hlt : k < n
    · obtain ⟨g, rfl, hgl, hrow⟩ := HG.out (by have := HN.out; omega)
      have hrow2 := own_keeps hrow (fun h => hb.block g h)
      have hld := load_wait Tryd.underlying113 rfl (by kernel_rfl) hrow2 HL.out k (by have := HN.out; omega)
      have HI := Lib.hid (idx_from l (isAt i) k (by have := HN.out; omega))
      obtain ⟨x, hx⟩ : ∃ x, l[k]?.getD (0, []) = x := ⟨_, rfl⟩
      rw [hx] at hld HI
      have k2 : (k : Int) < (n : Int) := by omega
      have hP2 := (hb.block P HP.out.lt).trans HP.out
      have HF := Lib.hid (forget1_any P i x wr hP2)
      obtain ⟨X, hX⟩ : ∃ X, waitA x = X := ⟨_, rfl⟩
      rw [hX] at hld HF
      clear hX
      have HLD := Lib.hid hld
      clear hrow hrow2 hx hP2 hld
      go_wp2_with (refine wpList_load_eq rfl 113 _ rfl _ _ rfl HLD.out ?_)
      refine HF.out.mono ?_
      rintro e w1 ⟨rfl, hb1⟩
      have hb2 := hb.trans (hb1.mono zb)
      rw [show decide ((x.1 : Int) = i) = isAt i x from rfl]
      cases hat : isAt i x with
      | true =>
        go_wp2_with fail
        go_ret
        refine ⟨?_, hb2⟩
        show Ending.returned (Value.int .i64 (k : Nat)) = _
        rw [HK.out, HI.out, hat, if_pos rfl]
        simp [idxInt]
      | false =>
        go_wp2_with fail
        go_roundw
        case rel =>
          refine ⟨k + 1, by omega, by go_num, Lib.hid ?_, hb2⟩
          rw [HK.out, HI.out, hat, if_neg (by decide), Option.map_map]
          congr 2
          funext y
          simp
          omega
        case measure => simp [intOf]; omega
    · obtain rfl : k = n := by omega
      go_wp2_with fail
      go_ret
      exact ⟨by rw [HK.out, List.drop_of_length_le (Nat.le_of_eq HN.out)]; rfl, hb⟩
end Go.Proofs.YtohdgjmmekgcmaaDoor

/-
  pmem: DeleteFunc of what waits.
-/
namespace Go.Proofs.YtohdgjmmekgcmaaDoor
open Go.RowKit Go.Shelf

theorem cellsW_cons (x : Nat × List Int) (l : List (Nat × List Int)) : cellsW (x :: l) = (waitA x).toList ++ cellsW l := by simp [cellsW, waitA]
theorem cellsW_take (L : List (Nat × List Int)) (hl : ∀ y ∈ L, y.2.length = 8) (m : Nat) (hm : m ≤ L.length) : (cellsW L).take (m * 9) = cellsW (L.take m) := by
  have h1 : (cellsW (L.take m)).length = m * 9 := by
    rw [cellsW_length _ fun x hx => hl x (List.mem_of_mem_take hx), List.length_take, Nat.min_eq_left (by omega)]
  conv => lhs; rw [← List.take_append_drop m L, cellsW_append]
  exact List.take_left' h1
theorem cellsW_set (L : List (Nat × List Int)) (hl : ∀ y ∈ L, y.2.length = 8) (m : Nat) (hm : m < L.length) (x : Nat × List Int) (hx : x.2.length = 8) : cellsW (L.set m x) = (cellsW L).take (m * 9) ++ (waitA x).toList ++ (cellsW L).drop (m * 9 + (waitA x).toList.length) := by
  have e : L = L.take m ++ L[m] :: L.drop (m + 1) := by rw [← List.drop_eq_getElem_cons hm, List.take_append_drop]
  have h1 : (cellsW (L.take m)).length = m * 9 := by
    rw [cellsW_length _ fun x hx => hl x (List.mem_of_mem_take hx), List.length_take, Nat.min_eq_left (by omega)]
  have h2 : (waitA L[m]).toList.length = 9 := by rw [waitA_list, List.length_cons, vals_length, hl _ (List.getElem_mem hm)]
  have h3 : (waitA x).toList.length = 9 := by rw [waitA_list, List.length_cons, vals_length, hx]
  have e2 : cellsW L = cellsW (L.take m) ++ ((waitA L[m]).toList ++ cellsW (L.drop (m + 1))) := by
    conv => lhs; rw [e]
    rw [cellsW_append, cellsW_cons]
  have h4 : (cellsW L).drop (m * 9 + 9) = cellsW (L.drop (m + 1)) := by
    rw [e2, ← List.append_assoc]
    exact List.drop_left' (by rw [List.length_append, h1, h2])
  have h5 : (cellsW L).take (m * 9) = cellsW (L.take m) := by
    rw [e2]
    exact List.take_left' h1
  rw [List.set_eq_take_append_cons_drop, if_pos hm, cellsW_append, cellsW_cons, h3, h4, h5, List.append_assoc]
theorem load_blk {t : TypeId} {dd : TypeDesc} (hu : Tryd.prog.underlying t = some dd) (hd : dd.isRow = true) {X : Array Value} (hi : (Tryd.prog.info? t).map (·.size) = some X.size) {W : World} {b : Nat} {e : TypeId} {f : Nat × Nat} (h : W.heap[b]? = some (.cells X e f)) :
    (Instr.loadAt t (.pointer (some ⟨b, 0, none⟩))).run Tryd.prog W = .ok (.agg X) W := by
  have hr := World.rangeAt_of_block h 0 X.size
  rw [Nat.zero_add, Array.extract_size] at hr
  have := run_loadAt_mid (P := Tryd.prog) W b 0 t X.toList dd hr hu hd (by rw [hi]; simp)
  simpa using this
theorem store_wait {t : TypeId} (hi : (Tryd.prog.info? t).map (·.size) = some 9) {W : World} {e : TypeId} {g n c : Nat} {L : List (Nat × List Int)} (h : W.ownsRow 0 e 9 (.slice (some ⟨g, 0, none⟩) n c) n (cellsW L)) (hl : ∀ x ∈ L, x.2.length = 8) (hn : L.length = n) (m : Nat) (hm : m < n) (x : Nat × List Int) (hx : x.2.length = 8) :
    (Instr.storeAt t (.pointer (some ⟨g, m * 9, none⟩)) (.agg (waitA x))).run Tryd.prog W = .ok () (W.setCells g (m * 9) (waitA x).toList) ∧
      (W.setCells g (m * 9) (waitA x).toList).ownsRow 0 e 9 (.slice (some ⟨g, 0, none⟩) n c) n (cellsW (L.set m x)) ∧ Turn (fun k => k = g) W (W.setCells g (m * 9) (waitA x).toList) := by
  have h3 : (waitA x).toList.length = 9 := by rw [waitA_list, List.length_cons, vals_length, hx]
  have hr := row_cells (waitA x).toList (m * 9) W (cellsW L) (by rw [h3]; omega) h
  refine ⟨run_storeAt_mid W g (m * 9) t (waitA x) (row_there h _ _ (by rw [waitA_size hx]; omega)) (by rw [hi, waitA_size hx]) ?_, ?_, hr.2⟩
  · refine Array.all_eq_true_iff_forall_mem.2 fun v hv => ?_
    have : v ∈ cellsW [x] := by rw [cellsW_cons]; simp [cellsW]; simpa using hv
    exact cellsW_one _ v this
  · rw [cellsW_set L hl m (by omega) x hx]; exact hr.1
def zero9 : Array Value := #[.int .i64 0, .int .u64 0, .int .u64 0, .int .u64 0, .int .u64 0, .int .u64 0, .int .u64 0, .int .u64 0, .int .u64 0]
theorem infoW : (Tryd.prog.info? 113).map (fun i => (i.zero, i.size, i.bytes)) = some (some (.agg zero9), 9, 72) := by kernel_rfl
/-- clear of a row's end. -/
theorem clear_wait {W : World} {g n c : Nat} {xs : List Value} (h : W.ownsRow 0 113 9 (.slice (some ⟨g, 0, none⟩) n c) n xs) (m k : Nat) (hk : 0 < k) (hmk : m + k ≤ n) (c2 : Nat) (ty : TypeId) :
    ∃ W', (Builtin.clear_ #[97] ty #[.slice (some ⟨g, m * 9, none⟩) k c2]).run Tryd.prog W = .ok (.tuple #[]) W' ∧ Turn (fun b => b = g) W W' ∧
      ∃ ys, W'.ownsRow 0 113 9 (.slice (some ⟨g, 0, none⟩) n c) n ys ∧ ys.take (m * 9) = xs.take (m * 9) := by
  obtain ⟨i0, hi, hz0, hz1, hz2⟩ := info_parts infoW
  have hv : ∀ w, (zeroValue 113).run Tryd.prog w = .ok (.agg zero9) w := fun w => by simp [zeroValue, typeInfo, hi, hz0]
  have hlen : (Builtin.zeroCells (Value.agg zero9).cells k).toList.length = k * 9 := by simp [Builtin.zeroCells, Value.cells, zero9]
  have hone : ∀ v ∈ (Builtin.zeroCells (Value.agg zero9).cells k).toList, v.oneCell' = true := by
    intro v hv
    simp only [Builtin.zeroCells, Value.cells, Array.toList_map, List.mem_map] at hv
    obtain ⟨j, -, rfl⟩ := hv
    have h : j % 9 < 9 := Nat.mod_lt _ (by decide)
    show (zero9[j % 9]!).oneCell' = true
    generalize j % 9 = r at *
    have : r = 0 ∨ r = 1 ∨ r = 2 ∨ r = 3 ∨ r = 4 ∨ r = 5 ∨ r = 6 ∨ r = 7 ∨ r = 8 := by omega
    rcases this with rfl | rfl | rfl | rfl | rfl | rfl | rfl | rfl | rfl <;> rfl
  have hth := row_there h (m * 9) (k * 9) (by rw [← Nat.add_mul]; exact Nat.mul_le_mul_right _ hmk)
  generalize hZ : (Builtin.zeroCells (Value.agg zero9).cells k).toList = Z at *
  have hst := run_storeCells_cells (P := Tryd.prog) g (m * 9) Z 0 W (fun j hj => by have := (hth j (by omega)).1; simpa using this) (fun j hj => by have := (hth j (by omega)).2; simpa using this) hone
  simp only [Nat.add_zero] at hst
  have hr := row_cells Z (m * 9) W xs (by rw [hlen, ← Nat.add_mul]; exact Nat.mul_le_mul_right _ hmk) h
  refine ⟨_, ?_, hr.2, _, hr.1, ?_⟩
  · obtain ⟨k', rfl⟩ : ∃ k', k = k' + 1 := ⟨k - 1, by omega⟩
    simp [Builtin.clear_, run_underlying Tryd.underlying97, hv, hZ, hst]
  · rw [List.append_assoc, List.take_append_of_le_length (by rw [List.length_take, h.1]; have := Nat.mul_le_mul_right 9 hmk; omega), List.take_take, Nat.min_self]
theorem cut9_to (a : Option Addr) (n c k : Nat) (hk : k ≤ n) (hc : n ≤ c) (W : World) : (Instr.sliceAt 97 (.slice a n c) none (some (.int .i64 k)) none).run Tryd.prog W = .ok (.slice a k c) W := by
  obtain ⟨i0, hi, hz0, hz1, hz2⟩ := info_parts infoW
  have h1 := Tryd.underlying97
  have he : Tryd.prog.elem 97 = 113 := by simp [Program.elem, h1]
  have ht : Tryd.prog.underlying 97 = some (.slice (Tryd.prog.elem 97)) := by rw [he]; exact h1
  rw [run_sliceAt_slice W _ _ _ _ _ ht, run_slice_h W _ a n c ht .i64 (k : Int) (by omega) (by omega), he]
  simp [sizeOf, typeInfo, hi, hz1, sliced, Addr.add, Result.andThen]
theorem cut9_from (g n c k : Nat) (hk : k < n) (hc : n ≤ c) (W : World) : (Instr.sliceAt 97 (.slice (some ⟨g, 0, none⟩) n c) (some (.int .i64 k)) none none).run Tryd.prog W = .ok (.slice (some ⟨g, k * 9, none⟩) (n - k) (c - k)) W := by
  obtain ⟨i0, hi, hz0, hz1, hz2⟩ := info_parts infoW
  have h1 := Tryd.underlying97
  have he : Tryd.prog.elem 97 = 113 := by simp [Program.elem, h1]
  have ht : Tryd.prog.underlying 97 = some (.slice (Tryd.prog.elem 97)) := by rw [he]; exact h1
  rw [run_sliceAt_slice W _ _ _ _ _ ht, run_slice_l W _ _ n c ht .i64 (k : Int) (by omega) (by omega), he]
  simp [sizeOf, typeInfo, hi, hz1, sliced, Result.andThen, show ¬ c = k by omega, Addr.add_mid]
theorem own_cap {W : World} {e : TypeId} {size g n c : Nat} {xs : List Value} (h : W.ownsRow 0 e size (.slice (some ⟨g, 0, none⟩) n c) n xs) : n ≤ c := by
  rcases h.2 with ⟨e0, _⟩ | ⟨g', cap, cur, e0, _, _, hc, _⟩
  · cases e0
  · simp only [Value.slice.injEq] at e0
    omega
end Go.Proofs.YtohdgjmmekgcmaaDoor
