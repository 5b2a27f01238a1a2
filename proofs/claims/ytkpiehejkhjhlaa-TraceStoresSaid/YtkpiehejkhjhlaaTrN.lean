/-
  trace: Lines, closing, Clone.
-/
import Derived.Test.YtkpiehejkhjhlaaTrM
import Derived.Test.YtkpiehejkhjhlaaVec
namespace Go.Proofs.Ytkpiehejkhjhlaa
open Go.RowKit Go.Shelf Go.Maps

/-- A touch's cells. -/
abbrev cT (t : Tch) : List Value := (touchA t).toList
theorem cT_len (t : Tch) : (cT t).length = 3 := rfl
theorem cT_one (t : Tch) : ∀ u ∈ cT t, u.oneCell' = true := by
  intro u hu
  simp [cT] at hu
  rcases hu with rfl | rfl | rfl <;> rfl
theorem SlT.vec {W : World} {v : Value} {ts : List Tch} (h : SlT W v ts) : Vec W v ts.length 3 (flatC cT ts) := by
  obtain ⟨a, cap, rfl, hl, hc⟩ := h
  exact Vec.of_at cT_len (by decide) hl hc
theorem slT_of_vec {W : World} {v : Value} {ts : List Tch} (h : Vec W v ts.length 3 (flatC cT ts)) : SlT W v ts := by
  have h' := h
  obtain ⟨-, a, cap, rfl, hl, hc⟩ := h
  refine ⟨a, cap, rfl, hl, fun h0 => ?_⟩
  obtain ⟨b, off, ha, hb, -⟩ := hc h0
  refine ⟨b, off, ha, hb, fun k hk => ?_⟩
  obtain ⟨b', off', cap', e, -, hr⟩ := h'.at_ cT_len k hk
  simp only [Value.slice.injEq, ha, Option.some.injEq, Addr.mk.injEq] at e
  obtain ⟨⟨rfl, rfl, -⟩, -⟩ := e
  exact hr
/-- What makes a list orderly. -/
def closeV (ts : List Tch) : List Tch := (linesV storesL ts).map (fun k : Nat => (⟨3, k, 0⟩ : Tch)) ++ [⟨4, 0, 0⟩]
theorem vec_new (W : World) (cs : Array Value) (t : TypeId) (n s : Nat) (h : cs.size = n * s) : Vec (W.alloc (.cells cs t)) (.slice (some ⟨W.heap.size, 0, none⟩) n n) n s cs.toList :=
  ⟨by rw [Array.length_toList]; exact h, _, _, rfl, Nat.le_refl _, fun _ => ⟨_, _, rfl, by simp, fun j y hy => by
    have e := World.alloc_heap_new W (.cells cs t)
    rw [Array.getElem?_toList] at hy
    show (match (W.alloc (.cells cs t)).heap[W.heap.size]? with | some (.cells c _ _) => c[0 + j]? | _ => none) = _
    rw [e, Nat.zero_add]
    exact hy⟩⟩
theorem infoT : (Try.prog.info? 32).map (fun i => (i.zero, i.size, i.bytes)) = some (some (.agg #[.int .i64 0, .int .i64 0, .int .u64 0]), 3, 24) := by kernel_rfl
theorem info_of {P : Program} {e : TypeId} {z : Value} {s b : Nat} (h : (P.info? e).map (fun i => (i.zero, i.size, i.bytes)) = some (some z, s, b)) : ∃ i, P.info? e = some i ∧ i.zero = some z ∧ i.size = s ∧ i.bytes = b := by
  obtain ⟨i, hi, h2⟩ := Option.map_eq_some_iff.1 h
  simp only [Prod.mk.injEq] at h2
  exact ⟨i, hi, h2.1, h2.2.1, h2.2.2⟩
set_option maxHeartbeats 2000000 in
theorem linesT_any {v : Value} {ts : List Tch} (w : World) (hl : ts.length ≤ 9223372036854775807) (hs : SlT w v ts) :
    Calls Try.prog 11 #[v] w fun e w' => ∃ u, e = .returned (.tuple #[u, .int .i64 (checkT ts)]) ∧ Sl w' .i64 u (if checkT ts = 0 then linesV hasL ts else []) ∧ Below w.heap.size w w' := by
  have HC := Lib.hid (checkT_any w hl hs)
  obtain ⟨a, cap, rfl, -⟩ := id hs
  obtain ⟨N, hN⟩ : ∃ N, ts.length = N := ⟨_, rfl⟩
  by_cases hc : checkT ts = 0
  · have h2 : ts.all rightT = true ∧ ts.length ≤ 4096 := by
      unfold checkT at hc
      by_cases ha : ts.all rightT = true
      · rw [if_pos ha] at hc
        exact ⟨ha, Nat.le_of_not_lt fun h => by rw [if_pos h] at hc; omega⟩
      · rw [if_neg ha] at hc; omega
    have HL := Lib.hid (fun W (hb : Below w.heap.size w W) => linesH_any W h2.2 (hs.below hb) h2.1)
    rw [if_pos hc, hc]
    rw [hc] at HC
    rw [hN] at HC HL
    rw [hN]
    clear hs h2 hc hN
    go_enter Try.func11, Try.ntmps11
    go_wp2_with fail
    refine wp_scope_forward 0 rfl ?_
    go_wp2_with fail
    refine HC.out.mono ?_
    rintro e w1 ⟨rfl, hb1⟩
    have HB1 := Lib.hid hb1
    clear hb1
    go_wp2_with fail
    refine (HL.out w1 HB1.out).mono ?_
    rintro e w2 ⟨u, rfl, hrow, hb2⟩
    have HR : Hid (Sl w2 .i64 u (linesV hasL ts)) := show Sl _ _ _ _ from own_sl hrow
    have HB2 : Hid (Below w.heap.size w w2) := show Below _ _ _ from HB1.out.trans (hb2.mono HB1.out.size)
    clear hrow hb2
    go_wp2_with fail
    rw [Exit.jump_ret]
    go_ret2
    exact ⟨u, rfl, HR.out, HB2.out⟩
  · rw [if_neg hc]
    rw [hN] at HC
    rw [hN]
    obtain ⟨q, hq⟩ : ∃ q, checkT ts = q := ⟨_, rfl⟩
    rw [hq] at HC hc ⊢
    have hq2 : (q != 0) = true := by simp [hc]
    clear hs hN hq
    go_enter Try.func11, Try.ntmps11
    go_wp2_with fail
    refine wp_scope_forward 0 rfl ?_
    go_wp2_with fail
    refine HC.out.mono ?_
    rintro e w1 ⟨rfl, hb1⟩
    go_wp2_with fail
    go_step3
    refine ⟨rfl, ?_⟩
    go_wp2
    rw [Exit.jump_ret]
    go_ret2
    exact ⟨_, rfl, ⟨none, 0, rfl, by simp, fun h => by simp at h⟩, hb1⟩
end Go.Proofs.Ytkpiehejkhjhlaa
