/-
  The walk of the law TraceParts, its main case.
-/
import Derived.Test.YtkpiehejkhjhlaaTsM
namespace Go.Proofs.Ytkpiehejkhjhlaa
open Go.RowKit Go.Shelf Go.Maps

/-- m[x], and whether it is there. -/
theorem NumMap.lookOk {e t : TypeId} {q : IntKind} {W : World} {b n : Nat} {f : Int → Option Int} (h : NumMap e q W b n f) (ht : Try.prog.underlying t = some (.map 3 e)) (he : Try.prog.underlying e = some (.int q)) (hz : ∀ w, (zeroValue e).run Try.prog w = .ok (.int q 0) w) (hq : (Lit.int q 0).wf = true) {y : Int} (hy : in64 y) :
    (Instr.lookup t (.map (some b)) (.int .i64 y) true).run Try.prog W = .ok (.tuple #[.int q ((f y).getD 0), .bool (f y).isSome]) W := by
  obtain ⟨D, h1, h2⟩ := h
  obtain ⟨v, ps, r1, r2⟩ := h1.look_ok keyed_int ht (hz W) (plainElem_int (H := Unit) he hq) (key64 hy)
  obtain ⟨c, rfl, hc, -⟩ := plainElem_int_inv he r2
  have e1 : D.atKey (.int .i64 y) (.lit (.int q 0)) = .lit (.int q c) := congrArg Prod.fst hc
  rw [(h2 y).2] at e1
  simp only [DataW.lit.injEq, Lit.int.injEq, true_and] at e1
  rw [r1, e1, (h2 y).1]
/-- How many it has. -/
theorem NumMap.len {e t ty : TypeId} {q : IntKind} {W : World} {b n : Nat} {f : Int → Option Int} (h : NumMap e q W b n f) (ht : Try.prog.underlying t = some (.map 3 e)) {L : List Int} (hn : L.Nodup) (hm : ∀ x, x ∈ L ↔ (f x).isSome = true) :
    (Builtin.len_ #[t] ty #[.map (some b)]).run Try.prog W = .ok (.int .i64 (L.length : Nat)) W := by
  obtain ⟨D, h1, h2⟩ := h
  have hp := perm_keys h1 hn (fun x => by rw [hm x, (h2 x).1])
  obtain ⟨es, rfl⟩ := h1.isMap
  have e1 : L.length = Maps.size (DataW.map es) := by
    rw [hp.length_eq]
    show (es.map _).length = es.length
    rw [List.length_map]
  rw [h1.len ht ty, e1]
/-- Words by address, from a list of puts. -/
def putF (f : Int → Option Int) (ps : List (Nat × Int)) : Int → Option Int := ps.foldl (fun f p => upd f (p.1 : Nat) p.2) f
theorem putF_take {f : Int → Option Int} {ps : List (Nat × Int)} {k : Nat} {x : Nat × Int} (h : ps[k]? = some x) : putF f (ps.take (k + 1)) = upd (putF f (ps.take k)) (x.1 : Nat) x.2 := by
  obtain ⟨hk, rfl⟩ := List.getElem?_eq_some_iff.1 h
  unfold putF
  rw [List.take_succ_eq_append_getElem hk, List.foldl_append]
  rfl
theorem putF_list (g : Int → Int) : ∀ (l : List Nat) (f : Int → Option Int) (x : Int), putF f (l.map fun k : Nat => (k, g (k : Int))) x = if x ∈ l.map (fun k : Nat => (k : Int)) then some (g x) else f x
  | [], f, x => by simp [putF]
  | k :: l, f, x => by
    have ih := putF_list g l (upd f (k : Nat) (g (k : Int))) x
    have e : putF f ((k :: l).map fun k : Nat => (k, g (k : Int))) = putF (upd f (k : Nat) (g (k : Int))) (l.map fun k : Nat => (k, g (k : Int))) := rfl
    rw [e, ih]
    by_cases h1 : x ∈ l.map (fun k : Nat => (k : Int))
    · rw [if_pos h1, if_pos (by rw [List.map_cons]; exact List.mem_cons_of_mem _ h1)]
    · rw [if_neg h1]
      unfold upd
      by_cases h2 : x = (k : Int)
      · rw [if_pos h2, if_pos (by rw [List.map_cons, h2]; exact List.mem_cons_self), h2]
      · rw [if_neg h2, if_neg (by
          rw [List.map_cons]
          intro h
          rcases List.mem_cons.1 h with h | h
          · exact h2 h
          · exact h1 h)]
theorem putF_words (ts : List Tch) (f : Int → Option Int) (x : Int) : putF f (putsV ts) x = (wordsV ts x).or (f x) := by
  unfold putsV
  rw [putF_list (fun x => (wordsV ts x).getD 0)]
  cases h : wordsV ts x with
  | none => rw [if_neg (fun hm => by have := (mem_addrsV ts x).1 hm; rw [h] at this; cases this)]; rfl
  | some y => rw [if_pos ((mem_addrsV ts x).2 (by rw [h]; rfl))]; rfl
/-- Two lists of puts, and what both lists store. -/
theorem putF_both {ts us : List Tch} (h1 : checkT ts = 0) (h2 : checkT us = 0) (h3 : checkT (ts ++ us) = 0) : putF (putF (fun _ => none) (putsV ts)) (putsV us) = wordsV (ts ++ us) := by
  funext x
  rw [putF_words, putF_words]
  unfold wordsV
  rw [if_pos h1, if_pos h2, if_pos h3, stAt_all, stAt_all, stAt_all, stF_append, stF_or us (stF (fun _ => none) ts) x]
  simp
theorem puts_word {ts : List Tch} {k : Nat} {x : Nat × Int} (h : (putsV ts)[k]? = some x) : wordsV ts (x.1 : Nat) = some x.2 ∧ x.1 < 8192 := by
  have hm := List.mem_of_getElem? h
  unfold putsV at hm
  obtain ⟨j, hj, rfl⟩ := List.mem_map.1 hm
  unfold addrsV at hj
  obtain ⟨h1, h2⟩ := List.mem_filter.1 hj
  refine ⟨?_, List.mem_range.1 h1⟩
  obtain ⟨y, hy⟩ := Option.isSome_iff_exists.1 h2
  show wordsV ts (j : Int) = some ((wordsV ts (j : Int)).getD 0)
  rw [hy]
  rfl
/-- A row of puts stays while another block alone is written. -/
theorem put_keep {w W : World} {B c M : Nat} {a : Option Addr} {ps : List (Nat × Int)} {r : Nat} (hM : ps.length = M) (h : w.ownsRow B 52 2 (.slice a M c) M (flatC cP ps)) (hr : r < B) (hg : w.grownBy W (some r)) (k : Nat) (hk : k < M) :
    ∃ b off x, ps[k]? = some x ∧ a = some ⟨b, off, none⟩ ∧ W.cell? ⟨b, off + k * 2, none⟩ = some (.int .i64 (x.1 : Nat)) ∧ W.cell? ⟨b, off + k * 2 + 1, none⟩ = some (.int .u64 x.2) := by
  obtain ⟨b, off, x, h1, rfl, hat⟩ := put_at hM h k hk
  obtain ⟨h2, h3⟩ := h.lt b rfl
  obtain ⟨c0, c1⟩ := hat w (Below.refl _ _)
  have hb := hg.block b h3 (by simp; omega)
  exact ⟨b, off, x, h1, rfl, (World.cell?_of_block (a := ⟨b, off + k * 2, none⟩) hb).trans c0, (World.cell?_of_block (a := ⟨b, off + k * 2 + 1, none⟩) hb).trans c1⟩
theorem grown_drew (w : World) (row : Option Nat) : w.grownBy w.drew row := ⟨rfl, rfl, rfl, Nat.le_refl _, fun _ _ _ => rfl⟩
theorem words_ok {ts : List Tch} (hok : ∀ t ∈ ts, okT t) {x y : Int} (h : wordsV ts x = some y) : 0 ≤ y ∧ y ≤ 18446744073709551615 := by
  unfold wordsV at h
  by_cases hc : checkT ts = 0
  · rw [if_pos hc] at h
    have key : ∀ k, ∀ z, stAt ts k x = some z → 0 ≤ z ∧ z ≤ 18446744073709551615 := fun k => by
      induction k with
      | zero => intro z hz; cases hz
      | succ k ih =>
        intro z hz
        cases ht : ts[k]? with
        | none =>
          have e : stAt ts (k + 1) = stAt ts k := by
            show (match ts[k]? with | some t => stStep (stAt ts k) t | none => stAt ts k) = _
            rw [ht]
          rw [e] at hz
          exact ih z hz
        | some t =>
          by_cases hh : t.kind = 2 ∧ t.at_ = x
          · rw [← hh.2, stAt_hit ht hh.1] at hz
            cases hz
            exact (hok t (List.mem_of_getElem? ht)).2
          · rw [stAt_miss ht hh] at hz
            exact ih z hz
    exact key _ y h
  · rw [if_neg hc] at h; cases h
end Go.Proofs.Ytkpiehejkhjhlaa
