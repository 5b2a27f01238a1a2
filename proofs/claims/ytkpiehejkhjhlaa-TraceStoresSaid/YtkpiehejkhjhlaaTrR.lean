/-
  trace: Stores.
-/
import Derived.Test.YtkpiehejkhjhlaaTrQ
namespace Go.Proofs.Ytkpiehejkhjhlaa
open Go.RowKit Go.Shelf Go.Maps

/-- The words stored by so many touches. -/
def stStep (f : Int → Option Int) (t : Tch) : Int → Option Int := if storesL t then upd f t.at_ t.word else f
def stAt (ts : List Tch) : Nat → Int → Option Int
  | 0 => fun _ => none
  | k + 1 => match ts[k]? with | some t => stStep (stAt ts k) t | none => stAt ts k
theorem stAt_succ {ts : List Tch} {k : Nat} {t : Tch} (h : ts[k]? = some t) : stAt ts (k + 1) = stStep (stAt ts k) t := by
  show (match ts[k]? with | some t => stStep (stAt ts k) t | none => stAt ts k) = _
  rw [h]
/-- The words that a list stores; none, if it is not right. -/
def wordsV (ts : List Tch) : Int → Option Int := if checkT ts = 0 then stAt ts ts.length else fun _ => none
/-- Their addresses, rising. -/
def addrsV (ts : List Tch) : List Nat := (List.range 8192).filter fun k => (wordsV ts (k : Int)).isSome
theorem check_right {ts : List Tch} (h : checkT ts = 0) : ts.all rightT = true ∧ ts.length ≤ 4096 := by
  unfold checkT at h
  by_cases ha : ts.all rightT = true
  · rw [if_pos ha] at h
    exact ⟨ha, Nat.le_of_not_lt fun h2 => by rw [if_pos h2] at h; omega⟩
  · rw [if_neg ha] at h; omega
theorem stAt_range {ts : List Tch} (hr : ts.all rightT = true) : ∀ (k : Nat) (x : Int), (stAt ts k x).isSome = true → 0 ≤ x ∧ x < 8192
  | 0, x, h => by cases h
  | k + 1, x, h => by
    cases ht : ts[k]? with
    | none =>
      have e : stAt ts (k + 1) = stAt ts k := by
        show (match ts[k]? with | some t => stStep (stAt ts k) t | none => stAt ts k) = _
        rw [ht]
      rw [e] at h
      exact stAt_range hr k x h
    | some t =>
      rw [stAt_succ ht] at h
      unfold stStep at h
      have hm : t ∈ ts := List.mem_of_getElem? ht
      have hrt := List.all_eq_true.1 hr t hm
      cases hs : storesL t with
      | false => rw [hs] at h; exact stAt_range hr k x h
      | true =>
        rw [hs, if_pos rfl] at h
        unfold upd at h
        by_cases hx : x = t.at_
        · unfold storesL at hs
          have hk := of_decide_eq_true hs
          unfold rightT at hrt
          rw [if_pos (.inr hk)] at hrt
          rw [hx]
          exact of_decide_eq_true hrt
        · rw [if_neg hx] at h
          exact stAt_range hr k x h
theorem mem_addrsV (ts : List Tch) (x : Int) : x ∈ (addrsV ts).map (fun k : Nat => (k : Int)) ↔ (wordsV ts x).isSome = true := by
  unfold addrsV
  rw [List.mem_map]
  constructor
  · rintro ⟨k, hk, rfl⟩
    exact (List.mem_filter.1 hk).2
  · intro h
    have hx : 0 ≤ x ∧ x < 8192 := by
      unfold wordsV at h
      by_cases hc : checkT ts = 0
      · rw [if_pos hc] at h
        exact stAt_range (check_right hc).1 _ x h
      · rw [if_neg hc] at h; cases h
    refine ⟨x.toNat, List.mem_filter.2 ⟨List.mem_range.2 (by omega), ?_⟩, by omega⟩
    rw [show ((x.toNat : Nat) : Int) = x by omega]
    exact h
theorem addrsV_nodup (ts : List Tch) : ((addrsV ts).map (fun k : Nat => (k : Int))).Nodup := by
  refine List.Pairwise.map _ (fun a b h e => h (by omega)) (List.Pairwise.filter _ List.nodup_range)
theorem addrsV_sorted (ts : List Tch) : ((addrsV ts).map (fun k : Nat => (k : Int))).Pairwise (fun a b => leI a b = true) := by
  have h : (addrsV ts).Pairwise (fun a b => a < b) := List.Pairwise.filter _ List.pairwise_lt_range
  exact List.pairwise_map.2 (h.imp fun {a b} h => decide_eq_true (by omega))
/-- In the rounds of Stores. -/
structure StI (w : World) (k : Nat) (f : Int → Option Int) (wr : World) : Prop where
  map : NumMap 30 .u64 wr w.heap.size k f
  box : Boxed wr (w.heap.size + 1) 56 (.map (some w.heap.size))
  below : Below w.heap.size w wr
theorem StI.turn {w wr W : World} {k : Nat} {f : Int → Option Int} (h : StI w k f wr) (hb : Below wr.heap.size wr W) : StI w k f W :=
  ⟨h.map.below hb, (hb.block _ h.box.lt).trans h.box, h.below.trans (hb.mono h.below.size)⟩
theorem StI.mono {w wr : World} {k k' : Nat} {f : Int → Option Int} (h : StI w k f wr) (hk : k ≤ k') : StI w k' f wr := ⟨h.map.mono hk, h.box, h.below⟩
theorem StI.stored {w wr W : World} {k : Nat} {f g : Int → Option Int} (h : StI w k f wr) (hm : NumMap 30 .u64 W w.heap.size (k + 1) g) (hg : wr.grownBy W (some w.heap.size)) : StI w (k + 1) g W :=
  ⟨hm, (hg.block _ h.box.lt (by simp)).trans h.box, below_grown h.below hg (Nat.le_refl _) h.below.size⟩
theorem zeroU (w : World) : (zeroValue 30).run Try.prog w = .ok (.int .u64 0) w := by kernel_rfl
/-- What Stores hands on: in block p the addresses, in block m a map's pointer. -/
structure StoresAt (W : World) (B p m : Nat) (u : Value) (c : Nat) (ts : List Tch) : Prop where
  row : W.ownsRow B 3 1 u (addrsV ts).length (valsOf .i64 (addrsV ts))
  box : Boxed W p 24 u
  lowP : B ≤ p
  map : NumMap 30 .u64 W B c (wordsV ts)
  mbox : Boxed W m 56 (.map (some B))
  lowM : B ≤ m

theorem own_lt2 {W : World} {base : Nat} {e : TypeId} {size g n c : Nat} {xs : List Value} (h : W.ownsRow base e size (.slice (some ⟨g, 0, none⟩) n c) n xs) : g < W.heap.size := (h.lt g rfl).2
end Go.Proofs.Ytkpiehejkhjhlaa
