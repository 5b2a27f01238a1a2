/-
  Texts MdF to MdG, as one.
-/
import Derived.Test.YtgoemaecdolioaaGreatDoorMo26
/-
  model: what is done to a tree by one call. (gen_mdf.py)
-/
namespace Go.Proofs.YtgoemaecdolioaaGreatDoor
open Go.RowKit Go.Shelf
attribute [local go_sem] Oper.semAt_some

/-- What a tree's change leaves: the document's tree, and an error, told or given up with. -/
def DeedR (lo T r m : Nat) (G : Gr) (R : RT × Int) (w : World) (e : Ending) (w' : World) : Prop :=
  (∃ G', TreeR lo w' T r G' (m + 1) R.1 ∧ Turn (fun j => Foot G j ∨ w.heap.size ≤ j) w w' ∧ ∀ j, Foot G' j → Foot G j ∨ w.heap.size ≤ j) ∧ (e = .returned (.int .i64 R.2) ∨ (R.2 ≠ 0 ∧ e = .panicked (refuseM R.2)))
theorem turn_behind {G : Gr} {w W w' : World} (hb : Below w.heap.size w W) (ht : Turn (fun j => Foot G j ∨ W.heap.size ≤ j) W w') : Turn (fun j => Foot G j ∨ w.heap.size ≤ j) w w' := by
  have hs := hb.size
  exact (Turn.of_below hb (Nat.le_refl _)).trans (ht.mono fun j hj => hj.elim .inl fun h => .inr (by omega))
theorem foot_behind {G G' : Gr} {w W : World} (hb : Below w.heap.size w W) (hf : ∀ j, Foot G' j → Foot G j ∨ W.heap.size ≤ j) : ∀ j, Foot G' j → Foot G j ∨ w.heap.size ≤ j := fun j hj => by
  have hs := hb.size
  rcases hf j hj with h | h
  · exact .inl h
  · exact .inr (by omega)
/-- How a world and an operation lie in a method of world. -/
structure ArgsAt (W : World) (B T : Nat) (x : OpX) : Prop where
  w : W.cell? ⟨B, 0, none⟩ = some (.pointer (some ⟨T, 0, none⟩))
  c0 : W.cell? ⟨B + 1, 0, none⟩ = some (.int .i64 x.kind)
  c1 : W.cell? ⟨B + 1, 1, none⟩ = some (encStr x.path)
  c2 : W.cell? ⟨B + 1, 2, none⟩ = some (encStr x.other)
  c3 : W.cell? ⟨B + 1, 3, none⟩ = some (.int .i64 x.place)
  c4 : W.cell? ⟨B + 1, 4, none⟩ = some (.int .i64 x.many)
  c5 : W.cell? ⟨B + 1, 5, none⟩ = some x.ub
theorem argsAt_new (w : World) (T : Nat) (x : OpX) : ∃ W2, (w.alloc (.cells #[.pointer (some ⟨T, 0, none⟩)] 58)).alloc (.cells (opA x) 25) = W2 ∧ Below w.heap.size w W2 ∧ ∀ W, Below W2.heap.size W2 W → ArgsAt W w.heap.size T x := by
  refine ⟨_, rfl, ((Below.refl _ w).alloc (Nat.le_refl _) _).alloc (by rw [World.size_alloc]; omega) _, fun W hW => ?_⟩
  have hs1 : (w.alloc (.cells #[.pointer (some ⟨T, 0, none⟩)] 58)).heap.size = w.heap.size + 1 := World.size_alloc _ _
  have hs2 := World.size_alloc (w.alloc (.cells #[.pointer (some ⟨T, 0, none⟩)] 58)) (.cells (opA x) 25)
  have h1 : Blk (w.alloc (.cells #[.pointer (some ⟨T, 0, none⟩)] 58)) w.heap.size 58 #[.pointer (some ⟨T, 0, none⟩)] := Blk.new _ _ _
  have h2 := h1.below ((Below.refl (w.alloc (.cells #[.pointer (some ⟨T, 0, none⟩)] 58)).heap.size _).alloc (Nat.le_refl _) (.cells (opA x) 25)) h1.lt
  have h3 := h2.below hW h2.lt
  have g1 : Blk _ _ 25 (opA x) := Blk.new (w.alloc (.cells #[.pointer (some ⟨T, 0, none⟩)] 58)) 25 (opA x)
  have g2 := g1.below hW g1.lt
  rw [hs1] at g2
  exact ⟨h3.cell rfl, g2.cell rfl, g2.cell rfl, g2.cell rfl, g2.cell rfl, g2.cell rfl, g2.cell rfl⟩
set_option maxRecDepth 100000 in
set_option maxHeartbeats 4000000 in
theorem newFile11_any {lo T r m : Nat} {G : Gr} {t : RT} {w : World} (h : TreeR lo w T r G m t) (hm : m < 90000) (x : OpX) (hp : x.path.length ≤ 1000000) (ho : x.other.length ≤ 1000000) :
    Calls Tryz.prog 97 #[.agg #[.pointer (some ⟨T, 0, none⟩)], .agg (opA x)] w (DeedR lo T r m G (rMake t x.path 1) w) := by
  obtain ⟨W2, hW2, hb, hA⟩ := argsAt_new w T x
  have HS := Lib.hid (make_spec (h.below hb) hm x.path hp 1)
  have HB := Lib.hid hb
  obtain ⟨cw, c0, c1, c2, c3, c4, c5⟩ := hA W2 (Below.refl _ _)
  obtain ⟨p, hp2⟩ : ∃ p, encStr x.path = p := ⟨_, rfl⟩
  obtain ⟨q, hq⟩ : ∃ p, encStr x.other = p := ⟨_, rfl⟩
  obtain ⟨ub, hub⟩ : ∃ p, x.ub = p := ⟨_, rfl⟩
  obtain ⟨R, hR⟩ : ∃ R, rMake t x.path 1 = R := ⟨_, rfl⟩
  unfold opA at hW2 ⊢
  rw [hR] at HS ⊢
  rw [hp2] at c1
  rw [hq] at c2
  rw [hub] at c5
  rw [hp2, hq, hub] at hW2 ⊢
  rw [hp2] at HS
  clear h hb hA hp ho hp2 hq hub hR hm
  go_enter Tryz.func97, Tryz.ntmps97
  go_wp2_with fail
  refine HS.out.mono ?_
  rintro e w3 ⟨rfl, G', g1, g2, g3⟩
  have HG : Hid (∃ G', TreeR lo w3 T r G' (m + 1) R.1 ∧ Turn (fun j => Foot G j ∨ w.heap.size ≤ j) w w3 ∧ ∀ j, Foot G' j → Foot G j ∨ w.heap.size ≤ j) := show ∃ _, _ from ⟨G', g1, turn_behind HB.out g2, foot_behind HB.out g3⟩
  clear g1 g2 g3 c0 c1 c2 c3 c4 c5 cw hW2
  go_wp2_with fail
  go_ret
  exact ⟨HG.out, .inl (by first | rfl | simp)⟩
set_option maxRecDepth 100000 in
set_option maxHeartbeats 4000000 in
theorem newDir11_any {lo T r m : Nat} {G : Gr} {t : RT} {w : World} (h : TreeR lo w T r G m t) (hm : m < 90000) (x : OpX) (hp : x.path.length ≤ 1000000) (ho : x.other.length ≤ 1000000) :
    Calls Tryz.prog 98 #[.agg #[.pointer (some ⟨T, 0, none⟩)], .agg (opA x)] w (DeedR lo T r m G (rMake t x.path 2) w) := by
  obtain ⟨W2, hW2, hb, hA⟩ := argsAt_new w T x
  have HS := Lib.hid (make_spec (h.below hb) hm x.path hp 2)
  have HB := Lib.hid hb
  obtain ⟨cw, c0, c1, c2, c3, c4, c5⟩ := hA W2 (Below.refl _ _)
  obtain ⟨p, hp2⟩ : ∃ p, encStr x.path = p := ⟨_, rfl⟩
  obtain ⟨q, hq⟩ : ∃ p, encStr x.other = p := ⟨_, rfl⟩
  obtain ⟨ub, hub⟩ : ∃ p, x.ub = p := ⟨_, rfl⟩
  obtain ⟨R, hR⟩ : ∃ R, rMake t x.path 2 = R := ⟨_, rfl⟩
  unfold opA at hW2 ⊢
  rw [hR] at HS ⊢
  rw [hp2] at c1
  rw [hq] at c2
  rw [hub] at c5
  rw [hp2, hq, hub] at hW2 ⊢
  rw [hp2] at HS
  clear h hb hA hp ho hp2 hq hub hR hm
  go_enter Tryz.func98, Tryz.ntmps98
  go_wp2_with fail
  refine HS.out.mono ?_
  rintro e w3 ⟨rfl, G', g1, g2, g3⟩
  have HG : Hid (∃ G', TreeR lo w3 T r G' (m + 1) R.1 ∧ Turn (fun j => Foot G j ∨ w.heap.size ≤ j) w w3 ∧ ∀ j, Foot G' j → Foot G j ∨ w.heap.size ≤ j) := show ∃ _, _ from ⟨G', g1, turn_behind HB.out g2, foot_behind HB.out g3⟩
  clear g1 g2 g3 c0 c1 c2 c3 c4 c5 cw hW2
  go_wp2_with fail
  go_ret
  exact ⟨HG.out, .inl (by first | rfl | simp)⟩
set_option maxRecDepth 100000 in
set_option maxHeartbeats 4000000 in
theorem unlink11_any {lo T r m : Nat} {G : Gr} {t : RT} {w : World} (h : TreeR lo w T r G m t) (hm : m < 90000) (x : OpX) (hp : x.path.length ≤ 1000000) (ho : x.other.length ≤ 1000000) :
    Calls Tryz.prog 99 #[.agg #[.pointer (some ⟨T, 0, none⟩)], .agg (opA x)] w (DeedR lo T r m G (rDrop t x.path) w) := by
  obtain ⟨W2, hW2, hb, hA⟩ := argsAt_new w T x
  have HS := Lib.hid (drop_spec (h.below hb) x.path hp)
  have HB := Lib.hid hb
  obtain ⟨cw, c0, c1, c2, c3, c4, c5⟩ := hA W2 (Below.refl _ _)
  obtain ⟨p, hp2⟩ : ∃ p, encStr x.path = p := ⟨_, rfl⟩
  obtain ⟨q, hq⟩ : ∃ p, encStr x.other = p := ⟨_, rfl⟩
  obtain ⟨ub, hub⟩ : ∃ p, x.ub = p := ⟨_, rfl⟩
  obtain ⟨R, hR⟩ : ∃ R, rDrop t x.path = R := ⟨_, rfl⟩
  unfold opA at hW2 ⊢
  rw [hR] at HS ⊢
  rw [hp2] at c1
  rw [hq] at c2
  rw [hub] at c5
  rw [hp2, hq, hub] at hW2 ⊢
  rw [hp2] at HS
  clear h hb hA hp ho hp2 hq hub hR hm
  go_enter Tryz.func99, Tryz.ntmps99
  go_wp2_with fail
  refine HS.out.mono ?_
  rintro e w3 ⟨rfl, G', g1, g2, g3⟩
  have HG : Hid (∃ G', TreeR lo w3 T r G' (m + 1) R.1 ∧ Turn (fun j => Foot G j ∨ w.heap.size ≤ j) w w3 ∧ ∀ j, Foot G' j → Foot G j ∨ w.heap.size ≤ j) := show ∃ _, _ from ⟨G', g1, turn_behind HB.out g2, foot_behind HB.out g3⟩
  clear g1 g2 g3 c0 c1 c2 c3 c4 c5 cw hW2
  go_wp2_with fail
  go_ret
  exact ⟨HG.out, .inl (by first | rfl | simp)⟩
set_option maxRecDepth 100000 in
set_option maxHeartbeats 4000000 in
theorem rmdir11_any {lo T r m : Nat} {G : Gr} {t : RT} {w : World} (h : TreeR lo w T r G m t) (hm : m < 90000) (x : OpX) (hp : x.path.length ≤ 1000000) (ho : x.other.length ≤ 1000000) :
    Calls Tryz.prog 100 #[.agg #[.pointer (some ⟨T, 0, none⟩)], .agg (opA x)] w (DeedR lo T r m G (rRemove t x.path) w) := by
  obtain ⟨W2, hW2, hb, hA⟩ := argsAt_new w T x
  have HS := Lib.hid (remove_spec (h.below hb) x.path hp)
  have HB := Lib.hid hb
  obtain ⟨cw, c0, c1, c2, c3, c4, c5⟩ := hA W2 (Below.refl _ _)
  obtain ⟨p, hp2⟩ : ∃ p, encStr x.path = p := ⟨_, rfl⟩
  obtain ⟨q, hq⟩ : ∃ p, encStr x.other = p := ⟨_, rfl⟩
  obtain ⟨ub, hub⟩ : ∃ p, x.ub = p := ⟨_, rfl⟩
  obtain ⟨R, hR⟩ : ∃ R, rRemove t x.path = R := ⟨_, rfl⟩
  unfold opA at hW2 ⊢
  rw [hR] at HS ⊢
  rw [hp2] at c1
  rw [hq] at c2
  rw [hub] at c5
  rw [hp2, hq, hub] at hW2 ⊢
  rw [hp2] at HS
  clear h hb hA hp ho hp2 hq hub hR hm
  go_enter Tryz.func100, Tryz.ntmps100
  go_wp2_with fail
  refine HS.out.mono ?_
  rintro e w3 ⟨rfl, G', g1, g2, g3⟩
  have HG : Hid (∃ G', TreeR lo w3 T r G' (m + 1) R.1 ∧ Turn (fun j => Foot G j ∨ w.heap.size ≤ j) w w3 ∧ ∀ j, Foot G' j → Foot G j ∨ w.heap.size ≤ j) := show ∃ _, _ from ⟨G', g1, turn_behind HB.out g2, foot_behind HB.out g3⟩
  clear g1 g2 g3 c0 c1 c2 c3 c4 c5 cw hW2
  go_wp2_with fail
  go_ret
  exact ⟨HG.out, .inl (by first | rfl | simp)⟩
set_option maxRecDepth 100000 in
set_option maxHeartbeats 4000000 in
theorem rename11_any {lo T r m : Nat} {G : Gr} {t : RT} {w : World} (h : TreeR lo w T r G m t) (hm : m < 90000) (x : OpX) (hp : x.path.length ≤ 1000000) (ho : x.other.length ≤ 1000000) :
    Calls Tryz.prog 101 #[.agg #[.pointer (some ⟨T, 0, none⟩)], .agg (opA x)] w (DeedR lo T r m G (rMove t x.path x.other) w) := by
  obtain ⟨W2, hW2, hb, hA⟩ := argsAt_new w T x
  have HS := Lib.hid (move_spec (h.below hb) hm x.path x.other hp ho)
  have HB := Lib.hid hb
  obtain ⟨cw, c0, c1, c2, c3, c4, c5⟩ := hA W2 (Below.refl _ _)
  obtain ⟨p, hp2⟩ : ∃ p, encStr x.path = p := ⟨_, rfl⟩
  obtain ⟨q, hq⟩ : ∃ p, encStr x.other = p := ⟨_, rfl⟩
  obtain ⟨ub, hub⟩ : ∃ p, x.ub = p := ⟨_, rfl⟩
  obtain ⟨R, hR⟩ : ∃ R, rMove t x.path x.other = R := ⟨_, rfl⟩
  unfold opA at hW2 ⊢
  rw [hR] at HS ⊢
  rw [hp2] at c1
  rw [hq] at c2
  rw [hub] at c5
  rw [hp2, hq, hub] at hW2 ⊢
  rw [hp2, hq] at HS
  clear h hb hA hp ho hp2 hq hub hR hm
  go_enter Tryz.func101, Tryz.ntmps101
  go_wp2_with fail
  refine HS.out.mono ?_
  rintro e w3 ⟨rfl, G', g1, g2, g3⟩
  have HG : Hid (∃ G', TreeR lo w3 T r G' (m + 1) R.1 ∧ Turn (fun j => Foot G j ∨ w.heap.size ≤ j) w w3 ∧ ∀ j, Foot G' j → Foot G j ∨ w.heap.size ≤ j) := show ∃ _, _ from ⟨G', g1, turn_behind HB.out g2, foot_behind HB.out g3⟩
  clear g1 g2 g3 c0 c1 c2 c3 c4 c5 cw hW2
  go_wp2_with fail
  go_ret
  exact ⟨HG.out, .inl (by first | rfl | simp)⟩
set_option maxRecDepth 100000 in
set_option maxHeartbeats 4000000 in
theorem link11_any {lo T r m : Nat} {G : Gr} {t : RT} {w : World} (h : TreeR lo w T r G m t) (hm : m < 90000) (x : OpX) (hp : x.path.length ≤ 1000000) (ho : x.other.length ≤ 1000000) :
    Calls Tryz.prog 102 #[.agg #[.pointer (some ⟨T, 0, none⟩)], .agg (opA x)] w (DeedR lo T r m G (rLink t x.path x.other) w) := by
  obtain ⟨W2, hW2, hb, hA⟩ := argsAt_new w T x
  have HS := Lib.hid (link_spec (h.below hb) hm x.path x.other hp ho)
  have HB := Lib.hid hb
  obtain ⟨cw, c0, c1, c2, c3, c4, c5⟩ := hA W2 (Below.refl _ _)
  obtain ⟨p, hp2⟩ : ∃ p, encStr x.path = p := ⟨_, rfl⟩
  obtain ⟨q, hq⟩ : ∃ p, encStr x.other = p := ⟨_, rfl⟩
  obtain ⟨ub, hub⟩ : ∃ p, x.ub = p := ⟨_, rfl⟩
  obtain ⟨R, hR⟩ : ∃ R, rLink t x.path x.other = R := ⟨_, rfl⟩
  unfold opA at hW2 ⊢
  rw [hR] at HS ⊢
  rw [hp2] at c1
  rw [hq] at c2
  rw [hub] at c5
  rw [hp2, hq, hub] at hW2 ⊢
  rw [hp2, hq] at HS
  clear h hb hA hp ho hp2 hq hub hR hm
  go_enter Tryz.func102, Tryz.ntmps102
  go_wp2_with fail
  refine HS.out.mono ?_
  rintro e w3 ⟨rfl, G', g1, g2, g3⟩
  have HG : Hid (∃ G', TreeR lo w3 T r G' (m + 1) R.1 ∧ Turn (fun j => Foot G j ∨ w.heap.size ≤ j) w w3 ∧ ∀ j, Foot G' j → Foot G j ∨ w.heap.size ≤ j) := show ∃ _, _ from ⟨G', g1, turn_behind HB.out g2, foot_behind HB.out g3⟩
  clear g1 g2 g3 c0 c1 c2 c3 c4 c5 cw hW2
  go_wp2_with fail
  go_ret
  exact ⟨HG.out, .inl (by first | rfl | simp)⟩
end Go.Proofs.YtgoemaecdolioaaGreatDoor

/-
  model: what is done to a file's bytes. (gen_mdg.py)
-/
namespace Go.Proofs.YtgoemaecdolioaaGreatDoor
open Go.RowKit Go.Shelf
attribute [local go_sem] Oper.semAt_some

def unB (xs : List Nat) : List UInt8 := xs.map UInt8.ofNat
theorem bytesN_unB {xs : List Nat} (h : WM.Bytes256 xs) : bytesN (unB xs) = xs := by
  unfold bytesN unB
  rw [List.map_map]
  have : ∀ x ∈ xs, (UInt8.toNat ∘ UInt8.ofNat) x = x := fun x hx => by
    obtain ⟨i, hi, rfl⟩ := List.mem_iff_getElem.1 hx
    have := h i
    simp only [WM.at', List.getElem?_eq_getElem hi, Option.getD_some] at this
    show (UInt8.ofNat xs[i]).toNat = xs[i]
    rw [UInt8.toNat_ofNat']
    omega
  rw [List.map_congr_left this, List.map_id']
theorem DeedR.same {lo T r m : Nat} {G : Gr} {t : RT} {w w' : World} {c : Int} (h : TreeR lo w T r G m t) (hb : Below w.heap.size w w') (hc : c ≠ 0) : DeedR lo T r m G (t, c) w (.panicked (refuseM c)) w' :=
  ⟨⟨G, (h.below hb).mono (Nat.le_succ m), Turn.of_below hb (Nat.le_refl _), fun j hj => .inl hj⟩, .inr ⟨hc, rfl⟩⟩
/-- The bytes of the file that a path leads to. -/
def xsR (t : RT) (s : List UInt8) : List Nat := bytesN (bytesR t (askR t s).2)
def cutR (t : RT) (x : OpX) : RT × Int := if bytesC t x.path ≠ 0 then (t, bytesC t x.path) else if errW (xsR t x.path).length x.many 0 ≠ 0 then (t, errW (xsR t x.path).length x.many 0) else rPut t x.path (unB (outC (xsR t x.path) x.many))
def writeR (t : RT) (x : OpX) : RT × Int := if bytesC t x.path ≠ 0 then (t, bytesC t x.path) else if errW (xsR t x.path).length x.place (bytesN x.bytes).length ≠ 0 then (t, errW (xsR t x.path).length x.place (bytesN x.bytes).length) else rPut t x.path (unB (outW (xsR t x.path) x.place (bytesN x.bytes)))
set_option maxRecDepth 100000 in
set_option maxHeartbeats 8000000 in
theorem cut11_any {lo T r m : Nat} {G : Gr} {t : RT} {w : World} (h : TreeR lo w T r G m t) (x : OpX) (hp : x.path.length ≤ 1000000) (hu : FB w x.ub (bytesN x.bytes)) (h0 : -9223372036854775808 ≤ x.many) (h1 : x.many ≤ 9223372036854775807) :
    Calls Tryz.prog 104 #[.agg #[.pointer (some ⟨T, 0, none⟩)], .agg (opA x)] w (DeedR lo T r m G (cutR t x) w) := by
  obtain ⟨W2, hW2, hb, hA⟩ := argsAt_new w T x
  have HS := Lib.hid (bytes_spec (h.below hb) x.path hp)
  have HF := Lib.hid (fun W v (hv : FB W v (xsR t x.path)) (_ : Below w.heap.size w W) => cut_any x.many h0 h1 W hv)
  have HT := Lib.hid told11B_any
  have HP := Lib.hid (fun W (hW : Below w.heap.size w W) (ub : Value) (hv : FB W ub (bytesN (unB (outC (xsR t x.path) x.many)))) => put_spec (h.below hW) x.path hp hv)
  have HSAME := Lib.hid (fun c w' (hb : Below w.heap.size w w') (hc : c ≠ 0) => DeedR.same h hb hc)
  have HB := Lib.hid hb
  obtain ⟨ua, uc, hub, -⟩ := hu.form
  have HA : Hid (∀ W, Below W2.heap.size W2 W → W.cell? ⟨w.heap.size, 0, none⟩ = some (.pointer (some ⟨T, 0, none⟩)) ∧ W.cell? ⟨w.heap.size + 1, 1, none⟩ = some (encStr x.path) ∧ W.cell? ⟨w.heap.size + 1, 3, none⟩ = some (.int .i64 x.place) ∧ W.cell? ⟨w.heap.size + 1, 4, none⟩ = some (.int .i64 x.many) ∧ W.cell? ⟨w.heap.size + 1, 5, none⟩ = some x.ub ∧ Below W2.heap.size W2 W) := show ∀ W, _ from fun W hW => ⟨(hA W hW).w, (hA W hW).c1, (hA W hW).c3, (hA W hW).c4, (hA W hW).c5, hW⟩
  have HFR : Hid (cutR t x = if bytesC t x.path ≠ 0 then (t, bytesC t x.path) else if errW (xsR t x.path).length x.many 0 ≠ 0 then (t, errW (xsR t x.path).length x.many 0) else rPut t x.path (unB (outC (xsR t x.path) x.many))) := show _ = _ from rfl
  obtain ⟨xs, hxs⟩ : ∃ xs, xsR t x.path = xs := ⟨_, rfl⟩
  have hxs2 : bytesN (bytesR t (askR t x.path).2) = xs := hxs
  rw [hxs2] at HS
  rw [hxs] at HF HP HFR
  obtain ⟨p, hp2⟩ : ∃ p, encStr x.path = p := ⟨_, rfl⟩
  obtain ⟨q, hq⟩ : ∃ p, encStr x.other = p := ⟨_, rfl⟩
  obtain ⟨c, hc⟩ : ∃ c, bytesC t x.path = c := ⟨_, rfl⟩
  obtain ⟨d, hd⟩ : ∃ d, errW xs.length x.many 0 = d := ⟨_, rfl⟩
  obtain ⟨R, hR⟩ : ∃ R, cutR t x = R := ⟨_, rfl⟩
  unfold opA at hW2 ⊢
  try rw [hub] at HF
  rw [hub] at HA hW2 ⊢
  rw [hR] at HFR ⊢
  rw [hc, hd] at HFR
  rw [hc, hp2] at HS
  rw [hd] at HF
  rw [hp2] at HP HA
  rw [hp2, hq] at hW2 ⊢
  obtain ⟨pl, hpl⟩ : ∃ y, x.place = y := ⟨_, rfl⟩
  obtain ⟨mn, hmn⟩ : ∃ y, x.many = y := ⟨_, rfl⟩
  rw [hpl, hmn] at hW2 HA ⊢
  rw [hmn] at HF HP HFR
  obtain ⟨cw, c1, c3, c4, c5, -⟩ := HA.out W2 (Below.refl _ _)
  obtain ⟨kd, hkd⟩ : ∃ y, x.kind = y := ⟨_, rfl⟩
  obtain ⟨ul, hul⟩ : ∃ y, (bytesN x.bytes).length = y := ⟨_, rfl⟩
  rw [hkd, hul] at hW2 ⊢
  try rw [hul] at HF
  rw [hul] at HA c5
  clear h hb hA hp hp2 hq hub hR hu h0 h1 hxs hxs2 hc hd hpl hmn hkd hul
  go_enter Tryz.func104, Tryz.ntmps104
  go_wp2_with fail
  refine HS.out.mono ?_
  rintro e w3 ⟨v, rfl, hv, hb3⟩
  have HV := Lib.hid hv
  have HB3 := Lib.hid hb3
  clear hv hb3 cw c1 c3 c4 c5 hW2
  go_wp2_with fail
  refine (HT.out v c w3).mono ?_
  rintro e w4 ⟨rfl, ⟨rfl, rfl⟩ | ⟨hc, rfl⟩⟩
  rotate_left
  · have hr := HFR.out
    rw [if_pos hc] at hr
    exact ⟨rfl, by rw [hr]; exact HSAME.out _ _ (HB.out.trans (HB3.out.mono HB.out.size)) hc⟩
  have hv := HV.out
  rw [if_pos rfl] at hv
  have hr := HFR.out
  rw [if_neg (fun h => h rfl)] at hr
  have HV2 := Lib.hid hv
  have HR := Lib.hid hr
  clear hv hr HV HFR
  go_wp2_with fail
  have hR := HA.out _ HB3.out.drew
  refine wp_region_M 11 (fun V : World => V.cell? ⟨w.heap.size, 0, none⟩ = some (.pointer (some ⟨T, 0, none⟩)) ∧ V.cell? ⟨w.heap.size + 1, 1, none⟩ = some p ∧ V.cell? ⟨w.heap.size + 1, 3, none⟩ = some (.int .i64 pl) ∧ V.cell? ⟨w.heap.size + 1, 4, none⟩ = some (.int .i64 mn) ∧ V.cell? ⟨w.heap.size + 1, 5, none⟩ = some (.slice ua ul uc) ∧ Below W2.heap.size W2 V) (by kernel_rfl) ?_
  (refine wpAnyM_take2 8 (i := 0) (v := ?_) rfl (by kernel_rfl) (by kernel_rfl) (fun _ _ _ h => h) (Or.inl ⟨by rfl, ?_⟩) hR ?_; rotate_left; (focus (intro w hSw; (try dsimp only at hSw); go_simp; (try with_reducible rfl))); (try simp only [put_laws])); (refine wpAnyM_take2 8 (i := 2) (v := ?_) rfl (by kernel_rfl) (by kernel_rfl) (fun _ _ _ h => h) (Or.inl ⟨by rfl, ?_⟩) hR ?_; rotate_left; (focus (intro w hSw; (try dsimp only at hSw); go_simp; (try with_reducible rfl))); (try simp only [put_laws])); (refine wpAnyM_take2 8 (i := 4) (v := ?_) rfl (by kernel_rfl) (by kernel_rfl) (fun _ _ _ h => h) (Or.inl ⟨by rfl, ?_⟩) hR ?_; rotate_left; (focus (intro w hSw; (try dsimp only at hSw); go_simp; (try with_reducible rfl))); (try simp only [put_laws])); (refine wpAnyM_take2 8 (i := 5) (v := ?_) rfl (by kernel_rfl) (by kernel_rfl) (fun _ _ _ h => h) (Or.inl ⟨by rfl, ?_⟩) hR ?_; rotate_left; (focus (intro w hSw; (try dsimp only at hSw); go_simp; (try with_reducible rfl))); (try simp only [put_laws])); (refine wpAnyM_take2 8 (i := 1) (v := ?_) rfl (by kernel_rfl) (by kernel_rfl) (fun _ _ _ h => h) (Or.inl ⟨by rfl, ?_⟩) hR ?_; rotate_left; (focus (intro w hSw; (try dsimp only at hSw); go_simp; (try with_reducible rfl))); (try simp only [put_laws])); (refine wpAnyM_take2 8 (i := 3) (v := ?_) rfl (by kernel_rfl) (by kernel_rfl) (fun _ _ _ h => h) (Or.inl ⟨by rfl, ?_⟩) hR ?_; rotate_left; (focus (intro w hSw; (try dsimp only at hSw); go_simp; (try with_reducible rfl))); (try simp only [put_laws])); (refine wpAnyM_take2 8 (i := 6) (v := ?_) rfl (by kernel_rfl) (by kernel_rfl) (fun _ _ _ h => h) (Or.inl ⟨by rfl, ?_⟩) hR ?_; rotate_left; (focus (intro w hSw; (try dsimp only at hSw); go_simp; (try with_reducible rfl))); (try simp only [put_laws]))
  (refine wpAnyM_one (i := 7) rfl (by kernel_rfl) (fun K hK => ?_); rw [if_pos (by rfl)]; (try simp only [elem_laws]))
  go_simp
  refine (HF.out _ v (HV2.out.below (Below.refl _ _).drew) (HB.out.trans (hR.2.2.2.2.2.mono HB.out.size))).mono ?_
  rintro e w5 ⟨v5, rfl, hv5, hb5⟩
  have hR' := HA.out _ (hR.2.2.2.2.2.trans (hb5.mono hR.2.2.2.2.2.size))
  refine hK _ _ (fun _ => hR') ?_
  have HV5 := Lib.hid hv5
  clear hK K hR hv5 hb5
  have hR := hR'
  clear hR'
  (try simp only [put_laws])
  (refine wpAnyM_take2 8 (i := 8) (v := ?_) rfl (by kernel_rfl) (by kernel_rfl) (fun _ _ _ h => h) (Or.inl ⟨by rfl, ?_⟩) hR ?_; rotate_left; (focus (intro w hSw; (try dsimp only at hSw); go_simp; (try with_reducible rfl))); (try simp only [put_laws])); (refine wpAnyM_take2 8 (i := 9) (v := ?_) rfl (by kernel_rfl) (by kernel_rfl) (fun _ _ _ h => h) (Or.inl ⟨by rfl, ?_⟩) hR ?_; rotate_left; (focus (intro w hSw; (try dsimp only at hSw); go_simp; (try with_reducible rfl))); (try simp only [put_laws]))
  (refine wpAnyM_one (i := 10) rfl (by kernel_rfl) (fun K hK => ?_); rw [if_pos (by rfl)]; (try simp only [elem_laws]))
  go_simp
  refine (HT.out v5 d w5).mono ?_
  rintro e w6 ⟨rfl, ⟨rfl, rfl⟩ | ⟨hc, rfl⟩⟩
  rotate_left
  · have hr := HR.out
    rw [if_pos hc] at hr
    exact ⟨rfl, by rw [hr]; exact HSAME.out _ _ (HB.out.trans (hR.2.2.2.2.2.mono HB.out.size)) hc⟩
  refine hK _ _ (fun _ => hR) ?_
  clear hK K
  (try simp only [put_laws])
  have hr := HR.out
  rw [if_neg (fun h => h rfl)] at hr
  (refine wpAnyM_one (i := 11) rfl (by kernel_rfl) (fun K hK => ?_); rw [if_pos (by rfl)]; (try simp only [elem_laws]))
  go_simp
  refine (HP.out _ (HB.out.trans (hR.2.2.2.2.2.mono HB.out.size)) v5 (by rw [bytesN_unB HV5.out.all]; exact HV5.out)).mono ?_
  rintro e w7 ⟨rfl, G', g1, g2, g3⟩
  have hbb := HB.out.trans (hR.2.2.2.2.2.mono HB.out.size)
  have HG : Hid (∃ G', TreeR lo w7 T r G' (m + 1) R.1 ∧ Turn (fun j => Foot G j ∨ w.heap.size ≤ j) w w7 ∧ ∀ j, Foot G' j → Foot G j ∨ w.heap.size ≤ j) := show ∃ _, _ from ⟨G', by rw [hr]; exact g1, turn_behind hbb g2, foot_behind hbb g3⟩
  rw [← hr]
  refine hK _ _ (fun h => by cases h) ?_
  clear hK K hR g1 g2 g3 hbb hr
  (try simp only [put_laws])
  (refine wpAnyM_one (i := 12) rfl (by kernel_rfl) (fun K hK => ?_); rw [if_pos (by rfl)]; (try simp only [elem_laws]))
  go_simp
  refine hK _ _ (fun h => by cases h) ?_
  clear hK K
  (try simp only [put_laws])
  refine wpAnyM_done (by kernel_rfl) ?_ _
  go_wp2_with fail
  go_ret
  exact ⟨HG.out, .inl (by first | rfl | simp)⟩
set_option maxRecDepth 100000 in
set_option maxHeartbeats 8000000 in
theorem write11_any {lo T r m : Nat} {G : Gr} {t : RT} {w : World} (h : TreeR lo w T r G m t) (x : OpX) (hp : x.path.length ≤ 1000000) (hu : FB w x.ub (bytesN x.bytes)) (h0 : -9223372036854775808 ≤ x.place) (h1 : x.place ≤ 9223372036854775807) :
    Calls Tryz.prog 103 #[.agg #[.pointer (some ⟨T, 0, none⟩)], .agg (opA x)] w (DeedR lo T r m G (writeR t x) w) := by
  obtain ⟨W2, hW2, hb, hA⟩ := argsAt_new w T x
  have HS := Lib.hid (bytes_spec (h.below hb) x.path hp)
  have HF := Lib.hid (fun W v (hv : FB W v (xsR t x.path)) (hW : Below w.heap.size w W) => write_any x.place h0 h1 W hv (hu.below hW))
  have HT := Lib.hid told11B_any
  have HP := Lib.hid (fun W (hW : Below w.heap.size w W) (ub : Value) (hv : FB W ub (bytesN (unB (outW (xsR t x.path) x.place (bytesN x.bytes))))) => put_spec (h.below hW) x.path hp hv)
  have HSAME := Lib.hid (fun c w' (hb : Below w.heap.size w w') (hc : c ≠ 0) => DeedR.same h hb hc)
  have HB := Lib.hid hb
  obtain ⟨ua, uc, hub, -⟩ := hu.form
  have HA : Hid (∀ W, Below W2.heap.size W2 W → W.cell? ⟨w.heap.size, 0, none⟩ = some (.pointer (some ⟨T, 0, none⟩)) ∧ W.cell? ⟨w.heap.size + 1, 1, none⟩ = some (encStr x.path) ∧ W.cell? ⟨w.heap.size + 1, 3, none⟩ = some (.int .i64 x.place) ∧ W.cell? ⟨w.heap.size + 1, 4, none⟩ = some (.int .i64 x.many) ∧ W.cell? ⟨w.heap.size + 1, 5, none⟩ = some x.ub ∧ Below W2.heap.size W2 W) := show ∀ W, _ from fun W hW => ⟨(hA W hW).w, (hA W hW).c1, (hA W hW).c3, (hA W hW).c4, (hA W hW).c5, hW⟩
  have HFR : Hid (writeR t x = if bytesC t x.path ≠ 0 then (t, bytesC t x.path) else if errW (xsR t x.path).length x.place (bytesN x.bytes).length ≠ 0 then (t, errW (xsR t x.path).length x.place (bytesN x.bytes).length) else rPut t x.path (unB (outW (xsR t x.path) x.place (bytesN x.bytes)))) := show _ = _ from rfl
  obtain ⟨xs, hxs⟩ : ∃ xs, xsR t x.path = xs := ⟨_, rfl⟩
  have hxs2 : bytesN (bytesR t (askR t x.path).2) = xs := hxs
  rw [hxs2] at HS
  rw [hxs] at HF HP HFR
  obtain ⟨p, hp2⟩ : ∃ p, encStr x.path = p := ⟨_, rfl⟩
  obtain ⟨q, hq⟩ : ∃ p, encStr x.other = p := ⟨_, rfl⟩
  obtain ⟨c, hc⟩ : ∃ c, bytesC t x.path = c := ⟨_, rfl⟩
  obtain ⟨d, hd⟩ : ∃ d, errW xs.length x.place (bytesN x.bytes).length = d := ⟨_, rfl⟩
  obtain ⟨R, hR⟩ : ∃ R, writeR t x = R := ⟨_, rfl⟩
  unfold opA at hW2 ⊢
  try rw [hub] at HF
  rw [hub] at HA hW2 ⊢
  rw [hR] at HFR ⊢
  rw [hc, hd] at HFR
  rw [hc, hp2] at HS
  rw [hd] at HF
  rw [hp2] at HP HA
  rw [hp2, hq] at hW2 ⊢
  obtain ⟨pl, hpl⟩ : ∃ y, x.place = y := ⟨_, rfl⟩
  obtain ⟨mn, hmn⟩ : ∃ y, x.many = y := ⟨_, rfl⟩
  rw [hpl, hmn] at hW2 HA ⊢
  rw [hpl] at HF HP HFR
  obtain ⟨cw, c1, c3, c4, c5, -⟩ := HA.out W2 (Below.refl _ _)
  obtain ⟨kd, hkd⟩ : ∃ y, x.kind = y := ⟨_, rfl⟩
  obtain ⟨ul, hul⟩ : ∃ y, (bytesN x.bytes).length = y := ⟨_, rfl⟩
  rw [hkd, hul] at hW2 ⊢
  try rw [hul] at HF
  rw [hul] at HA c5
  clear h hb hA hp hp2 hq hub hR hu h0 h1 hxs hxs2 hc hd hpl hmn hkd hul
  go_enter Tryz.func103, Tryz.ntmps103
  go_wp2_with fail
  refine HS.out.mono ?_
  rintro e w3 ⟨v, rfl, hv, hb3⟩
  have HV := Lib.hid hv
  have HB3 := Lib.hid hb3
  clear hv hb3 cw c1 c3 c4 c5 hW2
  go_wp2_with fail
  refine (HT.out v c w3).mono ?_
  rintro e w4 ⟨rfl, ⟨rfl, rfl⟩ | ⟨hc, rfl⟩⟩
  rotate_left
  · have hr := HFR.out
    rw [if_pos hc] at hr
    exact ⟨rfl, by rw [hr]; exact HSAME.out _ _ (HB.out.trans (HB3.out.mono HB.out.size)) hc⟩
  have hv := HV.out
  rw [if_pos rfl] at hv
  have hr := HFR.out
  rw [if_neg (fun h => h rfl)] at hr
  have HV2 := Lib.hid hv
  have HR := Lib.hid hr
  clear hv hr HV HFR
  go_wp2_with fail
  have hR := HA.out _ HB3.out.drew
  refine wp_region_M 13 (fun V : World => V.cell? ⟨w.heap.size, 0, none⟩ = some (.pointer (some ⟨T, 0, none⟩)) ∧ V.cell? ⟨w.heap.size + 1, 1, none⟩ = some p ∧ V.cell? ⟨w.heap.size + 1, 3, none⟩ = some (.int .i64 pl) ∧ V.cell? ⟨w.heap.size + 1, 4, none⟩ = some (.int .i64 mn) ∧ V.cell? ⟨w.heap.size + 1, 5, none⟩ = some (.slice ua ul uc) ∧ Below W2.heap.size W2 V) (by kernel_rfl) ?_
  (refine wpAnyM_take2 8 (i := 0) (v := ?_) rfl (by kernel_rfl) (by kernel_rfl) (fun _ _ _ h => h) (Or.inl ⟨by rfl, ?_⟩) hR ?_; rotate_left; (focus (intro w hSw; (try dsimp only at hSw); go_simp; (try with_reducible rfl))); (try simp only [put_laws])); (refine wpAnyM_take2 8 (i := 2) (v := ?_) rfl (by kernel_rfl) (by kernel_rfl) (fun _ _ _ h => h) (Or.inl ⟨by rfl, ?_⟩) hR ?_; rotate_left; (focus (intro w hSw; (try dsimp only at hSw); go_simp; (try with_reducible rfl))); (try simp only [put_laws])); (refine wpAnyM_take2 8 (i := 4) (v := ?_) rfl (by kernel_rfl) (by kernel_rfl) (fun _ _ _ h => h) (Or.inl ⟨by rfl, ?_⟩) hR ?_; rotate_left; (focus (intro w hSw; (try dsimp only at hSw); go_simp; (try with_reducible rfl))); (try simp only [put_laws])); (refine wpAnyM_take2 8 (i := 5) (v := ?_) rfl (by kernel_rfl) (by kernel_rfl) (fun _ _ _ h => h) (Or.inl ⟨by rfl, ?_⟩) hR ?_; rotate_left; (focus (intro w hSw; (try dsimp only at hSw); go_simp; (try with_reducible rfl))); (try simp only [put_laws])); (refine wpAnyM_take2 8 (i := 7) (v := ?_) rfl (by kernel_rfl) (by kernel_rfl) (fun _ _ _ h => h) (Or.inl ⟨by rfl, ?_⟩) hR ?_; rotate_left; (focus (intro w hSw; (try dsimp only at hSw); go_simp; (try with_reducible rfl))); (try simp only [put_laws])); (refine wpAnyM_take2 8 (i := 1) (v := ?_) rfl (by kernel_rfl) (by kernel_rfl) (fun _ _ _ h => h) (Or.inl ⟨by rfl, ?_⟩) hR ?_; rotate_left; (focus (intro w hSw; (try dsimp only at hSw); go_simp; (try with_reducible rfl))); (try simp only [put_laws])); (refine wpAnyM_take2 8 (i := 3) (v := ?_) rfl (by kernel_rfl) (by kernel_rfl) (fun _ _ _ h => h) (Or.inl ⟨by rfl, ?_⟩) hR ?_; rotate_left; (focus (intro w hSw; (try dsimp only at hSw); go_simp; (try with_reducible rfl))); (try simp only [put_laws])); (refine wpAnyM_take2 8 (i := 6) (v := ?_) rfl (by kernel_rfl) (by kernel_rfl) (fun _ _ _ h => h) (Or.inl ⟨by rfl, ?_⟩) hR ?_; rotate_left; (focus (intro w hSw; (try dsimp only at hSw); go_simp; (try with_reducible rfl))); (try simp only [put_laws])); (refine wpAnyM_take2 8 (i := 8) (v := ?_) rfl (by kernel_rfl) (by kernel_rfl) (fun _ _ _ h => h) (Or.inl ⟨by rfl, ?_⟩) hR ?_; rotate_left; (focus (intro w hSw; (try dsimp only at hSw); go_simp; (try with_reducible rfl))); (try simp only [put_laws]))
  (refine wpAnyM_one (i := 9) rfl (by kernel_rfl) (fun K hK => ?_); rw [if_pos (by rfl)]; (try simp only [elem_laws]))
  go_simp
  refine (HF.out _ v (HV2.out.below (Below.refl _ _).drew) (HB.out.trans (hR.2.2.2.2.2.mono HB.out.size))).mono ?_
  rintro e w5 ⟨v5, rfl, hv5, hb5⟩
  have hR' := HA.out _ (hR.2.2.2.2.2.trans (hb5.mono hR.2.2.2.2.2.size))
  refine hK _ _ (fun _ => hR') ?_
  have HV5 := Lib.hid hv5
  clear hK K hR hv5 hb5
  have hR := hR'
  clear hR'
  (try simp only [put_laws])
  (refine wpAnyM_take2 8 (i := 10) (v := ?_) rfl (by kernel_rfl) (by kernel_rfl) (fun _ _ _ h => h) (Or.inl ⟨by rfl, ?_⟩) hR ?_; rotate_left; (focus (intro w hSw; (try dsimp only at hSw); go_simp; (try with_reducible rfl))); (try simp only [put_laws])); (refine wpAnyM_take2 8 (i := 11) (v := ?_) rfl (by kernel_rfl) (by kernel_rfl) (fun _ _ _ h => h) (Or.inl ⟨by rfl, ?_⟩) hR ?_; rotate_left; (focus (intro w hSw; (try dsimp only at hSw); go_simp; (try with_reducible rfl))); (try simp only [put_laws]))
  (refine wpAnyM_one (i := 12) rfl (by kernel_rfl) (fun K hK => ?_); rw [if_pos (by rfl)]; (try simp only [elem_laws]))
  go_simp
  refine (HT.out v5 d w5).mono ?_
  rintro e w6 ⟨rfl, ⟨rfl, rfl⟩ | ⟨hc, rfl⟩⟩
  rotate_left
  · have hr := HR.out
    rw [if_pos hc] at hr
    exact ⟨rfl, by rw [hr]; exact HSAME.out _ _ (HB.out.trans (hR.2.2.2.2.2.mono HB.out.size)) hc⟩
  refine hK _ _ (fun _ => hR) ?_
  clear hK K
  (try simp only [put_laws])
  have hr := HR.out
  rw [if_neg (fun h => h rfl)] at hr
  (refine wpAnyM_one (i := 13) rfl (by kernel_rfl) (fun K hK => ?_); rw [if_pos (by rfl)]; (try simp only [elem_laws]))
  go_simp
  refine (HP.out _ (HB.out.trans (hR.2.2.2.2.2.mono HB.out.size)) v5 (by rw [bytesN_unB HV5.out.all]; exact HV5.out)).mono ?_
  rintro e w7 ⟨rfl, G', g1, g2, g3⟩
  have hbb := HB.out.trans (hR.2.2.2.2.2.mono HB.out.size)
  have HG : Hid (∃ G', TreeR lo w7 T r G' (m + 1) R.1 ∧ Turn (fun j => Foot G j ∨ w.heap.size ≤ j) w w7 ∧ ∀ j, Foot G' j → Foot G j ∨ w.heap.size ≤ j) := show ∃ _, _ from ⟨G', by rw [hr]; exact g1, turn_behind hbb g2, foot_behind hbb g3⟩
  rw [← hr]
  refine hK _ _ (fun h => by cases h) ?_
  clear hK K hR g1 g2 g3 hbb hr
  (try simp only [put_laws])
  (refine wpAnyM_one (i := 14) rfl (by kernel_rfl) (fun K hK => ?_); rw [if_pos (by rfl)]; (try simp only [elem_laws]))
  go_simp
  refine hK _ _ (fun h => by cases h) ?_
  clear hK K
  (try simp only [put_laws])
  refine wpAnyM_done (by kernel_rfl) ?_ _
  go_wp2_with fail
  go_ret
  exact ⟨HG.out, .inl (by first | rfl | simp)⟩
end Go.Proofs.YtgoemaecdolioaaGreatDoor
