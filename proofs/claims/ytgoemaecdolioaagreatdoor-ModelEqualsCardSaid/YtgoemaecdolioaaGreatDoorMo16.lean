/-
  Texts TfB to TfB, as one.
-/
import Derived.Test.YtgoemaecdolioaaGreatDoorMo15
/-
  tree: Move: the last three steps.
-/
namespace Go.Proofs.YtgoemaecdolioaaGreatDoor
open Go.RowKit Go.Shelf
attribute [local go_sem] Oper.semAt_some

theorem isWithin_any (s t : List UInt8) (hs : s.length ≤ 1000000) (ht : t.length ≤ 1000000) (w : World) (hm : MaxC w) : Calls Tryz.prog 166 #[encStr s, encStr t] w fun e w' => e = .returned (.bool (withinE s t).1) ∧ Below w.heap.size w w' := by
  have HP := Lib.hid (paWithin_any s t hs ht w hm)
  obtain ⟨a, ha⟩ : ∃ a, encStr s = a := ⟨_, rfl⟩
  obtain ⟨b, hb⟩ : ∃ b, encStr t = b := ⟨_, rfl⟩
  rw [ha, hb] at HP ⊢
  clear hs ht hm ha hb
  go_enter Tryz.func166, Tryz.ntmps166
  go_wp2_with fail
  refine HP.out.mono ?_
  rintro e w' ⟨rfl, hb⟩
  have HB := Lib.hid hb
  clear hb
  go_wp2_with fail
  go_ret
  exact ⟨rfl, HB.out⟩
theorem lessG_cases {G : Gr} {d c b : Nat} {x y y' : TN} {s : List UInt8} (hb : lessG G d x s c y b = some y') : (b = c ∧ y' = { y with links := y.links - 1 }) ∨ (b = d ∧ b ≠ c ∧ y' = { x with nm := delNm x.nm s }) ∨ (b ≠ c ∧ b ≠ d ∧ G b = some y') := by
  unfold lessG at hb
  by_cases h1 : b = c
  · subst h1
    rw [setG_same] at hb
    exact .inl ⟨rfl, (Option.some.inj hb).symm⟩
  · rw [setG_other _ _ h1] at hb
    by_cases h2 : b = d
    · subst h2
      rw [setG_same] at hb
      exact .inr (.inl ⟨rfl, h1, (Option.some.inj hb).symm⟩)
    · rw [setG_other _ _ h2] at hb
      exact .inr (.inr ⟨h1, h2, hb⟩)
theorem lessG_foot {G : Gr} {d c j : Nat} {x y : TN} {s : List UInt8} (hx : G d = some x) (hy : G c = some y) (h : Foot (lessG G d x s c y) j) : Foot G j := by
  obtain ⟨b, y', hb, hj⟩ := h
  rcases lessG_cases hb with ⟨rfl, rfl⟩ | ⟨rfl, -, rfl⟩ | ⟨-, -, h3⟩
  · exact ⟨b, y, hy, hj⟩
  · exact ⟨b, x, hx, hj⟩
  · exact ⟨b, y', h3, hj⟩
theorem lessG_c (G : Gr) (d : Nat) (x : TN) (s : List UInt8) (c : Nat) (y : TN) : lessG G d x s c y c = some { y with links := y.links - 1 } := setG_same _ _ _
theorem lessG_d (G : Gr) (d : Nat) (x : TN) (s : List UInt8) (c : Nat) (y : TN) (h : d ≠ c) : lessG G d x s c y d = some { x with nm := delNm x.nm s } := (setG_other _ _ h).trans (setG_same _ _ _)
theorem lessG_o (G : Gr) (d : Nat) (x : TN) (s : List UInt8) (c : Nat) (y : TN) (b : Nat) (h1 : b ≠ c) (h2 : b ≠ d) : lessG G d x s c y b = G b := (setG_other _ _ h1).trans (setG_other _ _ h2)
/-- What moves, from where, to where: nothing is there. -/
structure MoveAt (G : Gr) (r : Nat) (names1 : List (List UInt8)) (d1 n d2 : Nat) (l2 : List UInt8) (x1 y x2 : TN) : Prop where
  sp : spotN G r names1 = .ok d1
  hx1 : G d1 = some x1
  hl : lookNm x1.nm (lastN names1) = some n
  hy : G n = some y
  hx2 : G d2 = some x2
  no : lookNm x2.nm l2 = none
  n1 : d1 ≠ n
  n2 : d2 ≠ n
  l0 : 0 < y.links
  l1 : y.links ≤ 200
/-- The nodes behind the move. -/
def movedG (G : Gr) (d1 : Nat) (x1 : TN) (l1 : List UInt8) (n : Nat) (y : TN) (d2 : Nat) (x2 : TN) (l2 : List UInt8) : Gr :=
  addG (lessG G d1 x1 l1 n y) d2 (if d2 = d1 then { x1 with nm := delNm x1.nm l1 } else x2) l2 n { y with links := y.links - 1 }
theorem MoveAt.x2' {G : Gr} {r d1 n d2 : Nat} {names1 : List (List UInt8)} {l2 : List UInt8} {x1 y x2 : TN} (h : MoveAt G r names1 d1 n d2 l2 x1 y x2) :
    lessG G d1 x1 (lastN names1) n y d2 = some (if d2 = d1 then { x1 with nm := delNm x1.nm (lastN names1) } else x2) ∧ lookNm (if d2 = d1 then { x1 with nm := delNm x1.nm (lastN names1) } else x2).nm l2 = none := by
  by_cases e : d2 = d1
  · have hx : x2 = x1 := by
      have h1 := h.hx2
      rw [e, h.hx1] at h1
      exact (Option.some.inj h1).symm
    rw [if_pos e, e]
    refine ⟨lessG_d _ _ _ _ _ _ h.n1, ?_⟩
    show lookNm (delNm x1.nm (lastN names1)) l2 = none
    rw [look_del]
    split
    · rfl
    · rw [← hx]; exact h.no
  · rw [if_neg e]
    exact ⟨(lessG_o _ _ _ _ _ _ _ h.n2 e).trans h.hx2, h.no⟩
/-- The steps: the first spot is left, the second one takes. -/
theorem move_leave {G : Gr} {T r m d1 n d2 : Nat} {names1 : List (List UInt8)} {l2 : List UInt8} {x1 y x2 : TN} (h : MoveAt G r names1 d1 n d2 l2 x1 y x2) (hs1 : (lastN names1).length ≤ 1000) (W : World) (hT : TreeG W T r G m) :
    Calls Tryz.prog 162 #[.agg #[.pointer (some ⟨d1, 0, none⟩), encStr (lastN names1)]] W fun e w' => (∃ u, e = .returned u) ∧ TreeG w' T r (lessG G d1 x1 (lastN names1) n y) m ∧ Turn (fun j => Foot G j ∨ W.heap.size ≤ j) W w' := by
  refine (leave10_any (hT.nodes d1 x1 h.hx1) (hT.nodes n y h.hy) h.n1 _ hs1 h.hl ⟨h.l0, by have := h.l1; omega⟩ (fun e => h.n1 (hT.apart d1 n x1 y h.hx1 h.hy e))).mono fun e w' ⟨g1, g2, g3, g4⟩ => ?_
  obtain ⟨f1, f2⟩ := hT.left0 h.hx1 h.hy h.n1 g2 g3 g4
  exact ⟨g1, f1, f2⟩
theorem move_take {G : Gr} {T r m d1 n d2 : Nat} {names1 : List (List UInt8)} {l2 : List UInt8} {x1 y x2 : TN} (h : MoveAt G r names1 d1 n d2 l2 x1 y x2) (hm : m < 90000) (hs2 : l2.length ≤ 1000) (W : World) (hT : TreeG W T r (lessG G d1 x1 (lastN names1) n y) m) :
    Calls Tryz.prog 83 #[.agg #[.pointer (some ⟨d2, 0, none⟩), encStr l2], .pointer (some ⟨n, 0, none⟩)] W fun e w' => (∃ u, e = .returned u) ∧ TreeG w' T r (movedG G d1 x1 (lastN names1) n y d2 x2 l2) (m + 1) ∧ Turn (fun j => Foot G j ∨ W.heap.size ≤ j) W w' := by
  obtain ⟨hx, hno⟩ := h.x2'
  have hy := lessG_c G d1 x1 (lastN names1) n y
  have hc := hT.cnt d2 _ hx
  have hcy := hT.cnt n _ hy
  refine (take10_ok (hT.nodes d2 _ hx) (hT.nodes n _ hy) h.n2 l2 hs2 hno (by have := h.l1; have := h.l0; show y.links - 1 < 200; omega) (by omega) (fun e => h.n2 (hT.apart d2 n _ _ hx hy e))).mono fun e w' ⟨g1, g2, g3, g4⟩ => ?_
  obtain ⟨f1, f2⟩ := hT.added hx g2 g3 (.inl hy) h.n2 (by omega) (g4.mono fun j hj => by
    rcases hj with hj | hj
    · exact .inl hj
    · exact .inr (.inl hj))
  exact ⟨g1, f1, f2.mono fun j hj => by
    rcases hj with hj | hj
    · exact .inl (lessG_foot h.hx1 h.hy hj)
    · exact .inr hj⟩
end Go.Proofs.YtgoemaecdolioaaGreatDoor
