/-
  Texts TgK to MdA, as one.
-/
import Derived.Test.YtgoemaecdolioaaGreatDoorMo23
import Derived.Defers
import Derived.Recover
/-
  tree: a tree in memory that is the document's; its operations and what is asked, so.
-/
namespace Go.Proofs.YtgoemaecdolioaaGreatDoor
open Go.RowKit Go.Shelf

/-- A tree in memory, at lo or behind it, that is the document's. -/
structure TreeR (lo : Nat) (W : World) (T r : Nat) (G : Gr) (m : Nat) (t : RT) : Prop where
  tree : TreeG W T r G m
  rel : ∃ φ way, RelG G r t φ way
  lowT : lo ≤ T
  low : ∀ j, Foot G j → lo ≤ j
  max : MaxC W
  room : 0 < lo
theorem TreeR.below {lo : Nat} {W W' : World} {T r : Nat} {G : Gr} {m : Nat} {t : RT} (h : TreeR lo W T r G m t) (hb : Below W.heap.size W W') : TreeR lo W' T r G m t :=
  ⟨h.tree.below hb, h.rel, h.lowT, h.low, h.max.below hb h.max.room, h.room⟩
theorem TreeR.mono {lo : Nat} {W : World} {T r : Nat} {G : Gr} {m m' : Nat} {t : RT} (h : TreeR lo W T r G m t) (hm : m ≤ m') : TreeR lo W T r G m' t := ⟨h.tree.mono hm, h.rel, h.lowT, h.low, h.max, h.room⟩
/-- What turns elsewhere leaves it. -/
theorem TreeR.turn {lo : Nat} {W W' : World} {T r m : Nat} {G : Gr} {t : RT} {q : Nat → Prop} (h : TreeR lo W T r G m t) (ht : Turn q W W') (hq : ∀ j, q j → j < W.heap.size → NoU8 W j) (hf : ∀ j, q j → ¬ Foot G j) (hT : ¬ q T) (hl : ∀ j, q j → lo ≤ j) : TreeR lo W' T r G m t :=
  ⟨h.tree.turn ht hq hf hT, h.rel, h.lowT, h.low, h.max.below (ht.below (B := lo) hl (Nat.le_trans h.lowT (Nat.le_of_lt h.tree.at_.lt))) h.room, h.room⟩
/-- Where the nodes of another tree lie. -/
def FootQ (G : Gr) (q : Except Int (Nat → Gr → Prop)) : Prop := match q with
  | .error _ => True
  | .ok Rl => ∀ N G', Rl N G' → ∀ j, Foot G' j → Foot G j ∨ N ≤ j
theorem addG_foot {G : Gr} {d n N : Nat} {x z : TN} {s : List UInt8} (hx : G d = some x) (hz : G n = some z ∨ (N ≤ n ∧ N ≤ z.map)) {j : Nat} (h : Foot (addG G d x s n z) j) : Foot G j ∨ N ≤ j := by
  obtain ⟨b, y, hy, hj⟩ := h
  unfold addG at hy
  by_cases h1 : b = n
  · subst h1
    rw [setG_same] at hy
    obtain rfl := Option.some.inj hy
    rcases hz with hz | ⟨h2, h3⟩
    · exact .inl ⟨b, z, hz, hj⟩
    · rcases hj with rfl | rfl
      · exact .inr h2
      · exact .inr h3
  · rw [setG_other _ _ h1] at hy
    by_cases h2 : b = d
    · subst h2
      rw [setG_same] at hy
      obtain rfl := Option.some.inj hy
      exact .inl ⟨b, x, hx, hj⟩
    · rw [setG_other _ _ h2] at hy
      exact .inl ⟨b, y, hy, hj⟩
theorem foot_make (G : Gr) (r : Nat) (s : List UInt8) (k : Int) : FootQ G (makeQ G r s k) := by
  unfold FootQ makeQ
  cases makeE G r s k with
  | error c => trivial
  | ok d =>
    rintro N G' ⟨x, n, mm, hx, h1, h2, -, rfl⟩ j hj
    exact addG_foot hx (.inr ⟨h1, h2⟩) hj
theorem foot_put (G : Gr) (r : Nat) (s : List UInt8) (ds : List Nat) : FootQ G (putQ G r s ds) := by
  unfold FootQ putQ
  cases putE G r s ds with
  | error c => trivial
  | ok b =>
    rintro N G' ⟨x, v, hx, rfl⟩ j ⟨c, y, hy, hj⟩
    by_cases h1 : c = b
    · subst h1
      rw [setG_same] at hy
      obtain rfl := Option.some.inj hy
      exact .inl ⟨c, x, hx, hj⟩
    · rw [setG_other _ _ h1] at hy
      exact .inl ⟨c, y, hy, hj⟩
theorem foot_link (G : Gr) (r : Nat) (f s : List UInt8) : FootQ G (linkQ G r f s) := by
  unfold FootQ linkQ
  cases linkE G r f s with
  | error c => trivial
  | ok d =>
    rintro N G' ⟨x, y, hx, hy, rfl⟩ j hj
    exact addG_foot hx (.inl hy) hj
theorem foot_less (G : Gr) (s : List UInt8) (q : Except Int (Nat × Nat)) : FootQ G (lessQ G s q) := by
  unfold FootQ lessQ
  cases q with
  | error c => trivial
  | ok d =>
    rintro N G' ⟨x, y, hx, hy, rfl⟩ j hj
    exact .inl (lessG_foot hx hy hj)
theorem MoveAt.foot {G : Gr} {r d1 n d2 : Nat} {names1 : List (List UInt8)} {l2 : List UInt8} {x1 y x2 : TN} (h : MoveAt G r names1 d1 n d2 l2 x1 y x2) {N j : Nat} (hj : Foot (movedG G d1 x1 (lastN names1) n y d2 x2 l2) j) : Foot G j ∨ N ≤ j := by
  obtain ⟨hx, -⟩ := h.x2'
  unfold movedG at hj
  rcases addG_foot (N := N) hx (.inl (lessG_c G d1 x1 _ n y)) hj with hj | hj
  · exact .inl (lessG_foot h.hx1 h.hy hj)
  · exact .inr hj
theorem foot_move (G : Gr) (r : Nat) (f s : List UInt8) : FootQ G (moveQ G r f s) := by
  unfold FootQ moveQ
  by_cases h1 : (splitE f).2 ≠ 0
  · rw [if_pos h1]; trivial
  rw [if_neg h1]
  by_cases h2 : (splitE s).2 ≠ 0
  · rw [if_pos h2]; trivial
  rw [if_neg h2]
  by_cases h3 : (splitE f).1 = [] ∨ (splitE s).1 = []
  · rw [if_pos h3]; trivial
  rw [if_neg h3]
  cases walkN G r (splitE f).1 with
  | error c => trivial
  | ok n =>
    simp only
    cases G n with
    | none => trivial
    | some y =>
      simp only
      by_cases h4 : (y.isDir && (withinE s f).1) = true
      · rw [if_pos h4]; trivial
      rw [if_neg h4]
      cases spotN G r (splitE s).1 with
      | error c => trivial
      | ok d2 =>
        simp only
        cases hx2 : G d2 with
        | none => trivial
        | some x2 =>
          simp only
          unfold moveT
          cases hl : lookNm x2.nm (lastN (splitE s).1) with
          | none =>
            simp only
            rintro N G' ⟨d1, x1, hM, rfl⟩ j hj
            exact hM.foot hj
          | some c =>
            simp only
            by_cases h5 : c = n
            · rw [if_pos h5]
              intro N G' hG j hj
              have hG2 : G' = G := hG
              rw [hG2] at hj
              exact .inl hj
            · rw [if_neg h5]
              cases hz : G c with
              | none => trivial
              | some z =>
                simp only
                by_cases h6 : giveN z y ≠ 0
                · rw [if_pos h6]; trivial
                · rw [if_neg h6]
                  rintro N G' ⟨d1, x1, y', x2', hM, rfl⟩ j hj
                  rcases hM.foot (N := N) hj with hj | hj
                  · exact .inl (lessG_foot hx2 hz hj)
                  · exact .inr hj
/-- What an operation leaves, in the document's terms. -/
def OpR (lo T r m : Nat) (G : Gr) (R : RT × Int) (V : World) (e : Ending) (w' : World) : Prop :=
  e = .returned (.int .i64 R.2) ∧ ∃ G', TreeR lo w' T r G' (m + 1) R.1 ∧ Turn (fun j => Foot G j ∨ V.heap.size ≤ j) V w' ∧ ∀ j, Foot G' j → Foot G j ∨ V.heap.size ≤ j
theorem opR_of {lo T r m : Nat} {G : Gr} {t : RT} {R : RT × Int} {V : World} {q : Except Int (Nat → Gr → Prop)} (h : TreeR lo V T r G m t) (hr : OpRel G r q t R) (hf : FootQ G q) {e : Ending} {w' : World} (he : OpEnd T r m G q V e w') : OpR lo T r m G R V e w' := by
  have hlo : lo ≤ V.heap.size := Nat.le_trans h.lowT (Nat.le_of_lt h.tree.at_.lt)
  cases q with
  | error c =>
    obtain ⟨h1, h2⟩ := he
    have hr' : R = (t, c) := hr
    rw [hr']
    exact ⟨h1, G, (h.below h2).mono (Nat.le_succ m), Turn.of_below h2 (Nat.le_refl _), fun j hj => .inl hj⟩
  | ok Rl =>
    obtain ⟨h1, G', h2, h3, h4⟩ := he
    obtain ⟨r1, r2⟩ := hr
    have hft : ∀ j, Foot G' j → Foot G j ∨ V.heap.size ≤ j := hf _ _ h4
    refine ⟨by rw [h1, r1], G', ⟨h2, r2 _ G' (fun b x hb => (h.tree.nodes b x hb).blk.lt) h4, h.lowT, fun j hj => ?_, h.max.below (h3.below (B := lo) (fun j hj => ?_) hlo) h.room, h.room⟩, h3, hft⟩
    · rcases hft j hj with hj | hj
      · exact h.low j hj
      · omega
    · rcases hj with hj | hj
      · exact h.low j hj
      · omega
section
variable {lo T r m : Nat} {G : Gr} {t : RT} {w : World} (h : TreeR lo w T r G m t)
include h
theorem make_spec (hm : m < 90000) (s : List UInt8) (hs : s.length ≤ 1000000) (k : Int) : Calls Tryz.prog 127 #[.pointer (some ⟨T, 0, none⟩), encStr s, .int .i64 k] w (OpR lo T r m G (rMake t s k) w) := by
  obtain ⟨φ, way, hr⟩ := h.rel
  exact (makeOp_any h.tree hm h.max s hs k).mono fun e w' he => opR_of h (hr.rel_make h.tree.leads s k) (foot_make _ _ _ _) he
theorem put_spec (s : List UInt8) (hs : s.length ≤ 1000000) {ub : Value} {bs : List UInt8} (hu : FB w ub (bytesN bs)) : Calls Tryz.prog 132 #[.pointer (some ⟨T, 0, none⟩), encStr s, ub] w (OpR lo T r m G (rPut t s bs) w) := by
  obtain ⟨φ, way, hr⟩ := h.rel
  exact (put10_any h.tree h.max s hs hu).mono fun e w' he => opR_of h (hr.rel_put h.tree.leads s rfl) (foot_put _ _ _ _) he
theorem link_spec (hm : m < 90000) (f s : List UInt8) (hf : f.length ≤ 1000000) (hs : s.length ≤ 1000000) : Calls Tryz.prog 131 #[.pointer (some ⟨T, 0, none⟩), encStr f, encStr s] w (OpR lo T r m G (rLink t f s) w) := by
  obtain ⟨φ, way, hr⟩ := h.rel
  exact (link10_any h.tree hm h.max f s hf hs).mono fun e w' he => opR_of h (hr.rel_link h.tree.leads f s) (foot_link _ _ _ _) he
theorem drop_spec (s : List UInt8) (hs : s.length ≤ 1000000) : Calls Tryz.prog 128 #[.pointer (some ⟨T, 0, none⟩), encStr s] w (OpR lo T r m G (rDrop t s) w) := by
  obtain ⟨φ, way, hr⟩ := h.rel
  exact (drop10_any h.tree hr.links h.max s hs).mono fun e w' he => opR_of h (hr.rel_drop h.tree.leads s) (foot_less _ _ _) he
theorem remove_spec (s : List UInt8) (hs : s.length ≤ 1000000) : Calls Tryz.prog 129 #[.pointer (some ⟨T, 0, none⟩), encStr s] w (OpR lo T r m G (rRemove t s) w) := by
  obtain ⟨φ, way, hr⟩ := h.rel
  exact (remove10_any h.tree hr.links h.max s hs).mono fun e w' he => opR_of h (hr.rel_remove h.tree.leads s) (foot_less _ _ _) he
theorem move_spec (hm : m < 90000) (f s : List UInt8) (hf : f.length ≤ 1000000) (hs : s.length ≤ 1000000) : Calls Tryz.prog 130 #[.pointer (some ⟨T, 0, none⟩), encStr f, encStr s] w (OpR lo T r m G (rMove t f s) w) := by
  obtain ⟨φ, way, hr⟩ := h.rel
  obtain ⟨xr, hxr, -⟩ := hr.root
  exact (move10_any h.tree hr.links hm h.max f s hf hs (move_fine h.tree.leads hxr hr.waysG hr.way0 hr.links f s)).mono fun e w' he => opR_of h (hr.rel_move h.tree.leads f s) (foot_move _ _ _ _) he
end
theorem txs_nil10 (W : World) : TxS W (.slice none 0 0) [] := ⟨rfl, none, 0, rfl, Nat.le_refl _, fun h => absurd h (Nat.lt_irrefl _)⟩
/-- What is asked: an error, and a node. -/
def askR (t : RT) (s : List UInt8) : Int × Int := if (splitE s).2 ≠ 0 then ((splitE s).2, 0) else ((findR t (splitE s).1).2, (findR t (splitE s).1).1)
def kindR (t : RT) (n : Int) : Int := if dirR t n = true then 2 else 1
def bytesR (t : RT) (n : Int) : List UInt8 := ((t.N[n.toNat]?).getD (0, [])).2
/-- How the asked node stands for the document's. -/
structure AskAt (G : Gr) (t : RT) (s : List UInt8) (x : TN) : Prop where
  dir : dirR t (askR t s).2 = x.isDir
  kind : kindR t (askR t s).2 = x.kind
  links : linksR t (askR t s).2 = x.links
  bytes : x.isDir = false → bytesN (bytesR t (askR t s).2) = x.bytes
  names : x.isDir = true → namesR t s = sortU (x.nm.map (·.1))
theorem RelG.ask {G : Gr} {r : Nat} {t : RT} {φ : Nat → Nat} {way : Nat → List (List UInt8)} (h : RelG G r t φ way) (hS : Leads G) (s : List UInt8) :
    (∃ e, askE G r s = .error e ∧ e ≠ 0 ∧ (askR t s).1 = e) ∨ ∃ b x, askE G r s = .ok b ∧ G b = some x ∧ (askR t s).1 = 0 ∧ AskAt G t s x := by
  obtain ⟨xr, hxr, -⟩ := h.root
  unfold askE
  by_cases h1 : (splitE s).2 ≠ 0
  · rw [if_pos h1]
    exact .inl ⟨_, rfl, h1, by unfold askR; rw [if_pos h1]⟩
  · rw [if_neg h1]
    have h1' := splitE_of h1
    have hfd := h.findR_eq hS (splitE_right s)
    cases hw : walkN G r (splitE s).1 with
    | error e =>
      rw [hw] at hfd
      refine .inl ⟨e, rfl, ?_, by unfold askR; rw [if_neg h1, hfd]⟩
      rcases walkN_err hS _ _ _ _ hxr hw with e1 | e1 <;> omega
    | ok b =>
      rw [hw] at hfd
      simp only at hfd
      obtain ⟨x, hx⟩ := walkN_leads hS _ _ _ _ hxr hw
      have has := h.walk_as hS (splitE_right s) hw
      have hdr := h.dirR_eq has hx
      have ha : askR t s = (0, psi r φ b) := by unfold askR; rw [if_neg h1, hfd]
      refine .inr ⟨b, x, rfl, hx, by rw [ha], ?_⟩
      have hk : kindR t (psi r φ b) = x.kind := by
        unfold kindR
        rw [hdr]
        unfold TN.isDir
        obtain ⟨hk, -⟩ := h.node b x hx
        rcases hk with hk | hk <;> rw [hk] <;> rfl
      refine ⟨by rw [ha]; exact hdr, by rw [ha]; exact hk, ?_, ?_, fun hd => (h.names_at hS h1' hw hx hd).1⟩
      · rw [ha]
        rcases has with ⟨rfl, -⟩ | ⟨d, s0, he, -⟩
        · obtain ⟨y, hy, -, hl⟩ := h.root
          rw [hx] at hy
          obtain rfl := Option.some.inj hy
          show linksR t (psi b φ b) = _
          rw [psi_root, hl]
          rfl
        · obtain ⟨-, g3, -⟩ := h.told d s0 b x he hx
          show linksR t (psi r φ b) = _
          rw [h.psi_edge he, g3]
          unfold linksR
          rw [if_neg (by omega), Int.toNat_natCast]
      · intro hd
        obtain ⟨-, d0, s0, he⟩ := h.file_edge hS (splitE_right s) hw hx hd
        obtain ⟨⟨bs, g1, g2⟩, -⟩ := h.told d0 s0 b x he hx
        rw [ha]
        show bytesN (bytesR t (psi r φ b)) = _
        unfold bytesR
        rw [h.psi_edge he, Int.toNat_natCast, g1]
        exact g2
section
variable {lo T r m : Nat} {G : Gr} {t : RT} {w : World} (h : TreeR lo w T r G m t)
include h
theorem kind_spec (s : List UInt8) (hs : s.length ≤ 1000000) : Calls Tryz.prog 105 #[.pointer (some ⟨T, 0, none⟩), encStr s] w fun e w' => e = .returned (.tuple #[.int .i64 (if (askR t s).1 = 0 then kindR t (askR t s).2 else 0), .int .i64 (askR t s).1]) ∧ Below w.heap.size w w' := by
  obtain ⟨φ, way, hr⟩ := h.rel
  refine (kind10_any h.tree h.max s hs).mono fun e w' ⟨he, hb⟩ => ⟨?_, hb⟩
  rw [he]
  unfold askV
  rcases hr.ask h.tree.leads s with ⟨e, h1, h2, h3⟩ | ⟨b, x, h1, h2, h3, h4⟩
  · rw [h1, h3, if_neg h2]
  · rw [h1, h3, if_pos rfl]
    simp only [h2]
    rw [h4.kind]
theorem links_spec (s : List UInt8) (hs : s.length ≤ 1000000) : Calls Tryz.prog 118 #[.pointer (some ⟨T, 0, none⟩), encStr s] w fun e w' => e = .returned (.tuple #[.int .i64 (if (askR t s).1 = 0 then ((linksR t (askR t s).2 : Nat) : Int) else 0), .int .i64 (askR t s).1]) ∧ Below w.heap.size w w' := by
  obtain ⟨φ, way, hr⟩ := h.rel
  refine (links10_any h.tree h.max s hs).mono fun e w' ⟨he, hb⟩ => ⟨?_, hb⟩
  rw [he]
  unfold askV
  rcases hr.ask h.tree.leads s with ⟨e, h1, h2, h3⟩ | ⟨b, x, h1, h2, h3, h4⟩
  · rw [h1, h3, if_neg h2]
  · rw [h1, h3, if_pos rfl]
    simp only [h2]
    rw [h4.links]
/-- The error of Bytes, of Names. -/
def bytesC (t : RT) (s : List UInt8) : Int := if (askR t s).1 ≠ 0 then (askR t s).1 else if dirR t (askR t s).2 = true then 204 else 0
def namesC (t : RT) (s : List UInt8) : Int := if (askR t s).1 ≠ 0 then (askR t s).1 else if dirR t (askR t s).2 = true then 0 else 201
theorem bytes_spec (s : List UInt8) (hs : s.length ≤ 1000000) : Calls Tryz.prog 120 #[.pointer (some ⟨T, 0, none⟩), encStr s] w fun e w' => ∃ v, e = .returned (.tuple #[v, .int .i64 (bytesC t s)]) ∧ FB w' v (if bytesC t s = 0 then bytesN (bytesR t (askR t s).2) else []) ∧ Below w.heap.size w w' := by
  obtain ⟨φ, way, hr⟩ := h.rel
  refine (bytes10_any h.tree (fun b x hx => (hr.node b x hx).2.1) h.max s hs).mono fun e w' ⟨v, he, hq, hb⟩ => ⟨v, ?_, ?_, hb⟩
  all_goals
    unfold askX at *
    rcases hr.ask h.tree.leads s with ⟨e2, h1, h2, h3⟩ | ⟨b, x, h1, h2, h3, h4⟩
  · rw [he, h1]
    simp only [bytesC, h3, ne_eq, h2, not_false_eq_true, if_true]
  · rw [he, h1]
    simp only [bytesC, h3, h2, h4.dir, ne_eq, not_true, if_false]
    by_cases hd : x.isDir = true <;> simp [hd]
  · rw [h1] at hq
    have hc : bytesC t s = e2 := by simp only [bytesC, h3, ne_eq, h2, not_false_eq_true, if_true]
    rw [hc, if_neg h2]
    rcases hq with ⟨q0, -⟩ | ⟨-, rfl⟩
    · exact absurd q0 h2
    · exact nil_fb _
  · rw [h1] at hq
    simp only [h2] at hq
    cases hd : x.isDir with
    | true =>
      have hc : bytesC t s = 204 := by simp only [bytesC, h3, h4.dir, hd, ne_eq, not_true, if_false, if_true]
      rw [hc, if_neg (by decide)]
      simp only [hd, Bool.not_false, if_true] at hq
      rcases hq with ⟨q0, -⟩ | ⟨-, rfl⟩
      · cases q0
      · exact nil_fb _
    | false =>
      have hc : bytesC t s = 0 := by simp only [bytesC, h3, h4.dir, hd, ne_eq, not_true, if_false, Bool.false_eq_true]
      rw [hc, if_pos rfl]
      simp only [hd, Bool.not_true, Bool.false_eq_true, if_false] at hq
      rcases hq with ⟨-, x', q1, q2⟩ | ⟨q0, -⟩
      · obtain rfl := Option.some.inj q1
        rw [h4.bytes hd]
        exact q2
      · exact absurd rfl q0
theorem names_spec (hm : m ≤ 1000) (s : List UInt8) (hs : s.length ≤ 1000000) : Calls Tryz.prog 122 #[.pointer (some ⟨T, 0, none⟩), encStr s] w fun e w' => ∃ v, e = .returned (.tuple #[v, .int .i64 (namesC t s)]) ∧ TxS w' v (if namesC t s = 0 then namesR t s else []) ∧ Below w.heap.size w w' := by
  obtain ⟨φ, way, hr⟩ := h.rel
  refine (names10_any h.tree (fun b x hx => ⟨hr.right b x hx, by have := h.tree.cnt b x hx; omega⟩) h.max s hs).mono fun e w' ⟨v, he, hq, hb⟩ => ⟨v, ?_, ?_, hb⟩
  all_goals
    unfold askX at *
    rcases hr.ask h.tree.leads s with ⟨e2, h1, h2, h3⟩ | ⟨b, x, h1, h2, h3, h4⟩
  · rw [he, h1]
    simp only [namesC, h3, ne_eq, h2, not_false_eq_true, if_true]
  · rw [he, h1]
    simp only [namesC, h3, h2, h4.dir, ne_eq, not_true, if_false]
    by_cases hd : x.isDir = true <;> simp [hd]
  · rw [h1] at hq
    have hc : namesC t s = e2 := by simp only [namesC, h3, ne_eq, h2, not_false_eq_true, if_true]
    rw [hc, if_neg h2]
    rcases hq with ⟨q0, -⟩ | ⟨-, rfl⟩
    · exact absurd q0 h2
    · exact txs_nil10 _
  · rw [h1] at hq
    simp only [h2] at hq
    cases hd : x.isDir with
    | false =>
      have hc : namesC t s = 201 := by simp only [namesC, h3, h4.dir, hd, ne_eq, not_true, if_false, Bool.false_eq_true]
      rw [hc, if_neg (by decide)]
      simp only [hd, Bool.not_false, if_true] at hq
      rcases hq with ⟨q0, -⟩ | ⟨-, rfl⟩
      · cases q0
      · exact txs_nil10 _
    | true =>
      have hc : namesC t s = 0 := by simp only [namesC, h3, h4.dir, hd, ne_eq, not_true, if_false, if_true]
      rw [hc, if_pos rfl]
      simp only [hd, Bool.not_true, Bool.false_eq_true, if_false] at hq
      rcases hq with ⟨-, x', q1, q2⟩ | ⟨q0, -⟩
      · obtain rfl := Option.some.inj q1
        rw [h4.names hd]
        exact q2
      · exact absurd rfl q0
end
theorem new_spec (w : World) (hmx : MaxC w) : Calls Tryz.prog 35 #[] w fun e w' => ∃ T r G, e = .returned (.pointer (some ⟨T, 0, none⟩)) ∧ TreeR w.heap.size w' T r G 0 ⟨[], []⟩ ∧ (∀ lo, lo ≤ w.heap.size → 0 < lo → TreeR lo w' T r G 0 ⟨[], []⟩) ∧ (∀ j, Foot G j → w.heap.size ≤ j) ∧ w.heap.size ≤ T ∧ Below w.heap.size w w' := by
  refine (new10_any w).mono fun e w' ⟨T, r, mm, he, h1, h2, h3, h4, h5⟩ => ?_
  have hf : ∀ j, Foot (rootG r mm) j → w.heap.size ≤ j := by
    rintro j ⟨b, x, hx, hj⟩
    unfold rootG at hx
    split at hx
    · rename_i e2
      obtain rfl := Option.some.inj hx
      rcases hj with rfl | rfl
      · rw [e2]; exact h3
      · exact h4
    · cases hx
  have key : ∀ lo, lo ≤ w.heap.size → 0 < lo → TreeR lo w' T r (rootG r mm) 0 ⟨[], []⟩ := fun lo hl hr =>
    ⟨h1, ⟨fun _ => 0, fun _ => [], RelG.alone r mm _⟩, Nat.le_trans hl h2, fun j hj => Nat.le_trans hl (hf j hj), hmx.below h5 hmx.room, hr⟩
  exact ⟨T, r, _, he, key _ (Nat.le_refl _) hmx.room, key, hf, h2, h5⟩
end Go.Proofs.YtgoemaecdolioaaGreatDoor

/-
  model: refusals; tried: what is given up with is told.
-/
namespace Go.Proofs.YtgoemaecdolioaaGreatDoor
open Go.RowKit Go.Shelf
attribute [local go_sem] Oper.semAt_some

/-- What is given up with. -/
def refuseM (c : Int) : List PanicEntry := [{ v := .iface 94 (.int .i64 c), recovered := false }]
/-- It goes on, or gives up with an error, and memory stays. -/
def GoesM (b : Bool) (c : Int) (w : World) (e : Ending) (w' : World) : Prop := (b = true ∧ (∃ u, e = .returned u) ∧ w' = w) ∨ (b = false ∧ e = .panicked (refuseM c) ∧ w' = w)
theorem mustGo11_ok (w : World) : Calls Tryz.prog 60 #[.int .i64 0] w fun e w' => (∃ u, e = .returned u) ∧ w' = w := by
  go_enter Tryz.func60, Tryz.ntmps60
  go_wp2
  first
  | go_end0
  | refine bodyPost_ret (results_none rfl _ _ _) rfl ?_
  exact ⟨⟨_, rfl⟩, rfl⟩
theorem mustGo11_no (c : Int) (h : c ≠ 0) (w : World) : Calls Tryz.prog 60 #[.int .i64 c] w fun e w' => e = .panicked (refuseM c) ∧ w' = w := by
  have h1 : (c != 0) = true := by simpa using h
  go_enter Tryz.func60, Tryz.ntmps60
  go_wp2
  exact ⟨rfl, rfl, rfl⟩
theorem mustBe11_any (b : Bool) (c : Int) (h : c ≠ 0) (w : World) : Calls Tryz.prog 37 #[.bool b, .int .i64 c] w (GoesM b c w) := by
  have HM := Lib.hid (mustGo11_no c h)
  clear h
  cases b
  · go_enter Tryz.func37, Tryz.ntmps37
    go_wp2_with (go_at_call 60; refine (HM.out _).mono ?_; rintro e w' ⟨rfl, rfl⟩)
    exact ⟨rfl, .inr ⟨by first | trivial | rfl, rfl, rfl⟩⟩
  · go_enter Tryz.func37, Tryz.ntmps37
    go_wp2
    first
    | go_end0
    | refine bodyPost_ret (results_none rfl _ _ _) rfl ?_
    exact .inl ⟨by first | trivial | rfl, ⟨_, rfl⟩, rfl⟩
theorem infoRM : (Tryz.prog.info? 94).map (fun i => (i.zero, i.size, i.bytes)) = some (some (.int .i64 0), 1, 8) := by kernel_rfl
theorem ta11_nil (W : World) : (Instr.typeAssert .nilIface 20 94 true).run Tryz.prog W = .ok (.tuple #[.int .i64 0, .bool false]) W := by
  obtain ⟨i, hi, hz, -, -⟩ := nd_info infoRM
  simp [Instr.typeAssert, run_underlying Tryz.underlying94, zeroValue, typeInfo, hi, hz]
theorem ta11_some (c : Int) (W : World) : (Instr.typeAssert (.iface 94 (.int .i64 c)) 20 94 true).run Tryz.prog W = .ok (.tuple #[.int .i64 c, .bool true]) W := by
  simp [Instr.typeAssert, run_underlying Tryz.underlying94]
def refusedM (c : Int) : List PanicEntry := [{ v := .iface 94 (.int .i64 c), recovered := true }]
theorem tried11D_ok (E : Nat) (w : World) : CallsD Tryz.prog 53 #[.pointer (some ⟨E, 0, none⟩)] .returning w fun e u' w' => e = .returned (.tuple #[]) ∧ u' = .returning ∧ w' = w := by
  refine callsD_of_wpS Tryz.func53 rfl fun c₀ cs hu => ?_
  apply wpS_seq
  apply wpS_region
  have h1 := ta11_nil
  simp [wpOpsS, go_sem, recoverD, hu, Tryz.ntmps53, Exit.thenS, h1]
  generalize hA : (#[Value.pointer (some ⟨E, 0, none⟩)] ++ _ : Array Value) = A0
  have hA2 : A0 = #[.pointer (some ⟨E, 0, none⟩), .int .i64 0, .bool false, .tuple #[.int .i64 0, .bool false], .nilIface, .tuple #[.int .i64 0, .bool false], .int .i64 0, .bool false, undef, undef] := by rw [← hA]; kernel_rfl
  subst hA2
  clear hA
  refine wpS_of_wp ?_
  go_wp2_with fail
  cases c₀
  simp_all [bodyPostS, results, Tryz.results53]
theorem tried11D_no (E : Nat) (c : Int) (v : Value) (w : World) (hE : Boxed w E 30 v) : CallsD Tryz.prog 53 #[.pointer (some ⟨E, 0, none⟩)] (.panicking (refuseM c)) w fun e u' w' => e = .returned (.tuple #[]) ∧ u' = .panicking (refusedM c) ∧ w' = w.setCell ⟨E, 0, none⟩ (.int .i64 c) := by
  have ce := hE.cell
  have fe := hE.frozen
  refine callsD_of_wpS Tryz.func53 rfl fun c₀ cs hu => ?_
  apply wpS_seq
  apply wpS_region
  have h1 := ta11_some c
  unfold refuseM at hu
  simp [wpOpsS, go_sem, recoverD, hu, Tryz.ntmps53, Exit.thenS, h1]
  generalize hA : (#[Value.pointer (some ⟨E, 0, none⟩)] ++ _ : Array Value) = A0
  have hA2 : A0 = #[.pointer (some ⟨E, 0, none⟩), .int .i64 c, .bool true, .tuple #[.int .i64 c, .bool true], (.iface 94 (.int .i64 c)), .tuple #[.int .i64 c, .bool true], .int .i64 c, .bool true, undef, undef] := by rw [← hA]; kernel_rfl
  subst hA2
  clear hA
  refine wpS_of_wp ?_
  go_wp2_with fail
  cases c₀
  simp_all [bodyPostS, results, Tryz.results53]
  rfl
/-- What is done goes well (0), or tells an error; behind it P holds. -/
theorem tried11_any {f : FuncId} (hf : Enters Tryz.prog f) (caps : Array Value) (w : World) (P : Int → World → Prop)
    (hD : Calls Tryz.prog f caps (w.alloc (.cells #[.int .i64 0] 30)) fun e w1 => (∃ c, Boxed w1 w.heap.size 30 (.int .i64 0) ∧ P c w1 ∧ ((c = 0 ∧ ∃ u, e = .returned u) ∨ (c ≠ 0 ∧ e = .panicked (refuseM c))))) :
    Calls Tryz.prog 30 #[.func (.func f) #[] caps] w fun e w' => ∃ c w1, e = .returned (.int .i64 c) ∧ P c w1 ∧ Turn (fun k => k = w.heap.size) w1 w' := by
  have hmf : ∀ (fn : Fn) (first cap : Array Value) (w : World), (Instr.makeFunc fn first cap).run Tryz.prog w = .ok (.func fn first cap) w := fun _ _ _ _ => rfl
  have e0 : ∀ args W, (callFunc f args).run Tryz.prog W = .ok (.enter f args) W := hf
  have HDD := Lib.hid hD
  clear hD hf
  go_enter_defers Tryz.func30, Tryz.ntmps30
  go_wp2_with fail
  refine HDD.out.mono ?_
  rintro e w3 ⟨c, hbx, hp, ⟨rfl, u2, rfl⟩ | ⟨hc, rfl⟩⟩
  · have HP := Lib.hid hp
    have HBX := Lib.hid hbx
    have ceb := hbx.cell
    have feb := hbx.frozen
    clear hp hbx
    go_wp2_with fail
    have HB2 : Hid (Boxed (w3.setCell ⟨w.heap.size, 0, none⟩ (.int .i64 0)) w.heap.size 30 (.int .i64 0)) := show Boxed _ _ _ _ from HBX.out.set _
    have ht : Turn (fun k => k = w.heap.size) w3 (w3.setCell ⟨w.heap.size, 0, none⟩ (.int .i64 0)) := Turn.setCell _ _ rfl
    have HTT := Lib.hid ht
    obtain ⟨W4, hW4⟩ : ∃ W4, w3.setCell ⟨w.heap.size, 0, none⟩ (.int .i64 0) = W4 := ⟨_, rfl⟩
    rw [hW4] at HB2 HTT ⊢
    have cc4 := HB2.out.cell
    clear ht hW4 ceb feb
    refine leaves_cons (f := 53) (args := #[.pointer (some ⟨w.heap.size, 0, none⟩)]) (by simp) (by simp [go_sem]) ?_
    refine (tried11D_ok _ _).mono ?_
    rintro e u' w'' ⟨rfl, rfl, rfl⟩
    simp [Leaves, settle, results, Tryz.results30, go_sem, cc4]
    exact ⟨w3, HP.out, HTT.out⟩
  · have HP := Lib.hid hp
    have HBX := Lib.hid hbx
    have HC := Lib.hid hc
    clear hp hbx hc
    refine leaves_cons (f := 53) (args := #[.pointer (some ⟨w.heap.size, 0, none⟩)]) (by simp) (by simp [go_sem]) ?_
    refine (tried11D_no _ c _ _ HBX.out).mono ?_
    rintro e u' w'' ⟨rfl, rfl, rfl⟩
    have HB2 : Hid (Boxed (w3.setCell ⟨w.heap.size, 0, none⟩ (.int .i64 c)) w.heap.size 30 (.int .i64 c)) := show Boxed _ _ _ _ from HBX.out.set _
    have ht : Turn (fun k => k = w.heap.size) w3 (w3.setCell ⟨w.heap.size, 0, none⟩ (.int .i64 c)) := Turn.setCell _ _ rfl
    have HTT := Lib.hid ht
    obtain ⟨W4, hW4⟩ : ∃ W4, w3.setCell ⟨w.heap.size, 0, none⟩ (.int .i64 c) = W4 := ⟨_, rfl⟩
    rw [hW4] at HB2 HTT ⊢
    have cc4 := HB2.out.cell
    clear ht hW4
    simp [Leaves, settle, results, Tryz.results30, go_sem, cc4, refusedM]
    exact ⟨w3, HP.out, HTT.out⟩
/-- What is answered, unless something is wrong. -/
theorem told11K_any (v : Value) (c : Int) (w : World) : Calls Tryz.prog 116 #[v, .int .i64 c] w fun e w' => w' = w ∧ ((c = 0 ∧ e = .returned v) ∨ (c ≠ 0 ∧ e = .panicked (refuseM c))) := by
  have HO := Lib.hid mustGo11_ok
  have HN := Lib.hid (@mustGo11_no c)
  by_cases h : c = 0
  · subst h
    go_enter Tryz.func116, Tryz.ntmps116
    go_wp2_with fail
    refine (HO.out _).mono ?_
    rintro e w1 ⟨⟨u, rfl⟩, rfl⟩
    go_wp2_with fail
    go_ret
    exact ⟨rfl, .inl ⟨by first | trivial | rfl, rfl⟩⟩
  · have HC := Lib.hid h
    clear h
    go_enter Tryz.func116, Tryz.ntmps116
    go_wp2_with fail
    refine (HN.out HC.out _).mono ?_
    rintro e w1 ⟨rfl, rfl⟩
    exact ⟨rfl, rfl, .inr ⟨HC.out, rfl⟩⟩
/-- What is answered, unless something is wrong. -/
theorem told11I_any (v : Value) (c : Int) (w : World) : Calls Tryz.prog 117 #[v, .int .i64 c] w fun e w' => w' = w ∧ ((c = 0 ∧ e = .returned v) ∨ (c ≠ 0 ∧ e = .panicked (refuseM c))) := by
  have HO := Lib.hid mustGo11_ok
  have HN := Lib.hid (@mustGo11_no c)
  by_cases h : c = 0
  · subst h
    go_enter Tryz.func117, Tryz.ntmps117
    go_wp2_with fail
    refine (HO.out _).mono ?_
    rintro e w1 ⟨⟨u, rfl⟩, rfl⟩
    go_wp2_with fail
    go_ret
    exact ⟨rfl, .inl ⟨by first | trivial | rfl, rfl⟩⟩
  · have HC := Lib.hid h
    clear h
    go_enter Tryz.func117, Tryz.ntmps117
    go_wp2_with fail
    refine (HN.out HC.out _).mono ?_
    rintro e w1 ⟨rfl, rfl⟩
    exact ⟨rfl, rfl, .inr ⟨HC.out, rfl⟩⟩
/-- What is answered, unless something is wrong. -/
theorem told11B_any (v : Value) (c : Int) (w : World) : Calls Tryz.prog 119 #[v, .int .i64 c] w fun e w' => w' = w ∧ ((c = 0 ∧ e = .returned v) ∨ (c ≠ 0 ∧ e = .panicked (refuseM c))) := by
  have HO := Lib.hid mustGo11_ok
  have HN := Lib.hid (@mustGo11_no c)
  by_cases h : c = 0
  · subst h
    go_enter Tryz.func119, Tryz.ntmps119
    go_wp2_with fail
    refine (HO.out _).mono ?_
    rintro e w1 ⟨⟨u, rfl⟩, rfl⟩
    go_wp2_with fail
    go_ret
    exact ⟨rfl, .inl ⟨by first | trivial | rfl, rfl⟩⟩
  · have HC := Lib.hid h
    clear h
    go_enter Tryz.func119, Tryz.ntmps119
    go_wp2_with fail
    refine (HN.out HC.out _).mono ?_
    rintro e w1 ⟨rfl, rfl⟩
    exact ⟨rfl, rfl, .inr ⟨HC.out, rfl⟩⟩
/-- What is answered, unless something is wrong. -/
theorem told11S_any (v : Value) (c : Int) (w : World) : Calls Tryz.prog 121 #[v, .int .i64 c] w fun e w' => w' = w ∧ ((c = 0 ∧ e = .returned v) ∨ (c ≠ 0 ∧ e = .panicked (refuseM c))) := by
  have HO := Lib.hid mustGo11_ok
  have HN := Lib.hid (@mustGo11_no c)
  by_cases h : c = 0
  · subst h
    go_enter Tryz.func121, Tryz.ntmps121
    go_wp2_with fail
    refine (HO.out _).mono ?_
    rintro e w1 ⟨⟨u, rfl⟩, rfl⟩
    go_wp2_with fail
    go_ret
    exact ⟨rfl, .inl ⟨by first | trivial | rfl, rfl⟩⟩
  · have HC := Lib.hid h
    clear h
    go_enter Tryz.func121, Tryz.ntmps121
    go_wp2_with fail
    refine (HN.out HC.out _).mono ?_
    rintro e w1 ⟨rfl, rfl⟩
    exact ⟨rfl, rfl, .inr ⟨HC.out, rfl⟩⟩
end Go.Proofs.YtgoemaecdolioaaGreatDoor
