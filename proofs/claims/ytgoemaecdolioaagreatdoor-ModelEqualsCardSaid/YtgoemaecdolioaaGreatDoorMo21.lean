/-
  Texts TgF to LaI, as one.
-/
import Derived.Test.YtgoemaecdolioaaGreatDoorMo20
import Derived.Shelf.SlIter.Keys
import Derived.Shelf.SlIter.Collect
import Derived.Shelf.SlicesE.Equal
import Derived.Test.YtgoemaecdolioaaGreatDoorChecked
import Derived.Shelf.SortM.Plain
import Derived.Shelf.SortM.SortNone
import Derived.Shelf.Slices.CompactS
/-
  tree: each operation, of the nodes and of the document's tree. Plain Lean.
-/
namespace Go.Proofs.YtgoemaecdolioaaGreatDoor
open Go.RowKit Go.Shelf

def OpRel (G : Gr) (r : Nat) (q : Except Int (Nat → Gr → Prop)) (t : RT) (R : RT × Int) : Prop := match q with
  | .error c => R = (t, c)
  | .ok Rl => R.2 = 0 ∧ ∀ N G', (∀ b x, G b = some x → b < N) → Rl N G' → ∃ φ' way', RelG G' r R.1 φ' way'
theorem lastN_right {ns : List (List UInt8)} (hr : ns.all rightN = true) (h0 : ns ≠ []) : rightN (lastN ns) = true := by
  have h := names_last h0
  rw [h, List.all_append] at hr
  have := ((Bool.and_eq_true _ _).mp hr).2
  simpa using this
theorem splitE_of {s : List UInt8} (h : ¬ (splitE s).2 ≠ 0) : (splitE s).2 = 0 := by simpa using h
section
variable {G : Gr} {r : Nat} {t : RT} {φ : Nat → Nat} {way : Nat → List (List UInt8)} (h : RelG G r t φ way)
include h
/-- What a path tells whose directory stands. -/
theorem RelG.at_spot (hS : Leads G) {s : List UInt8} (hs : (splitE s).2 = 0) (h0 : (splitE s).1 ≠ []) {d : Nat} (hsp : spotN G r (splitE s).1 = .ok d) :
    ∃ x, G d = some x ∧ StandG G r d ∧ s = pathOf (way d ++ [lastN (splitE s).1]) ∧ rightN (lastN (splitE s).1) = true ∧ atR t s = (match lookNm x.nm (lastN (splitE s).1) with | some c => psi r φ c | none => -1) := by
  obtain ⟨x, hx, hst, hw⟩ := h.spot_way hS (splitE_right s) hsp
  have hl := lastN_right (splitE_right s) h0
  have e : s = pathOf (way d ++ [lastN (splitE s).1]) := by
    rw [hw, ← names_last h0]
    exact splitE_back s hs
  refine ⟨x, hx, hst, e, hl, ?_⟩
  have := h.at_ hst hx hl
  rw [← e] at this
  exact this
theorem RelG.rel_make (hS : Leads G) (s : List UInt8) (k : Int) : OpRel G r (makeQ G r s k) t (rMake t s k) := by
  unfold OpRel makeQ makeE rMake
  by_cases h1 : (splitE s).2 ≠ 0
  · rw [if_pos h1, if_pos h1]
  · rw [if_neg h1, if_neg h1]
    have h1' := splitE_of h1
    by_cases h2 : k ≠ 1 ∧ k ≠ 2
    · rw [if_pos h2, if_pos h2]
    · rw [if_neg h2, if_neg h2]
      unfold addE
      by_cases h3 : (splitE s).1 = []
      · rw [if_pos h3, if_pos ((pathOf_root h1').2 h3)]
      · rw [if_neg h3, if_neg (fun e => h3 ((pathOf_root h1').1 e))]
        have hpar := h.par_eq hS (splitE_right s)
        cases hsp : spotN G r (splitE s).1 with
        | error e =>
          rw [hsp] at hpar
          simp only at hpar ⊢
          have he : e ≠ 0 := by
            obtain ⟨xr, hxr, -⟩ := h.root
            unfold spotN at hsp
            cases hw : walkN G r (splitE s).1.dropLast with
            | error e2 =>
              rw [hw] at hsp
              simp only [Except.error.injEq] at hsp
              rcases walkN_err hS _ _ _ _ hxr hw with e1 | e1 <;> omega
            | ok d =>
              obtain ⟨x, hx⟩ := walkN_leads hS _ _ _ _ hxr hw
              rw [hw] at hsp
              simp only [hx] at hsp
              split at hsp
              · cases hsp
              · simp only [Except.error.injEq] at hsp
                omega
          rw [if_pos (show parR t (splitE s).1 ≠ 0 by rw [hpar]; exact he), hpar]
        | ok d =>
          obtain ⟨x, hx, hst, e, hl, hat⟩ := h.at_spot hS h1' h3 hsp
          rw [hsp] at hpar
          simp only at hpar
          simp only [hx]
          rw [if_neg (show ¬ parR t (splitE s).1 ≠ 0 by rw [hpar]; decide)]
          cases hlk : lookNm x.nm (lastN (splitE s).1) with
          | some c =>
            rw [hlk] at hat
            simp only at hat
            simp only [Option.isSome_some, if_true]
            rw [if_pos (show atR t s ≠ -1 by rw [hat, h.psi_edge ⟨x, hx, hlk⟩]; omega)]
          | none =>
            rw [hlk] at hat
            simp only at hat
            simp only [Option.isSome_none, Bool.false_eq_true, if_false]
            rw [if_neg (show ¬ atR t s ≠ -1 by rw [hat]; decide)]
            have hz : (newN k 0).links < 200 := by show 0 < 200; omega
            rw [if_pos hz]
            refine ⟨by first | trivial | rfl, fun N G' hN hG' => ?_⟩
            obtain ⟨x', n, mm, hx', h4, h5, h6, rfl⟩ := hG'
            rw [hx] at hx'
            obtain rfl := Option.some.inj hx'
            have hn : G n = none := by
              cases hg : G n with
              | none => rfl
              | some y => have := hN n y hg; omega
            have hdn : d ≠ n := fun e2 => by rw [← e2, hx] at hn; cases hn
            have hk : k = 1 ∨ k = 2 := by omega
            have := h.addNew hS hst hx hdn hl hlk hn (z := newN k mm) ⟨rfl, rfl, rfl, hk⟩
            rw [← e] at this
            exact ⟨_, _, this⟩
theorem RelG.file_eq (hS : Leads G) {s : List UInt8} (hs : (splitE s).2 = 0) : fileR t s = (match walkN G r (splitE s).1 with | .error e => (0, e) | .ok c => match G c with | none => (0, 0) | some y => (psi r φ c, if y.isDir = true then 204 else 0)) := by
  obtain ⟨xr, hxr, -⟩ := h.root
  unfold fileR
  rw [if_neg (by simpa using hs), h.findR_eq hS (splitE_right s)]
  cases hw : walkN G r (splitE s).1 with
  | error e =>
    simp only
    rw [if_neg]
    rintro ⟨e0, -⟩
    rcases walkN_err hS _ _ _ _ hxr hw with e1 | e1 <;> omega
  | ok c =>
    obtain ⟨y, hy⟩ := walkN_leads hS _ _ _ _ hxr hw
    simp only [hy, h.dirR_eq (h.walk_as hS (splitE_right s) hw) hy]
    cases y.isDir <;> simp
/-- A file has an edge to it. -/
theorem RelG.file_edge (hS : Leads G) {ns : List (List UInt8)} (hr : ns.all rightN = true) {c : Nat} {y : TN} (hw : walkN G r ns = .ok c) (hy : G c = some y) (hf : y.isDir = false) : ns ≠ [] ∧ ∃ d s, EdgeG G d s c := by
  obtain ⟨xr, hxr, hdr⟩ := h.rootDir
  have h0 : ns ≠ [] := fun e => by
    rw [e] at hw
    simp only [walkN, Except.ok.injEq] at hw
    rw [← hw, hxr] at hy
    obtain rfl := Option.some.inj hy
    rw [hdr] at hf
    cases hf
  refine ⟨h0, ?_⟩
  rcases h.walk_as hS hr hw with ⟨-, e⟩ | ⟨d, s, he, -⟩
  · exact absurd e h0
  · exact ⟨d, s, he⟩
theorem RelG.rel_put (hS : Leads G) (s : List UInt8) {ds : List Nat} {bs : List UInt8} (hb : bytesN bs = ds) : OpRel G r (putQ G r s ds) t (rPut t s bs) := by
  obtain ⟨xr, hxr, -⟩ := h.root
  have hlen : bs.length = ds.length := by rw [← hb]; simp [bytesN]
  unfold OpRel putQ putE rPut
  by_cases h1 : (splitE s).2 ≠ 0
  · rw [if_pos h1]
    have e : fileR t s = (0, (splitE s).2) := if_pos h1
    rw [e, if_pos h1]
  · rw [if_neg h1]
    have h1' := splitE_of h1
    rw [h.file_eq hS h1']
    cases hw : walkN G r (splitE s).1 with
    | error e =>
      simp only
      rw [if_pos]
      rcases walkN_err hS _ _ _ _ hxr hw with e1 | e1 <;> omega
    | ok c =>
      obtain ⟨y, hy⟩ := walkN_leads hS _ _ _ _ hxr hw
      simp only [hy]
      unfold fillN
      cases hd : y.isDir with
      | true => simp
      | false =>
        by_cases hl : 448 < ds.length
        · simp [hl, hlen]
        · simp only [Bool.false_eq_true, if_false, hl, hlen, ne_eq, not_true]
          refine ⟨by first | trivial | rfl, fun N G' hN hG' => ?_⟩
          obtain ⟨x', v, hx', rfl⟩ := hG'
          rw [hy] at hx'
          obtain rfl := Option.some.inj hx'
          obtain ⟨-, d0, s0, he⟩ := h.file_edge hS (splitE_right s) hw hy hd
          have := h.fill (v := v) hy hd he hb (by omega)
          obtain ⟨⟨b0, g1, -⟩, -⟩ := h.told d0 s0 c y he hy
          rw [h.psi_edge he, Int.toNat_natCast, g1]
          exact ⟨_, _, this⟩
theorem RelG.rel_link (hS : Leads G) (f s : List UInt8) : OpRel G r (linkQ G r f s) t (rLink t f s) := by
  obtain ⟨xr, hxr, -⟩ := h.root
  unfold OpRel linkQ linkE rLink
  by_cases h1 : (splitE f).2 ≠ 0
  · rw [if_pos h1, if_pos h1]
  · rw [if_neg h1, if_neg h1]
    have h1' := splitE_of h1
    by_cases h2 : (splitE s).2 ≠ 0
    · rw [if_pos h2, if_pos h2]
    · rw [if_neg h2, if_neg h2, h.file_eq hS h1']
      have h2' := splitE_of h2
      cases hw : walkN G r (splitE f).1 with
      | error e =>
        simp only
        rw [if_pos]
        rcases walkN_err hS _ _ _ _ hxr hw with e1 | e1 <;> omega
      | ok c =>
        obtain ⟨y, hy⟩ := walkN_leads hS _ _ _ _ hxr hw
        simp only [hy]
        cases hd : y.isDir with
        | true => simp
        | false =>
          simp only [Bool.false_eq_true, if_false, ne_eq, not_true]
          unfold addE
          by_cases h3 : (splitE s).1 = []
          · rw [if_pos h3, if_pos ((pathOf_root h2').2 h3)]
          · rw [if_neg h3, if_neg (fun e => h3 ((pathOf_root h2').1 e))]
            have hpar := h.par_eq hS (splitE_right s)
            cases hsp : spotN G r (splitE s).1 with
            | error e =>
              rw [hsp] at hpar
              simp only at hpar ⊢
              have he : e ≠ 0 := by
                unfold spotN at hsp
                cases hw2 : walkN G r (splitE s).1.dropLast with
                | error e2 =>
                  rw [hw2] at hsp
                  simp only [Except.error.injEq] at hsp
                  rcases walkN_err hS _ _ _ _ hxr hw2 with e1 | e1 <;> omega
                | ok d =>
                  obtain ⟨x, hx⟩ := walkN_leads hS _ _ _ _ hxr hw2
                  rw [hw2] at hsp
                  simp only [hx] at hsp
                  split at hsp
                  · cases hsp
                  · simp only [Except.error.injEq] at hsp
                    omega
              rw [if_pos (show parR t (splitE s).1 ≠ 0 by rw [hpar]; exact he), hpar]
            | ok d =>
              obtain ⟨x, hx, hst, e, hl, hat⟩ := h.at_spot hS h2' h3 hsp
              obtain ⟨-, d0, s0, he0⟩ := h.file_edge hS (splitE_right f) hw hy hd
              rw [hsp] at hpar
              simp only at hpar
              simp only [hx]
              rw [if_neg (show ¬ parR t (splitE s).1 ≠ 0 by rw [hpar]; decide)]
              cases hlk : lookNm x.nm (lastN (splitE s).1) with
              | some c2 =>
                rw [hlk] at hat
                simp only at hat
                simp only [Option.isSome_some, if_true]
                rw [if_pos (show atR t s ≠ -1 by rw [hat, h.psi_edge ⟨x, hx, hlk⟩]; omega)]
              | none =>
                rw [hlk] at hat
                simp only at hat
                simp only [Option.isSome_none, Bool.false_eq_true, if_false]
                rw [if_neg (show ¬ atR t s ≠ -1 by rw [hat]; decide)]
                obtain ⟨-, g3, -⟩ := h.told d0 s0 c y he0 hy
                have hlk2 : linksR t (psi r φ c) = y.links := by
                  rw [h.psi_edge he0]
                  unfold linksR
                  rw [if_neg (by omega), Int.toNat_natCast, g3]
                rw [hlk2]
                by_cases hz : y.links < 200
                · rw [if_pos hz, if_neg (by omega)]
                  refine ⟨by first | trivial | rfl, fun N G' hN hG' => ?_⟩
                  obtain ⟨x', y', hx', hy', rfl⟩ := hG'
                  rw [hx] at hx'
                  obtain rfl := Option.some.inj hx'
                  rw [hy] at hy'
                  obtain rfl := Option.some.inj hy'
                  have := h.addOld hst hx hl hlk hy hd he0 hz
                  rw [← e] at this
                  rw [h.psi_edge he0, Int.toNat_natCast]
                  exact ⟨_, _, this⟩
                · rw [if_neg hz, if_pos (by omega)]
/-- The last name of a walk. -/
theorem RelG.walk_spot (hS : Leads G) {s : List UInt8} (hs : (splitE s).2 = 0) (h0 : (splitE s).1 ≠ []) {c : Nat} (hw : walkN G r (splitE s).1 = .ok c) :
    ∃ d x, spotN G r (splitE s).1 = .ok d ∧ G d = some x ∧ lookNm x.nm (lastN (splitE s).1) = some c ∧ s = pathOf (way d ++ [lastN (splitE s).1]) ∧ way d = (splitE s).1.dropLast ∧ EdgeG G d (lastN (splitE s).1) c := by
  obtain ⟨xr, hxr, -⟩ := h.root
  obtain ⟨d, x, hsp, hx, hl⟩ := walkN_last hS hxr h0 hw
  obtain ⟨x', hx', hst, hw'⟩ := h.spot_way hS (splitE_right s) hsp
  refine ⟨d, x, hsp, hx, hl, ?_, hw', ⟨x, hx, hl⟩⟩
  rw [hw', ← names_last h0]
  exact splitE_back s hs
theorem RelG.rel_drop (hS : Leads G) (s : List UInt8) : OpRel G r (lessQ G s (dropE G r s)) t (rDrop t s) := by
  obtain ⟨xr, hxr, -⟩ := h.root
  unfold OpRel lessQ dropE rDrop
  by_cases h1 : (splitE s).2 ≠ 0
  · rw [if_pos h1]
    have e : fileR t s = (0, (splitE s).2) := if_pos h1
    rw [e, if_pos h1]
  · rw [if_neg h1]
    have h1' := splitE_of h1
    rw [h.file_eq hS h1']
    cases hw : walkN G r (splitE s).1 with
    | error e =>
      simp only
      rw [if_pos]
      rcases walkN_err hS _ _ _ _ hxr hw with e1 | e1 <;> omega
    | ok c =>
      obtain ⟨y, hy⟩ := walkN_leads hS _ _ _ _ hxr hw
      simp only [hy]
      cases hd : y.isDir with
      | true => simp
      | false =>
        obtain ⟨h0, -⟩ := h.file_edge hS (splitE_right s) hw hy hd
        obtain ⟨d, x, hsp, hx, hl, e, -, -⟩ := h.walk_spot hS h1' h0 hw
        simp only [Bool.false_eq_true, if_false, ne_eq, not_true, hsp]
        refine ⟨by first | trivial | rfl, fun N G' hN hG' => ?_⟩
        obtain ⟨x', y', hx', hy', rfl⟩ := hG'
        rw [hx] at hx'
        obtain rfl := Option.some.inj hx'
        rw [hy] at hy'
        obtain rfl := Option.some.inj hy'
        have := h.less hx hl hy (.inl hd)
        rw [← e] at this
        exact ⟨_, _, this⟩
theorem RelG.names_at (hS : Leads G) {s : List UInt8} (hs : (splitE s).2 = 0) {c : Nat} {y : TN} (hw : walkN G r (splitE s).1 = .ok c) (hy : G c = some y) (hd : y.isDir = true) : namesR t s = sortU (y.nm.map (·.1)) ∧ (namesR t s = [] ↔ y.nm = []) := by
  obtain ⟨g1, g2⟩ := h.way_as (h.walk_as hS (splitE_right s) hw) hy hd
  have e : s = pathOf (way c) := by rw [← g2]; exact splitE_back s hs
  have h1 := h.names_eq g1 hy
  have h2 := h.names_nil g1 hy
  rw [← e] at h1 h2
  exact ⟨h1, h2⟩
theorem RelG.rel_remove (hS : Leads G) (s : List UInt8) : OpRel G r (lessQ G s (removeE G r s)) t (rRemove t s) := by
  obtain ⟨xr, hxr, -⟩ := h.root
  unfold OpRel lessQ removeE rRemove
  by_cases h1 : (splitE s).2 ≠ 0
  · rw [if_pos h1, if_pos h1]
  · rw [if_neg h1, if_neg h1]
    have h1' := splitE_of h1
    by_cases h3 : (splitE s).1 = []
    · rw [if_pos h3, if_pos ((pathOf_root h1').2 h3)]
    · rw [if_neg h3, if_neg (fun e => h3 ((pathOf_root h1').1 e))]
      have hfd := h.findR_eq hS (splitE_right s)
      cases hw : walkN G r (splitE s).1 with
      | error e =>
        rw [hw] at hfd
        simp only at hfd ⊢
        rw [hfd, if_pos]
        rcases walkN_err hS _ _ _ _ hxr hw with e1 | e1 <;> (show e ≠ 0; omega)
      | ok c =>
        obtain ⟨y, hy⟩ := walkN_leads hS _ _ _ _ hxr hw
        rw [hw] at hfd
        simp only at hfd
        have hdr := h.dirR_eq (h.walk_as hS (splitE_right s) hw) hy
        rw [if_neg (show ¬ (findR t (splitE s).1).2 ≠ 0 by rw [hfd]; simp), hfd]
        simp only [hy, hdr]
        cases hd : y.isDir with
        | false => simp
        | true =>
          obtain ⟨-, hn⟩ := h.names_at hS h1' hw hy hd
          obtain ⟨d, x, hsp, hx, hl, e, -, -⟩ := h.walk_spot hS h1' h3 hw
          simp only [Bool.true_eq_false, if_false, hsp]
          by_cases hnm : y.nm = []
          · rw [if_neg (by simpa using hnm), if_neg (by simpa using hn.2 hnm)]
            refine ⟨by first | trivial | rfl, fun N G' hN hG' => ?_⟩
            obtain ⟨x', y', hx', hy', rfl⟩ := hG'
            rw [hx] at hx'
            obtain rfl := Option.some.inj hx'
            rw [hy] at hy'
            obtain rfl := Option.some.inj hy'
            have := h.less hx hl hy (.inr hnm)
            rw [← e] at this
            exact ⟨_, _, this⟩
          · rw [if_pos hnm, if_pos (fun e2 => hnm (hn.1 e2))]
end
end Go.Proofs.YtgoemaecdolioaaGreatDoor

/-
  tree: Move, of the nodes and of the document's tree. Plain Lean.
-/
namespace Go.Proofs.YtgoemaecdolioaaGreatDoor
open Go.RowKit Go.Shelf

theorem moveFold_less {f t : List UInt8} (hu : underP t f = false) : ∀ (L o : RL), moveFold f t o (withoutR L t) = moveFold f t o L
  | [], _ => rfl
  | e :: r, o => by
    unfold withoutR
    rw [List.filter_cons]
    by_cases h : e.1 = t
    · have h1 : (!(e.1 == t)) = false := by simp [h]
      rw [h1, if_neg (by decide)]
      have ih := moveFold_less hu r o
      unfold withoutR at ih
      rw [ih]
      conv => rhs; unfold moveFold
      rw [h, hu, if_neg (by decide)]
    · have h1 : (!(e.1 == t)) = true := by simp [h]
      rw [h1, if_pos rfl]
      unfold moveFold
      have ih := moveFold_less hu r (if underP e.1 f = true then withR (withoutR o e.1) (movedP f t e.1) e.2 else o)
      unfold withoutR at ih ⊢
      exact ih
theorem moveRL_less {L : RL} {f t : List UInt8} {n : Nat} (hu : underP t f = false) : moveRL (withoutR L t) f t n = moveRL L f t n := by
  have h2 : withoutR (withoutR L t) t = withoutR L t := without_none fun k hk => ((mem_withoutR _ _ _).1 hk).2 rfl
  unfold moveRL
  rw [h2, moveFold_less hu]
theorem isIn_prefix {l o : List (List UInt8)} (h : o <+: l) (hne : o.length < l.length) : isIn l o = true := by
  obtain ⟨m, rfl⟩ := h
  unfold isIn beginsE
  rw [List.take_left]
  simp at hne ⊢
  omega
theorem less_leads {G : Gr} {d c : Nat} {x y : TN} {s : List UInt8} (hS : Leads G) (hx : G d = some x) (hy : G c = some y) (hdc : d ≠ c) : Leads (lessG G d x s c y) := fun b x' s' c' hb hl => by
  have he : EdgeG (lessG G d x s c y) b s' c' := ⟨x', hb, hl⟩
  obtain ⟨⟨x0, h0, hl0⟩, -⟩ := (edge_less hx hy hdc _ _ _).1 he
  obtain ⟨y0, hy0⟩ := hS b x0 s' c' h0 hl0
  by_cases h1 : c' = c
  · exact ⟨_, by rw [h1]; exact lessG_c G d x s c y⟩
  · by_cases h2 : c' = d
    · exact ⟨_, by rw [h2]; exact lessG_d G d x s c y hdc⟩
    · exact ⟨y0, (lessG_o G d x s c y c' h1 h2).trans hy0⟩
section
variable {G : Gr} {r : Nat} {t : RT} {φ : Nat → Nat} {way : Nat → List (List UInt8)} (h : RelG G r t φ way)
include h
theorem RelG.rel_moveEnd (hS : Leads G) {f s : List UInt8} {c n d1 d2 d1' : Nat} {x2 z x1' y' x2'' : TN} (hx2 : G d2 = some x2) (hlk : lookNm x2.nm (lastN (splitE s).1) = some c) (hz : G c = some z) (hend : Ends10 z) (hst : StandG G r d2) (hlr : rightN (lastN (splitE s).1) = true)
    (he1 : EdgeG G d1 (lastN (splitE f).1) n) (hnp : ¬ (way d1 ++ [lastN (splitE f).1]) <+: way d2) (hwf : way d1 = (splitE f).1.dropLast) (ef : f = pathOf (way d1 ++ [lastN (splitE f).1])) (es : s = pathOf (way d2 ++ [lastN (splitE s).1]))
    (hu2 : pathOf (way d2 ++ [lastN (splitE s).1]) ≠ pathOf (way d1 ++ [lastN (splitE f).1]) → underP s f = false) (hcn : c ≠ n)
    (hM : MoveAt (lessG G d2 x2 (lastN (splitE s).1) c z) r (splitE f).1 d1' n d2 (lastN (splitE s).1) x1' y' x2'') :
    ∃ φ' way', RelG (movedG (lessG G d2 x2 (lastN (splitE s).1) c z) d1' x1' (lastN (splitE f).1) n y' d2 x2'' (lastN (splitE s).1)) r ⟨moveRL t.L f s ((φ n : Nat) : Int).toNat, t.N⟩ φ' way' := by
  have hec : EdgeG G d2 (lastN (splitE s).1) c := ⟨x2, hx2, hlk⟩
  have hdc := h.self hec
  have h1 := h.less hx2 hlk hz hend
  have hS1 : Leads (lessG G d2 x2 (lastN (splitE s).1) c z) := less_leads hS hx2 hz hdc
  have hst1 : StandG (lessG G d2 x2 (lastN (splitE s).1) c z) r d2 := by
    refine ⟨(dir_less hx2 hz hdc).2 hst.1, ?_⟩
    rcases hst.2 with e | ⟨d0, s0, he⟩
    · exact .inl e
    · refine .inr ⟨d0, s0, (edge_less hx2 hz hdc _ _ _).2 ⟨he, fun e => ?_⟩⟩
      obtain ⟨rfl, rfl⟩ := e
      exact h.self he rfl
  obtain ⟨x0, hx0, -, hw1⟩ := h1.spot_way hS1 (splitE_right f) hM.sp
  have hww : way d1' = way d1 := by rw [hw1, hwf]
  have hne : pathOf (way d2 ++ [lastN (splitE s).1]) ≠ pathOf (way d1 ++ [lastN (splitE f).1]) := fun e => by
    obtain ⟨-, -, e3⟩ := h.path_edge hec he1 (pathOf_inj (h.pathR hec) (h.pathR he1) e)
    exact hcn e3
  have := h1.moved hM hst1 hlr (fun _ => by rw [hww]; exact hnp)
  rw [hww, ← ef, ← es] at this
  rw [Int.toNat_natCast, ← moveRL_less (hu2 hne)]
  exact ⟨_, _, this⟩
end
section
variable {G : Gr} {r : Nat} {t : RT} {φ : Nat → Nat} {way : Nat → List (List UInt8)} (h : RelG G r t φ way)
include h
/-- A directory that stands behind a name's path: the name's node is one. -/
theorem RelG.begin_dir {d1 n d2 : Nat} {y : TN} {l1 : List UInt8} (he : EdgeG G d1 l1 n) (hy : G n = some y) (hd2 : StandG G r d2) (hp : way d1 ++ [l1] <+: way d2) : y.isDir = true := by
  obtain ⟨e, c, a1, a2, a3, a4, -⟩ := h.begin_ hd2 hp
  have := h.wayI a1 (h.stand he) a2
  subst this
  obtain rfl := a3.one he
  obtain ⟨z, hz, hzd⟩ := a4.1
  rw [hy] at hz
  obtain rfl := Option.some.inj hz
  exact hzd
theorem RelG.spot_err (hS : Leads G) {ns : List (List UInt8)} {e : Int} (hs : spotN G r ns = .error e) : e ≠ 0 := by
  obtain ⟨xr, hxr, -⟩ := h.root
  unfold spotN at hs
  cases hw : walkN G r ns.dropLast with
  | error e2 =>
    rw [hw] at hs
    simp only [Except.error.injEq] at hs
    rcases walkN_err hS _ _ _ _ hxr hw with e1 | e1 <;> omega
  | ok d =>
    obtain ⟨x, hx⟩ := walkN_leads hS _ _ _ _ hxr hw
    rw [hw] at hs
    simp only [hx] at hs
    split at hs
    · cases hs
    · simp only [Except.error.injEq] at hs
      omega
theorem RelG.rel_moveT (hS : Leads G) {f s : List UInt8} (h1 : (splitE f).2 = 0) (h2 : (splitE s).2 = 0) (h3 : (splitE f).1 ≠ []) (h4 : (splitE s).1 ≠ []) {n : Nat} {y : TN} (hw : walkN G r (splitE f).1 = .ok n) (hy : G n = some y)
    (hin : (y.isDir && (withinE s f).1) = false) {d2 : Nat} {x2 : TN} (hsp : spotN G r (splitE s).1 = .ok d2) (hx2 : G d2 = some x2)
    (hfd : findR t (splitE f).1 = (psi r φ n, 0)) (hpar : parR t (splitE s).1 = 0) : OpRel G r (moveT G r f s n y d2 x2) t (rMove t f s) := by
  obtain ⟨xr, hxr, -⟩ := h.root
  obtain ⟨d1, x1, hsp1, hx1, hl1, ef, hwf, he1⟩ := h.walk_spot hS h1 h3 hw
  obtain ⟨x2', hx2', hst, es, hlr, hat⟩ := h.at_spot hS h2 h4 hsp
  rw [hx2] at hx2'
  obtain rfl := Option.some.inj hx2'
  obtain ⟨x2', hx2', -, hw2⟩ := h.spot_way hS (splitE_right s) hsp
  have hdn := h.dirR_eq (h.walk_as hS (splitE_right f) hw) hy
  have hff : way d1 ++ [lastN (splitE f).1] = (splitE f).1 := by rw [hwf]; exact (names_last h3).symm
  have hss : way d2 ++ [lastN (splitE s).1] = (splitE s).1 := by rw [hw2]; exact (names_last h4).symm
  have hnp : ¬ (way d1 ++ [lastN (splitE f).1]) <+: way d2 := fun hp => by
    have hd := h.begin_dir he1 hy hst hp
    rw [hd, Bool.true_and] at hin
    unfold withinE at hin
    rw [if_neg (by simpa using h2), if_neg (by simpa using h1)] at hin
    rw [hff] at hp
    have hp2 : (splitE f).1 <+: (splitE s).1 := by
      rw [← hss]
      exact hp.trans (List.prefix_append _ _)
    have hlen := hp.length_le
    have hl2 : (splitE s).1.length = (way d2).length + 1 := by rw [← hss]; simp
    have hin' : isIn (splitE s).1 (splitE f).1 = false := hin
    rw [isIn_prefix hp2 (by omega)] at hin'
    cases hin'
  have hu2 : pathOf (way d2 ++ [lastN (splitE s).1]) ≠ pathOf (way d1 ++ [lastN (splitE f).1]) → underP s f = false := fun hne => by
    cases hu : underP s f with
    | false => rfl
    | true =>
      exfalso
      rw [es, ef] at hu
      have r1 : (way d1 ++ [lastN (splitE f).1]).all rightN = true := by rw [hff]; exact splitE_right f
      have r2 : (way d2 ++ [lastN (splitE s).1]).all rightN = true := by rw [hss]; exact splitE_right s
      obtain ⟨a, m, e⟩ := (under_path r1 r2 (by simp)).1 hu
      have hp : way d1 ++ [lastN (splitE f).1] <+: way d2 ++ [lastN (splitE s).1] := by rw [e]; exact List.prefix_append _ _
      rcases List.prefix_concat_iff.1 hp with hp | hp
      · exact hne (by rw [hp])
      · exact hnp hp
  have g1 : ¬ (splitE f).2 ≠ 0 := by simpa using h1
  have g2 : ¬ (splitE s).2 ≠ 0 := by simpa using h2
  have g3 : ¬ (f = [47] ∨ s = [47]) := by
    rintro (e | e)
    · exact h3 ((pathOf_root h1).1 e)
    · exact h4 ((pathOf_root h2).1 e)
  have g4 : ¬ (findR t (splitE f).1).2 ≠ 0 := by rw [hfd]; simp
  have g5 : ¬ ((withinE s f).1 = true ∧ dirR t (findR t (splitE f).1).1 = true) := by
    rw [hfd]
    simp only [hdn]
    rintro ⟨a, b⟩
    rw [a, b] at hin
    cases hin
  have g6 : ¬ parR t (splitE s).1 ≠ 0 := by rw [hpar]; decide
  have hR : rMove t f s = if atR t s = (findR t (splitE f).1).1 then (t, 0) else
      if 0 ≤ atR t s ∧ dirR t (findR t (splitE f).1).1 = true ∧ dirR t (atR t s) = false then (t, 201) else
      if 0 ≤ atR t s ∧ dirR t (findR t (splitE f).1).1 = false ∧ dirR t (atR t s) = true then (t, 204) else
      if 0 ≤ atR t s ∧ dirR t (atR t s) = true ∧ namesR t s ≠ [] then (t, 205) else
      (⟨moveRL t.L f s (findR t (splitE f).1).1.toNat, t.N⟩, 0) := by
    conv => lhs; unfold rMove
    rw [if_neg g1, if_neg g2, if_neg g3, if_neg g4, if_neg g5, if_neg g6]
  rw [hR, hfd]
  simp only [hdn]
  have hpn := h.psi_edge he1
  unfold OpRel moveT
  cases hlk : lookNm x2.nm (lastN (splitE s).1) with
  | none =>
    rw [hlk] at hat
    simp only at hat
    rw [hat, hpn]
    simp only
    rw [if_neg (by omega), if_neg (by omega), if_neg (by omega), if_neg (by omega), Int.toNat_natCast]
    refine ⟨rfl, fun N G' hN hG' => ?_⟩
    obtain ⟨d1', x1', hM, rfl⟩ := hG'
    have e1 : d1' = d1 := by
      have := hM.sp
      rw [hsp1] at this
      exact (Except.ok.inj this).symm
    subst e1
    have := h.moved hM hst hlr (fun _ => hnp)
    rw [← ef, ← es] at this
    exact ⟨_, _, this⟩
  | some c =>
    have hec : EdgeG G d2 (lastN (splitE s).1) c := ⟨x2, hx2, hlk⟩
    have hpc := h.psi_edge hec
    rw [hlk] at hat
    simp only at hat
    rw [hat, hpc, hpn]
    simp only
    by_cases hcn : c = n
    · rw [if_pos hcn, if_pos (show ((φ c : Nat) : Int) = ((φ n : Nat) : Int) by rw [hcn])]
      refine ⟨rfl, fun N G' hN hG' => ?_⟩
      have hG2 : G' = G := hG'
      rw [hG2]
      exact ⟨φ, way, h⟩
    · rw [if_neg hcn, if_neg (show ¬ ((φ c : Nat) : Int) = ((φ n : Nat) : Int) from fun e => hcn (h.inj _ _ _ _ _ _ hec he1 (by omega)))]
      obtain ⟨z, hz⟩ := hS d2 x2 _ c hx2 hlk
      have hdc : dirR t ((φ c : Nat) : Int) = z.isDir := by
        have := h.dirR_eq (.inr ⟨d2, _, hec, rfl⟩) hz
        rw [hpc] at this
        exact this
      have hes : EdgeG G d2 (lastN (splitE s).1) c := hec
      have hwc : walkN G r (splitE s).1 = .ok c := by
        have hdl : walkN G r (splitE s).1.dropLast = .ok d2 := by
          obtain ⟨q1, q2, q3, q4⟩ := spotN_some hsp
          exact q4
        conv => lhs; arg 3; rw [names_last h4]
        rw [walkN_append, hdl]
        simp only
        obtain ⟨q, hq, hqd⟩ := h.dirs _ _ _ hec
        rw [hx2] at hq
        obtain rfl := Option.some.inj hq
        rw [walkN_of hx2 hqd hlk]
        rfl
      simp only [hz, hdc]
      unfold giveN
      cases hyd : y.isDir with
      | true =>
        cases hzd : z.isDir with
        | false => simp
        | true =>
          obtain ⟨-, hn⟩ := h.names_at hS h2 hwc hz hzd
          by_cases hnm : z.nm = []
          · have hn2 := hn.2 hnm
            simp only [hn2, hnm]
            simp only [Bool.true_or, Bool.true_eq_false, if_false, if_true, ne_eq, not_true, and_false, not_false_eq_true]
            refine ⟨by first | trivial | rfl, fun N G' hN hG' => ?_⟩
            obtain ⟨d1', x1', y', x2'', hM, rfl⟩ := hG'
            exact h.rel_moveEnd hS hx2 hlk hz (.inr hnm) hst hlr he1 hnp hwf ef es hu2 hcn hM
          · have hn2 : namesR t s ≠ [] := fun e => hnm (hn.1 e)
            simp only [hnm]
            simpa using hn2
      | false =>
        cases hzd : z.isDir with
        | true => simp
        | false =>
          have hnm : z.nm = [] := by
            cases hzn : z.nm with
            | nil => rfl
            | cons p q =>
              exfalso
              have hl : lookNm z.nm p.1 = some p.2 := mem_lookNm (h.rise c z hz) (by rw [hzn]; simp)
              obtain ⟨z', hz', hzd'⟩ := h.dirs c p.1 p.2 ⟨z, hz, hl⟩
              rw [hz] at hz'
              obtain rfl := Option.some.inj hz'
              rw [hzd] at hzd'
              cases hzd'
          simp only [hnm]
          simp only [Bool.false_or, Bool.or_false, Bool.not_false, Bool.true_eq_false, Bool.false_eq_true, if_false, if_true, ne_eq, not_true, and_false, false_and, not_false_eq_true]
          refine ⟨by first | trivial | rfl, fun N G' hN hG' => ?_⟩
          obtain ⟨d1', x1', y', x2'', hM, rfl⟩ := hG'
          exact h.rel_moveEnd hS hx2 hlk hz (.inl hzd) hst hlr he1 hnp hwf ef es hu2 hcn hM
theorem RelG.rel_move (hS : Leads G) (f s : List UInt8) : OpRel G r (moveQ G r f s) t (rMove t f s) := by
  obtain ⟨xr, hxr, -⟩ := h.root
  by_cases h1 : (splitE f).2 ≠ 0
  · unfold OpRel moveQ rMove
    rw [if_pos h1, if_pos h1]
  · by_cases h2 : (splitE s).2 ≠ 0
    · unfold OpRel moveQ rMove
      rw [if_neg h1, if_neg h1, if_pos h2, if_pos h2]
    · have h1' := splitE_of h1
      have h2' := splitE_of h2
      by_cases h3 : (splitE f).1 = [] ∨ (splitE s).1 = []
      · have h3' : f = [47] ∨ s = [47] := h3.imp (pathOf_root h1').2 (pathOf_root h2').2
        unfold OpRel moveQ rMove
        rw [if_neg h1, if_neg h1, if_neg h2, if_neg h2, if_pos h3, if_pos h3']
      · have h3' : ¬ (f = [47] ∨ s = [47]) := fun e => h3 (e.imp (pathOf_root h1').1 (pathOf_root h2').1)
        have hfd := h.findR_eq hS (splitE_right f)
        have hq : moveQ G r f s = match walkN G r (splitE f).1 with
          | .error c => .error c
          | .ok n => match G n with
            | none => .error 0
            | some y => if (y.isDir && (withinE s f).1) = true then .error 206 else match spotN G r (splitE s).1 with
              | .error c => .error c
              | .ok d2 => match G d2 with
                | none => .error 0
                | some x2 => moveT G r f s n y d2 x2 := by
          conv => lhs; unfold moveQ
          rw [if_neg h1, if_neg h2, if_neg h3] <;> rfl
        have hm : rMove t f s = if (findR t (splitE f).1).2 ≠ 0 then (t, (findR t (splitE f).1).2) else
            if (withinE s f).1 = true ∧ dirR t (findR t (splitE f).1).1 = true then (t, 206) else
            if parR t (splitE s).1 ≠ 0 then (t, parR t (splitE s).1) else rMove t f s := by
          unfold rMove
          rw [if_neg h1, if_neg h2, if_neg h3']
          repeat' split
          all_goals first | rfl | omega | (exfalso; omega) | simp_all
        rw [hq]
        cases hw : walkN G r (splitE f).1 with
        | error e =>
          rw [hw] at hfd
          simp only at hfd ⊢
          have he : e ≠ 0 := by rcases walkN_err hS _ _ _ _ hxr hw with e1 | e1 <;> omega
          rw [hm, hfd, if_pos he]
          exact (rfl : (t, e) = (t, e))
        | ok n =>
          obtain ⟨y, hy⟩ := walkN_leads hS _ _ _ _ hxr hw
          rw [hw] at hfd
          simp only at hfd
          have hdn := h.dirR_eq (h.walk_as hS (splitE_right f) hw) hy
          simp only [hy]
          by_cases hin : (y.isDir && (withinE s f).1) = true
          · rw [if_pos hin]
            rw [Bool.and_eq_true] at hin
            rw [hm, hfd, if_neg (by simp), if_pos ⟨hin.2, hdn.trans hin.1⟩]
            exact (rfl : (t, (206 : Int)) = (t, 206))
          · have hin' : (y.isDir && (withinE s f).1) = false := by simpa using hin
            rw [if_neg hin]
            have hnin : ¬ ((withinE s f).1 = true ∧ dirR t (psi r φ n) = true) := by
              rw [hdn]
              rintro ⟨a, b⟩
              exact hin (by rw [a, b]; rfl)
            have hpar := h.par_eq hS (splitE_right s)
            cases hsp : spotN G r (splitE s).1 with
            | error e =>
              rw [hsp] at hpar
              simp only at hpar ⊢
              have he := h.spot_err hS hsp
              rw [hm, hfd, if_neg (by simp), if_neg hnin, hpar, if_pos he]
              exact (rfl : (t, e) = (t, e))
            | ok d2 =>
              obtain ⟨x2, hx2, -⟩ := spotN_some hsp
              rw [hsp] at hpar
              simp only [hx2] at hpar ⊢
              exact h.rel_moveT hS h1' h2' (fun e => h3 (.inl e)) (fun e => h3 (.inr e)) hw hy hin' hsp hx2 hfd hpar
end
end Go.Proofs.YtgoemaecdolioaaGreatDoor

/-
  tree: maps.Keys, slices.Collect at texts; slices.Equal at bytes: laid at this program (written by gen_layx.py).
-/
namespace Go.Proofs.YtgoemaecdolioaaGreatDoor
open Go.RowKit Go.Maps Go.Sort Go.Shelf
def lay_keysN_ren : Go.Shelf.Ren := ⟨fun | 7 => 183 | 10 => 204 | n => n, fun | 23 => 106 | 26 => 9 | 3 => 103 | 28 => 224 | 0 => 0 | 27 => 223 | 33 => 102 | 4 => 4 | n => n, fun | n => n⟩
theorem lay_keysN : Go.Proofs.SlLaysZ.n7 Tryz.prog lay_keysN_ren :=
  { mixed := (by kernel_rfl),
    f7 := ⟨Tryz.f183.name, by decide, Tryz.func183.trans (congrArg some (by kernel_rfl))⟩,
    f10 := ⟨Tryz.f204.name, by decide, Tryz.func204.trans (congrArg some (by kernel_rfl))⟩,
    t0 := Tryz.underlying0,
    a0 := Tryz.isAgg0,
    z0 := Tryz.sizeOf0,
    v0 := Tryz.zeroValue0,
    t4 := Tryz.underlying4,
    a4 := Tryz.isAgg4,
    z4 := Tryz.sizeOf4,
    v4 := Tryz.zeroValue4,
    t23 := Tryz.underlying106,
    a23 := Tryz.isAgg106,
    z23 := Tryz.sizeOf106,
    v23 := Tryz.zeroValue106,
    t26 := Tryz.underlying9,
    a26 := Tryz.isAgg9,
    z26 := Tryz.sizeOf9,
    v26 := Tryz.zeroValue9,
    t27 := Tryz.underlying223,
    a27 := Tryz.isAgg223,
    z27 := Tryz.sizeOf223,
    v27 := Tryz.zeroValue223,
    t28 := Tryz.underlying224,
    a28 := Tryz.isAgg224,
    z28 := Tryz.sizeOf224,
    v28 := Tryz.zeroValue224,
    t33 := Tryz.underlying102,
    a33 := Tryz.isAgg102,
    z33 := Tryz.sizeOf102,
    v33 := Tryz.zeroValue102 }
def lay_collectS_ren : Go.Shelf.Ren := ⟨fun | 8 => 182 | 11 => 203 | n => n, fun | 26 => 9 | 28 => 224 | 24 => 42 | 0 => 0 | 33 => 102 | 4 => 4 | n => n, fun | n => n⟩
theorem lay_collectS : Go.Proofs.SlLaysZ.n8 Tryz.prog lay_collectS_ren :=
  { mixed := (by kernel_rfl),
    f8 := ⟨Tryz.f182.name, by decide, Tryz.func182.trans (congrArg some (by kernel_rfl))⟩,
    f11 := ⟨Tryz.f203.name, by decide, Tryz.func203.trans (congrArg some (by kernel_rfl))⟩,
    t0 := Tryz.underlying0,
    a0 := Tryz.isAgg0,
    z0 := Tryz.sizeOf0,
    v0 := Tryz.zeroValue0,
    t24 := Tryz.underlying42,
    a24 := Tryz.isAgg42,
    z24 := Tryz.sizeOf42,
    v24 := Tryz.zeroValue42,
    t26 := Tryz.underlying9,
    a26 := Tryz.isAgg9,
    z26 := Tryz.sizeOf9,
    v26 := Tryz.zeroValue9,
    t28 := Tryz.underlying224,
    a28 := Tryz.isAgg224,
    z28 := Tryz.sizeOf224,
    v28 := Tryz.zeroValue224,
    i26 := (by kernel_rfl) }
end Go.Proofs.YtgoemaecdolioaaGreatDoor

/-
  slices.Sort, slices.Compact at texts: laid at this program (written by gen_lays.py).
-/
namespace Go.Proofs.YtgoemaecdolioaaGreatDoor
open Go.RowKit Go.Sort Go.Shelf
def lay_sortS_ren : Go.Shelf.Ren := ⟨fun | 6 => 217 | 8 => 176 | 9 => 224 | 19 => 197 | 20 => 198 | 21 => 228 | 22 => 229 | 23 => 230 | 24 => 231 | 25 => 232 | 26 => 233 | 27 => 234 | 28 => 235 | 29 => 236 | 36 => 241 | 31 => 213 | 32 => 214 | 37 => 242 | 38 => 243 | 39 => 244 | 41 => 249 | n => n, fun | 27 => 42 | 29 => 9 | 3 => 3 | 32 => 219 | 26 => 42 | 0 => 0 | 44 => 243 | 46 => 245 | 4 => 4 | 36 => 236 | 35 => 235 | 41 => 240 | 5 => 5 | 9 => 9 | 53 => 267 | 57 => 271 | 63 => 278 | 64 => 113 | n => n, fun | n => n⟩
theorem lay_sortS : Go.Proofs.SlLaysM.n6 Tryz.prog lay_sortS_ren :=
  { mixed := (by kernel_rfl),
    f6 := ⟨Tryz.f217.name, by decide, Tryz.func217.trans (congrArg some (by kernel_rfl))⟩,
    f8 := Tryz.func176.trans (congrArg some (by kernel_rfl)),
    f9 := ⟨Tryz.f224.name, by decide, Tryz.func224.trans (congrArg some (by kernel_rfl))⟩,
    f19 := Tryz.func197.trans (congrArg some (by kernel_rfl)),
    f20 := Tryz.func198.trans (congrArg some (by kernel_rfl)),
    f21 := ⟨Tryz.f228.name, by decide, Tryz.func228.trans (congrArg some (by kernel_rfl))⟩,
    f22 := ⟨Tryz.f229.name, by decide, Tryz.func229.trans (congrArg some (by kernel_rfl))⟩,
    f23 := ⟨Tryz.f230.name, by decide, Tryz.func230.trans (congrArg some (by kernel_rfl))⟩,
    f24 := ⟨Tryz.f231.name, by decide, Tryz.func231.trans (congrArg some (by kernel_rfl))⟩,
    f25 := ⟨Tryz.f232.name, by decide, Tryz.func232.trans (congrArg some (by kernel_rfl))⟩,
    f26 := ⟨Tryz.f233.name, by decide, Tryz.func233.trans (congrArg some (by kernel_rfl))⟩,
    f27 := ⟨Tryz.f234.name, by decide, Tryz.func234.trans (congrArg some (by kernel_rfl))⟩,
    f28 := ⟨Tryz.f235.name, by decide, Tryz.func235.trans (congrArg some (by kernel_rfl))⟩,
    f29 := ⟨Tryz.f236.name, by decide, Tryz.func236.trans (congrArg some (by kernel_rfl))⟩,
    f31 := Tryz.func213.trans (congrArg some (by kernel_rfl)),
    f32 := Tryz.func214.trans (congrArg some (by kernel_rfl)),
    f36 := ⟨Tryz.f241.name, by decide, Tryz.func241.trans (congrArg some (by kernel_rfl))⟩,
    f37 := ⟨Tryz.f242.name, by decide, Tryz.func242.trans (congrArg some (by kernel_rfl))⟩,
    f38 := ⟨Tryz.f243.name, by decide, Tryz.func243.trans (congrArg some (by kernel_rfl))⟩,
    f39 := ⟨Tryz.f244.name, by decide, Tryz.func244.trans (congrArg some (by kernel_rfl))⟩,
    f41 := ⟨Tryz.f249.name, by decide, Tryz.func249.trans (congrArg some (by kernel_rfl))⟩,
    t0 := Tryz.underlying0,
    a0 := Tryz.isAgg0,
    z0 := Tryz.sizeOf0,
    v0 := Tryz.zeroValue0,
    t3 := Tryz.underlying3,
    a3 := Tryz.isAgg3,
    z3 := Tryz.sizeOf3,
    v3 := Tryz.zeroValue3,
    t4 := Tryz.underlying4,
    a4 := Tryz.isAgg4,
    z4 := Tryz.sizeOf4,
    v4 := Tryz.zeroValue4,
    t5 := Tryz.underlying5,
    a5 := Tryz.isAgg5,
    z5 := Tryz.sizeOf5,
    v5 := Tryz.zeroValue5,
    t9 := Tryz.underlying9,
    a9 := Tryz.isAgg9,
    z9 := Tryz.sizeOf9,
    v9 := Tryz.zeroValue9,
    t26 := Tryz.underlying42,
    a26 := Tryz.isAgg42,
    z26 := Tryz.sizeOf42,
    v26 := Tryz.zeroValue42,
    t27 := Tryz.underlying42,
    a27 := Tryz.isAgg42,
    z27 := Tryz.sizeOf42,
    v27 := Tryz.zeroValue42,
    t29 := Tryz.underlying9,
    a29 := Tryz.isAgg9,
    z29 := Tryz.sizeOf9,
    v29 := Tryz.zeroValue9,
    t32 := Tryz.underlying219,
    a32 := Tryz.isAgg219,
    z32 := Tryz.sizeOf219,
    v32 := Tryz.zeroValue219,
    t35 := Tryz.underlying235,
    a35 := Tryz.isAgg235,
    z35 := Tryz.sizeOf235,
    v35 := Tryz.zeroValue235,
    t36 := Tryz.underlying236,
    a36 := Tryz.isAgg236,
    z36 := Tryz.sizeOf236,
    v36 := Tryz.zeroValue236,
    t41 := Tryz.underlying240,
    a41 := Tryz.isAgg240,
    z41 := Tryz.sizeOf240,
    v41 := Tryz.zeroValue240,
    t44 := Tryz.underlying243,
    a44 := Tryz.isAgg243,
    z44 := Tryz.sizeOf243,
    v44 := Tryz.zeroValue243,
    t46 := Tryz.underlying245,
    a46 := Tryz.isAgg245,
    z46 := Tryz.sizeOf245,
    v46 := Tryz.zeroValue245,
    t53 := Tryz.underlying267,
    a53 := Tryz.isAgg267,
    z53 := Tryz.sizeOf267,
    v53 := Tryz.zeroValue267,
    t57 := Tryz.underlying271,
    a57 := Tryz.isAgg271,
    z57 := Tryz.sizeOf271,
    v57 := Tryz.zeroValue271,
    t63 := Tryz.underlying278,
    a63 := Tryz.isAgg278,
    z63 := Tryz.sizeOf278,
    v63 := Tryz.zeroValue278,
    t64 := Tryz.underlying113,
    a64 := Tryz.isAgg113,
    z64 := Tryz.sizeOf113,
    v64 := Tryz.zeroValue113 }
def lay_compS_ren : Go.Shelf.Ren := ⟨fun | 194 => 218 | n => n, fun | 0 => 0 | 3 => 3 | 4 => 4 | 9 => 9 | 31 => 42 | n => n, fun | n => n⟩
theorem lay_compS : Go.Proofs.Lays.n194 Tryz.prog lay_compS_ren :=
  { mixed := (by kernel_rfl),
    f194 := Tryz.func218.trans (congrArg some (by kernel_rfl)),
    t0 := Tryz.underlying0,
    a0 := Tryz.isAgg0,
    z0 := Tryz.sizeOf0,
    v0 := Tryz.zeroValue0,
    t3 := Tryz.underlying3,
    a3 := Tryz.isAgg3,
    z3 := Tryz.sizeOf3,
    v3 := Tryz.zeroValue3,
    t4 := Tryz.underlying4,
    a4 := Tryz.isAgg4,
    z4 := Tryz.sizeOf4,
    v4 := Tryz.zeroValue4,
    t9 := Tryz.underlying9,
    a9 := Tryz.isAgg9,
    z9 := Tryz.sizeOf9,
    v9 := Tryz.zeroValue9,
    t31 := Tryz.underlying42,
    a31 := Tryz.isAgg42,
    z31 := Tryz.sizeOf42,
    v31 := Tryz.zeroValue42 }
end Go.Proofs.YtgoemaecdolioaaGreatDoor
