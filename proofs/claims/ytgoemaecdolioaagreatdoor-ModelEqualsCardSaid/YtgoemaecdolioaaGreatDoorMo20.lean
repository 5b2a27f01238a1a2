/-
  Texts TgD to TgE, as one.
-/
import Derived.Test.YtgoemaecdolioaaGreatDoorMo19
/-
  tree: what stays so when bytes change, or a node moves; a root alone. Plain Lean.
-/
namespace Go.Proofs.YtgoemaecdolioaaGreatDoor
open Go.RowKit Go.Shelf

theorem RelG.alone (b m : Nat) (φ : Nat → Nat) : RelG (rootG b m) b ⟨[], []⟩ φ (fun _ => []) := by
  have hn : ∀ d s c, ¬ EdgeG (rootG b m) d s c := fun d s c he => by
    obtain ⟨x, hx, hl⟩ := he
    unfold rootG at hx
    split at hx
    · obtain rfl := Option.some.inj hx
      cases hl
    · cases hx
  have hx : ∀ d x, rootG b m d = some x → x = { newN 2 m with links := 1 } := fun d x hd => by
    unfold rootG at hd
    split at hd
    · exact (Option.some.inj hd).symm
    · cases hd
  refine ⟨rfl, fun d s c he => absurd he (hn _ _ _), fun d s c he => absurd he (hn _ _ _), fun d s c he => absurd he (hn _ _ _), fun d s he => hn _ _ _ he, ?_, ?_, ?_, ?_, fun d s c x he => absurd he (hn _ _ _), fun d s c d' s' c' he => absurd he (hn _ _ _), List.Pairwise.nil, ?_⟩
  · intro d x hd p hp
    rw [hx d x hd] at hp
    cases hp
  · intro d x hd
    rw [hx d x hd]
    exact List.Pairwise.nil
  · intro d x hd
    rw [hx d x hd]
    exact ⟨.inr rfl, Nat.zero_le _, fun _ => rfl⟩
  · intro p n
    constructor
    · intro h; cases h
    · rintro ⟨d, s, c, he, -⟩
      exact absurd he (hn _ _ _)
  · exact ⟨_, if_pos rfl, rfl, rfl⟩
section
variable {G : Gr} {r : Nat} {t : RT} {φ : Nat → Nat} {way : Nat → List (List UInt8)} (h : RelG G r t φ way)
include h
/-- Other bytes. -/
theorem RelG.fill {b d0 : Nat} {x : TN} {s0 : List UInt8} {v : Value} {ds : List Nat} {bs : List UInt8} (hx : G b = some x) (hf : x.isDir = false) (he0 : EdgeG G d0 s0 b) (hb : bytesN bs = ds) (hl : ds.length ≤ 448) :
    RelG (setG G b { x with cont := v, bytes := ds }) r ⟨t.L, t.N.set (φ b) (x.kind, bs)⟩ φ way := by
  have hN : ∀ {c y}, setG G b { x with cont := v, bytes := ds } c = some y → ∃ y0, G c = some y0 ∧ y.kind = y0.kind ∧ y.nm = y0.nm ∧ y.links = y0.links ∧ (c = b → y.bytes = ds) ∧ (c ≠ b → y.bytes = y0.bytes) := fun {c y} hy => by
    by_cases e : c = b
    · subst e
      rw [setG_same] at hy
      obtain rfl := Option.some.inj hy
      exact ⟨x, hx, rfl, rfl, rfl, fun _ => rfl, fun e => absurd rfl e⟩
    · rw [setG_other _ _ e] at hy
      exact ⟨y, hy, rfl, rfl, rfl, fun e2 => absurd e2 e, fun _ => rfl⟩
  have hN2 : ∀ {c y0}, G c = some y0 → ∃ y, setG G b { x with cont := v, bytes := ds } c = some y ∧ y.kind = y0.kind ∧ y.nm = y0.nm ∧ y.links = y0.links := fun {c y0} hy => by
    by_cases e : c = b
    · subst e
      rw [hx] at hy
      obtain rfl := Option.some.inj hy
      exact ⟨_, setG_same _ _ _, rfl, rfl, rfl⟩
    · exact ⟨y0, (setG_other _ _ e).trans hy, rfl, rfl, rfl⟩
  have hE : ∀ d s c, EdgeG (setG G b { x with cont := v, bytes := ds }) d s c ↔ EdgeG G d s c := fun d s c => by
    constructor
    · rintro ⟨y, hy, hl⟩
      obtain ⟨y0, h0, -, e, -⟩ := hN hy
      exact ⟨y0, h0, by rw [← e]; exact hl⟩
    · rintro ⟨y0, h0, hl⟩
      obtain ⟨y, hy, -, e, -⟩ := hN2 h0
      exact ⟨y, hy, by rw [e]; exact hl⟩
  have hD : ∀ d, DirG (setG G b { x with cont := v, bytes := ds }) d ↔ DirG G d := fun d => by
    constructor
    · rintro ⟨y, hy, hd⟩
      obtain ⟨y0, h0, e, -⟩ := hN hy
      exact ⟨y0, h0, by rw [← isDir_kind e]; exact hd⟩
    · rintro ⟨y0, h0, hd⟩
      obtain ⟨y, hy, e, -⟩ := hN2 h0
      exact ⟨y, hy, by rw [isDir_kind e]; exact hd⟩
  refine ⟨h.way0, ?_, ?_, ?_, ?_, ?_, ?_, ?_, ?_, ?_, ?_, h.ris, ?_⟩
  · intro d s c he hd
    exact h.ways _ _ _ ((hE _ _ _).1 he) ((hD _).1 hd)
  · intro d s c he
    rcases h.par _ _ _ ((hE _ _ _).1 he) with hp | ⟨d1, s1, hp⟩
    · exact .inl hp
    · exact .inr ⟨d1, s1, (hE _ _ _).2 hp⟩
  · intro d s c he
    exact (hD _).2 (h.dirs _ _ _ ((hE _ _ _).1 he))
  · intro d s he
    exact h.noroot _ _ ((hE _ _ _).1 he)
  · intro c y hy p hp
    obtain ⟨y0, h0, -, e, -⟩ := hN hy
    rw [e] at hp
    exact h.right c y0 h0 p hp
  · intro c y hy
    obtain ⟨y0, h0, -, e, -⟩ := hN hy
    rw [e]
    exact h.rise c y0 h0
  · intro c y hy
    obtain ⟨y0, h0, e, -, -, e2, e3⟩ := hN hy
    obtain ⟨k1, k2, k3⟩ := h.node c y0 h0
    rw [isDir_kind e, e]
    by_cases hc : c = b
    · rw [e2 hc]
      refine ⟨k1, hl, fun hd => ?_⟩
      subst hc
      rw [hx] at h0
      obtain rfl := Option.some.inj h0
      rw [hf] at hd
      cases hd
    · rw [e3 hc]
      exact ⟨k1, k2, k3⟩
  · intro p n
    rw [h.mem]
    constructor
    · rintro ⟨d, s, c, he, e⟩
      exact ⟨d, s, c, (hE _ _ _).2 he, e⟩
    · rintro ⟨d, s, c, he, e⟩
      exact ⟨d, s, c, (hE _ _ _).1 he, e⟩
  · intro d s c y he hy
    have f := (hE _ _ _).1 he
    obtain ⟨y0, h0, e, -, e1, e2, e3⟩ := hN hy
    obtain ⟨⟨b0, g1, g2⟩, g3, g4⟩ := h.told d s c y0 f h0
    rw [e, e1]
    refine ⟨?_, g3, g4⟩
    by_cases hc : c = b
    · subst hc
      rw [hx] at h0
      obtain rfl := Option.some.inj h0
      rw [e2 rfl]
      exact ⟨bs, by rw [List.getElem?_set_self (List.getElem?_eq_some_iff.1 g1).1], hb⟩
    · rw [e3 hc]
      exact ⟨b0, by rw [List.getElem?_set_ne (fun e5 => hc (h.inj _ _ _ _ _ _ f he0 e5.symm))]; exact g1, g2⟩
  · intro d s c d' s' c' he he' e
    exact h.inj _ _ _ _ _ _ ((hE _ _ _).1 he) ((hE _ _ _).1 he') e
  · obtain ⟨y0, h0, e1, e2⟩ := h.root
    obtain ⟨y, hy, f1, -, f2⟩ := hN2 h0
    exact ⟨y, hy, by rw [f1, e1], by rw [f2, e2]⟩
/-- A beginning of a way is a way. -/
theorem RelG.way_begin : ∀ (k : Nat) {d : Nat} {a : List (List UInt8)} {s : List UInt8}, StandG G r d → (way d).length = k → a ++ [s] <+: way d → ∃ e c, StandG G r e ∧ way e = a ∧ EdgeG G e s c ∧ StandG G r c ∧ way c = a ++ [s]
  | 0, d, a, s, _, hk, hp => by
    rw [List.length_eq_zero_iff.1 hk] at hp
    have := List.prefix_nil.1 hp
    simp at this
  | k + 1, d, a, s, hd, hk, hp => by
    rcases h.stand_way hd with ⟨-, e⟩ | ⟨d0, s0, he, e⟩
    · rw [e] at hk; cases hk
    · rw [e] at hp
      rcases List.prefix_concat_iff.1 hp with hp | hp
      · obtain ⟨e1, e2⟩ := List.append_inj' hp rfl
        have e3 : s = s0 := by simpa using e2
        subst e3
        exact ⟨d0, d, h.stand he, e1.symm, he, hd, by rw [e, e1]⟩
      · exact RelG.way_begin k (h.stand he) (by rw [e] at hk; simpa using hk) hp
theorem RelG.begin_ {d : Nat} {a : List (List UInt8)} {s : List UInt8} (hd : StandG G r d) (hp : a ++ [s] <+: way d) : ∃ e c, StandG G r e ∧ way e = a ∧ EdgeG G e s c ∧ StandG G r c ∧ way c = a ++ [s] := h.way_begin _ hd rfl hp
end
/-- The way behind a move. -/
def wayM (f t : List (List UInt8)) (way : Nat → List (List UInt8)) : Nat → List (List UInt8) := fun b => if f.isPrefixOf (way b) = true then t ++ (way b).drop f.length else way b
theorem wayM_in {f t : List (List UInt8)} {way : Nat → List (List UInt8)} {b : Nat} {m : List (List UInt8)} (e : way b = f ++ m) : wayM f t way b = t ++ m := by
  unfold wayM
  rw [if_pos (List.isPrefixOf_iff_prefix.2 (by rw [e]; exact List.prefix_append _ _)), e, List.drop_left]
theorem wayM_out {f t : List (List UInt8)} {way : Nat → List (List UInt8)} {b : Nat} (e : ¬ f <+: way b) : wayM f t way b = way b := by
  unfold wayM
  rw [if_neg (fun h => e (List.isPrefixOf_iff_prefix.1 h))]
theorem prefix_snoc {f a : List (List UInt8)} {s : List UInt8} (h : f <+: a ++ [s]) (hn : ¬ f <+: a) : f = a ++ [s] := by
  rcases List.prefix_concat_iff.1 h with h | h
  · exact h
  · exact absurd h hn
section
variable {G : Gr} {r : Nat} {names1 : List (List UInt8)} {d1 n d2 : Nat} {l2 : List UInt8} {x1 y x2 : TN} (h : MoveAt G r names1 d1 n d2 l2 x1 y x2)
include h
theorem MoveAt.edge (d' : Nat) (s' : List UInt8) (c' : Nat) : EdgeG (movedG G d1 x1 (lastN names1) n y d2 x2 l2) d' s' c' ↔ (d' = d2 ∧ s' = l2 ∧ c' = n) ∨ (EdgeG G d' s' c' ∧ ¬ (d' = d1 ∧ s' = lastN names1)) := by
  obtain ⟨hx, hno⟩ := h.x2'
  unfold movedG
  rw [edge_add hx h.n2 hno (.inl (lessG_c G d1 x1 _ n y)), edge_less h.hx1 h.hy h.n1]
theorem MoveAt.dir (b : Nat) : DirG (movedG G d1 x1 (lastN names1) n y d2 x2 l2) b ↔ DirG G b := by
  obtain ⟨hx, -⟩ := h.x2'
  unfold movedG
  by_cases e : b = n
  · subst e
    rw [dir_addN]
    constructor
    · exact fun hd => ⟨y, h.hy, hd⟩
    · rintro ⟨y', hy', hd⟩
      rw [h.hy] at hy'
      obtain rfl := Option.some.inj hy'
      exact hd
  · rw [dir_add hx h.n2 e, dir_less h.hx1 h.hy h.n1]
theorem MoveAt.node {b : Nat} {z : TN} (hz : movedG G d1 x1 (lastN names1) n y d2 x2 l2 b = some z) : ∃ z0, G b = some z0 ∧ z.kind = z0.kind ∧ z.bytes = z0.bytes ∧ z.links = z0.links := by
  obtain ⟨hx, -⟩ := h.x2'
  unfold movedG at hz
  rcases addG_node hx h.n2 hz with ⟨rfl, e1, e2, e3⟩ | ⟨hb, z0, h0, e1, e2, e3⟩
  · refine ⟨y, h.hy, e1, e2, ?_⟩
    rw [e3]
    have := h.l0
    show y.links - 1 + 1 = y.links
    omega
  · obtain ⟨z1, g0, f1, f2, -, f3⟩ := lessG_node h.hx1 h.hy h0
    exact ⟨z1, g0, e1.trans f1, e2.trans f2, e3.trans (f3 hb)⟩
theorem MoveAt.nm {b : Nat} {z : TN} (hz : movedG G d1 x1 (lastN names1) n y d2 x2 l2 b = some z) : (∃ z0, G b = some z0 ∧ (z.nm = z0.nm ∨ z.nm = delNm z0.nm (lastN names1))) ∨ (∃ z0, G d2 = some z0 ∧ (z.nm = putNm z0.nm l2 n ∨ z.nm = putNm (delNm z0.nm (lastN names1)) l2 n)) := by
  obtain ⟨hx, -⟩ := h.x2'
  unfold movedG at hz
  have key : ∀ {b z}, lessG G d1 x1 (lastN names1) n y b = some z → ∃ z0, G b = some z0 ∧ (z.nm = z0.nm ∨ z.nm = delNm z0.nm (lastN names1)) := fun {b z} hz => by
    rcases lessG_nm h.hx1 h.hy hz with ⟨z0, g, e⟩ | ⟨rfl, e⟩
    · exact ⟨z0, g, .inl e⟩
    · exact ⟨x1, h.hx1, .inr e⟩
  rcases addG_nm hx h.n2 hz with ⟨rfl, e⟩ | ⟨rfl, e⟩ | ⟨z0, h0, e⟩
  · exact .inl ⟨y, h.hy, .inl e⟩
  · obtain ⟨z0, g, e2⟩ := key hx
    refine .inr ⟨z0, g, ?_⟩
    rw [e]
    rcases e2 with e2 | e2
    · exact .inl (by rw [e2])
    · exact .inr (by rw [e2])
  · obtain ⟨z1, g, e2⟩ := key h0
    rw [e]
    exact .inl ⟨z1, g, e2⟩
end
section
variable {G : Gr} {r : Nat} {t : RT} {φ : Nat → Nat} {way : Nat → List (List UInt8)} (h : RelG G r t φ way)
include h
theorem RelG.moved {names1 : List (List UInt8)} {d1 n d2 : Nat} {l2 : List UInt8} {x1 y x2 : TN} (hM : MoveAt G r names1 d1 n d2 l2 x1 y x2) (hd2 : StandG G r d2) (hs2 : rightN l2 = true)
    (hin : y.isDir = true → ¬ (way d1 ++ [lastN names1]) <+: way d2) :
    RelG (movedG G d1 x1 (lastN names1) n y d2 x2 l2) r ⟨moveRL t.L (pathOf (way d1 ++ [lastN names1])) (pathOf (way d2 ++ [l2])) (φ n), t.N⟩ φ (wayM (way d1 ++ [lastN names1]) (way d2 ++ [l2]) way) := by
  have hE := hM.edge
  have hDD := hM.dir
  have hNN := @MoveAt.node _ _ _ _ _ _ _ _ _ _ hM
  have hNM := @MoveAt.nm _ _ _ _ _ _ _ _ _ _ hM
  obtain ⟨l1, hl1⟩ : ∃ l1, lastN names1 = l1 := ⟨_, rfl⟩
  have he0 : EdgeG G d1 l1 n := ⟨x1, hM.hx1, by rw [← hl1]; exact hM.hl⟩
  rw [hl1] at hin hE hDD hNN hNM ⊢
  obtain ⟨f, hf⟩ : ∃ f, way d1 ++ [l1] = f := ⟨_, rfl⟩
  obtain ⟨tq, hto⟩ : ∃ tq, way d2 ++ [l2] = tq := ⟨_, rfl⟩
  rw [hf] at hin
  rw [hf, hto]
  have hfr : f.all rightN = true := by rw [← hf]; exact h.pathR he0
  have htr : tq.all rightN = true := by rw [← hto, List.all_append, h.wayR hd2]; simpa using hs2
  have hf0 : f ≠ [] := by rw [← hf]; simp
  have ht0 : tq ≠ [] := by rw [← hto]; simp
  have hyd : ∀ q, StandG G r q → f <+: way q → y.isDir = true := fun q hq hp => by
    rw [← hf] at hp
    obtain ⟨e, c, a1, a2, a3, a4, -⟩ := h.begin_ hq hp
    have := h.wayI a1 (h.stand he0) a2
    subst this
    obtain rfl := a3.one he0
    obtain ⟨z, hz, hzd⟩ := a4.1
    rw [hM.hy] at hz
    obtain rfl := Option.some.inj hz
    exact hzd
  have hnot2 : ¬ f <+: way d2 := fun hp => hin (hyd d2 hd2 hp) hp
  have htno : ∀ q, StandG G r q → ¬ tq <+: way q := fun q hq hp => by
    rw [← hto] at hp
    obtain ⟨e, c, a1, a2, ⟨z, hz, hl⟩, -⟩ := h.begin_ hq hp
    have := h.wayI a1 hd2 a2
    subst this
    rw [hM.hx2] at hz
    obtain rfl := Option.some.inj hz
    rw [hM.no] at hl
    cases hl
  have hto_no : ∀ d' s' c', EdgeG G d' s' c' → way d' ++ [s'] ≠ tq := fun d' s' c' he e => by
    rw [← hto] at e
    obtain ⟨e1, e2⟩ := List.append_inj' e rfl
    have e3 : s' = l2 := by simpa using e2
    have e4 := h.wayI (h.stand he) hd2 e1
    subst e3 e4
    obtain ⟨z, hz, hl⟩ := he
    rw [hM.hx2] at hz
    obtain rfl := Option.some.inj hz
    rw [hM.no] at hl
    cases hl
  have hft : pathOf f ≠ pathOf tq := fun e => by
    have := pathOf_inj hfr htr e
    rw [← hf] at this
    exact hto_no _ _ _ he0 this
  have hu1 : underP (pathOf f) (pathOf tq) = false := by
    cases hu : underP (pathOf f) (pathOf tq) with
    | false => rfl
    | true =>
      exfalso
      obtain ⟨s, m, e⟩ := (under_path htr hfr ht0).1 hu
      have hp : tq <+: way d1 ++ [l1] := by rw [hf, e]; exact List.prefix_append _ _
      rcases List.prefix_concat_iff.1 hp with hp | hp
      · exact hto_no _ _ _ he0 hp.symm
      · exact htno _ (h.stand he0) hp
  have hu2 : underP (pathOf tq) (pathOf f) = false := by
    cases hu : underP (pathOf tq) (pathOf f) with
    | false => rfl
    | true =>
      exfalso
      obtain ⟨s, m, e⟩ := (under_path hfr htr hf0).1 hu
      have hp : f <+: way d2 ++ [l2] := by rw [hto, e]; exact List.prefix_append _ _
      rcases List.prefix_concat_iff.1 hp with hp | hp
      · rw [hto] at hp
        exact hft (by rw [hp])
      · exact hnot2 hp
  have hu3 : ∀ e ∈ t.L, underP e.1 (pathOf tq) = false := fun e he => by
    cases hu : underP e.1 (pathOf tq) with
    | false => rfl
    | true =>
      exfalso
      obtain ⟨d', s', c', he', e1, -⟩ := (h.mem _ _).1 he
      rw [e1] at hu
      obtain ⟨s, m, e2⟩ := (under_path htr (h.pathR he') ht0).1 hu
      have hp : tq <+: way d' ++ [s'] := by rw [e2]; exact List.prefix_append _ _
      rcases List.prefix_concat_iff.1 hp with hp | hp
      · exact hto_no _ _ _ he' hp.symm
      · exact htno _ (h.stand he') hp
  have hmf : (pathOf f, φ n) ∈ t.L := (h.mem _ _).2 ⟨d1, l1, n, he0, by rw [hf], rfl⟩
  obtain ⟨m1, m2, m3⟩ := moveRL_ok h.ris hmf hft hu1 hu2 hu3
  have hnone : withoutR t.L (pathOf tq) = t.L := without_none fun k hk => by
    obtain ⟨d', s', c', he', e1, -⟩ := (h.mem _ _).1 hk
    exact hto_no _ _ _ he' (pathOf_inj htr (h.pathR he') e1).symm
  rw [hnone] at m3
  have hw2 : wayM f tq way d2 = way d2 := wayM_out hnot2
  have hedge : ∀ d' s' c', EdgeG G d' s' c' → ¬ (d' = d1 ∧ s' = l1) → ¬ f <+: way d' → way d' ++ [s'] ≠ f := fun d' s' c' he hne _ e => by
    rw [← hf] at e
    obtain ⟨e1, e2, -⟩ := h.path_edge he he0 e
    exact hne ⟨e1, e2⟩
  refine ⟨?_, ?_, ?_, ?_, ?_, ?_, ?_, ?_, ?_, ?_, ?_, m1, ?_⟩
  · rw [wayM_out]
    · exact h.way0
    · rw [h.way0]
      exact fun hp => hf0 (List.prefix_nil.1 hp)
  · intro d' s' c' he hd
    rcases (hE _ _ _).1 he with ⟨rfl, rfl, rfl⟩ | ⟨he, hne⟩
    · rw [hw2, hto]
      have hyd' := (hDD _).1 hd
      have := h.ways _ _ _ he0 hyd'
      rw [hf] at this
      rw [wayM_in (m := []) (by rw [this, List.append_nil]), List.append_nil]
    · have hw := h.ways _ _ _ he ((hDD _).1 hd)
      by_cases hp : f <+: way d'
      · obtain ⟨m, hm⟩ := hp
        rw [wayM_in hm.symm, wayM_in (m := m ++ [s']) (by rw [hw, ← hm, List.append_assoc]), List.append_assoc]
      · rw [wayM_out hp, wayM_out]
        · exact hw
        · intro hp2
          rw [hw] at hp2
          exact hedge _ _ _ he hne hp (prefix_snoc hp2 hp).symm
  · intro d' s' c' he
    have hgo : ∀ q, q ≠ n → StandG G r q → q = r ∨ ∃ d0 s0, EdgeG (movedG G d1 x1 l1 n y d2 x2 l2) d0 s0 q := fun q hqn hq => by
      rcases hq.2 with hq | ⟨d0, s0, f0⟩
      · exact .inl hq
      · refine .inr ⟨d0, s0, (hE _ _ _).2 (.inr ⟨f0, fun e => hqn ?_⟩)⟩
        rw [e.1, e.2] at f0
        exact f0.one he0
    rcases (hE _ _ _).1 he with ⟨rfl, rfl, rfl⟩ | ⟨he, hne⟩
    · exact hgo _ hM.n2 hd2
    · by_cases hdn : d' = n
      · exact .inr ⟨d2, l2, (hE _ _ _).2 (.inl ⟨rfl, rfl, hdn⟩)⟩
      · exact hgo _ hdn (h.stand he)
  · intro d' s' c' he
    rcases (hE _ _ _).1 he with ⟨rfl, rfl, rfl⟩ | ⟨he, hne⟩
    · exact (hDD _).2 hd2.1
    · exact (hDD _).2 (h.dirs _ _ _ he)
  · intro d' s' he
    rcases (hE _ _ _).1 he with ⟨-, -, e⟩ | ⟨he, -⟩
    · exact h.noroot d1 l1 (e ▸ he0)
    · exact h.noroot _ _ he
  · intro b z hz p hp
    rcases hNM hz with ⟨z0, g, e | e⟩ | ⟨z0, g, e | e⟩
    · rw [e] at hp; exact h.right b z0 g p hp
    · rw [e] at hp; exact h.right b z0 g p (List.mem_filter.1 hp).1
    · rw [e] at hp
      rcases putNm_mem hp with rfl | hp
      · exact hs2
      · exact h.right d2 z0 g p hp
    · rw [e] at hp
      rcases putNm_mem hp with rfl | hp
      · exact hs2
      · exact h.right d2 z0 g p (List.mem_filter.1 hp).1
  · intro b z hz
    rcases hNM hz with ⟨z0, g, e | e⟩ | ⟨z0, g, e | e⟩
    · rw [e]; exact h.rise b z0 g
    · rw [e]; exact delNm_apart (h.rise b z0 g) _
    · rw [e]; exact putNm_apart (h.rise d2 z0 g) _ _
    · rw [e]; exact putNm_apart (delNm_apart (h.rise d2 z0 g) _) _ _
  · intro b z hz
    obtain ⟨z0, g, e1, e2, -⟩ := hNN hz
    rw [isDir_kind e1, e1, e2]
    exact h.node b z0 g
  · intro p k
    rw [m2 (p, k)]
    constructor
    · rintro (e | ⟨⟨p0, k0⟩, hd, hu, e⟩ | ⟨hm, e1, e2, e3⟩)
      · obtain ⟨rfl, rfl⟩ := Prod.mk.inj e
        exact ⟨d2, l2, n, (hE _ _ _).2 (.inl ⟨rfl, rfl, rfl⟩), by rw [hw2, hto], rfl⟩
      · obtain ⟨d', s', c', he, rfl, rfl⟩ := (h.mem _ _).1 hd
        obtain ⟨rfl, rfl⟩ := Prod.mk.inj e
        obtain ⟨s, m, e2⟩ := (under_path hfr (h.pathR he) hf0).1 hu
        have hne : ¬ (d' = d1 ∧ s' = l1) := fun e3 => by
          obtain ⟨rfl, rfl⟩ := e3
          rw [hf] at e2
          have := congrArg List.length e2
          simp at this
        have hp : f <+: way d' := by
          rcases List.prefix_concat_iff.1 (show f <+: way d' ++ [s'] by rw [e2]; exact List.prefix_append _ _) with hp | hp
          · rw [hp] at e2
            have := congrArg List.length e2
            simp at this
          · exact hp
        obtain ⟨m', hm'⟩ := hp
        refine ⟨d', s', c', (hE _ _ _).2 (.inr ⟨he, hne⟩), ?_, rfl⟩
        rw [wayM_in hm'.symm, ← hm']
        unfold movedP
        rw [List.append_assoc, pathOf_append _ hf0, List.append_assoc, pathOf_append _ ht0, List.drop_left]
      · obtain ⟨d', s', c', he, rfl, rfl⟩ := (h.mem _ _).1 hm
        have hne : ¬ (d' = d1 ∧ s' = l1) := fun e4 => by
          obtain ⟨rfl, rfl⟩ := e4
          exact e2 (by rw [hf])
        refine ⟨d', s', c', (hE _ _ _).2 (.inr ⟨he, hne⟩), ?_, rfl⟩
        rw [wayM_out]
        intro hp
        obtain ⟨m', hm'⟩ := hp
        have : underP (pathOf (way d' ++ [s'])) (pathOf f) = true := (under_path hfr (h.pathR he) hf0).2 (by
          rw [← hm', List.append_assoc]
          cases m' with
          | nil => exact ⟨s', [], rfl⟩
          | cons a b => exact ⟨a, b ++ [s'], rfl⟩)
        have e3' : underP (pathOf (way d' ++ [s'])) (pathOf f) = false := e3
        rw [this] at e3'
        cases e3'
    · rintro ⟨d', s', c', he, rfl, rfl⟩
      rcases (hE _ _ _).1 he with ⟨rfl, rfl, rfl⟩ | ⟨he, hne⟩
      · exact .inl (by rw [hw2, hto])
      · by_cases hp : f <+: way d'
        · obtain ⟨m', hm'⟩ := hp
          refine .inr (.inl ⟨(pathOf (way d' ++ [s']), φ c'), (h.mem _ _).2 ⟨d', s', c', he, rfl, rfl⟩, ?_, ?_⟩)
          · refine (under_path hfr (h.pathR he) hf0).2 ?_
            rw [← hm', List.append_assoc]
            cases m' with
            | nil => exact ⟨s', [], rfl⟩
            | cons a b => exact ⟨a, b ++ [s'], rfl⟩
          · show _ = (movedP (pathOf f) (pathOf tq) (pathOf (way d' ++ [s'])), φ c')
            rw [wayM_in hm'.symm, ← hm']
            unfold movedP
            rw [List.append_assoc, List.append_assoc, pathOf_append _ hf0, pathOf_append _ ht0, List.drop_left]
        · refine .inr (.inr ⟨?_, ?_, ?_, ?_⟩)
          · rw [wayM_out hp]
            exact (h.mem _ _).2 ⟨d', s', c', he, rfl, rfl⟩
          · rw [wayM_out hp]
            exact fun e => hto_no _ _ _ he (pathOf_inj (h.pathR he) htr e)
          · rw [wayM_out hp]
            exact fun e => hedge _ _ _ he hne hp (pathOf_inj (h.pathR he) hfr e)
          · rw [wayM_out hp]
            cases hu : underP (pathOf (way d' ++ [s'])) (pathOf f) with
            | false => rfl
            | true =>
              exfalso
              obtain ⟨s, m, e2⟩ := (under_path hfr (h.pathR he) hf0).1 hu
              exact hedge _ _ _ he hne hp (prefix_snoc (by rw [e2]; exact List.prefix_append _ _) hp).symm
  · intro d' s' c' z he hz
    obtain ⟨z0, g, e1, e2, e3⟩ := hNN hz
    have key : ∃ d'' s'', EdgeG G d'' s'' c' := by
      rcases (hE _ _ _).1 he with ⟨-, -, rfl⟩ | ⟨he, -⟩
      · exact ⟨d1, l1, he0⟩
      · exact ⟨d', s', he⟩
    obtain ⟨d'', s'', f0⟩ := key
    obtain ⟨g1, g2, g3⟩ := h.told _ _ c' z0 f0 g
    rw [e1, e2, e3]
    exact ⟨g1, g2.trans (m3 _).symm, g3⟩
  · intro a1 b1 c1 a2 b2 c2 he1 he2 e
    have key : ∀ d' s' c', EdgeG (movedG G d1 x1 l1 n y d2 x2 l2) d' s' c' → ∃ d'' s'', EdgeG G d'' s'' c' := fun d' s' c' he => by
      rcases (hE _ _ _).1 he with ⟨-, -, rfl⟩ | ⟨he, -⟩
      · exact ⟨d1, l1, he0⟩
      · exact ⟨d', s', he⟩
    obtain ⟨p1, q1, f1⟩ := key _ _ _ he1
    obtain ⟨p2, q2, f2⟩ := key _ _ _ he2
    exact h.inj _ _ _ _ _ _ f1 f2 e
  · obtain ⟨z0, g, e1, e2⟩ := h.root
    obtain ⟨hx2', -⟩ := hM.x2'
    have hrn : r ≠ n := fun e => h.noroot d1 l1 (e ▸ he0)
    have hex : ∃ z, movedG G d1 x1 l1 n y d2 x2 l2 r = some z := by
      unfold movedG
      by_cases hr2 : r = d2
      · exact ⟨_, (setG_other _ _ hrn).trans (by rw [hr2]; exact setG_same _ _ _)⟩
      · by_cases hr1 : r = d1
        · exact ⟨_, (setG_other _ _ hrn).trans ((setG_other _ _ hr2).trans ((setG_other _ _ hrn).trans (by rw [hr1]; exact setG_same _ _ _)))⟩
        · exact ⟨_, (setG_other _ _ hrn).trans ((setG_other _ _ hr2).trans ((setG_other _ _ hrn).trans ((setG_other _ _ hr1).trans g)))⟩
    obtain ⟨z, hz⟩ := hex
    obtain ⟨z1, g1, f1, -, f2⟩ := hNN hz
    rw [g] at g1
    obtain rfl := Option.some.inj g1
    exact ⟨z, hz, f1.trans e1, f2.trans e2⟩
end
end Go.Proofs.YtgoemaecdolioaaGreatDoor

/-
  tree: what the document's tree answers, as plain functions; what the nodes tell is that. Plain Lean.
-/
namespace Go.Proofs.YtgoemaecdolioaaGreatDoor
open Go.RowKit Go.Shelf

def dirR (t : RT) (n : Int) : Bool := n == -2 || (decide (0 ≤ n) && (match t.N[n.toNat]? with | some p => p.1 == 2 | none => false))
def atR (t : RT) (p : List UInt8) : Int := if p = [47] then -2 else match lookR t.L p with | some n => (n : Nat) | none => -1
def findN (t : RT) : Int → List (List UInt8) → List (List UInt8) → Int × Int
  | n, _, [] => (n, 0)
  | n, pre, s :: r => if dirR t n = false then (0, 201) else if atR t (pathOf (pre ++ [s])) = -1 then (0, 202) else findN t (atR t (pathOf (pre ++ [s]))) (pre ++ [s]) r
def findR (t : RT) (ns : List (List UInt8)) : Int × Int := findN t (-2) [] ns
/-- Is the parent of a path a directory? An error. -/
def parR (t : RT) (ns : List (List UInt8)) : Int := if (findR t ns.dropLast).2 = 0 ∧ dirR t (findR t ns.dropLast).1 = false then 201 else (findR t ns.dropLast).2
def fileR (t : RT) (s : List UInt8) : Int × Int := if (splitE s).2 ≠ 0 then (0, (splitE s).2) else if (findR t (splitE s).1).2 = 0 ∧ dirR t (findR t (splitE s).1).1 = true then ((findR t (splitE s).1).1, 204) else findR t (splitE s).1
def linksR (t : RT) (n : Int) : Nat := if n = -2 then 1 else cntR t.L n.toNat
def aboveK (p : List UInt8) : Nat → Nat
  | 0 => 0
  | k + 1 => if p[k + 1]?.getD 0 = 47 then k + 1 else aboveK p k
/-- The path ahead of the last name, and that name. -/
def aboveP (p : List UInt8) : List UInt8 × List UInt8 := if aboveK p (p.length - 1) = 0 then ([47], p.drop 1) else (p.take (aboveK p (p.length - 1)), p.drop (aboveK p (p.length - 1) + 1))
def namesR (t : RT) (p : List UInt8) : List (List UInt8) := sortU ((t.L.filter fun e => (aboveP e.1).1 == p).map fun e => (aboveP e.1).2)
def rMake (t : RT) (s : List UInt8) (k : Int) : RT × Int :=
  if (splitE s).2 ≠ 0 then (t, (splitE s).2) else if k ≠ 1 ∧ k ≠ 2 then (t, 2) else if s = [47] then (t, 203) else
  if parR t (splitE s).1 ≠ 0 then (t, parR t (splitE s).1) else if atR t s ≠ -1 then (t, 203) else (⟨withR t.L s t.N.length, t.N ++ [(k, [])]⟩, 0)
def rPut (t : RT) (s : List UInt8) (b : List UInt8) : RT × Int :=
  if (fileR t s).2 ≠ 0 then (t, (fileR t s).2) else if 448 < b.length then (t, 190) else (⟨t.L, t.N.set (fileR t s).1.toNat (((t.N[(fileR t s).1.toNat]?).getD (0, [])).1, b)⟩, 0)
def rLink (t : RT) (f s : List UInt8) : RT × Int :=
  if (splitE f).2 ≠ 0 then (t, (splitE f).2) else if (splitE s).2 ≠ 0 then (t, (splitE s).2) else if (fileR t f).2 ≠ 0 then (t, (fileR t f).2) else if s = [47] then (t, 203) else
  if parR t (splitE s).1 ≠ 0 then (t, parR t (splitE s).1) else if atR t s ≠ -1 then (t, 203) else if 200 ≤ linksR t (fileR t f).1 then (t, 207) else (⟨withR t.L s (fileR t f).1.toNat, t.N⟩, 0)
def rDrop (t : RT) (s : List UInt8) : RT × Int := if (fileR t s).2 ≠ 0 then (t, (fileR t s).2) else (⟨withoutR t.L s, t.N⟩, 0)
def rRemove (t : RT) (s : List UInt8) : RT × Int :=
  if (splitE s).2 ≠ 0 then (t, (splitE s).2) else if s = [47] then (t, 200) else if (findR t (splitE s).1).2 ≠ 0 then (t, (findR t (splitE s).1).2) else
  if dirR t (findR t (splitE s).1).1 = false then (t, 201) else if namesR t s ≠ [] then (t, 205) else (⟨withoutR t.L s, t.N⟩, 0)
def rMove (t : RT) (f s : List UInt8) : RT × Int :=
  if (splitE f).2 ≠ 0 then (t, (splitE f).2) else if (splitE s).2 ≠ 0 then (t, (splitE s).2) else if f = [47] ∨ s = [47] then (t, 200) else
  if (findR t (splitE f).1).2 ≠ 0 then (t, (findR t (splitE f).1).2) else
  if (withinE s f).1 = true ∧ dirR t (findR t (splitE f).1).1 = true then (t, 206) else
  if parR t (splitE s).1 ≠ 0 then (t, parR t (splitE s).1) else
  if atR t s = (findR t (splitE f).1).1 then (t, 0) else
  if 0 ≤ atR t s ∧ dirR t (findR t (splitE f).1).1 = true ∧ dirR t (atR t s) = false then (t, 201) else
  if 0 ≤ atR t s ∧ dirR t (findR t (splitE f).1).1 = false ∧ dirR t (atR t s) = true then (t, 204) else
  if 0 ≤ atR t s ∧ dirR t (atR t s) = true ∧ namesR t s ≠ [] then (t, 205) else
  (⟨moveRL t.L f s (findR t (splitE f).1).1.toNat, t.N⟩, 0)
theorem aboveK_last : ∀ (k : Nat) (p : List UInt8) (j : Nat), j ≤ k → p[j]?.getD 0 = 47 → (∀ i, j < i → i ≤ k → p[i]?.getD 0 ≠ 47) → (j = 0 → True) → aboveK p k = if j = 0 then 0 else j
  | 0, p, j, hj, _, _, _ => by
    have : j = 0 := by omega
    rw [if_pos this]; rfl
  | k + 1, p, j, hj, h1, h2, h3 => by
    unfold aboveK
    by_cases e : j = k + 1
    · rw [if_pos (by rw [← e]; exact h1), if_neg (by omega), e]
    · rw [if_neg (h2 (k + 1) (by omega) (Nat.le_refl _))]
      exact aboveK_last k p j (by omega) h1 (fun i a b => h2 i a (by omega)) h3
/-- A path is its parent's names, and the last one. -/
theorem aboveP_path {a : List (List UInt8)} {s : List UInt8} (ha : a.all rightN = true) (hs : rightN s = true) : aboveP (pathOf (a ++ [s])) = (pathOf a, s) := by
  have hp : pathOf (a ++ [s]) = flatP a ++ 47 :: s := by
    unfold pathOf
    rw [if_neg (by simp)]
    unfold flatP
    simp
  have hns := rightN_noSlash hs
  have hs0 := rightN_nonempty hs
  have hk : aboveK (pathOf (a ++ [s])) ((pathOf (a ++ [s])).length - 1) = (flatP a).length := by
    rw [hp]
    have := aboveK_last ((flatP a ++ 47 :: s).length - 1) (flatP a ++ 47 :: s) (flatP a).length (by simp) (by simp) (fun i h1 h2 => by
      obtain ⟨q, rfl⟩ : ∃ q, i = (flatP a).length + 1 + q := ⟨i - (flatP a).length - 1, by omega⟩
      have hq : q < s.length := by
        simp only [List.length_append, List.length_cons] at h2
        omega
      rw [show (flatP a).length + 1 + q = (flatP a).length + (q + 1) by omega, List.getElem?_append_right (by omega), Nat.add_sub_cancel_left, List.getElem?_cons_succ, List.getElem?_eq_getElem hq, Option.getD_some]
      exact fun e => hns (by rw [← e]; exact List.getElem_mem hq)) (fun _ => trivial)
    rw [this]
    split
    · rename_i e; exact e.symm
    · rfl
  unfold aboveP
  rw [hk, hp]
  by_cases h0 : a = []
  · rw [h0]
    rfl
  · have hl : (flatP a).length ≠ 0 := by
      cases a with
      | nil => exact absurd rfl h0
      | cons x m => rw [flatP_cons]; simp
    rw [if_neg hl, List.take_left]
    unfold pathOf
    rw [if_neg h0]
    have : (flatP a ++ 47 :: s).drop ((flatP a).length + 1) = s := by
      rw [← List.drop_drop, List.drop_left]
      rfl
    rw [this]
def psi (r : Nat) (φ : Nat → Nat) (b : Nat) : Int := if b = r then -2 else (φ b : Nat)
theorem psi_root (r : Nat) (φ : Nat → Nat) : psi r φ r = -2 := if_pos rfl
theorem pathOf_root {s : List UInt8} (h : (splitE s).2 = 0) : s = [47] ↔ (splitE s).1 = [] := by
  have := splitE_back s h
  constructor
  · intro e
    by_cases h0 : (splitE s).1 = []
    · exact h0
    · exact absurd (this.symm.trans e) (pathOf_ne (splitE_right s) h0)
  · intro e
    rw [e] at this
    exact this
section
variable {G : Gr} {r : Nat} {t : RT} {φ : Nat → Nat} {way : Nat → List (List UInt8)} (h : RelG G r t φ way)
include h
theorem RelG.psi_edge {d : Nat} {s : List UInt8} {c : Nat} (he : EdgeG G d s c) : psi r φ c = (φ c : Nat) := if_neg fun e => by
  subst e
  exact h.noroot d s he
/-- A node that is reached by a way. -/
def AsWay (_ : RelG G r t φ way) (b : Nat) (pre : List (List UInt8)) : Prop := (b = r ∧ pre = []) ∨ ∃ d s, EdgeG G d s b ∧ pre = way d ++ [s]
theorem RelG.dirR_eq {b : Nat} {x : TN} {pre : List (List UInt8)} (hb : AsWay h b pre) (hx : G b = some x) : dirR t (psi r φ b) = x.isDir := by
  rcases hb with ⟨rfl, -⟩ | ⟨d, s, he, -⟩
  · obtain ⟨y, hy, hd⟩ := h.rootDir
    rw [hx] at hy
    obtain rfl := Option.some.inj hy
    rw [psi_root, hd]
    rfl
  · rw [h.psi_edge he]
    obtain ⟨⟨bs, g1, -⟩, -⟩ := h.told d s b x he hx
    unfold dirR
    have h1 : (((φ b : Nat) : Int) == -2) = false := by simp
    rw [h1, Int.toNat_natCast, g1]
    simp [TN.isDir]
theorem RelG.way_as {b : Nat} {x : TN} {pre : List (List UInt8)} (hb : AsWay h b pre) (hx : G b = some x) (hd : x.isDir = true) : StandG G r b ∧ pre = way b := by
  rcases hb with ⟨rfl, rfl⟩ | ⟨d, s, he, rfl⟩
  · exact ⟨⟨⟨x, hx, hd⟩, .inl rfl⟩, h.way0.symm⟩
  · exact ⟨⟨⟨x, hx, hd⟩, .inr ⟨d, s, he⟩⟩, (h.ways d s b he ⟨x, hx, hd⟩).symm⟩
theorem RelG.at_ {d : Nat} {x : TN} {s : List UInt8} (hd : StandG G r d) (hx : G d = some x) (hs : rightN s = true) : atR t (pathOf (way d ++ [s])) = (match lookNm x.nm s with | some c => psi r φ c | none => -1) := by
  have hr : (way d ++ [s]).all rightN = true := by rw [List.all_append, h.wayR hd]; simpa using hs
  unfold atR
  rw [if_neg (pathOf_ne hr (by simp)), h.look hd hx hs]
  cases hl : lookNm x.nm s with
  | none => rfl
  | some c => exact (h.psi_edge ⟨x, hx, hl⟩).symm
theorem RelG.find (hS : Leads G) : ∀ (rest pre : List (List UInt8)) (b : Nat) (x : TN), G b = some x → AsWay h b pre → rest.all rightN = true →
    (findN t (psi r φ b) pre rest = match walkN G b rest with | .ok c => (psi r φ c, 0) | .error e => (0, e)) ∧ ∀ c, walkN G b rest = .ok c → AsWay h c (pre ++ rest)
  | [], pre, b, x, hx, hb, _ => ⟨rfl, fun c hc => by
      simp only [walkN, Except.ok.injEq] at hc
      rw [← hc, List.append_nil]
      exact hb⟩
  | s :: rest, pre, b, x, hx, hb, hr => by
    have hs : rightN s = true := (List.all_eq_true.1 hr) s (by simp)
    have hr2 : rest.all rightN = true := by
      rw [List.all_cons, Bool.and_eq_true] at hr
      exact hr.2
    have hdr := h.dirR_eq hb hx
    unfold findN walkN
    rw [hdr, hx]
    simp only
    cases hd : x.isDir with
    | false =>
      unfold nextN
      rw [hd]
      simp
    | true =>
      obtain ⟨hst, hw⟩ := h.way_as hb hx hd
      have hat := h.at_ hst hx hs
      rw [hw, hat]
      unfold nextN
      rw [hd]
      simp only [Bool.true_eq_false, if_false, if_true]
      cases hl : lookNm x.nm s with
      | none => simp
      | some c =>
        obtain ⟨y, hy⟩ := hS b x s c hx hl
        have he : EdgeG G b s c := ⟨x, hx, hl⟩
        have hc : psi r φ c ≠ -1 := by rw [h.psi_edge he]; omega
        simp only [if_neg hc]
        obtain ⟨i1, i2⟩ := RelG.find hS rest (way b ++ [s]) c y hy (.inr ⟨b, s, he, rfl⟩) hr2
        refine ⟨i1, fun c' hc' => ?_⟩
        have := i2 c' hc'
        rw [List.append_assoc] at this
        exact this
theorem RelG.findR_eq (hS : Leads G) {ns : List (List UInt8)} (hr : ns.all rightN = true) : findR t ns = (match walkN G r ns with | .ok c => (psi r φ c, 0) | .error e => (0, e)) := by
  obtain ⟨x, hx, -⟩ := h.root
  have := (h.find hS ns [] r x hx (.inl ⟨rfl, rfl⟩) hr).1
  rw [psi_root] at this
  exact this
theorem RelG.walk_as (hS : Leads G) {ns : List (List UInt8)} (hr : ns.all rightN = true) {c : Nat} (hw : walkN G r ns = .ok c) : AsWay h c ns := by
  obtain ⟨x, hx, -⟩ := h.root
  exact (h.find hS ns [] r x hx (.inl ⟨rfl, rfl⟩) hr).2 c hw
/-- A spot: its directory stands, and its way is the names ahead of the last one. -/
theorem RelG.spot_way (hS : Leads G) {ns : List (List UInt8)} (hr : ns.all rightN = true) {d : Nat} (hs : spotN G r ns = .ok d) : ∃ x, G d = some x ∧ StandG G r d ∧ way d = ns.dropLast := by
  obtain ⟨x, hx, hd, hw⟩ := spotN_some hs
  have hr2 : ns.dropLast.all rightN = true := List.all_eq_true.2 fun s hs => List.all_eq_true.1 hr s (List.dropLast_subset _ hs)
  obtain ⟨g1, g2⟩ := h.way_as (h.walk_as hS hr2 hw) hx hd
  exact ⟨x, hx, g1, g2.symm⟩
theorem RelG.par_eq (hS : Leads G) {ns : List (List UInt8)} (hr : ns.all rightN = true) : parR t ns = (match spotN G r ns with | .ok _ => 0 | .error e => e) := by
  have hr2 : ns.dropLast.all rightN = true := List.all_eq_true.2 fun s hs => List.all_eq_true.1 hr s (List.dropLast_subset _ hs)
  obtain ⟨xr, hxr, -⟩ := h.root
  unfold parR spotN
  rw [h.findR_eq hS hr2]
  cases hw : walkN G r ns.dropLast with
  | error e =>
    simp only
    rw [if_neg]
    rintro ⟨e0, -⟩
    rcases walkN_err hS _ _ _ _ hxr hw with e1 | e1 <;> omega
  | ok d =>
    obtain ⟨x, hx⟩ := walkN_leads hS _ _ _ _ hxr hw
    simp only [hx]
    rw [h.dirR_eq (h.walk_as hS hr2 hw) hx]
    cases x.isDir <;> simp
/-- The names of a directory. -/
theorem RelG.names_eq {d : Nat} {x : TN} (hd : StandG G r d) (hx : G d = some x) : namesR t (pathOf (way d)) = sortU (x.nm.map (·.1)) := by
  refine sortU_ext fun q => ?_
  rw [List.mem_map, List.mem_map]
  constructor
  · rintro ⟨e, he, rfl⟩
    obtain ⟨hm, hp⟩ := List.mem_filter.1 he
    obtain ⟨d', s', c', he', e1, -⟩ := (h.mem _ _).1 hm
    have hp' : (aboveP e.1).1 = pathOf (way d) := by simpa using hp
    rw [e1, aboveP_path (h.wayR (h.stand he')) (h.edge_right he')] at hp' ⊢
    have := h.wayI (h.stand he') hd (pathOf_inj (h.wayR (h.stand he')) (h.wayR hd) hp')
    subst this
    obtain ⟨y, hy, hl⟩ := he'
    rw [hx] at hy
    obtain rfl := Option.some.inj hy
    exact ⟨_, lookNm_mem hl, rfl⟩
  · rintro ⟨⟨s, c⟩, hm, rfl⟩
    have hl := mem_lookNm (h.rise d x hx) hm
    have he : EdgeG G d s c := ⟨x, hx, hl⟩
    refine ⟨(pathOf (way d ++ [s]), φ c), List.mem_filter.2 ⟨(h.mem _ _).2 ⟨d, s, c, he, rfl, rfl⟩, ?_⟩, ?_⟩
    · rw [aboveP_path (h.wayR hd) (h.edge_right he)]
      simp
    · rw [aboveP_path (h.wayR hd) (h.edge_right he)]
theorem RelG.names_nil {d : Nat} {x : TN} (hd : StandG G r d) (hx : G d = some x) : namesR t (pathOf (way d)) = [] ↔ x.nm = [] := by
  rw [h.names_eq hd hx]
  constructor
  · intro e
    cases hn : x.nm with
    | nil => rfl
    | cons y q =>
      have : y.1 ∈ sortU (x.nm.map (·.1)) := (mem_sortU _ _).2 (by rw [hn]; simp)
      rw [e] at this
      cases this
  · intro e
    rw [e]
    cases hs : sortU (([] : Nm).map (·.1)) with
    | nil => rfl
    | cons y q =>
      have : y ∈ sortU (([] : Nm).map (·.1)) := by rw [hs]; simp
      have := (mem_sortU _ _).1 this
      cases this
end
end Go.Proofs.YtgoemaecdolioaaGreatDoor
