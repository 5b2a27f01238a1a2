/-
  Texts TgC to TgC, as one.
-/
import Derived.Test.YtgoemaecdolioaaGreatDoorMo18
/-
  tree: what stays so when names come and go. Plain Lean.
-/
namespace Go.Proofs.YtgoemaecdolioaaGreatDoor
open Go.RowKit Go.Shelf

theorem edge_add {G : Gr} {d n : Nat} {x z : TN} {s : List UInt8} (hx : G d = some x) (hdn : d ≠ n) (hno : lookNm x.nm s = none) (hz : G n = some z ∨ (G n = none ∧ z.nm = [])) (d' : Nat) (s' : List UInt8) (c' : Nat) :
    EdgeG (addG G d x s n z) d' s' c' ↔ (d' = d ∧ s' = s ∧ c' = n) ∨ EdgeG G d' s' c' := by
  constructor
  · rintro ⟨y, hy, hl⟩
    rcases addG_cases hdn hy with ⟨rfl, rfl⟩ | ⟨rfl, rfl⟩ | ⟨h1, h2, h3⟩
    · rcases hz with hz | ⟨-, hz⟩
      · exact .inr ⟨z, hz, hl⟩
      · have hl' : lookNm z.nm s' = some c' := hl
        rw [hz] at hl'
        cases hl'
    · have hl' : lookNm (putNm x.nm s n) s' = some c' := hl
      rw [look_put] at hl'
      split at hl'
      · rename_i e
        exact .inl ⟨rfl, e, (Option.some.inj hl').symm⟩
      · exact .inr ⟨x, hx, hl'⟩
    · exact .inr ⟨y, h3, hl⟩
  · rintro (⟨rfl, rfl, rfl⟩ | ⟨y, hy, hl⟩)
    · refine ⟨{ x with nm := putNm x.nm s' c', cnt := x.cnt + 1 }, (setG_other _ _ hdn).trans (setG_same _ _ _), ?_⟩
      show lookNm (putNm x.nm s' c') s' = _
      rw [look_put, if_pos rfl]
    · by_cases h1 : d' = n
      · subst h1
        rcases hz with hz | ⟨hz, -⟩
        · rw [hz] at hy
          obtain rfl := Option.some.inj hy
          exact ⟨{ z with links := z.links + 1 }, setG_same _ _ _, hl⟩
        · rw [hz] at hy; cases hy
      · by_cases h2 : d' = d
        · subst h2
          rw [hx] at hy
          obtain rfl := Option.some.inj hy
          refine ⟨{ x with nm := putNm x.nm s n, cnt := x.cnt + 1 }, (setG_other _ _ h1).trans (setG_same _ _ _), ?_⟩
          show lookNm (putNm x.nm s n) s' = _
          rw [look_put, if_neg]
          · exact hl
          · intro e
            rw [e, hno] at hl
            cases hl
        · exact ⟨y, (setG_other _ _ h1).trans ((setG_other _ _ h2).trans hy), hl⟩
theorem edge_less {G : Gr} {d c : Nat} {x y : TN} {s : List UInt8} (hx : G d = some x) (hy : G c = some y) (hdc : d ≠ c) (d' : Nat) (s' : List UInt8) (c' : Nat) :
    EdgeG (lessG G d x s c y) d' s' c' ↔ EdgeG G d' s' c' ∧ ¬ (d' = d ∧ s' = s) := by
  constructor
  · rintro ⟨y', hy', hl⟩
    rcases lessG_cases hy' with ⟨rfl, rfl⟩ | ⟨rfl, h1, rfl⟩ | ⟨h1, h2, h3⟩
    · exact ⟨⟨y, hy, hl⟩, fun e => hdc e.1.symm⟩
    · have hl' : lookNm (delNm x.nm s) s' = some c' := hl
      rw [look_del] at hl'
      split at hl'
      · cases hl'
      · rename_i e
        exact ⟨⟨x, hx, hl'⟩, fun e2 => e e2.2⟩
    · exact ⟨⟨y', h3, hl⟩, fun e => h2 e.1⟩
  · rintro ⟨⟨y', hy', hl⟩, hn⟩
    by_cases h1 : d' = c
    · subst h1
      rw [hy] at hy'
      obtain rfl := Option.some.inj hy'
      exact ⟨_, lessG_c G d x s d' y, hl⟩
    · by_cases h2 : d' = d
      · subst h2
        rw [hx] at hy'
        obtain rfl := Option.some.inj hy'
        refine ⟨_, lessG_d G d' x s c y hdc, ?_⟩
        show lookNm (delNm x.nm s) s' = _
        rw [look_del, if_neg (fun e => hn ⟨rfl, e⟩)]
        exact hl
      · exact ⟨y', (lessG_o G d x s c y d' h1 h2).trans hy', hl⟩
/-- What a node is, but for its links and names. -/
theorem addG_node {G : Gr} {d n b : Nat} {x z y : TN} {s : List UInt8} (hx : G d = some x) (hdn : d ≠ n) (h : addG G d x s n z b = some y) :
    (b = n ∧ y.kind = z.kind ∧ y.bytes = z.bytes ∧ y.links = z.links + 1) ∨ (b ≠ n ∧ ∃ y0, G b = some y0 ∧ y.kind = y0.kind ∧ y.bytes = y0.bytes ∧ y.links = y0.links) := by
  rcases addG_cases hdn h with ⟨rfl, rfl⟩ | ⟨rfl, rfl⟩ | ⟨h1, h2, h3⟩
  · exact .inl ⟨rfl, rfl, rfl, rfl⟩
  · exact .inr ⟨hdn, x, hx, rfl, rfl, rfl⟩
  · exact .inr ⟨h1, y, h3, rfl, rfl, rfl⟩
theorem lessG_node {G : Gr} {d c b : Nat} {x y y' : TN} {s : List UInt8} (hx : G d = some x) (hy : G c = some y) (h : lessG G d x s c y b = some y') :
    ∃ y0, G b = some y0 ∧ y'.kind = y0.kind ∧ y'.bytes = y0.bytes ∧ (b = c → y'.links = y0.links - 1) ∧ (b ≠ c → y'.links = y0.links) := by
  rcases lessG_cases h with ⟨rfl, rfl⟩ | ⟨rfl, h1, rfl⟩ | ⟨h1, h2, h3⟩
  · exact ⟨y, hy, rfl, rfl, fun _ => rfl, fun e => absurd rfl e⟩
  · exact ⟨x, hx, rfl, rfl, fun e => absurd e h1, fun _ => rfl⟩
  · exact ⟨y', h3, rfl, rfl, fun e => absurd e h1, fun _ => rfl⟩
theorem insNm_mem (q p : List UInt8 × Nat) : ∀ nm : Nm, q ∈ insNm p nm ↔ q = p ∨ q ∈ nm
  | [] => by simp [insNm]
  | y :: r => by
    unfold insNm
    split
    · simp [List.mem_cons]
    · rw [List.mem_cons, insNm_mem q p r, List.mem_cons]
      constructor
      · rintro (h | h | h)
        · exact .inr (.inl h)
        · exact .inl h
        · exact .inr (.inr h)
      · rintro (h | h | h)
        · exact .inr (.inl h)
        · exact .inl h
        · exact .inr (.inr h)
theorem putNm_mem {nm : Nm} {s : List UInt8} {n : Nat} {q : List UInt8 × Nat} (h : q ∈ putNm nm s n) : q = (s, n) ∨ q ∈ nm := by
  unfold putNm at h
  rcases (insNm_mem _ _ _).1 h with h | h
  · exact .inl h
  · exact .inr (List.mem_filter.1 h).1
theorem insNm_apart {p : List UInt8 × Nat} : ∀ {nm : Nm}, nm.Pairwise (fun p q => p.1 ≠ q.1) → (∀ q ∈ nm, q.1 ≠ p.1) → (insNm p nm).Pairwise fun p q => p.1 ≠ q.1
  | [], _, _ => List.pairwise_singleton _ _
  | y :: r, h, hp => by
    obtain ⟨h1, h2⟩ := List.pairwise_cons.1 h
    unfold insNm
    split
    · exact List.pairwise_cons.2 ⟨fun q hq => fun e => hp q hq e.symm, h⟩
    · refine List.pairwise_cons.2 ⟨fun q hq => ?_, insNm_apart h2 fun q hq => hp q (List.mem_cons_of_mem _ hq)⟩
      rcases (insNm_mem _ _ _).1 hq with rfl | hq
      · exact hp y (List.mem_cons_self ..)
      · exact h1 q hq
theorem delNm_apart {nm : Nm} (h : nm.Pairwise fun p q => p.1 ≠ q.1) (s : List UInt8) : (delNm nm s).Pairwise fun p q => p.1 ≠ q.1 := List.Pairwise.sublist List.filter_sublist h
theorem putNm_apart {nm : Nm} (h : nm.Pairwise fun p q => p.1 ≠ q.1) (s : List UInt8) (n : Nat) : (putNm nm s n).Pairwise fun p q => p.1 ≠ q.1 :=
  insNm_apart (delNm_apart h s) fun q hq => by
    unfold delNm at hq
    simpa using (List.mem_filter.1 hq).2
theorem addG_nm {G : Gr} {d n b : Nat} {x z y : TN} {s : List UInt8} (hx : G d = some x) (hdn : d ≠ n) (h : addG G d x s n z b = some y) :
    (b = n ∧ y.nm = z.nm) ∨ (b = d ∧ y.nm = putNm x.nm s n) ∨ (∃ y0, G b = some y0 ∧ y.nm = y0.nm) := by
  rcases addG_cases hdn h with ⟨rfl, rfl⟩ | ⟨rfl, rfl⟩ | ⟨h1, h2, h3⟩
  · exact .inl ⟨rfl, rfl⟩
  · exact .inr (.inl ⟨rfl, rfl⟩)
  · exact .inr (.inr ⟨y, h3, rfl⟩)
theorem lessG_nm {G : Gr} {d c b : Nat} {x y y' : TN} {s : List UInt8} (hx : G d = some x) (hy : G c = some y) (h : lessG G d x s c y b = some y') :
    (∃ y0, G b = some y0 ∧ y'.nm = y0.nm) ∨ (b = d ∧ y'.nm = delNm x.nm s) := by
  rcases lessG_cases h with ⟨rfl, rfl⟩ | ⟨rfl, h1, rfl⟩ | ⟨h1, h2, h3⟩
  · exact .inl ⟨y, hy, rfl⟩
  · exact .inr ⟨rfl, rfl⟩
  · exact .inl ⟨y', h3, rfl⟩
theorem isDir_kind {x y : TN} (h : x.kind = y.kind) : x.isDir = y.isDir := by
  unfold TN.isDir
  rw [h]
theorem dir_add {G : Gr} {d n b : Nat} {x z : TN} {s : List UInt8} (hx : G d = some x) (hdn : d ≠ n) (hbn : b ≠ n) : DirG (addG G d x s n z) b ↔ DirG G b := by
  constructor
  · rintro ⟨y, hy, hd⟩
    rcases addG_node hx hdn hy with ⟨e, -⟩ | ⟨-, y0, h1, h2, -⟩
    · exact absurd e hbn
    · exact ⟨y0, h1, by rw [← isDir_kind h2]; exact hd⟩
  · rintro ⟨y, hy, hd⟩
    by_cases h2 : b = d
    · subst h2
      rw [hx] at hy
      obtain rfl := Option.some.inj hy
      exact ⟨_, (setG_other _ _ hbn).trans (setG_same _ _ _), hd⟩
    · exact ⟨y, (setG_other _ _ hbn).trans ((setG_other _ _ h2).trans hy), hd⟩
theorem dir_addN {G : Gr} {d n : Nat} {x z : TN} {s : List UInt8} : DirG (addG G d x s n z) n ↔ z.isDir = true := by
  constructor
  · rintro ⟨y, hy, hd⟩
    have : addG G d x s n z n = some { z with links := z.links + 1 } := setG_same _ _ _
    rw [this] at hy
    obtain rfl := Option.some.inj hy
    exact hd
  · exact fun h => ⟨_, setG_same _ _ _, h⟩
theorem dir_less {G : Gr} {d c b : Nat} {x y : TN} {s : List UInt8} (hx : G d = some x) (hy : G c = some y) (hdc : d ≠ c) : DirG (lessG G d x s c y) b ↔ DirG G b := by
  constructor
  · rintro ⟨y', hy', hd⟩
    obtain ⟨y0, h1, h2, -⟩ := lessG_node hx hy hy'
    exact ⟨y0, h1, by rw [← isDir_kind h2]; exact hd⟩
  · rintro ⟨y0, h0, hd⟩
    by_cases h1 : b = c
    · subst h1
      rw [hy] at h0
      obtain rfl := Option.some.inj h0
      exact ⟨_, lessG_c G d x s b y, hd⟩
    · by_cases h2 : b = d
      · subst h2
        rw [hx] at h0
        obtain rfl := Option.some.inj h0
        exact ⟨_, lessG_d G b x s c y hdc, hd⟩
      · exact ⟨y0, (lessG_o G d x s c y b h1 h2).trans h0, hd⟩
def updN {α : Type} (f : Nat → α) (n : Nat) (v : α) : Nat → α := fun j => if j = n then v else f j
theorem updN_same {α : Type} (f : Nat → α) (n : Nat) (v : α) : updN f n v n = v := if_pos rfl
theorem updN_other {α : Type} (f : Nat → α) {n j : Nat} (v : α) (h : j ≠ n) : updN f n v j = f j := if_neg h
section
variable {G : Gr} {r : Nat} {t : RT} {φ : Nat → Nat} {way : Nat → List (List UInt8)} (h : RelG G r t φ way)
include h
theorem RelG.lt {d : Nat} {s : List UInt8} {c : Nat} (hS : Leads G) (he : EdgeG G d s c) : φ c < t.N.length := by
  obtain ⟨x, hx, hl⟩ := he
  obtain ⟨y, hy⟩ := hS d x s c hx hl
  obtain ⟨⟨b, hb, -⟩, -⟩ := h.told d s c y ⟨x, hx, hl⟩ hy
  exact (List.getElem?_eq_some_iff.1 hb).1
theorem RelG.small {p : List UInt8} {k : Nat} (hS : Leads G) (he : (p, k) ∈ t.L) : k < t.N.length := by
  obtain ⟨d, s, c, he2, -, rfl⟩ := (h.mem _ _).1 he
  exact h.lt hS he2
theorem RelG.fresh_path {d : Nat} {x : TN} {s : List UInt8} (hd : StandG G r d) (hx : G d = some x) (hs : rightN s = true) (hno : lookNm x.nm s = none) (k : Nat) : (pathOf (way d ++ [s]), k) ∉ t.L := fun hk => by
  have := (lookR_iff h.ris _ _).2 hk
  rw [h.look hd hx hs, hno] at this
  cases this
/-- A new node. -/
theorem RelG.addNew (hS : Leads G) {d n : Nat} {x z : TN} {s : List UInt8} (hd : StandG G r d) (hx : G d = some x) (hdn : d ≠ n) (hs : rightN s = true) (hno : lookNm x.nm s = none) (hn : G n = none)
    (hz : z.nm = [] ∧ z.bytes = [] ∧ z.links = 0 ∧ (z.kind = 1 ∨ z.kind = 2)) :
    RelG (addG G d x s n z) r ⟨withR t.L (pathOf (way d ++ [s])) t.N.length, t.N ++ [(z.kind, [])]⟩ (updN φ n t.N.length) (updN way n (way d ++ [s])) := by
  obtain ⟨z1, z2, z3, z4⟩ := hz
  have hE := edge_add hx hdn hno (.inr ⟨hn, z1⟩)
  have hsrc : ∀ d' s' c', EdgeG G d' s' c' → d' ≠ n := fun d' s' c' he e => by
    obtain ⟨y, hy, -⟩ := he
    rw [e, hn] at hy
    cases hy
  have htgt : ∀ d' s' c', EdgeG G d' s' c' → c' ≠ n := fun d' s' c' he e => by
    obtain ⟨y, hy, hl⟩ := he
    obtain ⟨y2, hy2⟩ := hS d' y s' c' hy hl
    rw [e, hn] at hy2
    cases hy2
  have hrn : r ≠ n := fun e => by
    obtain ⟨y, hy, -⟩ := h.root
    rw [e, hn] at hy
    cases hy
  have hpar : ∀ q, q ≠ n → (q = r ∨ ∃ d0 s0, EdgeG G d0 s0 q) → q = r ∨ ∃ d0 s0, EdgeG (addG G d x s n z) d0 s0 q := fun q _ hq => by
    rcases hq with hq | ⟨d0, s0, he⟩
    · exact .inl hq
    · exact .inr ⟨d0, s0, (hE _ _ _).2 (.inr he)⟩
  have hcn : cntR t.L t.N.length = 0 := cnt_none fun p hp => by
    have := h.small hS hp
    omega
  refine ⟨?_, ?_, ?_, ?_, ?_, ?_, ?_, ?_, ?_, ?_, ?_, ?_, ?_⟩
  · rw [updN_other _ _ hrn]; exact h.way0
  · intro d' s' c' he hd'
    rcases (hE _ _ _).1 he with ⟨rfl, rfl, rfl⟩ | he
    · rw [updN_same, updN_other _ _ hdn]
    · rw [updN_other _ _ (htgt _ _ _ he), updN_other _ _ (hsrc _ _ _ he)]
      exact h.ways _ _ _ he ((dir_add hx hdn (htgt _ _ _ he)).1 hd')
  · intro d' s' c' he
    rcases (hE _ _ _).1 he with ⟨rfl, rfl, rfl⟩ | he
    · exact hpar _ hdn hd.2
    · exact hpar _ (hsrc _ _ _ he) (h.par _ _ _ he)
  · intro d' s' c' he
    rcases (hE _ _ _).1 he with ⟨rfl, rfl, rfl⟩ | he
    · exact (dir_add hx hdn hdn).2 hd.1
    · exact (dir_add hx hdn (hsrc _ _ _ he)).2 (h.dirs _ _ _ he)
  · intro d' s' he
    rcases (hE _ _ _).1 he with ⟨-, -, e⟩ | he
    · exact hrn e
    · exact h.noroot _ _ he
  · intro b y hy p hp
    rcases addG_nm hx hdn hy with ⟨-, e⟩ | ⟨-, e⟩ | ⟨y0, h0, e⟩
    · rw [e, z1] at hp; cases hp
    · rw [e] at hp
      rcases putNm_mem hp with rfl | hp
      · exact hs
      · exact h.right d x hx p hp
    · rw [e] at hp
      exact h.right b y0 h0 p hp
  · intro b y hy
    rcases addG_nm hx hdn hy with ⟨-, e⟩ | ⟨-, e⟩ | ⟨y0, h0, e⟩
    · rw [e, z1]; exact List.Pairwise.nil
    · rw [e]; exact putNm_apart (h.rise d x hx) s n
    · rw [e]; exact h.rise b y0 h0
  · intro b y hy
    rcases addG_node hx hdn hy with ⟨-, e1, e2, -⟩ | ⟨-, y0, h0, e1, e2, -⟩
    · rw [e1, e2, z2]
      exact ⟨z4, Nat.zero_le _, fun _ => rfl⟩
    · rw [isDir_kind e1, e1, e2]
      exact h.node b y0 h0
  · intro p k
    rw [mem_withR, h.mem]
    constructor
    · rintro (e | ⟨d', s', c', he, rfl, rfl⟩)
      · obtain ⟨rfl, rfl⟩ := Prod.mk.inj e
        exact ⟨d, s, n, (hE _ _ _).2 (.inl ⟨rfl, rfl, rfl⟩), by rw [updN_other _ _ hdn], (updN_same _ _ _).symm⟩
      · exact ⟨d', s', c', (hE _ _ _).2 (.inr he), by rw [updN_other _ _ (hsrc _ _ _ he)], by rw [updN_other _ _ (htgt _ _ _ he)]⟩
    · rintro ⟨d', s', c', he, rfl, rfl⟩
      rcases (hE _ _ _).1 he with ⟨rfl, rfl, rfl⟩ | he
      · exact .inl (by rw [updN_other _ _ hdn, updN_same])
      · exact .inr ⟨d', s', c', he, by rw [updN_other _ _ (hsrc _ _ _ he)], by rw [updN_other _ _ (htgt _ _ _ he)]⟩
  · intro d' s' c' y he hy
    rcases (hE _ _ _).1 he with ⟨rfl, rfl, rfl⟩ | he
    · rcases addG_node hx hdn hy with ⟨-, e1, e2, e3⟩ | ⟨e, -⟩
      · rw [updN_same]
        show _ ∧ y.links = cntR (withR _ _ _) _ ∧ _
        rw [cnt_withR, if_pos rfl, hcn, e1, e2, e3, z2, z3]
        exact ⟨⟨[], by simp, rfl⟩, rfl, by omega⟩
      · exact absurd rfl e
    · have hc := htgt _ _ _ he
      rcases addG_node hx hdn hy with ⟨e, -⟩ | ⟨-, y0, h0, e1, e2, e3⟩
      · exact absurd e hc
      · obtain ⟨⟨b, g1, g2⟩, g3, g4⟩ := h.told d' s' c' y0 he h0
        have hlt := h.lt hS he
        rw [updN_other _ _ hc, e1, e2, e3]
        refine ⟨⟨b, ?_, g2⟩, ?_, g4⟩
        · show (t.N ++ _)[_]? = _
          rw [List.getElem?_append_left hlt]
          exact g1
        · show y0.links = cntR (withR _ _ _) _
          rw [cnt_withR, if_neg (by omega)]
          exact g3
  · intro d1 s1 c1 d2 s2 c2 he1 he2 e
    rcases (hE _ _ _).1 he1 with ⟨-, -, e1⟩ | f1
    · rcases (hE _ _ _).1 he2 with ⟨-, -, e2⟩ | f2
      · rw [e1, e2]
      · rw [e1, updN_same, updN_other _ _ (htgt _ _ _ f2)] at e
        have := h.lt hS f2
        omega
    · rcases (hE _ _ _).1 he2 with ⟨-, -, e2⟩ | f2
      · rw [e2, updN_same, updN_other _ _ (htgt _ _ _ f1)] at e
        have := h.lt hS f1
        omega
      · rw [updN_other _ _ (htgt _ _ _ f1), updN_other _ _ (htgt _ _ _ f2)] at e
        exact h.inj _ _ _ _ _ _ f1 f2 e
  · exact ris_withR h.ris (h.fresh_path hd hx hs hno)
  · obtain ⟨y, hy, e1, e2⟩ := h.root
    by_cases hrd : r = d
    · subst hrd
      rw [hx] at hy
      obtain rfl := Option.some.inj hy
      exact ⟨_, (setG_other _ _ hrn).trans (setG_same _ _ _), e1, e2⟩
    · exact ⟨y, (setG_other _ _ hrn).trans ((setG_other _ _ hrd).trans hy), e1, e2⟩
/-- A file has a name more. -/
theorem RelG.addOld {d n d0 : Nat} {x z : TN} {s s0 : List UInt8} (hd : StandG G r d) (hx : G d = some x) (hs : rightN s = true) (hno : lookNm x.nm s = none) (hn : G n = some z) (hf : z.isDir = false) (he0 : EdgeG G d0 s0 n) (hl : z.links < 200) :
    RelG (addG G d x s n z) r ⟨withR t.L (pathOf (way d ++ [s])) (φ n), t.N⟩ φ way := by
  have hdn : d ≠ n := fun e => by
    obtain ⟨y, hy, hyd⟩ := hd.1
    rw [e, hn] at hy
    obtain rfl := Option.some.inj hy
    rw [hf] at hyd
    cases hyd
  have hE := edge_add hx hdn hno (.inl hn)
  have hrn : r ≠ n := fun e => h.noroot d0 s0 (e ▸ he0)
  have hsrc : ∀ d' s' c', EdgeG G d' s' c' → d' ≠ n := fun d' s' c' he e => by
    obtain ⟨y, hy, hyd⟩ := h.dirs _ _ _ he
    rw [e, hn] at hy
    obtain rfl := Option.some.inj hy
    rw [hf] at hyd
    cases hyd
  have hpar : ∀ q, (q = r ∨ ∃ d0 s0, EdgeG G d0 s0 q) → q = r ∨ ∃ d0 s0, EdgeG (addG G d x s n z) d0 s0 q := fun q hq => by
    rcases hq with hq | ⟨d0, s0, he⟩
    · exact .inl hq
    · exact .inr ⟨d0, s0, (hE _ _ _).2 (.inr he)⟩
  refine ⟨h.way0, ?_, ?_, ?_, ?_, ?_, ?_, ?_, ?_, ?_, ?_, ?_, ?_⟩
  · intro d' s' c' he hd'
    rcases (hE _ _ _).1 he with ⟨rfl, rfl, rfl⟩ | he
    · rw [dir_addN, hf] at hd'; cases hd'
    · by_cases hc : c' = n
      · subst hc
        rw [dir_addN, hf] at hd'; cases hd'
      · exact h.ways _ _ _ he ((dir_add hx hdn hc).1 hd')
  · intro d' s' c' he
    rcases (hE _ _ _).1 he with ⟨rfl, rfl, rfl⟩ | he
    · exact hpar _ hd.2
    · exact hpar _ (h.par _ _ _ he)
  · intro d' s' c' he
    rcases (hE _ _ _).1 he with ⟨rfl, rfl, rfl⟩ | he
    · exact (dir_add hx hdn hdn).2 hd.1
    · exact (dir_add hx hdn (hsrc _ _ _ he)).2 (h.dirs _ _ _ he)
  · intro d' s' he
    rcases (hE _ _ _).1 he with ⟨-, -, e⟩ | he
    · exact hrn e
    · exact h.noroot _ _ he
  · intro b y hy p hp
    rcases addG_nm hx hdn hy with ⟨e0, e⟩ | ⟨-, e⟩ | ⟨y0, h0, e⟩
    · rw [e] at hp
      exact h.right n z hn p hp
    · rw [e] at hp
      rcases putNm_mem hp with rfl | hp
      · exact hs
      · exact h.right d x hx p hp
    · rw [e] at hp
      exact h.right b y0 h0 p hp
  · intro b y hy
    rcases addG_nm hx hdn hy with ⟨-, e⟩ | ⟨-, e⟩ | ⟨y0, h0, e⟩
    · rw [e]; exact h.rise n z hn
    · rw [e]; exact putNm_apart (h.rise d x hx) s n
    · rw [e]; exact h.rise b y0 h0
  · intro b y hy
    rcases addG_node hx hdn hy with ⟨-, e1, e2, -⟩ | ⟨-, y0, h0, e1, e2, -⟩
    · rw [isDir_kind e1, e1, e2]
      exact h.node n z hn
    · rw [isDir_kind e1, e1, e2]
      exact h.node b y0 h0
  · intro p k
    rw [mem_withR, h.mem]
    constructor
    · rintro (e | ⟨d', s', c', he, rfl, rfl⟩)
      · obtain ⟨rfl, rfl⟩ := Prod.mk.inj e
        exact ⟨d, s, n, (hE _ _ _).2 (.inl ⟨rfl, rfl, rfl⟩), rfl, rfl⟩
      · exact ⟨d', s', c', (hE _ _ _).2 (.inr he), rfl, rfl⟩
    · rintro ⟨d', s', c', he, rfl, rfl⟩
      rcases (hE _ _ _).1 he with ⟨rfl, rfl, rfl⟩ | he
      · exact .inl rfl
      · exact .inr ⟨d', s', c', he, rfl, rfl⟩
  · intro d' s' c' y he hy
    show _ ∧ y.links = cntR (withR _ _ _) _ ∧ _
    rw [cnt_withR]
    by_cases hc : c' = n
    · subst hc
      rcases addG_node hx hdn hy with ⟨-, e1, e2, e3⟩ | ⟨e, -⟩
      · obtain ⟨⟨b, g1, g2⟩, g3, g4⟩ := h.told d0 s0 c' z he0 hn
        rw [if_pos rfl, e1, e2, e3]
        exact ⟨⟨b, g1, g2⟩, by rw [g3], by omega⟩
      · exact absurd rfl e
    · rcases (hE _ _ _).1 he with ⟨-, -, e⟩ | he
      · exact absurd e hc
      · rcases addG_node hx hdn hy with ⟨e, -⟩ | ⟨-, y0, h0, e1, e2, e3⟩
        · exact absurd e hc
        · obtain ⟨⟨b, g1, g2⟩, g3, g4⟩ := h.told d' s' c' y0 he h0
          rw [if_neg (fun e => hc (h.inj _ _ _ _ _ _ he0 he e).symm), e1, e2, e3]
          exact ⟨⟨b, g1, g2⟩, g3, g4⟩
  · intro d1 s1 c1 d2 s2 c2 he1 he2 e
    have key : ∀ d' s' c', EdgeG (addG G d x s n z) d' s' c' → ∃ d'' s'', EdgeG G d'' s'' c' := fun d' s' c' he => by
      rcases (hE _ _ _).1 he with ⟨-, -, rfl⟩ | he
      · exact ⟨d0, s0, he0⟩
      · exact ⟨d', s', he⟩
    obtain ⟨a1, b1, f1⟩ := key _ _ _ he1
    obtain ⟨a2, b2, f2⟩ := key _ _ _ he2
    exact h.inj _ _ _ _ _ _ f1 f2 e
  · exact ris_withR h.ris (h.fresh_path hd hx hs hno)
  · obtain ⟨y, hy, e1, e2⟩ := h.root
    by_cases hrd : r = d
    · subst hrd
      rw [hx] at hy
      obtain rfl := Option.some.inj hy
      exact ⟨_, (setG_other _ _ hrn).trans (setG_same _ _ _), e1, e2⟩
    · exact ⟨y, (setG_other _ _ hrn).trans ((setG_other _ _ hrd).trans hy), e1, e2⟩
/-- A name less, behind which nothing goes on. -/
theorem RelG.less {d c : Nat} {x y : TN} {s : List UInt8} (hx : G d = some x) (hl : lookNm x.nm s = some c) (hy : G c = some y) (hend : Ends10 y) :
    RelG (lessG G d x s c y) r ⟨withoutR t.L (pathOf (way d ++ [s])), t.N⟩ φ way := by
  have he0 : EdgeG G d s c := ⟨x, hx, hl⟩
  have hdc := h.self he0
  have hE := edge_less (s := s) hx hy hdc
  have hsrc : ∀ d' s' c', EdgeG G d' s' c' → d' ≠ c := fun d' s' c' he e => by
    rcases hend with hf | hf
    · obtain ⟨y', hy', hyd⟩ := h.dirs _ _ _ he
      rw [e, hy] at hy'
      obtain rfl := Option.some.inj hy'
      rw [hf] at hyd
      cases hyd
    · obtain ⟨y', hy', hl'⟩ := he
      rw [e, hy] at hy'
      obtain rfl := Option.some.inj hy'
      rw [hf] at hl'
      cases hl'
  have hrc : r ≠ c := fun e => h.noroot d s (e ▸ he0)
  refine ⟨h.way0, ?_, ?_, ?_, ?_, ?_, ?_, ?_, ?_, ?_, ?_, ?_, ?_⟩
  · intro d' s' c' he hd'
    exact h.ways _ _ _ ((hE _ _ _).1 he).1 ((dir_less hx hy hdc).1 hd')
  · intro d' s' c' he
    have f := ((hE _ _ _).1 he).1
    rcases h.par _ _ _ f with hp | ⟨d0, s0, hp⟩
    · exact .inl hp
    · refine .inr ⟨d0, s0, (hE _ _ _).2 ⟨hp, fun e => ?_⟩⟩
      obtain ⟨rfl, rfl⟩ := e
      exact hsrc _ _ _ f (hp.one he0)
  · intro d' s' c' he
    exact (dir_less hx hy hdc).2 (h.dirs _ _ _ ((hE _ _ _).1 he).1)
  · intro d' s' he
    exact h.noroot _ _ ((hE _ _ _).1 he).1
  · intro b y' hy' p hp
    rcases lessG_nm hx hy hy' with ⟨y0, h0, e⟩ | ⟨-, e⟩
    · rw [e] at hp
      exact h.right b y0 h0 p hp
    · rw [e] at hp
      exact h.right d x hx p (List.mem_filter.1 hp).1
  · intro b y' hy'
    rcases lessG_nm hx hy hy' with ⟨y0, h0, e⟩ | ⟨-, e⟩
    · rw [e]; exact h.rise b y0 h0
    · rw [e]; exact delNm_apart (h.rise d x hx) s
  · intro b y' hy'
    obtain ⟨y0, h0, e1, e2, -⟩ := lessG_node hx hy hy'
    rw [isDir_kind e1, e1, e2]
    exact h.node b y0 h0
  · intro p k
    rw [mem_withoutR, h.mem]
    constructor
    · rintro ⟨⟨d', s', c', he, rfl, rfl⟩, hne⟩
      exact ⟨d', s', c', (hE _ _ _).2 ⟨he, fun e => hne (by obtain ⟨rfl, rfl⟩ := e; rfl)⟩, rfl, rfl⟩
    · rintro ⟨d', s', c', he, rfl, rfl⟩
      obtain ⟨he, hne⟩ := (hE _ _ _).1 he
      refine ⟨⟨d', s', c', he, rfl, rfl⟩, fun e => hne ?_⟩
      have e2 := pathOf_inj (h.pathR he) (h.pathR he0) e
      obtain ⟨e3, e4, -⟩ := h.path_edge he he0 e2
      exact ⟨e3, e4⟩
  · intro d' s' c' y' he hy'
    obtain ⟨he, hne⟩ := (hE _ _ _).1 he
    obtain ⟨y0, h0, e1, e2, e3, e4⟩ := lessG_node hx hy hy'
    obtain ⟨⟨b, g1, g2⟩, g3, g4⟩ := h.told d' s' c' y0 he h0
    have hm : (pathOf (way d ++ [s]), φ c) ∈ t.L := (h.mem _ _).2 ⟨d, s, c, he0, rfl, rfl⟩
    have hc := cnt_withoutR (k := φ c') h.ris hm
    rw [e1, e2]
    by_cases e : c' = c
    · rw [if_pos (by rw [e])] at hc
      rw [e3 e]
      exact ⟨⟨b, g1, g2⟩, by show _ = cntR (withoutR _ _) _; omega, by omega⟩
    · rw [if_neg (fun e5 => e (h.inj _ _ _ _ _ _ he he0 e5.symm))] at hc
      rw [e4 e]
      exact ⟨⟨b, g1, g2⟩, by show _ = cntR (withoutR _ _) _; omega, g4⟩
  · intro d1 s1 c1 d2 s2 c2 he1 he2 e
    exact h.inj _ _ _ _ _ _ ((hE _ _ _).1 he1).1 ((hE _ _ _).1 he2).1 e
  · exact ris_withoutR h.ris _
  · obtain ⟨y', hy', e1, e2⟩ := h.root
    by_cases hrd : r = d
    · subst hrd
      rw [hx] at hy'
      obtain rfl := Option.some.inj hy'
      exact ⟨_, lessG_d G r x s c y hdc, e1, e2⟩
    · exact ⟨y', (lessG_o G d x s c y r hrc hrd).trans hy', e1, e2⟩
end
end Go.Proofs.YtgoemaecdolioaaGreatDoor
