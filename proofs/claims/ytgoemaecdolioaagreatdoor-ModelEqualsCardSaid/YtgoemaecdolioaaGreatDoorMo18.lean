/-
  Texts TfD to TgB, as one.
-/
import Derived.Test.YtgoemaecdolioaaGreatDoorMo5
import Derived.Test.YtgoemaecdolioaaGreatDoorMo14
import Derived.Test.YtgoemaecdolioaaGreatDoorMo17
/-
  tree: Move, as it is called. Written by gen_tfd.py.
-/
namespace Go.Proofs.YtgoemaecdolioaaGreatDoor
open Go.RowKit Go.Shelf
attribute [local go_sem] Oper.semAt_some

theorem moveQ_lower (G : Gr) (r : Nat) (f s : List UInt8) : Lower (moveQ G r f s) := by
  unfold moveQ moveT
  repeat' split
  all_goals first | trivial | exact fun n n' G' hn h => h
set_option maxRecDepth 100000 in
set_option maxHeartbeats 8000000 in
theorem move10_any {G : Gr} {w : World} {T r m : Nat} (hT : TreeG w T r G m) (hL : Links10 G) (hm : m < 90000) (hmx : MaxC w) (f s : List UInt8) (hf : f.length ≤ 1000000) (hs : s.length ≤ 1000000) (hMV : MoveFine G r f s) :
    Calls Tryz.prog 130 #[.pointer (some ⟨T, 0, none⟩), encStr f, encStr s] w (OpEnd T r m G (moveQ G r f s) w) := by
  have hmf : ∀ (fn : Fn) (first cap : Array Value) (w : World), (Instr.makeFunc fn first cap).run Tryz.prog w = .ok (.func fn first cap) w := fun _ _ _ _ => rfl
  obtain ⟨t1, ht1⟩ : ∃ t, encStr f = .string t := ⟨_, rfl⟩
  obtain ⟨t2, ht2⟩ : ∃ t, encStr s = .string t := ⟨_, rfl⟩
  obtain ⟨W3, hW3⟩ : ∃ W3, ((w.alloc (.cells #[.pointer (some ⟨T, 0, none⟩)] 52)).alloc (.cells #[.string t1] 9)).alloc (.cells #[.string t2] 9) = W3 := ⟨_, rfl⟩
  have hb3 : Below w.heap.size w W3 := by rw [← hW3]; exact (by repeat (first | exact Below.refl _ _ | assumption | refine Below.drew ?_ | refine below_drewN ?_ _ | refine Below.alloc ?_ (by (try simp) <;> omega) _ | refine Below.setCell ?_ (by (try simp) <;> omega) _ | refine Below.trans ?_ (Below.mono (by assumption) (by (try simp) <;> omega))))
  have hz3 : W3.heap.size = w.heap.size + 3 := by rw [← hW3]; simp
  have b0 : Boxed W3 (w.heap.size) 52 (.pointer (some ⟨T, 0, none⟩)) := by unfold Boxed; rw [← hW3]; (simp only [heap_at, World.size_alloc]; repeat (first | rw [if_pos (by omega)] | rw [if_neg (by omega)] | rw [if_pos trivial]))
  have b1 : Boxed W3 (w.heap.size + 1) 9 (.string t1) := by unfold Boxed; rw [← hW3]; (simp only [heap_at, World.size_alloc]; repeat (first | rw [if_pos (by omega)] | rw [if_neg (by omega)] | rw [if_pos trivial]))
  have b2 : Boxed W3 (w.heap.size + 1 + 1) 9 (.string t2) := by unfold Boxed; rw [← hW3]; (simp only [heap_at, World.size_alloc]; repeat (first | rw [if_pos (by omega)] | rw [if_neg (by omega)] | rw [if_pos trivial]))
  have hbV : Below w.heap.size w (W3.alloc (.cells #[.int .i64 0] 30)) := hb3.alloc hb3.size _
  have h3V : Below W3.heap.size W3 (W3.alloc (.cells #[.int .i64 0] 30)) := (Below.refl _ _).alloc (Nat.le_refl _) _
  rw [← ht1] at b1
  rw [← ht2] at b2
  have hcl := moveClos_any (hT.below hbV) hL hm (hmx.below hbV hmx.room) f s hf hs hMV (boxed_low b1 h3V) (boxed_low b2 h3V) (boxed_low b0 h3V)
  have HTR := Lib.hid (tried_op (f := 165) (enters_of Tryz.func165 (by kernel_rfl) rfl) #[.pointer (some ⟨w.heap.size + 1, 0, none⟩), .pointer (some ⟨w.heap.size + 1 + 1, 0, none⟩), .pointer (some ⟨w.heap.size, 0, none⟩)] hT hb3 _ (moveQ_lower G r f s) hcl)
  obtain ⟨q, hq⟩ : ∃ q, moveQ G r f s = q := ⟨_, rfl⟩
  rw [hq] at HTR ⊢
  rw [ht1]
  rw [ht2]
  have HW3 := Lib.hid hW3
  clear hcl hT hb3 hz3 hbV h3V hW3 hq b0 b1 b2 ht1 ht2
  go_enter Tryz.func130, Tryz.ntmps130
  go_wp2_with fail
  rw [HW3.out]
  refine HTR.out.mono ?_
  cases q with
  | error c =>
    rintro e w' ⟨rfl, hb⟩
    have HB := Lib.hid hb
    clear hb
    go_wp2_with fail
    go_ret
    exact (show _ ∧ _ from ⟨rfl, HB.out⟩)
  | ok Rl =>
    rintro e w' ⟨rfl, hl⟩
    have HL := Lib.hid hl
    clear hl
    go_wp2_with fail
    go_ret
    exact (show _ ∧ _ from ⟨rfl, HL.out⟩)
end Go.Proofs.YtgoemaecdolioaaGreatDoor

/-
  tree: where paths lead, when a name behind which nothing goes on is taken away.
-/
namespace Go.Proofs.YtgoemaecdolioaaGreatDoor
open Go.RowKit Go.Shelf

/-- Each directory lies on one way. -/
def Ways (G : Gr) (way : Nat → List (List UInt8)) : Prop := ∀ d x s c y, G d = some x → lookNm x.nm s = some c → G c = some y → y.isDir = true → way c = way d ++ [s]
theorem nextN_ok {x : TN} {s : List UInt8} {c : Nat} (h : nextN x s = .ok c) : x.isDir = true ∧ lookNm x.nm s = some c := by
  unfold nextN at h
  by_cases hd : x.isDir = true
  · rw [if_pos hd] at h
    cases hl : lookNm x.nm s with
    | none => rw [hl] at h; cases h
    | some q =>
      rw [hl] at h
      simp only [Except.ok.injEq] at h
      exact ⟨hd, by rw [h]⟩
  · rw [if_neg hd] at h; cases h
theorem nextN_of {x : TN} {s : List UInt8} {c : Nat} (hd : x.isDir = true) (hl : lookNm x.nm s = some c) : nextN x s = .ok c := by
  unfold nextN
  rw [if_pos hd, hl]
theorem walkN_cons {G : Gr} {b c : Nat} {s : List UInt8} {l : List (List UInt8)} (h : walkN G b (s :: l) = .ok c) : ∃ x e, G b = some x ∧ x.isDir = true ∧ lookNm x.nm s = some e ∧ walkN G e l = .ok c := by
  unfold walkN at h
  cases hG : G b with
  | none => rw [hG] at h; cases h
  | some x =>
    rw [hG] at h
    simp only at h
    cases hn : nextN x s with
    | error k => rw [hn] at h; cases h
    | ok e =>
      rw [hn] at h
      exact ⟨x, e, rfl, (nextN_ok hn).1, (nextN_ok hn).2, h⟩
theorem walkN_of {G : Gr} {b e : Nat} {x : TN} {s : List UInt8} {l : List (List UInt8)} (hx : G b = some x) (hd : x.isDir = true) (hl : lookNm x.nm s = some e) : walkN G b (s :: l) = walkN G e l := by
  conv => lhs; unfold walkN
  rw [hx]
  simp only [nextN_of hd hl]
theorem ways_walk {G : Gr} {way : Nat → List (List UInt8)} (hW : Ways G way) : ∀ (l : List (List UInt8)) (b c : Nat) (y : TN), walkN G b l = .ok c → G c = some y → y.isDir = true → way c = way b ++ l
  | [], b, c, y, h, _, _ => by
    simp only [walkN, Except.ok.injEq] at h
    rw [h, List.append_nil]
  | s :: l, b, c, y, h, hy, hd => by
    obtain ⟨x, e, hx, -, hl, hw⟩ := walkN_cons h
    have hz : ∃ z, G e = some z ∧ z.isDir = true := by
      cases l with
      | nil =>
        simp only [walkN, Except.ok.injEq] at hw
        exact ⟨y, by rw [hw]; exact hy, hd⟩
      | cons s2 l2 =>
        obtain ⟨z, -, hz, hzd, -, -⟩ := walkN_cons hw
        exact ⟨z, hz, hzd⟩
    obtain ⟨z, hz, hzd⟩ := hz
    rw [ways_walk hW l e c y hw hy hd, hW b x s e z hx hl hz hzd, List.append_assoc]
    rfl
/-- Nothing goes on behind a node: it is a file, or an empty directory. -/
def Ends10 (y : TN) : Prop := y.isDir = false ∨ y.nm = []
theorem ends_walk {G : Gr} {c n : Nat} {y : TN} (hy : G c = some y) (he : Ends10 y) {l : List (List UInt8)} (h : walkN G c l = .ok n) : c = n := by
  cases l with
  | nil => simpa only [walkN, Except.ok.injEq] using h
  | cons s l =>
    obtain ⟨x, e, hx, hd, hl, -⟩ := walkN_cons h
    rw [hy] at hx
    obtain rfl := Option.some.inj hx
    rcases he with he | he
    · rw [hd] at he; cases he
    · rw [he] at hl; cases hl
/-- A walk that ends elsewhere goes as it went. -/
theorem walk_less {G : Gr} {d c : Nat} {x z : TN} {t : List UInt8} (hx : G d = some x) (hz : G c = some z) (he : Ends10 z) (ht : lookNm x.nm t = some c) (hdc : d ≠ c) : ∀ (l : List (List UInt8)) (b n : Nat), walkN G b l = .ok n → n ≠ c → walkN (lessG G d x t c z) b l = .ok n
  | [], b, n, h, _ => by simpa only [walkN] using h
  | s :: l, b, n, h, hn => by
    have hbc : b ≠ c := fun e => by
      subst e
      exact hn (ends_walk hz he h).symm
    obtain ⟨y, e, hy, hyd, hl, hw⟩ := walkN_cons h
    have ih := walk_less hx hz he ht hdc l e n hw hn
    by_cases hbd : b = d
    · subst hbd
      rw [hx] at hy
      obtain rfl := Option.some.inj hy
      rw [walkN_of (lessG_d G b x t c z hbc) hyd (e := e) ?_]
      · exact ih
      · show lookNm (delNm x.nm t) s = some e
        rw [look_del]
        split
        · rename_i hs
          exfalso
          have : s = t := by simpa using hs
          subst this
          rw [hl] at ht
          obtain rfl := Option.some.inj ht
          exact hn (ends_walk hz he hw).symm
        · exact hl
    · rw [walkN_of ((lessG_o G d x t c z b hbc hbd).trans hy) hyd hl]
      exact ih
/-- So does a spot, if its directory is none that goes. -/
theorem spot_less {G : Gr} {r d c d1 : Nat} {x z : TN} {t : List UInt8} {names : List (List UInt8)} (hx : G d = some x) (hz : G c = some z) (he : Ends10 z) (ht : lookNm x.nm t = some c) (hdc : d ≠ c) (h : spotN G r names = .ok d1) (h1 : d1 ≠ c) : spotN (lessG G d x t c z) r names = .ok d1 := by
  obtain ⟨y, hy, hyd, hw⟩ := spotN_some h
  unfold spotN
  rw [walk_less hx hz he ht hdc _ _ _ hw h1]
  by_cases hd : d1 = d
  · subst hd
    rw [hx] at hy
    obtain rfl := Option.some.inj hy
    simp only [lessG_d G d1 x t c z h1]
    exact if_pos hyd
  · simp only [lessG_o G d x t c z d1 h1 hd, hy]
    exact if_pos hyd
end Go.Proofs.YtgoemaecdolioaaGreatDoor

/-
  tree: what Move asks of a tree is so where each directory lies on one way.
-/
namespace Go.Proofs.YtgoemaecdolioaaGreatDoor
open Go.RowKit Go.Shelf

theorem giveN_zero {z y : TN} (h : giveN z y = 0) : z.nm = [] := by
  unfold giveN at h
  split at h
  · cases h
  · split at h
    · cases h
    · split at h
      · assumption
      · cases h
theorem names_last {l : List (List UInt8)} (h : l ≠ []) : l = l.dropLast ++ [lastN l] := by
  unfold lastN
  rw [List.getLast?_eq_some_getLast h, Option.getD_some, List.dropLast_concat_getLast h]
theorem isIn_drop {l : List (List UInt8)} (h : l ≠ []) : isIn l l.dropLast = true := by
  have e := names_last h
  have hl : l.length = l.dropLast.length + 1 := by
    conv => lhs; rw [e]
    simp
  have ht : l.take l.dropLast.length = l.dropLast := by
    conv => lhs; arg 2; rw [e]
    exact List.take_left
  unfold isIn beginsE
  rw [decide_eq_true (show l.dropLast.length < l.length by omega), decide_eq_true (show l.dropLast.length ≤ l.length by omega), ht]
  simp
theorem move_fine {G : Gr} {r : Nat} {xr : TN} {way : Nat → List (List UInt8)} (hS : Leads G) (hr : G r = some xr) (hW : Ways G way) (h0 : way r = []) (hL : Links10 G) (f s : List UInt8) : MoveFine G r f s := by
  intro e1 e2 g1 g2 n y d2 x2 hw hy hin hsp hx2
  obtain ⟨d1, x1, hs1, hx1, hl1⟩ := walkN_last hS hr g1 hw
  obtain ⟨a1, a2, a3⟩ := hL d1 x1 _ n y hx1 hl1 hy
  obtain ⟨x2', hx2', hd2, hw2⟩ := spotN_some hsp
  rw [hx2] at hx2'
  obtain rfl := Option.some.inj hx2'
  have hn2 : d2 ≠ n := fun e => by
    subst e
    rw [hx2] at hy
    obtain rfl := Option.some.inj hy
    have q1 := ways_walk hW _ _ _ _ hw hx2 hd2
    have q2 := ways_walk hW _ _ _ _ hw2 hx2 hd2
    rw [q1, h0, List.nil_append, List.nil_append] at q2
    unfold withinE at hin
    rw [if_neg (by simpa using e2), if_neg (by simpa using e1), hd2, Bool.true_and] at hin
    rw [q2, isIn_drop g2] at hin
    cases hin
  refine ⟨fun hno => ⟨d1, x1, hs1, hx1, hl1, hy, hx2, hno, a1, hn2, a2, a3⟩, fun c z hc hcn hz hg => ?_⟩
  have hze := giveN_zero hg
  obtain ⟨b1, b2, b3⟩ := hL d2 x2 _ c z hx2 hc hz
  have hd1c : d1 ≠ c := fun e => by
    subst e
    rw [hz] at hx1
    obtain rfl := Option.some.inj hx1
    rw [hze] at hl1
    cases hl1
  have hsp1 := spot_less hx2 hz (.inr hze) hc b1 hs1 hd1c
  have hy1 : lessG G d2 x2 (lastN (splitE s).1) c z n = some y := (lessG_o G d2 x2 _ c z n (fun e => hcn e.symm) (fun e => hn2 e.symm)).trans hy
  have hno : lookNm (delNm x2.nm (lastN (splitE s).1)) (lastN (splitE s).1) = none := by rw [look_del, if_pos rfl]
  by_cases hd : d1 = d2
  · subst hd
    rw [hx2] at hx1
    obtain rfl := Option.some.inj hx1
    refine ⟨d1, { x2 with nm := delNm x2.nm (lastN (splitE s).1) }, y, { x2 with nm := delNm x2.nm (lastN (splitE s).1) }, hsp1, lessG_d G d1 x2 _ c z b1, ?_, hy1, lessG_d G d1 x2 _ c z b1, hno, a1, hn2, a2, a3⟩
    show lookNm (delNm x2.nm (lastN (splitE s).1)) (lastN (splitE f).1) = some n
    rw [look_del, if_neg]
    · exact hl1
    · intro e
      rw [e, hc] at hl1
      exact hcn (Option.some.inj hl1)
  · exact ⟨d1, x1, y, { x2 with nm := delNm x2.nm (lastN (splitE s).1) }, hsp1, (lessG_o G d2 x2 _ c z d1 hd1c hd).trans hx1, hl1, hy1, lessG_d G d2 x2 _ c z b1, hno, a1, hn2, a2, a3⟩
end Go.Proofs.YtgoemaecdolioaaGreatDoor

/-
  tree: nodes in memory and the document's tree: how the one stands for the other. Plain Lean.
-/
namespace Go.Proofs.YtgoemaecdolioaaGreatDoor
open Go.RowKit Go.Shelf

/-- The document's tree: names with numbers of nodes; nodes: a kind, bytes. -/
structure RT where
  L : RL
  N : List (Int × List UInt8)
def EdgeG (G : Gr) (d : Nat) (s : List UInt8) (c : Nat) : Prop := ∃ x, G d = some x ∧ lookNm x.nm s = some c
def DirG (G : Gr) (c : Nat) : Prop := ∃ x, G c = some x ∧ x.isDir = true
def bytesN (b : List UInt8) : List Nat := b.map UInt8.toNat
structure RelG (G : Gr) (r : Nat) (t : RT) (φ : Nat → Nat) (way : Nat → List (List UInt8)) : Prop where
  way0 : way r = []
  ways : ∀ d s c, EdgeG G d s c → DirG G c → way c = way d ++ [s]
  par : ∀ d s c, EdgeG G d s c → d = r ∨ ∃ d0 s0, EdgeG G d0 s0 d
  dirs : ∀ d s c, EdgeG G d s c → DirG G d
  noroot : ∀ d s, ¬ EdgeG G d s r
  right : ∀ b x, G b = some x → ∀ p ∈ x.nm, rightN p.1 = true
  rise : ∀ b x, G b = some x → x.nm.Pairwise fun p q => p.1 ≠ q.1
  node : ∀ b x, G b = some x → (x.kind = 1 ∨ x.kind = 2) ∧ x.bytes.length ≤ 448 ∧ (x.isDir = true → x.bytes = [])
  mem : ∀ p n, (p, n) ∈ t.L ↔ ∃ d s c, EdgeG G d s c ∧ p = pathOf (way d ++ [s]) ∧ n = φ c
  told : ∀ d s c x, EdgeG G d s c → G c = some x → (∃ b, t.N[φ c]? = some (x.kind, b) ∧ bytesN b = x.bytes) ∧ x.links = cntR t.L (φ c) ∧ x.links ≤ 200
  inj : ∀ d s c d' s' c', EdgeG G d s c → EdgeG G d' s' c' → φ c = φ c' → c = c'
  ris : RisR t.L
  root : ∃ x, G r = some x ∧ x.kind = 2 ∧ x.links = 1
theorem lookNm_mem {nm : Nm} {s : List UInt8} {c : Nat} (h : lookNm nm s = some c) : (s, c) ∈ nm := by
  unfold lookNm at h
  cases hf : nm.find? fun p => p.1 == s with
  | none => rw [hf] at h; cases h
  | some e =>
    rw [hf] at h
    have h1 : e.1 = s := by simpa using List.find?_some hf
    have h2 := List.mem_of_find?_eq_some hf
    have h3 : e.2 = c := by simpa using h
    rw [← h1, ← h3]
    exact h2
theorem mem_lookNm : ∀ {nm : Nm}, nm.Pairwise (fun p q => p.1 ≠ q.1) → ∀ {s : List UInt8} {c : Nat}, (s, c) ∈ nm → lookNm nm s = some c
  | [], _, _, _, h => by cases h
  | y :: r, hr, s, c, h => by
    obtain ⟨h1, h2⟩ := List.pairwise_cons.1 hr
    unfold lookNm
    rcases List.mem_cons.1 h with rfl | h
    · simp
    · have : (y.1 == s) = false := by simpa using h1 _ h
      rw [List.find?_cons, this]
      exact mem_lookNm h2 h
/-- A directory that stands: the root, or one that a name leads to. -/
def StandG (G : Gr) (r d : Nat) : Prop := DirG G d ∧ (d = r ∨ ∃ d0 s0, EdgeG G d0 s0 d)
theorem EdgeG.one {G : Gr} {d : Nat} {s : List UInt8} {c c' : Nat} (h : EdgeG G d s c) (h' : EdgeG G d s c') : c = c' := by
  obtain ⟨x, hx, hl⟩ := h
  obtain ⟨y, hy, hl'⟩ := h'
  rw [hx] at hy
  obtain rfl := Option.some.inj hy
  rw [hl] at hl'
  exact Option.some.inj hl'
section
variable {G : Gr} {r : Nat} {t : RT} {φ : Nat → Nat} {way : Nat → List (List UInt8)} (h : RelG G r t φ way)
include h
theorem RelG.rootDir : DirG G r := by
  obtain ⟨x, hx, hk, -⟩ := h.root
  exact ⟨x, hx, by unfold TN.isDir; rw [hk]; rfl⟩
theorem RelG.edge_right {d : Nat} {s : List UInt8} {c : Nat} (he : EdgeG G d s c) : rightN s = true := by
  obtain ⟨x, hx, hl⟩ := he
  exact h.right d x hx _ (lookNm_mem hl)
theorem RelG.stand {d : Nat} {s : List UInt8} {c : Nat} (he : EdgeG G d s c) : StandG G r d := ⟨h.dirs d s c he, h.par d s c he⟩
theorem RelG.stand_way {d : Nat} (hd : StandG G r d) : (d = r ∧ way d = []) ∨ ∃ d0 s0, EdgeG G d0 s0 d ∧ way d = way d0 ++ [s0] := by
  obtain ⟨h1, rfl | ⟨d0, s0, he⟩⟩ := hd
  · exact .inl ⟨rfl, h.way0⟩
  · exact .inr ⟨d0, s0, he, h.ways d0 s0 d he h1⟩
theorem RelG.way_right : ∀ (k : Nat) {d : Nat}, StandG G r d → (way d).length = k → (way d).all rightN = true
  | 0, d, _, hk => by rw [List.length_eq_zero_iff.1 hk]; rfl
  | k + 1, d, hd, hk => by
    rcases h.stand_way hd with ⟨-, e⟩ | ⟨d0, s0, he, e⟩
    · rw [e] at hk; cases hk
    · rw [e] at hk ⊢
      have ih := RelG.way_right k (h.stand he) (by simpa using hk)
      rw [List.all_append, ih]
      simpa using h.edge_right he
theorem RelG.wayR {d : Nat} (hd : StandG G r d) : (way d).all rightN = true := h.way_right _ hd rfl
theorem RelG.pathR {d : Nat} {s : List UInt8} {c : Nat} (he : EdgeG G d s c) : (way d ++ [s]).all rightN = true := by
  rw [List.all_append, h.wayR (h.stand he)]
  simpa using h.edge_right he
theorem RelG.way_inj : ∀ (k : Nat) {d d' : Nat}, StandG G r d → StandG G r d' → (way d).length = k → way d = way d' → d = d'
  | 0, d, d', hd, hd', hk, e => by
    have h0 := List.length_eq_zero_iff.1 hk
    rcases h.stand_way hd with ⟨rfl, -⟩ | ⟨d0, s0, -, e1⟩
    · rcases h.stand_way hd' with ⟨rfl, -⟩ | ⟨d0, s0, -, e1⟩
      · rfl
      · rw [← e, h0] at e1; simp at e1
    · rw [h0] at e1; simp at e1
  | k + 1, d, d', hd, hd', hk, e => by
    rcases h.stand_way hd with ⟨-, e1⟩ | ⟨d0, s0, he, e1⟩
    · rw [e1] at hk; cases hk
    · rcases h.stand_way hd' with ⟨-, e2⟩ | ⟨d1, s1, he', e2⟩
      · rw [e, e2] at e1; simp at e1
      · rw [e1, e2] at e
        obtain ⟨e3, e4⟩ := List.append_inj' e rfl
        have e5 : s0 = s1 := by simpa using e4
        have ih := RelG.way_inj k (h.stand he) (h.stand he') (by rw [e1] at hk; simpa using hk) e3
        rw [ih, e5] at he
        exact he.one he'
theorem RelG.wayI {d d' : Nat} (hd : StandG G r d) (hd' : StandG G r d') (e : way d = way d') : d = d' := h.way_inj _ hd hd' rfl e
end
theorem flatP_parts {l : List (List UInt8)} (h : l.all rightN = true) : partsP (flatP l) = [] :: l := by
  have := partsP_names l [] (fun y hy => by
    rcases List.mem_cons.1 hy with rfl | hy
    · simp
    · exact rightN_noSlash (List.all_eq_true.1 h y hy))
  simpa using this
theorem pathOf_ne {l : List (List UInt8)} (h : l.all rightN = true) (h0 : l ≠ []) : pathOf l ≠ [47] := fun e => by
  unfold pathOf at e
  rw [if_neg h0] at e
  have h1 := flatP_parts h
  rw [e] at h1
  have h2 : partsP [47] = [[], []] := rfl
  rw [h2] at h1
  have h3 : l = [[]] := by simpa using h1.symm
  rw [h3] at h
  exact absurd h (by decide)
theorem pathOf_inj {l m : List (List UInt8)} (hl : l.all rightN = true) (hm : m.all rightN = true) (e : pathOf l = pathOf m) : l = m := by
  by_cases h1 : l = []
  · by_cases h2 : m = []
    · rw [h1, h2]
    · exact absurd (e.symm.trans (by rw [h1]; rfl)) (pathOf_ne hm h2)
  · by_cases h2 : m = []
    · exact absurd (e.trans (by rw [h2]; rfl)) (pathOf_ne hl h1)
    · unfold pathOf at e
      rw [if_neg h1, if_neg h2] at e
      have := flatP_parts hl
      rw [e, flatP_parts hm] at this
      simpa using this.symm
theorem pathOf_append {l : List (List UInt8)} (m : List (List UInt8)) (h0 : l ≠ []) : pathOf (l ++ m) = pathOf l ++ flatP m := by
  unfold pathOf
  rw [if_neg h0, if_neg (by simp [h0])]
  unfold flatP
  rw [List.map_append, List.flatten_append]
theorem flatP_cons (s : List UInt8) (m : List (List UInt8)) : flatP (s :: m) = 47 :: (s ++ flatP m) := by
  unfold flatP
  simp
/-- One path is under another one, as texts, just if the names begin so. -/
theorem under_path {f p : List (List UInt8)} (hf : f.all rightN = true) (hp : p.all rightN = true) (h0 : f ≠ []) : underP (pathOf p) (pathOf f) = true ↔ ∃ s m, p = f ++ s :: m := by
  rw [underP_iff]
  constructor
  · rintro ⟨q, e⟩
    have hp0 : p ≠ [] := fun h => by
      rw [h] at e
      have h1 : pathOf f ≠ [] := by
        unfold pathOf
        rw [if_neg h0]
        cases f with
        | nil => exact absurd rfl h0
        | cons s m => rw [flatP_cons]; simp
      have := congrArg List.length e
      have h2 : 0 < (pathOf f).length := List.length_pos_iff.2 h1
      have h3 : (pathOf ([] : List (List UInt8))).length = 1 := rfl
      rw [h3] at this
      simp at this
      omega
    unfold pathOf at e
    rw [if_neg h0, if_neg hp0] at e
    have h1 := flatP_parts hp
    rw [e, partsP_app, flatP_parts hf] at h1
    have h2 : f ++ partsP q = p := by simpa using h1
    obtain ⟨a, b, hq⟩ := partsP_cons q
    exact ⟨a, b, by rw [← h2, hq]⟩
  · rintro ⟨s, m, rfl⟩
    exact ⟨s ++ flatP m, by rw [pathOf_append _ h0, flatP_cons]⟩
section
variable {G : Gr} {r : Nat} {t : RT} {φ : Nat → Nat} {way : Nat → List (List UInt8)} (h : RelG G r t φ way)
include h
theorem RelG.path_edge {d d' : Nat} {s s' : List UInt8} {c c' : Nat} (he : EdgeG G d s c) (he' : EdgeG G d' s' c') (e : way d ++ [s] = way d' ++ [s']) : d = d' ∧ s = s' ∧ c = c' := by
  obtain ⟨e1, e2⟩ := List.append_inj' e rfl
  have e3 : s = s' := by simpa using e2
  have e4 := h.wayI (h.stand he) (h.stand he') e1
  subst e3 e4
  exact ⟨rfl, rfl, he.one he'⟩
/-- What the names tell at a place. -/
theorem RelG.look {d : Nat} {x : TN} (hd : StandG G r d) (hx : G d = some x) {s : List UInt8} (hs : rightN s = true) : lookR t.L (pathOf (way d ++ [s])) = (lookNm x.nm s).map φ := by
  have hr : (way d ++ [s]).all rightN = true := by rw [List.all_append, h.wayR hd]; simpa using hs
  cases hl : lookNm x.nm s with
  | some c => exact (lookR_iff h.ris _ _).2 ((h.mem _ _).2 ⟨d, s, c, ⟨x, hx, hl⟩, rfl, rfl⟩)
  | none =>
    refine (lookR_none h.ris _).2 fun n hn => ?_
    obtain ⟨d', s', c', he, e, -⟩ := (h.mem _ _).1 hn
    have e2 := pathOf_inj hr (h.pathR he) e
    obtain ⟨e3, e4⟩ := List.append_inj' e2 rfl
    have e5 : s = s' := by simpa using e4
    have e6 := h.wayI hd (h.stand he) e3
    subst e5 e6
    obtain ⟨y, hy, hl'⟩ := he
    rw [hx] at hy
    obtain rfl := Option.some.inj hy
    rw [hl] at hl'
    cases hl'
theorem RelG.self {d : Nat} {s : List UInt8} {c : Nat} (he : EdgeG G d s c) : d ≠ c := fun e => by
  subst e
  have := h.ways d s d he (h.dirs d s d he)
  have := congrArg List.length this
  simp at this
theorem RelG.links : Links10 G := fun d x s c y hx hl hy => by
  have he : EdgeG G d s c := ⟨x, hx, hl⟩
  obtain ⟨-, h2, h3⟩ := h.told d s c y he hy
  refine ⟨h.self he, ?_, h3⟩
  rw [h2]
  exact cnt_some ((h.mem _ _).2 ⟨d, s, c, he, rfl, rfl⟩)
theorem RelG.waysG : Ways G way := fun d x s c y hx hl hy hd => h.ways d s c ⟨x, hx, hl⟩ ⟨y, hy, hd⟩
end
end Go.Proofs.YtgoemaecdolioaaGreatDoor
