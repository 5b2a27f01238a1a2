/-
  PmemCopies: the slices that its first region builds.
-/
import Derived.Test.YtohdgjmmekgcmaaDoorQPqA
namespace Go.Proofs.YtohdgjmmekgcmaaDoor
open Go.RowKit Go.Shelf
attribute [local go_sem] Oper.semAt_some

theorem slice_acts0 (W : World) : (Instr.buildSlice 22 0 #[]).run Tryd.prog W = .ok (.slice (some ⟨W.heap.size, 0, none⟩) 0 0) (W.alloc (.cells #[] 26)) := by
  kernel_rfl
theorem slice_acts2 (x y : Ask) (mx my : Value) (W : World) : (Instr.buildSlice 22 2 #[(0, .agg (askA x mx)), (1, .agg (askA y my))]).run Tryd.prog W = .ok (.slice (some ⟨W.heap.size, 0, none⟩) 2 2) (W.alloc (.cells (askA x mx ++ askA y my) 26)) := by
  kernel_rfl
theorem wpIn_via {Fc : Fence} {n : Nat} {P : Program} {c : Code} {Q : Exit → Act → World → Prop} {a : Act} {w : World} (R : Act → Act → World → Prop) (h : c.wpIn Fc n P (fun e A W => e = .normal ∧ R a A W) a w) (h2 : ∀ A W, R a A W → Q .normal A W) : c.wpIn Fc n P Q a w :=
  wpIn_mono h (by rintro _ A W ⟨rfl, h⟩; exact h2 A W h)
/-- A block of another type than a device's rows is none of them. -/
theorem own_neQ {W : World} {e t : TypeId} {size S c n b : Nat} {xs : List Value} {cs : Array Value} {fr : Nat × Nat} (h : W.ownsRow 0 e size (.slice (some ⟨S, 0, none⟩) n c) n xs) (hb : W.heap[b]? = some (.cells cs t fr)) (hte : t ≠ e) : S ≠ b := by
  rintro rfl
  rcases h.2 with ⟨e0, _⟩ | ⟨g, cap, cur, e0, _, hg, _⟩
  · cases e0
  · simp only [Value.slice.injEq, Option.some.injEq, Addr.mk.injEq, and_true, true_and] at e0
    obtain ⟨rfl, rfl⟩ := e0
    rw [hb] at hg
    simp only [Option.some.injEq, Obj.cells.injEq] at hg
    exact hte hg.2.1
theorem grow_neQ {W : World} {e t : TypeId} {size n b : Nat} {v : Value} {xs : List Value} {cs : Array Value} {fr : Nat × Nat} (h : GrowV W e size v n xs) (hb : W.heap[b]? = some (.cells cs t fr)) (hte : t ≠ e) : OwnIn (fun k => k ≠ b) v := by
  rcases h with ⟨_, _, ad, rfl⟩ | h
  · exact .inl ⟨ad, rfl⟩
  · refine .inr fun g hg => ?_
    rintro rfl
    rcases h.2 with ⟨rfl, _⟩ | ⟨g', cap, cur, rfl, _, hg', _⟩
    · cases hg
    · obtain rfl : g' = g := by simpa [Value.ownBlock] using hg
      rw [hb] at hg'
      simp only [Option.some.injEq, Obj.cells.injEq] at hg'
      exact hte hg'.2.1
/-- The document's device does not mind a box that is written. -/
theorem RefV.boxQ {W W' : World} {F : Nat → Prop} {S T n cS cT b : Nat} {q : Value} {d : Dv} {cs : Array Value} {fr : Nat × Nat} (h : RefV W F S T n cS cT q d) (hb : W.heap[b]? = some (.cells cs 36 fr)) (hk : ∀ k, k ≠ b → W'.heap[k]? = W.heap[k]?) : RefV W' F S T n cS cT q d :=
  ⟨h.ok, h.pos, h.most, own_keeps h.seen (fun _ => hk S (own_neQ h.seen hb (by decide))), own_keeps h.stays (fun _ => hk T (own_neQ h.stays hb (by decide))), h.waits.keeps (grow_neQ h.waits hb (by decide)) (fun k hk' _ => hk k hk'), h.outS, h.outT, h.outQ⟩
/-- Both devices in the rounds of a law that plays calls; the document's lies in block b. -/
structure BothQ (w : World) (n b r B : Nat) (wr : World) : Prop where
  ex : ∃ F S T cS cT q S' T' cS' cT' q' d, DevB wr F B S T n cS cT q d ∧ RefV wr F S' T' n cS' cT' q' d ∧ (∀ k, F k → w.heap.size ≤ k) ∧ ¬ F b ∧ ¬ F r ∧ Box3 wr b 36 (.slice (some ⟨S', 0, none⟩) n cS') (.slice (some ⟨T', 0, none⟩) n cT') q'
  res : Boxed wr r 4 (.bool false)
  below : Below w.heap.size w wr
/-- BehindQ a call by both: the answer's device lies in block x, not yet in block b. -/
structure BehindQ (w : World) (n b r x B : Nat) (wr : World) : Prop where
  ex : ∃ F S T cS cT q S' T' cS' cT' q' d y0 y1 y2, DevB wr F B S T n cS cT q d ∧ RefV wr F S' T' n cS' cT' q' d ∧ (∀ k, F k → w.heap.size ≤ k) ∧ ¬ F b ∧ ¬ F r ∧ Box3 wr x 36 (.slice (some ⟨S', 0, none⟩) n cS') (.slice (some ⟨T', 0, none⟩) n cT') q' ∧ Box3 wr b 36 y0 y1 y2
  res : Boxed wr r 4 (.bool false)
  below : Below w.heap.size w wr
  ne : b ≠ r
  low : w.heap.size ≤ b
theorem BothQ.drew {w wr : World} {n b r B : Nat} (h : BothQ w n b r B wr) : BothQ w n b r B wr.drew := by
  obtain ⟨F, S, T, cS, cT, q, S', T', cS', cT', q', d, h1, h2, h3, h4, h5, h6⟩ := h.ex
  have hb : Below wr.heap.size wr wr.drew := Below.drew (Below.refl _ _)
  exact ⟨⟨F, S, T, cS, cT, q, S', T', cS', cT', q', d, h1.below hb, h2.below hb, h3, h4, h5, h6.below hb h6.lt⟩, (hb.block _ h.res.lt).trans h.res, h.below.trans (hb.mono h.below.size)⟩
theorem BehindQ.set {w wr : World} {n b r x B : Nat} {x0 x1 x2 : Value} (h : BehindQ w n b r x B wr) (hx : Box3 wr x 36 x0 x1 x2) : BothQ w n b r B (((wr.setCell ⟨b, 0, none⟩ x0).setCell ⟨b, 1, none⟩ x1).setCell ⟨b, 2, none⟩ x2) := by
  obtain ⟨F, S, T, cS, cT, q, S', T', cS', cT', q', d, y0, y1, y2, h1, h2, h3, h4, h5, h6, h7⟩ := h.ex
  have e := hx.symm.trans h6
  simp only [Option.some.injEq, Obj.cells.injEq, Array.mk.injEq, List.cons.injEq, and_true] at e
  obtain ⟨rfl, rfl, rfl⟩ := e
  refine ⟨⟨F, S, T, cS, cT, q, S', T', cS', cT', x2, d, h1.keeps (fun k hk _ => heap_set3 _ b k (fun e => h4 (by rw [← e]; exact hk)) _ _ _) (by simp [World.setCell]), h2.boxQ h7 (fun k hk => heap_set3 _ _ k hk _ _ _), h3, h4, h5, ((h7.set0 _).set1 _).set2 _⟩, (heap_set3 _ _ r (fun e => h.ne e.symm) _ _ _).trans h.res, ?_⟩
  exact below_set3 h.below h.low _ _ _
theorem RefV.cellQ {W : World} {F : Nat → Prop} {S T n cS cT b : Nat} {q u : Value} {d : Dv} (h : RefV W F S T n cS cT q d) (hb : ∃ v, Boxed W b 4 v) : RefV (W.setCell ⟨b, 0, none⟩ u) F S T n cS cT q d := by
  obtain ⟨v, hb⟩ := hb
  have hk : ∀ k, k ≠ b → (W.setCell ⟨b, 0, none⟩ u).heap[k]? = W.heap[k]? := fun k hk => Below.heap_setCell _ _ _ k hk
  exact ⟨h.ok, h.pos, h.most, own_keeps h.seen (fun _ => hk S (own_neQ h.seen hb (by decide))), own_keeps h.stays (fun _ => hk T (own_neQ h.stays hb (by decide))), h.waits.keeps (grow_neQ h.waits hb (by decide)) (fun k hk' _ => hk k hk'), h.outS, h.outT, h.outQ⟩
theorem bothQ_set {w wr : World} {n b r B : Nat} {F : Nat → Prop} {S T cS cT S' T' cS' cT' : Nat} {q q' : Value} {d : Dv} {y0 y1 y2 : Value} (h1 : DevB wr F B S T n cS cT q d) (h2 : RefV wr F S' T' n cS' cT' q' d) (h3 : ∀ k, F k → w.heap.size ≤ k) (h4 : ¬ F b) (h5 : ¬ F r) (h7 : Box3 wr b 36 y0 y1 y2) (hr : Boxed wr r 4 (.bool false)) (hb : Below w.heap.size w wr) (hne : b ≠ r) (hlow : w.heap.size ≤ b) :
    BothQ w n b r B (((wr.setCell ⟨b, 0, none⟩ (.slice (some ⟨S', 0, none⟩) n cS')).setCell ⟨b, 1, none⟩ (.slice (some ⟨T', 0, none⟩) n cT')).setCell ⟨b, 2, none⟩ q') :=
  ⟨⟨F, S, T, cS, cT, q, S', T', cS', cT', q', d, h1.keeps (fun k hk _ => heap_set3 _ b k (fun e => h4 (by rw [← e]; exact hk)) _ _ _) (by simp [World.setCell]), h2.boxQ h7 (fun k hk => heap_set3 _ _ k hk _ _ _), h3, h4, h5, ((h7.set0 _).set1 _).set2 _⟩, (heap_set3 _ _ r (fun e => hne e.symm) _ _ _).trans hr, below_set3 hb hlow _ _ _⟩
/-- What a device has of its own, and no more. -/
def leastF (F : Nat → Prop) (B S T : Nat) (q : Value) : Nat → Prop := fun k => k = B ∨ k = S ∨ k = T ∨ ((∀ ad, q ≠ .slice (some ad) 0 0) ∧ q.ownBlock = some k ∧ F k)
theorem DevB.leastF_le {W : World} {F : Nat → Prop} {B S T n cS cT : Nat} {q : Value} {d : Dv} (h : DevB W F B S T n cS cT q d) : ∀ k, leastF F B S T q k → F k := by
  rintro k (rfl | rfl | rfl | h')
  · exact h.inB
  · exact h.inS
  · exact h.inT
  · exact h'.2.2
theorem DevB.least {W : World} {F : Nat → Prop} {B S T n cS cT : Nat} {q : Value} {d : Dv} (h : DevB W F B S T n cS cT q d) : DevB W (leastF F B S T q) B S T n cS cT q d :=
  ⟨h.ok, h.pos, h.most, h.dev, h.seen, h.stays, h.waits, h.apart, .inl rfl, .inr (.inl rfl), .inr (.inr (.inl rfl)), by
    by_cases hq : ∃ ad, q = .slice (some ad) 0 0
    · exact .inl hq
    · refine .inr fun g hg => .inr (.inr (.inr ⟨fun ad e => hq ⟨ad, e⟩, hg, ?_⟩))
      rcases h.inQ with h' | h'
      · exact absurd h' hq
      · exact h' g hg, fun k hk => h.far k (h.leastF_le k hk), fun k hk => h.live k (h.leastF_le k hk)⟩
theorem own_cells {W : World} {e : TypeId} {size S c n : Nat} {xs : List Value} (h : W.ownsRow 0 e size (.slice (some ⟨S, 0, none⟩) n c) n xs) : ∃ cs fr, W.heap[S]? = some (.cells cs e fr) := by
  rcases h.2 with ⟨e0, _⟩ | ⟨g, cap, cur, e0, _, hg, _⟩
  · cases e0
  · simp only [Value.slice.injEq, Option.some.injEq, Addr.mk.injEq, and_true, true_and] at e0
    obtain ⟨rfl, rfl⟩ := e0
    exact ⟨_, _, hg⟩
/-- What a device has of its own is of no type of the document's device. -/
theorem DevB.least_types {W : World} {F : Nat → Prop} {B S T n cS cT : Nat} {q : Value} {d : Dv} (h : DevB W F B S T n cS cT q d) (k : Nat) (hk : leastF F B S T q k) : ∃ cs t fr, W.heap[k]? = some (.cells cs t fr) ∧ t ≠ 48 ∧ t ≠ 50 := by
  rcases hk with rfl | rfl | rfl | ⟨h1, h2, h3⟩
  · exact ⟨_, _, _, h.dev, by decide, by decide⟩
  · obtain ⟨cs, fr, e⟩ := own_cells h.seen
    exact ⟨_, _, _, e, by decide, by decide⟩
  · obtain ⟨cs, fr, e⟩ := own_cells h.stays
    exact ⟨_, _, _, e, by decide, by decide⟩
  · rcases h.waits with ⟨_, _, ad, e⟩ | h'
    · exact absurd e (h1 ad)
    · rcases h'.2 with ⟨rfl, _⟩ | ⟨g, cap, cur, rfl, _, hg, _⟩
      · cases h2
      · obtain rfl : g = k := by simpa [Value.ownBlock] using h2
        exact ⟨_, _, _, hg, by decide, by decide⟩
/-- The document's device stands apart from blocks of other types. -/
theorem RefV.apart {W : World} {F G : Nat → Prop} {S T n cS cT : Nat} {q : Value} {d : Dv} (h : RefV W F S T n cS cT q d) (hG : ∀ k, G k → ∃ cs t fr, W.heap[k]? = some (.cells cs t fr) ∧ t ≠ 48 ∧ t ≠ 50) : RefV W G S T n cS cT q d :=
  ⟨h.ok, h.pos, h.most, h.seen, h.stays, h.waits, fun hk => by
    obtain ⟨cs, t, fr, e, h1, _⟩ := hG _ hk
    exact own_neQ h.seen e h1 rfl, fun hk => by
    obtain ⟨cs, t, fr, e, h1, _⟩ := hG _ hk
    exact own_neQ h.stays e h1 rfl, by
    rcases h.waits with ⟨_, _, ad, e⟩ | hw
    · exact .inl ⟨ad, e⟩
    · refine .inr fun g hg hk => ?_
      obtain ⟨cs, t, fr, e, _, h2⟩ := hG _ hk
      rcases grow_neQ (.inr hw) e h2 with ⟨ad, e'⟩ | h'
      · subst e'
        rcases hw.2 with ⟨e0, _⟩ | ⟨g', cap, cur, e0, hl, hg', _⟩
        · cases e0
        · simp only [Value.slice.injEq, Option.some.injEq] at e0
          obtain ⟨rfl, -, -⟩ := e0
          obtain rfl : g' = g := by simpa [Value.ownBlock] using hg
          rw [e] at hg'
          simp only [Option.some.injEq, Obj.cells.injEq] at hg'
          exact h2 hg'.2.1
      · exact h' g hg rfl⟩
/-- It keeps through changes that another reading of it is apart from. -/
theorem RefV.turn2 {W W' : World} {F G : Nat → Prop} {S T n cS cT : Nat} {q : Value} {d : Dv} (h : RefV W F S T n cS cT q d) (h' : RefV W G S T n cS cT q d) (ht : Turn G W W') : RefV W' F S T n cS cT q d :=
  ⟨h.ok, h.pos, h.most, (h'.turn ht).seen, (h'.turn ht).stays, (h'.turn ht).waits, h.outS, h.outT, h.outQ⟩
theorem Dv.same_comm (d d' : Dv) : d.same d' = d'.same d := by
  rw [Bool.eq_iff_iff, Dv.same_iff, Dv.same_iff]
  constructor <;> rintro ⟨h1, h2, h3⟩ <;> exact ⟨h1.symm, h2.symm, h3.symm⟩
/-- In the rounds of what waits, in the law of copies. -/
def CopI (w : World) (many : Int) (nb s r : Nat) (o : Obj) (pre : List Nat) (q : Nat → Prop) (W : World) : Prop :=
  IsI w nb s r o pre q W ∧ (pre.length = 0 ∨ (pre.length : Int) < many)
theorem abides_cop (w : World) (many : Int) (nb s r : Nat) (o : Obj) : Abides (CopI w many nb s r o) := Abides.and (abides_is _ _ _ _ _) (Abides.pure (fun pre : List Nat => pre.length = 0 ∨ (pre.length : Int) < many))
/-- Where the rounds are left. -/
def CopX (w : World) (many : Int) (nb s r : Nat) (o : Obj) (cd : Code) (pre : List Nat) (q : Nat → Prop) (W : World) : Prop :=
  (cd = .exit 2 ∧ 1 ≤ pre.length ∧ many ≤ (pre.length : Int) ∧ (pre.length = 1 ∨ (pre.length : Int) ≤ many)) ∧ IsI w nb s r o pre q W
theorem abides_copx (w : World) (many : Int) (nb s r : Nat) (o : Obj) (cd : Code) : Abides (CopX w many nb s r o cd) := Abides.and (Abides.pure (fun pre : List Nat => cd = .exit 2 ∧ 1 ≤ pre.length ∧ many ≤ (pre.length : Int) ∧ (pre.length = 1 ∨ (pre.length : Int) ≤ many))) (abides_is _ _ _ _ _)
end Go.Proofs.YtohdgjmmekgcmaaDoor
