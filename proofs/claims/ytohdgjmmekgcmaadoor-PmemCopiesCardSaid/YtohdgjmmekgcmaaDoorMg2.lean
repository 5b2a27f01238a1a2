/-
  Texts WordC to Mark, as one.
-/
import Derived.Test.YtohdgjmmekgcmaaDoorMg1
import Derived.WalkLawsBesides
import Derived.Sort.QuietIn
import Derived.Maps.AppendAt
import Derived.Scope
import Derived.RangeFuncWrites
import Derived.RangeFuncNested
import Derived.RangeFuncLeaves
import Derived.ControlIn
import Derived.WalkMore
/-
  Contracts of slices.Chunk at bytes.
-/
namespace Go.Proofs.YtohdgjmmekgcmaaDoor
open Go.RowKit Go.Shelf
attribute [local go_sem] Oper.semAt_some
/-- The slice value v holds the numbers xs of kind k. -/
def Sl (W : World) (k : IntKind) (v : Value) (xs : List Nat) : Prop :=
  ∃ (a : Option Addr) (cap : Nat), v = .slice a xs.length cap ∧ xs.length ≤ cap ∧ (0 < xs.length → ∃ b off, a = some ⟨b, off, none⟩ ∧ b < W.heap.size ∧ ∀ j, j < xs.length → W.cell? ⟨b, off + j, none⟩ = some (.int k ((xs[j]?.getD 0 : Nat) : Int)))
theorem Sl.below {W W' : World} {k : IntKind} {v : Value} {xs : List Nat} (h : Sl W k v xs) (hb : Below W.heap.size W W') : Sl W' k v xs := by
  obtain ⟨a, cap, hv, hl, hc⟩ := h
  refine ⟨a, cap, hv, hl, fun h0 => ?_⟩
  obtain ⟨b, off, ha, hlt, hj⟩ := hc h0
  exact ⟨b, off, ha, Nat.lt_of_lt_of_le hlt hb.size, fun j hl => (hb.cell (p := ⟨b, off + j, none⟩) hlt).trans (hj j hl)⟩
/-- What an iterator over chunks needs: its two boxes. -/
def ChunkBlocks (Bs : Nat) (k : Nat) : Prop := k = Bs ∨ k = Bs + 1
theorem grownBy_drewN (W : World) (n : Nat) : W.grownBy (W.drewN n) none := ⟨rfl, rfl, rfl, Nat.le_refl _, fun _ _ _ => rfl⟩
theorem take_finRange (m k : Nat) (h : k < m) : (List.finRange m).take k ++ [⟨k, h⟩] = (List.finRange m).take (k + 1) := by
  rw [List.take_succ_eq_append_getElem (by simpa using h)]; simp
end Go.Proofs.YtohdgjmmekgcmaaDoor

/-
  Contracts of word's joined and of the fold over bytes.
-/
namespace Go.Proofs.YtohdgjmmekgcmaaDoor
open Go.RowKit Go.Shelf

theorem or_int (x a k : Nat) (hx : x < 18446744073709551616) : bits .or .u64 (x : Int) (IntKind.u64.wrap ((a : Int) * 2 ^ k)) = ((x ||| (a * 2 ^ k % 18446744073709551616) : Nat) : Int) := by
  rw [WM.shl_int, u64_or_nat _ _ hx (Nat.mod_lt _ (by decide))]
end Go.Proofs.YtohdgjmmekgcmaaDoor

/-
  The contract of word.Words.
-/
namespace Go.Proofs.YtohdgjmmekgcmaaDoor
open Go.RowKit Go.Shelf
attribute [local go_sem] Oper.semAt_some

theorem stepIn_append_own {F : Fence} {fn : Nat} {P : Program} (w : World) {ops : Array Oper} {o : Oper} {a : Act} {K : Act → World → Prop} {Q : Exit → Act → World → Prop} {E : Prop}
    (hg : o.guard = none) (s x : Operand) (t : TypeId) (hop : o.op = Op.call { callee := Callee.builtin Builtin.append, args := #[s, x], argTypes := #[t, t] })
    (base : Nat) (e : TypeId) (i : TypeInfo) (z : Value) (size bytes : Nat) (h1 : P.underlying t = some (.slice e)) (h2 : P.info? e = some i) (h3 : i.zero = some z) (h4 : i.size = size) (h5 : i.bytes = bytes) (h6 : z.cells.size = size) (h7 : 0 < size)
    (v : Value) (k : Nat) (xs : List Value) (hs : a.eval s = v) (hown : w.ownsRow base e size v k xs) (ad : Addr) (m c : Nat) (news : List Value) (hx : a.eval x = .slice (some ad) m c) (hn : news.length = m * size)
    (hc : ∀ j u, news[j]? = some u → w.cell? (ad.add j) = some u) (h1c : ∀ u ∈ news, u.oneCell' = true) (b1 : k + m ≤ maxLen) (b2 : (k + m) * bytes ≤ 140737488355328) (b3 : base ≤ w.heap.size)
    (hK : ∀ v' w', w'.ownsRow base e size v' (k + m) (xs ++ news) → w.grownBy w' v.ownBlock → (v' = .slice none 0 0 ↔ v = .slice none 0 0 ∧ m = 0) → K (a.put o.dst v') w') :
    if Region.wanted o (yielded ops a.tmps) = true then Oper.wpIn F fn P o a w K Q else E := by
  have hw : Region.wanted o (yielded ops a.tmps) = true := by simp [Region.wanted, hg]
  rw [if_pos hw]
  obtain ⟨v', w', hrun, r1, r2, r3⟩ := run_append_own (P := P) w base t o.type e i z size bytes h1 h2 h3 h4 h5 h6 h7 v k xs hown ad m c news hn hc h1c b1 b2 b3
  unfold Oper.wpIn
  refine ⟨?_, ?_⟩
  · simp [Oper.about, hop, resolve, Target.leads, Sem.run_pure]
  · rw [Oper.semAt_plain F _ _ (by rw [hop]; intro c hc'; cases hc')]
    simp [execOp, hop, resolve, invoke, builtin, hs, hx, hrun, Result.andThen]
    exact hK v' w' r1 r2 r3

theorem infoU64 : (Tryd.prog.info? 23).map (fun i => (i.zero, i.size, i.bytes)) = some (some (.int .u64 0), 1, 8) := by kernel_rfl
theorem finRange_map (n : Nat) (f : Nat → Value) : (List.finRange n).map (fun y => f y.1) = (List.range n).map f := by
  apply List.ext_getElem
  · simp
  · intro i h1 h2; simp
theorem keepsOthers_of_below {W W' : World} (h : Below W.heap.size W W') : KeepsOthers W W' :=
  ⟨h.size, fun k _ hk _ => (h.block k (Array.getElem?_eq_some_iff.1 hk).1).trans hk⟩
theorem boxed_below {W W' : World} {B n₀ : Nat} {t : TypeId} {v : Value} (h : Boxed W B t v) (hb : Below n₀ W W') (hB : B < n₀) : Boxed W' B t v := (hb.block B hB).trans h
theorem ownsRow_below {W W' : World} {base : Nat} {e : TypeId} {size : Nat} {v : Value} {n : Nat} {xs : List Value} (h : W.ownsRow base e size v n xs) (hb : Below W.heap.size W W') : W'.ownsRow base e size v n xs :=
  h.kept (row := none) ⟨hb.os, hb.tape, hb.output, hb.size, fun k hk _ => hb.block k hk⟩ (by
    rcases h.2 with ⟨rfl, _⟩ | ⟨g, cap, cur, rfl, _⟩
    · exact .inl rfl
    · exact .inr (by simp [Value.ownBlock]))
/-- A box of another type is not touched by an append and the store of the new slice. -/
theorem boxTail {W w4 w5 : World} {B B' n₀ : Nat} {t' e : TypeId} {size k : Nat} {v v' u' : Value} {xs : List Value} {tmp : Obj} (_ : Below W.heap.size W w4) (hr : w4.ownsRow n₀ e size v k xs) (hg : (w4.alloc tmp).grownBy w5 v.ownBlock)
    (hS : Boxed w4 B' t' u') (hte : t' ≠ e) (hne : B' ≠ B) : Boxed (w5.setCell ⟨B, 0, none⟩ v') B' t' u' := by
  have h1 : Boxed w5 B' t' u' := (hS.alloc tmp).kept hg (hS.not_row hte hr)
  exact h1.other hne v'
theorem keepsTail {W w4 w5 : World} {B Bs n₀ : Nat} {t1 t2 e : TypeId} {size k : Nat} {v v' u1 u2 : Value} {xs : List Value} {tmp : Obj} (hb : Below W.heap.size W w4) (hr : w4.ownsRow n₀ e size v k xs) (hg : (w4.alloc tmp).grownBy w5 v.ownBlock)
    (h1 : Boxed w4 Bs t1 u1) (h2 : Boxed w4 (Bs + 1) t2 u2) (he1 : t1 ≠ e) (he2 : t2 ≠ e) (hn1 : Bs ≠ B) (hn2 : Bs + 1 ≠ B) : Keeps (ChunkBlocks Bs) W (w5.setCell ⟨B, 0, none⟩ v') := by
  have s1 : w4.heap.size ≤ w5.heap.size := by have := hg.size; simp at this; omega
  have s2 : (w5.setCell ⟨B, 0, none⟩ v').heap.size = w5.heap.size := by simp [World.setCell]
  refine ⟨by have := hb.size; omega, fun j hj hl => ?_⟩
  rw [← hb.block j hl]
  rcases hj with rfl | rfl
  · exact (boxTail hb hr hg h1 he1 hn1).trans h1.symm
  · exact (boxTail hb hr hg h2 he2 hn2).trans h2.symm
end Go.Proofs.YtohdgjmmekgcmaaDoor

/-
  Contracts of waterlineref01.Same, and of what owns a row as a slice of numbers.
-/
namespace Go.Proofs.YtohdgjmmekgcmaaDoor
open Go.RowKit Go.Shelf

theorem sl_of_owns {W : World} {base : Nat} {e : TypeId} {v : Value} {xs : List Nat} {k : IntKind} (h : W.ownsRow base e 1 v xs.length (xs.map fun y : Nat => Value.int k (y : Nat))) : Sl W k v xs := by
  rcases h.2 with ⟨rfl, h0⟩ | ⟨g, cap, cur, rfl, hb, hg, hc, _⟩
  · exact ⟨none, 0, by rw [h0], by omega, fun h1 => by omega⟩
  · refine ⟨some ⟨g, 0, none⟩, cap, rfl, hc, fun _ => ⟨g, 0, rfl, (Array.getElem?_eq_some_iff.1 hg).1, fun j hj => ?_⟩⟩
    rw [Nat.zero_add, World.ownsRow.cellAt h j (by omega), List.getElem?_map, List.getElem?_eq_getElem hj]
    rfl
theorem Sl.cell {W : World} {k : IntKind} {v : Value} {xs : List Nat} (h : Sl W k v xs) : ∃ (a : Option Addr) (cap b off : Nat), v = .slice a xs.length cap ∧ xs.length ≤ cap ∧ (0 < xs.length → a = some ⟨b, off, none⟩) ∧ (0 < xs.length → b < W.heap.size ∧ ∀ j, j < xs.length → W.cell? ⟨b, off + j, none⟩ = some (.int k ((xs[j]?.getD 0 : Nat) : Int))) := by
  obtain ⟨a, cap, hv, hl, hc⟩ := h
  rcases Nat.eq_zero_or_pos xs.length with h0 | h0
  · exact ⟨a, cap, 0, 0, hv, hl, fun h => by omega, fun h => by omega⟩
  · obtain ⟨b, off, h1, h2, h3⟩ := hc h0
    exact ⟨a, cap, b, off, hv, hl, fun _ => h1, fun _ => ⟨h2, h3⟩⟩
theorem ne_of_at (xs ys : List Nat) (k : Nat) (h : xs[k]?.getD 0 ≠ ys[k]?.getD 0) : decide (xs = ys) = false := decide_eq_false fun e => h (by rw [e])
theorem eq_of_at (xs ys : List Nat) (hl : xs.length = ys.length) (h : ∀ j, j < xs.length → xs[j]?.getD 0 = ys[j]?.getD 0) : decide (xs = ys) = true := decide_eq_true (WM.list_ext xs ys hl h)
end Go.Proofs.YtohdgjmmekgcmaaDoor

/-
  A scope with one label, to which the run jumps forward.
-/
namespace Go.Proofs.YtohdgjmmekgcmaaDoor
open Go.RowKit

section
variable {P : Program} {a : Act} {w : World} {Q : Exit → Act → World → Prop}
theorem Exit.jump_normal {l : Nat} {J : Act → World → Prop} : Exit.jump l J Q .normal a w = Q .normal a w := rfl
theorem Exit.jump_ret {l : Nat} {J : Act → World → Prop} : Exit.jump l J Q .ret a w = Q .ret a w := rfl
/-- A scope with one label, to which the run jumps forward. -/
theorem wp_scope_forward {c rest : Code} (l : Nat) (hf : findLabel c l = some rest)
    (first : c.wp P (Exit.jump l (fun a w => rest.wp P (Exit.jump l (fun _ _ => False) Q) a w) Q) a w) : (Code.scope c).wp P Q a w :=
  wp_scope_jumps l (fun a w => rest.wp P (Exit.jump l (fun _ _ => False) Q) a w) (fun _ _ => 0) hf first
    fun a w h => wp_mono h fun e a' w' h' => by
      cases e <;> first | exact h' | exact h'.2.elim
end
end Go.Proofs.YtohdgjmmekgcmaaDoor

/-
  Contracts of place.Distance, Address, Move, At.
-/
namespace Go.Proofs.YtohdgjmmekgcmaaDoor
open Go.RowKit

theorem slM1 {W w1 : World} {t : TypeId} {l v : Int} {c B : Nat} (hc : 1 ≤ c) (hB : B = W.heap.size) (hb : Below (B + 1) (W.alloc (.cells #[.int .i64 l, .int .i64 v] t)) w1) : SlM w1 (.slice (some ⟨B, 0, none⟩) 1 c) [(l, v)] := by
  subst hB
  obtain ⟨h1, h2, -, -⟩ := pair_new hb
  refine ⟨W.heap.size, 0, c, rfl, hc, Nat.lt_of_lt_of_le (by simp) hb.size, fun j hj => ?_⟩
  obtain rfl : j = 0 := by simp at hj; omega
  exact ⟨h1, h2⟩
theorem slM2 {W w1 : World} {t : TypeId} {l v l2 v2 : Int} {c B : Nat} (hc : 2 ≤ c) (hB : B = W.heap.size) (hb : Below (B + 1) (W.alloc (.cells #[.int .i64 l, .int .i64 v, .int .i64 l2, .int .i64 v2] t)) w1) : SlM w1 (.slice (some ⟨B, 0, none⟩) 2 c) [(l, v), (l2, v2)] := by
  subst hB
  have h : ∀ o, w1.cell? ⟨W.heap.size, o, none⟩ = (W.alloc (.cells #[.int .i64 l, .int .i64 v, .int .i64 l2, .int .i64 v2] t)).cell? ⟨W.heap.size, o, none⟩ := fun o => hb.cell (p := ⟨W.heap.size, o, none⟩) (Nat.lt_succ_self _)
  refine ⟨W.heap.size, 0, c, rfl, hc, Nat.lt_of_lt_of_le (by simp) hb.size, fun j hj => ?_⟩
  have hj' : j = 0 ∨ j = 1 := by simp at hj; omega
  rcases hj' with rfl | rfl <;> refine ⟨?_, ?_⟩ <;> rw [h] <;> simp [go_sem]
/-- Two cells stored to, and a new block, behind a call: what they hold, and what others hold. -/
theorem two_set {W w3 : World} {B : Nat} {x y a b : Value} {o : Obj} (h0 : W.cell? ⟨B, 0, none⟩ = some a) (h1 : W.cell? ⟨B, 1, none⟩ = some b) (hB : B < W.heap.size)
    (hb : Below W.heap.size (((W.setCell ⟨B, 0, none⟩ x).setCell ⟨B, 1, none⟩ y).alloc o) w3) :
    w3.cell? ⟨B, 0, none⟩ = some x ∧ w3.cell? ⟨B, 1, none⟩ = some y ∧ ∀ A k, A ≠ B → A < W.heap.size → w3.cell? ⟨A, k, none⟩ = W.cell? ⟨A, k, none⟩ ∧ w3.frozen? ⟨A, k, none⟩ = W.frozen? ⟨A, k, none⟩ := by
  have ha : Below W.heap.size ((W.setCell ⟨B, 0, none⟩ x).setCell ⟨B, 1, none⟩ y) w3 := ((Below.refl _ _).alloc (by simp) _).trans hb
  refine ⟨?_, ?_, fun A k hA hl => ⟨?_, ?_⟩⟩
  · rw [ha.cell (p := ⟨B, 0, none⟩) hB, World.cell?_setCell_other _ ⟨B, 1, none⟩ ⟨B, 0, none⟩ _ (by simp)]
    exact World.cell?_setCell_same' _ _ _ (by rw [h0]; rfl)
  · rw [ha.cell (p := ⟨B, 1, none⟩) hB]
    exact World.cell?_setCell_same' _ _ _ (by rw [World.cell?_setCell_other _ ⟨B, 0, none⟩ ⟨B, 1, none⟩ _ (by simp), h1]; rfl)
  · rw [ha.cell (p := ⟨A, k, none⟩) hl, World.cell?_setCell_far _ _ _ _ (Ne.symm hA), World.cell?_setCell_far _ _ _ _ (Ne.symm hA)]
  · rw [ha.frozen (p := ⟨A, k, none⟩) hl, World.frozen?_setCell, World.frozen?_setCell]
theorem okP_iff {l v : Int} : okP l v = true ↔ 0 ≤ l ∧ l < 1024 ∧ 0 ≤ v ∧ v < 8 := decide_eq_true_iff
def distN (l v l2 v2 : Int) : Int := if okP l v && okP l2 v2 then (8 * l2 + v2) - (8 * l + v) else 0
def distE (l v l2 v2 : Int) : Int := if okP l v && okP l2 v2 then 0 else 2
def distOut (l v l2 v2 : Int) : Value := .tuple #[.int .i64 (distN l v l2 v2), .int .i64 (distE l v l2 v2)]
/-- Where a place is, so far behind: the address; what Move answers. -/
def moveOk (l v b : Int) : Bool := okP l v && decide (0 ≤ 8 * l + v + b ∧ 8 * l + v + b < 8192)
def moveL (l v b : Int) : Int := if moveOk l v b then (8 * l + v + b) / 8 else 0
def moveV (l v b : Int) : Int := if moveOk l v b then (8 * l + v + b) % 8 else 0
def moveE (l v b : Int) : Int := if okP l v then (if moveOk l v b then 0 else 4) else 2
def moveOut (l v b : Int) : Value := .tuple #[.agg #[.int .i64 (moveL l v b), .int .i64 (moveV l v b)], .int .i64 (moveE l v b)]
theorem move_no (l v b : Int) (hok : okP l v = false) (w : World) (ht : Ends w) :
    Calls Tryd.prog 104 #[.agg #[.int .i64 l, .int .i64 v], .int .i64 b] w fun e w' => e = .returned (moveOut l v b) ∧ Below w.heap.size w w' := by
  have hz := ht.room
  have HT := Lib.hid ht; clear ht
  have HO := Lib.hid (show moveOut l v b = .tuple #[.agg #[.int .i64 0, .int .i64 0], .int .i64 2] by unfold moveOut moveL moveV moveE moveOk; rw [hok]; rfl)
  have HK := Lib.hid (show okAll [(l, v)] = false by unfold okAll; rw [List.all_cons, hok]; rfl)
  clear hok
  go_enter Tryd.func104, Tryd.ntmps104
  go_wp2_with fail
  refine wp_scope_forward 0 rfl ?_
  go_wp2_with fail
  refine (stand_any _ [(l, v)] (by show 1 ≤ 2; decide) _ (HT.out.below (B := w.heap.size) (by repeat (first | exact Below.refl _ _ | assumption | refine Below.drew ?_ | refine below_drewN ?_ _ | refine Below.alloc ?_ (by (try simp) <;> omega) _ | refine Below.setCell ?_ (by (try simp) <;> omega) _ | refine Below.trans ?_ (Below.mono (by assumption) (by (try simp) <;> omega)))) hz) (slM1 (by decide) (by simp) (Below.refl _ _))).mono ?_
  rintro e w1 ⟨rfl, hb1⟩
  have z1 := hb1.size; try simp at z1
  obtain ⟨hc1, hf1⟩ := bcell hb1
  rw [HK.out]
  go_wp2_with fail
  go_step3
  refine ⟨rfl, ?_⟩
  go_wp2
  rw [Exit.jump_ret]
  obtain ⟨hp1, hp2, -, -⟩ := pair_new (W := w.alloc (.cells #[.int .i64 l, .int .i64 v] 121)) (t := 121) (a := .int .i64 0) (b := .int .i64 0) (w1 := w1) (by repeat (first | exact Below.refl _ _ | assumption | refine Below.drew ?_ | refine below_drewN ?_ _ | refine Below.alloc ?_ (by (try simp) <;> omega) _ | refine Below.setCell ?_ (by (try simp) <;> omega) _ | refine Below.trans ?_ (Below.mono (by assumption) (by (try simp) <;> omega))))
  simp only [World.size_alloc] at hp1 hp2
  refine bodyPost_ret (v := moveOut l v b) (by rw [HO.out]; simp [results, Tryd.results104, go_sem, World.cell?_setCell_same', hp1, hp2]) rfl ⟨rfl, (by repeat (first | exact Below.refl _ _ | assumption | refine Below.drew ?_ | refine below_drewN ?_ _ | refine Below.alloc ?_ (by (try simp) <;> omega) _ | refine Below.setCell ?_ (by (try simp) <;> omega) _ | refine Below.trans ?_ (Below.mono (by assumption) (by (try simp) <;> omega))))⟩
theorem move_far (l v b : Int) (hok : okP l v = true) (hb : b ≤ -8192 ∨ 8192 ≤ b) (w : World) (ht : Ends w) :
    Calls Tryd.prog 104 #[.agg #[.int .i64 l, .int .i64 v], .int .i64 b] w fun e w' => e = .returned (moveOut l v b) ∧ Below w.heap.size w w' := by
  have hz := ht.room
  have HT := Lib.hid ht; clear ht
  have o1 := okP_iff.1 hok
  have HO := Lib.hid (show moveOut l v b = .tuple #[.agg #[.int .i64 0, .int .i64 0], .int .i64 4] by
    unfold moveOut moveL moveV moveE moveOk; rw [hok, decide_eq_false (by omega)]; rfl)
  have HK := Lib.hid (show okAll [(l, v)] = true by unfold okAll; rw [List.all_cons, hok]; rfl)
  clear hok o1
  go_enter Tryd.func104, Tryd.ntmps104
  go_wp2_with fail
  refine wp_scope_forward 0 rfl ?_
  go_wp2_with fail
  refine (stand_any _ [(l, v)] (by show 1 ≤ 2; decide) _ (HT.out.below (B := w.heap.size) (by repeat (first | exact Below.refl _ _ | assumption | refine Below.drew ?_ | refine below_drewN ?_ _ | refine Below.alloc ?_ (by (try simp) <;> omega) _ | refine Below.setCell ?_ (by (try simp) <;> omega) _ | refine Below.trans ?_ (Below.mono (by assumption) (by (try simp) <;> omega)))) hz) (slM1 (by decide) (by simp) (Below.refl _ _))).mono ?_
  rintro e w1 ⟨rfl, hb1⟩
  have z1 := hb1.size; try simp at z1
  obtain ⟨hc1, hf1⟩ := bcell hb1
  rw [HK.out]
  obtain ⟨hp1, hp2, -, -⟩ := pair_new (W := w.alloc (.cells #[.int .i64 l, .int .i64 v] 121)) (t := 121) (a := .int .i64 0) (b := .int .i64 0) (w1 := w1) (by repeat (first | exact Below.refl _ _ | assumption | refine Below.drew ?_ | refine below_drewN ?_ _ | refine Below.alloc ?_ (by (try simp) <;> omega) _ | refine Below.setCell ?_ (by (try simp) <;> omega) _ | refine Below.trans ?_ (Below.mono (by assumption) (by (try simp) <;> omega))))
  simp only [World.size_alloc] at hp1 hp2
  rcases hb with hb | hb
  · go_wp2_with fail
    go_step3
    refine ⟨rfl, ?_⟩
    go_wp2
    rw [Exit.jump_ret]
    refine bodyPost_ret (v := moveOut l v b) (by rw [HO.out]; simp [results, Tryd.results104, go_sem, World.cell?_setCell_same', hp1, hp2]) rfl ⟨rfl, (by repeat (first | exact Below.refl _ _ | assumption | refine Below.drew ?_ | refine below_drewN ?_ _ | refine Below.alloc ?_ (by (try simp) <;> omega) _ | refine Below.setCell ?_ (by (try simp) <;> omega) _ | refine Below.trans ?_ (Below.mono (by assumption) (by (try simp) <;> omega))))⟩
  · have hb' : ¬ b ≤ -8192 := by omega
    go_wp2_with fail
    go_step3
    refine ⟨rfl, ?_⟩
    go_wp2
    rw [Exit.jump_ret]
    refine bodyPost_ret (v := moveOut l v b) (by rw [HO.out]; simp [results, Tryd.results104, go_sem, World.cell?_setCell_same', hp1, hp2]) rfl ⟨rfl, (by repeat (first | exact Below.refl _ _ | assumption | refine Below.drew ?_ | refine below_drewN ?_ _ | refine Below.alloc ?_ (by (try simp) <;> omega) _ | refine Below.setCell ?_ (by (try simp) <;> omega) _ | refine Below.trans ?_ (Below.mono (by assumption) (by (try simp) <;> omega))))⟩
set_option maxHeartbeats 1000000 in
theorem move_near (l v b : Int) (hok : okP l v = true) (hb1 : -8192 < b) (hb2 : b < 8192) (w : World) (ht : Ends w) :
    Calls Tryd.prog 104 #[.agg #[.int .i64 l, .int .i64 v], .int .i64 b] w fun e w' => e = .returned (moveOut l v b) ∧ Below w.heap.size w w' := by
  have hz := ht.room
  have HT := Lib.hid ht; clear ht
  have o1 := okP_iff.1 hok
  have HON := Lib.hid (on_any l v b (by omega) (by omega) ⟨hb1, hb2⟩)
  have e1 : okP ((8 * l + v + b) / 8) ((8 * l + v + b) % 8) = decide (0 ≤ 8 * l + v + b ∧ 8 * l + v + b < 8192) := by unfold okP; rw [decide_eq_decide]; omega
  have HO : Hid (moveOut l v b = if okP ((8 * l + v + b) / 8) ((8 * l + v + b) % 8) then .tuple #[.agg #[.int .i64 ((8 * l + v + b) / 8), .int .i64 ((8 * l + v + b) % 8)], .int .i64 0] else .tuple #[.agg #[.int .i64 0, .int .i64 0], .int .i64 4]) := by
    show _ = _
    unfold moveOut moveL moveV moveE moveOk; rw [hok, e1, Bool.true_and]
    cases decide (0 ≤ 8 * l + v + b ∧ 8 * l + v + b < 8192) <;> rfl
  have HK := Lib.hid (show okAll [(l, v)] = true by unfold okAll; rw [List.all_cons, hok]; rfl)
  clear hok o1 e1
  generalize (8 * l + v + b) / 8 = x at *
  generalize (8 * l + v + b) % 8 = y at *
  have hb' : ¬ b ≤ -8192 := by omega
  have hb'' : ¬ 8192 ≤ b := by omega
  have HK2 := Lib.hid (show okAll [(x, y)] = okP x y by unfold okAll; rw [List.all_cons, List.all_nil, Bool.and_true])
  cases hxy : okP x y with
  | true =>
    rw [hxy] at HO HK2
    clear hxy
    go_enter Tryd.func104, Tryd.ntmps104
    go_wp2_with fail
    refine wp_scope_forward 0 rfl ?_
    go_wp2_with fail
    refine (stand_any _ [(l, v)] (by show 1 ≤ 2; decide) _ (HT.out.below (B := w.heap.size) (by repeat (first | exact Below.refl _ _ | assumption | refine Below.drew ?_ | refine below_drewN ?_ _ | refine Below.alloc ?_ (by (try simp) <;> omega) _ | refine Below.setCell ?_ (by (try simp) <;> omega) _ | refine Below.trans ?_ (Below.mono (by assumption) (by (try simp) <;> omega)))) hz) (slM1 (by decide) (by simp) (Below.refl _ _))).mono ?_
    rintro e w1 ⟨rfl, hb1⟩
    have z1 := hb1.size; try simp at z1
    rw [HK.out]
    obtain ⟨hp1, hp2, hp3, hp4⟩ := pair_new (W := w.alloc (.cells #[.int .i64 l, .int .i64 v] 121)) (t := 121) (a := .int .i64 0) (b := .int .i64 0) (w1 := w1) (by repeat (first | exact Below.refl _ _ | assumption | refine Below.drew ?_ | refine below_drewN ?_ _ | refine Below.alloc ?_ (by (try simp) <;> omega) _ | refine Below.setCell ?_ (by (try simp) <;> omega) _ | refine Below.trans ?_ (Below.mono (by assumption) (by (try simp) <;> omega))))
    obtain ⟨hq1, hq2, hq3, hq4⟩ := pair_new (W := (w.alloc (.cells #[.int .i64 l, .int .i64 v] 121)).alloc (.cells #[.int .i64 0, .int .i64 0] 121)) (t := 176) (a := .int .i64 l) (b := .int .i64 v) (w1 := w1) (by repeat (first | exact Below.refl _ _ | assumption | refine Below.drew ?_ | refine below_drewN ?_ _ | refine Below.alloc ?_ (by (try simp) <;> omega) _ | refine Below.setCell ?_ (by (try simp) <;> omega) _ | refine Below.trans ?_ (Below.mono (by assumption) (by (try simp) <;> omega))))
    simp only [World.size_alloc] at hp1 hp2 hp3 hp4 hq1 hq2 hq3 hq4
    have b1 : Below w.heap.size w w1 := (by repeat (first | exact Below.refl _ _ | assumption | refine Below.drew ?_ | refine below_drewN ?_ _ | refine Below.alloc ?_ (by (try simp) <;> omega) _ | refine Below.setCell ?_ (by (try simp) <;> omega) _ | refine Below.trans ?_ (Below.mono (by assumption) (by (try simp) <;> omega))))
    clear hb1
    go_wp2_with fail
    refine (HON.out _).mono ?_
    rintro e w2 ⟨rfl, hb2⟩
    have z2 := hb2.size
    obtain ⟨hc2, hf2⟩ := bcell hb2
    have b2 : Below w.heap.size w w2 := b1.trans (hb2.mono (by omega))
    rw [← hc2 _ _ (by omega)] at hp1 hp2 hq1 hq2
    rw [← hf2 _ _ (by omega)] at hp3 hp4 hq3 hq4
    clear hc2 hf2 hb2
    go_wp2_with fail
    refine (stand_any _ [(x, y)] (by show 1 ≤ 2; decide) _ (HT.out.below (B := w.heap.size) (by repeat (first | exact Below.refl _ _ | assumption | refine Below.drew ?_ | refine below_drewN ?_ _ | refine Below.alloc ?_ (by (try simp) <;> omega) _ | refine Below.setCell ?_ (by (try simp) <;> omega) _ | refine Below.trans ?_ (Below.mono (by assumption) (by (try simp) <;> omega)))) hz) (slM1 (by decide) (by simp) (Below.refl _ _))).mono ?_
    rintro e w3 ⟨rfl, hb3⟩
    have z3 := hb3.size; try simp at z3
    obtain ⟨r1, r2, ro⟩ := two_set hq1 hq2 (by omega) (hb3.mono (by simp))
    obtain ⟨r3, r5⟩ := ro (w.heap.size + 1) 0 (by omega) (by omega)
    obtain ⟨r4, r6⟩ := ro (w.heap.size + 1) 1 (by omega) (by omega)
    rw [hp1] at r3
    rw [hp2] at r4
    rw [hp3] at r5
    rw [hp4] at r6
    have b3 : Below w.heap.size w w3 := (by repeat (first | exact Below.refl _ _ | assumption | refine Below.drew ?_ | refine below_drewN ?_ _ | refine Below.alloc ?_ (by (try simp) <;> omega) _ | refine Below.setCell ?_ (by (try simp) <;> omega) _ | refine Below.trans ?_ (Below.mono (by assumption) (by (try simp) <;> omega))))
    clear ro hb3 hp1 hp2 hp3 hp4 hq1 hq2 hq3 hq4
    rw [HK2.out]
    go_wp2_with fail
    rw [Exit.jump_ret]
    refine bodyPost_ret (v := moveOut l v b) (by rw [HO.out]; simp [results, Tryd.results104, go_sem, World.cell?_setCell_same', r3, r4]) rfl ⟨rfl, (by repeat (first | exact Below.refl _ _ | assumption | refine Below.drew ?_ | refine below_drewN ?_ _ | refine Below.alloc ?_ (by (try simp) <;> omega) _ | refine Below.setCell ?_ (by (try simp) <;> omega) _ | refine Below.trans ?_ (Below.mono (by assumption) (by (try simp) <;> omega))))⟩
  | false =>
    rw [hxy] at HO HK2
    clear hxy
    go_enter Tryd.func104, Tryd.ntmps104
    go_wp2_with fail
    refine wp_scope_forward 0 rfl ?_
    go_wp2_with fail
    refine (stand_any _ [(l, v)] (by show 1 ≤ 2; decide) _ (HT.out.below (B := w.heap.size) (by repeat (first | exact Below.refl _ _ | assumption | refine Below.drew ?_ | refine below_drewN ?_ _ | refine Below.alloc ?_ (by (try simp) <;> omega) _ | refine Below.setCell ?_ (by (try simp) <;> omega) _ | refine Below.trans ?_ (Below.mono (by assumption) (by (try simp) <;> omega)))) hz) (slM1 (by decide) (by simp) (Below.refl _ _))).mono ?_
    rintro e w1 ⟨rfl, hb1⟩
    have z1 := hb1.size; try simp at z1
    rw [HK.out]
    obtain ⟨hp1, hp2, hp3, hp4⟩ := pair_new (W := w.alloc (.cells #[.int .i64 l, .int .i64 v] 121)) (t := 121) (a := .int .i64 0) (b := .int .i64 0) (w1 := w1) (by repeat (first | exact Below.refl _ _ | assumption | refine Below.drew ?_ | refine below_drewN ?_ _ | refine Below.alloc ?_ (by (try simp) <;> omega) _ | refine Below.setCell ?_ (by (try simp) <;> omega) _ | refine Below.trans ?_ (Below.mono (by assumption) (by (try simp) <;> omega))))
    obtain ⟨hq1, hq2, hq3, hq4⟩ := pair_new (W := (w.alloc (.cells #[.int .i64 l, .int .i64 v] 121)).alloc (.cells #[.int .i64 0, .int .i64 0] 121)) (t := 176) (a := .int .i64 l) (b := .int .i64 v) (w1 := w1) (by repeat (first | exact Below.refl _ _ | assumption | refine Below.drew ?_ | refine below_drewN ?_ _ | refine Below.alloc ?_ (by (try simp) <;> omega) _ | refine Below.setCell ?_ (by (try simp) <;> omega) _ | refine Below.trans ?_ (Below.mono (by assumption) (by (try simp) <;> omega))))
    simp only [World.size_alloc] at hp1 hp2 hp3 hp4 hq1 hq2 hq3 hq4
    have b1 : Below w.heap.size w w1 := (by repeat (first | exact Below.refl _ _ | assumption | refine Below.drew ?_ | refine below_drewN ?_ _ | refine Below.alloc ?_ (by (try simp) <;> omega) _ | refine Below.setCell ?_ (by (try simp) <;> omega) _ | refine Below.trans ?_ (Below.mono (by assumption) (by (try simp) <;> omega))))
    clear hb1
    go_wp2_with fail
    refine (HON.out _).mono ?_
    rintro e w2 ⟨rfl, hb2⟩
    have z2 := hb2.size
    obtain ⟨hc2, hf2⟩ := bcell hb2
    have b2 : Below w.heap.size w w2 := b1.trans (hb2.mono (by omega))
    rw [← hc2 _ _ (by omega)] at hp1 hp2 hq1 hq2
    rw [← hf2 _ _ (by omega)] at hp3 hp4 hq3 hq4
    clear hc2 hf2 hb2
    go_wp2_with fail
    refine (stand_any _ [(x, y)] (by show 1 ≤ 2; decide) _ (HT.out.below (B := w.heap.size) (by repeat (first | exact Below.refl _ _ | assumption | refine Below.drew ?_ | refine below_drewN ?_ _ | refine Below.alloc ?_ (by (try simp) <;> omega) _ | refine Below.setCell ?_ (by (try simp) <;> omega) _ | refine Below.trans ?_ (Below.mono (by assumption) (by (try simp) <;> omega)))) hz) (slM1 (by decide) (by simp) (Below.refl _ _))).mono ?_
    rintro e w3 ⟨rfl, hb3⟩
    have z3 := hb3.size; try simp at z3
    obtain ⟨r1, r2, ro⟩ := two_set hq1 hq2 (by omega) (hb3.mono (by simp))
    obtain ⟨r3, r5⟩ := ro (w.heap.size + 1) 0 (by omega) (by omega)
    obtain ⟨r4, r6⟩ := ro (w.heap.size + 1) 1 (by omega) (by omega)
    rw [hp1] at r3
    rw [hp2] at r4
    rw [hp3] at r5
    rw [hp4] at r6
    have b3 : Below w.heap.size w w3 := (by repeat (first | exact Below.refl _ _ | assumption | refine Below.drew ?_ | refine below_drewN ?_ _ | refine Below.alloc ?_ (by (try simp) <;> omega) _ | refine Below.setCell ?_ (by (try simp) <;> omega) _ | refine Below.trans ?_ (Below.mono (by assumption) (by (try simp) <;> omega))))
    clear ro hb3 hp1 hp2 hp3 hp4 hq1 hq2 hq3 hq4
    rw [HK2.out]
    go_wp2_with fail
    go_step3
    refine ⟨rfl, ?_⟩
    go_wp2
    rw [Exit.jump_ret]
    refine bodyPost_ret (v := moveOut l v b) (by rw [HO.out]; simp [results, Tryd.results104, go_sem, World.cell?_setCell_same', r3, r4]) rfl ⟨rfl, (by repeat (first | exact Below.refl _ _ | assumption | refine Below.drew ?_ | refine below_drewN ?_ _ | refine Below.alloc ?_ (by (try simp) <;> omega) _ | refine Below.setCell ?_ (by (try simp) <;> omega) _ | refine Below.trans ?_ (Below.mono (by assumption) (by (try simp) <;> omega))))⟩
theorem move_any (l v b : Int) (w : World) (ht : Ends w) :
    Calls Tryd.prog 104 #[.agg #[.int .i64 l, .int .i64 v], .int .i64 b] w fun e w' => e = .returned (moveOut l v b) ∧ Below w.heap.size w w' := by
  cases hok : okP l v with
  | false => exact move_no l v b hok w ht
  | true =>
    by_cases h1 : b ≤ -8192 ∨ 8192 ≤ b
    · exact move_far l v b hok h1 w ht
    · exact move_near l v b hok (by omega) (by omega) w ht
theorem at_any (n : Int) (w : World) (ht : Ends w) :
    Calls Tryd.prog 90 #[.int .i64 n] w fun e w' => e = .returned (moveOut 0 0 n) ∧ Below w.heap.size w w' := by
  have hz := ht.room
  have HD := Lib.hid (fun W (hb : Below w.heap.size w W) => move_any 0 0 n W (ht.below hb hz))
  clear ht
  go_enter Tryd.func90, Tryd.ntmps90
  go_wp2_with fail
  refine (HD.out _ (by repeat (first | exact Below.refl _ _ | assumption | refine Below.drew ?_ | refine below_drewN ?_ _ | refine Below.alloc ?_ (by (try simp) <;> omega) _ | refine Below.setCell ?_ (by (try simp) <;> omega) _ | refine Below.trans ?_ (Below.mono (by assumption) (by (try simp) <;> omega))))).mono ?_
  rintro e w1 ⟨rfl, hb1⟩
  have z1 := hb1.size; try simp at z1
  have HO := Lib.hid (show moveOut 0 0 n = .tuple #[.agg #[.int .i64 (moveL 0 0 n), .int .i64 (moveV 0 0 n)], .int .i64 (moveE 0 0 n)] from rfl)
  rw [HO.out]
  generalize moveL 0 0 n = x at *
  generalize moveV 0 0 n = y at *
  generalize moveE 0 0 n = z at *
  obtain ⟨hp1, hp2, hp3, hp4⟩ := pair_new (W := w) (t := 121) (a := .int .i64 0) (b := .int .i64 0) (w1 := w1) (by repeat (first | exact Below.refl _ _ | assumption | refine Below.drew ?_ | refine below_drewN ?_ _ | refine Below.alloc ?_ (by (try simp) <;> omega) _ | refine Below.setCell ?_ (by (try simp) <;> omega) _ | refine Below.trans ?_ (Below.mono (by assumption) (by (try simp) <;> omega))))
  go_wp2_with fail
  refine bodyPost_ret (v := .tuple #[.agg #[.int .i64 x, .int .i64 y], .int .i64 z]) (by simp [results, Tryd.results90, go_sem, World.cell?_setCell_same', hp1, hp2]) rfl ⟨by rw [HO.out], (by repeat (first | exact Below.refl _ _ | assumption | refine Below.drew ?_ | refine below_drewN ?_ _ | refine Below.alloc ?_ (by (try simp) <;> omega) _ | refine Below.setCell ?_ (by (try simp) <;> omega) _ | refine Below.trans ?_ (Below.mono (by assumption) (by (try simp) <;> omega))))⟩
end Go.Proofs.YtohdgjmmekgcmaaDoor

/-
  A range over an iterator that has cells, and loops, of its own. The iterator may turn whatever lies from its call on; the body of the loop keeps all of that, and what the iterator names below it.
-/
namespace Go.Proofs.YtohdgjmmekgcmaaDoor
open Go.RowKit Go.Shelf

/-- J does not mind what turns from block B on. -/
def Under {β : Type} (B : Nat) (J : β → World → Prop) : Prop := ∀ s W W', J s W → Below B W W' → J s W'
theorem Under.and {β : Type} {B : Nat} {I J : β → World → Prop} (h : Under B I) (k : Under B J) : Under B (fun s W => I s W ∧ J s W) := fun s W W' hs hb => ⟨h s W W' hs.1 hb, k s W W' hs.2 hb⟩
theorem Under.mono {β : Type} {B B' : Nat} {J : β → World → Prop} (h : Under B J) (hB : B ≤ B') : Under B' J := fun s W W' hs hb => h s W W' hs (hb.mono hB)
theorem Under.pure {β : Type} (B : Nat) (p : β → Prop) : Under B (fun s (_ : World) => p s) := fun _ _ _ hs _ => hs
theorem Under.imp {β : Type} {B : Nat} {I : β → World → Prop} (c : Prop) (h : Under B I) : Under B (fun s W => c → I s W) := fun s W W' hs hb hc => h s W W' (hs hc) hb
theorem Under.box {β : Type} {B A : Nat} {t : TypeId} (f : β → Value) (hA : A < B) : Under B (fun s W => Boxed W A t (f s)) := fun _ _ _ hs hb => (hb.block A hA).trans hs
theorem Under.below {β : Type} {B n₀ : Nat} {w₀ : World} (h : n₀ ≤ B) : Under B (fun (_ : β) W => Below n₀ w₀ W) := fun _ _ _ hs hb => hs.trans (hb.mono h)
theorem Keeps.weaken {p q : Nat → Prop} {A B : World} (h : Keeps p A B) (hq : ∀ k, q k → p k) : Keeps q A B := ⟨h.1, fun k hk hl => h.2 k (hq k hk) hl⟩
theorem keeps_putObj {q : Nat → Prop} (W : World) (l : Nat) (o : Obj) (hq : ¬ q l) : Keeps q W (W.putObj l o) := Keeps.of_grown (grownBy_putObj' W l o) (fun k e => by cases e; exact hq)
theorem below_putObj {B : Nat} (W : World) {l : Nat} (o : Obj) (hB : B ≤ l) (hl : l < W.heap.size) : Below B W (W.putObj l o) := (Below.refl _ _).grown (grownBy_putObj' W l o) (by omega) (fun k e => by cases e; exact hB)
/-- What an iterator promises: all of the elements come, or those up to the one at which it was told to stop. -/
def SeqP {α : Type} (p : Nat → Prop) (n : Nat) (P : Program) (g : Nat) (lb : Array Value) (encs : α → Array Value) (S Sp : List α → Prop) (w : World) : Prop :=
  ∀ (l : Nat) (J Jx : List α → World → Prop) (W : World), Below w.heap.size w W → Under W.heap.size J → Under W.heap.size Jx →
    (∀ pre x W1, J pre W1 → W.heap.size ≤ W1.heap.size → Sp (pre ++ [x]) → YieldAt Fence.wide (n - 1) P l (encs x) W1 fun e W' =>
      Keeps (fun k => p k ∨ W.heap.size ≤ k) W1 W' ∧ ((e = .returned (.bool true) ∧ J (pre ++ [x]) W') ∨ (e = .returned (.bool false) ∧ Jx (pre ++ [x]) W'))) →
    J [] W →
    CallsIn Fence.wide n P g (#[.func (.yield l) #[] #[]] ++ lb) W fun e W' => (∃ v, e = .returned v) ∧ ((∃ xs, S xs ∧ J xs W') ∨ (∃ pre, Sp pre ∧ Jx pre W'))
/-- How a round may end. -/
def postP {α : Type} (p : Nat → Prop) (B : Nat) (I : List α → World → Prop) (Ix : Code → List α → World → Prop) (xs : List α) (W : World) : Exit → Act → World → Prop
  | .normal, _, W' => Keeps (fun k => p k ∨ B ≤ k) W W' ∧ I xs W'
  | .ret, _, W' => Keeps (fun k => p k ∨ B ≤ k) W W' ∧ Ix .ret xs W'
  | .exit id, _, W' => Keeps (fun k => p k ∨ B ≤ k) W W' ∧ Ix (.exit id) xs W'
  | _, _, _ => False
theorem wpIn_range_P {α : Type} {n : Nat} {P : Program} {g : Operand} {ps : Array Tmp} {assign body : Code} {Q : Exit → Act → World → Prop} {a : Act} {w : World}
    (h1 : 1 ≤ n) {gf : Nat} {lb : Array Value} (hg : a.eval g = .func (.func gf) #[] lb) (eg : ∀ args w, (callFunc gf args).run P w = .ok (.enter gf args) w)
    {encs : α → Array Value} {p : Nat → Prop} {S Sp : List α → Prop} {w0 : World} (hseq : SeqP p (n - 1) P gf lb encs S Sp w0) (hp : ∀ k, p k → k < w.heap.size) (hb0 : Below w0.heap.size w0 w) (hps : ∀ x, (encs x).size = ps.size)
    (I : List α → World → Prop) (Ix : Code → List α → World → Prop) (hI : Under w.heap.size I) (hIx : ∀ c, Under w.heap.size (Ix c)) (h0 : I [] w) (a₁ : α → Act)
    (hassign : ∀ (l : Nat) (x : α) (W : World) (K : Act → World → Prop), K (a₁ x) W →
      assign.wpIn (Fence.wide.inRound l) (n - 1 - 1) P (Exit.then K (fun _ _ _ => False)) { tmps := (ps.zip (encs x)).foldl (fun t (p, v) => t.setIfInBounds p v) a.tmps, defers := [] } W)
    (hbody : ∀ (l : Nat) (pre : List α) (x : α) (W : World), I pre W → w.heap.size ≤ W.heap.size → Sp (pre ++ [x]) → body.wpIn (Fence.wide.inRound l) (n - 1 - 1) P (postP p w.heap.size I Ix (pre ++ [x]) W) (a₁ x) W)
    (hdone : ∀ (D : Nat) (xs : List α) (W : World), w.heap.size ≤ D → S xs → I xs W → W.heap[D]? = some (.deferred (some [])) → Q .normal { a with defers := { target := .collected D, args := #[] } :: a.defers } W)
    (hstop : ∀ (D : Nat) (c : Code) (pre : List α) (W : World), w.heap.size ≤ D → Sp pre → Ix c pre W → W.heap[D]? = some (.deferred (some [])) → c.wpIn Fence.wide n P Q { a with defers := { target := .collected D, args := #[] } :: a.defers } W) :
    (Code.rangeFunc g ps assign body).wpIn Fence.wide n P Q a w := by
  refine wpIn_rangeFunc fun fn hfn => ?_
  obtain ⟨rec, hrec⟩ : ∃ rec : LoopState → Option Code → Loop, rec = fun st pe => { state := st, pending := pe, fn, tmps := a.tmps, params := ps, assign, body, defers := w.heap.size } := ⟨_, rfl⟩
  have hst : ∀ st pe, (rec st pe).state = st := fun st pe => by rw [hrec]
  have hpen : ∀ st pe, (rec st pe).pending = pe := fun st pe => by rw [hrec]
  have hbusy : ∀ st pe, { rec st pe with state := .busy } = rec .busy pe := fun st pe => by rw [hrec]
  obtain ⟨W1, hW1⟩ : ∃ W1, (w.alloc (.deferred (some []))).alloc (.loop (rec .ready none)) = W1 := ⟨_, rfl⟩
  have hsz : W1.heap.size = w.heap.size + 2 := by rw [← hW1]; simp
  have hL1 : W1.heap[w.heap.size + 1]? = some (.loop (rec .ready none)) := by
    rw [← hW1]; have := World.alloc_heap_new (w.alloc (.deferred (some []))) (.loop (rec .ready none)); rwa [World.size_alloc] at this
  have hK1 : W1.heap[w.heap.size]? = some (.deferred (some [])) := by
    rw [← hW1]; exact (Below.heap_alloc _ _ _ (by simp)).trans (World.alloc_heap_new w _)
  have bW1 : Below w.heap.size w W1 := by rw [← hW1]; exact ((Below.refl _ _).alloc (Nat.le_refl _) _).alloc (by simp) _
  refine ⟨w.heap.size + 1, [{ target := .collected w.heap.size, args := #[] }], W1, { target := .fn (.func gf) lb, args := #[.func (.yield (w.heap.size + 1)) #[] #[]] }, W1, gf,
    #[.func (.yield (w.heap.size + 1)) #[] #[]] ++ lb, W1, ?_, ?_, fun _ _ => trivial, ?_, fun _ => h1, ?_⟩
  · rw [← hW1, hrec]; exact run_enterLoop_outer _ _ _ _ _
  · simp only [resolve, hg]
    simp [go_sem]
  · simp [invoke, go_sem, eg]
  · refine (hseq (w.heap.size + 1)
      (fun pre W => I pre W ∧ W.heap[w.heap.size + 1]? = some (.loop (rec .ready none)) ∧ W.heap[w.heap.size]? = some (.deferred (some [])))
      (fun pre W => ∃ c, Ix c pre W ∧ W.heap[w.heap.size + 1]? = some (.loop (rec .done (some c))) ∧ W.heap[w.heap.size]? = some (.deferred (some [])))
      W1 (hb0.trans (bW1.mono hb0.size))
      (fun s A C hs hb => ⟨hI s A C hs.1 (hb.mono (by omega)), (hb.block _ (by omega)).trans hs.2.1, (hb.block _ (by omega)).trans hs.2.2⟩)
      (fun s A C ⟨c, hc, hl, hk⟩ hb => ⟨c, hIx c s A C hc (hb.mono (by omega)), (hb.block _ (by omega)).trans hl, (hb.block _ (by omega)).trans hk⟩)
      ?_ ⟨hI [] w W1 h0 bW1, hL1, hK1⟩).mono ?_
    · rintro pre x W ⟨hi, hl, hk⟩ - hlen
      have hlt : w.heap.size + 1 < W.heap.size := (Array.getElem?_eq_some_iff.1 hl).1
      have hy := run_yield (P := P) (args := encs x) hl (by rw [hrec]; exact hps x)
      rw [hrec] at hy
      have hbr := run_beginRound (P := P) hl (hst _ _)
      rw [hbusy] at hbr
      obtain ⟨W2, hW2⟩ : ∃ W2, W.putObj (w.heap.size + 1) (.loop (rec .busy none)) = W2 := ⟨_, rfl⟩
      rw [hW2] at hbr
      have b2 : Below w.heap.size W W2 := by rw [← hW2]; exact below_putObj W _ (by omega) hlt
      have k2 : Keeps (fun k => p k ∨ W1.heap.size ≤ k) W W2 := by
        rw [← hW2]
        exact keeps_putObj W _ _ (fun h => h.elim (fun h => by have := hp _ h; omega) (fun h => by omega))
      have l2 : W2.heap[w.heap.size + 1]? = some (.loop (rec .busy none)) := by rw [← hW2]; exact World.putObj_heap_same hlt
      have d2 : W2.heap[w.heap.size]? = some (.deferred (some [])) := by rw [← hW2]; exact (World.putObj_heap_other (by omega)).trans hk
      refine ⟨fn, _, assign, body, hy, roundIn_of_wpIn hfn (hassign _ x W _ ⟨_, hbr, ?_⟩)⟩
      have hs2 : w.heap.size ≤ W2.heap.size := Nat.le_trans (by omega) b2.size
      refine wpIn_mono (hbody _ pre x W2 (hI pre W W2 hi b2) hs2 hlen) ?_
      have fin : ∀ (jump : Option Code) (W3 : World), Keeps (fun k => p k ∨ w.heap.size ≤ k) W2 W3 → ∃ W4,
          (Instr.endRound (w.heap.size + 1) jump).run P W3 = .ok (.bool jump.isNone) W4 ∧ Below w.heap.size W3 W4 ∧ Keeps (fun k => p k ∨ W1.heap.size ≤ k) W W4 ∧
          W4.heap[w.heap.size + 1]? = some (.loop (rec (if jump.isNone then .ready else .done) jump)) ∧ W4.heap[w.heap.size]? = some (.deferred (some [])) := fun jump W3 k3 => by
        have l3 : W3.heap[w.heap.size + 1]? = some (.loop (rec .busy none)) := (k3.2 _ (.inr (by omega)) (Array.getElem?_eq_some_iff.1 l2).1).trans l2
        have d3 : W3.heap[w.heap.size]? = some (.deferred (some [])) := (k3.2 _ (.inr (by omega)) (Array.getElem?_eq_some_iff.1 d2).1).trans d2
        have hl3 := (Array.getElem?_eq_some_iff.1 l3).1
        have he := run_endRound (P := P) jump l3
        rw [hrec] at he
        refine ⟨W3.putObj (w.heap.size + 1) (.loop (rec (if jump.isNone then .ready else .done) jump)), ?_, below_putObj W3 _ (by omega) hl3, ?_, World.putObj_heap_same hl3, (World.putObj_heap_other (by omega)).trans d3⟩
        · rw [hrec]; exact he
        · exact (k2.trans (k3.weaken fun k h => h.imp id fun h => by omega)).trans (keeps_putObj W3 _ _ (fun h => h.elim (fun h => by have := hp _ h; omega) (fun h => by omega)))
      rintro e a3 W3 hpost
      cases e with
      | normal =>
        obtain ⟨k3, hi3⟩ := hpost
        obtain ⟨W4, hr, b4, k4, l4, d4⟩ := fin none W3 k3
        exact ⟨_, _, hr, k4, .inl ⟨rfl, ⟨hI _ _ _ hi3 b4, l4, d4⟩⟩⟩
      | ret =>
        obtain ⟨k3, hi3⟩ := hpost
        obtain ⟨W4, hr, b4, k4, l4, d4⟩ := fin (some .ret) W3 k3
        exact ⟨_, _, hr, k4, .inr ⟨rfl, .ret, hIx _ _ _ _ hi3 b4, l4, d4⟩⟩
      | exit id =>
        obtain ⟨k3, hi3⟩ := hpost
        obtain ⟨W4, hr, b4, k4, l4, d4⟩ := fin (some (.exit id)) W3 k3
        exact ⟨_, _, hr, k4, .inr ⟨rfl, .exit id, hIx _ _ _ _ hi3 b4, l4, d4⟩⟩
      | goto t => exact hpost.elim
      | panic ch => exact hpost.elim
      | outgrown => exact hpost.elim
    · rintro e W2 ⟨⟨v, rfl⟩, (⟨xs, hS, hi, hl, hk⟩ | ⟨pre, hSp, c, hi, hl, hk⟩)⟩
      · have hlt := (Array.getElem?_eq_some_iff.1 hl).1
        have he := run_endLoop (P := P) hl (by rw [hst]; simp)
        rw [hpen] at he
        refine ⟨none, _, he, hdone _ xs _ (Nat.le_refl _) hS (hI _ _ _ hi (below_putObj W2 _ (by omega) hlt)) ((World.putObj_heap_other (by omega)).trans hk)⟩
      · have hlt := (Array.getElem?_eq_some_iff.1 hl).1
        have he := run_endLoop (P := P) hl (by rw [hst]; simp)
        rw [hpen] at he
        refine ⟨some c, _, he, hstop _ c pre _ (Nat.le_refl _) hSp (hIx c _ _ _ hi (below_putObj W2 _ (by omega) hlt)) ((World.putObj_heap_other (by omega)).trans hk)⟩
theorem keeps_box {p : Nat → Prop} {A : Nat} {t : TypeId} {v : Value} {W W' : World} (h : Boxed W A t v) (hk : Keeps p W W') (hA : p A) : Boxed W' A t v := (hk.2 A hA h.lt).trans h
theorem fin_prefix {m : Nat} {pre : List (Fin m)} {x : Fin m} (h : pre ++ [x] <+: List.finRange m) : x.1 = pre.length := by
  have h1 := h.getElem (i := pre.length) (by simp)
  simp at h1
  rw [h1]
theorem fin_all {m : Nat} : (List.finRange m).length = m := by simp
end Go.Proofs.YtohdgjmmekgcmaaDoor

/-
  A function that ranges over functions in a loop leaves with a list of marks among its deferred calls: they are taken one by one.
-/
namespace Go.Proofs.YtohdgjmmekgcmaaDoor
open Go.RowKit Go.Shelf

/-- Nothing but blocks of book-keeping from B on has turned. -/
def Shut (B : Nat) (W W' : World) : Prop := Below B W W' ∧ ∀ (k : Nat) c t f, W.heap[k]? = some (Obj.cells c t f) → W'.heap[k]? = some (Obj.cells c t f)
theorem Shut.refl (B : Nat) (W : World) : Shut B W W := ⟨Below.refl _ _, fun _ _ _ _ h => h⟩
theorem Shut.trans {B : Nat} {A C D : World} (h : Shut B A C) (k : Shut B C D) : Shut B A D := ⟨h.1.trans k.1, fun i c t f hi => k.2 i c t f (h.2 i c t f hi)⟩
theorem Shut.putObj {B : Nat} (W : World) {D : Nat} {o o' : Obj} (hB : B ≤ D) (h : W.heap[D]? = some o) (hc : o.isCells = false) (hw : o.isWalk = false) : Shut B W (W.putObj D o') := by
  refine ⟨(Below.refl _ _).grown (grownBy_putObj' W D o') ?_ (fun k e => by cases e; exact hB), fun k c t f hk => ?_⟩
  · have := (Array.getElem?_eq_some_iff.1 h).1; omega
  · have hne : D ≠ k := fun e => by
      subst e
      rw [h] at hk
      simp only [Option.some.injEq] at hk
      subst hk
      simp [Obj.isCells] at hc
    rw [World.putObj_heap_other (Ne.symm hne), hk]
/-- Marks: each is a block from B on, below U, of its own, that holds no call. -/
def Marks (B U : Nat) : List Deferred → World → Prop
  | [], _ => True
  | d :: ds, W => ∃ D, d = { target := .collected D, args := #[] } ∧ B ≤ D ∧ D < U ∧ W.heap[D]? = some (.deferred (some [])) ∧ Marks B D ds W
theorem Marks.keep {B U : Nat} : ∀ {ds : List Deferred} {W W' : World}, Marks B U ds W → (∀ k, k < U → W.heap[k]? = some (.deferred (some [])) → W'.heap[k]? = some (.deferred (some []))) → Marks B U ds W'
  | [], _, _, _, _ => trivial
  | _ :: _, _, _, ⟨D, h1, h2, h3, h4, h5⟩, hk => ⟨D, h1, h2, h3, hk D h3 h4, h5.keep fun k hlt => hk k (Nat.lt_trans hlt h3)⟩
theorem Marks.more {B U U' : Nat} : ∀ {ds : List Deferred} {W : World}, Marks B U ds W → U ≤ U' → Marks B U' ds W
  | [], _, _, _ => trivial
  | _ :: _, _, ⟨D, h1, h2, h3, h4, h5⟩, hU => ⟨D, h1, h2, Nat.lt_of_lt_of_le h3 hU, h4, h5⟩
theorem Marks.own {B U n : Nat} {α : Type} (ds : List Deferred) (hU : U ≤ n) : OwnFrom n (fun (_ : α) W => Marks B U ds W) := fun s A C row hs hg hr =>
  hs.keep fun k hk hd => by
    refine (hg.block k (Array.getElem?_eq_some_iff.1 hd).1 (fun e => ?_)).trans hd
    have := (hr k e.symm).1
    omega
theorem Marks.below {B U : Nat} {ds : List Deferred} {W W' : World} (h : Marks B U ds W) (hb : Below U W W') : Marks B U ds W' := h.keep fun k hk hd => (hb.block k hk).trans hd
theorem Marks.set {B U A : Nat} {ds : List Deferred} {W : World} {t : TypeId} {v : Value} (h : Marks B U ds W) (hx : Boxed W A t v) (u : Value) : Marks B U ds (W.setCell ⟨A, 0, none⟩ u) := h.keep fun k _ hd => by
  have hne : k ≠ A := fun e => by
    subst e
    rw [show W.heap[k]? = _ from hx] at hd
    cases hd
  exact (Below.heap_setCell _ _ _ _ hne).trans hd
theorem leaves_marks {F : Fence} {n : Nat} {P : Program} {fn : Func} {tmps : Array Value} {R : Ending → World → Prop} {B : Nat} : ∀ (ds : List Deferred) (U : Nat) (W : World), Marks B U ds W → (∀ W', Shut B W W' → LeavesIn F n P fn tmps R [] .returning W') → LeavesInM F n P fn tmps R ds .returning W
  | [], _, W, _, h => h W (Shut.refl _ _)
  | d :: ds, U, W, ⟨D, h1, h2, h3, h4, h5⟩, h => by
    subst h1
    refine ⟨by simp, .inl ⟨_, _, rfl, run_takeDeferred h4, ?_⟩⟩
    refine leaves_marks ds D _ (h5.keep fun k hk hd => ?_) fun W' hs => h W' ((Shut.putObj W h2 h4 rfl rfl).trans hs)
    rw [World.putObj_heap_other (by omega), hd]
section
variable {F : Fence} {n : Nat} {P : Program} {Q : Exit → Act → World → Prop} {a : Act} {w : World}
/-- A scope without a jump, inside a fence. -/
theorem wpIn_scope_straight {c : Code} (h : c.wpIn F n P (Exit.noGoto Q) a w) : (Code.scope c).wpIn F n P Q a w := by
  intro b k cs hro hb hr
  have s0 : step P (lone (b.atR a (.code (.scope c) :: k)) cs w) = .next (lone (b.atR a (.code c :: .inScope c :: k)) cs w) := step_lone_go (by simp [stepG, stepG.exec, Frame.atR])
  have s1 : ∀ a w, step P (lone (b.atR a (.inScope c :: k)) cs w) = .next (lone (b.atR a k) cs w) := fun a w => step_lone_go (by simp [stepG, stepG.exec, Frame.atR])
  obtain ⟨e, a₁, w₁, hq, harr⟩ := h b (.inScope c :: k) cs hro hb hr
  cases e with
  | normal => exact ⟨.normal, a₁, w₁, hq, .of_steps (.one (fenced_calm hb hr rfl) s0) (StepsIn.trans harr (.one (fenced_calm hb hr rfl) (s1 _ _)))⟩
  | exit id => exact ⟨.exit id, a₁, w₁, hq, .of_steps (.one (fenced_calm hb hr rfl) s0) ⟨fun k' hk => harr.1 k' (by simp [exitTo, hk]), fun hr hk => harr.2 hr (by simp [exitTo, hk])⟩⟩
  | goto l => exact hq.elim
  | ret => exact ⟨_, a₁, w₁, hq, .of_steps (.one (fenced_calm hb hr rfl) s0) harr⟩
  | panic ch => exact ⟨_, a₁, w₁, hq, .of_steps (.one (fenced_calm hb hr rfl) s0) harr⟩
  | outgrown => exact ⟨_, a₁, w₁, hq, .of_steps (.one (fenced_calm hb hr rfl) s0) harr⟩
end
end Go.Proofs.YtohdgjmmekgcmaaDoor
