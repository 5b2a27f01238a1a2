/-
  Texts LaA to WordR, as one.
-/
import Derived.Test.YtaebipopmefkpaaGreatDoorMn4
import Derived.Sort.EncStr
import Derived.Lib.OthersKept
import Derived.Lib.Strings
import Derived.Maps.AppendAt
import Derived.Deep.DeepMust
import Derived.Laws.IdiomStrings
import Derived.Laws.IdiomCopy
import Derived.Laws.CopyOwn
import Derived.Laws.BytesArg
import Derived.Test.YtaebipopmefkpaaGreatDoorRows
import Derived.Laws.BitsAllLaws
import Derived.StillTailTactics
/-
  label: names, as bytes; named, Check.
-/
namespace Go.Proofs.YtaebipopmefkpaaGreatDoor
open Go.RowKit Go.Shelf Go.Sort

/-- May a byte be in a name? -/
def byteN (b : UInt8) : Bool := decide (33 ≤ b.toNat) && decide (b.toNat ≤ 126) && decide (b.toNat ≠ 47)
/-- Is a text a name? -/
def rightN (s : List UInt8) : Bool := decide (1 ≤ s.length) && decide (s.length ≤ 40) && !(s == [46]) && !(s == [46, 46]) && s.all byteN
def errN (s : List UInt8) : Int := if rightN s then 0 else 160
def nameN (s : List UInt8) : List UInt8 := if rightN s then s else []
abbrev namV (s : List UInt8) : Value := .agg #[encStr s]
theorem str_eql {_P : Program} (t : TypeId) (a b : List UInt8) : binOp .eql t (encStr a) (encStr b) = (pure (.bool (a == b)) : Sem Value) := by
  rw [binOp_string_eql, Lib.toList_data, Lib.toList_data]
theorem rightN_iff (s : List UInt8) : rightN s = true ↔ 1 ≤ s.length ∧ s.length ≤ 40 ∧ ¬ s = [46] ∧ ¬ s = [46, 46] ∧ s.all byteN = true := by
  unfold rightN
  simp [and_assoc]
theorem named_early (s : List UInt8) (w : World) (h : s.length < 1 ∨ 40 < s.length ∨ s = [46] ∨ s = [46, 46]) :
    Calls Tryz.prog 135 #[encStr s] w fun e w' => e = .returned (.tuple #[namV [], .int .i64 160]) ∧ Below w.heap.size w w' := by
  by_cases k1 : (s.length : Int) < 1
  · go_enter Tryz.func135, Tryz.ntmps135
    go_wp2
    refine wp_scope_forward 0 rfl ?_
    go_wp2
    go_step3
    refine ⟨rfl, ?_⟩
    go_wp2
    rw [Exit.jump_ret]
    refine bodyPost_ret (v := .tuple #[namV [], .int .i64 160]) (by simp [results, Tryz.results135, go_sem]) rfl ⟨rfl, (by repeat (first | exact Below.refl _ _ | assumption | refine Below.drew ?_ | refine below_drewN ?_ _ | refine Below.alloc ?_ (by (try simp) <;> omega) _ | refine Below.setCell ?_ (by (try simp) <;> omega) _ | refine Below.trans ?_ (Below.mono (by assumption) (by (try simp) <;> omega))))⟩
  by_cases k2 : 40 < (s.length : Int)
  · go_enter Tryz.func135, Tryz.ntmps135
    go_wp2
    refine wp_scope_forward 0 rfl ?_
    go_wp2
    go_step3
    refine ⟨rfl, ?_⟩
    go_wp2
    rw [Exit.jump_ret]
    refine bodyPost_ret (v := .tuple #[namV [], .int .i64 160]) (by simp [results, Tryz.results135, go_sem]) rfl ⟨rfl, (by repeat (first | exact Below.refl _ _ | assumption | refine Below.drew ?_ | refine below_drewN ?_ _ | refine Below.alloc ?_ (by (try simp) <;> omega) _ | refine Below.setCell ?_ (by (try simp) <;> omega) _ | refine Below.trans ?_ (Below.mono (by assumption) (by (try simp) <;> omega))))⟩
  have h' : s = [46] ∨ s = [46, 46] := by
    rcases h with h | h | h
    · omega
    · omega
    · exact h
  rcases h' with rfl | rfl
  · go_enter Tryz.func135, Tryz.ntmps135
    go_wp2
    refine wp_scope_forward 0 rfl ?_
    go_wp2
    go_step3
    refine ⟨rfl, ?_⟩
    go_wp2
    rw [Exit.jump_ret]
    refine bodyPost_ret (v := .tuple #[namV [], .int .i64 160]) (by simp [results, Tryz.results135, go_sem]) rfl ⟨rfl, (by repeat (first | exact Below.refl _ _ | assumption | refine Below.drew ?_ | refine below_drewN ?_ _ | refine Below.alloc ?_ (by (try simp) <;> omega) _ | refine Below.setCell ?_ (by (try simp) <;> omega) _ | refine Below.trans ?_ (Below.mono (by assumption) (by (try simp) <;> omega))))⟩
  · go_enter Tryz.func135, Tryz.ntmps135
    go_wp2
    refine wp_scope_forward 0 rfl ?_
    go_wp2
    go_step3
    refine ⟨rfl, ?_⟩
    go_wp2
    rw [Exit.jump_ret]
    refine bodyPost_ret (v := .tuple #[namV [], .int .i64 160]) (by simp [results, Tryz.results135, go_sem]) rfl ⟨rfl, (by repeat (first | exact Below.refl _ _ | assumption | refine Below.drew ?_ | refine below_drewN ?_ _ | refine Below.alloc ?_ (by (try simp) <;> omega) _ | refine Below.setCell ?_ (by (try simp) <;> omega) _ | refine Below.trans ?_ (Below.mono (by assumption) (by (try simp) <;> omega))))⟩
/-- What a range over a text tells of the byte at a place. -/
theorem letter_at (s : List UInt8) (pos : Nat) (h : pos < s.length) :
    ((33 ≤ (Utf8.decode ⟨s.toArray⟩ pos).1 ∧ (Utf8.decode ⟨s.toArray⟩ pos).1 ≤ 126 ∧ (Utf8.decode ⟨s.toArray⟩ pos).1 ≠ 47) ↔ byteN s[pos] = true) ∧
    (byteN s[pos] = true → (Utf8.decode ⟨s.toArray⟩ pos).2 = 1) := by
  have hs : pos < (⟨s.toArray⟩ : ByteArray).size := by simpa [ByteArray.size] using h
  have hg : ((⟨s.toArray⟩ : ByteArray)[pos]'hs) = s[pos] := by rfl
  unfold byteN
  simp only [Bool.and_eq_true, decide_eq_true_eq]
  by_cases ha : (s[pos]).toNat < 128
  · rw [decode_ascii ⟨s.toArray⟩ pos hs (by rw [hg]; exact ha), hg]
    exact ⟨by constructor <;> (intro h; omega), fun _ => rfl⟩
  · have hd := decode_high ⟨s.toArray⟩ pos hs (by rw [hg]; omega)
    refine ⟨by constructor <;> (intro h; omega), fun h => by omega⟩
set_option maxRecDepth 100000 in
set_option maxHeartbeats 2000000 in
theorem named_late (s : List UInt8) (w : World) (k1 : 1 ≤ s.length) (k2 : s.length ≤ 40) (k3 : ¬ s = [46]) (k4 : ¬ s = [46, 46]) :
    Calls Tryz.prog 135 #[encStr s] w fun e w' => e = .returned (.tuple #[namV (if s.all byteN then s else []), .int .i64 (if s.all byteN then 0 else 160)]) ∧ Below w.heap.size w w' := by
  have q1 : ¬ (s.length : Int) < 1 := by omega
  have q2 : ¬ (40 : Int) < (s.length : Int) := by omega
  have q3 : (s == [46]) = false := by simp [k3]
  have q4 : (s == [46, 46]) = false := by simp [k4]
  have HL := Lib.hid (letter_at s)
  clear k3 k4
  go_enter Tryz.func135, Tryz.ntmps135
  go_wp2
  refine wp_scope_forward 0 rfl ?_
  go_wp2
  go_loopw [] (fun wr => ∃ pos : Nat, pos ≤ s.length ∧ wr.heap[w.heap.size + 1]? = some (.stringIter ⟨s.toArray⟩ pos) ∧ Boxed wr w.heap.size 212 (encStr []) ∧ Below w.heap.size w wr ∧ Hid ((s.take pos).all byteN = true)) (fun wr => s.length - wr.iterPos (w.heap.size + 1))
  case atStart =>
    refine ⟨0, Nat.zero_le _, ?_, (Boxed.new w 212 (encStr [])).alloc _, (by repeat (first | exact Below.refl _ _ | assumption | refine Below.drew ?_ | refine below_drewN ?_ _ | refine Below.alloc ?_ (by (try simp) <;> omega) _ | refine Below.setCell ?_ (by (try simp) <;> omega) _ | refine Below.trans ?_ (Below.mono (by assumption) (by (try simp) <;> omega)))), Lib.hid rfl⟩
    have := World.iter_heap (w.alloc (.cells #[encStr []] 212)) ⟨s.toArray⟩ 0
    simpa using this
  case round =>
    obtain ⟨pos, hpl, hit, hbx, hbw, HA⟩ := hrel
    by_cases hp : pos < s.length
    · have hps : pos < (⟨s.toArray⟩ : ByteArray).size := by simpa [ByteArray.size] using hp
      have hnx : ∀ ty, (Instr.next (.pointer (some ⟨w.heap.size + 1, 0, none⟩)) true ty).run Tryz.prog wr = _ := fun ty => Lib.run_next_any_at wr (w.heap.size + 1) ⟨s.toArray⟩ pos ty hit hps
      obtain ⟨h1, h2⟩ := HL.out pos hp
      have hmx := decode_le ⟨s.toArray⟩ pos
      have hi2 := Lib.iterAt_heap wr (w.heap.size + 1) ⟨s.toArray⟩ pos (pos + (Utf8.decode ⟨s.toArray⟩ pos).2) hit
      have hb2 := Lib.below_iterAt hbw (k := w.heap.size + 1) (by omega) ⟨s.toArray⟩ (pos + (Utf8.decode ⟨s.toArray⟩ pos).2)
      have hx2 : Boxed (wr.iterAt (w.heap.size + 1) ⟨s.toArray⟩ (pos + (Utf8.decode ⟨s.toArray⟩ pos).2)) w.heap.size 212 (encStr []) := (Lib.iterAt_other wr (w.heap.size + 1) w.heap.size ⟨s.toArray⟩ _ (by omega)).trans hbx
      obtain ⟨rr, hrr⟩ : ∃ rr, (Utf8.decode ⟨s.toArray⟩ pos).1 = rr := ⟨_, rfl⟩
      obtain ⟨ww, hww⟩ : ∃ ww, (Utf8.decode ⟨s.toArray⟩ pos).2 = ww := ⟨_, rfl⟩
      rw [hrr, hww] at hnx
      rw [hww] at hi2 hb2 hx2 h2
      rw [hrr] at h1 hmx
      clear hrr hww
      obtain ⟨W2, hW2⟩ : ∃ W2, wr.iterAt (w.heap.size + 1) ⟨s.toArray⟩ (pos + ww) = W2 := ⟨_, rfl⟩
      rw [hW2] at hnx hi2 hb2 hx2
      have HIT := Lib.hid hit
      have HI2 := Lib.hid hi2
      have HB2 := Lib.hid hb2
      have HX2 := Lib.hid hx2
      have cb := hx2.cell
      have cf := hx2.frozen
      have cl := hx2.lt
      clear hW2 hit hbx hbw hi2 hb2 hx2 hps
      by_cases hg : byteN s[pos] = true
      · obtain ⟨g1, g2, g3⟩ := h1.2 hg
        obtain rfl := h2 hg
        have e1 : ¬ ((rr : Int) < 33) := by omega
        have e2 : ¬ ((126 : Int) < rr) := by omega
        have e3 : ((rr : Int) == 47) = false := by simp; omega
        have HG := Lib.hid hg
        clear hg h1 h2 g1 g2 g3
        go_wp2
        go_roundw
        case rel =>
          refine ⟨pos + 1, by omega, HI2.out, HX2.out, HB2.out, ?_⟩
          exact Lib.hid (by rw [List.take_succ_eq_append_getElem hp, List.all_append, HA.out]; simp [HG.out])
        case measure =>
          simp only [World.iterPos, HI2.out, HIT.out]
          omega
      · have hn : ((decide ((rr : Int) < 33) || decide ((126 : Int) < rr) || ((rr : Int) == 47))) = true := by
          have : ¬ (33 ≤ rr ∧ rr ≤ 126 ∧ rr ≠ 47) := fun h => hg (h1.1 h)
          simp only [Bool.or_eq_true, decide_eq_true_eq, beq_iff_eq]
          omega
        have HN : Hid (s.all byteN = false) := show _ = _ from List.all_eq_false.2 ⟨s[pos], List.getElem_mem hp, by simpa using hg⟩
        clear hg h1 h2
        go_wp2
        all_goals
          go_step3
          refine ⟨rfl, ?_⟩
          go_wp2
          rw [Exit.jump_ret]
          exact bodyPost_ret (v := .tuple #[namV [], .int .i64 160]) (by simp [results, Tryz.results135, go_sem, (HX2.out.set (encStr [])).cell]) rfl ⟨by rw [HN.out]; rfl, HB2.out.setCell (p := ⟨w.heap.size, 0, none⟩) (Nat.le_refl _) _⟩
    · have hps : ¬ pos < (⟨s.toArray⟩ : ByteArray).size := by simpa [ByteArray.size] using hp
      have hnx : ∀ ty, (Instr.next (.pointer (some ⟨w.heap.size + 1, 0, none⟩)) true ty).run Tryz.prog wr = _ := fun ty => Lib.run_next_end_at wr (w.heap.size + 1) ⟨s.toArray⟩ pos ty hit hps
      have cb := hbx.cell
      have cf := hbx.frozen
      have cl := hbx.lt
      have hall : s.all byteN = true := by rw [List.take_of_length_le (by omega)] at HA; exact HA.out
      have HB := Lib.hid hbw
      have HX := Lib.hid hbx
      clear HA hbx hbw hit
      go_wp2
      rw [Exit.jump_ret]
      refine bodyPost_ret (v := .tuple #[namV s, .int .i64 0]) (by simp [results, Tryz.results135, go_sem, (HX.out.set (encStr s)).cell]) rfl ⟨by rw [hall]; rfl, HB.out.setCell (p := ⟨w.heap.size, 0, none⟩) (Nat.le_refl _) _⟩
theorem named_any (s : List UInt8) (w : World) :
    Calls Tryz.prog 135 #[encStr s] w fun e w' => e = .returned (.tuple #[namV (nameN s), .int .i64 (errN s)]) ∧ Below w.heap.size w w' := by
  by_cases h : s.length < 1 ∨ 40 < s.length ∨ s = [46] ∨ s = [46, 46]
  · have hr : rightN s = false := by
      cases hr : rightN s with
      | false => rfl
      | true =>
        obtain ⟨h1, h2, h3, h4, -⟩ := (rightN_iff s).1 hr
        rcases h with h | h | h | h
        · omega
        · omega
        · exact absurd h h3
        · exact absurd h h4
    refine (named_early s w h).mono fun e w' h => ?_
    unfold nameN errN
    rw [hr]
    exact h
  · have h1 : 1 ≤ s.length := by
      rcases Nat.lt_or_ge s.length 1 with k | k
      · exact absurd (.inl k) h
      · exact k
    have h2 : s.length ≤ 40 := by
      rcases Nat.lt_or_ge 40 s.length with k | k
      · exact absurd (.inr (.inl k)) h
      · exact k
    have h3 : ¬ s = [46] := fun k => h (.inr (.inr (.inl k)))
    have h4 : ¬ s = [46, 46] := fun k => h (.inr (.inr (.inr k)))
    have hr : rightN s = s.all byteN := by
      unfold rightN
      simp [h1, h2, h3, h4]
    refine (named_late s w h1 h2 h3 h4).mono fun e w' h => ?_
    unfold nameN errN
    rw [hr]
    exact h
end Go.Proofs.YtaebipopmefkpaaGreatDoor

/-
  append of a slice of numbers, nil or not, to a row of the call's own.
-/
namespace Go.Proofs.YtaebipopmefkpaaGreatDoor
open Go.RowKit

/-- Numbers as values. -/
def valsOf (k : IntKind) (l : List Nat) : List Value := l.map fun y : Nat => Value.int k (y : Nat)
theorem valsOf_length (k : IntKind) (l : List Nat) : (valsOf k l).length = l.length := by simp [valsOf]
theorem valsOf_append (k : IntKind) (a b : List Nat) : valsOf k (a ++ b) = valsOf k a ++ valsOf k b := by simp [valsOf]
theorem valsOf_one (k : IntKind) (l : List Nat) : ∀ u ∈ valsOf k l, u.oneCell' = true := by simp [valsOf, Value.oneCell']
theorem valsOf_set (k : IntKind) (l : List Nat) (i x : Nat) : valsOf k (l.set i x) = (valsOf k l).set i (.int k (x : Nat)) := by simp [valsOf, List.map_set]
theorem wpList_append_sl {P : Program} (w : World) {ops : Array Oper} {rest : List Oper} {o : Oper} {a : Act} {Q : Exit → Act → World → Prop}
    (hw : Region.wanted o (yielded ops a.tmps) = true) (s x : Operand) (t : TypeId) (hop : o.op = Op.call { callee := Callee.builtin Builtin.append, args := #[s, x], argTypes := #[t, t] })
    (base : Nat) (e : TypeId) (i : TypeInfo) (z : Value) (bytes : Nat) (k : IntKind) (h1 : P.underlying t = some (.slice e)) (h2 : P.info? e = some i) (h3 : i.zero = some z) (h4 : i.size = 1) (h5 : i.bytes = bytes) (h6 : z.cells.size = 1)
    (v : Value) (ys : List Nat) (hs : a.eval s = v) (hown : w.ownsRow base e 1 v ys.length (valsOf k ys)) (u : Value) (xs : List Nat) (hx : a.eval x = u) (hsl : Sl w k u xs)
    (b1 : ys.length + xs.length ≤ maxLen) (b2 : (ys.length + xs.length) * bytes ≤ 140737488355328) (b3 : base ≤ w.heap.size)
    (hK : ∀ v' w', w'.ownsRow base e 1 v' (ys ++ xs).length (valsOf k (ys ++ xs)) → w.grownBy w' v.ownBlock → (v'.ownBlock = v.ownBlock ∨ v'.ownBlock = some w.heap.size) → wpList P ops Q rest (a.put o.dst v') w') :
    wpList P ops Q (o :: rest) a w := by
  obtain ⟨ad, cap, rfl, hlc, hc⟩ := hsl
  refine BigFrame.wpList_want hw fun K hK' => ?_
  unfold Oper.wp execOp
  simp only [hop, resolve, invoke, builtin, Sem.run_bind, Sem.run_pure, Result.andThen_ok, List.map_toArray, List.map_cons, List.map_nil, hs, hx]
  rcases ad with _ | ad
  · have h0 : xs = [] := by
      rcases Nat.eq_zero_or_pos xs.length with h | h
      · exact List.eq_nil_of_length_eq_zero h
      · obtain ⟨b, off, hh, _⟩ := hc h
        cases hh
    subst h0
    have hrun : (Builtin.append_ #[t, t] o.type #[v, .slice none 0 cap]).run P w = .ok v w := by
      rcases hown.2 with ⟨rfl, e0⟩ | ⟨g, c, cur, rfl, _, _, hnc, _⟩
      · simp [Builtin.append_, run_underlying h1, sizeOf, typeInfo, h2, Builtin.lenOf, Builtin.firstCells]
      · simp [Builtin.append_, run_underlying h1, sizeOf, typeInfo, h2, Builtin.lenOf, Builtin.firstCells, hnc, storeCells]
    rw [show (([] : List Nat).length) = 0 from rfl, hrun]
    exact hK' _ _ (hK v w (by simpa using hown) (World.grownBy.refl w _) (.inl rfl))
  · have hcells : ∀ j y, (valsOf k xs)[j]? = some y → w.cell? (ad.add j) = some y := fun j y hy => by
      have hj : j < xs.length := by
        have := (List.getElem?_eq_some_iff.1 hy).1
        rwa [valsOf_length] at this
      obtain ⟨b, off, hh, _, hcell⟩ := hc (by omega)
      simp only [Option.some.injEq] at hh
      subst hh
      have e1 : (⟨b, off, none⟩ : Addr).add j = ⟨b, off + j, none⟩ := by
        unfold Addr.add; split <;> simp_all
      rw [e1, hcell j hj, ← hy]
      simp [valsOf, hj]
    obtain ⟨v', w', hrun, r1, r2, _, r3⟩ := run_append_own_at (P := P) w base t o.type e i z 1 bytes h1 h2 h3 h4 h5 h6 (by decide) v ys.length (valsOf k ys) hown ad xs.length cap (valsOf k xs) (by rw [valsOf_length, Nat.mul_one]) hcells (valsOf_one k xs) b1 b2 b3
    rw [hrun]
    exact hK' _ _ (hK v' w' (by rw [List.length_append, valsOf_append]; exact r1) r2 r3)
theorem ownsRow_set {w : World} {base g n cap j : Nat} {e : TypeId} {xs : List Value} (h : w.ownsRow base e 1 (.slice (some ⟨g, 0, none⟩) n cap) n xs) (u : Value) :
    (w.setCell ⟨g, j, none⟩ u).ownsRow base e 1 (.slice (some ⟨g, 0, none⟩) n cap) n (xs.set j u) := by
  obtain ⟨hl, h⟩ := h
  rcases h with ⟨e0, _⟩ | ⟨g', cap', cur, e0, hb, hg, hn, hm, hs, ht⟩
  · cases e0
  · injection e0 with e1 _ e3
    injection e1 with e1
    injection e1 with e1
    subst e1; subst e3
    refine ⟨by simpa using hl, .inr ⟨g, cap, cur.setIfInBounds j u, rfl, hb, ?_, hn, hm, by simpa using hs, ?_⟩⟩
    · simp [World.setCell, Array.getElem?_modify, hg]
    · rw [← ht, Array.toList_setIfInBounds, List.take_set]
theorem ownsRow_lt {w : World} {base g n cap : Nat} {e : TypeId} {xs : List Value} (h : w.ownsRow base e 1 (.slice (some ⟨g, 0, none⟩) n cap) n xs) : base ≤ g ∧ g < w.heap.size := h.lt g rfl
/-- What a value that owns numbers looks like. -/
theorem own_form {w : World} {base : Nat} {e : TypeId} {v : Value} {k : IntKind} {xs : List Nat} (h : w.ownsRow base e 1 v xs.length (valsOf k xs)) (hn : 0 < xs.length) : ∃ g cap, v = .slice (some ⟨g, 0, none⟩) xs.length cap ∧ base ≤ g ∧ g < w.heap.size ∧ xs.length ≤ cap := by
  rcases h.2 with ⟨_, h0⟩ | ⟨g, cap, cur, rfl, hb, hg, hc, _⟩
  · omega
  · exact ⟨g, cap, rfl, hb, (Array.getElem?_eq_some_iff.1 hg).1, hc⟩
theorem own_cell {w : World} {base g cap : Nat} {e : TypeId} {k : IntKind} {xs : List Nat} (h : w.ownsRow base e 1 (.slice (some ⟨g, 0, none⟩) xs.length cap) xs.length (valsOf k xs)) (j : Nat) (hj : j < xs.length) : w.cell? ⟨g, j, none⟩ = some (.int k (xs[j]?.getD 0 : Nat)) := by
  rw [World.ownsRow.cellAt h j (by omega)]
  simp [valsOf, hj]
theorem own_set {w : World} {base g cap : Nat} {e : TypeId} {k : IntKind} {xs : List Nat} (h : w.ownsRow base e 1 (.slice (some ⟨g, 0, none⟩) xs.length cap) xs.length (valsOf k xs)) (j z : Nat) :
    (w.setCell ⟨g, j, none⟩ (.int k (z : Nat))).ownsRow base e 1 (.slice (some ⟨g, 0, none⟩) (xs.set j z).length cap) (xs.set j z).length (valsOf k (xs.set j z)) := by
  rw [valsOf_set, List.length_set]
  exact ownsRow_set h _
theorem own_sl {w : World} {base : Nat} {e : TypeId} {v : Value} {k : IntKind} {xs : List Nat} (h : w.ownsRow base e 1 v xs.length (valsOf k xs)) : Sl w k v xs := sl_of_owns h
end Go.Proofs.YtaebipopmefkpaaGreatDoor

/-
  label: a text as bytes and as words.
-/
namespace Go.Proofs.YtaebipopmefkpaaGreatDoor
open Go.RowKit Go.Shelf Go.Sort

/-- A text's bytes, as numbers. -/
def bsN (s : List UInt8) : List Nat := s.map UInt8.toNat
theorem bsN_length (s : List UInt8) : (bsN s).length = s.length := by simp [bsN]
theorem bsN_at (s : List UInt8) (j : Nat) (h : j < s.length) : (bsN s)[j]?.getD 0 = s[j].toNat := by simp [bsN, h]
theorem bsN_256 (s : List UInt8) : WM.Bytes256 (bsN s) := fun i => by
  unfold WM.at'
  by_cases h : i < s.length
  · rw [bsN_at s i h]; exact UInt8.toNat_lt _
  · rw [List.getElem?_eq_none (by rw [bsN_length]; omega)]; exact (by decide : (0 : Nat) < 256)
theorem bsN_inj {a b : List UInt8} (h : bsN a = bsN b) : a = b := (List.map_inj_right fun _ _ h => UInt8.toNat_inj.1 h).1 h
/-- The capacity and the world behind '[]byte(s)'. -/
def capC (W : World) (s : List UInt8) : Nat := grownCap W s.length 0 5
def bytesW (W : World) (s : List UInt8) : World := W.drew.alloc (.cells (bytesRow ⟨s.toArray⟩ (capC W s)) 5 ((bytesRow ⟨s.toArray⟩ (capC W s)).size, (bytesRow ⟨s.toArray⟩ (capC W s)).size + 1))
theorem conv_bytes (src : TypeId) (hs : Tryz.prog.underlying src = some .string) (s : List UInt8) (W : World) :
    (convert src 172 (encStr s)).run Tryz.prog W = .ok (.slice (some ⟨W.heap.size, 0, none⟩) s.length (capC W s)) (bytesW W s) := by
  have h := run_bytes_of_string (P := Tryz.prog) W src 172 5 ⟨s.toArray⟩ hs Tryz.underlying172 Tryz.underlying5
  have e : (⟨s.toArray⟩ : ByteArray).size = s.length := by simp [ByteArray.size]
  rw [e] at h
  exact h
theorem capC_ge (W : World) (s : List UInt8) : s.length ≤ capC W s := grownCap_ge _ _ _ _
theorem capC_le (W : World) (s : List UInt8) (h : s.length ≤ 9223372036854775807) : capC W s ≤ 9223372036854775807 := grownCap_le_maxLen W _ _ _ h
theorem bytesW_below (W : World) (s : List UInt8) : Below W.heap.size W (bytesW W s) := (Below.drew (Below.refl _ _)).alloc (Nat.le_refl _) _
theorem bytesW_size (W : World) (s : List UInt8) : (bytesW W s).heap.size = W.heap.size + 1 := by unfold bytesW; simp
theorem bytesW_sl (W : World) (s : List UInt8) : Sl (bytesW W s) .u8 (.slice (some ⟨W.heap.size, 0, none⟩) s.length (capC W s)) (bsN s) := by
  refine ⟨_, _, by rw [bsN_length], by rw [bsN_length]; exact capC_ge W s, fun _ => ⟨W.heap.size, 0, rfl, by rw [bytesW_size]; omega, fun j hj => ?_⟩⟩
  rw [bsN_length] at hj
  rw [bsN_at s j hj]
  have hh : (bytesW W s).heap[W.heap.size]? = some (.cells (bytesRow ⟨s.toArray⟩ (capC W s)) 5 ((bytesRow ⟨s.toArray⟩ (capC W s)).size, (bytesRow ⟨s.toArray⟩ (capC W s)).size + 1)) := World.alloc_heap_new W.drew _
  unfold World.cell?
  simp only [hh, Nat.zero_add]
  unfold bytesRow
  rw [Array.getElem?_append_left (by simp; exact hj)]
  simp [hj]
/-- 'string(b)'. -/
theorem conv_text (dst : TypeId) (hd : Tryz.prog.underlying dst = some .string) {W : World} {v : Value} {s : List UInt8} (h : Sl W .u8 v (bsN s)) :
    (convert 172 dst v).run Tryz.prog W = .ok (encStr s) W := by
  obtain ⟨a, cap, rfl, hc, hcell⟩ := h
  rw [bsN_length] at hcell ⊢
  by_cases h0 : 0 < s.length
  · obtain ⟨b, off, rfl, -, hj⟩ := hcell h0
    exact run_convert_bytes_back W _ _ _ _ _ _ Tryz.underlying172 Tryz.underlying5 hd fun j hl => by
      have hadd : (⟨b, off, none⟩ : Addr).add j = ⟨b, off + j, none⟩ := by unfold Addr.add; split <;> simp_all
      rw [hadd, hj j hl, bsN_at s j hl]
  · obtain rfl : s = [] := List.eq_nil_of_length_eq_zero (by omega)
    have hl := run_convert_bytes_back (P := Tryz.prog) W 172 dst 5 ⟨0, 0, none⟩ cap [] Tryz.underlying172 Tryz.underlying5 hd (fun j hj => absurd hj (by simp))
    cases a with
    | none => rw [run_convert_bytes_nil W 172 5 Tryz.underlying172 Tryz.underlying5 _ _ dst hd]; rfl
    | some ad => exact run_convert_bytes_back (P := Tryz.prog) W 172 dst 5 ad cap [] Tryz.underlying172 Tryz.underlying5 hd (fun j hj => absurd hj (by simp))
/-- Five words. -/
abbrev arr5 (l : List Nat) : Array Value := #[.int .u64 (l[0]?.getD 0 : Nat), .int .u64 (l[1]?.getD 0 : Nat), .int .u64 (l[2]?.getD 0 : Nat), .int .u64 (l[3]?.getD 0 : Nat), .int .u64 (l[4]?.getD 0 : Nat)]
def wordsN (s : List UInt8) : List Nat := WM.wordsOf (bsN s)
theorem wordsN_len (s : List UInt8) (h : s.length ≤ 40) : (wordsN s).length ≤ 5 := by
  unfold wordsN
  rw [WM.wordsOf_length, bsN_length]; unfold WM.need; omega
theorem laTold_any (s : List UInt8) (w : World) : Calls Tryz.prog 139 #[encStr s] w fun e w' => e = .returned (encStr s) ∧ w = w' := by
  go_enter Tryz.func139, Tryz.ntmps139
  go_wp2
  go_ret
  exact ⟨rfl, rfl⟩
theorem laCheck_any (s : List UInt8) (w : World) : Calls Tryz.prog 117 #[encStr s] w fun e w' => e = .returned (.int .i64 (errN s)) ∧ Below w.heap.size w w' := by
  have HN := Lib.hid (named_any s w)
  go_enter Tryz.func117, Tryz.ntmps117
  go_wp2_with fail
  refine HN.out.mono ?_
  rintro e w1 ⟨rfl, hb⟩
  have HB := Lib.hid hb
  clear hb
  go_wp2
  go_ret
  exact ⟨rfl, HB.out.alloc HB.out.size _⟩
theorem five_row (xs : List Nat) (h : xs.length ≤ 5) (z : Value) (hz : z = .int .u64 0) :
    (([z, z, z, z, z] : List Value).take 0 ++ (xs.map fun y : Nat => Value.int .u64 (y : Nat)) ++ ([z, z, z, z, z] : List Value).drop (0 + (xs.map fun y : Nat => Value.int .u64 (y : Nat)).length)).toArray = arr5 xs := by
  subst hz
  match xs, h with
  | [], _ => rfl
  | [a], _ => rfl
  | [a, b], _ => rfl
  | [a, b, c], _ => rfl
  | [a, b, c, d], _ => rfl
  | [a, b, c, d, e], _ => rfl
set_option maxRecDepth 100000 in
set_option maxHeartbeats 2000000 in
theorem laWords1_any (s : List UInt8) (hl : s.length ≤ 40) (w : World) :
    Calls Tryz.prog 136 #[namV s] w fun e w' => e = .returned (.agg (arr5 (wordsN s))) ∧ Below w.heap.size w w' := by
  have hcv := fun W => conv_bytes 210 Tryz.underlying210 s W
  obtain ⟨W3, hW3⟩ : ∃ W3, ((w.alloc (.cells #[encStr s] 212)).alloc (.cells #[.int .u64 0, .int .u64 0, .int .u64 0, .int .u64 0, .int .u64 0] 92)).alloc (.cells #[.int .u64 0, .int .u64 0, .int .u64 0, .int .u64 0, .int .u64 0] 92) = W3 := ⟨_, rfl⟩
  have z3 : W3.heap.size = w.heap.size + 3 := by rw [← hW3]; simp
  have b3 : Below w.heap.size w W3 := by rw [← hW3]; exact (by repeat (first | exact Below.refl _ _ | assumption | refine Below.drew ?_ | refine below_drewN ?_ _ | refine Below.alloc ?_ (by (try simp) <;> omega) _ | refine Below.setCell ?_ (by (try simp) <;> omega) _ | refine Below.trans ?_ (Below.mono (by assumption) (by (try simp) <;> omega))))
  have j1 : W3.heap[w.heap.size + 1]? = some (.cells #[.int .u64 0, .int .u64 0, .int .u64 0, .int .u64 0, .int .u64 0] 92) := by rw [← hW3]; (simp only [heap_at, World.size_alloc]; repeat (first | rw [if_pos (by omega)] | rw [if_neg (by omega)] | rw [if_pos trivial]))
  have j2 : W3.heap[w.heap.size + 1 + 1]? = some (.cells #[.int .u64 0, .int .u64 0, .int .u64 0, .int .u64 0, .int .u64 0] 92) := by rw [← hW3]; (simp only [heap_at, World.size_alloc]; repeat (first | rw [if_pos (by omega)] | rw [if_neg (by omega)] | rw [if_pos trivial]))
  have HWD := Lib.hid (words_anyM _ (bsN s) (by rw [bsN_length]; omega) (bsN_256 s) (bytesW W3 s) (bytesW_sl W3 s) (fun a n c e => by cases e; exact capC_le W3 s (by omega)))
  have HB3 := Lib.hid b3
  have HZ3 := Lib.hid z3
  have HJ1 := Lib.hid j1
  have HJ2 := Lib.hid j2
  have HB4 := Lib.hid (bytesW_below W3 s)
  have HZ4 := Lib.hid (bytesW_size W3 s)
  have HWE := Lib.hid hW3
  have HLN := Lib.hid (wordsN_len s hl)
  clear b3 z3 j1 j2 hW3
  go_enter Tryz.func136, Tryz.ntmps136
  go_wp2_with fail
  simp only [HWE.out]
  rw [show w.heap.size + 1 + 1 + 1 = W3.heap.size from HZ3.out.symm]
  refine HWD.out.mono ?_
  rintro e w5 ⟨r, rfl, ⟨g, c, rfl⟩, hrow, hb5⟩
  have hz3 := HZ3.out
  have hz4 := HZ4.out
  have i1 : w5.heap[w.heap.size + 1]? = some (.cells #[.int .u64 0, .int .u64 0, .int .u64 0, .int .u64 0, .int .u64 0] 92) := (hb5.block _ (by omega)).trans ((HB4.out.block _ (by omega)).trans HJ1.out)
  have i2 : w5.heap[w.heap.size + 1 + 1]? = some (.cells #[.int .u64 0, .int .u64 0, .int .u64 0, .int .u64 0, .int .u64 0] 92) := (hb5.block _ (by omega)).trans ((HB4.out.block _ (by omega)).trans HJ2.out)
  have hB5 : Below w.heap.size w w5 := HB3.out.trans ((HB4.out.trans (hb5.mono HB4.out.size)).mono HB3.out.size)
  have hg := hrow.lt g rfl
  have hcp : (Builtin.copy_ #[174, 174] 3 #[.slice (some ⟨w.heap.size + 1 + 1, 0, none⟩) 5 5, .slice (some ⟨g, 0, none⟩) (wordsN s).length c]).run Tryz.prog w5 = .ok (goInt (wordsN s).length) (w5.setRow (w.heap.size + 1 + 1) (arr5 (wordsN s))) := by
    have h := run_copy_row (P := Tryz.prog) w5 174 174 3 22 (w.heap.size + 1 + 1) 0 5 5 ⟨g, 0, none⟩ (wordsN s).length c _ _ ((wordsN s).map fun y : Nat => Value.int .u64 (y : Nat)) Tryz.underlying174 (by kernel_rfl) i2
      (by rw [List.length_map]; exact (Nat.min_eq_left HLN.out).symm) (fun j v hj => ?_) (by rw [List.length_map, Nat.zero_add]; exact HLN.out) (by simp [Value.oneCell'])
    · exact (h.trans (congrArg (fun A => Result.ok _ (w5.setRow _ A)) (five_row (wordsN s) HLN.out _ rfl))).trans (by rw [List.length_map])
    · have hl : j < (wordsN s).length := by have := (List.getElem?_eq_some_iff.1 hj).1; simpa using this
      have hadd : (⟨g, 0, none⟩ : Addr).add j = ⟨g, j, none⟩ := by unfold Addr.add; split <;> simp_all
      rw [hadd]
      refine (own_cell (k := .u64) hrow j hl).trans ?_
      rw [← hj]
      show some (Value.int .u64 (((wordsN s)[j]?.getD 0 : Nat) : Int)) = _
      simp [hl]
  obtain ⟨W6, hW6⟩ : ∃ W6, w5.setRow (w.heap.size + 1 + 1) (arr5 (wordsN s)) = W6 := ⟨_, rfl⟩
  have hb6 : Below w.heap.size w W6 := by rw [← hW6]; exact below_setRow hB5 (by omega) _
  have k2 : W6.heap[w.heap.size + 1 + 1]? = some (.cells (arr5 (wordsN s)) 92) := by rw [← hW6]; exact setRow_heap w5 _ _ _ _ _ i2
  have k1 : W6.heap[w.heap.size + 1]? = some (.cells #[.int .u64 0, .int .u64 0, .int .u64 0, .int .u64 0, .int .u64 0] 92) := by rw [← hW6]; exact (below_setRow (B := w.heap.size + 1 + 1) (Below.refl _ w5) (Nat.le_refl _) _).block _ (by omega) |>.trans i1
  rw [hW6] at hcp
  have HB6 := Lib.hid hb6
  have c0 : W6.cell? ⟨w.heap.size + 1 + 1, 0, none⟩ = some (.int .u64 ((wordsN s)[0]?.getD 0 : Nat)) := by simp [World.cell?, k2]
  have c1 : W6.cell? ⟨w.heap.size + 1 + 1, 1, none⟩ = some (.int .u64 ((wordsN s)[1]?.getD 0 : Nat)) := by simp [World.cell?, k2]
  have c2 : W6.cell? ⟨w.heap.size + 1 + 1, 2, none⟩ = some (.int .u64 ((wordsN s)[2]?.getD 0 : Nat)) := by simp [World.cell?, k2]
  have c3 : W6.cell? ⟨w.heap.size + 1 + 1, 3, none⟩ = some (.int .u64 ((wordsN s)[3]?.getD 0 : Nat)) := by simp [World.cell?, k2]
  have c4 : W6.cell? ⟨w.heap.size + 1 + 1, 4, none⟩ = some (.int .u64 ((wordsN s)[4]?.getD 0 : Nat)) := by simp [World.cell?, k2]
  have lt1 : w.heap.size + 1 < W6.heap.size := (Array.getElem?_eq_some_iff.1 k1).1
  have d0 : W6.cell? ⟨w.heap.size + 1, 0, none⟩ = some (.int .u64 0) := by simp [World.cell?, k1]
  have d1 : W6.cell? ⟨w.heap.size + 1, 1, none⟩ = some (.int .u64 0) := by simp [World.cell?, k1]
  have d2 : W6.cell? ⟨w.heap.size + 1, 2, none⟩ = some (.int .u64 0) := by simp [World.cell?, k1]
  have d3 : W6.cell? ⟨w.heap.size + 1, 3, none⟩ = some (.int .u64 0) := by simp [World.cell?, k1]
  have d4 : W6.cell? ⟨w.heap.size + 1, 4, none⟩ = some (.int .u64 0) := by simp [World.cell?, k1]
  have f0 : W6.frozen? ⟨w.heap.size + 1, 0, none⟩ = false := by simp [World.frozen?, k1]
  have f1 : W6.frozen? ⟨w.heap.size + 1, 1, none⟩ = false := by simp [World.frozen?, k1]
  have f2 : W6.frozen? ⟨w.heap.size + 1, 2, none⟩ = false := by simp [World.frozen?, k1]
  have f3 : W6.frozen? ⟨w.heap.size + 1, 3, none⟩ = false := by simp [World.frozen?, k1]
  have f4 : W6.frozen? ⟨w.heap.size + 1, 4, none⟩ = false := by simp [World.frozen?, k1]
  clear hW6 hb6 k1 k2 i1 i2 hB5 hg hrow hb5 hcv
  have hwl : (WM.wordsOf (bsN s)).length = (wordsN s).length := rfl
  rw [hwl]
  clear hwl
  generalize hxs : wordsN s = xs at *
  go_wp2_with fail
  refine bodyPost_ret (v := .agg (arr5 xs)) (by simp [results, Tryz.results136, go_sem, World.cell?_setCell_same', d0, d1, d2, d3, d4]) rfl ⟨by rw [hxs], ?_⟩
  exact ((((HB6.out.setCell (p := ⟨w.heap.size + 1, 0, none⟩) (Nat.le_succ _) _).setCell (p := ⟨w.heap.size + 1, 1, none⟩) (Nat.le_succ _) _).setCell (p := ⟨w.heap.size + 1, 2, none⟩) (Nat.le_succ _) _).setCell (p := ⟨w.heap.size + 1, 3, none⟩) (Nat.le_succ _) _).setCell (p := ⟨w.heap.size + 1, 4, none⟩) (Nat.le_succ _) _
end Go.Proofs.YtaebipopmefkpaaGreatDoor

/-
  The arithmetic of sums: each step is one to one in the word and in the sum.
-/
namespace Go.Proofs.YtaebipopmefkpaaGreatDoor
namespace SM
/-- One word taken into a sum. -/
def mix (s x : Nat) : Nat := (s ^^^ x) * 1099511628211 % 18446744073709551616
def sumFrom (s : Nat) (l : List Nat) : Nat := l.foldl mix s
/-- The sum of no words. -/
def start : Nat := 14695981039346656037
def sumOf (l : List Nat) : Nat := sumFrom start l
def sealOf (l : List Nat) : Nat := max (sumOf l) 1
theorem mix_lt (s x : Nat) : mix s x < 18446744073709551616 := Nat.mod_lt _ (by decide)
theorem sumFrom_cons (s a : Nat) (r : List Nat) : sumFrom s (a :: r) = sumFrom (mix s a) r := by unfold sumFrom; rw [List.foldl_cons]
theorem sumFrom_nil (s : Nat) : sumFrom s [] = s := by unfold sumFrom; rw [List.foldl_nil]
theorem sumFrom_lt (l : List Nat) : ∀ s, s < 18446744073709551616 → sumFrom s l < 18446744073709551616 := by
  induction l with
  | nil => intro s h; rw [sumFrom_nil]; exact h
  | cons a r ih => intro s _; rw [sumFrom_cons]; exact ih _ (mix_lt s a)
theorem start_lt : start < 18446744073709551616 := by decide
theorem sumOf_lt (l : List Nat) : sumOf l < 18446744073709551616 := sumFrom_lt l _ start_lt
theorem sealOf_lt (l : List Nat) : sealOf l < 18446744073709551616 := by have := sumOf_lt l; unfold sealOf; omega
theorem sealOf_pos (l : List Nat) : 1 ≤ sealOf l := by unfold sealOf; omega
theorem sumFrom_append (s : Nat) (a b : List Nat) : sumFrom s (a ++ b) = sumFrom (sumFrom s a) b := by unfold sumFrom; rw [List.foldl_append]
theorem sumFrom_snoc (s : Nat) (a : List Nat) (x : Nat) : sumFrom s (a ++ [x]) = mix (sumFrom s a) x := by unfold sumFrom; rw [List.foldl_append, List.foldl_cons, List.foldl_nil]
theorem take_snoc (l : List Nat) (k : Nat) (h : k < l.length) : l.take (k + 1) = l.take k ++ [l[k]?.getD 0] := by
  rw [List.take_succ_eq_append_getElem h]; simp [h]
/-- The sum up to a place, and one word more. -/
theorem sumFrom_step (s : Nat) (l : List Nat) (k : Nat) (h : k < l.length) : sumFrom s (l.take (k + 1)) = mix (sumFrom s (l.take k)) (l[k]?.getD 0) := by rw [take_snoc l k h, sumFrom_snoc]
theorem inv_mod (p q m k c : Nat) (h : p * q = m * k + 1) (hc : c < m) : (c * p % m) * q % m = c := by
  rw [Nat.mod_mul_mod, Nat.mul_assoc, h, Nat.mul_add, Nat.mul_one, Nat.mul_left_comm, Nat.mul_add_mod, Nat.mod_eq_of_lt hc]
theorem mul_inj_at (p q m k a b : Nat) (h : p * q = m * k + 1) (ha : a < m) (hb : b < m) (e : a * p % m = b * p % m) : a = b := by
  rw [← inv_mod p q m k a h ha, e, inv_mod p q m k b h hb]
theorem inv_num : 1099511628211 * 14886173955864302971 = 18446744073709551616 * 887285111055 + 1 := by decide +kernel
/-- The factor is odd: it has an inverse. -/
theorem mul_inj (a b : Nat) (ha : a < 18446744073709551616) (hb : b < 18446744073709551616) (h : a * 1099511628211 % 18446744073709551616 = b * 1099511628211 % 18446744073709551616) : a = b :=
  mul_inj_at _ _ _ _ a b inv_num ha hb h
theorem xor_lt (a b : Nat) (ha : a < 18446744073709551616) (hb : b < 18446744073709551616) : a ^^^ b < 18446744073709551616 := Nat.xor_lt_two_pow (n := 64) ha hb
theorem xor_inj_right (s x y : Nat) (h : s ^^^ x = s ^^^ y) : x = y := by
  have := congrArg (s ^^^ ·) h
  simpa [← Nat.xor_assoc] using this
theorem xor_inj_left (s t x : Nat) (h : s ^^^ x = t ^^^ x) : s = t := xor_inj_right x s t (by rw [Nat.xor_comm x s, Nat.xor_comm x t, h])
theorem mix_inj_right (s x y : Nat) (hs : s < 18446744073709551616) (hx : x < 18446744073709551616) (hy : y < 18446744073709551616) (h : mix s x = mix s y) : x = y :=
  xor_inj_right s x y (mul_inj _ _ (xor_lt _ _ hs hx) (xor_lt _ _ hs hy) h)
theorem mix_inj_left (s t x : Nat) (hs : s < 18446744073709551616) (ht : t < 18446744073709551616) (hx : x < 18446744073709551616) (h : mix s x = mix t x) : s = t :=
  xor_inj_left s t x (mul_inj _ _ (xor_lt _ _ hs hx) (xor_lt _ _ ht hx) h)
theorem sumFrom_inj (l : List Nat) : ∀ s t, s < 18446744073709551616 → t < 18446744073709551616 → (∀ x ∈ l, x < 18446744073709551616) → sumFrom s l = sumFrom t l → s = t := by
  induction l with
  | nil => intro s t _ _ _ h; rw [sumFrom_nil, sumFrom_nil] at h; exact h
  | cons a r ih =>
    intro s t hs ht hl h
    rw [sumFrom_cons, sumFrom_cons] at h
    have := ih (mix s a) (mix t a) (mix_lt _ _) (mix_lt _ _) (fun x hx => hl x (List.mem_cons_of_mem _ hx)) h
    exact mix_inj_left s t a hs ht (hl a (List.mem_cons_self ..)) this
/-- Words of which one alone is another one have unlike sums. -/
theorem sum_set_ne (l : List Nat) (k x s : Nat) (hk : k < l.length) (hs : s < 18446744073709551616) (hl : ∀ y ∈ l, y < 18446744073709551616) (hx : x < 18446744073709551616) (hne : x ≠ l[k]?.getD 0) : sumFrom s l ≠ sumFrom s (l.set k x) := by
  intro h
  have e1 : l = l.take k ++ l[k]?.getD 0 :: l.drop (k + 1) := by
    conv => lhs; rw [← List.take_append_drop k l, List.drop_eq_getElem_cons hk]
    simp [hk]
  have e2 : l.set k x = l.take k ++ x :: l.drop (k + 1) := List.set_eq_take_append_cons_drop ▸ by simp [hk]
  rw [e2] at h
  conv at h => lhs; rw [e1]
  rw [sumFrom_append, sumFrom_append, sumFrom_cons, sumFrom_cons] at h
  have hd : ∀ y ∈ l.drop (k + 1), y < 18446744073709551616 := fun y hy => hl y (List.mem_of_mem_drop hy)
  have hlk : l[k]?.getD 0 < 18446744073709551616 := by simp [hk]; exact hl _ (List.getElem_mem hk)
  have := sumFrom_inj (l.drop (k + 1)) _ _ (mix_lt _ _) (mix_lt _ _) hd h
  exact hne (mix_inj_right _ _ _ (sumFrom_lt _ _ hs) hlk hx this).symm
theorem mix_int (s x : Nat) (hs : s < 18446744073709551616) (hx : x < 18446744073709551616) : IntKind.u64.wrap (bits .xor .u64 (s : Int) (x : Int) * 1099511628211) = ((mix s x : Nat) : Int) := by
  rw [u64_xor_nat s x hs hx]
  unfold mix
  generalize s ^^^ x = y
  show ((y : Int) * 1099511628211) % 18446744073709551616 = _
  rw [Int.natCast_emod]
  rfl
end SM
end Go.Proofs.YtaebipopmefkpaaGreatDoor

/-
  Contracts of package sum's functions: take, told, seal, fold, More, Of, Seal, Sealed.
-/
namespace Go.Proofs.YtaebipopmefkpaaGreatDoor
open Go.RowKit Go.Shelf

def U64s (l : List Nat) : Prop := ∀ x ∈ l, x < 18446744073709551616
theorem U64s.at {l : List Nat} (h : U64s l) (k : Nat) : l[k]?.getD 0 < 18446744073709551616 := by
  by_cases hk : k < l.length
  · simp [hk]; exact h _ (List.getElem_mem hk)
  · simp [List.getElem?_eq_none (by omega : l.length ≤ k)]
end Go.Proofs.YtaebipopmefkpaaGreatDoor

/-
  Contracts of the document's answers for sums (waterlineref02): More, Of, Seal.
-/
namespace Go.Proofs.YtaebipopmefkpaaGreatDoor
open Go.RowKit Go.Shelf

end Go.Proofs.YtaebipopmefkpaaGreatDoor

/-
  Contracts of the document's answers for fields (waterlineref01: Bit, With, Right, Get, Put), and num.
-/
namespace Go.Proofs.YtaebipopmefkpaaGreatDoor
open Go.RowKit

theorem bit_any (n i : Nat) (hi : i < 64) (w : World) : Calls Tryz.prog 143 #[.int .u64 n, .int .i64 i] w fun e w' => e = .returned (.bool (n.testBit i)) ∧ w = w' := by
  have h1 : (i : Int) < 64 := by omega
  go_enter Tryz.func143, Tryz.ntmps143
  go_wp2
  go_ret
  exact ⟨ret_bool (WM.bit_int n i), rfl⟩
theorem with_any' (n i : Nat) (b : Bool) (hi : i < 64) (hn : n < 18446744073709551616) (w : World) : Calls Tryz.prog 142 #[.int .u64 n, .int .i64 i, .bool b] w fun e w' => e = .returned (.int .u64 (WM.withN n i b : Nat)) ∧ w = w' := by
  have h1 : (i : Int) < 64 := by omega
  by_cases hb : n.testBit i = b
  · have H : Hid (WM.withN n i b = n) := if_pos hb
    go_enter Tryz.func142, Tryz.ntmps142
    go_wp2_with fail
    refine (bit_any n i hi _).mono ?_
    rintro e w1 ⟨rfl, rfl⟩
    go_wp2_with fail
    go_ret
    exact ⟨ret_int (by rw [H.out]), rfl⟩
  · have H : Hid (WM.withN n i b = n ^^^ 2 ^ i) := if_neg hb
    have hb' : (n.testBit i == b) = false := by simpa using hb
    go_enter Tryz.func142, Tryz.ntmps142
    go_wp2_with fail
    refine (bit_any n i hi _).mono ?_
    rintro e w1 ⟨rfl, rfl⟩
    go_wp2_with fail
    go_ret
    refine ⟨ret_int ?_, rfl⟩
    rw [H.out, WM.pow_int i hi, u64_xor_nat _ _ hn (WM.pow_lt64 i hi)]
/-- The document's Get. -/
theorem refGet_any (n f v : Nat) (h : f + v ≤ 64) (_ : n < 18446744073709551616) (w : World) :
    Calls Tryz.prog 124 #[.int .u64 n, .agg #[.int .i64 f, .int .i64 v]] w fun e w' => e = .returned (.int .u64 (WM.getN n f v : Nat)) ∧ Below w.heap.size w w' := by
  go_enter Tryz.func124, Tryz.ntmps124
  go_wp2
  go_loop [5, 6] (fun t i => ∃ k : Nat, k ≤ v ∧ i = .int .i64 k ∧ t = .int .u64 (WM.getTo n f k : Nat)) (fun _ i => v - (intOf i).toNat)
  case atStart => exact ⟨0, Nat.zero_le _, rfl, by unfold WM.getTo WM.getN; simp [Nat.mod_one]⟩
  case round =>
    obtain ⟨k, hk, rfl, rfl⟩ := hrel
    have hlt64 : WM.getTo n f k < 18446744073709551616 := WM.getN_lt64 n f k (by omega)
    by_cases hlt : k < v
    · have H := Lib.hid (WM.getTo_succ n f k)
      have e1 : (f : Int) + (k : Int) = ((f + k : Nat) : Int) := by omega
      have H1 := Lib.hid e1; clear e1
      go_wp2_with fail
      rw [H1.out]
      refine (bit_any n (f + k) (by omega) _).mono ?_
      rintro e w1 ⟨rfl, rfl⟩
      go_wp2_with fail
      refine (with_any' (WM.getTo n f k) k _ (by omega) hlt64 _).mono ?_
      rintro e w1 ⟨rfl, rfl⟩
      go_wp2_with fail
      go_round
      case rel => exact ⟨k + 1, by omega, by go_num, by rw [H.out]⟩
      case measure => simp [intOf]; omega
    · go_wp2
      go_ret
      obtain rfl : k = v := by omega
      exact ⟨rfl, (by repeat (first | exact Below.refl _ _ | assumption | refine Below.drew ?_ | refine below_drewN ?_ _ | refine Below.alloc ?_ (by (try simp) <;> omega) _ | refine Below.setCell ?_ (by (try simp) <;> omega) _ | refine Below.trans ?_ (Below.mono (by assumption) (by (try simp) <;> omega))))⟩
theorem quiet_add_left {P : Program} {f : FuncId} {args : Array Value} {w : World} {a n : Nat} {v : Value}
    (h : Calls P f args (w.drewN (a + n)) fun e w' => e = .returned v ∧ w.drewN (a + n) = w') :
    Calls P f args (w.drewN (a + n)) fun e w'' => e = .returned v ∧ ∃ m, w'' = w.drewN (a + m) :=
  h.mono fun _ _ ⟨he, hm⟩ => ⟨he, n, hm.symm⟩
theorem quiet_left {P : Program} {f : FuncId} {args : Array Value} {w : World} {n : Nat} {v : Value}
    (h : Calls P f args (w.drewN n) fun e w' => e = .returned v ∧ w.drewN n = w') : Calls P f args (w.drewN n) fun e w'' => e = .returned v ∧ ∃ m, w'' = w.drewN m :=
  h.mono fun _ _ ⟨he, hm⟩ => ⟨he, n, hm.symm⟩
/-- What the document's Put answers. -/
def PutOut (n f v m : Nat) (e : Ending) : Prop := if m < 2 ^ v then e = .returned (.tuple #[.int .u64 (WM.putN n f v m : Nat), .bool true]) else e = .returned (.tuple #[.int .u64 0, .bool false])
end Go.Proofs.YtaebipopmefkpaaGreatDoor

/-
  The document's Words, bit by bit: what its list holds on the way. Plain arithmetic.
-/
namespace Go.Proofs.YtaebipopmefkpaaGreatDoor
namespace WM
/-- The first n words when m bits have gone in. -/
def upTo (bs : List Nat) (n m : Nat) : List Nat := (List.range n).map fun j => wordAt bs j % 2 ^ (m - 64 * j)
theorem upTo_length (bs : List Nat) (n m : Nat) : (upTo bs n m).length = n := by simp [upTo]
theorem upTo_at (bs : List Nat) (n m j : Nat) (h : j < n) : at' (upTo bs n m) j = wordAt bs j % 2 ^ (m - 64 * j) := by
  unfold upTo
  rw [at_map_range, if_pos h]
theorem upTo_more (bs : List Nat) (n : Nat) : upTo bs (n + 1) (64 * n) = upTo bs n (64 * n) ++ [0] := by
  unfold upTo
  rw [List.range_succ, List.map_append]
  simp [Nat.mod_one]
theorem mod_bit (x k j : Nat) : (x % 2 ^ k).testBit j = (decide (j < k) && x.testBit j) := Nat.testBit_mod_two_pow ..
theorem upTo_step (bs : List Nat) (hb : Bytes256 bs) (i k : Nat) (hk : k < 8) :
    upTo bs (i / 8 + 1) (8 * i + k + 1) = (upTo bs (i / 8 + 1) (8 * i + k)).set (i / 8) (withN (wordAt bs (i / 8) % 2 ^ (8 * (i % 8) + k)) (8 * (i % 8) + k) ((at' bs i).testBit k)) := by
  apply list_ext
  · rw [List.length_set, upTo_length, upTo_length]
  · intro j hj
    rw [upTo_length] at hj
    rw [upTo_at _ _ _ _ hj]
    show _ = ((upTo bs (i / 8 + 1) (8 * i + k)).set (i / 8) _)[j]?.getD 0
    by_cases hji : j = i / 8
    · subst hji
      rw [List.getElem?_set_self (by rw [upTo_length]; omega)]
      show _ = withN _ _ _
      rw [show 8 * i + k + 1 - 64 * (i / 8) = 8 * (i % 8) + k + 1 by omega]
      apply Nat.eq_of_testBit_eq
      intro t
      rw [withN_bit, mod_bit, mod_bit, wordAt_bit bs hb]
      by_cases h1 : t = 8 * (i % 8) + k
      · subst h1
        rw [if_pos rfl, show 8 * (i / 8) + (8 * (i % 8) + k) / 8 = i by omega, show (8 * (i % 8) + k) % 8 = k by omega]
        simp [show 8 * (i % 8) + k < 64 by omega]
      · rw [if_neg h1]
        by_cases h2 : t < 8 * (i % 8) + k
        · simp [h2, show t < 8 * (i % 8) + k + 1 by omega]
        · simp [h2, show ¬ t < 8 * (i % 8) + k + 1 by omega]
    · rw [List.getElem?_set_ne (by omega)]
      show _ = at' (upTo bs (i / 8 + 1) (8 * i + k)) j
      rw [upTo_at _ _ _ _ hj]
      have h64 : ∀ m, 64 ≤ m → wordAt bs j % 2 ^ m = wordAt bs j := fun m hm =>
        Nat.mod_eq_of_lt (Nat.lt_of_lt_of_le (wordAt_lt bs j) (Nat.le_trans (by decide : 18446744073709551616 ≤ 2 ^ 64) (Nat.pow_le_pow_right (by decide) hm)))
      rw [h64 _ (by omega), h64 _ (by omega)]
theorem upTo_end (bs : List Nat) (hb : Bytes256 bs) : upTo bs (need bs.length) (8 * bs.length) = wordsOf bs := by
  apply list_ext
  · rw [upTo_length, wordsOf_length]
  · intro j hj
    rw [upTo_length] at hj
    rw [upTo_at _ _ _ _ hj, wordsOf_at, if_pos hj]
    apply Nat.eq_of_testBit_eq
    intro t
    rw [mod_bit, wordAt_bit bs hb]
    by_cases h : t < 8 * bs.length - 64 * j
    · simp [h]
    · have e : at' bs (8 * j + t / 8) = 0 := at_none _ _ (by omega)
      simp [h, e]
theorem upTo_lt (bs : List Nat) (j m : Nat) : wordAt bs j % 2 ^ m < 18446744073709551616 := Nat.lt_of_le_of_lt (Nat.mod_le _ _) (wordAt_lt bs j)
end WM
end Go.Proofs.YtaebipopmefkpaaGreatDoor

/-
  Contract of the document's Words (waterlineref01).
-/
namespace Go.Proofs.YtaebipopmefkpaaGreatDoor
open Go.RowKit

/-- What the slice holds, as values. -/
def upVals (bs : List Nat) (n m : Nat) : List Value := (WM.upTo bs n m).map fun y : Nat => Value.int .u64 (y : Nat)
theorem upVals_length (bs : List Nat) (n m : Nat) : (upVals bs n m).length = n := by simp [upVals, WM.upTo_length]
theorem upVals_at (bs : List Nat) (n m j : Nat) (h : j < n) : (upVals bs n m)[j]? = some (.int .u64 ((WM.wordAt bs j % 2 ^ (m - 64 * j) : Nat) : Int)) := by
  unfold upVals WM.upTo
  rw [List.getElem?_map, List.getElem?_map, List.getElem?_range h]; rfl
theorem upVals_more (bs : List Nat) (n : Nat) : upVals bs (n + 1) (64 * n) = upVals bs n (64 * n) ++ [.int .u64 0] := by
  unfold upVals
  rw [WM.upTo_more, List.map_append]; rfl
theorem upVals_step (bs : List Nat) (hb : WM.Bytes256 bs) (i k : Nat) (hk : k < 8) :
    upVals bs (i / 8 + 1) (8 * i + k + 1) = (upVals bs (i / 8 + 1) (8 * i + k)).set (i / 8) (.int .u64 ((WM.withN (WM.wordAt bs (i / 8) % 2 ^ (8 * (i % 8) + k)) (8 * (i % 8) + k) ((WM.at' bs i).testBit k) : Nat) : Int)) := by
  unfold upVals
  rw [WM.upTo_step bs hb i k hk, List.map_set]
set_option maxRecDepth 100000 in
set_option maxHeartbeats 1000000 in
theorem refWords_own (v : Value) (xs : List Nat) (hl : xs.length ≤ 4096) (hx : WM.Bytes256 xs) (w : World) (hs : Sl w .u8 v xs) :
    Calls Tryz.prog 125 #[v] w fun e w' => ∃ r, e = .returned r ∧ w'.ownsRow w.heap.size 22 1 r (WM.wordsOf xs).length (valsOf .u64 (WM.wordsOf xs)) ∧ Below w.heap.size w w' := by
  obtain ⟨i0, hi, hz0, hz1, hz2⟩ := info_parts infoU64
  obtain ⟨a, c, b, off, rfl, hlc, ha, hc⟩ := hs.cell
  clear hs
  have k1 : (xs.length : Int) ≤ 4096 := by omega
  have HA := Lib.hid ha; clear ha
  have HC := Lib.hid hc; clear hc
  have HX := Lib.hid hx; clear hx
  go_enter Tryz.func125, Tryz.ntmps125
  go_wp2
  go_loopw [3, 4] (fun r i wr => ∃ (k : Nat) (q : Value), q = r ∧ k ≤ xs.length ∧ i = .int .i64 k ∧ wr.ownsRow w.heap.size 22 1 r (WM.need k) (upVals xs (WM.need k) (8 * k)) ∧ Below w.heap.size w wr) (fun _ i _ => xs.length - (intOf i).toNat)
  case atStart => exact ⟨0, _, rfl, Nat.zero_le _, rfl, by simp [upVals, WM.upTo, WM.need, World.ownsRow_nil], Below.refl _ _⟩
  case round =>
    obtain ⟨k, r, rfl, hk, rfl, hrow, hb⟩ := hrel
    have z := hb.size
    by_cases hlt : k < xs.length
    · have k5 : (k : Int) < (xs.length : Int) := by omega
      obtain rfl := HA.out (by omega)
      have hbW := (HC.out (by omega)).1
      have hxk := HX.out k
      obtain ⟨x, hx1⟩ : ∃ x, x = xs[k]?.getD 0 := ⟨_, rfl⟩
      have HCX : Hid (∀ W', Below w.heap.size w W' → W'.cell? ⟨b, off + k, none⟩ = some (.int .u8 (x : Nat))) := fun W' hb' => by
        rw [hx1]; exact (hb'.cell (p := ⟨b, off + k, none⟩) hbW).trans ((HC.out (by omega)).2 k hlt)
      have hx256 : x < 256 := by rw [hx1]; exact hxk
      have HX1 := Lib.hid hx1; clear hx1 hxk
      by_cases h8 : k % 8 = 0
      · have k6 : (k : Int) % 8 = 0 := by omega
        have hn : WM.need k = k / 8 := by unfold WM.need; omega
        have HU := Lib.hid (upVals_more xs (k / 8))
        rw [hn, show 8 * k = 64 * (k / 8) by omega] at hrow
        have hk8 : k / 8 ≤ 512 := by omega
        go_wp2_with (at_builtin; go_must (refine wpList_append_own _ rfl _ _ 174 rfl w.heap.size 22 i0 (.int .u64 0) 1 8 Tryz.underlying174 hi hz0 hz1 hz2 rfl (by decide) r (k / 8) _ rfl (hrow.alloc _) ⟨wr.heap.size, 0, none⟩ 1 1 [.int .u64 0] rfl rfl (cell_one_new _ _ _) (by simp [Value.oneCell']) (by unfold maxLen; omega) (by omega) (by simp; omega) ?_); intro v' w2 hown' hgrow _)
        obtain ⟨g, cap, rfl⟩ := ownsRow_succ hown'
        rw [← HU.out] at hown'
        have hb2 : Below w.heap.size w w2 := (hb.alloc (by omega) _).grown hgrow (by simp; omega) (fun j e => by have := hrow.lt j e; omega)
        have hn1 : Hid (k / 8 + 1 = WM.need (k + 1)) := by show _ = _; unfold WM.need; omega
        clear hgrow hb hrow z
        have hrow2 : Hid (w2.ownsRow w.heap.size 22 1 (.slice (some ⟨g, 0, none⟩) (k / 8 + 1) cap) (k / 8 + 1) (upVals xs (k / 8 + 1) (8 * k + 0))) := by
          rw [show 8 * k + 0 = 64 * (k / 8) by omega]; exact hown'
        clear hown'
        generalize w2 = wq at *
        go_loopw [5] (fun j wt => ∃ t : Nat, t ≤ 8 ∧ j = .int .i64 t ∧ wt.ownsRow w.heap.size 22 1 (.slice (some ⟨g, 0, none⟩) (k / 8 + 1) cap) (k / 8 + 1) (upVals xs (k / 8 + 1) (8 * k + t)) ∧ Below w.heap.size w wt) (fun j _ => 8 - (intOf j).toNat)
        case atStart => exact ⟨0, by omega, rfl, hrow2.out, hb2⟩
        case round =>
          obtain ⟨t, ht, rfl, hrow3, hb3⟩ := hrel
          by_cases htl : t < 8
          · have c1 := HCX.out wr hb3
            have c2 : wr.cell? ⟨g, k / 8, none⟩ = some (.int .u64 ((WM.wordAt xs (k / 8) % 2 ^ (8 * (k % 8) + t) : Nat) : Int)) := by
              have := World.ownsRow.cellAt hrow3 (k / 8) (by omega)
              rw [upVals_at _ _ _ _ (by omega), show 8 * k + t - 64 * (k / 8) = 8 * (k % 8) + t by omega] at this
              exact this
            have hy := WM.upTo_lt xs (k / 8) (8 * (k % 8) + t)
            have HUS := upVals_step xs HX.out k t htl
            rw [show WM.at' xs k = x from HX1.out.symm] at HUS
            have hlt3 := ownsRow_lt hrow3
            have hfz : wr.frozen? ⟨g, k / 8, none⟩ = false := World.ownsRow.frozenAt hrow3 _
            have hrow4 := Lib.hid (ownsRow_set hrow3.drew (j := k / 8) (.int .u64 ((WM.withN (WM.wordAt xs (k / 8) % 2 ^ (8 * (k % 8) + t)) (8 * (k % 8) + t) (x.testBit t) : Nat) : Int)))
            rw [← HUS] at hrow4
            have hb4 := Lib.hid (hb3.drew.setCell (p := ⟨g, k / 8, none⟩) hlt3.1 (.int .u64 ((WM.withN (WM.wordAt xs (k / 8) % 2 ^ (8 * (k % 8) + t)) (8 * (k % 8) + t) (x.testBit t) : Nat) : Int)))
            have hs64 : 8 * (k % 8) + t < 64 := by omega
            have ew : IntKind.i64.wrap (8 * ((k : Int) % 8) + (t : Int)) = ((8 * (k % 8) + t : Nat) : Int) := (IntWalk.i64_in _ (by omega)).trans (by omega)
            have ew2 : IntKind.i64.wrap (8 * ((k : Int) % 8)) = 8 * ((k : Int) % 8) := IntWalk.i64_in _ (by omega)
            have eq8 : IntKind.i64.wrap ((k : Int) / 8) = ((k / 8 : Nat) : Int) := (IntWalk.i64_in _ (by omega)).trans (by omega)
            have exu : IntKind.u64.wrap (x : Int) = (x : Int) := IntWalk.u64_in _ (by omega)
            have htd : ((k : Int)).tmod 8 = (k : Int) % 8 := Int.tmod_eq_emod_of_nonneg (by omega)
            have htq : ((k : Int)).tdiv 8 = (k : Int) / 8 := Int.tdiv_eq_ediv_of_nonneg (by omega)
            have hq8 : k / 8 < k / 8 + 1 := by omega
            clear hrow3 HUS k6 h8 hn
            generalize hyy : WM.wordAt xs (k / 8) % 2 ^ (8 * (k % 8) + t) = y at *
            generalize hss : 8 * (k % 8) + t = s at *
            clear hyy
            have HSS := Lib.hid hss; clear hss
            have HN1 := hn1
            clear hn1
            generalize hqq : k / 8 = q at *
            have HQQ := Lib.hid hqq; clear hqq
            have hqi : (q : Int) < (q : Int) + 1 := by omega
            go_wp2
            refine wp_region_still_tail 21 (by kernel_rfl) (by kernel_rfl) ?_
            simp only [List.take_succ_cons, List.take_zero, List.drop_succ_cons, List.drop_zero]
            repeat still_step
            still_call ((bit_any x t (Nat.lt_of_lt_of_le htl (by decide)) _).mono fun _ _ ⟨h1, h2⟩ => ⟨h1, h2.symm⟩)
            repeat still_step
            still_call ((with_any' y s _ hs64 hy _).mono fun _ _ ⟨h1, h2⟩ => ⟨h1, h2.symm⟩)
            refine wpStill_nil ?_
            change wpList _ _ _ _ _ wr.drew
            go_wp2
            go_roundw
            case rel => exact ⟨t + 1, by omega, by go_num, hrow4.out, hb4.out⟩
            case measure => simp [intOf]; omega
          · obtain rfl : t = 8 := by omega
            have hrow4 := Lib.hid hrow3
            clear hrow3
            go_wp2
            go_roundw
            case rel => exact ⟨k + 1, _, rfl, by omega, by go_num, by rw [← hn1.out]; exact hrow4.out, hb3⟩
            case measure => simp [intOf]; omega
      · have k6 : ¬ (k : Int) % 8 = 0 := by omega
        have hn : WM.need k = k / 8 + 1 := by unfold WM.need; omega
        rw [hn] at hrow
        obtain ⟨g, cap, rfl⟩ := ownsRow_succ hrow
        have hb2 := hb
        have hn1 : Hid (k / 8 + 1 = WM.need (k + 1)) := by show _ = _; unfold WM.need; omega
        clear hb z
        have hrow2 : Hid (wr.ownsRow w.heap.size 22 1 (.slice (some ⟨g, 0, none⟩) (k / 8 + 1) cap) (k / 8 + 1) (upVals xs (k / 8 + 1) (8 * k + 0))) := hrow
        clear hrow
        go_wp2
        go_loopw [5] (fun j wt => ∃ t : Nat, t ≤ 8 ∧ j = .int .i64 t ∧ wt.ownsRow w.heap.size 22 1 (.slice (some ⟨g, 0, none⟩) (k / 8 + 1) cap) (k / 8 + 1) (upVals xs (k / 8 + 1) (8 * k + t)) ∧ Below w.heap.size w wt) (fun j _ => 8 - (intOf j).toNat)
        case atStart => exact ⟨0, by omega, rfl, hrow2.out, hb2⟩
        case round =>
          obtain ⟨t, ht, rfl, hrow3, hb3⟩ := hrel
          by_cases htl : t < 8
          · have c1 := HCX.out wr hb3
            have c2 : wr.cell? ⟨g, k / 8, none⟩ = some (.int .u64 ((WM.wordAt xs (k / 8) % 2 ^ (8 * (k % 8) + t) : Nat) : Int)) := by
              have := World.ownsRow.cellAt hrow3 (k / 8) (by omega)
              rw [upVals_at _ _ _ _ (by omega), show 8 * k + t - 64 * (k / 8) = 8 * (k % 8) + t by omega] at this
              exact this
            have hy := WM.upTo_lt xs (k / 8) (8 * (k % 8) + t)
            have HUS := upVals_step xs HX.out k t htl
            rw [show WM.at' xs k = x from HX1.out.symm] at HUS
            have hlt3 := ownsRow_lt hrow3
            have hfz : wr.frozen? ⟨g, k / 8, none⟩ = false := World.ownsRow.frozenAt hrow3 _
            have hrow4 := Lib.hid (ownsRow_set hrow3.drew (j := k / 8) (.int .u64 ((WM.withN (WM.wordAt xs (k / 8) % 2 ^ (8 * (k % 8) + t)) (8 * (k % 8) + t) (x.testBit t) : Nat) : Int)))
            rw [← HUS] at hrow4
            have hb4 := Lib.hid (hb3.drew.setCell (p := ⟨g, k / 8, none⟩) hlt3.1 (.int .u64 ((WM.withN (WM.wordAt xs (k / 8) % 2 ^ (8 * (k % 8) + t)) (8 * (k % 8) + t) (x.testBit t) : Nat) : Int)))
            have hs64 : 8 * (k % 8) + t < 64 := by omega
            have ew : IntKind.i64.wrap (8 * ((k : Int) % 8) + (t : Int)) = ((8 * (k % 8) + t : Nat) : Int) := (IntWalk.i64_in _ (by omega)).trans (by omega)
            have ew2 : IntKind.i64.wrap (8 * ((k : Int) % 8)) = 8 * ((k : Int) % 8) := IntWalk.i64_in _ (by omega)
            have eq8 : IntKind.i64.wrap ((k : Int) / 8) = ((k / 8 : Nat) : Int) := (IntWalk.i64_in _ (by omega)).trans (by omega)
            have exu : IntKind.u64.wrap (x : Int) = (x : Int) := IntWalk.u64_in _ (by omega)
            have htd : ((k : Int)).tmod 8 = (k : Int) % 8 := Int.tmod_eq_emod_of_nonneg (by omega)
            have htq : ((k : Int)).tdiv 8 = (k : Int) / 8 := Int.tdiv_eq_ediv_of_nonneg (by omega)
            have hq8 : k / 8 < k / 8 + 1 := by omega
            clear hrow3 HUS k6 h8 hn
            generalize hyy : WM.wordAt xs (k / 8) % 2 ^ (8 * (k % 8) + t) = y at *
            generalize hss : 8 * (k % 8) + t = s at *
            clear hyy
            have HSS := Lib.hid hss; clear hss
            have HN1 := hn1
            clear hn1
            generalize hqq : k / 8 = q at *
            have HQQ := Lib.hid hqq; clear hqq
            have hqi : (q : Int) < (q : Int) + 1 := by omega
            go_wp2
            refine wp_region_still_tail 21 (by kernel_rfl) (by kernel_rfl) ?_
            simp only [List.take_succ_cons, List.take_zero, List.drop_succ_cons, List.drop_zero]
            repeat still_step
            still_call ((bit_any x t (Nat.lt_of_lt_of_le htl (by decide)) _).mono fun _ _ ⟨h1, h2⟩ => ⟨h1, h2.symm⟩)
            repeat still_step
            still_call ((with_any' y s _ hs64 hy _).mono fun _ _ ⟨h1, h2⟩ => ⟨h1, h2.symm⟩)
            refine wpStill_nil ?_
            change wpList _ _ _ _ _ wr.drew
            go_wp2
            go_roundw
            case rel => exact ⟨t + 1, by omega, by go_num, hrow4.out, hb4.out⟩
            case measure => simp [intOf]; omega
          · obtain rfl : t = 8 := by omega
            have hrow4 := Lib.hid hrow3
            clear hrow3
            go_wp2
            go_roundw
            case rel => exact ⟨k + 1, _, rfl, by omega, by go_num, by rw [← hn1.out]; exact hrow4.out, hb3⟩
            case measure => simp [intOf]; omega
    · obtain rfl : k = xs.length := by omega
      go_wp2
      go_ret
      refine ⟨r, rfl, ?_, hb⟩
      rw [← WM.upTo_end xs HX.out]
      rw [WM.upTo_length]; exact hrow
theorem refWords_any (v : Value) (xs : List Nat) (hl : xs.length ≤ 4096) (hx : WM.Bytes256 xs) (w : World) (hs : Sl w .u8 v xs) :
    Calls Tryz.prog 125 #[v] w fun e w' => ∃ r, e = .returned r ∧ Sl w' .u64 r (WM.wordsOf xs) ∧ Below w.heap.size w w' :=
  (refWords_own v xs hl hx w hs).mono fun _ _ ⟨r, h1, h2, h3⟩ => ⟨r, h1, own_sl h2, h3⟩
end Go.Proofs.YtaebipopmefkpaaGreatDoor
