/-
  Texts NdH to NdJE, as one.
-/
import Derived.Test.YtfdnlgmgjmbafaaGreatDoorMh5
import Derived.WalkSpells
import Derived.Laws.EntriesVeiled
/-
  node: bounds, numbers, chunks.
-/
namespace Go.Proofs.YtfdnlgmgjmbafaaGreatDoor
open Go.RowKit Go.Shelf Go.Sort
attribute [local go_sem] Oper.semAt_some

/-- Does a number lie between? -/
def inB (t : Int × Int × Int) : Bool := decide (t.2.1 ≤ t.1 ∧ t.1 ≤ t.2.2)
/-- Bounds in a block. -/
def BoundsAt (w : World) (g : Nat) (L : List (Int × Int × Int)) : Prop := g < w.heap.size ∧ ∀ k (hk : k < L.length), w.cell? ⟨g, k * 3, none⟩ = some (.int .i64 L[k].1) ∧ w.cell? ⟨g, k * 3 + 1, none⟩ = some (.int .i64 L[k].2.1) ∧ w.cell? ⟨g, k * 3 + 2, none⟩ = some (.int .i64 L[k].2.2)
set_option maxRecDepth 100000 in
theorem within_any (L : List (Int × Int × Int)) (hl : L.length ≤ 100) (g : Nat) (w : World) (h : BoundsAt w g L) :
    Calls Tryz.prog 47 #[.slice (some ⟨g, 0, none⟩) L.length L.length] w fun e w' => e = .returned (.bool (L.all inB)) ∧ Below w.heap.size w w' := by
  have HC := Lib.hid h
  clear h
  obtain ⟨M, hM⟩ : ∃ M, L.length = M := ⟨_, rfl⟩
  have HM := Lib.hid hM
  rw [hM] at hl ⊢
  clear hM
  go_enter Tryz.func47, Tryz.ntmps47
  go_wp2_with fail
  go_loopw [7] (fun i wr => ∃ k : Nat, k ≤ M ∧ i = .int .i64 (k : Nat) ∧ Hid ((L.take k).all inB = true) ∧ Hid (Below w.heap.size w wr)) (fun i _ => M - (intOf i).toNat)
  case atStart => exact ⟨0, Nat.zero_le _, rfl, (show _ = _ from rfl), (show Below _ _ _ from Below.refl _ _)⟩
  case round =>
    obtain ⟨k, hk, rfl, HT, HB⟩ := hrel
    by_cases hlt : k < M
    · have hkl : k < L.length := by rw [HM.out]; exact hlt
      obtain ⟨c0, c1, c2⟩ := HC.out.2 k hkl
      have cw : ∀ o, wr.cell? ⟨g, o, none⟩ = w.cell? ⟨g, o, none⟩ := fun o => HB.out.cell (p := ⟨g, o, none⟩) HC.out.1
      rw [← cw] at c0 c1 c2
      have HA : Hid ((L.take (k + 1)).all inB = inB L[k]) := show _ = _ by
        rw [List.take_succ_eq_append_getElem hkl, List.all_append, HT.out, List.all_cons]; simp
      have HALL : Hid (inB L[k] = false → L.all inB = false) := show _ → _ from fun h => by
        rw [Bool.eq_false_iff]
        intro hh
        rw [(List.all_eq_true.1 hh) _ (List.getElem_mem hkl)] at h
        cases h
      obtain ⟨⟨a, b, c⟩, hx⟩ : ∃ x, L[k] = x := ⟨_, rfl⟩
      rw [hx] at c0 c1 c2 HA HALL
      have k2 : (k : Int) < (M : Int) := by omega
      clear cw hx
      by_cases hab : a < b
      · have HR : Hid (L.all inB = false) := show _ = _ from HALL.out (by unfold inB; simp; omega)
        clear HALL
        go_wp2_with fail
        go_ret
        exact ⟨by rw [HR.out]; rfl, HB.out.alloc HB.out.size _⟩
      · by_cases hca : c < a
        · have HR : Hid (L.all inB = false) := show _ = _ from HALL.out (by unfold inB; simp; omega)
          clear HALL
          go_wp2_with fail
          go_ret
          exact ⟨by rw [HR.out]; rfl, HB.out.alloc HB.out.size _⟩
        · have HT2 : Hid ((L.take (k + 1)).all inB = true) := show _ = _ by rw [HA.out]; unfold inB; simp; omega
          clear HALL HA
          go_wp2_with fail
          go_roundw
          case rel => exact ⟨k + 1, by omega, by go_num, HT2, (show Below _ _ _ from HB.out.alloc HB.out.size _)⟩
          case measure => simp [intOf]; omega
    · obtain rfl : k = M := by omega
      have HR : Hid (L.all inB = true) := show _ = _ by have h := HT.out; rwa [List.take_of_length_le (by rw [HM.out]; exact Nat.le_refl _)] at h
      go_wp2_with fail
      go_ret
      exact ⟨by rw [HR.out]; rfl, HB.out⟩
/-- What a number lies between, by which function. -/
def LiesAt (f : FuncId) (lo hi : Int) : Prop := Enters Tryz.prog f ∧ ∀ (n : Int) (W : World), Calls Tryz.prog f #[.int .i64 n] W fun e w' => e = .returned (.agg #[.int .i64 n, .int .i64 lo, .int .i64 hi]) ∧ Below W.heap.size W w'
theorem needed_lies : LiesAt 64 1 1023 := ⟨enters_of Tryz.func64 (by kernel_rfl) rfl, fun n W => by
  go_enter Tryz.func64, Tryz.ntmps64
  go_wp2
  refine bodyPost_ret (v := .agg #[.int .i64 n, .int .i64 1, .int .i64 1023]) (by simp [results, Tryz.results64, go_sem]) rfl ⟨rfl, (by repeat (first | exact Below.refl _ _ | assumption | refine Below.drew ?_ | refine below_drewN ?_ _ | refine Below.alloc ?_ (by (try simp) <;> omega) _ | refine Below.setCell ?_ (by (try simp) <;> omega) _ | refine Below.trans ?_ (Below.mono (by assumption) (by (try simp) <;> omega))))⟩⟩
theorem pointed_lies : LiesAt 76 0 1023 := ⟨enters_of Tryz.func76 (by kernel_rfl) rfl, fun n W => by
  go_enter Tryz.func76, Tryz.ntmps76
  go_wp2
  refine bodyPost_ret (v := .agg #[.int .i64 n, .int .i64 0, .int .i64 1023]) (by simp [results, Tryz.results76, go_sem]) rfl ⟨rfl, (by repeat (first | exact Below.refl _ _ | assumption | refine Below.drew ?_ | refine below_drewN ?_ _ | refine Below.alloc ?_ (by (try simp) <;> omega) _ | refine Below.setCell ?_ (by (try simp) <;> omega) _ | refine Below.trans ?_ (Below.mono (by assumption) (by (try simp) <;> omega))))⟩⟩
theorem sized_lies : LiesAt 48 0 448 := ⟨enters_of Tryz.func48 (by kernel_rfl) rfl, fun n W => by
  go_enter Tryz.func48, Tryz.ntmps48
  go_wp2
  refine bodyPost_ret (v := .agg #[.int .i64 n, .int .i64 0, .int .i64 448]) (by simp [results, Tryz.results48, go_sem]) rfl ⟨rfl, (by repeat (first | exact Below.refl _ _ | assumption | refine Below.drew ?_ | refine below_drewN ?_ _ | refine Below.alloc ?_ (by (try simp) <;> omega) _ | refine Below.setCell ?_ (by (try simp) <;> omega) _ | refine Below.trans ?_ (Below.mono (by assumption) (by (try simp) <;> omega))))⟩⟩
theorem lines_lies : LiesAt 66 8 1024 := ⟨enters_of Tryz.func66 (by kernel_rfl) rfl, fun n W => by
  go_enter Tryz.func66, Tryz.ntmps66
  go_wp2
  refine bodyPost_ret (v := .agg #[.int .i64 n, .int .i64 8, .int .i64 1024]) (by simp [results, Tryz.results66, go_sem]) rfl ⟨rfl, (by repeat (first | exact Below.refl _ _ | assumption | refine Below.drew ?_ | refine below_drewN ?_ _ | refine Below.alloc ?_ (by (try simp) <;> omega) _ | refine Below.setCell ?_ (by (try simp) <;> omega) _ | refine Below.trans ?_ (Below.mono (by assumption) (by (try simp) <;> omega))))⟩⟩
theorem mostLinks_any (k : Int) (w : World) : Calls Tryz.prog 107 #[.int .i64 k] w fun e w' => e = .returned (.int .i64 (if k = 2 then 1 else 200)) ∧ w' = w := by
  by_cases h : k = 2
  · subst h
    go_enter Tryz.func107, Tryz.ntmps107
    go_wp2
    go_ret
    exact ⟨rfl, rfl⟩
  · rw [if_neg h]
    have h' : (k == 2) = false := by simpa using h
    go_enter Tryz.func107, Tryz.ntmps107
    go_wp2
    go_ret
    exact ⟨rfl, rfl⟩
theorem number_anyN (x : Int) (h0 : 0 ≤ x) (w : World) : Calls Tryz.prog 104 #[.int .u64 x] w fun e w' => w' = w ∧ ((x ≤ 1024 ∧ e = .returned (.int .i64 x)) ∨ (1024 < x ∧ e = .panicked noLine)) := by
  by_cases h : x ≤ 1024
  · go_enter Tryz.func104, Tryz.ntmps104
    go_wp2_with (go_at_call 92; refine (mustBe_any _ _).mono ?_; rintro e w' (⟨-, ⟨u, rfl⟩, rfl⟩ | ⟨h2, -, -⟩); rotate_left; · cases h2)
    go_ret
    exact ⟨rfl, .inl ⟨h, by simp⟩⟩
  · go_enter Tryz.func104, Tryz.ntmps104
    go_wp2_with (go_at_call 92; refine (mustBe_any _ _).mono ?_; rintro e w' (⟨h2, -, -⟩ | ⟨-, rfl, rfl⟩); · cases h2)
    exact ⟨rfl, rfl, .inr ⟨by omega, rfl⟩⟩
/-- A number among cells. -/
def numAt (x : Array Value) (i : Nat) : Int := match x[i]? with
  | some (.int _ n) => n
  | _ => 0
def rdNum (y : Int) (x : Array Value) (i : Nat) : Option (Array Value) := if y ≤ 1024 then some (x.setIfInBounds i (.int .i64 y)) else none
/-- What a number's part does. -/
def numS (wd i : Nat) (lo hi : Int) : NdS :=
  { ok := fun x => inB (numAt x i, lo, hi), wr := fun x l => l.set wd (numAt x i % 18446744073709551616), rd := fun l x => rdNum (l[wd]?.getD 0) x i }
/-- A closure that tells where a field is. -/
def FieldAt (w : World) (f : FuncId) (lb : Array Value) (i : Nat) : Prop := Enters Tryz.prog f ∧ ∀ (b : Nat) (W : World), Below w.heap.size w W → Calls Tryz.prog f (#[.pointer (some ⟨b, 0, none⟩)] ++ lb) W fun e w' => e = .returned (.pointer (some ⟨b, i, none⟩)) ∧ Below W.heap.size W w'
theorem FieldAt.below {w w1 : World} {f : FuncId} {lb : Array Value} {i : Nat} (h : FieldAt w f lb i) (hb : Below w.heap.size w w1) : FieldAt w1 f lb i := ⟨h.1, fun b W hW => h.2 b W (hb.trans (hW.mono hb.size))⟩
structure NumGood (Good : Array Value → Prop) (i : Nat) : Prop where
  at_ : ∀ x, Good x → ∃ n, x[i]? = some (.int .i64 n) ∧ -9223372036854775808 ≤ n ∧ n < 9223372036854775808
  set : ∀ x n, Good x → 0 ≤ n → n ≤ 1024 → Good (x.setIfInBounds i (.int .i64 n))
theorem numAt_of {x : Array Value} {i : Nat} {n : Int} (h : x[i]? = some (.int .i64 n)) : numAt x i = n := by unfold numAt; rw [h]
theorem bounds_one {W : World} (a b c : Int) : BoundsAt (W.alloc (.cells #[.int .i64 a, .int .i64 b, .int .i64 c] 107)) W.heap.size [(a, b, c)] :=
  ⟨by simp, fun k hk => by
    have h0 : k = 0 := by simpa using hk
    subst h0
    have h := Blk.new W 107 #[.int .i64 a, .int .i64 b, .int .i64 c]
    exact ⟨h.cell rfl, h.cell rfl, h.cell rfl⟩⟩
theorem bounds_two {W : World} (a b c d e f : Int) : BoundsAt (W.alloc (.cells #[.int .i64 a, .int .i64 b, .int .i64 c, .int .i64 d, .int .i64 e, .int .i64 f] 107)) W.heap.size [(a, b, c), (d, e, f)] :=
  ⟨by simp, fun k hk => by
    have h := Blk.new W 107 #[.int .i64 a, .int .i64 b, .int .i64 c, .int .i64 d, .int .i64 e, .int .i64 f]
    match k, hk with
    | 0, _ => exact ⟨h.cell rfl, h.cell rfl, h.cell rfl⟩
    | 1, _ => exact ⟨h.cell rfl, h.cell rfl, h.cell rfl⟩⟩
end Go.Proofs.YtfdnlgmgjmbafaaGreatDoor

/-
  Slices of elements of any number of cells: what is read (Vec), what is appended to (GrowB); append of the one to the other; clones.
-/
namespace Go.Proofs.YtfdnlgmgjmbafaaGreatDoor
open Go.RowKit Go.Shelf

/-- v is a slice of n elements of s cells each, which holds the cells xs. -/
def Vec (W : World) (v : Value) (n s : Nat) (xs : List Value) : Prop :=
  xs.length = n * s ∧ ∃ a cap, v = .slice a n cap ∧ n ≤ cap ∧ (0 < n → ∃ b off, a = some ⟨b, off, none⟩ ∧ b < W.heap.size ∧ ∀ j y, xs[j]? = some y → W.cell? ⟨b, off + j, none⟩ = some y)
theorem Vec.keeps {W W' : World} {v : Value} {n s : Nat} {xs : List Value} (h : Vec W v n s xs) (hk : ∀ b, b < W.heap.size → b < W'.heap.size ∧ W'.heap[b]? = W.heap[b]?) : Vec W' v n s xs := by
  obtain ⟨hl, a, cap, hv, hc, hj⟩ := h
  refine ⟨hl, a, cap, hv, hc, fun h0 => ?_⟩
  obtain ⟨b, off, ha, hb, hx⟩ := hj h0
  exact ⟨b, off, ha, (hk b hb).1, fun j y hy => (World.cell?_of_block (a := ⟨b, off + j, none⟩) (hk b hb).2).trans (hx j y hy)⟩
theorem Vec.below {W W' : World} {v : Value} {n s : Nat} {xs : List Value} (h : Vec W v n s xs) (hb : Below W.heap.size W W') : Vec W' v n s xs :=
  h.keeps fun b hl => ⟨Nat.lt_of_lt_of_le hl hb.size, hb.block b hl⟩
theorem Vec.slice {W : World} {v : Value} {n s : Nat} {xs : List Value} (h : Vec W v n s xs) : ∃ a cap, v = .slice a n cap := by
  obtain ⟨-, a, cap, hv, -⟩ := h
  exact ⟨a, cap, hv⟩
theorem vec_of_own {W : World} {base : Nat} {e : TypeId} {v : Value} {n s : Nat} {xs : List Value} (h : W.ownsRow base e s v n xs) : Vec W v n s xs := by
  refine ⟨h.1, ?_⟩
  rcases h.2 with ⟨rfl, h0⟩ | ⟨g, cap, cur, rfl, hb, hg, hc, hm, hs, ht⟩
  · exact ⟨none, 0, by rw [h0], by omega, fun h => by omega⟩
  · refine ⟨_, cap, rfl, hc, fun _ => ⟨g, 0, rfl, (Array.getElem?_eq_some_iff.1 hg).1, fun j y hy => ?_⟩⟩
    have hj : j < n * s := by rw [← h.1]; exact (List.getElem?_eq_some_iff.1 hy).1
    rw [Nat.zero_add, World.ownsRow.cellAt h j hj]
    exact hy
/-- A slice to which one appends: empty, with no room; or a row that lies from B on. -/
def GrowB (W : World) (B : Nat) (e : TypeId) (s : Nat) (v : Value) (n : Nat) (xs : List Value) : Prop :=
  (n = 0 ∧ xs = [] ∧ ∃ ad, v = .slice (some ad) 0 0) ∨ W.ownsRow B e s v n xs
theorem GrowB.vec {W : World} {B : Nat} {e : TypeId} {s : Nat} {v : Value} {n : Nat} {xs : List Value} (h : GrowB W B e s v n xs) : Vec W v n s xs := by
  rcases h with ⟨rfl, rfl, ad, rfl⟩ | h
  · exact ⟨by simp, some ad, 0, rfl, Nat.le_refl _, fun h => absurd h (by simp)⟩
  · exact vec_of_own h
theorem GrowB.keeps {W W' : World} {B : Nat} {e : TypeId} {s : Nat} {v : Value} {n : Nat} {xs : List Value} (h : GrowB W B e s v n xs) (hk : ∀ b, b < W.heap.size → W'.heap[b]? = W.heap[b]?) : GrowB W' B e s v n xs := by
  rcases h with h | ⟨hl, h⟩
  · exact .inl h
  · refine .inr ⟨hl, h.imp id fun ⟨g, cap, cur, hv, hb, hg, hr⟩ => ⟨g, cap, cur, hv, hb, ?_, hr⟩⟩
    rw [hk g (Array.getElem?_eq_some_iff.1 hg).1]
    exact hg
theorem GrowB.below {W W' : World} {B : Nat} {e : TypeId} {s : Nat} {v : Value} {n : Nat} {xs : List Value} (h : GrowB W B e s v n xs) (hb : Below W.heap.size W W') : GrowB W' B e s v n xs := h.keeps fun b hl => hb.block b hl
theorem GrowB.slice {W : World} {B : Nat} {e : TypeId} {s : Nat} {v : Value} {n : Nat} {xs : List Value} (h : GrowB W B e s v n xs) : ∃ a cap, v = .slice a n cap := h.vec.slice
theorem GrowB.low {W : World} {B B' : Nat} {e : TypeId} {s : Nat} {v : Value} {n : Nat} {xs : List Value} (h : GrowB W B e s v n xs) (hb : B' ≤ B) : GrowB W B' e s v n xs :=
  h.imp id fun h => ⟨h.1, h.2.imp id fun ⟨g, cap, cur, h1, h2, h3⟩ => ⟨g, cap, cur, h1, Nat.le_trans hb h2, h3⟩⟩
theorem GrowB.new (W : World) (B : Nat) (e : TypeId) (s : Nat) : GrowB W B e s (.slice none 0 0) 0 [] := .inr (World.ownsRow_nil _ _ _ _)
/-- What an append does: a row of both; of what there was only the old row's room is written. -/
theorem vec_append_run {P : Program} (w : World) (t ty e : TypeId) (i : TypeInfo) (z : Value) (s bytes : Nat) (h1 : P.underlying t = some (.slice e)) (h2 : P.info? e = some i) (h3 : i.zero = some z) (h4 : i.size = s) (h5 : i.bytes = bytes) (h6 : z.cells.size = s) (h7 : 0 < s)
    (B : Nat) (v u : Value) (n m : Nat) (xs ys : List Value) (hG : GrowB w B e s v n xs) (hV : Vec w u m s ys) (one : ∀ u ∈ ys, u.oneCell' = true) (hl : n + m ≤ 1000000) (hby : (n + m) * bytes ≤ 140737488355328) (hB : B ≤ w.heap.size) :
    ∃ v' w', (Builtin.append_ #[t, t] ty #[v, u]).run P w = .ok v' w' ∧ GrowB w' B e s v' (n + m) (xs ++ ys) ∧ Below B w w' ∧ w.grownBy w' v.ownBlock ∧ (∀ g, v'.ownBlock = some g → v.ownBlock = some g ∨ g = w.heap.size) ∧ (w.ownsRow B e s v n xs → w'.ownsRow B e s v' (n + m) (xs ++ ys)) := by
  obtain ⟨hlen, ad, cap, rfl, hlc, hc⟩ := hV
  rcases Nat.eq_zero_or_pos m with h0 | h0
  · subst h0
    have hys : ys = [] := List.eq_nil_of_length_eq_zero (by rw [hlen, Nat.zero_mul])
    subst hys
    have hrun : (Builtin.append_ #[t, t] ty #[v, .slice ad 0 cap]).run P w = .ok v w := by
      rcases hG with ⟨_, _, g, rfl⟩ | hG
      · cases ad <;> simp [Builtin.append_, run_underlying h1, sizeOf, typeInfo, h2, Builtin.lenOf, Builtin.firstCells, storeCells, loadCells, loadCellsFrom]
      · rcases hG.2 with ⟨rfl, e0⟩ | ⟨g, c, cur, rfl, _, _, hnc, _⟩
        · cases ad <;> simp [Builtin.append_, run_underlying h1, sizeOf, typeInfo, h2, Builtin.lenOf, Builtin.firstCells, loadCells, loadCellsFrom]
        · cases ad <;> simp [Builtin.append_, run_underlying h1, sizeOf, typeInfo, h2, Builtin.lenOf, Builtin.firstCells, hnc, storeCells, loadCells, loadCellsFrom]
    exact ⟨v, w, hrun, by rw [List.append_nil]; exact hG, Below.refl _ _, World.grownBy.refl w _, fun g h => .inl h, fun h => by rw [List.append_nil]; exact h⟩
  · obtain ⟨b, off, rfl, _, hcell⟩ := hc h0
    have hcells : ∀ j y, ys[j]? = some y → w.cell? ((⟨b, off, none⟩ : Addr).add j) = some y := fun j y hy => by
      have e1 : (⟨b, off, none⟩ : Addr).add j = ⟨b, off + j, none⟩ := by
        unfold Addr.add; split <;> simp_all
      rw [e1]
      exact hcell j y hy
    have key : ∀ (v : Value), w.ownsRow B e s v n xs → ∃ v' w', (Builtin.append_ #[t, t] ty #[v, .slice (some ⟨b, off, none⟩) m cap]).run P w = .ok v' w' ∧ w'.ownsRow B e s v' (n + m) (xs ++ ys) ∧ Below B w w' ∧ w.grownBy w' v.ownBlock ∧ ∀ g, v'.ownBlock = some g → v.ownBlock = some g ∨ g = w.heap.size := fun v hown => by
      obtain ⟨v', w', hrun, r1, r2, _, r3⟩ := run_append_own_at (P := P) w B t ty e i z s bytes h1 h2 h3 h4 h5 h6 h7 v n xs hown ⟨b, off, none⟩ m cap ys hlen hcells one (by unfold maxLen; omega) hby hB
      exact ⟨v', w', hrun, r1, (Below.refl B w).grown r2 hB fun k e => (hown.lt k e).1, r2, fun g h => r3.elim (fun e => .inl (by rw [← e]; exact h)) fun e => .inr (by rw [h] at e; exact Option.some.inj e)⟩
    rcases hG with ⟨rfl, rfl, g, rfl⟩ | hG
    · have hby2 : m * bytes ≤ 140737488355328 := by rw [Nat.zero_add] at hby; exact hby
      have hr := run_append_grow (P := P) w t ty e i z h1 h2 h3 g 0 0 [] (by simp) (by simp) ⟨b, off, none⟩ m cap ys (by rw [hlen, h4]) hcells (by omega) (by omega) (by rw [h5]; exact growslice_fits (by omega) hby)
      have hr0 := run_append_nil (P := P) w t ty e i z h1 h2 h3 ⟨b, off, none⟩ m cap ys (by rw [hlen, h4]) hcells (by omega) (by omega) (by rw [h5]; exact Nat.le_trans hby2 (by decide))
      obtain ⟨v', w', hrun, r1, r2, r3, r4⟩ := key (.slice none 0 0) (World.ownsRow_nil _ _ _ _)
      refine ⟨v', w', ?_, .inr r1, r2, ⟨r3.os, r3.tape, r3.output, r3.size, fun k hk _ => r3.block k hk (by simp [Value.ownBlock])⟩, fun g h => (r4 g h).imp (fun h => by simp [Value.ownBlock] at h) id, fun _ => r1⟩
      rw [hr, ← hrun, hr0]
      simp
    · obtain ⟨v', w', hrun, r1, r2, r3, r4⟩ := key v hG
      exact ⟨v', w', hrun, .inr r1, r2, r3, r4, fun _ => r1⟩
/-- At an append. -/
theorem wpList_append_vec {P : Program} {w : World} {ops : Array Oper} {rest : List Oper} {o : Oper} {a : Act} {Q : Exit → Act → World → Prop} (hgd : o.guard = none) (sx x : Operand) (t : TypeId)
    (ho : o.op = .call { callee := .builtin .append, args := #[sx, x], argTypes := #[t, t] }) (e : TypeId) (i : TypeInfo) (z : Value) (s bytes : Nat) (h1 : P.underlying t = some (.slice e)) (h2 : P.info? e = some i) (h3 : i.zero = some z) (h4 : i.size = s) (h5 : i.bytes = bytes) (h6 : z.cells.size = s) (h7 : 0 < s)
    (B : Nat) (v u : Value) (n m : Nat) (xs ys : List Value) (hv : a.eval sx = v) (hu : a.eval x = u) (hG : GrowB w B e s v n xs) (hV : Vec w u m s ys) (one : ∀ u ∈ ys, u.oneCell' = true) (hl : n + m ≤ 1000000) (hby : (n + m) * bytes ≤ 140737488355328) (hB : B ≤ w.heap.size)
    (h : ∀ v' w', GrowB w' B e s v' (n + m) (xs ++ ys) → Below B w w' → (w.grownBy w' v.ownBlock ∧ (∀ g, v'.ownBlock = some g → v.ownBlock = some g ∨ g = w.heap.size) ∧ (w.ownsRow B e s v n xs → w'.ownsRow B e s v' (n + m) (xs ++ ys))) → wpList P ops Q rest (a.put o.dst v') w') : wpList P ops Q (o :: rest) a w :=
  wpList_plain hgd fun K hK => by
    obtain ⟨v', w', hr, r1, r2, r3⟩ := vec_append_run (P := P) w t o.type e i z s bytes h1 h2 h3 h4 h5 h6 h7 B v u n m xs ys hG hV one hl hby hB
    unfold Oper.wp execOp
    simp only [ho, resolve, invoke, builtin, Sem.run_bind, Sem.run_pure, Result.andThen_ok, List.map_toArray, List.map_cons, List.map_nil, hv, hu, hr]
    exact hK _ _ (h v' w' r1 r2 r3)
/-- .. under a condition that holds. -/
theorem wpList_append_vecW {P : Program} {w : World} {ops : Array Oper} {rest : List Oper} {o : Oper} {a : Act} {Q : Exit → Act → World → Prop} (hwt : Region.wanted o (yielded ops a.tmps) = true) (sx x : Operand) (t : TypeId)
    (ho : o.op = .call { callee := .builtin .append, args := #[sx, x], argTypes := #[t, t] }) (e : TypeId) (i : TypeInfo) (z : Value) (s bytes : Nat) (h1 : P.underlying t = some (.slice e)) (h2 : P.info? e = some i) (h3 : i.zero = some z) (h4 : i.size = s) (h5 : i.bytes = bytes) (h6 : z.cells.size = s) (h7 : 0 < s)
    (B : Nat) (v u : Value) (n m : Nat) (xs ys : List Value) (hv : a.eval sx = v) (hu : a.eval x = u) (hG : GrowB w B e s v n xs) (hV : Vec w u m s ys) (one : ∀ u ∈ ys, u.oneCell' = true) (hl : n + m ≤ 1000000) (hby : (n + m) * bytes ≤ 140737488355328) (hB : B ≤ w.heap.size)
    (h : ∀ v' w', GrowB w' B e s v' (n + m) (xs ++ ys) → Below B w w' → (w.grownBy w' v.ownBlock ∧ (∀ g, v'.ownBlock = some g → v.ownBlock = some g ∨ g = w.heap.size) ∧ (w.ownsRow B e s v n xs → w'.ownsRow B e s v' (n + m) (xs ++ ys))) → wpList P ops Q rest (a.put o.dst v') w') : wpList P ops Q (o :: rest) a w :=
  BigFrame.wpList_want hwt fun K hK => by
    obtain ⟨v', w', hr, r1, r2, r3⟩ := vec_append_run (P := P) w t o.type e i z s bytes h1 h2 h3 h4 h5 h6 h7 B v u n m xs ys hG hV one hl hby hB
    unfold Oper.wp execOp
    simp only [ho, resolve, invoke, builtin, Sem.run_bind, Sem.run_pure, Result.andThen_ok, List.map_toArray, List.map_cons, List.map_nil, hv, hu, hr]
    exact hK _ _ (h v' w' r1 r2 r3)
/-- The cells of a list whose elements have so many each. -/
def flatC {α : Type} (f : α → List Value) (l : List α) : List Value := l.flatMap f
theorem flatC_length {α : Type} {f : α → List Value} {s : Nat} (hf : ∀ x, (f x).length = s) : ∀ l : List α, (flatC f l).length = l.length * s
  | [] => by simp [flatC]
  | x :: l => by
    have h := flatC_length hf l
    unfold flatC at h ⊢
    rw [List.flatMap_cons, List.length_append, h, hf, List.length_cons, Nat.add_mul, Nat.one_mul, Nat.add_comm]
theorem flatC_append {α : Type} (f : α → List Value) (l m : List α) : flatC f (l ++ m) = flatC f l ++ flatC f m := by simp [flatC, List.flatMap_append]
theorem flatC_one {α : Type} (f : α → List Value) (x : α) : flatC f [x] = f x := by simp [flatC]
theorem flatC_at {α : Type} {f : α → List Value} {s : Nat} (hf : ∀ x, (f x).length = s) : ∀ (l : List α) (k : Nat) (hk : k < l.length) (j : Nat), j < s → (flatC f l)[k * s + j]? = (f l[k])[j]?
  | x :: l, 0, _, j, hj => by
    show (flatC f (x :: l))[0 * s + j]? = (f x)[j]?
    rw [Nat.zero_mul, Nat.zero_add]
    unfold flatC
    rw [List.flatMap_cons, List.getElem?_append_left (by rw [hf]; exact hj)]
  | x :: l, k + 1, hk, j, hj => by
    have h := flatC_at hf l k (by simpa using hk) j hj
    show (flatC f (x :: l))[(k + 1) * s + j]? = (f (l[k]'(by simpa using hk)))[j]?
    rw [← h]
    unfold flatC
    rw [List.flatMap_cons, List.getElem?_append_right (by rw [hf, Nat.add_mul]; omega), hf]
    congr 1
    rw [Nat.add_mul]
    omega
theorem flatC_all {α : Type} {f : α → List Value} {p : Value → Prop} (hf : ∀ x, ∀ u ∈ f x, p u) (l : List α) : ∀ u ∈ flatC f l, p u := fun u hu => by
  obtain ⟨x, _, hx⟩ := List.mem_flatMap.1 hu
  exact hf x u hx
/-- An element of a list in memory, cell by cell. -/
theorem Vec.at_ {α : Type} {f : α → List Value} {s : Nat} (hf : ∀ x, (f x).length = s) {W : World} {v : Value} {l : List α} (h : Vec W v l.length s (flatC f l)) (k : Nat) (hk : k < l.length) :
    ∃ b off cap, v = .slice (some ⟨b, off, none⟩) l.length cap ∧ b < W.heap.size ∧ W.rangeAt b (off + k * s) (f l[k]) := by
  obtain ⟨-, a, cap, hv, -, hj⟩ := h
  obtain ⟨b, off, ha, hb, hx⟩ := hj (by omega)
  refine ⟨b, off, cap, by rw [hv, ha], hb, fun j y hy => ?_⟩
  have hjs : j < s := by rw [← hf l[k]]; exact (List.getElem?_eq_some_iff.1 hy).1
  rw [Nat.add_assoc]
  exact hx _ _ ((flatC_at hf l k hk j hjs).trans hy)
theorem Vec.of_at {α : Type} {f : α → List Value} {s : Nat} (hf : ∀ x, (f x).length = s) (h0 : 0 < s) {W : World} {a : Option Addr} {cap : Nat} {l : List α} (hc : l.length ≤ cap) (h : 0 < l.length → ∃ b off, a = some ⟨b, off, none⟩ ∧ b < W.heap.size ∧ ∀ (k : Nat) (hk : k < l.length), W.rangeAt b (off + k * s) (f l[k])) :
    Vec W (.slice a l.length cap) l.length s (flatC f l) := by
  refine ⟨flatC_length hf l, a, cap, rfl, hc, fun hp => ?_⟩
  obtain ⟨b, off, ha, hb, hr⟩ := h hp
  refine ⟨b, off, ha, hb, fun j y hy => ?_⟩
  have hj : j < l.length * s := by rw [← flatC_length hf l]; exact (List.getElem?_eq_some_iff.1 hy).1
  have hk : j / s < l.length := Nat.div_lt_of_lt_mul (by rw [Nat.mul_comm]; exact hj)
  have e := flatC_at hf l (j / s) hk (j % s) (Nat.mod_lt _ h0)
  rw [Nat.div_add_mod' j s, hy] at e
  have := hr (j / s) hk (j % s) y e.symm
  rw [Nat.add_assoc, Nat.div_add_mod'] at this
  exact this
end Go.Proofs.YtfdnlgmgjmbafaaGreatDoor

/-
  node: values of whole numbers; the closures that tell fields; slices of parts.
-/
namespace Go.Proofs.YtfdnlgmgjmbafaaGreatDoor
open Go.RowKit Go.Shelf Go.Sort
attribute [local go_sem] Oper.semAt_some

/-- A load of which the run is known. -/
theorem ndList_load {P : Program} {ops : Array Oper} {rest : List Oper} {op : Oper} {a : Act} {w : World} {Q : Exit → Act → World → Prop} (hgd : op.guard = none) (ty : TypeId) (x : Operand) (ho : op.op = .load ty x)
    (p v : Value) (hx : a.eval x = p) (hr : (Instr.loadAt ty p).run P w = .ok v w) (h : wpList P ops Q rest (a.put op.dst v) w) : wpList P ops Q (op :: rest) a w :=
  wpList_plain hgd fun _ hK => by
    unfold Oper.wp execOp
    simp only [ho, hx, hr, Sem.run_bind, Result.andThen_ok]
    exact hK _ _ h
/-- A store of which the run is known. -/
theorem ndList_store {P : Program} {ops : Array Oper} {rest : List Oper} {op : Oper} {a : Act} {w w' : World} {Q : Exit → Act → World → Prop} (hgd : op.guard = none) (ty : TypeId) (x y : Operand) (ho : op.op = .store ty x y)
    (p v : Value) (hx : a.eval x = p) (hy : a.eval y = v) (hr : (Instr.storeAt ty p v).run P w = .ok () w') (h : wpList P ops Q rest (a.put op.dst undef) w') : wpList P ops Q (op :: rest) a w :=
  wpList_plain hgd fun _ hK => by
    unfold Oper.wp execOp
    simp only [ho, hx, hy, hr, Sem.run_bind, Result.andThen_ok]
    exact hK _ _ h
/-- So many whole numbers. -/
def GoodI (k : Nat) (x : Array Value) : Prop := x.size = k ∧ ∀ j, j < k → ∃ n, x[j]? = some (.int .i64 n) ∧ -9223372036854775808 ≤ n ∧ n < 9223372036854775808
theorem goodI_num {k i : Nat} (hi : i < k) : NumGood (GoodI k) i where
  at_ x h := h.2 i hi
  set x n h h0 h1 := ⟨by rw [Array.size_setIfInBounds]; exact h.1, fun j hj => by
    by_cases e : i = j
    · subst e
      exact ⟨n, by rw [Array.getElem?_setIfInBounds_self]; simp [h.1, hi], by omega, by omega⟩
    · obtain ⟨m, hm, h2⟩ := h.2 j hj
      exact ⟨m, by rw [Array.getElem?_setIfInBounds_ne e]; exact hm, h2⟩⟩
theorem goodI_one {k : Nat} {x : Array Value} (h : GoodI k x) : x.all (·.oneCell') = true := by
  refine Array.all_eq_true.2 fun i hi => ?_
  obtain ⟨n, hn, -⟩ := h.2 i (by rw [← h.1]; exact hi)
  rw [Array.getElem?_eq_getElem hi] at hn
  rw [Option.some.inj hn]
  rfl
theorem goodI_zeros (k : Nat) : GoodI k (Array.replicate k (.int .i64 0)) := ⟨by simp, fun j hj => ⟨0, by simp [hj], by decide, by decide⟩⟩
theorem goodI_zero2 : GoodI 2 #[.int .i64 0, .int .i64 0] := goodI_zeros 2
theorem goodI_zero3 : GoodI 3 #[.int .i64 0, .int .i64 0, .int .i64 0] := goodI_zeros 3
theorem goodI_zero7 : GoodI 7 #[.int .i64 0, .int .i64 0, .int .i64 0, .int .i64 0, .int .i64 0, .int .i64 0, .int .i64 0] := goodI_zeros 7
theorem goodI_zero8 : GoodI 8 #[.int .i64 0, .int .i64 0, .int .i64 0, .int .i64 0, .int .i64 0, .int .i64 0, .int .i64 0, .int .i64 0] := goodI_zeros 8
/-- Their values. -/
def ints (l : List Int) : Array Value := (l.map (Value.int .i64)).toArray
theorem goodI_ints {l : List Int} {k : Nat} (hk : l.length = k) (h : ∀ x ∈ l, -9223372036854775808 ≤ x ∧ x < 9223372036854775808) : GoodI k (ints l) :=
  ⟨by simp [ints, hk], fun j hj => ⟨l[j]'(by omega), by simp [ints, List.getElem?_eq_getElem (show j < l.length by omega)], h _ (List.getElem_mem _)⟩⟩
theorem numAt_ints (l : List Int) (i : Nat) : numAt (ints l) i = l[i]?.getD 0 := by
  unfold numAt ints
  rw [List.getElem?_toArray, List.getElem?_map]
  cases l[i]? <;> rfl
theorem ints_set (l : List Int) (i : Nat) (n : Int) : (ints l).setIfInBounds i (.int .i64 n) = ints (l.set i n) := by
  simp [ints, List.map_set]
/-- Parts in a block of their own. -/
theorem parts_vec (ps : List PartV) : (flatC partC ps).length = ps.length * 3 := flatC_length (s := 3) (fun _ => rfl) ps
theorem cells_new (w : World) (ps : List PartV) (t : TypeId) (k : Nat) (hk : k < ps.length) : (w.alloc (.cells (flatC partC ps).toArray t)).cell? ⟨w.heap.size, k * 3, none⟩ = some ps[k].v0 ∧ (w.alloc (.cells (flatC partC ps).toArray t)).cell? ⟨w.heap.size, k * 3 + 1, none⟩ = some ps[k].v1 ∧ (w.alloc (.cells (flatC partC ps).toArray t)).cell? ⟨w.heap.size, k * 3 + 2, none⟩ = some ps[k].v2 := by
  have h := Blk.new w t (flatC partC ps).toArray
  have hat := flatC_at (f := partC) (s := 3) (fun _ => rfl) ps k hk
  refine ⟨h.cell ?_, h.cell ?_, h.cell ?_⟩
  · rw [List.getElem?_toArray]; exact hat 0 (by decide)
  · rw [List.getElem?_toArray]; exact hat 1 (by decide)
  · rw [List.getElem?_toArray]; exact hat 2 (by decide)
theorem vec_newN (w : World) (xs : List Value) (t : TypeId) (n s : Nat) (h : xs.length = n * s) : Vec (w.alloc (.cells xs.toArray t)) (.slice (some ⟨w.heap.size, 0, none⟩) n n) n s xs :=
  ⟨h, _, _, rfl, Nat.le_refl _, fun _ => ⟨_, _, rfl, by simp, fun j y hy => by
    rw [Nat.zero_add]
    exact (Blk.new w t xs.toArray).cell (by rw [List.getElem?_toArray]; exact hy)⟩⟩
theorem field_root (w : World) : FieldAt w 63 #[] 0 := ⟨enters_of Tryz.func63 (by kernel_rfl) rfl, fun b W _ => by
  go_enter Tryz.func63, Tryz.ntmps63
  go_wp2
  go_ret
  exact ⟨rfl, Below.refl _ _⟩⟩
theorem field_lines (w : World) : FieldAt w 65 #[] 1 := ⟨enters_of Tryz.func65 (by kernel_rfl) rfl, fun b W _ => by
  go_enter Tryz.func65, Tryz.ntmps65
  go_wp2
  go_ret
  exact ⟨rfl, Below.refl _ _⟩⟩
theorem field_top (w : World) : FieldAt w 71 #[] 2 := ⟨enters_of Tryz.func71 (by kernel_rfl) rfl, fun b W _ => by
  go_enter Tryz.func71, Tryz.ntmps71
  go_wp2
  go_ret
  exact ⟨rfl, Below.refl _ _⟩⟩
theorem field_size (w : World) : FieldAt w 80 #[] 0 := ⟨enters_of Tryz.func80 (by kernel_rfl) rfl, fun b W _ => by
  go_enter Tryz.func80, Tryz.ntmps80
  go_wp2
  go_ret
  exact ⟨rfl, Below.refl _ _⟩⟩
theorem field_next (w : World) : FieldAt w 85 #[] 0 := ⟨enters_of Tryz.func85 (by kernel_rfl) rfl, fun b W _ => by
  go_enter Tryz.func85, Tryz.ntmps85
  go_wp2
  go_ret
  exact ⟨rfl, Below.refl _ _⟩⟩
theorem field_node (w : World) : FieldAt w 86 #[] 1 := ⟨enters_of Tryz.func86 (by kernel_rfl) rfl, fun b W _ => by
  go_enter Tryz.func86, Tryz.ntmps86
  go_wp2
  go_ret
  exact ⟨rfl, Below.refl _ _⟩⟩
theorem field_chunk (w : World) {q k : Nat} (hk : k < 7) (hq : Boxed w q 3 (.int .i64 (k : Nat))) : FieldAt w 123 #[.pointer (some ⟨q, 0, none⟩)] (1 + k) := ⟨enters_of Tryz.func123 (by kernel_rfl) rfl, fun b W hW => by
  have cq : W.cell? ⟨q, 0, none⟩ = some (.int .i64 (k : Nat)) := Boxed.cell ((hW.block _ hq.lt).trans hq)
  have k7 : (k : Int) < 7 := by omega
  clear hq hW
  go_enter Tryz.func123, Tryz.ntmps123
  go_wp2
  go_quiet (fail)
  go_wp2
  go_ret
  exact ⟨rfl, (by repeat (first | exact Below.refl _ _ | assumption | refine Below.drew ?_ | refine below_drewN ?_ _ | refine Below.alloc ?_ (by (try simp) <;> omega) _ | refine Below.setCell ?_ (by (try simp) <;> omega) _ | refine Below.trans ?_ (Below.mono (by assumption) (by (try simp) <;> omega))))⟩⟩
theorem field_head (w : World) {q k : Nat} (hk : k < 7) (hq : Boxed w q 3 (.int .i64 (k : Nat))) : FieldAt w 75 #[.pointer (some ⟨q, 0, none⟩)] k := ⟨enters_of Tryz.func75 (by kernel_rfl) rfl, fun b W hW => by
  have cq : W.cell? ⟨q, 0, none⟩ = some (.int .i64 (k : Nat)) := Boxed.cell ((hW.block _ hq.lt).trans hq)
  have k7 : (k : Int) < 7 := by omega
  clear hq hW
  go_enter Tryz.func75, Tryz.ntmps75
  go_wp2
  go_quiet (fail)
  go_wp2
  go_ret
  exact ⟨rfl, (by repeat (first | exact Below.refl _ _ | assumption | refine Below.drew ?_ | refine below_drewN ?_ _ | refine Below.alloc ?_ (by (try simp) <;> omega) _ | refine Below.setCell ?_ (by (try simp) <;> omega) _ | refine Below.trans ?_ (Below.mono (by assumption) (by (try simp) <;> omega))))⟩⟩
end Go.Proofs.YtfdnlgmgjmbafaaGreatDoor

/-
  node: numbers of a line of api.Entry. Written by gen_nd.py.
-/
namespace Go.Proofs.YtfdnlgmgjmbafaaGreatDoor
open Go.RowKit Go.Shelf Go.Sort
attribute [local go_sem] Oper.semAt_some

set_option maxRecDepth 100000 in
set_option maxHeartbeats 4000000 in
theorem numMay_E {ff fl : FuncId} {lbf : Array Value} {i : Nat} {lo hi n : Int} (w : World) (pl pf : Nat) (hF : FieldAt w ff lbf i) (hL : LiesAt fl lo hi) (x : Array Value) (hn : x[i]? = some (.int .i64 n))
    (hbl : Boxed w pl 108 (.func (.func fl) #[] #[])) (hbf : Boxed w pf 179 (.func (.func ff) #[] lbf)) :
    Calls Tryz.prog 126 #[.agg x, .pointer (some ⟨pl, 0, none⟩), .pointer (some ⟨pf, 0, none⟩)] w fun e w' => e = .returned (.bool (inB (n, lo, hi))) ∧ Below w.heap.size w w' := by
  obtain ⟨W1, hW1⟩ : ∃ W1, (w.alloc (.cells x 49)).drew = W1 := ⟨_, rfl⟩
  have hb1 : Below w.heap.size w W1 := by rw [← hW1]; exact (by repeat (first | exact Below.refl _ _ | assumption | refine Below.drew ?_ | refine below_drewN ?_ _ | refine Below.alloc ?_ (by (try simp) <;> omega) _ | refine Below.setCell ?_ (by (try simp) <;> omega) _ | refine Below.trans ?_ (Below.mono (by assumption) (by (try simp) <;> omega))))
  have hx1 : Blk W1 w.heap.size 49 x := by rw [← hW1]; exact Blk.new _ _ _
  have hbl1 : Boxed W1 pl 108 (.func (.func fl) #[] #[]) := (hb1.block _ hbl.lt).trans hbl
  have hbf1 : Boxed W1 pf 179 (.func (.func ff) #[] lbf) := (hb1.block _ hbf.lt).trans hbf
  have HFC := Lib.hid ((hF.below hb1).2 w.heap.size W1 (Below.refl _ _))
  have HLC := Lib.hid (fun W => hL.2 n W)
  have eF : ∀ args W, (callFunc ff args).run Tryz.prog W = .ok (.enter ff args) W := hF.1
  have eL : ∀ args W, (callFunc fl args).run Tryz.prog W = .ok (.enter fl args) W := hL.1
  have HW1 := Lib.hid hW1
  have HB1 := Lib.hid hb1
  have HX1 := Lib.hid hx1
  have HN := Lib.hid hn
  have hR : (fun W : World => W.cell? ⟨pl, 0, none⟩ = some (.func (.func fl) #[] #[]) ∧ W.cell? ⟨pf, 0, none⟩ = some (.func (.func ff) #[] lbf)) W1 := ⟨hbl1.cell, hbf1.cell⟩
  have HBL := Lib.hid hbl1
  have HBF := Lib.hid hbf1
  clear hW1 hb1 hx1 hbl1 hbf1 hF hL hn hbl hbf
  go_enter Tryz.func126, Tryz.ntmps126
  go_wp2_with fail
  refine wp_region_M 8 (fun W : World => W.cell? ⟨pl, 0, none⟩ = some (.func (.func fl) #[] #[]) ∧ W.cell? ⟨pf, 0, none⟩ = some (.func (.func ff) #[] lbf)) (by kernel_rfl) ?_
  rw [HW1.out]
  (refine wpAnyM_take2 8 (i := 0) (v := ?_) rfl (by kernel_rfl) (by kernel_rfl) (fun _ _ _ h => h) (Or.inl ⟨by rfl, ?_⟩) hR ?_; rotate_left; (focus (intro w hSw; (try dsimp only at hSw); go_simp; (try with_reducible rfl))); (try simp only [put_laws])); (refine wpAnyM_take2 8 (i := 1) (v := ?_) rfl (by kernel_rfl) (by kernel_rfl) (fun _ _ _ h => h) (Or.inl ⟨by rfl, ?_⟩) hR ?_; rotate_left; (focus (intro w hSw; (try dsimp only at hSw); go_simp; (try with_reducible rfl))); (try simp only [put_laws]))
  (refine wpAnyM_one (i := 2) rfl (by kernel_rfl) (fun K hK => ?_); rw [if_pos (by rfl)]; (try simp only [elem_laws]))
  go_simp
  refine HFC.out.mono ?_
  rintro e w2 ⟨rfl, hb2⟩
  have h2l : Boxed w2 pl 108 (.func (.func fl) #[] #[]) := (hb2.block _ HBL.out.lt).trans HBL.out
  have h2f : Boxed w2 pf 179 (.func (.func ff) #[] lbf) := (hb2.block _ HBF.out.lt).trans HBF.out
  have hx2 := HX1.out.below hb2 HX1.out.lt
  have hR2 : (fun W : World => W.cell? ⟨pl, 0, none⟩ = some (.func (.func fl) #[] #[]) ∧ W.cell? ⟨pf, 0, none⟩ = some (.func (.func ff) #[] lbf)) w2 := ⟨h2l.cell, h2f.cell⟩
  refine hK _ _ (fun _ => hR2) ?_
  clear hK K hR
  have HB2 := Lib.hid (HB1.out.trans (hb2.mono HB1.out.size))
  have H2L := Lib.hid h2l
  have H2F := Lib.hid h2f
  have cx := hx2.cell HN.out
  clear hb2 h2l h2f hx2
  (try simp only [put_laws])
  (refine wpAnyM_one (i := 3) rfl (by kernel_rfl) (fun K hK => ?_); rw [if_pos (by rfl)]; (try simp only [elem_laws]))
  go_simp
  refine hK _ _ (fun _ => hR2) ?_
  clear hK K
  (try simp only [put_laws])
  (refine wpAnyM_one (i := 4) rfl (by kernel_rfl) (fun K hK => ?_); rw [if_pos (by rfl)]; (try simp only [elem_laws]))
  go_simp
  refine hK _ _ (fun _ => hR2) ?_
  clear hK K
  (try simp only [put_laws])
  (refine wpAnyM_one (i := 5) rfl (by kernel_rfl) (fun K hK => ?_); rw [if_pos (by rfl)]; (try simp only [elem_laws]))
  go_simp
  refine (HLC.out w2).mono ?_
  rintro e w3 ⟨rfl, hb3⟩
  have h3l : Boxed w3 pl 108 (.func (.func fl) #[] #[]) := (hb3.block _ H2L.out.lt).trans H2L.out
  have h3f : Boxed w3 pf 179 (.func (.func ff) #[] lbf) := (hb3.block _ H2F.out.lt).trans H2F.out
  have hR3 : (fun W : World => W.cell? ⟨pl, 0, none⟩ = some (.func (.func fl) #[] #[]) ∧ W.cell? ⟨pf, 0, none⟩ = some (.func (.func ff) #[] lbf)) w3 := ⟨h3l.cell, h3f.cell⟩
  refine hK _ _ (fun _ => hR3) ?_
  clear hK K hR2 cx
  have HB3 := Lib.hid (HB2.out.trans (hb3.mono HB2.out.size))
  have H3L := Lib.hid h3l
  have H3F := Lib.hid h3f
  clear hb3 h3l h3f
  (try simp only [put_laws])
  (refine wpAnyM_one (i := 6) rfl (by kernel_rfl) (fun K hK => ?_); rw [if_pos (by rfl)]; (try simp only [elem_laws]))
  go_simp
  obtain ⟨W4, hW4⟩ : ∃ W4, w3.alloc (.cells #[.int .i64 n, .int .i64 lo, .int .i64 hi] 107) = W4 := ⟨_, rfl⟩
  have hb4 : Below w3.heap.size w3 W4 := by rw [← hW4]; exact (Below.refl _ _).alloc (Nat.le_refl _) _
  have hbd : BoundsAt W4 w3.heap.size [(n, lo, hi)] := by rw [← hW4]; exact bounds_one n lo hi
  have h4l : Boxed W4 pl 108 (.func (.func fl) #[] #[]) := (hb4.block _ H3L.out.lt).trans H3L.out
  have h4f : Boxed W4 pf 179 (.func (.func ff) #[] lbf) := (hb4.block _ H3F.out.lt).trans H3F.out
  have hR4 : (fun W : World => W.cell? ⟨pl, 0, none⟩ = some (.func (.func fl) #[] #[]) ∧ W.cell? ⟨pf, 0, none⟩ = some (.func (.func ff) #[] lbf)) W4 := ⟨h4l.cell, h4f.cell⟩
  rw [hW4]
  refine hK _ _ (fun _ => hR4) ?_
  clear hK K hR3
  have HB4 := Lib.hid (HB3.out.trans (hb4.mono HB3.out.size))
  have H4L := Lib.hid h4l
  have H4F := Lib.hid h4f
  have HWI := Lib.hid (within_any [(n, lo, hi)] (by simp) w3.heap.size W4 hbd)
  clear hb4 h4l h4f hW4 hbd
  (try simp only [put_laws])
  (refine wpAnyM_one (i := 7) rfl (by kernel_rfl) (fun K hK => ?_); rw [if_pos (by rfl)]; (try simp only [elem_laws]))
  go_simp
  refine HWI.out.mono ?_
  rintro e w5 ⟨rfl, hb5⟩
  have h5l : Boxed w5 pl 108 (.func (.func fl) #[] #[]) := (hb5.block _ H4L.out.lt).trans H4L.out
  have h5f : Boxed w5 pf 179 (.func (.func ff) #[] lbf) := (hb5.block _ H4F.out.lt).trans H4F.out
  have hR5 : (fun W : World => W.cell? ⟨pl, 0, none⟩ = some (.func (.func fl) #[] #[]) ∧ W.cell? ⟨pf, 0, none⟩ = some (.func (.func ff) #[] lbf)) w5 := ⟨h5l.cell, h5f.cell⟩
  refine hK _ _ (fun _ => hR5) ?_
  clear hK K hR4 hR5
  have HB5 := Lib.hid (HB4.out.trans (hb5.mono HB4.out.size))
  clear hb5 h5l h5f
  (try simp only [put_laws])
  (refine wpAnyM_last rfl (by kernel_rfl) (fun K hK => ?_); rw [if_pos (by rfl)]; (try simp only [elem_laws]))
  go_simp
  refine hK _ _ ?_
  clear hK K
  (try simp only [put_laws])
  refine wpAnyM_done (by kernel_rfl) ?_ _
  go_wp2_with fail
  go_ret
  exact ⟨by simp [], HB5.out⟩
set_option maxRecDepth 100000 in
set_option maxHeartbeats 4000000 in
theorem numWrite_E {ff : FuncId} {lbf : Array Value} {i wd : Nat} {n : Int} (hwd : wd < 8) (w : World) (pa pf b : Nat) (l : List Int) (hl : Line8 l) (hF : FieldAt w ff lbf i) (x : Array Value) (hn : x[i]? = some (.int .i64 n)) (_hn0 : -9223372036854775808 ≤ n ∧ n < 9223372036854775808)
    (hba : Boxed w pa 3 (.int .i64 (wd : Nat))) (hbf : Boxed w pf 179 (.func (.func ff) #[] lbf)) (hbl : Blk w b 84 (lnA l)) :
    Calls Tryz.prog 127 #[.agg x, .pointer (some ⟨b, 0, none⟩), .pointer (some ⟨pf, 0, none⟩), .pointer (some ⟨pa, 0, none⟩)] w fun e w' => (∃ u, e = .returned u) ∧ Blk w' b 84 (lnA (l.set wd (n % 18446744073709551616))) ∧ Turn (fun k => k = b) w w' := by
  obtain ⟨W1, hW1⟩ : ∃ W1, (w.alloc (.cells x 49)).drew = W1 := ⟨_, rfl⟩
  have hb1 : Below w.heap.size w W1 := by rw [← hW1]; exact (by repeat (first | exact Below.refl _ _ | assumption | refine Below.drew ?_ | refine below_drewN ?_ _ | refine Below.alloc ?_ (by (try simp) <;> omega) _ | refine Below.setCell ?_ (by (try simp) <;> omega) _ | refine Below.trans ?_ (Below.mono (by assumption) (by (try simp) <;> omega))))
  have hx1 : Blk W1 w.heap.size 49 x := by rw [← hW1]; exact Blk.new _ _ _
  have hba1 : Boxed W1 pa 3 (.int .i64 (wd : Nat)) := (hb1.block _ hba.lt).trans hba
  have hbf1 : Boxed W1 pf 179 (.func (.func ff) #[] lbf) := (hb1.block _ hbf.lt).trans hbf
  have hbl1 := hbl.below hb1 hbl.lt
  have HFC := Lib.hid ((hF.below hb1).2 w.heap.size W1 (Below.refl _ _))
  have eF : ∀ args W, (callFunc ff args).run Tryz.prog W = .ok (.enter ff args) W := hF.1
  have HW1 := Lib.hid hW1
  have HB1 := Lib.hid hb1
  have HX1 := Lib.hid hx1
  have HN := Lib.hid hn
  have HL1 := Lib.hid hbl1
  have HL8 := Lib.hid hl
  have hw2 : (wd : Int) < 8 := by omega
  have hR : (fun W : World => W.cell? ⟨pa, 0, none⟩ = some (.int .i64 (wd : Nat)) ∧ W.cell? ⟨pf, 0, none⟩ = some (.func (.func ff) #[] lbf)) W1 := ⟨hba1.cell, hbf1.cell⟩
  have HBA := Lib.hid hba1
  have HBF := Lib.hid hbf1
  have HLB := Lib.hid hbl.lt
  clear hW1 hb1 hx1 hba1 hbf1 hbl1 hF hn hba hbf hbl hl
  go_enter Tryz.func127, Tryz.ntmps127
  go_wp2_with fail
  refine wp_region_M 9 (fun W : World => W.cell? ⟨pa, 0, none⟩ = some (.int .i64 (wd : Nat)) ∧ W.cell? ⟨pf, 0, none⟩ = some (.func (.func ff) #[] lbf)) (by kernel_rfl) ?_
  rw [HW1.out]
  (refine wpAnyM_take2 8 (i := 0) (v := ?_) rfl (by kernel_rfl) (by kernel_rfl) (fun _ _ _ h => h) (Or.inl ⟨by rfl, ?_⟩) hR ?_; rotate_left; (focus (intro w hSw; (try dsimp only at hSw); go_simp; (try with_reducible rfl))); (try simp only [put_laws])); (refine wpAnyM_take2 8 (i := 1) (v := ?_) rfl (by kernel_rfl) (by kernel_rfl) (fun _ _ _ h => h) (Or.inl ⟨by rfl, ?_⟩) hR ?_; rotate_left; (focus (intro w hSw; (try dsimp only at hSw); go_simp; (try with_reducible rfl))); (try simp only [put_laws])); (refine wpAnyM_take2 8 (i := 2) (v := ?_) rfl (by kernel_rfl) (by kernel_rfl) (fun _ _ _ h => h) (Or.inl ⟨by rfl, ?_⟩) hR ?_; rotate_left; (focus (intro w hSw; (try dsimp only at hSw); go_simp; (try with_reducible rfl))); (try simp only [put_laws])); (refine wpAnyM_take2 8 (i := 7) (v := ?_) rfl (by kernel_rfl) (by kernel_rfl) (fun _ _ _ h => h) (Or.inl ⟨by rfl, ?_⟩) hR ?_; rotate_left; (focus (intro w hSw; (try dsimp only at hSw); go_simp; (try with_reducible rfl))); (try simp only [put_laws]))
  (refine wpAnyM_one (i := 3) rfl (by kernel_rfl) (fun K hK => ?_); rw [if_pos (by rfl)]; (try simp only [elem_laws]))
  go_simp
  refine HFC.out.mono ?_
  rintro e w2 ⟨rfl, hb2⟩
  have h2a : Boxed w2 pa 3 (.int .i64 (wd : Nat)) := (hb2.block _ HBA.out.lt).trans HBA.out
  have h2f : Boxed w2 pf 179 (.func (.func ff) #[] lbf) := (hb2.block _ HBF.out.lt).trans HBF.out
  have hx2 := HX1.out.below hb2 HX1.out.lt
  have hl2 := HL1.out.below hb2 HL1.out.lt
  have hR2 : (fun W : World => W.cell? ⟨pa, 0, none⟩ = some (.int .i64 (wd : Nat)) ∧ W.cell? ⟨pf, 0, none⟩ = some (.func (.func ff) #[] lbf)) w2 := ⟨h2a.cell, h2f.cell⟩
  refine hK _ _ (fun _ => hR2) ?_
  clear hK K hR
  have HB2 := Lib.hid (HB1.out.trans (hb2.mono HB1.out.size))
  have cx := hx2.cell HN.out
  have cl := hl2.cell (lnA_at l wd (by rw [HL8.out.1]; exact hwd))
  have fl := hl2.frozen wd
  have ll := hl2.lt
  have HL2 := Lib.hid hl2
  clear hb2 h2a h2f hx2 hl2
  (try simp only [put_laws])
  (refine wpAnyM_one (i := 4) rfl (by kernel_rfl) (fun K hK => ?_); rw [if_pos (by rfl)]; (try simp only [elem_laws]))
  go_simp
  refine hK _ _ (fun _ => hR2) ?_
  clear hK K
  (try simp only [put_laws])
  (refine wpAnyM_one (i := 5) rfl (by kernel_rfl) (fun K hK => ?_); rw [if_pos (by rfl)]; (try simp only [elem_laws]))
  go_simp
  refine hK _ _ (fun _ => hR2) ?_
  clear hK K
  (try simp only [put_laws])
  (refine wpAnyM_one (i := 6) rfl (by kernel_rfl) (fun K hK => ?_); rw [if_pos (by rfl)]; (try simp only [elem_laws]))
  go_simp
  refine hK _ _ (fun _ => hR2) ?_
  clear hK K
  (try simp only [put_laws])
  (refine wpAnyM_one (i := 8) rfl (by kernel_rfl) (fun K hK => ?_); rw [if_pos (by rfl)]; (try simp only [elem_laws]))
  go_simp
  refine hK _ _ (fun _ => hR2) ?_
  clear hK K
  (try simp only [put_laws])
  (refine wpAnyM_last rfl (by kernel_rfl) (fun K hK => ?_); rw [if_pos (by rfl)]; (try simp only [elem_laws]))
  clear hR2
  go_simp
  refine hK _ _ ?_
  clear hK K
  (try simp only [put_laws])
  refine wpAnyM_done (by kernel_rfl) ?_ _
  go_wp2_with fail
  first
  | go_end0
  | refine bodyPost_ret (results_none rfl _ _ _) rfl ?_
  have h1 : Blk (w2.setCell ⟨b, wd, none⟩ (.int .u64 (IntKind.u64.wrap n))) b 84 (lnA (l.set wd (n % 18446744073709551616))) := by
    have h2 := HL2.out.set wd (.int .u64 (IntKind.u64.wrap n))
    rw [lnA_set] at h2
    exact h2
  exact ⟨⟨_, rfl⟩, h1, ((Turn.of_below HB2.out (Nat.le_refl _)).mono (fun k h => h)).trans (Turn.setCell w2 _ rfl)⟩
set_option maxRecDepth 100000 in
set_option maxHeartbeats 4000000 in
theorem numRead_E {ff : FuncId} {lbf : Array Value} {i wd : Nat} {n : Int} (hwd : wd < 8) (w : World) (pa pf b : Nat) (l : List Int) (hl : Line8 l) (hF : FieldAt w ff lbf i) (x : Array Value) (hn : x[i]? = some (.int .i64 n))
    (hba : Boxed w pa 3 (.int .i64 (wd : Nat))) (hbf : Boxed w pf 179 (.func (.func ff) #[] lbf)) (hbx : Blk w b 49 x) :
    Calls Tryz.prog 128 #[.agg (lnA l), .pointer (some ⟨b, 0, none⟩), .pointer (some ⟨pa, 0, none⟩), .pointer (some ⟨pf, 0, none⟩)] w fun e w' => Turn (fun k => k = b) w w' ∧
      ((∃ u y, e = .returned u ∧ rdNum (l[wd]?.getD 0) x i = some y ∧ Blk w' b 49 y) ∨ (e = .panicked noLine ∧ rdNum (l[wd]?.getD 0) x i = none ∧ Blk w' b 49 x)) := by
  obtain ⟨W1, hW1⟩ : ∃ W1, (w.alloc (.cells (lnA l) 84)).drew = W1 := ⟨_, rfl⟩
  have hb1 : Below w.heap.size w W1 := by rw [← hW1]; exact (by repeat (first | exact Below.refl _ _ | assumption | refine Below.drew ?_ | refine below_drewN ?_ _ | refine Below.alloc ?_ (by (try simp) <;> omega) _ | refine Below.setCell ?_ (by (try simp) <;> omega) _ | refine Below.trans ?_ (Below.mono (by assumption) (by (try simp) <;> omega))))
  have hl1 : Blk W1 w.heap.size 84 (lnA l) := by rw [← hW1]; exact Blk.new _ _ _
  have hba1 : Boxed W1 pa 3 (.int .i64 (wd : Nat)) := (hb1.block _ hba.lt).trans hba
  have hbf1 : Boxed W1 pf 179 (.func (.func ff) #[] lbf) := (hb1.block _ hbf.lt).trans hbf
  have hbx1 := hbx.below hb1 hbx.lt
  have hwl : wd < l.length := by rw [hl.1]; exact hwd
  have hy0 : 0 ≤ l[wd]?.getD 0 := by
    rw [List.getElem?_eq_getElem hwl, Option.getD_some]
    exact (hl.2 _ (List.getElem_mem hwl)).1
  have cly := hl1.cell (lnA_at l wd hwl)
  obtain ⟨y, hy⟩ : ∃ y, l[wd]?.getD 0 = y := ⟨_, rfl⟩
  rw [hy] at cly hy0 ⊢
  have HFC := Lib.hid ((hF.below hb1).2 b W1 (Below.refl _ _))
  have eF : ∀ args W, (callFunc ff args).run Tryz.prog W = .ok (.enter ff args) W := hF.1
  have HNU := Lib.hid (fun W => number_anyN y hy0 W)
  have HW1 := Lib.hid hW1
  have HB1 := Lib.hid hb1
  have HX1 := Lib.hid hbx1
  have HL1 := Lib.hid hl1
  have HN := Lib.hid hn
  have hw2 : (wd : Int) < 8 := by omega
  have hR : (fun W : World => W.cell? ⟨pa, 0, none⟩ = some (.int .i64 (wd : Nat)) ∧ W.cell? ⟨pf, 0, none⟩ = some (.func (.func ff) #[] lbf) ∧ W.cell? ⟨w.heap.size, wd, none⟩ = some (.int .u64 y)) W1 := ⟨hba1.cell, hbf1.cell, cly⟩
  have HBA := Lib.hid hba1
  have HBF := Lib.hid hbf1
  have HLB := Lib.hid hbx.lt
  clear hW1 hb1 hl1 hba1 hbf1 hbx1 hF hn hba hbf hbx hl hy hwl cly
  go_enter Tryz.func128, Tryz.ntmps128
  go_wp2_with fail
  refine wp_region_M 8 (fun W : World => W.cell? ⟨pa, 0, none⟩ = some (.int .i64 (wd : Nat)) ∧ W.cell? ⟨pf, 0, none⟩ = some (.func (.func ff) #[] lbf) ∧ W.cell? ⟨w.heap.size, wd, none⟩ = some (.int .u64 y)) (by kernel_rfl) ?_
  rw [HW1.out]
  (refine wpAnyM_take2 8 (i := 0) (v := ?_) rfl (by kernel_rfl) (by kernel_rfl) (fun _ _ _ h => h) (Or.inl ⟨by rfl, ?_⟩) hR ?_; rotate_left; (focus (intro w hSw; (try dsimp only at hSw); go_simp; (try with_reducible rfl))); (try simp only [put_laws])); (refine wpAnyM_take2 8 (i := 1) (v := ?_) rfl (by kernel_rfl) (by kernel_rfl) (fun _ _ _ h => h) (Or.inl ⟨by rfl, ?_⟩) hR ?_; rotate_left; (focus (intro w hSw; (try dsimp only at hSw); go_simp; (try with_reducible rfl))); (try simp only [put_laws])); (refine wpAnyM_take2 8 (i := 3) (v := ?_) rfl (by kernel_rfl) (by kernel_rfl) (fun _ _ _ h => h) (Or.inl ⟨by rfl, ?_⟩) hR ?_; rotate_left; (focus (intro w hSw; (try dsimp only at hSw); go_simp; (try with_reducible rfl))); (try simp only [put_laws])); (refine wpAnyM_take2 8 (i := 4) (v := ?_) rfl (by kernel_rfl) (by kernel_rfl) (fun _ _ _ h => h) (Or.inl ⟨by rfl, ?_⟩) hR ?_; rotate_left; (focus (intro w hSw; (try dsimp only at hSw); go_simp; (try with_reducible rfl))); (try simp only [put_laws])); (refine wpAnyM_take2 8 (i := 5) (v := ?_) rfl (by kernel_rfl) (by kernel_rfl) (fun _ _ _ h => h) (Or.inl ⟨by rfl, ?_⟩) hR ?_; rotate_left; (focus (intro w hSw; (try dsimp only at hSw); go_simp; (try with_reducible rfl))); (try simp only [put_laws]))
  (refine wpAnyM_one (i := 2) rfl (by kernel_rfl) (fun K hK => ?_); rw [if_pos (by rfl)]; (try simp only [elem_laws]))
  go_simp
  refine HFC.out.mono ?_
  rintro e w2 ⟨rfl, hb2⟩
  have h2a : Boxed w2 pa 3 (.int .i64 (wd : Nat)) := (hb2.block _ HBA.out.lt).trans HBA.out
  have h2f : Boxed w2 pf 179 (.func (.func ff) #[] lbf) := (hb2.block _ HBF.out.lt).trans HBF.out
  have h2l : w2.cell? ⟨w.heap.size, wd, none⟩ = some (.int .u64 y) := (hb2.cell (p := ⟨w.heap.size, wd, none⟩) HL1.out.lt).trans hR.2.2
  have hx2 := HX1.out.below hb2 HX1.out.lt
  have hR2 : (fun W : World => W.cell? ⟨pa, 0, none⟩ = some (.int .i64 (wd : Nat)) ∧ W.cell? ⟨pf, 0, none⟩ = some (.func (.func ff) #[] lbf) ∧ W.cell? ⟨w.heap.size, wd, none⟩ = some (.int .u64 y)) w2 := ⟨h2a.cell, h2f.cell, h2l⟩
  refine hK _ _ (fun _ => hR2) ?_
  clear hK K hR
  have HT2 : Hid (Turn (fun k => k = b) w w2) := show Turn _ _ _ from Turn.of_below (HB1.out.trans (hb2.mono HB1.out.size)) (Nat.le_refl _)
  have cx := hx2.cell HN.out
  have fx := hx2.frozen i
  have lx := hx2.lt
  have HX2 := Lib.hid hx2
  clear hb2 h2a h2f h2l hx2
  (try simp only [put_laws])
  (refine wpAnyM_one (i := 6) rfl (by kernel_rfl) (fun K hK => ?_); rw [if_pos (by rfl)]; (try simp only [elem_laws]))
  go_simp
  refine (HNU.out w2).mono ?_
  rintro e w3 ⟨rfl, ⟨hle, rfl⟩ | ⟨hgt, rfl⟩⟩
  · have HLE := Lib.hid hle
    clear hle
    refine hK _ _ (fun _ => hR2) ?_
    clear hK K
    (try simp only [put_laws])
    (refine wpAnyM_one (i := 7) rfl (by kernel_rfl) (fun K hK => ?_); rw [if_pos (by rfl)]; (try simp only [elem_laws]))
    go_simp
    refine hK _ _ (fun _ => hR2) ?_
    clear hK K
    (try simp only [put_laws])
    (refine wpAnyM_last rfl (by kernel_rfl) (fun K hK => ?_); rw [if_pos (by rfl)]; (try simp only [elem_laws]))
    clear hR2
    go_simp
    refine hK _ _ ?_
    clear hK K
    (try simp only [put_laws])
    refine wpAnyM_done (by kernel_rfl) ?_ _
    go_wp2_with fail
    first
    | go_end0
    | refine bodyPost_ret (results_none rfl _ _ _) rfl ?_
    exact ⟨HT2.out.trans (Turn.setCell w3 _ rfl), .inl ⟨_, _, rfl, if_pos HLE.out, HX2.out.set _ _⟩⟩
  · exact ⟨rfl, HT2.out, .inr ⟨rfl, if_neg (by omega), HX2.out⟩⟩
end Go.Proofs.YtfdnlgmgjmbafaaGreatDoor

/-
  node: the part that is one number of a line of api.Entry. Written by gen_nd.py.
-/
namespace Go.Proofs.YtfdnlgmgjmbafaaGreatDoor
open Go.RowKit Go.Shelf Go.Sort
attribute [local go_sem] Oper.semAt_some

theorem numPart_E {Good : Array Value → Prop} {i wd : Nat} {lo hi : Int} {ff fl : FuncId} {lbf : Array Value} (hwd : wd < 8) (hG : NumGood Good i) (w : World) (hF : FieldAt w ff lbf i) (hL : LiesAt fl lo hi) (pa pf pl : Nat)
    (hba : Boxed w pa 3 (.int .i64 (wd : Nat))) (hbf : Boxed w pf 179 (.func (.func ff) #[] lbf)) (hbl : Boxed w pl 108 (.func (.func fl) #[] #[])) :
    NdPart Good 49 w ⟨126, #[.pointer (some ⟨pl, 0, none⟩), .pointer (some ⟨pf, 0, none⟩)], 127, #[.pointer (some ⟨pf, 0, none⟩), .pointer (some ⟨pa, 0, none⟩)], 128, #[.pointer (some ⟨pa, 0, none⟩), .pointer (some ⟨pf, 0, none⟩)], numS wd i lo hi⟩ where
  e0 := enters_of Tryz.func126 (by kernel_rfl) rfl
  e1 := enters_of Tryz.func127 (by kernel_rfl) rfl
  e2 := enters_of Tryz.func128 (by kernel_rfl) rfl
  mayBe x W hx hW := by
    obtain ⟨n, hn, h0, h1⟩ := hG.at_ x hx
    have h := numMay_E W pl pf (hF.below hW) hL x hn ((hW.block _ hbl.lt).trans hbl) ((hW.block _ hbf.lt).trans hbf)
    show Calls _ _ _ _ fun e w' => e = .returned (.bool (inB (numAt x i, lo, hi))) ∧ _
    rw [numAt_of hn]
    exact h
  write x l b W hx _ hl hW _ hb := by
    obtain ⟨n, hn, h0⟩ := hG.at_ x hx
    have h := numWrite_E hwd W pa pf b l hl (hF.below hW) x hn h0 ((hW.block _ hba.lt).trans hba) ((hW.block _ hbf.lt).trans hbf) hb
    show Calls _ _ _ _ fun e w' => (∃ u, e = .returned u) ∧ Blk w' b _ (lnA (l.set wd (numAt x i % 18446744073709551616))) ∧ _
    rw [numAt_of hn]
    exact h
  read x l b W hx hl hW _ hb := by
    obtain ⟨n, hn, h0⟩ := hG.at_ x hx
    exact numRead_E hwd W pa pf b l hl (hF.below hW) x hn ((hW.block _ hba.lt).trans hba) ((hW.block _ hbf.lt).trans hbf) hb
  wrLine x l _ _ hl := hl.set wd (Int.emod_nonneg _ (by decide)) (Int.emod_lt_of_pos _ (by decide))
  rdGood x l y hx hl h := by
    have h2 : rdNum (l[wd]?.getD 0) x i = some y := h
    unfold rdNum at h2
    have hwl : wd < l.length := by rw [hl.1]; exact hwd
    rw [List.getElem?_eq_getElem hwl, Option.getD_some] at h2
    have h3 := (hl.2 _ (List.getElem_mem hwl)).1
    split at h2
    · rename_i h4
      rw [← Option.some.inj h2]
      exact hG.set x _ hx h3 h4
    · cases h2
/-- What numbered tells, by its boxes. -/
abbrev numVE (n wd i : Nat) (lo hi : Int) : PartV := ⟨126, #[.pointer (some ⟨n + 1 + 1, 0, none⟩), .pointer (some ⟨n + 1, 0, none⟩)], 127, #[.pointer (some ⟨n + 1, 0, none⟩), .pointer (some ⟨n, 0, none⟩)], 128, #[.pointer (some ⟨n, 0, none⟩), .pointer (some ⟨n + 1, 0, none⟩)], numS wd i lo hi⟩
def NumBoxE (W : World) (n wd : Nat) (ff fl : FuncId) (lbf : Array Value) : Prop := Boxed W n 3 (.int .i64 (wd : Nat)) ∧ Boxed W (n + 1) 179 (.func (.func ff) #[] lbf) ∧ Boxed W (n + 1 + 1) 108 (.func (.func fl) #[] #[])
theorem numBox_partE {Good : Array Value → Prop} {i wd n : Nat} {lo hi : Int} {ff fl : FuncId} {lbf : Array Value} (hwd : wd < 8) (hG : NumGood Good i) (W : World) (hF : FieldAt W ff lbf i) (hL : LiesAt fl lo hi) (hB : NumBoxE W n wd ff fl lbf) : NdPart Good 49 W (numVE n wd i lo hi) :=
  numPart_E hwd hG W hF hL _ _ _ hB.1 hB.2.1 hB.2.2
theorem numberedX_E (i wd : Nat) (lo hi : Int) (ff fl : FuncId) (lbf : Array Value) (w : World) :
    Calls Tryz.prog 84 #[.int .i64 (wd : Nat), .func (.func ff) #[] lbf, .func (.func fl) #[] #[]] w fun e w' => e = .returned (.agg #[(numVE w.heap.size wd i lo hi).v0, (numVE w.heap.size wd i lo hi).v1, (numVE w.heap.size wd i lo hi).v2]) ∧ Below w.heap.size w w' ∧ NumBoxE w' w.heap.size wd ff fl lbf := by
  go_enter Tryz.func84, Tryz.ntmps84
  go_wp2
  generalize hW : World.alloc _ _ = W
  have hB : Below w.heap.size w W := by rw [← hW]; exact (by repeat (first | exact Below.refl _ _ | assumption | refine Below.drew ?_ | refine below_drewN ?_ _ | refine Below.alloc ?_ (by (try simp) <;> omega) _ | refine Below.setCell ?_ (by (try simp) <;> omega) _ | refine Below.trans ?_ (Below.mono (by assumption) (by (try simp) <;> omega))))
  have h0 : Boxed W w.heap.size 3 (.int .i64 (wd : Nat)) := by unfold Boxed; rw [← hW]; (simp only [heap_at, World.size_alloc]; repeat (first | rw [if_pos (by omega)] | rw [if_neg (by omega)] | rw [if_pos trivial]))
  have h1 : Boxed W (w.heap.size + 1) 179 (.func (.func ff) #[] lbf) := by unfold Boxed; rw [← hW]; (simp only [heap_at, World.size_alloc]; repeat (first | rw [if_pos (by omega)] | rw [if_neg (by omega)] | rw [if_pos trivial]))
  have h2 : Boxed W (w.heap.size + 1 + 1) 108 (.func (.func fl) #[] #[]) := by unfold Boxed; rw [← hW]; (simp only [heap_at, World.size_alloc]; repeat (first | rw [if_pos (by omega)] | rw [if_neg (by omega)] | rw [if_pos trivial]))
  have h3 : Blk W (w.heap.size + 1 + 1 + 1) 176 #[(numVE w.heap.size wd i lo hi).v0, (numVE w.heap.size wd i lo hi).v1, (numVE w.heap.size wd i lo hi).v2] := by unfold Blk; rw [← hW]; (simp only [heap_at, World.size_alloc]; repeat (first | rw [if_pos (by omega)] | rw [if_neg (by omega)] | rw [if_pos trivial]))
  exact bodyPost_ret (results_cell (fn := Tryz.f84) rfl rfl (h3.loadVar (tt := 176) Tryz.underlying176 rfl (by kernel_rfl))) rfl ⟨rfl, hB, h0, h1, h2⟩
theorem numbered_E {Good : Array Value → Prop} {i wd : Nat} {lo hi : Int} {ff fl : FuncId} {lbf : Array Value} (hwd : wd < 8) (hG : NumGood Good i) (w : World) (hF : FieldAt w ff lbf i) (hL : LiesAt fl lo hi) :
    Calls Tryz.prog 84 #[.int .i64 (wd : Nat), .func (.func ff) #[] lbf, .func (.func fl) #[] #[]] w fun e w' => ∃ p : PartV, e = .returned (.agg #[p.v0, p.v1, p.v2]) ∧ Below w.heap.size w w' ∧ NdPart Good 49 w' p ∧ p.S = numS wd i lo hi :=
  (numberedX_E i wd lo hi ff fl lbf w).mono fun _e w' ⟨he, hb, hx⟩ => ⟨_, he, hb, numBox_partE hwd hG w' (hF.below hb) hL hx, rfl⟩
end Go.Proofs.YtfdnlgmgjmbafaaGreatDoor
