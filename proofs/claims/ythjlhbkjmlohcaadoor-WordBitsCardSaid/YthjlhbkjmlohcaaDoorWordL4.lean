/-
  The walk of the law WordBits.
-/
import Derived.Test.YthjlhbkjmlohcaaDoorWordY
namespace Go.Proofs.YthjlhbkjmlohcaaDoor
open Go.RowKit Go.Shelf
attribute [local go_sem] Oper.semAt_some

namespace WM
theorem withN_true (o y : Nat) : withN o y true = o ||| 2 ^ y := by
  apply Nat.eq_of_testBit_eq
  intro i
  rw [withN_bit, Nat.testBit_or, Nat.testBit_two_pow]
  by_cases h : i = y
  · subst h; simp
  · have h' : ¬ y = i := fun e => h e.symm
    simp [h, h']
/-- The last one, or -1. -/
def lastOf (p : List Nat) : Int := match p.getLast? with
  | some y => (y : Int)
  | none => -1
theorem lastOf_snoc (p : List Nat) (y : Nat) : lastOf (p ++ [y]) = y := by simp [lastOf]
theorem lastOf_lo (p : List Nat) : -1 ≤ lastOf p := by unfold lastOf; split <;> omega
theorem bitsOf_sorted (x : Nat) : (bitsOf x).Pairwise (· < ·) := List.Pairwise.sublist List.filter_sublist List.pairwise_lt_range
/-- A bit of a word is behind those ahead of it. -/
theorem next_last {x : Nat} {p : List Nat} {y : Nat} (h : p ++ [y] <+: bitsOf x) : lastOf p < y := by
  have hs : (p ++ [y]).Pairwise (· < ·) := List.Pairwise.sublist h.sublist (bitsOf_sorted x)
  have := (List.pairwise_append.1 hs).2.2
  unfold lastOf
  split
  · rename_i z hz
    have := this z (List.mem_of_getLast? hz) y (by simp)
    omega
  · omega
theorem orBits_sub {x : Nat} {p : List Nat} (hx : x < 18446744073709551616) (h : p <+: bitsOf x) : orBits 0 p &&& x = orBits 0 p := by
  apply Nat.eq_of_testBit_eq
  intro j
  rw [Nat.testBit_and, orBits_bit, Nat.zero_testBit, Bool.false_or]
  by_cases hj : j ∈ p
  · have := (mem_bitsOf x j hx).1 (h.subset hj)
    simp [hj, this]
  · simp [hj]
end WM
theorem ownFrom_imp {β : Type} {B : Nat} {I : β → World → Prop} (c : Prop) (h : OwnFrom B I) : OwnFrom B (fun s W => c → I s W) := fun s W W' row hs hg hr hc => h s W W' row (hs hc) hg hr
/-- The turn, as its box has it. -/
def turnOf (a : Act) (W : World) : Nat := match a.tmps.getD 7 undef with
  | .pointer (some p) => (intOf ((W.cell? p).getD undef)).toNat
  | _ => 0
theorem turnOf_eq {a : Act} {W : World} {p : Nat} {t : TypeId} {n : Int} (h : a.tmps.getD 7 undef = .pointer (some ⟨p, 0, none⟩)) (hB : Boxed W p t (.int .i64 n)) : turnOf a W = n.toNat := by
  unfold turnOf
  rw [h]
  simp [hB.cell, intOf]
/-- Which turns there are. -/
def TurnOk (tv : Int) : Prop := tv = 0 ∨ tv = 1 ∨ tv = 2
/-- What a round over the bits keeps. -/
def BitsI (w wr : World) (p7 : Nat) (many tv : Int) (ds : List Deferred) (pre : List (Fin 64)) (W : World) : Prop :=
  Boxed W (wr.heap.size) 3 (.int .i64 (pre.length : Nat)) ∧ Boxed W (wr.heap.size + 1) 3 (.int .i64 (WM.lastOf (pre.map (·.1)))) ∧ Boxed W (wr.heap.size + 1 + 1) 22 (.int .u64 (WM.orBits 0 (pre.map (·.1)) : Nat)) ∧ Boxed W w.heap.size 3 (.int .i64 many) ∧ Boxed W (w.heap.size + 1) 4 (.bool false) ∧ Boxed W p7 3 (.int .i64 tv) ∧ Below w.heap.size w W ∧ Marks w.heap.size wr.heap.size ds W
/-- What holds where the bits are left. -/
def BitsX (w wr : World) (p7 : Nat) (many tv : Int) (ds : List Deferred) (cd : Code) (pre : List (Fin 64)) (W : World) : Prop :=
  (cd = .ret ∨ cd = .exit 2) ∧ (cd = .ret → ∃ (p : List Nat) (y : Nat), pre.map (·.1) = p ++ [y] ∧ (y : Int) ≤ WM.lastOf p) ∧ (cd = .exit 2 → tv = 0 ∧ Boxed W (wr.heap.size + 1 + 1) 22 (.int .u64 (WM.orBits 0 (pre.map (·.1)) : Nat)) ∧ Boxed W w.heap.size 3 (.int .i64 many) ∧ Boxed W (w.heap.size + 1) 4 (.bool false) ∧ Boxed W p7 3 (.int .i64 tv) ∧ Below w.heap.size w W ∧ Marks w.heap.size wr.heap.size ds W)
theorem bitsI_own (w wr : World) (p7 : Nat) (many tv : Int) (ds : List Deferred) (n : Nat) (h1 : w.heap.size ≤ n) (h2 : wr.heap.size ≤ n) : OwnFrom n (BitsI w wr p7 many tv ds) :=
  OwnFrom.and (Own.from (boxed_own _ _ (fun pre : List (Fin 64) => .int .i64 (pre.length : Nat))) _) (OwnFrom.and (Own.from (boxed_own _ _ (fun pre : List (Fin 64) => .int .i64 (WM.lastOf (pre.map (·.1))))) _) (OwnFrom.and (Own.from (boxed_own _ _ (fun pre : List (Fin 64) => .int .u64 (WM.orBits 0 (pre.map (·.1)) : Nat))) _) (OwnFrom.and (Own.from (boxed_own _ _ (fun _ => .int .i64 many)) _) (OwnFrom.and (Own.from (boxed_own _ _ (fun _ => .bool false)) _) (OwnFrom.and (Own.from (boxed_own _ _ (fun _ => .int .i64 tv)) _) (OwnFrom.and (ownFrom_below (Nat.le_refl _) h1) (Marks.own ds h2)))))))
theorem bitsX_own (w wr : World) (p7 : Nat) (many tv : Int) (ds : List Deferred) (n : Nat) (h1 : w.heap.size ≤ n) (h2 : wr.heap.size ≤ n) (cd : Code) : OwnFrom n (BitsX w wr p7 many tv ds cd) :=
  OwnFrom.and (ownFrom_pure _ (fun _ => cd = .ret ∨ cd = .exit 2)) (OwnFrom.and (ownFrom_pure _ (fun pre : List (Fin 64) => cd = .ret → ∃ (p : List Nat) (y : Nat), pre.map (·.1) = p ++ [y] ∧ (y : Int) ≤ WM.lastOf p)) (ownFrom_imp _ (OwnFrom.and (ownFrom_pure _ (fun _ => tv = 0)) (OwnFrom.and (Own.from (boxed_own _ _ (fun pre : List (Fin 64) => .int .u64 (WM.orBits 0 (pre.map (·.1)) : Nat))) _) (OwnFrom.and (Own.from (boxed_own _ _ (fun _ => .int .i64 many)) _) (OwnFrom.and (Own.from (boxed_own _ _ (fun _ => .bool false)) _) (OwnFrom.and (Own.from (boxed_own _ _ (fun _ => .int .i64 tv)) _) (OwnFrom.and (ownFrom_below (Nat.le_refl _) h1) (Marks.own ds h2)))))))))
set_option maxRecDepth 100000 in
set_option maxHeartbeats 4000000 in
theorem bitsL_some (x : Nat) (v : Value) (fs : List (Int × Int)) (many : Int) (hx : x < 18446744073709551616) (hl : fs.length ≤ 20) (hfs : FieldInts fs) (w : World) (ht : Tabs w) (hs : SlF w v fs) :
    Calls Tryd.prog 3 #[.int .u64 x, v, .int .i64 many] w fun e w' => e = .returned (.bool true) ∧ Below w.heap.size w w' := by
  have z0 := ht.room
  have CA := Lib.hid (fun (W : World) (hb : Below w.heap.size w W) => apart_any v fs (by omega) hfs W (ht.below hb z0) (hs.below hb))
  have CR := Lib.hid (fun (W : World) (hb : Below w.heap.size w W) => refApart_any v fs (by omega) hfs W (hs.below hb))
  have k1 : (fs.length : Int) ≤ 20 := by omega
  have k2 : decide ((20 : Int) < (fs.length : Int)) = false := decide_eq_false (by omega)
  obtain ⟨a, cap, rfl, -, -⟩ := hs
  refine (callsIn_wide (n := 6)).1 ?_
  refine callsIn_of_wp_marks Tryd.func3 rfl trivial ?_ rfl
  simp only [Tryd.ntmps3, List.size_toArray, List.length_nil, List.length_cons, Nat.reduceAdd, Nat.reduceSub, Array.replicate_succ, Array.replicate_zero, List.push_toArray, List.append_toArray, List.nil_append, List.cons_append]
  gi_wp2_with fail
  clear k2
  rename_i K hK
  refine wpIn_loop (fun a' W => ∃ (tv : Int) (p7 : Nat) (ds : List Deferred) (u8 u9 u10 u16 u17 u18 u19 u20 u21 u22 u23 u24 u46 u47 u48 u49 u50 u51 u52 u53 u54 u55 u56 u57 u58 u59 u60 u61 u62 u63 u64 : Value), (TurnOk tv ∧ Boxed W w.heap.size 3 (.int .i64 many) ∧ Boxed W (w.heap.size + 1) 4 (.bool false) ∧ Boxed W p7 3 (.int .i64 tv) ∧ w.heap.size + 2 ≤ p7 ∧ Below w.heap.size w W ∧ Marks w.heap.size W.heap.size ds W) ∧
    a' = { tmps := #[.int .u64 x, .slice a fs.length cap, .int .i64 many, undef, undef, .pointer (some ⟨w.heap.size, 0, none⟩), .pointer (some ⟨w.heap.size + 1, 0, none⟩), .pointer (some ⟨p7, 0, none⟩), u8, u9, u10, undef, .slice a fs.length cap, .int .i64 (fs.length : Nat), .bool false, undef, u16, u17, u18, u19, u20, u21, u22, u23, u24, undef, undef, undef, undef, undef, undef, undef, undef, undef, undef, undef, undef, undef, undef, undef, undef, undef, undef, undef, undef, undef, u46, u47, u48, u49, u50, u51, u52, u53, u54, u55, u56, u57, u58, u59, u60, u61, u62, u63, u64, undef, undef, undef, undef, undef, undef, undef, undef], defers := ds })
    (fun a' W => 2 - turnOf a' W) ?_ ?_
  · have h1 := (Boxed.new w 3 (.int .i64 many)).alloc (.cells #[.bool false] 4)
    have h2 := Boxed.new (w.alloc (.cells #[.int .i64 many] 3)) 4 (.bool false)
    have h3 := Boxed.new ((w.alloc (.cells #[.int .i64 many] 3)).alloc (.cells #[.bool false] 4)) 3 (.int .i64 0)
    simp only [World.size_alloc] at h2 h3
    exact ⟨0, _, [], _, _, _, _, _, _, _, _, _, _, _, _, _, _, _, _, _, _, _, _, _, _, _, _, _, _, _, _, _, _, _, ⟨.inl rfl, h1.alloc _, h2.alloc _, h3, by omega, (by repeat (first | exact Below.refl _ _ | assumption | refine Below.drew ?_ | refine below_drewN ?_ _ | refine Below.alloc ?_ (by (try simp) <;> omega) _ | refine Below.setCell ?_ (by (try simp) <;> omega) _ | refine Below.trans ?_ (Below.mono (by assumption) (by (try simp) <;> omega)))), trivial⟩, rfl⟩
  · rintro a' wr ⟨tv, p7, ds, u8, u9, u10, u16, u17, u18, u19, u20, u21, u22, u23, u24, u46, u47, u48, u49, u50, u51, u52, u53, u54, u55, u56, u57, u58, u59, u60, u61, u62, u63, u64, ⟨htv, hM, hR, hT, hp7, hb, hD⟩, rfl⟩
    have zb := hb.size
    have hT7 := Lib.hid (turnOf_eq (a := { tmps := #[.int .u64 x, .slice a fs.length cap, .int .i64 many, undef, undef, .pointer (some ⟨w.heap.size, 0, none⟩), .pointer (some ⟨w.heap.size + 1, 0, none⟩), .pointer (some ⟨p7, 0, none⟩), u8, u9, u10, undef, .slice a fs.length cap, .int .i64 (fs.length : Nat), .bool false, undef, u16, u17, u18, u19, u20, u21, u22, u23, u24, undef, undef, undef, undef, undef, undef, undef, undef, undef, undef, undef, undef, undef, undef, undef, undef, undef, undef, undef, undef, undef, u46, u47, u48, u49, u50, u51, u52, u53, u54, u55, u56, u57, u58, u59, u60, u61, u62, u63, u64, undef, undef, undef, undef, undef, undef, undef, undef], defers := ds }) rfl hT)
    by_cases h2 : tv = 2
    · subst h2
      have hcT := hT.cell
      have hcR := hR.cell
      gi_wp2_with fail
      refine ⟨trivial, ?_⟩
      refine (callsIn_wide.2 (CA.out _ hb)).mono ?_
      rintro e w1 ⟨rfl, hb1⟩
      have b1 := hb.trans (hb1.mono zb)
      gi_wp2_with fail
      refine ⟨trivial, ?_⟩
      refine (callsIn_wide.2 (CR.out _ b1)).mono ?_
      rintro e w2 ⟨rfl, hb2⟩
      have b2 := b1.trans (hb2.mono b1.size)
      gi_wp2_with fail
      refine ⟨trivial, ?_⟩
      refine (callsIn_wide.2 (works_any _ (ht.below b2 z0))).mono ?_
      rintro e w3 ⟨rfl, hb3⟩
      have b3 := b2.trans (hb3.mono b2.size)
      have bb : Below wr.heap.size wr w3 := (hb1.trans (hb2.mono hb1.size)).trans (hb3.mono (Nat.le_trans hb1.size hb2.size))
      have hR3 := boxed_b hR bb
      have hcR3 := hR3.cell
      have hfR3 := hR3.frozen
      have hlR3 := hR3.lt
      clear hcT hcR
      gi_wp2_with fail
      have hR4 := hR3.set (.bool true)
      refine leaves_marks ds wr.heap.size _ ((hD.below bb).set hR3 _) fun W' hs => ⟨.bool true, ?_, rfl, (b3.setCell (p := ⟨w.heap.size + 1, 0, none⟩) (show w.heap.size ≤ w.heap.size + 1 by omega) _).trans hs.1⟩
      have hc4 : Boxed W' (w.heap.size + 1) 4 (.bool true) := hs.2 _ _ _ _ hR4
      simp [results, Tryd.results3, go_sem, hc4.cell]
    · have hlt2 : tv < 2 := by unfold TurnOk at htv; omega
      have hcT := hT.cell
      have hlT := hT.lt
      have hlM := hM.lt
      have hlR := hR.lt
      gi_wp2_with fail
      refine ⟨trivial, ?_⟩
      refine (callsIn_wide.2 (bits_any x _)).mono ?_
      rintro e w1 ⟨rfl, rfl⟩
      gi_wp2_with fail
      rename_i hKn
      refine hKn _ _ ?_
      clear hKn
      gi_wp2_with fail
      refine ⟨trivial, ?_⟩
      refine (callsIn_wide.2 (bits_any x _)).mono ?_
      rintro e w2 ⟨rfl, rfl⟩
      gi_wp2_with fail
      have jN := ((((Boxed.new wr 3 (.int .i64 0)).alloc (.cells #[.int .i64 (-1)] 3)).alloc (.cells #[.int .u64 0] 22)).alloc (.cells #[.int .u64 (x : Nat)] 22)).alloc (.cells #[.int .u64 (x : Nat)] 22)
      have jL := (((Boxed.new (wr.alloc (.cells #[.int .i64 0] 3)) 3 (.int .i64 (-1))).alloc (.cells #[.int .u64 0] 22)).alloc (.cells #[.int .u64 (x : Nat)] 22)).alloc (.cells #[.int .u64 (x : Nat)] 22)
      have jB := ((Boxed.new ((wr.alloc (.cells #[.int .i64 0] 3)).alloc (.cells #[.int .i64 (-1)] 3)) 22 (.int .u64 0)).alloc (.cells #[.int .u64 (x : Nat)] 22)).alloc (.cells #[.int .u64 (x : Nat)] 22)
      have jX := Boxed.new ((((wr.alloc (.cells #[.int .i64 0] 3)).alloc (.cells #[.int .i64 (-1)] 3)).alloc (.cells #[.int .u64 0] 22)).alloc (.cells #[.int .u64 (x : Nat)] 22)) 22 (.int .u64 (x : Nat))
      have b4 : Below wr.heap.size wr (((((wr.alloc (.cells #[.int .i64 0] 3)).alloc (.cells #[.int .i64 (-1)] 3)).alloc (.cells #[.int .u64 0] 22)).alloc (.cells #[.int .u64 (x : Nat)] 22)).alloc (.cells #[.int .u64 (x : Nat)] 22)) := (by repeat (first | exact Below.refl _ _ | assumption | refine Below.drew ?_ | refine below_drewN ?_ _ | refine Below.alloc ?_ (by (try simp) <;> omega) _ | refine Below.setCell ?_ (by (try simp) <;> omega) _ | refine Below.trans ?_ (Below.mono (by assumption) (by (try simp) <;> omega))))
      have hsz0 : (((((wr.alloc (.cells #[.int .i64 0] 3)).alloc (.cells #[.int .i64 (-1)] 3)).alloc (.cells #[.int .u64 0] 22)).alloc (.cells #[.int .u64 (x : Nat)] 22)).alloc (.cells #[.int .u64 (x : Nat)] 22)).heap.size = wr.heap.size + 5 := by simp
      have hsz := Lib.hid hsz0; clear hsz0
      simp only [World.size_alloc] at jL jB jX
      generalize (((((wr.alloc (.cells #[.int .i64 0] 3)).alloc (.cells #[.int .i64 (-1)] 3)).alloc (.cells #[.int .u64 0] 22)).alloc (.cells #[.int .u64 (x : Nat)] 22)).alloc (.cells #[.int .u64 (x : Nat)] 22)) = W0 at *
      have jM := boxed_b hM b4
      have jR := boxed_b hR b4
      have jT := boxed_b hT b4
      have jD := hD.below b4
      have t4 : Tabs W0 := ht.below (hb.trans (b4.mono zb)) z0
      have b0 := hb.trans (b4.mono zb)
      clear hcT
      refine wpIn_rangeFunc_ownG (N := (WM.bitsOf x).length) (n := 6) rfl (by decide) (gf := 17) (lb := #[.pointer (some ⟨wr.heap.size + 1 + 1 + 1 + 1, 0, none⟩)]) rfl trivial (enters_of Tryd.func17 (by kernel_rfl) rfl)
        (bits_stops 5 (by decide) (wr.heap.size + 1 + 1 + 1 + 1) x hx W0 t4 (by have := hsz.out; omega) jX.cell) (fun h k => Keeps.trans h k) (keeps_b (fun k hk => by have := hsz.out; rcases hk with rfl | hk <;> omega)) (Below.refl _ _) (fun _ => rfl)
        (BitsI w wr p7 many tv ds) (BitsX w wr p7 many tv ds)
        (bitsI_own w wr p7 many tv ds _ (by have := hsz.out; omega) (by have := hsz.out; omega)) (bitsX_own w wr p7 many tv ds _ (by have := hsz.out; omega) (by have := hsz.out; omega))
        ⟨jN, jL, jB, jM, jR, jT, b0, jD⟩
        ?a1 ?assign ?body ?done ?stop
      case assign =>
        intro l y W K hK
        gi_wp2
        exact hK
      case body =>
        rintro l pre y W ⟨iN, iL, iB, iM, iR, iT, iW, iD⟩ hlen
        have ho := WM.orBits_lt (pre.map (·.1)) 0 (by decide) (fun z hz => by obtain ⟨q, _, rfl⟩ := List.mem_map.1 hz; exact q.2)
        have hlo := WM.lastOf_lo (pre.map (·.1))
        have HLS := Lib.hid (WM.lastOf_snoc (pre.map (·.1)) y.1)
        have HMO := Lib.hid (WM.orBits_more 0 (pre.map (·.1)) y.1)
        have HMA := Lib.hid (show (pre ++ [y]).map (·.1) = pre.map (·.1) ++ [y.1] by simp)
        have HLN := Lib.hid (show (((pre ++ [y]).length : Nat) : Int) = (pre.length : Int) + 1 by simp)
        have hn64 : (pre.length : Int) < 64 := by have := WM.bitsOf_len x; omega
        have HWT := Lib.hid (WM.withN_true (WM.orBits 0 (pre.map (·.1))) y.1)
        generalize hpm : pre.map (·.1) = q at *
        have HQ := Lib.hid hpm; clear hpm
        generalize hoo : WM.orBits 0 q = o at *
        have HOO := Lib.hid hoo; clear hoo
        generalize hll : WM.lastOf q = L at *
        have HLL := Lib.hid hll; clear hll
        have hy64 := y.2
        have hy : ((y.1 : Nat) : Int) ≤ 63 := by have := y.2; omega
        have cN := iN.cell
        have cL := iL.cell
        have cB := iB.cell
        have cM := iM.cell
        have cT := iT.cell
        have cR := iR.cell
        have fN := iN.frozen
        have fL := iL.frozen
        have fB := iB.frozen
        have fR := iR.frozen
        have lW := iN.lt
        have lB := iB.lt
        by_cases hyl : ((y.1 : Nat) : Int) ≤ L
        · gi_wp2
          exact ⟨(KeepsOthers.setCell _ _ _).from _, .inl rfl, fun _ => ⟨q, y.1, HMA.out, by rw [HLL.out]; exact hyl⟩, (fun h => by cases h)⟩
        · have hyl' : L < ((y.1 : Nat) : Int) := by omega
          have jN := ((iN.other (show wr.heap.size ≠ wr.heap.size + 1 + 1 by omega) (.int .u64 ((o ||| 2 ^ y.1 : Nat) : Int))).other (show wr.heap.size ≠ wr.heap.size + 1 by omega) (.int .i64 ((y.1 : Nat) : Int))).set (.int .i64 ((pre.length : Int) + 1))
          have jL := ((iL.other (show wr.heap.size + 1 ≠ wr.heap.size + 1 + 1 by omega) (.int .u64 ((o ||| 2 ^ y.1 : Nat) : Int))).set (.int .i64 ((y.1 : Nat) : Int))).other (show wr.heap.size + 1 ≠ wr.heap.size by omega) (.int .i64 ((pre.length : Int) + 1))
          have jB := ((iB.set (.int .u64 ((o ||| 2 ^ y.1 : Nat) : Int))).other (show wr.heap.size + 1 + 1 ≠ wr.heap.size + 1 by omega) (.int .i64 ((y.1 : Nat) : Int))).other (show wr.heap.size + 1 + 1 ≠ wr.heap.size by omega) (.int .i64 ((pre.length : Int) + 1))
          have jM := ((iM.other (show w.heap.size ≠ wr.heap.size + 1 + 1 by omega) (.int .u64 ((o ||| 2 ^ y.1 : Nat) : Int))).other (show w.heap.size ≠ wr.heap.size + 1 by omega) (.int .i64 ((y.1 : Nat) : Int))).other (show w.heap.size ≠ wr.heap.size by omega) (.int .i64 ((pre.length : Int) + 1))
          have jR := ((iR.other (show w.heap.size + 1 ≠ wr.heap.size + 1 + 1 by omega) (.int .u64 ((o ||| 2 ^ y.1 : Nat) : Int))).other (show w.heap.size + 1 ≠ wr.heap.size + 1 by omega) (.int .i64 ((y.1 : Nat) : Int))).other (show w.heap.size + 1 ≠ wr.heap.size by omega) (.int .i64 ((pre.length : Int) + 1))
          have jT := ((iT.other (show p7 ≠ wr.heap.size + 1 + 1 by omega) (.int .u64 ((o ||| 2 ^ y.1 : Nat) : Int))).other (show p7 ≠ wr.heap.size + 1 by omega) (.int .i64 ((y.1 : Nat) : Int))).other (show p7 ≠ wr.heap.size by omega) (.int .i64 ((pre.length : Int) + 1))
          have jW := ((iW.setCell (p := ⟨wr.heap.size + 1 + 1, 0, none⟩) (show w.heap.size ≤ wr.heap.size + 1 + 1 by omega) (.int .u64 ((o ||| 2 ^ y.1 : Nat) : Int))).setCell (p := ⟨wr.heap.size + 1, 0, none⟩) (show w.heap.size ≤ wr.heap.size + 1 by omega) (.int .i64 ((y.1 : Nat) : Int))).setCell (p := ⟨wr.heap.size, 0, none⟩) (show w.heap.size ≤ wr.heap.size by omega) (.int .i64 ((pre.length : Int) + 1))
          have jD := ((iD.set iB (.int .u64 ((o ||| 2 ^ y.1 : Nat) : Int))).set (iL.other (show wr.heap.size + 1 ≠ wr.heap.size + 1 + 1 by omega) _) (.int .i64 ((y.1 : Nat) : Int))).set ((iN.other (show wr.heap.size ≠ wr.heap.size + 1 + 1 by omega) _).other (show wr.heap.size ≠ wr.heap.size + 1 by omega) _) (.int .i64 ((pre.length : Int) + 1))
          have jK := (((KeepsOthers.setCell W ⟨wr.heap.size + 1 + 1, 0, none⟩ (.int .u64 ((o ||| 2 ^ y.1 : Nat) : Int))).trans (KeepsOthers.setCell _ ⟨wr.heap.size + 1, 0, none⟩ (.int .i64 ((y.1 : Nat) : Int)))).trans (KeepsOthers.setCell _ ⟨wr.heap.size, 0, none⟩ (.int .i64 ((pre.length : Int) + 1)))).from W0.heap.size
          have jP : Keeps (BitsBlocks (wr.heap.size + 1 + 1 + 1 + 1)) W _ := ((Keeps.set W (b := wr.heap.size + 1 + 1) (o := 0) (.int .u64 ((o ||| 2 ^ y.1 : Nat) : Int)) (by rintro (h | h) <;> omega)).trans (Keeps.set _ (b := wr.heap.size + 1) (o := 0) (.int .i64 ((y.1 : Nat) : Int)) (by rintro (h | h) <;> omega))).trans (Keeps.set _ (b := wr.heap.size) (o := 0) (.int .i64 ((pre.length : Int) + 1)) (by rintro (h | h) <;> omega))
          by_cases htz : tv = 0
          · subst htz
            by_cases hmany : many ≤ (pre.length : Int) + 1
            · gi_wp2_with fail
              refine ⟨trivial, ?_⟩
              refine (CallsIn.inRound l (callsIn_wide.2 (with_any' o y.1 true hy64 ho _))).mono ?_
              rintro e w3 ⟨rfl, rfl⟩
              rw [HWT.out]
              gi_wp2_with fail
              exact ⟨jK, .inr rfl, (fun h => by cases h), fun _ => ⟨rfl, by rw [HMA.out, HMO.out]; exact jB, jM, jR, jT, jW, jD⟩⟩
            · have hmany' : (pre.length : Int) + 1 < many := by omega
              gi_wp2_with fail
              refine ⟨trivial, ?_⟩
              refine (CallsIn.inRound l (callsIn_wide.2 (with_any' o y.1 true hy64 ho _))).mono ?_
              rintro e w3 ⟨rfl, rfl⟩
              rw [HWT.out]
              gi_wp2_with fail
              exact ⟨jK, jP, by rw [HLN.out]; exact jN, by rw [HMA.out, HLS.out]; exact jL, by rw [HMA.out, HMO.out]; exact jB, jM, jR, jT, jW, jD⟩
          · obtain rfl : tv = 1 := by unfold TurnOk at htv; omega
            gi_wp2_with fail
            refine ⟨trivial, ?_⟩
            refine (CallsIn.inRound l (callsIn_wide.2 (with_any' o y.1 true hy64 ho _))).mono ?_
            rintro e w3 ⟨rfl, rfl⟩
            rw [HWT.out]
            gi_wp2_with fail
            exact ⟨jK, jP, by rw [HLN.out]; exact jN, by rw [HMA.out, HLS.out]; exact jL, by rw [HMA.out, HMO.out]; exact jB, jM, jR, jT, jW, jD⟩
      case done =>
        rintro D ys W hDb hys ⟨iN, iL, iB, iM, iR, iT, iW, iD⟩ hK'
        rw [hys, WM.orBits_all 0 x hx, Nat.zero_or] at iB
        have hxx : bits .and .u64 (x : Int) (x : Int) = (x : Int) := by rw [u64_and_nat x x hx hx, Nat.and_self]
        clear hys iN iL
        by_cases htz : tv = 0
        · subst htz
          have hD5 : wr.heap.size + 5 ≤ D := by have := hsz.out; omega
          have hDW := (Array.getElem?_eq_some_iff.1 hK').1
          have m0 : Marks w.heap.size (D + 1) ({ target := .collected D, args := #[] } :: ds) W := ⟨D, rfl, by omega, by omega, hK', iD.more (by omega)⟩
          have cB := iB.cell
          have cT := iT.cell
          have lB := iB.lt
          have lM := iM.lt
          have lR := iR.lt
          have zW := iW.size
          have hnew := Boxed.new W 3 (.int .i64 1)
          have jM := iM.alloc (.cells #[.int .i64 1] 3)
          have jR := iR.alloc (.cells #[.int .i64 1] 3)
          have jW := iW.alloc zW (.cells #[.int .i64 1] 3)
          have jD := m0.below (W' := W.alloc (.cells #[.int .i64 1] 3)) ((Below.refl _ _).alloc (by omega) _)
          have zF : D + 1 ≤ (W.alloc (.cells #[.int .i64 1] 3)).heap.size := by simp; omega
          gi_wp2
          refine ⟨⟨1, W.heap.size, _ :: ds, _, _, _, _, _, _, _, _, _, _, _, _, _, _, _, _, _, _, _, _, _, _, _, _, _, _, _, _, _, _, _, ⟨.inr (.inl rfl), jM, jR, hnew, by omega, jW, jD.more zF⟩, rfl⟩, ?_⟩
          rw [turnOf_eq rfl hnew, hT7.out]
          decide
        · obtain rfl : tv = 1 := by unfold TurnOk at htv; omega
          have hD5 : wr.heap.size + 5 ≤ D := by have := hsz.out; omega
          have hDW := (Array.getElem?_eq_some_iff.1 hK').1
          have m0 : Marks w.heap.size (D + 1) ({ target := .collected D, args := #[] } :: ds) W := ⟨D, rfl, by omega, by omega, hK', iD.more (by omega)⟩
          have cB := iB.cell
          have cT := iT.cell
          have lB := iB.lt
          have lM := iM.lt
          have lR := iR.lt
          have zW := iW.size
          have hnew := Boxed.new W 3 (.int .i64 2)
          have jM := iM.alloc (.cells #[.int .i64 2] 3)
          have jR := iR.alloc (.cells #[.int .i64 2] 3)
          have jW := iW.alloc zW (.cells #[.int .i64 2] 3)
          have jD := m0.below (W' := W.alloc (.cells #[.int .i64 2] 3)) ((Below.refl _ _).alloc (by omega) _)
          have zF : D + 1 ≤ (W.alloc (.cells #[.int .i64 2] 3)).heap.size := by simp; omega
          gi_wp2
          refine ⟨⟨2, W.heap.size, _ :: ds, _, _, _, _, _, _, _, _, _, _, _, _, _, _, _, _, _, _, _, _, _, _, _, _, _, _, _, _, _, _, _, ⟨.inr (.inr rfl), jM, jR, hnew, by omega, jW, jD.more zF⟩, rfl⟩, ?_⟩
          rw [turnOf_eq rfl hnew, hT7.out]
          decide
      case stop =>
        rintro D cd pre W hDb hpre ⟨hcd, hret, hex⟩ hK'
        have hno : cd ≠ .ret := fun e => by
          obtain ⟨p, y, e1, e2⟩ := hret e
          rw [e1] at hpre
          have := WM.next_last hpre
          omega
        obtain rfl : cd = .exit 2 := hcd.resolve_left hno
        obtain ⟨rfl, iB, iM, iR, iT, iW, iD⟩ := hex rfl
        have hsub := WM.orBits_sub hx hpre
        have ho := WM.orBits_lt (pre.map (·.1)) 0 (by decide) (fun z hz => by obtain ⟨q, _, rfl⟩ := List.mem_map.1 hz; exact q.2)
        generalize WM.orBits 0 (pre.map (·.1)) = o at *
        have hxx : bits .and .u64 (o : Int) (x : Int) = (o : Int) := by rw [u64_and_nat o x ho hx, hsub]
        clear hcd hret hex hpre hno hsub
        have hD5 : wr.heap.size + 5 ≤ D := by have := hsz.out; omega
        have hDW := (Array.getElem?_eq_some_iff.1 hK').1
        have m0 : Marks w.heap.size (D + 1) ({ target := .collected D, args := #[] } :: ds) W := ⟨D, rfl, by omega, by omega, hK', iD.more (by omega)⟩
        have cB := iB.cell
        have cT := iT.cell
        have lB := iB.lt
        have lM := iM.lt
        have lR := iR.lt
        have zW := iW.size
        have hnew := Boxed.new W 3 (.int .i64 1)
        have jM := iM.alloc (.cells #[.int .i64 1] 3)
        have jR := iR.alloc (.cells #[.int .i64 1] 3)
        have jW := iW.alloc zW (.cells #[.int .i64 1] 3)
        have jD := m0.below (W' := W.alloc (.cells #[.int .i64 1] 3)) ((Below.refl _ _).alloc (by omega) _)
        have zF : D + 1 ≤ (W.alloc (.cells #[.int .i64 1] 3)).heap.size := by simp; omega
        gi_wp2
        refine ⟨⟨1, W.heap.size, _ :: ds, _, _, _, _, _, _, _, _, _, _, _, _, _, _, _, _, _, _, _, _, _, _, _, _, _, _, _, _, _, _, _, ⟨.inr (.inl rfl), jM, jR, hnew, by omega, jW, jD.more zF⟩, rfl⟩, ?_⟩
        rw [turnOf_eq rfl hnew, hT7.out]
        decide
theorem bitsL_long (x : Nat) (v : Value) (fs : List (Int × Int)) (many : Int) (hl : 20 < fs.length) (w : World) (ht : Tabs w) (hs : SlF w v fs) :
    Calls Tryd.prog 3 #[.int .u64 x, v, .int .i64 many] w fun e w' => e = .returned (.bool true) ∧ Below w.heap.size w w' := by
  have k1 : (20 : Int) < (fs.length : Int) := by omega
  have z0 := ht.room
  obtain ⟨a, cap, rfl, -, -⟩ := hs
  have hM := (Boxed.new w 3 (.int .i64 many)).alloc (.cells #[.bool false] 4)
  have hR := Boxed.new (w.alloc (.cells #[.int .i64 many] 3)) 4 (.bool false)
  simp only [World.size_alloc] at hR
  go_enter Tryd.func3, Tryd.ntmps3
  go_wp2_with fail
  refine (works_any _ (by exact ht.below (by repeat (first | exact Below.refl _ _ | assumption | refine Below.drew ?_ | refine below_drewN ?_ _ | refine Below.alloc ?_ (by (try simp) <;> omega) _ | refine Below.setCell ?_ (by (try simp) <;> omega) _ | refine Below.trans ?_ (Below.mono (by assumption) (by (try simp) <;> omega)))) ht.room)).mono ?_
  rintro e w1 ⟨rfl, hb1⟩
  have hR1 := boxed_b hR hb1
  have hc := hR1.cell
  have hf := hR1.frozen
  have hlt := hR1.lt
  go_wp2_with fail
  have hc2 := (hR1.set (.bool true)).cell
  have b1 : Below w.heap.size w w1 := (((Below.refl _ _).alloc (Nat.le_refl _) _).alloc (by simp) _).trans (hb1.mono (by simp; omega))
  refine bodyPost_ret (v := .bool true) (by simp [results, Tryd.results3, go_sem, hc2]) rfl ⟨rfl, b1.setCell (p := ⟨w.heap.size + 1, 0, none⟩) (show w.heap.size ≤ w.heap.size + 1 by omega) _⟩
theorem bitsL_any (x : Nat) (v : Value) (fs : List (Int × Int)) (many : Int) (hx : x < 18446744073709551616) (hfs : FieldInts fs) (w : World) (ht : Tabs w) (hs : SlF w v fs) :
    Calls Tryd.prog 3 #[.int .u64 x, v, .int .i64 many] w fun e w' => e = .returned (.bool true) ∧ Below w.heap.size w w' := by
  by_cases h : 20 < fs.length
  · exact bitsL_long x v fs many h w ht hs
  · exact bitsL_some x v fs many hx (by omega) hfs w ht hs
end Go.Proofs.YthjlhbkjmlohcaaDoor
