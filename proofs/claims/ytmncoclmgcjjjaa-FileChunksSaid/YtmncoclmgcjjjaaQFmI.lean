/-
  The law FileChunks: its walk (written by gen_fmi.py).
-/
import Derived.Test.YtmncoclmgcjjjaaQFmH
import Derived.Test.YtmncoclmgcjjjaaMf11
import Derived.Test.YtmncoclmgcjjjaaQFmD
namespace Go.Proofs.Ytmncoclmgcjjjaa
open Go.RowKit Go.Shelf
attribute [local go_sem] Oper.semAt_some

/-- Which turns there are. -/
def TurnN (tv : Int) : Prop := tv = 0 ∨ tv = 1 ∨ tv = 2
/-- How many came, in a turn that goes on. -/
def CountN (tv many : Int) (n : Nat) : Prop := tv = 0 → n = 0 ∨ (n : Int) < many
/-- Where the places are left. -/
def BreakN (cd : Code) (tv many : Int) (n : Nat) : Prop := cd = .exit 6 ∧ tv = 0 ∧ 1 ≤ n ∧ many ≤ (n : Int) ∧ (n = 1 ∨ (n : Int) ≤ many)
/-- The turn, as its box has it. -/
def turnOf9 (a : Act) (W : World) : Nat := match a.tmps.getD 13 undef with
  | .pointer (some p) => (intOf ((W.cell? p).getD undef)).toNat
  | _ => 0
theorem turnOf9_eq {a : Act} {W : World} {p : Nat} {t : TypeId} {n : Int} (h : a.tmps.getD 13 undef = .pointer (some ⟨p, 0, none⟩)) (hB : Boxed W p t (.int .i64 n)) : turnOf9 a W = n.toNat := by
  unfold turnOf9
  rw [h]
  simp [hB.cell, intOf]
abbrev sqN (p : Nat) : Value := .func (.func 33) #[] #[.pointer (some ⟨p, 0, none⟩)]
/-- What each turn begins with. -/
def ChuInv (w w1 : World) (X : Nat) (sq : Value) (a' : Act) (W : World) : Prop :=
  ∃ (tv : Int) (p7 : Nat) (ds : List Deferred) (U : Nat → Value), (TurnN tv ∧ Below w1.heap.size w1 W ∧ Boxed W p7 3 (.int .i64 tv) ∧ w1.heap.size ≤ p7 ∧ Marks w1.heap.size W.heap.size ds W) ∧
    a' = { tmps := #[U 0, U 1, U 2, .pointer (some ⟨w.heap.size, 0, none⟩), .pointer (some ⟨w.heap.size + 1, 0, none⟩), U 3, U 4, U 5, U 6, U 7, U 8, .pointer (some ⟨X, 0, none⟩), sq, .pointer (some ⟨p7, 0, none⟩), U 9, U 10, U 11, U 12, U 13, U 14, U 15, U 16, U 17, U 18, U 19, U 20, U 21, U 22, U 23, U 24, U 25, U 26, U 27, U 28, U 29, U 30, U 31, U 32, U 33, U 34, U 35, U 36, U 37, U 38, U 39, U 40, U 41, U 42, U 43, U 44, U 45, U 46, U 47, U 48, U 49, U 50, U 51, U 52, U 53, U 54, U 55, U 56, U 57, U 58, U 59, U 60, U 61, U 62, U 63, U 64, U 65, U 66, U 67, U 68, U 69, U 70, U 71, U 72, U 73, U 74, U 75, U 76, U 77, U 78, U 79, U 80, U 81, U 82, U 83, U 84, U 85, U 86, U 87, U 88, U 89, U 90, U 91, U 92, U 93, U 94, U 95, U 96, U 97, U 98, U 99, U 100, U 101, U 102, U 103, U 104, U 105, U 106, U 107, U 108, U 109, U 110, U 111, U 112, U 113, U 114, U 115, U 116, U 117, U 118, U 119, U 120, U 121, U 122, U 123, U 124, U 125, U 126, U 127, U 128, U 129, U 130, U 131, U 132, U 133, U 134, U 135, U 136, U 137], defers := ds }
set_option maxRecDepth 100000 in
theorem chuInv_mk {w w1 : World} {X : Nat} {sq : Value} {W : World} (tv : Int) (p7 : Nat) (ds : List Deferred) {u0 u1 u2 u5 u6 u7 u8 u9 u10 u14 u15 u16 u17 u18 u19 u20 u21 u22 u23 u24 u25 u26 u27 u28 u29 u30 u31 u32 u33 u34 u35 u36 u37 u38 u39 u40 u41 u42 u43 u44 u45 u46 u47 u48 u49 u50 u51 u52 u53 u54 u55 u56 u57 u58 u59 u60 u61 u62 u63 u64 u65 u66 u67 u68 u69 u70 u71 u72 u73 u74 u75 u76 u77 u78 u79 u80 u81 u82 u83 u84 u85 u86 u87 u88 u89 u90 u91 u92 u93 u94 u95 u96 u97 u98 u99 u100 u101 u102 u103 u104 u105 u106 u107 u108 u109 u110 u111 u112 u113 u114 u115 u116 u117 u118 u119 u120 u121 u122 u123 u124 u125 u126 u127 u128 u129 u130 u131 u132 u133 u134 u135 u136 u137 u138 u139 u140 u141 u142 : Value} (h1 : TurnN tv) (h2 : Below w1.heap.size w1 W) (h3 : Boxed W p7 3 (.int .i64 tv)) (h4 : w1.heap.size ≤ p7) (h5 : Marks w1.heap.size W.heap.size ds W) :
    ChuInv w w1 X sq { tmps := #[u0, u1, u2, .pointer (some ⟨w.heap.size, 0, none⟩), .pointer (some ⟨w.heap.size + 1, 0, none⟩), u5, u6, u7, u8, u9, u10, .pointer (some ⟨X, 0, none⟩), sq, .pointer (some ⟨p7, 0, none⟩), u14, u15, u16, u17, u18, u19, u20, u21, u22, u23, u24, u25, u26, u27, u28, u29, u30, u31, u32, u33, u34, u35, u36, u37, u38, u39, u40, u41, u42, u43, u44, u45, u46, u47, u48, u49, u50, u51, u52, u53, u54, u55, u56, u57, u58, u59, u60, u61, u62, u63, u64, u65, u66, u67, u68, u69, u70, u71, u72, u73, u74, u75, u76, u77, u78, u79, u80, u81, u82, u83, u84, u85, u86, u87, u88, u89, u90, u91, u92, u93, u94, u95, u96, u97, u98, u99, u100, u101, u102, u103, u104, u105, u106, u107, u108, u109, u110, u111, u112, u113, u114, u115, u116, u117, u118, u119, u120, u121, u122, u123, u124, u125, u126, u127, u128, u129, u130, u131, u132, u133, u134, u135, u136, u137, u138, u139, u140, u141, u142], defers := ds } W := ⟨tv, p7, ds, fun n => ([u0, u1, u2, u5, u6, u7, u8, u9, u10, u14, u15, u16, u17, u18, u19, u20, u21, u22, u23, u24, u25, u26, u27, u28, u29, u30, u31, u32, u33, u34, u35, u36, u37, u38, u39, u40, u41, u42, u43, u44, u45, u46, u47, u48, u49, u50, u51, u52, u53, u54, u55, u56, u57, u58, u59, u60, u61, u62, u63, u64, u65, u66, u67, u68, u69, u70, u71, u72, u73, u74, u75, u76, u77, u78, u79, u80, u81, u82, u83, u84, u85, u86, u87, u88, u89, u90, u91, u92, u93, u94, u95, u96, u97, u98, u99, u100, u101, u102, u103, u104, u105, u106, u107, u108, u109, u110, u111, u112, u113, u114, u115, u116, u117, u118, u119, u120, u121, u122, u123, u124, u125, u126, u127, u128, u129, u130, u131, u132, u133, u134, u135, u136, u137, u138, u139, u140, u141, u142] : List Value).getD n undef, ⟨h1, h2, h3, h4, h5⟩, rfl⟩
/-- In the rounds. -/
def ChuI9 (wr : World) (tv many : Int) (pre : List Nat) (q : Nat → Prop) (W : World) : Prop :=
  BoxF wr.heap.size 3 (.int .i64 (pre.length : Nat)) q W ∧ BelowF wr.heap.size wr q W ∧ CountN tv many pre.length
theorem abides_chu9 (wr : World) (tv many : Int) : Abides (ChuI9 wr tv many) := Abides.and (Abides.box _ _ (fun pre : List Nat => .int .i64 (pre.length : Nat))) (Abides.and (Abides.below _ _) (Abides.pure (fun pre : List Nat => CountN tv many pre.length)))
def ChuX9 (wr : World) (tv many : Int) (cd : Code) (pre : List Nat) (q : Nat → Prop) (W : World) : Prop :=
  BreakN cd tv many pre.length ∧ BoxF wr.heap.size 3 (.int .i64 (pre.length : Nat)) q W ∧ BelowF wr.heap.size wr q W
theorem abides_chux9 (wr : World) (tv many : Int) (cd : Code) : Abides (ChuX9 wr tv many cd) := Abides.and (Abides.pure (fun pre : List Nat => BreakN cd tv many pre.length)) (Abides.and (Abides.box _ _ (fun pre : List Nat => .int .i64 (pre.length : Nat))) (Abides.below _ _))
theorem wpIn_normal9 {Fc : Fence} {n : Nat} {P : Program} {c : Code} {Q : Exit → Act → World → Prop} {a : Act} {w : World} (h : c.wpIn Fc n P (fun e a w => e = .normal ∧ Q .normal a w) a w) : c.wpIn Fc n P Q a w := wpIn_mono h (by rintro _ _ _ ⟨rfl, h⟩; exact h)
theorem holF_le (L : List (List Int)) : (holF L).length ≤ L.length := by
  have h := List.length_filter_le (fun j => L[j]?.getD [] == zeros8) (List.range L.length)
  rw [List.length_range] at h
  exact h
set_option maxRecDepth 100000 in
set_option maxHeartbeats 16000000 in
theorem chunks9_some {v : Value} {xs : List Nat} (many : Int) (hm1 : -9223372036854775808 ≤ many) (hm2 : many ≤ 9223372036854775807) (hl : xs.length ≤ 448) (w : World) (hv : FB w v xs) :
    Calls Try.prog 4 #[v, .int .i64 many] w fun e w' => e = .returned (.bool true) ∧ Below w.heap.size w w' := by
  have HWK := Lib.hid works9_any
  have HN := Lib.hid num9_any
  have hk0 : errK xs.length = 0 := if_neg (by omega)
  have ho0 : outK xs = chF xs := if_neg (by omega)
  have HL8 := Lib.hid (chF_8 xs)
  have hl7 := chF_le xs hl
  have HC1 : Hid (∀ W, Below w.heap.size w W → Calls Try.prog 18 #[v] W fun e w' => ∃ u, e = .returned (.tuple #[u, .int .i64 0]) ∧ VecC w' u (chF xs) ∧ Below W.heap.size W w') := show ∀ W, _ from fun W hW => by
    have h := fileChunks_any W (hv.below hW)
    rwa [hk0, ho0] at h
  have HH1 : Hid (∀ W, Below w.heap.size w W → Calls Try.prog 19 #[v] W fun e w' => ∃ p u, e = .returned (.func (.func 33) #[] #[.pointer (some ⟨p, 0, none⟩)]) ∧ Boxed w' p 35 u ∧ VecC w' u (chF xs) ∧ Below W.heap.size W w') := show ∀ W, _ from fun W hW => by
    have h := fileHoles_any W (hv.below hW)
    rwa [ho0] at h
  have HRC := Lib.hid (fun W (hW : Below w.heap.size w W) => refChunks9_any hl hv.all W (hv.below hW).sl)
  have HRH := Lib.hid (fun W (hW : Below w.heap.size w W) => refHoles9_any hl hv.all W (hv.below hW).sl)
  have HJO : Hid (∀ W u, VecC W u (chF xs) → Calls Try.prog 21 #[.int .i64 (xs.length : Nat), u] W fun e w' => ∃ r, e = .returned (.tuple #[r, .int .i64 0]) ∧ FB w' r xs ∧ Below W.heap.size W w') := show ∀ W u, _ from fun W u hu => by
    have h := fileJoin_any (xs.length : Nat) (chF_line xs hv.all) (by omega) W hu
    rwa [errJ_self xs hv.all hl, outJ_self xs hv.all hl] at h
  have HV := Lib.hid hv
  have HSQ0 := Lib.hid (fun (W : World) p u (h1 : Boxed W p 35 u) (h2 : VecC W u (chF xs)) => holes_seq 9 (Nat.le_refl _) W HL8.out (by omega) h1 h2)
  have hPl : (holF (chF xs)).length ≤ 7 := Nat.le_trans (holF_le _) hl7
  obtain ⟨a, c, rfl, -⟩ := hv.form
  obtain ⟨n, hn⟩ : ∃ n, xs.length = n := ⟨_, rfl⟩
  rw [hn] at hl HC1 HH1 HJO HRC HRH ⊢
  have HLN := Lib.hid hn
  obtain ⟨L, hL⟩ : ∃ L, chF xs = L := ⟨_, rfl⟩
  rw [hL] at HC1 HH1 HRC HRH HJO HL8 hl7 HSQ0 hPl
  obtain ⟨P, hP⟩ : ∃ P, holF L = P := ⟨_, rfl⟩
  rw [hP] at HRH HSQ0 hPl
  obtain ⟨J, hJ⟩ : ∃ J, P.length = J := ⟨_, rfl⟩
  rw [hJ] at hPl
  have HJ := Lib.hid hJ
  obtain ⟨N, hN⟩ : ∃ N, L.length = N := ⟨_, rfl⟩
  have HNL := Lib.hid hN
  rw [hN] at hl7 HSQ0
  have g1 : ¬ (600 : Int) < (n : Int) := by omega
  have g2 : ¬ (448 : Int) < (n : Int) := by omega
  have HNE := Lib.hid (fun k (hk : k < N) W => neqLine9 Try.underlying43 (L[k]?.getD []) (L[k]?.getD []) (by rw [List.getElem?_eq_getElem (by rw [hN]; exact hk)]; exact HL8.out _ (List.getElem_mem _)) (by rw [List.getElem?_eq_getElem (by rw [hN]; exact hk)]; exact HL8.out _ (List.getElem_mem _)) W)
  obtain ⟨W0, hW0⟩ : ∃ W0, ((w.alloc (.cells #[.int .i64 many] 3)).alloc (.cells #[.bool false] 4)) = W0 := ⟨_, rfl⟩
  have b0 : Below w.heap.size w W0 := by rw [← hW0]; exact (by repeat (first | exact Below.refl _ _ | assumption | refine Below.drew ?_ | refine below_drewN ?_ _ | refine Below.alloc ?_ (by (try simp) <;> omega) _ | refine Below.setCell ?_ (by (try simp) <;> omega) _ | refine Below.trans ?_ (Below.mono (by assumption) (by (try simp) <;> omega))))
  have z0 : W0.heap.size = w.heap.size + 2 := by rw [← hW0]; simp
  have jM : Boxed W0 w.heap.size 3 (.int .i64 many) := by rw [← hW0]; unfold Boxed; (simp only [heap_at, World.size_alloc]; repeat (first | rw [if_pos (by omega)] | rw [if_neg (by omega)] | rw [if_pos trivial]))
  have jR : Boxed W0 (w.heap.size + 1) 4 (.bool false) := by rw [← hW0]; unfold Boxed; (simp only [heap_at, World.size_alloc]; repeat (first | rw [if_pos (by omega)] | rw [if_neg (by omega)] | rw [if_pos trivial]))
  have HW0 := Lib.hid hW0
  have HB0 := Lib.hid b0
  have HZ0 := Lib.hid z0
  have HJM := Lib.hid jM
  have HJR := Lib.hid jR
  clear hv hn hL hP hJ hN hl hW0 b0 z0 jM jR hk0 ho0
  refine (callsIn_wide (n := 10)).1 ?_
  refine callsIn_of_wp_marks Try.func4 rfl trivial ?_ rfl
  simp only [Try.ntmps4, List.size_toArray, List.length_nil, List.length_cons, Nat.reduceAdd, Nat.reduceSub, Array.replicate_succ, Array.replicate_zero, List.push_toArray, List.append_toArray, List.nil_append, List.cons_append]
  gi_wp2_with fail
  rw [HW0.out]
  refine ⟨trivial, ?_⟩
  refine (callsIn_wide.2 (HC1.out W0 HB0.out)).mono ?_
  rintro e w1 ⟨u1, rfl, hu1, hb1⟩
  have HB1 : Hid (Below w.heap.size w w1) := show Below _ _ _ from HB0.out.trans (hb1.mono HB0.out.size)
  have HM1 : Hid (Boxed w1 w.heap.size 3 (.int .i64 many)) := show Boxed _ _ _ _ from (hb1.block _ HJM.out.lt).trans HJM.out
  have HR1 : Hid (Boxed w1 (w.heap.size + 1) 4 (.bool false)) := show Boxed _ _ _ _ from (hb1.block _ HJR.out.lt).trans HJR.out
  have HU1 := Lib.hid hu1
  obtain ⟨a1, c1, rfl, hc1, hA1⟩ := vecC_load hu1 HL8.out
  rw [HNL.out] at hc1 hA1 HU1 ⊢
  have HA1 := Lib.hid hA1
  clear hu1 hb1 hA1
  gi_wp2_with fail
  refine ⟨trivial, ?_⟩
  refine (callsIn_wide.2 (HRC.out w1 HB1.out)).mono ?_
  rintro e w2 ⟨u2, rfl, hu2, hb2⟩
  have HB2 : Hid (Below w.heap.size w w2) := show Below _ _ _ from HB1.out.trans (hb2.mono HB1.out.size)
  have HM2 : Hid (Boxed w2 w.heap.size 3 (.int .i64 many)) := show Boxed _ _ _ _ from (hb2.block _ HM1.out.lt).trans HM1.out
  have HR2 : Hid (Boxed w2 (w.heap.size + 1) 4 (.bool false)) := show Boxed _ _ _ _ from (hb2.block _ HR1.out.lt).trans HR1.out
  have HU2 : Hid (VecC w2 (.slice a1 N c1) L) := show VecC _ _ _ from HU1.out.below hb2
  obtain ⟨a2, c2, rfl, hc2, hA2⟩ := vecC_load hu2 HL8.out
  rw [HNL.out] at hc2 hA2 ⊢
  have HA2 := Lib.hid hA2
  have HB12 := Lib.hid hb2
  clear hu2 hb2 hA2
  gi_wp2_with fail
  refine ⟨trivial, ?_⟩
  refine (callsIn_wide.2 (HN.out 0 w2)).mono ?_
  rintro e w3 ⟨rfl, rfl⟩
  gi_wp2_with fail
  gi_loopw [8] (fun i wr => ∃ k : Nat, k ≤ N ∧ i = .int .i64 (k : Nat) ∧ Hid (Below w2.heap.size w2 wr)) (fun i _ => N - (intOf i).toNat)
  case atStart => exact ⟨0, Nat.zero_le _, rfl, (show Below _ _ _ from Below.refl _ _)⟩
  case round =>
    obtain ⟨k, hk, rfl, HBR⟩ := hrel
    by_cases hlt : k < N
    · obtain ⟨b, off, rfl, hbl, hld⟩ := HA1.out (by omega)
      obtain ⟨b', off', rfl, hbl', hld'⟩ := HA2.out (by omega)
      have h1 := fun W (hW : Below w2.heap.size w2 W) => hld W (HB12.out.trans (hW.mono HB12.out.size)) k hlt
      have h2 := fun W (hW : Below w2.heap.size w2 W) => hld' W hW k hlt
      have h3 := HNE.out k hlt
      obtain ⟨Y, hY⟩ : ∃ Y, lnA (L[k]?.getD []) = Y := ⟨_, rfl⟩
      simp only [hY] at h1 h2 h3
      have h4 : ∀ W, (binOp .neq 43 (.agg Y) (.agg Y)).run Try.prog W = .ok (.bool false) W := fun W => by rw [h3 W]; simp
      have hR : (fun W : World => Below w2.heap.size w2 W) wr.drew := Below.drew HBR.out
      have HBQ := Lib.hid hR
      have hkN : (k : Int) < (N : Int) := by omega
      clear h3 hY hld hld' hbl hbl'
      gi_wp2_with fail
      refine wpIn_normal9 ?_
      refine wpIn_region_N 8 (fun W : World => Below w2.heap.size w2 W) (by kernel_rfl) ?_
      (refine wpAnyN_take2 8 (i := 0) (v := ?_) (noDefers_of (by kernel_rfl)) rfl (by kernel_rfl) (by kernel_rfl) (fun _ _ _ h => by first | exact h | cases h.1) (fun _ => by first | rfl | simp [Oper.about]) (Or.inl ⟨by rfl, ?_⟩) hR ?_; rotate_left; (focus (intro w hSw; (try dsimp only at hSw); go_simp; (try with_reducible rfl))); (try simp only [put_laws])); (refine wpAnyN_take2 8 (i := 1) (v := ?_) (noDefers_of (by kernel_rfl)) rfl (by kernel_rfl) (by kernel_rfl) (fun _ _ _ h => by first | exact h | cases h.1) (fun _ => by first | rfl | simp [Oper.about]) (Or.inl ⟨by rfl, ?_⟩) hR ?_; rotate_left; (focus (intro w hSw; (try dsimp only at hSw); go_simp; (try with_reducible rfl))); (try simp only [put_laws])); (refine wpAnyN_take2 8 (i := 4) (v := ?_) (noDefers_of (by kernel_rfl)) rfl (by kernel_rfl) (by kernel_rfl) (fun _ _ _ h => by first | exact h | cases h.1) (fun _ => by first | rfl | simp [Oper.about]) (Or.inl ⟨by rfl, ?_⟩) hR ?_; rotate_left; (focus (intro w hSw; (try dsimp only at hSw); go_simp; (try with_reducible rfl))); (try simp only [put_laws])); (refine wpAnyN_take2 8 (i := 5) (v := ?_) (noDefers_of (by kernel_rfl)) rfl (by kernel_rfl) (by kernel_rfl) (fun _ _ _ h => by first | exact h | cases h.1) (fun _ => by first | rfl | simp [Oper.about]) (Or.inl ⟨by rfl, ?_⟩) hR ?_; rotate_left; (focus (intro w hSw; (try dsimp only at hSw); go_simp; (try with_reducible rfl))); (try simp only [put_laws])); (refine wpAnyN_take2 8 (i := 2) (v := ?_) (noDefers_of (by kernel_rfl)) rfl (by kernel_rfl) (by kernel_rfl) (fun _ _ _ h => by first | exact h | cases h.1) (fun _ => by first | rfl | simp [Oper.about]) (Or.inl ⟨by rfl, ?_⟩) hR ?_; rotate_left; (focus (intro w hSw; (try dsimp only at hSw); go_simp; (try with_reducible rfl))); (try simp only [put_laws])); (refine wpAnyN_take2 8 (i := 6) (v := ?_) (noDefers_of (by kernel_rfl)) rfl (by kernel_rfl) (by kernel_rfl) (fun _ _ _ h => by first | exact h | cases h.1) (fun _ => by first | rfl | simp [Oper.about]) (Or.inl ⟨by rfl, ?_⟩) hR ?_; rotate_left; (focus (intro w hSw; (try dsimp only at hSw); go_simp; (try with_reducible rfl))); (try simp only [put_laws]))
      (refine wpAnyN_take2 8 (i := 3) (v := _) (noDefers_of (by kernel_rfl)) rfl (by kernel_rfl) (by kernel_rfl) (fun _ _ _ h => by first | exact h | cases h.1) (fun _ => by first | rfl | simp [Oper.about]) (Or.inl ⟨by rfl, fun w hSw => exec_load9 rfl rfl (h1 w hSw)⟩) hR ?_; (try simp only [put_laws]))
      (refine wpAnyN_take2 8 (i := 7) (v := _) (noDefers_of (by kernel_rfl)) rfl (by kernel_rfl) (by kernel_rfl) (fun _ _ _ h => by first | exact h | cases h.1) (fun _ => by first | rfl | simp [Oper.about]) (Or.inl ⟨by rfl, fun w hSw => exec_load9 rfl rfl (h2 w hSw)⟩) hR ?_; (try simp only [put_laws]))
      (refine wpAnyN_last rfl (by kernel_rfl) (by rfl) (fun K hK => ?_); (try simp only [elem_laws]))
      go_simp
      refine hK _ _ ?_
      clear hK K hR
      (try simp only [put_laws])
      refine wpAnyN_done (by kernel_rfl) ?_ _
      refine ⟨rfl, ?_⟩
      gi_wp2_with fail
      go_roundw
      case rel => exact ⟨k + 1, by omega, by go_num, HBQ⟩
      case measure => simp [intOf]; omega
    · obtain rfl : k = N := by omega
      have HB2r : Hid (Below w.heap.size w wr) := show Below _ _ _ from HB2.out.trans (HBR.out.mono HB2.out.size)
      have HM2r : Hid (Boxed wr w.heap.size 3 (.int .i64 many)) := show Boxed _ _ _ _ from (HBR.out.block _ HM2.out.lt).trans HM2.out
      have HR2r : Hid (Boxed wr (w.heap.size + 1) 4 (.bool false)) := show Boxed _ _ _ _ from (HBR.out.block _ HR2.out.lt).trans HR2.out
      have HU2r : Hid (VecC wr (.slice a1 k c1) L) := show VecC _ _ _ from HU2.out.below HBR.out
      rename World => wo
      gi_wp2_with fail
      refine ⟨trivial, ?_⟩
      refine (callsIn_wide.2 (HJO.out wo _ HU2r.out)).mono ?_
      rintro e wj ⟨rj, rfl, hj, hbj⟩
      have HBj : Hid (Below w.heap.size w wj) := show Below _ _ _ from HB2r.out.trans (hbj.mono HB2r.out.size)
      have HMj : Hid (Boxed wj w.heap.size 3 (.int .i64 many)) := show Boxed _ _ _ _ from (hbj.block _ HM2r.out.lt).trans HM2r.out
      have HRj : Hid (Boxed wj (w.heap.size + 1) 4 (.bool false)) := show Boxed _ _ _ _ from (hbj.block _ HR2r.out.lt).trans HR2r.out
      have d1 := conv_sl hj.sl
      have d2 := conv_sl (HV.out.below HBj.out).sl
      obtain ⟨aj, cj, rfl, -⟩ := hj.form
      obtain ⟨s1, hs1⟩ : ∃ s, strOf xs = s := ⟨_, rfl⟩
      rw [hs1] at d1 d2
      rw [HLN.out] at d1 d2 ⊢
      have hsb : (s1.toList == s1.toList) = true := by simp
      clear hbj hj hs1
      gi_wp2_with fail
      refine ⟨trivial, ?_⟩
      refine (callsIn_wide.2 (HN.out 0 wj)).mono ?_
      rintro e w3 ⟨rfl, rfl⟩
      clear d1 d2
      gi_wp2_with fail
      refine ⟨trivial, ?_⟩
      refine (callsIn_wide.2 (HRH.out wj HBj.out)).mono ?_
      rintro e w5 ⟨rr, rfl, hr5, hb5⟩
      have HB5 : Hid (Below w.heap.size w w5) := show Below _ _ _ from HBj.out.trans (hb5.mono HBj.out.size)
      have HM5 : Hid (Boxed w5 w.heap.size 3 (.int .i64 many)) := show Boxed _ _ _ _ from (hb5.block _ HMj.out.lt).trans HMj.out
      have HR5 : Hid (Boxed w5 (w.heap.size + 1) 4 (.bool false)) := show Boxed _ _ _ _ from (hb5.block _ HRj.out.lt).trans HRj.out
      obtain ⟨ra, rc, b, off, rfl, hrc, ha5, hc5⟩ := hr5.cell
      rw [HJ.out] at hrc ha5 hc5 ⊢
      obtain ⟨W6, hW6⟩ : ∃ W6, w5.alloc (.cells #[.slice ra J rc] 45) = W6 := ⟨_, rfl⟩
      obtain ⟨X, hX⟩ : ∃ X, w5.heap.size = X := ⟨_, rfl⟩
      have b6 : Below w5.heap.size w5 W6 := by rw [← hW6]; exact (Below.refl _ _).alloc (Nat.le_refl _) _
      have z6 : W6.heap.size = X + 1 := by rw [← hW6, ← hX]; simp
      have j6 : Boxed W6 X 45 (.slice ra J rc) := by rw [← hW6, ← hX]; exact Boxed.new _ _ _
      have HB6 : Hid (Below w.heap.size w W6) := show Below _ _ _ from HB5.out.trans (b6.mono HB5.out.size)
      have HM6 : Hid (Boxed W6 w.heap.size 3 (.int .i64 many)) := show Boxed _ _ _ _ from (b6.block _ HM5.out.lt).trans HM5.out
      have HR6 : Hid (Boxed W6 (w.heap.size + 1) 4 (.bool false)) := show Boxed _ _ _ _ from (b6.block _ HR5.out.lt).trans HR5.out
      have HX6 : Hid (w.heap.size + 2 ≤ X) := show _ ≤ _ by have := HR5.out.lt; omega
      have HPA : Hid (∀ k, k < J → ∃ x, P[k]? = some x ∧ ra = some ⟨b, off, none⟩ ∧ ∀ W, Below W6.heap.size W6 W → W.cell? ⟨b, off + k, none⟩ = some (.int .i64 (x : Nat))) := show ∀ k, _ from fun k hk => by
        obtain ⟨hbl, hcs⟩ := hc5 (by omega)
        refine ⟨P[k]'(by rw [HJ.out]; exact hk), List.getElem?_eq_getElem _, ha5 (by omega), fun W hW => ?_⟩
        have h1 := hcs k hk
        rw [List.getElem?_eq_getElem (by rw [HJ.out]; exact hk), Option.getD_some] at h1
        have bW : Below w5.heap.size w5 W := b6.trans (hW.mono b6.size)
        exact (bW.cell (p := ⟨b, off + k, none⟩) hbl).trans h1
      have HZ6 := Lib.hid z6
      have HJ6 := Lib.hid j6
      have HW6 := Lib.hid hW6
      have HXE := Lib.hid hX
      clear hr5 hb5 ha5 hc5 b6 z6 j6 hW6 hX
      gi_wp2_with fail
      rw [HXE.out, HW6.out]
      refine ⟨trivial, ?_⟩
      refine (callsIn_wide.2 (HH1.out W6 HB6.out)).mono ?_
      rintro e w4 ⟨p, u, rfl, hx4, hv4, hb4⟩
      have HB4 : Hid (Below w.heap.size w w4) := show Below _ _ _ from HB6.out.trans (hb4.mono HB6.out.size)
      have HM4 : Hid (Boxed w4 w.heap.size 3 (.int .i64 many)) := show Boxed _ _ _ _ from (hb4.block _ HM6.out.lt).trans HM6.out
      have HR4 : Hid (Boxed w4 (w.heap.size + 1) 4 (.bool false)) := show Boxed _ _ _ _ from (hb4.block _ HR6.out.lt).trans HR6.out
      have HW4 : Hid (Boxed w4 X 45 (.slice ra J rc)) := show Boxed _ _ _ _ from (hb4.block _ HJ6.out.lt).trans HJ6.out
      have HB64 := Lib.hid hb4
      have hz4 : w.heap.size + 3 ≤ w4.heap.size := by have := HX6.out; have := HZ6.out; have := hb4.size; omega
      have hX4 : X < w4.heap.size := HW4.out.lt
      have hXw : w.heap.size + 2 ≤ X := HX6.out
      have HPL := Lib.hid (vcP_lt hv4 hx4.lt)
      have HSQ := Lib.hid (HSQ0.out w4 p u hx4 hv4)
      clear hx4 hv4 hb4
      rw [HNL.out] at HPL
      gi_wp2_with fail
      rename_i K hK
      refine wpIn_loop (ChuInv w w4 X (sqN p)) (fun a' W => 2 - turnOf9 a' W) ?_ ?_
      · exact chuInv_mk 0 _ [] (.inl rfl) ((Below.refl _ _).alloc (Nat.le_refl _) _) (Boxed.new w4 3 (.int .i64 0)) (Nat.le_refl _) trivial
      · rintro a' wr ⟨tv, p7, ds, U, ⟨htv, hB, hT, hp7, hD⟩, rfl⟩
        have zb := hB.size
        have hT7 := Lib.hid (turnOf9_eq (a := { tmps := #[U 0, U 1, U 2, .pointer (some ⟨w.heap.size, 0, none⟩), .pointer (some ⟨w.heap.size + 1, 0, none⟩), U 3, U 4, U 5, U 6, U 7, U 8, .pointer (some ⟨X, 0, none⟩), sqN p, .pointer (some ⟨p7, 0, none⟩), U 9, U 10, U 11, U 12, U 13, U 14, U 15, U 16, U 17, U 18, U 19, U 20, U 21, U 22, U 23, U 24, U 25, U 26, U 27, U 28, U 29, U 30, U 31, U 32, U 33, U 34, U 35, U 36, U 37, U 38, U 39, U 40, U 41, U 42, U 43, U 44, U 45, U 46, U 47, U 48, U 49, U 50, U 51, U 52, U 53, U 54, U 55, U 56, U 57, U 58, U 59, U 60, U 61, U 62, U 63, U 64, U 65, U 66, U 67, U 68, U 69, U 70, U 71, U 72, U 73, U 74, U 75, U 76, U 77, U 78, U 79, U 80, U 81, U 82, U 83, U 84, U 85, U 86, U 87, U 88, U 89, U 90, U 91, U 92, U 93, U 94, U 95, U 96, U 97, U 98, U 99, U 100, U 101, U 102, U 103, U 104, U 105, U 106, U 107, U 108, U 109, U 110, U 111, U 112, U 113, U 114, U 115, U 116, U 117, U 118, U 119, U 120, U 121, U 122, U 123, U 124, U 125, U 126, U 127, U 128, U 129, U 130, U 131, U 132, U 133, U 134, U 135, U 136, U 137], defers := ds }) rfl hT)
        have cT := hT.cell
        have hlT := hT.lt
        by_cases h2 : tv = 2
        · subst h2
          have hR : Boxed wr (w.heap.size + 1) 4 (.bool false) := (hB.block _ (by omega)).trans HR4.out
          gi_wp2_with fail
          refine ⟨trivial, ?_⟩
          refine (callsIn_wide.2 (HWK.out _)).mono ?_
          rintro e w5 ⟨rfl, hb5⟩
          have hR5 : Boxed w5 (w.heap.size + 1) 4 (.bool false) := (hb5.block _ hR.lt).trans hR
          have hcR5 := hR5.cell
          have hfR5 := hR5.frozen
          have hlR5 := hR5.lt
          have b5 : Below w.heap.size w w5 := (HB4.out.trans (hB.mono (by omega))).trans (hb5.mono (by omega))
          clear cT
          gi_wp2_with fail
          have hR6 := hR5.set (.bool true)
          refine leaves_marks ds wr.heap.size _ ((hD.below hb5).set hR5 _) fun W' hs => ⟨.bool true, ?_, rfl, (b5.setCell (p := ⟨w.heap.size + 1, 0, none⟩) (show w.heap.size ≤ w.heap.size + 1 by omega) _).trans (hs.1.mono (by omega))⟩
          have hc6 : Boxed W' (w.heap.size + 1) 4 (.bool true) := hs.2 _ _ _ _ hR6
          simp [results, Try.results4, go_sem, hc6.cell]
        · have hlt2 : tv < 2 := by unfold TurnN at htv; omega
          gi_wp2_with fail
          have jN := Boxed.new wr 3 (.int .i64 0)
          have b0 : Below wr.heap.size wr (wr.alloc (.cells #[.int .i64 0] 3)) := (Below.refl _ _).alloc (Nat.le_refl _) _
          have hsz0 : (wr.alloc (.cells #[.int .i64 0] 3)).heap.size = wr.heap.size + 1 := by simp
          have HSZ := Lib.hid hsz0; clear hsz0
          generalize (wr.alloc (.cells #[.int .i64 0] 3)) = W0 at *
          have HI0 : Hid (ChuI9 wr tv many [] (fun _ => False) W0) := show ChuI9 _ _ _ _ _ _ from ⟨⟨jN, id⟩, ⟨b0, b0.size, fun _ h => h.elim⟩, fun _ => .inl rfl⟩
          have hW04 : Below w4.heap.size w4 W0 := hB.trans (b0.mono zb)
          clear cT jN
          generalize hA : ({ tmps := _, defers := _ } : Act) = A0
          refine wpIn_range_F (n := 10) (by decide) (gf := 33) (lb := #[.pointer (some ⟨p, 0, none⟩)]) (by rw [← hA]; rfl) (enters_of Try.func33 (by kernel_rfl) rfl) HSQ.out (fun k hk => by have := HPL.out k hk; have := HSZ.out; omega) hW04 (fun _ => rfl)
            (ChuI9 wr tv many) (ChuX9 wr tv many) (abides_chu9 _ _ _) (abides_chux9 _ _ _) HI0.out
            (fun x a' _ => a' = { tmps := (A0.tmps.setIfInBounds 98 (.int .i64 (x : Nat))).setIfInBounds 15 (.int .i64 (x : Nat)), defers := [] })
            (fun x a' W1 o h => h)
            ?assign ?body ?done ?stop
          case assign =>
            rintro l2 x W2 K hsz hK
            subst hA
            unfold encH
            dsimp only
            gi_wp2_with fail
            refine hK _ _ ?_ (Below.refl _ _)
            rfl
          case body =>
            rintro l2 pre x a' q2 W ⟨⟨iN, iNq⟩, ⟨iB, iBs, iBq⟩, iC⟩ hs2 hqb hsp rfl
            subst hA
            have hpl : pre.length < J := by
              have := hsp.length_le
              rw [List.length_append, List.length_singleton, HJ.out] at this
              omega
            have hxe : P[pre.length]? = some x := by
              obtain ⟨t, e⟩ := hsp
              rw [← e]
              simp
            have iB4 : Below w4.heap.size w4 W := hB.trans (iB.mono zb)
            have jM : Boxed W w.heap.size 3 (.int .i64 many) := (iB4.block _ (by have := HM4.out.lt; omega)).trans HM4.out
            have jR : Boxed W (w.heap.size + 1) 4 (.bool false) := (iB4.block _ (by have := HR4.out.lt; omega)).trans HR4.out
            have jW : Boxed W X 45 (.slice ra J rc) := (iB4.block _ (by have := HW4.out.lt; omega)).trans HW4.out
            obtain ⟨x1, hx1, rfl, hat⟩ := HPA.out pre.length hpl
            have hx2 : x1 = x := Option.some.inj (hx1.symm.trans hxe)
            subst hx2
            have c0 := hat W (HB64.out.trans (iB4.mono HB64.out.size))
            have jT : Boxed W p7 3 (.int .i64 tv) := (iB.block _ hlT).trans hT
            have HPRE := Lib.hid (show (pre ++ [x1]).length = pre.length + 1 by simp)
            have HKP : Hid (Keeps (fun j => vcP p u k j ∨ q2 j) W (W.setCell ⟨wr.heap.size, 0, none⟩ (.int .i64 ((pre.length : Int) + 1)))) := show Keeps _ _ _ from Keeps.set _ _ (fun h => h.elim (fun h => by have := HPL.out _ h; omega) iNq)
            have HBX : Hid (BoxF wr.heap.size 3 (.int .i64 ((pre.length : Int) + 1)) q2 (W.setCell ⟨wr.heap.size, 0, none⟩ (.int .i64 ((pre.length : Int) + 1)))) := show BoxF _ _ _ _ _ from ⟨(show Boxed W wr.heap.size 3 (.int .i64 (pre.length : Nat)) from iN).set _, iNq⟩
            have HBF : Hid (BelowF wr.heap.size wr q2 (W.setCell ⟨wr.heap.size, 0, none⟩ (.int .i64 ((pre.length : Int) + 1)))) := show BelowF _ _ _ _ from ⟨iB.setCell (p := ⟨wr.heap.size, 0, none⟩) (Nat.le_refl _) _, by simp [World.setCell]; exact iBs, iBq⟩
            have HCT := Lib.hid iC
            obtain ⟨n, hn⟩ : ∃ n, pre.length = n := ⟨_, rfl⟩
            rw [hn] at HPRE c0 iN HKP HBX HBF HCT hpl
            have cN := Boxed.cell iN
            have fN := Boxed.frozen iN
            have cT := jT.cell
            have cW := jW.cell
            have cMa := jM.cell
            have lN := Boxed.lt iN
            have lTn : p7 ≠ wr.heap.size := by omega
            have lMn : w.heap.size ≠ wr.heap.size := by omega
            have hnJ : (n : Int) < (J : Int) := by omega
            have hn60 : J ≤ 7 := hPl
            have HPC : Hid (((n + 1 : Nat) : Int) = (n : Int) + 1) := show _ = _ by omega
            clear hx1 hxe hat hsp hqb hs2 iC
            by_cases htz : tv = 0
            · subst htz
              by_cases hmany : many ≤ (n : Int) + 1
              · gi_wp2_with fail
                have hc := HCT.out rfl
                exact ⟨HKP.out, ⟨rfl, rfl, by rw [HPRE.out]; omega, by rw [HPRE.out]; omega, by rw [HPRE.out]; omega⟩, by rw [HPRE.out]; exact HBX.out, HBF.out⟩
              · have hmany' : (n : Int) + 1 < many := by omega
                gi_wp2_with fail
                exact ⟨HKP.out, by rw [HPRE.out]; exact HBX.out, HBF.out, fun _ => .inr (by rw [HPRE.out]; omega)⟩
            · obtain rfl : tv = 1 := by unfold TurnN at htv; omega
              gi_wp2_with fail
              exact ⟨HKP.out, by rw [HPRE.out]; exact HBX.out, HBF.out, fun h => absurd h (by decide)⟩
          case done =>
            rintro D ys W hDb rfl ⟨⟨iN, -⟩, ⟨iB, iBs, -⟩, iC⟩ hK'
            subst hA
            rw [HJ.out] at iN iC
            have hD5 : wr.heap.size + 1 ≤ D := by have := HSZ.out; omega
            by_cases htz : tv = 0
            · subst htz
              have hC := iC rfl
              clear iC
              have hDW := (Array.getElem?_eq_some_iff.1 hK').1
              have m0 : Marks w4.heap.size (D + 1) ({ target := .collected D, args := #[] } :: ds) W := ⟨D, rfl, by omega, by omega, hK', (hD.below iB).more (by omega)⟩
              have iB4 : Below w4.heap.size w4 W := hB.trans (iB.mono zb)
              have jM : Boxed W w.heap.size 3 (.int .i64 many) := (iB4.block _ (by have := HM4.out.lt; omega)).trans HM4.out
              have jR : Boxed W (w.heap.size + 1) 4 (.bool false) := (iB4.block _ (by have := HR4.out.lt; omega)).trans HR4.out
              have jW : Boxed W X 45 (.slice ra J rc) := (iB4.block _ (by have := HW4.out.lt; omega)).trans HW4.out
              have jT : Boxed W p7 3 (.int .i64 0) := (iB.block _ hlT).trans hT
              have cN := Boxed.cell iN
              have cT := jT.cell
              have cW := jW.cell
              have cMa := jM.cell
              have lN := Boxed.lt iN
              have hnew := Boxed.new W 3 (.int .i64 1)
              have zW := iB4.size
              have jB := iB4.alloc zW (.cells #[.int .i64 1] 3)
              have jD := m0.below (W' := W.alloc (.cells #[.int .i64 1] 3)) ((Below.refl _ _).alloc (by omega) _)
              have zF : D + 1 ≤ (W.alloc (.cells #[.int .i64 1] 3)).heap.size := by simp; omega
              have hmm : min (J : Int) (max 1 many) = (J : Int) := by omega
              have hJJ : ((J : Int) != (J : Int)) = false := by simp
              clear hC
              gi_wp2
              all_goals
                refine ⟨chuInv_mk 1 W.heap.size (_ :: ds) (.inr (.inl rfl)) jB hnew (by omega) (jD.more zF), ?_⟩
                rw [turnOf9_eq rfl hnew, hT7.out]
                decide
            · obtain rfl : tv = 1 := by unfold TurnN at htv; omega
              clear iC
              have hDW := (Array.getElem?_eq_some_iff.1 hK').1
              have m0 : Marks w4.heap.size (D + 1) ({ target := .collected D, args := #[] } :: ds) W := ⟨D, rfl, by omega, by omega, hK', (hD.below iB).more (by omega)⟩
              have iB4 : Below w4.heap.size w4 W := hB.trans (iB.mono zb)
              have jM : Boxed W w.heap.size 3 (.int .i64 many) := (iB4.block _ (by have := HM4.out.lt; omega)).trans HM4.out
              have jR : Boxed W (w.heap.size + 1) 4 (.bool false) := (iB4.block _ (by have := HR4.out.lt; omega)).trans HR4.out
              have jW : Boxed W X 45 (.slice ra J rc) := (iB4.block _ (by have := HW4.out.lt; omega)).trans HW4.out
              have jT : Boxed W p7 3 (.int .i64 1) := (iB.block _ hlT).trans hT
              have cN := Boxed.cell iN
              have cT := jT.cell
              have cW := jW.cell
              have cMa := jM.cell
              have lN := Boxed.lt iN
              have hnew := Boxed.new W 3 (.int .i64 2)
              have zW := iB4.size
              have jB := iB4.alloc zW (.cells #[.int .i64 2] 3)
              have jD := m0.below (W' := W.alloc (.cells #[.int .i64 2] 3)) ((Below.refl _ _).alloc (by omega) _)
              have zF : D + 1 ≤ (W.alloc (.cells #[.int .i64 2] 3)).heap.size := by simp; omega
              gi_wp2
              all_goals
                refine ⟨chuInv_mk 2 W.heap.size (_ :: ds) (.inr (.inr rfl)) jB hnew (by omega) (jD.more zF), ?_⟩
                rw [turnOf9_eq rfl hnew, hT7.out]
                decide
          case stop =>
            rintro D cd pre W hDb hpre ⟨⟨rfl, rfl, hp1, hp2, hp3⟩, ⟨iN, -⟩, ⟨iB, iBs, -⟩⟩ hK'
            subst hA
            have hpl : pre.length ≤ J := by have := hpre.length_le; rwa [HJ.out] at this
            have hD5 : wr.heap.size + 1 ≤ D := by have := HSZ.out; omega
            clear hpre
            have hDW := (Array.getElem?_eq_some_iff.1 hK').1
            have m0 : Marks w4.heap.size (D + 1) ({ target := .collected D, args := #[] } :: ds) W := ⟨D, rfl, by omega, by omega, hK', (hD.below iB).more (by omega)⟩
            have iB4 : Below w4.heap.size w4 W := hB.trans (iB.mono zb)
            have jM : Boxed W w.heap.size 3 (.int .i64 many) := (iB4.block _ (by have := HM4.out.lt; omega)).trans HM4.out
            have jR : Boxed W (w.heap.size + 1) 4 (.bool false) := (iB4.block _ (by have := HR4.out.lt; omega)).trans HR4.out
            have jW : Boxed W X 45 (.slice ra J rc) := (iB4.block _ (by have := HW4.out.lt; omega)).trans HW4.out
            have jT : Boxed W p7 3 (.int .i64 0) := (iB.block _ hlT).trans hT
            have cN := Boxed.cell iN
            have cT := jT.cell
            have cW := jW.cell
            have cMa := jM.cell
            have lN := Boxed.lt iN
            have hnew := Boxed.new W 3 (.int .i64 1)
            have zW := iB4.size
            have jB := iB4.alloc zW (.cells #[.int .i64 1] 3)
            have jD := m0.below (W' := W.alloc (.cells #[.int .i64 1] 3)) ((Below.refl _ _).alloc (by omega) _)
            have zF : D + 1 ≤ (W.alloc (.cells #[.int .i64 1] 3)).heap.size := by simp; omega
            generalize pre.length = n at *
            gi_wp2
            all_goals
              refine ⟨chuInv_mk 1 W.heap.size (_ :: ds) (.inr (.inl rfl)) jB hnew (by omega) (jD.more zF), ?_⟩
              rw [turnOf9_eq rfl hnew, hT7.out]
              decide
theorem chunks9_law {v : Value} {xs : List Nat} (many : Int) (hm1 : -9223372036854775808 ≤ many) (hm2 : many ≤ 9223372036854775807) (w : World) (hv : FB w v xs) :
    Calls Try.prog 4 #[v, .int .i64 many] w fun e w' => e = .returned (.bool true) ∧ Below w.heap.size w w' := by
  by_cases h : xs.length ≤ 448
  · exact chunks9_some many hm1 hm2 h w hv
  · by_cases h6 : xs.length ≤ 600
    · exact chunks9_big many (by omega) h6 w hv
    · exact chunks9_long many (by omega) w hv
end Go.Proofs.Ytmncoclmgcjjjaa
