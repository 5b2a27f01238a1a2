/-
  The walk of the law SumSteps.
-/
import Derived.Test.YthjlhbkjmlohcaaSumK
import Derived.Test.YthjlhbkjmlohcaaSumR
import Derived.Test.YthjlhbkjmlohcaaCut
import Derived.Test.YthjlhbkjmlohcaaSumI
namespace Go.Proofs.Ythjlhbkjmlohcaa
open Go.RowKit Go.Shelf
attribute [local go_sem] Oper.semAt_some

theorem steps_long (v : Value) (xs : List Nat) (many : Int) (hl : 200 < xs.length) (hl2 : xs.length ≤ 140737488351232) (w : World) (hs : Sl w .u64 v xs) :
    Calls Try.prog 5 #[v, .int .i64 many] w fun e w' => e = .returned (.bool true) ∧ Below w.heap.size w w' := by
  have k1 : (200 : Int) < (xs.length : Int) := by omega
  obtain ⟨a, cap, b, off, rfl, -, -, -⟩ := hs.cell
  clear hs
  have hR := Boxed.new ((w.alloc (.cells #[.slice a xs.length cap] 22)).alloc (.cells #[.int .i64 many] 3)) 4 (.bool false)
  simp only [World.size_alloc] at hR
  go_enter Try.func5, Try.ntmps5
  go_wp2_with fail
  refine (works2_any _).mono ?_
  rintro e w1 ⟨rfl, hb1⟩
  have hR1 : Boxed w1 (w.heap.size + 1 + 1) 4 (.bool false) := (hb1.block _ (by simp)).trans hR
  have hc := hR1.cell
  have hf := hR1.frozen
  have hlt := hR1.lt
  go_wp2_with fail
  have hc2 := (hR1.set (.bool true)).cell
  have b1 : Below w.heap.size w w1 := ((((Below.refl _ _).alloc (Nat.le_refl _) _).alloc (by simp) _).alloc (by simp; omega) _).trans (hb1.mono (by simp; omega))
  refine bodyPost_ret (v := .bool true) (by simp [results, Try.results5, go_sem, hc2]) rfl ⟨rfl, b1.setCell (p := ⟨w.heap.size + 1 + 1, 0, none⟩) (show w.heap.size ≤ w.heap.size + 1 + 1 by omega) _⟩
/-- Which turns there are. -/
def TurnOk (tv : Int) : Prop := tv = 0 ∨ tv = 1 ∨ tv = 2
/-- How many came, in a turn that goes on. -/
def CountOk (tv many : Int) (n : Nat) : Prop := tv = 0 → n = 0 ∨ (n : Int) < many
/-- Where the steps are left. -/
def BreakOk (cd : Code) (tv many : Int) (n : Nat) : Prop := cd = .exit 2 ∧ tv = 0 ∧ 1 ≤ n ∧ many ≤ (n : Int) ∧ (n = 1 ∨ (n : Int) ≤ many)
/-- The turn, as its box has it. -/
def turnOf (a : Act) (W : World) : Nat := match a.tmps.getD 6 undef with
  | .pointer (some p) => (intOf ((W.cell? p).getD undef)).toNat
  | _ => 0
theorem turnOf_eq {a : Act} {W : World} {p : Nat} {t : TypeId} {n : Int} (h : a.tmps.getD 6 undef = .pointer (some ⟨p, 0, none⟩)) (hB : Boxed W p t (.int .i64 n)) : turnOf a W = n.toNat := by
  unfold turnOf
  rw [h]
  simp [hB.cell, intOf]
/-- What each turn begins with. -/
def StepsInv (w w1 : World) (a0 : Option Addr) (c0 : Nat) (xs : List Nat) (H : Nat) (many : Int) (a' : Act) (W : World) : Prop :=
  ∃ (tv : Int) (p6 : Nat) (ds : List Deferred) (u7 u8 u9 u16 u17 u18 u19 u20 u21 u22 u23 u24 u52 u53 u54 u55 u56 u57 u58 u59 u60 u61 u62 u63 u64 u65 u66 u67 u68 u69 u70 u71 u72 u73 : Value), (TurnOk tv ∧ Below w1.heap.size w1 W ∧ Boxed W p6 3 (.int .i64 tv) ∧ w1.heap.size ≤ p6 ∧ Marks w1.heap.size W.heap.size ds W) ∧
    a' = { tmps := #[.slice a0 xs.length c0, .int .i64 many, .pointer (some ⟨w.heap.size, 0, none⟩), .pointer (some ⟨w.heap.size + 1, 0, none⟩), .pointer (some ⟨w.heap.size + 1 + 1, 0, none⟩), .func (.func 29) #[] #[.pointer (some ⟨H, 0, none⟩)], .pointer (some ⟨p6, 0, none⟩), u7, u8, u9, .slice a0 xs.length c0, .int .i64 (xs.length : Nat), .bool false, undef, .slice a0 xs.length c0, .func (.func 29) #[] #[.pointer (some ⟨H, 0, none⟩)], u16, u17, u18, u19, u20, u21, u22, u23, u24, undef, undef, undef, undef, undef, undef, undef, undef, undef, undef, undef, undef, undef, undef, undef, undef, undef, undef, undef, undef, undef, undef, undef, undef, undef, undef, undef, u52, u53, u54, u55, u56, u57, u58, u59, u60, u61, u62, u63, u64, u65, u66, u67, u68, u69, u70, u71, u72, u73, undef], defers := ds }
theorem stepsInv_mk {w w1 : World} {a0 : Option Addr} {c0 : Nat} {xs : List Nat} {H : Nat} {many : Int} {W : World} (tv : Int) (p6 : Nat) (ds : List Deferred) {u7 u8 u9 u16 u17 u18 u19 u20 u21 u22 u23 u24 u52 u53 u54 u55 u56 u57 u58 u59 u60 u61 u62 u63 u64 u65 u66 u67 u68 u69 u70 u71 u72 u73 : Value} (h1 : TurnOk tv) (h2 : Below w1.heap.size w1 W) (h3 : Boxed W p6 3 (.int .i64 tv)) (h4 : w1.heap.size ≤ p6) (h5 : Marks w1.heap.size W.heap.size ds W) :
    StepsInv w w1 a0 c0 xs H many { tmps := #[.slice a0 xs.length c0, .int .i64 many, .pointer (some ⟨w.heap.size, 0, none⟩), .pointer (some ⟨w.heap.size + 1, 0, none⟩), .pointer (some ⟨w.heap.size + 1 + 1, 0, none⟩), .func (.func 29) #[] #[.pointer (some ⟨H, 0, none⟩)], .pointer (some ⟨p6, 0, none⟩), u7, u8, u9, .slice a0 xs.length c0, .int .i64 (xs.length : Nat), .bool false, undef, .slice a0 xs.length c0, .func (.func 29) #[] #[.pointer (some ⟨H, 0, none⟩)], u16, u17, u18, u19, u20, u21, u22, u23, u24, undef, undef, undef, undef, undef, undef, undef, undef, undef, undef, undef, undef, undef, undef, undef, undef, undef, undef, undef, undef, undef, undef, undef, undef, undef, undef, undef, u52, u53, u54, u55, u56, u57, u58, u59, u60, u61, u62, u63, u64, u65, u66, u67, u68, u69, u70, u71, u72, u73, undef], defers := ds } W := ⟨tv, p6, ds, _, _, _, _, _, _, _, _, _, _, _, _, _, _, _, _, _, _, _, _, _, _, _, _, _, _, _, _, _, _, _, _, _, _, ⟨h1, h2, h3, h4, h5⟩, rfl⟩
set_option maxRecDepth 100000 in
set_option maxHeartbeats 8000000 in
theorem steps_some (v : Value) (xs : List Nat) (many : Int) (hl : xs.length ≤ 200) (hx : U64s xs) (hm1 : -9223372036854775808 ≤ many) (hm2 : many ≤ 9223372036854775807) (w : World) (hs : Sl w .u64 v xs) :
    Calls Try.prog 5 #[v, .int .i64 many] w fun e w' => e = .returned (.bool true) ∧ Below w.heap.size w w' := by
  obtain ⟨i0, hi, hz0, hz1, hz2⟩ := info_parts infoU64
  have k1 : (xs.length : Int) ≤ 200 := by omega
  have k2 : decide ((200 : Int) < (xs.length : Int)) = false := decide_eq_false (by omega)
  have HS := Lib.hid hs
  obtain ⟨a0, c0, b00, off00, rfl, -, -, -⟩ := hs.cell
  have CS := Lib.hid (fun (W : World) (hb : Below w.heap.size w W) => steps_any _ xs (by omega) W (hs.below hb))
  clear hs
  refine (callsIn_wide (n := 10)).1 ?_
  refine callsIn_of_wp_marks Try.func5 rfl trivial ?_ rfl
  simp only [Try.ntmps5, List.size_toArray, List.length_nil, List.length_cons, Nat.reduceAdd, Nat.reduceSub, Array.replicate_succ, Array.replicate_zero, List.push_toArray, List.append_toArray, List.nil_append, List.cons_append]
  gi_wp2_with fail
  refine ⟨trivial, ?_⟩
  refine (callsIn_wide.2 (CS.out _ (by repeat (first | exact Below.refl _ _ | assumption | refine Below.drew ?_ | refine below_drewN ?_ _ | refine Below.alloc ?_ (by (try simp) <;> omega) _ | refine Below.setCell ?_ (by (try simp) <;> omega) _ | refine Below.trans ?_ (Below.mono (by assumption) (by (try simp) <;> omega)))))).mono ?_
  rintro e w1 ⟨H, r, rfl, hH, bH, own1, hb1⟩
  have zc : ((((w.alloc (.cells #[.slice a0 xs.length c0] 22)).alloc (.cells #[.int .i64 many] 3)).alloc (.cells #[.bool false] 4))).heap.size = w.heap.size + 3 := by simp
  rw [zc] at hH own1 hb1
  have zw1 : w.heap.size + 3 ≤ w1.heap.size := by have := hb1.size; rw [zc] at this; exact this
  have bL : Boxed w1 w.heap.size 22 (.slice a0 xs.length c0) := (hb1.block _ (by omega)).trans (((Boxed.new w 22 (.slice a0 xs.length c0)).alloc (.cells #[.int .i64 many] 3)).alloc (.cells #[.bool false] 4))
  have bM : Boxed w1 (w.heap.size + 1) 3 (.int .i64 many) := (hb1.block _ (by omega)).trans (by
    have h := (Boxed.new (w.alloc (.cells #[.slice a0 xs.length c0] 22)) 3 (.int .i64 many)).alloc (.cells #[.bool false] 4)
    simp only [World.size_alloc] at h; exact h)
  have bR : Boxed w1 (w.heap.size + 1 + 1) 4 (.bool false) := (hb1.block _ (by omega)).trans (by
    have h := Boxed.new ((w.alloc (.cells #[.slice a0 xs.length c0] 22)).alloc (.cells #[.int .i64 many] 3)) 4 (.bool false)
    simp only [World.size_alloc] at h; exact h)
  have bw1 : Below w.heap.size w w1 := ((((Below.refl _ _).alloc (Nat.le_refl _) _).alloc (by simp) _).alloc (by simp; omega) _).trans (hb1.mono (by omega))
  clear zc hb1
  obtain ⟨a1, c1, b, off, rfl, hlc1, hab, hbl, hbg, hcell⟩ : ∃ (a1 : Option Addr) (c1 b off : Nat), r = .slice a1 xs.length c1 ∧ xs.length ≤ c1 ∧ (0 < xs.length → a1 = some ⟨b, off, none⟩) ∧ b < w1.heap.size ∧ w.heap.size + 3 ≤ b ∧ ∀ j, j < xs.length → w1.cell? ⟨b, off + j, none⟩ = some (.int .u64 (xs[j]?.getD 0 : Nat)) := by
    rcases Nat.eq_zero_or_pos xs.length with h0 | h0
    · obtain ⟨a1, c1, -, -, hv, hc, -, -⟩ := (own_sl own1).cell
      exact ⟨a1, c1, H, 0, hv, hc, fun h => by omega, bH.lt, hH, fun j hj => by omega⟩
    · obtain ⟨g, cap, rfl, hge, hgl, hnc⟩ := own_form own1 h0
      exact ⟨_, cap, g, 0, rfl, hnc, fun _ => rfl, hgl, hge, fun j hj => by rw [Nat.zero_add]; exact own_cell own1 j hj⟩
  clear own1
  have HCL := Lib.hid hcell; clear hcell
  gi_wp2_with fail
  clear k2
  rename_i K hK
  refine wpIn_loop (StepsInv w w1 a0 c0 xs H many)
    (fun a' W => 2 - turnOf a' W) ?_ ?_
  · exact ⟨0, _, [], _, _, _, _, _, _, _, _, _, _, _, _, _, _, _, _, _, _, _, _, _, _, _, _, _, _, _, _, _, _, _, _, _, _, ⟨.inl rfl, (Below.refl _ _).alloc (Nat.le_refl _) _, Boxed.new w1 3 (.int .i64 0), Nat.le_refl _, trivial⟩, rfl⟩
  · rintro a' wr ⟨tv, p6, ds, u7, u8, u9, u16, u17, u18, u19, u20, u21, u22, u23, u24, u52, u53, u54, u55, u56, u57, u58, u59, u60, u61, u62, u63, u64, u65, u66, u67, u68, u69, u70, u71, u72, u73, ⟨htv, hB, hT, hp6, hD⟩, rfl⟩
    have zb := hB.size
    have hT6 := Lib.hid (turnOf_eq (a := { tmps := #[.slice a0 xs.length c0, .int .i64 many, .pointer (some ⟨w.heap.size, 0, none⟩), .pointer (some ⟨w.heap.size + 1, 0, none⟩), .pointer (some ⟨w.heap.size + 1 + 1, 0, none⟩), .func (.func 29) #[] #[.pointer (some ⟨H, 0, none⟩)], .pointer (some ⟨p6, 0, none⟩), u7, u8, u9, .slice a0 xs.length c0, .int .i64 (xs.length : Nat), .bool false, undef, .slice a0 xs.length c0, .func (.func 29) #[] #[.pointer (some ⟨H, 0, none⟩)], u16, u17, u18, u19, u20, u21, u22, u23, u24, undef, undef, undef, undef, undef, undef, undef, undef, undef, undef, undef, undef, undef, undef, undef, undef, undef, undef, undef, undef, undef, undef, undef, undef, undef, undef, undef, u52, u53, u54, u55, u56, u57, u58, u59, u60, u61, u62, u63, u64, u65, u66, u67, u68, u69, u70, u71, u72, u73, undef], defers := ds }) rfl hT)
    have hL : Boxed wr w.heap.size 22 (.slice a0 xs.length c0) := (hB.block _ (by omega)).trans bL
    have hM : Boxed wr (w.heap.size + 1) 3 (.int .i64 many) := (hB.block _ (by omega)).trans bM
    have hR : Boxed wr (w.heap.size + 1 + 1) 4 (.bool false) := (hB.block _ (by omega)).trans bR
    have cL := hL.cell
    have cMa := hM.cell
    have cT := hT.cell
    by_cases h2 : tv = 2
    · subst h2
      gi_wp2_with fail
      refine ⟨trivial, ?_⟩
      refine (callsIn_wide.2 (works2_any _)).mono ?_
      rintro e w3 ⟨rfl, hb3⟩
      have hR3 : Boxed w3 (w.heap.size + 1 + 1) 4 (.bool false) := (hb3.block _ hR.lt).trans hR
      have hcR3 := hR3.cell
      have hfR3 := hR3.frozen
      have hlR3 := hR3.lt
      have b3 := (bw1.trans (hB.mono (by omega))).trans (hb3.mono (by omega))
      clear cL cMa cT
      gi_wp2_with fail
      have hR4 := hR3.set (.bool true)
      refine leaves_marks ds wr.heap.size _ ((hD.below hb3).set hR3 _) fun W' hs => ⟨.bool true, ?_, rfl, (b3.setCell (p := ⟨w.heap.size + 1 + 1, 0, none⟩) (show w.heap.size ≤ w.heap.size + 1 + 1 by omega) _).trans (hs.1.mono (by omega))⟩
      have hc4 : Boxed W' (w.heap.size + 1 + 1) 4 (.bool true) := hs.2 _ _ _ _ hR4
      simp [results, Try.results5, go_sem, hc4.cell]
    · have hlt2 : tv < 2 := by unfold TurnOk at htv; omega
      have hlT := hT.lt
      have hq : ∀ W : World, (binOp .eql 39 (.func (.func 29) #[] #[.pointer (some ⟨H, 0, none⟩)]) .nilFunc).run Try.prog W = .ok (.bool false) W := fun _ => by kernel_rfl
      gi_wp2_with fail
      have jN := Boxed.new wr 3 (.int .i64 0)
      have b0 : Below wr.heap.size wr (wr.alloc (.cells #[.int .i64 0] 3)) := (Below.refl _ _).alloc (Nat.le_refl _) _
      have hsz0 : (wr.alloc (.cells #[.int .i64 0] 3)).heap.size = wr.heap.size + 1 := by simp
      have HSZ := Lib.hid hsz0; clear hsz0
      generalize (wr.alloc (.cells #[.int .i64 0] 3)) = W0 at *
      have jB := hB.trans (b0.mono zb)
      have jT : Boxed W0 p6 3 (.int .i64 tv) := (b0.block _ hlT).trans hT
      have jD := hD.below b0
      have hsq := steps_seq 9 (by decide) H b off c1 a1 xs (by omega) hx hlc1 hab w1 hbl HCL.out bH.lt bH.cell
      clear hq
      refine wpIn_range_P (n := 10) (by decide) (gf := 29) (lb := #[.pointer (some ⟨H, 0, none⟩)]) rfl (enters_of Try.func29 (by kernel_rfl) rfl) hsq (fun k hk => by have := HSZ.out; subst hk; omega) jB (fun _ => rfl)
        (fun pre W' => Boxed W' wr.heap.size 3 (.int .i64 (pre.length : Nat)) ∧ CountOk tv many pre.length ∧ Below w1.heap.size w1 W' ∧ Boxed W' p6 3 (.int .i64 tv) ∧ Marks w1.heap.size wr.heap.size ds W')
        (fun cd pre W' => BreakOk cd tv many pre.length ∧ Boxed W' wr.heap.size 3 (.int .i64 (pre.length : Nat)) ∧ Below w1.heap.size w1 W' ∧ Boxed W' p6 3 (.int .i64 tv) ∧ Marks w1.heap.size wr.heap.size ds W')
        (Under.and (Under.box (fun pre : List (Fin xs.length) => .int .i64 (pre.length : Nat)) (by have := HSZ.out; omega)) (Under.and (Under.pure _ (fun pre : List (Fin xs.length) => CountOk tv many pre.length)) (Under.and (Under.below (by have := HSZ.out; omega)) (Under.and (Under.box (fun _ => .int .i64 tv) (by have := HSZ.out; omega)) (fun _ _ _ h hb => h.below (hb.mono (by have := HSZ.out; omega)))))))
        (fun cd => Under.and (Under.pure _ (fun pre : List (Fin xs.length) => BreakOk cd tv many pre.length)) (Under.and (Under.box (fun pre : List (Fin xs.length) => .int .i64 (pre.length : Nat)) (by have := HSZ.out; omega)) (Under.and (Under.below (by have := HSZ.out; omega)) (Under.and (Under.box (fun _ => .int .i64 tv) (by have := HSZ.out; omega)) (fun _ _ _ h hb => h.below (hb.mono (by have := HSZ.out; omega)))))))
        ⟨jN, fun _ => .inl rfl, jB, jT, jD⟩
        ?a1 ?assign ?body ?done ?stop
      case assign =>
        intro l y W K hK
        gi_wp2
        exact hK
      case body =>
        rintro l pre y W ⟨iN, iC, iB, iT, iD⟩ hsW hsp
        have hyl := fin_prefix hsp
        have hym := y.2
        have hge : (pre.length : Int) < (xs.length : Int) := by omega
        have hne : (((y.1 : Nat) : Int) != (pre.length : Int)) = false := by rw [hyl]; simp
        have zW := iB.size
        have jL : Boxed W w.heap.size 22 (.slice a0 xs.length c0) := (iB.block _ (by omega)).trans bL
        have jM : Boxed W (w.heap.size + 1) 3 (.int .i64 many) := (iB.block _ (by omega)).trans bM
        have jR : Boxed W (w.heap.size + 1 + 1) 4 (.bool false) := (iB.block _ (by omega)).trans bR
        obtain ⟨r1, hr1, hr1s⟩ := cut_to (P := Try.prog) Try.underlying22 hi hz1 HS.out (pre.length + 1) (by omega)
        rw [show ((pre.length + 1 : Nat) : Int) = (pre.length : Int) + 1 from rfl] at hr1
        have hr1' : ∀ w, (Instr.slice 22 (.slice a0 xs.length c0) none (some (.int .i64 ((pre.length : Int) + 1))) none).run Try.prog w = .ok r1 w := fun w => by
          rw [← hr1 w, run_sliceAt_slice w 22 _ _ _ _ (by kernel_rfl)]
        have HO := Lib.hid (refOf2_any r1 (xs.take (pre.length + 1)) (by rw [List.length_take]; omega) (fun z hz => hx z (List.mem_of_mem_take hz)) W (hr1s W (HS.out.below (bw1.trans (iB.mono (by omega))))))
        rw [show SM.sumOf (xs.take (pre.length + 1)) = SM.sumFrom SM.start (xs.take (y.1 + 1)) by rw [hyl]; rfl] at HO
        have HLN := Lib.hid (show (((pre ++ [y]).length : Nat) : Int) = (pre.length : Int) + 1 by simp)
        have HLM := Lib.hid (show (pre ++ [y]).length = pre.length + 1 by simp)
        generalize SM.sumFrom SM.start (xs.take (y.1 + 1)) = s at *
        have cN := iN.cell
        have cT := iT.cell
        have cL := jL.cell
        have cMa := jM.cell
        have fN := iN.frozen
        have lN := iN.lt
        have HCN := Lib.hid iC
        have kN : Keeps (fun k => k = b ∨ W0.heap.size ≤ k) W (W.setCell ⟨wr.heap.size, 0, none⟩ (.int .i64 ((pre.length : Int) + 1))) := Keeps.set W (b := wr.heap.size) (o := 0) _ (by have := HSZ.out; rintro (h | h) <;> omega)
        have jN := iN.set (.int .i64 ((pre.length : Int) + 1))
        have jB := iB.setCell (p := ⟨wr.heap.size, 0, none⟩) (show w1.heap.size ≤ wr.heap.size from zb) (.int .i64 ((pre.length : Int) + 1))
        have jT := iT.other (show p6 ≠ wr.heap.size by omega) (.int .i64 ((pre.length : Int) + 1))
        have jD := iD.set iN (.int .i64 ((pre.length : Int) + 1))
        clear hyl hym iC hr1s
        by_cases htz : tv = 0
        · subst htz
          by_cases hmany : many ≤ (pre.length : Int) + 1
          · gi_wp2_with fail
            refine ⟨trivial, ?_⟩
            refine (CallsIn.inRound l (callsIn_wide.2 HO.out)).mono ?_
            rintro e w3 ⟨rfl, rfl⟩
            gi_wp2_with fail
            have hc := HCN.out rfl
            exact ⟨kN, ⟨rfl, rfl, by rw [HLM.out]; omega, by rw [HLN.out]; exact hmany, by rw [HLN.out, HLM.out]; omega⟩, by rw [HLN.out]; exact jN, jB, jT, jD⟩
          · have hmany' : (pre.length : Int) + 1 < many := by omega
            gi_wp2_with fail
            refine ⟨trivial, ?_⟩
            refine (CallsIn.inRound l (callsIn_wide.2 HO.out)).mono ?_
            rintro e w3 ⟨rfl, rfl⟩
            gi_wp2_with fail
            exact ⟨kN, by rw [HLN.out]; exact jN, fun _ => .inr (by rw [HLN.out]; exact hmany'), jB, jT, jD⟩
        · obtain rfl : tv = 1 := by unfold TurnOk at htv; omega
          gi_wp2_with fail
          refine ⟨trivial, ?_⟩
          refine (CallsIn.inRound l (callsIn_wide.2 HO.out)).mono ?_
          rintro e w3 ⟨rfl, rfl⟩
          gi_wp2_with fail
          exact ⟨kN, by rw [HLN.out]; exact jN, fun h => absurd h (by decide), jB, jT, jD⟩
      case done =>
        rintro D ys W hDb hys ⟨iN, iC, iB, iT, iD⟩ hK'
        have hyl : ys.length = xs.length := by rw [hys, fin_all]
        rw [hyl] at iN iC
        clear hys hyl
        by_cases htz : tv = 0
        · subst htz
          have hC := iC rfl
          clear iC
          have hD5 : wr.heap.size + 1 ≤ D := by have := HSZ.out; omega
          have hDW := (Array.getElem?_eq_some_iff.1 hK').1
          have m0 : Marks w1.heap.size (D + 1) ({ target := .collected D, args := #[] } :: ds) W := ⟨D, rfl, by omega, by omega, hK', iD.more (by omega)⟩
          have zW := iB.size
          have jL : Boxed W w.heap.size 22 (.slice a0 xs.length c0) := (iB.block _ (by omega)).trans bL
          have jM : Boxed W (w.heap.size + 1) 3 (.int .i64 many) := (iB.block _ (by omega)).trans bM
          have cN := iN.cell
          have cT := iT.cell
          have cL := jL.cell
          have cMa := jM.cell
          have lN := iN.lt
          have hnew := Boxed.new W 3 (.int .i64 1)
          have jB := iB.alloc zW (.cells #[.int .i64 1] 3)
          have jD := m0.below (W' := W.alloc (.cells #[.int .i64 1] 3)) ((Below.refl _ _).alloc (by omega) _)
          have zF : D + 1 ≤ (W.alloc (.cells #[.int .i64 1] 3)).heap.size := by simp; omega
          gi_wp2
          all_goals
            refine ⟨stepsInv_mk 1 W.heap.size (_ :: ds) (.inr (.inl rfl)) jB hnew (by omega) (jD.more zF), ?_⟩
            rw [turnOf_eq rfl hnew, hT6.out]
            decide
        · obtain rfl : tv = 1 := by unfold TurnOk at htv; omega
          clear iC
          have hD5 : wr.heap.size + 1 ≤ D := by have := HSZ.out; omega
          have hDW := (Array.getElem?_eq_some_iff.1 hK').1
          have m0 : Marks w1.heap.size (D + 1) ({ target := .collected D, args := #[] } :: ds) W := ⟨D, rfl, by omega, by omega, hK', iD.more (by omega)⟩
          have zW := iB.size
          have jL : Boxed W w.heap.size 22 (.slice a0 xs.length c0) := (iB.block _ (by omega)).trans bL
          have jM : Boxed W (w.heap.size + 1) 3 (.int .i64 many) := (iB.block _ (by omega)).trans bM
          have cN := iN.cell
          have cT := iT.cell
          have cL := jL.cell
          have cMa := jM.cell
          have lN := iN.lt
          have hnew := Boxed.new W 3 (.int .i64 2)
          have jB := iB.alloc zW (.cells #[.int .i64 2] 3)
          have jD := m0.below (W' := W.alloc (.cells #[.int .i64 2] 3)) ((Below.refl _ _).alloc (by omega) _)
          have zF : D + 1 ≤ (W.alloc (.cells #[.int .i64 2] 3)).heap.size := by simp; omega
          gi_wp2
          all_goals
            refine ⟨stepsInv_mk 2 W.heap.size (_ :: ds) (.inr (.inr rfl)) jB hnew (by omega) (jD.more zF), ?_⟩
            rw [turnOf_eq rfl hnew, hT6.out]
            decide
      case stop =>
        rintro D cd pre W hDb hpre ⟨⟨rfl, rfl, hp1, hp2, hp3⟩, iN, iB, iT, iD⟩ hK'
        have hpl : pre.length ≤ xs.length := by have := hpre.length_le; rwa [fin_all] at this
        clear hpre
        have hD5 : wr.heap.size + 1 ≤ D := by have := HSZ.out; omega
        have hDW := (Array.getElem?_eq_some_iff.1 hK').1
        have m0 : Marks w1.heap.size (D + 1) ({ target := .collected D, args := #[] } :: ds) W := ⟨D, rfl, by omega, by omega, hK', iD.more (by omega)⟩
        have zW := iB.size
        have jL : Boxed W w.heap.size 22 (.slice a0 xs.length c0) := (iB.block _ (by omega)).trans bL
        have jM : Boxed W (w.heap.size + 1) 3 (.int .i64 many) := (iB.block _ (by omega)).trans bM
        have cN := iN.cell
        have cT := iT.cell
        have cL := jL.cell
        have cMa := jM.cell
        have lN := iN.lt
        have hnew := Boxed.new W 3 (.int .i64 1)
        have jB := iB.alloc zW (.cells #[.int .i64 1] 3)
        have jD := m0.below (W' := W.alloc (.cells #[.int .i64 1] 3)) ((Below.refl _ _).alloc (by omega) _)
        have zF : D + 1 ≤ (W.alloc (.cells #[.int .i64 1] 3)).heap.size := by simp; omega
        generalize pre.length = N at *
        gi_wp2
        all_goals
          refine ⟨stepsInv_mk 1 W.heap.size (_ :: ds) (.inr (.inl rfl)) jB hnew (by omega) (jD.more zF), ?_⟩
          rw [turnOf_eq rfl hnew, hT6.out]
          decide
theorem stepsL_any (v : Value) (xs : List Nat) (many : Int) (hl : xs.length ≤ 140737488351232) (hx : U64s xs) (hm1 : -9223372036854775808 ≤ many) (hm2 : many ≤ 9223372036854775807) (w : World) (hs : Sl w .u64 v xs) :
    Calls Try.prog 5 #[v, .int .i64 many] w fun e w' => e = .returned (.bool true) ∧ Below w.heap.size w w' := by
  by_cases h : 200 < xs.length
  · exact steps_long v xs many h hl w hs
  · exact steps_some v xs many (by omega) hx hm1 hm2 w hs
end Go.Proofs.Ythjlhbkjmlohcaa
