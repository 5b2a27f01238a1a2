/-
  The walk of the law TraceStores (written by gen_tsv.py).
-/
import Derived.Test.YtkpiehejkhjhlaaTsM
import Derived.Test.YtkpiehejkhjhlaaMark
namespace Go.Proofs.Ytkpiehejkhjhlaa
open Go.RowKit Go.Shelf Go.Maps
attribute [local go_sem] Oper.semAt_some

/-- Which turns there are. -/
def TurnT (tv : Int) : Prop := tv = 0 ∨ tv = 1 ∨ tv = 2
/-- How many came, in a turn that goes on. -/
def CountT (tv many : Int) (n : Nat) : Prop := tv = 0 → n = 0 ∨ (n : Int) < many
/-- Where the puts are left. -/
def BreakT (cd : Code) (tv many : Int) (n : Nat) : Prop := cd = .exit 2 ∧ tv = 0 ∧ 1 ≤ n ∧ many ≤ (n : Int) ∧ (n = 1 ∨ (n : Int) ≤ many)
/-- The turn, as its box has it. -/
def turnOf7 (a : Act) (W : World) : Nat := match a.tmps.getD 7 undef with
  | .pointer (some p) => (intOf ((W.cell? p).getD undef)).toNat
  | _ => 0
theorem turnOf7_eq {a : Act} {W : World} {p : Nat} {t : TypeId} {n : Int} (h : a.tmps.getD 7 undef = .pointer (some ⟨p, 0, none⟩)) (hB : Boxed W p t (.int .i64 n)) : turnOf7 a W = n.toNat := by
  unfold turnOf7
  rw [h]
  simp [hB.cell, intOf]
abbrev sqV (p m : Nat) : Value := .func (.func 41) #[] #[.pointer (some ⟨p, 0, none⟩), .pointer (some ⟨m, 0, none⟩)]
/-- What each turn begins with. -/
def StoInv (w w1 : World) (a : Option Addr) (cap N : Nat) (many : Int) (sq v16 v17 v18 v19 : Value) (a' : Act) (W : World) : Prop :=
  ∃ (tv : Int) (p7 : Nat) (ds : List Deferred) (u8 u9 u10 u22 u23 u24 u25 u26 u27 u28 u29 u30 u31 u32 u33 u34 u35 u36 u37 u38 u39 u40 u41 u42 u43 u44 u45 u46 u47 u48 u49 u50 u51 u52 u53 u54 u55 u56 u57 u58 u59 u60 u61 u62 u63 u64 u65 u66 u67 u68 u69 u70 u71 u72 u73 u74 u75 : Value), (TurnT tv ∧ Below w1.heap.size w1 W ∧ Boxed W p7 3 (.int .i64 tv) ∧ w1.heap.size ≤ p7 ∧ Marks w1.heap.size W.heap.size ds W) ∧
    a' = { tmps := #[.slice a N cap, .int .i64 many, undef, .pointer (some ⟨w.heap.size, 0, none⟩), .pointer (some ⟨w.heap.size + 1, 0, none⟩), .pointer (some ⟨w.heap.size + 1 + 1, 0, none⟩), sq, .pointer (some ⟨p7, 0, none⟩), u8, u9, u10, .slice a N cap, .int .i64 (N : Nat), .bool false, undef, .slice a N cap, v16, v17, v18, v19, .slice a N cap, sq, u22, u23, u24, u25, u26, u27, u28, u29, u30, u31, u32, u33, u34, u35, u36, u37, u38, u39, u40, u41, u42, u43, u44, u45, u46, u47, u48, u49, u50, u51, u52, u53, u54, u55, u56, u57, u58, u59, u60, u61, u62, u63, u64, u65, u66, u67, u68, u69, u70, u71, u72, u73, u74, u75, undef], defers := ds }
theorem stoInv_mk {w w1 : World} {a : Option Addr} {cap N : Nat} {many : Int} {sq v16 v17 v18 v19 : Value} {W : World} (tv : Int) (p7 : Nat) (ds : List Deferred) {u8 u9 u10 u22 u23 u24 u25 u26 u27 u28 u29 u30 u31 u32 u33 u34 u35 u36 u37 u38 u39 u40 u41 u42 u43 u44 u45 u46 u47 u48 u49 u50 u51 u52 u53 u54 u55 u56 u57 u58 u59 u60 u61 u62 u63 u64 u65 u66 u67 u68 u69 u70 u71 u72 u73 u74 u75 : Value} (h1 : TurnT tv) (h2 : Below w1.heap.size w1 W) (h3 : Boxed W p7 3 (.int .i64 tv)) (h4 : w1.heap.size ≤ p7) (h5 : Marks w1.heap.size W.heap.size ds W) :
    StoInv w w1 a cap N many sq v16 v17 v18 v19 { tmps := #[.slice a N cap, .int .i64 many, undef, .pointer (some ⟨w.heap.size, 0, none⟩), .pointer (some ⟨w.heap.size + 1, 0, none⟩), .pointer (some ⟨w.heap.size + 1 + 1, 0, none⟩), sq, .pointer (some ⟨p7, 0, none⟩), u8, u9, u10, .slice a N cap, .int .i64 (N : Nat), .bool false, undef, .slice a N cap, v16, v17, v18, v19, .slice a N cap, sq, u22, u23, u24, u25, u26, u27, u28, u29, u30, u31, u32, u33, u34, u35, u36, u37, u38, u39, u40, u41, u42, u43, u44, u45, u46, u47, u48, u49, u50, u51, u52, u53, u54, u55, u56, u57, u58, u59, u60, u61, u62, u63, u64, u65, u66, u67, u68, u69, u70, u71, u72, u73, u74, u75, undef], defers := ds } W := ⟨tv, p7, ds, _, _, _, _, _, _, _, _, _, _, _, _, _, _, _, _, _, _, _, _, _, _, _, _, _, _, _, _, _, _, _, _, _, _, _, _, _, _, _, _, _, _, _, _, _, _, _, _, _, _, _, _, _, _, _, _, _, ⟨h1, h2, h3, h4, h5⟩, rfl⟩
/-- In the rounds. -/
def StoI (wr : World) (tv many : Int) (pre : List (Nat × Int)) (q : Nat → Prop) (W : World) : Prop :=
  BoxF wr.heap.size 3 (.int .i64 (pre.length : Nat)) q W ∧ BelowF wr.heap.size wr q W ∧ CountT tv many pre.length
theorem abides_sto (wr : World) (tv many : Int) : Abides (StoI wr tv many) := Abides.and (Abides.box _ _ (fun pre : List (Nat × Int) => .int .i64 (pre.length : Nat))) (Abides.and (Abides.below _ _) (Abides.pure (fun pre : List (Nat × Int) => CountT tv many pre.length)))
def StoX (wr : World) (tv many : Int) (cd : Code) (pre : List (Nat × Int)) (q : Nat → Prop) (W : World) : Prop :=
  BreakT cd tv many pre.length ∧ BoxF wr.heap.size 3 (.int .i64 (pre.length : Nat)) q W ∧ BelowF wr.heap.size wr q W
theorem abides_stox (wr : World) (tv many : Int) (cd : Code) : Abides (StoX wr tv many cd) := Abides.and (Abides.pure (fun pre : List (Nat × Int) => BreakT cd tv many pre.length)) (Abides.and (Abides.box _ _ (fun pre : List (Nat × Int) => .int .i64 (pre.length : Nat))) (Abides.below _ _))
set_option maxRecDepth 100000 in
theorem stores5_long {v : Value} {ts : List Tch} (many : Int) (hl : 60 < ts.length) (w : World) (hs : SlT w v ts) :
    Calls Try.prog 5 #[v, .int .i64 many] w fun e w' => e = .returned (.bool true) ∧ Below w.heap.size w w' := by
  obtain ⟨a, cap, rfl, -⟩ := id hs
  obtain ⟨N, hN⟩ : ∃ N, ts.length = N := ⟨_, rfl⟩
  have k1 : (60 : Int) < (N : Int) := by omega
  rw [hN]
  clear hs hN hl
  have hR := Boxed.new (w.alloc (.cells #[.int .i64 many] 3)) 4 (.bool false)
  simp only [World.size_alloc] at hR
  go_enter Try.func5, Try.ntmps5
  go_wp2_with fail
  refine (works5_any _).mono ?_
  rintro e w1 ⟨rfl, hb1⟩
  have hR1 : Boxed w1 (w.heap.size + 1) 4 (.bool false) := (hb1.block _ (by simp)).trans hR
  have hc := hR1.cell
  have hf := hR1.frozen
  have hlt := hR1.lt
  go_wp2_with fail
  have hc2 := (hR1.set (.bool true)).cell
  have b1 : Below w.heap.size w w1 := (((Below.refl _ _).alloc (Nat.le_refl _) _).alloc (by simp) _).trans (hb1.mono (by simp; omega))
  refine bodyPost_ret (v := .bool true) (by simp [results, Try.results5, go_sem, hc2]) rfl ⟨rfl, b1.setCell (p := ⟨w.heap.size + 1, 0, none⟩) (show w.heap.size ≤ w.heap.size + 1 by omega) _⟩
set_option maxRecDepth 100000 in
set_option maxHeartbeats 16000000 in
theorem stores5_some {v : Value} {ts : List Tch} (many : Int) (hm1 : -9223372036854775808 ≤ many) (hm2 : many ≤ 9223372036854775807) (w : World) (hl : ts.length ≤ 60) (hok : ∀ t ∈ ts, okT t) (hs : SlT w v ts) :
    Calls Try.prog 5 #[v, .int .i64 many] w fun e w' => e = .returned (.bool true) ∧ Below w.heap.size w w' := by
  have HWK := Lib.hid works5_any
  have HRC := Lib.hid (fun W (hb : Below w.heap.size w W) => refCheck_any W (by omega) (hs.below hb))
  have HRS := Lib.hid (fun W (hb : Below w.heap.size w W) => ref5Stores_any W (by omega) hok (hs.below hb))
  have HST := Lib.hid (fun W (hb : Below w.heap.size w W) => stores_any W (by omega) hok (hs.below hb))
  have hps := puts_short ts
  obtain ⟨a, cap, rfl, -⟩ := id hs
  obtain ⟨N, hN⟩ : ∃ N, ts.length = N := ⟨_, rfl⟩
  rw [hN] at hl HRC HRS HST hps ⊢
  have g1 : ¬ (60 : Int) < (N : Int) := by omega
  obtain ⟨W0, hW0⟩ : ∃ W0, ((w.alloc (.cells #[.int .i64 many] 3)).alloc (.cells #[.bool false] 4)).alloc (.cells #[.slice none 0 0] 46) = W0 := ⟨_, rfl⟩
  have b0 : Below w.heap.size w W0 := by rw [← hW0]; exact (by repeat (first | exact Below.refl _ _ | assumption | refine Below.drew ?_ | refine below_drewN ?_ _ | refine Below.alloc ?_ (by (try simp) <;> omega) _ | refine Below.setCell ?_ (by (try simp) <;> omega) _ | refine Below.trans ?_ (Below.mono (by assumption) (by (try simp) <;> omega))))
  have z0 : W0.heap.size = w.heap.size + 3 := by rw [← hW0]; simp
  have jM : Boxed W0 w.heap.size 3 (.int .i64 many) := by rw [← hW0]; unfold Boxed; (simp only [heap_at, World.size_alloc]; repeat (first | rw [if_pos (by omega)] | rw [if_neg (by omega)] | rw [if_pos trivial]))
  have jR : Boxed W0 (w.heap.size + 1) 4 (.bool false) := by rw [← hW0]; unfold Boxed; (simp only [heap_at, World.size_alloc]; repeat (first | rw [if_pos (by omega)] | rw [if_neg (by omega)] | rw [if_pos trivial]))
  have jW : Boxed W0 (w.heap.size + 1 + 1) 46 (.slice none 0 0) := by rw [← hW0]; unfold Boxed; (simp only [heap_at, World.size_alloc]; repeat (first | rw [if_pos (by omega)] | rw [if_neg (by omega)] | rw [if_pos trivial]))
  have HW0 := Lib.hid hW0
  have HB0 := Lib.hid b0
  have HZ0 := Lib.hid z0
  have HJM := Lib.hid jM
  have HJR := Lib.hid jR
  have HJW := Lib.hid jW
  clear hs hok hN hW0 b0 z0 jM jR jW
  refine (callsIn_wide (n := 10)).1 ?_
  refine callsIn_of_wp_marks Try.func5 rfl trivial ?_ rfl
  simp only [Try.ntmps5, List.size_toArray, List.length_nil, List.length_cons, Nat.reduceAdd, Nat.reduceSub, Array.replicate_succ, Array.replicate_zero, List.push_toArray, List.append_toArray, List.nil_append, List.cons_append]
  gi_wp2_with fail
  rw [HW0.out]
  refine ⟨trivial, ?_⟩
  refine (callsIn_wide.2 (HRC.out W0 HB0.out)).mono ?_
  rintro e w1 ⟨rfl, hb1⟩
  have HB1 : Hid (Below w.heap.size w w1) := show Below _ _ _ from HB0.out.trans (hb1.mono HB0.out.size)
  have HM1 : Hid (Boxed w1 w.heap.size 3 (.int .i64 many)) := show Boxed _ _ _ _ from (hb1.block _ HJM.out.lt).trans HJM.out
  have HR1 : Hid (Boxed w1 (w.heap.size + 1) 4 (.bool false)) := show Boxed _ _ _ _ from (hb1.block _ HJR.out.lt).trans HJR.out
  have HW1 : Hid (Boxed w1 (w.heap.size + 1 + 1) 46 (.slice none 0 0)) := show Boxed _ _ _ _ from (hb1.block _ HJW.out.lt).trans HJW.out
  have HZ1 : Hid (w.heap.size + 3 ≤ w1.heap.size) := show _ ≤ _ by have := hb1.size; have := HZ0.out; omega
  clear hb1
  by_cases hc : checkT ts = 0
  · have HPE := Lib.hid (puts_same hc)
    rw [← HPE.out] at HRS
    rw [hc]
    obtain ⟨P, hP⟩ : ∃ P, putsV ts = P := ⟨_, rfl⟩
    rw [hP] at HRS hps
    have HP := Lib.hid hP
    obtain ⟨J, hJ⟩ : ∃ J, P.length = J := ⟨_, rfl⟩
    rw [hJ] at HRS hps
    have HJ := Lib.hid hJ
    clear hc hP hJ
    gi_wp2_with fail
    refine ⟨trivial, ?_⟩
    refine (callsIn_wide.2 (HRS.out w1 HB1.out)).mono ?_
    rintro e w2 ⟨u, rfl, hr2, hb2⟩
    have hsl := own_slice2 hr2
    obtain ⟨ua, uc, rfl⟩ := hsl
    have jM : Boxed w2 w.heap.size 3 (.int .i64 many) := (hb2.block _ HM1.out.lt).trans HM1.out
    have jR : Boxed w2 (w.heap.size + 1) 4 (.bool false) := (hb2.block _ HR1.out.lt).trans HR1.out
    have jW : Boxed w2 (w.heap.size + 1 + 1) 46 (.slice none 0 0) := (hb2.block _ HW1.out.lt).trans HW1.out
    have f0 := jW.frozen
    have f1 := jW.cell
    have hs12 := hb2.size
    have hz1 := HZ1.out
    have HM2 : Hid (Boxed (w2.setCell ⟨w.heap.size + 1 + 1, 0, none⟩ (.slice ua J uc)) w.heap.size 3 (.int .i64 many)) := show Boxed _ _ _ _ from (Below.heap_setCell _ _ _ _ (by simp only [ne_eq]; omega)).trans jM
    have HR2 : Hid (Boxed (w2.setCell ⟨w.heap.size + 1 + 1, 0, none⟩ (.slice ua J uc)) (w.heap.size + 1) 4 (.bool false)) := show Boxed _ _ _ _ from (Below.heap_setCell _ _ _ _ (by simp only [ne_eq]; omega)).trans jR
    have HW2 : Hid (Boxed (w2.setCell ⟨w.heap.size + 1 + 1, 0, none⟩ (.slice ua J uc)) (w.heap.size + 1 + 1) 46 (.slice ua J uc)) := show Boxed _ _ _ _ from jW.set _
    have HPR2 : Hid ((w2.setCell ⟨w.heap.size + 1 + 1, 0, none⟩ (.slice ua J uc)).ownsRow w1.heap.size 52 2 (.slice ua J uc) J (flatC cP P)) := show World.ownsRow _ _ _ _ _ _ _ from own_keptG hr2 (fun g e hg => Below.heap_setCell _ _ _ _ (by have := (hr2.lt g e).1; simp only [ne_eq]; omega))
    have HB2 : Hid (Below w.heap.size w (w2.setCell ⟨w.heap.size + 1 + 1, 0, none⟩ (.slice ua J uc))) := show Below _ _ _ from (HB1.out.trans (hb2.mono HB1.out.size)).setCell (p := ⟨w.heap.size + 1 + 1, 0, none⟩) (show w.heap.size ≤ w.heap.size + 1 + 1 by omega) _
    have HZ2 : Hid (w.heap.size + 3 ≤ (w2.setCell ⟨w.heap.size + 1 + 1, 0, none⟩ (.slice ua J uc)).heap.size) := show _ ≤ _ by simp [World.setCell]; omega
    obtain ⟨w3, hw3⟩ : ∃ w3, w2.setCell ⟨w.heap.size + 1 + 1, 0, none⟩ (.slice ua J uc) = w3 := ⟨_, rfl⟩
    rw [hw3] at HM2 HR2 HW2 HPR2 HB2 HZ2
    have HW3 := Lib.hid hw3
    clear hr2 hb2 jM jR jW hw3 hs12 hz1
    gi_wp2_with fail
    clear f0 f1
    rw [HW3.out]
    refine ⟨trivial, ?_⟩
    refine (callsIn_wide.2 (HST.out w3 HB2.out)).mono ?_
    rintro e w4 ⟨p, m, u, c0, rfl, hss, -, hb4⟩
    have HSS := Lib.hid hss
    have HB4 : Hid (Below w.heap.size w w4) := show Below _ _ _ from HB2.out.trans (hb4.mono HB2.out.size)
    have HM4 : Hid (Boxed w4 w.heap.size 3 (.int .i64 many)) := show Boxed _ _ _ _ from (hb4.block _ HM2.out.lt).trans HM2.out
    have HR4 : Hid (Boxed w4 (w.heap.size + 1) 4 (.bool false)) := show Boxed _ _ _ _ from (hb4.block _ HR2.out.lt).trans HR2.out
    have HW4 : Hid (Boxed w4 (w.heap.size + 1 + 1) 46 (.slice ua J uc)) := show Boxed _ _ _ _ from (hb4.block _ HW2.out.lt).trans HW2.out
    have HPR4 : Hid (w4.ownsRow w1.heap.size 52 2 (.slice ua J uc) J (flatC cP P)) := show World.ownsRow _ _ _ _ _ _ _ from own_row_below HPR2.out hb4
    have hz4 : w.heap.size + 3 ≤ w4.heap.size := by have := HZ2.out; have := hb4.size; omega
    have HPL : Hid (∀ k, stP u w3.heap.size m k → w3.heap.size ≤ k ∧ k < w4.heap.size) := show ∀ k, _ from fun k hk => by
      rcases hk with hk | rfl | rfl
      · exact HSS.out.row.lt k hk
      · exact ⟨Nat.le_refl _, HSS.out.map.lt⟩
      · exact ⟨HSS.out.lowM, HSS.out.mbox.lt⟩
    have HSQ := Lib.hid (stores_seq 9 (by decide) w4 HSS.out)
    rw [HP.out] at HSQ
    have HPA := Lib.hid (fun k (hk : k < J) => put_at HJ.out HPR4.out k hk)
    clear hss hb4
    gi_wp2_with fail
    rename_i K hK
    refine wpIn_loop (StoInv w w4 a cap N many (sqV p m) (.int .i64 0) (.bool true) (.slice a N cap) (.slice ua J uc)) (fun a' W => 2 - turnOf7 a' W) ?_ ?_
    · exact ⟨0, _, [], _, _, _, _, _, _, _, _, _, _, _, _, _, _, _, _, _, _, _, _, _, _, _, _, _, _, _, _, _, _, _, _, _, _, _, _, _, _, _, _, _, _, _, _, _, _, _, _, _, _, _, _, _, _, _, _, _, ⟨.inl rfl, (Below.refl _ _).alloc (Nat.le_refl _) _, Boxed.new w4 3 (.int .i64 0), Nat.le_refl _, trivial⟩, rfl⟩
    · rintro a' wr ⟨tv, p7, ds, u8, u9, u10, u22, u23, u24, u25, u26, u27, u28, u29, u30, u31, u32, u33, u34, u35, u36, u37, u38, u39, u40, u41, u42, u43, u44, u45, u46, u47, u48, u49, u50, u51, u52, u53, u54, u55, u56, u57, u58, u59, u60, u61, u62, u63, u64, u65, u66, u67, u68, u69, u70, u71, u72, u73, u74, u75, ⟨htv, hB, hT, hp7, hD⟩, rfl⟩
      have zb := hB.size
      have hT7 := Lib.hid (turnOf7_eq (a := { tmps := #[.slice a N cap, .int .i64 many, undef, .pointer (some ⟨w.heap.size, 0, none⟩), .pointer (some ⟨w.heap.size + 1, 0, none⟩), .pointer (some ⟨w.heap.size + 1 + 1, 0, none⟩), sqV p m, .pointer (some ⟨p7, 0, none⟩), u8, u9, u10, .slice a N cap, .int .i64 (N : Nat), .bool false, undef, .slice a N cap, .int .i64 0, .bool true, .slice a N cap, .slice ua J uc, .slice a N cap, sqV p m, u22, u23, u24, u25, u26, u27, u28, u29, u30, u31, u32, u33, u34, u35, u36, u37, u38, u39, u40, u41, u42, u43, u44, u45, u46, u47, u48, u49, u50, u51, u52, u53, u54, u55, u56, u57, u58, u59, u60, u61, u62, u63, u64, u65, u66, u67, u68, u69, u70, u71, u72, u73, u74, u75, undef], defers := ds }) rfl hT)
      have cT := hT.cell
      have hlT := hT.lt
      have HPLT : Hid (∀ k, stP u w3.heap.size m k → k < w4.heap.size) := show ∀ k, _ from fun k hk => (HPL.out k hk).2
      by_cases h2 : tv = 2
      · subst h2
        have hR : Boxed wr (w.heap.size + 1) 4 (.bool false) := (hB.block _ (by omega)).trans HR4.out
        gi_wp2_with fail
        refine ⟨trivial, ?_⟩
        refine (callsIn_wide.2 (HWK.out _)).mono ?_
        rintro e w5 ⟨rfl, hb5⟩
        have hR5 : Boxed w5 (w.heap.size + 1) 4 (.bool false) := (hb5.block _ hR.lt).trans hR
        have hcR5 := hR5.cell
        have hfR5 := hR5.frozen
        have hlR5 := hR5.lt
        have b5 : Below w.heap.size w w5 := (HB4.out.trans (hB.mono (by omega))).trans (hb5.mono (by omega))
        clear cT
        gi_wp2_with fail
        have hR6 := hR5.set (.bool true)
        refine leaves_marks ds wr.heap.size _ ((hD.below hb5).set hR5 _) fun W' hs => ⟨.bool true, ?_, rfl, (b5.setCell (p := ⟨w.heap.size + 1, 0, none⟩) (show w.heap.size ≤ w.heap.size + 1 by omega) _).trans (hs.1.mono (by omega))⟩
        have hc6 : Boxed W' (w.heap.size + 1) 4 (.bool true) := hs.2 _ _ _ _ hR6
        simp [results, Try.results5, go_sem, hc6.cell]
      · have hlt2 : tv < 2 := by unfold TurnT at htv; omega
        have hq : ∀ W : World, (binOp .eql 49 (.func (.func 41) #[] #[.pointer (some ⟨p, 0, none⟩), .pointer (some ⟨m, 0, none⟩)]) .nilFunc).run Try.prog W = .ok (.bool false) W := fun _ => by kernel_rfl
        gi_wp2_with fail
        have jN := Boxed.new wr 3 (.int .i64 0)
        have b0 : Below wr.heap.size wr (wr.alloc (.cells #[.int .i64 0] 3)) := (Below.refl _ _).alloc (Nat.le_refl _) _
        have hsz0 : (wr.alloc (.cells #[.int .i64 0] 3)).heap.size = wr.heap.size + 1 := by simp
        have HSZ := Lib.hid hsz0; clear hsz0
        generalize (wr.alloc (.cells #[.int .i64 0] 3)) = W0 at *
        have HI0 : Hid (StoI wr tv many [] (fun _ => False) W0) := show StoI _ _ _ _ _ _ from ⟨⟨jN, id⟩, ⟨b0, b0.size, fun _ h => h.elim⟩, fun _ => .inl rfl⟩
        have hW04 : Below w4.heap.size w4 W0 := hB.trans (b0.mono zb)
        clear hq cT jN
        generalize hA : ({ tmps := _, defers := _ } : Act) = A0
        refine wpIn_range_F (n := 10) (by decide) (gf := 41) (lb := #[.pointer (some ⟨p, 0, none⟩), .pointer (some ⟨m, 0, none⟩)]) (by rw [← hA]; rfl) (enters_of Try.func41 (by kernel_rfl) rfl) HSQ.out (fun k hk => by have := HPLT.out k hk; have := HSZ.out; omega) hW04 (fun _ => rfl)
          (StoI wr tv many) (StoX wr tv many) (abides_sto _ _ _) (abides_stox _ _ _) HI0.out
          (fun x a' _ => a' = { tmps := (((A0.tmps.setIfInBounds 29 (.int .i64 (x.1 : Nat))).setIfInBounds 30 (.int .u64 x.2)).setIfInBounds 9 (.int .i64 (x.1 : Nat))).setIfInBounds 10 (.int .u64 x.2), defers := [] })
          (fun x a' W1 o h => h)
          ?assign ?body ?done ?stop
        case assign =>
          rintro l2 x W2 K hsz hK
          subst hA
          unfold encS
          dsimp only
          gi_wp2_with fail
          refine hK _ _ ?_ (Below.refl _ _)
          rfl
        case body =>
          rintro l2 pre x a' q2 W ⟨⟨iN, iNq⟩, ⟨iB, iBs, iBq⟩, iC⟩ hs2 hqb hsp rfl
          subst hA
          have hpl : pre.length < J := by
            have := hsp.length_le
            rw [List.length_append, List.length_singleton, HJ.out] at this
            omega
          have hxe : P[pre.length]? = some x := by
            obtain ⟨t, e⟩ := hsp
            rw [← e]
            simp
          have iB4 : Below w4.heap.size w4 W := hB.trans (iB.mono zb)
          have jM : Boxed W w.heap.size 3 (.int .i64 many) := (iB4.block _ (by have := HM4.out.lt; omega)).trans HM4.out
          have jR : Boxed W (w.heap.size + 1) 4 (.bool false) := (iB4.block _ (by have := HR4.out.lt; omega)).trans HR4.out
          have jW : Boxed W (w.heap.size + 1 + 1) 46 (.slice ua J uc) := (iB4.block _ (by have := HW4.out.lt; omega)).trans HW4.out
          obtain ⟨b1, o1, x1, hx1, rfl, hat⟩ := HPA.out pre.length hpl
          have hx2 : x1 = x := Option.some.inj (hx1.symm.trans hxe)
          subst hx2
          obtain ⟨c0, c1⟩ := hat W iB4
          have jT : Boxed W p7 3 (.int .i64 tv) := (iB.block _ hlT).trans hT
          have HPRE := Lib.hid (show (pre ++ [x1]).length = pre.length + 1 by simp)
          have hnq : ∀ W, (binOp .neq 52 (.agg #[.int .i64 (x1.1 : Nat), .int .u64 x1.2]) (.agg #[.int .i64 (x1.1 : Nat), .int .u64 x1.2])).run Try.prog W = .ok (.bool false) W := fun W => by rw [neq_put]; simp
          have HKP : Hid (Keeps (fun k => stP u w3.heap.size m k ∨ q2 k) W (W.setCell ⟨wr.heap.size, 0, none⟩ (.int .i64 ((pre.length : Int) + 1)))) := show Keeps _ _ _ from Keeps.set _ _ (fun h => h.elim (fun h => by have := HPLT.out _ h; omega) iNq)
          have HBX : Hid (BoxF wr.heap.size 3 (.int .i64 ((pre.length : Int) + 1)) q2 (W.setCell ⟨wr.heap.size, 0, none⟩ (.int .i64 ((pre.length : Int) + 1)))) := show BoxF _ _ _ _ _ from ⟨(show Boxed W wr.heap.size 3 (.int .i64 (pre.length : Nat)) from iN).set _, iNq⟩
          have HBF : Hid (BelowF wr.heap.size wr q2 (W.setCell ⟨wr.heap.size, 0, none⟩ (.int .i64 ((pre.length : Int) + 1)))) := show BelowF _ _ _ _ from ⟨iB.setCell (p := ⟨wr.heap.size, 0, none⟩) (Nat.le_refl _) _, by simp [World.setCell]; exact iBs, iBq⟩
          have HCT := Lib.hid iC
          obtain ⟨n, hn⟩ : ∃ n, pre.length = n := ⟨_, rfl⟩
          rw [hn] at HPRE c0 c1 iN HKP HBX HBF HCT hpl
          have cN := Boxed.cell iN
          have fN := Boxed.frozen iN
          have cT := jT.cell
          have cW := jW.cell
          have cMa := jM.cell
          have lN := Boxed.lt iN
          have lTn : p7 ≠ wr.heap.size := by omega
          have lMn : w.heap.size ≠ wr.heap.size := by omega
          have hnJ : (n : Int) < (J : Int) := by omega
          have hn60 : J ≤ 60 := by omega
          have HPC : Hid (((n + 1 : Nat) : Int) = (n : Int) + 1) := show _ = _ by omega
          clear hx1 hxe hat hsp hqb hs2 iC
          by_cases htz : tv = 0
          · subst htz
            by_cases hmany : many ≤ (n : Int) + 1
            · gi_wp2_with fail
              have hc := HCT.out rfl
              exact ⟨HKP.out, ⟨rfl, rfl, by rw [HPRE.out]; omega, by rw [HPRE.out]; omega, by rw [HPRE.out]; omega⟩, by rw [HPRE.out]; exact HBX.out, HBF.out⟩
            · have hmany' : (n : Int) + 1 < many := by omega
              gi_wp2_with fail
              exact ⟨HKP.out, by rw [HPRE.out]; exact HBX.out, HBF.out, fun _ => .inr (by rw [HPRE.out]; omega)⟩
          · obtain rfl : tv = 1 := by unfold TurnT at htv; omega
            gi_wp2_with fail
            exact ⟨HKP.out, by rw [HPRE.out]; exact HBX.out, HBF.out, fun h => absurd h (by decide)⟩
        case done =>
          rintro D ys W hDb rfl ⟨⟨iN, -⟩, ⟨iB, iBs, -⟩, iC⟩ hK'
          subst hA
          rw [HJ.out] at iN iC
          have hD5 : wr.heap.size + 1 ≤ D := by have := HSZ.out; omega
          by_cases htz : tv = 0
          · subst htz
            have hC := iC rfl
            clear iC
            have hDW := (Array.getElem?_eq_some_iff.1 hK').1
            have m0 : Marks w4.heap.size (D + 1) ({ target := .collected D, args := #[] } :: ds) W := ⟨D, rfl, by omega, by omega, hK', (hD.below iB).more (by omega)⟩
            have iB4 : Below w4.heap.size w4 W := hB.trans (iB.mono zb)
            have jM : Boxed W w.heap.size 3 (.int .i64 many) := (iB4.block _ (by have := HM4.out.lt; omega)).trans HM4.out
            have jR : Boxed W (w.heap.size + 1) 4 (.bool false) := (iB4.block _ (by have := HR4.out.lt; omega)).trans HR4.out
            have jW : Boxed W (w.heap.size + 1 + 1) 46 (.slice ua J uc) := (iB4.block _ (by have := HW4.out.lt; omega)).trans HW4.out
            have jT : Boxed W p7 3 (.int .i64 0) := (iB.block _ hlT).trans hT
            have cN := Boxed.cell iN
            have cT := jT.cell
            have cW := jW.cell
            have cMa := jM.cell
            have lN := Boxed.lt iN
            have hnew := Boxed.new W 3 (.int .i64 1)
            have zW := iB4.size
            have jB := iB4.alloc zW (.cells #[.int .i64 1] 3)
            have jD := m0.below (W' := W.alloc (.cells #[.int .i64 1] 3)) ((Below.refl _ _).alloc (by omega) _)
            have zF : D + 1 ≤ (W.alloc (.cells #[.int .i64 1] 3)).heap.size := by simp; omega
            have hmm : min (J : Int) (max 1 many) = (J : Int) := by omega
            have hJJ : ((J : Int) != (J : Int)) = false := by simp
            clear hC
            gi_wp2
            all_goals
              refine ⟨stoInv_mk 1 W.heap.size (_ :: ds) (.inr (.inl rfl)) jB hnew (by omega) (jD.more zF), ?_⟩
              rw [turnOf7_eq rfl hnew, hT7.out]
              decide
          · obtain rfl : tv = 1 := by unfold TurnT at htv; omega
            clear iC
            have hDW := (Array.getElem?_eq_some_iff.1 hK').1
            have m0 : Marks w4.heap.size (D + 1) ({ target := .collected D, args := #[] } :: ds) W := ⟨D, rfl, by omega, by omega, hK', (hD.below iB).more (by omega)⟩
            have iB4 : Below w4.heap.size w4 W := hB.trans (iB.mono zb)
            have jM : Boxed W w.heap.size 3 (.int .i64 many) := (iB4.block _ (by have := HM4.out.lt; omega)).trans HM4.out
            have jR : Boxed W (w.heap.size + 1) 4 (.bool false) := (iB4.block _ (by have := HR4.out.lt; omega)).trans HR4.out
            have jW : Boxed W (w.heap.size + 1 + 1) 46 (.slice ua J uc) := (iB4.block _ (by have := HW4.out.lt; omega)).trans HW4.out
            have jT : Boxed W p7 3 (.int .i64 1) := (iB.block _ hlT).trans hT
            have cN := Boxed.cell iN
            have cT := jT.cell
            have cW := jW.cell
            have cMa := jM.cell
            have lN := Boxed.lt iN
            have hnew := Boxed.new W 3 (.int .i64 2)
            have zW := iB4.size
            have jB := iB4.alloc zW (.cells #[.int .i64 2] 3)
            have jD := m0.below (W' := W.alloc (.cells #[.int .i64 2] 3)) ((Below.refl _ _).alloc (by omega) _)
            have zF : D + 1 ≤ (W.alloc (.cells #[.int .i64 2] 3)).heap.size := by simp; omega
            gi_wp2
            all_goals
              refine ⟨stoInv_mk 2 W.heap.size (_ :: ds) (.inr (.inr rfl)) jB hnew (by omega) (jD.more zF), ?_⟩
              rw [turnOf7_eq rfl hnew, hT7.out]
              decide
        case stop =>
          rintro D cd pre W hDb hpre ⟨⟨rfl, rfl, hp1, hp2, hp3⟩, ⟨iN, -⟩, ⟨iB, iBs, -⟩⟩ hK'
          subst hA
          have hpl : pre.length ≤ J := by have := hpre.length_le; rwa [HJ.out] at this
          have hD5 : wr.heap.size + 1 ≤ D := by have := HSZ.out; omega
          clear hpre
          have hDW := (Array.getElem?_eq_some_iff.1 hK').1
          have m0 : Marks w4.heap.size (D + 1) ({ target := .collected D, args := #[] } :: ds) W := ⟨D, rfl, by omega, by omega, hK', (hD.below iB).more (by omega)⟩
          have iB4 : Below w4.heap.size w4 W := hB.trans (iB.mono zb)
          have jM : Boxed W w.heap.size 3 (.int .i64 many) := (iB4.block _ (by have := HM4.out.lt; omega)).trans HM4.out
          have jR : Boxed W (w.heap.size + 1) 4 (.bool false) := (iB4.block _ (by have := HR4.out.lt; omega)).trans HR4.out
          have jW : Boxed W (w.heap.size + 1 + 1) 46 (.slice ua J uc) := (iB4.block _ (by have := HW4.out.lt; omega)).trans HW4.out
          have jT : Boxed W p7 3 (.int .i64 0) := (iB.block _ hlT).trans hT
          have cN := Boxed.cell iN
          have cT := jT.cell
          have cW := jW.cell
          have cMa := jM.cell
          have lN := Boxed.lt iN
          have hnew := Boxed.new W 3 (.int .i64 1)
          have zW := iB4.size
          have jB := iB4.alloc zW (.cells #[.int .i64 1] 3)
          have jD := m0.below (W' := W.alloc (.cells #[.int .i64 1] 3)) ((Below.refl _ _).alloc (by omega) _)
          have zF : D + 1 ≤ (W.alloc (.cells #[.int .i64 1] 3)).heap.size := by simp; omega
          generalize pre.length = n at *
          gi_wp2
          all_goals
            refine ⟨stoInv_mk 1 W.heap.size (_ :: ds) (.inr (.inl rfl)) jB hnew (by omega) (jD.more zF), ?_⟩
            rw [turnOf7_eq rfl hnew, hT7.out]
            decide
  · have HPN : Hid (putsV ts = []) := show _ = _ by
      have : wordsV ts = fun _ => none := by unfold wordsV; rw [if_neg hc]
      unfold putsV addrsV
      rw [this]
      have : (List.range 8192).filter (fun k : Nat => ((fun _ => none : Int → Option Int) (k : Int)).isSome) = [] := List.filter_eq_nil_iff.2 fun k _ => by simp
      rw [this]
      rfl
    obtain ⟨c, hcc⟩ : ∃ c, checkT ts = c := ⟨_, rfl⟩
    rw [hcc] at hc ⊢
    have hc1 : (c == 0) = false := by simp [hc]
    obtain ⟨P, hP⟩ : ∃ P, putsV ts = P := ⟨_, rfl⟩
    have HP := Lib.hid hP
    rw [hP] at HPN hps
    obtain ⟨ua, J, uc, huw, hJ0⟩ : ∃ ua J uc, Value.slice none 0 0 = .slice ua J uc ∧ J = 0 := ⟨none, 0, 0, rfl, rfl⟩
    have HJ : Hid (P.length = J) := show _ = _ by rw [HPN.out, hJ0]; rfl
    rw [HJ.out] at hps
    have HW2 := HW1
    rw [huw] at HW2
    have HM2 := HM1
    have HR2 := HR1
    have HB2 := HB1
    have HZ2 := HZ1
    obtain ⟨w3, hw3⟩ : ∃ w3, w1 = w3 := ⟨_, rfl⟩
    rw [hw3] at HM2 HR2 HW2 HB2 HZ2
    have HPR2 : Hid (w3.ownsRow w1.heap.size 52 2 (.slice ua J uc) J (flatC cP P)) := show World.ownsRow _ _ _ _ _ _ _ by
      rw [← huw, HPN.out, hJ0]
      exact World.ownsRow_nil _ _ _ _
    have HW3 := Lib.hid hw3
    clear hw3 huw hJ0 hcc hP
    gi_wp2_with fail
    rw [HW3.out]
    refine ⟨trivial, ?_⟩
    refine (callsIn_wide.2 (HST.out w3 HB2.out)).mono ?_
    rintro e w4 ⟨p, m, u, c0, rfl, hss, -, hb4⟩
    have HSS := Lib.hid hss
    have HB4 : Hid (Below w.heap.size w w4) := show Below _ _ _ from HB2.out.trans (hb4.mono HB2.out.size)
    have HM4 : Hid (Boxed w4 w.heap.size 3 (.int .i64 many)) := show Boxed _ _ _ _ from (hb4.block _ HM2.out.lt).trans HM2.out
    have HR4 : Hid (Boxed w4 (w.heap.size + 1) 4 (.bool false)) := show Boxed _ _ _ _ from (hb4.block _ HR2.out.lt).trans HR2.out
    have HW4 : Hid (Boxed w4 (w.heap.size + 1 + 1) 46 (.slice ua J uc)) := show Boxed _ _ _ _ from (hb4.block _ HW2.out.lt).trans HW2.out
    have HPR4 : Hid (w4.ownsRow w1.heap.size 52 2 (.slice ua J uc) J (flatC cP P)) := show World.ownsRow _ _ _ _ _ _ _ from own_row_below HPR2.out hb4
    have hz4 : w.heap.size + 3 ≤ w4.heap.size := by have := HZ2.out; have := hb4.size; omega
    have HPL : Hid (∀ k, stP u w3.heap.size m k → w3.heap.size ≤ k ∧ k < w4.heap.size) := show ∀ k, _ from fun k hk => by
      rcases hk with hk | rfl | rfl
      · exact HSS.out.row.lt k hk
      · exact ⟨Nat.le_refl _, HSS.out.map.lt⟩
      · exact ⟨HSS.out.lowM, HSS.out.mbox.lt⟩
    have HSQ := Lib.hid (stores_seq 9 (by decide) w4 HSS.out)
    rw [HP.out] at HSQ
    have HPA := Lib.hid (fun k (hk : k < J) => put_at HJ.out HPR4.out k hk)
    clear hss hb4
    gi_wp2_with fail
    rename_i K hK
    refine wpIn_loop (StoInv w w4 a cap N many (sqV p m) (.int .i64 c) (.bool false) (undef) (undef)) (fun a' W => 2 - turnOf7 a' W) ?_ ?_
    · exact ⟨0, _, [], _, _, _, _, _, _, _, _, _, _, _, _, _, _, _, _, _, _, _, _, _, _, _, _, _, _, _, _, _, _, _, _, _, _, _, _, _, _, _, _, _, _, _, _, _, _, _, _, _, _, _, _, _, _, _, _, _, ⟨.inl rfl, (Below.refl _ _).alloc (Nat.le_refl _) _, Boxed.new w4 3 (.int .i64 0), Nat.le_refl _, trivial⟩, rfl⟩
    · rintro a' wr ⟨tv, p7, ds, u8, u9, u10, u22, u23, u24, u25, u26, u27, u28, u29, u30, u31, u32, u33, u34, u35, u36, u37, u38, u39, u40, u41, u42, u43, u44, u45, u46, u47, u48, u49, u50, u51, u52, u53, u54, u55, u56, u57, u58, u59, u60, u61, u62, u63, u64, u65, u66, u67, u68, u69, u70, u71, u72, u73, u74, u75, ⟨htv, hB, hT, hp7, hD⟩, rfl⟩
      have zb := hB.size
      have hT7 := Lib.hid (turnOf7_eq (a := { tmps := #[.slice a N cap, .int .i64 many, undef, .pointer (some ⟨w.heap.size, 0, none⟩), .pointer (some ⟨w.heap.size + 1, 0, none⟩), .pointer (some ⟨w.heap.size + 1 + 1, 0, none⟩), sqV p m, .pointer (some ⟨p7, 0, none⟩), u8, u9, u10, .slice a N cap, .int .i64 (N : Nat), .bool false, undef, .slice a N cap, .int .i64 c, .bool false, undef, undef, .slice a N cap, sqV p m, u22, u23, u24, u25, u26, u27, u28, u29, u30, u31, u32, u33, u34, u35, u36, u37, u38, u39, u40, u41, u42, u43, u44, u45, u46, u47, u48, u49, u50, u51, u52, u53, u54, u55, u56, u57, u58, u59, u60, u61, u62, u63, u64, u65, u66, u67, u68, u69, u70, u71, u72, u73, u74, u75, undef], defers := ds }) rfl hT)
      have cT := hT.cell
      have hlT := hT.lt
      have HPLT : Hid (∀ k, stP u w3.heap.size m k → k < w4.heap.size) := show ∀ k, _ from fun k hk => (HPL.out k hk).2
      by_cases h2 : tv = 2
      · subst h2
        have hR : Boxed wr (w.heap.size + 1) 4 (.bool false) := (hB.block _ (by omega)).trans HR4.out
        gi_wp2_with fail
        refine ⟨trivial, ?_⟩
        refine (callsIn_wide.2 (HWK.out _)).mono ?_
        rintro e w5 ⟨rfl, hb5⟩
        have hR5 : Boxed w5 (w.heap.size + 1) 4 (.bool false) := (hb5.block _ hR.lt).trans hR
        have hcR5 := hR5.cell
        have hfR5 := hR5.frozen
        have hlR5 := hR5.lt
        have b5 : Below w.heap.size w w5 := (HB4.out.trans (hB.mono (by omega))).trans (hb5.mono (by omega))
        clear cT
        gi_wp2_with fail
        have hR6 := hR5.set (.bool true)
        refine leaves_marks ds wr.heap.size _ ((hD.below hb5).set hR5 _) fun W' hs => ⟨.bool true, ?_, rfl, (b5.setCell (p := ⟨w.heap.size + 1, 0, none⟩) (show w.heap.size ≤ w.heap.size + 1 by omega) _).trans (hs.1.mono (by omega))⟩
        have hc6 : Boxed W' (w.heap.size + 1) 4 (.bool true) := hs.2 _ _ _ _ hR6
        simp [results, Try.results5, go_sem, hc6.cell]
      · have hlt2 : tv < 2 := by unfold TurnT at htv; omega
        have hq : ∀ W : World, (binOp .eql 49 (.func (.func 41) #[] #[.pointer (some ⟨p, 0, none⟩), .pointer (some ⟨m, 0, none⟩)]) .nilFunc).run Try.prog W = .ok (.bool false) W := fun _ => by kernel_rfl
        gi_wp2_with fail
        have jN := Boxed.new wr 3 (.int .i64 0)
        have b0 : Below wr.heap.size wr (wr.alloc (.cells #[.int .i64 0] 3)) := (Below.refl _ _).alloc (Nat.le_refl _) _
        have hsz0 : (wr.alloc (.cells #[.int .i64 0] 3)).heap.size = wr.heap.size + 1 := by simp
        have HSZ := Lib.hid hsz0; clear hsz0
        generalize (wr.alloc (.cells #[.int .i64 0] 3)) = W0 at *
        have HI0 : Hid (StoI wr tv many [] (fun _ => False) W0) := show StoI _ _ _ _ _ _ from ⟨⟨jN, id⟩, ⟨b0, b0.size, fun _ h => h.elim⟩, fun _ => .inl rfl⟩
        have hW04 : Below w4.heap.size w4 W0 := hB.trans (b0.mono zb)
        clear hq cT jN
        generalize hA : ({ tmps := _, defers := _ } : Act) = A0
        refine wpIn_range_F (n := 10) (by decide) (gf := 41) (lb := #[.pointer (some ⟨p, 0, none⟩), .pointer (some ⟨m, 0, none⟩)]) (by rw [← hA]; rfl) (enters_of Try.func41 (by kernel_rfl) rfl) HSQ.out (fun k hk => by have := HPLT.out k hk; have := HSZ.out; omega) hW04 (fun _ => rfl)
          (StoI wr tv many) (StoX wr tv many) (abides_sto _ _ _) (abides_stox _ _ _) HI0.out
          (fun x a' _ => a' = { tmps := (((A0.tmps.setIfInBounds 29 (.int .i64 (x.1 : Nat))).setIfInBounds 30 (.int .u64 x.2)).setIfInBounds 9 (.int .i64 (x.1 : Nat))).setIfInBounds 10 (.int .u64 x.2), defers := [] })
          (fun x a' W1 o h => h)
          ?assign ?body ?done ?stop
        case assign =>
          rintro l2 x W2 K hsz hK
          subst hA
          unfold encS
          dsimp only
          gi_wp2_with fail
          refine hK _ _ ?_ (Below.refl _ _)
          rfl
        case body =>
          rintro l2 pre x a' q2 W ⟨⟨iN, iNq⟩, ⟨iB, iBs, iBq⟩, iC⟩ hs2 hqb hsp rfl
          subst hA
          have hpl : pre.length < J := by
            have := hsp.length_le
            rw [List.length_append, List.length_singleton, HJ.out] at this
            omega
          have hxe : P[pre.length]? = some x := by
            obtain ⟨t, e⟩ := hsp
            rw [← e]
            simp
          have iB4 : Below w4.heap.size w4 W := hB.trans (iB.mono zb)
          have jM : Boxed W w.heap.size 3 (.int .i64 many) := (iB4.block _ (by have := HM4.out.lt; omega)).trans HM4.out
          have jR : Boxed W (w.heap.size + 1) 4 (.bool false) := (iB4.block _ (by have := HR4.out.lt; omega)).trans HR4.out
          have jW : Boxed W (w.heap.size + 1 + 1) 46 (.slice ua J uc) := (iB4.block _ (by have := HW4.out.lt; omega)).trans HW4.out
          obtain ⟨b1, o1, x1, hx1, rfl, hat⟩ := HPA.out pre.length hpl
          have hx2 : x1 = x := Option.some.inj (hx1.symm.trans hxe)
          subst hx2
          obtain ⟨c0, c1⟩ := hat W iB4
          have jT : Boxed W p7 3 (.int .i64 tv) := (iB.block _ hlT).trans hT
          have HPRE := Lib.hid (show (pre ++ [x1]).length = pre.length + 1 by simp)
          have hnq : ∀ W, (binOp .neq 52 (.agg #[.int .i64 (x1.1 : Nat), .int .u64 x1.2]) (.agg #[.int .i64 (x1.1 : Nat), .int .u64 x1.2])).run Try.prog W = .ok (.bool false) W := fun W => by rw [neq_put]; simp
          have HKP : Hid (Keeps (fun k => stP u w3.heap.size m k ∨ q2 k) W (W.setCell ⟨wr.heap.size, 0, none⟩ (.int .i64 ((pre.length : Int) + 1)))) := show Keeps _ _ _ from Keeps.set _ _ (fun h => h.elim (fun h => by have := HPLT.out _ h; omega) iNq)
          have HBX : Hid (BoxF wr.heap.size 3 (.int .i64 ((pre.length : Int) + 1)) q2 (W.setCell ⟨wr.heap.size, 0, none⟩ (.int .i64 ((pre.length : Int) + 1)))) := show BoxF _ _ _ _ _ from ⟨(show Boxed W wr.heap.size 3 (.int .i64 (pre.length : Nat)) from iN).set _, iNq⟩
          have HBF : Hid (BelowF wr.heap.size wr q2 (W.setCell ⟨wr.heap.size, 0, none⟩ (.int .i64 ((pre.length : Int) + 1)))) := show BelowF _ _ _ _ from ⟨iB.setCell (p := ⟨wr.heap.size, 0, none⟩) (Nat.le_refl _) _, by simp [World.setCell]; exact iBs, iBq⟩
          have HCT := Lib.hid iC
          obtain ⟨n, hn⟩ : ∃ n, pre.length = n := ⟨_, rfl⟩
          rw [hn] at HPRE c0 c1 iN HKP HBX HBF HCT hpl
          have cN := Boxed.cell iN
          have fN := Boxed.frozen iN
          have cT := jT.cell
          have cW := jW.cell
          have cMa := jM.cell
          have lN := Boxed.lt iN
          have lTn : p7 ≠ wr.heap.size := by omega
          have lMn : w.heap.size ≠ wr.heap.size := by omega
          have hnJ : (n : Int) < (J : Int) := by omega
          have hn60 : J ≤ 60 := by omega
          have HPC : Hid (((n + 1 : Nat) : Int) = (n : Int) + 1) := show _ = _ by omega
          clear hx1 hxe hat hsp hqb hs2 iC
          by_cases htz : tv = 0
          · subst htz
            by_cases hmany : many ≤ (n : Int) + 1
            · gi_wp2_with fail
              have hc := HCT.out rfl
              exact ⟨HKP.out, ⟨rfl, rfl, by rw [HPRE.out]; omega, by rw [HPRE.out]; omega, by rw [HPRE.out]; omega⟩, by rw [HPRE.out]; exact HBX.out, HBF.out⟩
            · have hmany' : (n : Int) + 1 < many := by omega
              gi_wp2_with fail
              exact ⟨HKP.out, by rw [HPRE.out]; exact HBX.out, HBF.out, fun _ => .inr (by rw [HPRE.out]; omega)⟩
          · obtain rfl : tv = 1 := by unfold TurnT at htv; omega
            gi_wp2_with fail
            exact ⟨HKP.out, by rw [HPRE.out]; exact HBX.out, HBF.out, fun h => absurd h (by decide)⟩
        case done =>
          rintro D ys W hDb rfl ⟨⟨iN, -⟩, ⟨iB, iBs, -⟩, iC⟩ hK'
          subst hA
          rw [HJ.out] at iN iC
          have hD5 : wr.heap.size + 1 ≤ D := by have := HSZ.out; omega
          by_cases htz : tv = 0
          · subst htz
            have hC := iC rfl
            clear iC
            have hDW := (Array.getElem?_eq_some_iff.1 hK').1
            have m0 : Marks w4.heap.size (D + 1) ({ target := .collected D, args := #[] } :: ds) W := ⟨D, rfl, by omega, by omega, hK', (hD.below iB).more (by omega)⟩
            have iB4 : Below w4.heap.size w4 W := hB.trans (iB.mono zb)
            have jM : Boxed W w.heap.size 3 (.int .i64 many) := (iB4.block _ (by have := HM4.out.lt; omega)).trans HM4.out
            have jR : Boxed W (w.heap.size + 1) 4 (.bool false) := (iB4.block _ (by have := HR4.out.lt; omega)).trans HR4.out
            have jW : Boxed W (w.heap.size + 1 + 1) 46 (.slice ua J uc) := (iB4.block _ (by have := HW4.out.lt; omega)).trans HW4.out
            have jT : Boxed W p7 3 (.int .i64 0) := (iB.block _ hlT).trans hT
            have cN := Boxed.cell iN
            have cT := jT.cell
            have cW := jW.cell
            have cMa := jM.cell
            have lN := Boxed.lt iN
            have hnew := Boxed.new W 3 (.int .i64 1)
            have zW := iB4.size
            have jB := iB4.alloc zW (.cells #[.int .i64 1] 3)
            have jD := m0.below (W' := W.alloc (.cells #[.int .i64 1] 3)) ((Below.refl _ _).alloc (by omega) _)
            have zF : D + 1 ≤ (W.alloc (.cells #[.int .i64 1] 3)).heap.size := by simp; omega
            have hmm : min (J : Int) (max 1 many) = (J : Int) := by omega
            have hJJ : ((J : Int) != (J : Int)) = false := by simp
            clear hC
            gi_wp2
            all_goals
              refine ⟨stoInv_mk 1 W.heap.size (_ :: ds) (.inr (.inl rfl)) jB hnew (by omega) (jD.more zF), ?_⟩
              rw [turnOf7_eq rfl hnew, hT7.out]
              decide
          · obtain rfl : tv = 1 := by unfold TurnT at htv; omega
            clear iC
            have hDW := (Array.getElem?_eq_some_iff.1 hK').1
            have m0 : Marks w4.heap.size (D + 1) ({ target := .collected D, args := #[] } :: ds) W := ⟨D, rfl, by omega, by omega, hK', (hD.below iB).more (by omega)⟩
            have iB4 : Below w4.heap.size w4 W := hB.trans (iB.mono zb)
            have jM : Boxed W w.heap.size 3 (.int .i64 many) := (iB4.block _ (by have := HM4.out.lt; omega)).trans HM4.out
            have jR : Boxed W (w.heap.size + 1) 4 (.bool false) := (iB4.block _ (by have := HR4.out.lt; omega)).trans HR4.out
            have jW : Boxed W (w.heap.size + 1 + 1) 46 (.slice ua J uc) := (iB4.block _ (by have := HW4.out.lt; omega)).trans HW4.out
            have jT : Boxed W p7 3 (.int .i64 1) := (iB.block _ hlT).trans hT
            have cN := Boxed.cell iN
            have cT := jT.cell
            have cW := jW.cell
            have cMa := jM.cell
            have lN := Boxed.lt iN
            have hnew := Boxed.new W 3 (.int .i64 2)
            have zW := iB4.size
            have jB := iB4.alloc zW (.cells #[.int .i64 2] 3)
            have jD := m0.below (W' := W.alloc (.cells #[.int .i64 2] 3)) ((Below.refl _ _).alloc (by omega) _)
            have zF : D + 1 ≤ (W.alloc (.cells #[.int .i64 2] 3)).heap.size := by simp; omega
            gi_wp2
            all_goals
              refine ⟨stoInv_mk 2 W.heap.size (_ :: ds) (.inr (.inr rfl)) jB hnew (by omega) (jD.more zF), ?_⟩
              rw [turnOf7_eq rfl hnew, hT7.out]
              decide
        case stop =>
          rintro D cd pre W hDb hpre ⟨⟨rfl, rfl, hp1, hp2, hp3⟩, ⟨iN, -⟩, ⟨iB, iBs, -⟩⟩ hK'
          subst hA
          have hpl : pre.length ≤ J := by have := hpre.length_le; rwa [HJ.out] at this
          have hD5 : wr.heap.size + 1 ≤ D := by have := HSZ.out; omega
          clear hpre
          have hDW := (Array.getElem?_eq_some_iff.1 hK').1
          have m0 : Marks w4.heap.size (D + 1) ({ target := .collected D, args := #[] } :: ds) W := ⟨D, rfl, by omega, by omega, hK', (hD.below iB).more (by omega)⟩
          have iB4 : Below w4.heap.size w4 W := hB.trans (iB.mono zb)
          have jM : Boxed W w.heap.size 3 (.int .i64 many) := (iB4.block _ (by have := HM4.out.lt; omega)).trans HM4.out
          have jR : Boxed W (w.heap.size + 1) 4 (.bool false) := (iB4.block _ (by have := HR4.out.lt; omega)).trans HR4.out
          have jW : Boxed W (w.heap.size + 1 + 1) 46 (.slice ua J uc) := (iB4.block _ (by have := HW4.out.lt; omega)).trans HW4.out
          have jT : Boxed W p7 3 (.int .i64 0) := (iB.block _ hlT).trans hT
          have cN := Boxed.cell iN
          have cT := jT.cell
          have cW := jW.cell
          have cMa := jM.cell
          have lN := Boxed.lt iN
          have hnew := Boxed.new W 3 (.int .i64 1)
          have zW := iB4.size
          have jB := iB4.alloc zW (.cells #[.int .i64 1] 3)
          have jD := m0.below (W' := W.alloc (.cells #[.int .i64 1] 3)) ((Below.refl _ _).alloc (by omega) _)
          have zF : D + 1 ≤ (W.alloc (.cells #[.int .i64 1] 3)).heap.size := by simp; omega
          generalize pre.length = n at *
          gi_wp2
          all_goals
            refine ⟨stoInv_mk 1 W.heap.size (_ :: ds) (.inr (.inl rfl)) jB hnew (by omega) (jD.more zF), ?_⟩
            rw [turnOf7_eq rfl hnew, hT7.out]
            decide
theorem stores5_law {v : Value} {ts : List Tch} (many : Int) (hm1 : -9223372036854775808 ≤ many) (hm2 : many ≤ 9223372036854775807) (w : World) (hok : ∀ t ∈ ts, okT t) (hs : SlT w v ts) :
    Calls Try.prog 5 #[v, .int .i64 many] w fun e w' => e = .returned (.bool true) ∧ Below w.heap.size w w' := by
  by_cases h : 60 < ts.length
  · exact stores5_long many h w hs
  · exact stores5_some many hm1 hm2 w (by omega) hok hs
end Go.Proofs.Ytkpiehejkhjhlaa
