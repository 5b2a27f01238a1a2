/-
  path: the law PathSplits (written by gen_pthu.py).
-/
import Derived.Test.YtohdgjmmekgcmaaDoorQPthT
import Derived.Test.YtohdgjmmekgcmaaDoorMp7
namespace Go.Proofs.YtohdgjmmekgcmaaDoor
open Go.RowKit Go.Shelf Go.Sort
attribute [local go_sem] Oper.semAt_some

/-- Which turns there are. -/
def Turn7T (tv : Int) : Prop := tv = 0 ∨ tv = 1 ∨ tv = 2
/-- How many came, in a turn that goes on. -/
def Count7T (tv many : Int) (n : Nat) : Prop := tv = 0 → n = 0 ∨ (n : Int) < many
/-- Where the beginnings are left. -/
def Break7T (cd : Code) (tv many : Int) (n : Nat) : Prop := cd = .exit 2 ∧ tv = 0 ∧ 1 ≤ n ∧ many ≤ (n : Int) ∧ (n = 1 ∨ (n : Int) ≤ many)
/-- The turn, as its box has it. -/
def turnOf17 (a : Act) (W : World) : Nat := match a.tmps.getD 17 undef with
  | .pointer (some p) => (intOf ((W.cell? p).getD undef)).toNat
  | _ => 0
theorem turnOf17_eq {a : Act} {W : World} {p : Nat} {t : TypeId} {n : Int} (h : a.tmps.getD 17 undef = .pointer (some ⟨p, 0, none⟩)) (hB : Boxed W p t (.int .i64 n)) : turnOf17 a W = n.toNat := by
  unfold turnOf17
  rw [h]
  simp [hB.cell, intOf]
abbrev sqP (p : Nat) : Value := .func (.func 76) #[] #[.pointer (some ⟨p, 0, none⟩)]
/-- What each turn begins with. -/
def SplInv (w w8 : World) (s : List UInt8) (wb pp : Nat) (a' : Act) (W : World) : Prop :=
  ∃ (tv : Int) (p7 : Nat) (ds : List Deferred) (U : Nat → Value), (Turn7T tv ∧ Below w8.heap.size w8 W ∧ Boxed W p7 3 (.int .i64 tv) ∧ w8.heap.size ≤ p7 ∧ Marks w8.heap.size W.heap.size ds W) ∧
    a' = { tmps := #[encStr s, U 0, U 1, .pointer (some ⟨w.heap.size, 0, none⟩), .pointer (some ⟨w.heap.size + 1, 0, none⟩), U 2, U 3, U 4, U 5, U 6, U 7, U 8, U 9, U 10, U 11, .pointer (some ⟨wb, 0, none⟩), sqP pp, .pointer (some ⟨p7, 0, none⟩), U 12, U 13, U 14, U 15, U 16, U 17, U 18, U 19, U 20, U 21, U 22, U 23, U 24, U 25, U 26, U 27, U 28, U 29, U 30, U 31, U 32, U 33, U 34, U 35, U 36, U 37, U 38, U 39, U 40, U 41, U 42, U 43, U 44, U 45, U 46, U 47, U 48, U 49, U 50, U 51, U 52, U 53, U 54, U 55, U 56, U 57, U 58, U 59, U 60, U 61, U 62, U 63, U 64, U 65, U 66, U 67, U 68, U 69, U 70, U 71, U 72, U 73, U 74, U 75, U 76, U 77, U 78, U 79, U 80, U 81, U 82, U 83, U 84, U 85, U 86, U 87, U 88, U 89, U 90, U 91, U 92, U 93, U 94, U 95, U 96, U 97, U 98, U 99, U 100, U 101, U 102, U 103, U 104, U 105, U 106, U 107, U 108, U 109, U 110, U 111, U 112, U 113, U 114, U 115, U 116, U 117, U 118, U 119, U 120, U 121, U 122, U 123, U 124, U 125, U 126], defers := ds }
set_option maxRecDepth 100000 in
theorem splInv_mk {w w8 : World} {s : List UInt8} {wb pp : Nat} {W : World} (tv : Int) (p7 : Nat) (ds : List Deferred) {u1 u2 u5 u6 u7 u8 u9 u10 u11 u12 u13 u14 u18 u19 u20 u21 u22 u23 u24 u25 u26 u27 u28 u29 u30 u31 u32 u33 u34 u35 u36 u37 u38 u39 u40 u41 u42 u43 u44 u45 u46 u47 u48 u49 u50 u51 u52 u53 u54 u55 u56 u57 u58 u59 u60 u61 u62 u63 u64 u65 u66 u67 u68 u69 u70 u71 u72 u73 u74 u75 u76 u77 u78 u79 u80 u81 u82 u83 u84 u85 u86 u87 u88 u89 u90 u91 u92 u93 u94 u95 u96 u97 u98 u99 u100 u101 u102 u103 u104 u105 u106 u107 u108 u109 u110 u111 u112 u113 u114 u115 u116 u117 u118 u119 u120 u121 u122 u123 u124 u125 u126 u127 u128 u129 u130 u131 u132 : Value} (h1 : Turn7T tv) (h2 : Below w8.heap.size w8 W) (h3 : Boxed W p7 3 (.int .i64 tv)) (h4 : w8.heap.size ≤ p7) (h5 : Marks w8.heap.size W.heap.size ds W) :
    SplInv w w8 s wb pp { tmps := #[encStr s, u1, u2, .pointer (some ⟨w.heap.size, 0, none⟩), .pointer (some ⟨w.heap.size + 1, 0, none⟩), u5, u6, u7, u8, u9, u10, u11, u12, u13, u14, .pointer (some ⟨wb, 0, none⟩), sqP pp, .pointer (some ⟨p7, 0, none⟩), u18, u19, u20, u21, u22, u23, u24, u25, u26, u27, u28, u29, u30, u31, u32, u33, u34, u35, u36, u37, u38, u39, u40, u41, u42, u43, u44, u45, u46, u47, u48, u49, u50, u51, u52, u53, u54, u55, u56, u57, u58, u59, u60, u61, u62, u63, u64, u65, u66, u67, u68, u69, u70, u71, u72, u73, u74, u75, u76, u77, u78, u79, u80, u81, u82, u83, u84, u85, u86, u87, u88, u89, u90, u91, u92, u93, u94, u95, u96, u97, u98, u99, u100, u101, u102, u103, u104, u105, u106, u107, u108, u109, u110, u111, u112, u113, u114, u115, u116, u117, u118, u119, u120, u121, u122, u123, u124, u125, u126, u127, u128, u129, u130, u131, u132], defers := ds } W := ⟨tv, p7, ds, fun n => ([u1, u2, u5, u6, u7, u8, u9, u10, u11, u12, u13, u14, u18, u19, u20, u21, u22, u23, u24, u25, u26, u27, u28, u29, u30, u31, u32, u33, u34, u35, u36, u37, u38, u39, u40, u41, u42, u43, u44, u45, u46, u47, u48, u49, u50, u51, u52, u53, u54, u55, u56, u57, u58, u59, u60, u61, u62, u63, u64, u65, u66, u67, u68, u69, u70, u71, u72, u73, u74, u75, u76, u77, u78, u79, u80, u81, u82, u83, u84, u85, u86, u87, u88, u89, u90, u91, u92, u93, u94, u95, u96, u97, u98, u99, u100, u101, u102, u103, u104, u105, u106, u107, u108, u109, u110, u111, u112, u113, u114, u115, u116, u117, u118, u119, u120, u121, u122, u123, u124, u125, u126, u127, u128, u129, u130, u131, u132] : List Value).getD n undef, ⟨h1, h2, h3, h4, h5⟩, rfl⟩
/-- In the rounds. -/
def SplI (wr : World) (tv many : Int) (pre : List Nat) (q : Nat → Prop) (W : World) : Prop :=
  BoxF wr.heap.size 3 (.int .i64 (pre.length : Nat)) q W ∧ BelowF wr.heap.size wr q W ∧ Count7T tv many pre.length
theorem abides_spl (wr : World) (tv many : Int) : Abides (SplI wr tv many) := Abides.and (Abides.box _ _ (fun pre : List Nat => .int .i64 (pre.length : Nat))) (Abides.and (Abides.below _ _) (Abides.pure (fun pre : List Nat => Count7T tv many pre.length)))
def SplX (wr : World) (tv many : Int) (cd : Code) (pre : List Nat) (q : Nat → Prop) (W : World) : Prop :=
  Break7T cd tv many pre.length ∧ BoxF wr.heap.size 3 (.int .i64 (pre.length : Nat)) q W ∧ BelowF wr.heap.size wr q W
theorem abides_splx (wr : World) (tv many : Int) (cd : Code) : Abides (SplX wr tv many cd) := Abides.and (Abides.pure (fun pre : List Nat => Break7T cd tv many pre.length)) (Abides.and (Abides.box _ _ (fun pre : List Nat => .int .i64 (pre.length : Nat))) (Abides.below _ _))
set_option maxRecDepth 100000 in
set_option maxHeartbeats 4000000 in
theorem splits7_long (s : List UInt8) (many : Int) (hl : 300 < s.length) (w : World) (hm : MaxC w) :
    Calls Tryd.prog 5 #[encStr s, .int .i64 many] w fun e w' => e = .returned (.bool true) ∧ Below w.heap.size w w' := by
  have k1 : (300 : Int) < (s.length : Int) := by omega
  have b0 : Below w.heap.size w ((w.alloc (.cells #[.int .i64 many] 3)).alloc (.cells #[.bool false] 4)) := ((Below.refl _ _).alloc (Nat.le_refl _) _).alloc (by simp) _
  have hR := Boxed.new (w.alloc (.cells #[.int .i64 many] 3)) 4 (.bool false)
  simp only [World.size_alloc] at hR
  have hm2 := hm.below b0 hm.room
  have HM := Lib.hid hm2
  have HB := Lib.hid b0
  clear hl hm hm2 b0
  go_enter Tryd.func5, Tryd.ntmps5
  go_wp2_with fail
  refine (works7_any _ HM.out).mono ?_
  rintro e w1 ⟨rfl, hb1⟩
  have hR1 : Boxed w1 (w.heap.size + 1) 4 (.bool false) := (hb1.block _ (by simp)).trans hR
  have hc := hR1.cell
  have hf := hR1.frozen
  have hlt := hR1.lt
  have HR1 := Lib.hid hR1
  have HB1 := Lib.hid (HB.out.trans (hb1.mono HB.out.size))
  clear hR hb1 hR1
  go_wp2_with fail
  refine bodyPost_ret (v := .bool true) (by simp [results, Tryd.results5, go_sem, (HR1.out.set (.bool true)).cell]) rfl ⟨rfl, HB1.out.setCell (p := ⟨w.heap.size + 1, 0, none⟩) (show w.heap.size ≤ w.heap.size + 1 by omega) _⟩
theorem prefs_at (s : List UInt8) (n : Nat) (h : n < (prefsE s).length) : (prefsE s)[n]?.getD [] = pathOf ((splitE s).1.take n) := by
  have hu : (upTo (splitE s).1)[n]? = some n := by
    unfold prefsE at h
    rw [List.length_map] at h
    unfold upTo at h ⊢
    split at h
    · simp at h
    · rename_i hne
      rw [if_neg hne]
      simp at h
      simp [h]
  unfold prefsE
  rw [List.getElem?_map, hu]
  rfl
theorem upTo_len (l : List (List UInt8)) : (upTo l).length ≤ l.length + 1 := by
  unfold upTo
  split
  · exact Nat.zero_le _
  · simp
set_option maxRecDepth 100000 in
set_option maxHeartbeats 32000000 in
theorem splits7_some (s : List UInt8) (many : Int) (hm1 : -9223372036854775808 ≤ many) (hm2 : many ≤ 9223372036854775807) (hs : s.length ≤ 300) (w : World) (hm : MaxC w) :
    Calls Tryd.prog 5 #[encStr s, .int .i64 many] w fun e w' => e = .returned (.bool true) ∧ Below w.heap.size w w' := by
  have HMX := Lib.hid (fun W (hb : Below w.heap.size w W) => hm.below hb hm.room)
  have HSP := Lib.hid (fun w hm => paSplit_any s (by omega) w hm)
  have HPA := Lib.hid (fun w hm => paParent_any s (by omega) w hm)
  have HRS := Lib.hid (fun w => refSplit_any s (by omega) w)
  have HRP := Lib.hid (fun w => refParent_any s (by omega) w)
  have HRX := Lib.hid (fun w => refPrefixes_any s (by omega) w)
  have HSQ0 := Lib.hid (fun (H : Nat) (w : World) (hm : MaxC w) hH => pre_seq 19 (by decide) H s (by omega) w hm hH)
  have hJl : (prefsE s).length ≤ 17 := by
    unfold prefsE
    rw [List.length_map]
    have := upTo_len (splitE s).1
    have := splitE_len s
    omega
  have hJu : (upTo (splitE s).1).length = (prefsE s).length := by unfold prefsE; rw [List.length_map]
  have HAT := Lib.hid (prefs_at s)
  have hln := splitE_len s
  obtain ⟨⟨l, no⟩, hx⟩ : ∃ x, splitE s = x := ⟨_, rfl⟩
  rw [hx] at HSP HRS HSQ0 HAT hJu hln
  dsimp only at HSP HRS HSQ0 HAT hJu hln
  obtain ⟨⟨p, last, g⟩, hy⟩ : ∃ x, parentE s = x := ⟨_, rfl⟩
  rw [hy] at HPA HRP
  dsimp only at HPA HRP
  obtain ⟨X, hX⟩ : ∃ X, prefsE s = X := ⟨_, rfl⟩
  rw [hX] at HRX HAT hJl hJu
  have g1 : ¬ (300 : Int) < (s.length : Int) := by omega
  have hpp : (p == p) = true := by simp
  have hll : (last == last) = true := by simp
  have hnn : (no == no) = true := by simp
  have hgg : (g == g) = true := by simp
  have HLN := Lib.hid hln
  clear hs hm hx hy hX hln
  obtain ⟨W0, hW0⟩ : ∃ W0, (w.alloc (.cells #[.int .i64 many] 3)).alloc (.cells #[.bool false] 4) = W0 := ⟨_, rfl⟩
  have b0 : Below w.heap.size w W0 := by rw [← hW0]; exact (by repeat (first | exact Below.refl _ _ | assumption | refine Below.drew ?_ | refine below_drewN ?_ _ | refine Below.alloc ?_ (by (try simp) <;> omega) _ | refine Below.setCell ?_ (by (try simp) <;> omega) _ | refine Below.trans ?_ (Below.mono (by assumption) (by (try simp) <;> omega))))
  have z0 : W0.heap.size = w.heap.size + 2 := by rw [← hW0]; simp
  have jM : Boxed W0 w.heap.size 3 (.int .i64 many) := by rw [← hW0]; exact (Boxed.new w _ _).alloc _
  have jR : Boxed W0 (w.heap.size + 1) 4 (.bool false) := by
    rw [← hW0]
    have h := Boxed.new (w.alloc (.cells #[.int .i64 many] 3)) 4 (.bool false)
    rwa [World.size_alloc] at h
  have HW0 := Lib.hid hW0
  have HB_W0 := Lib.hid b0
  have HM_W0 := Lib.hid jM
  have HR_W0 := Lib.hid jR
  have HZ0 := Lib.hid z0
  clear hW0 b0 z0 jM jR
  refine (callsIn_wide (n := 20)).1 ?_
  refine callsIn_of_wp_marks Tryd.func5 rfl trivial ?_ rfl
  simp only [Tryd.ntmps5, List.size_toArray, List.length_nil, List.length_cons, Nat.reduceAdd, Nat.reduceSub, Array.replicate_succ, Array.replicate_zero, List.push_toArray, List.append_toArray, List.nil_append, List.cons_append]
  gi_wp2_with fail
  rw [HW0.out]
  refine ⟨trivial, ?_⟩
  refine (callsIn_wide.2 (HSP.out W0 (HMX.out W0 HB_W0.out))).mono ?_
  rintro e w1 ⟨v, rfl, hv, hb⟩
  have HB_w1 : Hid (Below w.heap.size w w1) := show Below _ _ _ from HB_W0.out.trans (hb.mono HB_W0.out.size)
  have HM_w1 : Hid (Boxed w1 w.heap.size 3 (.int .i64 many)) := show Boxed _ _ _ _ from (hb.block _ HM_W0.out.lt).trans HM_W0.out
  have HR_w1 : Hid (Boxed w1 (w.heap.size + 1) 4 (.bool false)) := show Boxed _ _ _ _ from (hb.block _ HR_W0.out.lt).trans HR_W0.out
  obtain ⟨la, lc, rfl⟩ := hv.txs.slice
  have HL_w1 : Hid (OwnT w1 W0.heap.size (.slice la l.length lc) l) := Lib.hid hv
  clear hv
  clear hb
  gi_wp2_with fail
  refine ⟨trivial, ?_⟩
  refine (callsIn_wide.2 (HPA.out w1 (HMX.out w1 HB_w1.out))).mono ?_
  rintro e w2 ⟨rfl, hb⟩
  have HB_w2 : Hid (Below w.heap.size w w2) := show Below _ _ _ from HB_w1.out.trans (hb.mono HB_w1.out.size)
  have HM_w2 : Hid (Boxed w2 w.heap.size 3 (.int .i64 many)) := show Boxed _ _ _ _ from (hb.block _ HM_w1.out.lt).trans HM_w1.out
  have HR_w2 : Hid (Boxed w2 (w.heap.size + 1) 4 (.bool false)) := show Boxed _ _ _ _ from (hb.block _ HR_w1.out.lt).trans HR_w1.out
  have HL_w2 : Hid (OwnT w2 W0.heap.size (.slice la l.length lc) l) := show World.ownsRow _ _ _ _ _ _ _ from HL_w1.out.below hb
  clear hb
  gi_wp2_with fail
  refine ⟨trivial, ?_⟩
  refine (callsIn_wide.2 (HRS.out w2)).mono ?_
  rintro e w3 ⟨v, rfl, hv, hb⟩
  have HB_w3 : Hid (Below w.heap.size w w3) := show Below _ _ _ from HB_w2.out.trans (hb.mono HB_w2.out.size)
  have HM_w3 : Hid (Boxed w3 w.heap.size 3 (.int .i64 many)) := show Boxed _ _ _ _ from (hb.block _ HM_w2.out.lt).trans HM_w2.out
  have HR_w3 : Hid (Boxed w3 (w.heap.size + 1) 4 (.bool false)) := show Boxed _ _ _ _ from (hb.block _ HR_w2.out.lt).trans HR_w2.out
  have HL_w3 : Hid (OwnT w3 W0.heap.size (.slice la l.length lc) l) := show World.ownsRow _ _ _ _ _ _ _ from HL_w2.out.below hb
  obtain ⟨na, nc, rfl⟩ := hv.txs.slice
  have HN_w3 : Hid (OwnT w3 w2.heap.size (.slice na l.length nc) l) := Lib.hid hv
  clear hv
  clear hb
  gi_wp2_with fail
  refine ⟨trivial, ?_⟩
  refine (callsIn_wide.2 (HRP.out w3)).mono ?_
  rintro e w4 ⟨rfl, hb⟩
  have HB_w4 : Hid (Below w.heap.size w w4) := show Below _ _ _ from HB_w3.out.trans (hb.mono HB_w3.out.size)
  have HM_w4 : Hid (Boxed w4 w.heap.size 3 (.int .i64 many)) := show Boxed _ _ _ _ from (hb.block _ HM_w3.out.lt).trans HM_w3.out
  have HR_w4 : Hid (Boxed w4 (w.heap.size + 1) 4 (.bool false)) := show Boxed _ _ _ _ from (hb.block _ HR_w3.out.lt).trans HR_w3.out
  have HL_w4 : Hid (OwnT w4 W0.heap.size (.slice la l.length lc) l) := show World.ownsRow _ _ _ _ _ _ _ from HL_w3.out.below hb
  have HN_w4 : Hid (OwnT w4 w2.heap.size (.slice na l.length nc) l) := show World.ownsRow _ _ _ _ _ _ _ from HN_w3.out.below hb
  clear hb
  gi_wp2_with fail
  refine ⟨trivial, ?_⟩
  refine (callsIn_wide.2 (refTexts_any _ _ l l (by have := HLN.out; omega) (by have := HLN.out; omega) w4 HL_w4.out.txs HN_w4.out.txs)).mono ?_
  rintro e w5 ⟨rfl, hb⟩
  have HB_w5 : Hid (Below w.heap.size w w5) := show Below _ _ _ from HB_w4.out.trans (hb.mono HB_w4.out.size)
  have HM_w5 : Hid (Boxed w5 w.heap.size 3 (.int .i64 many)) := show Boxed _ _ _ _ from (hb.block _ HM_w4.out.lt).trans HM_w4.out
  have HR_w5 : Hid (Boxed w5 (w.heap.size + 1) 4 (.bool false)) := show Boxed _ _ _ _ from (hb.block _ HR_w4.out.lt).trans HR_w4.out
  rw [show decide (l = l) = true from decide_eq_true rfl]
  clear HL_w1 HL_w2 HL_w3 HL_w4 HN_w3 HN_w4
  clear hb
  gi_wp2_with fail
  refine ⟨trivial, ?_⟩
  refine (callsIn_wide.2 (num7_any no _)).mono ?_
  rintro e wz ⟨rfl, hwz⟩
  rw [← hwz]
  clear hwz wz
  gi_wp2_with fail
  refine ⟨trivial, ?_⟩
  refine (callsIn_wide.2 (num7_any g _)).mono ?_
  rintro e wz ⟨rfl, hwz⟩
  rw [← hwz]
  clear hwz wz
  gi_wp2_with fail
  refine ⟨trivial, ?_⟩
  refine (callsIn_wide.2 (HRX.out w5)).mono ?_
  rintro e w6 ⟨u, rfl, hu, hb⟩
  have HB_w6 : Hid (Below w.heap.size w w6) := show Below _ _ _ from HB_w5.out.trans (hb.mono HB_w5.out.size)
  have HM_w6 : Hid (Boxed w6 w.heap.size 3 (.int .i64 many)) := show Boxed _ _ _ _ from (hb.block _ HM_w5.out.lt).trans HM_w5.out
  have HR_w6 : Hid (Boxed w6 (w.heap.size + 1) 4 (.bool false)) := show Boxed _ _ _ _ from (hb.block _ HR_w5.out.lt).trans HR_w5.out
  obtain ⟨ua, uc, rfl⟩ := hu.slice
  have HT_w6 : Hid (TxS w6 (.slice ua X.length uc) X) := Lib.hid hu
  clear hu
  clear hb
  obtain ⟨J, hJ⟩ : ∃ J, X.length = J := ⟨_, rfl⟩
  have HT6 : Hid (TxS w6 (.slice ua J uc) X) := show Vec _ _ X.length _ _ from by have h := HT_w6.out; rw [hJ] at h; exact h
  rw [hJ] at hJl hJu HAT ⊢
  have HJ := Lib.hid hJ
  clear HT_w6 hJ
  have hb : Below w6.heap.size w6 (w6.alloc (.cells #[.slice ua J uc] 65)) := (Below.refl _ _).alloc (Nat.le_refl _) _
  have xW := Boxed.new w6 65 (.slice ua J uc)
  obtain ⟨w7, hw7⟩ : ∃ w7, w6.alloc (.cells #[.slice ua J uc] 65) = w7 := ⟨_, rfl⟩
  rw [hw7] at hb xW
  have HX7 := Lib.hid hw7
  have HB_w7 : Hid (Below w.heap.size w w7) := show Below _ _ _ from HB_w6.out.trans (hb.mono HB_w6.out.size)
  have HM_w7 : Hid (Boxed w7 w.heap.size 3 (.int .i64 many)) := show Boxed _ _ _ _ from (hb.block _ HM_w6.out.lt).trans HM_w6.out
  have HR_w7 : Hid (Boxed w7 (w.heap.size + 1) 4 (.bool false)) := show Boxed _ _ _ _ from (hb.block _ HR_w6.out.lt).trans HR_w6.out
  have HT_w7 : Hid (TxS w7 (.slice ua J uc) X) := show Vec _ _ _ _ _ from HT6.out.below hb
  have HW_w7 := Lib.hid xW
  have hz7 : w6.heap.size < w7.heap.size := xW.lt
  clear hb xW hw7
  gi_wp2_with fail
  rw [HX7.out]
  refine ⟨trivial, ?_⟩
  refine (callsIn_wide.2 (paPrefixes_any s w7)).mono ?_
  rintro e w8 ⟨rfl, hw8⟩
  have hb : Below w7.heap.size w7 w8 := by rw [hw8]; exact (Below.refl _ _).alloc (Nat.le_refl _) _
  have HB_w8 : Hid (Below w.heap.size w w8) := show Below _ _ _ from HB_w7.out.trans (hb.mono HB_w7.out.size)
  have HM_w8 : Hid (Boxed w8 w.heap.size 3 (.int .i64 many)) := show Boxed _ _ _ _ from (hb.block _ HM_w7.out.lt).trans HM_w7.out
  have HR_w8 : Hid (Boxed w8 (w.heap.size + 1) 4 (.bool false)) := show Boxed _ _ _ _ from (hb.block _ HR_w7.out.lt).trans HR_w7.out
  have HW_w8 : Hid (Boxed w8 w6.heap.size 65 (.slice ua J uc)) := show Boxed _ _ _ _ from (hb.block _ HW_w7.out.lt).trans HW_w7.out
  have HT_w8 : Hid (TxS w8 (.slice ua J uc) X) := show Vec _ _ _ _ _ from HT_w7.out.below hb
  have HS_w8 : Hid (Boxed w8 w7.heap.size 9 (encStr s)) := show Boxed _ _ _ _ by rw [hw8]; exact Boxed.new w7 9 _
  clear hw8
  clear hb
  gi_wp2_with fail
  have hz8 : w.heap.size + 2 ≤ w8.heap.size := by have := HR_w8.out.lt; omega
  have HSQ := Lib.hid (HSQ0.out w7.heap.size w8 (HMX.out w8 HB_w8.out) HS_w8.out)
  have HTC : Hid (0 < J → ∃ b off, ua = some ⟨b, off, none⟩ ∧ b < w8.heap.size ∧ ∀ j, j < J → w8.cell? ⟨b, off + j, none⟩ = some (encStr (pathOf (l.take j)))) := show _ → _ from fun h0 => by
    obtain ⟨a1, cap1, b1, o1, e1, -, ha1, hc1⟩ := HT_w8.out.cell
    simp only [Value.slice.injEq] at e1
    obtain ⟨rfl, -, -⟩ := e1
    rw [HJ.out] at ha1 hc1
    obtain ⟨h1, h2⟩ := hc1 h0
    refine ⟨b1, o1, ha1 h0, h1, fun j hj => ?_⟩
    rw [h2 j hj, HAT.out j hj]
  have HJB := Lib.hid hJl
  have HJU := Lib.hid hJu
  rename_i K hK
  refine wpIn_loop (SplInv w w8 s w6.heap.size w7.heap.size) (fun a' W => 2 - turnOf17 a' W) ?_ ?_
  · exact splInv_mk 0 w8.heap.size [] (.inl rfl) ((Below.refl _ _).alloc (Nat.le_refl _) _) (Boxed.new w8 3 (.int .i64 0)) (Nat.le_refl _) trivial
  · clear hpp hll hnn hgg g1 hz7 hJl hJu
    rintro a' wr ⟨tv, p7, ds, U, ⟨htv, hB, hT, hp7, hD⟩, rfl⟩
    have zb := hB.size
    have hT7 := Lib.hid (turnOf17_eq (a := { tmps := #[encStr s, U 0, U 1, .pointer (some ⟨w.heap.size, 0, none⟩), .pointer (some ⟨w.heap.size + 1, 0, none⟩), U 2, U 3, U 4, U 5, U 6, U 7, U 8, U 9, U 10, U 11, .pointer (some ⟨w6.heap.size, 0, none⟩), sqP w7.heap.size, .pointer (some ⟨p7, 0, none⟩), U 12, U 13, U 14, U 15, U 16, U 17, U 18, U 19, U 20, U 21, U 22, U 23, U 24, U 25, U 26, U 27, U 28, U 29, U 30, U 31, U 32, U 33, U 34, U 35, U 36, U 37, U 38, U 39, U 40, U 41, U 42, U 43, U 44, U 45, U 46, U 47, U 48, U 49, U 50, U 51, U 52, U 53, U 54, U 55, U 56, U 57, U 58, U 59, U 60, U 61, U 62, U 63, U 64, U 65, U 66, U 67, U 68, U 69, U 70, U 71, U 72, U 73, U 74, U 75, U 76, U 77, U 78, U 79, U 80, U 81, U 82, U 83, U 84, U 85, U 86, U 87, U 88, U 89, U 90, U 91, U 92, U 93, U 94, U 95, U 96, U 97, U 98, U 99, U 100, U 101, U 102, U 103, U 104, U 105, U 106, U 107, U 108, U 109, U 110, U 111, U 112, U 113, U 114, U 115, U 116, U 117, U 118, U 119, U 120, U 121, U 122, U 123, U 124, U 125, U 126], defers := ds }) rfl hT)
    have cT := hT.cell
    have hlT := hT.lt
    by_cases h2 : tv = 2
    · subst h2
      have hR : Boxed wr (w.heap.size + 1) 4 (.bool false) := (hB.block _ (by omega)).trans HR_w8.out
      have hbw : Below w.heap.size w wr := HB_w8.out.trans (hB.mono (by omega))
      gi_wp2_with fail
      refine ⟨trivial, ?_⟩
      refine (callsIn_wide.2 (works7_any _ (HMX.out _ hbw))).mono ?_
      rintro e w5 ⟨rfl, hb5⟩
      have hR5 : Boxed w5 (w.heap.size + 1) 4 (.bool false) := (hb5.block _ hR.lt).trans hR
      have hcR5 := hR5.cell
      have hfR5 := hR5.frozen
      have hlR5 := hR5.lt
      have b5 : Below w.heap.size w w5 := hbw.trans (hb5.mono (by omega))
      clear cT
      gi_wp2_with fail
      have hR6 := hR5.set (.bool true)
      refine leaves_marks ds wr.heap.size _ ((hD.below hb5).set hR5 _) fun W' hs => ⟨.bool true, ?_, rfl, (b5.setCell (p := ⟨w.heap.size + 1, 0, none⟩) (show w.heap.size ≤ w.heap.size + 1 by omega) _).trans (hs.1.mono (by omega))⟩
      have hc6 : Boxed W' (w.heap.size + 1) 4 (.bool true) := hs.2 _ _ _ _ hR6
      simp [results, Tryd.results5, go_sem, hc6.cell]
    · have hlt2 : tv < 2 := by unfold Turn7T at htv; omega
      gi_wp2_with fail
      have jN := Boxed.new wr 3 (.int .i64 0)
      have b0 : Below wr.heap.size wr (wr.alloc (.cells #[.int .i64 0] 3)) := (Below.refl _ _).alloc (Nat.le_refl _) _
      have hsz0 : (wr.alloc (.cells #[.int .i64 0] 3)).heap.size = wr.heap.size + 1 := by simp
      have HSZ := Lib.hid hsz0; clear hsz0
      generalize (wr.alloc (.cells #[.int .i64 0] 3)) = W0 at *
      have HI0 : Hid (SplI wr tv many [] (fun _ => False) W0) := show SplI _ _ _ _ _ _ from ⟨⟨jN, id⟩, ⟨b0, b0.size, fun _ h => h.elim⟩, fun _ => .inl rfl⟩
      have hW04 : Below w8.heap.size w8 W0 := hB.trans (b0.mono zb)
      clear cT jN
      generalize hA : ({ tmps := _, defers := _ } : Act) = A0
      refine wpIn_range_F (n := 20) (by decide) (gf := 76) (lb := #[.pointer (some ⟨w7.heap.size, 0, none⟩)]) (by rw [← hA]; rfl) (enters_of Tryd.func76 (by kernel_rfl) rfl) HSQ.out (fun k hk => hk.elim) hW04 (fun _ => rfl)
        (SplI wr tv many) (SplX wr tv many) (abides_spl _ _ _) (abides_splx _ _ _) HI0.out
        (fun k a' _ => a' = { tmps := (((A0.tmps.setIfInBounds 82 (.int .i64 (k : Nat))).setIfInBounds 83 (encStr (pathOf (l.take k)))).setIfInBounds 19 (.int .i64 (k : Nat))).setIfInBounds 20 (encStr (pathOf (l.take k))), defers := [] })
        (fun x a' W1 o h => h)
        ?assign ?body ?done ?stop
      case assign =>
        rintro l2 x W2 K hsz hK
        subst hA
        unfold encX
        dsimp only
        gi_wp2_with fail
        refine hK _ _ ?_ (Below.refl _ _)
        rfl
      case body =>
        rintro l2 pre k a' q2 W ⟨⟨iN, iNq⟩, ⟨iB, iBs, iBq⟩, iC⟩ hs2 hqb hsp rfl
        subst hA
        have hpl : pre.length < J := by
          have := hsp.length_le
          rw [List.length_append, List.length_singleton, HJU.out] at this
          omega
        obtain ⟨hk, -⟩ := upTo_prefix hsp
        subst hk
        have iB8 : Below w8.heap.size w8 W := hB.trans (iB.mono zb)
        have jM : Boxed W w.heap.size 3 (.int .i64 many) := (iB8.block _ (by have := HM_w8.out.lt; omega)).trans HM_w8.out
        have jW : Boxed W w6.heap.size 65 (.slice ua J uc) := (iB8.block _ (by have := HW_w8.out.lt; omega)).trans HW_w8.out
        obtain ⟨b1, o1, rfl, hb1, hat⟩ := HTC.out (by omega)
        have c0 : W.cell? ⟨b1, o1 + pre.length, none⟩ = some (encStr (pathOf (l.take pre.length))) := (iB8.cell (p := ⟨b1, o1 + pre.length, none⟩) hb1).trans (hat _ hpl)
        have jT : Boxed W p7 3 (.int .i64 tv) := (iB.block _ hlT).trans hT
        have HPRE := Lib.hid (show (pre ++ [pre.length]).length = pre.length + 1 by simp)
        have HKP : Hid (Keeps (fun k => False ∨ q2 k) W (W.setCell ⟨wr.heap.size, 0, none⟩ (.int .i64 ((pre.length : Int) + 1)))) := show Keeps _ _ _ from Keeps.set _ _ (fun h => h.elim id iNq)
        have HBX : Hid (BoxF wr.heap.size 3 (.int .i64 ((pre.length : Int) + 1)) q2 (W.setCell ⟨wr.heap.size, 0, none⟩ (.int .i64 ((pre.length : Int) + 1)))) := show BoxF _ _ _ _ _ from ⟨(show Boxed W wr.heap.size 3 (.int .i64 (pre.length : Nat)) from iN).set _, iNq⟩
        have HBF : Hid (BelowF wr.heap.size wr q2 (W.setCell ⟨wr.heap.size, 0, none⟩ (.int .i64 ((pre.length : Int) + 1)))) := show BelowF _ _ _ _ from ⟨iB.setCell (p := ⟨wr.heap.size, 0, none⟩) (Nat.le_refl _) _, by simp [World.setCell]; exact iBs, iBq⟩
        have HCT := Lib.hid iC
        obtain ⟨x1, hx1⟩ : ∃ x1, pathOf (l.take pre.length) = x1 := ⟨_, rfl⟩
        rw [hx1] at c0 ⊢
        have hxx : (x1 == x1) = true := by simp
        obtain ⟨n, hn⟩ : ∃ n, pre.length = n := ⟨_, rfl⟩
        rw [hn] at c0 iN HKP HBX HBF HCT hpl ⊢
        have HPRE2 : Hid ((pre ++ [n]).length = n + 1) := show _ = _ by simp [hn]
        have cN := Boxed.cell iN
        have fN := Boxed.frozen iN
        have cT := jT.cell
        have cW := jW.cell
        have cMa := jM.cell
        have lN := Boxed.lt iN
        have lTn : p7 ≠ wr.heap.size := by omega
        have lMn : w.heap.size ≠ wr.heap.size := by omega
        have hnJ : (n : Int) < (J : Int) := by omega
        have hn60 : J ≤ 17 := HJB.out
        have HPC : Hid (((n + 1 : Nat) : Int) = (n : Int) + 1) := show _ = _ by omega
        have hnn : ((n : Int) == (n : Int)) = true := by simp
        clear hat hsp hqb hs2 iC HPRE hn hx1
        by_cases htz : tv = 0
        · subst htz
          by_cases hmany : many ≤ (n : Int) + 1
          · gi_wp2_with fail
            have hc := HCT.out rfl
            exact ⟨HKP.out, ⟨rfl, rfl, by rw [HPRE2.out]; omega, by rw [HPRE2.out]; omega, by rw [HPRE2.out]; omega⟩, by rw [HPRE2.out]; exact HBX.out, HBF.out⟩
          · have hmany' : (n : Int) + 1 < many := by omega
            gi_wp2_with fail
            exact ⟨HKP.out, by rw [HPRE2.out]; exact HBX.out, HBF.out, fun _ => .inr (by rw [HPRE2.out]; omega)⟩
        · obtain rfl : tv = 1 := by unfold Turn7T at htv; omega
          gi_wp2_with fail
          exact ⟨HKP.out, by rw [HPRE2.out]; exact HBX.out, HBF.out, fun h => absurd h (by decide)⟩
      case done =>
        rintro D ys W hDb rfl ⟨⟨iN, -⟩, ⟨iB, iBs, -⟩, iC⟩ hK'
        subst hA
        rw [HJU.out] at iN iC
        have hD5 : wr.heap.size + 1 ≤ D := by have := HSZ.out; omega
        have hn60 : J ≤ 17 := HJB.out
        by_cases htz : tv = 0
        · subst htz
          have hC := iC rfl
          clear iC
          have hDW := (Array.getElem?_eq_some_iff.1 hK').1
          have m0 : Marks w8.heap.size (D + 1) ({ target := .collected D, args := #[] } :: ds) W := ⟨D, rfl, by omega, by omega, hK', (hD.below iB).more (by omega)⟩
          have iB8 : Below w8.heap.size w8 W := hB.trans (iB.mono zb)
          have jM : Boxed W w.heap.size 3 (.int .i64 many) := (iB8.block _ (by have := HM_w8.out.lt; omega)).trans HM_w8.out
          have jW : Boxed W w6.heap.size 65 (.slice ua J uc) := (iB8.block _ (by have := HW_w8.out.lt; omega)).trans HW_w8.out
          have jT : Boxed W p7 3 (.int .i64 0) := (iB.block _ hlT).trans hT
          have cN := Boxed.cell iN
          have cT := jT.cell
          have cW := jW.cell
          have cMa := jM.cell
          have lN := Boxed.lt iN
          have hnew := Boxed.new W 3 (.int .i64 1)
          have zW := iB8.size
          have jB := iB8.alloc zW (.cells #[.int .i64 1] 3)
          have jD := m0.below (W' := W.alloc (.cells #[.int .i64 1] 3)) ((Below.refl _ _).alloc (by omega) _)
          have zF : D + 1 ≤ (W.alloc (.cells #[.int .i64 1] 3)).heap.size := by simp; omega
          have hmm : min (J : Int) (max 1 many) = (J : Int) := by omega
          have hJJ : ((J : Int) != (J : Int)) = false := by simp
          clear hC
          gi_wp2
          all_goals
            refine ⟨splInv_mk 1 W.heap.size (_ :: ds) (.inr (.inl rfl)) jB hnew (by omega) (jD.more zF), ?_⟩
            rw [turnOf17_eq rfl hnew, hT7.out]
            decide
        · obtain rfl : tv = 1 := by unfold Turn7T at htv; omega
          clear iC
          have hDW := (Array.getElem?_eq_some_iff.1 hK').1
          have m0 : Marks w8.heap.size (D + 1) ({ target := .collected D, args := #[] } :: ds) W := ⟨D, rfl, by omega, by omega, hK', (hD.below iB).more (by omega)⟩
          have iB8 : Below w8.heap.size w8 W := hB.trans (iB.mono zb)
          have jM : Boxed W w.heap.size 3 (.int .i64 many) := (iB8.block _ (by have := HM_w8.out.lt; omega)).trans HM_w8.out
          have jW : Boxed W w6.heap.size 65 (.slice ua J uc) := (iB8.block _ (by have := HW_w8.out.lt; omega)).trans HW_w8.out
          have jT : Boxed W p7 3 (.int .i64 1) := (iB.block _ hlT).trans hT
          have cN := Boxed.cell iN
          have cT := jT.cell
          have cW := jW.cell
          have cMa := jM.cell
          have lN := Boxed.lt iN
          have hnew := Boxed.new W 3 (.int .i64 2)
          have zW := iB8.size
          have jB := iB8.alloc zW (.cells #[.int .i64 2] 3)
          have jD := m0.below (W' := W.alloc (.cells #[.int .i64 2] 3)) ((Below.refl _ _).alloc (by omega) _)
          have zF : D + 1 ≤ (W.alloc (.cells #[.int .i64 2] 3)).heap.size := by simp; omega
          have hJJ : ((J : Int) != (J : Int)) = false := by simp
          gi_wp2
          all_goals
            refine ⟨splInv_mk 2 W.heap.size (_ :: ds) (.inr (.inr rfl)) jB hnew (by omega) (jD.more zF), ?_⟩
            rw [turnOf17_eq rfl hnew, hT7.out]
            decide
      case stop =>
        rintro D cd pre W hDb hpre ⟨⟨rfl, rfl, hp1, hp2, hp3⟩, ⟨iN, -⟩, ⟨iB, iBs, -⟩⟩ hK'
        subst hA
        have hpl : pre.length ≤ J := by have := hpre.length_le; rwa [HJU.out] at this
        have hD5 : wr.heap.size + 1 ≤ D := by have := HSZ.out; omega
        have hn60 : J ≤ 17 := HJB.out
        clear hpre
        have hDW := (Array.getElem?_eq_some_iff.1 hK').1
        have m0 : Marks w8.heap.size (D + 1) ({ target := .collected D, args := #[] } :: ds) W := ⟨D, rfl, by omega, by omega, hK', (hD.below iB).more (by omega)⟩
        have iB8 : Below w8.heap.size w8 W := hB.trans (iB.mono zb)
        have jM : Boxed W w.heap.size 3 (.int .i64 many) := (iB8.block _ (by have := HM_w8.out.lt; omega)).trans HM_w8.out
        have jW : Boxed W w6.heap.size 65 (.slice ua J uc) := (iB8.block _ (by have := HW_w8.out.lt; omega)).trans HW_w8.out
        have jT : Boxed W p7 3 (.int .i64 0) := (iB.block _ hlT).trans hT
        have cN := Boxed.cell iN
        have cT := jT.cell
        have cW := jW.cell
        have cMa := jM.cell
        have lN := Boxed.lt iN
        have hnew := Boxed.new W 3 (.int .i64 1)
        have zW := iB8.size
        have jB := iB8.alloc zW (.cells #[.int .i64 1] 3)
        have jD := m0.below (W' := W.alloc (.cells #[.int .i64 1] 3)) ((Below.refl _ _).alloc (by omega) _)
        have zF : D + 1 ≤ (W.alloc (.cells #[.int .i64 1] 3)).heap.size := by simp; omega
        generalize pre.length = n at *
        have hmm : min (J : Int) (max 1 many) = (n : Int) := by omega
        have hJJ : ((n : Int) != (n : Int)) = false := by simp
        gi_wp2
        all_goals
          refine ⟨splInv_mk 1 W.heap.size (_ :: ds) (.inr (.inl rfl)) jB hnew (by omega) (jD.more zF), ?_⟩
          rw [turnOf17_eq rfl hnew, hT7.out]
          decide
theorem splits7_any (s : List UInt8) (many : Int) (hm1 : -9223372036854775808 ≤ many) (hm2 : many ≤ 9223372036854775807) (w : World) (hm : MaxC w) :
    Calls Tryd.prog 5 #[encStr s, .int .i64 many] w fun e w' => e = .returned (.bool true) ∧ Below w.heap.size w w' := by
  by_cases h : 300 < s.length
  · exact splits7_long s many h w hm
  · exact splits7_some s many hm1 hm2 (by omega) w hm
end Go.Proofs.YtohdgjmmekgcmaaDoor
