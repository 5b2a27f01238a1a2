/-
  The walk of the law PmemHolds (written by gen_hold.py).
-/
import Derived.Test.YtohdgjmmekgcmaaDoorMg17
namespace Go.Proofs.YtohdgjmmekgcmaaDoor
open Go.RowKit Go.Shelf Go.Maps
attribute [local go_sem] Oper.semAt_some

/-- An append inside a fence, whose run is known. -/
theorem wpIn_append_run {F : Fence} {nF : Nat} {P : Program} {w w1 : World} {o : Oper} {a : Act} {K : Act → World → Prop} {Q : Exit → Act → World → Prop} (sx x : Operand) (t : TypeId)
    (ho : o.op = .call { callee := .builtin .append, args := #[sx, x], argTypes := #[t, t] }) {v u r : Value} (hv : a.eval sx = v) (hu : a.eval x = u) (hr : (Builtin.append_ #[t, t] o.type #[v, u]).run P w = .ok r w1)
    (h : K (a.put o.dst r) w1) : Oper.wpIn F nF P o a w K Q := by
  unfold Oper.wpIn
  refine ⟨by simp [Oper.about, ho, resolve, Target.leads, Sem.run_pure], ?_⟩
  rw [Oper.semAt_plain F _ _ (by rw [ho]; intro c hc'; cases hc')]
  simp [execOp, ho, resolve, invoke, builtin, hv, hu, hr, Result.andThen]
  exact h
set_option maxRecDepth 100000 in
theorem hold4_few {v u : Value} {xs : List Ask} {marks : List Bool} (w : World) (hen : Ends w) (hl : xs.length ≤ 9223372036854775807) (hs : SlA w (fun k => w.heap.size ≤ k) v xs) (hm : SlB w (fun k => w.heap.size ≤ k) u marks) (hf : fewA xs 40 = false ∨ 60 < marks.length) :
    Calls Tryd.prog 4 #[v, u] w fun e w' => e = .returned (.bool true) ∧ Below w.heap.size w w' := by
  have HFW := Lib.hid (few_any 40 w hl hs)
  obtain ⟨a, cap, rfl, -⟩ := id hs
  obtain ⟨ma, mc, rfl, -⟩ := id hm
  have HW4 := Lib.hid (fun W (hb : Below w.heap.size w W) => works4_any W (hen.below hb hen.room))
  obtain ⟨N, hN⟩ : ∃ N, xs.length = N := ⟨_, rfl⟩
  obtain ⟨M, hM⟩ : ∃ M, marks.length = M := ⟨_, rfl⟩
  rw [hN] at HFW ⊢
  rw [hM] at hf ⊢
  clear hen hs hm hl hN hM
  cases hq : fewA xs 40 with
  | false =>
    rw [hq] at HFW
    clear hf
    go_enter Tryd.func4, Tryd.ntmps4
    go_wp2_with fail
    refine HFW.out.mono ?_
    rintro e w' ⟨rfl, rfl⟩
    go_wp2_with fail
    refine (HW4.out _ (Below.refl _ _)).mono ?_
    rintro e w' ⟨rfl, hb⟩
    go_wp2_with fail
    go_ret
    exact ⟨rfl, hb⟩
  | true =>
    rw [hq] at HFW hf
    have h60 : 60 < (M : Int) := by
      rcases hf with hf | hf
      · cases hf
      · omega
    clear hf
    go_enter Tryd.func4, Tryd.ntmps4
    go_wp2_with fail
    refine HFW.out.mono ?_
    rintro e w' ⟨rfl, rfl⟩
    go_wp2_with fail
    refine (HW4.out _ (Below.refl _ _)).mono ?_
    rintro e w' ⟨rfl, hb⟩
    go_wp2_with fail
    go_ret
    exact ⟨rfl, hb⟩
theorem few_most {xs : List Ask} {most : Int} (h : fewA xs most = true) : (xs.length : Int) ≤ most := by
  unfold fewA at h
  simp only [Bool.and_eq_true, decide_eq_true_eq] at h
  first | exact h.1 | exact h.2
/-- What may be, when so many lists were laid. -/
theorem MayV.start {W : World} {F : Nat → Prop} {lo Y : Nat} (hb : W.heap[Y]? = some (.cells #[.slice none 0 0, .slice none 0 0, .slice none 0 0, .slice none 0 0, .slice none 0 0] 52)) (hlo : lo ≤ Y) (hF : ¬ F Y) : MayV W F lo Y 0 (fun _ => [List.replicate 8 0]) [.slice none 0 0, .slice none 0 0, .slice none 0 0, .slice none 0 0, .slice none 0 0] (fun _ => 0) :=
  ⟨rfl, hb, hlo, hF, fun k _ hk => by
    have : k = 0 ∨ k = 1 ∨ k = 2 ∨ k = 3 ∨ k = 4 := by omega
    rcases this with rfl | rfl | rfl | rfl | rfl <;> rfl, fun k hk => by omega, fun k hk => by omega⟩
theorem HoldI.next {w wr W' : World} {B Y c g' : Nat} {d : Dv} {m : May} {v' : Value} {ds : List Deferred} (h : HoldI w wr B Y c d m ds) (hc : c < 5) (hrow : RowAt W' g' 8 v' (m c).length (flatC cells8 (m c))) (hg : wr.heap.size ≤ g') (hW : Below wr.heap.size wr W') :
    HoldI w (W'.setCell ⟨Y, c, none⟩ v') B Y (c + 1) d m ds := by
  obtain ⟨F, S, T, cS, cT, q, vs, gs, hd, hF, hm, hb, hs, ho⟩ := h
  have hput := hm.push hc hd.live hrow hg hW
  have e : updM m c (m c) = m := by
    funext j
    unfold updM
    by_cases ej : j = c
    · rw [if_pos ej, ej]
    · rw [if_neg ej]
  rw [e] at hput
  refine ⟨F, S, T, cS, cT, q, _, _, (hd.below hW).keeps (fun b hb' hl => ?_) (by simp), hF, hput, (hb.trans (hW.mono hb.size)).setCell (p := ⟨Y, c, none⟩) hm.low _, marks_frame (G := fun b => b = Y) (fun b hl hn => (Below.heap_setCell _ _ _ _ (by simpa using hn)).trans (hW.block b hl)) (by simpa using hW.size) hs (fun x hx D e => (ho x hx D e).2.1), fun x hx D e => ?_⟩
  · exact Below.heap_setCell _ _ _ _ (fun e => hm.out (by simp at e; exact e ▸ hb'))
  · obtain ⟨o1, o2, o3⟩ := ho x hx D e
    have := marks_lt hs x hx D e
    refine ⟨o1, o2, fun j hj => ?_⟩
    by_cases ej : j = c
    · simp only [if_pos ej]
      omega
    · simp only [if_neg ej]
      exact o3 j (by omega)
theorem HoldI.box {w wr : World} {B Y c : Nat} {d : Dv} {m : May} {ds : List Deferred} (h : HoldI w wr B Y c d m ds) : Y < wr.heap.size ∧ w.heap.size ≤ Y ∧ (c < 5 → wr.cell? ⟨Y, c, none⟩ = some (.slice none 0 0)) ∧ ∀ k, wr.frozen? ⟨Y, k, none⟩ = false := by
  obtain ⟨F, S, T, cS, cT, q, vs, gs, hd, hF, hm, hb, hs, ho⟩ := h
  exact ⟨hm.lt, hm.low, fun hc => hm.cell (hm.rest c (Nat.le_refl _) hc), hm.frozen⟩

theorem info8 : (Tryd.prog.info? 48).map (fun i => (i.zero, i.size, i.bytes)) = some (some (.agg (arr8 [])), 8, 64) := by kernel_rfl
/-- What each round begins with. -/
def HoldInv (w : World) (a : Option Addr) (cap N : Nat) (ma : Option Addr) (mc M B Y : Nat) (a' : Act) (W : World) : Prop :=
  ∃ (k : Nat) (d : Dv) (m : May) (ds : List Deferred) (U : Nat → Value), (k ≤ N ∧ HoldI w W B Y 5 d m ds ∧ MayInv 5 d m ∧ ∀ j, (m j).length ≤ k + 1) ∧
    a' = { tmps := #[.slice a N cap, .slice ma M mc, undef, undef, .bool false, .pointer (some ⟨B, 0, none⟩), .int .i64 0, .pointer (some ⟨Y, 0, none⟩), U 0, .int .i64 (k : Nat), U 1, U 2, U 3, U 4, undef, undef, undef, undef, undef, undef, U 5, U 6, U 7, U 8, U 9, U 10, U 11, U 12, U 13, U 14, U 15, U 16, U 17, U 18, U 19, U 20, U 21, U 22, U 23, U 24, U 25, U 26, U 27, U 28, U 29, U 30, U 31, U 32, U 33, U 34, U 35, U 36, U 37, U 38, U 39, U 40, U 41, U 42, U 43, U 44, U 45, U 46, U 47, U 48, U 49, U 50, U 51, U 52, U 53, U 54, U 55, U 56, U 57, U 58, U 59, U 60, U 61, U 62, U 63, U 64, U 65, U 66, U 67, U 68, U 69, U 70, U 71, U 72, U 73, U 74, U 75, U 76, U 77, U 78, U 79, U 80, U 81, U 82, U 83, U 84, U 85, U 86, U 87, U 88, U 89, U 90, U 91, U 92, U 93, U 94, U 95, U 96, U 97, U 98, U 99, U 100, U 101, U 102, U 103, U 104, U 105, U 106, U 107, U 108, U 109, U 110, U 111, U 112, U 113, U 114, U 115, U 116, U 117, U 118, U 119, U 120, U 121, U 122, U 123, U 124, U 125, U 126, U 127, U 128, U 129, U 130, U 131, U 132, U 133, U 134, U 135, U 136, U 137, U 138, U 139, U 140, U 141, U 142, U 143, U 144, U 145, U 146, U 147, undef, undef, undef, undef, undef, undef, undef, undef, undef, undef, undef, undef, undef, undef, undef, undef, undef, undef, undef, undef, undef, undef, undef, undef, undef, undef, undef, undef, undef, undef, undef, undef, undef, undef, undef, undef, undef, undef, undef, undef, undef, undef, undef, undef, undef, undef, undef, undef, undef, undef, undef, undef, undef, undef, undef], defers := ds }
set_option maxRecDepth 100000 in
theorem holdInv_mk {w : World} {a : Option Addr} {cap N : Nat} {ma : Option Addr} {mc M B Y : Nat} {W : World} (k : Nat) (d : Dv) (m : May) {ds : List Deferred} {u8 u10 u11 u12 u13 u20 u21 u22 u23 u24 u25 u26 u27 u28 u29 u30 u31 u32 u33 u34 u35 u36 u37 u38 u39 u40 u41 u42 u43 u44 u45 u46 u47 u48 u49 u50 u51 u52 u53 u54 u55 u56 u57 u58 u59 u60 u61 u62 u63 u64 u65 u66 u67 u68 u69 u70 u71 u72 u73 u74 u75 u76 u77 u78 u79 u80 u81 u82 u83 u84 u85 u86 u87 u88 u89 u90 u91 u92 u93 u94 u95 u96 u97 u98 u99 u100 u101 u102 u103 u104 u105 u106 u107 u108 u109 u110 u111 u112 u113 u114 u115 u116 u117 u118 u119 u120 u121 u122 u123 u124 u125 u126 u127 u128 u129 u130 u131 u132 u133 u134 u135 u136 u137 u138 u139 u140 u141 u142 u143 u144 u145 u146 u147 u148 u149 u150 u151 u152 u153 u154 u155 u156 u157 u158 u159 u160 u161 u162 : Value} {kv : Value} (hk : k ≤ N) (h : HoldI w W B Y 5 d m ds) (hm : MayInv 5 d m) (hl : ∀ j, (m j).length ≤ k + 1) (hkv : kv = .int .i64 (k : Nat)) :
    HoldInv w a cap N ma mc M B Y { tmps := #[.slice a N cap, .slice ma M mc, undef, undef, .bool false, .pointer (some ⟨B, 0, none⟩), .int .i64 0, .pointer (some ⟨Y, 0, none⟩), u8, kv, u10, u11, u12, u13, undef, undef, undef, undef, undef, undef, u20, u21, u22, u23, u24, u25, u26, u27, u28, u29, u30, u31, u32, u33, u34, u35, u36, u37, u38, u39, u40, u41, u42, u43, u44, u45, u46, u47, u48, u49, u50, u51, u52, u53, u54, u55, u56, u57, u58, u59, u60, u61, u62, u63, u64, u65, u66, u67, u68, u69, u70, u71, u72, u73, u74, u75, u76, u77, u78, u79, u80, u81, u82, u83, u84, u85, u86, u87, u88, u89, u90, u91, u92, u93, u94, u95, u96, u97, u98, u99, u100, u101, u102, u103, u104, u105, u106, u107, u108, u109, u110, u111, u112, u113, u114, u115, u116, u117, u118, u119, u120, u121, u122, u123, u124, u125, u126, u127, u128, u129, u130, u131, u132, u133, u134, u135, u136, u137, u138, u139, u140, u141, u142, u143, u144, u145, u146, u147, u148, u149, u150, u151, u152, u153, u154, u155, u156, u157, u158, u159, u160, u161, u162, undef, undef, undef, undef, undef, undef, undef, undef, undef, undef, undef, undef, undef, undef, undef, undef, undef, undef, undef, undef, undef, undef, undef, undef, undef, undef, undef, undef, undef, undef, undef, undef, undef, undef, undef, undef, undef, undef, undef, undef, undef, undef, undef, undef, undef, undef, undef, undef, undef, undef, undef, undef, undef, undef, undef], defers := ds } W := by
  subst hkv
  exact ⟨k, d, m, ds, fun n => ([u8, u10, u11, u12, u13, u20, u21, u22, u23, u24, u25, u26, u27, u28, u29, u30, u31, u32, u33, u34, u35, u36, u37, u38, u39, u40, u41, u42, u43, u44, u45, u46, u47, u48, u49, u50, u51, u52, u53, u54, u55, u56, u57, u58, u59, u60, u61, u62, u63, u64, u65, u66, u67, u68, u69, u70, u71, u72, u73, u74, u75, u76, u77, u78, u79, u80, u81, u82, u83, u84, u85, u86, u87, u88, u89, u90, u91, u92, u93, u94, u95, u96, u97, u98, u99, u100, u101, u102, u103, u104, u105, u106, u107, u108, u109, u110, u111, u112, u113, u114, u115, u116, u117, u118, u119, u120, u121, u122, u123, u124, u125, u126, u127, u128, u129, u130, u131, u132, u133, u134, u135, u136, u137, u138, u139, u140, u141, u142, u143, u144, u145, u146, u147, u148, u149, u150, u151, u152, u153, u154, u155, u156, u157, u158, u159, u160, u161, u162] : List Value).getD n undef, ⟨hk, h, hm, hl⟩, rfl⟩

set_option maxRecDepth 100000 in
set_option maxHeartbeats 4000000 in
theorem hold4_some {v u : Value} {xs : List Ask} {marks : List Bool} (w : World) (hen : Ends w) (hl : xs.length ≤ 9223372036854775807) (hx : ∀ y ∈ xs, -9223372036854775808 ≤ y.at_ ∧ y.at_ ≤ 9223372036854775807) (hs : SlA w (fun k => w.heap.size ≤ k) v xs) (hm : SlB w (fun k => w.heap.size ≤ k) u marks) (hf : fewA xs 40 = true) (h60 : marks.length ≤ 60) :
    Calls Tryd.prog 4 #[v, u] w fun e w' => e = .returned (.bool true) ∧ Below w.heap.size w w' := by
  have HFW := Lib.hid (few_any 40 w hl hs)
  have HX := Lib.hid hx
  have HE := Lib.hid hen
  obtain ⟨a, cap, rfl, -⟩ := id hs
  obtain ⟨ma, mc, rfl, -⟩ := id hm
  obtain ⟨N, hN⟩ : ∃ N, xs.length = N := ⟨_, rfl⟩
  obtain ⟨M, hM⟩ : ∃ M, marks.length = M := ⟨_, rfl⟩
  rw [hN] at HFW hs hl ⊢
  rw [hM] at hm h60 ⊢
  have HM := Lib.hid hM
  have HMM := Lib.hid hm
  have HAK := Lib.hid (ask_at hN hs)
  have HW4 := Lib.hid (fun W (hb : Below w.heap.size w W) => works4_any W (hen.below hb hen.room))
  have HNW := Lib.hid (new_any 5 (by decide) (by decide) w hen.room)
  have HMK : Hid (∀ y ∈ xs, y.marks.length ≤ 60) := show ∀ _, _ from fun y hy => few_marks hf hy
  have hN40 := few_most hf
  rw [hN] at hN40
  rw [hf] at HFW
  have g60 : ¬ 60 < (M : Int) := by omega
  clear hen hx hs hm hM hN hf h60
  refine (callsIn_wide (n := 10)).1 ?_
  refine callsIn_of_wp_marks Tryd.func4 rfl trivial ?_ rfl
  simp only [Tryd.ntmps4, List.size_toArray, List.length_nil, List.length_cons, Nat.reduceAdd, Nat.reduceSub, Array.replicate_succ, Array.replicate_zero, List.push_toArray, List.append_toArray, List.nil_append, List.cons_append]
  gi_wp2_with fail
  refine ⟨trivial, ?_⟩
  refine (callsIn_wide.2 HFW.out).mono ?_
  rintro e w' ⟨rfl, rfl⟩
  gi_wp2_with fail
  refine ⟨trivial, ?_⟩
  refine (callsIn_wide.2 HNW.out).mono ?_
  rintro e w1 ⟨B, rfl, hb1, S, T, cS, cT, q, hd1⟩
  have HI0 : Hid (HoldI w' (w1.alloc (.cells #[.slice none 0 0, .slice none 0 0, .slice none 0 0, .slice none 0 0, .slice none 0 0] 52)) B w1.heap.size 0 (Dv.new 5) (fun _ => [List.replicate 8 0]) []) := show HoldI _ _ _ _ _ _ _ _ from
    ⟨_, S, T, cS, cT, q, _, _, hd1.below (by repeat (first | exact Below.refl _ _ | assumption | refine Below.drew ?_ | refine below_drewN ?_ _ | refine Below.alloc ?_ (by (try simp) <;> omega) _ | refine Below.setCell ?_ (by (try simp) <;> omega) _ | refine Below.trans ?_ (Below.mono (by assumption) (by (try simp) <;> omega)))), fun _ hk => hk.1, MayV.start (World.alloc_heap_new _ _) hb1.size (fun hk => absurd hk.2 (by omega)), hb1.alloc hb1.size _, trivial, fun x hx => by cases hx⟩
  obtain ⟨Y, hY⟩ : ∃ Y, w1.heap.size = Y := ⟨_, rfl⟩
  rw [hY] at HI0
  clear hb1 hd1
  gi_wp2_with fail
  refine ⟨trivial, ?_⟩
  refine (callsIn_wide.2 (num4_any 0 w1)).mono ?_
  rintro e w2 ⟨rfl, rfl⟩
  gi_wp2_with fail
  obtain ⟨w3, hw3⟩ : ∃ w3, w2.alloc (.cells #[.slice none 0 0, .slice none 0 0, .slice none 0 0, .slice none 0 0, .slice none 0 0] 52) = w3 := ⟨_, rfl⟩
  rw [hw3] at HI0 ⊢
  clear hw3 hY
  gi_loopw [8] (fun i wr => ∃ k : Nat, k ≤ 5 ∧ i = .int .i64 (k : Nat) ∧ Hid (HoldI w' wr B Y k (Dv.new 5) (fun _ => [List.replicate 8 0]) [])) (fun i _ => 5 - (intOf i).toNat)
  case atStart => exact ⟨0, by omega, rfl, HI0⟩
  case round =>
    obtain ⟨k, hk, rfl, HI⟩ := hrel
    by_cases hlt : k < 5
    · have k2 : (k : Int) < 5 := by omega
      have HX8 : Hid (Box8 (wr.alloc (.cells #[.int .u64 0, .int .u64 0, .int .u64 0, .int .u64 0, .int .u64 0, .int .u64 0, .int .u64 0, .int .u64 0] 48)) wr.heap.size (List.replicate 8 0)) := show Box8 _ _ _ from Box8.new wr (List.replicate 8 0)
      have HN8 := Lib.hid (HI.out.next hlt (rowAt_box HX8.out) (Nat.le_refl _) ((Below.refl _ _).alloc (Nat.le_refl _) _))
      have HI8 := Lib.hid (HI.out.below ((Below.refl _ _).alloc (Nat.le_refl _) (.cells #[.int .u64 0, .int .u64 0, .int .u64 0, .int .u64 0, .int .u64 0, .int .u64 0, .int .u64 0, .int .u64 0] 48)))
      obtain ⟨W8, hW8⟩ : ∃ W8, wr.alloc (.cells #[.int .u64 0, .int .u64 0, .int .u64 0, .int .u64 0, .int .u64 0, .int .u64 0, .int .u64 0, .int .u64 0] 48) = W8 := ⟨_, rfl⟩
      rw [hW8] at HN8 HI8
      obtain ⟨b1, b2, b3, b4⟩ := HI8.out.box
      have c1 := b3 hlt
      have f1 := b4 k
      clear b3 b4 HX8
      gi_wp2_with fail
      go_roundw
      case rel => exact ⟨k + 1, by omega, by go_num, HN8⟩
      case measure => simp [intOf]; omega
    · obtain rfl : k = 5 := by omega
      gi_wp2_with fail
      rename_i K hK
      refine wpIn_loop (HoldInv w' a cap N ma mc M B Y) (fun a' _ => N - (intOf (a'.tmps.getD 9 undef)).toNat) ?_ ?_
      · exact holdInv_mk 0 _ _ (Nat.zero_le _) HI.out (may_new 5) (fun _ => Nat.le_refl _) rfl
      · rintro a' wr ⟨k, d, m, ds, U, ⟨hk, hI, hM, hL⟩, rfl⟩
        clear HI HI0 hlt
        by_cases hlt : k < N
        · skip
          obtain ⟨b, off, mv, y, hy, rfl, hat⟩ := HAK.out k hlt
          have HY := Lib.hid (HX.out y hy)
          obtain ⟨what, at_, line, word, from_, mk⟩ := y
          obtain ⟨qa, qc, rfl, -⟩ := id (hat wr hI.low).2
          have hck := (hat wr hI.low).1
          have c0 := hck 0 _ rfl
          have c1 := hck 1 _ rfl
          have c2 := hck 2 _ rfl
          have c3 := hck 3 _ rfl
          have c4 := hck 4 _ rfl
          have c5 := hck 5 _ rfl
          rw [Nat.add_zero] at c0
          simp only at c0 c1 c2 c3 c4 c5
          have k2 : (k : Int) < (N : Int) := by omega
          have b8 : Below wr.heap.size wr (wr.alloc (.cells #[.int .i64 what, .int .i64 at_, .int .i64 line, .int .u64 word, .int .u64 from_, .slice qa mk.length qc] 26)) := (Below.refl _ _).alloc (Nat.le_refl _) _
          have hx8 : (wr.alloc (.cells #[.int .i64 what, .int .i64 at_, .int .i64 line, .int .u64 word, .int .u64 from_, .slice qa mk.length qc] 26)).heap[wr.heap.size]? = some (.cells #[.int .i64 what, .int .i64 at_, .int .i64 line, .int .u64 word, .int .u64 from_, .slice qa mk.length qc] 26) := World.alloc_heap_new _ _
          obtain ⟨W8, hW8⟩ : ∃ W8, wr.alloc (.cells #[.int .i64 what, .int .i64 at_, .int .i64 line, .int .u64 word, .int .u64 from_, .slice qa mk.length qc] 26) = W8 := ⟨_, rfl⟩
          rw [hW8] at b8 hx8
          have hI8 := hI.below b8
          have hE8 := HE.out.below hI8.low HE.out.room
          have HSTEP := Lib.hid (may_step hI8.ok hM ⟨what, at_, line, word, from_, mk⟩)
          have HI8 := Lib.hid hI8
          have HIR := Lib.hid hI
          have HB8 := Lib.hid b8
          have HM := Lib.hid hM
          have HL := Lib.hid hL
          have HE8 := Lib.hid hE8
          have HW8 := Lib.hid hW8
          have HX8 := Lib.hid hx8
          have HZ8 : Hid (W8.heap.size = wr.heap.size + 1) := show _ = _ by rw [← hW8]; simp
          have d0 : W8.cell? ⟨wr.heap.size, 0, none⟩ = some (.int .i64 what) := by simp [World.cell?, hx8]
          have d1 : W8.cell? ⟨wr.heap.size, 1, none⟩ = some (.int .i64 at_) := by simp [World.cell?, hx8]
          have d2 : W8.cell? ⟨wr.heap.size, 2, none⟩ = some (.int .i64 line) := by simp [World.cell?, hx8]
          have d3 : W8.cell? ⟨wr.heap.size, 3, none⟩ = some (.int .u64 word) := by simp [World.cell?, hx8]
          have d4 : W8.cell? ⟨wr.heap.size, 4, none⟩ = some (.int .u64 from_) := by simp [World.cell?, hx8]
          clear hck hat hy hI hM hL b8 hx8 hI8 hE8 hW8
          by_cases h1 : what = 1
          · subst h1
            gi_wp2_with fail
            rw [HW8.out]
            gi_wp2_with fail
            refine ⟨trivial, ?_⟩
            refine (callsIn_wide.2 (store_hold at_ word HE8.out HI8.out)).mono ?_
            rintro e w9 ⟨rfl, hs9, hI9⟩
            have hM9 : MayInv 5 (d.store 5 at_ word) m := by
              have := HSTEP.out
              simpa [holdStep, mayStep] using this
            gi_wp2_with fail
            refine ⟨holdInv_mk (k + 1) (d.store 5 at_ word) (m) (by omega) hI9 hM9 (fun j => Nat.le_trans (HL.out j) (Nat.le_succ _)) (by go_num), ?_⟩
            simp [intOf]
            omega
          by_cases h2 : what = 2
          · subst h2
            gi_wp2_with fail
            rw [HW8.out]
            gi_wp2_with fail
            refine ⟨trivial, ?_⟩
            refine (callsIn_wide.2 (swap_hold at_ from_ word HE8.out HI8.out)).mono ?_
            rintro e w9 ⟨rfl, hs9, hI9⟩
            have hM9 : MayInv 5 (d.swap 5 at_ from_ word) m := by
              have := HSTEP.out
              simpa [holdStep, mayStep] using this
            gi_wp2_with fail
            refine ⟨holdInv_mk (k + 1) (d.swap 5 at_ from_ word) (m) (by omega) hI9 hM9 (fun j => Nat.le_trans (HL.out j) (Nat.le_succ _)) (by go_num), ?_⟩
            simp [intOf]
            omega
          by_cases h3 : what = 3
          · subst h3
            by_cases hr : inR 5 line = true
            · obtain ⟨hr1, hr2⟩ := inR_iff.1 hr
              obtain ⟨j, rfl⟩ : ∃ j : Nat, line = (j : Nat) := ⟨line.toNat, by omega⟩
              have hj : j < 5 := by omega
              have HEV := Lib.hid (flush_slots (j : Int) (Nat.le_refl _) HIR.out HB8.out)
              rw [hr] at HEV
              have hM9 : MayInv 5 (d.flush 5 j) (updM m j (m j ++ [lineAt d.seen j])) := by
                have h := HSTEP.out
                have e : mayStep d 5 m ⟨3, at_, j, word, from_, mk⟩ = updM m j (m j ++ [lineAt d.seen j]) := by
                  unfold mayStep updM
                  rw [if_pos rfl, if_pos hr]
                  funext i
                  simp only [Int.toNat_natCast]
                  by_cases ei : i = j
                  · rw [if_pos ei, if_pos ei, ei]
                  · rw [if_neg ei, if_neg ei]
                rw [e] at h
                simpa [holdStep] using h
              have HM9 := Lib.hid hM9
              have HJ := Lib.hid hj
              have HLT : Hid (wr.heap.size < W8.heap.size) := show _ < _ from (Array.getElem?_eq_some_iff.1 HX8.out).1
              have hj1 : ((j : Int) < 5) := by omega
              have hj0 : (0 : Int) ≤ (j : Int) := by omega
              have HLJ : Hid ((m j).length ≤ 1000) := show _ ≤ _ from Nat.le_trans (HL.out j) (by omega)
              clear hr hr1 hr2 hj hM9
              gi_wp2_with fail
              rw [HW8.out]
              gi_wp2_with fail
              refine ⟨trivial, ?_⟩
              refine (callsIn_wide.2 HEV.out).mono ?_
              rintro e w9 ⟨rfl, hs9, hI9, hk9, hsl9⟩
              have hx9 := (hk9 _ (Nat.le_refl _) HLT.out).trans HX8.out
              have d2' : w9.cell? ⟨wr.heap.size, 2, none⟩ = some (.int .i64 (j : Nat)) := by simp [World.cell?, hx9]
              have HI9 := Lib.hid hI9
              have HS9 := Lib.hid hs9
              obtain ⟨vv, gg, hsl, hgg⟩ := hsl9 j HJ.out
              have HSL9 := Lib.hid hsl
              have HGG := Lib.hid hgg
              clear hk9 hx9 hI9 hs9 d0 d1 d2 d3 d4 hsl9 hsl hgg
              rw [show errR true = 0 from rfl]
              gi_wp2_with fail
              refine ⟨trivial, ?_⟩
              refine (callsIn_wide.2 (num4_any _ _)).mono ?_
              rintro e wn ⟨rfl, hwn⟩
              rw [hwn]
              clear hwn wn
              gi_wp2_with fail
              refine wpIn_normal ?_
              have hdr : Below w9.heap.size w9 w9.drew := Below.drew (Below.refl _ _)
              have HIa := Lib.hid (HI9.out.below hdr)
              have HSLa := Lib.hid (HSL9.out.below hdr)
              have HEa := Lib.hid (HE.out.below HIa.out.low HE.out.room)
              have HLT9 : Hid (wr.heap.size < w9.drew.heap.size) := show _ < _ from Nat.lt_of_lt_of_le (Nat.lt_of_lt_of_le HLT.out HS9.out) hdr.size
              refine wpIn_region_N 13 (fun W : World => W.cell? ⟨wr.heap.size, 2, none⟩ = some (.int .i64 (j : Nat)) ∧ W.cell? ⟨Y, j, none⟩ = some vv) (by kernel_rfl) ?_
              have hR : (fun W : World => W.cell? ⟨wr.heap.size, 2, none⟩ = some (.int .i64 (j : Nat)) ∧ W.cell? ⟨Y, j, none⟩ = some vv) w9.drew := ⟨d2', HSLa.out.1⟩
              clear hdr d2'
              (refine wpAnyN_take (i := 0) (v := ?_) (noDefers_of (by kernel_rfl)) rfl (by kernel_rfl) (by kernel_rfl) (fun _ _ _ h => by first | exact h | cases h.1) (fun _ => by first | rfl | simp [Oper.about]) (Or.inl ⟨by rfl, ?_⟩) hR ?_; rotate_left; (focus (intro w hSw; (try dsimp only at hSw); go_simp; (try with_reducible rfl))); (try simp only [put_laws])); (refine wpAnyN_take (i := 1) (v := ?_) (noDefers_of (by kernel_rfl)) rfl (by kernel_rfl) (by kernel_rfl) (fun _ _ _ h => by first | exact h | cases h.1) (fun _ => by first | rfl | simp [Oper.about]) (Or.inl ⟨by rfl, ?_⟩) hR ?_; rotate_left; (focus (intro w hSw; (try dsimp only at hSw); go_simp; (try with_reducible rfl))); (try simp only [put_laws])); (refine wpAnyN_take (i := 2) (v := ?_) (noDefers_of (by kernel_rfl)) rfl (by kernel_rfl) (by kernel_rfl) (fun _ _ _ h => by first | exact h | cases h.1) (fun _ => by first | rfl | simp [Oper.about]) (Or.inl ⟨by rfl, ?_⟩) hR ?_; rotate_left; (focus (intro w hSw; (try dsimp only at hSw); go_simp; (try with_reducible rfl))); (try simp only [put_laws])); (refine wpAnyN_take (i := 3) (v := ?_) (noDefers_of (by kernel_rfl)) rfl (by kernel_rfl) (by kernel_rfl) (fun _ _ _ h => by first | exact h | cases h.1) (fun _ => by first | rfl | simp [Oper.about]) (Or.inl ⟨by rfl, ?_⟩) hR ?_; rotate_left; (focus (intro w hSw; (try dsimp only at hSw); go_simp; (try with_reducible rfl))); (try simp only [put_laws])); (refine wpAnyN_take (i := 4) (v := ?_) (noDefers_of (by kernel_rfl)) rfl (by kernel_rfl) (by kernel_rfl) (fun _ _ _ h => by first | exact h | cases h.1) (fun _ => by first | rfl | simp [Oper.about]) (Or.inl ⟨by rfl, ?_⟩) hR ?_; rotate_left; (focus (intro w hSw; (try dsimp only at hSw); go_simp; (try with_reducible rfl))); (try simp only [put_laws])); (refine wpAnyN_take (i := 5) (v := ?_) (noDefers_of (by kernel_rfl)) rfl (by kernel_rfl) (by kernel_rfl) (fun _ _ _ h => by first | exact h | cases h.1) (fun _ => by first | rfl | simp [Oper.about]) (Or.inl ⟨by rfl, ?_⟩) hR ?_; rotate_left; (focus (intro w hSw; (try dsimp only at hSw); go_simp; (try with_reducible rfl))); (try simp only [put_laws])); (refine wpAnyN_take (i := 6) (v := ?_) (noDefers_of (by kernel_rfl)) rfl (by kernel_rfl) (by kernel_rfl) (fun _ _ _ h => by first | exact h | cases h.1) (fun _ => by first | rfl | simp [Oper.about]) (Or.inl ⟨by rfl, ?_⟩) hR ?_; rotate_left; (focus (intro w hSw; (try dsimp only at hSw); go_simp; (try with_reducible rfl))); (try simp only [put_laws])); (refine wpAnyN_take (i := 7) (v := ?_) (noDefers_of (by kernel_rfl)) rfl (by kernel_rfl) (by kernel_rfl) (fun _ _ _ h => by first | exact h | cases h.1) (fun _ => by first | rfl | simp [Oper.about]) (Or.inl ⟨by rfl, ?_⟩) hR ?_; rotate_left; (focus (intro w hSw; (try dsimp only at hSw); go_simp; (try with_reducible rfl))); (try simp only [put_laws])); (refine wpAnyN_take (i := 8) (v := ?_) (noDefers_of (by kernel_rfl)) rfl (by kernel_rfl) (by kernel_rfl) (fun _ _ _ h => by first | exact h | cases h.1) (fun _ => by first | rfl | simp [Oper.about]) (Or.inl ⟨by rfl, ?_⟩) hR ?_; rotate_left; (focus (intro w hSw; (try dsimp only at hSw); go_simp; (try with_reducible rfl))); (try simp only [put_laws]))
              (refine wpAnyN_one (i := 9) rfl (by kernel_rfl) (by rfl) (fun K hK => ?_); (try simp only [elem_laws]))
              go_simp
              refine ⟨trivial, ?_⟩
              refine (callsIn_wide.2 (line_hold HJ.out HEa.out HIa.out)).mono ?_
              rintro e wb ⟨rfl, hbb⟩
              have hR2 : (fun W : World => W.cell? ⟨wr.heap.size, 2, none⟩ = some (.int .i64 (j : Nat)) ∧ W.cell? ⟨Y, j, none⟩ = some vv) wb := ⟨(World.cell?_of_block (a := ⟨wr.heap.size, 2, none⟩) (hbb.block _ HLT9.out)).trans hR.1, (HSLa.out.below hbb).1⟩
              refine hK _ _ (fun _ => hR2) ?_
              clear hK K hR
              have hR : (fun W : World => W.cell? ⟨wr.heap.size, 2, none⟩ = some (.int .i64 (j : Nat)) ∧ W.cell? ⟨Y, j, none⟩ = some vv) wb := hR2
              clear hR2
              have hLe : (d.flush 5 j).seen = d.seen := by unfold Dv.flush Dv.forget; split <;> rfl
              rw [hLe]
              obtain ⟨L, hL⟩ : ∃ L, lineAt d.seen j = L := ⟨_, rfl⟩
              rw [hL] at HM9 ⊢
              obtain ⟨Wc, hWc⟩ : ∃ Wc, wb.alloc (.cells (arr8 L) 48) = Wc := ⟨_, rfl⟩
              have bc : Below wb.heap.size wb Wc := by rw [← hWc]; exact (Below.refl _ _).alloc (Nat.le_refl _) _
              have hxc : Box8 Wc wb.heap.size L := by rw [← hWc]; exact Box8.new _ _
              have HSLc := Lib.hid ((HSLa.out.below hbb).below bc)
              have hlx := Nat.lt_of_lt_of_le (Nat.lt_of_lt_of_le HLT9.out hbb.size) bc.size
              have hRc : (fun W : World => W.cell? ⟨wr.heap.size, 2, none⟩ = some (.int .i64 (j : Nat)) ∧ W.cell? ⟨Y, j, none⟩ = some vv) Wc := ⟨(World.cell?_of_block (a := ⟨wr.heap.size, 2, none⟩) (bc.block _ (Nat.lt_of_lt_of_le HLT9.out hbb.size))).trans hR.1, HSLc.out.1⟩
              obtain ⟨i0, hi, hz0, hz1, hz2⟩ := info_parts info8
              obtain ⟨ve, We, ge, hrun, r1, r2, r3⟩ := rowAt_append (P := Tryd.prog) Wc 33 33 48 i0 _ 8 64 Tryd.underlying33 hi hz0 hz1 hz2 rfl (by decide) gg vv (m j).length _ (cells8 L) HSLc.out.2.2.2.2.1 ⟨wb.heap.size, 0, none⟩ 1 rfl (box_news hxc) (cells8_one L) (by have := HLJ.out; unfold maxLen; omega) (by have := HLJ.out; omega)
              have HPUT := Lib.hid (HSLc.out.2.2.2.2.2.2 We ge ve (m j ++ [L]) (by rw [List.length_append, flatC_append, flatC_one]; exact r1) r2 r3)
              have hRe : (fun W : World => W.cell? ⟨wr.heap.size, 2, none⟩ = some (.int .i64 (j : Nat)) ∧ W.cell? ⟨Y, j, none⟩ = some vv) We := ⟨(World.cell?_of_block (a := ⟨wr.heap.size, 2, none⟩) (r3.block _ hlx (fun e => absurd HGG.out (by rw [← (show wr.heap.size = gg from Option.some.inj e)]; exact Nat.lt_irrefl _)))).trans hRc.1, (World.cell?_of_block (a := ⟨Y, j, none⟩) (r3.block _ HSLc.out.2.2.1 (fun e => HSLc.out.2.2.2.2.2.1 (Option.some.inj e).symm))).trans HSLc.out.1⟩
              have fY : We.frozen? ⟨Y, j, none⟩ = false := (World.frozen?_of_block (a := ⟨Y, j, none⟩) (r3.block _ HSLc.out.2.2.1 (fun e => HSLc.out.2.2.2.2.2.1 (Option.some.inj e).symm))).trans HSLc.out.2.1
              have hlY : Y < We.heap.size := Nat.lt_of_lt_of_le HSLc.out.2.2.1 r3.size
              have cY := hRe.2
              have hve : ve.oneCell' = true := by
                obtain ⟨-, -, -, off, cc, e4, -⟩ := r1
                rw [e4]; rfl
              obtain ⟨ao, nn, cc, hve2⟩ : ∃ ao nn cc, ve = .slice ao nn cc := by
                obtain ⟨-, -, -, off, cc, e4, -⟩ := r1
                exact ⟨_, _, _, e4⟩
              subst hve2
              simp only [arr8] at hWc
              have HWc := Lib.hid hWc
              have HLL : Hid (∀ i, (updM m j (m j ++ [L]) i).length ≤ k + 1 + 1) := show ∀ i, _ from fun i => by
                unfold updM
                split
                · rw [List.length_append]
                  have := HL.out j
                  simp
                  omega
                · exact Nat.le_trans (HL.out i) (Nat.le_succ _)
              have HRe : Hid ((fun W : World => W.cell? ⟨wr.heap.size, 2, none⟩ = some (.int .i64 (j : Nat)) ∧ W.cell? ⟨Y, j, none⟩ = some vv) We) := show (fun W : World => W.cell? ⟨wr.heap.size, 2, none⟩ = some (.int .i64 (j : Nat)) ∧ W.cell? ⟨Y, j, none⟩ = some vv) We from hRe
              have HRc : Hid ((fun W : World => W.cell? ⟨wr.heap.size, 2, none⟩ = some (.int .i64 (j : Nat)) ∧ W.cell? ⟨Y, j, none⟩ = some vv) Wc) := show (fun W : World => W.cell? ⟨wr.heap.size, 2, none⟩ = some (.int .i64 (j : Nat)) ∧ W.cell? ⟨Y, j, none⟩ = some vv) Wc from hRc
              clear bc hxc hLe hL hbb hWc r1 r2 r3 hi hz0 hz1 hz2 hRe hRc hve
              (try simp only [put_laws])
              (refine wpAnyN_one (i := 10) rfl (by kernel_rfl) (by rfl) (fun K hK => ?_); (try simp only [elem_laws]))
              simp only [arr8]
              go_simp
              rw [HWc.out]
              refine hK _ _ (fun _ => HRc.out) ?_
              clear hK K hR
              have hR : (fun W : World => W.cell? ⟨wr.heap.size, 2, none⟩ = some (.int .i64 (j : Nat)) ∧ W.cell? ⟨Y, j, none⟩ = some vv) Wc := HRc.out
              (try simp only [put_laws])
              (refine wpAnyN_one (i := 11) rfl (by kernel_rfl) (by rfl) (fun K hK => ?_); (try simp only [elem_laws]))
              refine wpIn_append_run _ _ 33 rfl (by rfl) (by rfl) hrun ?_
              (try simp only [put_laws])
              refine hK _ _ (fun _ => HRe.out) ?_
              clear hK K hR hrun
              have hR : (fun W : World => W.cell? ⟨wr.heap.size, 2, none⟩ = some (.int .i64 (j : Nat)) ∧ W.cell? ⟨Y, j, none⟩ = some vv) We := HRe.out
              (try simp only [put_laws])
              (refine wpAnyN_one (i := 12) rfl (by kernel_rfl) (by rfl) (fun K hK => ?_); (try simp only [elem_laws]))
              go_simp
              refine hK _ _ (fun _ => HRe.out) ?_
              clear hK K
              (try simp only [put_laws])
              (refine wpAnyN_last rfl (by kernel_rfl) (by rfl) (fun K hK => ?_); (try simp only [elem_laws]))
              clear hR
              go_simp
              refine hK _ _ ?_
              clear hK K
              (try simp only [put_laws])
              refine wpAnyN_done (by kernel_rfl) ?_ _
              refine ⟨rfl, ?_⟩
              gi_wp2_with fail
              refine ⟨holdInv_mk (k + 1) (d.flush 5 j) (updM m j (m j ++ [L])) (by omega) HPUT.out HM9.out HLL.out (by go_num), ?_⟩
              simp [intOf]
              omega
            · have hr' : inR 5 line = false := by simpa using hr
              have HEV := Lib.hid (flush_keep line HIR.out HB8.out)
              rw [hr'] at HEV
              have hM9 : MayInv 5 (d.flush 5 line) m := by
                have h := HSTEP.out
                have e : mayStep d 5 m ⟨3, at_, line, word, from_, mk⟩ = m := by
                  unfold mayStep
                  rw [if_pos rfl, if_neg hr]
                rw [e] at h
                simpa [holdStep] using h
              clear hr hr'
              gi_wp2_with fail
              rw [HW8.out]
              gi_wp2_with fail
              refine ⟨trivial, ?_⟩
              refine (callsIn_wide.2 HEV.out).mono ?_
              rintro e w9 ⟨rfl, hs9, hI9, -⟩
              clear hs9 d0 d1 d2 d3 d4
              rw [show errR false = 4 from rfl]
              gi_wp2_with fail
              refine ⟨trivial, ?_⟩
              refine (callsIn_wide.2 (num4_any _ _)).mono ?_
              rintro e wn ⟨rfl, hwn⟩
              rw [hwn]
              clear hwn wn
              gi_wp2_with fail
              refine ⟨holdInv_mk (k + 1) (d.flush 5 line) (m) (by omega) hI9 hM9 (fun j => Nat.le_trans (HL.out j) (Nat.le_succ _)) (by go_num), ?_⟩
              simp [intOf]
              omega
          by_cases h4 : what = 4
          · subst h4
            have hmk := fun w => run_makeMap (P := Tryd.prog) 58 w
            obtain ⟨W9, hW9⟩ : ∃ W9, (W8.alloc (.map #[] 0)).alloc (.cells #[.map (some W8.heap.size)] 58) = W9 := ⟨_, rfl⟩
            have b9 : Below W8.heap.size W8 W9 := by rw [← hW9]; exact (by repeat (first | exact Below.refl _ _ | assumption | refine Below.drew ?_ | refine below_drewN ?_ _ | refine Below.alloc ?_ (by (try simp) <;> omega) _ | refine Below.setCell ?_ (by (try simp) <;> omega) _ | refine Below.trans ?_ (Below.mono (by assumption) (by (try simp) <;> omega))))
            have HI9 := Lib.hid (HI8.out.below b9)
            have HB9 := Lib.hid b9
            have HM9 : Hid (MapN 3 .i64 W9 W8.heap.size 0 (mapOf [])) := show MapN _ _ _ _ _ _ by
              rw [← hW9, mapOf_nil]
              exact (MapN.new 3 .i64 W8).below ((Below.refl _ _).alloc (Nat.le_refl _) _)
            have HX9 : Hid (Boxed W9 (W8.heap.size + 1) 58 (.map (some W8.heap.size))) := show Boxed _ _ _ _ by
              rw [← hW9]; unfold Boxed; (simp only [heap_at, World.size_alloc]; repeat (first | rw [if_pos (by omega)] | rw [if_neg (by omega)] | rw [if_pos trivial]))
            have HW9 := Lib.hid hW9
            clear b9 hW9
            gi_wp2_with fail
            clear hmk
            rw [HW8.out, ← HZ8.out, HW9.out]
            clear d0 d1 d2 d3 d4
            refine ⟨trivial, ?_⟩
            refine (callsIn_wide.2 (waits_hold HI9.out)).mono ?_
            rintro e wA ⟨P1, u1, rfl, -, -, -, hbA⟩
            have hq : ∀ W : World, (binOp .eql 42 (.func (.func 56) #[] #[.pointer (some ⟨P1, 0, none⟩)]) .nilFunc).run Tryd.prog W = .ok (.bool false) W := fun _ => by kernel_rfl
            have HIA := Lib.hid (HI9.out.below hbA)
            have HBA := Lib.hid hbA
            clear hbA
            gi_wp2_with fail
            refine ⟨trivial, ?_⟩
            refine (callsIn_wide.2 (waits_hold HIA.out)).mono ?_
            rintro e wB ⟨P2, u2, rfl, hP2, hbx2, hqu2, hbB⟩
            clear hq
            gi_wp2_with fail
            have hls : (linesOf d.waits).length ≤ 5 := by
              rw [show (linesOf d.waits).length = d.waits.length from List.length_map _]
              exact HI8.out.ok.few
            obtain ⟨ua, uc, rfl⟩ : ∃ ua uc, u2 = .slice ua (linesOf d.waits).length uc := que_slice4 hqu2
            obtain ⟨g, hgl, hgA, hga⟩ := que_block4 hbx2.lt hqu2
            have hsq := waits_seq 9 (by decide) P2 g uc _ ua (linesOf d.waits) (by omega) wB hga hbx2 hgl
            have HSQ := Lib.hid hsq
            have HG9 : Hid (∀ k, k = g → k < wB.heap.size) := show ∀ _, _ from fun k hk => by rw [hk]; exact hgl
            have hzA := HBA.out.size
            have hz9 : W9.heap.size = W8.heap.size + 2 := by rw [← HW9.out]; simp
            have HGA : Hid (0 < (linesOf d.waits).length → W8.heap.size + 1 < g) := show _ → _ from fun h => by have := hgA h; omega
            have b9B : Below W9.heap.size W9 wB := HBA.out.trans (hbB.mono HBA.out.size)
            have HBB : Hid (Below W8.heap.size W8 wB) := show Below _ _ _ from HB9.out.trans (b9B.mono HB9.out.size)
            have HI0 : Hid (WaitI W8 [] (fun _ => False) wB) := show WaitI _ _ _ _ from ⟨⟨HM9.out.below b9B, id⟩, ⟨(b9B.block _ HX9.out.lt).trans HX9.out, id⟩, HBB.out, HBB.out.size, fun _ h => h.elim⟩
            have HLS := Lib.hid hls
            have HLT5 : Hid (∀ l ∈ linesOf d.waits, l < 5) := show ∀ l, _ from fun l hl => by
              obtain ⟨y, hy, rfl⟩ := List.mem_map.1 hl
              exact (HI8.out.ok.waits y hy).1
            clear hsq hga hgA hgl hqu2 hbx2 hbB hP2 hls hzA hz9 b9B
            generalize hA : ({ tmps := _, defers := _ } : Act) = A0
            refine wpIn_range_F (n := 10) (by decide) (gf := 56) (lb := #[.pointer (some ⟨P2, 0, none⟩)]) (by rw [← hA]; rfl) (enters_of Tryd.func56 (by kernel_rfl) rfl) HSQ.out HG9.out (Below.refl _ _) (fun _ => rfl)
              (WaitI W8) (fun _ _ _ _ => False) (abides_wait _) (fun _ _ _ _ _ _ h _ _ => h) HI0.out
              (fun x a' _ => a' = { tmps := (A0.tmps.setIfInBounds 113 (.int .i64 (x : Nat))).setIfInBounds 12 (.int .i64 (x : Nat)), defers := [] })
              (fun x a' W1 o h => h)
              ?assign ?body ?done ?stop
            case assign =>
              rintro l2 x W2 K hsz hK
              subst hA
              unfold encI
              dsimp only
              gi_wp2_with fail
              refine hK _ _ ?_ (Below.refl _ _)
              rfl
            case body =>
              rintro l2 pre x a' q2 W2 ⟨⟨hmp, hqm⟩, ⟨hbx, hqx⟩, hB, hBs, hBq⟩ hs2 hqb hsp rfl
              subst hA
              have hpl : pre.length < 100000 := by
                have := hsp.length_le
                rw [List.length_append, List.length_singleton] at this
                have := HLS.out
                omega
              have hx5 : x < 5 := HLT5.out x (hsp.subset (by simp))
              have hg : W8.heap.size + 1 < g := HGA.out (by
                have := hsp.length_le
                rw [List.length_append, List.length_singleton] at this
                omega)
              obtain ⟨W', hrun, hm', hgr⟩ := hmp.store (t := 58) (e := 3) Tryd.underlying58 Tryd.underlying3 hpl (y := (x : Int)) (z := 1) (by unfold in64N; omega) (by decide)
              rw [mapOf_snoc] at hm'
              have hbx' : Boxed W' (W8.heap.size + 1) 58 (.map (some W8.heap.size)) := (hgr.block _ hbx.lt (fun e => by simp at e)).trans hbx
              have HRES : Hid (Keeps (fun k => k = g ∨ q2 k) W2 W' ∧ WaitI W8 (pre ++ [x]) q2 W') := show _ ∧ _ from ⟨⟨hgr.size, fun k hk hl => hgr.block k hl (fun e => by
                  have e := Option.some.inj e
                  rcases hk with h | h
                  · omega
                  · exact hqm (e ▸ h))⟩, ⟨by rw [List.length_append]; exact hm', hqm⟩, ⟨hbx', hqx⟩, hB.grown hgr hBs (fun k e => by rw [← Option.some.inj e]; exact Nat.le_refl _), Nat.le_trans hBs hgr.size, hBq⟩
              have cx := Boxed.cell hbx
              clear hmp hm' hbx' hgr hB hBs hBq hqb hsp hqm hqx hs2
              gi_wp2_with fail
              exact HRES.out
            case done =>
              rintro D ys W hDb rfl ⟨⟨hmp, -⟩, ⟨hbx, -⟩, ⟨hB, hBs, -⟩⟩ hK'
              subst hA
              have hD8 : W8.heap.size ≤ D := Nat.le_trans HBB.out.size hDb
              have HFN := Lib.hid (fence_mark HI8.out hB hD8 hK')
              obtain ⟨ln, hln⟩ : ∃ ln, (linesOf d.waits).length = ln := ⟨_, rfl⟩
              rw [hln] at hmp
              have HMP := Lib.hid hmp
              have HBX := Lib.hid hbx
              have HYL : Hid (Y < W8.heap.size) := show _ < _ from by
                obtain ⟨v0, g0, -, -, h3, -⟩ := HI8.out.slot (Nat.le_refl _) (show 0 < 5 by decide)
                exact h3
              clear hmp hbx hB hBs hK' hDb hD8 hln
              gi_wp2_with fail
              refine ⟨trivial, ?_⟩
              refine (callsIn_wide.2 HFN.out).mono ?_
              rintro e wC ⟨rfl, hsC, hIC, hkC⟩
              have HQ0 : Hid (HoldI w' wC B Y 5 d.fence (fenceTo d m 0) ({ target := .collected D, args := #[] } :: ds) ∧ MapN 3 .i64 wC W8.heap.size ln (mapOf (linesOf d.waits)) ∧ Boxed wC (W8.heap.size + 1) 58 (.map (some W8.heap.size))) := show _ ∧ _ ∧ _ from
                ⟨by rw [fenceTo_zero]; exact hIC, HMP.out.keep (hkC _ (Nat.le_refl _) HMP.out.lt), (hkC _ (Nat.le_succ _) HBX.out.lt).trans HBX.out⟩
              clear hsC hIC hkC
              gi_wp2_with fail
              gi_loopw [13] (fun i Wk => ∃ j : Nat, j ≤ 5 ∧ i = .int .i64 (j : Nat) ∧ Hid (HoldI w' Wk B Y 5 d.fence (fenceTo d m j) ({ target := .collected D, args := #[] } :: ds) ∧ MapN 3 .i64 Wk W8.heap.size ln (mapOf (linesOf d.waits)) ∧ Boxed Wk (W8.heap.size + 1) 58 (.map (some W8.heap.size)))) (fun i _ => 5 - (intOf i).toNat)
              case atStart => exact ⟨0, by omega, rfl, HQ0⟩
              case round =>
                rename World => Wk
                obtain ⟨j, hj, rfl, HQ⟩ := hrel
                by_cases hlt5 : j < 5
                · have hlk := HQ.out.2.1.look (t := 58) Tryd.underlying58 Tryd.underlying3 zeroN (y := (j : Int)) (by unfold in64N; omega)
                  rw [mapOf_look] at hlk
                  have cbx := Boxed.cell HQ.out.2.2
                  have k5 : (j : Int) < 5 := by omega
                  have k0 : (0 : Int) ≤ (j : Int) := by omega
                  have HJ5 := Lib.hid hlt5
                  cases hw : d.waits.any (fun y => y.1 == j) with
                  | false =>
                    rw [hw, if_neg (by decide)] at hlk
                    have HNX := Lib.hid HQ.out
                    rw [← fenceTo_not hw] at HNX
                    clear hw
                    gi_wp2_with fail
                    go_roundw
                    case rel => exact ⟨j + 1, by omega, by go_num, HNX⟩
                    case measure => simp [intOf]; omega
                  | true =>
                    rw [hw, if_pos rfl] at hlk
                    have HFS := Lib.hid (fenceTo_some (m := m) hw)
                    clear hw
                    gi_wp2_with fail
                    refine wpIn_normal ?_
                    have hdr : Below Wk.heap.size Wk Wk.drew := Below.drew (Below.refl _ _)
                    have HQd := Lib.hid (HQ.out.1.below hdr)
                    have hmd := HQ.out.2.1.below hdr
                    have hbd : Boxed Wk.drew (W8.heap.size + 1) 58 (.map (some W8.heap.size)) := (hdr.block _ HQ.out.2.2.lt).trans HQ.out.2.2
                    obtain ⟨vv, gg, s1, s2, s3, s4, s5, s5n, s6⟩ := HQd.out.slot (Nat.le_refl _) HJ5.out
                    rw [fenceTo_here] at s5
                    obtain ⟨n, hn⟩ : ∃ n, (m j).length = n + 1 := ⟨(m j).length - 1, by have := List.length_pos_of_mem (HM.out j HJ5.out).1; omega⟩
                    rw [hn] at s5
                    obtain ⟨off1, cc, rfl⟩ : ∃ off1 cc, vv = .slice (some ⟨gg, off1, none⟩) (n + 1) cc := by
                      obtain ⟨-, -, -, off1, cc, e, -⟩ := s5
                      exact ⟨off1, cc, e⟩
                    obtain ⟨hr1, hcc⟩ := rowAt_tail s5
                    have hcn : ¬ cc = n := by omega
                    have hnn : (n : Int) ≤ (n : Int) + 1 := by omega
                    have hn41 : n ≤ 100 := by have := HL.out j; omega
                    have hwn : IntKind.i64.wrap (n : Int) = (n : Int) := by
                      simp [IntKind.wrap, IntKind.signed, IntKind.bits]; omega
                    obtain ⟨r, hr⟩ : ∃ r, Value.slice (some ⟨gg, off1 + n * 8, none⟩) 1 (cc - n) = r := ⟨_, rfl⟩
                    rw [hr] at hr1
                    rw [flatC_drop cells8_length _ n (by omega)] at hr1
                    have hl1 : ((m j).drop ((m j).length - 1)).length = 1 := by rw [List.length_drop]; omega
                    have hput := s6 Wk.drew gg r ((m j).drop ((m j).length - 1)) (by rw [hl1, show (m j).length - 1 = n by omega]; exact hr1) (.inl rfl) (World.grownBy.refl _ _)
                    rw [HFS.out] at hput
                    have hyl := HYL.out
                    have HNX : Hid (HoldI w' (Wk.drew.setCell ⟨Y, j, none⟩ r) B Y 5 d.fence (fenceTo d m (j + 1)) ({ target := .collected D, args := #[] } :: ds) ∧ MapN 3 .i64 (Wk.drew.setCell ⟨Y, j, none⟩ r) W8.heap.size ln (mapOf (linesOf d.waits)) ∧ Boxed (Wk.drew.setCell ⟨Y, j, none⟩ r) (W8.heap.size + 1) 58 (.map (some W8.heap.size))) := show _ ∧ _ ∧ _ from
                      ⟨hput, hmd.keep (Below.heap_setCell _ _ _ _ (by simp only [ne_eq]; omega)), (Below.heap_setCell _ _ _ _ (by simp only [ne_eq]; omega)).trans hbd⟩
                    subst hr
                    clear hdr hmd hbd s4 s5 s5n s6 hn hl1 hput hlk cbx hr1
                    refine wpIn_region_N 11 (fun W : World => W.cell? ⟨Y, j, none⟩ = some (.slice (some ⟨gg, off1, none⟩) (n + 1) cc)) (by kernel_rfl) ?_
                    have hR : (fun W : World => W.cell? ⟨Y, j, none⟩ = some (.slice (some ⟨gg, off1, none⟩) (n + 1) cc)) Wk.drew := s1
                    (refine wpAnyN_take (i := 0) (v := ?_) (noDefers_of (by kernel_rfl)) rfl (by kernel_rfl) (by kernel_rfl) (fun _ _ _ h => by first | exact h | cases h.1) (fun _ => by first | rfl | simp [Oper.about]) (Or.inl ⟨by rfl, ?_⟩) hR ?_; rotate_left; (focus (intro w hSw; (try dsimp only at hSw); go_simp; (try with_reducible rfl))); (try simp only [put_laws])); (refine wpAnyN_take (i := 1) (v := ?_) (noDefers_of (by kernel_rfl)) rfl (by kernel_rfl) (by kernel_rfl) (fun _ _ _ h => by first | exact h | cases h.1) (fun _ => by first | rfl | simp [Oper.about]) (Or.inl ⟨by rfl, ?_⟩) hR ?_; rotate_left; (focus (intro w hSw; (try dsimp only at hSw); go_simp; (try with_reducible rfl))); (try simp only [put_laws])); (refine wpAnyN_take (i := 2) (v := ?_) (noDefers_of (by kernel_rfl)) rfl (by kernel_rfl) (by kernel_rfl) (fun _ _ _ h => by first | exact h | cases h.1) (fun _ => by first | rfl | simp [Oper.about]) (Or.inl ⟨by rfl, ?_⟩) hR ?_; rotate_left; (focus (intro w hSw; (try dsimp only at hSw); go_simp; (try with_reducible rfl))); (try simp only [put_laws])); (refine wpAnyN_take (i := 3) (v := ?_) (noDefers_of (by kernel_rfl)) rfl (by kernel_rfl) (by kernel_rfl) (fun _ _ _ h => by first | exact h | cases h.1) (fun _ => by first | rfl | simp [Oper.about]) (Or.inl ⟨by rfl, ?_⟩) hR ?_; rotate_left; (focus (intro w hSw; (try dsimp only at hSw); go_simp; (try with_reducible rfl))); (try simp only [put_laws])); (refine wpAnyN_take (i := 4) (v := ?_) (noDefers_of (by kernel_rfl)) rfl (by kernel_rfl) (by kernel_rfl) (fun _ _ _ h => by first | exact h | cases h.1) (fun _ => by first | rfl | simp [Oper.about]) (Or.inl ⟨by rfl, ?_⟩) hR ?_; rotate_left; (focus (intro w hSw; (try dsimp only at hSw); go_simp; (try with_reducible rfl))); (try simp only [put_laws])); (refine wpAnyN_take (i := 5) (v := ?_) (noDefers_of (by kernel_rfl)) rfl (by kernel_rfl) (by kernel_rfl) (fun _ _ _ h => by first | exact h | cases h.1) (fun _ => by first | rfl | simp [Oper.about]) (Or.inl ⟨by rfl, ?_⟩) hR ?_; rotate_left; (focus (intro w hSw; (try dsimp only at hSw); go_simp; (try with_reducible rfl))); (try simp only [put_laws])); (refine wpAnyN_take (i := 6) (v := ?_) (noDefers_of (by kernel_rfl)) rfl (by kernel_rfl) (by kernel_rfl) (fun _ _ _ h => by first | exact h | cases h.1) (fun _ => by first | rfl | simp [Oper.about]) (Or.inl ⟨by rfl, ?_⟩) hR ?_; rotate_left; (focus (intro w hSw; (try dsimp only at hSw); go_simp; (try with_reducible rfl))); (try simp only [put_laws])); (refine wpAnyN_take (i := 7) (v := ?_) (noDefers_of (by kernel_rfl)) rfl (by kernel_rfl) (by kernel_rfl) (fun _ _ _ h => by first | exact h | cases h.1) (fun _ => by first | rfl | simp [Oper.about]) (Or.inl ⟨by rfl, ?_⟩) hR ?_; rotate_left; (focus (intro w hSw; (try dsimp only at hSw); go_simp; (try with_reducible rfl))); (try simp only [put_laws])); (refine wpAnyN_take (i := 8) (v := ?_) (noDefers_of (by kernel_rfl)) rfl (by kernel_rfl) (by kernel_rfl) (fun _ _ _ h => by first | exact h | cases h.1) (fun _ => by first | rfl | simp [Oper.about]) (Or.inl ⟨by rfl, ?_⟩) hR ?_; rotate_left; (focus (intro w hSw; (try dsimp only at hSw); go_simp; (try with_reducible rfl))); (try simp only [put_laws]))
                    (refine wpAnyN_take (i := 9) (v := ?_) (noDefers_of (by kernel_rfl)) rfl (by kernel_rfl) (by kernel_rfl) (fun _ _ _ h => by first | exact h | cases h.1) (fun _ => by first | rfl | simp [Oper.about]) (Or.inl ⟨by rfl, ?_⟩) hR ?_; rotate_left; (focus (intro w hSw; (try dsimp only at hSw); go_simp; (try with_reducible rfl))); (try simp only [put_laws]))
                    (refine wpAnyN_one (i := 10) rfl (by kernel_rfl) (by rfl) (fun K hK => ?_); (try simp only [elem_laws]))
                    go_simp
                    refine hK _ _ (fun _ => hR) ?_
                    clear hK K
                    (try simp only [put_laws])
                    (refine wpAnyN_last rfl (by kernel_rfl) (by rfl) (fun K hK => ?_); (try simp only [elem_laws]))
                    clear hR
                    go_simp
                    refine hK _ _ ?_
                    clear hK K
                    (try simp only [put_laws])
                    refine wpAnyN_done (by kernel_rfl) ?_ _
                    refine ⟨rfl, ?_⟩
                    gi_wp2_with fail
                    go_roundw
                    case rel => exact ⟨j + 1, by omega, by go_num, HNX⟩
                    case measure => simp [intOf]; omega
                · obtain rfl : j = 5 := by omega
                  have HMF := Lib.hid (may_fenceTo HI8.out.ok HM.out at_ line word from_ mk)
                  gi_wp2_with fail
                  refine ⟨holdInv_mk (k + 1) (d.fence) (fenceTo d m 5) (by omega) HQ.out.1 HMF.out (fenceTo_length (fun j => Nat.le_trans (HL.out j) (Nat.le_succ _))) (by go_num), ?_⟩
                  simp [intOf]
                  omega
            case stop =>
              rintro D cd pre W hDb hpre hF hK'
              exact hF.elim
          by_cases h5 : what = 5
          · subst h5
            by_cases hr : inR 5 line = true
            · obtain ⟨hr1, hr2⟩ := inR_iff.1 hr
              obtain ⟨j, rfl⟩ : ∃ j : Nat, line = (j : Nat) := ⟨line.toNat, by omega⟩
              have hj : j < 5 := by omega
              have HEV := Lib.hid (evict_keep (j : Int) HIR.out HB8.out)
              rw [hr] at HEV
              have hM9 : MayInv 5 (d.evict 5 j) (updM m j [lineAt d.seen j]) := by
                have h := HSTEP.out
                have e : mayStep d 5 m ⟨5, at_, j, word, from_, mk⟩ = updM m j [lineAt d.seen j] := by
                  unfold mayStep updM
                  rw [if_neg (show ¬ (5 : Int) = 3 by decide), if_neg (show ¬ (5 : Int) = 4 by decide), if_pos rfl, if_pos hr]
                  funext i
                  simp only [Int.toNat_natCast]
                  by_cases ei : i = j
                  · rw [if_pos ei, if_pos ei, ei]
                  · rw [if_neg ei, if_neg ei]
                rw [e] at h
                simpa [holdStep] using h
              have HM9 := Lib.hid hM9
              have HJ := Lib.hid hj
              have HLT : Hid (wr.heap.size < W8.heap.size) := show _ < _ from (Array.getElem?_eq_some_iff.1 HX8.out).1
              have hj1 : ((j : Int) < 5) := by omega
              have hj0 : (0 : Int) ≤ (j : Int) := by omega
              clear hr hr1 hr2 hj hM9
              gi_wp2_with fail
              rw [HW8.out]
              gi_wp2_with fail
              refine ⟨trivial, ?_⟩
              refine (callsIn_wide.2 HEV.out).mono ?_
              rintro e w9 ⟨rfl, hs9, hI9, hk9⟩
              have hx9 := (hk9 _ (Nat.le_refl _) HLT.out).trans HX8.out
              have d2' : w9.cell? ⟨wr.heap.size, 2, none⟩ = some (.int .i64 (j : Nat)) := by simp [World.cell?, hx9]
              have HI9 := Lib.hid hI9
              have HS9 := Lib.hid hs9
              clear hk9 hx9 hI9 hs9 d0 d1 d2 d3 d4
              rw [show errR true = 0 from rfl]
              gi_wp2_with fail
              refine ⟨trivial, ?_⟩
              refine (callsIn_wide.2 (num4_any _ _)).mono ?_
              rintro e wn ⟨rfl, hwn⟩
              rw [hwn]
              clear hwn wn
              gi_wp2_with fail
              refine wpIn_normal ?_
              have hdr : Below w9.heap.size w9 w9.drew := Below.drew (Below.refl _ _)
              have HIa := Lib.hid (HI9.out.below hdr)
              have HEa := Lib.hid (HE.out.below HIa.out.low HE.out.room)
              have HLT9 : Hid (wr.heap.size < w9.drew.heap.size) := show _ < _ from Nat.lt_of_lt_of_le (Nat.lt_of_lt_of_le HLT.out HS9.out) hdr.size
              refine wpIn_region_N 8 (fun W : World => W.cell? ⟨wr.heap.size, 2, none⟩ = some (.int .i64 (j : Nat))) (by kernel_rfl) ?_
              have hR : (fun W : World => W.cell? ⟨wr.heap.size, 2, none⟩ = some (.int .i64 (j : Nat))) w9.drew := d2'
              clear hdr
              (refine wpAnyN_take (i := 0) (v := ?_) (noDefers_of (by kernel_rfl)) rfl (by kernel_rfl) (by kernel_rfl) (fun _ _ _ h => by first | exact h | cases h.1) (fun _ => by first | rfl | simp [Oper.about]) (Or.inl ⟨by rfl, ?_⟩) hR ?_; rotate_left; (focus (intro w hSw; (try dsimp only at hSw); go_simp; (try with_reducible rfl))); (try simp only [put_laws])); (refine wpAnyN_take (i := 1) (v := ?_) (noDefers_of (by kernel_rfl)) rfl (by kernel_rfl) (by kernel_rfl) (fun _ _ _ h => by first | exact h | cases h.1) (fun _ => by first | rfl | simp [Oper.about]) (Or.inl ⟨by rfl, ?_⟩) hR ?_; rotate_left; (focus (intro w hSw; (try dsimp only at hSw); go_simp; (try with_reducible rfl))); (try simp only [put_laws])); (refine wpAnyN_take (i := 2) (v := ?_) (noDefers_of (by kernel_rfl)) rfl (by kernel_rfl) (by kernel_rfl) (fun _ _ _ h => by first | exact h | cases h.1) (fun _ => by first | rfl | simp [Oper.about]) (Or.inl ⟨by rfl, ?_⟩) hR ?_; rotate_left; (focus (intro w hSw; (try dsimp only at hSw); go_simp; (try with_reducible rfl))); (try simp only [put_laws])); (refine wpAnyN_take (i := 3) (v := ?_) (noDefers_of (by kernel_rfl)) rfl (by kernel_rfl) (by kernel_rfl) (fun _ _ _ h => by first | exact h | cases h.1) (fun _ => by first | rfl | simp [Oper.about]) (Or.inl ⟨by rfl, ?_⟩) hR ?_; rotate_left; (focus (intro w hSw; (try dsimp only at hSw); go_simp; (try with_reducible rfl))); (try simp only [put_laws])); (refine wpAnyN_take (i := 4) (v := ?_) (noDefers_of (by kernel_rfl)) rfl (by kernel_rfl) (by kernel_rfl) (fun _ _ _ h => by first | exact h | cases h.1) (fun _ => by first | rfl | simp [Oper.about]) (Or.inl ⟨by rfl, ?_⟩) hR ?_; rotate_left; (focus (intro w hSw; (try dsimp only at hSw); go_simp; (try with_reducible rfl))); (try simp only [put_laws]))
              (refine wpAnyN_one (i := 5) rfl (by kernel_rfl) (by rfl) (fun K hK => ?_); (try simp only [elem_laws]))
              go_simp
              refine ⟨trivial, ?_⟩
              refine (callsIn_wide.2 (line_hold HJ.out HEa.out HIa.out)).mono ?_
              rintro e wb ⟨rfl, hbb⟩
              have hR2 : wb.cell? ⟨wr.heap.size, 2, none⟩ = some (.int .i64 (j : Nat)) := (World.cell?_of_block (a := ⟨wr.heap.size, 2, none⟩) (hbb.block _ HLT9.out)).trans hR
              refine hK _ _ (fun _ => hR2) ?_
              clear hK K hR
              have hR : (fun W : World => W.cell? ⟨wr.heap.size, 2, none⟩ = some (.int .i64 (j : Nat))) wb := hR2
              clear hR2 d2'
              have hIb := HIa.out.below hbb
              have hLe : (d.evict 5 j).seen = d.seen := by unfold Dv.evict; split <;> rfl
              rw [hLe]
              obtain ⟨L, hL⟩ : ∃ L, lineAt d.seen j = L := ⟨_, rfl⟩
              rw [hL] at HM9 ⊢
              obtain ⟨Wc, hWc⟩ : ∃ Wc, wb.alloc (.cells (arr8 L) 48) = Wc := ⟨_, rfl⟩
              have bc : Below wb.heap.size wb Wc := by rw [← hWc]; exact (Below.refl _ _).alloc (Nat.le_refl _) _
              have hxc : Box8 Wc wb.heap.size L := by rw [← hWc]; exact Box8.new _ _
              obtain ⟨vv, gg, s1, s2, s3, s4, s5, s5n, s6⟩ := hIb.slot (Nat.le_refl _) HJ.out
              have HPUT := Lib.hid (s6 Wc wb.heap.size (.slice (some ⟨wb.heap.size, 0, none⟩) 1 1) [L] (rowAt_box hxc) (.inr (Nat.le_refl _)) ⟨bc.os, bc.tape, bc.output, bc.size, fun b hb _ => bc.block b hb⟩)
              have cY := (World.cell?_of_block (a := ⟨Y, j, none⟩) (bc.block _ s3)).trans s1
              have fY := (World.frozen?_of_block (a := ⟨Y, j, none⟩) (bc.block _ s3)).trans s2
              have hlY := Nat.lt_of_lt_of_le s3 bc.size
              have hR2 : Wc.cell? ⟨wr.heap.size, 2, none⟩ = some (.int .i64 (j : Nat)) := (World.cell?_of_block (a := ⟨wr.heap.size, 2, none⟩) (bc.block _ (Nat.lt_of_lt_of_le HLT9.out hbb.size))).trans hR
              have hlx := Nat.lt_of_lt_of_le (Nat.lt_of_lt_of_le HLT9.out hbb.size) bc.size
              simp only [arr8] at hWc
              have HWc := Lib.hid hWc
              have HLL : Hid (∀ i, (updM m j [L] i).length ≤ k + 1 + 1) := show ∀ i, _ from fun i => by
                unfold updM
                split
                · simp
                · exact Nat.le_trans (HL.out i) (Nat.le_succ _)
              clear bc hxc s1 s2 s3 s4 s5 s5n s6 hIb hLe hL hbb hWc
              (try simp only [put_laws])
              (refine wpAnyN_one (i := 6) rfl (by kernel_rfl) (by rfl) (fun K hK => ?_); (try simp only [elem_laws]))
              simp only [arr8]
              go_simp
              rw [HWc.out]
              refine hK _ _ (fun _ => hR2) ?_
              clear hK K hR
              have hR : (fun W : World => W.cell? ⟨wr.heap.size, 2, none⟩ = some (.int .i64 (j : Nat))) Wc := hR2
              (try simp only [put_laws])
              (refine wpAnyN_one (i := 7) rfl (by kernel_rfl) (by rfl) (fun K hK => ?_); (try simp only [elem_laws]))
              go_simp
              refine hK _ _ (fun _ => hR2) ?_
              clear hK K
              (try simp only [put_laws])
              (refine wpAnyN_last rfl (by kernel_rfl) (by rfl) (fun K hK => ?_); (try simp only [elem_laws]))
              clear hR
              go_simp
              refine hK _ _ ?_
              clear hK K
              (try simp only [put_laws])
              refine wpAnyN_done (by kernel_rfl) ?_ _
              refine ⟨rfl, ?_⟩
              gi_wp2_with fail
              refine ⟨holdInv_mk (k + 1) (d.evict 5 j) (updM m j [L]) (by omega) HPUT.out HM9.out HLL.out (by go_num), ?_⟩
              simp [intOf]
              omega
            · have hr' : inR 5 line = false := by simpa using hr
              have HEV := Lib.hid (evict_keep line HIR.out HB8.out)
              rw [hr'] at HEV
              have hM9 : MayInv 5 (d.evict 5 line) m := by
                have h := HSTEP.out
                have e : mayStep d 5 m ⟨5, at_, line, word, from_, mk⟩ = m := by
                  unfold mayStep
                  rw [if_neg (show ¬ (5 : Int) = 3 by decide), if_neg (show ¬ (5 : Int) = 4 by decide), if_pos rfl, if_neg hr]
                rw [e] at h
                simpa [holdStep] using h
              clear hr hr'
              gi_wp2_with fail
              rw [HW8.out]
              gi_wp2_with fail
              refine ⟨trivial, ?_⟩
              refine (callsIn_wide.2 HEV.out).mono ?_
              rintro e w9 ⟨rfl, hs9, hI9, -⟩
              clear hs9 d0 d1 d2 d3 d4
              rw [show errR false = 4 from rfl]
              gi_wp2_with fail
              refine ⟨trivial, ?_⟩
              refine (callsIn_wide.2 (num4_any _ _)).mono ?_
              rintro e wn ⟨rfl, hwn⟩
              rw [hwn]
              clear hwn wn
              gi_wp2_with fail
              refine ⟨holdInv_mk (k + 1) (d.evict 5 line) (m) (by omega) hI9 hM9 (fun j => Nat.le_trans (HL.out j) (Nat.le_succ _)) (by go_num), ?_⟩
              simp [intOf]
              omega
          · gi_wp2_with fail
            rw [HW8.out]
            gi_wp2_with fail
            refine ⟨holdInv_mk (k + 1) (d) (m) (by omega) HI8.out HM.out (fun j => Nat.le_trans (HL.out j) (Nat.le_succ _)) (by go_num), ?_⟩
            simp [intOf]
            omega
        · skip
          obtain rfl : k = N := by omega
          have hSB : SlB wr (fun k => w'.heap.size ≤ k) (.slice ma M mc) marks := HMM.out.low hI.low
          have HCR := Lib.hid (crash_hold (by have := HM.out; omega) hI hSB)
          have HMC : Hid (∀ j, j < 5 → lineAt (d.crash marks).seen j ∈ m j) := show ∀ j, _ from fun j hj => may_crash hI.ok hM marks j hj
          have HL := Lib.hid hL
          clear hI hM hL hSB
          gi_wp2_with fail
          refine ⟨trivial, ?_⟩
          refine (callsIn_wide.2 HCR.out).mono ?_
          rintro e w5 ⟨rfl, hs5, hI5⟩
          obtain ⟨d1, hd1⟩ : ∃ d1, d.crash marks = d1 := ⟨_, rfl⟩
          have HD1 := Lib.hid hd1
          rw [hd1] at HMC hI5
          have HI5 := Lib.hid hI5
          clear hs5 hI5 hd1 HCR
          gi_wp2_with fail
          refine ⟨trivial, ?_⟩
          refine (callsIn_wide.2 (num4_any _ _)).mono ?_
          rintro e wn ⟨rfl, hwn⟩
          rw [hwn]
          clear hwn wn
          gi_wp2_with fail
          gi_loopw [14] (fun i W => ∃ j : Nat, j ≤ 5 ∧ i = .int .i64 (j : Nat) ∧ Hid (HoldI w' W B Y 5 d1 m ds)) (fun i _ => 5 - (intOf i).toNat)
          case atStart => exact ⟨0, by omega, rfl, HI5⟩
          case round =>
            rename World => wo
            obtain ⟨j, hj, rfl, HJ⟩ := hrel
            by_cases hlt5 : j < 5
            · have HLN := Lib.hid (line_hold hlt5 (HE.out.below HJ.out.low HE.out.room) HJ.out)
              obtain ⟨L, hL⟩ : ∃ L, lineAt d1.seen j = L := ⟨_, rfl⟩
              have HFD := Lib.hid (found8 (HMC.out j hlt5))
              rw [hL] at HLN HFD
              have k5 : (j : Int) < 5 := by omega
              have HJ5 := Lib.hid hlt5
              clear hL
              gi_wp2_with fail
              refine ⟨trivial, ?_⟩
              refine (callsIn_wide.2 HLN.out).mono ?_
              rintro e w6 ⟨rfl, hb6⟩
              have hI6 := HJ.out.below hb6
              obtain ⟨W7, hW7⟩ : ∃ W7, w6.alloc (.cells (arr8 L) 48) = W7 := ⟨_, rfl⟩
              have b7 : Below w6.heap.size w6 W7 := by rw [← hW7]; exact (Below.refl _ _).alloc (Nat.le_refl _) _
              have hx7 : Box8 W7 w6.heap.size L := by rw [← hW7]; exact Box8.new _ _
              have HI7 := Lib.hid (And.intro (hI6.below b7) hx7)
              simp only [arr8] at hW7 ⊢
              have HW7 := Lib.hid hW7
              clear hb6 hI6 b7 hx7 hW7
              gi_wp2_with fail
              rw [HW7.out]
              gi_wp2_with fail
              obtain ⟨nj, hnj⟩ : ∃ nj, (m j).length = nj := ⟨_, rfl⟩
              have HNJ := Lib.hid hnj
              have hnj2 : nj ≤ 100 := by rw [← hnj]; exact Nat.le_trans (HL.out j) (by omega)
              clear hnj
              gi_loopw [16, 17] (fun fv iv W => ∃ i : Nat, i ≤ nj ∧ iv = .int .i64 (i : Nat) ∧ fv = .bool (((m j).take i).any fun x => same8 x L) ∧ Hid (HoldI w' W B Y 5 d1 m ds ∧ Box8 W w6.heap.size L)) (fun _ iv _ => nj - (intOf iv).toNat)
              case atStart => exact ⟨0, by omega, rfl, rfl, HI7⟩
              case round =>
                obtain ⟨i, hi, rfl, rfl, HQ⟩ := hrel
                obtain ⟨vv, gg, s1, s2, s3, s4, s5, s5n, s6⟩ := HQ.out.1.slot (Nat.le_refl _) HJ5.out
                obtain ⟨-, t2, -, off, cc, rfl, -, t6, -⟩ := s5
                rw [HNJ.out] at s1
                have HT6 := Lib.hid t6
                clear s2 s3 s4 s5n s6 t6
                by_cases hin : i < nj
                · have hi2 : (i : Int) < (nj : Int) := by omega
                  have hil : i < (m j).length := by rw [HNJ.out]; exact hin
                  have HTK : Hid (((m j).take (i + 1)).any (fun x => same8 x L) = (((m j).take i).any (fun x => same8 x L) || same8 (m j)[i] L)) := show _ = _ by
                    rw [List.take_succ_eq_append_getElem hil, List.any_append]
                    simp
                  obtain ⟨A, hA⟩ : ∃ A, (m j)[i] = A := ⟨_, rfl⟩
                  have HC8 : Hid (∀ t y, (cells8 A)[t]? = some y → t < 8 → _ = some y) := Lib.hid fun t y hy ht => by
                    exact (show _ = some y from HT6.out (i * 8 + t) y ((flatC_at cells8_length (m j) i hil t ht).trans (by rw [hA]; exact hy)))
                  rw [hA] at HTK
                  clear hA hil
                  cases hbf : ((m j).take i).any (fun x => same8 x L) with
                  | true =>
                    have HTR : Hid (((m j).take (i + 1)).any (fun x => same8 x L) = true) := show _ = _ by rw [HTK.out, hbf]; rfl
                    gi_wp2_with fail
                    gi_quiet (fail)
                    gi_wp2_with fail
                    go_roundw
                    case rel => exact ⟨i + 1, by omega, by go_num, by rw [HTR.out], Lib.hid ⟨HQ.out.1.below (below_drewN (Below.refl _ _) _), HQ.out.2.below (below_drewN (Below.refl _ _) _)⟩⟩
                    case measure => simp [intOf]; omega
                  | false =>
                    have HTR : Hid (((m j).take (i + 1)).any (fun x => same8 x L) = same8 A L) := show _ = _ by rw [HTK.out, hbf]; rfl
                    have e0 := HC8.out 0 _ rfl (by decide)
                    have e1 := HC8.out 1 _ rfl (by decide)
                    have e2 := HC8.out 2 _ rfl (by decide)
                    have e3 := HC8.out 3 _ rfl (by decide)
                    have e4 := HC8.out 4 _ rfl (by decide)
                    have e5 := HC8.out 5 _ rfl (by decide)
                    have e6 := HC8.out 6 _ rfl (by decide)
                    have e7 := HC8.out 7 _ rfl (by decide)
                    simp only [← Nat.add_assoc, Nat.add_zero] at e0 e1 e2 e3 e4 e5 e6 e7
                    obtain ⟨y0, y1, y2, y3, y4, y5, y6, y7⟩ := HQ.out.2.cells
                    have hq := fun W => eql8 A L W
                    simp only [arr8] at hq
                    gi_wp2_with fail
                    gi_quiet (fail)
                    gi_wp2_with fail
                    go_roundw
                    case rel => exact ⟨i + 1, by omega, by go_num, by rw [HTR.out], Lib.hid ⟨HQ.out.1.below (below_drewN (Below.refl _ _) _), HQ.out.2.below (below_drewN (Below.refl _ _) _)⟩⟩
                    case measure => simp [intOf]; omega
                · obtain rfl : i = nj := by omega
                  have hall : ((m j).take i).any (fun x => same8 x L) = true := by rw [List.take_of_length_le (by rw [HNJ.out]; exact Nat.le_refl _)]; exact HFD.out
                  rw [hall]
                  gi_wp2_with fail
                  go_roundw
                  case rel => exact ⟨j + 1, by omega, by go_num, Lib.hid HQ.out.1⟩
                  case measure => simp [intOf]; omega
            · obtain rfl : j = 5 := by omega
              have hlo := HJ.out.low
              have HDV := Lib.hid HJ.out.dev
              have HMS := Lib.hid HJ.out.marks
              have HLO := Lib.hid hlo
              have HCP := Lib.hid (copy_in HDV.out)
              clear hlo
              gi_wp2_with fail
              refine ⟨trivial, ?_⟩
              refine (callsIn_wide.2 HCP.out).mono ?_
              rintro e w6 ⟨C, rfl, hb6, hc6⟩
              obtain ⟨W7, hW7⟩ : ∃ W7, w6.alloc (.cells #[.bool true, .bool true] 4) = W7 := ⟨_, rfl⟩
              have b7 : Below w6.heap.size w6 W7 := by rw [← hW7]; exact (Below.refl _ _).alloc (Nat.le_refl _) _
              have hx7 : W7.heap[w6.heap.size]? = some (.cells #[.bool true, .bool true] 4) := by rw [← hW7]; exact World.alloc_heap_new _ _
              have hsl7 : SlB W7 (fun k => k < w6.heap.size) (.slice (some ⟨w6.heap.size, 0, none⟩) 2 2) [true, true] := ⟨_, 2, rfl, fun _ => ⟨_, 0, rfl, (Array.getElem?_eq_some_iff.1 hx7).1, Nat.lt_irrefl _, fun t ht => by
                have : t = 0 ∨ t = 1 := by simp at ht; omega
                rcases this with rfl | rfl <;> simp [World.cell?, hx7]⟩⟩
              have HB6 := Lib.hid hb6
              have HB7 := Lib.hid b7
              have HCC := Lib.hid (crash_new [true, true] (by decide) hb6.size hc6 b7 hsl7)
              have HW7 := Lib.hid hW7
              clear hb6 hc6 b7 hx7 hsl7 hW7
              gi_wp2_with fail
              rw [HW7.out]
              gi_wp2_with fail
              refine ⟨trivial, ?_⟩
              refine (callsIn_wide.2 HCC.out).mono ?_
              rintro e w8 ⟨rfl, hb8, hc8⟩
              have hbb : Below wo.heap.size wo w8 := (HB6.out.trans (HB7.out.mono HB6.out.size)).trans hb8
              have HBB := Lib.hid hbb
              have HSM := Lib.hid (same_in hc8 (HDV.out.below hbb))
              have hse : (d1.crash [true, true]).same d1 = true := by rw [← HD1.out, crash_again]; exact same_self _
              rw [hse] at HSM
              have HST := Lib.hid (fun W (hb : Below wo.heap.size wo W) => state_in (HDV.out.below hb))
              have hr1 : d1.waits.length = 0 := by rw [← HD1.out]; exact (crash_rest d marks).1
              have hr2 : dirty d1.seen d1.stays 5 = 0 := by rw [← HD1.out]; exact (crash_rest d marks).2
              rw [hr1, hr2] at HST
              have hem : ∀ W, (binOp .eql 62 (.agg #[.int .i64 5, .int .i64 0, .int .i64 0]) (.agg #[.int .i64 5, .int .i64 0, .int .i64 0])).run Tryd.prog W = .ok (.bool true) W := fun W => by rw [eql_media]; rfl
              clear hbb hb8 hc8 hse hr1 hr2
              gi_wp2_with fail
              refine ⟨trivial, ?_⟩
              refine (callsIn_wide.2 (num4_any _ _)).mono ?_
              rintro e wn ⟨rfl, hwn⟩
              rw [hwn]
              clear hwn wn
              gi_wp2_with fail
              refine ⟨trivial, ?_⟩
              refine (callsIn_wide.2 HSM.out).mono ?_
              rintro e w9 ⟨rfl, hb9⟩
              have HB9 := Lib.hid (HBB.out.trans (hb9.mono HBB.out.size))
              clear hb9
              gi_wp2_with fail
              refine ⟨trivial, ?_⟩
              refine (callsIn_wide.2 (HST.out _ HB9.out)).mono ?_
              rintro e wa ⟨rfl, hba⟩
              have HBA := Lib.hid (HB9.out.trans (hba.mono HB9.out.size))
              clear hba
              gi_wp2_with fail
              refine ⟨trivial, ?_⟩
              refine (callsIn_wide.2 (HW4.out _ (HLO.out.trans (HBA.out.mono HLO.out.size)))).mono ?_
              rintro e wz ⟨rfl, hbz⟩
              have HBZ := Lib.hid (HBA.out.trans (hbz.mono HBA.out.size))
              clear hbz
              gi_wp2_with fail
              refine leaves_marks ds wo.heap.size _ (HMS.out.below HBZ.out) fun W' hs => ⟨.bool true, ?_, rfl, (HLO.out.trans (HBZ.out.mono HLO.out.size)).trans hs.1⟩
              simp [results, Tryd.results4, go_sem]
theorem hold4_law {v u : Value} {xs : List Ask} {marks : List Bool} (w : World) (hen : Ends w) (hl : xs.length ≤ 9223372036854775807) (hx : ∀ y ∈ xs, -9223372036854775808 ≤ y.at_ ∧ y.at_ ≤ 9223372036854775807) (hs : SlA w (fun k => w.heap.size ≤ k) v xs) (hm : SlB w (fun k => w.heap.size ≤ k) u marks) :
    Calls Tryd.prog 4 #[v, u] w fun e w' => e = .returned (.bool true) ∧ Below w.heap.size w w' := by
  by_cases hf : fewA xs 40 = true
  · by_cases h60 : marks.length ≤ 60
    · exact hold4_some w hen hl hx hs hm hf h60
    · exact hold4_few w hen hl hs hm (.inr (by omega))
  · exact hold4_few w hen hl hs hm (.inl (by simpa using hf))
end Go.Proofs.YtohdgjmmekgcmaaDoor
