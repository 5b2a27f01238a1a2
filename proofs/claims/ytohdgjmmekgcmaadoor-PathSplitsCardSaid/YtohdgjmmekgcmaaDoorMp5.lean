/-
  Texts PthC to PthI, as one.
-/
import Derived.Test.YtohdgjmmekgcmaaDoorMp4
import Derived.Shelf.Strings.SplitShaped
import Derived.Shelf.Strings.OnBuilder
import Derived.Shelf.Slices.Turned
import Derived.Test.YtohdgjmmekgcmaaDoorChecked
import Derived.Deep.RegionHeld3
/-
  path: the list's methods that read; first; take, as an append to names; the closure of next.
-/
namespace Go.Proofs.YtohdgjmmekgcmaaDoor
open Go.RowKit Go.Shelf Go.Sort

/-- s[:k:k] of a slice, nil let in. -/
theorem cut_bothV {P : Program} {t e : TypeId} {i : TypeInfo} (h1 : P.underlying t = some (.slice e)) (h2 : P.info? e = some i) (h3 : i.size = 1) {W : World} {v : Value} {n : Nat} {xs : List Value} (hs : Vec W v n 1 xs) (k : Nat) (hk : k ≤ n) :
    ∃ r, (∀ w, (Instr.sliceAt t v none (some (.int .i64 k)) (some (.int .i64 k))).run P w = .ok r w) ∧ (∀ W', Vec W' v n 1 xs → Vec W' r k 1 (xs.take k)) := by
  obtain ⟨hl, a, cap, rfl, hlc, -⟩ := hs
  have he : P.elem t = e := by simp [Program.elem, h1]
  have ht : P.underlying t = some (.slice (P.elem t)) := by rw [he]; exact h1
  refine ⟨.slice a k k, fun w => ?_, fun W' hs' => ?_⟩
  · rw [run_sliceAt_slice w t _ _ _ _ ht, run_slice_hm w t a n cap ht .i64 .i64 (k : Int) (k : Int) (by omega) (by omega) (by omega), he]
    simp [sizeOf, typeInfo, h2, h3, sliced, Addr.add, Result.andThen]
  · obtain ⟨-, a', c', e', hl', hc⟩ := hs'
    simp only [Value.slice.injEq] at e'
    obtain ⟨rfl, _, rfl⟩ := e'
    refine ⟨by rw [List.length_take]; omega, a, k, rfl, Nat.le_refl _, fun h0 => ?_⟩
    obtain ⟨b, off, h1, h2, h3⟩ := hc (by omega)
    refine ⟨b, off, h1, h2, fun j y hj => h3 j y ?_⟩
    have hjk : j < k := by
      have := (List.getElem?_eq_some_iff.1 hj).1
      rw [List.length_take] at this; omega
    rwa [List.getElem?_take_of_lt hjk] at hj
theorem lsNames_any (v : Value) (w : World) : Calls Tryd.prog 70 #[v] w fun e w' => e = .returned v ∧ w = w' := by
  go_enter Tryd.func70, Tryd.ntmps70
  go_wp2
  go_ret
  exact ⟨rfl, rfl⟩
theorem lsMany_any (v : Value) (l : List (List UInt8)) (w : World) (hv : TxS w v l) : Calls Tryd.prog 80 #[v] w fun e w' => e = .returned (.int .i64 (l.length : Nat)) ∧ w = w' := by
  obtain ⟨a, c, rfl⟩ := hv.slice
  clear hv
  go_enter Tryd.func80, Tryd.ntmps80
  go_wp2
  go_ret
  exact ⟨rfl, rfl⟩
theorem lsRoot_any (v : Value) (l : List (List UInt8)) (w : World) (hv : TxS w v l) : Calls Tryd.prog 71 #[v] w fun e w' => e = .returned (.bool (decide (l = []))) ∧ w = w' := by
  obtain ⟨a, c, rfl⟩ := hv.slice
  clear hv
  go_enter Tryd.func71, Tryd.ntmps71
  go_wp2
  go_ret
  refine ⟨ret_bool ?_, rfl⟩
  cases l with
  | nil => rfl
  | cons x l => simp; omega
theorem infoLs : Tryd.prog.underlying 131 = some (.slice 9) := Tryd.underlying131
theorem lsFirst_any (v : Value) (l : List (List UInt8)) (k : Nat) (hk : k ≤ l.length) (w : World) (hv : TxS w v l) :
    Calls Tryd.prog 99 #[v, .int .i64 (k : Nat)] w fun e w' => ∃ u, e = .returned u ∧ w = w' ∧ (∀ W, TxS W v l → TxS W u (l.take k)) := by
  obtain ⟨i0, hi, hz0, hz1, hz2⟩ := info_parts infoStr
  obtain ⟨r, hr, hx⟩ := cut_bothV infoLs hi hz1 hv k hk
  have HX := Lib.hid hx
  clear hx hv hi
  go_enter Tryd.func99, Tryd.ntmps99
  go_wp2
  go_ret
  refine ⟨_, rfl, rfl, fun W hW => ?_⟩
  have := HX.out W hW
  unfold TxS
  rw [List.length_take, Nat.min_eq_left hk, List.map_take]
  exact this
theorem lsAbove_any (v : Value) (l : List (List UInt8)) (k : Nat) (hk : l.length = k + 1) (hb : k ≤ 1000000) (w : World) (hv : TxS w v l) :
    Calls Tryd.prog 72 #[v] w fun e w' => ∃ u, e = .returned u ∧ w = w' ∧ (∀ W, TxS W v l → TxS W u (l.take k)) := by
  have HF := Lib.hid (lsFirst_any v l k (by omega))
  have HV := Lib.hid hv
  obtain ⟨a, c, rfl⟩ := hv.slice
  clear hv
  rw [hk] at HF HV ⊢
  have e1 : ((k + 1 : Nat) : Int) - 1 = (k : Nat) := by omega
  clear hk
  go_enter Tryd.func72, Tryd.ntmps72
  go_wp2_with (go_at_call 99; refine (HF.out _ HV.out).mono ?_; rintro e w' ⟨u, rfl, rfl, hu⟩)
  go_ret
  exact ⟨_, rfl, rfl, hu⟩
theorem lsLast_any (v : Value) (l : List (List UInt8)) (k : Nat) (hk : l.length = k + 1) (hb : k ≤ 1000000) (w : World) (hv : TxS w v l) :
    Calls Tryd.prog 74 #[v] w fun e w' => e = .returned (encStr (l[k]?.getD [])) ∧ w = w' := by
  obtain ⟨a, cap, b, off, rfl, hlc, ha, hc⟩ := hv.cell
  obtain rfl := ha (by omega)
  have c1 := (hc (by omega)).2 k (by omega)
  clear hv hc ha
  obtain ⟨x, hx⟩ : ∃ x, x = l[k]?.getD [] := ⟨_, rfl⟩
  rw [← hx] at c1 ⊢
  rw [hk] at hlc ⊢
  have e1 : ((k + 1 : Nat) : Int) - 1 = (k : Nat) := by omega
  clear hk hx
  go_enter Tryd.func74, Tryd.ntmps74
  go_wp2
  go_ret
  exact ⟨rfl, rfl⟩
end Go.Proofs.YtohdgjmmekgcmaaDoor

/-
  label: the document's Sorted.
-/
namespace Go.Proofs.YtohdgjmmekgcmaaDoor
open Go.RowKit Go.Shelf Go.Sort

theorem drop_above {X : List (List UInt8)} (h : Rising X) {k : Nat} (hk : k < X.length) {x : List UInt8} (hx : x < X[k]) : ∀ z ∈ X.drop k, x < z := fun z hz => by
  rw [List.drop_eq_getElem_cons hk] at hz
  rcases List.mem_cons.1 hz with e | e
  · rw [e]; exact hx
  · have h2 : Rising (X.drop k) := List.Pairwise.sublist (List.drop_sublist _ _) h
    rw [List.drop_eq_getElem_cons hk] at h2
    exact List.lt_trans hx ((List.pairwise_cons.1 h2).1 z e)
theorem vec_newL (W : World) (cs : Array Value) (t : TypeId) (n s : Nat) (h : cs.size = n * s) : Vec (W.alloc (.cells cs t)) (.slice (some ⟨W.heap.size, 0, none⟩) n n) n s cs.toList :=
  ⟨by rw [Array.length_toList]; exact h, _, _, rfl, Nat.le_refl _, fun _ => ⟨_, _, rfl, by simp, fun j y hy => by
    have e := World.alloc_heap_new W (.cells cs t)
    rw [Array.getElem?_toList] at hy
    unfold World.cell?
    simp only [e, Nat.zero_add]
    exact hy⟩⟩
end Go.Proofs.YtohdgjmmekgcmaaDoor

/-
  path: take (an append to the names of a path under way); the closure that next makes; every, asked of each.
-/
namespace Go.Proofs.YtohdgjmmekgcmaaDoor
open Go.RowKit Go.Shelf Go.Sort

/-- A path under way in a box; its row lies behind the box. -/
def RowL (W : World) (b : Nat) (l : List (List UInt8)) : Prop := ∃ v, Boxed W b 133 v ∧ W.ownsRow (b + 1) 9 1 v l.length (l.map encStr)
theorem RowL.below {W W' : World} {b : Nat} {l : List (List UInt8)} (h : RowL W b l) (hb : Below W.heap.size W W') : RowL W' b l := by
  obtain ⟨v, hv, hr⟩ := h
  exact ⟨v, (hb.block b hv.lt).trans hv, own_keptG hr fun g _ hg => hb.block g hg⟩
theorem RowL.new (W : World) : RowL (W.alloc (.cells #[.slice none 0 0] 133)) W.heap.size [] := ⟨_, Boxed.new W _ _, World.ownsRow_nil _ _ _ _⟩
theorem errN_right {s : List UInt8} (h : rightN s = true) : errN s = 0 := if_pos h
theorem errN_wrong {s : List UInt8} (h : rightN s = false) : errN s = 160 := if_neg (by simp [h])
theorem tLsNe : (133 : Nat) ≠ 9 := by decide
set_option maxRecDepth 100000 in
set_option maxHeartbeats 1000000 in
theorem lsTake_any (b : Nat) (l : List (List UInt8)) (hl : l.length ≤ 1000) (x : List UInt8) (w : World) (h : RowL w b l) :
    Calls Tryd.prog 102 #[.pointer (some ⟨b, 0, none⟩), encStr x] w fun e w' => e = .returned (.bool (rightN x)) ∧ RowL w' b (if rightN x then l ++ [x] else l) ∧ Below b w w' := by
  obtain ⟨i0, hi, hz0, hz1, hz2⟩ := info_parts infoStr
  have HI := Lib.hid hi
  clear hi
  cases hr : rightN x with
  | false =>
    have HE := Lib.hid (errN_wrong hr)
    have HH := Lib.hid h
    clear h hr
    go_enter Tryd.func102, Tryd.ntmps102
    go_wp2_with fail
    refine (laCheck_any x _).mono ?_
    rintro e w1 ⟨rfl, hb1⟩
    rw [HE.out]
    have HB := Lib.hid hb1
    clear hb1
    go_wp2_with fail
    go_ret
    obtain ⟨v, hv, -⟩ := HH.out
    exact ⟨rfl, HH.out.below HB.out, HB.out.mono (Nat.le_of_lt hv.lt)⟩
  | true =>
    have HE := Lib.hid (errN_right hr)
    clear hr
    obtain ⟨v, hv, hrow⟩ := h
    have hlt := hv.lt
    go_enter Tryd.func102, Tryd.ntmps102
    go_wp2_with fail
    refine (laCheck_any x _).mono ?_
    rintro e w1 ⟨rfl, hb1⟩
    rw [HE.out]
    have hv1 : Boxed w1 b 133 v := (hb1.block b hlt).trans hv
    have hr1 := own_keptG hrow (W' := w1) fun g _ hg => hb1.block g hg
    have b2 : Below w1.heap.size w1 (w1.alloc (.cells #[encStr x] 9)) := (Below.refl _ _).alloc (Nat.le_refl _) _
    have hlt1 := hv1.lt
    have HV1 := Lib.hid hv1
    have HB1 := Lib.hid hb1
    have HG2 := Lib.hid (GrowB.below (.inr hr1) b2)
    have HO2 := Lib.hid (own_keptG hr1 (W' := w1.alloc (.cells #[encStr x] 9)) fun g _ hg => b2.block g hg)
    have HV2 := Lib.hid (vec_newL w1 #[encStr x] 9 1 1 rfl)
    have c0 := hv1.cell
    have HN := Lib.hid hl
    have HLT := Lib.hid hlt
    clear hb1 hv hrow hr1 b2 hv1 hlt
    go_wp2_with (at_builtin; refine park ?_)
    unfold Park
    refine wpList_append_vec rfl _ _ 131 rfl 9 i0 _ 1 16 infoLs HI.out hz0 hz1 hz2 rfl (by decide) (b + 1) _ _ l.length 1 _ _ rfl rfl HG2.out HV2.out (one_strs [x]) (by have := HN.out; omega) (by have := HN.out; omega) (by simp; omega) ?_
    rintro v3 w3 g3 b3 ⟨g4, g5, g6⟩
    obtain ⟨a3, k3, rfl⟩ := g3.slice
    have hv3 : Boxed w3 b 133 v := (b3.block b (by omega)).trans (HV1.out.alloc _)
    have ho3 := g6 HO2.out
    have HO3 := Lib.hid ho3
    have HV3 := Lib.hid hv3
    have HB3 : Hid (Below b w w3) := show Below _ _ _ from (HB1.out.mono (Nat.le_of_lt HLT.out)).trans ((((Below.refl _ _).alloc (by omega) _).trans (b3.mono (by omega))))
    have c3 := hv3.cell
    have f3 := hv3.frozen
    clear c0 g3 b3 g4 g5 g6 hv3 ho3
    go_wp2_with fail
    go_ret
    refine ⟨rfl, ⟨_, HV3.out.set _, ?_⟩, HB3.out.setCell (p := ⟨b, 0, none⟩) (Nat.le_refl _) _⟩
    have := HO3.out.kept (grownBy_setCell' w3 b (.slice a3 (l.length + 1) k3)) (.inr (HV3.out.not_row tLsNe HO3.out).symm)
    rw [List.length_append, List.map_append]
    exact this
theorem all_take_succ {L : List (List UInt8)} {k : Nat} {x : List UInt8} (hk : k < L.length) (hx : x = L[k]?.getD []) (f : List UInt8 → Bool) : (L.take (k + 1)).all f = ((L.take k).all f && f x) ∧ L.take (k + 1) = L.take k ++ [x] := by
  have e : L.take (k + 1) = L.take k ++ [x] := by
    rw [List.take_succ_eq_append_getElem hk, hx]
    simp [hk]
  exact ⟨by rw [e, List.all_append]; simp, e⟩
theorem all_false_of_take {L : List (List UInt8)} {k : Nat} {f : List UInt8 → Bool} (h : (L.take k).all f = false) : L.all f = false := by
  rw [← List.take_append_drop k L, List.all_append, h]
  rfl
set_option maxRecDepth 100000 in
set_option maxHeartbeats 2000000 in
theorem evTake_any (b : Nat) (L : List (List UInt8)) (hl : L.length ≤ 1000) (v : Value) (w : World) (hv : TxS w v L) (hvb : ∀ W, Below b w W → TxS W v L) (h : RowL w b []) :
    Calls Tryd.prog 81 #[.func (.func 102) #[.pointer (some ⟨b, 0, none⟩)] #[], v] w fun e w' => e = .returned (.bool (L.all rightN)) ∧ (L.all rightN = true → RowL w' b L) ∧ Below b w w' := by
  obtain ⟨a, cap, vb, voff, rfl, hlc, ha, -⟩ := hv.cell
  have HVB := Lib.hid hvb
  have HH := Lib.hid h
  have HL := Lib.hid hl
  clear hv hvb h hl
  generalize hn : L.length = n at *
  have hnb := HL.out
  go_enter Tryd.func81, Tryd.ntmps81
  go_wp2
  go_loopw [9] (fun i wr => ∃ k : Nat, k ≤ n ∧ i = .int .i64 k ∧ Hid ((L.take k).all rightN = true) ∧ RowL wr b (L.take k) ∧ Below b w wr) (fun i _ => n - (intOf i).toNat)
  case atStart => exact ⟨0, Nat.zero_le _, rfl, Lib.hid rfl, HH.out, Below.refl _ _⟩
  case round =>
    obtain ⟨k, hk, rfl, HA, hr, hb⟩ := hrel
    have HR := Lib.hid hr
    have HB := Lib.hid hb
    by_cases hlt : k < n
    · obtain rfl := ha (by omega)
      have hcx := (HVB.out wr hb).cell
      obtain ⟨a1, cap1, b1, o1, e1, -, ha1, hc1⟩ := hcx
      simp only [Value.slice.injEq] at e1
      obtain ⟨e1, -, rfl⟩ := e1
      have ha2 := ha1 (by omega)
      rw [← e1] at ha2
      simp only [Option.some.injEq, Addr.mk.injEq, and_true] at ha2
      obtain ⟨rfl, rfl⟩ := ha2
      have c1 := (hc1 (by omega)).2 k (by omega)
      have hn' : ((k : Nat) : Int) < (n : Int) := by omega
      obtain ⟨x, hx⟩ : ∃ x, x = L[k]?.getD [] := ⟨_, rfl⟩
      rw [← hx] at c1
      have HS := Lib.hid (all_take_succ (by omega) hx rightN)
      have HK : Hid ((L.take k).length ≤ 1000) := show _ ≤ _ by rw [List.length_take]; have := HL.out; omega
      clear hx hc1 ha1 e1 hr hb
      go_wp2_with fail
      refine (lsTake_any b (L.take k) HK.out x _ HR.out).mono ?_
      rintro e w1 ⟨rfl, hr1, hb1⟩
      have HB1 : Hid (Below b w w1) := show Below _ _ _ from HB.out.trans hb1
      cases hx : rightN x with
      | true =>
        rw [hx, if_pos rfl, ← HS.out.2] at hr1
        have HR1 := Lib.hid hr1
        have HA1 : Hid ((L.take (k + 1)).all rightN = true) := show _ = _ by rw [HS.out.1, HA.out, hx]; rfl
        clear hr1 hb1 hx
        go_wp2_with fail
        go_roundw
        case rel => exact ⟨k + 1, by omega, by go_num, HA1, HR1.out, HB1.out⟩
        case measure => simp [intOf]; omega
      | false =>
        have HF : Hid (L.all rightN = false) := show _ = _ from all_false_of_take (k := k + 1) (by rw [HS.out.1, hx]; simp)
        clear hr1 hb1 hx
        go_wp2_with fail
        go_ret
        refine ⟨ret_bool (by rw [HF.out]), fun h => ?_, HB1.out⟩
        rw [HF.out] at h
        cases h
    · obtain rfl : k = n := by omega
      have HT : Hid (L.take k = L) := show _ = _ from List.take_of_length_le (by omega)
      rw [HT.out] at HA HR
      clear hr hb
      go_wp2_with fail
      go_ret
      exact ⟨ret_bool (by rw [HA.out]), fun _ => HR.out, HB.out⟩
end Go.Proofs.YtohdgjmmekgcmaaDoor

/-
  strings.SplitN, strings.Join, slices.Contains at texts: laid at this program (written by gen_pth.py).
-/
namespace Go.Proofs.YtohdgjmmekgcmaaDoor
open Go.RowKit Go.Shelf
def lay_splitN_ren : Go.Shelf.Ren := ⟨fun | 147 => 97 | 221 => 106 | 268 => 114 | 138 => 115 | 143 => 116 | 195 => 125 | 197 => 126 | 218 => 127 | 219 => 128 | 260 => 131 | 217 => 132 | 225 => 133 | 224 => 134 | 267 => 135 | 266 => 136 | 314 => 137 | n => n, fun | 9 => 9 | 3 => 3 | 31 => 65 | 4 => 4 | 0 => 0 | 105 => 197 | 21 => 21 | 5 => 5 | 46 => 204 | 119 => 205 | 139 => 208 | 138 => 207 | 146 => 210 | 51 => 209 | n => n, fun | 1 => 1 | 3 => 2 | 4 => 3 | n => n⟩
theorem lay_splitN : Go.Proofs.LaysM.n147 Tryd.prog lay_splitN_ren :=
  { mixed := (by kernel_rfl),
    f138 := Tryd.func115.trans (congrArg some (by kernel_rfl)),
    f143 := Tryd.func116.trans (congrArg some (by kernel_rfl)),
    f147 := Tryd.func97.trans (congrArg some (by kernel_rfl)),
    f195 := Tryd.func125.trans (congrArg some (by kernel_rfl)),
    f197 := Tryd.func126.trans (congrArg some (by kernel_rfl)),
    f217 := Tryd.func132.trans (congrArg some (by kernel_rfl)),
    f218 := Tryd.func127.trans (congrArg some (by kernel_rfl)),
    f219 := Tryd.func128.trans (congrArg some (by kernel_rfl)),
    f221 := Tryd.func106.trans (congrArg some (by kernel_rfl)),
    f224 := Tryd.func134.trans (congrArg some (by kernel_rfl)),
    f225 := Tryd.func133.trans (congrArg some (by kernel_rfl)),
    f260 := Tryd.func131.trans (congrArg some (by kernel_rfl)),
    f266 := Tryd.func136.trans (congrArg some (by kernel_rfl)),
    f267 := Tryd.func135.trans (congrArg some (by kernel_rfl)),
    f268 := Tryd.func114.trans (congrArg some (by kernel_rfl)),
    f314 := Tryd.func137.trans (congrArg some (by kernel_rfl)),
    t0 := Tryd.underlying0,
    a0 := Tryd.isAgg0,
    z0 := Tryd.sizeOf0,
    v0 := Tryd.zeroValue0,
    t3 := Tryd.underlying3,
    a3 := Tryd.isAgg3,
    z3 := Tryd.sizeOf3,
    v3 := Tryd.zeroValue3,
    t4 := Tryd.underlying4,
    a4 := Tryd.isAgg4,
    z4 := Tryd.sizeOf4,
    v4 := Tryd.zeroValue4,
    t5 := Tryd.underlying5,
    a5 := Tryd.isAgg5,
    z5 := Tryd.sizeOf5,
    v5 := Tryd.zeroValue5,
    t9 := Tryd.underlying9,
    a9 := Tryd.isAgg9,
    z9 := Tryd.sizeOf9,
    v9 := Tryd.zeroValue9,
    t21 := Tryd.underlying21,
    a21 := Tryd.isAgg21,
    z21 := Tryd.sizeOf21,
    v21 := Tryd.zeroValue21,
    t31 := Tryd.underlying65,
    a31 := Tryd.isAgg65,
    z31 := Tryd.sizeOf65,
    v31 := Tryd.zeroValue65,
    t46 := Tryd.underlying204,
    a46 := Tryd.isAgg204,
    z46 := Tryd.sizeOf204,
    v46 := Tryd.zeroValue204,
    t51 := Tryd.underlying209,
    a51 := Tryd.isAgg209,
    z51 := Tryd.sizeOf209,
    v51 := Tryd.zeroValue209,
    t105 := Tryd.underlying197,
    a105 := Tryd.isAgg197,
    z105 := Tryd.sizeOf197,
    v105 := Tryd.zeroValue197,
    t119 := Tryd.underlying205,
    a119 := Tryd.isAgg205,
    z119 := Tryd.sizeOf205,
    t138 := Tryd.underlying207,
    a138 := Tryd.isAgg207,
    z138 := Tryd.sizeOf207,
    v138 := Tryd.zeroValue207,
    t139 := Tryd.underlying208,
    a139 := Tryd.isAgg208,
    z139 := Tryd.sizeOf208,
    v139 := Tryd.zeroValue208,
    t146 := Tryd.underlying210,
    a146 := Tryd.isAgg210,
    z146 := Tryd.sizeOf210,
    v146 := Tryd.zeroValue210,
    g1 := (by kernel_rfl),
    g3 := (by kernel_rfl),
    g4 := (by kernel_rfl),
    i0 := (by kernel_rfl),
    i3 := (by kernel_rfl),
    i4 := (by kernel_rfl),
    i5 := (by kernel_rfl),
    i9 := (by kernel_rfl),
    i21 := (by kernel_rfl),
    i31 := (by kernel_rfl),
    i46 := (by kernel_rfl),
    i51 := (by kernel_rfl),
    i105 := (by kernel_rfl),
    i138 := (by kernel_rfl),
    i139 := (by kernel_rfl),
    i146 := (by kernel_rfl),
    m1 := (by kernel_rfl),
    s1_3 := fun w h => Go.Proofs.cell_of_shapedOpen_int (zero := #[.int .i64 0]) (t := 3) h (of_decide_eq_true (by kernel_rfl)) (by kernel_rfl) rfl (by kernel_rfl) (by kernel_rfl) Tryd.underlying3,
    m3 := (by kernel_rfl),
    m4 := (by kernel_rfl) }
def lay_joinS_ren : Go.Shelf.Ren := ⟨fun | 156 => 100 | 165 => 108 | 166 => 109 | 169 => 110 | 240 => 117 | 241 => 118 | 276 => 129 | 277 => 130 | n => n, fun | 31 => 65 | 9 => 9 | 3 => 3 | 4 => 4 | 0 => 0 | 20 => 20 | 72 => 168 | 76 => 171 | 70 => 165 | 37 => 166 | 75 => 170 | 127 => 181 | 164 => 200 | 5 => 5 | 80 => 138 | n => n, fun | n => n⟩
theorem lay_joinS : Go.Proofs.Lays.n156 Tryd.prog lay_joinS_ren :=
  { mixed := (by kernel_rfl),
    f156 := Tryd.func100.trans (congrArg some (by kernel_rfl)),
    f165 := Tryd.func108.trans (congrArg some (by kernel_rfl)),
    f166 := Tryd.func109.trans (congrArg some (by kernel_rfl)),
    f169 := Tryd.func110.trans (congrArg some (by kernel_rfl)),
    f240 := Tryd.func117.trans (congrArg some (by kernel_rfl)),
    f241 := Tryd.func118.trans (congrArg some (by kernel_rfl)),
    f276 := Tryd.func129.trans (congrArg some (by kernel_rfl)),
    f277 := Tryd.func130.trans (congrArg some (by kernel_rfl)),
    t0 := Tryd.underlying0,
    a0 := Tryd.isAgg0,
    z0 := Tryd.sizeOf0,
    v0 := Tryd.zeroValue0,
    t3 := Tryd.underlying3,
    a3 := Tryd.isAgg3,
    z3 := Tryd.sizeOf3,
    v3 := Tryd.zeroValue3,
    t4 := Tryd.underlying4,
    a4 := Tryd.isAgg4,
    z4 := Tryd.sizeOf4,
    v4 := Tryd.zeroValue4,
    t9 := Tryd.underlying9,
    a9 := Tryd.isAgg9,
    z9 := Tryd.sizeOf9,
    v9 := Tryd.zeroValue9,
    t20 := Tryd.underlying20,
    a20 := Tryd.isAgg20,
    z20 := Tryd.sizeOf20,
    v20 := Tryd.zeroValue20,
    t31 := Tryd.underlying65,
    a31 := Tryd.isAgg65,
    z31 := Tryd.sizeOf65,
    v31 := Tryd.zeroValue65,
    t37 := Tryd.underlying166,
    a37 := Tryd.isAgg166,
    z37 := Tryd.sizeOf166,
    v37 := Tryd.zeroValue166,
    t70 := Tryd.underlying165,
    a70 := Tryd.isAgg165,
    z70 := Tryd.sizeOf165,
    v70 := Tryd.zeroValue165,
    t72 := Tryd.underlying168,
    a72 := Tryd.isAgg168,
    z72 := Tryd.sizeOf168,
    v72 := Tryd.zeroValue168,
    t75 := Tryd.underlying170,
    a75 := Tryd.isAgg170,
    z75 := Tryd.sizeOf170,
    v75 := Tryd.zeroValue170,
    t76 := Tryd.underlying171,
    a76 := Tryd.isAgg171,
    z76 := Tryd.sizeOf171,
    v76 := Tryd.zeroValue171,
    t127 := Tryd.underlying181,
    a127 := Tryd.isAgg181,
    z127 := Tryd.sizeOf181,
    v127 := Tryd.zeroValue181,
    t164 := Tryd.underlying200,
    a164 := Tryd.isAgg200,
    z164 := Tryd.sizeOf200,
    v164 := Tryd.zeroValue200 }
def lay_hasS_ren : Go.Shelf.Ren := ⟨fun | 110 => 98 | 109 => 107 | n => n, fun | 31 => 65 | 9 => 9 | 4 => 4 | 3 => 3 | 0 => 0 | n => n, fun | n => n⟩
theorem lay_hasS : Go.Proofs.Lays.n110 Tryd.prog lay_hasS_ren :=
  { mixed := (by kernel_rfl),
    f109 := Tryd.func107.trans (congrArg some (by kernel_rfl)),
    f110 := Tryd.func98.trans (congrArg some (by kernel_rfl)),
    t0 := Tryd.underlying0,
    a0 := Tryd.isAgg0,
    z0 := Tryd.sizeOf0,
    v0 := Tryd.zeroValue0,
    t3 := Tryd.underlying3,
    a3 := Tryd.isAgg3,
    z3 := Tryd.sizeOf3,
    v3 := Tryd.zeroValue3,
    t4 := Tryd.underlying4,
    a4 := Tryd.isAgg4,
    z4 := Tryd.sizeOf4,
    v4 := Tryd.zeroValue4,
    t9 := Tryd.underlying9,
    a9 := Tryd.isAgg9,
    z9 := Tryd.sizeOf9,
    v9 := Tryd.zeroValue9,
    t31 := Tryd.underlying65,
    a31 := Tryd.isAgg65,
    z31 := Tryd.sizeOf65,
    v31 := Tryd.zeroValue65 }
theorem lay_extra : Builder.Extra Tryd.prog lay_joinS_ren :=
  { sizeBuilder := (by kernel_rfl), liesBuilder := (by kernel_rfl),
    t5 := Tryd.underlying5, a5 := Tryd.isAgg5, z5 := Tryd.sizeOf5, v5 := Tryd.zeroValue5,
    infoByte := (by kernel_rfl), cellsByte := (by kernel_rfl), sizeByte := (by kernel_rfl), neB5 := (by decide) }
end Go.Proofs.YtohdgjmmekgcmaaDoor

/-
  path: SplitN, Join, Contains as this program calls them; told.
-/
namespace Go.Proofs.YtohdgjmmekgcmaaDoor
open Go.RowKit Go.Shelf Go.Sort

/-- The library's bound on what it seeks, as any number. -/
structure MaxC (W : World) : Prop where
  cell : ∃ m, W.cell? ⟨1, 0, none⟩ = some (.int .i64 m)
  room : 1 < W.heap.size
theorem MaxC.below {W W' : World} {n : Nat} (h : MaxC W) (hb : Below n W W') (hn : 1 < n) : MaxC W' :=
  ⟨let ⟨m, hm⟩ := h.cell; ⟨m, (hb.cell (p := ⟨1, 0, none⟩) hn).trans hm⟩, Nat.lt_of_lt_of_le h.room hb.size⟩
theorem MaxC.of_shape {W : World} (h : W.ShapedOpen Tryd.prog) : MaxC W := by
  have hc := lay_splitN.s1_3 W h
  refine ⟨hc, ?_⟩
  obtain ⟨m, hm0⟩ := hc
  have hm : W.cell? ⟨1, 0, none⟩ = some (.int .i64 m) := hm0
  rcases Nat.lt_or_ge 1 W.heap.size with h2 | h2
  · exact h2
  · unfold World.cell? at hm
    rw [Array.getElem?_eq_none (by simpa using h2)] at hm
    cases hm
theorem splitN_any (s : List UInt8) (hs : s.length ≤ 1000000) (w : World) (hm : MaxC w) :
    Calls Tryd.prog 97 #[encStr s, .string ⟨#[47]⟩, .int .i64 18] w fun e w' => ∃ cap, e = .returned (.slice (some ⟨w.heap.size, 0, none⟩) (piecesP s).length cap) ∧ TxS w' (.slice (some ⟨w.heap.size, 0, none⟩) (piecesP s).length cap) (piecesP s) ∧ Below w.heap.size w w' := by
  obtain ⟨m, hc⟩ := hm.cell
  have hz : (⟨s.toArray⟩ : ByteArray).size = s.length := by simp [ByteArray.size]
  have key := Any.strings_SplitN { lay_splitN with } lay_splitN.i9 ⟨s.toArray⟩ ⟨#[47]⟩ 18 m w (by rw [hz]; omega) hc (by decide) (by decide) (by decide)
  refine key.mono ?_
  rintro e w' ⟨rfl, rfl⟩
  have hl := piecesP_len s
  have hk : (piecesP s).length ≤ min 18 ((⟨s.toArray⟩ : ByteArray).size + 1) := by
    rw [hz]
    have h1 := Lib.splitB_length_le ⟨#[47]⟩ 0 (min 18 ((⟨s.toArray⟩ : ByteArray).size + 1) - 1) ⟨s.toArray⟩
    rw [pieces_count, hz] at h1
    omega
  refine ⟨min 18 ((⟨s.toArray⟩ : ByteArray).size + 1), by rw [← pieces_count], ?_, (Below.refl _ _).alloc (Nat.le_refl _) _⟩
  refine ⟨by simp, _, _, rfl, hk, fun _ => ⟨_, _, rfl, by simp, fun j y hy => ?_⟩⟩
  have e := World.alloc_heap_new w (.cells (Lib.cellsOf (Lib.splitB ⟨#[47]⟩ 0 (min 18 ((⟨s.toArray⟩ : ByteArray).size + 1) - 1) ⟨s.toArray⟩) (min 18 ((⟨s.toArray⟩ : ByteArray).size + 1))) (lay_splitN_ren.t 9))
  unfold World.cell?
  simp only [e, Nat.zero_add]
  unfold Lib.cellsOf
  rw [pieces_data, List.getElem?_toArray, List.getElem?_append_left (List.getElem?_eq_some_iff.1 hy).1]
  exact hy
theorem join_path (l : List (List UInt8)) : [47] ++ Lib.join l [47] = pathOf l := by
  cases l with
  | nil => rfl
  | cons x l =>
    rw [Lib.join_cons]
    unfold pathOf
    rw [if_neg (List.cons_ne_nil _ _)]
    show (47 : UInt8) :: (x ++ ((l.map (fun y => [47] ++ y)).flatten)) = flatP (x :: l)
    rfl
/-- How long a list's path is at most. -/
theorem flatP_length (l : List (List UInt8)) (h : l.all rightN = true) : (flatP l).length ≤ 41 * l.length := by
  induction l with
  | nil => decide
  | cons x l ih =>
    rw [List.all_cons, Bool.and_eq_true] at h
    have h1 := ((rightN_iff x).1 h.1).2.1
    have h2 := ih h.2
    unfold flatP at h2 ⊢
    rw [List.map_cons, List.flatten_cons, List.length_append, List.length_cons, List.length_cons]
    omega
theorem pathOf_length (l : List (List UInt8)) (h : l.all rightN = true) (hl : l.length ≤ 16) : (pathOf l).length ≤ 656 := by
  have := flatP_length l h
  unfold pathOf
  split
  · decide
  · omega
theorem joinS_any (v : Value) (l : List (List UInt8)) (hr : l.all rightN = true) (hl : l.length ≤ 16) (w : World) (hv : TxS w v l) :
    Calls Tryd.prog 100 #[v, .string ⟨#[47]⟩] w fun e w' => e = .returned (encStr (Lib.join l [47])) ∧ Below w.heap.size w w' := by
  obtain ⟨a, cap, b, off, rfl, hlc, ha, hc⟩ := hv.cell
  by_cases h0 : 0 < l.length
  · obtain rfl := ha h0
    have hm : (l.map fun x => (⟨x.toArray⟩ : ByteArray)).map (·.data.toList) = l := by
      rw [List.map_map]
      exact (List.map_congr_left (fun x _ => rfl)).trans (List.map_id l)
    have key := Any.strings_Join lay_joinS lay_extra b off cap (l.map fun x => ⟨x.toArray⟩) ⟨#[47]⟩ w (fun j x hx => by
        rw [List.getElem?_map] at hx
        obtain ⟨y, hy, rfl⟩ := Option.map_eq_some_iff.1 hx
        have hj := (List.getElem?_eq_some_iff.1 hy).1
        rw [(hc h0).2 j hj, hy]
        rfl) (hc h0).1 (by rw [List.length_map]; omega) (by rw [List.length_map]; exact hlc) (by
        rw [hm]
        have h1 := pathOf_length l hr hl
        have h2 := congrArg List.length (join_path l)
        rw [List.length_append] at h2
        have : ((⟨#[47]⟩ : ByteArray).data.toList) = [47] := rfl
        rw [this]
        omega)
    rw [hm, List.length_map] at key
    exact key
  · have e : l = [] := List.eq_nil_of_length_eq_zero (by omega)
    subst e
    refine (Any.strings_Join_none lay_joinS lay_extra a cap ⟨#[47]⟩ w).mono ?_
    rintro e w' ⟨rfl, rfl⟩
    exact ⟨rfl, Below.refl _ _⟩
theorem lsTold_any (v : Value) (l : List (List UInt8)) (hr : l.all rightN = true) (hl : l.length ≤ 16) (w : World) (hv : TxS w v l) :
    Calls Tryd.prog 73 #[v] w fun e w' => e = .returned (encStr (pathOf l)) ∧ Below w.heap.size w w' := by
  have HJ := Lib.hid (joinS_any v l hr hl w hv)
  obtain ⟨a, c, rfl⟩ := hv.slice
  have HP := Lib.hid (join_path l)
  have hpl : (Lib.join l [47]).length ≤ 1000 := by
    have h1 := pathOf_length l hr hl
    have h2 := congrArg List.length (join_path l)
    rw [List.length_append] at h2
    omega
  obtain ⟨p, hp⟩ : ∃ p, Lib.join l [47] = p := ⟨_, rfl⟩
  rw [hp] at HJ HP hpl
  clear hv hp hr hl
  go_enter Tryd.func73, Tryd.ntmps73
  go_wp2_with fail
  refine HJ.out.mono ?_
  rintro e w1 ⟨rfl, hb1⟩
  go_wp2_with fail
  go_ret
  refine ⟨?_, hb1⟩
  rw [← HP.out]
  rfl
theorem hasS_any (v : Value) (l : List (List UInt8)) (hl : l.length ≤ 1000000) (w : World) (hv : TxS w v l) :
    Calls Tryd.prog 98 #[v, .string ⟨#[]⟩] w fun e w' => e = .returned (.bool (decide ([] ∈ l))) ∧ w = w' := by
  obtain ⟨a, cap, b, off, rfl, hlc, ha, hc⟩ := hv.cell
  by_cases h0 : 0 < l.length
  · obtain rfl := ha h0
    refine (Any.slices_Contains_string lay_hasS b off l.length cap (l.map fun x => ⟨x.toArray⟩) ⟨#[]⟩ w (by rw [List.length_map]; exact Nat.le_refl _) (by omega) (fun j hj => ?_)).mono ?_
    · rw [List.length_map] at hj
      rw [(hc h0).2 j hj]
      simp [hj, encStr]
    · rintro e w' ⟨rfl, rfl⟩
      refine ⟨ret_bool ?_, rfl⟩
      rw [Bool.eq_iff_iff, Lib.containsS_iff, decide_eq_true_iff, List.take_of_length_le (by rw [List.length_map]; exact Nat.le_refl _), List.mem_map]
      constructor
      · rintro ⟨x, hx, e⟩
        cases x with
        | nil => exact hx
        | cons c x => simp at e
      · intro h
        exact ⟨[], h, rfl⟩
  · have e : l = [] := List.eq_nil_of_length_eq_zero (by omega)
    subst e
    refine (Any.slices_Contains_string_empty lay_hasS a cap ⟨#[]⟩ w).mono ?_
    rintro e w' ⟨rfl, rfl⟩
    exact ⟨rfl, rfl⟩
end Go.Proofs.YtohdgjmmekgcmaaDoor

/-
  path: under; read.
-/
namespace Go.Proofs.YtohdgjmmekgcmaaDoor
open Go.RowKit Go.Shelf Go.Sort

/-- A path under way, as a value. -/
abbrev ldV (u : Value) : Value := .agg #[u]
/-- A list of texts of one's own, from B on. -/
abbrev OwnT (W : World) (B : Nat) (u : Value) (l : List (List UInt8)) : Prop := W.ownsRow B 9 1 u l.length (l.map encStr)
theorem OwnT.txs {W : World} {B : Nat} {u : Value} {l : List (List UInt8)} (h : OwnT W B u l) : TxS W u l := vec_of_own h
theorem ownT_nil (W : World) (B : Nat) : OwnT W B (.slice none 0 0) [] := World.ownsRow_nil _ _ _ _
set_option maxRecDepth 100000 in
set_option maxHeartbeats 2000000 in
theorem under_any (v : Value) (l : List (List UInt8)) (hl : l.length ≤ 1000) (w : World) (hv : TxS w v l) :
    Calls Tryd.prog 78 #[v] w fun e w' => ∃ u, e = .returned (.tuple #[ldV u, .int .i64 (underE l).2]) ∧ OwnT w' w.heap.size u (underE l).1 ∧ Below w.heap.size w w' := by
  have HV := Lib.hid hv
  obtain ⟨a, cap, rfl⟩ := hv.slice
  rcases underE_cases l with ⟨h1, h2, h3⟩ | ⟨h1, h3⟩ | ⟨h1, h2, h3⟩
  · rw [h3]
    have HE := Lib.hid (evTake_any (w.heap.size + 1) l hl (.slice a l.length cap))
    have HR := Lib.hid h2
    have hn : ¬ (16 : Int) < (l.length : Int) := by omega
    clear hv h2 h3
    go_enter Tryd.func78, Tryd.ntmps78
    go_wp2
    refine wp_scope_forward 0 rfl ?_
    go_wp2_with fail
    have b0 : Below w.heap.size w ((w.alloc (.cells #[.slice none 0 0] 133)).alloc (.cells #[.slice none 0 0] 133)) := (by repeat (first | exact Below.refl _ _ | assumption | refine Below.drew ?_ | refine below_drewN ?_ _ | refine Below.alloc ?_ (by (try simp) <;> omega) _ | refine Below.setCell ?_ (by (try simp) <;> omega) _ | refine Below.trans ?_ (Below.mono (by assumption) (by (try simp) <;> omega))))
    have r0 := RowL.new (w.alloc (.cells #[.slice none 0 0] 133))
    have x0 := (Boxed.new w 133 (.slice none 0 0)).alloc (.cells #[.slice none 0 0] 133)
    have z0 : ((w.alloc (.cells #[.slice none 0 0] 133)).alloc (.cells #[.slice none 0 0] 133)).heap.size = w.heap.size + 1 + 1 := by simp
    rw [World.size_alloc] at r0
    refine (HE.out _ (HV.out.below b0) (fun W hW => HV.out.below (b0.trans (hW.mono (by omega)))) r0).mono ?_
    rintro e w3 ⟨rfl, hr3, hb3⟩
    rw [HR.out]
    obtain ⟨u, hu, hru⟩ := hr3 HR.out
    have hx3 : Boxed w3 w.heap.size 133 (.slice none 0 0) := (hb3.block _ (by omega)).trans x0
    obtain ⟨ua, uc, rfl⟩ := (vec_of_own hru).slice
    have HB3 : Hid (Below w.heap.size w w3) := show Below _ _ _ from b0.trans (hb3.mono (by omega))
    have HX3 := Lib.hid hx3
    have HU := Lib.hid hru
    have c3 := hu.cell
    have d3 := hx3.cell
    have f3 := hx3.frozen
    clear hr3 hb3 b0 r0 x0 hu hx3 hru
    go_wp2_with fail
    rw [Exit.jump_ret]
    refine bodyPost_ret (v := .tuple #[ldV (.slice ua l.length uc), .int .i64 0]) (by simp [results, Tryd.results78, go_sem, (HX3.out.set (.slice ua l.length uc)).cell]) rfl ⟨_, rfl, ?_, HB3.out.setCell (p := ⟨w.heap.size, 0, none⟩) (Nat.le_refl _) _⟩
    have := HU.out.kept (grownBy_setCell' w3 w.heap.size (.slice ua l.length uc)) (.inr (HX3.out.not_row tLsNe HU.out).symm)
    exact own_lowG this (by omega)
  · rw [h3]
    have hn : (16 : Int) < (l.length : Int) := by omega
    clear hv h3
    go_enter Tryd.func78, Tryd.ntmps78
    go_wp2
    refine wp_scope_forward 0 rfl ?_
    go_wp2_with fail
    go_step3
    refine ⟨rfl, ?_⟩
    have hx3 := (Boxed.new w 133 (.slice none 0 0)).alloc (.cells #[.slice none 0 0] 133)
    have HX3 := Lib.hid hx3
    have d3 := hx3.cell
    have f3 := hx3.frozen
    have HB3 : Hid (Below w.heap.size w ((w.alloc (.cells #[.slice none 0 0] 133)).alloc (.cells #[.slice none 0 0] 133))) := show Below _ _ _ from (by repeat (first | exact Below.refl _ _ | assumption | refine Below.drew ?_ | refine below_drewN ?_ _ | refine Below.alloc ?_ (by (try simp) <;> omega) _ | refine Below.setCell ?_ (by (try simp) <;> omega) _ | refine Below.trans ?_ (Below.mono (by assumption) (by (try simp) <;> omega))))
    clear hx3
    go_wp2_with fail
    rw [Exit.jump_ret]
    exact bodyPost_ret (v := .tuple #[ldV (.slice none 0 0), .int .i64 170]) (by simp [results, Tryd.results78, go_sem]) rfl ⟨_, rfl, ownT_nil _ _, HB3.out⟩
  · rw [h3]
    have HE := Lib.hid (evTake_any (w.heap.size + 1) l hl (.slice a l.length cap))
    have HR := Lib.hid h2
    have hn : ¬ (16 : Int) < (l.length : Int) := by omega
    clear hv h2 h3
    go_enter Tryd.func78, Tryd.ntmps78
    go_wp2
    refine wp_scope_forward 0 rfl ?_
    go_wp2_with fail
    have b0 : Below w.heap.size w ((w.alloc (.cells #[.slice none 0 0] 133)).alloc (.cells #[.slice none 0 0] 133)) := (by repeat (first | exact Below.refl _ _ | assumption | refine Below.drew ?_ | refine below_drewN ?_ _ | refine Below.alloc ?_ (by (try simp) <;> omega) _ | refine Below.setCell ?_ (by (try simp) <;> omega) _ | refine Below.trans ?_ (Below.mono (by assumption) (by (try simp) <;> omega))))
    have r0 := RowL.new (w.alloc (.cells #[.slice none 0 0] 133))
    have x0 := (Boxed.new w 133 (.slice none 0 0)).alloc (.cells #[.slice none 0 0] 133)
    have z0 : ((w.alloc (.cells #[.slice none 0 0] 133)).alloc (.cells #[.slice none 0 0] 133)).heap.size = w.heap.size + 1 + 1 := by simp
    rw [World.size_alloc] at r0
    refine (HE.out _ (HV.out.below b0) (fun W hW => HV.out.below (b0.trans (hW.mono (by omega)))) r0).mono ?_
    rintro e w3 ⟨rfl, -, hb3⟩
    rw [HR.out]
    have hx3 : Boxed w3 w.heap.size 133 (.slice none 0 0) := (hb3.block _ (by omega)).trans x0
    have HB3 : Hid (Below w.heap.size w w3) := show Below _ _ _ from b0.trans (hb3.mono (by omega))
    have HX3 := Lib.hid hx3
    have d3 := hx3.cell
    have f3 := hx3.frozen
    clear hb3 b0 r0 x0 hx3
    go_wp2_with fail
    go_step3
    refine ⟨rfl, ?_⟩
    go_wp2_with fail
    rw [Exit.jump_ret]
    exact bodyPost_ret (v := .tuple #[ldV (.slice none 0 0), .int .i64 160]) (by simp [results, Tryd.results78, go_sem, (HX3.out.set (.slice none 0 0)).cell]) rfl ⟨_, rfl, ownT_nil _ _, HB3.out.setCell (p := ⟨w.heap.size, 0, none⟩) (Nat.le_refl _) _⟩
/-- s[1:n:n]. -/
theorem cut_tailV {P : Program} {t e : TypeId} {i : TypeInfo} (h1 : P.underlying t = some (.slice e)) (h2 : P.info? e = some i) (h3 : i.size = 1) {W : World} {v : Value} {n m : Nat} (hm : n = m + 1) {xs : List Value} (hs : Vec W v n 1 xs) :
    ∃ a c, (∀ w, (Instr.sliceAt t v (some (.int .i64 1)) (some (.int .i64 n)) (some (.int .i64 n))).run P w = .ok (.slice a m c) w) ∧ (∀ W', Vec W' v n 1 xs → Vec W' (.slice a m c) m 1 (xs.drop 1)) := by
  obtain ⟨hl, a, cap, rfl, hlc, -⟩ := hs
  have he : P.elem t = e := by simp [Program.elem, h1]
  have ht : P.underlying t = some (.slice (P.elem t)) := by rw [he]; exact h1
  subst hm
  refine ⟨if m = 0 then a else a.map (·.add (1 * 1)), m, fun w => ?_, fun W' hs' => ?_⟩
  · rw [run_sliceAt_slice w t _ _ _ _ ht, run_slice_lhm w t a (m + 1) cap ht .i64 .i64 .i64 1 ((m + 1 : Nat) : Int) ((m + 1 : Nat) : Int) (by omega) (by omega) (by omega) (by omega), he]
    simp [sizeOf, typeInfo, h2, h3, sliced, Result.andThen]
    try omega
  · obtain ⟨-, a', c', e', hl', hc⟩ := hs'
    simp only [Value.slice.injEq] at e'
    obtain ⟨rfl, _, rfl⟩ := e'
    refine ⟨by rw [List.length_drop]; omega, _, m, rfl, by omega, fun h0 => ?_⟩
    obtain ⟨b, off, rfl, h2, h3⟩ := hc (by omega)
    refine ⟨b, off + 1, ?_, h2, fun j y hj => ?_⟩
    · rw [if_neg (by omega)]
      simp only [Option.map_some, Addr.add, Nat.mul_one]
      split <;> simp_all
    · rw [Nat.add_assoc]
      refine h3 (1 + j) y ?_
      rwa [List.getElem?_drop] at hj
theorem str_neq {_P : Program} (t : TypeId) (a b : List UInt8) : binOp .neq t (encStr a) (encStr b) = (pure (.bool (!(a == b))) : Sem Value) := by
  rw [binOp_string_neq, Lib.toList_data, Lib.toList_data]
end Go.Proofs.YtohdgjmmekgcmaaDoor

/-
  path: read.
-/
namespace Go.Proofs.YtohdgjmmekgcmaaDoor
open Go.RowKit Go.Shelf Go.Sort

theorem bs_eq (s : List UInt8) : (⟨s.toArray⟩ : ByteArray).toList = s := by rw [Lib.toList_data]
theorem bs_eq' (a : Array UInt8) : (⟨a⟩ : ByteArray).toList = a.toList := by rw [Lib.toList_data]
set_option maxRecDepth 100000 in
set_option maxHeartbeats 4000000 in
theorem read_any (s : List UInt8) (hs : s.length ≤ 1000000) (w : World) (hm : MaxC w) :
    Calls Tryd.prog 69 #[encStr s] w fun e w' => ∃ u, e = .returned (.tuple #[ldV u, .int .i64 (splitE s).2]) ∧ OwnT w' w.heap.size u (splitE s).1 ∧ Below w.heap.size w w' := by
  have HSP := Lib.hid (read_splits s)
  have HS := Lib.hid (splitN_any s hs)
  obtain ⟨i0, hi, hz0, hz1, hz2⟩ := info_parts infoStr
  have HI := Lib.hid hi
  have hxw := Boxed.new w 133 (.slice none 0 0)
  have HMC := Lib.hid (hm.below (W' := w.alloc (.cells #[.slice none 0 0] 133)) ((Below.refl _ _).alloc (Nat.le_refl _) _) hm.room)
  have hP := piecesP_len s
  obtain ⟨X, hX⟩ : ∃ X, piecesP s = X := ⟨_, rfl⟩
  have HXX := Lib.hid hX
  rw [hX] at HSP HS hP
  clear hi hm hX
  go_enter Tryd.func69, Tryd.ntmps69
  go_wp2
  refine wp_scope_forward 0 rfl ?_
  go_wp2_with fail
  refine (HS.out _ HMC.out).mono ?_
  rintro e w1 ⟨cap, rfl, hv1, hb1⟩
  have hx1 : Boxed w1 w.heap.size 133 (.slice none 0 0) := (hb1.block _ (by simp)).trans hxw
  have HB1 : Hid (Below w.heap.size w w1) := show Below _ _ _ from ((Below.refl _ _).alloc (Nat.le_refl _) _).trans (hb1.mono (by simp))
  have HX1 := Lib.hid hx1
  have d1 := hx1.cell
  have f1 := hx1.frozen
  obtain ⟨-, a0, k0, e0, hcap, ha0⟩ := hv1
  obtain ⟨b0, o0, ea, hlt0, hc0⟩ := ha0 (by omega)
  simp only [Value.slice.injEq] at e0
  obtain ⟨e1, -, e2⟩ := e0
  rw [← e1] at ea
  simp only [Option.some.injEq, Addr.mk.injEq, and_true] at ea
  obtain ⟨rfl, rfl⟩ := ea
  rw [← e2] at hcap
  have HV2 : Hid (TxS w1 (.slice (some ⟨(w.alloc (.cells #[.slice none 0 0] 133)).heap.size, 1, none⟩) (X.length - 1) (X.length - 1)) X.tail) := show Vec _ _ _ _ _ from
    ⟨by simp, _, X.length - 1, by rw [List.length_tail], by rw [List.length_tail]; exact Nat.le_refl _, fun _ => ⟨_, _, rfl, hlt0, fun j y hy => by
      have := hc0 (1 + j) y (by rw [← hy, List.map_tail, List.getElem?_tail, Nat.add_comm])
      rw [Nat.zero_add] at this
      exact this⟩⟩
  have HC0 : Hid (w1.cell? ⟨(w.alloc (.cells #[.slice none 0 0] 133)).heap.size, 0, none⟩ = some (encStr (X[0]?.getD []))) := show _ = _ from by
    have := hc0 0 (encStr (X[0]?.getD [])) (by simp [show 0 < X.length by omega])
    rw [Nat.zero_add] at this
    exact this
  rw [World.size_alloc] at HV2 HC0
  have c0 := HC0.out
  obtain ⟨x0, hx0⟩ : ∃ x0, x0 = X[0]?.getD [] := ⟨_, rfl⟩
  rw [← hx0] at c0 HSP
  have hml : X.tail.length = X.length - 1 := List.length_tail
  have HT0 : Hid (X.tail = [] ↔ X.length = 1) := show _ ↔ _ from ⟨fun h => by rw [h] at hml; simp at hml; omega, fun h => List.eq_nil_of_length_eq_zero (by rw [hml, h])⟩
  have HT1 : Hid (s = [47] → X.length = 2) := fun h => by rw [← HXX.out, h]; rfl
  obtain ⟨T, hT⟩ : ∃ T, X.tail = T := ⟨_, rfl⟩
  rw [hT] at HSP HV2 HT0 hml
  generalize hn : X.length = n at *
  have HTL : Hid (T.length ≤ 17) := show _ ≤ _ by omega
  clear hb1 hx1 hc0 ha0 hx0 hT e1 e2 hxw HC0 hlt0
  by_cases q1 : s = [47]
  · have HA : Hid (splitE s = ([], 0)) := show _ = _ by rw [HSP.out, if_pos q1]
    have hq : (s == [47]) = true := by simp [q1]
    have hn2 := HT1.out q1
    clear q1 hn
    subst hn2
    go_wp2_with fail
    rw [Exit.jump_ret]
    refine bodyPost_ret (v := .tuple #[ldV (.slice none 0 0), .int .i64 0]) (by simp [results, Tryd.results69, go_sem, (HX1.out.set (.slice none 0 0)).cell]) rfl ?_
    rw [HA.out]
    exact ⟨_, rfl, ownT_nil _ _, HB1.out.setCell (p := ⟨w.heap.size, 0, none⟩) (Nat.le_refl _) _⟩
  have hq : (s == [47]) = false := by simp [q1]
  have HQ : Hid (splitE s = if T = [] ∨ x0 ≠ [] ∨ [] ∈ T then ([], 170) else underE T) := show _ = _ by rw [HSP.out, if_neg q1]
  clear q1 HSP HT1
  by_cases q2 : n = 1
  · have HA : Hid (splitE s = ([], 170)) := show _ = _ by rw [HQ.out, if_pos (.inl (HT0.out.2 q2))]
    clear hn
    subst q2
    go_wp2_with fail
    go_step3
    refine ⟨rfl, ?_⟩
    go_wp2_with fail
    rw [Exit.jump_ret]
    refine bodyPost_ret (v := .tuple #[ldV (.slice none 0 0), .int .i64 170]) (by simp [results, Tryd.results69, go_sem, (HX1.out.set (.slice none 0 0)).cell]) rfl ?_
    rw [HA.out]
    exact ⟨_, rfl, ownT_nil _ _, HB1.out.setCell (p := ⟨w.heap.size, 0, none⟩) (Nat.le_refl _) _⟩
  have hq2 : (((n - 1 : Nat) : Int) == 0) = false := by simp; omega
  by_cases q3 : x0 = []
  · subst q3
    by_cases q4 : [] ∈ T
    · have HA : Hid (splitE s = ([], 170)) := show _ = _ by rw [HQ.out, if_pos (.inr (.inr q4))]
      have HC := Lib.hid (hasS_any _ T (by have := HTL.out; omega) w1 HV2.out)
      have HD : Hid (decide ([] ∈ T) = true) := show _ = _ from decide_eq_true q4
      clear q4 hn hml
      go_wp2_with (go_at_call 98; refine HC.out.mono ?_; rintro e w2 ⟨rfl, rfl⟩; rw [HD.out])
      go_step3
      refine ⟨rfl, ?_⟩
      go_wp2_with fail
      rw [Exit.jump_ret]
      refine bodyPost_ret (v := .tuple #[ldV (.slice none 0 0), .int .i64 170]) (by simp [results, Tryd.results69, go_sem, (HX1.out.set (.slice none 0 0)).cell]) rfl ?_
      rw [HA.out]
      exact ⟨_, rfl, ownT_nil _ _, HB1.out.setCell (p := ⟨w.heap.size, 0, none⟩) (Nat.le_refl _) _⟩
    · have HA : Hid (splitE s = underE T) := show _ = _ by
        rw [HQ.out, if_neg]
        rintro (h | h | h)
        · exact q2 (HT0.out.1 h)
        · exact h rfl
        · exact q4 h
      have HC := Lib.hid (hasS_any _ T (by have := HTL.out; omega) w1 HV2.out)
      have HU := Lib.hid (under_any _ T (by have := HTL.out; omega) w1 HV2.out)
      have HD : Hid (decide ([] ∈ T) = false) := show _ = _ from decide_eq_false q4
      clear q4 hn hml
      go_wp2_with (first | (go_at_call 98; refine HC.out.mono ?_; rintro e w2 ⟨rfl, rfl⟩; rw [HD.out]) | (go_at_call 78; refine park ?_))
      unfold Park
      refine HU.out.mono ?_
      rintro e w2 ⟨u, rfl, hu, hb2⟩
      have hlt := HX1.out.lt
      have hx2 : Boxed w2 w.heap.size 133 (.slice none 0 0) := (hb2.block _ hlt).trans HX1.out
      have HX2 := Lib.hid hx2
      have HB2 : Hid (Below w.heap.size w w2) := show Below _ _ _ from HB1.out.trans (hb2.mono (by omega))
      obtain ⟨ua, uc, rfl⟩ := hu.txs.slice
      have HUU := Lib.hid hu
      have d2 := hx2.cell
      have f2 := hx2.frozen
      clear d1 f1 hx2 hb2 hu
      go_wp2_with fail
      rw [Exit.jump_ret]
      refine bodyPost_ret (v := .tuple #[ldV (.slice ua (underE T).1.length uc), .int .i64 (underE T).2]) (by simp [results, Tryd.results69, go_sem, (HX2.out.set (.slice ua (underE T).1.length uc)).cell]) rfl ?_
      rw [HA.out]
      refine ⟨_, rfl, ?_, HB2.out.setCell (p := ⟨w.heap.size, 0, none⟩) (Nat.le_refl _) _⟩
      have := HUU.out.kept (grownBy_setCell' w2 w.heap.size (.slice ua (underE T).1.length uc)) (.inr (HX2.out.not_row tLsNe HUU.out).symm)
      exact own_lowG this (by omega)
  · have HA : Hid (splitE s = ([], 170)) := show _ = _ by rw [HQ.out, if_pos (.inr (.inl q3))]
    have hq3 : (x0 == []) = false := by simp [q3]
    clear q3 hn hml
    go_wp2_with fail
    go_step3
    refine ⟨rfl, ?_⟩
    go_wp2_with fail
    rw [Exit.jump_ret]
    refine bodyPost_ret (v := .tuple #[ldV (.slice none 0 0), .int .i64 170]) (by simp [results, Tryd.results69, go_sem, (HX1.out.set (.slice none 0 0)).cell]) rfl ?_
    rw [HA.out]
    exact ⟨_, rfl, ownT_nil _ _, HB1.out.setCell (p := ⟨w.heap.size, 0, none⟩) (Nat.le_refl _) _⟩
end Go.Proofs.YtohdgjmmekgcmaaDoor

/-
  path: Split, Join, Parent.
-/
namespace Go.Proofs.YtohdgjmmekgcmaaDoor
open Go.RowKit Go.Shelf Go.Sort

/-- What Join tells of names. -/
def joinE (l : List (List UInt8)) : List UInt8 × Int := if (underE l).2 = 0 then (pathOf l, 0) else ([], (underE l).2)
/-- What Parent tells of a text. -/
def parentE (s : List UInt8) : List UInt8 × List UInt8 × Int :=
  if (splitE s).2 ≠ 0 then ([], [], (splitE s).2) else if (splitE s).1 = [] then ([], [], 5) else (pathOf ((splitE s).1.take ((splitE s).1.length - 1)), (splitE s).1[(splitE s).1.length - 1]?.getD [], 0)
theorem underE_zero {l : List (List UInt8)} (h : (underE l).2 = 0) : (underE l).1 = l ∧ l.length ≤ 16 ∧ l.all rightN = true := by
  rcases underE_cases l with ⟨a, b, c⟩ | ⟨_, c⟩ | ⟨_, _, c⟩
  · exact ⟨by rw [c], a, b⟩
  · rw [c] at h; cases h
  · rw [c] at h; cases h
set_option maxRecDepth 100000 in
set_option maxHeartbeats 2000000 in
theorem paSplit_any (s : List UInt8) (hs : s.length ≤ 1000000) (w : World) (hm : MaxC w) :
    Calls Tryd.prog 31 #[encStr s] w fun e w' => ∃ u, e = .returned (.tuple #[u, .int .i64 (splitE s).2]) ∧ OwnT w' w.heap.size u (splitE s).1 ∧ Below w.heap.size w w' := by
  have HR := Lib.hid (read_any s hs w hm)
  clear hm
  go_enter Tryd.func31, Tryd.ntmps31
  go_wp2_with fail
  refine HR.out.mono ?_
  rintro e w1 ⟨u, rfl, hu, hb⟩
  obtain ⟨ua, uc, rfl⟩ := hu.txs.slice
  have HU := Lib.hid hu
  have HB := Lib.hid hb
  clear hu hb
  go_wp2_with (go_at_call 70; refine (lsNames_any _ _).mono ?_; rintro e w2 ⟨rfl, rfl⟩)
  refine bodyPost_ret (v := .tuple #[.slice ua (splitE s).1.length uc, .int .i64 (splitE s).2]) (by simp [results, Tryd.results31, go_sem]) rfl ?_
  exact ⟨_, rfl, own_keptG HU.out fun g _ hg => Below.heap_alloc _ _ _ hg, HB.out.alloc HB.out.size _⟩
set_option maxRecDepth 100000 in
set_option maxHeartbeats 2000000 in
theorem paJoin_any (v : Value) (l : List (List UInt8)) (hl : l.length ≤ 1000) (w : World) (hv : TxS w v l) :
    Calls Tryd.prog 39 #[v] w fun e w' => e = .returned (.tuple #[encStr (joinE l).1, .int .i64 (joinE l).2]) ∧ Below w.heap.size w w' := by
  have HR := Lib.hid (under_any v l hl w hv)
  obtain ⟨a, c, rfl⟩ := hv.slice
  clear hv
  by_cases h0 : (underE l).2 = 0
  · obtain ⟨e1, e2, e3⟩ := underE_zero h0
    have HJ : Hid (joinE l = (pathOf l, 0)) := show _ = _ from if_pos h0
    rw [h0, e1] at HR
    rw [HJ.out]
    have HT := Lib.hid (fun u w => lsTold_any u l e3 e2 w)
    clear h0 e1 e3
    go_enter Tryd.func39, Tryd.ntmps39
    go_wp2_with fail
    refine HR.out.mono ?_
    rintro e w1 ⟨u, rfl, hu, hb⟩
    obtain ⟨ua, uc, rfl⟩ := hu.txs.slice
    have HB := Lib.hid hb
    have hv2 := hu.txs.below (W' := w1.alloc (.cells #[.slice ua l.length uc] 133)) ((Below.refl _ _).alloc (Nat.le_refl _) _)
    have HV2 := Lib.hid hv2
    clear hu hb hv2
    go_wp2_with (go_at_call 73; refine (HT.out _ _ HV2.out).mono ?_; rintro e w2 ⟨rfl, hb2⟩)
    refine bodyPost_ret (v := .tuple #[encStr (pathOf l), .int .i64 0]) (by simp [results, Tryd.results39, go_sem]) rfl ?_
    exact ⟨rfl, (HB.out.alloc HB.out.size _).trans (hb2.mono (by have := HB.out.size; simp; omega))⟩
  · have HJ : Hid (joinE l = ([], (underE l).2)) := show _ = _ from if_neg h0
    rw [HJ.out]
    obtain ⟨no, hno⟩ : ∃ no, (underE l).2 = no := ⟨_, rfl⟩
    rw [hno] at HR h0 ⊢
    have hq : (no == 0) = false := by simp [h0]
    clear h0 hno
    go_enter Tryd.func39, Tryd.ntmps39
    go_wp2_with fail
    refine HR.out.mono ?_
    rintro e w1 ⟨u, rfl, hu, hb⟩
    obtain ⟨ua, uc, rfl⟩ := hu.txs.slice
    have HB := Lib.hid hb
    clear hu hb
    go_wp2_with fail
    refine bodyPost_ret (v := .tuple #[.string ⟨#[]⟩, .int .i64 no]) (by simp [results, Tryd.results39, go_sem]) rfl ?_
    exact ⟨rfl, HB.out.alloc HB.out.size _⟩
set_option maxRecDepth 100000 in
set_option maxHeartbeats 4000000 in
theorem paParent_any (s : List UInt8) (hs : s.length ≤ 1000000) (w : World) (hm : MaxC w) :
    Calls Tryd.prog 32 #[encStr s] w fun e w' => e = .returned (.tuple #[encStr (parentE s).1, encStr (parentE s).2.1, .int .i64 (parentE s).2.2]) ∧ Below w.heap.size w w' := by
  have HR := Lib.hid (read_any s hs w hm)
  have HL := Lib.hid (splitE_len s)
  have HA := Lib.hid (splitE_right s)
  have HP : Hid (parentE s = if (splitE s).2 ≠ 0 then ([], [], (splitE s).2) else if (splitE s).1 = [] then ([], [], 5) else (pathOf ((splitE s).1.take ((splitE s).1.length - 1)), (splitE s).1[(splitE s).1.length - 1]?.getD [], 0)) := show _ = _ from rfl
  obtain ⟨⟨l, no⟩, hx⟩ : ∃ x, splitE s = x := ⟨_, rfl⟩
  rw [hx] at HR HL HA HP
  dsimp only at HR HL HA HP
  clear hm hx
  by_cases h0 : no = 0
  · subst h0
    by_cases h1 : l = []
    · subst h1
      have HE : Hid (parentE s = ([], [], 5)) := show _ = _ by rw [HP.out]; rfl
      rw [HE.out]
      go_enter Tryd.func32, Tryd.ntmps32
      go_wp2
      refine wp_scope_forward 0 rfl ?_
      go_wp2_with fail
      refine HR.out.mono ?_
      rintro e w1 ⟨u, rfl, hu, hb⟩
      obtain ⟨ua, uc, rfl⟩ := hu.txs.slice
      have HB := Lib.hid hb
      have hv2 := hu.txs.below (W' := w1.alloc (.cells #[.slice ua ([] : List (List UInt8)).length uc] 133)) ((Below.refl _ _).alloc (Nat.le_refl _) _)
      have HV2 := Lib.hid hv2
      clear hu hb hv2
      go_wp2_with (go_at_call 71; refine (lsRoot_any _ [] _ HV2.out).mono ?_; rintro e w2 ⟨rfl, rfl⟩)
      go_step3
      refine ⟨rfl, ?_⟩
      go_wp2_with fail
      rw [Exit.jump_ret]
      refine bodyPost_ret (v := .tuple #[.string ⟨#[]⟩, .string ⟨#[]⟩, .int .i64 5]) (by simp [results, Tryd.results32, go_sem]) rfl ?_
      exact ⟨rfl, HB.out.alloc HB.out.size _⟩
    · obtain ⟨k, hk⟩ : ∃ k, l.length = k + 1 := ⟨l.length - 1, by have := List.length_pos_iff.2 h1; omega⟩
      have HE : Hid (parentE s = (pathOf (l.take k), l[k]?.getD [], 0)) := show _ = _ by
        rw [HP.out, if_neg (by simp), if_neg h1, hk]
        rfl
      rw [HE.out]
      have HQ : Hid (decide (l = []) = false) := show _ = _ from decide_eq_false h1
      have hkb : k ≤ 15 := by have := HL.out; omega
      have HT := Lib.hid (fun u w => lsTold_any u (l.take k) (by
        have := HA.out
        rw [← List.take_append_drop k l, List.all_append, Bool.and_eq_true] at this
        exact this.1) (by rw [List.length_take]; omega) w)
      have HAB := Lib.hid (fun v w => lsAbove_any v l k hk (by omega) w)
      have HLA := Lib.hid (fun v w => lsLast_any v l k hk (by omega) w)
      obtain ⟨x, hx⟩ : ∃ x, l[k]?.getD [] = x := ⟨_, rfl⟩
      rw [hx] at HLA ⊢
      clear h1 hx HE HP hk
      go_enter Tryd.func32, Tryd.ntmps32
      go_wp2
      refine wp_scope_forward 0 rfl ?_
      go_wp2_with fail
      refine HR.out.mono ?_
      rintro e w1 ⟨u, rfl, hu, hb⟩
      obtain ⟨ua, uc, rfl⟩ := hu.txs.slice
      have hv2 := hu.txs.below (W' := w1.alloc (.cells #[.slice ua l.length uc] 133)) ((Below.refl _ _).alloc (Nat.le_refl _) _)
      have HV2 := Lib.hid hv2
      go_wp2_with (go_at_call 71; refine (lsRoot_any _ l _ HV2.out).mono ?_; rintro e w2 ⟨rfl, rfl⟩; rw [HQ.out])
      have b2 : Below w.heap.size w (w1.alloc (.cells #[.slice ua l.length uc] 133)) := hb.alloc hb.size _
      have x2 := Boxed.new w1 133 (.slice ua l.length uc)
      clear HV2 hu hb
      generalize w1.alloc (.cells #[.slice ua l.length uc] 133) = wq at *
      have HG := Lib.hid (fun W (hb : Below wq.heap.size wq W) => b2.trans (hb.mono b2.size))
      have HS := Lib.hid (fun W (hb : Below wq.heap.size wq W) => Boxed.cell (show Boxed W w1.heap.size 133 (.slice ua l.length uc) from (hb.block _ x2.lt).trans x2))
      have HV := Lib.hid (fun W (hb : Below wq.heap.size wq W) => hv2.below hb)
      have bq : Below wq.heap.size wq wq := Below.refl _ _
      have zq := bq.size
      have c1 := x2.cell
      clear b2 x2 hv2
      go_wp2_with fail
      go_region_held3 (fun w' => w'.cell? ⟨w1.heap.size, 0, none⟩ = some (.slice ua l.length uc)) (exact HS.out _ (by repeat (first | exact Below.refl _ _ | assumption | refine Below.drew ?_ | refine below_drewN ?_ _ | refine Below.alloc ?_ (by (try simp) <;> omega) _ | refine Below.setCell ?_ (by (try simp) <;> omega) _ | refine Below.trans ?_ (Below.mono (by assumption) (by (try simp) <;> omega)))))
        (first | (go_at_call 72; refine (HAB.out _ _ (HV.out _ (by repeat (first | exact Below.refl _ _ | assumption | refine Below.drew ?_ | refine below_drewN ?_ _ | refine Below.alloc ?_ (by (try simp) <;> omega) _ | refine Below.setCell ?_ (by (try simp) <;> omega) _ | refine Below.trans ?_ (Below.mono (by assumption) (by (try simp) <;> omega)))))).mono ?_; rintro e wA ⟨uA, rfl, rfl, hA⟩; have HUA := Lib.hid hA; clear hA) | (go_at_call 74; refine (HLA.out _ _ (HV.out _ (by repeat (first | exact Below.refl _ _ | assumption | refine Below.drew ?_ | refine below_drewN ?_ _ | refine Below.alloc ?_ (by (try simp) <;> omega) _ | refine Below.setCell ?_ (by (try simp) <;> omega) _ | refine Below.trans ?_ (Below.mono (by assumption) (by (try simp) <;> omega)))))).mono ?_; rintro e wA ⟨rfl, rfl⟩) | (go_at_call 73; refine (HT.out _ _ (HUA.out _ (HV.out _ (by repeat (first | exact Below.refl _ _ | assumption | refine Below.drew ?_ | refine below_drewN ?_ _ | refine Below.alloc ?_ (by (try simp) <;> omega) _ | refine Below.setCell ?_ (by (try simp) <;> omega) _ | refine Below.trans ?_ (Below.mono (by assumption) (by (try simp) <;> omega))))))).mono ?_; rintro e wA ⟨rfl, hbA⟩; have bq : Below wq.heap.size wq wA := (by repeat (first | exact Below.refl _ _ | assumption | refine Below.drew ?_ | refine below_drewN ?_ _ | refine Below.alloc ?_ (by (try simp) <;> omega) _ | refine Below.setCell ?_ (by (try simp) <;> omega) _ | refine Below.trans ?_ (Below.mono (by assumption) (by (try simp) <;> omega)))); have zq := bq.size))
      all_goals
        go_wp2_with fail
        rw [Exit.jump_ret]
        refine bodyPost_ret (v := .tuple #[encStr (pathOf (l.take k)), encStr x, .int .i64 0]) (by simp [results, Tryd.results32, go_sem]) rfl ?_
        exact ⟨rfl, HG.out _ (by repeat (first | exact Below.refl _ _ | assumption | refine Below.drew ?_ | refine below_drewN ?_ _ | refine Below.alloc ?_ (by (try simp) <;> omega) _ | refine Below.setCell ?_ (by (try simp) <;> omega) _ | refine Below.trans ?_ (Below.mono (by assumption) (by (try simp) <;> omega))))⟩
  · have HE : Hid (parentE s = ([], [], no)) := show _ = _ by rw [HP.out, if_pos h0]
    rw [HE.out]
    have hq : (no == 0) = false := by simp [h0]
    clear h0
    go_enter Tryd.func32, Tryd.ntmps32
    go_wp2
    refine wp_scope_forward 0 rfl ?_
    go_wp2_with fail
    refine HR.out.mono ?_
    rintro e w1 ⟨u, rfl, hu, hb⟩
    obtain ⟨ua, uc, rfl⟩ := hu.txs.slice
    have HB := Lib.hid hb
    clear hu hb
    go_wp2_with fail
    go_step3
    refine ⟨rfl, ?_⟩
    go_wp2_with fail
    rw [Exit.jump_ret]
    refine bodyPost_ret (v := .tuple #[.string ⟨#[]⟩, .string ⟨#[]⟩, .int .i64 no]) (by simp [results, Tryd.results32, go_sem]) rfl ?_
    exact ⟨rfl, HB.out.alloc HB.out.size _⟩
end Go.Proofs.YtohdgjmmekgcmaaDoor
