/-
  Texts PthD to TeL, as one.
-/
import Derived.Test.YtgoemaecdolioaaGreatDoorMo4
import Derived.Test.YtgoemaecdolioaaGreatDoorMo5
import Derived.Test.YtgoemaecdolioaaGreatDoorMo8
import Derived.Test.YtgoemaecdolioaaGreatDoorMo9
import Derived.Shelf.Strings.SplitShaped
import Derived.Shelf.Strings.OnBuilder
import Derived.Shelf.Slices.Turned
import Derived.Test.YtgoemaecdolioaaGreatDoorChecked
import Derived.Deep.RegionHeld3
/-
  path: take (an append to the names of a path under way); the closure that next makes; every, asked of each.
-/
namespace Go.Proofs.YtgoemaecdolioaaGreatDoor
open Go.RowKit Go.Shelf Go.Sort

/-- A path under way in a box; its row lies behind the box. -/
def RowL (W : World) (b : Nat) (l : List (List UInt8)) : Prop := ∃ v, Boxed W b 258 v ∧ W.ownsRow (b + 1) 9 1 v l.length (l.map encStr)
theorem RowL.below {W W' : World} {b : Nat} {l : List (List UInt8)} (h : RowL W b l) (hb : Below W.heap.size W W') : RowL W' b l := by
  obtain ⟨v, hv, hr⟩ := h
  exact ⟨v, (hb.block b hv.lt).trans hv, own_keptG hr fun g _ hg => hb.block g hg⟩
theorem RowL.new (W : World) : RowL (W.alloc (.cells #[.slice none 0 0] 258)) W.heap.size [] := ⟨_, Boxed.new W _ _, World.ownsRow_nil _ _ _ _⟩
theorem errN_right {s : List UInt8} (h : rightN s = true) : errN s = 0 := if_pos h
theorem errN_wrong {s : List UInt8} (h : rightN s = false) : errN s = 160 := if_neg (by simp [h])
theorem tLsNe : (258 : Nat) ≠ 9 := by decide
set_option maxRecDepth 100000 in
set_option maxHeartbeats 1000000 in
theorem lsTake_any (b : Nat) (l : List (List UInt8)) (hl : l.length ≤ 1000) (x : List UInt8) (w : World) (h : RowL w b l) :
    Calls Tryz.prog 227 #[.pointer (some ⟨b, 0, none⟩), encStr x] w fun e w' => e = .returned (.bool (rightN x)) ∧ RowL w' b (if rightN x then l ++ [x] else l) ∧ Below b w w' := by
  obtain ⟨i0, hi, hz0, hz1, hz2⟩ := info_parts infoStr
  have HI := Lib.hid hi
  clear hi
  cases hr : rightN x with
  | false =>
    have HE := Lib.hid (errN_wrong hr)
    have HH := Lib.hid h
    clear h hr
    go_enter Tryz.func227, Tryz.ntmps227
    go_wp2_with fail
    refine (laCheck_any x _).mono ?_
    rintro e w1 ⟨rfl, hb1⟩
    rw [HE.out]
    have HB := Lib.hid hb1
    clear hb1
    go_wp2_with fail
    go_ret
    obtain ⟨v, hv, -⟩ := HH.out
    exact ⟨rfl, HH.out.below HB.out, HB.out.mono (Nat.le_of_lt hv.lt)⟩
  | true =>
    have HE := Lib.hid (errN_right hr)
    clear hr
    obtain ⟨v, hv, hrow⟩ := h
    have hlt := hv.lt
    go_enter Tryz.func227, Tryz.ntmps227
    go_wp2_with fail
    refine (laCheck_any x _).mono ?_
    rintro e w1 ⟨rfl, hb1⟩
    rw [HE.out]
    have hv1 : Boxed w1 b 258 v := (hb1.block b hlt).trans hv
    have hr1 := own_keptG hrow (W' := w1) fun g _ hg => hb1.block g hg
    have b2 : Below w1.heap.size w1 (w1.alloc (.cells #[encStr x] 9)) := (Below.refl _ _).alloc (Nat.le_refl _) _
    have hlt1 := hv1.lt
    have HV1 := Lib.hid hv1
    have HB1 := Lib.hid hb1
    have HG2 := Lib.hid (GrowB.below (.inr hr1) b2)
    have HO2 := Lib.hid (own_keptG hr1 (W' := w1.alloc (.cells #[encStr x] 9)) fun g _ hg => b2.block g hg)
    have HV2 := Lib.hid (vec_newL w1 #[encStr x] 9 1 1 rfl)
    have c0 := hv1.cell
    have HN := Lib.hid hl
    have HLT := Lib.hid hlt
    clear hb1 hv hrow hr1 b2 hv1 hlt
    go_wp2_with (at_builtin; refine park ?_)
    unfold Park
    refine wpList_append_vec rfl _ _ 256 rfl 9 i0 _ 1 16 infoLs HI.out hz0 hz1 hz2 rfl (by decide) (b + 1) _ _ l.length 1 _ _ rfl rfl HG2.out HV2.out (one_strs [x]) (by have := HN.out; omega) (by have := HN.out; omega) (by simp; omega) ?_
    rintro v3 w3 g3 b3 ⟨g4, g5, g6⟩
    obtain ⟨a3, k3, rfl⟩ := g3.slice
    have hv3 : Boxed w3 b 258 v := (b3.block b (by omega)).trans (HV1.out.alloc _)
    have ho3 := g6 HO2.out
    have HO3 := Lib.hid ho3
    have HV3 := Lib.hid hv3
    have HB3 : Hid (Below b w w3) := show Below _ _ _ from (HB1.out.mono (Nat.le_of_lt HLT.out)).trans ((((Below.refl _ _).alloc (by omega) _).trans (b3.mono (by omega))))
    have c3 := hv3.cell
    have f3 := hv3.frozen
    clear c0 g3 b3 g4 g5 g6 hv3 ho3
    go_wp2_with fail
    go_ret
    refine ⟨rfl, ⟨_, HV3.out.set _, ?_⟩, HB3.out.setCell (p := ⟨b, 0, none⟩) (Nat.le_refl _) _⟩
    have := HO3.out.kept (grownBy_setCell' w3 b (.slice a3 (l.length + 1) k3)) (.inr (HV3.out.not_row tLsNe HO3.out).symm)
    rw [List.length_append, List.map_append]
    exact this
theorem all_take_succ {L : List (List UInt8)} {k : Nat} {x : List UInt8} (hk : k < L.length) (hx : x = L[k]?.getD []) (f : List UInt8 → Bool) : (L.take (k + 1)).all f = ((L.take k).all f && f x) ∧ L.take (k + 1) = L.take k ++ [x] := by
  have e : L.take (k + 1) = L.take k ++ [x] := by
    rw [List.take_succ_eq_append_getElem hk, hx]
    simp [hk]
  exact ⟨by rw [e, List.all_append]; simp, e⟩
theorem all_false_of_take {L : List (List UInt8)} {k : Nat} {f : List UInt8 → Bool} (h : (L.take k).all f = false) : L.all f = false := by
  rw [← List.take_append_drop k L, List.all_append, h]
  rfl
set_option maxRecDepth 100000 in
set_option maxHeartbeats 2000000 in
theorem evTake_any (b : Nat) (L : List (List UInt8)) (hl : L.length ≤ 1000) (v : Value) (w : World) (hv : TxS w v L) (hvb : ∀ W, Below b w W → TxS W v L) (h : RowL w b []) :
    Calls Tryz.prog 210 #[.func (.func 227) #[.pointer (some ⟨b, 0, none⟩)] #[], v] w fun e w' => e = .returned (.bool (L.all rightN)) ∧ (L.all rightN = true → RowL w' b L) ∧ Below b w w' := by
  obtain ⟨a, cap, vb, voff, rfl, hlc, ha, -⟩ := hv.cell
  have HVB := Lib.hid hvb
  have HH := Lib.hid h
  have HL := Lib.hid hl
  clear hv hvb h hl
  generalize hn : L.length = n at *
  have hnb := HL.out
  go_enter Tryz.func210, Tryz.ntmps210
  go_wp2
  go_loopw [9] (fun i wr => ∃ k : Nat, k ≤ n ∧ i = .int .i64 k ∧ Hid ((L.take k).all rightN = true) ∧ RowL wr b (L.take k) ∧ Below b w wr) (fun i _ => n - (intOf i).toNat)
  case atStart => exact ⟨0, Nat.zero_le _, rfl, Lib.hid rfl, HH.out, Below.refl _ _⟩
  case round =>
    obtain ⟨k, hk, rfl, HA, hr, hb⟩ := hrel
    have HR := Lib.hid hr
    have HB := Lib.hid hb
    by_cases hlt : k < n
    · obtain rfl := ha (by omega)
      have hcx := (HVB.out wr hb).cell
      obtain ⟨a1, cap1, b1, o1, e1, -, ha1, hc1⟩ := hcx
      simp only [Value.slice.injEq] at e1
      obtain ⟨e1, -, rfl⟩ := e1
      have ha2 := ha1 (by omega)
      rw [← e1] at ha2
      simp only [Option.some.injEq, Addr.mk.injEq, and_true] at ha2
      obtain ⟨rfl, rfl⟩ := ha2
      have c1 := (hc1 (by omega)).2 k (by omega)
      have hn' : ((k : Nat) : Int) < (n : Int) := by omega
      obtain ⟨x, hx⟩ : ∃ x, x = L[k]?.getD [] := ⟨_, rfl⟩
      rw [← hx] at c1
      have HS := Lib.hid (all_take_succ (by omega) hx rightN)
      have HK : Hid ((L.take k).length ≤ 1000) := show _ ≤ _ by rw [List.length_take]; have := HL.out; omega
      clear hx hc1 ha1 e1 hr hb
      go_wp2_with fail
      refine (lsTake_any b (L.take k) HK.out x _ HR.out).mono ?_
      rintro e w1 ⟨rfl, hr1, hb1⟩
      have HB1 : Hid (Below b w w1) := show Below _ _ _ from HB.out.trans hb1
      cases hx : rightN x with
      | true =>
        rw [hx, if_pos rfl, ← HS.out.2] at hr1
        have HR1 := Lib.hid hr1
        have HA1 : Hid ((L.take (k + 1)).all rightN = true) := show _ = _ by rw [HS.out.1, HA.out, hx]; rfl
        clear hr1 hb1 hx
        go_wp2_with fail
        go_roundw
        case rel => exact ⟨k + 1, by omega, by go_num, HA1, HR1.out, HB1.out⟩
        case measure => simp [intOf]; omega
      | false =>
        have HF : Hid (L.all rightN = false) := show _ = _ from all_false_of_take (k := k + 1) (by rw [HS.out.1, hx]; simp)
        clear hr1 hb1 hx
        go_wp2_with fail
        go_ret
        refine ⟨ret_bool (by rw [HF.out]), fun h => ?_, HB1.out⟩
        rw [HF.out] at h
        cases h
    · obtain rfl : k = n := by omega
      have HT : Hid (L.take k = L) := show _ = _ from List.take_of_length_le (by omega)
      rw [HT.out] at HA HR
      clear hr hb
      go_wp2_with fail
      go_ret
      exact ⟨ret_bool (by rw [HA.out]), fun _ => HR.out, HB.out⟩
end Go.Proofs.YtgoemaecdolioaaGreatDoor

/-
  strings.SplitN, strings.Join, slices.Contains at texts: laid at this program (written by gen_pth.py).
-/
namespace Go.Proofs.YtgoemaecdolioaaGreatDoor
open Go.RowKit Go.Shelf
def lay_splitN_ren : Go.Shelf.Ren := ⟨fun | 147 => 219 | 221 => 225 | 268 => 237 | 138 => 238 | 143 => 239 | 195 => 245 | 197 => 246 | 218 => 247 | 219 => 248 | 260 => 250 | 217 => 251 | 225 => 252 | 224 => 253 | 267 => 254 | 266 => 255 | 314 => 256 | n => n, fun | 9 => 9 | 3 => 3 | 31 => 42 | 4 => 4 | 0 => 0 | 105 => 292 | 21 => 21 | 5 => 5 | 46 => 219 | 119 => 296 | 139 => 299 | 138 => 298 | 146 => 300 | 51 => 243 | n => n, fun | 1 => 0 | 3 => 1 | 4 => 2 | n => n⟩
theorem lay_splitN : Go.Proofs.LaysM.n147 Tryz.prog lay_splitN_ren :=
  { mixed := (by kernel_rfl),
    f138 := Tryz.func238.trans (congrArg some (by kernel_rfl)),
    f143 := Tryz.func239.trans (congrArg some (by kernel_rfl)),
    f147 := Tryz.func219.trans (congrArg some (by kernel_rfl)),
    f195 := Tryz.func245.trans (congrArg some (by kernel_rfl)),
    f197 := Tryz.func246.trans (congrArg some (by kernel_rfl)),
    f217 := Tryz.func251.trans (congrArg some (by kernel_rfl)),
    f218 := Tryz.func247.trans (congrArg some (by kernel_rfl)),
    f219 := Tryz.func248.trans (congrArg some (by kernel_rfl)),
    f221 := Tryz.func225.trans (congrArg some (by kernel_rfl)),
    f224 := Tryz.func253.trans (congrArg some (by kernel_rfl)),
    f225 := Tryz.func252.trans (congrArg some (by kernel_rfl)),
    f260 := Tryz.func250.trans (congrArg some (by kernel_rfl)),
    f266 := Tryz.func255.trans (congrArg some (by kernel_rfl)),
    f267 := Tryz.func254.trans (congrArg some (by kernel_rfl)),
    f268 := Tryz.func237.trans (congrArg some (by kernel_rfl)),
    f314 := Tryz.func256.trans (congrArg some (by kernel_rfl)),
    t0 := Tryz.underlying0,
    a0 := Tryz.isAgg0,
    z0 := Tryz.sizeOf0,
    v0 := Tryz.zeroValue0,
    t3 := Tryz.underlying3,
    a3 := Tryz.isAgg3,
    z3 := Tryz.sizeOf3,
    v3 := Tryz.zeroValue3,
    t4 := Tryz.underlying4,
    a4 := Tryz.isAgg4,
    z4 := Tryz.sizeOf4,
    v4 := Tryz.zeroValue4,
    t5 := Tryz.underlying5,
    a5 := Tryz.isAgg5,
    z5 := Tryz.sizeOf5,
    v5 := Tryz.zeroValue5,
    t9 := Tryz.underlying9,
    a9 := Tryz.isAgg9,
    z9 := Tryz.sizeOf9,
    v9 := Tryz.zeroValue9,
    t21 := Tryz.underlying21,
    a21 := Tryz.isAgg21,
    z21 := Tryz.sizeOf21,
    v21 := Tryz.zeroValue21,
    t31 := Tryz.underlying42,
    a31 := Tryz.isAgg42,
    z31 := Tryz.sizeOf42,
    v31 := Tryz.zeroValue42,
    t46 := Tryz.underlying219,
    a46 := Tryz.isAgg219,
    z46 := Tryz.sizeOf219,
    v46 := Tryz.zeroValue219,
    t51 := Tryz.underlying243,
    a51 := Tryz.isAgg243,
    z51 := Tryz.sizeOf243,
    v51 := Tryz.zeroValue243,
    t105 := Tryz.underlying292,
    a105 := Tryz.isAgg292,
    z105 := Tryz.sizeOf292,
    v105 := Tryz.zeroValue292,
    t119 := Tryz.underlying296,
    a119 := Tryz.isAgg296,
    z119 := Tryz.sizeOf296,
    t138 := Tryz.underlying298,
    a138 := Tryz.isAgg298,
    z138 := Tryz.sizeOf298,
    v138 := Tryz.zeroValue298,
    t139 := Tryz.underlying299,
    a139 := Tryz.isAgg299,
    z139 := Tryz.sizeOf299,
    v139 := Tryz.zeroValue299,
    t146 := Tryz.underlying300,
    a146 := Tryz.isAgg300,
    z146 := Tryz.sizeOf300,
    v146 := Tryz.zeroValue300,
    g1 := (by kernel_rfl),
    g3 := (by kernel_rfl),
    g4 := (by kernel_rfl),
    i0 := (by kernel_rfl),
    i3 := (by kernel_rfl),
    i4 := (by kernel_rfl),
    i5 := (by kernel_rfl),
    i9 := (by kernel_rfl),
    i21 := (by kernel_rfl),
    i31 := (by kernel_rfl),
    i46 := (by kernel_rfl),
    i51 := (by kernel_rfl),
    i105 := (by kernel_rfl),
    i138 := (by kernel_rfl),
    i139 := (by kernel_rfl),
    i146 := (by kernel_rfl),
    m1 := (by kernel_rfl),
    s1_3 := fun w h => Go.Proofs.cell_of_shapedOpen_int (zero := #[.int .i64 0]) (t := 3) h (of_decide_eq_true (by kernel_rfl)) (by kernel_rfl) rfl (by kernel_rfl) (by kernel_rfl) Tryz.underlying3,
    m3 := (by kernel_rfl),
    m4 := (by kernel_rfl) }
def lay_hasS_ren : Go.Shelf.Ren := ⟨fun | 110 => 220 | 109 => 226 | n => n, fun | 31 => 42 | 9 => 9 | 4 => 4 | 3 => 3 | 0 => 0 | n => n, fun | n => n⟩
theorem lay_hasS : Go.Proofs.Lays.n110 Tryz.prog lay_hasS_ren :=
  { mixed := (by kernel_rfl),
    f109 := Tryz.func226.trans (congrArg some (by kernel_rfl)),
    f110 := Tryz.func220.trans (congrArg some (by kernel_rfl)),
    t0 := Tryz.underlying0,
    a0 := Tryz.isAgg0,
    z0 := Tryz.sizeOf0,
    v0 := Tryz.zeroValue0,
    t3 := Tryz.underlying3,
    a3 := Tryz.isAgg3,
    z3 := Tryz.sizeOf3,
    v3 := Tryz.zeroValue3,
    t4 := Tryz.underlying4,
    a4 := Tryz.isAgg4,
    z4 := Tryz.sizeOf4,
    v4 := Tryz.zeroValue4,
    t9 := Tryz.underlying9,
    a9 := Tryz.isAgg9,
    z9 := Tryz.sizeOf9,
    v9 := Tryz.zeroValue9,
    t31 := Tryz.underlying42,
    a31 := Tryz.isAgg42,
    z31 := Tryz.sizeOf42,
    v31 := Tryz.zeroValue42 }
end Go.Proofs.YtgoemaecdolioaaGreatDoor

/-
  path: SplitN, Join, Contains as this program calls them; told.
-/
namespace Go.Proofs.YtgoemaecdolioaaGreatDoor
open Go.RowKit Go.Shelf Go.Sort

/-- The library's bound on what it seeks, as any number. -/
structure MaxC (W : World) : Prop where
  cell : ∃ m, W.cell? ⟨0, 0, none⟩ = some (.int .i64 m)
  room : 0 < W.heap.size
theorem MaxC.below {W W' : World} {n : Nat} (h : MaxC W) (hb : Below n W W') (hn : 0 < n) : MaxC W' :=
  ⟨let ⟨m, hm⟩ := h.cell; ⟨m, (hb.cell (p := ⟨0, 0, none⟩) hn).trans hm⟩, Nat.lt_of_lt_of_le h.room hb.size⟩
theorem MaxC.of_shape {W : World} (h : W.ShapedOpen Tryz.prog) : MaxC W := by
  have hc := lay_splitN.s1_3 W h
  refine ⟨hc, ?_⟩
  obtain ⟨m, hm0⟩ := hc
  have hm : W.cell? ⟨0, 0, none⟩ = some (.int .i64 m) := hm0
  rcases Nat.lt_or_ge 0 W.heap.size with h2 | h2
  · exact h2
  · unfold World.cell? at hm
    rw [Array.getElem?_eq_none (by simpa using h2)] at hm
    cases hm
theorem splitN_any (s : List UInt8) (hs : s.length ≤ 1000000) (w : World) (hm : MaxC w) :
    Calls Tryz.prog 219 #[encStr s, .string ⟨#[47]⟩, .int .i64 18] w fun e w' => ∃ cap, e = .returned (.slice (some ⟨w.heap.size, 0, none⟩) (piecesP s).length cap) ∧ TxS w' (.slice (some ⟨w.heap.size, 0, none⟩) (piecesP s).length cap) (piecesP s) ∧ Below w.heap.size w w' := by
  obtain ⟨m, hc⟩ := hm.cell
  have hz : (⟨s.toArray⟩ : ByteArray).size = s.length := by simp [ByteArray.size]
  have key := Any.strings_SplitN { lay_splitN with } lay_splitN.i9 ⟨s.toArray⟩ ⟨#[47]⟩ 18 m w (by rw [hz]; omega) hc (by decide) (by decide) (by decide)
  refine key.mono ?_
  rintro e w' ⟨rfl, rfl⟩
  have hl := piecesP_len s
  have hk : (piecesP s).length ≤ min 18 ((⟨s.toArray⟩ : ByteArray).size + 1) := by
    rw [hz]
    have h1 := Lib.splitB_length_le ⟨#[47]⟩ 0 (min 18 ((⟨s.toArray⟩ : ByteArray).size + 1) - 1) ⟨s.toArray⟩
    rw [pieces_count, hz] at h1
    omega
  refine ⟨min 18 ((⟨s.toArray⟩ : ByteArray).size + 1), by rw [← pieces_count], ?_, (Below.refl _ _).alloc (Nat.le_refl _) _⟩
  refine ⟨by simp, _, _, rfl, hk, fun _ => ⟨_, _, rfl, by simp, fun j y hy => ?_⟩⟩
  have e := World.alloc_heap_new w (.cells (Lib.cellsOf (Lib.splitB ⟨#[47]⟩ 0 (min 18 ((⟨s.toArray⟩ : ByteArray).size + 1) - 1) ⟨s.toArray⟩) (min 18 ((⟨s.toArray⟩ : ByteArray).size + 1))) (lay_splitN_ren.t 9))
  unfold World.cell?
  simp only [e, Nat.zero_add]
  unfold Lib.cellsOf
  rw [pieces_data, List.getElem?_toArray, List.getElem?_append_left (List.getElem?_eq_some_iff.1 hy).1]
  exact hy
theorem hasS_any (v : Value) (l : List (List UInt8)) (hl : l.length ≤ 1000000) (w : World) (hv : TxS w v l) :
    Calls Tryz.prog 220 #[v, .string ⟨#[]⟩] w fun e w' => e = .returned (.bool (decide ([] ∈ l))) ∧ w = w' := by
  obtain ⟨a, cap, b, off, rfl, hlc, ha, hc⟩ := hv.cell
  by_cases h0 : 0 < l.length
  · obtain rfl := ha h0
    refine (Any.slices_Contains_string lay_hasS b off l.length cap (l.map fun x => ⟨x.toArray⟩) ⟨#[]⟩ w (by rw [List.length_map]; exact Nat.le_refl _) (by omega) (fun j hj => ?_)).mono ?_
    · rw [List.length_map] at hj
      rw [(hc h0).2 j hj]
      simp [hj, encStr]
    · rintro e w' ⟨rfl, rfl⟩
      refine ⟨ret_bool ?_, rfl⟩
      rw [Bool.eq_iff_iff, Lib.containsS_iff, decide_eq_true_iff, List.take_of_length_le (by rw [List.length_map]; exact Nat.le_refl _), List.mem_map]
      constructor
      · rintro ⟨x, hx, e⟩
        cases x with
        | nil => exact hx
        | cons c x => simp at e
      · intro h
        exact ⟨[], h, rfl⟩
  · have e : l = [] := List.eq_nil_of_length_eq_zero (by omega)
    subst e
    refine (Any.slices_Contains_string_empty lay_hasS a cap ⟨#[]⟩ w).mono ?_
    rintro e w' ⟨rfl, rfl⟩
    exact ⟨rfl, rfl⟩
end Go.Proofs.YtgoemaecdolioaaGreatDoor

/-
  path: under; read.
-/
namespace Go.Proofs.YtgoemaecdolioaaGreatDoor
open Go.RowKit Go.Shelf Go.Sort

/-- A path under way, as a value. -/
abbrev ldV (u : Value) : Value := .agg #[u]
/-- A list of texts of one's own, from B on. -/
abbrev OwnT (W : World) (B : Nat) (u : Value) (l : List (List UInt8)) : Prop := W.ownsRow B 9 1 u l.length (l.map encStr)
theorem OwnT.txs {W : World} {B : Nat} {u : Value} {l : List (List UInt8)} (h : OwnT W B u l) : TxS W u l := vec_of_own h
theorem ownT_nil (W : World) (B : Nat) : OwnT W B (.slice none 0 0) [] := World.ownsRow_nil _ _ _ _
set_option maxRecDepth 100000 in
set_option maxHeartbeats 2000000 in
theorem under_any (v : Value) (l : List (List UInt8)) (hl : l.length ≤ 1000) (w : World) (hv : TxS w v l) :
    Calls Tryz.prog 221 #[v] w fun e w' => ∃ u, e = .returned (.tuple #[ldV u, .int .i64 (underE l).2]) ∧ OwnT w' w.heap.size u (underE l).1 ∧ Below w.heap.size w w' := by
  have HV := Lib.hid hv
  obtain ⟨a, cap, rfl⟩ := hv.slice
  rcases underE_cases l with ⟨h1, h2, h3⟩ | ⟨h1, h3⟩ | ⟨h1, h2, h3⟩
  · rw [h3]
    have HE := Lib.hid (evTake_any (w.heap.size + 1) l hl (.slice a l.length cap))
    have HR := Lib.hid h2
    have hn : ¬ (16 : Int) < (l.length : Int) := by omega
    clear hv h2 h3
    go_enter Tryz.func221, Tryz.ntmps221
    go_wp2
    refine wp_scope_forward 0 rfl ?_
    go_wp2_with fail
    have b0 : Below w.heap.size w ((w.alloc (.cells #[.slice none 0 0] 258)).alloc (.cells #[.slice none 0 0] 258)) := (by repeat (first | exact Below.refl _ _ | assumption | refine Below.drew ?_ | refine below_drewN ?_ _ | refine Below.alloc ?_ (by (try simp) <;> omega) _ | refine Below.setCell ?_ (by (try simp) <;> omega) _ | refine Below.trans ?_ (Below.mono (by assumption) (by (try simp) <;> omega))))
    have r0 := RowL.new (w.alloc (.cells #[.slice none 0 0] 258))
    have x0 := (Boxed.new w 258 (.slice none 0 0)).alloc (.cells #[.slice none 0 0] 258)
    have z0 : ((w.alloc (.cells #[.slice none 0 0] 258)).alloc (.cells #[.slice none 0 0] 258)).heap.size = w.heap.size + 1 + 1 := by simp
    rw [World.size_alloc] at r0
    refine (HE.out _ (HV.out.below b0) (fun W hW => HV.out.below (b0.trans (hW.mono (by omega)))) r0).mono ?_
    rintro e w3 ⟨rfl, hr3, hb3⟩
    rw [HR.out]
    obtain ⟨u, hu, hru⟩ := hr3 HR.out
    have hx3 : Boxed w3 w.heap.size 258 (.slice none 0 0) := (hb3.block _ (by omega)).trans x0
    obtain ⟨ua, uc, rfl⟩ := (vec_of_own hru).slice
    have HB3 : Hid (Below w.heap.size w w3) := show Below _ _ _ from b0.trans (hb3.mono (by omega))
    have HX3 := Lib.hid hx3
    have HU := Lib.hid hru
    have c3 := hu.cell
    have d3 := hx3.cell
    have f3 := hx3.frozen
    clear hr3 hb3 b0 r0 x0 hu hx3 hru
    go_wp2_with fail
    rw [Exit.jump_ret]
    refine bodyPost_ret (v := .tuple #[ldV (.slice ua l.length uc), .int .i64 0]) (by simp [results, Tryz.results221, go_sem, (HX3.out.set (.slice ua l.length uc)).cell]) rfl ⟨_, rfl, ?_, HB3.out.setCell (p := ⟨w.heap.size, 0, none⟩) (Nat.le_refl _) _⟩
    have := HU.out.kept (grownBy_setCell' w3 w.heap.size (.slice ua l.length uc)) (.inr (HX3.out.not_row tLsNe HU.out).symm)
    exact own_lowG this (by omega)
  · rw [h3]
    have hn : (16 : Int) < (l.length : Int) := by omega
    clear hv h3
    go_enter Tryz.func221, Tryz.ntmps221
    go_wp2
    refine wp_scope_forward 0 rfl ?_
    go_wp2_with fail
    go_step3
    refine ⟨rfl, ?_⟩
    have hx3 := (Boxed.new w 258 (.slice none 0 0)).alloc (.cells #[.slice none 0 0] 258)
    have HX3 := Lib.hid hx3
    have d3 := hx3.cell
    have f3 := hx3.frozen
    have HB3 : Hid (Below w.heap.size w ((w.alloc (.cells #[.slice none 0 0] 258)).alloc (.cells #[.slice none 0 0] 258))) := show Below _ _ _ from (by repeat (first | exact Below.refl _ _ | assumption | refine Below.drew ?_ | refine below_drewN ?_ _ | refine Below.alloc ?_ (by (try simp) <;> omega) _ | refine Below.setCell ?_ (by (try simp) <;> omega) _ | refine Below.trans ?_ (Below.mono (by assumption) (by (try simp) <;> omega))))
    clear hx3
    go_wp2_with fail
    rw [Exit.jump_ret]
    exact bodyPost_ret (v := .tuple #[ldV (.slice none 0 0), .int .i64 170]) (by simp [results, Tryz.results221, go_sem]) rfl ⟨_, rfl, ownT_nil _ _, HB3.out⟩
  · rw [h3]
    have HE := Lib.hid (evTake_any (w.heap.size + 1) l hl (.slice a l.length cap))
    have HR := Lib.hid h2
    have hn : ¬ (16 : Int) < (l.length : Int) := by omega
    clear hv h2 h3
    go_enter Tryz.func221, Tryz.ntmps221
    go_wp2
    refine wp_scope_forward 0 rfl ?_
    go_wp2_with fail
    have b0 : Below w.heap.size w ((w.alloc (.cells #[.slice none 0 0] 258)).alloc (.cells #[.slice none 0 0] 258)) := (by repeat (first | exact Below.refl _ _ | assumption | refine Below.drew ?_ | refine below_drewN ?_ _ | refine Below.alloc ?_ (by (try simp) <;> omega) _ | refine Below.setCell ?_ (by (try simp) <;> omega) _ | refine Below.trans ?_ (Below.mono (by assumption) (by (try simp) <;> omega))))
    have r0 := RowL.new (w.alloc (.cells #[.slice none 0 0] 258))
    have x0 := (Boxed.new w 258 (.slice none 0 0)).alloc (.cells #[.slice none 0 0] 258)
    have z0 : ((w.alloc (.cells #[.slice none 0 0] 258)).alloc (.cells #[.slice none 0 0] 258)).heap.size = w.heap.size + 1 + 1 := by simp
    rw [World.size_alloc] at r0
    refine (HE.out _ (HV.out.below b0) (fun W hW => HV.out.below (b0.trans (hW.mono (by omega)))) r0).mono ?_
    rintro e w3 ⟨rfl, -, hb3⟩
    rw [HR.out]
    have hx3 : Boxed w3 w.heap.size 258 (.slice none 0 0) := (hb3.block _ (by omega)).trans x0
    have HB3 : Hid (Below w.heap.size w w3) := show Below _ _ _ from b0.trans (hb3.mono (by omega))
    have HX3 := Lib.hid hx3
    have d3 := hx3.cell
    have f3 := hx3.frozen
    clear hb3 b0 r0 x0 hx3
    go_wp2_with fail
    go_step3
    refine ⟨rfl, ?_⟩
    go_wp2_with fail
    rw [Exit.jump_ret]
    exact bodyPost_ret (v := .tuple #[ldV (.slice none 0 0), .int .i64 160]) (by simp [results, Tryz.results221, go_sem, (HX3.out.set (.slice none 0 0)).cell]) rfl ⟨_, rfl, ownT_nil _ _, HB3.out.setCell (p := ⟨w.heap.size, 0, none⟩) (Nat.le_refl _) _⟩
end Go.Proofs.YtgoemaecdolioaaGreatDoor

/-
  path: read.
-/
namespace Go.Proofs.YtgoemaecdolioaaGreatDoor
open Go.RowKit Go.Shelf Go.Sort

set_option maxRecDepth 100000 in
set_option maxHeartbeats 4000000 in
theorem read_any (s : List UInt8) (hs : s.length ≤ 1000000) (w : World) (hm : MaxC w) :
    Calls Tryz.prog 205 #[encStr s] w fun e w' => ∃ u, e = .returned (.tuple #[ldV u, .int .i64 (splitE s).2]) ∧ OwnT w' w.heap.size u (splitE s).1 ∧ Below w.heap.size w w' := by
  have HSP := Lib.hid (read_splits s)
  have HS := Lib.hid (splitN_any s hs)
  obtain ⟨i0, hi, hz0, hz1, hz2⟩ := info_parts infoStr
  have HI := Lib.hid hi
  have hxw := Boxed.new w 258 (.slice none 0 0)
  have HMC := Lib.hid (hm.below (W' := w.alloc (.cells #[.slice none 0 0] 258)) ((Below.refl _ _).alloc (Nat.le_refl _) _) hm.room)
  have hP := piecesP_len s
  obtain ⟨X, hX⟩ : ∃ X, piecesP s = X := ⟨_, rfl⟩
  have HXX := Lib.hid hX
  rw [hX] at HSP HS hP
  clear hi hm hX
  go_enter Tryz.func205, Tryz.ntmps205
  go_wp2
  refine wp_scope_forward 0 rfl ?_
  go_wp2_with fail
  refine (HS.out _ HMC.out).mono ?_
  rintro e w1 ⟨cap, rfl, hv1, hb1⟩
  have hx1 : Boxed w1 w.heap.size 258 (.slice none 0 0) := (hb1.block _ (by simp)).trans hxw
  have HB1 : Hid (Below w.heap.size w w1) := show Below _ _ _ from ((Below.refl _ _).alloc (Nat.le_refl _) _).trans (hb1.mono (by simp))
  have HX1 := Lib.hid hx1
  have d1 := hx1.cell
  have f1 := hx1.frozen
  obtain ⟨-, a0, k0, e0, hcap, ha0⟩ := hv1
  obtain ⟨b0, o0, ea, hlt0, hc0⟩ := ha0 (by omega)
  simp only [Value.slice.injEq] at e0
  obtain ⟨e1, -, e2⟩ := e0
  rw [← e1] at ea
  simp only [Option.some.injEq, Addr.mk.injEq, and_true] at ea
  obtain ⟨rfl, rfl⟩ := ea
  rw [← e2] at hcap
  have HV2 : Hid (TxS w1 (.slice (some ⟨(w.alloc (.cells #[.slice none 0 0] 258)).heap.size, 1, none⟩) (X.length - 1) (X.length - 1)) X.tail) := show Vec _ _ _ _ _ from
    ⟨by simp, _, X.length - 1, by rw [List.length_tail], by rw [List.length_tail]; exact Nat.le_refl _, fun _ => ⟨_, _, rfl, hlt0, fun j y hy => by
      have := hc0 (1 + j) y (by rw [← hy, List.map_tail, List.getElem?_tail, Nat.add_comm])
      rw [Nat.zero_add] at this
      exact this⟩⟩
  have HC0 : Hid (w1.cell? ⟨(w.alloc (.cells #[.slice none 0 0] 258)).heap.size, 0, none⟩ = some (encStr (X[0]?.getD []))) := show _ = _ from by
    have := hc0 0 (encStr (X[0]?.getD [])) (by simp [show 0 < X.length by omega])
    rw [Nat.zero_add] at this
    exact this
  rw [World.size_alloc] at HV2 HC0
  have c0 := HC0.out
  obtain ⟨x0, hx0⟩ : ∃ x0, x0 = X[0]?.getD [] := ⟨_, rfl⟩
  rw [← hx0] at c0 HSP
  have hml : X.tail.length = X.length - 1 := List.length_tail
  have HT0 : Hid (X.tail = [] ↔ X.length = 1) := show _ ↔ _ from ⟨fun h => by rw [h] at hml; simp at hml; omega, fun h => List.eq_nil_of_length_eq_zero (by rw [hml, h])⟩
  have HT1 : Hid (s = [47] → X.length = 2) := fun h => by rw [← HXX.out, h]; rfl
  obtain ⟨T, hT⟩ : ∃ T, X.tail = T := ⟨_, rfl⟩
  rw [hT] at HSP HV2 HT0 hml
  generalize hn : X.length = n at *
  have HTL : Hid (T.length ≤ 17) := show _ ≤ _ by omega
  clear hb1 hx1 hc0 ha0 hx0 hT e1 e2 hxw HC0 hlt0
  by_cases q1 : s = [47]
  · have HA : Hid (splitE s = ([], 0)) := show _ = _ by rw [HSP.out, if_pos q1]
    have hq : (s == [47]) = true := by simp [q1]
    have hn2 := HT1.out q1
    clear q1 hn
    subst hn2
    go_wp2_with fail
    rw [Exit.jump_ret]
    refine bodyPost_ret (v := .tuple #[ldV (.slice none 0 0), .int .i64 0]) (by simp [results, Tryz.results205, go_sem, (HX1.out.set (.slice none 0 0)).cell]) rfl ?_
    rw [HA.out]
    exact ⟨_, rfl, ownT_nil _ _, HB1.out.setCell (p := ⟨w.heap.size, 0, none⟩) (Nat.le_refl _) _⟩
  have hq : (s == [47]) = false := by simp [q1]
  have HQ : Hid (splitE s = if T = [] ∨ x0 ≠ [] ∨ [] ∈ T then ([], 170) else underE T) := show _ = _ by rw [HSP.out, if_neg q1]
  clear q1 HSP HT1
  by_cases q2 : n = 1
  · have HA : Hid (splitE s = ([], 170)) := show _ = _ by rw [HQ.out, if_pos (.inl (HT0.out.2 q2))]
    clear hn
    subst q2
    go_wp2_with fail
    go_step3
    refine ⟨rfl, ?_⟩
    go_wp2_with fail
    rw [Exit.jump_ret]
    refine bodyPost_ret (v := .tuple #[ldV (.slice none 0 0), .int .i64 170]) (by simp [results, Tryz.results205, go_sem, (HX1.out.set (.slice none 0 0)).cell]) rfl ?_
    rw [HA.out]
    exact ⟨_, rfl, ownT_nil _ _, HB1.out.setCell (p := ⟨w.heap.size, 0, none⟩) (Nat.le_refl _) _⟩
  have hq2 : (((n - 1 : Nat) : Int) == 0) = false := by simp; omega
  by_cases q3 : x0 = []
  · subst q3
    by_cases q4 : [] ∈ T
    · have HA : Hid (splitE s = ([], 170)) := show _ = _ by rw [HQ.out, if_pos (.inr (.inr q4))]
      have HC := Lib.hid (hasS_any _ T (by have := HTL.out; omega) w1 HV2.out)
      have HD : Hid (decide ([] ∈ T) = true) := show _ = _ from decide_eq_true q4
      clear q4 hn hml
      go_wp2_with (go_at_call 220; refine HC.out.mono ?_; rintro e w2 ⟨rfl, rfl⟩; rw [HD.out])
      go_step3
      refine ⟨rfl, ?_⟩
      go_wp2_with fail
      rw [Exit.jump_ret]
      refine bodyPost_ret (v := .tuple #[ldV (.slice none 0 0), .int .i64 170]) (by simp [results, Tryz.results205, go_sem, (HX1.out.set (.slice none 0 0)).cell]) rfl ?_
      rw [HA.out]
      exact ⟨_, rfl, ownT_nil _ _, HB1.out.setCell (p := ⟨w.heap.size, 0, none⟩) (Nat.le_refl _) _⟩
    · have HA : Hid (splitE s = underE T) := show _ = _ by
        rw [HQ.out, if_neg]
        rintro (h | h | h)
        · exact q2 (HT0.out.1 h)
        · exact h rfl
        · exact q4 h
      have HC := Lib.hid (hasS_any _ T (by have := HTL.out; omega) w1 HV2.out)
      have HU := Lib.hid (under_any _ T (by have := HTL.out; omega) w1 HV2.out)
      have HD : Hid (decide ([] ∈ T) = false) := show _ = _ from decide_eq_false q4
      clear q4 hn hml
      go_wp2_with (first | (go_at_call 220; refine HC.out.mono ?_; rintro e w2 ⟨rfl, rfl⟩; rw [HD.out]) | (go_at_call 221; refine park ?_))
      unfold Park
      refine HU.out.mono ?_
      rintro e w2 ⟨u, rfl, hu, hb2⟩
      have hlt := HX1.out.lt
      have hx2 : Boxed w2 w.heap.size 258 (.slice none 0 0) := (hb2.block _ hlt).trans HX1.out
      have HX2 := Lib.hid hx2
      have HB2 : Hid (Below w.heap.size w w2) := show Below _ _ _ from HB1.out.trans (hb2.mono (by omega))
      obtain ⟨ua, uc, rfl⟩ := hu.txs.slice
      have HUU := Lib.hid hu
      have d2 := hx2.cell
      have f2 := hx2.frozen
      clear d1 f1 hx2 hb2 hu
      go_wp2_with fail
      rw [Exit.jump_ret]
      refine bodyPost_ret (v := .tuple #[ldV (.slice ua (underE T).1.length uc), .int .i64 (underE T).2]) (by simp [results, Tryz.results205, go_sem, (HX2.out.set (.slice ua (underE T).1.length uc)).cell]) rfl ?_
      rw [HA.out]
      refine ⟨_, rfl, ?_, HB2.out.setCell (p := ⟨w.heap.size, 0, none⟩) (Nat.le_refl _) _⟩
      have := HUU.out.kept (grownBy_setCell' w2 w.heap.size (.slice ua (underE T).1.length uc)) (.inr (HX2.out.not_row tLsNe HUU.out).symm)
      exact own_lowG this (by omega)
  · have HA : Hid (splitE s = ([], 170)) := show _ = _ by rw [HQ.out, if_pos (.inr (.inl q3))]
    have hq3 : (x0 == []) = false := by simp [q3]
    clear q3 hn hml
    go_wp2_with fail
    go_step3
    refine ⟨rfl, ?_⟩
    go_wp2_with fail
    rw [Exit.jump_ret]
    refine bodyPost_ret (v := .tuple #[ldV (.slice none 0 0), .int .i64 170]) (by simp [results, Tryz.results205, go_sem, (HX1.out.set (.slice none 0 0)).cell]) rfl ?_
    rw [HA.out]
    exact ⟨_, rfl, ownT_nil _ _, HB1.out.setCell (p := ⟨w.heap.size, 0, none⟩) (Nat.le_refl _) _⟩
end Go.Proofs.YtgoemaecdolioaaGreatDoor

/-
  path: Split, Join, Parent.
-/
namespace Go.Proofs.YtgoemaecdolioaaGreatDoor
open Go.RowKit Go.Shelf Go.Sort

set_option maxRecDepth 100000 in
set_option maxHeartbeats 2000000 in
theorem paSplit_any (s : List UInt8) (hs : s.length ≤ 1000000) (w : World) (hm : MaxC w) :
    Calls Tryz.prog 185 #[encStr s] w fun e w' => ∃ u, e = .returned (.tuple #[u, .int .i64 (splitE s).2]) ∧ OwnT w' w.heap.size u (splitE s).1 ∧ Below w.heap.size w w' := by
  have HR := Lib.hid (read_any s hs w hm)
  clear hm
  go_enter Tryz.func185, Tryz.ntmps185
  go_wp2_with fail
  refine HR.out.mono ?_
  rintro e w1 ⟨u, rfl, hu, hb⟩
  obtain ⟨ua, uc, rfl⟩ := hu.txs.slice
  have HU := Lib.hid hu
  have HB := Lib.hid hb
  clear hu hb
  go_wp2_with (go_at_call 206; refine (lsNames_any _ _).mono ?_; rintro e w2 ⟨rfl, rfl⟩)
  refine bodyPost_ret (v := .tuple #[.slice ua (splitE s).1.length uc, .int .i64 (splitE s).2]) (by simp [results, Tryz.results185, go_sem]) rfl ?_
  exact ⟨_, rfl, own_keptG HU.out fun g _ hg => Below.heap_alloc _ _ _ hg, HB.out.alloc HB.out.size _⟩
end Go.Proofs.YtgoemaecdolioaaGreatDoor

/-
  tree: split; a new node.
-/
namespace Go.Proofs.YtgoemaecdolioaaGreatDoor
open Go.RowKit Go.Shelf
attribute [local go_sem] Oper.semAt_some

theorem split10_ok (s : List UInt8) (hs : s.length ≤ 1000000) (w : World) (hm : MaxC w) (h : (splitE s).2 = 0) : Calls Tryz.prog 157 #[encStr s] w fun e w' => ∃ u, e = .returned u ∧ OwnT w' w.heap.size u (splitE s).1 ∧ Below w.heap.size w w' := by
  have hp := paSplit_any s hs w hm
  rw [h] at hp
  have HP := Lib.hid hp
  have HM := Lib.hid mustGo_ok
  obtain ⟨t, ht⟩ : ∃ t, encStr s = t := ⟨_, rfl⟩
  rw [ht] at HP ⊢
  clear hp ht hs hm h
  go_enter Tryz.func157, Tryz.ntmps157
  go_wp2_with fail
  refine HP.out.mono ?_
  rintro e w1 ⟨u, rfl, ho, hb⟩
  have HO := Lib.hid ho
  have HB := Lib.hid hb
  clear ho hb
  go_wp2_with fail
  refine (HM.out _).mono ?_
  rintro e w2 ⟨⟨q, rfl⟩, rfl⟩
  go_wp2_with fail
  go_ret
  exact ⟨_, rfl, HO.out, HB.out⟩
theorem split10_no (s : List UInt8) (hs : s.length ≤ 1000000) (w : World) (hm : MaxC w) (h : (splitE s).2 ≠ 0) : Calls Tryz.prog 157 #[encStr s] w fun e w' => e = .panicked (refuse (splitE s).2) ∧ Below w.heap.size w w' := by
  have HP := Lib.hid (paSplit_any s hs w hm)
  have HM := Lib.hid (mustGo_no _ h)
  obtain ⟨t, ht⟩ : ∃ t, encStr s = t := ⟨_, rfl⟩
  obtain ⟨c, hc⟩ : ∃ c, (splitE s).2 = c := ⟨_, rfl⟩
  rw [hc] at HP HM ⊢
  rw [ht] at HP ⊢
  clear ht hs hm h hc
  go_enter Tryz.func157, Tryz.ntmps157
  go_wp2_with fail
  refine HP.out.mono ?_
  rintro e w1 ⟨u, rfl, -, hb⟩
  have HB := Lib.hid hb
  clear hb
  go_wp2_with fail
  refine (HM.out _).mono ?_
  rintro e w2 ⟨rfl, rfl⟩
  exact ⟨rfl, rfl, HB.out⟩
/-- A new node. -/
def newN (k : Int) (m : Nat) : TN := ⟨k, 0, .slice none 0 0, [], m, 0, []⟩
theorem new_node (w : World) (k : Int) : NodeAt ((w.alloc (.map #[] 0)).alloc (.cells #[.map (some w.heap.size), .int .i64 k, .int .i64 0, .slice none 0 0] 108)) (w.heap.size + 1) (newN k w.heap.size) ∧
    ((w.alloc (.map #[] 0)).alloc (.cells #[.map (some w.heap.size), .int .i64 k, .int .i64 0, .slice none 0 0] 108)).heap.size = w.heap.size + 2 ∧ Below w.heap.size w ((w.alloc (.map #[] 0)).alloc (.cells #[.map (some w.heap.size), .int .i64 k, .int .i64 0, .slice none 0 0] 108)) := by
  refine ⟨⟨?_, ?_, nil_fb _⟩, by simp, (by repeat (first | exact Below.refl _ _ | assumption | refine Below.drew ?_ | refine below_drewN ?_ _ | refine Below.alloc ?_ (by (try simp) <;> omega) _ | refine Below.setCell ?_ (by (try simp) <;> omega) _ | refine Below.trans ?_ (Below.mono (by assumption) (by (try simp) <;> omega))))⟩
  · have := Blk.new (w.alloc (.map #[] 0)) 108 #[.map (some w.heap.size), .int .i64 k, .int .i64 0, .slice none 0 0]
    rw [World.size_alloc] at this
    exact this
  · exact (NameMap.new w).below (B := w.heap.size + 1) ((Below.refl _ _).alloc (by simp) _) (by simp [newN])
set_option maxRecDepth 100000 in
theorem made10_ok (k : Int) (hk : k = 1 ∨ k = 2) (w : World) : Calls Tryz.prog 59 #[.int .i64 k] w fun e w' => e = .returned (.pointer (some ⟨w.heap.size + 1, 0, none⟩)) ∧ NodeAt w' (w.heap.size + 1) (newN k w.heap.size) ∧ w'.heap.size = w.heap.size + 2 ∧ Below w.heap.size w w' := by
  have HM := Lib.hid (fun b w => mustBe10_any b 2 (by decide) w)
  have hmk : ∀ W : World, (Instr.makeMap 106 none).run Tryz.prog W = .ok (.map (some W.heap.size)) (W.alloc (.map #[] 0)) := @run_makeMap Tryz.prog 106
  rcases hk with rfl | rfl
  · go_enter Tryz.func59, Tryz.ntmps59
    go_wp2_with fail
    refine (HM.out _ _).mono ?_
    rintro e w2 (⟨hg, ⟨u, rfl⟩, rfl⟩ | ⟨hg, rfl, rfl⟩)
    · clear hg
      have HN := Lib.hid (new_node w2 1)
      go_wp2_with fail
      go_ret
      exact ⟨rfl, HN.out⟩
    · cases hg
  · go_enter Tryz.func59, Tryz.ntmps59
    go_wp2_with fail
    refine (HM.out _ _).mono ?_
    rintro e w2 (⟨hg, ⟨u, rfl⟩, rfl⟩ | ⟨hg, rfl, rfl⟩)
    · clear hg
      have HN := Lib.hid (new_node w2 2)
      go_wp2_with fail
      go_ret
      exact ⟨rfl, HN.out⟩
    · cases hg
set_option maxRecDepth 100000 in
theorem made10_no (k : Int) (h1 : k ≠ 1) (h2 : k ≠ 2) (w : World) : Calls Tryz.prog 59 #[.int .i64 k] w fun e w' => e = .panicked (refuse 2) ∧ w' = w := by
  have HM := Lib.hid (fun b w => mustBe10_any b 2 (by decide) w)
  have q1 : (k == 1) = false := by simpa using h1
  have q2 : (k == 2) = false := by simpa using h2
  clear h1 h2
  go_enter Tryz.func59, Tryz.ntmps59
  go_wp2_with fail
  refine (HM.out _ _).mono ?_
  rintro e w2 (⟨hg, ⟨u, rfl⟩, rfl⟩ | ⟨hg, rfl, rfl⟩)
  · cases hg
  · exact ⟨rfl, rfl, rfl⟩
end Go.Proofs.YtgoemaecdolioaaGreatDoor
