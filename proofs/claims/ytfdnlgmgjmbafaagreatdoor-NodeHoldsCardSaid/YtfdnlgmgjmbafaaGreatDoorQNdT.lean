/-
  The law NodeHolds: its walk. Written by gen_ndh.py.
-/
import Derived.Test.YtfdnlgmgjmbafaaGreatDoorMh20
namespace Go.Proofs.YtfdnlgmgjmbafaaGreatDoor
open Go.RowKit Go.Shelf
attribute [local go_sem] Oper.semAt_some

theorem wp_seq_R {P : Program} {x y : Code} {Q : Exit → Act → World → Prop} {a : Act} {w : World} (R : Act → World → Prop) (h : ∀ K : Act → World → Prop, (∀ a w, R a w → K a w) → x.wp P (Exit.then K Q) a w) (hR : ∀ a w, R a w → y.wp P Q a w) : (Code.seq x y).wp P Q a w := wp_seq (h _ hR)
/-- What stands between the parts of the law: the arguments, their boxes, no answer yet. -/
def HoR (W : World) (L X M Y : Array Value) (n : Nat) (a : Act) (w : World) : Prop :=
  a.tmps.size = 218 ∧ a.tmps.toList.take 9 = [.agg L, .agg X, .agg M, .agg Y, .pointer (some ⟨n, 0, none⟩), .pointer (some ⟨n + 1, 0, none⟩), .pointer (some ⟨n + 1 + 1, 0, none⟩), .pointer (some ⟨n + 1 + 1 + 1, 0, none⟩), .bool false] ∧ a.defers = [] ∧ Below W.heap.size W w
theorem hoR_mk {W : World} {L X M Y : Array Value} {n : Nat} {a : Act} {w : World} (h1 : a.tmps.size = 218) (h2 : a.tmps.toList.take 9 = [.agg L, .agg X, .agg M, .agg Y, .pointer (some ⟨n, 0, none⟩), .pointer (some ⟨n + 1, 0, none⟩), .pointer (some ⟨n + 1 + 1, 0, none⟩), .pointer (some ⟨n + 1 + 1 + 1, 0, none⟩), .bool false]) (h3 : a.defers = []) (h4 : Below W.heap.size W w) : HoR W L X M Y n a w := ⟨h1, h2, h3, h4⟩
theorem list_rest (l : List Value) : l = l.take 9 ++ (List.range (l.length - 9)).map (fun i => l.getD (i + 9) undef) := by
  refine List.ext_getElem? fun i => ?_
  rcases Nat.lt_or_ge i 9 with h | h
  · rcases Nat.lt_or_ge i l.length with h2 | h2
    · rw [List.getElem?_append_left (by rw [List.length_take]; omega), List.getElem?_take, if_pos h]
    · rw [List.getElem?_eq_none h2, List.getElem?_eq_none (by rw [List.length_append, List.length_take, List.length_map, List.length_range]; omega)]
  · rcases Nat.lt_or_ge i l.length with h2 | h2
    · rw [List.getElem?_append_right (by rw [List.length_take]; omega), List.length_take, Nat.min_eq_left (by omega), List.getElem?_map, List.getElem?_range (by omega), Option.map_some, show i - 9 + 9 = i by omega, List.getD_eq_getElem?_getD, List.getElem?_eq_getElem h2, Option.getD_some]
    · rw [List.getElem?_eq_none h2, List.getElem?_eq_none (by rw [List.length_append, List.length_take, List.length_map, List.length_range]; omega)]
set_option maxRecDepth 100000 in
theorem hoR_out {W : World} {L X M Y : Array Value} {n : Nat} {a : Act} {w : World} (h : HoR W L X M Y n a w) : ∃ U : Nat → Value, a = { tmps := #[.agg L, .agg X, .agg M, .agg Y, .pointer (some ⟨n, 0, none⟩), .pointer (some ⟨n + 1, 0, none⟩), .pointer (some ⟨n + 1 + 1, 0, none⟩), .pointer (some ⟨n + 1 + 1 + 1, 0, none⟩), .bool false, U 9, U 10, U 11, U 12, U 13, U 14, U 15, U 16, U 17, U 18, U 19, U 20, U 21, U 22, U 23, U 24, U 25, U 26, U 27, U 28, U 29, U 30, U 31, U 32, U 33, U 34, U 35, U 36, U 37, U 38, U 39, U 40, U 41, U 42, U 43, U 44, U 45, U 46, U 47, U 48, U 49, U 50, U 51, U 52, U 53, U 54, U 55, U 56, U 57, U 58, U 59, U 60, U 61, U 62, U 63, U 64, U 65, U 66, U 67, U 68, U 69, U 70, U 71, U 72, U 73, U 74, U 75, U 76, U 77, U 78, U 79, U 80, U 81, U 82, U 83, U 84, U 85, U 86, U 87, U 88, U 89, U 90, U 91, U 92, U 93, U 94, U 95, U 96, U 97, U 98, U 99, U 100, U 101, U 102, U 103, U 104, U 105, U 106, U 107, U 108, U 109, U 110, U 111, U 112, U 113, U 114, U 115, U 116, U 117, U 118, U 119, U 120, U 121, U 122, U 123, U 124, U 125, U 126, U 127, U 128, U 129, U 130, U 131, U 132, U 133, U 134, U 135, U 136, U 137, U 138, U 139, U 140, U 141, U 142, U 143, U 144, U 145, U 146, U 147, U 148, U 149, U 150, U 151, U 152, U 153, U 154, U 155, U 156, U 157, U 158, U 159, U 160, U 161, U 162, U 163, U 164, U 165, U 166, U 167, U 168, U 169, U 170, U 171, U 172, U 173, U 174, U 175, U 176, U 177, U 178, U 179, U 180, U 181, U 182, U 183, U 184, U 185, U 186, U 187, U 188, U 189, U 190, U 191, U 192, U 193, U 194, U 195, U 196, U 197, U 198, U 199, U 200, U 201, U 202, U 203, U 204, U 205, U 206, U 207, U 208, U 209, U 210, U 211, U 212, U 213, U 214, U 215, U 216, U 217], defers := [] } ∧ Below W.heap.size W w := by
  obtain ⟨h1, h2, h3, h4⟩ := h
  obtain ⟨tm, df⟩ := a
  have h1' : tm.toList.length = 218 := h1
  have h2' : tm.toList.take 9 = [.agg L, .agg X, .agg M, .agg Y, .pointer (some ⟨n, 0, none⟩), .pointer (some ⟨n + 1, 0, none⟩), .pointer (some ⟨n + 1 + 1, 0, none⟩), .pointer (some ⟨n + 1 + 1 + 1, 0, none⟩), .bool false] := h2
  have h3' : df = [] := h3
  subst h3'
  have e := list_rest tm.toList
  rw [h2', h1'] at e
  refine ⟨fun i => tm.toList.getD i undef, ?_, h4⟩
  have e2 : tm = (([.agg L, .agg X, .agg M, .agg Y, .pointer (some ⟨n, 0, none⟩), .pointer (some ⟨n + 1, 0, none⟩), .pointer (some ⟨n + 1 + 1, 0, none⟩), .pointer (some ⟨n + 1 + 1 + 1, 0, none⟩), .bool false] : List Value) ++ (List.range 209).map (fun i => tm.toList.getD (i + 9) undef)).toArray := by
    apply Array.ext'
    exact e
  rw [Act.mk.injEq]
  exact ⟨e2, rfl⟩
set_option maxRecDepth 100000 in
set_option maxHeartbeats 40000000 in
theorem holds8_any (l : List Int) (xa xb xc m0 m1 m2 m3 m4 m5 m6 m7 ya yb : Int) (s : List UInt8) (hl : Line8 l) (hx : GoodI 3 #[.int .i64 xa, .int .i64 xb, .int .i64 xc]) (hm : GoodI 8 #[.int .i64 m0, .int .i64 m1, .int .i64 m2, .int .i64 m3, .int .i64 m4, .int .i64 m5, .int .i64 m6, .int .i64 m7])
    (hya : -9223372036854775808 ≤ ya ∧ ya ≤ 9223372036854775807) (hyb : -9223372036854775808 ≤ yb ∧ yb ≤ 9223372036854775807) (w : World) (ht : Tabs w) :
    Calls Tryz.prog 6 #[.agg (lnA l), .agg #[.int .i64 xa, .int .i64 xb, .int .i64 xc], .agg #[.int .i64 m0, .int .i64 m1, .int .i64 m2, .int .i64 m3, .int .i64 m4, .int .i64 m5, .int .i64 m6, .int .i64 m7], .agg #[.int .i64 ya, .int .i64 yb, encStr s]] w fun e w' => e = .returned (.bool true) ∧ Below w.heap.size w w' := by
  have HN := Lib.hid num8_any
  have HWK := Lib.hid works8_any
  obtain ⟨L, hL⟩ : ∃ L, lnA l = L := ⟨_, rfl⟩
  have HL0 : Hid (L.size = 8 ∧ L.all (·.oneCell') = true) := show _ ∧ _ from by rw [← hL]; exact ⟨by rw [lnA_size, hl.1], lnA_one _⟩
  have HLE : Hid (∀ V, (Op.equalIn 10000 31 (.agg L) (.agg L)).run Tryz.prog V = .ok true V) := show ∀ V, _ from fun V => by rw [← hL]; exact refl_line Tryz.underlying31 hl V
  obtain ⟨V1, e1, hp1⟩ := pair_putI xa xb xc hx w ht
  obtain ⟨V2, e2, hp2⟩ := pair_putM m0 m1 m2 m3 m4 m5 m6 m7 hm w ht
  obtain ⟨V4, e4, hp4⟩ := pair_getI l hl w ht
  obtain ⟨V5, e5, hp5⟩ := pair_getM l hl w ht
  obtain ⟨V6, e6, hp6⟩ := pair_getT l hl w ht
  obtain ⟨V7, e7, hp7⟩ := pair_getS l hl w ht
  obtain ⟨V8, e8, hp8⟩ := pair_getE l hl w ht
  rw [hL] at hp4 hp5 hp6 hp7 hp8 ⊢
  obtain ⟨W4, hW4⟩ : ∃ W4, (((w.alloc (.cells L 31)).alloc (.cells #[.int .i64 xa, .int .i64 xb, .int .i64 xc] 26)).alloc (.cells #[.int .i64 m0, .int .i64 m1, .int .i64 m2, .int .i64 m3, .int .i64 m4, .int .i64 m5, .int .i64 m6, .int .i64 m7] 47)).alloc (.cells #[.int .i64 ya, .int .i64 yb, encStr s] 49) = W4 := ⟨_, rfl⟩
  have hb4 : Below w.heap.size w W4 := by rw [← hW4]; exact (by repeat (first | exact Below.refl _ _ | assumption | refine Below.drew ?_ | refine below_drewN ?_ _ | refine Below.alloc ?_ (by (try simp) <;> omega) _ | refine Below.setCell ?_ (by (try simp) <;> omega) _ | refine Below.trans ?_ (Below.mono (by assumption) (by (try simp) <;> omega))))
  have bL : Blk W4 w.heap.size 31 L := by
    rw [← hW4]
    exact (Blk.new w _ _).below (n := w.heap.size + 1) ((((Below.refl _ _).alloc (by (try simp) <;> omega) _).alloc (by (try simp) <;> omega) _).alloc (by (try simp) <;> omega) _) (by omega)
  have bX : Blk W4 (w.heap.size + 1) 26 #[.int .i64 xa, .int .i64 xb, .int .i64 xc] := by
    rw [← hW4]
    have := Blk.new (w.alloc (.cells L 31)) 26 #[.int .i64 xa, .int .i64 xb, .int .i64 xc]
    rw [World.size_alloc] at this
    exact this.below (n := w.heap.size + 1 + 1) (((Below.refl _ _).alloc (by (try simp) <;> omega) _).alloc (by (try simp) <;> omega) _) (by omega)
  have bM : Blk W4 (w.heap.size + 1 + 1) 47 #[.int .i64 m0, .int .i64 m1, .int .i64 m2, .int .i64 m3, .int .i64 m4, .int .i64 m5, .int .i64 m6, .int .i64 m7] := by
    rw [← hW4]
    have := Blk.new ((w.alloc (.cells L 31)).alloc (.cells #[.int .i64 xa, .int .i64 xb, .int .i64 xc] 26)) 47 #[.int .i64 m0, .int .i64 m1, .int .i64 m2, .int .i64 m3, .int .i64 m4, .int .i64 m5, .int .i64 m6, .int .i64 m7]
    rw [World.size_alloc, World.size_alloc] at this
    exact this.below (n := w.heap.size + 1 + 1 + 1) ((Below.refl _ _).alloc (by (try simp) <;> omega) _) (by omega)
  have bY : Blk W4 (w.heap.size + 1 + 1 + 1) 49 #[.int .i64 ya, .int .i64 yb, encStr s] := by
    rw [← hW4]
    have := Blk.new (((w.alloc (.cells L 31)).alloc (.cells #[.int .i64 xa, .int .i64 xb, .int .i64 xc] 26)).alloc (.cells #[.int .i64 m0, .int .i64 m1, .int .i64 m2, .int .i64 m3, .int .i64 m4, .int .i64 m5, .int .i64 m6, .int .i64 m7] 47)) 49 #[.int .i64 ya, .int .i64 yb, encStr s]
    rw [World.size_alloc, World.size_alloc, World.size_alloc] at this
    exact this
  have HBL := Lib.hid bL
  have HBX := Lib.hid bX
  have HBM := Lib.hid bM
  have HBY := Lib.hid bY
  have HO1 := Lib.hid (goodI_one hx)
  have HO2 := Lib.hid (goodI_one hm)
  have HO3 : Hid (Array.all #[.int .i64 ya, .int .i64 yb, encStr s] (·.oneCell') = true) := show _ = _ by simp [encStr, Value.oneCell']
  have HT : Hid (Tabs W4) := show Tabs _ from ht.below hb4 ht.room
  have HB := Lib.hid hb4
  have HW4 := Lib.hid hW4
  have HP1 := Lib.hid hp1
  have HP2 := Lib.hid hp2
  have HP4 := Lib.hid hp4
  have HP5 := Lib.hid hp5
  have HP6 := Lib.hid hp6
  have HP7 := Lib.hid hp7
  have HP8 := Lib.hid hp8
  have HSL : Hid (s.length ≤ 100 → ∃ V e, PairP 22 31 #[.int .i64 ya, .int .i64 yb, encStr s] V 8 e 2) := show _ → _ from fun h => pair_putE ya yb s ⟨rfl, fun j hj => by
    have : j = 0 ∨ j = 1 := by omega
    rcases this with rfl | rfl
    · exact ⟨ya, rfl, by omega, by omega⟩
    · exact ⟨yb, rfl, by omega, by omega⟩, s, rfl, by omega⟩ w ht
  have c7 : W4.cell? ⟨w.heap.size + 1 + 1 + 1, 2, none⟩ = some (encStr s) := bY.cell rfl
  clear hp1 hp2 hp4 hp5 hp6 hp7 hp8 bL bX bM bY hb4 hW4 hL hl hx hm hya hyb ht
  go_enter Tryz.func6, Tryz.ntmps6
  refine wp_seq_R (fun a W => (a.tmps.size = 218 ∧ a.tmps.toList.take 9 = [.agg L, .agg #[.int .i64 xa, .int .i64 xb, .int .i64 xc], .agg #[.int .i64 m0, .int .i64 m1, .int .i64 m2, .int .i64 m3, .int .i64 m4, .int .i64 m5, .int .i64 m6, .int .i64 m7], .agg #[.int .i64 ya, .int .i64 yb, encStr s], .pointer (some ⟨w.heap.size, 0, none⟩), .pointer (some ⟨w.heap.size + 1, 0, none⟩), .pointer (some ⟨w.heap.size + 1 + 1, 0, none⟩), .pointer (some ⟨w.heap.size + 1 + 1 + 1, 0, none⟩), .bool false] ∧ a.defers = []) ∧ W = W4) (fun K hK => ?_) ?_
  · go_wp2_with fail
    rw [HW4.out]
  rintro a' W ⟨⟨h1, h2, h3⟩, rfl⟩
  obtain ⟨U, rfl, -⟩ := hoR_out (W := W) (L := L) (X := #[.int .i64 xa, .int .i64 xb, .int .i64 xc]) (M := #[.int .i64 m0, .int .i64 m1, .int .i64 m2, .int .i64 m3, .int .i64 m4, .int .i64 m5, .int .i64 m6, .int .i64 m7]) (Y := #[.int .i64 ya, .int .i64 yb, encStr s]) (n := w.heap.size) ⟨h1, h2, h3, Below.refl _ _⟩
  clear h1 h2 h3
  by_cases g1 : 100 < s.length
  · have g2 : (100 : Int) < (s.length : Int) := by omega
    clear g1
    go_wp2_with (go_at_call 17; refine (HWK.out _ HT.out).mono ?_; rintro e w' ⟨rfl, hb⟩)
    go_ret
    exact ⟨rfl, HB.out.trans (hb.mono HB.out.size)⟩
  have g2 : ¬ (100 : Int) < (s.length : Int) := by omega
  obtain ⟨V3, e3, hp3⟩ := HSL.out (by omega)
  have HP3 := Lib.hid hp3
  clear g1 hp3 HSL
  refine wp_seq_R (HoR W L #[.int .i64 xa, .int .i64 xb, .int .i64 xc] #[.int .i64 m0, .int .i64 m1, .int .i64 m2, .int .i64 m3, .int .i64 m4, .int .i64 m5, .int .i64 m6, .int .i64 m7] #[.int .i64 ya, .int .i64 yb, encStr s] w.heap.size) (fun K hK => ?_) ?_
  · go_wp2_with fail
    exact hoR_mk rfl rfl rfl (Below.refl _ _)
  clear c7 g2
  rintro a' w1 ha
  obtain ⟨U, rfl, hb⟩ := hoR_out ha
  have HB1 := Lib.hid hb
  have HT1 : Hid (Tabs w1) := show Tabs _ from HT.out.below hb HT.out.room
  have BX := Lib.hid (HBX.out.below hb HBX.out.lt)
  clear ha hb
  have HLD : Hid ((Instr.loadAt 26 (.pointer (some ⟨w.heap.size + 1, 0, none⟩))).run Tryz.prog w1 = .ok (.agg #[.int .i64 xa, .int .i64 xb, .int .i64 xc]) w1) := show _ = _ from BX.out.load (tt := 26) Tryz.underlying26 rfl (by kernel_rfl)
  refine wp_seq_R (HoR W L #[.int .i64 xa, .int .i64 xb, .int .i64 xc] #[.int .i64 m0, .int .i64 m1, .int .i64 m2, .int .i64 m3, .int .i64 m4, .int .i64 m5, .int .i64 m6, .int .i64 m7] #[.int .i64 ya, .int .i64 yb, encStr s] w.heap.size) (fun K hK => ?_) ?_
  · go_wp2_with (first | (refine ndList_load rfl 26 _ rfl _ _ rfl HLD.out ?_))
    refine (HP1.out.c1 _ HT1.out).mono ?_
    rintro e v1 ⟨rfl, hb⟩
    obtain ⟨W1, hW⟩ : ∃ W1, v1.alloc (.cells V1 31) = W1 := ⟨_, rfl⟩
    have hbn : Below w1.heap.size w1 W1 := by rw [← hW]; exact hb.alloc hb.size _
    have HST : Hid ((Instr.storeAt 31 (.pointer (some ⟨v1.heap.size, 0, none⟩)) (.agg V1)).run Tryz.prog (v1.alloc (.cells #[.int .u64 0, .int .u64 0, .int .u64 0, .int .u64 0, .int .u64 0, .int .u64 0, .int .u64 0, .int .u64 0] 31)) = .ok () W1) := show _ = _ by
      rw [← hW]
      exact run_storeAt_new v1 31 _ V1 (by rw [HP1.out.s1]; kernel_rfl) (by rw [HP1.out.s1]; rfl) HP1.out.o1
    have BV : Hid (Blk W1 v1.heap.size 31 V1) := show Blk _ _ _ _ by rw [← hW]; exact Blk.new _ _ _
    have BX1 := Lib.hid (BX.out.below hbn BX.out.lt)
    have HB2 := Lib.hid (HB1.out.trans (hbn.mono HB1.out.size))
    have HT2 : Hid (Tabs W1) := show Tabs _ from HT1.out.below hbn HT1.out.room
    have HLD1 : Hid ((Instr.loadAt 31 (.pointer (some ⟨v1.heap.size, 0, none⟩))).run Tryz.prog W1 = .ok (.agg V1) W1) := show _ = _ from BV.out.load (tt := 31) Tryz.underlying31 rfl (by rw [HP1.out.s1]; kernel_rfl)
    clear hb hbn hW HLD
    rcases HP1.out.er with he | he
    rotate_left
    · subst he
      go_wp2_with (first | (refine ndList_store rfl 31 _ _ rfl _ _ rfl rfl HST.out ?_) | (go_at_call 20; refine (HN.out _ _).mono ?_; rintro e w' ⟨rfl, rfl⟩))
      exact hoR_mk rfl rfl rfl HB2.out
    have HP := Lib.hid (HP1.out.c2 he)
    subst he
    go_wp2_with (first | (refine ndList_store rfl 31 _ _ rfl _ _ rfl rfl HST.out ?_) | (go_at_call 20; refine (HN.out _ _).mono ?_; rintro e w' ⟨rfl, rfl⟩) | (refine ndList_load rfl 31 _ rfl _ _ rfl HLD1.out ?_))
    clear HST HLD1
    refine (HP.out _ HT2.out).mono ?_
    rintro e v2 ⟨rfl, hb⟩
    obtain ⟨W2, hW⟩ : ∃ W2, v2.alloc (.cells #[.int .i64 xa, .int .i64 xb, .int .i64 xc] 26) = W2 := ⟨_, rfl⟩
    have hbn : Below W1.heap.size W1 W2 := by rw [← hW]; exact hb.alloc hb.size _
    have HST : Hid ((Instr.storeAt 26 (.pointer (some ⟨v2.heap.size, 0, none⟩)) (.agg #[.int .i64 xa, .int .i64 xb, .int .i64 xc])).run Tryz.prog (v2.alloc (.cells #[.int .i64 0, .int .i64 0, .int .i64 0] 26)) = .ok () W2) := show _ = _ by
      rw [← hW]
      exact run_storeAt_new v2 26 _ #[.int .i64 xa, .int .i64 xb, .int .i64 xc] (by kernel_rfl) rfl HO1.out
    have BV2 : Hid (Blk W2 v2.heap.size 26 #[.int .i64 xa, .int .i64 xb, .int .i64 xc]) := show Blk _ _ _ _ by rw [← hW]; exact Blk.new _ _ _
    have BX2 := Lib.hid (BX1.out.below hbn BX1.out.lt)
    have HB3 := Lib.hid (HB2.out.trans (hbn.mono HB2.out.size))
    have HLDa : Hid ((Instr.loadAt 26 (.pointer (some ⟨v2.heap.size, 0, none⟩))).run Tryz.prog W2 = .ok (.agg #[.int .i64 xa, .int .i64 xb, .int .i64 xc]) W2) := show _ = _ from BV2.out.load (tt := 26) Tryz.underlying26 rfl (by kernel_rfl)
    have HLDb : Hid ((Instr.loadAt 26 (.pointer (some ⟨w.heap.size + 1, 0, none⟩))).run Tryz.prog W2 = .ok (.agg #[.int .i64 xa, .int .i64 xb, .int .i64 xc]) W2) := show _ = _ from BX2.out.load (tt := 26) Tryz.underlying26 rfl (by kernel_rfl)
    clear hb hbn hW HP
    go_wp2_with (first | (refine ndList_store rfl 26 _ _ rfl _ _ rfl rfl HST.out ?_) | (go_at_call 20; refine (HN.out _ _).mono ?_; rintro e w' ⟨rfl, rfl⟩) | (refine ndList_load rfl 26 _ rfl _ _ rfl HLDa.out ?_) | (refine ndList_load rfl 26 _ rfl _ _ rfl HLDb.out ?_))
    exact hoR_mk rfl rfl rfl HB3.out
  rintro a' w1 ha
  obtain ⟨U, rfl, hb⟩ := hoR_out ha
  have HB1 := Lib.hid hb
  have HT1 : Hid (Tabs w1) := show Tabs _ from HT.out.below hb HT.out.room
  have BX := Lib.hid (HBM.out.below hb HBM.out.lt)
  clear ha hb
  have HLD : Hid ((Instr.loadAt 47 (.pointer (some ⟨w.heap.size + 1 + 1, 0, none⟩))).run Tryz.prog w1 = .ok (.agg #[.int .i64 m0, .int .i64 m1, .int .i64 m2, .int .i64 m3, .int .i64 m4, .int .i64 m5, .int .i64 m6, .int .i64 m7]) w1) := show _ = _ from BX.out.load (tt := 47) Tryz.underlying47 rfl (by kernel_rfl)
  refine wp_seq_R (HoR W L #[.int .i64 xa, .int .i64 xb, .int .i64 xc] #[.int .i64 m0, .int .i64 m1, .int .i64 m2, .int .i64 m3, .int .i64 m4, .int .i64 m5, .int .i64 m6, .int .i64 m7] #[.int .i64 ya, .int .i64 yb, encStr s] w.heap.size) (fun K hK => ?_) ?_
  · go_wp2_with (first | (refine ndList_load rfl 47 _ rfl _ _ rfl HLD.out ?_))
    refine (HP2.out.c1 _ HT1.out).mono ?_
    rintro e v1 ⟨rfl, hb⟩
    obtain ⟨W1, hW⟩ : ∃ W1, v1.alloc (.cells V2 31) = W1 := ⟨_, rfl⟩
    have hbn : Below w1.heap.size w1 W1 := by rw [← hW]; exact hb.alloc hb.size _
    have HST : Hid ((Instr.storeAt 31 (.pointer (some ⟨v1.heap.size, 0, none⟩)) (.agg V2)).run Tryz.prog (v1.alloc (.cells #[.int .u64 0, .int .u64 0, .int .u64 0, .int .u64 0, .int .u64 0, .int .u64 0, .int .u64 0, .int .u64 0] 31)) = .ok () W1) := show _ = _ by
      rw [← hW]
      exact run_storeAt_new v1 31 _ V2 (by rw [HP2.out.s1]; kernel_rfl) (by rw [HP2.out.s1]; rfl) HP2.out.o1
    have BV : Hid (Blk W1 v1.heap.size 31 V2) := show Blk _ _ _ _ by rw [← hW]; exact Blk.new _ _ _
    have BX1 := Lib.hid (BX.out.below hbn BX.out.lt)
    have HB2 := Lib.hid (HB1.out.trans (hbn.mono HB1.out.size))
    have HT2 : Hid (Tabs W1) := show Tabs _ from HT1.out.below hbn HT1.out.room
    have HLD1 : Hid ((Instr.loadAt 31 (.pointer (some ⟨v1.heap.size, 0, none⟩))).run Tryz.prog W1 = .ok (.agg V2) W1) := show _ = _ from BV.out.load (tt := 31) Tryz.underlying31 rfl (by rw [HP2.out.s1]; kernel_rfl)
    clear hb hbn hW HLD
    rcases HP2.out.er with he | he
    rotate_left
    · subst he
      go_wp2_with (first | (refine ndList_store rfl 31 _ _ rfl _ _ rfl rfl HST.out ?_) | (go_at_call 20; refine (HN.out _ _).mono ?_; rintro e w' ⟨rfl, rfl⟩))
      exact hoR_mk rfl rfl rfl HB2.out
    have HP := Lib.hid (HP2.out.c2 he)
    subst he
    go_wp2_with (first | (refine ndList_store rfl 31 _ _ rfl _ _ rfl rfl HST.out ?_) | (go_at_call 20; refine (HN.out _ _).mono ?_; rintro e w' ⟨rfl, rfl⟩) | (refine ndList_load rfl 31 _ rfl _ _ rfl HLD1.out ?_))
    clear HST HLD1
    refine (HP.out _ HT2.out).mono ?_
    rintro e v2 ⟨rfl, hb⟩
    obtain ⟨W2, hW⟩ : ∃ W2, v2.alloc (.cells #[.int .i64 m0, .int .i64 m1, .int .i64 m2, .int .i64 m3, .int .i64 m4, .int .i64 m5, .int .i64 m6, .int .i64 m7] 47) = W2 := ⟨_, rfl⟩
    have hbn : Below W1.heap.size W1 W2 := by rw [← hW]; exact hb.alloc hb.size _
    have HST : Hid ((Instr.storeAt 47 (.pointer (some ⟨v2.heap.size, 0, none⟩)) (.agg #[.int .i64 m0, .int .i64 m1, .int .i64 m2, .int .i64 m3, .int .i64 m4, .int .i64 m5, .int .i64 m6, .int .i64 m7])).run Tryz.prog (v2.alloc (.cells #[.int .i64 0, .int .i64 0, .int .i64 0, .int .i64 0, .int .i64 0, .int .i64 0, .int .i64 0, .int .i64 0] 47)) = .ok () W2) := show _ = _ by
      rw [← hW]
      exact run_storeAt_new v2 47 _ #[.int .i64 m0, .int .i64 m1, .int .i64 m2, .int .i64 m3, .int .i64 m4, .int .i64 m5, .int .i64 m6, .int .i64 m7] (by kernel_rfl) rfl HO2.out
    have BV2 : Hid (Blk W2 v2.heap.size 47 #[.int .i64 m0, .int .i64 m1, .int .i64 m2, .int .i64 m3, .int .i64 m4, .int .i64 m5, .int .i64 m6, .int .i64 m7]) := show Blk _ _ _ _ by rw [← hW]; exact Blk.new _ _ _
    have BX2 := Lib.hid (BX1.out.below hbn BX1.out.lt)
    have HB3 := Lib.hid (HB2.out.trans (hbn.mono HB2.out.size))
    have HLDa : Hid ((Instr.loadAt 47 (.pointer (some ⟨v2.heap.size, 0, none⟩))).run Tryz.prog W2 = .ok (.agg #[.int .i64 m0, .int .i64 m1, .int .i64 m2, .int .i64 m3, .int .i64 m4, .int .i64 m5, .int .i64 m6, .int .i64 m7]) W2) := show _ = _ from BV2.out.load (tt := 47) Tryz.underlying47 rfl (by kernel_rfl)
    have HLDb : Hid ((Instr.loadAt 47 (.pointer (some ⟨w.heap.size + 1 + 1, 0, none⟩))).run Tryz.prog W2 = .ok (.agg #[.int .i64 m0, .int .i64 m1, .int .i64 m2, .int .i64 m3, .int .i64 m4, .int .i64 m5, .int .i64 m6, .int .i64 m7]) W2) := show _ = _ from BX2.out.load (tt := 47) Tryz.underlying47 rfl (by kernel_rfl)
    have q1 : (Op.equalIn 9999 27 (.agg #[.int .i64 m1, .int .i64 m2, .int .i64 m3, .int .i64 m4, .int .i64 m5, .int .i64 m6, .int .i64 m7]) (.agg #[.int .i64 m1, .int .i64 m2, .int .i64 m3, .int .i64 m4, .int .i64 m5, .int .i64 m6, .int .i64 m7])).run Tryz.prog W2 = .ok true W2 := refl_7 m1 m2 m3 m4 m5 m6 m7 9997 W2
    clear hb hbn hW HP
    go_wp2_with (first | (refine ndList_store rfl 47 _ _ rfl _ _ rfl rfl HST.out ?_) | (go_at_call 20; refine (HN.out _ _).mono ?_; rintro e w' ⟨rfl, rfl⟩) | (refine ndList_load rfl 47 _ rfl _ _ rfl HLDa.out ?_) | (refine ndList_load rfl 47 _ rfl _ _ rfl HLDb.out ?_))
    exact hoR_mk rfl rfl rfl HB3.out
  rintro a' w1 ha
  obtain ⟨U, rfl, hb⟩ := hoR_out ha
  have HB1 := Lib.hid hb
  have HT1 : Hid (Tabs w1) := show Tabs _ from HT.out.below hb HT.out.room
  have BX := Lib.hid (HBY.out.below hb HBY.out.lt)
  clear ha hb
  have HLD : Hid ((Instr.loadAt 49 (.pointer (some ⟨w.heap.size + 1 + 1 + 1, 0, none⟩))).run Tryz.prog w1 = .ok (.agg #[.int .i64 ya, .int .i64 yb, encStr s]) w1) := show _ = _ from BX.out.load (tt := 49) Tryz.underlying49 rfl (by kernel_rfl)
  refine wp_seq_R (HoR W L #[.int .i64 xa, .int .i64 xb, .int .i64 xc] #[.int .i64 m0, .int .i64 m1, .int .i64 m2, .int .i64 m3, .int .i64 m4, .int .i64 m5, .int .i64 m6, .int .i64 m7] #[.int .i64 ya, .int .i64 yb, encStr s] w.heap.size) (fun K hK => ?_) ?_
  · go_wp2_with (first | (refine ndList_load rfl 49 _ rfl _ _ rfl HLD.out ?_))
    refine (HP3.out.c1 _ HT1.out).mono ?_
    rintro e v1 ⟨rfl, hb⟩
    obtain ⟨W1, hW⟩ : ∃ W1, v1.alloc (.cells V3 31) = W1 := ⟨_, rfl⟩
    have hbn : Below w1.heap.size w1 W1 := by rw [← hW]; exact hb.alloc hb.size _
    have HST : Hid ((Instr.storeAt 31 (.pointer (some ⟨v1.heap.size, 0, none⟩)) (.agg V3)).run Tryz.prog (v1.alloc (.cells #[.int .u64 0, .int .u64 0, .int .u64 0, .int .u64 0, .int .u64 0, .int .u64 0, .int .u64 0, .int .u64 0] 31)) = .ok () W1) := show _ = _ by
      rw [← hW]
      exact run_storeAt_new v1 31 _ V3 (by rw [HP3.out.s1]; kernel_rfl) (by rw [HP3.out.s1]; rfl) HP3.out.o1
    have BV : Hid (Blk W1 v1.heap.size 31 V3) := show Blk _ _ _ _ by rw [← hW]; exact Blk.new _ _ _
    have BX1 := Lib.hid (BX.out.below hbn BX.out.lt)
    have HB2 := Lib.hid (HB1.out.trans (hbn.mono HB1.out.size))
    have HT2 : Hid (Tabs W1) := show Tabs _ from HT1.out.below hbn HT1.out.room
    have HLD1 : Hid ((Instr.loadAt 31 (.pointer (some ⟨v1.heap.size, 0, none⟩))).run Tryz.prog W1 = .ok (.agg V3) W1) := show _ = _ from BV.out.load (tt := 31) Tryz.underlying31 rfl (by rw [HP3.out.s1]; kernel_rfl)
    clear hb hbn hW HLD
    rcases HP3.out.er with he | he
    rotate_left
    · subst he
      go_wp2_with (first | (refine ndList_store rfl 31 _ _ rfl _ _ rfl rfl HST.out ?_) | (go_at_call 20; refine (HN.out _ _).mono ?_; rintro e w' ⟨rfl, rfl⟩))
      exact hoR_mk rfl rfl rfl HB2.out
    have HP := Lib.hid (HP3.out.c2 he)
    subst he
    go_wp2_with (first | (refine ndList_store rfl 31 _ _ rfl _ _ rfl rfl HST.out ?_) | (go_at_call 20; refine (HN.out _ _).mono ?_; rintro e w' ⟨rfl, rfl⟩) | (refine ndList_load rfl 31 _ rfl _ _ rfl HLD1.out ?_))
    clear HST HLD1
    refine (HP.out _ HT2.out).mono ?_
    rintro e v2 ⟨rfl, hb⟩
    obtain ⟨W2, hW⟩ : ∃ W2, v2.alloc (.cells #[.int .i64 ya, .int .i64 yb, encStr s] 49) = W2 := ⟨_, rfl⟩
    have hbn : Below W1.heap.size W1 W2 := by rw [← hW]; exact hb.alloc hb.size _
    have HST : Hid ((Instr.storeAt 49 (.pointer (some ⟨v2.heap.size, 0, none⟩)) (.agg #[.int .i64 ya, .int .i64 yb, encStr s])).run Tryz.prog (v2.alloc (.cells #[.int .i64 0, .int .i64 0, .string ⟨#[]⟩] 49)) = .ok () W2) := show _ = _ by
      rw [← hW]
      exact run_storeAt_new v2 49 _ #[.int .i64 ya, .int .i64 yb, encStr s] (by kernel_rfl) rfl HO3.out
    have BV2 : Hid (Blk W2 v2.heap.size 49 #[.int .i64 ya, .int .i64 yb, encStr s]) := show Blk _ _ _ _ by rw [← hW]; exact Blk.new _ _ _
    have BX2 := Lib.hid (BX1.out.below hbn BX1.out.lt)
    have HB3 := Lib.hid (HB2.out.trans (hbn.mono HB2.out.size))
    have HLDa : Hid ((Instr.loadAt 49 (.pointer (some ⟨v2.heap.size, 0, none⟩))).run Tryz.prog W2 = .ok (.agg #[.int .i64 ya, .int .i64 yb, encStr s]) W2) := show _ = _ from BV2.out.load (tt := 49) Tryz.underlying49 rfl (by kernel_rfl)
    have HLDb : Hid ((Instr.loadAt 49 (.pointer (some ⟨w.heap.size + 1 + 1 + 1, 0, none⟩))).run Tryz.prog W2 = .ok (.agg #[.int .i64 ya, .int .i64 yb, encStr s]) W2) := show _ = _ from BX2.out.load (tt := 49) Tryz.underlying49 rfl (by kernel_rfl)
    clear hb hbn hW HP
    go_wp2_with (first | (refine ndList_store rfl 49 _ _ rfl _ _ rfl rfl HST.out ?_) | (go_at_call 20; refine (HN.out _ _).mono ?_; rintro e w' ⟨rfl, rfl⟩) | (refine ndList_load rfl 49 _ rfl _ _ rfl HLDa.out ?_) | (refine ndList_load rfl 49 _ rfl _ _ rfl HLDb.out ?_))
    exact hoR_mk rfl rfl rfl HB3.out
  rintro a' w1 ha
  obtain ⟨U, rfl, hb⟩ := hoR_out ha
  have HB1 := Lib.hid hb
  have HT1 : Hid (Tabs w1) := show Tabs _ from HT.out.below hb HT.out.room
  have BX := Lib.hid (HBL.out.below hb HBL.out.lt)
  clear ha hb
  have HLD : Hid ((Instr.loadAt 31 (.pointer (some ⟨w.heap.size, 0, none⟩))).run Tryz.prog w1 = .ok (.agg L) w1) := show _ = _ from BX.out.load (tt := 31) Tryz.underlying31 rfl (by rw [HL0.out.1]; kernel_rfl)
  refine wp_seq_R (HoR W L #[.int .i64 xa, .int .i64 xb, .int .i64 xc] #[.int .i64 m0, .int .i64 m1, .int .i64 m2, .int .i64 m3, .int .i64 m4, .int .i64 m5, .int .i64 m6, .int .i64 m7] #[.int .i64 ya, .int .i64 yb, encStr s] w.heap.size) (fun K hK => ?_) ?_
  · go_wp2_with (first | (refine ndList_load rfl 31 _ rfl _ _ rfl HLD.out ?_))
    refine (HP4.out.c1 _ HT1.out).mono ?_
    rintro e v1 ⟨rfl, hb⟩
    obtain ⟨W1, hW⟩ : ∃ W1, v1.alloc (.cells V4 26) = W1 := ⟨_, rfl⟩
    have hbn : Below w1.heap.size w1 W1 := by rw [← hW]; exact hb.alloc hb.size _
    have HST : Hid ((Instr.storeAt 26 (.pointer (some ⟨v1.heap.size, 0, none⟩)) (.agg V4)).run Tryz.prog (v1.alloc (.cells #[.int .i64 0, .int .i64 0, .int .i64 0] 26)) = .ok () W1) := show _ = _ by
      rw [← hW]
      exact run_storeAt_new v1 26 _ V4 (by rw [HP4.out.s1]; kernel_rfl) (by rw [HP4.out.s1]; rfl) HP4.out.o1
    have BV : Hid (Blk W1 v1.heap.size 26 V4) := show Blk _ _ _ _ by rw [← hW]; exact Blk.new _ _ _
    have BX1 := Lib.hid (BX.out.below hbn BX.out.lt)
    have HB2 := Lib.hid (HB1.out.trans (hbn.mono HB1.out.size))
    have HT2 : Hid (Tabs W1) := show Tabs _ from HT1.out.below hbn HT1.out.room
    have HLD1 : Hid ((Instr.loadAt 26 (.pointer (some ⟨v1.heap.size, 0, none⟩))).run Tryz.prog W1 = .ok (.agg V4) W1) := show _ = _ from BV.out.load (tt := 26) Tryz.underlying26 rfl (by rw [HP4.out.s1]; kernel_rfl)
    clear hb hbn hW HLD
    rcases HP4.out.er with he | he
    rotate_left
    · subst he
      go_wp2_with (first | (refine ndList_store rfl 26 _ _ rfl _ _ rfl rfl HST.out ?_) | (go_at_call 20; refine (HN.out _ _).mono ?_; rintro e w' ⟨rfl, rfl⟩))
      exact hoR_mk rfl rfl rfl HB2.out
    have HP := Lib.hid (HP4.out.c2 he)
    subst he
    go_wp2_with (first | (refine ndList_store rfl 26 _ _ rfl _ _ rfl rfl HST.out ?_) | (go_at_call 20; refine (HN.out _ _).mono ?_; rintro e w' ⟨rfl, rfl⟩) | (refine ndList_load rfl 26 _ rfl _ _ rfl HLD1.out ?_))
    clear HST HLD1
    refine (HP.out _ HT2.out).mono ?_
    rintro e v2 ⟨rfl, hb⟩
    obtain ⟨W2, hW⟩ : ∃ W2, v2.alloc (.cells L 31) = W2 := ⟨_, rfl⟩
    have hbn : Below W1.heap.size W1 W2 := by rw [← hW]; exact hb.alloc hb.size _
    have HST : Hid ((Instr.storeAt 31 (.pointer (some ⟨v2.heap.size, 0, none⟩)) (.agg L)).run Tryz.prog (v2.alloc (.cells #[.int .u64 0, .int .u64 0, .int .u64 0, .int .u64 0, .int .u64 0, .int .u64 0, .int .u64 0, .int .u64 0] 31)) = .ok () W2) := show _ = _ by
      rw [← hW]
      exact run_storeAt_new v2 31 _ L (by rw [HL0.out.1]; kernel_rfl) (by rw [HL0.out.1]; rfl) HL0.out.2
    have BV2 : Hid (Blk W2 v2.heap.size 31 L) := show Blk _ _ _ _ by rw [← hW]; exact Blk.new _ _ _
    have BX2 := Lib.hid (BX1.out.below hbn BX1.out.lt)
    have HB3 := Lib.hid (HB2.out.trans (hbn.mono HB2.out.size))
    have HLDa : Hid ((Instr.loadAt 31 (.pointer (some ⟨v2.heap.size, 0, none⟩))).run Tryz.prog W2 = .ok (.agg L) W2) := show _ = _ from BV2.out.load (tt := 31) Tryz.underlying31 rfl (by rw [HL0.out.1]; kernel_rfl)
    have HLDb : Hid ((Instr.loadAt 31 (.pointer (some ⟨w.heap.size, 0, none⟩))).run Tryz.prog W2 = .ok (.agg L) W2) := show _ = _ from BX2.out.load (tt := 31) Tryz.underlying31 rfl (by rw [HL0.out.1]; kernel_rfl)
    have q1 := HLE.out W2
    clear hb hbn hW HP
    go_wp2_with (first | (refine ndList_store rfl 31 _ _ rfl _ _ rfl rfl HST.out ?_) | (go_at_call 20; refine (HN.out _ _).mono ?_; rintro e w' ⟨rfl, rfl⟩) | (refine ndList_load rfl 31 _ rfl _ _ rfl HLDa.out ?_) | (refine ndList_load rfl 31 _ rfl _ _ rfl HLDb.out ?_))
    exact hoR_mk rfl rfl rfl HB3.out
  rintro a' w1 ha
  obtain ⟨U, rfl, hb⟩ := hoR_out ha
  have HB1 := Lib.hid hb
  have HT1 : Hid (Tabs w1) := show Tabs _ from HT.out.below hb HT.out.room
  have BX := Lib.hid (HBL.out.below hb HBL.out.lt)
  clear ha hb
  have HLD : Hid ((Instr.loadAt 31 (.pointer (some ⟨w.heap.size, 0, none⟩))).run Tryz.prog w1 = .ok (.agg L) w1) := show _ = _ from BX.out.load (tt := 31) Tryz.underlying31 rfl (by rw [HL0.out.1]; kernel_rfl)
  refine wp_seq_R (HoR W L #[.int .i64 xa, .int .i64 xb, .int .i64 xc] #[.int .i64 m0, .int .i64 m1, .int .i64 m2, .int .i64 m3, .int .i64 m4, .int .i64 m5, .int .i64 m6, .int .i64 m7] #[.int .i64 ya, .int .i64 yb, encStr s] w.heap.size) (fun K hK => ?_) ?_
  · go_wp2_with (first | (refine ndList_load rfl 31 _ rfl _ _ rfl HLD.out ?_))
    refine (HP5.out.c1 _ HT1.out).mono ?_
    rintro e v1 ⟨rfl, hb⟩
    obtain ⟨W1, hW⟩ : ∃ W1, v1.alloc (.cells V5 47) = W1 := ⟨_, rfl⟩
    have hbn : Below w1.heap.size w1 W1 := by rw [← hW]; exact hb.alloc hb.size _
    have HST : Hid ((Instr.storeAt 47 (.pointer (some ⟨v1.heap.size, 0, none⟩)) (.agg V5)).run Tryz.prog (v1.alloc (.cells #[.int .i64 0, .int .i64 0, .int .i64 0, .int .i64 0, .int .i64 0, .int .i64 0, .int .i64 0, .int .i64 0] 47)) = .ok () W1) := show _ = _ by
      rw [← hW]
      exact run_storeAt_new v1 47 _ V5 (by rw [HP5.out.s1]; kernel_rfl) (by rw [HP5.out.s1]; rfl) HP5.out.o1
    have BV : Hid (Blk W1 v1.heap.size 47 V5) := show Blk _ _ _ _ by rw [← hW]; exact Blk.new _ _ _
    have BX1 := Lib.hid (BX.out.below hbn BX.out.lt)
    have HB2 := Lib.hid (HB1.out.trans (hbn.mono HB1.out.size))
    have HT2 : Hid (Tabs W1) := show Tabs _ from HT1.out.below hbn HT1.out.room
    have HLD1 : Hid ((Instr.loadAt 47 (.pointer (some ⟨v1.heap.size, 0, none⟩))).run Tryz.prog W1 = .ok (.agg V5) W1) := show _ = _ from BV.out.load (tt := 47) Tryz.underlying47 rfl (by rw [HP5.out.s1]; kernel_rfl)
    clear hb hbn hW HLD
    rcases HP5.out.er with he | he
    rotate_left
    · subst he
      go_wp2_with (first | (refine ndList_store rfl 47 _ _ rfl _ _ rfl rfl HST.out ?_) | (go_at_call 20; refine (HN.out _ _).mono ?_; rintro e w' ⟨rfl, rfl⟩))
      exact hoR_mk rfl rfl rfl HB2.out
    have HP := Lib.hid (HP5.out.c2 he)
    subst he
    go_wp2_with (first | (refine ndList_store rfl 47 _ _ rfl _ _ rfl rfl HST.out ?_) | (go_at_call 20; refine (HN.out _ _).mono ?_; rintro e w' ⟨rfl, rfl⟩) | (refine ndList_load rfl 47 _ rfl _ _ rfl HLD1.out ?_))
    clear HST HLD1
    refine (HP.out _ HT2.out).mono ?_
    rintro e v2 ⟨rfl, hb⟩
    obtain ⟨W2, hW⟩ : ∃ W2, v2.alloc (.cells L 31) = W2 := ⟨_, rfl⟩
    have hbn : Below W1.heap.size W1 W2 := by rw [← hW]; exact hb.alloc hb.size _
    have HST : Hid ((Instr.storeAt 31 (.pointer (some ⟨v2.heap.size, 0, none⟩)) (.agg L)).run Tryz.prog (v2.alloc (.cells #[.int .u64 0, .int .u64 0, .int .u64 0, .int .u64 0, .int .u64 0, .int .u64 0, .int .u64 0, .int .u64 0] 31)) = .ok () W2) := show _ = _ by
      rw [← hW]
      exact run_storeAt_new v2 31 _ L (by rw [HL0.out.1]; kernel_rfl) (by rw [HL0.out.1]; rfl) HL0.out.2
    have BV2 : Hid (Blk W2 v2.heap.size 31 L) := show Blk _ _ _ _ by rw [← hW]; exact Blk.new _ _ _
    have BX2 := Lib.hid (BX1.out.below hbn BX1.out.lt)
    have HB3 := Lib.hid (HB2.out.trans (hbn.mono HB2.out.size))
    have HLDa : Hid ((Instr.loadAt 31 (.pointer (some ⟨v2.heap.size, 0, none⟩))).run Tryz.prog W2 = .ok (.agg L) W2) := show _ = _ from BV2.out.load (tt := 31) Tryz.underlying31 rfl (by rw [HL0.out.1]; kernel_rfl)
    have HLDb : Hid ((Instr.loadAt 31 (.pointer (some ⟨w.heap.size, 0, none⟩))).run Tryz.prog W2 = .ok (.agg L) W2) := show _ = _ from BX2.out.load (tt := 31) Tryz.underlying31 rfl (by rw [HL0.out.1]; kernel_rfl)
    have q1 := HLE.out W2
    clear hb hbn hW HP
    go_wp2_with (first | (refine ndList_store rfl 31 _ _ rfl _ _ rfl rfl HST.out ?_) | (go_at_call 20; refine (HN.out _ _).mono ?_; rintro e w' ⟨rfl, rfl⟩) | (refine ndList_load rfl 31 _ rfl _ _ rfl HLDa.out ?_) | (refine ndList_load rfl 31 _ rfl _ _ rfl HLDb.out ?_))
    exact hoR_mk rfl rfl rfl HB3.out
  rintro a' w1 ha
  obtain ⟨U, rfl, hb⟩ := hoR_out ha
  have HB1 := Lib.hid hb
  have HT1 : Hid (Tabs w1) := show Tabs _ from HT.out.below hb HT.out.room
  have BX := Lib.hid (HBL.out.below hb HBL.out.lt)
  clear ha hb
  have HLD : Hid ((Instr.loadAt 31 (.pointer (some ⟨w.heap.size, 0, none⟩))).run Tryz.prog w1 = .ok (.agg L) w1) := show _ = _ from BX.out.load (tt := 31) Tryz.underlying31 rfl (by rw [HL0.out.1]; kernel_rfl)
  refine wp_seq_R (HoR W L #[.int .i64 xa, .int .i64 xb, .int .i64 xc] #[.int .i64 m0, .int .i64 m1, .int .i64 m2, .int .i64 m3, .int .i64 m4, .int .i64 m5, .int .i64 m6, .int .i64 m7] #[.int .i64 ya, .int .i64 yb, encStr s] w.heap.size) (fun K hK => ?_) ?_
  · go_wp2_with (first | (refine ndList_load rfl 31 _ rfl _ _ rfl HLD.out ?_))
    refine (HP6.out.c1 _ HT1.out).mono ?_
    rintro e v1 ⟨rfl, hb⟩
    obtain ⟨W1, hW⟩ : ∃ W1, v1.alloc (.cells V6 29) = W1 := ⟨_, rfl⟩
    have hbn : Below w1.heap.size w1 W1 := by rw [← hW]; exact hb.alloc hb.size _
    have HST : Hid ((Instr.storeAt 29 (.pointer (some ⟨v1.heap.size, 0, none⟩)) (.agg V6)).run Tryz.prog (v1.alloc (.cells #[.int .i64 0, .int .i64 0, .int .i64 0, .int .i64 0, .int .i64 0, .int .i64 0, .int .i64 0] 29)) = .ok () W1) := show _ = _ by
      rw [← hW]
      exact run_storeAt_new v1 29 _ V6 (by rw [HP6.out.s1]; kernel_rfl) (by rw [HP6.out.s1]; rfl) HP6.out.o1
    have BV : Hid (Blk W1 v1.heap.size 29 V6) := show Blk _ _ _ _ by rw [← hW]; exact Blk.new _ _ _
    have BX1 := Lib.hid (BX.out.below hbn BX.out.lt)
    have HB2 := Lib.hid (HB1.out.trans (hbn.mono HB1.out.size))
    have HT2 : Hid (Tabs W1) := show Tabs _ from HT1.out.below hbn HT1.out.room
    have HLD1 : Hid ((Instr.loadAt 29 (.pointer (some ⟨v1.heap.size, 0, none⟩))).run Tryz.prog W1 = .ok (.agg V6) W1) := show _ = _ from BV.out.load (tt := 29) Tryz.underlying29 rfl (by rw [HP6.out.s1]; kernel_rfl)
    clear hb hbn hW HLD
    rcases HP6.out.er with he | he
    rotate_left
    · subst he
      go_wp2_with (first | (refine ndList_store rfl 29 _ _ rfl _ _ rfl rfl HST.out ?_) | (go_at_call 20; refine (HN.out _ _).mono ?_; rintro e w' ⟨rfl, rfl⟩))
      exact hoR_mk rfl rfl rfl HB2.out
    have HP := Lib.hid (HP6.out.c2 he)
    subst he
    go_wp2_with (first | (refine ndList_store rfl 29 _ _ rfl _ _ rfl rfl HST.out ?_) | (go_at_call 20; refine (HN.out _ _).mono ?_; rintro e w' ⟨rfl, rfl⟩) | (refine ndList_load rfl 29 _ rfl _ _ rfl HLD1.out ?_))
    clear HST HLD1
    refine (HP.out _ HT2.out).mono ?_
    rintro e v2 ⟨rfl, hb⟩
    obtain ⟨W2, hW⟩ : ∃ W2, v2.alloc (.cells L 31) = W2 := ⟨_, rfl⟩
    have hbn : Below W1.heap.size W1 W2 := by rw [← hW]; exact hb.alloc hb.size _
    have HST : Hid ((Instr.storeAt 31 (.pointer (some ⟨v2.heap.size, 0, none⟩)) (.agg L)).run Tryz.prog (v2.alloc (.cells #[.int .u64 0, .int .u64 0, .int .u64 0, .int .u64 0, .int .u64 0, .int .u64 0, .int .u64 0, .int .u64 0] 31)) = .ok () W2) := show _ = _ by
      rw [← hW]
      exact run_storeAt_new v2 31 _ L (by rw [HL0.out.1]; kernel_rfl) (by rw [HL0.out.1]; rfl) HL0.out.2
    have BV2 : Hid (Blk W2 v2.heap.size 31 L) := show Blk _ _ _ _ by rw [← hW]; exact Blk.new _ _ _
    have BX2 := Lib.hid (BX1.out.below hbn BX1.out.lt)
    have HB3 := Lib.hid (HB2.out.trans (hbn.mono HB2.out.size))
    have HLDa : Hid ((Instr.loadAt 31 (.pointer (some ⟨v2.heap.size, 0, none⟩))).run Tryz.prog W2 = .ok (.agg L) W2) := show _ = _ from BV2.out.load (tt := 31) Tryz.underlying31 rfl (by rw [HL0.out.1]; kernel_rfl)
    have HLDb : Hid ((Instr.loadAt 31 (.pointer (some ⟨w.heap.size, 0, none⟩))).run Tryz.prog W2 = .ok (.agg L) W2) := show _ = _ from BX2.out.load (tt := 31) Tryz.underlying31 rfl (by rw [HL0.out.1]; kernel_rfl)
    have q1 := HLE.out W2
    clear hb hbn hW HP
    go_wp2_with (first | (refine ndList_store rfl 31 _ _ rfl _ _ rfl rfl HST.out ?_) | (go_at_call 20; refine (HN.out _ _).mono ?_; rintro e w' ⟨rfl, rfl⟩) | (refine ndList_load rfl 31 _ rfl _ _ rfl HLDa.out ?_) | (refine ndList_load rfl 31 _ rfl _ _ rfl HLDb.out ?_))
    exact hoR_mk rfl rfl rfl HB3.out
  rintro a' w1 ha
  obtain ⟨U, rfl, hb⟩ := hoR_out ha
  have HB1 := Lib.hid hb
  have HT1 : Hid (Tabs w1) := show Tabs _ from HT.out.below hb HT.out.room
  have BX := Lib.hid (HBL.out.below hb HBL.out.lt)
  clear ha hb
  have HLD : Hid ((Instr.loadAt 31 (.pointer (some ⟨w.heap.size, 0, none⟩))).run Tryz.prog w1 = .ok (.agg L) w1) := show _ = _ from BX.out.load (tt := 31) Tryz.underlying31 rfl (by rw [HL0.out.1]; kernel_rfl)
  refine wp_seq_R (HoR W L #[.int .i64 xa, .int .i64 xb, .int .i64 xc] #[.int .i64 m0, .int .i64 m1, .int .i64 m2, .int .i64 m3, .int .i64 m4, .int .i64 m5, .int .i64 m6, .int .i64 m7] #[.int .i64 ya, .int .i64 yb, encStr s] w.heap.size) (fun K hK => ?_) ?_
  · go_wp2_with (first | (refine ndList_load rfl 31 _ rfl _ _ rfl HLD.out ?_))
    refine (HP7.out.c1 _ HT1.out).mono ?_
    rintro e v1 ⟨rfl, hb⟩
    obtain ⟨W1, hW⟩ : ∃ W1, v1.alloc (.cells V7 23) = W1 := ⟨_, rfl⟩
    have hbn : Below w1.heap.size w1 W1 := by rw [← hW]; exact hb.alloc hb.size _
    have HST : Hid ((Instr.storeAt 23 (.pointer (some ⟨v1.heap.size, 0, none⟩)) (.agg V7)).run Tryz.prog (v1.alloc (.cells #[.int .i64 0, .int .i64 0] 23)) = .ok () W1) := show _ = _ by
      rw [← hW]
      exact run_storeAt_new v1 23 _ V7 (by rw [HP7.out.s1]; kernel_rfl) (by rw [HP7.out.s1]; rfl) HP7.out.o1
    have BV : Hid (Blk W1 v1.heap.size 23 V7) := show Blk _ _ _ _ by rw [← hW]; exact Blk.new _ _ _
    have BX1 := Lib.hid (BX.out.below hbn BX.out.lt)
    have HB2 := Lib.hid (HB1.out.trans (hbn.mono HB1.out.size))
    have HT2 : Hid (Tabs W1) := show Tabs _ from HT1.out.below hbn HT1.out.room
    have HLD1 : Hid ((Instr.loadAt 23 (.pointer (some ⟨v1.heap.size, 0, none⟩))).run Tryz.prog W1 = .ok (.agg V7) W1) := show _ = _ from BV.out.load (tt := 23) Tryz.underlying23 rfl (by rw [HP7.out.s1]; kernel_rfl)
    clear hb hbn hW HLD
    rcases HP7.out.er with he | he
    rotate_left
    · subst he
      go_wp2_with (first | (refine ndList_store rfl 23 _ _ rfl _ _ rfl rfl HST.out ?_) | (go_at_call 20; refine (HN.out _ _).mono ?_; rintro e w' ⟨rfl, rfl⟩))
      exact hoR_mk rfl rfl rfl HB2.out
    have HP := Lib.hid (HP7.out.c2 he)
    subst he
    go_wp2_with (first | (refine ndList_store rfl 23 _ _ rfl _ _ rfl rfl HST.out ?_) | (go_at_call 20; refine (HN.out _ _).mono ?_; rintro e w' ⟨rfl, rfl⟩) | (refine ndList_load rfl 23 _ rfl _ _ rfl HLD1.out ?_))
    clear HST HLD1
    refine (HP.out _ HT2.out).mono ?_
    rintro e v2 ⟨rfl, hb⟩
    obtain ⟨W2, hW⟩ : ∃ W2, v2.alloc (.cells L 31) = W2 := ⟨_, rfl⟩
    have hbn : Below W1.heap.size W1 W2 := by rw [← hW]; exact hb.alloc hb.size _
    have HST : Hid ((Instr.storeAt 31 (.pointer (some ⟨v2.heap.size, 0, none⟩)) (.agg L)).run Tryz.prog (v2.alloc (.cells #[.int .u64 0, .int .u64 0, .int .u64 0, .int .u64 0, .int .u64 0, .int .u64 0, .int .u64 0, .int .u64 0] 31)) = .ok () W2) := show _ = _ by
      rw [← hW]
      exact run_storeAt_new v2 31 _ L (by rw [HL0.out.1]; kernel_rfl) (by rw [HL0.out.1]; rfl) HL0.out.2
    have BV2 : Hid (Blk W2 v2.heap.size 31 L) := show Blk _ _ _ _ by rw [← hW]; exact Blk.new _ _ _
    have BX2 := Lib.hid (BX1.out.below hbn BX1.out.lt)
    have HB3 := Lib.hid (HB2.out.trans (hbn.mono HB2.out.size))
    have HLDa : Hid ((Instr.loadAt 31 (.pointer (some ⟨v2.heap.size, 0, none⟩))).run Tryz.prog W2 = .ok (.agg L) W2) := show _ = _ from BV2.out.load (tt := 31) Tryz.underlying31 rfl (by rw [HL0.out.1]; kernel_rfl)
    have HLDb : Hid ((Instr.loadAt 31 (.pointer (some ⟨w.heap.size, 0, none⟩))).run Tryz.prog W2 = .ok (.agg L) W2) := show _ = _ from BX2.out.load (tt := 31) Tryz.underlying31 rfl (by rw [HL0.out.1]; kernel_rfl)
    have q1 := HLE.out W2
    clear hb hbn hW HP
    go_wp2_with (first | (refine ndList_store rfl 31 _ _ rfl _ _ rfl rfl HST.out ?_) | (go_at_call 20; refine (HN.out _ _).mono ?_; rintro e w' ⟨rfl, rfl⟩) | (refine ndList_load rfl 31 _ rfl _ _ rfl HLDa.out ?_) | (refine ndList_load rfl 31 _ rfl _ _ rfl HLDb.out ?_))
    exact hoR_mk rfl rfl rfl HB3.out
  rintro a' w1 ha
  obtain ⟨U, rfl, hb⟩ := hoR_out ha
  have HB1 := Lib.hid hb
  have HT1 : Hid (Tabs w1) := show Tabs _ from HT.out.below hb HT.out.room
  have BX := Lib.hid (HBL.out.below hb HBL.out.lt)
  clear ha hb
  have HLD : Hid ((Instr.loadAt 31 (.pointer (some ⟨w.heap.size, 0, none⟩))).run Tryz.prog w1 = .ok (.agg L) w1) := show _ = _ from BX.out.load (tt := 31) Tryz.underlying31 rfl (by rw [HL0.out.1]; kernel_rfl)
  go_wp2_with (first | (refine ndList_load rfl 31 _ rfl _ _ rfl HLD.out ?_))
  refine (HP8.out.c1 _ HT1.out).mono ?_
  rintro e v1 ⟨rfl, hb⟩
  obtain ⟨W1, hW⟩ : ∃ W1, v1.alloc (.cells V8 49) = W1 := ⟨_, rfl⟩
  have hbn : Below w1.heap.size w1 W1 := by rw [← hW]; exact hb.alloc hb.size _
  have HST : Hid ((Instr.storeAt 49 (.pointer (some ⟨v1.heap.size, 0, none⟩)) (.agg V8)).run Tryz.prog (v1.alloc (.cells #[.int .i64 0, .int .i64 0, .string ⟨#[]⟩] 49)) = .ok () W1) := show _ = _ by
    rw [← hW]
    exact run_storeAt_new v1 49 _ V8 (by rw [HP8.out.s1]; kernel_rfl) (by rw [HP8.out.s1]; rfl) HP8.out.o1
  have BV : Hid (Blk W1 v1.heap.size 49 V8) := show Blk _ _ _ _ by rw [← hW]; exact Blk.new _ _ _
  have BX1 := Lib.hid (BX.out.below hbn BX.out.lt)
  have HB2 := Lib.hid ((HB.out.trans (HB1.out.mono HB.out.size)).trans (hbn.mono (HB.out.trans (HB1.out.mono HB.out.size)).size))
  have HT2 : Hid (Tabs W1) := show Tabs _ from HT1.out.below hbn HT1.out.room
  have HLD1 : Hid ((Instr.loadAt 49 (.pointer (some ⟨v1.heap.size, 0, none⟩))).run Tryz.prog W1 = .ok (.agg V8) W1) := show _ = _ from BV.out.load (tt := 49) Tryz.underlying49 rfl (by rw [HP8.out.s1]; kernel_rfl)
  clear hb hbn hW HLD
  rcases HP8.out.er with he | he
  rotate_left
  · subst he
    have HTX := HT2
    go_wp2_with (first | (refine ndList_store rfl 49 _ _ rfl _ _ rfl rfl HST.out ?_) | (go_at_call 20; refine (HN.out _ _).mono ?_; rintro e w' ⟨rfl, rfl⟩) | (go_at_call 17; refine (HWK.out _ HTX.out).mono ?_; rintro e w' ⟨rfl, hb⟩))
    go_ret
    exact ⟨rfl, HB2.out.trans (hb.mono HB2.out.size)⟩
  have HP := Lib.hid (HP8.out.c2 he)
  subst he
  go_wp2_with (first | (refine ndList_store rfl 49 _ _ rfl _ _ rfl rfl HST.out ?_) | (go_at_call 20; refine (HN.out _ _).mono ?_; rintro e w' ⟨rfl, rfl⟩) | (refine ndList_load rfl 49 _ rfl _ _ rfl HLD1.out ?_))
  clear HST HLD1
  refine (HP.out _ HT2.out).mono ?_
  rintro e v2 ⟨rfl, hb⟩
  obtain ⟨W2, hW⟩ : ∃ W2, v2.alloc (.cells L 31) = W2 := ⟨_, rfl⟩
  have hbn : Below W1.heap.size W1 W2 := by rw [← hW]; exact hb.alloc hb.size _
  have HST : Hid ((Instr.storeAt 31 (.pointer (some ⟨v2.heap.size, 0, none⟩)) (.agg L)).run Tryz.prog (v2.alloc (.cells #[.int .u64 0, .int .u64 0, .int .u64 0, .int .u64 0, .int .u64 0, .int .u64 0, .int .u64 0, .int .u64 0] 31)) = .ok () W2) := show _ = _ by
    rw [← hW]
    exact run_storeAt_new v2 31 _ L (by rw [HL0.out.1]; kernel_rfl) (by rw [HL0.out.1]; rfl) HL0.out.2
  have BV2 : Hid (Blk W2 v2.heap.size 31 L) := show Blk _ _ _ _ by rw [← hW]; exact Blk.new _ _ _
  have BX2 := Lib.hid (BX1.out.below hbn BX1.out.lt)
  have HB3 := Lib.hid (HB2.out.trans (hbn.mono HB2.out.size))
  have HTX : Hid (Tabs W2) := show Tabs _ from HT2.out.below hbn HT2.out.room
  have HLDa : Hid ((Instr.loadAt 31 (.pointer (some ⟨v2.heap.size, 0, none⟩))).run Tryz.prog W2 = .ok (.agg L) W2) := show _ = _ from BV2.out.load (tt := 31) Tryz.underlying31 rfl (by rw [HL0.out.1]; kernel_rfl)
  have HLDb : Hid ((Instr.loadAt 31 (.pointer (some ⟨w.heap.size, 0, none⟩))).run Tryz.prog W2 = .ok (.agg L) W2) := show _ = _ from BX2.out.load (tt := 31) Tryz.underlying31 rfl (by rw [HL0.out.1]; kernel_rfl)
  have q1 := HLE.out W2
  clear hb hbn hW HP
  go_wp2_with (first | (refine ndList_store rfl 31 _ _ rfl _ _ rfl rfl HST.out ?_) | (go_at_call 20; refine (HN.out _ _).mono ?_; rintro e w' ⟨rfl, rfl⟩) | (refine ndList_load rfl 31 _ rfl _ _ rfl HLDa.out ?_) | (refine ndList_load rfl 31 _ rfl _ _ rfl HLDb.out ?_) | (go_at_call 17; refine (HWK.out _ HTX.out).mono ?_; rintro e w' ⟨rfl, hb⟩))
  go_ret
  exact ⟨rfl, HB3.out.trans (hb.mono HB3.out.size)⟩
end Go.Proofs.YtfdnlgmgjmbafaaGreatDoor
