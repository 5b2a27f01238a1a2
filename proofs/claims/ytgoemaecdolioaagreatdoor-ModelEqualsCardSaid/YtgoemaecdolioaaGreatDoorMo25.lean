/-
  Texts MdB to MdC, as one.
-/
import Derived.Test.YtgoemaecdolioaaGreatDoorMo24
/-
  model: the map of what operations of each kind do. (gen_mdb.py)
-/
namespace Go.Proofs.YtgoemaecdolioaaGreatDoor
open Go.RowKit Go.Shelf
attribute [local go_sem] Oper.semAt_some

/-- A map of numbers, by its entries. -/
def KMap (W : World) (b : Nat) (l : List (Int × Value)) : Prop := ∃ es clock, W.heap[b]? = some (.map es clock) ∧ es.toList.map (fun e => (e.key, e.val)) = l.map (fun p => (Value.int .i64 p.1, p.2))
theorem KMap.lt {W : World} {b : Nat} {l : List (Int × Value)} (h : KMap W b l) : b < W.heap.size := by
  obtain ⟨es, clock, hb, -⟩ := h
  exact (Array.getElem?_eq_some_iff.1 hb).1
theorem KMap.keep {W W' : World} {b : Nat} {l : List (Int × Value)} (h : KMap W b l) (hb : W'.heap[b]? = W.heap[b]?) : KMap W' b l := by
  obtain ⟨es, clock, h1, h2⟩ := h
  exact ⟨es, clock, hb.trans h1, h2⟩
theorem KMap.new (W : World) : KMap (W.alloc (.map #[] 0)) W.heap.size [] := ⟨#[], 0, World.alloc_heap_new W _, rfl⟩
theorem undK : Tryz.prog.underlying 22 = some (.int .i64) := by kernel_rfl
theorem undM : Tryz.prog.underlying 98 = some (.map 22 97) := by kernel_rfl
theorem findNow_k (k : Int) : ∀ (es : List MapEntry) (l : List (Int × Value)) (i : Nat), es.map (fun e => (e.key, e.val)) = l.map (fun p => (Value.int .i64 p.1, p.2)) →
    ∃ j, Instr.findNow (.int .i64) (.int .i64 k) es i = some ((l.find? fun p => p.1 == k).map fun p => (j, p.2))
  | [], l, i, h => by
    cases l with
    | nil => exact ⟨0, rfl⟩
    | cons p l => cases h
  | e :: es, l, i, h => by
    cases l with
    | nil => cases h
    | cons p l =>
      simp only [List.map_cons, List.cons.injEq, Prod.mk.injEq] at h
      obtain ⟨⟨h1, h2⟩, h3⟩ := h
      by_cases hk : p.1 = k
      · refine ⟨i, ?_⟩
        simp [Instr.findNow, Instr.sameNow, h1, h2, hk]
      · obtain ⟨j, hj⟩ := findNow_k k es l (i + 1) h3
        refine ⟨j, ?_⟩
        have hk2 : (k == p.1) = false := by simpa using fun e => hk e.symm
        have hk3 : (p.1 == k) = false := by simpa using hk
        simp [Instr.findNow, Instr.sameNow, h1, hk2, hk3, hj, List.find?_cons]
theorem findKey_k {W : World} (k : Int) {es : List MapEntry} {l : List (Int × Value)} (h : es.map (fun e => (e.key, e.val)) = l.map (fun p => (Value.int .i64 p.1, p.2))) :
    ∃ j, (Instr.findKey 22 (.int .i64 k) es).run Tryz.prog W = .ok ((l.find? fun p => p.1 == k).map fun p => (j, p.2)) W := by
  obtain ⟨j, hj⟩ := findNow_k k es l 0 h
  exact ⟨j, by simp [Instr.findKey, run_underlying undK, hj]⟩
theorem checkKey_k (em : Bool) (n : Nat) (k : Int) (W : World) : (Instr.checkKey em (n + 1) 22 (.int .i64 k)).run Tryz.prog W = .ok () W := by
  simp [Instr.checkKey, run_underlying undK]
theorem zero_deed (W : World) : (zeroValue 97).run Tryz.prog W = .ok .nilFunc W := by
  obtain ⟨i, hi, hz, -, -⟩ := nd_info (show (Tryz.prog.info? 97).map (fun i => (i.zero, i.size, i.bytes)) = some (some .nilFunc, 1, 8) from by kernel_rfl)
  simp [zeroValue, typeInfo, hi, hz]
theorem KMap.look {W : World} {b : Nat} {l : List (Int × Value)} (h : KMap W b l) (k : Int) :
    (Instr.lookup 98 (.map (some b)) (.int .i64 k) false).run Tryz.prog W = .ok (((l.find? fun p => p.1 == k).map (·.2)).getD .nilFunc) W := by
  obtain ⟨es, clock, h1, h2⟩ := h
  have hgo : (getObj b).run Tryz.prog W = .ok (.map es clock) W := by simp [getObj, Sem.run, h1]
  have hck : ∀ em, (Instr.checkKey em 10000 22 (.int .i64 k)).run Tryz.prog W = .ok () W := fun em => checkKey_k em 9999 k W
  obtain ⟨j, hj⟩ := findKey_k (W := W) k h2
  have hz := zero_deed W
  cases hf : l.find? fun p => p.1 == k with
  | none =>
    rw [hf] at hj
    simp at hj
    simp [Instr.lookup, run_underlying undM, hgo, hck, hj, hz]
  | some p =>
    rw [hf] at hj
    simp at hj
    simp [Instr.lookup, run_underlying undM, hgo, hck, hj]
theorem KMap.store {W : World} {b : Nat} {l : List (Int × Value)} (h : KMap W b l) (k : Int) (v : Value) (hnew : (l.find? fun p => p.1 == k) = none) :
    ∃ W', (Instr.mapUpdate 98 (.map (some b)) (.int .i64 k) v).run Tryz.prog W = .ok () W' ∧ KMap W' b (l ++ [(k, v)]) ∧ Turn (fun k => k = b) W W' := by
  have hlt := h.lt
  obtain ⟨es, clock, h1, h2⟩ := h
  have hgo : (getObj b).run Tryz.prog W = .ok (.map es clock) W := by simp [getObj, Sem.run, h1]
  have hso : ∀ o, (setObj b o).run Tryz.prog W = .ok () { W with heap := W.heap.setIfInBounds b o } := fun o => by simp [setObj, Sem.run, h1]
  have hck : ∀ em, (Instr.checkKey em 10000 22 (.int .i64 k)).run Tryz.prog W = .ok () W := fun em => checkKey_k em 9999 k W
  obtain ⟨j, hj⟩ := findKey_k (W := W) k h2
  rw [hnew] at hj
  simp at hj
  refine ⟨{ W with heap := W.heap.setIfInBounds b (.map (es.push { key := .int .i64 k, val := v, born := clock }) (clock + 1)) }, ?_, ⟨es.push { key := .int .i64 k, val := v, born := clock }, clock + 1, ?_, ?_⟩, ⟨rfl, rfl, rfl, by simp, fun c _ hn => ?_⟩⟩
  · simp [Instr.mapUpdate, run_underlying undM, hgo, hck, hj, hso]
  · show (W.heap.setIfInBounds b _)[b]? = _
    rw [Array.getElem?_setIfInBounds, if_pos rfl, if_pos hlt]
  · rw [Array.toList_push, List.map_append, h2, List.map_append]
    rfl
  · show (W.heap.setIfInBounds b _)[c]? = _
    rw [Array.getElem?_setIfInBounds, if_neg (fun e => hn e.symm)]
abbrev fnV (f : Nat) : Value := .func (.func f) #[] #[]
abbrev closV (f b : Nat) : Value := .func (.func f) #[] #[.pointer (some ⟨b + 1, 0, none⟩), .pointer (some ⟨b, 0, none⟩)]
theorem fillingR_any (d f : Nat) (w : World) : Calls Tryz.prog 87 #[fnV d, fnV f] w fun e w' => e = .returned (closV 115 w.heap.size) ∧ w' = (w.alloc (.cells #[fnV d] 144)).alloc (.cells #[fnV f] 145) := by
  have hmf : ∀ (fn : Fn) (first cap : Array Value) (w : World), (Instr.makeFunc fn first cap).run Tryz.prog w = .ok (.func fn first cap) w := fun _ _ _ _ => rfl
  go_enter Tryz.func87, Tryz.ntmps87
  go_wp2_with fail
  go_ret
  exact ⟨rfl, rfl⟩
theorem fillingS_any (d f : Nat) (w : World) : Calls Tryz.prog 90 #[fnV d, fnV f] w fun e w' => e = .returned (closV 123 w.heap.size) ∧ w' = (w.alloc (.cells #[fnV d] 147)).alloc (.cells #[fnV f] 149) := by
  have hmf : ∀ (fn : Fn) (first cap : Array Value) (w : World), (Instr.makeFunc fn first cap).run Tryz.prog w = .ok (.func fn first cap) w := fun _ _ _ _ => rfl
  go_enter Tryz.func90, Tryz.ntmps90
  go_wp2_with fail
  go_ret
  exact ⟨rfl, rfl⟩
theorem fillingB_any (d f : Nat) (w : World) : Calls Tryz.prog 93 #[fnV d, fnV f] w fun e w' => e = .returned (closV 124 w.heap.size) ∧ w' = (w.alloc (.cells #[fnV d] 151)).alloc (.cells #[fnV f] 153) := by
  have hmf : ∀ (fn : Fn) (first cap : Array Value) (w : World), (Instr.makeFunc fn first cap).run Tryz.prog w = .ok (.func fn first cap) w := fun _ _ _ _ => rfl
  go_enter Tryz.func93, Tryz.ntmps93
  go_wp2_with fail
  go_ret
  exact ⟨rfl, rfl⟩
theorem fillingE_any (d f : Nat) (w : World) : Calls Tryz.prog 96 #[fnV d, fnV f] w fun e w' => e = .returned (closV 126 w.heap.size) ∧ w' = (w.alloc (.cells #[fnV d] 155)).alloc (.cells #[fnV f] 142) := by
  have hmf : ∀ (fn : Fn) (first cap : Array Value) (w : World), (Instr.makeFunc fn first cap).run Tryz.prog w = .ok (.func fn first cap) w := fun _ _ _ _ => rfl
  go_enter Tryz.func96, Tryz.ntmps96
  go_wp2_with fail
  go_ret
  exact ⟨rfl, rfl⟩
/-- What an operation of a kind does: how it lies. -/
def DeedIs (W : World) (v : Value) (f t1 f1 t2 f2 : Nat) (lo : Nat) : Prop := ∃ b, v = closV f b ∧ lo ≤ b ∧ Boxed W b t1 (fnV f1) ∧ Boxed W (b + 1) t2 (fnV f2)
theorem DeedIs.below {W W' : World} {v : Value} {f t1 f1 t2 f2 lo : Nat} (h : DeedIs W v f t1 f1 t2 f2 lo) (hb : RowKit.Below W.heap.size W W') : DeedIs W' v f t1 f1 t2 f2 lo := by
  obtain ⟨b, h1, h2, h3, h4⟩ := h
  exact ⟨b, h1, h2, (hb.block _ h3.lt).trans h3, (hb.block _ h4.lt).trans h4⟩
theorem DeedIs.turn {W W' : World} {v : Value} {f t1 f1 t2 f2 lo n : Nat} (h : DeedIs W v f t1 f1 t2 f2 lo) (hb : Turn (fun k => k = n) W W') (hn : n < lo) : DeedIs W' v f t1 f1 t2 f2 lo := by
  obtain ⟨b, h1, h2, h3, h4⟩ := h
  exact ⟨b, h1, h2, (hb.block _ h3.lt (by omega)).trans h3, (hb.block _ h4.lt (by omega)).trans h4⟩
/-- What lies behind so many entries. -/
def Deeds (W : World) (lo : Nat) (l : List (Int × Value)) : Prop := ∀ p ∈ l, (p.1 = 1 ∧ DeedIs W p.2 115 144 88 145 89 lo) ∨ (p.1 = 2 ∧ DeedIs W p.2 123 147 91 149 92 lo) ∨ (p.1 = 3 ∧ DeedIs W p.2 124 151 94 153 95 lo) ∨ (p.1 = 4 ∧ DeedIs W p.2 126 155 97 142 86 lo) ∨ (p.1 = 5 ∧ DeedIs W p.2 126 155 98 142 86 lo) ∨ (p.1 = 6 ∧ DeedIs W p.2 126 155 99 142 86 lo) ∨ (p.1 = 7 ∧ DeedIs W p.2 126 155 100 142 86 lo) ∨ (p.1 = 8 ∧ DeedIs W p.2 126 155 101 142 86 lo) ∨ (p.1 = 9 ∧ DeedIs W p.2 126 155 102 142 86 lo) ∨ (p.1 = 10 ∧ DeedIs W p.2 126 155 103 142 86 lo) ∨ (p.1 = 11 ∧ DeedIs W p.2 126 155 104 142 86 lo)
theorem Deeds.turn {W W' : World} {lo n : Nat} {l : List (Int × Value)} (h : Deeds W lo l) (hb : Turn (fun k => k = n) W W') (hn : n < lo) : Deeds W' lo l := fun p hp => by
  rcases h p hp with ⟨h1, h2⟩ | ⟨h1, h2⟩ | ⟨h1, h2⟩ | ⟨h1, h2⟩ | ⟨h1, h2⟩ | ⟨h1, h2⟩ | ⟨h1, h2⟩ | ⟨h1, h2⟩ | ⟨h1, h2⟩ | ⟨h1, h2⟩ | ⟨h1, h2⟩
  · exact .inl (⟨h1, h2.turn hb hn⟩)
  · exact .inr (.inl (⟨h1, h2.turn hb hn⟩))
  · exact .inr (.inr (.inl (⟨h1, h2.turn hb hn⟩)))
  · exact .inr (.inr (.inr (.inl (⟨h1, h2.turn hb hn⟩))))
  · exact .inr (.inr (.inr (.inr (.inl (⟨h1, h2.turn hb hn⟩)))))
  · exact .inr (.inr (.inr (.inr (.inr (.inl (⟨h1, h2.turn hb hn⟩))))))
  · exact .inr (.inr (.inr (.inr (.inr (.inr (.inl (⟨h1, h2.turn hb hn⟩)))))))
  · exact .inr (.inr (.inr (.inr (.inr (.inr (.inr (.inl (⟨h1, h2.turn hb hn⟩))))))))
  · exact .inr (.inr (.inr (.inr (.inr (.inr (.inr (.inr (.inl (⟨h1, h2.turn hb hn⟩)))))))))
  · exact .inr (.inr (.inr (.inr (.inr (.inr (.inr (.inr (.inr (.inl (⟨h1, h2.turn hb hn⟩))))))))))
  · exact .inr (.inr (.inr (.inr (.inr (.inr (.inr (.inr (.inr (.inr (⟨h1, h2.turn hb hn⟩))))))))))
theorem Deeds.below {W W' : World} {lo : Nat} {l : List (Int × Value)} (h : Deeds W lo l) (hb : RowKit.Below W.heap.size W W') : Deeds W' lo l := fun p hp => by
  rcases h p hp with ⟨h1, h2⟩ | ⟨h1, h2⟩ | ⟨h1, h2⟩ | ⟨h1, h2⟩ | ⟨h1, h2⟩ | ⟨h1, h2⟩ | ⟨h1, h2⟩ | ⟨h1, h2⟩ | ⟨h1, h2⟩ | ⟨h1, h2⟩ | ⟨h1, h2⟩
  · exact .inl (⟨h1, h2.below hb⟩)
  · exact .inr (.inl (⟨h1, h2.below hb⟩))
  · exact .inr (.inr (.inl (⟨h1, h2.below hb⟩)))
  · exact .inr (.inr (.inr (.inl (⟨h1, h2.below hb⟩))))
  · exact .inr (.inr (.inr (.inr (.inl (⟨h1, h2.below hb⟩)))))
  · exact .inr (.inr (.inr (.inr (.inr (.inl (⟨h1, h2.below hb⟩))))))
  · exact .inr (.inr (.inr (.inr (.inr (.inr (.inl (⟨h1, h2.below hb⟩)))))))
  · exact .inr (.inr (.inr (.inr (.inr (.inr (.inr (.inl (⟨h1, h2.below hb⟩))))))))
  · exact .inr (.inr (.inr (.inr (.inr (.inr (.inr (.inr (.inl (⟨h1, h2.below hb⟩)))))))))
  · exact .inr (.inr (.inr (.inr (.inr (.inr (.inr (.inr (.inr (.inl (⟨h1, h2.below hb⟩))))))))))
  · exact .inr (.inr (.inr (.inr (.inr (.inr (.inr (.inr (.inr (.inr (⟨h1, h2.below hb⟩))))))))))
theorem Deeds.nil (W : World) (lo : Nat) : Deeds W lo [] := fun p hp => by cases hp
/-- The map of what is done, so far. -/
structure KinI (w : World) (n : Nat) (W : World) (l : List (Int × Value)) : Prop where
  map : KMap W w.heap.size l
  deeds : Deeds W (w.heap.size + 1) l
  below : RowKit.Below w.heap.size w W
  keys : l.map (·.1) = (List.range n).map fun i : Nat => ((i + 1 : Nat) : Int)
theorem KinI.fresh {w W : World} {n : Nat} {l : List (Int × Value)} (h : KinI w n W l) : (l.find? fun p => p.1 == ((n + 1 : Nat) : Int)) = none := by
  rw [List.find?_eq_none]
  intro p hp he
  have h1 : p.1 ∈ l.map (·.1) := List.mem_map.2 ⟨p, hp, rfl⟩
  rw [h.keys] at h1
  obtain ⟨i, hi, h2⟩ := List.mem_map.1 h1
  have h3 := List.mem_range.1 hi
  have h4 : p.1 = ((n + 1 : Nat) : Int) := by simpa using he
  omega
/-- One more. -/
theorem KinI.more {w W : World} {n : Nat} {l : List (Int × Value)} (h : KinI w n W l) (d f : Value) (t1 t2 f0 : Nat)
    (hd : ∀ W' lo b, lo ≤ b → Boxed W' b t1 d → Boxed W' (b + 1) t2 f → Deeds W' lo [(((n + 1 : Nat) : Int), closV f0 b)]) :
    ∃ W' l', (Instr.mapUpdate 98 (.map (some w.heap.size)) (.int .i64 ((n + 1 : Nat) : Int)) (closV f0 W.heap.size)).run Tryz.prog ((W.alloc (.cells #[d] t1)).alloc (.cells #[f] t2)) = .ok () W' ∧ KinI w (n + 1) W' l' := by
  have hb1 : RowKit.Below W.heap.size W (W.alloc (.cells #[d] t1)) := (RowKit.Below.refl _ W).alloc (Nat.le_refl _) _
  have hb2 : RowKit.Below W.heap.size W ((W.alloc (.cells #[d] t1)).alloc (.cells #[f] t2)) := hb1.alloc hb1.size _
  have hs : (W.alloc (.cells #[d] t1)).heap.size = W.heap.size + 1 := World.size_alloc _ _
  have hx1 : Boxed ((W.alloc (.cells #[d] t1)).alloc (.cells #[f] t2)) W.heap.size t1 d := (((RowKit.Below.refl _ (W.alloc (.cells #[d] t1))).alloc (Nat.le_refl _) (.cells #[f] t2)).block _ (by omega)).trans (Boxed.new W _ _)
  have hx2 : Boxed ((W.alloc (.cells #[d] t1)).alloc (.cells #[f] t2)) (W.heap.size + 1) t2 f := by
    rw [← hs]
    exact Boxed.new _ _ _
  have hl := h.map.lt
  obtain ⟨W', r1, r2, r3⟩ := (h.map.keep (hb2.block _ hl)).store ((n + 1 : Nat) : Int) (closV f0 W.heap.size) h.fresh
  refine ⟨W', l ++ [(((n + 1 : Nat) : Int), closV f0 W.heap.size)], r1, r2, fun p hp => ?_, (h.below.trans (hb2.mono h.below.size)).trans (r3.below (fun k hk => by omega) (Nat.le_trans h.below.size hb2.size)), ?_⟩
  · rcases List.mem_append.1 hp with hp | hp
    · exact ((h.deeds.below hb2).turn r3 (by omega)) p hp
    · exact (hd W' (w.heap.size + 1) W.heap.size (by omega) ((r3.block _ hx1.lt (by omega)).trans hx1) ((r3.block _ hx2.lt (by omega)).trans hx2)) p hp
  · rw [List.map_append, h.keys, List.range_succ, List.map_append]
    rfl
set_option maxRecDepth 100000 in
set_option maxHeartbeats 4000000 in
theorem kinds_any (w : World) : Calls Tryz.prog 54 #[] w fun e w' => ∃ l, e = .returned (.map (some w.heap.size)) ∧ KinI w 11 w' l := by
  have hmk : ∀ W : World, (Instr.makeMap 98 none).run Tryz.prog W = .ok (.map (some W.heap.size)) (W.alloc (.map #[] 0)) := @run_makeMap Tryz.prog 98
  have HFR := Lib.hid fillingR_any
  have HFS := Lib.hid fillingS_any
  have HFB := Lib.hid fillingB_any
  have HFE := Lib.hid fillingE_any
  have H0 : Hid (KinI w 0 (w.alloc (.map #[] 0)) []) := show KinI _ _ _ _ from ⟨KMap.new w, Deeds.nil _ _, (RowKit.Below.refl _ w).alloc (Nat.le_refl _) _, rfl⟩
  go_enter Tryz.func54, Tryz.ntmps54
  go_wp2_with fail
  obtain ⟨W0, hW0⟩ : ∃ W0, w.alloc (.map #[] 0) = W0 := ⟨_, rfl⟩
  rw [hW0] at H0 ⊢
  clear hW0
  refine (HFR.out _ _ _).mono ?_
  rintro e w1 ⟨rfl, rfl⟩
  obtain ⟨W1, l1, hst, h1⟩ := H0.out.more (fnV 88) (fnV 89) 144 145 115 (fun W' lo b hlo h1 h2 p hp => by
    rw [List.mem_singleton.1 hp]
    exact .inl (⟨rfl, b, rfl, hlo, h1, h2⟩))
  have H1 := Lib.hid h1
  clear h1
  rw [show (((0 + 1 : Nat)) : Int) = 1 from rfl] at hst
  go_wp2_with fail
  clear hst H0
  refine (HFS.out _ _ _).mono ?_
  rintro e w1 ⟨rfl, rfl⟩
  obtain ⟨W2, l2, hst, h2⟩ := H1.out.more (fnV 91) (fnV 92) 147 149 123 (fun W' lo b hlo h1 h2 p hp => by
    rw [List.mem_singleton.1 hp]
    exact .inr (.inl (⟨rfl, b, rfl, hlo, h1, h2⟩)))
  have H2 := Lib.hid h2
  clear h2
  rw [show (((1 + 1 : Nat)) : Int) = 2 from rfl] at hst
  go_wp2_with fail
  clear hst H1
  refine (HFB.out _ _ _).mono ?_
  rintro e w1 ⟨rfl, rfl⟩
  obtain ⟨W3, l3, hst, h3⟩ := H2.out.more (fnV 94) (fnV 95) 151 153 124 (fun W' lo b hlo h1 h2 p hp => by
    rw [List.mem_singleton.1 hp]
    exact .inr (.inr (.inl (⟨rfl, b, rfl, hlo, h1, h2⟩))))
  have H3 := Lib.hid h3
  clear h3
  rw [show (((2 + 1 : Nat)) : Int) = 3 from rfl] at hst
  go_wp2_with fail
  clear hst H2
  refine (HFE.out _ _ _).mono ?_
  rintro e w1 ⟨rfl, rfl⟩
  obtain ⟨W4, l4, hst, h4⟩ := H3.out.more (fnV 97) (fnV 86) 155 142 126 (fun W' lo b hlo h1 h2 p hp => by
    rw [List.mem_singleton.1 hp]
    exact .inr (.inr (.inr (.inl (⟨rfl, b, rfl, hlo, h1, h2⟩)))))
  have H4 := Lib.hid h4
  clear h4
  rw [show (((3 + 1 : Nat)) : Int) = 4 from rfl] at hst
  go_wp2_with fail
  clear hst H3
  refine (HFE.out _ _ _).mono ?_
  rintro e w1 ⟨rfl, rfl⟩
  obtain ⟨W5, l5, hst, h5⟩ := H4.out.more (fnV 98) (fnV 86) 155 142 126 (fun W' lo b hlo h1 h2 p hp => by
    rw [List.mem_singleton.1 hp]
    exact .inr (.inr (.inr (.inr (.inl (⟨rfl, b, rfl, hlo, h1, h2⟩))))))
  have H5 := Lib.hid h5
  clear h5
  rw [show (((4 + 1 : Nat)) : Int) = 5 from rfl] at hst
  go_wp2_with fail
  clear hst H4
  refine (HFE.out _ _ _).mono ?_
  rintro e w1 ⟨rfl, rfl⟩
  obtain ⟨W6, l6, hst, h6⟩ := H5.out.more (fnV 99) (fnV 86) 155 142 126 (fun W' lo b hlo h1 h2 p hp => by
    rw [List.mem_singleton.1 hp]
    exact .inr (.inr (.inr (.inr (.inr (.inl (⟨rfl, b, rfl, hlo, h1, h2⟩)))))))
  have H6 := Lib.hid h6
  clear h6
  rw [show (((5 + 1 : Nat)) : Int) = 6 from rfl] at hst
  go_wp2_with fail
  clear hst H5
  refine (HFE.out _ _ _).mono ?_
  rintro e w1 ⟨rfl, rfl⟩
  obtain ⟨W7, l7, hst, h7⟩ := H6.out.more (fnV 100) (fnV 86) 155 142 126 (fun W' lo b hlo h1 h2 p hp => by
    rw [List.mem_singleton.1 hp]
    exact .inr (.inr (.inr (.inr (.inr (.inr (.inl (⟨rfl, b, rfl, hlo, h1, h2⟩))))))))
  have H7 := Lib.hid h7
  clear h7
  rw [show (((6 + 1 : Nat)) : Int) = 7 from rfl] at hst
  go_wp2_with fail
  clear hst H6
  refine (HFE.out _ _ _).mono ?_
  rintro e w1 ⟨rfl, rfl⟩
  obtain ⟨W8, l8, hst, h8⟩ := H7.out.more (fnV 101) (fnV 86) 155 142 126 (fun W' lo b hlo h1 h2 p hp => by
    rw [List.mem_singleton.1 hp]
    exact .inr (.inr (.inr (.inr (.inr (.inr (.inr (.inl (⟨rfl, b, rfl, hlo, h1, h2⟩)))))))))
  have H8 := Lib.hid h8
  clear h8
  rw [show (((7 + 1 : Nat)) : Int) = 8 from rfl] at hst
  go_wp2_with fail
  clear hst H7
  refine (HFE.out _ _ _).mono ?_
  rintro e w1 ⟨rfl, rfl⟩
  obtain ⟨W9, l9, hst, h9⟩ := H8.out.more (fnV 102) (fnV 86) 155 142 126 (fun W' lo b hlo h1 h2 p hp => by
    rw [List.mem_singleton.1 hp]
    exact .inr (.inr (.inr (.inr (.inr (.inr (.inr (.inr (.inl (⟨rfl, b, rfl, hlo, h1, h2⟩))))))))))
  have H9 := Lib.hid h9
  clear h9
  rw [show (((8 + 1 : Nat)) : Int) = 9 from rfl] at hst
  go_wp2_with fail
  clear hst H8
  refine (HFE.out _ _ _).mono ?_
  rintro e w1 ⟨rfl, rfl⟩
  obtain ⟨W10, l10, hst, h10⟩ := H9.out.more (fnV 103) (fnV 86) 155 142 126 (fun W' lo b hlo h1 h2 p hp => by
    rw [List.mem_singleton.1 hp]
    exact .inr (.inr (.inr (.inr (.inr (.inr (.inr (.inr (.inr (.inl (⟨rfl, b, rfl, hlo, h1, h2⟩)))))))))))
  have H10 := Lib.hid h10
  clear h10
  rw [show (((9 + 1 : Nat)) : Int) = 10 from rfl] at hst
  go_wp2_with fail
  clear hst H9
  refine (HFE.out _ _ _).mono ?_
  rintro e w1 ⟨rfl, rfl⟩
  obtain ⟨W11, l11, hst, h11⟩ := H10.out.more (fnV 104) (fnV 86) 155 142 126 (fun W' lo b hlo h1 h2 p hp => by
    rw [List.mem_singleton.1 hp]
    exact .inr (.inr (.inr (.inr (.inr (.inr (.inr (.inr (.inr (.inr (⟨rfl, b, rfl, hlo, h1, h2⟩)))))))))))
  have H11 := Lib.hid h11
  clear h11
  rw [show (((10 + 1 : Nat)) : Int) = 11 from rfl] at hst
  go_wp2_with fail
  clear hst H10
  go_ret
  exact ⟨_, rfl, H11.out⟩
end Go.Proofs.YtgoemaecdolioaaGreatDoor

/-
  model: what an operation's numbers and texts may be.
-/
namespace Go.Proofs.YtgoemaecdolioaaGreatDoor
open Go.RowKit Go.Shelf
attribute [local go_sem] Oper.semAt_some

/-- A row of numbers lies at a block. -/
def IntsAt (W : World) (b : Nat) (l : List Int) : Prop := ∀ k, k < l.length → W.cell? ⟨b, k, none⟩ = some (.int .i64 (l[k]?.getD 0))
def fitN : List Int → Int → Bool
  | [], _ => true
  | n :: r, left => decide (n ≤ left) && fitN r (left - n)
theorem mustBe11_true (c : Int) (w : World) : Calls Tryz.prog 37 #[.bool true, .int .i64 c] w fun e w' => (∃ u, e = .returned u) ∧ w' = w := by
  go_enter Tryz.func37, Tryz.ntmps37
  go_wp2
  first
  | go_end0
  | refine bodyPost_ret (results_none rfl _ _ _) rfl ?_
  exact ⟨⟨_, rfl⟩, rfl⟩
/-- It goes on, or gives up; memory stays. -/
def EndsM (b : Prop) (c : Int) (w : World) (e : Ending) (w' : World) : Prop := w' = w ∧ ((b ∧ ∃ u, e = .returned u) ∨ (¬ b ∧ e = .panicked (refuseM c)))
set_option maxHeartbeats 4000000 in
theorem notBelow_any (l : List Int) (b cap : Nat) (hl : l.length ≤ cap) (hs : l.length < 1000) (w : World) (hc : IntsAt w b l) :
    Calls Tryz.prog 56 #[.slice (some ⟨b, 0, none⟩) l.length cap] w (EndsM (∀ x ∈ l, 0 ≤ x) 2 w) := by
  have HM := Lib.hid (fun b w => mustBe11_any b 2 (by decide) w)
  have HC := Lib.hid hc
  clear hc
  obtain ⟨n, hn⟩ : ∃ n, l.length = n := ⟨_, rfl⟩
  have HN := Lib.hid hn
  rw [hn] at hl hs ⊢
  clear hn
  go_enter Tryz.func56, Tryz.ntmps56
  go_wp2_with fail
  go_loopw [6] (fun i wr => ∃ k : Nat, k ≤ n ∧ i = .int .i64 (k : Nat) ∧ wr = w ∧ Hid (∀ x ∈ l.take k, 0 ≤ x)) (fun i _ => n - (intOf i).toNat)
  case atStart => exact ⟨0, Nat.zero_le _, rfl, rfl, (show ∀ x ∈ l.take 0, 0 ≤ x from fun x hx => by simp at hx)⟩
  case round =>
    obtain ⟨k, hk, rfl, rfl, HI⟩ := hrel
    by_cases hlt : k < n
    · have hk2 : ((k : Nat) : Int) < (n : Nat) := by omega
      have cs := HC.out k (by rw [HN.out]; exact hlt)
      obtain ⟨z, hz⟩ : ∃ z, l[k]?.getD 0 = z := ⟨_, rfl⟩
      have HZ := Lib.hid hz
      rw [hz] at cs
      clear hz
      go_wp2_with fail
      refine (HM.out _ _).mono ?_
      rintro e w1 (⟨hg, ⟨u, rfl⟩, rfl⟩ | ⟨hg, rfl, rfl⟩)
      · have hg2 : 0 ≤ z := by simpa using hg
        have hstep : Hid (∀ x ∈ l.take (k + 1), 0 ≤ x) := show ∀ x ∈ l.take (k + 1), 0 ≤ x from fun x hx => by
          have hkl : k < l.length := by rw [HN.out]; exact hlt
          rw [List.take_succ_eq_append_getElem hkl] at hx
          rcases List.mem_append.1 hx with hx | hx
          · exact HI.out x hx
          · have h2 := HZ.out
            rw [List.getElem?_eq_getElem hkl, Option.getD_some] at h2
            rw [List.mem_singleton.1 hx, h2]
            exact hg2
        clear hg cs
        go_wp2_with fail
        refine ⟨⟨k + 1, by omega, by first | rfl | (simp; omega), by first | trivial | rfl, hstep⟩, ?_⟩
        first | (simp [intOf]; omega) | omega
      · have hg2 : ¬ 0 ≤ z := by simpa using hg
        refine ⟨rfl, rfl, .inr ⟨fun h => hg2 ?_, by first | trivial | rfl⟩⟩
        have hkl : k < l.length := by rw [HN.out]; exact hlt
        have h2 := HZ.out
        rw [List.getElem?_eq_getElem hkl, Option.getD_some] at h2
        rw [← h2]
        exact h _ (List.getElem_mem _)
    · have hk2 : k = n := by omega
      subst hk2
      have hall : Hid (∀ x ∈ l, 0 ≤ x) := show ∀ x ∈ l, 0 ≤ x from by
        have := HI.out
        rwa [← HN.out, List.take_length] at this
      go_wp2_with fail
      first
      | go_end0
      | refine bodyPost_ret (results_none rfl _ _ _) rfl ?_
      exact ⟨rfl, .inl ⟨hall.out, _, rfl⟩⟩
theorem fitN_drop {l : List Int} {k : Nat} (h : k < l.length) (z : Int) : fitN (l.drop k) z = (decide (l[k] ≤ z) && fitN (l.drop (k + 1)) (z - l[k])) := by
  rw [List.drop_eq_getElem_cons h]
  rfl
set_option maxHeartbeats 4000000 in
theorem fit11_any (l : List Int) (h0 : ∀ x ∈ l, 0 ≤ x) (b cap : Nat) (hl : l.length ≤ cap) (hs : l.length < 1000) (w : World) (hc : IntsAt w b l) :
    Calls Tryz.prog 57 #[.slice (some ⟨b, 0, none⟩) l.length cap] w (EndsM (fitN l 448 = true) 190 w) := by
  have HM := Lib.hid (fun b w => mustBe11_any b 190 (by decide) w)
  have HC := Lib.hid hc
  have H0 := Lib.hid h0
  clear hc h0
  obtain ⟨n, hn⟩ : ∃ n, l.length = n := ⟨_, rfl⟩
  have HN := Lib.hid hn
  rw [hn] at hl hs ⊢
  clear hn
  go_enter Tryz.func57, Tryz.ntmps57
  go_wp2_with fail
  go_loopw [2, 7] (fun f i wr => ∃ (k : Nat) (z : Int), k ≤ n ∧ i = .int .i64 (k : Nat) ∧ f = .int .i64 z ∧ 0 ≤ z ∧ z ≤ 448 ∧ wr = w ∧ Hid (fitN l 448 = fitN (l.drop k) z)) (fun _ i _ => n - (intOf i).toNat)
  case atStart => exact ⟨0, 448, Nat.zero_le _, rfl, rfl, by omega, by omega, rfl, (show fitN l 448 = fitN (l.drop 0) 448 from rfl)⟩
  case round =>
    obtain ⟨k, y, hk, rfl, rfl, hy0, hy1, rfl, HI⟩ := hrel
    by_cases hlt : k < n
    · have hk2 : ((k : Nat) : Int) < (n : Nat) := by omega
      have cs := HC.out k (by rw [HN.out]; exact hlt)
      obtain ⟨z, hz⟩ : ∃ z, l[k]?.getD 0 = z := ⟨_, rfl⟩
      have hkl : k < l.length := by rw [HN.out]; exact hlt
      have hz2 : l[k] = z := by rw [← hz, List.getElem?_eq_getElem hkl, Option.getD_some]
      have HST : Hid (fitN l 448 = (decide (z ≤ y) && fitN (l.drop (k + 1)) (y - z))) := show _ = _ from by rw [HI.out, fitN_drop hkl, hz2]
      have hz0 : 0 ≤ z := by
        rw [← hz2]
        exact H0.out _ (List.getElem_mem _)
      rw [hz] at cs
      clear hz hz2 HI hkl
      go_wp2_with fail
      refine (HM.out _ _).mono ?_
      rintro e w1 (⟨hg, ⟨u, rfl⟩, rfl⟩ | ⟨hg, rfl, rfl⟩)
      · have hg2 : z ≤ y := by simpa using hg
        have hmod : IntKind.i64.wrap (y - z) = y - z := by
          simp [IntKind.wrap, IntKind.signed, IntKind.bits]
          omega
        have hstep : Hid (fitN l 448 = fitN (l.drop (k + 1)) (y - z)) := show _ = _ from by
          rw [HST.out, decide_eq_true hg2, Bool.true_and]
        clear hg cs
        go_wp2_with fail
        refine ⟨⟨k + 1, y - z, by omega, by first | rfl | (simp; omega), by first | rfl | (simp; omega), by omega, by omega, by first | trivial | rfl, hstep⟩, ?_⟩
        first | (simp [intOf]; omega) | omega
      · have hg2 : ¬ z ≤ y := by simpa using hg
        refine ⟨rfl, rfl, .inr ⟨fun h => ?_, by first | trivial | rfl⟩⟩
        rw [HST.out, decide_eq_false hg2, Bool.false_and] at h
        cases h
    · have hk2 : k = n := by omega
      subst hk2
      have hall : Hid (fitN l 448 = true) := show _ = _ from by
        rw [HI.out, List.drop_of_length_le (by rw [HN.out]; exact Nat.le_refl _)]
        rfl
      go_wp2_with fail
      first
      | go_end0
      | refine bodyPost_ret (results_none rfl _ _ _) rfl ?_
      exact ⟨rfl, .inl ⟨hall.out, _, rfl⟩⟩
theorem rRoot_ask (s : List UInt8) : (askR ⟨[], []⟩ s).1 = (splitE s).2 ∨ ((splitE s).2 = 0 ∧ (askR ⟨[], []⟩ s).1 = 202) := by
  unfold askR
  by_cases h : (splitE s).2 ≠ 0
  · rw [if_pos h]; exact .inl rfl
  · rw [if_neg h]
    have h' : (splitE s).2 = 0 := by simpa using h
    cases hl : (splitE s).1 with
    | nil => exact .inl (by rw [h']; rfl)
    | cons a r =>
      refine .inr ⟨h', ?_⟩
      have hr := splitE_right s
      rw [hl, List.all_cons, Bool.and_eq_true] at hr
      have hp : pathOf ([] ++ [a]) ≠ [47] := pathOf_ne (by simpa using hr.1) (by simp)
      show (findN ⟨[], []⟩ (-2) [] (a :: r)).2 = 202
      unfold findN
      rw [if_neg (by decide), if_pos]
      unfold atR
      rw [if_neg hp]
      rfl
theorem path11_any (s : List UInt8) (hs : s.length ≤ 1000000) (w : World) (hm : MaxC w) :
    Calls Tryz.prog 55 #[encStr s] w fun e w' => Below w.heap.size w w' ∧ (((splitE s).2 = 0 ∧ ∃ u, e = .returned u) ∨ ((splitE s).2 ≠ 0 ∧ e = .panicked (refuseM (splitE s).2))) := by
  have HN := Lib.hid (new_spec w hm)
  have HM := Lib.hid mustBe11_any
  have HT := Lib.hid mustBe11_true
  have HK := Lib.hid (fun lo T r m G w (h : TreeR lo w T r G m ⟨[], []⟩) => kind_spec h s hs)
  have HE : Hid ((splitE s).2 = 0 ∨ (splitE s).2 = 170 ∨ (splitE s).2 = 160) := show _ ∨ _ from by
    rcases splitE_cases s with ⟨l, -, -, -, h⟩ | h | h <;> rw [h] <;> simp
  have HR := Lib.hid (rRoot_ask s)
  obtain ⟨t, ht⟩ : ∃ t, encStr s = t := ⟨_, rfl⟩
  rw [ht] at HK ⊢
  obtain ⟨c, hc⟩ : ∃ c, (splitE s).2 = c := ⟨_, rfl⟩
  rw [hc] at HE HR ⊢
  clear hm ht hc
  obtain ⟨a, ha⟩ : ∃ a, (askR ⟨[], []⟩ s).1 = a := ⟨_, rfl⟩
  obtain ⟨kk, hkk⟩ : ∃ kk, (if (askR ⟨[], []⟩ s).1 = 0 then kindR ⟨[], []⟩ (askR ⟨[], []⟩ s).2 else 0) = kk := ⟨_, rfl⟩
  have HKK := Lib.hid hkk
  have HA := Lib.hid ha
  rw [ha] at HR
  clear ha hkk
  go_enter Tryz.func55, Tryz.ntmps55
  go_wp2_with fail
  refine HN.out.mono ?_
  rintro e w1 ⟨T, r, G, rfl, hT, -, -, -, hb⟩
  have HB := Lib.hid hb
  have HTR := Lib.hid hT
  clear hb hT
  go_wp2_with fail
  refine (HK.out _ _ _ _ _ _ HTR.out).mono ?_
  rintro e w2 ⟨rfl, hb⟩
  rw [HKK.out, HA.out]
  have HB2 := Lib.hid (HB.out.trans (hb.mono HB.out.size))
  clear hb
  have hcase : (c = 0 ∧ a = 0) ∨ (c = 0 ∧ a = 202) ∨ (c ≠ 0 ∧ c ≠ 202 ∧ a = c) := by
    have h1 := HE.out
    have h2 := HR.out
    omega
  clear HE HR HKK HA HK
  rcases hcase with ⟨rfl, rfl⟩ | ⟨rfl, rfl⟩ | ⟨h1, h2, rfl⟩
  · go_wp2_with fail
    refine (HT.out _ _).mono ?_
    rintro e w3 ⟨⟨u, rfl⟩, rfl⟩
    go_wp2_with fail
    first
    | go_end0
    | refine bodyPost_ret (results_none rfl _ _ _) rfl ?_
    exact ⟨HB2.out, _, rfl⟩
  · go_wp2_with fail
    refine (HT.out _ _).mono ?_
    rintro e w3 ⟨⟨u, rfl⟩, rfl⟩
    go_wp2_with fail
    first
    | go_end0
    | refine bodyPost_ret (results_none rfl _ _ _) rfl ?_
    exact ⟨HB2.out, _, rfl⟩
  · have b1 : (a == 0) = false := by simpa using h1
    have b2 : (a == 202) = false := by simpa using h2
    have HC := Lib.hid h1
    clear h1 h2
    go_wp2_with fail
    refine (HM.out _ _ HC.out _).mono ?_
    rintro e w3 (⟨hg, -, -⟩ | ⟨-, rfl, rfl⟩)
    · cases hg
    · exact ⟨rfl, HB2.out, .inr ⟨HC.out, rfl⟩⟩
end Go.Proofs.YtgoemaecdolioaaGreatDoor
