/-
  Texts TfA to PthK, as one.
-/
import Derived.Test.YtgoemaecdolioaaGreatDoorMo10
import Derived.Test.YtgoemaecdolioaaGreatDoorMo14
import Derived.BigQuiet
/-
  tree: Kind, Links, as they are called. Written by gen_tfa.py.
-/
namespace Go.Proofs.YtgoemaecdolioaaGreatDoor
open Go.RowKit Go.Shelf
attribute [local go_sem] Oper.semAt_some

set_option maxRecDepth 100000 in
set_option maxHeartbeats 8000000 in
theorem toldKind_any {G : Gr} {w : World} {T r m : Nat} (hT : TreeG w T r G m) (hmx : MaxC w) (s : List UInt8) (hs : s.length ≤ 1000000) :
    Calls Tryz.prog 135 #[.pointer (some ⟨T, 0, none⟩), encStr s, .func (.func 136) #[] #[]] w fun e w' => e = .returned (.tuple #[.int .i64 (askV G r s fun x => x.kind).1, .int .i64 (askV G r s fun x => x.kind).2]) ∧ Below w.heap.size w w' := by
  have hmf : ∀ (fn : Fn) (first cap : Array Value) (w : World), (Instr.makeFunc fn first cap).run Tryz.prog w = .ok (.func fn first cap) w := fun _ _ _ _ => rfl
  obtain ⟨t1, ht1⟩ : ∃ t, encStr s = .string t := ⟨_, rfl⟩
  obtain ⟨W4, hW4⟩ : ∃ W4, (((w.alloc (.cells #[.pointer (some ⟨T, 0, none⟩)] 52)).alloc (.cells #[.string t1] 9)).alloc (.cells #[.func (.func 136) #[] #[]] 193)).alloc (.cells #[.int .i64 0] 41) = W4 := ⟨_, rfl⟩
  have hb4 : Below w.heap.size w W4 := by rw [← hW4]; exact (by repeat (first | exact Below.refl _ _ | assumption | refine Below.drew ?_ | refine below_drewN ?_ _ | refine Below.alloc ?_ (by (try simp) <;> omega) _ | refine Below.setCell ?_ (by (try simp) <;> omega) _ | refine Below.trans ?_ (Below.mono (by assumption) (by (try simp) <;> omega))))
  have hz4 : W4.heap.size = w.heap.size + 4 := by rw [← hW4]; simp
  have b1 : Boxed W4 w.heap.size 52 (.pointer (some ⟨T, 0, none⟩)) := by unfold Boxed; rw [← hW4]; (simp only [heap_at, World.size_alloc]; repeat (first | rw [if_pos (by omega)] | rw [if_neg (by omega)] | rw [if_pos trivial]))
  have b0 : Boxed W4 (w.heap.size + 1) 9 (.string t1) := by unfold Boxed; rw [← hW4]; (simp only [heap_at, World.size_alloc]; repeat (first | rw [if_pos (by omega)] | rw [if_neg (by omega)] | rw [if_pos trivial]))
  have b3 : Boxed W4 (w.heap.size + 1 + 1) 193 (.func (.func 136) #[] #[]) := by unfold Boxed; rw [← hW4]; (simp only [heap_at, World.size_alloc]; repeat (first | rw [if_pos (by omega)] | rw [if_neg (by omega)] | rw [if_pos trivial]))
  have b2 : Boxed W4 (w.heap.size + 1 + 1 + 1) 41 (.int .i64 0) := by unfold Boxed; rw [← hW4]; (simp only [heap_at, World.size_alloc]; repeat (first | rw [if_pos (by omega)] | rw [if_neg (by omega)] | rw [if_pos trivial]))
  obtain ⟨V, hV⟩ : ∃ V, W4.alloc (.cells #[.int .i64 0] 30) = V := ⟨_, rfl⟩
  have h4V : Below W4.heap.size W4 V := by rw [← hV]; exact (Below.refl _ _).alloc (Nat.le_refl _) _
  have hbV : Below w.heap.size w V := hb4.trans (h4V.mono hb4.size)
  have hzV : V.heap.size = w.heap.size + 5 := by rw [← hV, World.size_alloc, hz4]
  have bE : Boxed V W4.heap.size 30 (.int .i64 0) := by rw [← hV]; exact Boxed.new _ _ _
  rw [← ht1] at b0
  have hcl := toldKind1_any (hT.below hbV) (hmx.below hbV hmx.room) s hs (boxed_low b3 h4V) (boxed_low b1 h4V) (boxed_low b0 h4V) (boxed_low b2 h4V)
  obtain ⟨va, ve, hva⟩ : ∃ a e, (askV G r s fun x => x.kind) = (a, e) := ⟨_, _, rfl⟩
  rw [hva] at hcl ⊢
  have htr := tried10_any (f := 174) (enters_of Tryz.func174 (by kernel_rfl) rfl) #[.pointer (some ⟨w.heap.size + 1 + 1, 0, none⟩), .pointer (some ⟨w.heap.size, 0, none⟩), .pointer (some ⟨w.heap.size + 1, 0, none⟩), .pointer (some ⟨w.heap.size + 1 + 1 + 1, 0, none⟩)] W4 (hT.below hb4).at_
    (fun c w1 => Turn (fun k => k = w.heap.size + 1 + 1 + 1) V w1 ∧ Boxed w1 (w.heap.size + 1 + 1 + 1) 41 (.int .i64 va) ∧ c = ve) (by
      rw [hV]
      refine hcl.mono fun e w1 h => ?_
      obtain ⟨h1, c, h2, h3, h4⟩ := h
      exact ⟨c, (h1.block _ (by omega) (by omega)).trans bE, ⟨h1, h2, h3⟩, h4⟩)
  have HTR := Lib.hid htr
  have HW4 := Lib.hid hW4
  have HEND : Hid (∀ w1 w', Turn (fun k => k = w.heap.size + 1 + 1 + 1) V w1 → Turn (fun k => k = W4.heap.size) w1 w' → Boxed w1 (w.heap.size + 1 + 1 + 1) 41 (.int .i64 va) → Boxed w' (w.heap.size + 1 + 1 + 1) 41 (.int .i64 va) ∧ Below w.heap.size w w') := show ∀ w1 w', _ from fun w1 w' h1 h2 h3 =>
    ⟨(h2.block _ h3.lt (by omega)).trans h3, hbV.trans ((h1.below (B := w.heap.size) (fun k hk => by omega) (by omega)).trans (h2.below (B := w.heap.size) (fun k hk => by omega) (by have := h1.size; omega)))⟩
  rw [ht1]
  clear htr hcl hT hmx hs hb4 hz4 b0 b1 b2 b3 h4V hbV hzV bE hW4 hV hva ht1
  go_enter Tryz.func135, Tryz.ntmps135
  go_wp2_with fail
  rw [HW4.out]
  refine HTR.out.mono ?_
  rintro e w' ⟨c, w1, rfl, ⟨g1, g2, rfl⟩, ht⟩
  obtain ⟨f1, f2⟩ := HEND.out w1 w' g1 ht g2
  have xc := f1.cell
  have xf := f1.frozen
  have HF1 := Lib.hid (f1.set (.int .i64 va))
  have HF2 : Hid (Below w.heap.size w (w'.setCell ⟨w.heap.size + 1 + 1 + 1, 0, none⟩ (.int .i64 va))) := show Below _ _ _ from f2.setCell (p := ⟨w.heap.size + 1 + 1 + 1, 0, none⟩) (by show w.heap.size ≤ w.heap.size + 1 + 1 + 1; omega) _
  clear f1 f2 g1 g2 ht
  go_wp2_with fail
  have hld : (loadVar 41 ⟨w.heap.size + 1 + 1 + 1, 0, none⟩).run Tryz.prog (w'.setCell ⟨w.heap.size + 1 + 1 + 1, 0, none⟩ (.int .i64 va)) = .ok (.int .i64 va) (w'.setCell ⟨w.heap.size + 1 + 1 + 1, 0, none⟩ (.int .i64 va)) := by
    have hc := HF1.out.cell
    simp [go_sem, hc]
  exact bodyPost_ret (results_cell_tmp (fn := Tryz.f135) rfl rfl hld rfl) rfl ⟨rfl, HF2.out⟩
theorem kind10_any {G : Gr} {w : World} {T r m : Nat} (hT : TreeG w T r G m) (hmx : MaxC w) (s : List UInt8) (hs : s.length ≤ 1000000) :
    Calls Tryz.prog 105 #[.pointer (some ⟨T, 0, none⟩), encStr s] w fun e w' => e = .returned (.tuple #[.int .i64 (askV G r s fun x => x.kind).1, .int .i64 (askV G r s fun x => x.kind).2]) ∧ Below w.heap.size w w' := by
  have H := Lib.hid (toldKind_any hT hmx s hs)
  obtain ⟨va, ve, hva⟩ : ∃ a e, (askV G r s fun x => x.kind) = (a, e) := ⟨_, _, rfl⟩
  rw [hva] at H ⊢
  obtain ⟨t, ht⟩ : ∃ t, encStr s = t := ⟨_, rfl⟩
  rw [ht] at H ⊢
  clear hT hmx hs hva ht
  go_enter Tryz.func105, Tryz.ntmps105
  go_wp2_with fail
  refine H.out.mono ?_
  rintro e w' ⟨rfl, hb⟩
  have HB := Lib.hid hb
  clear hb
  go_wp2_with fail
  go_ret2
  exact ⟨rfl, HB.out⟩
set_option maxRecDepth 100000 in
set_option maxHeartbeats 8000000 in
theorem toldLinks_any {G : Gr} {w : World} {T r m : Nat} (hT : TreeG w T r G m) (hmx : MaxC w) (s : List UInt8) (hs : s.length ≤ 1000000) :
    Calls Tryz.prog 144 #[.pointer (some ⟨T, 0, none⟩), encStr s, .func (.func 145) #[] #[]] w fun e w' => e = .returned (.tuple #[.int .i64 (askV G r s fun x => ((x.links : Nat) : Int)).1, .int .i64 (askV G r s fun x => ((x.links : Nat) : Int)).2]) ∧ Below w.heap.size w w' := by
  have hmf : ∀ (fn : Fn) (first cap : Array Value) (w : World), (Instr.makeFunc fn first cap).run Tryz.prog w = .ok (.func fn first cap) w := fun _ _ _ _ => rfl
  obtain ⟨t1, ht1⟩ : ∃ t, encStr s = .string t := ⟨_, rfl⟩
  obtain ⟨W4, hW4⟩ : ∃ W4, (((w.alloc (.cells #[.pointer (some ⟨T, 0, none⟩)] 52)).alloc (.cells #[.string t1] 9)).alloc (.cells #[.func (.func 145) #[] #[]] 200)).alloc (.cells #[.int .i64 0] 3) = W4 := ⟨_, rfl⟩
  have hb4 : Below w.heap.size w W4 := by rw [← hW4]; exact (by repeat (first | exact Below.refl _ _ | assumption | refine Below.drew ?_ | refine below_drewN ?_ _ | refine Below.alloc ?_ (by (try simp) <;> omega) _ | refine Below.setCell ?_ (by (try simp) <;> omega) _ | refine Below.trans ?_ (Below.mono (by assumption) (by (try simp) <;> omega))))
  have hz4 : W4.heap.size = w.heap.size + 4 := by rw [← hW4]; simp
  have b1 : Boxed W4 w.heap.size 52 (.pointer (some ⟨T, 0, none⟩)) := by unfold Boxed; rw [← hW4]; (simp only [heap_at, World.size_alloc]; repeat (first | rw [if_pos (by omega)] | rw [if_neg (by omega)] | rw [if_pos trivial]))
  have b0 : Boxed W4 (w.heap.size + 1) 9 (.string t1) := by unfold Boxed; rw [← hW4]; (simp only [heap_at, World.size_alloc]; repeat (first | rw [if_pos (by omega)] | rw [if_neg (by omega)] | rw [if_pos trivial]))
  have b3 : Boxed W4 (w.heap.size + 1 + 1) 200 (.func (.func 145) #[] #[]) := by unfold Boxed; rw [← hW4]; (simp only [heap_at, World.size_alloc]; repeat (first | rw [if_pos (by omega)] | rw [if_neg (by omega)] | rw [if_pos trivial]))
  have b2 : Boxed W4 (w.heap.size + 1 + 1 + 1) 3 (.int .i64 0) := by unfold Boxed; rw [← hW4]; (simp only [heap_at, World.size_alloc]; repeat (first | rw [if_pos (by omega)] | rw [if_neg (by omega)] | rw [if_pos trivial]))
  obtain ⟨V, hV⟩ : ∃ V, W4.alloc (.cells #[.int .i64 0] 30) = V := ⟨_, rfl⟩
  have h4V : Below W4.heap.size W4 V := by rw [← hV]; exact (Below.refl _ _).alloc (Nat.le_refl _) _
  have hbV : Below w.heap.size w V := hb4.trans (h4V.mono hb4.size)
  have hzV : V.heap.size = w.heap.size + 5 := by rw [← hV, World.size_alloc, hz4]
  have bE : Boxed V W4.heap.size 30 (.int .i64 0) := by rw [← hV]; exact Boxed.new _ _ _
  rw [← ht1] at b0
  have hcl := toldLinks1_any (hT.below hbV) (hmx.below hbV hmx.room) s hs (boxed_low b3 h4V) (boxed_low b1 h4V) (boxed_low b0 h4V) (boxed_low b2 h4V)
  obtain ⟨va, ve, hva⟩ : ∃ a e, (askV G r s fun x => ((x.links : Nat) : Int)) = (a, e) := ⟨_, _, rfl⟩
  rw [hva] at hcl ⊢
  have htr := tried10_any (f := 178) (enters_of Tryz.func178 (by kernel_rfl) rfl) #[.pointer (some ⟨w.heap.size + 1 + 1, 0, none⟩), .pointer (some ⟨w.heap.size, 0, none⟩), .pointer (some ⟨w.heap.size + 1, 0, none⟩), .pointer (some ⟨w.heap.size + 1 + 1 + 1, 0, none⟩)] W4 (hT.below hb4).at_
    (fun c w1 => Turn (fun k => k = w.heap.size + 1 + 1 + 1) V w1 ∧ Boxed w1 (w.heap.size + 1 + 1 + 1) 3 (.int .i64 va) ∧ c = ve) (by
      rw [hV]
      refine hcl.mono fun e w1 h => ?_
      obtain ⟨h1, c, h2, h3, h4⟩ := h
      exact ⟨c, (h1.block _ (by omega) (by omega)).trans bE, ⟨h1, h2, h3⟩, h4⟩)
  have HTR := Lib.hid htr
  have HW4 := Lib.hid hW4
  have HEND : Hid (∀ w1 w', Turn (fun k => k = w.heap.size + 1 + 1 + 1) V w1 → Turn (fun k => k = W4.heap.size) w1 w' → Boxed w1 (w.heap.size + 1 + 1 + 1) 3 (.int .i64 va) → Boxed w' (w.heap.size + 1 + 1 + 1) 3 (.int .i64 va) ∧ Below w.heap.size w w') := show ∀ w1 w', _ from fun w1 w' h1 h2 h3 =>
    ⟨(h2.block _ h3.lt (by omega)).trans h3, hbV.trans ((h1.below (B := w.heap.size) (fun k hk => by omega) (by omega)).trans (h2.below (B := w.heap.size) (fun k hk => by omega) (by have := h1.size; omega)))⟩
  rw [ht1]
  clear htr hcl hT hmx hs hb4 hz4 b0 b1 b2 b3 h4V hbV hzV bE hW4 hV hva ht1
  go_enter Tryz.func144, Tryz.ntmps144
  go_wp2_with fail
  rw [HW4.out]
  refine HTR.out.mono ?_
  rintro e w' ⟨c, w1, rfl, ⟨g1, g2, rfl⟩, ht⟩
  obtain ⟨f1, f2⟩ := HEND.out w1 w' g1 ht g2
  have xc := f1.cell
  have xf := f1.frozen
  have HF1 := Lib.hid (f1.set (.int .i64 va))
  have HF2 : Hid (Below w.heap.size w (w'.setCell ⟨w.heap.size + 1 + 1 + 1, 0, none⟩ (.int .i64 va))) := show Below _ _ _ from f2.setCell (p := ⟨w.heap.size + 1 + 1 + 1, 0, none⟩) (by show w.heap.size ≤ w.heap.size + 1 + 1 + 1; omega) _
  clear f1 f2 g1 g2 ht
  go_wp2_with fail
  have hld : (loadVar 3 ⟨w.heap.size + 1 + 1 + 1, 0, none⟩).run Tryz.prog (w'.setCell ⟨w.heap.size + 1 + 1 + 1, 0, none⟩ (.int .i64 va)) = .ok (.int .i64 va) (w'.setCell ⟨w.heap.size + 1 + 1 + 1, 0, none⟩ (.int .i64 va)) := by
    have hc := HF1.out.cell
    simp [go_sem, hc]
  exact bodyPost_ret (results_cell_tmp (fn := Tryz.f144) rfl rfl hld rfl) rfl ⟨rfl, HF2.out⟩
theorem links10_any {G : Gr} {w : World} {T r m : Nat} (hT : TreeG w T r G m) (hmx : MaxC w) (s : List UInt8) (hs : s.length ≤ 1000000) :
    Calls Tryz.prog 118 #[.pointer (some ⟨T, 0, none⟩), encStr s] w fun e w' => e = .returned (.tuple #[.int .i64 (askV G r s fun x => ((x.links : Nat) : Int)).1, .int .i64 (askV G r s fun x => ((x.links : Nat) : Int)).2]) ∧ Below w.heap.size w w' := by
  have H := Lib.hid (toldLinks_any hT hmx s hs)
  obtain ⟨va, ve, hva⟩ : ∃ a e, (askV G r s fun x => ((x.links : Nat) : Int)) = (a, e) := ⟨_, _, rfl⟩
  rw [hva] at H ⊢
  obtain ⟨t, ht⟩ : ∃ t, encStr s = t := ⟨_, rfl⟩
  rw [ht] at H ⊢
  clear hT hmx hs hva ht
  go_enter Tryz.func118, Tryz.ntmps118
  go_wp2_with fail
  refine H.out.mono ?_
  rintro e w' ⟨rfl, hb⟩
  have HB := Lib.hid hb
  clear hb
  go_wp2_with fail
  go_ret2
  exact ⟨rfl, HB.out⟩
end Go.Proofs.YtgoemaecdolioaaGreatDoor

/-
  path: cmp.Or of two errors; the closure of next; every, asked of the closure.
-/
namespace Go.Proofs.YtgoemaecdolioaaGreatDoor
open Go.RowKit Go.Shelf Go.Sort

set_option maxRecDepth 100000 in
set_option maxHeartbeats 2000000 in
theorem or2_any (B : Nat) (a b : Int) (w : World) (h0 : w.cell? ⟨B, 0, none⟩ = some (.int .i64 a)) (h1 : w.cell? ⟨B, 1, none⟩ = some (.int .i64 b)) :
    Calls Tryz.prog 208 #[.slice (some ⟨B, 0, none⟩) 2 2] w fun e w' => e = .returned (.int .i64 (if a = 0 then b else a)) ∧ w = w' := by
  go_enter Tryz.func208, Tryz.ntmps208
  go_wp2
  go_loopw [8] (fun i wr => (i = .int .i64 0 ∨ i = .int .i64 1 ∧ a = 0 ∨ i = .int .i64 2 ∧ a = 0 ∧ b = 0) ∧ wr = w) (fun i _ => 2 - (intOf i).toNat)
  case atStart => exact ⟨.inl rfl, rfl⟩
  case round =>
    obtain ⟨hk, rfl⟩ := hrel
    rcases hk with rfl | ⟨rfl, ha⟩ | ⟨rfl, ha, hb⟩
    · by_cases ha : a = 0
      · subst ha
        go_wp2_with fail
        go_roundw
        case rel => simp
        case measure => decide
      · have hq : (a == 0) = false := by simp [ha]
        go_wp2_with fail
        go_ret
        exact ⟨rfl, rfl⟩
    · subst ha
      by_cases hb : b = 0
      · subst hb
        go_wp2_with fail
        go_roundw
        case rel => simp
        case measure => decide
      · have hq : (b == 0) = false := by simp [hb]
        go_wp2_with fail
        go_ret
        exact ⟨rfl, rfl⟩
    · subst ha hb
      go_wp2_with fail
      go_ret
      exact ⟨rfl, rfl⟩
theorem TxS.set {w : World} {v : Value} {l : List (List UInt8)} (h : TxS w v l) {C : Nat} (hne : ∀ b off n c, v = .slice (some ⟨b, off, none⟩) n c → b ≠ C) (u : Value) : TxS (w.setCell ⟨C, 0, none⟩ u) v l := by
  obtain ⟨hl, a, cap, rfl, hc, hx⟩ := h
  refine ⟨hl, a, cap, rfl, hc, fun h0 => ?_⟩
  obtain ⟨b, off, rfl, hb, hj⟩ := hx h0
  have hbC := hne b off _ _ rfl
  refine ⟨b, off, rfl, by simpa using hb, fun j y hy => ?_⟩
  exact (World.cell?_of_block (a := ⟨b, off + j, none⟩) (Below.heap_setCell _ _ _ b hbC)).trans (hj j y hy)
/-- Is a name the next one of a list, of which so many were asked? -/
def nextE (l : List (List UInt8)) (k : Nat) (x : List UInt8) : Bool := decide (k < l.length) && ((l[k]?.getD []) == x)
set_option maxRecDepth 100000 in
set_option maxHeartbeats 2000000 in
theorem next1_any (C B k : Nat) (hk : k ≤ 1000) (v : Value) (l : List (List UInt8)) (hl : l.length ≤ 1000) (x : List UInt8) (w : World) (hc : Boxed w C 3 (.int .i64 (k : Nat))) (hb : Boxed w B 256 v) (hv : TxS w v l) (hne : ∀ b off n c, v = .slice (some ⟨b, off, none⟩) n c → b ≠ C) (hCB : C ≠ B) :
    Calls Tryz.prog 222 #[encStr x, .pointer (some ⟨C, 0, none⟩), .pointer (some ⟨B, 0, none⟩)] w fun e w' => e = .returned (.bool (nextE l k x)) ∧ w' = w.setCell ⟨C, 0, none⟩ (.int .i64 ((k : Int) + 1)) := by
  have hv2 := hv.set hne (.int .i64 ((k : Int) + 1))
  have hc2 := hc.set (.int .i64 ((k : Int) + 1))
  have hb2 := hb.other (Ne.symm hCB) (.int .i64 ((k : Int) + 1))
  have c0 := hc.cell
  have f0 := hc.frozen
  obtain ⟨a, cap, b, off, rfl, hlc, ha, hx⟩ := hv2.cell
  have e1 : (k : Int) + 1 - 1 = k := by omega
  by_cases h0 : k < l.length
  · obtain rfl := ha (by omega)
    have d3 := (hx (by omega)).2 k h0
    have hq : (k : Int) + 1 ≤ (l.length : Int) := by omega
    have HN : Hid (nextE l k x = ((l[k]?.getD []) == x)) := show _ = _ by unfold nextE; rw [decide_eq_true h0]; rfl
    obtain ⟨y, hy⟩ : ∃ y, l[k]?.getD [] = y := ⟨_, rfl⟩
    rw [hy] at d3 HN
    obtain ⟨W, hW⟩ : ∃ W, w.setCell ⟨C, 0, none⟩ (.int .i64 ((k : Int) + 1)) = W := ⟨_, rfl⟩
    rw [hW] at hv2 hc2 hb2 d3 ⊢
    have d0 := hc2.cell
    have d1 := hb2.cell
    have HH := Lib.hid hv2
    clear hx hv hv2 hc hc2 hb hb2 hy ha hne
    go_enter Tryz.func222, Tryz.ntmps222
    go_wp2_with fail
    go_ret
    exact ⟨ret_bool (by rw [HN.out]), rfl⟩
  · have hq : ¬ (k : Int) + 1 ≤ (l.length : Int) := by omega
    have HN : Hid (nextE l k x = false) := show _ = _ by unfold nextE; rw [decide_eq_false h0]; rfl
    obtain ⟨W, hW⟩ : ∃ W, w.setCell ⟨C, 0, none⟩ (.int .i64 ((k : Int) + 1)) = W := ⟨_, rfl⟩
    rw [hW] at hv2 hc2 hb2 ⊢
    have d0 := hc2.cell
    have d1 := hb2.cell
    clear hx hv hv2 hc hc2 hb hb2 ha hne
    go_enter Tryz.func222, Tryz.ntmps222
    go_wp2_with fail
    go_ret
    exact ⟨ret_bool (by rw [HN.out]), rfl⟩
/-- Is a list a beginning of another one? -/
def beginsE (l o : List (List UInt8)) : Bool := decide (o.length ≤ l.length) && (l.take o.length == o)
theorem beginsE_step (l o : List (List UInt8)) (k : Nat) (hk : k < o.length) (h : beginsE l (o.take k) = true) : beginsE l (o.take (k + 1)) = nextE l k (o[k]?.getD []) ∧ (nextE l k (o[k]?.getD []) = false → beginsE l o = false) := by
  have hx : o[k]?.getD [] = o[k] := by simp [hk]
  rw [hx]
  unfold beginsE at h
  rw [Bool.and_eq_true, decide_eq_true_iff, beq_iff_eq, List.length_take, Nat.min_eq_left (Nat.le_of_lt hk)] at h
  obtain ⟨h1, h2⟩ := h
  have e : o.take (k + 1) = o.take k ++ [o[k]] := List.take_succ_eq_append_getElem hk
  constructor
  · unfold beginsE nextE
    rw [List.length_take, Nat.min_eq_left hk]
    by_cases hl : k < l.length
    · have e2 : l.take (k + 1) = l.take k ++ [l[k]] := List.take_succ_eq_append_getElem hl
      rw [decide_eq_true (show k + 1 ≤ l.length from hl), decide_eq_true hl, e, e2, h2, Bool.true_and, Bool.true_and, Bool.eq_iff_iff, beq_iff_eq, beq_iff_eq, show l[k]?.getD [] = l[k] by simp [hl]]
      exact ⟨fun h => by simpa using List.append_cancel_left h, fun h => by rw [h]⟩
    · rw [decide_eq_false (show ¬ k + 1 ≤ l.length by omega), decide_eq_false hl]
      rfl
  · intro hn
    unfold beginsE
    unfold nextE at hn
    by_cases hlo : o.length ≤ l.length
    · have hl : k < l.length := by omega
      rw [decide_eq_true hl, Bool.true_and] at hn
      rw [decide_eq_true hlo, Bool.true_and]
      rw [beq_eq_false_iff_ne] at hn ⊢
      intro he
      apply hn
      have := congrArg (fun z => z[k]?.getD []) he
      simp only [List.getElem?_take, if_pos hk] at this
      rw [this, hx]
    · rw [decide_eq_false hlo]
      rfl
set_option maxRecDepth 100000 in
set_option maxHeartbeats 4000000 in
theorem evNext_any (C B : Nat) (v : Value) (l : List (List UInt8)) (hl : l.length ≤ 1000) (u : Value) (o : List (List UInt8)) (ho : o.length ≤ 1000) (w : World) (hc : Boxed w C 3 (.int .i64 0)) (hb : Boxed w B 256 v) (hv : TxS w v l) (hu : TxS w u o)
    (hne : ∀ b off n c, v = .slice (some ⟨b, off, none⟩) n c → b ≠ C) (hne2 : ∀ b off n c, u = .slice (some ⟨b, off, none⟩) n c → b ≠ C) (hCB : C ≠ B) :
    Calls Tryz.prog 210 #[.func (.func 222) #[] #[.pointer (some ⟨C, 0, none⟩), .pointer (some ⟨B, 0, none⟩)], u] w fun e w' => e = .returned (.bool (beginsE l o)) ∧ Below C w w' := by
  have HNE := Lib.hid hne
  have HNE2 := Lib.hid hne2
  have HLB := Lib.hid hl
  obtain ⟨a, cap, ub, uoff, rfl, hlc, ha, -⟩ := hu.cell
  have HU := Lib.hid hu
  have HV := Lib.hid hv
  have HC := Lib.hid hc
  have HB := Lib.hid hb
  clear hu hv hc hb hne hne2
  generalize hn : o.length = n at *
  go_enter Tryz.func210, Tryz.ntmps210
  go_wp2
  go_loopw [9] (fun i wr => ∃ k : Nat, k ≤ n ∧ i = .int .i64 k ∧ Hid (beginsE l (o.take k) = true) ∧ Hid (Boxed wr C 3 (.int .i64 (k : Nat)) ∧ Boxed wr B 256 v ∧ TxS wr v l ∧ TxS wr (.slice a n cap) o) ∧ Below C w wr) (fun i _ => n - (intOf i).toNat)
  case atStart => exact ⟨0, Nat.zero_le _, rfl, Lib.hid (by unfold beginsE; simp), ⟨HC.out, HB.out, HV.out, HU.out⟩, Below.refl _ _⟩
  case round =>
    obtain ⟨k, hk, rfl, HA, HI, hb⟩ := hrel
    have HBW := Lib.hid hb
    clear hb
    by_cases hlt : k < n
    · obtain rfl := ha (by omega)
      obtain ⟨a1, cap1, b1, o1, e1, -, ha1, hc1⟩ := HI.out.2.2.2.cell
      simp only [Value.slice.injEq] at e1
      obtain ⟨e1, -, rfl⟩ := e1
      have ha2 := ha1 (by omega)
      rw [← e1] at ha2
      simp only [Option.some.injEq, Addr.mk.injEq, and_true] at ha2
      obtain ⟨rfl, rfl⟩ := ha2
      have c1 := (hc1 (by omega)).2 k (by omega)
      have hn' : ((k : Nat) : Int) < (n : Int) := by omega
      obtain ⟨x, hx⟩ : ∃ x, x = o[k]?.getD [] := ⟨_, rfl⟩
      rw [← hx] at c1
      have HS := Lib.hid (beginsE_step l o k (by omega) HA.out)
      rw [← hx] at HS
      clear hx hc1 ha1 e1
      go_wp2_with fail
      refine (next1_any C B k (by omega) v l HLB.out x _ HI.out.1 HI.out.2.1 HI.out.2.2.1 HNE.out hCB).mono ?_
      rintro e w1 ⟨rfl, hw1⟩
      have HI1 : Hid (Boxed w1 C 3 (.int .i64 ((k : Int) + 1)) ∧ Boxed w1 B 256 v ∧ TxS w1 v l ∧ TxS w1 (.slice (some ⟨ub, uoff, none⟩) n cap) o) := show _ ∧ _ by
        rw [hw1]
        exact ⟨HI.out.1.set _, HI.out.2.1.other (Ne.symm hCB) _, HI.out.2.2.1.set HNE.out _, HI.out.2.2.2.set HNE2.out _⟩
      have HB1 : Hid (Below C w w1) := show Below _ _ _ by rw [hw1]; exact HBW.out.setCell (p := ⟨C, 0, none⟩) (Nat.le_refl _) _
      clear hw1
      cases hx : nextE l k x with
      | true =>
        have HA1 : Hid (beginsE l (o.take (k + 1)) = true) := show _ = _ by rw [HS.out.1, hx]
        clear hx
        go_wp2_with fail
        go_roundw
        case rel => exact ⟨k + 1, by omega, by go_num, HA1, by
          have h := HI1.out
          exact ⟨by rw [show ((k + 1 : Nat) : Int) = (k : Int) + 1 by omega]; exact h.1, h.2⟩, HB1.out⟩
        case measure => simp [intOf]; omega
      | false =>
        have HF : Hid (beginsE l o = false) := show _ = _ from HS.out.2 hx
        clear hx
        go_wp2_with fail
        go_ret
        exact ⟨ret_bool (by rw [HF.out]), HB1.out⟩
    · obtain rfl : k = n := by omega
      rw [List.take_of_length_le (by omega)] at HA
      go_wp2_with fail
      go_ret
      exact ⟨ret_bool (by rw [HA.out]), HBW.out⟩
end Go.Proofs.YtgoemaecdolioaaGreatDoor

/-
  path: next; Within.
-/
namespace Go.Proofs.YtgoemaecdolioaaGreatDoor
open Go.RowKit Go.Shelf Go.Sort

theorem lsNext_any (v : Value) (l : List (List UInt8)) (w : World) (hv : TxS w v l) :
    Calls Tryz.prog 211 #[v] w fun e w' => e = .returned (.func (.func 222) #[] #[.pointer (some ⟨w.heap.size + 1, 0, none⟩), .pointer (some ⟨w.heap.size, 0, none⟩)]) ∧ w' = (w.alloc (.cells #[v] 256)).alloc (.cells #[.int .i64 0] 3) := by
  obtain ⟨a, c, rfl⟩ := hv.slice
  clear hv
  go_enter Tryz.func211, Tryz.ntmps211
  go_wp2
  go_ret
  exact ⟨rfl, rfl⟩
theorem OwnT.block {W : World} {B : Nat} {u : Value} {l : List (List UInt8)} (h : OwnT W B u l) {b off n c : Nat} (e : u = .slice (some ⟨b, off, none⟩) n c) : b < W.heap.size := by
  rcases h.2 with ⟨rfl, _⟩ | ⟨g, cap, cur, rfl, _, hg, _⟩
  · cases e
  · simp only [Value.slice.injEq, Option.some.injEq, Addr.mk.injEq] at e
    rw [← e.1.1]
    exact (Array.getElem?_eq_some_iff.1 hg).1
theorem OwnT.below {W W' : World} {B : Nat} {u : Value} {l : List (List UInt8)} (h : OwnT W B u l) (hb : Below W.heap.size W W') : OwnT W' B u l := own_keptG h fun g _ hg => hb.block g hg
/-- Is a list of names within another one? -/
def isIn (l o : List (List UInt8)) : Bool := decide (o.length < l.length) && beginsE l o
/-- What Within tells. -/
def withinE (s t : List UInt8) : Bool × Int :=
  if (splitE s).2 ≠ 0 then (false, (splitE s).2) else if (splitE t).2 ≠ 0 then (false, (splitE t).2) else (isIn (splitE s).1 (splitE t).1, 0)
set_option maxRecDepth 100000 in
set_option maxHeartbeats 4000000 in
theorem paWithin_any (s t : List UInt8) (hs : s.length ≤ 1000000) (ht : t.length ≤ 1000000) (w : World) (hm : MaxC w) :
    Calls Tryz.prog 188 #[encStr s, encStr t] w fun e w' => e = .returned (.tuple #[.bool (withinE s t).1, .int .i64 (withinE s t).2]) ∧ Below w.heap.size w w' := by
  have HR := Lib.hid (read_any s hs w hm)
  have HR2 := Lib.hid (fun w hm => read_any t ht w hm)
  have HL := Lib.hid (splitE_len s)
  have HL2 := Lib.hid (splitE_len t)
  have HM := Lib.hid hm
  have HP : Hid (withinE s t = if (splitE s).2 ≠ 0 then (false, (splitE s).2) else if (splitE t).2 ≠ 0 then (false, (splitE t).2) else (isIn (splitE s).1 (splitE t).1, 0)) := show _ = _ from rfl
  obtain ⟨⟨l, no⟩, hx⟩ : ∃ x, splitE s = x := ⟨_, rfl⟩
  obtain ⟨⟨o, nt⟩, hy⟩ : ∃ x, splitE t = x := ⟨_, rfl⟩
  rw [hx] at HR HL
  rw [hx, hy] at HP
  rw [hy] at HR2 HL2
  dsimp only at HR HR2 HL HL2 HP
  clear hm hx hy
  go_enter Tryz.func188, Tryz.ntmps188
  go_wp2_with fail
  refine HR.out.mono ?_
  rintro e w1 ⟨v, rfl, hu, hb⟩
  obtain ⟨a1, c1, rfl⟩ := hu.txs.slice
  have hu1 := hu.below (W' := w1.alloc (.cells #[.slice a1 l.length c1] 258)) ((Below.refl _ _).alloc (Nat.le_refl _) _)
  have x1 := Boxed.new w1 258 (.slice a1 l.length c1)
  have b1 : Below w.heap.size w (w1.alloc (.cells #[.slice a1 l.length c1] 258)) := hb.alloc hb.size _
  have m1 := HM.out.below b1 HM.out.room
  have HU1 := Lib.hid hu1
  have HX1 := Lib.hid x1
  have HB1 := Lib.hid b1
  have HM1 := Lib.hid m1
  clear hu hb hu1 x1 b1 m1
  obtain ⟨wa, hwa⟩ : ∃ wa, w1.alloc (.cells #[.slice a1 l.length c1] 258) = wa := ⟨_, rfl⟩
  rw [hwa] at HU1 HX1 HB1 HM1
  go_wp2_with fail
  clear hwa
  refine (HR2.out _ HM1.out).mono ?_
  rintro e w2 ⟨u, rfl, hu, hb⟩
  obtain ⟨a2, c2, rfl⟩ := hu.txs.slice
  have hz2 := HB1.out.size
  have hz3 := hb.size
  have b2 : Below w.heap.size w w2 := HB1.out.trans (hb.mono hz2)
  have hu1 := HU1.out.below hb
  have x1 : Boxed w2 w1.heap.size 258 (.slice a1 l.length c1) := (hb.block _ HX1.out.lt).trans HX1.out
  have bb : Below w2.heap.size w2 (w2.alloc (.cells #[.slice a2 o.length c2] 258)) := (Below.refl _ _).alloc (Nat.le_refl _) _
  have hu3 := hu.below bb
  have hu4 := hu1.below bb
  have x3 := Boxed.new w2 258 (.slice a2 o.length c2)
  have x4 : Boxed (w2.alloc (.cells #[.slice a2 o.length c2] 258)) w1.heap.size 258 (.slice a1 l.length c1) := x1.alloc _
  have b3 : Below w.heap.size w (w2.alloc (.cells #[.slice a2 o.length c2] 258)) := b2.trans (bb.mono b2.size)
  clear hu hb hu1 x1 bb b2 hz2 hz3
  obtain ⟨wb, hwb⟩ : ∃ wb, w2.alloc (.cells #[.slice a2 o.length c2] 258) = wb := ⟨_, rfl⟩
  rw [hwb] at hu3 hu4 x3 x4 b3
  have bc : Below wb.heap.size wb (wb.alloc (.cells #[.int .i64 no, .int .i64 nt] 30)) := (Below.refl _ _).alloc (Nat.le_refl _) _
  have HC0 : Hid ((wb.alloc (.cells #[.int .i64 no, .int .i64 nt] 30)).cell? ⟨wb.heap.size, 0, none⟩ = some (.int .i64 no)) := Lib.hid (Box2.new wb 30 no nt).cell0
  have HC1 : Hid ((wb.alloc (.cells #[.int .i64 no, .int .i64 nt] 30)).cell? ⟨wb.heap.size, 1, none⟩ = some (.int .i64 nt)) := Lib.hid (Box2.new wb 30 no nt).cell1
  have HU3 := Lib.hid (hu3.below bc)
  have HU4 := Lib.hid (hu4.below bc)
  have HX3 := Lib.hid (x3.alloc (.cells #[.int .i64 no, .int .i64 nt] 30))
  have HX4 := Lib.hid (x4.alloc (.cells #[.int .i64 no, .int .i64 nt] 30))
  have HB3 := Lib.hid (b3.trans (bc.mono b3.size))
  clear hu3 hu4 x3 x4 b3 bc
  obtain ⟨wc, hwc⟩ : ∃ wc, wb.alloc (.cells #[.int .i64 no, .int .i64 nt] 30) = wc := ⟨_, rfl⟩
  rw [hwc] at HC0 HC1 HU3 HU4 HX3 HX4 HB3
  go_wp2_with fail
  clear hwc hwb
  refine (or2_any _ no nt _ HC0.out HC1.out).mono ?_
  rintro e w5 ⟨rfl, rfl⟩
  clear HC0 HC1
  by_cases h0 : no = 0
  · subst h0
    rw [if_pos rfl]
    by_cases h1 : nt = 0
    · subst h1
      have HE : Hid (withinE s t = (isIn l o, 0)) := show _ = _ by rw [HP.out]; rfl
      have HS := Lib.hid (fun W (hb : Below wc.heap.size wc W) => And.intro (Boxed.cell (show Boxed W w1.heap.size 258 (.slice a1 l.length c1) from (hb.block _ HX4.out.lt).trans HX4.out)) (Boxed.cell (show Boxed W w2.heap.size 258 (.slice a2 o.length c2) from (hb.block _ HX3.out.lt).trans HX3.out)))
      have HVL := Lib.hid (fun W (hb : Below wc.heap.size wc W) => (HU4.out.below hb).txs)
      have HVO := Lib.hid (fun W (hb : Below wc.heap.size wc W) => (HU3.out.below hb).txs)
      have HG := Lib.hid (fun W (hb : Below wc.heap.size wc W) => HB3.out.trans (hb.mono HB3.out.size))
      have bq : Below wc.heap.size wc wc := Below.refl _ _
      have zq := bq.size
      have d1 := HX4.out.cell
      have d2 := HX3.out.cell
      have lb1 := HL.out
      have lb2 := HL2.out
      by_cases hlt : o.length < l.length
      · have hq : (o.length : Int) < (l.length : Int) := by omega
        have HI : Hid (isIn l o = beginsE l o) := show _ = _ by unfold isIn; rw [decide_eq_true hlt]; rfl
        go_wp2_with fail
        have HNV := Lib.hid (fun b off n c (e : Value.slice a1 l.length c1 = .slice (some ⟨b, off, none⟩) n c) => HU4.out.block e)
        have HNO := Lib.hid (fun b off n c (e : Value.slice a2 o.length c2 = .slice (some ⟨b, off, none⟩) n c) => HU3.out.block e)
        go_region_held3 (fun w' => w'.cell? ⟨w1.heap.size, 0, none⟩ = some (.slice a1 l.length c1) ∧ w'.cell? ⟨w2.heap.size, 0, none⟩ = some (.slice a2 o.length c2)) (exact HS.out _ (by repeat (first | exact Below.refl _ _ | assumption | refine Below.drew ?_ | refine below_drewN ?_ _ | refine Below.alloc ?_ (by (try simp) <;> omega) _ | refine Below.setCell ?_ (by (try simp) <;> omega) _ | refine Below.trans ?_ (Below.mono (by assumption) (by (try simp) <;> omega)))))
          (first | (go_at_call 209; with_reducible refine (lsMany_any (.slice a1 l.length c1) l _ (HVL.out _ (by repeat (first | exact Below.refl _ _ | assumption | refine Below.drew ?_ | refine below_drewN ?_ _ | refine Below.alloc ?_ (by (try simp) <;> omega) _ | refine Below.setCell ?_ (by (try simp) <;> omega) _ | refine Below.trans ?_ (Below.mono (by assumption) (by (try simp) <;> omega)))))).mono ?_; rintro e wA ⟨rfl, rfl⟩) | (go_at_call 209; with_reducible refine (lsMany_any (.slice a2 o.length c2) o _ (HVO.out _ (by repeat (first | exact Below.refl _ _ | assumption | refine Below.drew ?_ | refine below_drewN ?_ _ | refine Below.alloc ?_ (by (try simp) <;> omega) _ | refine Below.setCell ?_ (by (try simp) <;> omega) _ | refine Below.trans ?_ (Below.mono (by assumption) (by (try simp) <;> omega)))))).mono ?_; rintro e wA ⟨rfl, rfl⟩) | (go_at_call 206; refine (lsNames_any _ _).mono ?_; rintro e wA ⟨rfl, rfl⟩) | (go_at_call 211; refine (lsNext_any (.slice a1 l.length c1) l _ (HVL.out _ (by repeat (first | exact Below.refl _ _ | assumption | refine Below.drew ?_ | refine below_drewN ?_ _ | refine Below.alloc ?_ (by (try simp) <;> omega) _ | refine Below.setCell ?_ (by (try simp) <;> omega) _ | refine Below.trans ?_ (Below.mono (by assumption) (by (try simp) <;> omega)))))).mono ?_; rintro e wA ⟨rfl, hA⟩; have HCI : Hid (Boxed wA (wc.drew.heap.size + 1) 3 (.int .i64 0)) := (show Boxed _ _ _ _ by rw [hA]; have h := Boxed.new (wc.drew.alloc (.cells #[.slice a1 l.length c1] 256)) 3 (.int .i64 0); rwa [World.size_alloc] at h); have HBI : Hid (Boxed wA wc.drew.heap.size 256 (.slice a1 l.length c1)) := (show Boxed _ _ _ _ by rw [hA]; exact (Boxed.new _ _ _).alloc _); have bq : Below wc.heap.size wc wA := (by rw [hA]; exact (by repeat (first | exact Below.refl _ _ | assumption | refine Below.drew ?_ | refine below_drewN ?_ _ | refine Below.alloc ?_ (by (try simp) <;> omega) _ | refine Below.setCell ?_ (by (try simp) <;> omega) _ | refine Below.trans ?_ (Below.mono (by assumption) (by (try simp) <;> omega))))); have zq := bq.size; clear hA) | (go_at_call 210; refine (evNext_any (wc.drew.heap.size + 1) wc.drew.heap.size (.slice a1 l.length c1) l (by omega) (.slice a2 o.length c2) o (by omega) _ HCI.out HBI.out (HVL.out _ (by repeat (first | exact Below.refl _ _ | assumption | refine Below.drew ?_ | refine below_drewN ?_ _ | refine Below.alloc ?_ (by (try simp) <;> omega) _ | refine Below.setCell ?_ (by (try simp) <;> omega) _ | refine Below.trans ?_ (Below.mono (by assumption) (by (try simp) <;> omega))))) (HVO.out _ (by repeat (first | exact Below.refl _ _ | assumption | refine Below.drew ?_ | refine below_drewN ?_ _ | refine Below.alloc ?_ (by (try simp) <;> omega) _ | refine Below.setCell ?_ (by (try simp) <;> omega) _ | refine Below.trans ?_ (Below.mono (by assumption) (by (try simp) <;> omega))))) (fun b off n c e => by have h := HNV.out b off n c e; show b ≠ wc.heap.size + 1; omega) (fun b off n c e => by have h := HNO.out b off n c e; show b ≠ wc.heap.size + 1; omega) (by omega)).mono ?_; rintro e wB ⟨rfl, hB⟩; have bq : Below wc.heap.size wc wB := bq.trans (hB.mono (by show wc.heap.size ≤ wc.heap.size + 1; omega)); have zq := bq.size; clear hB))
        all_goals
          go_wp2_with fail
          exact bodyPost_ret (v := .tuple #[.bool (beginsE l o), .int .i64 0]) (by simp [results, Tryz.results188, go_sem]) rfl ⟨by rw [HE.out, HI.out], HG.out _ (by repeat (first | exact Below.refl _ _ | assumption | refine Below.drew ?_ | refine below_drewN ?_ _ | refine Below.alloc ?_ (by (try simp) <;> omega) _ | refine Below.setCell ?_ (by (try simp) <;> omega) _ | refine Below.trans ?_ (Below.mono (by assumption) (by (try simp) <;> omega))))⟩
      · have hq : ¬ (o.length : Int) < (l.length : Int) := by omega
        have HI : Hid (isIn l o = false) := show _ = _ by unfold isIn; rw [decide_eq_false hlt]; rfl
        go_wp2_with fail
        go_quiet ((first | (go_at_call 209; with_reducible exact quiet_left (lsMany_any (.slice a1 l.length c1) l _ (HVL.out _ (by repeat (first | exact Below.refl _ _ | assumption | refine Below.drew ?_ | refine below_drewN ?_ _ | refine Below.alloc ?_ (by (try simp) <;> omega) _ | refine Below.setCell ?_ (by (try simp) <;> omega) _ | refine Below.trans ?_ (Below.mono (by assumption) (by (try simp) <;> omega))))))) | (go_at_call 209; with_reducible exact quiet_left (lsMany_any (.slice a2 o.length c2) o _ (HVO.out _ (by repeat (first | exact Below.refl _ _ | assumption | refine Below.drew ?_ | refine below_drewN ?_ _ | refine Below.alloc ?_ (by (try simp) <;> omega) _ | refine Below.setCell ?_ (by (try simp) <;> omega) _ | refine Below.trans ?_ (Below.mono (by assumption) (by (try simp) <;> omega)))))))))
        go_wp2_with fail
        exact bodyPost_ret (v := .tuple #[.bool false, .int .i64 0]) (by simp [results, Tryz.results188, go_sem]) rfl ⟨by rw [HE.out, HI.out], HG.out _ (by repeat (first | exact Below.refl _ _ | assumption | refine Below.drew ?_ | refine below_drewN ?_ _ | refine Below.alloc ?_ (by (try simp) <;> omega) _ | refine Below.setCell ?_ (by (try simp) <;> omega) _ | refine Below.trans ?_ (Below.mono (by assumption) (by (try simp) <;> omega))))⟩
    · have HE : Hid (withinE s t = (false, nt)) := show _ = _ by rw [HP.out, if_neg (by simp), if_pos h1]
      have hq : (nt == 0) = false := by simp [h1]
      clear h1
      go_wp2_with fail
      exact bodyPost_ret (v := .tuple #[.bool false, .int .i64 nt]) (by simp [results, Tryz.results188, go_sem]) rfl ⟨by rw [HE.out], HB3.out⟩
  · have HE : Hid (withinE s t = (false, no)) := show _ = _ by rw [HP.out, if_pos h0]
    rw [if_neg h0]
    have hq : (no == 0) = false := by simp [h0]
    clear h0
    go_wp2_with fail
    exact bodyPost_ret (v := .tuple #[.bool false, .int .i64 no]) (by simp [results, Tryz.results188, go_sem]) rfl ⟨by rw [HE.out], HB3.out⟩
end Go.Proofs.YtgoemaecdolioaaGreatDoor
