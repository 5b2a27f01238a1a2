/-
  Contracts of slices.All at words, and of sum.Steps (iterators).
-/
import Derived.Test.YthjlhbkjmlohcaaSumA
import Derived.Test.YthjlhbkjmlohcaaApp
import Derived.Test.YthjlhbkjmlohcaaMark
import Derived.RangeFuncLeaves
import Derived.RangeFuncCalls
import Derived.BigRegionIn
namespace Go.Proofs.Ythjlhbkjmlohcaa
open Go.RowKit Go.Shelf
attribute [local go_sem] Oper.semAt_some

theorem all_any (a : Option Addr) (n c : Nat) (w : World) :
    Calls Try.prog 30 #[.slice a n c] w fun e w' => e = .returned (.func (.func 36) #[] #[.pointer (some ⟨w.heap.size, 0, none⟩)]) ∧ w' = w.alloc (.cells #[.slice a n c] 22) := by
  go_enter Try.func30, Try.ntmps30
  go_wp2
  go_ret
  exact ⟨rfl, rfl⟩
/-- The word at a place. -/
def nth (xs : List Nat) (k : Nat) : Nat := xs[k]?.getD 0
theorem take_fin (m k : Nat) (h : k < m) : (List.finRange m).take k ++ [⟨k, h⟩] = (List.finRange m).take (k + 1) := by
  rw [List.take_succ_eq_append_getElem (by simpa using h)]; simp
set_option maxRecDepth 100000 in
set_option maxHeartbeats 2000000 in
theorem all_seq (n : Nat) (hn : 1 ≤ n) (Bs b off cap : Nat) (a : Option Addr) (xs : List Nat) (hl : xs.length ≤ 4096) (hlc : xs.length ≤ cap) (ha : 0 < xs.length → a = some ⟨b, off, none⟩) (w : World) (hb : 0 < xs.length → b < w.heap.size)
    (hcells : ∀ j, j < xs.length → w.cell? ⟨b, off + j, none⟩ = some (.int .u64 (xs[j]?.getD 0 : Nat))) (hBs : Bs < w.heap.size) (hB : w.cell? ⟨Bs, 0, none⟩ = some (.slice a xs.length cap)) :
    SeqP (fun k => k = b) n Try.prog 36 #[.pointer (some ⟨Bs, 0, none⟩)] (fun y : Fin xs.length => #[.int .i64 (y.1 : Nat), .int .u64 (nth xs y.1 : Nat)]) (fun ys => ys = List.finRange xs.length) (fun pre => pre <+: List.finRange xs.length) w := fun l J Jx W hW hJ hJx hY h0 => by
  have c0 := (hW.cell (p := ⟨Bs, 0, none⟩) hBs).trans hB
  have HC := Lib.hid (fun j (hj : j < xs.length) => (hW.cell (p := ⟨b, off + j, none⟩) (hb (by omega))).trans (hcells j hj))
  have HY := Lib.hid hY
  clear hcells hB hY hJ hJx hb hBs
  generalize hm : xs.length = m at *
  have HM := Lib.hid hm; clear hm
  refine callsIn_of_wp Try.func36 rfl trivial ?_ rfl
  simp only [Try.ntmps36, List.size_toArray, List.length_cons, List.length_nil, Nat.reduceAdd, Nat.reduceSub, Array.replicate_succ, Array.replicate_zero, List.push_toArray, List.append_toArray, List.nil_append, List.cons_append]
  gi_wp2
  gi_loopw [7] (fun i wr => ∃ k : Nat, k ≤ m ∧ i = .int .i64 (k : Nat) ∧ J ((List.finRange m).take k) wr ∧ Keeps (fun q => q = b ∨ W.heap.size ≤ q) W wr) (fun i _ => m - (intOf i).toNat)
  case atStart => exact ⟨0, Nat.zero_le _, rfl, by simpa using h0, Keeps.refl _ _⟩
  case round =>
    obtain ⟨k, hk, rfl, hJs, hkp⟩ := hrel
    by_cases hlt : k < m
    · obtain rfl := ha (by omega)
      have hc : wr.cell? ⟨b, off + k, none⟩ = some (.int .u64 (nth xs k : Nat)) := hkp.cell (q := ⟨b, off + k, none⟩) (.inl rfl) (HC.out k hlt)
      have HF := Lib.hid (take_fin m k hlt)
      obtain ⟨fn, tmps, assign, body, hy, hR⟩ := HY.out _ ⟨k, hlt⟩ wr hJs hkp.1 (by rw [HF.out]; exact List.take_prefix _ _)
      rw [HF.out] at hR
      have HR := Lib.hid hR; clear hR c0
      dsimp only at hy
      generalize nth xs k = x at *
      gi_wp2
      refine HR.out.mono ?_
      rintro e W3 ⟨hk3, ⟨rfl, hJ3⟩ | ⟨rfl, hJx3⟩⟩
      · gi_wp2
        go_roundw
        case rel => exact ⟨k + 1, by omega, by go_num, hJ3, hkp.trans hk3⟩
        case measure => simp [intOf]; omega
      · gi_wp2
        refine bodyPost_ret (results_none rfl _ _ _) rfl ?_
        exact ⟨⟨_, rfl⟩, .inr ⟨_, List.take_prefix _ _, hJx3⟩⟩
    · obtain rfl : k = m := by omega
      clear c0
      gi_wp2
      go_end0
      exact ⟨⟨_, rfl⟩, .inl ⟨_, by rw [List.take_of_length_le (by simp)], hJs⟩⟩
theorem clone_any (v : Value) (xs : List Nat) (hl : xs.length ≤ 4096) (w : World) (hs : Sl w .u64 v xs) :
    Calls Try.prog 28 #[v] w fun e w' => ∃ r, e = .returned r ∧ w'.ownsRow w.heap.size 23 1 r xs.length (valsOf .u64 xs) ∧ Below w.heap.size w w' := by
  obtain ⟨i0, hi, hz0, hz1, hz2⟩ := info_parts infoU64
  have HS := Lib.hid hs; clear hs
  have HL := Lib.hid (World.ownsRow_lit (base := w.heap.size) (size := 1) w #[] 0 (e := 23) (Nat.le_refl _) (by unfold maxLen; omega) rfl)
  obtain ⟨a, c, b, off, rfl, -, ha, -⟩ := HS.out.cell
  rcases a with _ | ad
  · have h0 : xs = [] := by
      rcases Nat.eq_zero_or_pos xs.length with h | h
      · exact List.eq_nil_of_length_eq_zero h
      · cases ha h
    subst h0
    clear ha
    have hq : ∀ W : World, (binOp .eql 22 (.slice none 0 c) (.slice none 0 0)).run Try.prog W = .ok (.bool true) W := fun _ => by kernel_rfl
    go_enter Try.func28, Try.ntmps28
    go_wp2
    go_ret
    exact ⟨_, rfl, ⟨rfl, .inl ⟨rfl, rfl⟩⟩, Below.refl _ _⟩
  · clear ha
    have hq : ∀ (m : Nat) (W : World), (binOp .eql 22 (.slice (some ad) m c) (.slice none 0 0)).run Try.prog W = .ok (.bool false) W := fun _ _ => by kernel_rfl
    go_enter Try.func28, Try.ntmps28
    go_wp2_with (first
      | (at_builtin; refine wpList_append_sl _ (by rfl) (.tmp 5) (.tmp 6) 22 rfl w.heap.size 23 i0 (.int .u64 0) 8 .u64 Try.underlying22 hi hz0 hz1 hz2 rfl _ [] rfl HL.out _ xs rfl (HS.out.below ((Below.refl _ _).alloc (Nat.le_refl _) _)) (by unfold maxLen; simp; omega) (by simp; omega) (by simp) ?_; intro v1 w1 own1 grow1 at1))
    go_ret
    exact ⟨_, rfl, own1, ((Below.refl _ _).alloc (Nat.le_refl _) _).grown grow1 (by simp) (fun j e => Nat.le_of_eq (Option.some.inj e))⟩
theorem steps_any (v : Value) (xs : List Nat) (hl : xs.length ≤ 4096) (w : World) (hs : Sl w .u64 v xs) :
    Calls Try.prog 20 #[v] w fun e w' => ∃ H r, e = .returned (.func (.func 29) #[] #[.pointer (some ⟨H, 0, none⟩)]) ∧ w.heap.size ≤ H ∧ Boxed w' H 22 r ∧ w'.ownsRow w.heap.size 23 1 r xs.length (valsOf .u64 xs) ∧ Below w.heap.size w w' := by
  have HC := Lib.hid (clone_any v xs hl w hs)
  have k1 : (xs.length : Int) ≤ 4096 := by omega
  obtain ⟨a, c, b, off, rfl, -, -, -⟩ := hs.cell
  clear hs
  go_enter Try.func20, Try.ntmps20
  go_wp2_with fail
  refine HC.out.mono ?_
  rintro e w1 ⟨r, rfl, own1, hb1⟩
  have z1 := hb1.size
  obtain ⟨a1, c1, b1, off1, rfl, -, -, -⟩ := (own_sl own1).cell
  go_wp2_with fail
  go_ret
  exact ⟨_, _, rfl, z1, Boxed.new w1 22 _, own1.alloc _, hb1.alloc z1 _⟩
theorem round_any {m m' : Nat} {l l2 fn : Nat} {P : Program} {tmps : Array Value} {assign body : Code} {W : World} {R : Ending → World → Prop} (h : RoundIn Fence.wide m P l fn tmps assign body W R) : RoundIn (Fence.wide.inRound l2) m' P l fn tmps assign body W R := ⟨trivial, fun c cs _ => h.2 c cs (by simp [Fence.room, Fence.wide])⟩
set_option maxRecDepth 100000 in
set_option maxHeartbeats 40000000 in
theorem steps_seq (n : Nat) (hn : 3 ≤ n) (H b off cap : Nat) (a : Option Addr) (xs : List Nat) (hl : xs.length ≤ 4096) (hx : U64s xs) (hlc : xs.length ≤ cap) (ha : 0 < xs.length → a = some ⟨b, off, none⟩) (w : World) (hb : b < w.heap.size)
    (hcells : ∀ j, j < xs.length → w.cell? ⟨b, off + j, none⟩ = some (.int .u64 (xs[j]?.getD 0 : Nat))) (hH : H < w.heap.size) (hB : w.cell? ⟨H, 0, none⟩ = some (.slice a xs.length cap)) :
    SeqP (fun k => k = b) n Try.prog 29 #[.pointer (some ⟨H, 0, none⟩)] (fun y : Fin xs.length => #[.int .i64 (y.1 : Nat), .int .u64 (SM.sumFrom SM.start (xs.take (y.1 + 1)) : Nat)]) (fun ys => ys = List.finRange xs.length) (fun pre => pre <+: List.finRange xs.length) w := fun l J Jx W hW hJ hJx hY h0 => by
  have c0 := (hW.cell (p := ⟨H, 0, none⟩) hH).trans hB
  have HC := Lib.hid (fun j (hj : j < xs.length) => (hW.cell (p := ⟨b, off + j, none⟩) hb).trans (hcells j hj))
  have HY := Lib.hid hY
  have HJ := Lib.hid hJ
  have HJX := Lib.hid hJx
  have zW := hW.size
  have hHW : H < W.heap.size := by omega
  have hbW : b < W.heap.size := by omega
  clear hcells hB hY hJ hJx
  refine callsIn_of_wp_marks Try.func29 rfl trivial ?_ rfl
  simp only [Try.ntmps29, List.size_toArray, List.length_cons, List.length_nil, Nat.reduceAdd, Nat.reduceSub, Array.replicate_succ, Array.replicate_zero, List.push_toArray, List.append_toArray, List.nil_append, List.cons_append]
  gi_wp2_with fail
  refine wpIn_scope_straight ?_
  gi_wp2_with fail
  refine wpIn_label ?_
  gi_wp2_with fail
  refine ⟨trivial, fun _ => by omega, ?_⟩
  refine (callsIn_wide.2 (all_any a _ cap _)).mono ?_
  rintro e w1 ⟨rfl, rfl⟩
  gi_wp2_with fail
  have jY := ((Boxed.new W 54 (.func (.yield l) #[] #[])).alloc (.cells #[.int .u64 14695981039346656037] 47)).alloc (.cells #[.slice a xs.length cap] 22)
  have jR := (Boxed.new (W.alloc (.cells #[.func (.yield l) #[] #[]] 54)) 47 (.int .u64 14695981039346656037)).alloc (.cells #[.slice a xs.length cap] 22)
  have jX := Boxed.new ((W.alloc (.cells #[.func (.yield l) #[] #[]] 54)).alloc (.cells #[.int .u64 14695981039346656037] 47)) 22 (.slice a xs.length cap)
  have b0 : Below W.heap.size W (((W.alloc (.cells #[.func (.yield l) #[] #[]] 54)).alloc (.cells #[.int .u64 14695981039346656037] 47)).alloc (.cells #[.slice a xs.length cap] 22)) := (by repeat (first | exact Below.refl _ _ | assumption | refine Below.drew ?_ | refine below_drewN ?_ _ | refine Below.alloc ?_ (by (try simp) <;> omega) _ | refine Below.setCell ?_ (by (try simp) <;> omega) _ | refine Below.trans ?_ (Below.mono (by assumption) (by (try simp) <;> omega))))
  have hsz0 : (((W.alloc (.cells #[.func (.yield l) #[] #[]] 54)).alloc (.cells #[.int .u64 14695981039346656037] 47)).alloc (.cells #[.slice a xs.length cap] 22)).heap.size = W.heap.size + 3 := by simp
  have HSZ := Lib.hid hsz0; clear hsz0
  simp only [World.size_alloc] at jR jX
  generalize (((W.alloc (.cells #[.func (.yield l) #[] #[]] 54)).alloc (.cells #[.int .u64 14695981039346656037] 47)).alloc (.cells #[.slice a xs.length cap] 22)) = W0 at *
  have hcW0 : ∀ j, j < xs.length → W0.cell? ⟨b, off + j, none⟩ = some (.int .u64 (xs[j]?.getD 0 : Nat)) := fun j hj => (b0.cell (p := ⟨b, off + j, none⟩) hbW).trans (HC.out j hj)
  have jJ := HJ.out [] W W0 h0 b0
  have hsq := all_seq (n - 1) (by omega) (W.heap.size + 1 + 1) b off cap a xs hl hlc ha W0 (fun _ => by have := HSZ.out; omega) hcW0 (by have := HSZ.out; omega) jX.cell
  clear hcW0 c0
  refine wpIn_range_P (n := n) (by omega) (gf := 36) (lb := #[.pointer (some ⟨W.heap.size + 1 + 1, 0, none⟩)]) rfl (enters_of Try.func36 (by kernel_rfl) rfl) hsq (fun k hk => by have := HSZ.out; subst hk; omega) (Below.refl _ _) (fun _ => rfl)
    (fun pre W' => J pre W' ∧ Boxed W' W.heap.size 54 (.func (.yield l) #[] #[]) ∧ Boxed W' (W.heap.size + 1) 47 (.int .u64 (SM.sumFrom SM.start (xs.take pre.length) : Nat)) ∧ W.heap.size ≤ W'.heap.size)
    (fun cd pre W' => cd = .exit 0 ∧ Jx pre W')
    (Under.and (HJ.out.mono (by have := HSZ.out; omega)) (Under.and (Under.box (fun _ => .func (.yield l) #[] #[]) (by have := HSZ.out; omega)) (Under.and (Under.box (fun pre : List (Fin xs.length) => .int .u64 (SM.sumFrom SM.start (xs.take pre.length) : Nat)) (by have := HSZ.out; omega)) (fun _ _ _ h hb => Nat.le_trans h hb.size))))
    (fun cd => Under.and (Under.pure _ (fun _ => cd = .exit 0)) (HJX.out.mono (by have := HSZ.out; omega)))
    ⟨jJ, jY, jR, b0.size⟩
    ?a1 ?assign ?body ?done ?stop
  case assign =>
    intro l2 x W2 K hK
    gi_wp2
    exact hK
  case body =>
    rintro l2 pre x W2 ⟨iJ, iY, iR, iW⟩ hs2 hsp
    have hxl := fin_prefix hsp
    have hxm := x.2
    have hlr := iR.lt
    have hly := iY.lt
    have HST := Lib.hid (show SM.sumFrom SM.start (xs.take (x.1 + 1)) = SM.mix (SM.sumFrom SM.start (xs.take x.1)) (nth xs x.1) from SM.sumFrom_step SM.start xs x.1 hxm)
    have HLN := Lib.hid (show (pre ++ [x]).length = x.1 + 1 by rw [List.length_append, hxl]; rfl)
    have hsl := SM.sumFrom_lt (xs.take pre.length) SM.start SM.start_lt
    have hxk : nth xs x.1 < 18446744073709551616 := hx.at x.1
    rw [← hxl] at iR hsl
    have HTK := Lib.hid (take_any (SM.sumFrom SM.start (xs.take x.1)) (nth xs x.1) (W.heap.size + 1) hsl hxk W2 iR.cell iR.frozen)
    obtain ⟨W3, eW3⟩ : ∃ W3, W3 = (W2.setCell ⟨W.heap.size + 1, 0, none⟩ (.int .u64 (SM.mix (SM.sumFrom SM.start (xs.take x.1)) (nth xs x.1) : Nat))).drew := ⟨_, rfl⟩
    have b3 : Below W.heap.size W2 W3 := by rw [eW3]; exact ((Below.refl _ _).setCell (p := ⟨W.heap.size + 1, 0, none⟩) (show W.heap.size ≤ W.heap.size + 1 by omega) _).drew
    have iR3 : Boxed W3 (W.heap.size + 1) 47 (.int .u64 (SM.sumFrom SM.start (xs.take (x.1 + 1)) : Nat)) := by
      rw [eW3, HST.out]; exact iR.set _
    have iY3 : Boxed W3 W.heap.size 54 (.func (.yield l) #[] #[]) := by
      rw [eW3]; exact iY.other (by omega) _
    have k3 : Keeps (fun k => k = b ∨ W0.heap.size ≤ k) W2 W3 := by
      rw [eW3]
      exact Keeps.set W2 (b := W.heap.size + 1) (o := 0) _ (by have := HSZ.out; rintro (h | h) <;> omega)
    have iJ3 := HJ.out pre W2 W3 iJ b3
    obtain ⟨fn, tmps, assign, body, hy, hR⟩ := HY.out pre x W3 iJ3 (Nat.le_trans iW b3.size) hsp
    have HR := Lib.hid hR; clear hR
    subst eW3
    have HSX := Lib.hid (show SM.sumFrom SM.start (xs.take (pre ++ [x]).length) = SM.mix (SM.sumFrom SM.start (xs.take x.1)) (nth xs x.1) by rw [HLN.out]; exact HST.out)
    rw [HST.out] at hy iR3
    have HXL := Lib.hid hxl
    clear iJ iJ3 hxl hxm HST
    generalize nth xs x.1 = xk at *
    generalize SM.sumFrom SM.start (xs.take x.1) = s at *
    generalize SM.mix s xk = s' at *
    gi_wp2_with fail
    refine ⟨trivial, fun _ => by omega, ?_⟩
    refine (CallsIn.inRound l2 (callsIn_wide.2 HTK.out)).mono ?_
    rintro e w4 ⟨rfl, rfl⟩
    gi_wp2_with fail
    have cY := iY.cell
    have hmo : Try.prog.follows .mixedOrders = true := by kernel_rfl
    refine wpIn_region_any hmo ?_
    change wpAnyIn _ _ _ _ _ _ _ _ _ (World.drew _)
    clear HTK
    have cR := iR.cell
    refine wpAnyIn_ready (rs := [0, 1, 2]) (by kernel_rfl) (by simp) ?_
    refine AllReadyIn.cons rfl (fun K hK => ?_) (AllReadyIn.cons rfl (fun K hK => ?_) (AllReadyIn.cons rfl (fun K hK => ?_) AllReadyIn.nil))
    · go_simp
      refine hK _ _ ?_
      clear hK K
      refine wpAnyIn_ready (rs := [1, 2]) (by kernel_rfl) (by simp) ?_
      refine AllReadyIn.cons rfl (fun K hK => ?_) (AllReadyIn.cons rfl (fun K hK => ?_) AllReadyIn.nil)
      · go_simp
        refine hK _ _ ?_
        clear hK K
        refine wpAnyIn_ready (rs := [2]) (by kernel_rfl) (by simp) ?_
        refine AllReadyIn.cons rfl (fun K hK => ?_) AllReadyIn.nil
        go_simp
        refine hK _ _ ?_
        clear hK K
        refine wpAnyIn_ready (rs := [3]) (by kernel_rfl) (by simp) ?_
        refine AllReadyIn.cons rfl (fun K hK => ?_) AllReadyIn.nil
        go_simp
        refine hK _ _ ?_
        clear hK K
        refine wpAnyIn_ready (rs := [4]) (by kernel_rfl) (by simp) ?_
        refine AllReadyIn.cons rfl (fun K hK => ?_) AllReadyIn.nil
        go_simp
        refine ⟨trivial, fun _ => by omega, ?_⟩
        refine (CallsIn.inRound l2 (callsIn_wide.2 (told_any _ _))).mono ?_
        rintro e w5 ⟨rfl, rfl⟩
        refine hK _ _ ?_
        clear hK K
        refine wpAnyIn_ready (rs := [5]) (by kernel_rfl) (by simp) ?_
        refine AllReadyIn.cons rfl (fun K hK => ?_) AllReadyIn.nil
        go_simp
        refine ⟨fun _ => by omega, ?_⟩
        refine (round_any HR.out).mono ?_
        rintro e W4 ⟨hk4, ⟨rfl, hJ4⟩ | ⟨rfl, hX4⟩⟩
        · refine hK _ _ ?_
          clear hK K
          refine wpAnyIn_ready (rs := [6]) (by kernel_rfl) (by simp) ?_
          refine AllReadyIn.cons rfl (fun K hK => ?_) AllReadyIn.nil
          go_simp
          refine hK _ _ ?_
          clear hK K
          refine wpAnyIn_done (by kernel_rfl) ?_ _
          clear hy
          gi_wp2
          exact ⟨k3.trans (hk4.weaken fun k h => h.imp id fun h => by have := HSZ.out; omega), hJ4, keeps_box iY3 hk4 (.inr (Nat.le_refl _)), by rw [HSX.out]; exact keeps_box iR3 hk4 (.inr (by show W.heap.size ≤ W.heap.size + 1; omega)), Nat.le_trans (Nat.le_trans iW b3.size) hk4.1⟩
        · refine hK _ _ ?_
          clear hK K
          refine wpAnyIn_ready (rs := [6]) (by kernel_rfl) (by simp) ?_
          refine AllReadyIn.cons rfl (fun K hK => ?_) AllReadyIn.nil
          go_simp
          refine hK _ _ ?_
          clear hK K
          refine wpAnyIn_done (by kernel_rfl) ?_ _
          clear hy
          gi_wp2
          exact ⟨k3.trans (hk4.weaken fun k h => h.imp id fun h => by have := HSZ.out; omega), rfl, hX4⟩
      · go_simp
        refine hK _ _ ?_
        clear hK K
        refine wpAnyIn_ready (rs := [1, 3]) (by kernel_rfl) (by simp) ?_
        refine AllReadyIn.cons rfl (fun K hK => ?_) (AllReadyIn.cons rfl (fun K hK => ?_) AllReadyIn.nil)
        · go_simp
          refine hK _ _ ?_
          clear hK K
          refine wpAnyIn_ready (rs := [3]) (by kernel_rfl) (by simp) ?_
          refine AllReadyIn.cons rfl (fun K hK => ?_) AllReadyIn.nil
          go_simp
          refine hK _ _ ?_
          clear hK K
          refine wpAnyIn_ready (rs := [4]) (by kernel_rfl) (by simp) ?_
          refine AllReadyIn.cons rfl (fun K hK => ?_) AllReadyIn.nil
          go_simp
          refine ⟨trivial, fun _ => by omega, ?_⟩
          refine (CallsIn.inRound l2 (callsIn_wide.2 (told_any _ _))).mono ?_
          rintro e w5 ⟨rfl, rfl⟩
          refine hK _ _ ?_
          clear hK K
          refine wpAnyIn_ready (rs := [5]) (by kernel_rfl) (by simp) ?_
          refine AllReadyIn.cons rfl (fun K hK => ?_) AllReadyIn.nil
          go_simp
          refine ⟨fun _ => by omega, ?_⟩
          refine (round_any HR.out).mono ?_
          rintro e W4 ⟨hk4, ⟨rfl, hJ4⟩ | ⟨rfl, hX4⟩⟩
          · refine hK _ _ ?_
            clear hK K
            refine wpAnyIn_ready (rs := [6]) (by kernel_rfl) (by simp) ?_
            refine AllReadyIn.cons rfl (fun K hK => ?_) AllReadyIn.nil
            go_simp
            refine hK _ _ ?_
            clear hK K
            refine wpAnyIn_done (by kernel_rfl) ?_ _
            clear hy
            gi_wp2
            exact ⟨k3.trans (hk4.weaken fun k h => h.imp id fun h => by have := HSZ.out; omega), hJ4, keeps_box iY3 hk4 (.inr (Nat.le_refl _)), by rw [HSX.out]; exact keeps_box iR3 hk4 (.inr (by show W.heap.size ≤ W.heap.size + 1; omega)), Nat.le_trans (Nat.le_trans iW b3.size) hk4.1⟩
          · refine hK _ _ ?_
            clear hK K
            refine wpAnyIn_ready (rs := [6]) (by kernel_rfl) (by simp) ?_
            refine AllReadyIn.cons rfl (fun K hK => ?_) AllReadyIn.nil
            go_simp
            refine hK _ _ ?_
            clear hK K
            refine wpAnyIn_done (by kernel_rfl) ?_ _
            clear hy
            gi_wp2
            exact ⟨k3.trans (hk4.weaken fun k h => h.imp id fun h => by have := HSZ.out; omega), rfl, hX4⟩
        · go_simp
          refine hK _ _ ?_
          clear hK K
          refine wpAnyIn_ready (rs := [1, 4]) (by kernel_rfl) (by simp) ?_
          refine AllReadyIn.cons rfl (fun K hK => ?_) (AllReadyIn.cons rfl (fun K hK => ?_) AllReadyIn.nil)
          · go_simp
            refine hK _ _ ?_
            clear hK K
            refine wpAnyIn_ready (rs := [4]) (by kernel_rfl) (by simp) ?_
            refine AllReadyIn.cons rfl (fun K hK => ?_) AllReadyIn.nil
            go_simp
            refine ⟨trivial, fun _ => by omega, ?_⟩
            refine (CallsIn.inRound l2 (callsIn_wide.2 (told_any _ _))).mono ?_
            rintro e w5 ⟨rfl, rfl⟩
            refine hK _ _ ?_
            clear hK K
            refine wpAnyIn_ready (rs := [5]) (by kernel_rfl) (by simp) ?_
            refine AllReadyIn.cons rfl (fun K hK => ?_) AllReadyIn.nil
            go_simp
            refine ⟨fun _ => by omega, ?_⟩
            refine (round_any HR.out).mono ?_
            rintro e W4 ⟨hk4, ⟨rfl, hJ4⟩ | ⟨rfl, hX4⟩⟩
            · refine hK _ _ ?_
              clear hK K
              refine wpAnyIn_ready (rs := [6]) (by kernel_rfl) (by simp) ?_
              refine AllReadyIn.cons rfl (fun K hK => ?_) AllReadyIn.nil
              go_simp
              refine hK _ _ ?_
              clear hK K
              refine wpAnyIn_done (by kernel_rfl) ?_ _
              clear hy
              gi_wp2
              exact ⟨k3.trans (hk4.weaken fun k h => h.imp id fun h => by have := HSZ.out; omega), hJ4, keeps_box iY3 hk4 (.inr (Nat.le_refl _)), by rw [HSX.out]; exact keeps_box iR3 hk4 (.inr (by show W.heap.size ≤ W.heap.size + 1; omega)), Nat.le_trans (Nat.le_trans iW b3.size) hk4.1⟩
            · refine hK _ _ ?_
              clear hK K
              refine wpAnyIn_ready (rs := [6]) (by kernel_rfl) (by simp) ?_
              refine AllReadyIn.cons rfl (fun K hK => ?_) AllReadyIn.nil
              go_simp
              refine hK _ _ ?_
              clear hK K
              refine wpAnyIn_done (by kernel_rfl) ?_ _
              clear hy
              gi_wp2
              exact ⟨k3.trans (hk4.weaken fun k h => h.imp id fun h => by have := HSZ.out; omega), rfl, hX4⟩
          · go_simp
            refine ⟨trivial, fun _ => by omega, ?_⟩
            refine (CallsIn.inRound l2 (callsIn_wide.2 (told_any _ _))).mono ?_
            rintro e w5 ⟨rfl, rfl⟩
            refine hK _ _ ?_
            clear hK K
            refine wpAnyIn_ready (rs := [1]) (by kernel_rfl) (by simp) ?_
            refine AllReadyIn.cons rfl (fun K hK => ?_) AllReadyIn.nil
            go_simp
            refine hK _ _ ?_
            clear hK K
            refine wpAnyIn_ready (rs := [5]) (by kernel_rfl) (by simp) ?_
            refine AllReadyIn.cons rfl (fun K hK => ?_) AllReadyIn.nil
            go_simp
            refine ⟨fun _ => by omega, ?_⟩
            refine (round_any HR.out).mono ?_
            rintro e W4 ⟨hk4, ⟨rfl, hJ4⟩ | ⟨rfl, hX4⟩⟩
            · refine hK _ _ ?_
              clear hK K
              refine wpAnyIn_ready (rs := [6]) (by kernel_rfl) (by simp) ?_
              refine AllReadyIn.cons rfl (fun K hK => ?_) AllReadyIn.nil
              go_simp
              refine hK _ _ ?_
              clear hK K
              refine wpAnyIn_done (by kernel_rfl) ?_ _
              clear hy
              gi_wp2
              exact ⟨k3.trans (hk4.weaken fun k h => h.imp id fun h => by have := HSZ.out; omega), hJ4, keeps_box iY3 hk4 (.inr (Nat.le_refl _)), by rw [HSX.out]; exact keeps_box iR3 hk4 (.inr (by show W.heap.size ≤ W.heap.size + 1; omega)), Nat.le_trans (Nat.le_trans iW b3.size) hk4.1⟩
            · refine hK _ _ ?_
              clear hK K
              refine wpAnyIn_ready (rs := [6]) (by kernel_rfl) (by simp) ?_
              refine AllReadyIn.cons rfl (fun K hK => ?_) AllReadyIn.nil
              go_simp
              refine hK _ _ ?_
              clear hK K
              refine wpAnyIn_done (by kernel_rfl) ?_ _
              clear hy
              gi_wp2
              exact ⟨k3.trans (hk4.weaken fun k h => h.imp id fun h => by have := HSZ.out; omega), rfl, hX4⟩
    · go_simp
      refine hK _ _ ?_
      clear hK K
      refine wpAnyIn_ready (rs := [0, 2]) (by kernel_rfl) (by simp) ?_
      refine AllReadyIn.cons rfl (fun K hK => ?_) (AllReadyIn.cons rfl (fun K hK => ?_) AllReadyIn.nil)
      · go_simp
        refine hK _ _ ?_
        clear hK K
        refine wpAnyIn_ready (rs := [2]) (by kernel_rfl) (by simp) ?_
        refine AllReadyIn.cons rfl (fun K hK => ?_) AllReadyIn.nil
        go_simp
        refine hK _ _ ?_
        clear hK K
        refine wpAnyIn_ready (rs := [3]) (by kernel_rfl) (by simp) ?_
        refine AllReadyIn.cons rfl (fun K hK => ?_) AllReadyIn.nil
        go_simp
        refine hK _ _ ?_
        clear hK K
        refine wpAnyIn_ready (rs := [4]) (by kernel_rfl) (by simp) ?_
        refine AllReadyIn.cons rfl (fun K hK => ?_) AllReadyIn.nil
        go_simp
        refine ⟨trivial, fun _ => by omega, ?_⟩
        refine (CallsIn.inRound l2 (callsIn_wide.2 (told_any _ _))).mono ?_
        rintro e w5 ⟨rfl, rfl⟩
        refine hK _ _ ?_
        clear hK K
        refine wpAnyIn_ready (rs := [5]) (by kernel_rfl) (by simp) ?_
        refine AllReadyIn.cons rfl (fun K hK => ?_) AllReadyIn.nil
        go_simp
        refine ⟨fun _ => by omega, ?_⟩
        refine (round_any HR.out).mono ?_
        rintro e W4 ⟨hk4, ⟨rfl, hJ4⟩ | ⟨rfl, hX4⟩⟩
        · refine hK _ _ ?_
          clear hK K
          refine wpAnyIn_ready (rs := [6]) (by kernel_rfl) (by simp) ?_
          refine AllReadyIn.cons rfl (fun K hK => ?_) AllReadyIn.nil
          go_simp
          refine hK _ _ ?_
          clear hK K
          refine wpAnyIn_done (by kernel_rfl) ?_ _
          clear hy
          gi_wp2
          exact ⟨k3.trans (hk4.weaken fun k h => h.imp id fun h => by have := HSZ.out; omega), hJ4, keeps_box iY3 hk4 (.inr (Nat.le_refl _)), by rw [HSX.out]; exact keeps_box iR3 hk4 (.inr (by show W.heap.size ≤ W.heap.size + 1; omega)), Nat.le_trans (Nat.le_trans iW b3.size) hk4.1⟩
        · refine hK _ _ ?_
          clear hK K
          refine wpAnyIn_ready (rs := [6]) (by kernel_rfl) (by simp) ?_
          refine AllReadyIn.cons rfl (fun K hK => ?_) AllReadyIn.nil
          go_simp
          refine hK _ _ ?_
          clear hK K
          refine wpAnyIn_done (by kernel_rfl) ?_ _
          clear hy
          gi_wp2
          exact ⟨k3.trans (hk4.weaken fun k h => h.imp id fun h => by have := HSZ.out; omega), rfl, hX4⟩
      · go_simp
        refine hK _ _ ?_
        clear hK K
        refine wpAnyIn_ready (rs := [0, 3]) (by kernel_rfl) (by simp) ?_
        refine AllReadyIn.cons rfl (fun K hK => ?_) (AllReadyIn.cons rfl (fun K hK => ?_) AllReadyIn.nil)
        · go_simp
          refine hK _ _ ?_
          clear hK K
          refine wpAnyIn_ready (rs := [3]) (by kernel_rfl) (by simp) ?_
          refine AllReadyIn.cons rfl (fun K hK => ?_) AllReadyIn.nil
          go_simp
          refine hK _ _ ?_
          clear hK K
          refine wpAnyIn_ready (rs := [4]) (by kernel_rfl) (by simp) ?_
          refine AllReadyIn.cons rfl (fun K hK => ?_) AllReadyIn.nil
          go_simp
          refine ⟨trivial, fun _ => by omega, ?_⟩
          refine (CallsIn.inRound l2 (callsIn_wide.2 (told_any _ _))).mono ?_
          rintro e w5 ⟨rfl, rfl⟩
          refine hK _ _ ?_
          clear hK K
          refine wpAnyIn_ready (rs := [5]) (by kernel_rfl) (by simp) ?_
          refine AllReadyIn.cons rfl (fun K hK => ?_) AllReadyIn.nil
          go_simp
          refine ⟨fun _ => by omega, ?_⟩
          refine (round_any HR.out).mono ?_
          rintro e W4 ⟨hk4, ⟨rfl, hJ4⟩ | ⟨rfl, hX4⟩⟩
          · refine hK _ _ ?_
            clear hK K
            refine wpAnyIn_ready (rs := [6]) (by kernel_rfl) (by simp) ?_
            refine AllReadyIn.cons rfl (fun K hK => ?_) AllReadyIn.nil
            go_simp
            refine hK _ _ ?_
            clear hK K
            refine wpAnyIn_done (by kernel_rfl) ?_ _
            clear hy
            gi_wp2
            exact ⟨k3.trans (hk4.weaken fun k h => h.imp id fun h => by have := HSZ.out; omega), hJ4, keeps_box iY3 hk4 (.inr (Nat.le_refl _)), by rw [HSX.out]; exact keeps_box iR3 hk4 (.inr (by show W.heap.size ≤ W.heap.size + 1; omega)), Nat.le_trans (Nat.le_trans iW b3.size) hk4.1⟩
          · refine hK _ _ ?_
            clear hK K
            refine wpAnyIn_ready (rs := [6]) (by kernel_rfl) (by simp) ?_
            refine AllReadyIn.cons rfl (fun K hK => ?_) AllReadyIn.nil
            go_simp
            refine hK _ _ ?_
            clear hK K
            refine wpAnyIn_done (by kernel_rfl) ?_ _
            clear hy
            gi_wp2
            exact ⟨k3.trans (hk4.weaken fun k h => h.imp id fun h => by have := HSZ.out; omega), rfl, hX4⟩
        · go_simp
          refine hK _ _ ?_
          clear hK K
          refine wpAnyIn_ready (rs := [0, 4]) (by kernel_rfl) (by simp) ?_
          refine AllReadyIn.cons rfl (fun K hK => ?_) (AllReadyIn.cons rfl (fun K hK => ?_) AllReadyIn.nil)
          · go_simp
            refine hK _ _ ?_
            clear hK K
            refine wpAnyIn_ready (rs := [4]) (by kernel_rfl) (by simp) ?_
            refine AllReadyIn.cons rfl (fun K hK => ?_) AllReadyIn.nil
            go_simp
            refine ⟨trivial, fun _ => by omega, ?_⟩
            refine (CallsIn.inRound l2 (callsIn_wide.2 (told_any _ _))).mono ?_
            rintro e w5 ⟨rfl, rfl⟩
            refine hK _ _ ?_
            clear hK K
            refine wpAnyIn_ready (rs := [5]) (by kernel_rfl) (by simp) ?_
            refine AllReadyIn.cons rfl (fun K hK => ?_) AllReadyIn.nil
            go_simp
            refine ⟨fun _ => by omega, ?_⟩
            refine (round_any HR.out).mono ?_
            rintro e W4 ⟨hk4, ⟨rfl, hJ4⟩ | ⟨rfl, hX4⟩⟩
            · refine hK _ _ ?_
              clear hK K
              refine wpAnyIn_ready (rs := [6]) (by kernel_rfl) (by simp) ?_
              refine AllReadyIn.cons rfl (fun K hK => ?_) AllReadyIn.nil
              go_simp
              refine hK _ _ ?_
              clear hK K
              refine wpAnyIn_done (by kernel_rfl) ?_ _
              clear hy
              gi_wp2
              exact ⟨k3.trans (hk4.weaken fun k h => h.imp id fun h => by have := HSZ.out; omega), hJ4, keeps_box iY3 hk4 (.inr (Nat.le_refl _)), by rw [HSX.out]; exact keeps_box iR3 hk4 (.inr (by show W.heap.size ≤ W.heap.size + 1; omega)), Nat.le_trans (Nat.le_trans iW b3.size) hk4.1⟩
            · refine hK _ _ ?_
              clear hK K
              refine wpAnyIn_ready (rs := [6]) (by kernel_rfl) (by simp) ?_
              refine AllReadyIn.cons rfl (fun K hK => ?_) AllReadyIn.nil
              go_simp
              refine hK _ _ ?_
              clear hK K
              refine wpAnyIn_done (by kernel_rfl) ?_ _
              clear hy
              gi_wp2
              exact ⟨k3.trans (hk4.weaken fun k h => h.imp id fun h => by have := HSZ.out; omega), rfl, hX4⟩
          · go_simp
            refine ⟨trivial, fun _ => by omega, ?_⟩
            refine (CallsIn.inRound l2 (callsIn_wide.2 (told_any _ _))).mono ?_
            rintro e w5 ⟨rfl, rfl⟩
            refine hK _ _ ?_
            clear hK K
            refine wpAnyIn_ready (rs := [0]) (by kernel_rfl) (by simp) ?_
            refine AllReadyIn.cons rfl (fun K hK => ?_) AllReadyIn.nil
            go_simp
            refine hK _ _ ?_
            clear hK K
            refine wpAnyIn_ready (rs := [5]) (by kernel_rfl) (by simp) ?_
            refine AllReadyIn.cons rfl (fun K hK => ?_) AllReadyIn.nil
            go_simp
            refine ⟨fun _ => by omega, ?_⟩
            refine (round_any HR.out).mono ?_
            rintro e W4 ⟨hk4, ⟨rfl, hJ4⟩ | ⟨rfl, hX4⟩⟩
            · refine hK _ _ ?_
              clear hK K
              refine wpAnyIn_ready (rs := [6]) (by kernel_rfl) (by simp) ?_
              refine AllReadyIn.cons rfl (fun K hK => ?_) AllReadyIn.nil
              go_simp
              refine hK _ _ ?_
              clear hK K
              refine wpAnyIn_done (by kernel_rfl) ?_ _
              clear hy
              gi_wp2
              exact ⟨k3.trans (hk4.weaken fun k h => h.imp id fun h => by have := HSZ.out; omega), hJ4, keeps_box iY3 hk4 (.inr (Nat.le_refl _)), by rw [HSX.out]; exact keeps_box iR3 hk4 (.inr (by show W.heap.size ≤ W.heap.size + 1; omega)), Nat.le_trans (Nat.le_trans iW b3.size) hk4.1⟩
            · refine hK _ _ ?_
              clear hK K
              refine wpAnyIn_ready (rs := [6]) (by kernel_rfl) (by simp) ?_
              refine AllReadyIn.cons rfl (fun K hK => ?_) AllReadyIn.nil
              go_simp
              refine hK _ _ ?_
              clear hK K
              refine wpAnyIn_done (by kernel_rfl) ?_ _
              clear hy
              gi_wp2
              exact ⟨k3.trans (hk4.weaken fun k h => h.imp id fun h => by have := HSZ.out; omega), rfl, hX4⟩
    · go_simp
      refine hK _ _ ?_
      clear hK K
      refine wpAnyIn_ready (rs := [0, 1, 3]) (by kernel_rfl) (by simp) ?_
      refine AllReadyIn.cons rfl (fun K hK => ?_) (AllReadyIn.cons rfl (fun K hK => ?_) (AllReadyIn.cons rfl (fun K hK => ?_) AllReadyIn.nil))
      · go_simp
        refine hK _ _ ?_
        clear hK K
        refine wpAnyIn_ready (rs := [1, 3]) (by kernel_rfl) (by simp) ?_
        refine AllReadyIn.cons rfl (fun K hK => ?_) (AllReadyIn.cons rfl (fun K hK => ?_) AllReadyIn.nil)
        · go_simp
          refine hK _ _ ?_
          clear hK K
          refine wpAnyIn_ready (rs := [3]) (by kernel_rfl) (by simp) ?_
          refine AllReadyIn.cons rfl (fun K hK => ?_) AllReadyIn.nil
          go_simp
          refine hK _ _ ?_
          clear hK K
          refine wpAnyIn_ready (rs := [4]) (by kernel_rfl) (by simp) ?_
          refine AllReadyIn.cons rfl (fun K hK => ?_) AllReadyIn.nil
          go_simp
          refine ⟨trivial, fun _ => by omega, ?_⟩
          refine (CallsIn.inRound l2 (callsIn_wide.2 (told_any _ _))).mono ?_
          rintro e w5 ⟨rfl, rfl⟩
          refine hK _ _ ?_
          clear hK K
          refine wpAnyIn_ready (rs := [5]) (by kernel_rfl) (by simp) ?_
          refine AllReadyIn.cons rfl (fun K hK => ?_) AllReadyIn.nil
          go_simp
          refine ⟨fun _ => by omega, ?_⟩
          refine (round_any HR.out).mono ?_
          rintro e W4 ⟨hk4, ⟨rfl, hJ4⟩ | ⟨rfl, hX4⟩⟩
          · refine hK _ _ ?_
            clear hK K
            refine wpAnyIn_ready (rs := [6]) (by kernel_rfl) (by simp) ?_
            refine AllReadyIn.cons rfl (fun K hK => ?_) AllReadyIn.nil
            go_simp
            refine hK _ _ ?_
            clear hK K
            refine wpAnyIn_done (by kernel_rfl) ?_ _
            clear hy
            gi_wp2
            exact ⟨k3.trans (hk4.weaken fun k h => h.imp id fun h => by have := HSZ.out; omega), hJ4, keeps_box iY3 hk4 (.inr (Nat.le_refl _)), by rw [HSX.out]; exact keeps_box iR3 hk4 (.inr (by show W.heap.size ≤ W.heap.size + 1; omega)), Nat.le_trans (Nat.le_trans iW b3.size) hk4.1⟩
          · refine hK _ _ ?_
            clear hK K
            refine wpAnyIn_ready (rs := [6]) (by kernel_rfl) (by simp) ?_
            refine AllReadyIn.cons rfl (fun K hK => ?_) AllReadyIn.nil
            go_simp
            refine hK _ _ ?_
            clear hK K
            refine wpAnyIn_done (by kernel_rfl) ?_ _
            clear hy
            gi_wp2
            exact ⟨k3.trans (hk4.weaken fun k h => h.imp id fun h => by have := HSZ.out; omega), rfl, hX4⟩
        · go_simp
          refine hK _ _ ?_
          clear hK K
          refine wpAnyIn_ready (rs := [1, 4]) (by kernel_rfl) (by simp) ?_
          refine AllReadyIn.cons rfl (fun K hK => ?_) (AllReadyIn.cons rfl (fun K hK => ?_) AllReadyIn.nil)
          · go_simp
            refine hK _ _ ?_
            clear hK K
            refine wpAnyIn_ready (rs := [4]) (by kernel_rfl) (by simp) ?_
            refine AllReadyIn.cons rfl (fun K hK => ?_) AllReadyIn.nil
            go_simp
            refine ⟨trivial, fun _ => by omega, ?_⟩
            refine (CallsIn.inRound l2 (callsIn_wide.2 (told_any _ _))).mono ?_
            rintro e w5 ⟨rfl, rfl⟩
            refine hK _ _ ?_
            clear hK K
            refine wpAnyIn_ready (rs := [5]) (by kernel_rfl) (by simp) ?_
            refine AllReadyIn.cons rfl (fun K hK => ?_) AllReadyIn.nil
            go_simp
            refine ⟨fun _ => by omega, ?_⟩
            refine (round_any HR.out).mono ?_
            rintro e W4 ⟨hk4, ⟨rfl, hJ4⟩ | ⟨rfl, hX4⟩⟩
            · refine hK _ _ ?_
              clear hK K
              refine wpAnyIn_ready (rs := [6]) (by kernel_rfl) (by simp) ?_
              refine AllReadyIn.cons rfl (fun K hK => ?_) AllReadyIn.nil
              go_simp
              refine hK _ _ ?_
              clear hK K
              refine wpAnyIn_done (by kernel_rfl) ?_ _
              clear hy
              gi_wp2
              exact ⟨k3.trans (hk4.weaken fun k h => h.imp id fun h => by have := HSZ.out; omega), hJ4, keeps_box iY3 hk4 (.inr (Nat.le_refl _)), by rw [HSX.out]; exact keeps_box iR3 hk4 (.inr (by show W.heap.size ≤ W.heap.size + 1; omega)), Nat.le_trans (Nat.le_trans iW b3.size) hk4.1⟩
            · refine hK _ _ ?_
              clear hK K
              refine wpAnyIn_ready (rs := [6]) (by kernel_rfl) (by simp) ?_
              refine AllReadyIn.cons rfl (fun K hK => ?_) AllReadyIn.nil
              go_simp
              refine hK _ _ ?_
              clear hK K
              refine wpAnyIn_done (by kernel_rfl) ?_ _
              clear hy
              gi_wp2
              exact ⟨k3.trans (hk4.weaken fun k h => h.imp id fun h => by have := HSZ.out; omega), rfl, hX4⟩
          · go_simp
            refine ⟨trivial, fun _ => by omega, ?_⟩
            refine (CallsIn.inRound l2 (callsIn_wide.2 (told_any _ _))).mono ?_
            rintro e w5 ⟨rfl, rfl⟩
            refine hK _ _ ?_
            clear hK K
            refine wpAnyIn_ready (rs := [1]) (by kernel_rfl) (by simp) ?_
            refine AllReadyIn.cons rfl (fun K hK => ?_) AllReadyIn.nil
            go_simp
            refine hK _ _ ?_
            clear hK K
            refine wpAnyIn_ready (rs := [5]) (by kernel_rfl) (by simp) ?_
            refine AllReadyIn.cons rfl (fun K hK => ?_) AllReadyIn.nil
            go_simp
            refine ⟨fun _ => by omega, ?_⟩
            refine (round_any HR.out).mono ?_
            rintro e W4 ⟨hk4, ⟨rfl, hJ4⟩ | ⟨rfl, hX4⟩⟩
            · refine hK _ _ ?_
              clear hK K
              refine wpAnyIn_ready (rs := [6]) (by kernel_rfl) (by simp) ?_
              refine AllReadyIn.cons rfl (fun K hK => ?_) AllReadyIn.nil
              go_simp
              refine hK _ _ ?_
              clear hK K
              refine wpAnyIn_done (by kernel_rfl) ?_ _
              clear hy
              gi_wp2
              exact ⟨k3.trans (hk4.weaken fun k h => h.imp id fun h => by have := HSZ.out; omega), hJ4, keeps_box iY3 hk4 (.inr (Nat.le_refl _)), by rw [HSX.out]; exact keeps_box iR3 hk4 (.inr (by show W.heap.size ≤ W.heap.size + 1; omega)), Nat.le_trans (Nat.le_trans iW b3.size) hk4.1⟩
            · refine hK _ _ ?_
              clear hK K
              refine wpAnyIn_ready (rs := [6]) (by kernel_rfl) (by simp) ?_
              refine AllReadyIn.cons rfl (fun K hK => ?_) AllReadyIn.nil
              go_simp
              refine hK _ _ ?_
              clear hK K
              refine wpAnyIn_done (by kernel_rfl) ?_ _
              clear hy
              gi_wp2
              exact ⟨k3.trans (hk4.weaken fun k h => h.imp id fun h => by have := HSZ.out; omega), rfl, hX4⟩
      · go_simp
        refine hK _ _ ?_
        clear hK K
        refine wpAnyIn_ready (rs := [0, 3]) (by kernel_rfl) (by simp) ?_
        refine AllReadyIn.cons rfl (fun K hK => ?_) (AllReadyIn.cons rfl (fun K hK => ?_) AllReadyIn.nil)
        · go_simp
          refine hK _ _ ?_
          clear hK K
          refine wpAnyIn_ready (rs := [3]) (by kernel_rfl) (by simp) ?_
          refine AllReadyIn.cons rfl (fun K hK => ?_) AllReadyIn.nil
          go_simp
          refine hK _ _ ?_
          clear hK K
          refine wpAnyIn_ready (rs := [4]) (by kernel_rfl) (by simp) ?_
          refine AllReadyIn.cons rfl (fun K hK => ?_) AllReadyIn.nil
          go_simp
          refine ⟨trivial, fun _ => by omega, ?_⟩
          refine (CallsIn.inRound l2 (callsIn_wide.2 (told_any _ _))).mono ?_
          rintro e w5 ⟨rfl, rfl⟩
          refine hK _ _ ?_
          clear hK K
          refine wpAnyIn_ready (rs := [5]) (by kernel_rfl) (by simp) ?_
          refine AllReadyIn.cons rfl (fun K hK => ?_) AllReadyIn.nil
          go_simp
          refine ⟨fun _ => by omega, ?_⟩
          refine (round_any HR.out).mono ?_
          rintro e W4 ⟨hk4, ⟨rfl, hJ4⟩ | ⟨rfl, hX4⟩⟩
          · refine hK _ _ ?_
            clear hK K
            refine wpAnyIn_ready (rs := [6]) (by kernel_rfl) (by simp) ?_
            refine AllReadyIn.cons rfl (fun K hK => ?_) AllReadyIn.nil
            go_simp
            refine hK _ _ ?_
            clear hK K
            refine wpAnyIn_done (by kernel_rfl) ?_ _
            clear hy
            gi_wp2
            exact ⟨k3.trans (hk4.weaken fun k h => h.imp id fun h => by have := HSZ.out; omega), hJ4, keeps_box iY3 hk4 (.inr (Nat.le_refl _)), by rw [HSX.out]; exact keeps_box iR3 hk4 (.inr (by show W.heap.size ≤ W.heap.size + 1; omega)), Nat.le_trans (Nat.le_trans iW b3.size) hk4.1⟩
          · refine hK _ _ ?_
            clear hK K
            refine wpAnyIn_ready (rs := [6]) (by kernel_rfl) (by simp) ?_
            refine AllReadyIn.cons rfl (fun K hK => ?_) AllReadyIn.nil
            go_simp
            refine hK _ _ ?_
            clear hK K
            refine wpAnyIn_done (by kernel_rfl) ?_ _
            clear hy
            gi_wp2
            exact ⟨k3.trans (hk4.weaken fun k h => h.imp id fun h => by have := HSZ.out; omega), rfl, hX4⟩
        · go_simp
          refine hK _ _ ?_
          clear hK K
          refine wpAnyIn_ready (rs := [0, 4]) (by kernel_rfl) (by simp) ?_
          refine AllReadyIn.cons rfl (fun K hK => ?_) (AllReadyIn.cons rfl (fun K hK => ?_) AllReadyIn.nil)
          · go_simp
            refine hK _ _ ?_
            clear hK K
            refine wpAnyIn_ready (rs := [4]) (by kernel_rfl) (by simp) ?_
            refine AllReadyIn.cons rfl (fun K hK => ?_) AllReadyIn.nil
            go_simp
            refine ⟨trivial, fun _ => by omega, ?_⟩
            refine (CallsIn.inRound l2 (callsIn_wide.2 (told_any _ _))).mono ?_
            rintro e w5 ⟨rfl, rfl⟩
            refine hK _ _ ?_
            clear hK K
            refine wpAnyIn_ready (rs := [5]) (by kernel_rfl) (by simp) ?_
            refine AllReadyIn.cons rfl (fun K hK => ?_) AllReadyIn.nil
            go_simp
            refine ⟨fun _ => by omega, ?_⟩
            refine (round_any HR.out).mono ?_
            rintro e W4 ⟨hk4, ⟨rfl, hJ4⟩ | ⟨rfl, hX4⟩⟩
            · refine hK _ _ ?_
              clear hK K
              refine wpAnyIn_ready (rs := [6]) (by kernel_rfl) (by simp) ?_
              refine AllReadyIn.cons rfl (fun K hK => ?_) AllReadyIn.nil
              go_simp
              refine hK _ _ ?_
              clear hK K
              refine wpAnyIn_done (by kernel_rfl) ?_ _
              clear hy
              gi_wp2
              exact ⟨k3.trans (hk4.weaken fun k h => h.imp id fun h => by have := HSZ.out; omega), hJ4, keeps_box iY3 hk4 (.inr (Nat.le_refl _)), by rw [HSX.out]; exact keeps_box iR3 hk4 (.inr (by show W.heap.size ≤ W.heap.size + 1; omega)), Nat.le_trans (Nat.le_trans iW b3.size) hk4.1⟩
            · refine hK _ _ ?_
              clear hK K
              refine wpAnyIn_ready (rs := [6]) (by kernel_rfl) (by simp) ?_
              refine AllReadyIn.cons rfl (fun K hK => ?_) AllReadyIn.nil
              go_simp
              refine hK _ _ ?_
              clear hK K
              refine wpAnyIn_done (by kernel_rfl) ?_ _
              clear hy
              gi_wp2
              exact ⟨k3.trans (hk4.weaken fun k h => h.imp id fun h => by have := HSZ.out; omega), rfl, hX4⟩
          · go_simp
            refine ⟨trivial, fun _ => by omega, ?_⟩
            refine (CallsIn.inRound l2 (callsIn_wide.2 (told_any _ _))).mono ?_
            rintro e w5 ⟨rfl, rfl⟩
            refine hK _ _ ?_
            clear hK K
            refine wpAnyIn_ready (rs := [0]) (by kernel_rfl) (by simp) ?_
            refine AllReadyIn.cons rfl (fun K hK => ?_) AllReadyIn.nil
            go_simp
            refine hK _ _ ?_
            clear hK K
            refine wpAnyIn_ready (rs := [5]) (by kernel_rfl) (by simp) ?_
            refine AllReadyIn.cons rfl (fun K hK => ?_) AllReadyIn.nil
            go_simp
            refine ⟨fun _ => by omega, ?_⟩
            refine (round_any HR.out).mono ?_
            rintro e W4 ⟨hk4, ⟨rfl, hJ4⟩ | ⟨rfl, hX4⟩⟩
            · refine hK _ _ ?_
              clear hK K
              refine wpAnyIn_ready (rs := [6]) (by kernel_rfl) (by simp) ?_
              refine AllReadyIn.cons rfl (fun K hK => ?_) AllReadyIn.nil
              go_simp
              refine hK _ _ ?_
              clear hK K
              refine wpAnyIn_done (by kernel_rfl) ?_ _
              clear hy
              gi_wp2
              exact ⟨k3.trans (hk4.weaken fun k h => h.imp id fun h => by have := HSZ.out; omega), hJ4, keeps_box iY3 hk4 (.inr (Nat.le_refl _)), by rw [HSX.out]; exact keeps_box iR3 hk4 (.inr (by show W.heap.size ≤ W.heap.size + 1; omega)), Nat.le_trans (Nat.le_trans iW b3.size) hk4.1⟩
            · refine hK _ _ ?_
              clear hK K
              refine wpAnyIn_ready (rs := [6]) (by kernel_rfl) (by simp) ?_
              refine AllReadyIn.cons rfl (fun K hK => ?_) AllReadyIn.nil
              go_simp
              refine hK _ _ ?_
              clear hK K
              refine wpAnyIn_done (by kernel_rfl) ?_ _
              clear hy
              gi_wp2
              exact ⟨k3.trans (hk4.weaken fun k h => h.imp id fun h => by have := HSZ.out; omega), rfl, hX4⟩
      · go_simp
        refine hK _ _ ?_
        clear hK K
        refine wpAnyIn_ready (rs := [0, 1, 4]) (by kernel_rfl) (by simp) ?_
        refine AllReadyIn.cons rfl (fun K hK => ?_) (AllReadyIn.cons rfl (fun K hK => ?_) (AllReadyIn.cons rfl (fun K hK => ?_) AllReadyIn.nil))
        · go_simp
          refine hK _ _ ?_
          clear hK K
          refine wpAnyIn_ready (rs := [1, 4]) (by kernel_rfl) (by simp) ?_
          refine AllReadyIn.cons rfl (fun K hK => ?_) (AllReadyIn.cons rfl (fun K hK => ?_) AllReadyIn.nil)
          · go_simp
            refine hK _ _ ?_
            clear hK K
            refine wpAnyIn_ready (rs := [4]) (by kernel_rfl) (by simp) ?_
            refine AllReadyIn.cons rfl (fun K hK => ?_) AllReadyIn.nil
            go_simp
            refine ⟨trivial, fun _ => by omega, ?_⟩
            refine (CallsIn.inRound l2 (callsIn_wide.2 (told_any _ _))).mono ?_
            rintro e w5 ⟨rfl, rfl⟩
            refine hK _ _ ?_
            clear hK K
            refine wpAnyIn_ready (rs := [5]) (by kernel_rfl) (by simp) ?_
            refine AllReadyIn.cons rfl (fun K hK => ?_) AllReadyIn.nil
            go_simp
            refine ⟨fun _ => by omega, ?_⟩
            refine (round_any HR.out).mono ?_
            rintro e W4 ⟨hk4, ⟨rfl, hJ4⟩ | ⟨rfl, hX4⟩⟩
            · refine hK _ _ ?_
              clear hK K
              refine wpAnyIn_ready (rs := [6]) (by kernel_rfl) (by simp) ?_
              refine AllReadyIn.cons rfl (fun K hK => ?_) AllReadyIn.nil
              go_simp
              refine hK _ _ ?_
              clear hK K
              refine wpAnyIn_done (by kernel_rfl) ?_ _
              clear hy
              gi_wp2
              exact ⟨k3.trans (hk4.weaken fun k h => h.imp id fun h => by have := HSZ.out; omega), hJ4, keeps_box iY3 hk4 (.inr (Nat.le_refl _)), by rw [HSX.out]; exact keeps_box iR3 hk4 (.inr (by show W.heap.size ≤ W.heap.size + 1; omega)), Nat.le_trans (Nat.le_trans iW b3.size) hk4.1⟩
            · refine hK _ _ ?_
              clear hK K
              refine wpAnyIn_ready (rs := [6]) (by kernel_rfl) (by simp) ?_
              refine AllReadyIn.cons rfl (fun K hK => ?_) AllReadyIn.nil
              go_simp
              refine hK _ _ ?_
              clear hK K
              refine wpAnyIn_done (by kernel_rfl) ?_ _
              clear hy
              gi_wp2
              exact ⟨k3.trans (hk4.weaken fun k h => h.imp id fun h => by have := HSZ.out; omega), rfl, hX4⟩
          · go_simp
            refine ⟨trivial, fun _ => by omega, ?_⟩
            refine (CallsIn.inRound l2 (callsIn_wide.2 (told_any _ _))).mono ?_
            rintro e w5 ⟨rfl, rfl⟩
            refine hK _ _ ?_
            clear hK K
            refine wpAnyIn_ready (rs := [1]) (by kernel_rfl) (by simp) ?_
            refine AllReadyIn.cons rfl (fun K hK => ?_) AllReadyIn.nil
            go_simp
            refine hK _ _ ?_
            clear hK K
            refine wpAnyIn_ready (rs := [5]) (by kernel_rfl) (by simp) ?_
            refine AllReadyIn.cons rfl (fun K hK => ?_) AllReadyIn.nil
            go_simp
            refine ⟨fun _ => by omega, ?_⟩
            refine (round_any HR.out).mono ?_
            rintro e W4 ⟨hk4, ⟨rfl, hJ4⟩ | ⟨rfl, hX4⟩⟩
            · refine hK _ _ ?_
              clear hK K
              refine wpAnyIn_ready (rs := [6]) (by kernel_rfl) (by simp) ?_
              refine AllReadyIn.cons rfl (fun K hK => ?_) AllReadyIn.nil
              go_simp
              refine hK _ _ ?_
              clear hK K
              refine wpAnyIn_done (by kernel_rfl) ?_ _
              clear hy
              gi_wp2
              exact ⟨k3.trans (hk4.weaken fun k h => h.imp id fun h => by have := HSZ.out; omega), hJ4, keeps_box iY3 hk4 (.inr (Nat.le_refl _)), by rw [HSX.out]; exact keeps_box iR3 hk4 (.inr (by show W.heap.size ≤ W.heap.size + 1; omega)), Nat.le_trans (Nat.le_trans iW b3.size) hk4.1⟩
            · refine hK _ _ ?_
              clear hK K
              refine wpAnyIn_ready (rs := [6]) (by kernel_rfl) (by simp) ?_
              refine AllReadyIn.cons rfl (fun K hK => ?_) AllReadyIn.nil
              go_simp
              refine hK _ _ ?_
              clear hK K
              refine wpAnyIn_done (by kernel_rfl) ?_ _
              clear hy
              gi_wp2
              exact ⟨k3.trans (hk4.weaken fun k h => h.imp id fun h => by have := HSZ.out; omega), rfl, hX4⟩
        · go_simp
          refine hK _ _ ?_
          clear hK K
          refine wpAnyIn_ready (rs := [0, 4]) (by kernel_rfl) (by simp) ?_
          refine AllReadyIn.cons rfl (fun K hK => ?_) (AllReadyIn.cons rfl (fun K hK => ?_) AllReadyIn.nil)
          · go_simp
            refine hK _ _ ?_
            clear hK K
            refine wpAnyIn_ready (rs := [4]) (by kernel_rfl) (by simp) ?_
            refine AllReadyIn.cons rfl (fun K hK => ?_) AllReadyIn.nil
            go_simp
            refine ⟨trivial, fun _ => by omega, ?_⟩
            refine (CallsIn.inRound l2 (callsIn_wide.2 (told_any _ _))).mono ?_
            rintro e w5 ⟨rfl, rfl⟩
            refine hK _ _ ?_
            clear hK K
            refine wpAnyIn_ready (rs := [5]) (by kernel_rfl) (by simp) ?_
            refine AllReadyIn.cons rfl (fun K hK => ?_) AllReadyIn.nil
            go_simp
            refine ⟨fun _ => by omega, ?_⟩
            refine (round_any HR.out).mono ?_
            rintro e W4 ⟨hk4, ⟨rfl, hJ4⟩ | ⟨rfl, hX4⟩⟩
            · refine hK _ _ ?_
              clear hK K
              refine wpAnyIn_ready (rs := [6]) (by kernel_rfl) (by simp) ?_
              refine AllReadyIn.cons rfl (fun K hK => ?_) AllReadyIn.nil
              go_simp
              refine hK _ _ ?_
              clear hK K
              refine wpAnyIn_done (by kernel_rfl) ?_ _
              clear hy
              gi_wp2
              exact ⟨k3.trans (hk4.weaken fun k h => h.imp id fun h => by have := HSZ.out; omega), hJ4, keeps_box iY3 hk4 (.inr (Nat.le_refl _)), by rw [HSX.out]; exact keeps_box iR3 hk4 (.inr (by show W.heap.size ≤ W.heap.size + 1; omega)), Nat.le_trans (Nat.le_trans iW b3.size) hk4.1⟩
            · refine hK _ _ ?_
              clear hK K
              refine wpAnyIn_ready (rs := [6]) (by kernel_rfl) (by simp) ?_
              refine AllReadyIn.cons rfl (fun K hK => ?_) AllReadyIn.nil
              go_simp
              refine hK _ _ ?_
              clear hK K
              refine wpAnyIn_done (by kernel_rfl) ?_ _
              clear hy
              gi_wp2
              exact ⟨k3.trans (hk4.weaken fun k h => h.imp id fun h => by have := HSZ.out; omega), rfl, hX4⟩
          · go_simp
            refine ⟨trivial, fun _ => by omega, ?_⟩
            refine (CallsIn.inRound l2 (callsIn_wide.2 (told_any _ _))).mono ?_
            rintro e w5 ⟨rfl, rfl⟩
            refine hK _ _ ?_
            clear hK K
            refine wpAnyIn_ready (rs := [0]) (by kernel_rfl) (by simp) ?_
            refine AllReadyIn.cons rfl (fun K hK => ?_) AllReadyIn.nil
            go_simp
            refine hK _ _ ?_
            clear hK K
            refine wpAnyIn_ready (rs := [5]) (by kernel_rfl) (by simp) ?_
            refine AllReadyIn.cons rfl (fun K hK => ?_) AllReadyIn.nil
            go_simp
            refine ⟨fun _ => by omega, ?_⟩
            refine (round_any HR.out).mono ?_
            rintro e W4 ⟨hk4, ⟨rfl, hJ4⟩ | ⟨rfl, hX4⟩⟩
            · refine hK _ _ ?_
              clear hK K
              refine wpAnyIn_ready (rs := [6]) (by kernel_rfl) (by simp) ?_
              refine AllReadyIn.cons rfl (fun K hK => ?_) AllReadyIn.nil
              go_simp
              refine hK _ _ ?_
              clear hK K
              refine wpAnyIn_done (by kernel_rfl) ?_ _
              clear hy
              gi_wp2
              exact ⟨k3.trans (hk4.weaken fun k h => h.imp id fun h => by have := HSZ.out; omega), hJ4, keeps_box iY3 hk4 (.inr (Nat.le_refl _)), by rw [HSX.out]; exact keeps_box iR3 hk4 (.inr (by show W.heap.size ≤ W.heap.size + 1; omega)), Nat.le_trans (Nat.le_trans iW b3.size) hk4.1⟩
            · refine hK _ _ ?_
              clear hK K
              refine wpAnyIn_ready (rs := [6]) (by kernel_rfl) (by simp) ?_
              refine AllReadyIn.cons rfl (fun K hK => ?_) AllReadyIn.nil
              go_simp
              refine hK _ _ ?_
              clear hK K
              refine wpAnyIn_done (by kernel_rfl) ?_ _
              clear hy
              gi_wp2
              exact ⟨k3.trans (hk4.weaken fun k h => h.imp id fun h => by have := HSZ.out; omega), rfl, hX4⟩
        · go_simp
          refine ⟨trivial, fun _ => by omega, ?_⟩
          refine (CallsIn.inRound l2 (callsIn_wide.2 (told_any _ _))).mono ?_
          rintro e w5 ⟨rfl, rfl⟩
          refine hK _ _ ?_
          clear hK K
          refine wpAnyIn_ready (rs := [0, 1]) (by kernel_rfl) (by simp) ?_
          refine AllReadyIn.cons rfl (fun K hK => ?_) (AllReadyIn.cons rfl (fun K hK => ?_) AllReadyIn.nil)
          · go_simp
            refine hK _ _ ?_
            clear hK K
            refine wpAnyIn_ready (rs := [1]) (by kernel_rfl) (by simp) ?_
            refine AllReadyIn.cons rfl (fun K hK => ?_) AllReadyIn.nil
            go_simp
            refine hK _ _ ?_
            clear hK K
            refine wpAnyIn_ready (rs := [5]) (by kernel_rfl) (by simp) ?_
            refine AllReadyIn.cons rfl (fun K hK => ?_) AllReadyIn.nil
            go_simp
            refine ⟨fun _ => by omega, ?_⟩
            refine (round_any HR.out).mono ?_
            rintro e W4 ⟨hk4, ⟨rfl, hJ4⟩ | ⟨rfl, hX4⟩⟩
            · refine hK _ _ ?_
              clear hK K
              refine wpAnyIn_ready (rs := [6]) (by kernel_rfl) (by simp) ?_
              refine AllReadyIn.cons rfl (fun K hK => ?_) AllReadyIn.nil
              go_simp
              refine hK _ _ ?_
              clear hK K
              refine wpAnyIn_done (by kernel_rfl) ?_ _
              clear hy
              gi_wp2
              exact ⟨k3.trans (hk4.weaken fun k h => h.imp id fun h => by have := HSZ.out; omega), hJ4, keeps_box iY3 hk4 (.inr (Nat.le_refl _)), by rw [HSX.out]; exact keeps_box iR3 hk4 (.inr (by show W.heap.size ≤ W.heap.size + 1; omega)), Nat.le_trans (Nat.le_trans iW b3.size) hk4.1⟩
            · refine hK _ _ ?_
              clear hK K
              refine wpAnyIn_ready (rs := [6]) (by kernel_rfl) (by simp) ?_
              refine AllReadyIn.cons rfl (fun K hK => ?_) AllReadyIn.nil
              go_simp
              refine hK _ _ ?_
              clear hK K
              refine wpAnyIn_done (by kernel_rfl) ?_ _
              clear hy
              gi_wp2
              exact ⟨k3.trans (hk4.weaken fun k h => h.imp id fun h => by have := HSZ.out; omega), rfl, hX4⟩
          · go_simp
            refine hK _ _ ?_
            clear hK K
            refine wpAnyIn_ready (rs := [0]) (by kernel_rfl) (by simp) ?_
            refine AllReadyIn.cons rfl (fun K hK => ?_) AllReadyIn.nil
            go_simp
            refine hK _ _ ?_
            clear hK K
            refine wpAnyIn_ready (rs := [5]) (by kernel_rfl) (by simp) ?_
            refine AllReadyIn.cons rfl (fun K hK => ?_) AllReadyIn.nil
            go_simp
            refine ⟨fun _ => by omega, ?_⟩
            refine (round_any HR.out).mono ?_
            rintro e W4 ⟨hk4, ⟨rfl, hJ4⟩ | ⟨rfl, hX4⟩⟩
            · refine hK _ _ ?_
              clear hK K
              refine wpAnyIn_ready (rs := [6]) (by kernel_rfl) (by simp) ?_
              refine AllReadyIn.cons rfl (fun K hK => ?_) AllReadyIn.nil
              go_simp
              refine hK _ _ ?_
              clear hK K
              refine wpAnyIn_done (by kernel_rfl) ?_ _
              clear hy
              gi_wp2
              exact ⟨k3.trans (hk4.weaken fun k h => h.imp id fun h => by have := HSZ.out; omega), hJ4, keeps_box iY3 hk4 (.inr (Nat.le_refl _)), by rw [HSX.out]; exact keeps_box iR3 hk4 (.inr (by show W.heap.size ≤ W.heap.size + 1; omega)), Nat.le_trans (Nat.le_trans iW b3.size) hk4.1⟩
            · refine hK _ _ ?_
              clear hK K
              refine wpAnyIn_ready (rs := [6]) (by kernel_rfl) (by simp) ?_
              refine AllReadyIn.cons rfl (fun K hK => ?_) AllReadyIn.nil
              go_simp
              refine hK _ _ ?_
              clear hK K
              refine wpAnyIn_done (by kernel_rfl) ?_ _
              clear hy
              gi_wp2
              exact ⟨k3.trans (hk4.weaken fun k h => h.imp id fun h => by have := HSZ.out; omega), rfl, hX4⟩
  case done =>
    rintro D ys W2 hD hys ⟨iJ, iY, iR, iW⟩ hK'
    refine leaves_marks (B := W.heap.size) _ (D + 1) W2 ⟨D, rfl, by have := HSZ.out; omega, by omega, hK', trivial⟩ fun W' hs => ⟨_, results_none rfl _ _ _, ⟨_, rfl⟩, .inl ⟨ys, hys, HJ.out ys W2 W' iJ hs.1⟩⟩
  case stop =>
    rintro D cd pre W2 hD hpre ⟨rfl, iX⟩ hK'
    gi_wp2
    refine leaves_marks (B := W.heap.size) _ (D + 1) W2 ⟨D, rfl, by have := HSZ.out; omega, by omega, hK', trivial⟩ fun W' hs => ⟨_, results_none rfl _ _ _, ⟨_, rfl⟩, .inr ⟨pre, hpre, HJX.out pre W2 W' iX hs.1⟩⟩
end Go.Proofs.Ythjlhbkjmlohcaa
