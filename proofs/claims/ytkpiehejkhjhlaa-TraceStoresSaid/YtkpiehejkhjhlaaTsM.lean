/-
  The walk of the law TraceHolds.
-/
import Derived.Test.YtkpiehejkhjhlaaTsK
namespace Go.Proofs.Ytkpiehejkhjhlaa
open Go.RowKit Go.Shelf Go.Maps

theorem cut_vec {P : Program} {t e : TypeId} {i : TypeInfo} (h1 : P.underlying t = some (.slice e)) (h2 : P.info? e = some i) (a : Option Addr) (n cap k : Nat) (hn : n ≤ cap) (hk : k ≤ n) (w : World) :
    (Instr.sliceAt t (.slice a n cap) none (some (.int .i64 (k : Nat))) none).run P w = .ok (.slice a k cap) w := by
  have he : P.elem t = e := by simp [Program.elem, h1]
  have ht : P.underlying t = some (.slice (P.elem t)) := by rw [he]; exact h1
  rw [run_sliceAt_slice w t _ _ _ _ ht, run_slice_h w t a n cap ht .i64 (k : Int) (by omega) (by omega), he]
  simp [sizeOf, typeInfo, h2, sliced, Addr.add, Result.andThen]
theorem fieldsPt : (Try.prog.fieldsOf 52).toList.map (fun f => (f.name, f.type, f.offset)) = [("At", 3, 0), ("Word", 30, 1)] := by kernel_rfl
theorem two_map {α β : Type} {g : α → β} {l : List α} {a b : β} (h : l.map g = [a, b]) : ∃ x y, l = [x, y] ∧ g x = a ∧ g y = b := by
  match l, h with
  | [x, y], h => simp at h; exact ⟨x, y, rfl, h.1, h.2⟩
theorem equal_put (a b a' b' : Int) (w : World) : (Op.equalIn 10000 52 (.agg #[.int .i64 a, .int .u64 b]) (.agg #[.int .i64 a', .int .u64 b'])).run Try.prog w = .ok (a == a' && b == b') w := by
  obtain ⟨f1, f2, hf, h1, h2⟩ := two_map fieldsPt
  rw [run_equalIn_agg w 9999 52 _ _ (by kernel_rfl) (by kernel_rfl), hf]
  simp only [Prod.mk.injEq] at h1 h2
  obtain ⟨n1, t1, o1⟩ := h1
  obtain ⟨n2, t2, o2⟩ := h2
  have e1 : ∀ x y : Int, (part 3 #[.int .i64 x, .int .u64 y] 0).run Try.prog w = .ok (.int .i64 x) w := fun x y => by simp [part, isAgg, run_underlying Try.underlying3]
  have e2 : ∀ x y : Int, (part 30 #[.int .i64 x, .int .u64 y] 1).run Try.prog w = .ok (.int .u64 y) w := fun x y => by simp [part, isAgg, run_underlying Try.underlying30]
  have q := fun x y : Int => run_equalIn_int (P := Try.prog) w 9998 3 .i64 .i64 x y Try.underlying3
  have q2 := fun x y : Int => run_equalIn_int (P := Try.prog) w 9998 30 .u64 .u64 x y Try.underlying30
  simp only [Op.eqFields, n1, n2, t1, t2, o1, o2, ne_eq, String.reduceEq, not_false_eq_true, if_true, Sem.run_bind, e1, q, Result.andThen_ok]
  cases h1 : (a == a') with
  | false => simp
  | true =>
    simp only [Bool.not_true, Bool.false_eq_true, if_false, Sem.run_bind, e2, q2, Result.andThen_ok]
    cases h2 : (b == b') <;> simp
theorem neq_put (a b a' b' : Int) (w : World) : (binOp .neq 52 (.agg #[.int .i64 a, .int .u64 b]) (.agg #[.int .i64 a', .int .u64 b'])).run Try.prog w = .ok (.bool (!(a == a' && b == b'))) w := by
  rw [run_neq_struct, equal_put]
  rfl
/-- The puts of a row, wherever the walk stands. -/
theorem put_at {w : World} {B : Nat} {a : Option Addr} {c M : Nat} {ps : List (Nat × Int)} (hM : ps.length = M) (h : w.ownsRow B 52 2 (.slice a M c) M (flatC cP ps)) (k : Nat) (hk : k < M) :
    ∃ b off x, ps[k]? = some x ∧ a = some ⟨b, off, none⟩ ∧ ∀ W, Below w.heap.size w W → W.cell? ⟨b, off + k * 2, none⟩ = some (.int .i64 (x.1 : Nat)) ∧ W.cell? ⟨b, off + k * 2 + 1, none⟩ = some (.int .u64 x.2) := by
  subst hM
  obtain ⟨b, off, cap, e, hb, hr⟩ := (vec_of_own h).at_ cP_len k hk
  simp only [Value.slice.injEq, true_and] at e
  refine ⟨b, off, ps[k], List.getElem?_eq_getElem hk, e.1, fun W hW => ⟨?_, ?_⟩⟩
  · exact (hW.cell (p := ⟨b, off + k * 2, none⟩) hb).trans (hr 0 _ rfl)
  · exact (hW.cell (p := ⟨b, off + k * 2 + 1, none⟩) hb).trans (hr 1 _ rfl)
theorem closed_zero {ts : List Tch} (h : closedE ts = 0) : checkT ts = 0 ∧ checkT (shutV ts) = 0 ∧ closedV ts = shutV ts := by
  have h' := h
  unfold closedE at h
  by_cases hc : checkT ts = 0
  · rw [if_pos hc] at h
    refine ⟨hc, h, ?_⟩
    unfold closedV
    rw [if_pos h']
  · rw [if_neg hc] at h
    exact absurd h hc
set_option maxRecDepth 100000 in
set_option maxHeartbeats 8000000 in
theorem holds5_main {v u : Value} {ts us : List Tch} (w : World) (hl1 : ts.length ≤ 40) (hl2 : us.length ≤ 40) (hok1 : ∀ t ∈ ts, okT t) (hok2 : ∀ t ∈ us, okT t) (hs1 : SlT w v ts) (hs2 : SlT w u us) (he : closedE ts = 0) (hf : closedE us = 0) :
    Calls Try.prog 7 #[v, u] w fun e w' => e = .returned (.bool true) ∧ Below w.heap.size w w' := by
  have HW := Lib.hid works5_any
  have HNU := Lib.hid num5_any
  obtain ⟨i0, hi, hz0, hz1, hz2⟩ := info_of infoT
  have HII := Lib.hid hi
  obtain ⟨c1, d1, e1⟩ := closed_zero he
  obtain ⟨c2, d2, e2⟩ := closed_zero hf
  have HC1 := Lib.hid (closed_any w (by omega) hok1 hs1)
  have HC2 := Lib.hid (fun W (hb : Below w.heap.size w W) => closed_any W (by omega) hok2 (hs2.below hb))
  rw [he, e1] at HC1
  rw [hf, e2] at HC2
  have HPL := Lib.hid (fun W (hb : Below w.heap.size w W) => puts5_any W (by omega) hok1 (hs1.below hb))
  have HS1 := Lib.hid (fun W (hb : Below w.heap.size w W) => hs1.below hb)
  obtain ⟨X, hX⟩ : ∃ X, shutV ts = X := ⟨_, rfl⟩
  obtain ⟨Y, hY⟩ : ∃ Y, shutV us = Y := ⟨_, rfl⟩
  have hxl : X.length ≤ 81 := by rw [← hX]; have := shut_short ts; omega
  have hyl : Y.length ≤ 81 := by rw [← hY]; have := shut_short us; omega
  have hxn : ts.length ≤ X.length := by rw [← hX]; exact (shut_length ts).1
  have hxt : X.take ts.length = ts := by rw [← hX]; exact (shut_length ts).2.2
  have hxo : orderC X = true := by rw [← hX, order_same d1]; exact shut_order c1
  have hxr : X.all rightT = true := by rw [← hX]; exact shut_right c1
  have hyr : Y.all rightT = true := by rw [← hY]; exact shut_right c2
  have hcxy : checkT (X ++ Y) = 0 := check_of (by rw [List.all_append, hxr, hyr]; rfl) (by rw [List.length_append]; omega)
  have hxyo : orderC (X ++ Y) = true := by
    rw [order_same hcxy, ← hX, ← hY]
    exact order_append (shut_order c1) (shut_order c2)
  have HOKX : Hid (∀ t ∈ X, okT t) := show ∀ t ∈ X, okT t by rw [← hX]; exact okT_shut hok1
  have hokY : ∀ t ∈ Y, okT t := by rw [← hY]; exact okT_shut hok2
  have HOKXY : Hid (∀ t ∈ X ++ Y, okT t) := show ∀ t ∈ X ++ Y, okT t from fun t ht => (List.mem_append.1 ht).elim (HOKX.out t) (hokY t)
  have HPS : Hid (putsV X = putsV ts) := show _ = _ by rw [← hX]; exact puts_of d1 c1 stored_shut
  rw [hX] at HC1
  rw [hY] at HC2
  have HXO := Lib.hid hxo
  have HXYO := Lib.hid hxyo
  have HXT := Lib.hid hxt
  obtain ⟨a, cap, rfl, -⟩ := id hs1
  obtain ⟨b, bcap, rfl, -⟩ := id hs2
  obtain ⟨N, hN⟩ : ∃ N, ts.length = N := ⟨_, rfl⟩
  obtain ⟨M, hM⟩ : ∃ M, us.length = M := ⟨_, rfl⟩
  have HN := Lib.hid hN
  obtain ⟨L, hL⟩ : ∃ L, X.length = L := ⟨_, rfl⟩
  obtain ⟨K', hK'⟩ : ∃ K', Y.length = K' := ⟨_, rfl⟩
  have HL := Lib.hid hL
  have HK' := Lib.hid hK'
  rw [hN] at hl1 hxn HC1 HPL HS1 HXT ⊢
  rw [hM] at hl2 HC2 ⊢
  rw [hL] at hxl hxn
  rw [hK'] at hyl
  have g1 : ¬ (40 : Int) < (N : Int) := by omega
  have g2 : ¬ (40 : Int) < (M : Int) := by omega
  have g3 : ¬ (L : Int) < (N : Int) := by omega
  clear hs1 hs2 hok1 hok2 hN hM hL hK' hX hY hxt hxo hxr hyr hcxy hxyo hokY hi he hf c1 d1 e1 c2 d2 e2
  go_enter Try.func7, Try.ntmps7
  go_wp2_with fail
  refine HC1.out.mono ?_
  rintro e w1 ⟨x, rfl, hx1, hb1⟩
  have hsl : ∃ a c, x = .slice a X.length c := GrowB.slice hx1
  obtain ⟨xa, xc, rfl⟩ := hsl
  have HX1 := Lib.hid hx1
  have HB1 := Lib.hid hb1
  rw [HL.out] at HX1 ⊢
  clear hx1 hb1
  go_wp2_with fail
  refine (HC2.out w1 HB1.out).mono ?_
  rintro e w2 ⟨y, rfl, hy2, hb2⟩
  have hsl : ∃ a c, y = .slice a Y.length c := GrowB.slice hy2
  obtain ⟨ya, yc, rfl⟩ := hsl
  have HX2 := Lib.hid (HX1.out.below hb2)
  have HY2 := Lib.hid hy2
  have HB2 : Hid (Below w.heap.size w w2) := show Below _ _ _ from HB1.out.trans (hb2.mono HB1.out.size)
  rw [HK'.out] at HY2 ⊢
  clear hy2 hb2
  go_wp2_with fail
  refine (HNU.out 0 w2).mono ?_
  rintro e w3 ⟨rfl, hw⟩
  rw [hw]
  clear hw w3
  go_wp2_with fail
  refine (HNU.out 0 w2).mono ?_
  rintro e w3 ⟨rfl, hw⟩
  rw [hw]
  clear hw w3
  have HOX := Lib.hid (orderly_any w2 (by rw [HL.out]; omega) HOKX.out HX2.out.slT)
  rw [HXO.out] at HOX
  go_wp2_with fail
  refine HOX.out.mono ?_
  rintro e w3 ⟨rfl, hb3⟩
  have HX3 := Lib.hid (HX2.out.below hb3)
  have HY3 := Lib.hid (HY2.out.below hb3)
  have HB3 : Hid (Below w.heap.size w w3) := show Below _ _ _ from HB2.out.trans (hb3.mono HB2.out.size)
  have hal : Below w3.heap.size w3 (w3.alloc (.cells #[] 32)) := (Below.refl _ _).alloc (Nat.le_refl _) _
  have HX4 : Hid (Vec (w3.alloc (.cells #[] 32)) (.slice xa L xc) L 3 (flatC cT X)) := show Vec _ _ _ _ _ by
    have h := (HX3.out.below hal).slT.vec
    rw [HL.out] at h
    exact h
  have HY4 : Hid (Vec (w3.alloc (.cells #[] 32)) (.slice ya K' yc) K' 3 (flatC cT Y)) := show Vec _ _ _ _ _ by
    have h := (HY3.out.below hal).slT.vec
    rw [HK'.out] at h
    exact h
  have HAL := Lib.hid hal
  clear hb3 hal
  go_wp2_with (at_builtin; refine park ?_)
  unfold Park
  refine wpList_append_vecW rfl _ _ 22 rfl 32 i0 _ 3 24 Try.underlying22 HII.out hz0 hz1 hz2 rfl (by decide) w3.heap.size _ _ 0 L _ _ rfl rfl (.inl ⟨rfl, rfl, _, rfl⟩) HX4.out (flatC_all cT_one _) (by omega) (by omega) (by simp) ?_
  intro v5 w5 g5 t5 _
  rw [Nat.zero_add, List.nil_append] at g5
  have hsl5 := g5.slice
  obtain ⟨va, vc, rfl⟩ := hsl5
  have HG5 := Lib.hid g5
  have HB35 : Hid (Below w3.heap.size w3 w5) := show Below _ _ _ from HAL.out.trans t5
  clear g5 t5
  have HY5 : Hid (Vec w5 (.slice ya K' yc) K' 3 (flatC cT Y)) := show Vec _ _ _ _ _ by
    have h := (HY3.out.below HB35.out).slT.vec
    rw [HK'.out] at h
    exact h
  go_wp2_with (at_builtin; refine park ?_)
  unfold Park
  refine wpList_append_vecW rfl _ _ 22 rfl 32 i0 _ 3 24 Try.underlying22 HII.out hz0 hz1 hz2 rfl (by decide) w3.heap.size _ _ L K' _ _ rfl rfl HG5.out HY5.out (flatC_all cT_one _) (by omega) (by omega) HB35.out.size ?_
  intro v6 w6 g6 t6 _
  rw [← flatC_append] at g6
  have hsl6 := g6.slice
  obtain ⟨va6, vc6, rfl⟩ := hsl6
  have HXYL : Hid ((X ++ Y).length = L + K') := show _ = _ by rw [List.length_append, HL.out, HK'.out]
  have HS6 : Hid (SlT w6 (.slice va6 (L + K') vc6) (X ++ Y)) := show SlT _ _ _ from slT_of_vec (by rw [HXYL.out]; exact g6.vec)
  have HB36 : Hid (Below w3.heap.size w3 w6) := show Below _ _ _ from HB35.out.trans t6
  have HB6 : Hid (Below w.heap.size w w6) := show Below _ _ _ from HB3.out.trans (HB36.out.mono HB3.out.size)
  have HX6 := Lib.hid (HX3.out.below HB36.out)
  have HOXY := Lib.hid (orderly_any w6 (by rw [HXYL.out]; omega) HOKXY.out HS6.out)
  rw [HXYO.out] at HOXY
  clear g6 t6
  go_wp2_with fail
  refine HOXY.out.mono ?_
  rintro e w7 ⟨rfl, hb7⟩
  have HX7 := Lib.hid (HX6.out.below hb7)
  have HB7 : Hid (Below w.heap.size w w7) := show Below _ _ _ from HB6.out.trans (hb7.mono HB6.out.size)
  have hxc : L ≤ xc := by
    obtain ⟨a', c', e', h, _⟩ := HX7.out.slT
    rw [HL.out] at e'
    simp only [Value.slice.injEq, true_and] at e'
    rw [e'.2]; rw [← HL.out]; exact h
  have hcut := fun W => cut_vec (P := Try.prog) Try.underlying22 HII.out xa L xc N hxc hxn W
  have HSC : Hid (SlT w7 (.slice xa N xc) ts) := show SlT _ _ _ by
    obtain ⟨a', c', e', h, hj⟩ := HX7.out.slT
    rw [HL.out] at e'
    simp only [Value.slice.injEq, true_and] at e'
    obtain ⟨rfl, rfl⟩ := e'
    refine ⟨xa, xc, by rw [HN.out], by rw [HN.out]; omega, fun h0 => ?_⟩
    obtain ⟨bb, off, e2, hbb, hr⟩ := hj (by rw [HL.out]; rw [HN.out] at h0; omega)
    refine ⟨bb, off, e2, hbb, fun k hk => ?_⟩
    have hkx : k < X.length := by rw [HL.out]; rw [HN.out] at hk; omega
    have e3 : ts[k] = X[k] := by
      have h1 : ts[k]? = X[k]? := by
        rw [← HXT.out, List.getElem?_take_of_lt (by rw [HN.out] at hk; exact hk)]
      rw [List.getElem?_eq_getElem hk, List.getElem?_eq_getElem hkx] at h1
      exact Option.some.inj h1
    rw [e3]
    exact hr k hkx
  have HSM := Lib.hid (sameT_any (ts := ts) (us := ts) w7 (by rw [HN.out]; omega) HSC.out (HS1.out w7 HB7.out))
  rw [show decide (ts = ts) = true from decide_eq_true rfl] at HSM
  clear hb7 hxc
  go_wp2_with fail
  refine HSM.out.mono ?_
  rintro e w8 ⟨rfl, hb8⟩
  have HX8 := Lib.hid (HX7.out.below hb8)
  have HB8 : Hid (Below w.heap.size w w8) := show Below _ _ _ from HB7.out.trans (hb8.mono HB7.out.size)
  clear hb8 hcut
  go_wp2_with fail
  refine (HPL.out w8 HB8.out).mono ?_
  rintro e w9 ⟨p, rfl, hp9, hb9⟩
  have hsl9 := own_slice2 hp9
  obtain ⟨pa, pc, rfl⟩ := hsl9
  have HP9 := Lib.hid hp9
  have HX9 := Lib.hid (HX8.out.below hb9)
  have HB9 : Hid (Below w.heap.size w w9) := show Below _ _ _ from HB8.out.trans (hb9.mono HB8.out.size)
  have HPX := Lib.hid (puts5_any w9 (by rw [HL.out]; omega) HOKX.out HX9.out.slT)
  rw [HPS.out] at HPX
  obtain ⟨Q, hQ⟩ : ∃ Q, putsV ts = Q := ⟨_, rfl⟩
  rw [hQ] at HPX HP9 ⊢
  obtain ⟨J, hJ⟩ : ∃ J, Q.length = J := ⟨_, rfl⟩
  have HJ := Lib.hid hJ
  have hj100 : J ≤ 100 := by
    have := puts_short ts
    rw [hQ, hJ, HN.out] at this
    omega
  rw [hJ] at HPX HP9 ⊢
  clear hp9 hb9 hQ hJ
  go_wp2_with fail
  refine HPX.out.mono ?_
  rintro e w10 ⟨q, rfl, hq, hb10⟩
  have hslq := own_slice2 hq
  obtain ⟨qa, qc, rfl⟩ := hslq
  have HA1 := Lib.hid (fun k (hk : k < J) => put_at HJ.out HP9.out k hk)
  have HA2 := Lib.hid (fun k (hk : k < J) => put_at HJ.out hq k hk)
  have HB910 := Lib.hid hb10
  have HB10 : Hid (Below w.heap.size w w10) := show Below _ _ _ from HB9.out.trans (hb10.mono HB9.out.size)
  have hjj : ((J : Int) != (J : Int)) = false := by simp
  clear hq hb10
  go_wp2_with fail
  go_loopw [11] (fun i wr => ∃ k : Nat, k ≤ J ∧ i = .int .i64 (k : Nat) ∧ Hid (Below w10.heap.size w10 wr)) (fun i _ => J - (intOf i).toNat)
  case atStart => exact ⟨0, by omega, rfl, (show Below _ _ _ from Below.refl _ _)⟩
  case round =>
    obtain ⟨k, hk, rfl, HB⟩ := hrel
    by_cases hlt : k < J
    · obtain ⟨b1, o1, x1, hx1, rfl, hat1⟩ := HA1.out k hlt
      obtain ⟨b2, o2, x2, hx2, rfl, hat2⟩ := HA2.out k hlt
      have e : x1 = x2 := Option.some.inj (hx1.symm.trans hx2)
      subst e
      have hdr : Below wr.heap.size wr wr.drew := Below.drew (Below.refl _ _)
      have HBd : Hid (Below w10.heap.size w10 wr.drew) := show Below _ _ _ from HB.out.trans (hdr.mono HB.out.size)
      have k2 : (k : Int) < (J : Int) := by omega
      have hR : (fun W : World => (W.cell? ⟨b1, o1 + k * 2, none⟩ = some (.int .i64 (x1.1 : Nat)) ∧ W.cell? ⟨b1, o1 + k * 2 + 1, none⟩ = some (.int .u64 x1.2)) ∧ (W.cell? ⟨b2, o2 + k * 2, none⟩ = some (.int .i64 (x1.1 : Nat)) ∧ W.cell? ⟨b2, o2 + k * 2 + 1, none⟩ = some (.int .u64 x1.2))) wr.drew := ⟨hat1 _ (HB910.out.trans (HBd.out.mono HB910.out.size)), hat2 _ HBd.out⟩
      have hnq : ∀ W, (binOp .neq 52 (.agg #[.int .i64 (x1.1 : Nat), .int .u64 x1.2]) (.agg #[.int .i64 (x1.1 : Nat), .int .u64 x1.2])).run Try.prog W = .ok (.bool false) W := fun W => by rw [neq_put]; simp
      clear hx1 hx2 hat1 hat2 hdr
      go_wp2_with fail
      refine wp_region_M 8 (fun W : World => (W.cell? ⟨b1, o1 + k * 2, none⟩ = some (.int .i64 (x1.1 : Nat)) ∧ W.cell? ⟨b1, o1 + k * 2 + 1, none⟩ = some (.int .u64 x1.2)) ∧ (W.cell? ⟨b2, o2 + k * 2, none⟩ = some (.int .i64 (x1.1 : Nat)) ∧ W.cell? ⟨b2, o2 + k * 2 + 1, none⟩ = some (.int .u64 x1.2))) (by kernel_rfl) ?_
      (refine wpAnyM_take2 8 (i := 0) (v := ?_) rfl (by kernel_rfl) (by kernel_rfl) (fun _ _ _ h => h) (Or.inl ⟨by rfl, ?_⟩) hR ?_; rotate_left; (focus (intro w hSw; (try dsimp only at hSw); go_simp; (try with_reducible rfl))); (try simp only [put_laws])); (refine wpAnyM_take2 8 (i := 1) (v := ?_) rfl (by kernel_rfl) (by kernel_rfl) (fun _ _ _ h => h) (Or.inl ⟨by rfl, ?_⟩) hR ?_; rotate_left; (focus (intro w hSw; (try dsimp only at hSw); go_simp; (try with_reducible rfl))); (try simp only [put_laws])); (refine wpAnyM_take2 8 (i := 2) (v := ?_) rfl (by kernel_rfl) (by kernel_rfl) (fun _ _ _ h => h) (Or.inl ⟨by rfl, ?_⟩) hR ?_; rotate_left; (focus (intro w hSw; (try dsimp only at hSw); go_simp; (try with_reducible rfl))); (try simp only [put_laws])); (refine wpAnyM_take2 8 (i := 3) (v := ?_) rfl (by kernel_rfl) (by kernel_rfl) (fun _ _ _ h => h) (Or.inl ⟨by rfl, ?_⟩) hR ?_; rotate_left; (focus (intro w hSw; (try dsimp only at hSw); go_simp; (try with_reducible rfl))); (try simp only [put_laws])); (refine wpAnyM_take2 8 (i := 4) (v := ?_) rfl (by kernel_rfl) (by kernel_rfl) (fun _ _ _ h => h) (Or.inl ⟨by rfl, ?_⟩) hR ?_; rotate_left; (focus (intro w hSw; (try dsimp only at hSw); go_simp; (try with_reducible rfl))); (try simp only [put_laws])); (refine wpAnyM_take2 8 (i := 5) (v := ?_) rfl (by kernel_rfl) (by kernel_rfl) (fun _ _ _ h => h) (Or.inl ⟨by rfl, ?_⟩) hR ?_; rotate_left; (focus (intro w hSw; (try dsimp only at hSw); go_simp; (try with_reducible rfl))); (try simp only [put_laws])); (refine wpAnyM_take2 8 (i := 6) (v := ?_) rfl (by kernel_rfl) (by kernel_rfl) (fun _ _ _ h => h) (Or.inl ⟨by rfl, ?_⟩) hR ?_; rotate_left; (focus (intro w hSw; (try dsimp only at hSw); go_simp; (try with_reducible rfl))); (try simp only [put_laws])); (refine wpAnyM_take2 8 (i := 7) (v := ?_) rfl (by kernel_rfl) (by kernel_rfl) (fun _ _ _ h => h) (Or.inl ⟨by rfl, ?_⟩) hR ?_; rotate_left; (focus (intro w hSw; (try dsimp only at hSw); go_simp; (try with_reducible rfl))); (try simp only [put_laws]))
      (refine wpAnyM_last rfl (by kernel_rfl) (fun K hK => ?_); rw [if_pos (by rfl)]; (try simp only [elem_laws]))
      clear hR
      go_simp
      refine hK _ _ ?_
      clear hK K hnq
      (try simp only [put_laws])
      refine wpAnyM_done (by kernel_rfl) ?_ _
      go_wp2_with fail
      go_roundw
      case rel => exact ⟨k + 1, by omega, by go_num, HBd⟩
      case measure => simp [intOf]; omega
    · obtain rfl : k = J := by omega
      go_wp2_with fail
      refine (HW.out wr).mono ?_
      rintro e w11 ⟨rfl, hb11⟩
      go_wp2_with fail
      go_ret
      exact ⟨rfl, HB10.out.trans ((HB.out.trans (hb11.mono HB.out.size)).mono HB10.out.size)⟩
set_option maxRecDepth 100000 in
set_option maxHeartbeats 4000000 in
theorem holds5_any {v u : Value} {ts us : List Tch} (w : World) (hok1 : ∀ t ∈ ts, okT t) (hok2 : ∀ t ∈ us, okT t) (hs1 : SlT w v ts) (hs2 : SlT w u us) :
    Calls Try.prog 7 #[v, u] w fun e w' => e = .returned (.bool true) ∧ Below w.heap.size w w' := by
  by_cases h0 : (ts.length ≤ 40 ∧ us.length ≤ 40) ∧ closedE ts = 0 ∧ closedE us = 0
  · exact holds5_main w h0.1.1 h0.1.2 hok1 hok2 hs1 hs2 h0.2.1 h0.2.2
  have HW := Lib.hid works5_any
  have HNU := Lib.hid num5_any
  obtain ⟨a, cap, rfl, -⟩ := id hs1
  obtain ⟨b, bcap, rfl, -⟩ := id hs2
  obtain ⟨N, hN⟩ : ∃ N, ts.length = N := ⟨_, rfl⟩
  obtain ⟨M, hM⟩ : ∃ M, us.length = M := ⟨_, rfl⟩
  by_cases hn : 40 < N
  · have g1 : (40 : Int) < (N : Int) := by omega
    rw [hN, hM]
    clear hs1 hs2 hok1 hok2 hN hM h0
    go_enter Try.func7, Try.ntmps7
    go_wp2_with fail
    refine (HW.out w).mono ?_
    rintro e w' ⟨rfl, hb⟩
    go_wp2_with fail
    go_ret
    exact ⟨rfl, hb⟩
  have g1 : ¬ (40 : Int) < (N : Int) := by omega
  by_cases hm : 40 < M
  · have g2 : (40 : Int) < (M : Int) := by omega
    rw [hN, hM]
    clear hs1 hs2 hok1 hok2 hN hM h0
    go_enter Try.func7, Try.ntmps7
    go_wp2_with fail
    refine (HW.out w).mono ?_
    rintro e w' ⟨rfl, hb⟩
    go_wp2_with fail
    go_ret
    exact ⟨rfl, hb⟩
  have g2 : ¬ (40 : Int) < (M : Int) := by omega
  have HC1 := Lib.hid (closed_any w (by omega) hok1 hs1)
  have HC2 := Lib.hid (fun W (hb : Below w.heap.size w W) => closed_any W (by omega) hok2 (hs2.below hb))
  have hef : closedE ts ≠ 0 ∨ closedE us ≠ 0 := by omega
  obtain ⟨E, hE⟩ : ∃ E, closedE ts = E := ⟨_, rfl⟩
  obtain ⟨F, hF⟩ : ∃ F, closedE us = F := ⟨_, rfl⟩
  rw [hE] at HC1 hef
  rw [hF] at HC2 hef
  rw [hN] at HC1 ⊢
  rw [hM] at HC2 ⊢
  clear hs1 hs2 hok1 hok2 hN hM h0 hE hF
  by_cases he : E = 0
  · have hf : (F != 0) = true := by simp; omega
    subst he
    go_enter Try.func7, Try.ntmps7
    go_wp2_with fail
    refine HC1.out.mono ?_
    rintro e w1 ⟨x, rfl, hx1, hb1⟩
    have hsl : ∃ a c, x = .slice a (closedV ts).length c := GrowB.slice hx1
    obtain ⟨xa, xc, rfl⟩ := hsl
    have HB1 := Lib.hid hb1
    clear hx1 hb1
    go_wp2_with fail
    refine (HC2.out w1 HB1.out).mono ?_
    rintro e w2 ⟨y, rfl, hy2, hb2⟩
    have hsl : ∃ a c, y = .slice a (closedV us).length c := GrowB.slice hy2
    obtain ⟨ya, yc, rfl⟩ := hsl
    have HB2 : Hid (Below w.heap.size w w2) := show Below _ _ _ from HB1.out.trans (hb2.mono HB1.out.size)
    clear hy2 hb2
    go_wp2_with fail
    refine (HNU.out 0 w2).mono ?_
    rintro e w3 ⟨rfl, hw⟩
    rw [hw]
    clear hw w3
    go_wp2_with fail
    refine (HNU.out F w2).mono ?_
    rintro e w3 ⟨rfl, hw⟩
    rw [hw]
    clear hw w3
    go_wp2_with fail
    refine (HW.out w2).mono ?_
    rintro e w3 ⟨rfl, hb3⟩
    go_wp2_with fail
    go_ret
    exact ⟨rfl, HB2.out.trans (hb3.mono HB2.out.size)⟩
  · have hf : (E != 0) = true := by simp [he]
    go_enter Try.func7, Try.ntmps7
    go_wp2_with fail
    refine HC1.out.mono ?_
    rintro e w1 ⟨x, rfl, hx1, hb1⟩
    have hsl : ∃ a c, x = .slice a (closedV ts).length c := GrowB.slice hx1
    obtain ⟨xa, xc, rfl⟩ := hsl
    have HB1 := Lib.hid hb1
    clear hx1 hb1
    go_wp2_with fail
    refine (HC2.out w1 HB1.out).mono ?_
    rintro e w2 ⟨y, rfl, hy2, hb2⟩
    have hsl : ∃ a c, y = .slice a (closedV us).length c := GrowB.slice hy2
    obtain ⟨ya, yc, rfl⟩ := hsl
    have HB2 : Hid (Below w.heap.size w w2) := show Below _ _ _ from HB1.out.trans (hb2.mono HB1.out.size)
    clear hy2 hb2
    go_wp2_with fail
    refine (HNU.out E w2).mono ?_
    rintro e w3 ⟨rfl, hw⟩
    rw [hw]
    clear hw w3
    go_wp2_with fail
    refine (HW.out w2).mono ?_
    rintro e w3 ⟨rfl, hb3⟩
    go_wp2_with fail
    go_ret
    exact ⟨rfl, HB2.out.trans (hb3.mono HB2.out.size)⟩
end Go.Proofs.Ytkpiehejkhjhlaa
