/-
  Texts PmN to PmP, as one.
-/
import Derived.Test.YtohdgjmmekgcmaaDoorMg5
import Derived.Deep.AppendLies
import Derived.StillTailTactics
import Derived.OrdersHeld
import Derived.StillTail
/-
  pmem: DeleteFunc's walk; forget.
-/
namespace Go.Proofs.YtohdgjmmekgcmaaDoor
open Go.RowKit Go.Shelf

/-- The block of a row that has room. -/
def ownB (q : Value) (k : Nat) : Prop := q.ownBlock = some k ∧ ∀ ad, q ≠ .slice (some ad) 0 0
def keepW (l : List (Nat × List Int)) (i : Int) : List (Nat × List Int) := l.filter fun x => !isAt i x
theorem keepW_snoc (l : List (Nat × List Int)) (i : Int) (x : Nat × List Int) : keepW (l ++ [x]) i = if isAt i x then keepW l i else keepW l i ++ [x] := by
  unfold keepW
  rw [List.filter_append]
  cases h : isAt i x <;> simp [h]
theorem take_snoc (l : List (Nat × List Int)) (k : Nat) (hk : k < l.length) : l.take (k + 1) = l.take k ++ [l[k]?.getD (0, [])] := by
  rw [List.take_add_one, List.getElem?_eq_getElem hk]
  simp
theorem keepW_len (l : List (Nat × List Int)) (i : Int) : (keepW l i).length ≤ l.length := List.length_filter_le _ _
theorem idx_some {l : List (Nat × List Int)} {i : Int} {m : Nat} (h : l.findIdx? (isAt i) = some m) : m < l.length ∧ keepW (l.take (m + 1)) i = l.take m := by
  rw [List.findIdx?_eq_some_iff_getElem] at h
  obtain ⟨h1, h2, h3⟩ := h
  refine ⟨h1, ?_⟩
  rw [take_snoc l m h1, keepW_snoc, List.getElem?_eq_getElem h1, Option.getD_some, if_pos h2]
  unfold keepW
  rw [List.filter_eq_self]
  intro x hx
  obtain ⟨j, hj, rfl⟩ := List.mem_take_iff_getElem.1 hx
  have := h3 j (by omega)
  simpa using this
theorem idx_none {l : List (Nat × List Int)} {i : Int} (h : l.findIdx? (isAt i) = none) : keepW l i = l := by
  rw [List.findIdx?_eq_none_iff] at h
  unfold keepW
  rw [List.filter_eq_self]
  intro x hx
  simpa using h x hx
/-- The row in a round. -/
structure DelI (w : World) (l : List (Nat × List Int)) (i : Int) (g n c k m : Nat) (L : List (Nat × List Int)) (W : World) : Prop where
  row : W.ownsRow 0 113 9 (.slice (some ⟨g, 0, none⟩) n c) n (cellsW L)
  len : L.length = n
  wide : ∀ x ∈ L, x.2.length = 8
  kept : L.take m = keepW (l.take k) i
  rest : L.drop k = l.drop k
  turn : Turn (fun b => b = g) w W
set_option maxRecDepth 100000 in
set_option maxHeartbeats 2000000 in
theorem deleteFunc_some (P : Nat) (i : Int) (l : List (Nat × List Int)) (hl : ∀ x ∈ l, x.2.length = 8) (hm : l.length ≤ 100000) (g c m0 : Nat) (w : World) (hP : Boxed w P 3 (.int .i64 i)) (hq : w.ownsRow 0 113 9 (.slice (some ⟨g, 0, none⟩) l.length c) l.length (cellsW l)) (hi : l.findIdx? (isAt i) = some m0) :
    Calls Tryd.prog 94 #[.slice (some ⟨g, 0, none⟩) l.length c, .func (.func 95) #[] #[.pointer (some ⟨P, 0, none⟩)]] w fun e w' =>
      e = .returned (.slice (some ⟨g, 0, none⟩) (keepW l i).length c) ∧ w'.ownsRow 0 113 9 (.slice (some ⟨g, 0, none⟩) (keepW l i).length c) (keepW l i).length (cellsW (keepW l i)) ∧ Turn (fun b => b = g) w w' := by
  have HI := Lib.hid (indexFunc_any P i l hl hm _ w hP (.inr hq))
  rw [hi] at HI
  obtain ⟨hm0, hk0⟩ := idx_some hi
  have hgP : g ≠ P := by
    rintro rfl
    exact hP.not_row (by decide) hq rfl
  have hgl := own_lt2 hq
  have HQ := Lib.hid hq
  have HP := Lib.hid hP
  have HL := Lib.hid hl
  clear hq hP hl hi
  obtain ⟨n, hn⟩ : ∃ n, l.length = n := ⟨_, rfl⟩
  have HN := Lib.hid hn
  rw [hn] at hm HQ HI hm0 ⊢
  clear hn
  have H0 : Hid (DelI w l i g n c (m0 + 1) m0 l w) := show DelI w l i g n c (m0 + 1) m0 l w from ⟨HQ.out, HN.out, HL.out, hk0.symm, rfl, Turn.refl _ _⟩
  clear hk0
  go_enter Tryd.func94, Tryd.ntmps94
  go_wp2_with fail
  refine HI.out.mono ?_
  rintro e w1 ⟨rfl, hb1⟩
  show _
  have hne : ((m0 : Int) == -1) = false := by simp
  have H1 : Hid (DelI w l i g n c (m0 + 1) m0 l w1) := show DelI w l i g n c (m0 + 1) m0 l w1 from ⟨own_keeps H0.out.row (fun h => hb1.block g h), H0.out.len, H0.out.wide, H0.out.kept, rfl, Turn.of_below hb1 (Nat.le_refl _)⟩
  rw [show idxInt (some m0) = (m0 : Int) from rfl]
  clear H0 hb1
  go_wp2_with fail
  go_loopw [5, 6] (fun a j wr => ∃ (m k : Nat) (L : List (Nat × List Int)), k ≤ n ∧ m < k ∧ a = .int .i64 (m : Nat) ∧ j = .int .i64 (k : Nat) ∧ Hid (DelI w l i g n c k m L wr)) (fun _ j _ => n - (intOf j).toNat)
  case atStart => exact ⟨m0, m0 + 1, l, by omega, by omega, rfl, by go_num, H1⟩
  case round =>
    obtain ⟨m, k, L, hk, hmk, rfl, rfl, HD⟩ := hrel
    clear H1
    by_cases hlt : k < n
    · have hkL : k < L.length := by have := HD.out.len; omega
      have hld := load_wait Tryd.underlying113 rfl (by kernel_rfl) HD.out.row HD.out.wide k hkL
      obtain ⟨x, hx⟩ : ∃ x, L[k]?.getD (0, []) = x := ⟨_, rfl⟩
      have hxl : l[k]?.getD (0, []) = x := by
        have := congrArg (fun z : List (Nat × List Int) => z[0]?.getD (0, [])) HD.out.rest
        simp only [List.getElem?_drop, Nat.add_zero] at this
        rw [← this]; exact hx
      have hx8 : x.2.length = 8 := by
        rw [← hx, List.getElem?_eq_getElem hkL, Option.getD_some]
        exact HD.out.wide _ (List.getElem_mem hkL)
      rw [hx] at hld
      have HF := Lib.hid (fun W (hb : Below wr.heap.size wr W) => forget1_any P i x W ((hb.block P (by have := HD.out.turn.size; have := HP.out.lt; omega)).trans (HD.out.turn.box HP.out (by omega))))
      have HST := Lib.hid (fun (W : World) (h : W.ownsRow 0 113 9 (.slice (some ⟨g, 0, none⟩) n c) n (cellsW L)) => store_wait (t := 113) (by kernel_rfl) h HD.out.wide HD.out.len m (by omega) x hx8)
      have HXS := Lib.hid (waitA_size hx8)
      have HX1 : Hid ((waitA x).all (·.oneCell') = true) := show _ = true from Array.all_eq_true_iff_forall_mem.2 fun v hv => cellsW_one [x] v (by rw [cellsW_cons]; simp [cellsW]; simpa using hv)
      have HXL := Lib.hid hxl
      have HKL := Lib.hid hkL
      have HLL : Hid (k < l.length) := show k < l.length by have := HN.out; omega
      obtain ⟨X, hX⟩ : ∃ X, waitA x = X := ⟨_, rfl⟩
      rw [hX] at hld HF HST HXS HX1
      have HLD := Lib.hid hld
      have k2 : (k : Int) < (n : Int) := by omega
      have m2 : (m : Int) < (n : Int) := by omega
      have hgr : g < wr.heap.size := Nat.lt_of_lt_of_le hgl HD.out.turn.size
      clear hld hX hx hxl hx8 hkL
      have hinfo : (Tryd.prog.info? 113).map (·.size) = some X.size := by rw [HXS.out]; kernel_rfl
      have HSN := Lib.hid (run_storeAt_new (P := Tryd.prog) wr 113 #[.int .i64 0, .int .u64 0, .int .u64 0, .int .u64 0, .int .u64 0, .int .u64 0, .int .u64 0, .int .u64 0, .int .u64 0] X hinfo (by rw [HXS.out]; rfl) HX1.out)
      have HLN := Lib.hid (fun (W : World) (h : W.heap[wr.heap.size]? = some (.cells X 113 (0, 0))) => load_blk Tryd.underlying113 rfl hinfo h)
      clear hinfo
      go_wp2_with (first | (refine wpList_load_eq rfl 113 _ rfl _ _ rfl HLD.out ?_) | (refine wpList_store_eq rfl 113 _ _ rfl _ _ rfl rfl HSN.out ?_) | (refine wpList_load_eq rfl 113 _ rfl _ _ rfl (HLN.out _ (World.alloc_heap_new wr _)) ?_))
      refine (HF.out _ ((Below.refl _ _).alloc (Nat.le_refl _) _)).mono ?_
      rintro e w2 ⟨rfl, hb2⟩
      have j7 : w2.heap[wr.heap.size]? = some (.cells X 113 (0, 0)) := (hb2.block _ (by simp)).trans (World.alloc_heap_new wr _)
      have z2 := hb2.size; simp only [World.size_alloc] at z2
      have b2 : Below wr.heap.size wr w2 := ((Below.refl _ _).alloc (Nat.le_refl _) _).trans (hb2.mono (by simp))
      have hrow2 := own_keeps HD.out.row (fun h => b2.block g h)
      have ht2 := HD.out.turn.trans (Turn.of_below b2 (Nat.le_refl _))
      have HTK := Lib.hid (take_snoc l k HLL.out)
      rw [HXL.out] at HTK
      rw [show decide ((x.1 : Int) = i) = isAt i x from rfl]
      cases hat : isAt i x with
      | true =>
        have HD2 : Hid (DelI w l i g n c (k + 1) m L w2) := show DelI w l i g n c (k + 1) m L w2 from ⟨hrow2, HD.out.len, HD.out.wide, by rw [HD.out.kept, HTK.out, keepW_snoc, hat, if_pos rfl], by
          have := congrArg (fun z => z.drop 1) HD.out.rest
          simpa using this, ht2⟩
        clear hrow2 ht2 j7 hb2
        go_wp2_with fail
        go_roundw
        case rel => exact ⟨m, k + 1, L, by omega, by omega, rfl, by go_num, HD2⟩
        case measure => simp [intOf]; omega
      | false =>
        obtain ⟨hs, ho, ht⟩ := HST.out w2 hrow2
        have HSS := Lib.hid hs
        have HLN2 := Lib.hid (HLN.out w2 j7)
        have HD2 : Hid (DelI w l i g n c (k + 1) (m + 1) (L.set m x) (w2.setCells g (m * 9) X.toList)) := show DelI _ _ _ _ _ _ _ _ _ _ from ⟨ho, by rw [List.length_set]; exact HD.out.len, fun y hy => by
            rcases List.mem_or_eq_of_mem_set hy with h | h
            · exact HD.out.wide y h
            · subst h
              rw [← HXL.out, List.getElem?_eq_getElem HLL.out, Option.getD_some]
              exact HL.out _ (List.getElem_mem HLL.out), by
            rw [HTK.out, keepW_snoc, hat, if_neg (by decide), ← HD.out.kept, List.take_set, List.take_add_one, List.getElem?_eq_getElem (by have := HKL.out; omega), Option.toList_some, List.set_append_right _ _ (by rw [List.length_take]; omega), List.length_take, Nat.min_eq_left (by have := HKL.out; omega)]
            simp, by
            rw [List.drop_set_of_lt (by omega)]
            have := congrArg (fun z => z.drop 1) HD.out.rest
            simpa using this, ht2.trans ht⟩
        clear hrow2 ht2 j7 hb2 hs ho ht
        go_wp2_with (first | (refine wpList_load_eq rfl 113 _ rfl _ _ rfl HLN2.out ?_) | (refine wpList_store_eq rfl 113 _ _ rfl _ _ rfl rfl HSS.out ?_))
        go_roundw
        case rel => exact ⟨m + 1, k + 1, _, by omega, by omega, by go_num, by go_num, HD2⟩
        case measure => simp [intOf]; omega
    · obtain rfl : k = n := by omega
      have HM : Hid (m = (keepW l i).length) := show m = _ by
        have h1 := congrArg List.length HD.out.kept
        rw [List.length_take, HD.out.len, List.take_of_length_le (Nat.le_of_eq HN.out)] at h1
        omega
      have hc := own_cap HD.out.row
      have hs1 := cut9_from g k c m (by omega) hc
      have hs2 := cut9_to (some ⟨g, 0, none⟩) k c m (by omega) hc
      obtain ⟨W4, hcl, ht4, ys, hys, hyt⟩ := clear_wait HD.out.row m (k - m) (by omega) (by omega) (c - m) 0
      have HY := Lib.hid (And.intro hys hyt)
      have HT := Lib.hid ht4
      clear hys hyt hc ht4
      go_wp2_with fail
      go_ret
      have hrow := row_to HY.out.1 m (by omega)
      rw [HY.out.2, cellsW_take L HD.out.wide m (by have := HD.out.len; omega), HD.out.kept, List.take_of_length_le (Nat.le_of_eq HN.out)] at hrow
      refine ⟨?_, ?_, HD.out.turn.trans HT.out⟩
      · rw [← HM.out]; rfl
      · rw [← HM.out]; exact hrow
theorem deleteFunc_any (P : Nat) (i : Int) (l : List (Nat × List Int)) (hl : ∀ x ∈ l, x.2.length = 8) (hm : l.length ≤ 100000) (q : Value) (w : World) (hP : Boxed w P 3 (.int .i64 i)) (hq : GrowV w 113 9 q l.length (cellsW l)) :
    Calls Tryd.prog 94 #[q, .func (.func 95) #[] #[.pointer (some ⟨P, 0, none⟩)]] w fun e w' =>
      ∃ q', e = .returned q' ∧ GrowV w' 113 9 q' (keepW l i).length (cellsW (keepW l i)) ∧ Turn (ownB q) w w' ∧ (q' = q ∨ ∃ g c n n', q = .slice (some ⟨g, 0, none⟩) n c ∧ q' = .slice (some ⟨g, 0, none⟩) n' c ∧ ownB q g) := by
  cases hi : l.findIdx? (isAt i) with
  | some m0 =>
    have hq2 : w.ownsRow 0 113 9 q l.length (cellsW l) := by
      rcases hq with ⟨h1, _⟩ | hq
      · have := (idx_some hi).1; omega
      · exact hq
    obtain ⟨g, c, rfl⟩ : ∃ g c, q = .slice (some ⟨g, 0, none⟩) l.length c := by
      rcases hq2.2 with ⟨_, h1⟩ | ⟨g, cap, cur, rfl, _⟩
      · have := (idx_some hi).1; omega
      · exact ⟨g, cap, rfl⟩
    have hob : ownB (.slice (some ⟨g, 0, none⟩) l.length c) g := ⟨rfl, fun ad e => by
      simp only [Value.slice.injEq] at e
      have := (idx_some hi).1
      omega⟩
    refine (deleteFunc_some P i l hl hm g c m0 w hP hq2 hi).mono ?_
    rintro e w' ⟨rfl, hr, ht⟩
    exact ⟨_, rfl, .inr hr, ht.mono (fun k e => by rw [e]; exact hob), .inr ⟨g, c, _, _, rfl, rfl, hob⟩⟩
  | none =>
    have HI := Lib.hid (indexFunc_any P i l hl hm q w hP hq)
    rw [hi] at HI
    rw [idx_none hi]
    obtain ⟨a, c, rfl⟩ : ∃ a c, q = .slice a l.length c := by
      rcases hq with ⟨h1, _, ad, rfl⟩ | hq
      · exact ⟨_, 0, by rw [h1]⟩
      · exact own_slice hq
    have HQ := Lib.hid hq
    clear hq hP hi
    obtain ⟨n, hn⟩ : ∃ n, l.length = n := ⟨_, rfl⟩
    rw [hn] at HQ HI ⊢
    clear hn hm hl
    go_enter Tryd.func94, Tryd.ntmps94
    go_wp2_with fail
    refine HI.out.mono ?_
    rintro e w1 ⟨rfl, hb1⟩
    rw [show idxInt none = (-1 : Int) from rfl]
    go_wp2_with fail
    go_ret
    exact ⟨_, rfl, HQ.out.keeps (F := fun _ => True) (.inr fun _ _ => trivial) (fun k _ hk => hb1.block k hk), Turn.of_below hb1 (Nat.le_refl _), .inl rfl⟩
section
variable {W W1 : World} {F F' p : Nat → Prop} {B S T n cS cT : Nat} {q q' : Value} {d : Dv} {l : List (Nat × List Int)}
/-- What waits, another one. -/
theorem DevB.set_waits (h : DevB W F B S T n cS cT q d) (ht : Turn p W W1) (hp : ¬ p B ∧ ¬ p S ∧ ¬ p T) (hq : GrowV W1 113 9 q' l.length (cellsW l)) (hF : ∀ k, F k → F' k) (hin : OwnIn F' q') (hf : ∀ k, F' k → 0 < k ∧ k < W1.heap.size)
    (ok : Dv.Ok n { d with waits := l }) : DevB (W1.setCell ⟨B, 2, none⟩ q') F' B S T n cS cT q' { d with waits := l } := by
  have hB1 := (ht.block B h.lt.1 hp.1).trans h.dev
  have hne : (∃ ad, q' = .slice (some ad) 0 0) ∨ ∀ g, q'.ownBlock = some g → ¬ g = B := by
    rcases hq with ⟨_, _, ad, rfl⟩ | hq
    · exact .inl ⟨ad, rfl⟩
    · refine .inr fun g hg => ?_
      rcases hq.2 with ⟨rfl, _⟩ | ⟨g', cap, cur, rfl, _, hgg, _⟩
      · cases hg
      · simp only [Value.ownBlock, Option.some.injEq] at hg
        subst hg
        rintro rfl
        rw [hB1] at hgg
        simp at hgg
  have ts : Turn (fun k => k = B) W1 (W1.setCell ⟨B, 2, none⟩ q') := Turn.setCell W1 q' rfl
  refine ⟨ok, h.pos, h.most, heap_set 2 q' hB1, own_keeps (own_keeps h.seen fun hl => ht.block S hl hp.2.1) fun hl => ts.block S hl (fun e => h.ne.1 e.symm), own_keeps (own_keeps h.stays fun hl => ht.block T hl hp.2.2) fun hl => ts.block T hl (fun e => h.ne.2 e.symm),
    hq.turn hne ts, h.apart, hF _ h.inB, hF _ h.inS, hF _ h.inT, hin, fun k hk => (hf k hk).1, fun k hk => Nat.lt_of_lt_of_le (hf k hk).2 ts.size⟩
end
theorem ownB_in {F : Nat → Prop} {q : Value} (h : OwnIn F q) {k : Nat} (hk : ownB q k) : F k := by
  rcases h with ⟨ad, rfl⟩ | h
  · exact absurd rfl (hk.2 ad)
  · exact h k hk.1
theorem forget_any {F : Nat → Prop} {B S T n cS cT : Nat} {q : Value} {d : Dv} (i : Int) (w : World) (h : DevB w F B S T n cS cT q d) :
    Calls Tryd.prog 65 #[.pointer (some ⟨B, 0, none⟩), .int .i64 i] w fun e w' => (∃ u, e = .returned u) ∧ Turn F w w' ∧ ∃ q', DevB w' F B S T n cS cT q' (d.forget i) := by
  have hb0 : Below w.heap.size w (w.alloc (.cells #[.int .i64 i] 3)) := (Below.refl _ _).alloc (Nat.le_refl _) _
  have h0 := h.below hb0
  have hq0 := h0.waits
  have HF := Lib.hid (deleteFunc_any w.heap.size i d.waits (fun x hx => (h.ok.waits x hx).2) (by have := h.ok.few; have := h.most; omega) q _ (Boxed.new w 3 (.int .i64 i)) hq0)
  have c2 := h.cell2
  have hB := h.lt.1
  have HD := Lib.hid h0
  have HO := Lib.hid h
  clear h h0 hq0
  go_enter Tryd.func65, Tryd.ntmps65
  go_wp2_with fail
  refine HF.out.mono ?_
  rintro e w1 ⟨q', rfl, hq', ht, hc⟩
  have hne : ¬ ownB q B ∧ ¬ ownB q S ∧ ¬ ownB q T := by
    rcases HD.out.wait_ne with ⟨ad, rfl⟩ | hw
    · exact ⟨fun h => absurd rfl (h.2 ad), fun h => absurd rfl (h.2 ad), fun h => absurd rfl (h.2 ad)⟩
    · exact ⟨fun h => (hw B h.1).1 rfl, fun h => (hw S h.1).2.1 rfl, fun h => (hw T h.1).2.2 rfl⟩
  have hin : OwnIn F q' := by
    rcases hc with rfl | ⟨g, c, m, m', rfl, rfl, hg⟩
    · exact HD.out.inQ
    · exact .inr fun g' hg' => by cases hg'; exact ownB_in HD.out.inQ hg
  have HS := Lib.hid (HD.out.set_waits (q' := q') (l := keepW d.waits i) (F' := F) ht hne hq' (fun _ h => h) hin (fun k hk => ⟨HD.out.far k hk, Nat.lt_of_lt_of_le (HD.out.live k hk) ht.size⟩) (HD.out.ok.forget i))
  have hB1 : w1.heap[B]? = _ := (ht.block B HD.out.lt.1 hne.1).trans HD.out.dev
  have d2 : w1.cell? ⟨B, 2, none⟩ = some q := by rw [cell_of_row w1 B 2 _ _ _ hB1]; rfl
  have f2 : w1.frozen? ⟨B, 2, none⟩ = false := frozen_of_row w1 B 2 _ _ hB1
  have hBl := (Array.getElem?_eq_some_iff.1 hB1).1
  have HT := Lib.hid ((Turn.of_below hb0 (Nat.le_refl _)).trans ((ht.mono fun k hk => ownB_in HD.out.inQ hk).trans (Turn.setCell (q := F) w1 q' (b := B) (o := 2) HD.out.inB)))
  clear hB1 hq' ht hc hne hin
  have hqs : ∃ a m c, q' = .slice a m c := by
    have := HS.out.waits
    rcases this with ⟨_, _, ad, e⟩ | hw
    · exact ⟨_, _, _, e⟩
    · obtain ⟨a, c, e⟩ := own_slice hw
      exact ⟨_, _, _, e⟩
  obtain ⟨a, m, c, rfl⟩ := hqs
  go_wp2_with fail
  go_end0
  exact ⟨⟨_, rfl⟩, HT.out, _, HS.out⟩
end Go.Proofs.YtohdgjmmekgcmaaDoor

/-
  pmem: what waits, built; append of it.
-/
namespace Go.Proofs.YtohdgjmmekgcmaaDoor
open Go.RowKit Go.Shelf

theorem list8 {L : List Int} (h : L.length = 8) : ∃ a b c d e f g k, L = [a, b, c, d, e, f, g, k] := by
  match L, h with
  | [a, b, c, d, e, f, g, k], _ => exact ⟨a, b, c, d, e, f, g, k, rfl⟩
theorem build_wait (i : Int) {L : List Int} (h : L.length = 8) (W : World) : (Instr.build 113 #[(0, .int .i64 i), (1, .agg (vals L).toArray)]).run Tryd.prog W = .ok (.agg (.int .i64 i :: vals L).toArray) W := by
  obtain ⟨a, b, c, d, e, f, g, k, rfl⟩ := list8 h
  kernel_rfl
theorem slice_wait (i : Int) {L : List Int} (h : L.length = 8) (W : World) : (Instr.buildSlice 97 1 #[(0, .agg (.int .i64 i :: vals L).toArray)]).run Tryd.prog W = .ok (.slice (some ⟨W.heap.size, 0, none⟩) 1 1) (W.alloc (.cells (.int .i64 i :: vals L).toArray 113)) := by
  obtain ⟨a, b, c, d, e, f, g, k, rfl⟩ := list8 h
  kernel_rfl
theorem GrowV.slice {W : World} {e : TypeId} {size : Nat} {v : Value} {n : Nat} {xs : List Value} (h : GrowV W e size v n xs) : ∃ a c, v = .slice a n c := by
  rcases h with ⟨rfl, _, ad, rfl⟩ | h
  · exact ⟨_, _, rfl⟩
  · exact own_slice h
/-- append to a slice of elements of so many cells. -/
theorem append_grow {P : Program} (w : World) (t ty e : TypeId) (i : TypeInfo) (z : Value) (size bytes : Nat) (h1 : P.underlying t = some (.slice e)) (h2 : P.info? e = some i) (h3 : i.zero = some z) (h4 : i.size = size) (h5 : i.bytes = bytes) (h6 : z.cells.size = size) (hs : 0 < size)
    (v : Value) (n : Nat) (xs : List Value) (hG : GrowV w e size v n xs) (a : Addr) (m c : Nat) (hm : 0 < m) (news : List Value) (hl : news.length = m * size) (hnews : ∀ j y, news[j]? = some y → w.cell? (a.add j) = some y) (hone : ∀ u ∈ news, u.oneCell' = true)
    (b1 : n + m ≤ 1000000) (b2 : (n + m) * bytes ≤ 140737488355328) :
    ∃ v' w', (Builtin.append_ #[t, t] ty #[v, .slice (some a) m c]).run P w = .ok v' w' ∧ GrowV w' e size v' (n + m) (xs ++ news) ∧ Turn (ownB v) w w' ∧ ∀ F, OwnIn F v → OwnIn (more F w w') v' := by
  have key : ∀ v : Value, (∀ ad, v ≠ .slice (some ad) 0 0) → w.ownsRow 0 e size v n xs → ∃ v' w', (Builtin.append_ #[t, t] ty #[v, .slice (some a) m c]).run P w = .ok v' w' ∧ GrowV w' e size v' (n + m) (xs ++ news) ∧ Turn (ownB v) w w' ∧ ∀ F, OwnIn F v → OwnIn (more F w w') v' := fun v hz hown => by
    obtain ⟨v', w', hrun, r1, r2, r3, r4⟩ := run_append_own_at (P := P) w 0 t ty e i z size bytes h1 h2 h3 h4 h5 h6 hs v n xs hown a m c news hl hnews hone (by unfold maxLen; omega) b2 (Nat.zero_le _)
    refine ⟨v', w', hrun, .inr r1, ⟨r2.os, r2.tape, r2.output, r2.size, fun k hk hq => r2.block k hk fun hb => hq ⟨hb.symm, hz⟩⟩, fun F hF => .inr fun g hg => ?_⟩
    rcases r4 with h | h
    · rw [h] at hg
      rcases hF with ⟨ad, e0⟩ | hF
      · exact absurd e0 (hz ad)
      · exact .inl (hF g hg)
    · rw [h] at hg
      simp only [Option.some.injEq] at hg
      subst hg
      exact .inr ⟨Nat.le_refl _, (r1.lt _ h).2⟩
  by_cases hz : ∃ ad, v = .slice (some ad) 0 0
  · obtain ⟨g, rfl⟩ := hz
    have hn : n = 0 ∧ xs = [] := by
      rcases hG with ⟨h, h', _⟩ | hG
      · exact ⟨h, h'⟩
      · obtain ⟨a', c', e0⟩ := own_slice hG
        simp only [Value.slice.injEq] at e0
        obtain ⟨-, rfl, -⟩ := e0
        have := hG.1
        rw [Nat.zero_mul] at this
        exact ⟨rfl, List.eq_nil_of_length_eq_zero this⟩
    obtain ⟨rfl, rfl⟩ := hn
    have hr := run_append_grow (P := P) w t ty e i z h1 h2 h3 g 0 0 [] (by simp) (by simp) a m c news (by rw [hl, h4]) hnews (by omega) (by omega) (by rw [h5]; exact growslice_fits (by omega) (by omega))
    have hr0 := run_append_nil (P := P) w t ty e i z h1 h2 h3 a m c news (by rw [hl, h4]) hnews (by omega) (by omega) (by rw [h5]; rw [Nat.zero_add] at b2; omega)
    obtain ⟨v', w', hrun, r1, r2, r3⟩ := key (.slice none 0 0) (fun ad e => by cases e) (World.ownsRow_nil _ _ _ _)
    refine ⟨v', w', ?_, r1, r2.mono (fun k hk => by cases hk.1), fun F _ => r3 F (.inr fun g hg => by cases hg)⟩
    rw [hr, ← hrun, hr0]
    simp
  · rcases hG with ⟨_, _, ad, rfl⟩ | hG
    · exact absurd ⟨ad, rfl⟩ hz
    · exact key v (fun ad e => hz ⟨ad, e⟩) hG
/-- At a step of a region that draws its order. -/
theorem step_append_V {P : Program} {w : World} {ops : Array Oper} {o : Oper} {a : Act} {K : Act → World → Prop} {Q : Exit → Act → World → Prop} {E : Prop} (hgd : o.guard = none) (s x : Operand) (t : TypeId)
    (ho : o.op = .call { callee := .builtin .append, args := #[s, x], argTypes := #[t, t] }) (e : TypeId) (i : TypeInfo) (z : Value) (size bytes : Nat) (h1 : P.underlying t = some (.slice e)) (h2 : P.info? e = some i) (h3 : i.zero = some z) (h4 : i.size = size) (h5 : i.bytes = bytes) (h6 : z.cells.size = size) (hs : 0 < size)
    (v : Value) (n : Nat) (xs : List Value) (hsv : a.eval s = v) (hG : GrowV w e size v n xs) (ad : Addr) (m c : Nat) (hx : a.eval x = .slice (some ad) m c) (hm : 0 < m) (news : List Value) (hl : news.length = m * size) (hnews : ∀ j y, news[j]? = some y → w.cell? (ad.add j) = some y) (hone : ∀ u ∈ news, u.oneCell' = true)
    (b1 : n + m ≤ 1000000) (b2 : (n + m) * bytes ≤ 140737488355328)
    (h : ∀ v' w', GrowV w' e size v' (n + m) (xs ++ news) → Turn (ownB v) w w' → (∀ F, OwnIn F v → OwnIn (more F w w') v') → K (a.put o.dst v') w') :
    if Region.wanted o (yielded ops a.tmps) = true then Oper.wp P o a w K Q else E := by
  rw [if_pos (by unfold Region.wanted; rw [hgd])]
  obtain ⟨v', w', hr, r1, r2, r3⟩ := append_grow (P := P) w t o.type e i z size bytes h1 h2 h3 h4 h5 h6 hs v n xs hG ad m c hm news hl hnews hone b1 b2
  unfold Oper.wp execOp
  simp only [ho, resolve, invoke, builtin, Sem.run_bind, Sem.run_pure, Result.andThen_ok, List.map_toArray, List.map_cons, List.map_nil, hsv, hx, hr]
  exact h v' w' r1 r2 r3
theorem wp_append_V {P : Program} {w : World} {o : Oper} {a : Act} {K : Act → World → Prop} {Q : Exit → Act → World → Prop} (s x : Operand) (t : TypeId)
    (ho : o.op = .call { callee := .builtin .append, args := #[s, x], argTypes := #[t, t] }) (e : TypeId) (i : TypeInfo) (z : Value) (size bytes : Nat) (h1 : P.underlying t = some (.slice e)) (h2 : P.info? e = some i) (h3 : i.zero = some z) (h4 : i.size = size) (h5 : i.bytes = bytes) (h6 : z.cells.size = size) (hs : 0 < size)
    (v : Value) (n : Nat) (xs : List Value) (hsv : a.eval s = v) (hG : GrowV w e size v n xs) (ad : Addr) (m c : Nat) (hx : a.eval x = .slice (some ad) m c) (hm : 0 < m) (news : List Value) (hl : news.length = m * size) (hnews : ∀ j y, news[j]? = some y → w.cell? (ad.add j) = some y) (hone : ∀ u ∈ news, u.oneCell' = true)
    (b1 : n + m ≤ 1000000) (b2 : (n + m) * bytes ≤ 140737488355328)
    (h : ∀ v' w', GrowV w' e size v' (n + m) (xs ++ news) → Turn (ownB v) w w' → (∀ F, OwnIn F v → OwnIn (more F w w') v') → K (a.put o.dst v') w') :
    Oper.wp P o a w K Q := by
  obtain ⟨v', w', hr, r1, r2, r3⟩ := append_grow (P := P) w t o.type e i z size bytes h1 h2 h3 h4 h5 h6 hs v n xs hG ad m c hm news hl hnews hone b1 b2
  unfold Oper.wp execOp
  simp only [ho, resolve, invoke, builtin, Sem.run_bind, Sem.run_pure, Result.andThen_ok, List.map_toArray, List.map_cons, List.map_nil, hsv, hx, hr]
  exact h v' w' r1 r2 r3
theorem exec_load_eq {P : Program} {w : World} {o : Oper} {a : Act} {ty : TypeId} {x : Operand} (ho : o.op = .load ty x) {p v : Value} (hx : a.eval x = p) (hr : (Instr.loadAt ty p).run P w = .ok v w) : (execOp a.eval o).run P w = .ok (.value v) w := by
  unfold execOp
  simp only [ho, hx, hr, Sem.run_bind, Result.andThen_ok]
  rfl
theorem wp_store_eq {P : Program} {w w' : World} {o : Oper} {a : Act} {K : Act → World → Prop} {Q : Exit → Act → World → Prop} (ty : TypeId) (x y : Operand) (ho : o.op = .store ty x y)
    (p v : Value) (hx : a.eval x = p) (hy : a.eval y = v) (hr : (Instr.storeAt ty p v).run P w = .ok () w') (h : K (a.put o.dst undef) w') : Oper.wp P o a w K Q := by
  unfold Oper.wp execOp
  simp only [ho, hx, hy, hr, Sem.run_bind, Result.andThen_ok]
  exact h
/-- A load of which the run is known, at a step of a region that draws its order. -/
theorem step_load_eq {P : Program} {w : World} {ops : Array Oper} {o : Oper} {a : Act} {K : Act → World → Prop} {Q : Exit → Act → World → Prop} {E : Prop} (hgd : o.guard = none) (ty : TypeId) (x : Operand) (ho : o.op = .load ty x)
    (p v : Value) (hx : a.eval x = p) (hr : (Instr.loadAt ty p).run P w = .ok v w) (h : K (a.put o.dst v) w) : if Region.wanted o (yielded ops a.tmps) = true then Oper.wp P o a w K Q else E := by
  rw [if_pos (by unfold Region.wanted; rw [hgd])]
  unfold Oper.wp execOp
  simp only [ho, hx, hr, Sem.run_bind, Result.andThen_ok]
  exact h
theorem step_store_eq {P : Program} {w w' : World} {ops : Array Oper} {o : Oper} {a : Act} {K : Act → World → Prop} {Q : Exit → Act → World → Prop} {E : Prop} (hgd : o.guard = none) (ty : TypeId) (x y : Operand) (ho : o.op = .store ty x y)
    (p v : Value) (hx : a.eval x = p) (hy : a.eval y = v) (hr : (Instr.storeAt ty p v).run P w = .ok () w') (h : K (a.put o.dst undef) w') : if Region.wanted o (yielded ops a.tmps) = true then Oper.wp P o a w K Q else E := by
  rw [if_pos (by unfold Region.wanted; rw [hgd])]
  unfold Oper.wp execOp
  simp only [ho, hx, hy, hr, Sem.run_bind, Result.andThen_ok]
  exact h
theorem wpStill_load_eq {P : Program} {ops : Array Oper} {w : World} {Q : Act → Prop} {a : Act} {o : Oper} {rest : List Oper} (hgd : o.guard = none) (ty : TypeId) (x : Operand) (ho : o.op = .load ty x)
    (p v : Value) (hx : a.eval x = p) (hr : (Instr.loadAt ty p).run P w = .ok v w) (h : wpStill P ops w Q rest (a.put o.dst v)) : wpStill P ops w Q (o :: rest) a := by
  unfold wpStill
  rw [if_pos (by unfold Region.wanted; rw [hgd])]
  unfold Oper.still execOp
  simp only [ho, hx, hr, Sem.run_bind, Result.andThen_ok]
  exact ⟨rfl, h⟩
theorem wpList_append_V {P : Program} {w : World} {ops : Array Oper} {rest : List Oper} {o : Oper} {a : Act} {Q : Exit → Act → World → Prop} (hgd : o.guard = none) (s x : Operand) (t : TypeId)
    (ho : o.op = .call { callee := .builtin .append, args := #[s, x], argTypes := #[t, t] }) (e : TypeId) (i : TypeInfo) (z : Value) (size bytes : Nat) (h1 : P.underlying t = some (.slice e)) (h2 : P.info? e = some i) (h3 : i.zero = some z) (h4 : i.size = size) (h5 : i.bytes = bytes) (h6 : z.cells.size = size) (hs : 0 < size)
    (v : Value) (n : Nat) (xs : List Value) (hsv : a.eval s = v) (hG : GrowV w e size v n xs) (ad : Addr) (m c : Nat) (hx : a.eval x = .slice (some ad) m c) (hm : 0 < m) (news : List Value) (hl : news.length = m * size) (hnews : ∀ j y, news[j]? = some y → w.cell? (ad.add j) = some y) (hone : ∀ u ∈ news, u.oneCell' = true)
    (b1 : n + m ≤ 1000000) (b2 : (n + m) * bytes ≤ 140737488355328)
    (h : ∀ v' w', GrowV w' e size v' (n + m) (xs ++ news) → Turn (ownB v) w w' → (∀ F, OwnIn F v → OwnIn (more F w w') v') → wpList P ops Q rest (a.put o.dst v') w') : wpList P ops Q (o :: rest) a w :=
  wpList_plain hgd fun K hK => by
    obtain ⟨v', w', hr, r1, r2, r3⟩ := append_grow (P := P) w t o.type e i z size bytes h1 h2 h3 h4 h5 h6 hs v n xs hG ad m c hm news hl hnews hone b1 b2
    unfold Oper.wp execOp
    simp only [ho, resolve, invoke, builtin, Sem.run_bind, Sem.run_pure, Result.andThen_ok, List.map_toArray, List.map_cons, List.map_nil, hsv, hx, hr]
    exact hK _ _ (h v' w' r1 r2 r3)
end Go.Proofs.YtohdgjmmekgcmaaDoor

/-
  A region that draws its order: what only reads comes first, as long as a condition on the world holds, which the operation that waits for all others need not keep.
-/
namespace Go.Proofs.YtohdgjmmekgcmaaDoor
open Go.RowKit Go.Shelf

/-- What a slot written, a list's element are. -/
theorem elem_laws : (∀ {α : Type} (l : List α) (i : Nat) (h : i < l.toArray.size), l.toArray[i]'h = l[i]'(by simpa using h)) ∧ (∀ {α : Type} (x : α) (l : List α) (h : 0 < (x :: l).length), (x :: l)[0]'h = x) ∧ (∀ {α : Type} (x : α) (l : List α) (i : Nat) (h : i + 1 < (x :: l).length), (x :: l)[i + 1]'h = l[i]'(Nat.lt_of_succ_lt_succ h)) :=
  ⟨fun _ _ _ => rfl, fun _ _ _ => rfl, fun _ _ _ _ => rfl⟩
theorem put_laws : (∀ (a : Act) (d : Tmp) (v : Value), a.put (some d) v = { a with tmps := a.tmps.setIfInBounds d v }) ∧ (∀ (a : Act) (v : Value), a.put none v = a) ∧
    (∀ {α : Type} (l : List α) (i : Nat) (x : α), l.toArray.setIfInBounds i x = (l.set i x).toArray) ∧ (∀ {α : Type} (x y : α) (l : List α), (x :: l).set 0 y = y :: l) ∧ (∀ {α : Type} (x y : α) (l : List α) (i : Nat), (x :: l).set (i + 1) y = x :: l.set i y) ∧
    (∀ {α : Type} (l : List α) (i : Nat) (h : i < l.toArray.size), l.toArray[i]'h = l[i]'(by simpa using h)) ∧ (∀ {α : Type} (x : α) (l : List α) (h : 0 < (x :: l).length), (x :: l)[0]'h = x) ∧ (∀ {α : Type} (x : α) (l : List α) (i : Nat) (h : i + 1 < (x :: l).length), (x :: l)[i + 1]'h = l[i]'(Nat.lt_of_succ_lt_succ h)) :=
  ⟨fun _ _ _ => rfl, fun _ _ => rfl, fun _ _ _ => by simp, fun _ _ _ => rfl, fun _ _ _ _ => rfl, elem_laws⟩
section
variable {P : Program} {md : Region.Mode} {ops : Array Oper} {Q : Exit → Act → World → Prop} {m : Nat} {R : World → Prop}
/-- Till operation m has come up, R holds. -/
def Till (m : Nat) (R : World → Prop) (l : Array Bool) (w : World) : Prop := l.getD m true = false → R w
/-- Whatever order is drawn from here on; R holds till m has come up. -/
def wpAnyM (P : Program) (md : Region.Mode) (ops : Array Oper) (Q : Exit → Act → World → Prop) (m : Nat) (R : World → Prop) : Nat → Array Bool → Act → World → Prop
  | 0, l, a, w => wpAny P md ops Q 0 l a w
  | f + 1, l, a, w => (Region.ready md ops l = [] → Q .normal a w) ∧ ∀ i ∈ Region.ready md ops l, wpOp P ops Q i (fun a' w' => Till m R (l.setIfInBounds i true) w' ∧ wpAnyM P md ops Q m R f (l.setIfInBounds i true) a' w') a w
theorem wpAny_of_M : ∀ (f : Nat) (l : Array Bool) (a : Act) (w : World), wpAnyM P md ops Q m R f l a w → wpAny P md ops Q f l a w
  | 0, _, _, _, h => h
  | f + 1, _, _, _, h => ⟨h.1, fun i hi => wpOp_mono (fun a' w' h' => wpAny_of_M f _ a' w' h'.2) (h.2 i hi)⟩
theorem getD_set_true {l : Array Bool} {i j : Nat} (h : (l.setIfInBounds i true).getD j true = false) : l.getD j true = false := by
  by_cases e : i = j
  · subst e
    rcases Nat.lt_or_ge i l.size with h' | h'
    · simp [h'] at h
    · rw [Array.getD_eq_getD_getElem?, Array.getElem?_eq_none (by simpa using h')] at h
      cases h
  · rwa [getD_set_ne true e] at h
theorem Till.set {l : Array Bool} {w : World} (h : Till m R l w) (i : Nat) : Till m R (l.setIfInBounds i true) w := fun hl => h (getD_set_true hl)
theorem unlisted_not {l : Array Bool} {i j : Nat} {oj : Oper} (hj : j ∈ Region.ready md ops l) (hoj : ops[j]? = some oj) (hi : l.getD i true = false) : ∀ e ∈ oj.after, Region.binds md e = true → e.on ≠ i := fun e he hb heq => by
  obtain ⟨_, oj', hoj', hall⟩ := mem_ready.1 hj
  rw [hoj] at hoj'
  obtain rfl := Option.some.inj hoj'
  have h1 := hall e he hb
  rw [heq] at h1
  rcases Nat.lt_or_ge i l.size with h' | h'
  · simp [h'] at hi h1; rw [hi] at h1; cases h1
  · simp [Array.getElem?_eq_none h'] at h1
theorem wpAnyM_first {i : Nat} {oi : Oper} {v : Value} (hi : ops[i]? = some oi) (hsel : ∀ (j : Nat) (o : Oper) cs b, ops[j]? = some o → o.op ≠ .select cs b)
    (hQ : ∀ c a w, Q (.panic c) (a.put oi.dst v) w → Q (.panic c) a w) (hmi : m ≠ i) (hmw : Region.waitsFor md ops m i = true) : ∀ (f : Nat) (l : Array Bool) (a : Act) (w : World),
      (∀ j oj, ops[j]? = some oj → j ≠ i → l.getD j true = false → (∀ e ∈ oj.after, Region.binds md e = true → e.on ≠ i) → oi.apart ops oj = true) →
      i ∈ Region.ready md ops l → l.getD m true = false → YieldsIf P ops R oi v a → R w →
      wpAnyM P md ops Q m R f (l.setIfInBounds i true) (a.put oi.dst v) w → wpAnyM P md ops Q m R (f + 1) l a w
  | f, l, a, w, hfree, hr, hml, hy, hw, H => by
    have hil := (mem_ready.1 hr).1
    refine ⟨fun h => (by rw [h] at hr; cases hr), fun j hj => ?_⟩
    by_cases hji : j = i
    · subst hji
      exact hy.wpOp hi hw ⟨fun _ => hw, H⟩
    · have hrj := ready_mono hj hji
      cases f with
      | zero =>
        have h0 := H.1
        rw [h0] at hrj
        cases hrj
      | succ f =>
        obtain ⟨hjun, oj, hoj, -⟩ := mem_ready.1 hj
        have hnot := unlisted_not hj hoj hil
        have hjm : j ≠ m := by
          rintro rfl
          obtain ⟨om, hom, e, he, hb, hon⟩ := Region.waitsFor_spec hmw
          exact unlisted_not hj hom hil e he hb hon
        have h2 := wpOp_putIf hoj (hfree j oj hoj hji hjun hnot) (fun cs b => hsel i oi cs b hi) (fun cs b => hsel j oj cs b hoj) hQ hy (H.2 j hrj)
        refine wpOp_mono (fun a' w' h3 => ?_) h2
        obtain ⟨hya, hTa, hMa⟩ := h3
        have hml2 : (l.setIfInBounds j true).getD m true = false := by rw [getD_set_ne true hjm]; exact hml
        have hw2 : R w' := hTa (by rw [getD_set_ne true hjm, getD_set_ne true (Ne.symm hmi)]; exact hml)
        refine ⟨fun _ => hw2, wpAnyM_first hi hsel hQ hmi hmw f (l.setIfInBounds j true) a' w' (fun k ok hk hki hku hno => ?_) (ready_mono hr (Ne.symm hji)) hml2 hya hw2 ?_⟩
        · exact hfree k ok hk hki (getD_set_true hku) hno
        · rw [Array.setIfInBounds_comm _ _ hji]; exact hMa
/-- Number i comes first. -/
theorem wpAnyM_take {i : Nat} {oi : Oper} {v : Value} {f : Nat} {l : Array Bool} {a : Act} {w : World} (hi : ops[i]? = some oi) (hs : Region.noSelect ops = true)
    (hc : (Region.free md ops l i && (Region.ready md ops l).contains i && (m != i) && Region.waitsFor md ops m i && !(l.getD m true)) = true)
    (hQ : ∀ c a w, Q (.panic c) (a.put oi.dst v) w → Q (.panic c) a w) (hy : YieldsIf P ops R oi v a) (hw : R w)
    (h : wpAnyM P md ops Q m R f (l.setIfInBounds i true) (a.put oi.dst v) w) : wpAnyM P md ops Q m R (f + 1) l a w := by
  simp only [Bool.and_eq_true, bne_iff_ne, ne_eq, Bool.not_eq_true'] at hc
  obtain ⟨⟨⟨⟨h1, h2⟩, h3⟩, h4⟩, h5⟩ := hc
  exact wpAnyM_first hi (Region.noSelect_spec hs) hQ h3 h4 f l a w (Region.free_spec hi h1) (by simpa using h2) h5 hy hw h
/-- One alone may come up. -/
theorem wpAnyM_one {i : Nat} {oi : Oper} {f : Nat} {l : Array Bool} {a : Act} {w : World} (hi : ops[i]? = some oi) (hr : Region.ready md ops l = [i])
    (h : ∀ K : Act → World → Prop, (∀ a' w', ((l.setIfInBounds i true).getD m true = false → R w') → wpAnyM P md ops Q m R f (l.setIfInBounds i true) a' w' → K a' w') →
      if Region.wanted oi (yielded ops a.tmps) = true then Oper.wp P oi a w K Q else K (a.put oi.dst undef) w) : wpAnyM P md ops Q m R (f + 1) l a w := by
  refine ⟨fun h0 => (by rw [h0] at hr; cases hr), fun j hj => ?_⟩
  rw [hr] at hj
  obtain rfl : j = i := by simpa using hj
  unfold wpOp
  simp only [hi]
  have hh := h (fun a' w' => Till m R (l.setIfInBounds j true) w' ∧ wpAnyM P md ops Q m R f (l.setIfInBounds j true) a' w') fun a' w' h1 h2 => ⟨h1, h2⟩
  by_cases hwt : Region.wanted oi (yielded ops a.tmps) = true
  · rw [if_pos hwt] at hh ⊢; exact .inl hh
  · rw [if_neg hwt] at hh ⊢; exact hh
theorem wpAnyM_two {i j : Nat} {oi oj : Oper} {f : Nat} {l : Array Bool} {a : Act} {w : World} (hi : ops[i]? = some oi) (hj : ops[j]? = some oj) (hr : Region.ready md ops l = [i, j])
    (h : ∀ K : Act → World → Prop, (∀ a' w', ((l.setIfInBounds i true).getD m true = false → R w') → wpAnyM P md ops Q m R f (l.setIfInBounds i true) a' w' → K a' w') →
      if Region.wanted oi (yielded ops a.tmps) = true then Oper.wp P oi a w K Q else K (a.put oi.dst undef) w)
    (h' : ∀ K : Act → World → Prop, (∀ a' w', ((l.setIfInBounds j true).getD m true = false → R w') → wpAnyM P md ops Q m R f (l.setIfInBounds j true) a' w' → K a' w') →
      if Region.wanted oj (yielded ops a.tmps) = true then Oper.wp P oj a w K Q else K (a.put oj.dst undef) w) : wpAnyM P md ops Q m R (f + 1) l a w := by
  refine ⟨fun h0 => (by rw [h0] at hr; cases hr), fun k hk => ?_⟩
  rw [hr] at hk
  rcases (by simpa using hk : k = i ∨ k = j) with rfl | rfl
  · unfold wpOp
    simp only [hi]
    have hh := h (fun a' w' => Till m R (l.setIfInBounds k true) w' ∧ wpAnyM P md ops Q m R f (l.setIfInBounds k true) a' w') fun a' w' h1 h2 => ⟨h1, h2⟩
    by_cases hwt : Region.wanted oi (yielded ops a.tmps) = true
    · rw [if_pos hwt] at hh ⊢; exact .inl hh
    · rw [if_neg hwt] at hh ⊢; exact hh
  · unfold wpOp
    simp only [hj]
    have hh := h' (fun a' w' => Till m R (l.setIfInBounds k true) w' ∧ wpAnyM P md ops Q m R f (l.setIfInBounds k true) a' w') fun a' w' h1 h2 => ⟨h1, h2⟩
    by_cases hwt : Region.wanted oj (yielded ops a.tmps) = true
    · rw [if_pos hwt] at hh ⊢; exact .inl hh
    · rw [if_neg hwt] at hh ⊢; exact hh
/-- The one that waits for all. -/
theorem wpAnyM_last {om : Oper} {f : Nat} {l : Array Bool} {a : Act} {w : World} (hi : ops[m]? = some om) (hr : Region.ready md ops l = [m])
    (h : ∀ K : Act → World → Prop, (∀ a' w', wpAnyM P md ops Q m R f (l.setIfInBounds m true) a' w' → K a' w') →
      if Region.wanted om (yielded ops a.tmps) = true then Oper.wp P om a w K Q else K (a.put om.dst undef) w) : wpAnyM P md ops Q m R (f + 1) l a w :=
  wpAnyM_one hi hr fun K hK => h K fun a' w' hM => hK a' w' (fun h0 => by
    rcases Nat.lt_or_ge m l.size with h' | h'
    · simp [h'] at h0
    · rw [Array.getD_eq_getD_getElem?, Array.getElem?_eq_none (by simpa using h')] at h0
      cases h0) hM
/-- All have come up. -/
theorem wpAnyM_done {l : Array Bool} {a : Act} {w : World} (hr : Region.ready md ops l = []) (h : Q .normal a w) : ∀ f, wpAnyM P md ops Q m R f l a w
  | 0 => ⟨hr, h⟩
  | _ + 1 => ⟨fun _ => h, by rw [hr]; simp⟩
/-- The beginning. -/
theorem wp_region_M {id : Nat} {a : Act} {w : World} (m : Nat) (R : World → Prop) (hm : P.follows .mixedOrders = true)
    (h : wpAnyM P .any ops Q m R ops.size (Array.replicate ops.size false) a w.drew) : (Code.region id ops true).wp P Q a w :=
  wp_region_any hm (wpAny_of_M _ _ _ _ h)
end
end Go.Proofs.YtohdgjmmekgcmaaDoor

/-
  pmem: Flush.
-/
namespace Go.Proofs.YtohdgjmmekgcmaaDoor
open Go.RowKit Go.Shelf

theorem load_line {t : TypeId} {dd : TypeDesc} (hu : Tryd.prog.underlying t = some dd) (hd : dd.isRow = true) (hi : (Tryd.prog.info? t).map (·.size) = some 8) {W : World} {e : TypeId} {g n c : Nat} {ws : List Int} (h : W.ownsRow 0 e 8 (.slice (some ⟨g, 0, none⟩) n c) n (vals ws)) (j : Nat) (hj : j < n) :
    (Instr.loadAt t (.pointer (some ⟨g, j * 8, none⟩))).run Tryd.prog W = .ok (.agg (vals (lineAt ws j)).toArray) W := by
  have hr := row_range h (j * 8) 8
  rw [vals_line] at hr
  refine run_loadAt_mid W g (j * 8) t _ dd hr hu hd ?_
  have := h.1
  rw [vals_length] at this
  rw [hi, vals_length, lineAt_length this hj]
theorem OwnIn.mono {F F' : Nat → Prop} {v : Value} (h : OwnIn F v) (hF : ∀ k, F k → F' k) : OwnIn F' v := h.imp id fun f g hg => hF g (f g hg)
theorem errR_ne : ((errR false) == 0) = false := rfl
set_option maxRecDepth 100000 in
set_option maxHeartbeats 2000000 in
theorem flush_yes {F : Nat → Prop} {B S T n cS cT : Nat} {q : Value} {d : Dv} (j : Nat) (hj : j < n) (w : World) (h : DevB w F B S T n cS cT q d) :
    Calls Tryd.prog 24 #[.pointer (some ⟨B, 0, none⟩), .int .i64 j] w fun e w' => e = .returned (.int .i64 0) ∧ Turn F w w' ∧ ∃ q', DevB w' (more F w w') B S T n cS cT q' (d.flush n j) := by
  obtain ⟨i0, hi, hz0, hz1, hz2⟩ := info_parts infoW
  have HR := Lib.hid (refuses_any (j : Int) w h)
  rw [show inR n (j : Int) = true from decide_eq_true (by omega)] at HR
  have HD := Lib.hid h; clear h
  go_enter Tryd.func24, Tryd.ntmps24
  go_wp2_with fail
  refine wp_scope_forward 0 rfl ?_
  go_wp2_with fail
  refine HR.out.mono ?_
  rintro e w1 ⟨rfl, hb⟩
  have z1 := hb.size
  rw [show errR true = 0 from rfl]
  go_wp2_with fail
  refine (forget_any (j : Int) w1 (HD.out.below hb)).mono ?_
  rintro e w2 ⟨⟨u, rfl⟩, ht2, q2, hd2⟩
  have z2 := ht2.size
  have hld := load_line Tryd.underlying110 rfl (by kernel_rfl) (hd2.below (Below.drew (Below.refl _ _))).seen j hj
  go_wp2_with fail
  have c0 := hd2.cell0
  have c2 := hd2.cell2
  have hlB := hd2.lt.1
  have HLL := Lib.hid (lineAt_length hd2.ok.seen hj)
  have hlin := hd2.ok.seen
  rw [show lineAt (d.forget (j : Int)).seen j = lineAt d.seen j from rfl] at hld HLL
  obtain ⟨L, hL⟩ : ∃ L, lineAt d.seen j = L := ⟨_, rfl⟩
  rw [hL] at hld HLL
  obtain ⟨a0, a1, a2, a3, a4, a5, a6, a7, rfl⟩ := list8 HLL.out
  have hj2 : (j : Int) < (n : Int) := by omega
  obtain ⟨aq, cq, rfl⟩ := hd2.waits.slice
  have HL := Lib.hid hL
  have HD2 := Lib.hid hd2
  have bq : Below w2.heap.size w2 w2 := Below.refl _ _
  have hneB : ¬ ownB (.slice aq (d.forget (j : Int)).waits.length cq) B := fun h => (HD2.out.wait_ne.elim (fun ⟨ad, e⟩ => h.2 ad e) fun f => (f B h.1).1 rfl)
  have hneS : ¬ ownB (.slice aq (d.forget (j : Int)).waits.length cq) S := fun h => (HD2.out.wait_ne.elim (fun ⟨ad, e⟩ => h.2 ad e) fun f => (f S h.1).2.1 rfl)
  have hneT : ¬ ownB (.slice aq (d.forget (j : Int)).waits.length cq) T := fun h => (HD2.out.wait_ne.elim (fun ⟨ad, e⟩ => h.2 ad e) fun f => (f T h.1).2.2 rfl)
  have HNE := Lib.hid (And.intro hneB (And.intro hneS hneT))
  have HS := Lib.hid (fun W (ht : Turn (ownB (.slice aq (d.forget (j : Int)).waits.length cq)) w2 W) => show (fun w' => w'.cell? ⟨B, 0, none⟩ = some (.slice (some ⟨S, 0, none⟩) n cS) ∧ w'.cell? ⟨B, 2, none⟩ = some (.slice aq (d.forget (j : Int)).waits.length cq) ∧ w'.cell? ⟨S, j * 8, none⟩ = some (.int .u64 a0) ∧ w'.cell? ⟨S, j * 8 + 1, none⟩ = some (.int .u64 a1) ∧ w'.cell? ⟨S, j * 8 + 2, none⟩ = some (.int .u64 a2) ∧ w'.cell? ⟨S, j * 8 + 3, none⟩ = some (.int .u64 a3) ∧ w'.cell? ⟨S, j * 8 + 4, none⟩ = some (.int .u64 a4) ∧ w'.cell? ⟨S, j * 8 + 5, none⟩ = some (.int .u64 a5) ∧ w'.cell? ⟨S, j * 8 + 6, none⟩ = some (.int .u64 a6) ∧ w'.cell? ⟨S, j * 8 + 7, none⟩ = some (.int .u64 a7)) W from And.intro ((cell_of_row W B 0 _ _ _ ((ht.block B HD2.out.lt.1 HNE.out.1).trans HD2.out.dev)).trans rfl) (And.intro ((cell_of_row W B 2 _ _ _ ((ht.block B HD2.out.lt.1 HNE.out.1).trans HD2.out.dev)).trans rfl) (by
    have hr := row_range (own_keeps HD2.out.seen fun hl => ht.block S hl HNE.out.2.1) (j * 8) 8
    rw [vals_line, show lineAt (d.forget (j : Int)).seen j = lineAt d.seen j from rfl, HL.out] at hr
    exact ⟨hr 0 _ rfl, hr 1 _ rfl, hr 2 _ rfl, hr 3 _ rfl, hr 4 _ rfl, hr 5 _ rfl, hr 6 _ rfl, hr 7 _ rfl⟩)))
  have HFZ := Lib.hid (fun W (ht : Turn (ownB (.slice aq (d.forget (j : Int)).waits.length cq)) w2 W) => And.intro (frozen_of_row W B 2 _ _ ((ht.block B HD2.out.lt.1 HNE.out.1).trans HD2.out.dev)) (And.intro (Nat.lt_of_lt_of_le HD2.out.lt.1 ht.size) (show W.cell? ⟨B, 2, none⟩ = some (.slice aq (d.forget (j : Int)).waits.length cq) from (cell_of_row W B 2 _ _ _ ((ht.block B HD2.out.lt.1 HNE.out.1).trans HD2.out.dev)).trans rfl)))
  have HG := Lib.hid (fun W (hb : Below w2.heap.size w2 W) => (HD2.out.below hb).waits)
  have HC := Lib.hid (fun (W : World) => show ∀ (jj : Nat) (y : Value), (cellsW [(j, [a0, a1, a2, a3, a4, a5, a6, a7])])[jj]? = some y → (W.alloc (.cells #[.int .i64 j, .int .u64 a0, .int .u64 a1, .int .u64 a2, .int .u64 a3, .int .u64 a4, .int .u64 a5, .int .u64 a6, .int .u64 a7] 113)).cell? ((⟨W.heap.size, 0, none⟩ : Addr).add jj) = some y from fun jj y hy => by
    rw [Addr.add_mid, Nat.zero_add, cell_of_row _ _ _ _ _ _ (World.alloc_heap_new W _)]
    rw [← hy]
    simp [cellsW, vals])
  have HB := Lib.hid (show (d.forget (j : Int)).waits.length + 1 ≤ 1000000 ∧ ((d.forget (j : Int)).waits.length + 1) * 72 ≤ 140737488355328 from by have := HD2.out.ok.few; have := HD2.out.most; omega)
  clear hld hlin hd2 hL hneB hneS hneT c0 c2
  refine wp_region_M 19 (fun w' => w'.cell? ⟨B, 0, none⟩ = some (.slice (some ⟨S, 0, none⟩) n cS) ∧ w'.cell? ⟨B, 2, none⟩ = some (.slice aq (d.forget (j : Int)).waits.length cq) ∧ w'.cell? ⟨S, j * 8, none⟩ = some (.int .u64 a0) ∧ w'.cell? ⟨S, j * 8 + 1, none⟩ = some (.int .u64 a1) ∧ w'.cell? ⟨S, j * 8 + 2, none⟩ = some (.int .u64 a2) ∧ w'.cell? ⟨S, j * 8 + 3, none⟩ = some (.int .u64 a3) ∧ w'.cell? ⟨S, j * 8 + 4, none⟩ = some (.int .u64 a4) ∧ w'.cell? ⟨S, j * 8 + 5, none⟩ = some (.int .u64 a5) ∧ w'.cell? ⟨S, j * 8 + 6, none⟩ = some (.int .u64 a6) ∧ w'.cell? ⟨S, j * 8 + 7, none⟩ = some (.int .u64 a7)) (by kernel_rfl) ?_
  have hR : (fun w' => w'.cell? ⟨B, 0, none⟩ = some (.slice (some ⟨S, 0, none⟩) n cS) ∧ w'.cell? ⟨B, 2, none⟩ = some (.slice aq (d.forget (j : Int)).waits.length cq) ∧ w'.cell? ⟨S, j * 8, none⟩ = some (.int .u64 a0) ∧ w'.cell? ⟨S, j * 8 + 1, none⟩ = some (.int .u64 a1) ∧ w'.cell? ⟨S, j * 8 + 2, none⟩ = some (.int .u64 a2) ∧ w'.cell? ⟨S, j * 8 + 3, none⟩ = some (.int .u64 a3) ∧ w'.cell? ⟨S, j * 8 + 4, none⟩ = some (.int .u64 a4) ∧ w'.cell? ⟨S, j * 8 + 5, none⟩ = some (.int .u64 a5) ∧ w'.cell? ⟨S, j * 8 + 6, none⟩ = some (.int .u64 a6) ∧ w'.cell? ⟨S, j * 8 + 7, none⟩ = some (.int .u64 a7)) w2.drew := HS.out _ (Turn.of_below (Below.drew (Below.refl _ _)) (Nat.le_refl _))
  (refine wpAnyM_take (i := 0) (v := ?_) rfl (by kernel_rfl) (by kernel_rfl) (fun _ _ _ h => h) (Or.inl ⟨by rfl, ?_⟩) hR ?_; rotate_left; (focus (intro w hSw; (try dsimp only at hSw); go_simp; (try with_reducible rfl))); (try simp only [put_laws])); (refine wpAnyM_take (i := 1) (v := ?_) rfl (by kernel_rfl) (by kernel_rfl) (fun _ _ _ h => h) (Or.inl ⟨by rfl, ?_⟩) hR ?_; rotate_left; (focus (intro w hSw; (try dsimp only at hSw); go_simp; (try with_reducible rfl))); (try simp only [put_laws])); (refine wpAnyM_take (i := 2) (v := ?_) rfl (by kernel_rfl) (by kernel_rfl) (fun _ _ _ h => h) (Or.inl ⟨by rfl, ?_⟩) hR ?_; rotate_left; (focus (intro w hSw; (try dsimp only at hSw); go_simp; (try with_reducible rfl))); (try simp only [put_laws])); (refine wpAnyM_take (i := 3) (v := ?_) rfl (by kernel_rfl) (by kernel_rfl) (fun _ _ _ h => h) (Or.inl ⟨by rfl, ?_⟩) hR ?_; rotate_left; (focus (intro w hSw; (try dsimp only at hSw); go_simp; (try with_reducible rfl))); (try simp only [put_laws])); (refine wpAnyM_take (i := 4) (v := ?_) rfl (by kernel_rfl) (by kernel_rfl) (fun _ _ _ h => h) (Or.inl ⟨by rfl, ?_⟩) hR ?_; rotate_left; (focus (intro w hSw; (try dsimp only at hSw); go_simp; (try with_reducible rfl))); (try simp only [put_laws])); (refine wpAnyM_take (i := 5) (v := ?_) rfl (by kernel_rfl) (by kernel_rfl) (fun _ _ _ h => h) (Or.inl ⟨by rfl, ?_⟩) hR ?_; rotate_left; (focus (intro w hSw; (try dsimp only at hSw); go_simp; (try with_reducible rfl))); (try simp only [put_laws])); (refine wpAnyM_take (i := 6) (v := ?_) rfl (by kernel_rfl) (by kernel_rfl) (fun _ _ _ h => h) (Or.inl ⟨by rfl, ?_⟩) hR ?_; rotate_left; (focus (intro w hSw; (try dsimp only at hSw); go_simp; (try with_reducible rfl))); (try simp only [put_laws])); (refine wpAnyM_take (i := 7) (v := ?_) rfl (by kernel_rfl) (by kernel_rfl) (fun _ _ _ h => h) (Or.inl ⟨by rfl, ?_⟩) hR ?_; rotate_left; (focus (intro w hSw; (try dsimp only at hSw); go_simp; (try with_reducible rfl))); (try simp only [put_laws])); (refine wpAnyM_take (i := 8) (v := ?_) rfl (by kernel_rfl) (by kernel_rfl) (fun _ _ _ h => h) (Or.inl ⟨by rfl, ?_⟩) hR ?_; rotate_left; (focus (intro w hSw; (try dsimp only at hSw); go_simp; (try with_reducible rfl))); (try simp only [put_laws])); (refine wpAnyM_take (i := 9) (v := ?_) rfl (by kernel_rfl) (by kernel_rfl) (fun _ _ _ h => h) (Or.inl ⟨by rfl, ?_⟩) hR ?_; rotate_left; (focus (intro w hSw; (try dsimp only at hSw); go_simp; (try with_reducible rfl))); (try simp only [put_laws])); (refine wpAnyM_take (i := 10) (v := ?_) rfl (by kernel_rfl) (by kernel_rfl) (fun _ _ _ h => h) (Or.inl ⟨by rfl, ?_⟩) hR ?_; rotate_left; (focus (intro w hSw; (try dsimp only at hSw); go_simp; (try with_reducible rfl))); (try simp only [put_laws])); (refine wpAnyM_take (i := 11) (v := ?_) rfl (by kernel_rfl) (by kernel_rfl) (fun _ _ _ h => h) (Or.inl ⟨by rfl, ?_⟩) hR ?_; rotate_left; (focus (intro w hSw; (try dsimp only at hSw); go_simp; (try with_reducible rfl))); (try simp only [put_laws])); (refine wpAnyM_take (i := 12) (v := ?_) rfl (by kernel_rfl) (by kernel_rfl) (fun _ _ _ h => h) (Or.inl ⟨by rfl, ?_⟩) hR ?_; rotate_left; (focus (intro w hSw; (try dsimp only at hSw); go_simp; (try with_reducible rfl))); (try simp only [put_laws])); (refine wpAnyM_take (i := 13) (v := ?_) rfl (by kernel_rfl) (by kernel_rfl) (fun _ _ _ h => h) (Or.inl ⟨by rfl, ?_⟩) hR ?_; rotate_left; (focus (intro w hSw; (try dsimp only at hSw); go_simp; (try with_reducible rfl))); (try simp only [put_laws])); (refine wpAnyM_take (i := 14) (v := ?_) rfl (by kernel_rfl) (by kernel_rfl) (fun _ _ _ h => h) (Or.inl ⟨by rfl, ?_⟩) hR ?_; rotate_left; (focus (intro w hSw; (try dsimp only at hSw); go_simp; (try with_reducible rfl))); (try simp only [put_laws]))
  (refine wpAnyM_one (i := 15) rfl (by kernel_rfl) (fun K hK => ?_); rw [if_pos (by rfl)]; (try simp only [elem_laws]))
  go_simp
  refine hK _ _ (fun _ => HS.out _ (Turn.of_below (Below.drew (Below.alloc (Below.refl _ _) (Nat.le_refl _) _)) (Nat.le_refl _))) ?_
  clear hK K
  (try simp only [put_laws])
  (refine wpAnyM_one (i := 16) rfl (by kernel_rfl) (fun K hK => ?_); rw [if_pos (by rfl)]; (try simp only [elem_laws]))
  refine wp_append_V _ _ 97 rfl 113 i0 (.agg zero9) 9 72 Tryd.underlying97 hi hz0 hz1 hz2 rfl (by decide) _ _ _ rfl (HG.out _ (Below.drew (Below.alloc (Below.refl _ _) (Nat.le_refl _) _))) _ _ _ rfl (by decide) (cellsW [(j, [a0, a1, a2, a3, a4, a5, a6, a7])]) rfl (HC.out w2.drew) (cellsW_one _) HB.out.1 HB.out.2 ?_
  intro v3 w3 g3 t3 o3
  have t4 : Turn (ownB (.slice aq (d.forget (j : Int)).waits.length cq)) w2 w3 := (Turn.of_below (Below.drew (Below.alloc (Below.refl _ _) (Nat.le_refl _) _)) (Nat.le_refl _)).trans t3
  have O3 := Lib.hid o3
  have T4 := Lib.hid t4
  have z3 := t3.size
  simp only [World.size_alloc, World.size_drew] at z3
  have G3 := Lib.hid g3
  have RW3 := Lib.hid (HS.out w3 t4)
  refine hK _ _ (fun _ => RW3.out) ?_
  clear hK K t3 o3 hR
  obtain ⟨b3, c3, rfl⟩ := g3.slice
  obtain ⟨f3, l3, x3⟩ := HFZ.out _ t4
  clear g3 t4
  (try simp only [put_laws])
  (refine wpAnyM_one (i := 17) rfl (by kernel_rfl) (fun K hK => ?_); rw [if_pos (by rfl)]; (try simp only [elem_laws]))
  go_simp
  refine hK _ _ (fun _ => RW3.out) ?_
  clear hK K
  (try simp only [put_laws])
  (refine wpAnyM_one (i := 18) rfl (by kernel_rfl) (fun K hK => ?_); rw [if_pos (by rfl)]; (try simp only [elem_laws]))
  go_simp
  refine hK _ _ (fun _ => RW3.out) ?_
  clear hK K
  (try simp only [put_laws])
  (refine wpAnyM_last rfl (by kernel_rfl) (fun K hK => ?_); rw [if_pos (by rfl)]; (try simp only [elem_laws]))
  go_simp
  refine hK _ _ ?_
  clear hK K
  (try simp only [put_laws])
  refine wpAnyM_done (by kernel_rfl) ?_ _
  go_wp2_with fail
  go_step3
  go_wp2
  rw [Exit.jump_ret]
  go_ret
  have hzs : (w3.setCell ⟨B, 2, none⟩ (.slice b3 ((d.forget (j : Int)).waits.length + 1) c3)).heap.size = w3.heap.size := by simp
  have hTF : Turn F w w3 := (Turn.of_below hb (Nat.le_refl _)).trans (ht2.trans (T4.out.mono fun k hk => ownB_in HD2.out.inQ hk))
  have hfw : 0 < w.heap.size := Nat.lt_trans (HD.out.far B HD.out.inB) HD.out.lt.1
  have hfl : d.flush n (j : Int) = { d.forget (j : Int) with waits := (d.forget (j : Int)).waits ++ [(j, [a0, a1, a2, a3, a4, a5, a6, a7])] } := by
    unfold Dv.flush
    rw [show inR n (j : Int) = true from decide_eq_true (by omega), if_pos rfl, Int.toNat_natCast, HL.out]
    rfl
  refine ⟨rfl, hTF.trans (Turn.setCell (q := F) w3 (.slice b3 ((d.forget (j : Int)).waits.length + 1) c3) HD2.out.inB), .slice b3 ((d.forget (j : Int)).waits.length + 1) c3, ?_⟩
  have hok := HD.out.ok.flush (j : Int)
  rw [hfl] at hok ⊢
  refine HD2.out.set_waits (p := ownB (.slice aq (d.forget (j : Int)).waits.length cq)) T4.out HNE.out ?_ (fun k hk => .inl hk) ((O3.out F HD2.out.inQ).mono ?_) ?_ hok
  · rw [List.length_append, cellsW_append]
    exact G3.out
  · rintro k (hk | ⟨hk1, hk2⟩)
    · exact .inl hk
    · simp only [World.size_alloc, World.size_drew] at hk1
      exact .inr ⟨by omega, by rw [hzs]; exact hk2⟩
  · rintro k (hk | ⟨hk1, hk2⟩)
    · exact ⟨HD.out.far k hk, Nat.lt_of_lt_of_le (HD.out.live k hk) (by omega)⟩
    · rw [hzs] at hk2
      exact ⟨by omega, hk2⟩
theorem flush_any {F : Nat → Prop} {B S T n cS cT : Nat} {q : Value} {d : Dv} (i : Int) (w : World) (h : DevB w F B S T n cS cT q d) :
    Calls Tryd.prog 24 #[.pointer (some ⟨B, 0, none⟩), .int .i64 i] w fun e w' => e = .returned (.int .i64 (errR (inR n i))) ∧ Turn F w w' ∧ ∃ q', DevB w' (more F w w') B S T n cS cT q' (d.flush n i) := by
  cases hr : inR n i with
  | true =>
    rw [inR_iff] at hr
    obtain ⟨j, rfl⟩ := Int.eq_ofNat_of_zero_le hr.1
    exact flush_yes j (by omega) w h
  | false =>
    have HR := Lib.hid (refuses_any i w h)
    rw [hr] at HR
    have HL := Lib.hid (show d.flush n i = d by unfold Dv.flush; rw [hr]; rfl)
    have HD := Lib.hid h; clear h
    go_enter Tryd.func24, Tryd.ntmps24
    go_wp2_with fail
    refine wp_scope_forward 0 rfl ?_
    go_wp2_with fail
    refine HR.out.mono ?_
    rintro e w1 ⟨rfl, hb⟩
    have z1 := hb.size
    rw [show errR false = 4 from rfl]
    go_wp2_with fail
    go_step3
    refine ⟨rfl, ?_⟩
    go_wp2
    rw [Exit.jump_ret]
    go_ret
    refine ⟨rfl, Turn.of_below hb (Nat.le_refl _), q, ?_⟩
    rw [HL.out]
    refine (HD.out.below hb).mono (fun k hk => .inl hk) ?_
    rintro k (hk | ⟨hk1, hk2⟩)
    · exact ⟨HD.out.far k hk, Nat.lt_of_lt_of_le (HD.out.live k hk) z1⟩
    · exact ⟨by have := HD.out.far B HD.out.inB; have := HD.out.lt.1; omega, hk2⟩
end Go.Proofs.YtohdgjmmekgcmaaDoor
