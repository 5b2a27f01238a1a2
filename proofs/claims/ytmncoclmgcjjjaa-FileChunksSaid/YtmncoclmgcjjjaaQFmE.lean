/-
  file: slices.All at chunks, as an iterator; Holes.
-/
import Derived.Test.YtmncoclmgcjjjaaMf11
namespace Go.Proofs.Ytmncoclmgcjjjaa
open Go.RowKit Go.Shelf
attribute [local go_sem] Oper.semAt_some

/-- The block in which a slice lies. -/
def blkOf (u : Value) : Option Nat := match u with
  | .slice (some a) _ _ => some a.block
  | _ => none
theorem VecC.kept {W W' : World} {u : Value} {L : List (List Int)} (h : VecC W u L) (hk : ∀ b, 0 < L.length → blkOf u = some b → b < W.heap.size → b < W'.heap.size ∧ W'.heap[b]? = W.heap[b]?) : VecC W' u L := by
  obtain ⟨hl, a, cap, hv, hc, hx⟩ := h
  refine ⟨hl, a, cap, hv, hc, fun h0 => ?_⟩
  obtain ⟨b, off, ha, hb, hj⟩ := hx h0
  obtain ⟨h1, h2⟩ := hk b h0 (by rw [hv, ha]; rfl) hb
  exact ⟨b, off, ha, h1, fun j y hy => (World.cell?_of_block (a := ⟨b, off + j, none⟩) h2).trans (hj j y hy)⟩
def vcP (p : Nat) (u : Value) (n : Nat) (k : Nat) : Prop := k = p ∨ (0 < n ∧ blkOf u = some k)
theorem vcP_lt {W : World} {p : Nat} {u : Value} {L : List (List Int)} (h : VecC W u L) (hp : p < W.heap.size) (k : Nat) (hk : vcP p u L.length k) : k < W.heap.size := by
  rcases hk with rfl | ⟨h0, hb⟩
  · exact hp
  · obtain ⟨-, a, cap, hv, -, hx⟩ := h
    obtain ⟨b, off, ha, hlt, -⟩ := hx h0
    rw [hv, ha] at hb
    have e : b = k := Option.some.inj hb
    rw [← e]; exact hlt
def chZ (L : List (List Int)) (k : Nat) : List Int := L[k]?.getD zeros8
theorem chZ_8 {L : List (List Int)} (h : ∀ l ∈ L, l.length = 8) (k : Nat) : (chZ L k).length = 8 := by
  unfold chZ
  by_cases hk : k < L.length
  · rw [List.getElem?_eq_getElem hk]; exact h _ (List.getElem_mem hk)
  · rw [List.getElem?_eq_none (by omega)]; rfl
theorem chZ_at {L : List (List Int)} {k : Nat} (hk : k < L.length) : chZ L k = L[k]?.getD [] := by
  unfold chZ
  rw [List.getElem?_eq_getElem hk]; rfl
def encA (L : List (List Int)) (k : Nat) : Array Value := #[.int .i64 (k : Nat), .agg (lnA (chZ L k))]
theorem allC_any (a : Option Addr) (n c : Nat) (w : World) : Calls Try.prog 34 #[.slice a n c] w fun e w' => e = .returned (.func (.func 46) #[] #[.pointer (some ⟨w.heap.size, 0, none⟩)]) ∧ w' = w.alloc (.cells #[.slice a n c] 35) := by
  go_enter Try.func34, Try.ntmps34
  go_wp2
  go_ret
  exact ⟨rfl, rfl⟩
set_option maxRecDepth 100000 in
set_option maxHeartbeats 4000000 in
theorem allC_seq (n : Nat) (_ : 1 ≤ n) {p : Nat} {u : Value} {L : List (List Int)} (w : World) (hL8 : ∀ l ∈ L, l.length = 8) (hn : L.length ≤ 1000) (hbx : Boxed w p 35 u) (hv : VecC w u L) :
    SeqF (vcP p u L.length) n Try.prog 46 #[.pointer (some ⟨p, 0, none⟩)] (encA L) (fun ys => ys = List.range L.length) (fun pre => pre <+: List.range L.length) w := fun lp J Jx W hW hJ hJx hY h0 => by
  have HBX : Hid (Boxed W p 35 u) := show Boxed _ _ _ _ from (hW.block _ hbx.lt).trans hbx
  have HV : Hid (VecC W u L) := show VecC _ _ _ from hv.below hW
  have HLD : Hid (∀ W', Keeps (vcP p u L.length) W W' → ∃ a cap, u = .slice a L.length cap ∧ (0 < L.length → ∃ b off, a = some ⟨b, off, none⟩ ∧ ∀ k, k < L.length → (Instr.loadAt 43 (.pointer (some ⟨b, off + k * 8, none⟩))).run Try.prog W' = .ok (.agg (lnA (L[k]?.getD []))) W')) := show ∀ W', _ from fun W' hk => by
    have h1 : VecC W' u L := HV.out.kept fun b h0 hb hl => ⟨Nat.lt_of_lt_of_le hl hk.1, hk.2 b (.inr ⟨h0, hb⟩) hl⟩
    obtain ⟨a, cap, he, -, h2⟩ := vecC_load h1 hL8
    refine ⟨a, cap, he, fun h0 => ?_⟩
    obtain ⟨b, off, ha, -, h3⟩ := h2 h0
    exact ⟨b, off, ha, fun k hk => h3 W' (Below.refl _ _) k hk⟩
  have HY := Lib.hid hY
  have HJ := Lib.hid hJ
  have HT := Lib.hid (fun (k : Nat) (hk : k < L.length) => take_range L.length k hk)
  have HCZ := Lib.hid (fun k (hk : k < L.length) => chZ_at hk)
  have HL8 : Hid (∀ k, k < L.length → (L[k]?.getD []).length = 8) := show ∀ k, _ from fun k hk => by rw [List.getElem?_eq_getElem hk]; exact hL8 _ (List.getElem_mem hk)
  obtain ⟨a0, c0, hu0⟩ := Vec.slice hv
  have cb := HBX.out.cell
  rw [hu0] at cb
  obtain ⟨m, hm⟩ : ∃ m, L.length = m := ⟨_, rfl⟩
  rw [hm] at HLD HY HT HL8 HCZ hn cb ⊢
  clear hY hJx hW hbx hv hJ hL8 hm
  refine callsIn_of_wp Try.func46 rfl trivial ?_ rfl
  simp only [Try.ntmps46, List.size_toArray, List.length_cons, List.length_nil, Nat.reduceAdd, Nat.reduceSub, Array.replicate_succ, Array.replicate_zero, List.push_toArray, List.append_toArray, List.nil_append, List.cons_append]
  gi_wp2_with fail
  gi_loopw [3, 4, 7] (fun x y i wr => ∃ k : Nat, k ≤ m ∧ i = .int .i64 (k : Nat) ∧ Hid (J ((List.range m).take k) (fun _ => False) wr) ∧ Hid (Keeps (vcP p u m) W wr)) (fun _ _ i _ => m - (intOf i).toNat)
  case atStart => exact ⟨0, Nat.zero_le _, rfl, Lib.hid (by simpa using h0), Lib.hid (Keeps.refl _ _)⟩
  case round =>
    obtain ⟨k, hk, rfl, HJs, HKP⟩ := hrel
    clear cb
    by_cases hlt : k < m
    · have HF := Lib.hid (HT.out k hlt)
      obtain ⟨a1, cap1, hu1, h1⟩ := HLD.out wr HKP.out
      rw [hu0] at hu1
      simp only [Value.slice.injEq] at hu1
      obtain ⟨rfl, -, rfl⟩ := hu1
      obtain ⟨b, off, rfl, hld⟩ := h1 (by omega)
      have hld1 := hld k hlt
      have hl8 := HL8.out k hlt
      have hXs : (lnA (L[k]?.getD [])).size = 8 := by rw [lnA_size, hl8]
      obtain ⟨W2, hst, hx2, ht2⟩ := (Blk.new wr 43 (lnA zeros8)).store (P := Try.prog) (tt := 43) (Y := lnA (L[k]?.getD [])) (by rw [hXs]; kernel_rfl) (by rw [hXs]; rfl) (lnA_one _)
      have hb1 : Below wr.heap.size wr (wr.alloc (.cells (lnA zeros8) 43)) := (Below.refl _ _).alloc (Nat.le_refl _) _
      have hb2 : Below wr.heap.size wr W2 := hb1.trans (ht2.below (B := wr.heap.size) (fun k hk => by omega) hb1.size)
      have hl2 := hx2.load (P := Try.prog) (tt := 43) Try.underlying43 rfl (by rw [hXs]; kernel_rfl)
      have HKP2 : Hid (Keeps (vcP p u m) W W2) := show Keeps _ _ _ from HKP.out.trans ⟨hb2.size, fun j _ hl => hb2.block j hl⟩
      obtain ⟨fn, tmps, assign, body, hy, hR⟩ := HY.out _ k _ W2 (HJ.out _ _ _ _ _ HJs.out (Turn.of_below hb2 (Nat.le_refl _)) (fun k h => .inl h)) HKP2.out.1 (fun q h => h.elim) (by rw [HF.out]; exact List.take_prefix _ _)
      rw [HF.out] at hR
      have HR := Lib.hid hR
      unfold encA at hy
      rw [HCZ.out k hlt] at hy
      have hz8 : lnA zeros8 = #[.int .u64 0, .int .u64 0, .int .u64 0, .int .u64 0, .int .u64 0, .int .u64 0, .int .u64 0, .int .u64 0] := rfl
      rw [hz8] at hst
      obtain ⟨X, hX⟩ : ∃ X, lnA (L[k]?.getD []) = X := ⟨_, rfl⟩
      rw [hX] at hld1 hst hl2 hy
      have k2 : (k : Int) < (m : Int) := by omega
      clear hR hx2 ht2 hb1 hb2 hX hXs hz8 hld h1 hl8
      gi_wp2_with (first | (refine wpListIn_load_eq rfl 43 _ rfl _ _ rfl hld1 ?_) | (refine wpListIn_store_eq rfl 43 _ _ rfl _ _ rfl rfl hst ?_) | (refine wpListIn_load_eq rfl 43 _ rfl _ _ rfl hl2 ?_))
      refine HR.out.mono ?_
      rintro e W3 ⟨hk3, ⟨rfl, hJ3⟩ | ⟨rfl, hJx3⟩⟩
      · have HKP3 : Hid (Keeps (vcP p u m) W W3) := show Keeps _ _ _ from HKP2.out.trans (hk3.weaken fun k h => .inl h)
        have HJ3 := Lib.hid hJ3
        clear hy hk3 hJ3 hld1 hst hl2
        gi_wp2_with fail
        go_roundw
        case rel => exact ⟨k + 1, by omega, by go_num, HJ3, HKP3⟩
        case measure => simp [intOf]; omega
      · clear hy hld1 hst hl2
        gi_wp2_with fail
        refine bodyPost_ret (results_none rfl _ _ _) rfl ?_
        exact ⟨⟨_, rfl⟩, .inr ⟨_, List.take_prefix _ _, hJx3⟩⟩
    · obtain rfl : k = m := by omega
      gi_wp2_with fail
      go_end0
      exact ⟨⟨_, rfl⟩, .inl ⟨_, by rw [List.take_of_length_le (by simp)], HJs.out⟩⟩
/-- Holes hands back an iterator over a box with the chunks. -/
theorem fileHoles_any {v : Value} {xs : List Nat} (w : World) (hv : FB w v xs) :
    Calls Try.prog 19 #[v] w fun e w' => ∃ p u, e = .returned (.func (.func 33) #[] #[.pointer (some ⟨p, 0, none⟩)]) ∧ Boxed w' p 35 u ∧ VecC w' u (outK xs) ∧ Below w.heap.size w w' := by
  have HC1 := Lib.hid (fileChunks_any w hv)
  obtain ⟨a, c, rfl, -⟩ := hv.form
  obtain ⟨n, hn⟩ : ∃ n, xs.length = n := ⟨_, rfl⟩
  rw [hn] at HC1 ⊢
  obtain ⟨x, hx⟩ : ∃ x, errK n = x := ⟨_, rfl⟩
  rw [hx] at HC1
  clear hv hn hx
  go_enter Try.func19, Try.ntmps19
  go_wp2_with fail
  refine HC1.out.mono ?_
  rintro e w1 ⟨u, rfl, hu, hb⟩
  have HU := Lib.hid hu
  have HB := Lib.hid hb
  obtain ⟨a1, c1, rfl⟩ := Vec.slice hu
  clear hu hb
  go_wp2_with fail
  go_ret
  have hb2 : Below w1.heap.size w1 (w1.alloc (.cells #[.slice a1 (outK xs).length c1] 35)) := (Below.refl _ _).alloc (Nat.le_refl _) _
  refine ⟨_, _, rfl, Boxed.new _ _ _, HU.out.below hb2, HB.out.trans (hb2.mono HB.out.size)⟩
end Go.Proofs.Ytmncoclmgcjjjaa
