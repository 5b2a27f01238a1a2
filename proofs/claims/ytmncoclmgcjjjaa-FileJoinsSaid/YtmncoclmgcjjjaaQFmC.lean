/-
  The law FileJoins: its argument opened, its walk.
-/
import Derived.Test.YtmncoclmgcjjjaaQFmB
import Derived.Test.YtmncoclmgcjjjaaMf11
import Derived.Deep.Slices
import Derived.ChangeMaps5
import Derived.Lib.SmallJoins
namespace Go.Proofs.Ytmncoclmgcjjjaa
open Go.ChangeShapes Go.WideShapes Go.ChangeAt Go.RowKit Go.Joins Go.Shelf
attribute [local go_sem] Oper.semAt_some

def cellNum9 : Value → Int
  | .int _ z => z
  | _ => 0
set_option maxRecDepth 100000 in
theorem trod_nums9 {H : Type} {enc : TypeId × Value → H} {W : World} {t e : TypeId} {k : IntKind} {n fuel : Nat} {cs : List Value} {x : DataW H × List MemPlace}
    (ht : Try.prog.underlying t = some (.array n e)) (he : Try.prog.underlying e = some (.int k)) (hc : Try.prog.cellsOf e = 1) (hC : Try.prog.cellsOf t = n)
    (h : DataW.trod enc Try.prog W 0 (fun _ => true) true fuel t cs = some x) : ∃ l : List Int, l.length = n ∧ cs = l.map (Value.int k) ∧ ∀ y ∈ l, (Lit.int k y).wf = true := by
  obtain ⟨xs, m, -, -, hl, hlen, hi⟩ := DataW.trod_array ht h
  rw [hC] at hl
  have each : ∀ j (hj : j < n), ∃ z, cs[j]'(by omega) = .int k z ∧ (Lit.int k z).wf = true := fun j hj => by
    have h0 := hi j hj
    rw [hc, Nat.mul_one] at h0
    have e : (cs.drop j).take 1 = [cs[j]'(by omega)] := by
      rw [List.drop_eq_getElem_cons (by omega)]
      rfl
    rw [e, List.getElem?_eq_getElem (show j < xs.length by omega)] at h0
    obtain ⟨f0, e0, -, w0⟩ := DataW.trod_int he h0
    simp only [List.cons.injEq, and_true] at e0
    exact ⟨f0, e0, w0⟩
  refine ⟨cs.map cellNum9, by simp [hl], ?_, fun y hy => ?_⟩
  · refine List.ext_getElem (by simp) fun j h1 h2 => ?_
    obtain ⟨z, hz, -⟩ := each j (by omega)
    simp [hz, cellNum9]
  · obtain ⟨c, hcm, rfl⟩ := List.mem_map.1 hy
    obtain ⟨j, hj, rfl⟩ := List.getElem_of_mem hcm
    obtain ⟨z, hz, hw⟩ := each j (by omega)
    rw [hz]
    exact hw
set_option maxRecDepth 100000 in
theorem open_chunks9 {H : Type} {enc : TypeId × Value → H} {W : World} {base : Nat} {v : Value} {d : DataW H} {p : List MemPlace}
    (hv : Value.okWide Try.prog W .any base 35 v) (h : DataW.Trod enc Try.prog W 0 (fun _ => true) true 35 v d p) (hlt : ∀ x ∈ p, x.block < W.heap.size) :
    ∃ L, VecC W v L ∧ ∀ l ∈ L, Line8N l := by
  obtain ⟨a0, len0, cap0, rfl⟩ := okWide_slice Try.underlying35 hv
  obtain ⟨fuel, hf⟩ := h
  have hC : Try.prog.cellsOf 43 = 8 := by kernel_rfl
  rcases Go.Deep.open_slice Try.underlying35 hf with ⟨hcs, hx⟩ | ⟨a, len, cap, m, n, D, Pl, hcs, hb, hl, hm, hmm, hx, hi⟩
  · simp [Value.cells] at hcs
    obtain ⟨rfl, rfl, rfl⟩ := hcs
    exact ⟨[], vecC_nil W, fun x hx => by cases hx⟩
  · simp [Value.cells] at hcs
    obtain ⟨rfl, rfl, rfl⟩ := hcs
    simp only [if_true] at hmm
    subst hmm
    have hat : ∀ i, ∃ l : List Int, i < m → Line8N l ∧ ∀ j, j < 8 → W.cell? ((a.add (i * 8)).add j) = some (.int .u64 (l[j]?.getD 0)) := fun i => by
      by_cases him : i < m
      · obtain ⟨cs', hc, ht⟩ := hi i him
        rw [hC] at hc
        obtain ⟨l, hl8, hcs', hw⟩ := trod_nums9 (k := .u64) Try.underlying43 Try.underlying42 (by kernel_rfl) (by kernel_rfl) ht
        obtain ⟨-, hcl, hcell⟩ := World.cells?_some hc
        refine ⟨l, fun _ => ⟨⟨hl8, fun y hy => ?_⟩, fun j hj => ?_⟩⟩
        · have := bounds_u64 (hw y hy)
          omega
        · have hjl : j < cs'.length := by rw [hcs', List.length_map, hl8]; exact hj
          have h1 := hcell j hj
          rw [h1]
          subst hcs'
          simp [List.getElem?_eq_getElem (show j < l.length by omega)]
      · exact ⟨[], fun h => absurd h him⟩
    obtain ⟨F, hF⟩ := Classical.axiomOfChoice hat
    have hlen : ((List.range len0).map F).length = len0 := by simp
    have hFj : ∀ j (hj : j < len0), ((List.range len0).map F)[j]'(by rw [hlen]; exact hj) = F j := fun j hj => by simp
    refine ⟨(List.range len0).map F, ?_, fun x hx => ?_⟩
    · have hvec := Vec.of_at (f := cL) cL_len (by decide) (W := W) (a := some a) (cap := m) (l := (List.range len0).map F) (by rw [hlen]; omega) (fun h0 => by
        rw [hlen] at h0
        obtain ⟨b, off, spot⟩ := a
        have hspot : spot = none := by
          have := (hF 0 (by omega)).2 0 (by decide)
          simpa [Addr.add] using World.cell?_spot this
        subst hspot
        simp only [Prod.mk.injEq] at hx
        refine ⟨b, off, rfl, hlt (.cell b off) (by rw [hx.2, hC]; exact List.mem_append_left _ (MemPlace.mem_row.2 ⟨0, by omega, by simp⟩)), fun k hk => ?_⟩
        rw [hlen] at hk
        rw [hFj k hk]
        intro j y hy
        have hj8 : j < 8 := by have := (List.getElem?_eq_some_iff.1 hy).1; rwa [cL_len] at this
        have a1 : (⟨b, off, none⟩ : Addr).add (k * 8) = ⟨b, off + k * 8, none⟩ := by
          unfold Addr.add; split <;> simp_all
        have a2 : (⟨b, off + k * 8, none⟩ : Addr).add j = ⟨b, off + k * 8 + j, none⟩ := by
          unfold Addr.add; split <;> simp_all
        have := (hF k (by omega)).2 j hj8
        rw [a1, a2] at this
        rw [this, ← hy]
        simp [cL, List.getElem?_range hj8])
      unfold VecC
      rw [hlen] at hvec ⊢
      exact hvec
    · obtain ⟨j, hj, rfl⟩ := List.mem_map.1 hx
      have hj' := List.mem_range.1 hj
      exact (hF j (by omega)).1
set_option maxRecDepth 100000 in
set_option maxHeartbeats 4000000 in
theorem joins9_any {v : Value} {L : List (List Int)} (s : Int) (hs0 : -9223372036854775808 ≤ s) (hL : ∀ l ∈ L, Line8N l) (w : World) (hv : VecC w v L) :
    Calls Try.prog 5 #[.int .i64 s, v] w fun e w' => e = .returned (.bool true) ∧ Below w.heap.size w w' := by
  have HK := Lib.hid works9_any
  have HN := Lib.hid num9_any
  have HS := Lib.hid strEq9
  have H1 : Hid (L.length ≤ 10 → ∀ W, Below w.heap.size w W → Calls Try.prog 21 #[.int .i64 s, v] W fun e w' => ∃ r, e = .returned (.tuple #[r, .int .i64 (errJ s L)]) ∧ FB w' r (outJ s L) ∧ Below W.heap.size W w') := show _ → ∀ W, _ from fun h W hW => fileJoin_any s hL (by omega) W (hv.below hW)
  have H2 : Hid (L.length ≤ 10 → ∀ W, Below w.heap.size w W → Calls Try.prog 23 #[.int .i64 s, v] W fun e w' => ∃ r, e = .returned (.tuple #[r, .int .i64 (errJ s L)]) ∧ Sl w' .u8 r (outJ s L) ∧ Below W.heap.size W w') := show _ → ∀ W, _ from fun h W hW => refJoin9_any s hs0 hL (by omega) W (hv.below hW)
  obtain ⟨a, c, rfl, -⟩ := vecC_load hv (fun l hl => (hL l hl).1)
  obtain ⟨n, hn⟩ : ∃ n, L.length = n := ⟨_, rfl⟩
  rw [hn] at H1 H2 ⊢
  obtain ⟨e1, he1⟩ : ∃ e, errJ s L = e := ⟨_, rfl⟩
  rw [he1] at H1 H2
  obtain ⟨B, hB⟩ : ∃ B, outJ s L = B := ⟨_, rfl⟩
  rw [hB] at H1 H2
  have q1 : ∀ e : Int, (e == e) = true := fun e => by simp
  clear hv hn he1 hB
  by_cases hbig : (10 : Int) < (n : Int)
  · go_enter Try.func5, Try.ntmps5
    go_wp2_with fail
    refine (HK.out _).mono ?_
    rintro e w1 ⟨rfl, hb⟩
    go_wp2_with fail
    go_ret
    exact ⟨rfl, hb⟩
  have h1 := Lib.hid (H1.out (by omega))
  have h2 := Lib.hid (H2.out (by omega))
  have HB0 : Hid (Below w.heap.size w w) := show Below _ _ _ from Below.refl _ _
  clear H1 H2
  go_enter Try.func5, Try.ntmps5
  go_wp2_with fail
  refine (h1.out w HB0.out).mono ?_
  rintro e w1 ⟨r1, rfl, f1, hb⟩
  have HB1 := Lib.hid hb
  have F1 := Lib.hid f1.sl
  clear hb f1
  go_wp2_with fail
  refine (h2.out w1 HB1.out).mono ?_
  rintro e w2 ⟨r2, rfl, f2, hb⟩
  have HB2 : Hid (Below w.heap.size w w2) := show Below _ _ _ from HB1.out.trans (hb.mono HB1.out.size)
  have d1 := conv_sl (F1.out.below hb)
  have d2 := conv_sl f2
  obtain ⟨s1, hs1⟩ : ∃ s, strOf B = s := ⟨_, rfl⟩
  rw [hs1] at d1 d2
  have k1 := HS.out s1
  clear hb f2 hs1
  go_wp2_with (go_at_call 17; refine (HN.out _ _).mono ?_; rintro e w' ⟨rfl, rfl⟩)
  refine (HK.out _).mono ?_
  rintro e w3 ⟨rfl, hb⟩
  have HB3 : Hid (Below w.heap.size w w3) := show Below _ _ _ from HB2.out.trans (hb.mono HB2.out.size)
  clear hb
  go_wp2_with fail
  go_ret
  exact ⟨rfl, HB3.out⟩
end Go.Proofs.Ytmncoclmgcjjjaa
