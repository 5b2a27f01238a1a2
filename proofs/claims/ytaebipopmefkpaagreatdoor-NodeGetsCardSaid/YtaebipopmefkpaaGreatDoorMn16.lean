/-
  Texts NdKM to NdO, as one.
-/
import Derived.Test.YtaebipopmefkpaaGreatDoorMn15
import Derived.Deep.WholeRow
/-
  node: what a map is; how many chunks.
-/
namespace Go.Proofs.YtaebipopmefkpaaGreatDoor
open Go.RowKit Go.Shelf Go.Sort
attribute [local go_sem] Oper.semAt_some

def chunksN (n : Int) : Int := if 0 ≤ n ∧ n ≤ 448 then (n + 63) / 64 else 0
def chunksErr (n : Int) : Int := if 0 ≤ n ∧ n ≤ 448 then 0 else 2
set_option maxRecDepth 100000 in
theorem chunks_any (n : Int) (w : World) : Calls Tryz.prog 38 #[.int .i64 n] w fun e w' => e = .returned (.tuple #[.int .i64 (chunksN n), .int .i64 (chunksErr n)]) ∧ Below w.heap.size w w' := by
  have HS := Lib.hid sized_lies
  have HB := Lib.hid (fun V => bounds_one (W := V) n 0 448)
  have HWI := Lib.hid (fun g V h => within_any [(n, 0, 448)] (by simp) g V h)
  by_cases h : 0 ≤ n ∧ n ≤ 448
  · have hin : [(n, (0 : Int), (448 : Int))].all inB = true := by simp [inB, h]
    have HO : Hid (chunksN n = (n + 63) / 64 ∧ chunksErr n = 0) := show _ ∧ _ from ⟨if_pos h, if_pos h⟩
    rw [hin] at HWI
    obtain ⟨h0, h1⟩ := h
    have w1 : wrap64 (n + 64) = n + 64 := by unfold wrap64; omega
    have w2 : wrap64 (n + 64 - 1) = n + 63 := by unfold wrap64; omega
    have hdv : (n + 63).tdiv 64 = (n + 63) / 64 := by rw [Int.tdiv_eq_ediv_of_nonneg (by omega)]
    have w3 : wrap64 ((n + 63) / 64) = (n + 63) / 64 := by unfold wrap64; omega
    clear hin
    go_enter Tryz.func38, Tryz.ntmps38
    go_wp2_with fail
    refine (HS.out.2 n _).mono ?_
    rintro e wA ⟨rfl, hbA⟩
    have HBA := Lib.hid hbA
    clear hbA
    go_wp2_with fail
    refine (HWI.out _ _ (HB.out _)).mono ?_
    rintro e wB ⟨rfl, hbB⟩
    have HBB := Lib.hid (HBA.out.trans ((((Below.refl _ wA).alloc (Nat.le_refl _) _).trans (hbB.mono (by simp))).mono HBA.out.size))
    clear hbB
    go_wp2_with fail
    go_ret2
    exact ⟨by rw [HO.out.1, HO.out.2, show (n + 63 : Int) = n + 64 - 1 by omega]; rfl, HBB.out⟩
  · have hin : [(n, (0 : Int), (448 : Int))].all inB = false := by simp [inB]; omega
    have HO : Hid (chunksN n = 0 ∧ chunksErr n = 2) := show _ ∧ _ from ⟨if_neg h, if_neg h⟩
    rw [hin] at HWI
    clear hin h
    go_enter Tryz.func38, Tryz.ntmps38
    go_wp2_with fail
    refine (HS.out.2 n _).mono ?_
    rintro e wA ⟨rfl, hbA⟩
    have HBA := Lib.hid hbA
    clear hbA
    go_wp2_with fail
    refine (HWI.out _ _ (HB.out _)).mono ?_
    rintro e wB ⟨rfl, hbB⟩
    have HBB := Lib.hid (HBA.out.trans ((((Below.refl _ wA).alloc (Nat.le_refl _) _).trans (hbB.mono (by simp))).mono HBA.out.size))
    clear hbB
    go_wp2_with fail
    go_ret2
    exact ⟨by rw [HO.out.1, HO.out.2]; rfl, HBB.out⟩
/-- A chunk's part. -/
def chunkOk (n : Nat) (z c : Int) : Bool := inB (c, 0, 1023) && (decide ((n : Int) < chunksN z) || c == 0)
def chunkS (n : Nat) : NdS := { ok := fun x => chunkOk n (numAt x 0) (numAt x (1 + n)), wr := (numS (1 + n) (1 + n) 0 1023).wr, rd := (numS (1 + n) (1 + n) 0 1023).rd }
abbrev chunkV (n k pn ph : Nat) : PartV := ⟨105, #[.pointer (some ⟨ph, 0, none⟩), .pointer (some ⟨pn, 0, none⟩)], (numVM n (1 + k) (1 + k) 0 1023).f1, (numVM n (1 + k) (1 + k) 0 1023).l1, (numVM n (1 + k) (1 + k) 0 1023).f2, (numVM n (1 + k) (1 + k) 0 1023).l2, chunkS k⟩
/-- Its boxes. -/
def ChunkB (W : World) (n k pn ph : Nat) : Prop := Boxed W pn 3 (.int .i64 (k : Nat)) ∧ Boxed W ph 88 (numVM n (1 + k) (1 + k) 0 1023).v0 ∧ NumBoxM W n (1 + k) 104 64 #[.pointer (some ⟨pn, 0, none⟩)]
theorem ChunkB.below {W W' : World} {n k pn ph : Nat} (h : ChunkB W n k pn ph) (hb : Below W.heap.size W W') : ChunkB W' n k pn ph := by
  obtain ⟨h0, h1, h2, h3, h4⟩ := h
  exact ⟨(hb.block _ h0.lt).trans h0, (hb.block _ h1.lt).trans h1, (hb.block _ h2.lt).trans h2, (hb.block _ h3.lt).trans h3, (hb.block _ h4.lt).trans h4⟩
theorem ChunkB.num {W : World} {n k pn ph : Nat} (hk : k < 7) (h : ChunkB W n k pn ph) : NdPart (GoodI 8) 36 W (numVM n (1 + k) (1 + k) 0 1023) :=
  numBox_partM (by omega) (goodI_num (by omega)) W (field_chunk W hk h.1) pointed_lies h.2.2
set_option maxRecDepth 100000 in
set_option maxHeartbeats 4000000 in
theorem chunkMay {W0 : World} {n k pn ph : Nat} (hk : k < 7) (hB : ChunkB W0 n k pn ph) (w : World) (hw : Below W0.heap.size W0 w) (x : Array Value) (hx : GoodI 8 x) :
    Calls Tryz.prog 105 #[.agg x, .pointer (some ⟨ph, 0, none⟩), .pointer (some ⟨pn, 0, none⟩)] w fun e w' => e = .returned (.bool ((chunkS k).ok x)) ∧ Below w.heap.size w w' := by
  obtain ⟨z, hz, -⟩ := hx.2 0 (by decide)
  obtain ⟨c, hc, -⟩ := hx.2 (1 + k) (by omega)
  have HOK : Hid ((chunkS k).ok x = chunkOk k z c) := show _ = _ by show chunkOk k (numAt x 0) (numAt x (1 + k)) = _; rw [numAt_of hz, numAt_of hc]
  have hBw := hB.below hw
  obtain ⟨W1, hW1⟩ : ∃ W1, w.alloc (.cells x 36) = W1 := ⟨_, rfl⟩
  have hb1 : Below w.heap.size w W1 := by rw [← hW1]; exact (by repeat (first | exact Below.refl _ _ | assumption | refine Below.drew ?_ | refine below_drewN ?_ _ | refine Below.alloc ?_ (by (try simp) <;> omega) _ | refine Below.setCell ?_ (by (try simp) <;> omega) _ | refine Below.trans ?_ (Below.mono (by assumption) (by (try simp) <;> omega))))
  have hx1 : Blk W1 w.heap.size 36 x := by rw [← hW1]; exact Blk.new _ _ _
  have HB1 := Lib.hid (hBw.below hb1)
  have HMY := Lib.hid (fun V (hV : Below W1.heap.size W1 V) => ((ChunkB.num hk (hBw.below hb1)).below hV).mayBe x V hx (Below.refl _ _))
  have HCH := Lib.hid (fun V => chunks_any z V)
  have e0 : ∀ args V, (callFunc 101 args).run Tryz.prog V = .ok (.enter 101 args) V := enters_of Tryz.func101 (by kernel_rfl) rfl
  have hio : ∀ V, Below W1.heap.size W1 V → numAt x (1 + k) = c := fun _ _ => numAt_of hc
  have HW1 := Lib.hid hW1
  have HBB := Lib.hid hb1
  have HX1 := Lib.hid hx1
  have HZ := Lib.hid hz
  have HC := Lib.hid hc
  have HS := Lib.hid hx.1
  have cz0 : (w.alloc (.cells x 36)).cell? ⟨w.heap.size, 0, none⟩ = some (.int .i64 z) := (Blk.new w _ x).cell hz
  clear hW1 hb1 hx1 hBw hB hw hz hc hx hio
  rw [HOK.out]
  go_enter Tryz.func105, Tryz.ntmps105
  go_wp2_with fail
  rw [HW1.out]
  refine (HCH.out W1).mono ?_
  rintro e w2 ⟨rfl, hb2⟩
  have HB2 := Lib.hid (HB1.out.below hb2)
  have hx2 := HX1.out.below hb2 HX1.out.lt
  have HLD := Lib.hid (hx2.load (tt := 36) Tryz.underlying36 rfl (by rw [HS.out]; kernel_rfl))
  have cph := HB2.out.2.1.cell
  have cpn := HB2.out.1.cell
  have HMB := Lib.hid (HMY.out w2 hb2)
  have HBA := Lib.hid (HBB.out.trans (hb2.mono HBB.out.size))
  have HX2 := Lib.hid hx2
  have HIO : Hid ((numVM n (1 + k) (1 + k) 0 1023).S.ok x = inB (c, 0, 1023)) := show _ = _ by show inB (numAt x (1 + k), 0, 1023) = _; rw [numAt_of HC.out]
  rw [HIO.out] at HMB
  obtain ⟨m, hm⟩ : ∃ m, chunksN z = m := ⟨_, rfl⟩
  have HM := Lib.hid hm
  rw [hm]
  obtain ⟨o, ho⟩ : ∃ o, inB (c, 0, 1023) = o := ⟨_, rfl⟩
  have HO := Lib.hid ho
  rw [ho] at HMB
  clear hb2 hx2 hm ho cz0
  have HFIN : ∀ q : Bool, q = (decide ((k : Int) < m) || c == 0) → chunkOk k z c = (o && q) := fun q hq => by unfold chunkOk; rw [HO.out, HM.out, hq]
  have HFN := Lib.hid HFIN
  clear HFIN
  unfold PartV.v0 at cph
  go_wp2_with (refine ndList_load rfl 36 _ rfl _ _ rfl HLD.out ?_)
  refine HMB.out.mono ?_
  rintro e w3 ⟨rfl, hb3⟩
  have hB3 := HB2.out.below hb3
  have hx3 := HX2.out.below hb3 HX2.out.lt
  have cpn3 := hB3.1.cell
  have cx3 := hx3.cell HC.out
  have HB3 := Lib.hid (HBA.out.trans (hb3.mono HBA.out.size))
  have k7 : (k : Int) < 7 := by omega
  clear hB3 hx3 hb3 cph cpn e0 hk
  cases o with
  | false =>
    go_wp2_with fail
    go_ret
    exact ⟨by rw [HFN.out _ rfl]; rfl, HB3.out⟩
  | true =>
    by_cases hkm : (k : Int) < m
    · have HD : Hid ((decide ((k : Int) < m) || c == 0) = true) := show _ = _ by simp [hkm]
      go_wp2_with fail
      go_ret
      exact ⟨by rw [HFN.out true HD.out.symm]; rfl, HB3.out⟩
    · obtain ⟨q, hq⟩ : ∃ q, (c == 0) = q := ⟨_, rfl⟩
      have HD : Hid ((decide ((k : Int) < m) || c == 0) = q) := show _ = _ by simp [hkm, ← hq]
      have HKM := Lib.hid (decide_eq_false hkm)
      go_wp2_with fail
      go_ret
      exact ⟨by rw [HFN.out q HD.out.symm, show (true && q) = (decide ((k : Int) < m) || q) by rw [HKM.out]; rfl]; rfl, HB3.out⟩
theorem chunk_part {W : World} {n k pn ph : Nat} (hk : k < 7) (hB : ChunkB W n k pn ph) : NdPart (GoodI 8) 36 W (chunkV n k pn ph) :=
  have h := ChunkB.num hk hB
  { e0 := enters_of Tryz.func105 (by kernel_rfl) rfl
    e1 := h.e1
    e2 := h.e2
    mayBe := fun x V hx hV => chunkMay hk hB V hV x hx
    write := fun x l b V hx ho hl hV hb1 hb2 => h.write x l b V hx (by
      have h2 : chunkOk k (numAt x 0) (numAt x (1 + k)) = true := ho
      unfold chunkOk at h2
      rw [Bool.and_eq_true] at h2
      exact h2.1) hl hV hb1 hb2
    read := h.read
    wrLine := fun x l hx ho hl => h.wrLine x l hx (by
      have h2 : chunkOk k (numAt x 0) (numAt x (1 + k)) = true := ho
      unfold chunkOk at h2
      rw [Bool.and_eq_true] at h2
      exact h2.1) hl
    rdGood := h.rdGood }
set_option maxRecDepth 100000 in
set_option maxHeartbeats 4000000 in
theorem chunkX (k : Nat) (hk : k < 7) (w : World) : Calls Tryz.prog 58 #[.int .i64 (k : Nat)] w fun e w' => ∃ n pn ph, e = .returned (.agg #[(chunkV n k pn ph).v0, (chunkV n k pn ph).v1, (chunkV n k pn ph).v2]) ∧ Below w.heap.size w w' ∧ ChunkB w' n k pn ph := by
  obtain ⟨W1, hW1⟩ : ∃ W1, (w.alloc (.cells #[.int .i64 (k : Nat)] 3)).alloc (.cells #[.nilFunc, .nilFunc, .nilFunc] 138) = W1 := ⟨_, rfl⟩
  have hb1 : Below w.heap.size w W1 := by rw [← hW1]; exact (by repeat (first | exact Below.refl _ _ | assumption | refine Below.drew ?_ | refine below_drewN ?_ _ | refine Below.alloc ?_ (by (try simp) <;> omega) _ | refine Below.setCell ?_ (by (try simp) <;> omega) _ | refine Below.trans ?_ (Below.mono (by assumption) (by (try simp) <;> omega))))
  have hn1 : Boxed W1 w.heap.size 3 (.int .i64 (k : Nat)) := by unfold Boxed; rw [← hW1]; (simp only [heap_at, World.size_alloc]; repeat (first | rw [if_pos (by omega)] | rw [if_neg (by omega)] | rw [if_pos trivial]))
  have hr1 : Blk W1 (w.heap.size + 1) 138 #[.nilFunc, .nilFunc, .nilFunc] := by unfold Blk; rw [← hW1]; (simp only [heap_at, World.size_alloc]; repeat (first | rw [if_pos (by omega)] | rw [if_neg (by omega)] | rw [if_pos trivial]))
  have wk : wrap64 (1 + ((k : Nat) : Int)) = ((1 + k : Nat) : Int) := by unfold wrap64; omega
  have HNX := Lib.hid (numberedX_M (1 + k) (1 + k) 0 1023 104 64 #[.pointer (some ⟨w.heap.size, 0, none⟩)] W1)
  rw [show ((1 + k : Nat) : Int) = 1 + ((k : Nat) : Int) by omega] at HNX wk
  have HW1 := Lib.hid hW1
  have HB1 := Lib.hid hb1
  have HN1 := Lib.hid hn1
  have HR1 := Lib.hid hr1
  clear hW1 hb1 hn1 hr1
  go_enter Tryz.func58, Tryz.ntmps58
  go_wp2_with fail
  rw [HW1.out]
  refine HNX.out.mono ?_
  rintro e w2 ⟨rfl, hb2, hx2⟩
  have HB2 := Lib.hid (HB1.out.trans (hb2.mono HB1.out.size))
  have HN2 : Hid (Boxed w2 w.heap.size 3 (.int .i64 (k : Nat))) := show Boxed _ _ _ _ from (hb2.block _ HN1.out.lt).trans HN1.out
  have hr2 := HR1.out.below hb2 HR1.out.lt
  obtain ⟨p, hp⟩ : ∃ p, p = chunkV W1.heap.size k w.heap.size (w2.heap.size + 1) := ⟨_, rfl⟩
  obtain ⟨W4, hW4⟩ : ∃ W4, (w2.alloc (.cells #[(chunkV W1.heap.size k w.heap.size (w2.heap.size + 1)).v0, (chunkV W1.heap.size k w.heap.size (w2.heap.size + 1)).v1, (chunkV W1.heap.size k w.heap.size (w2.heap.size + 1)).v2] 138)).alloc (.cells #[(numVM W1.heap.size (1 + k) (1 + k) 0 1023).v0] 88) = W4 := ⟨_, rfl⟩
  have hb4 : Below w2.heap.size w2 W4 := by rw [← hW4]; exact (by repeat (first | exact Below.refl _ _ | assumption | refine Below.drew ?_ | refine below_drewN ?_ _ | refine Below.alloc ?_ (by (try simp) <;> omega) _ | refine Below.setCell ?_ (by (try simp) <;> omega) _ | refine Below.trans ?_ (Below.mono (by assumption) (by (try simp) <;> omega))))
  have hh4 : Boxed W4 (w2.heap.size + 1) 88 (numVM W1.heap.size (1 + k) (1 + k) 0 1023).v0 := by unfold Boxed; rw [← hW4]; (simp only [heap_at, World.size_alloc]; repeat (first | rw [if_pos (by omega)] | rw [if_neg (by omega)] | rw [if_pos trivial]))
  obtain ⟨W5, hst, hr5, ht5⟩ := (hr2.below hb4 hr2.lt).store (P := Tryz.prog) (tt := 138) (Y := #[(chunkV W1.heap.size k w.heap.size (w2.heap.size + 1)).v0, (chunkV W1.heap.size k w.heap.size (w2.heap.size + 1)).v1, (chunkV W1.heap.size k w.heap.size (w2.heap.size + 1)).v2]) (by kernel_rfl) rfl (by simp [Value.oneCell'])
  have HST : Hid ((Instr.storeAt 138 (.pointer (some ⟨w.heap.size + 1, 0, none⟩)) (.agg #[(chunkV W1.heap.size k w.heap.size (w2.heap.size + 1)).v0, (chunkV W1.heap.size k w.heap.size (w2.heap.size + 1)).v1, (chunkV W1.heap.size k w.heap.size (w2.heap.size + 1)).v2])).run Tryz.prog ((w2.alloc (.cells #[(chunkV W1.heap.size k w.heap.size (w2.heap.size + 1)).v0, (chunkV W1.heap.size k w.heap.size (w2.heap.size + 1)).v1, (chunkV W1.heap.size k w.heap.size (w2.heap.size + 1)).v2] 138)).alloc (.cells #[(numVM W1.heap.size (1 + k) (1 + k) 0 1023).v0] 88)) = .ok () W5) := show _ = _ by rw [hW4]; exact hst
  have hz1 : W1.heap.size = w.heap.size + 2 := by rw [← HW1.out]; simp
  have hz2 := HB2.out.size
  have hbx : ∀ b t v, b ≠ w.heap.size + 1 → Boxed W4 b t v → Boxed W5 b t v := fun b t v hb h => (ht5.block b h.lt hb).trans h
  have hlt2 := hr2.lt
  have HC5 : Hid (ChunkB W5 W1.heap.size k w.heap.size (w2.heap.size + 1)) := show ChunkB _ _ _ _ _ from by
    obtain ⟨g0, g1, g2⟩ := hx2
    exact ⟨hbx _ _ _ (by omega) ((hb4.block _ HN2.out.lt).trans HN2.out), hbx _ _ _ (by omega) hh4, hbx _ _ _ (by omega) ((hb4.block _ g0.lt).trans g0), hbx _ _ _ (by omega) ((hb4.block _ g1.lt).trans g1), hbx _ _ _ (by omega) ((hb4.block _ g2.lt).trans g2)⟩
  have HB5 : Hid (Below w.heap.size w W5) := show Below _ _ _ from (HB2.out.trans (hb4.mono HB2.out.size)).trans (ht5.below (B := w.heap.size) (fun q h => by omega) (Nat.le_trans HB2.out.size hb4.size))
  have HR5 := Lib.hid hr5
  clear hb2 hr2 hx2 hp hW4 hb4 hh4 hst hr5 ht5 hz1 hz2 hbx hlt2
  go_wp2_with (refine ndList_store rfl 138 _ _ rfl _ _ rfl rfl HST.out ?_)
  exact bodyPost_ret (results_cell (fn := Tryz.f58) rfl rfl (HR5.out.loadVar (tt := 138) Tryz.underlying138 rfl (by kernel_rfl))) rfl ⟨_, _, _, rfl, HB5.out, HC5.out⟩
end Go.Proofs.YtaebipopmefkpaaGreatDoor

/-
  node: a map's parts.
-/
namespace Go.Proofs.YtaebipopmefkpaaGreatDoor
open Go.RowKit Go.Shelf Go.Sort
attribute [local go_sem] Oper.semAt_some

def mapSpec : Nat → NdS
  | 0 => numS 0 0 0 448
  | k + 1 => chunkS k
def mapSpecs : List NdS := (List.range 8).map mapSpec
theorem infoMP : (Tryz.prog.info? 138).map (fun i => (i.zero, i.size, i.bytes)) = some (some (.agg #[.nilFunc, .nilFunc, .nilFunc]), 3, 24) := by kernel_rfl
theorem partC_oneM (ps : List PartV) : ∀ u ∈ flatC partC ps, u.oneCell' = true := by
  intro u hu
  unfold flatC at hu
  rw [List.mem_flatMap] at hu
  obtain ⟨p, -, hp⟩ := hu
  simp only [partC, List.mem_cons, List.not_mem_nil, or_false] at hp
  rcases hp with rfl | rfl | rfl <;> rfl
/-- A part of a map, by its boxes. -/
def MapP (W : World) : Nat → PartV → Prop
  | 0, p => ∃ n, p = numVM n 0 0 0 448 ∧ NumBoxM W n 0 56 57 #[]
  | k + 1, p => ∃ n pn ph, k < 7 ∧ p = chunkV n k pn ph ∧ ChunkB W n k pn ph
theorem MapP.part {W : World} {k : Nat} {p : PartV} (h : MapP W k p) : NdPart (GoodI 8) 36 W p ∧ p.S = mapSpec k := by
  cases k with
  | zero =>
    obtain ⟨n, rfl, hb⟩ := h
    exact ⟨numBox_partM (by decide) (goodI_num (by decide)) W (field_size W) sized_lies hb, rfl⟩
  | succ k =>
    obtain ⟨n, pn, ph, hk, rfl, hb⟩ := h
    exact ⟨chunk_part hk hb, rfl⟩
theorem MapP.keep {W W' : World} {k : Nat} {p : PartV} (h : MapP W k p) (hb : ∀ b t v, t = 3 ∨ t = 141 ∨ t = 110 ∨ t = 88 → Boxed W b t v → Boxed W' b t v) : MapP W' k p := by
  cases k with
  | zero =>
    obtain ⟨n, hp, h0, h1, h2⟩ := h
    exact ⟨n, hp, hb _ _ _ (.inl rfl) h0, hb _ _ _ (.inr (.inl rfl)) h1, hb _ _ _ (.inr (.inr (.inl rfl))) h2⟩
  | succ k =>
    obtain ⟨n, pn, ph, hk, hp, hq, hh, h0, h1, h2⟩ := h
    exact ⟨n, pn, ph, hk, hp, hb _ _ _ (.inl rfl) hq, hb _ _ _ (.inr (.inr (.inr rfl))) hh, hb _ _ _ (.inl rfl) h0, hb _ _ _ (.inr (.inl rfl)) h1, hb _ _ _ (.inr (.inr (.inl rfl))) h2⟩
theorem MapP.below {W W' : World} {k : Nat} {p : PartV} (h : MapP W k p) (hb : Below W.heap.size W W') : MapP W' k p := h.keep fun _ _ _ _ hx => (hb.block _ hx.lt).trans hx
set_option maxRecDepth 100000 in
set_option maxHeartbeats 4000000 in
theorem mapLine_any (w : World) : Calls Tryz.prog 20 #[] w fun e w' => ∃ v ps, e = .returned v ∧ Below w.heap.size w w' ∧ KindAtM w' v ps ∧ (∀ p ∈ ps, NdPart (GoodI 8) 36 w' p) ∧ ps.map (·.S) = mapSpecs := by
  have HN := Lib.hid (fun (k : Nat) (hk : k < 7) (W : World) => chunkX k hk W)
  have HN0 := Lib.hid (numberedX_M 0 0 0 448 56 57 #[] w)
  obtain ⟨i0, hi, hz0, hz1, hz2⟩ := nd_info infoMP
  have HI := Lib.hid hi
  clear hi
  go_enter Tryz.func20, Tryz.ntmps20
  go_wp2_with fail
  refine HN0.out.mono ?_
  rintro e w1 ⟨rfl, hb1, hx1⟩
  obtain ⟨p0, hp0⟩ : ∃ p, numVM w.heap.size 0 0 0 448 = p := ⟨_, rfl⟩
  rw [hp0]
  obtain ⟨W2, hW2⟩ : ∃ W2, w1.alloc (.cells #[p0.v0, p0.v1, p0.v2] 138) = W2 := ⟨_, rfl⟩
  have hb2 : Below w1.heap.size w1 W2 := by rw [← hW2]; exact (Below.refl _ _).alloc (Nat.le_refl _) _
  have hm1 : MapP w1 0 p0 := ⟨_, hp0.symm, hx1⟩
  have HP2 := Lib.hid (hm1.below hb2)
  have HB2 := Lib.hid (hb1.trans (hb2.mono hb1.size))
  have HG2 : Hid (W2.ownsRow w.heap.size 138 3 (.slice (some ⟨w1.heap.size, 0, none⟩) 1 1) 1 (flatC partC [p0])) := show World.ownsRow _ _ _ _ _ _ _ by
    rw [← hW2]
    exact World.ownsRow_lit w1 #[p0.v0, p0.v1, p0.v2] 1 hb1.size (by decide) rfl
  have HW2 := Lib.hid hW2
  clear hb1 hx1 hp0 hW2 hb2 hm1 HN0
  go_wp2_with fail
  rw [HW2.out]
  go_loopw [1, 5] (fun vv ii wr => ∃ (k : Nat) (q : Value) (ps : List PartV), q = vv ∧ k ≤ 7 ∧ ii = .int .i64 (k : Nat) ∧ ps.length = k + 1 ∧ Hid (wr.ownsRow w.heap.size 138 3 q (k + 1) (flatC partC ps)) ∧ Hid (∀ j (hj : j < ps.length), MapP wr j ps[j]) ∧ Hid (Below w.heap.size w wr)) (fun _ i _ => 7 - (intOf i).toNat)
  case atStart => exact ⟨0, _, [p0], rfl, by omega, rfl, rfl, HG2, (show ∀ j (hj : j < 1), _ from fun j h => by have hj0 : j = 0 := (by omega); subst hj0; exact HP2.out), HB2⟩
  case round =>
    clear HW2 HP2 HG2 HB2
    obtain ⟨k, q, ps, rfl, hk, rfl, hlen, HG, HP, HB⟩ := hrel
    obtain ⟨qa, qc, rfl⟩ := laOwn_slice HG.out
    have HLEN := Lib.hid hlen
    clear hlen
    by_cases hlt : k < 7
    · have k2 : (k : Int) < 7 := by omega
      have HNK := Lib.hid (HN.out k hlt wr)
      go_wp2_with fail
      refine HNK.out.mono ?_
      rintro e w2 ⟨n, pn, ph, rfl, hb2, hx2⟩
      have HB3 := Lib.hid (HB.out.trans (hb2.mono HB.out.size))
      have HG3 := Lib.hid (ownsRow_below HG.out hb2)
      have HP3 : Hid (∀ j (hj : j < ps.length), MapP w2 j ps[j]) := show ∀ j (hj : j < ps.length), _ from fun j hj => (HP.out j hj).below hb2
      have HPP : Hid (MapP w2 (k + 1) (chunkV n k pn ph)) := show MapP _ _ _ from ⟨_, _, _, hlt, rfl, hx2⟩
      obtain ⟨p, hp⟩ : ∃ p, chunkV n k pn ph = p := ⟨_, rfl⟩
      rw [hp] at HPP ⊢
      have b3 : Below w2.heap.size w2 (w2.alloc (.cells #[p.v0, p.v1, p.v2] 138)) := (Below.refl _ _).alloc (Nat.le_refl _) _
      have HB4 := Lib.hid (HB3.out.trans (b3.mono HB3.out.size))
      have HG4 := Lib.hid (ownsRow_below HG3.out b3)
      have HV4 : Hid (Vec (w2.alloc (.cells #[p.v0, p.v1, p.v2] 138)) (.slice (some ⟨w2.heap.size, 0, none⟩) 1 1) 1 3 (flatC partC [p])) := show Vec _ _ _ _ _ from vec_newN w2 (flatC partC [p]) 138 1 3 rfl
      have HL4 : Hid ((ps ++ [p]).length = k + 1 + 1) := show _ = _ by rw [List.length_append, List.length_singleton, HLEN.out]
      have hs4 := HB4.out.size
      clear hb2 hx2 b3 hp HNK
      go_wp2_with (at_builtin; refine park ?_)
      unfold Park
      refine wpList_append_vec rfl _ _ 72 rfl 138 i0 _ 3 24 Tryz.underlying72 HI.out hz0 hz1 hz2 rfl (by decide) w.heap.size _ _ (k + 1) 1 _ _ rfl rfl (.inr HG4.out) HV4.out (partC_oneM [p]) (by omega) (by omega) hs4 ?_
      rintro v5 w5 - b5 ⟨gr5, -, ow5⟩
      have HG5 : Hid (w5.ownsRow w.heap.size 138 3 v5 (k + 1 + 1) (flatC partC (ps ++ [p]))) := show World.ownsRow _ _ _ _ _ _ _ by
        rw [flatC_append]
        exact ow5 HG4.out
      have HB5 := Lib.hid (HB4.out.trans b5)
      have hkp : ∀ b t v, t = 3 ∨ t = 141 ∨ t = 110 ∨ t = 88 → Boxed w2 b t v → Boxed w5 b t v := fun b t v ht hx => box_beside hx (by rcases ht with rfl | rfl | rfl | rfl <;> decide) HG3.out gr5
      have HP5 : Hid (∀ j (hj : j < (ps ++ [p]).length), MapP w5 j (ps ++ [p])[j]) := show ∀ j (hj : j < (ps ++ [p]).length), _ from fun j hj => by
        by_cases h : j < ps.length
        · rw [List.getElem_append_left h]
          exact (HP3.out j h).keep hkp
        · rw [HL4.out] at hj
          have hl := HLEN.out
          obtain rfl : j = k + 1 := by omega
          rw [List.getElem_append_right (by omega)]
          simp only [hl, Nat.sub_self, List.getElem_cons_zero]
          exact HPP.out.keep hkp
      clear gr5 ow5 b5 hkp
      go_wp2_with fail
      go_roundw
      case rel => exact ⟨k + 1, _, ps ++ [p], rfl, by omega, by go_num, HL4.out, HG5, HP5, HB5⟩
      case measure => simp [intOf]; omega
    · obtain rfl : k = 7 := by omega
      go_wp2_with fail
      go_ret
      refine ⟨_, ps, rfl, HB.out, ⟨?_, by rw [HLEN.out]; decide⟩, ?_, ?_⟩
      · rcases HG.out.2 with ⟨h, h0⟩ | ⟨g, cap, cur, hv, hg, hb, hc, hm, hs, ht⟩
        · omega
        · simp only [Value.slice.injEq] at hv
          obtain ⟨rfl, -, rfl⟩ := hv
          refine ⟨g, _, by rw [HLEN.out]; rfl, (Array.getElem?_eq_some_iff.1 hb).1, fun k hk => ?_⟩
          have hat := flatC_at (f := partC) (s := 3) (fun _ => rfl) ps k hk
          have hk7 := hk
          rw [HLEN.out] at hk7
          refine ⟨?_, ?_, ?_⟩
          · rw [World.ownsRow.cellAt HG.out _ (by omega)]; exact hat 0 (by decide)
          · rw [World.ownsRow.cellAt HG.out _ (by omega)]; exact hat 1 (by decide)
          · rw [World.ownsRow.cellAt HG.out _ (by omega)]; exact hat 2 (by decide)
      · intro p hp
        obtain ⟨j, hj, rfl⟩ := List.getElem_of_mem hp
        exact (HP.out j hj).part.1
      · refine List.ext_getElem (by simp [mapSpecs, HLEN.out]) fun j h1 h2 => ?_
        rw [List.getElem_map]
        simp only [mapSpecs, List.getElem_map, List.getElem_range]
        exact (HP.out j (by simpa using h1)).part.2
end Go.Proofs.YtaebipopmefkpaaGreatDoor

/-
  node: PutMap, GetMap. Written by gen_nd.py.
-/
namespace Go.Proofs.YtaebipopmefkpaaGreatDoor
open Go.RowKit Go.Shelf Go.Sort
attribute [local go_sem] Oper.semAt_some

end Go.Proofs.YtaebipopmefkpaaGreatDoor

/-
  node: GetMap. Written by gen_nd.py.
-/
namespace Go.Proofs.YtaebipopmefkpaaGreatDoor
open Go.RowKit Go.Shelf Go.Sort
attribute [local go_sem] Oper.semAt_some

set_option maxRecDepth 100000 in
set_option maxHeartbeats 4000000 in
theorem getMap_any (l : List Int) (hl : Line8 l) (w : World) (ht : Tabs w) :
    Calls Tryz.prog 6 #[.agg (lnA l)] w fun e w' => e = .returned (.tuple #[.agg ((getSp mapSpecs l ndZeroM).getD ndZeroM), .int .i64 (getErr (getSp mapSpecs l ndZeroM))]) ∧ (GoodI 8) ((getSp mapSpecs l ndZeroM).getD ndZeroM) ∧ Below w.heap.size w w' := by
  obtain ⟨W1, hW1⟩ : ∃ W1, ((w.alloc (.cells (lnA l) 23)).alloc (.cells ndZeroM 36)).drew = W1 := ⟨_, rfl⟩
  have hb1 : Below w.heap.size w W1 := by rw [← hW1]; exact (by repeat (first | exact Below.refl _ _ | assumption | refine Below.drew ?_ | refine below_drewN ?_ _ | refine Below.alloc ?_ (by (try simp) <;> omega) _ | refine Below.setCell ?_ (by (try simp) <;> omega) _ | refine Below.trans ?_ (Below.mono (by assumption) (by (try simp) <;> omega))))
  have hx1 : Blk W1 w.heap.size 23 (lnA l) := by rw [← hW1]; exact (Blk.new w _ _).below (n := w.heap.size + 1) (by refine Below.drew ?_; exact (Below.refl _ _).alloc (by simp) _) (Nat.lt_succ_self _)
  have hr1 : Blk W1 (w.heap.size + 1) 36 ndZeroM := by
    rw [← hW1]
    have h := Blk.new (w.alloc (.cells (lnA l) 23)) 36 ndZeroM
    rwa [World.size_alloc] at h
  have HW1 : Hid (((w.alloc (.cells (lnA l) 23)).alloc (.cells #[.int .i64 0, .int .i64 0, .int .i64 0, .int .i64 0, .int .i64 0, .int .i64 0, .int .i64 0, .int .i64 0] 36)).drew = W1) := show _ = _ from hW1
  have HLN := Lib.hid (fun V (ht : Tabs V) => mapLine_any V)
  have HT1 : Hid (Tabs W1) := show Tabs _ from ht.below hb1 ht.room
  have hl8 := hl.1
  have HLD := Lib.hid (fun V (h : Blk V w.heap.size 23 (lnA l)) => h.load (tt := 23) Tryz.underlying23 rfl (by rw [lnA_size, hl8]; kernel_rfl))
  have HX1 := Lib.hid hx1
  have HR1 := Lib.hid hr1
  have HB1 := Lib.hid hb1
  have HL := Lib.hid hl
  have hR : (fun V : World => (Instr.loadAt 23 (.pointer (some ⟨w.heap.size, 0, none⟩))).run Tryz.prog V = .ok (.agg (lnA l)) V) W1 := HLD.out _ hx1
  clear hW1 hb1 hx1 hr1 ht hl hl8
  go_enter Tryz.func6, Tryz.ntmps6
  go_wp2_with fail
  refine wp_region_M 5 (fun V : World => (Instr.loadAt 23 (.pointer (some ⟨w.heap.size, 0, none⟩))).run Tryz.prog V = .ok (.agg (lnA l)) V) (by kernel_rfl) ?_
  rw [HW1.out]
  refine wpAnyM_take2 8 (i := 1) (v := _) rfl (by kernel_rfl) (by kernel_rfl) (fun _ _ _ h => h) (Or.inl ⟨by rfl, fun w hSw => nd_exec_load rfl rfl hSw⟩) hR ?_
  (try simp only [put_laws])
  (refine wpAnyM_one (i := 0) rfl (by kernel_rfl) (fun K hK => ?_); rw [if_pos (by rfl)]; (try simp only [elem_laws]))
  go_simp
  refine (HLN.out W1 HT1.out).mono ?_
  rintro e w2 ⟨v, ps, rfl, hb2, hk2, hp2, hs2⟩
  have hx2 := HX1.out.below hb2 HX1.out.lt
  have hr2 := HR1.out.below hb2 HR1.out.lt
  have hR2 : (fun V : World => (Instr.loadAt 23 (.pointer (some ⟨w.heap.size, 0, none⟩))).run Tryz.prog V = .ok (.agg (lnA l)) V) w2 := HLD.out _ hx2
  refine hK _ _ (fun _ => hR2) ?_
  clear hK K hR
  have hgz : (GoodI 8) ndZeroM := goodI_zero8
  have HPK := Lib.hid (getK_M l HL.out hgz (fun x h => ⟨h.1, goodI_one h⟩) w2 hk2 hp2)
  have hgg : (GoodI 8) ((getSp mapSpecs l ndZeroM).getD ndZeroM) := by
    unfold getSp
    rw [← hs2, ← rd_sp]
    cases hr : rdAll l ps ndZeroM with
    | none => exact hgz
    | some y =>
      have hy := rdAll_good HL.out ps ndZeroM y hp2 hgz hr
      simp only [Option.bind_some]
      split
      · exact hy
      · exact hgz
  rw [get_sp, hs2] at HPK
  have HG := Lib.hid hgg
  have HX2 := Lib.hid hx2
  have HR2 := Lib.hid hr2
  have HB2 := Lib.hid (HB1.out.trans (hb2.mono HB1.out.size))
  clear hb2 hk2 hp2 hs2 hx2 hr2 hgg hgz
  obtain ⟨O, hO⟩ : ∃ O, (getSp mapSpecs l ndZeroM).getD ndZeroM = O := ⟨_, rfl⟩
  obtain ⟨E, hE⟩ : ∃ E, getErr (getSp mapSpecs l ndZeroM) = E := ⟨_, rfl⟩
  have HO := Lib.hid hO
  have HE := Lib.hid hE
  rw [hO, hE] at HPK
  rw [hO] at HG
  clear hO hE
  (try simp only [put_laws])
  (refine wpAnyM_one (i := 2) rfl (by kernel_rfl) (fun K hK => ?_); rw [if_pos (by rfl)]; (try simp only [elem_laws]))
  go_simp
  refine HPK.out.mono ?_
  rintro e w3 ⟨rfl, hb3⟩
  have hx3 := HX2.out.below hb3 HX2.out.lt
  have hr3 := HR2.out.below hb3 HR2.out.lt
  have hR3 : (fun V : World => (Instr.loadAt 23 (.pointer (some ⟨w.heap.size, 0, none⟩))).run Tryz.prog V = .ok (.agg (lnA l)) V) w3 := HLD.out _ hx3
  refine hK _ _ (fun _ => hR3) ?_
  clear hK K hR2
  have hR := hR3
  clear hR3
  have HR3 := Lib.hid hr3
  have HB3 := Lib.hid (HB2.out.trans (hb3.mono HB2.out.size))
  clear hb3 hx3 hr3
  (try simp only [put_laws])
  (refine wpAnyM_take2 8 (i := 3) (v := ?_) rfl (by kernel_rfl) (by kernel_rfl) (fun _ _ _ h => h) (Or.inl ⟨by rfl, ?_⟩) hR ?_; rotate_left; (focus (intro w hSw; (try dsimp only at hSw); go_simp; (try with_reducible rfl))); (try simp only [put_laws])); (refine wpAnyM_take2 8 (i := 4) (v := ?_) rfl (by kernel_rfl) (by kernel_rfl) (fun _ _ _ h => h) (Or.inl ⟨by rfl, ?_⟩) hR ?_; rotate_left; (focus (intro w hSw; (try dsimp only at hSw); go_simp; (try with_reducible rfl))); (try simp only [put_laws]))
  (refine wpAnyM_last rfl (by kernel_rfl) (fun K hK => ?_); rw [if_pos (by rfl)]; (try simp only [elem_laws]))
  clear hR
  have hos := HG.out.1
  have ho1 : O.all (·.oneCell') = true := by have h := HG.out; exact goodI_one h
  obtain ⟨W4, hst, hr4, ht4⟩ := HR3.out.store (P := Tryz.prog) (tt := 36) (Y := O) (by rw [hos]; kernel_rfl) (by rw [hos]; rfl) ho1
  refine nd_store_eq 36 _ _ rfl _ _ rfl rfl hst ?_
  refine hK _ _ ?_
  clear hK K
  (try simp only [put_laws])
  (refine wpAnyM_one (i := 6) rfl (by kernel_rfl) (fun K hK => ?_); rw [if_pos (by rfl)]; (try simp only [elem_laws]))
  go_simp
  refine hK _ _ (fun h => by cases h) ?_
  clear hK K
  (try simp only [put_laws])
  refine wpAnyM_done (by kernel_rfl) ?_ _
  have HR4 := Lib.hid hr4
  have HT4 := Lib.hid ht4
  have HOS := Lib.hid hos
  clear hst hr4 ht4 ho1 hos
  go_wp2_with fail
  exact bodyPost_ret (results_cell_tmp (fn := Tryz.f6) rfl rfl (HR4.out.loadVar (tt := 36) Tryz.underlying36 rfl (by rw [HOS.out]; kernel_rfl)) rfl) rfl ⟨by rw [HO.out, HE.out]; rfl, by rw [HO.out]; exact HG.out, HB3.out.trans (HT4.out.below (B := w.heap.size) (fun k h => by omega) HB3.out.size)⟩
end Go.Proofs.YtaebipopmefkpaaGreatDoor

/-
  node: the chapter's rows. Written by gen_ndw.py.
-/
namespace Go.Proofs.YtaebipopmefkpaaGreatDoor
open Go.RowKit Go.Shelf
attribute [local go_sem] Oper.semAt_some

theorem w8_put : putSp inodeSpecs #[.int .i64 1, .int .i64 3, .int .i64 9] = [769, 9, 0, 0, 0, 0, 0, 0] ∧ putSpE inodeSpecs #[.int .i64 1, .int .i64 3, .int .i64 9] = 0 := ⟨by decide +kernel, by decide +kernel⟩
theorem w8_get : (getSp inodeSpecs [769, 9, 0, 0, 0, 0, 0, 0] ndZeroI).getD ndZeroI = #[.int .i64 1, .int .i64 3, .int .i64 9] ∧ getErr (getSp inodeSpecs [769, 9, 0, 0, 0, 0, 0, 0] ndZeroI) = 0 := ⟨by kernel_rfl, by kernel_rfl⟩
theorem w8_none : (getSp inodeSpecs zeros8 ndZeroI).getD ndZeroI = ndZeroI ∧ getErr (getSp inodeSpecs zeros8 ndZeroI) = 180 := ⟨by kernel_rfl, by kernel_rfl⟩
theorem w8_arg : putSpE inodeSpecs #[.int .i64 2, .int .i64 2, .int .i64 9] = 2 := by decide +kernel
theorem w8_entry : putSp entrySpecs #[.int .i64 0, .int .i64 5, encStr [97, 98]] = [0, 5, 2, 25185, 0, 0, 0, 0] ∧ putSpE entrySpecs #[.int .i64 0, .int .i64 5, encStr [97, 98]] = 0 := ⟨by decide +kernel, by decide +kernel⟩
theorem w8_map : (getSp mapSpecs [65, 4, 7, 0, 0, 0, 0, 0] ndZeroM).getD ndZeroM = #[.int .i64 65, .int .i64 4, .int .i64 7, .int .i64 0, .int .i64 0, .int .i64 0, .int .i64 0, .int .i64 0] ∧ getErr (getSp mapSpecs [65, 4, 7, 0, 0, 0, 0, 0] ndZeroM) = 0 := ⟨by kernel_rfl, by kernel_rfl⟩
theorem w8_mapno : getErr (getSp mapSpecs [64, 4, 7, 0, 0, 0, 0, 0] ndZeroM) = 180 := by kernel_rfl
theorem w8_chunks : chunksN 65 = 2 ∧ chunksErr 65 = 0 := ⟨by decide, by decide⟩
theorem line8_of {l : List Int} (h : (l.length == 8 && l.all fun x => decide (0 ≤ x ∧ x < 18446744073709551616)) = true) : Line8 l := by
  simp only [Bool.and_eq_true, beq_iff_eq, List.all_eq_true, decide_eq_true_eq] at h
  exact h
set_option maxRecDepth 100000 in
set_option maxHeartbeats 8000000 in
theorem works8_any (w : World) (ht : Tabs w) : Calls Tryz.prog 15 #[] w fun e w' => e = .returned (.bool true) ∧ Below w.heap.size w w' := by
  obtain ⟨A, hA⟩ : ∃ A, lnA [769, 9, 0, 0, 0, 0, 0, 0] = A := ⟨_, rfl⟩
  obtain ⟨Z, hZ⟩ : ∃ Z, lnA (putSp inodeSpecs #[.int .i64 2, .int .i64 2, .int .i64 9]) = Z := ⟨_, rfl⟩
  obtain ⟨C, hC⟩ : ∃ C, lnA [0, 5, 2, 25185, 0, 0, 0, 0] = C := ⟨_, rfl⟩
  obtain ⟨M, hM⟩ : ∃ M : Array Value, #[.int .i64 65, .int .i64 4, .int .i64 7, .int .i64 0, .int .i64 0, .int .i64 0, .int .i64 0, .int .i64 0] = M := ⟨_, rfl⟩
  obtain ⟨Y, hY⟩ : ∃ Y, (getSp mapSpecs [64, 4, 7, 0, 0, 0, 0, 0] ndZeroM).getD ndZeroM = Y := ⟨_, rfl⟩
  have hx : GoodI 3 #[.int .i64 1, .int .i64 3, .int .i64 9] := goodI_ints (l := [1, 3, 9]) rfl (by decide)
  have hx2 : GoodI 3 #[.int .i64 2, .int .i64 2, .int .i64 9] := goodI_ints (l := [2, 2, 9]) rfl (by decide)
  have hxe : GoodE #[.int .i64 0, .int .i64 5, encStr [97, 98]] := ⟨rfl, fun j hj => by
    have hj2 : j = 0 ∨ j = 1 := by omega
    rcases hj2 with rfl | rfl
    · exact ⟨0, rfl, by decide, by decide⟩
    · exact ⟨5, rfl, by decide, by decide⟩, [97, 98], rfl, by decide⟩
  have HC1 : Hid (∀ V, Tabs V → Calls Tryz.prog 36 #[.agg #[.int .i64 1, .int .i64 3, .int .i64 9]] V fun e w' => e = .returned (.tuple #[.agg A, .int .i64 0]) ∧ Below V.heap.size V w') := show ∀ V, _ from fun V hV => (putInode_any #[.int .i64 1, .int .i64 3, .int .i64 9] hx V hV).mono fun e w' h => by
    rw [w8_put.1, w8_put.2, hA] at h
    exact ⟨h.1, h.2.2⟩
  have HC2 : Hid (∀ V, Tabs V → Calls Tryz.prog 5 #[.agg A] V fun e w' => e = .returned (.tuple #[.agg #[.int .i64 1, .int .i64 3, .int .i64 9], .int .i64 0]) ∧ Below V.heap.size V w') := show ∀ V, _ from fun V hV => by
    have h := getInode_any [769, 9, 0, 0, 0, 0, 0, 0] (line8_of (by decide)) V hV
    rw [hA, w8_get.1, w8_get.2] at h
    exact h.mono fun e w' h => ⟨h.1, h.2.2⟩
  have HC3 : Hid (∀ V, Tabs V → Calls Tryz.prog 5 #[.agg #[.int .u64 0, .int .u64 0, .int .u64 0, .int .u64 0, .int .u64 0, .int .u64 0, .int .u64 0, .int .u64 0]] V fun e w' => e = .returned (.tuple #[.agg #[.int .i64 0, .int .i64 0, .int .i64 0], .int .i64 180]) ∧ Below V.heap.size V w') := show ∀ V, _ from fun V hV => by
    have h := getInode_any zeros8 zeros8_line V hV
    rw [w8_none.1, w8_none.2] at h
    exact h.mono fun e w' h => ⟨h.1, h.2.2⟩
  have HC4 : Hid (∀ V, Tabs V → Calls Tryz.prog 36 #[.agg #[.int .i64 2, .int .i64 2, .int .i64 9]] V fun e w' => e = .returned (.tuple #[.agg Z, .int .i64 2]) ∧ Below V.heap.size V w') := show ∀ V, _ from fun V hV => (putInode_any #[.int .i64 2, .int .i64 2, .int .i64 9] hx2 V hV).mono fun e w' h => by
    rw [w8_arg, hZ] at h
    exact ⟨h.1, h.2.2⟩
  have hZs : Z.size = 8 ∧ Z.all (·.oneCell') = true := by
    rw [← hZ]
    obtain ⟨-, -, -, -, h, -⟩ := (putInode_any #[.int .i64 2, .int .i64 2, .int .i64 9] hx2 w ht) []
    exact ⟨by rw [lnA_size]; exact (by decide +kernel : (putSp inodeSpecs #[.int .i64 2, .int .i64 2, .int .i64 9]).length = 8), lnA_one _⟩
  have HC5 : Hid (∀ V, Tabs V → Calls Tryz.prog 37 #[.agg #[.int .i64 0, .int .i64 5, encStr [97, 98]]] V fun e w' => e = .returned (.tuple #[.agg C, .int .i64 0]) ∧ Below V.heap.size V w') := show ∀ V, _ from fun V hV => (putEntry_any #[.int .i64 0, .int .i64 5, encStr [97, 98]] hxe V hV).mono fun e w' h => by
    rw [w8_entry.1, w8_entry.2, hC] at h
    exact ⟨h.1, h.2.2⟩
  have HC6 : Hid (∀ V, Tabs V → Calls Tryz.prog 6 #[.agg #[.int .u64 65, .int .u64 4, .int .u64 7, .int .u64 0, .int .u64 0, .int .u64 0, .int .u64 0, .int .u64 0]] V fun e w' => e = .returned (.tuple #[.agg M, .int .i64 0]) ∧ Below V.heap.size V w') := show ∀ V, _ from fun V hV => by
    have h := getMap_any [65, 4, 7, 0, 0, 0, 0, 0] (line8_of (by decide)) V hV
    rw [w8_map.1, w8_map.2, hM] at h
    exact h.mono fun e w' h => ⟨h.1, h.2.2⟩
  have HC7 : Hid (∀ V, Tabs V → Calls Tryz.prog 6 #[.agg #[.int .u64 64, .int .u64 4, .int .u64 7, .int .u64 0, .int .u64 0, .int .u64 0, .int .u64 0, .int .u64 0]] V fun e w' => e = .returned (.tuple #[.agg Y, .int .i64 180]) ∧ Below V.heap.size V w') := show ∀ V, _ from fun V hV => by
    have h := getMap_any [64, 4, 7, 0, 0, 0, 0, 0] (line8_of (by decide)) V hV
    rw [w8_mapno, hY] at h
    exact h.mono fun e w' h => ⟨h.1, h.2.2⟩
  have HC8 : Hid (∀ V, Calls Tryz.prog 38 #[.int .i64 65] V fun e w' => e = .returned (.tuple #[.int .i64 2, .int .i64 0]) ∧ Below V.heap.size V w') := show ∀ V, _ from fun V => by
    have h := chunks_any 65 V
    rw [w8_chunks.1, w8_chunks.2] at h
    exact h
  have HYS : Hid (Y.size = 8 ∧ Y.all (·.oneCell') = true) := show _ ∧ _ from by
    rw [← hY]
    exact ⟨by kernel_rfl, by kernel_rfl⟩
  have HMS : Hid (M.size = 8 ∧ M.all (·.oneCell') = true) := show _ ∧ _ from by rw [← hM]; exact ⟨rfl, by kernel_rfl⟩
  have HAS : Hid (A.size = 8 ∧ A.all (·.oneCell') = true) := show _ ∧ _ from by rw [← hA]; exact ⟨rfl, lnA_one _⟩
  have HCS : Hid (C.size = 8 ∧ C.all (·.oneCell') = true) := show _ ∧ _ from by rw [← hC]; exact ⟨rfl, lnA_one _⟩
  have HZS : Hid (Z.size = 8 ∧ Z.all (·.oneCell') = true) := hZs
  have HEA : Hid (∀ V, (Op.equalIn 10000 23 (.agg A) (.agg #[.int .u64 769, .int .u64 9, .int .u64 0, .int .u64 0, .int .u64 0, .int .u64 0, .int .u64 0, .int .u64 0])).run Tryz.prog V = .ok true V) := show ∀ V, _ from fun V => by rw [← hA]; exact refl_line Tryz.underlying23 (l := [769, 9, 0, 0, 0, 0, 0, 0]) (line8_of (by decide)) V
  have HEC : Hid (∀ V, (Op.equalIn 10000 23 (.agg C) (.agg #[.int .u64 0, .int .u64 5, .int .u64 2, .int .u64 25185, .int .u64 0, .int .u64 0, .int .u64 0, .int .u64 0])).run Tryz.prog V = .ok true V) := show ∀ V, _ from fun V => by rw [← hC]; exact refl_line Tryz.underlying23 (l := [0, 5, 2, 25185, 0, 0, 0, 0]) (line8_of (by decide)) V
  have HEM : Hid (∀ V, (Op.equalIn 9999 34 (.agg #[.int .i64 4, .int .i64 7, .int .i64 0, .int .i64 0, .int .i64 0, .int .i64 0, .int .i64 0]) (.agg #[.int .i64 4, .int .i64 7, .int .i64 0, .int .i64 0, .int .i64 0, .int .i64 0, .int .i64 0])).run Tryz.prog V = .ok true V) := show ∀ V, _ from fun V => refl_7 4 7 0 0 0 0 0 9997 V
  have HMM : Hid (#[.int .i64 65, .int .i64 4, .int .i64 7, .int .i64 0, .int .i64 0, .int .i64 0, .int .i64 0, .int .i64 0] = M) := hM
  have HEX : Hid (∀ V, (Op.equalIn 10000 31 (.agg #[.int .i64 1, .int .i64 3, .int .i64 9]) (.agg #[.int .i64 1, .int .i64 3, .int .i64 9])).run Tryz.prog V = .ok true V) := show ∀ V, _ from fun V => refl_I hx V
  have HN := Lib.hid num8_any
  obtain ⟨W1, hW1⟩ : ∃ W1, w.alloc (.cells #[.int .i64 1, .int .i64 3, .int .i64 9] 31) = W1 := ⟨_, rfl⟩
  have hb1 : Below w.heap.size w W1 := by rw [← hW1]; exact (by repeat (first | exact Below.refl _ _ | assumption | refine Below.drew ?_ | refine below_drewN ?_ _ | refine Below.alloc ?_ (by (try simp) <;> omega) _ | refine Below.setCell ?_ (by (try simp) <;> omega) _ | refine Below.trans ?_ (Below.mono (by assumption) (by (try simp) <;> omega))))
  have HB1 := Lib.hid hb1
  have HT1 : Hid (Tabs W1) := show Tabs _ from ht.below hb1 ht.room
  have B1_1 : Hid (Blk W1 w.heap.size 31 #[.int .i64 1, .int .i64 3, .int .i64 9]) := show Blk _ _ _ _ by rw [← hW1]; exact Blk.new _ _ _
  have HLD1 : Hid ((Instr.loadAt 31 (.pointer (some ⟨w.heap.size, 0, none⟩))).run Tryz.prog (w.alloc (.cells #[.int .i64 1, .int .i64 3, .int .i64 9] 31)) = .ok (.agg #[.int .i64 1, .int .i64 3, .int .i64 9]) (w.alloc (.cells #[.int .i64 1, .int .i64 3, .int .i64 9] 31))) := show _ = _ by rw [hW1]; exact B1_1.out.load (tt := 31) Tryz.underlying31 rfl (by kernel_rfl)
  have HW1 := Lib.hid hW1
  clear hA hZ hC hM hY hx hx2 hxe hZs hW1 hb1 ht
  go_enter Tryz.func15, Tryz.ntmps15
  go_wp2_with (refine ndList_load rfl 31 _ rfl _ _ rfl HLD1.out ?_)
  rw [HW1.out]
  refine (HC1.out W1 HT1.out).mono ?_
  rintro e v1 ⟨rfl, hb⟩
  obtain ⟨W2, hW⟩ : ∃ W, v1.alloc (.cells A 23) = W := ⟨_, rfl⟩
  have hbn : Below W1.heap.size W1 W2 := by rw [← hW]; exact hb.alloc hb.size _
  have HST : Hid ((Instr.storeAt 23 (.pointer (some ⟨v1.heap.size, 0, none⟩)) (.agg A)).run Tryz.prog (v1.alloc (.cells #[.int .u64 0, .int .u64 0, .int .u64 0, .int .u64 0, .int .u64 0, .int .u64 0, .int .u64 0, .int .u64 0] 23)) = .ok () W2) := show _ = _ by
    rw [← hW]
    exact run_storeAt_new v1 23 _ A (by rw [HAS.out.1]; kernel_rfl) (by rw [HAS.out.1]; rfl) HAS.out.2
  have B1_2 := Lib.hid (B1_1.out.below hbn B1_1.out.lt)
  have B2_2 : Hid (Blk W2 v1.heap.size 23 A) := show Blk _ _ _ _ by rw [← hW]; exact Blk.new _ _ _
  have HB2 := Lib.hid (HB1.out.trans (hbn.mono HB1.out.size))
  have HT2 : Hid (Tabs W2) := show Tabs _ from HT1.out.below hbn HT1.out.room
  have HLD := Lib.hid (B2_2.out.load (tt := 23) Tryz.underlying23 rfl (by rw [HAS.out.1]; kernel_rfl))
  clear hb hbn hW B1_1
  go_wp2_with (first | (refine ndList_store rfl 23 _ _ rfl _ _ rfl rfl HST.out ?_) | (refine ndList_load rfl 23 _ rfl _ _ rfl HLD.out ?_))
  clear HST
  refine (HC2.out W2 HT2.out).mono ?_
  rintro e v2 ⟨rfl, hb⟩
  obtain ⟨W3, hW⟩ : ∃ W, v2.alloc (.cells #[.int .i64 1, .int .i64 3, .int .i64 9] 31) = W := ⟨_, rfl⟩
  have hbn : Below W2.heap.size W2 W3 := by rw [← hW]; exact hb.alloc hb.size _
  have B1_3 := Lib.hid (B1_2.out.below hbn B1_2.out.lt)
  have B2_3 := Lib.hid (B2_2.out.below hbn B2_2.out.lt)
  have B3_3 : Hid (Blk W3 v2.heap.size 31 #[.int .i64 1, .int .i64 3, .int .i64 9]) := show Blk _ _ _ _ by rw [← hW]; exact Blk.new _ _ _
  have HB3 := Lib.hid (HB2.out.trans (hbn.mono HB2.out.size))
  have HT3 : Hid (Tabs W3) := show Tabs _ from HT2.out.below hbn HT2.out.room
  have HW := Lib.hid hW
  clear hb hbn hW B1_2 B2_2
  go_wp2_with fail
  rw [HW.out]
  clear HW
  refine (HC3.out W3 HT3.out).mono ?_
  rintro e v3 ⟨rfl, hb⟩
  obtain ⟨W4, hW⟩ : ∃ W, v3.alloc (.cells #[.int .i64 0, .int .i64 0, .int .i64 0] 31) = W := ⟨_, rfl⟩
  have hbn : Below W3.heap.size W3 W4 := by rw [← hW]; exact hb.alloc hb.size _
  have B1_4 := Lib.hid (B1_3.out.below hbn B1_3.out.lt)
  have B2_4 := Lib.hid (B2_3.out.below hbn B2_3.out.lt)
  have B3_4 := Lib.hid (B3_3.out.below hbn B3_3.out.lt)
  have B4_4 : Hid (Blk W4 v3.heap.size 31 #[.int .i64 0, .int .i64 0, .int .i64 0]) := show Blk _ _ _ _ by rw [← hW]; exact Blk.new _ _ _
  have HB4 := Lib.hid (HB3.out.trans (hbn.mono HB3.out.size))
  have HT4 : Hid (Tabs W4) := show Tabs _ from HT3.out.below hbn HT3.out.room
  have HW := Lib.hid hW
  clear hb hbn hW B1_3 B2_3 B3_3
  clear B4_4
  go_wp2_with fail
  rw [HW.out]
  clear HW
  refine (HC4.out W4 HT4.out).mono ?_
  rintro e v4 ⟨rfl, hb⟩
  obtain ⟨W5, hW⟩ : ∃ W, v4.alloc (.cells Z 23) = W := ⟨_, rfl⟩
  have hbn : Below W4.heap.size W4 W5 := by rw [← hW]; exact hb.alloc hb.size _
  have HST : Hid ((Instr.storeAt 23 (.pointer (some ⟨v4.heap.size, 0, none⟩)) (.agg Z)).run Tryz.prog (v4.alloc (.cells #[.int .u64 0, .int .u64 0, .int .u64 0, .int .u64 0, .int .u64 0, .int .u64 0, .int .u64 0, .int .u64 0] 23)) = .ok () W5) := show _ = _ by
    rw [← hW]
    exact run_storeAt_new v4 23 _ Z (by rw [HZS.out.1]; kernel_rfl) (by rw [HZS.out.1]; rfl) HZS.out.2
  have B1_5 := Lib.hid (B1_4.out.below hbn B1_4.out.lt)
  have B2_5 := Lib.hid (B2_4.out.below hbn B2_4.out.lt)
  have B3_5 := Lib.hid (B3_4.out.below hbn B3_4.out.lt)
  have B5_5 : Hid (Blk W5 v4.heap.size 23 Z) := show Blk _ _ _ _ by rw [← hW]; exact Blk.new _ _ _
  have HB5 := Lib.hid (HB4.out.trans (hbn.mono HB4.out.size))
  have HT5 : Hid (Tabs W5) := show Tabs _ from HT4.out.below hbn HT4.out.room
  clear hb hbn hW B1_4 B2_4 B3_4
  clear B5_5
  go_wp2_with (first | (refine ndList_store rfl 23 _ _ rfl _ _ rfl rfl HST.out ?_))
  clear HST
  refine (HC5.out W5 HT5.out).mono ?_
  rintro e v5 ⟨rfl, hb⟩
  obtain ⟨W6, hW⟩ : ∃ W, v5.alloc (.cells C 23) = W := ⟨_, rfl⟩
  have hbn : Below W5.heap.size W5 W6 := by rw [← hW]; exact hb.alloc hb.size _
  have HST : Hid ((Instr.storeAt 23 (.pointer (some ⟨v5.heap.size, 0, none⟩)) (.agg C)).run Tryz.prog (v5.alloc (.cells #[.int .u64 0, .int .u64 0, .int .u64 0, .int .u64 0, .int .u64 0, .int .u64 0, .int .u64 0, .int .u64 0] 23)) = .ok () W6) := show _ = _ by
    rw [← hW]
    exact run_storeAt_new v5 23 _ C (by rw [HCS.out.1]; kernel_rfl) (by rw [HCS.out.1]; rfl) HCS.out.2
  have B1_6 := Lib.hid (B1_5.out.below hbn B1_5.out.lt)
  have B2_6 := Lib.hid (B2_5.out.below hbn B2_5.out.lt)
  have B3_6 := Lib.hid (B3_5.out.below hbn B3_5.out.lt)
  have B6_6 : Hid (Blk W6 v5.heap.size 23 C) := show Blk _ _ _ _ by rw [← hW]; exact Blk.new _ _ _
  have HB6 := Lib.hid (HB5.out.trans (hbn.mono HB5.out.size))
  have HT6 : Hid (Tabs W6) := show Tabs _ from HT5.out.below hbn HT5.out.room
  clear hb hbn hW B1_5 B2_5 B3_5
  go_wp2_with (first | (refine ndList_store rfl 23 _ _ rfl _ _ rfl rfl HST.out ?_))
  clear HST
  refine (HC6.out W6 HT6.out).mono ?_
  rintro e v6 ⟨rfl, hb⟩
  obtain ⟨W7, hW⟩ : ∃ W, v6.alloc (.cells M 36) = W := ⟨_, rfl⟩
  have hbn : Below W6.heap.size W6 W7 := by rw [← hW]; exact hb.alloc hb.size _
  have HST : Hid ((Instr.storeAt 36 (.pointer (some ⟨v6.heap.size, 0, none⟩)) (.agg M)).run Tryz.prog (v6.alloc (.cells #[.int .i64 0, .int .i64 0, .int .i64 0, .int .i64 0, .int .i64 0, .int .i64 0, .int .i64 0, .int .i64 0] 36)) = .ok () W7) := show _ = _ by
    rw [← hW]
    exact run_storeAt_new v6 36 _ M (by rw [HMS.out.1]; kernel_rfl) (by rw [HMS.out.1]; rfl) HMS.out.2
  have B1_7 := Lib.hid (B1_6.out.below hbn B1_6.out.lt)
  have B2_7 := Lib.hid (B2_6.out.below hbn B2_6.out.lt)
  have B3_7 := Lib.hid (B3_6.out.below hbn B3_6.out.lt)
  have B6_7 := Lib.hid (B6_6.out.below hbn B6_6.out.lt)
  have B7_7 : Hid (Blk W7 v6.heap.size 36 M) := show Blk _ _ _ _ by rw [← hW]; exact Blk.new _ _ _
  have HB7 := Lib.hid (HB6.out.trans (hbn.mono HB6.out.size))
  have HT7 : Hid (Tabs W7) := show Tabs _ from HT6.out.below hbn HT6.out.room
  clear hb hbn hW B1_6 B2_6 B3_6 B6_6
  go_wp2_with (first | (refine ndList_store rfl 36 _ _ rfl _ _ rfl rfl HST.out ?_))
  clear HST
  refine (HC7.out W7 HT7.out).mono ?_
  rintro e v7 ⟨rfl, hb⟩
  obtain ⟨W8, hW⟩ : ∃ W, v7.alloc (.cells Y 36) = W := ⟨_, rfl⟩
  have hbn : Below W7.heap.size W7 W8 := by rw [← hW]; exact hb.alloc hb.size _
  have HST : Hid ((Instr.storeAt 36 (.pointer (some ⟨v7.heap.size, 0, none⟩)) (.agg Y)).run Tryz.prog (v7.alloc (.cells #[.int .i64 0, .int .i64 0, .int .i64 0, .int .i64 0, .int .i64 0, .int .i64 0, .int .i64 0, .int .i64 0] 36)) = .ok () W8) := show _ = _ by
    rw [← hW]
    exact run_storeAt_new v7 36 _ Y (by rw [HYS.out.1]; kernel_rfl) (by rw [HYS.out.1]; rfl) HYS.out.2
  have B1_8 := Lib.hid (B1_7.out.below hbn B1_7.out.lt)
  have B2_8 := Lib.hid (B2_7.out.below hbn B2_7.out.lt)
  have B3_8 := Lib.hid (B3_7.out.below hbn B3_7.out.lt)
  have B6_8 := Lib.hid (B6_7.out.below hbn B6_7.out.lt)
  have B7_8 := Lib.hid (B7_7.out.below hbn B7_7.out.lt)
  have B8_8 : Hid (Blk W8 v7.heap.size 36 Y) := show Blk _ _ _ _ by rw [← hW]; exact Blk.new _ _ _
  have HB8 := Lib.hid (HB7.out.trans (hbn.mono HB7.out.size))
  have HT8 : Hid (Tabs W8) := show Tabs _ from HT7.out.below hbn HT7.out.room
  clear hb hbn hW B1_7 B2_7 B3_7 B6_7 B7_7
  clear B8_8
  go_wp2_with (first | (refine ndList_store rfl 36 _ _ rfl _ _ rfl rfl HST.out ?_))
  clear HST
  refine (HC8.out W8).mono ?_
  rintro e W9 ⟨rfl, hb⟩
  have LB1 := Lib.hid ((B1_8.out.below hb B1_8.out.lt).load (tt := 31) Tryz.underlying31 rfl (by kernel_rfl))
  have LB2 := Lib.hid ((B2_8.out.below hb B2_8.out.lt).load (tt := 23) Tryz.underlying23 rfl (by rw [HAS.out.1]; kernel_rfl))
  have LB3 := Lib.hid ((B3_8.out.below hb B3_8.out.lt).load (tt := 31) Tryz.underlying31 rfl (by kernel_rfl))
  have LB6 := Lib.hid ((B6_8.out.below hb B6_8.out.lt).load (tt := 23) Tryz.underlying23 rfl (by rw [HCS.out.1]; kernel_rfl))
  have LB7 : Hid ((Instr.loadAt 36 (.pointer (some ⟨v6.heap.size, 0, none⟩))).run Tryz.prog W9 = .ok (.agg #[.int .i64 65, .int .i64 4, .int .i64 7, .int .i64 0, .int .i64 0, .int .i64 0, .int .i64 0, .int .i64 0]) W9) := show _ = _ by rw [HMM.out]; exact (B7_8.out.below hb B7_8.out.lt).load (tt := 36) Tryz.underlying36 rfl (by rw [HMS.out.1]; kernel_rfl)
  have HBF := Lib.hid (HB8.out.trans (hb.mono HB8.out.size))
  have e1 := HEA.out W9
  have e2 := HEC.out W9
  have e3 := HEM.out W9
  have e4 := HEX.out W9
  clear hb B1_8 B2_8 B3_8 B6_8 B7_8
  go_wp2_with (first | (go_at_call 35; refine (HN.out _ _).mono ?_; rintro e w' ⟨rfl, rfl⟩) | (refine ndList_loadW (by rfl) 31 _ rfl _ _ rfl LB1.out ?_) | (refine ndList_loadW (by rfl) 23 _ rfl _ _ rfl LB2.out ?_) | (refine ndList_loadW (by rfl) 31 _ rfl _ _ rfl LB3.out ?_) | (refine ndList_loadW (by rfl) 23 _ rfl _ _ rfl LB6.out ?_) | (refine ndList_loadW (by rfl) 36 _ rfl _ _ rfl LB7.out ?_))
  go_ret
  exact ⟨rfl, HBF.out⟩
end Go.Proofs.YtaebipopmefkpaaGreatDoor
