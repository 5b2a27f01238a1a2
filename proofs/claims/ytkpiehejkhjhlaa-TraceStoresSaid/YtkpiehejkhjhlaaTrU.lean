/-
  trace.Orderly.
-/
import Derived.Test.YtkpiehejkhjhlaaTrT
import Derived.Laws.EntriesVeiled
import Derived.RangeFuncCalls
namespace Go.Proofs.Ytkpiehejkhjhlaa
open Go.RowKit Go.Shelf Go.Maps
attribute [local go_sem] Oper.semAt_some

/-- unkept's blocks, none of them one of q. -/
def UkF (A n : Nat) (s : Uk) (q : Nat → Prop) (W : World) : Prop :=
  (NumMap 3 .i64 W (A + 1) n s.fl ∧ ¬ q (A + 1)) ∧ BoxF A 3 (.int .i64 s.fence) q W ∧ BoxF (A + 2) 74 (.map (some (A + 1))) q W
theorem abides_num {β : Type} (e : TypeId) (q0 : IntKind) (b n : Nat) (f : β → Int → Option Int) : Abides (fun s q W => NumMap e q0 W b n (f s) ∧ ¬ q b) := fun _ _ _ _ _ hs ht hq =>
  ⟨hs.1.keep (ht.block b hs.1.lt hs.2), fun h => (hq b h).elim hs.2 fun h2 => by have := hs.1.lt; omega⟩
theorem abides_uk {β : Type} (A n : Nat) (s : Uk) : Abides (fun (_ : β) q W => UkF A n s q W) :=
  Abides.and (abides_num _ _ _ _ (fun _ => s.fl)) (Abides.and (Abides.box _ _ (fun _ => .int .i64 s.fence)) (Abides.box _ _ (fun _ => .map (some (A + 1)))))
abbrev ukFn (A : Nat) : Value := .func (.func 44) #[] #[.pointer (some ⟨A + 2, 0, none⟩), .pointer (some ⟨A, 0, none⟩)]
/-- In the rounds of Orderly. -/
def OrI (w : World) (A r n : Nat) (ck : Bool) (s : Uk) (pre : List (Nat × Int)) (q : Nat → Prop) (W : World) : Prop :=
  BoxF r 4 (.bool ck) q W ∧ BoxF (r + 1) 66 (ukFn A) q W ∧ UkF A n s q W ∧ BelowF w.heap.size w q W ∧ ∀ x ∈ pre, unkV s ((x.1 : Int).tdiv 8) = false
theorem abides_or (w : World) (A r n : Nat) (ck : Bool) (s : Uk) : Abides (OrI w A r n ck s) :=
  Abides.and (Abides.box _ _ (fun _ => .bool ck)) (Abides.and (Abides.box _ _ (fun _ => ukFn A)) (Abides.and (abides_uk _ _ _) (Abides.and (Abides.below _ _) (Abides.pure (fun pre : List (Nat × Int) => ∀ x ∈ pre, unkV s ((x.1 : Int).tdiv 8) = false)))))
/-- Where they are left. -/
def OrX (w : World) (r : Nat) (s : Uk) (cd : Code) (pre : List (Nat × Int)) (q : Nat → Prop) (W : World) : Prop :=
  cd = .exit 0 ∧ BoxF r 4 (.bool false) q W ∧ BelowF w.heap.size w q W ∧ ∃ x ∈ pre, unkV s ((x.1 : Int).tdiv 8) = true
theorem abides_orx (w : World) (r : Nat) (s : Uk) (cd : Code) : Abides (OrX w r s cd) :=
  Abides.and (Abides.pure (fun _ : List (Nat × Int) => cd = .exit 0)) (Abides.and (Abides.box _ _ (fun _ => .bool false)) (Abides.and (Abides.below _ _) (Abides.pure (fun pre : List (Nat × Int) => ∃ x ∈ pre, unkV s ((x.1 : Int).tdiv 8) = true))))
/-- Is a list right, and orderly? -/
def orderC (ts : List Tch) : Bool := (checkT ts == 0) && (putsV ts).all fun x => !unkV (ukAt ts.length ts ts.length) ((x.1 : Int).tdiv 8)
set_option maxRecDepth 100000 in
set_option maxHeartbeats 4000000 in
theorem orderly_any {v : Value} {ts : List Tch} (w : World) (hl : ts.length ≤ 90000) (hok : ∀ t ∈ ts, okT t) (hs : SlT w v ts) :
    Calls Try.prog 19 #[v] w fun e w' => e = .returned (.bool (orderC ts)) ∧ Below w.heap.size w w' := by
  have HC := Lib.hid (checkT_any w (by omega) hs)
  have HU := Lib.hid (fun W (hb : Below w.heap.size w W) => unkept_any W hl hok (hs.below hb))
  have HS := Lib.hid (fun W (hb : Below w.heap.size w W) => stores_any W hl hok (hs.below hb))
  obtain ⟨a, cap, rfl, -⟩ := id hs
  obtain ⟨N, hN⟩ : ∃ N, ts.length = N := ⟨_, rfl⟩
  obtain ⟨s, hsu⟩ : ∃ s, ukAt ts.length ts ts.length = s := ⟨_, rfl⟩
  obtain ⟨ck, hck⟩ : ∃ ck, (checkT ts == 0) = ck := ⟨_, rfl⟩
  have HOC : Hid (orderC ts = (ck && (putsV ts).all fun x => !unkV s ((x.1 : Int).tdiv 8))) := show _ = _ by unfold orderC; rw [hsu, hck]
  rw [hsu] at HU
  rw [hN] at hs hl HC HU HS ⊢
  clear hs hok hN hsu
  obtain ⟨c, hc⟩ : ∃ c, checkT ts = c := ⟨_, rfl⟩
  rw [hc] at HC hck
  clear hc
  refine (callsIn_wide (n := 9)).1 ?_
  refine callsIn_of_wp_marks Try.func19 rfl trivial ?_ rfl
  simp only [Try.ntmps19, List.size_toArray, List.length_cons, List.length_nil, Nat.reduceAdd, Nat.reduceSub, Array.replicate_succ, Array.replicate_zero, List.push_toArray, List.append_toArray, List.nil_append, List.cons_append]
  gi_wp2_with fail
  refine wpIn_scope_straight ?_
  gi_wp2_with fail
  refine ⟨trivial, ?_⟩
  refine (callsIn_wide.2 HC.out).mono ?_
  rintro e w1 ⟨rfl, b1⟩
  have HB1 := Lib.hid b1
  clear b1
  gi_wp2_with fail
  refine ⟨trivial, ?_⟩
  refine (callsIn_wide.2 (HU.out w1 HB1.out)).mono ?_
  rintro e w2 ⟨rfl, hu2⟩
  have HU2 := Lib.hid hu2
  clear hu2
  gi_wp2_with fail
  refine wpIn_label ?_
  gi_wp2_with fail
  obtain ⟨W3, hW3⟩ : ∃ W3, (w2.alloc (.cells #[.bool ck] 4)).alloc (.cells #[ukFn w1.heap.size] 66) = W3 := ⟨_, rfl⟩
  have b3 : Below w2.heap.size w2 W3 := by rw [← hW3]; exact (by repeat (first | exact Below.refl _ _ | assumption | refine Below.drew ?_ | refine below_drewN ?_ _ | refine Below.alloc ?_ (by (try simp) <;> omega) _ | refine Below.setCell ?_ (by (try simp) <;> omega) _ | refine Below.trans ?_ (Below.mono (by assumption) (by (try simp) <;> omega))))
  have z3 : W3.heap.size = w2.heap.size + 2 := by rw [← hW3]; simp
  have j3 : Boxed W3 w2.heap.size 4 (.bool ck) := by rw [← hW3]; unfold Boxed; (simp only [heap_at, World.size_alloc]; repeat (first | rw [if_pos (by omega)] | rw [if_neg (by omega)] | rw [if_pos trivial]))
  have j4 : Boxed W3 (w2.heap.size + 1) 66 (ukFn w1.heap.size) := by rw [← hW3]; unfold Boxed; (simp only [heap_at, World.size_alloc]; repeat (first | rw [if_pos (by omega)] | rw [if_neg (by omega)] | rw [if_pos trivial]))
  have HU3 := Lib.hid (HU2.out.turn b3)
  have HB3 : Hid (Below w.heap.size w W3) := show Below _ _ _ from HB1.out.trans (HU3.out.below.mono HB1.out.size)
  have HZ3 := Lib.hid z3
  have HJ3 := Lib.hid j3
  have HJ4 := Lib.hid j4
  rw [hW3]
  clear hW3 b3 z3 j3 j4
  refine ⟨trivial, ?_⟩
  refine (callsIn_wide.2 (HS.out W3 HB3.out)).mono ?_
  rintro e w4 ⟨p, m, u, cc, rfl, hst, hcc, b4⟩
  have HST := Lib.hid hst
  have HB4 := Lib.hid b4
  clear hst b4
  gi_wp2_with fail
  have hz1 := HB1.out.size
  have hz2 : w1.heap.size + 2 < w2.heap.size := by
    have := HU2.out.box.lt; exact this
  have hz3 := HZ3.out
  have hz4 := HB4.out.size
  have hlr := HJ3.out.lt
  have hlf := HJ4.out.lt
  have HI0 : Hid (OrI w w1.heap.size w2.heap.size N ck s [] (fun _ => False) w4) := show OrI _ _ _ _ _ _ _ _ _ from
    ⟨⟨(HB4.out.block _ hlr).trans HJ3.out, id⟩, ⟨(HB4.out.block _ hlf).trans HJ4.out, id⟩, ⟨⟨(HU3.out.turn HB4.out).map, id⟩, ⟨(HU3.out.turn HB4.out).fence, id⟩, ⟨(HU3.out.turn HB4.out).box, id⟩⟩, ⟨HB3.out.trans (HB4.out.mono HB3.out.size), by omega, fun _ h => h.elim⟩, fun x hx => by simp at hx⟩
  have HSQ := Lib.hid (stores_seq 8 (by decide) w4 HST.out)
  have HPL : Hid (∀ k, stP u W3.heap.size m k → W3.heap.size ≤ k ∧ k < w4.heap.size) := show ∀ k, _ from fun k hk => by
    rcases hk with hk | rfl | rfl
    · exact HST.out.row.lt k hk
    · exact ⟨Nat.le_refl _, HST.out.map.lt⟩
    · exact ⟨HST.out.lowM, HST.out.mbox.lt⟩
  clear hlr hlf
  generalize hA : ({ tmps := _, defers := _ } : Act) = A0
  refine wpIn_range_F (n := 9) (by decide) (gf := 41) (lb := #[.pointer (some ⟨p, 0, none⟩), .pointer (some ⟨m, 0, none⟩)]) (by rw [← hA]; rfl) (enters_of Try.func41 (by kernel_rfl) rfl) HSQ.out (fun k hk => (HPL.out k hk).2) (Below.refl _ _) (fun _ => rfl)
    (OrI w w1.heap.size w2.heap.size N ck s) (OrX w w2.heap.size s) (abides_or _ _ _ _ _ _) (abides_orx _ _ _) HI0.out
    (fun x a' _ => a' = { tmps := ((A0.tmps.setIfInBounds 13 (.int .i64 (x.1 : Nat))).setIfInBounds 14 (.int .u64 x.2)).setIfInBounds 5 (.int .i64 (x.1 : Nat)), defers := [] })
    (fun x a' W1 o h => h)
    ?assign ?body ?done ?stop
  case assign =>
    rintro l2 x W2 K hsz hK
    subst hA
    unfold encS
    dsimp only
    gi_wp2_with fail
    refine hK _ _ ?_ (Below.refl _ _)
    rfl
  case body =>
    rintro l2 pre x a' q2 W2 hI hs2 hqb hsp rfl
    subst hA
    obtain ⟨⟨hr, hqr⟩, ⟨hf, hqf⟩, ⟨⟨hm, hqm⟩, ⟨hfe, hqe⟩, ⟨hbx, hqb2⟩⟩, hB, hP⟩ := id hI
    have cr := Boxed.cell hr
    have fr := Boxed.frozen hr
    have cf := Boxed.cell hf
    have hx8 : x.1 < 8192 := by
      have hmem : x ∈ putsV ts := hsp.subset (by simp)
      unfold putsV at hmem
      obtain ⟨k, hk, rfl⟩ := List.mem_map.1 hmem
      unfold addrsV at hk
      exact List.mem_range.1 (List.mem_filter.1 hk).1
    obtain ⟨y, hy⟩ : ∃ y, (x.1 : Int) / 8 = y := ⟨_, rfl⟩
    have hq1 : IntKind.i64.wrap ((x.1 : Int) / 8) = y := by rw [hy]; exact IntWalk.i64_in _ (by omega)
    have hy64 : in64 y := by unfold in64; omega
    have HTD : Hid ((x.1 : Int).tdiv 8 = y) := show _ = _ by rw [← hy, Int.tdiv_eq_ediv_of_nonneg (by omega)]
    have HUC := Lib.hid (unkept1_any y hy64 hm hfe hbx)
    have HI := Lib.hid hI
    have HQ2 := Lib.hid hqb
    clear hm hfe hbx hB hP hqm hqe hqb2 hqf hy hy64 hI hsp hs2 hqb
    gi_wp2_with fail
    refine ⟨trivial, ?_⟩
    refine (CallsIn.inRound l2 (callsIn_wide.2 HUC.out)).mono ?_
    rintro e w5 ⟨rfl, rfl⟩
    cases hu : unkV s y with
    | true =>
      gi_wp2_with fail
      obtain ⟨⟨hr, hqr⟩, ⟨hf, hqf⟩, hu', ⟨hB1, hB2, hB3⟩, hP⟩ := HI.out
      refine ⟨Keeps.set _ _ (fun h => h.elim (fun h => by have := (HPL.out _ h).1; omega) hqr), rfl, ⟨hr.set _, hqr⟩, ⟨hB1.setCell (p := ⟨w2.heap.size, 0, none⟩) (show w.heap.size ≤ w2.heap.size by omega) _, by simp [World.setCell]; exact hB2, hB3⟩, x, by simp, by rw [HTD.out]; exact hu⟩
    | false =>
      gi_wp2_with fail
      obtain ⟨h1, h2, h3, h4, h5⟩ := HI.out
      refine ⟨Keeps.refl _ _, h1, h2, h3, h4, fun z hz => ?_⟩
      rcases List.mem_append.1 hz with hz | hz
      · exact h5 z hz
      · rw [List.mem_singleton.1 hz, HTD.out]; exact hu
  case done =>
    rintro D ys W2 hD rfl hI hK'
    subst hA
    obtain ⟨⟨hr, hqr⟩, -, -, hB, hP⟩ := hI
    have cr := Boxed.cell hr
    have HOE : Hid (orderC ts = ck) := show _ = _ by
      rw [HOC.out]
      have : ((putsV ts).all fun x => !unkV s ((x.1 : Int).tdiv 8)) = true := List.all_eq_true.2 fun x hx => by rw [hP x hx]; rfl
      rw [this, Bool.and_true]
    have HB := Lib.hid hB
    have HK := Lib.hid hK'
    have HDD := Lib.hid hD
    clear hr hB hK' hP hD
    gi_wp2_with fail
    refine leaves_one (D := D) HK.out fun W' ht hc => ⟨.bool ck, ?_, by rw [HOE.out], ?_⟩
    · simp [results, Try.results19, go_sem]
    · exact HB.out.1.trans (ht.below (fun k h => by have := HDD.out; omega) HB.out.2.1)
  case stop =>
    rintro D cd pre W2 hD hpre ⟨rfl, ⟨hb, _⟩, hB, x, hx, hux⟩ hK'
    subst hA
    have cr := Boxed.cell hb
    have HOE : Hid (orderC ts = false) := show _ = _ by
      rw [HOC.out]
      have : ((putsV ts).all fun x => !unkV s ((x.1 : Int).tdiv 8)) = false := List.all_eq_false.2 ⟨x, hpre.subset hx, by rw [hux]; simp⟩
      rw [this, Bool.and_false]
    have HB := Lib.hid hB
    have HK := Lib.hid hK'
    have HDD := Lib.hid hD
    clear hb hB hK' hD
    gi_wp2_with fail
    refine leaves_one (D := D) HK.out fun W' ht hc => ⟨.bool false, ?_, by rw [HOE.out], ?_⟩
    · simp [results, Try.results19, go_sem]
    · exact HB.out.1.trans (ht.below (fun k h => by have := HDD.out; omega) HB.out.2.1)
end Go.Proofs.Ytkpiehejkhjhlaa
