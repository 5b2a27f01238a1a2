/-
  Texts LaA to TgA, as one.
-/
import Derived.Test.YtgoemaecdolioaaGreatDoorMo1
import Derived.Test.YtgoemaecdolioaaGreatDoorMo2
import Derived.Test.YtgoemaecdolioaaGreatDoorMo4
import Derived.Sort.EncStr
import Derived.Lib.OthersKept
import Derived.Lib.Strings
import Derived.Laws.IdiomStrings
import Derived.Laws.IdiomCopy
import Derived.Laws.CopyOwn
import Derived.Laws.BytesArg
import Derived.Test.YtgoemaecdolioaaGreatDoorRows
import Derived.Laws.BitsAllLaws
import Derived.StillTailTactics
import Derived.Deep.DeepMust
import Derived.WalkKit
import Derived.ProofKit
import Derived.OpenShut
import Derived.Below
import Derived.Carry
import Derived.Deep.DeepHandedRow
import Derived.Deep.DeepWitnessRowRef
import Derived.Lib.LaidTab
import Derived.LaidSub
import Derived.SizedLaws
import Derived.ChangeSlices
import Derived.Lib.SlicesCompact
import Derived.Sort.KeysCollected
import Derived.Test.YtgoemaecdolioaaGreatDoorChecked
/-
  label: names, as bytes; named, Check.
-/
namespace Go.Proofs.YtgoemaecdolioaaGreatDoor
open Go.RowKit Go.Shelf Go.Sort

/-- May a byte be in a name? -/
def byteN (b : UInt8) : Bool := decide (33 ≤ b.toNat) && decide (b.toNat ≤ 126) && decide (b.toNat ≠ 47)
/-- Is a text a name? -/
def rightN (s : List UInt8) : Bool := decide (1 ≤ s.length) && decide (s.length ≤ 40) && !(s == [46]) && !(s == [46, 46]) && s.all byteN
def errN (s : List UInt8) : Int := if rightN s then 0 else 160
def nameN (s : List UInt8) : List UInt8 := if rightN s then s else []
abbrev namV (s : List UInt8) : Value := .agg #[encStr s]
theorem rightN_iff (s : List UInt8) : rightN s = true ↔ 1 ≤ s.length ∧ s.length ≤ 40 ∧ ¬ s = [46] ∧ ¬ s = [46, 46] ∧ s.all byteN = true := by
  unfold rightN
  simp [and_assoc]
theorem named_early (s : List UInt8) (w : World) (h : s.length < 1 ∨ 40 < s.length ∨ s = [46] ∨ s = [46, 46]) :
    Calls Tryz.prog 200 #[encStr s] w fun e w' => e = .returned (.tuple #[namV [], .int .i64 160]) ∧ Below w.heap.size w w' := by
  by_cases k1 : (s.length : Int) < 1
  · go_enter Tryz.func200, Tryz.ntmps200
    go_wp2
    refine wp_scope_forward 0 rfl ?_
    go_wp2
    go_step3
    refine ⟨rfl, ?_⟩
    go_wp2
    rw [Exit.jump_ret]
    refine bodyPost_ret (v := .tuple #[namV [], .int .i64 160]) (by simp [results, Tryz.results200, go_sem]) rfl ⟨rfl, (by repeat (first | exact Below.refl _ _ | assumption | refine Below.drew ?_ | refine below_drewN ?_ _ | refine Below.alloc ?_ (by (try simp) <;> omega) _ | refine Below.setCell ?_ (by (try simp) <;> omega) _ | refine Below.trans ?_ (Below.mono (by assumption) (by (try simp) <;> omega))))⟩
  by_cases k2 : 40 < (s.length : Int)
  · go_enter Tryz.func200, Tryz.ntmps200
    go_wp2
    refine wp_scope_forward 0 rfl ?_
    go_wp2
    go_step3
    refine ⟨rfl, ?_⟩
    go_wp2
    rw [Exit.jump_ret]
    refine bodyPost_ret (v := .tuple #[namV [], .int .i64 160]) (by simp [results, Tryz.results200, go_sem]) rfl ⟨rfl, (by repeat (first | exact Below.refl _ _ | assumption | refine Below.drew ?_ | refine below_drewN ?_ _ | refine Below.alloc ?_ (by (try simp) <;> omega) _ | refine Below.setCell ?_ (by (try simp) <;> omega) _ | refine Below.trans ?_ (Below.mono (by assumption) (by (try simp) <;> omega))))⟩
  have h' : s = [46] ∨ s = [46, 46] := by
    rcases h with h | h | h
    · omega
    · omega
    · exact h
  rcases h' with rfl | rfl
  · go_enter Tryz.func200, Tryz.ntmps200
    go_wp2
    refine wp_scope_forward 0 rfl ?_
    go_wp2
    go_step3
    refine ⟨rfl, ?_⟩
    go_wp2
    rw [Exit.jump_ret]
    refine bodyPost_ret (v := .tuple #[namV [], .int .i64 160]) (by simp [results, Tryz.results200, go_sem]) rfl ⟨rfl, (by repeat (first | exact Below.refl _ _ | assumption | refine Below.drew ?_ | refine below_drewN ?_ _ | refine Below.alloc ?_ (by (try simp) <;> omega) _ | refine Below.setCell ?_ (by (try simp) <;> omega) _ | refine Below.trans ?_ (Below.mono (by assumption) (by (try simp) <;> omega))))⟩
  · go_enter Tryz.func200, Tryz.ntmps200
    go_wp2
    refine wp_scope_forward 0 rfl ?_
    go_wp2
    go_step3
    refine ⟨rfl, ?_⟩
    go_wp2
    rw [Exit.jump_ret]
    refine bodyPost_ret (v := .tuple #[namV [], .int .i64 160]) (by simp [results, Tryz.results200, go_sem]) rfl ⟨rfl, (by repeat (first | exact Below.refl _ _ | assumption | refine Below.drew ?_ | refine below_drewN ?_ _ | refine Below.alloc ?_ (by (try simp) <;> omega) _ | refine Below.setCell ?_ (by (try simp) <;> omega) _ | refine Below.trans ?_ (Below.mono (by assumption) (by (try simp) <;> omega))))⟩
/-- What a range over a text tells of the byte at a place. -/
theorem letter_at (s : List UInt8) (pos : Nat) (h : pos < s.length) :
    ((33 ≤ (Utf8.decode ⟨s.toArray⟩ pos).1 ∧ (Utf8.decode ⟨s.toArray⟩ pos).1 ≤ 126 ∧ (Utf8.decode ⟨s.toArray⟩ pos).1 ≠ 47) ↔ byteN s[pos] = true) ∧
    (byteN s[pos] = true → (Utf8.decode ⟨s.toArray⟩ pos).2 = 1) := by
  have hs : pos < (⟨s.toArray⟩ : ByteArray).size := by simpa [ByteArray.size] using h
  have hg : ((⟨s.toArray⟩ : ByteArray)[pos]'hs) = s[pos] := by rfl
  unfold byteN
  simp only [Bool.and_eq_true, decide_eq_true_eq]
  by_cases ha : (s[pos]).toNat < 128
  · rw [decode_ascii ⟨s.toArray⟩ pos hs (by rw [hg]; exact ha), hg]
    exact ⟨by constructor <;> (intro h; omega), fun _ => rfl⟩
  · have hd := decode_high ⟨s.toArray⟩ pos hs (by rw [hg]; omega)
    refine ⟨by constructor <;> (intro h; omega), fun h => by omega⟩
set_option maxRecDepth 100000 in
set_option maxHeartbeats 2000000 in
theorem named_late (s : List UInt8) (w : World) (k1 : 1 ≤ s.length) (k2 : s.length ≤ 40) (k3 : ¬ s = [46]) (k4 : ¬ s = [46, 46]) :
    Calls Tryz.prog 200 #[encStr s] w fun e w' => e = .returned (.tuple #[namV (if s.all byteN then s else []), .int .i64 (if s.all byteN then 0 else 160)]) ∧ Below w.heap.size w w' := by
  have q1 : ¬ (s.length : Int) < 1 := by omega
  have q2 : ¬ (40 : Int) < (s.length : Int) := by omega
  have q3 : (s == [46]) = false := by simp [k3]
  have q4 : (s == [46, 46]) = false := by simp [k4]
  have HL := Lib.hid (letter_at s)
  clear k3 k4
  go_enter Tryz.func200, Tryz.ntmps200
  go_wp2
  refine wp_scope_forward 0 rfl ?_
  go_wp2
  go_loopw [] (fun wr => ∃ pos : Nat, pos ≤ s.length ∧ wr.heap[w.heap.size + 1]? = some (.stringIter ⟨s.toArray⟩ pos) ∧ Boxed wr w.heap.size 249 (encStr []) ∧ Below w.heap.size w wr ∧ Hid ((s.take pos).all byteN = true)) (fun wr => s.length - wr.iterPos (w.heap.size + 1))
  case atStart =>
    refine ⟨0, Nat.zero_le _, ?_, (Boxed.new w 249 (encStr [])).alloc _, (by repeat (first | exact Below.refl _ _ | assumption | refine Below.drew ?_ | refine below_drewN ?_ _ | refine Below.alloc ?_ (by (try simp) <;> omega) _ | refine Below.setCell ?_ (by (try simp) <;> omega) _ | refine Below.trans ?_ (Below.mono (by assumption) (by (try simp) <;> omega)))), Lib.hid rfl⟩
    have := World.iter_heap (w.alloc (.cells #[encStr []] 249)) ⟨s.toArray⟩ 0
    simpa using this
  case round =>
    obtain ⟨pos, hpl, hit, hbx, hbw, HA⟩ := hrel
    by_cases hp : pos < s.length
    · have hps : pos < (⟨s.toArray⟩ : ByteArray).size := by simpa [ByteArray.size] using hp
      have hnx : ∀ ty, (Instr.next (.pointer (some ⟨w.heap.size + 1, 0, none⟩)) true ty).run Tryz.prog wr = _ := fun ty => Lib.run_next_any_at wr (w.heap.size + 1) ⟨s.toArray⟩ pos ty hit hps
      obtain ⟨h1, h2⟩ := HL.out pos hp
      have hmx := decode_le ⟨s.toArray⟩ pos
      have hi2 := Lib.iterAt_heap wr (w.heap.size + 1) ⟨s.toArray⟩ pos (pos + (Utf8.decode ⟨s.toArray⟩ pos).2) hit
      have hb2 := Lib.below_iterAt hbw (k := w.heap.size + 1) (by omega) ⟨s.toArray⟩ (pos + (Utf8.decode ⟨s.toArray⟩ pos).2)
      have hx2 : Boxed (wr.iterAt (w.heap.size + 1) ⟨s.toArray⟩ (pos + (Utf8.decode ⟨s.toArray⟩ pos).2)) w.heap.size 249 (encStr []) := (Lib.iterAt_other wr (w.heap.size + 1) w.heap.size ⟨s.toArray⟩ _ (by omega)).trans hbx
      obtain ⟨rr, hrr⟩ : ∃ rr, (Utf8.decode ⟨s.toArray⟩ pos).1 = rr := ⟨_, rfl⟩
      obtain ⟨ww, hww⟩ : ∃ ww, (Utf8.decode ⟨s.toArray⟩ pos).2 = ww := ⟨_, rfl⟩
      rw [hrr, hww] at hnx
      rw [hww] at hi2 hb2 hx2 h2
      rw [hrr] at h1 hmx
      clear hrr hww
      obtain ⟨W2, hW2⟩ : ∃ W2, wr.iterAt (w.heap.size + 1) ⟨s.toArray⟩ (pos + ww) = W2 := ⟨_, rfl⟩
      rw [hW2] at hnx hi2 hb2 hx2
      have HIT := Lib.hid hit
      have HI2 := Lib.hid hi2
      have HB2 := Lib.hid hb2
      have HX2 := Lib.hid hx2
      have cb := hx2.cell
      have cf := hx2.frozen
      have cl := hx2.lt
      clear hW2 hit hbx hbw hi2 hb2 hx2 hps
      by_cases hg : byteN s[pos] = true
      · obtain ⟨g1, g2, g3⟩ := h1.2 hg
        obtain rfl := h2 hg
        have e1 : ¬ ((rr : Int) < 33) := by omega
        have e2 : ¬ ((126 : Int) < rr) := by omega
        have e3 : ((rr : Int) == 47) = false := by simp; omega
        have HG := Lib.hid hg
        clear hg h1 h2 g1 g2 g3
        go_wp2
        go_roundw
        case rel =>
          refine ⟨pos + 1, by omega, HI2.out, HX2.out, HB2.out, ?_⟩
          exact Lib.hid (by rw [List.take_succ_eq_append_getElem hp, List.all_append, HA.out]; simp [HG.out])
        case measure =>
          simp only [World.iterPos, HI2.out, HIT.out]
          omega
      · have hn : ((decide ((rr : Int) < 33) || decide ((126 : Int) < rr) || ((rr : Int) == 47))) = true := by
          have : ¬ (33 ≤ rr ∧ rr ≤ 126 ∧ rr ≠ 47) := fun h => hg (h1.1 h)
          simp only [Bool.or_eq_true, decide_eq_true_eq, beq_iff_eq]
          omega
        have HN : Hid (s.all byteN = false) := show _ = _ from List.all_eq_false.2 ⟨s[pos], List.getElem_mem hp, by simpa using hg⟩
        clear hg h1 h2
        go_wp2
        all_goals
          go_step3
          refine ⟨rfl, ?_⟩
          go_wp2
          rw [Exit.jump_ret]
          exact bodyPost_ret (v := .tuple #[namV [], .int .i64 160]) (by simp [results, Tryz.results200, go_sem, (HX2.out.set (encStr [])).cell]) rfl ⟨by rw [HN.out]; rfl, HB2.out.setCell (p := ⟨w.heap.size, 0, none⟩) (Nat.le_refl _) _⟩
    · have hps : ¬ pos < (⟨s.toArray⟩ : ByteArray).size := by simpa [ByteArray.size] using hp
      have hnx : ∀ ty, (Instr.next (.pointer (some ⟨w.heap.size + 1, 0, none⟩)) true ty).run Tryz.prog wr = _ := fun ty => Lib.run_next_end_at wr (w.heap.size + 1) ⟨s.toArray⟩ pos ty hit hps
      have cb := hbx.cell
      have cf := hbx.frozen
      have cl := hbx.lt
      have hall : s.all byteN = true := by rw [List.take_of_length_le (by omega)] at HA; exact HA.out
      have HB := Lib.hid hbw
      have HX := Lib.hid hbx
      clear HA hbx hbw hit
      go_wp2
      rw [Exit.jump_ret]
      refine bodyPost_ret (v := .tuple #[namV s, .int .i64 0]) (by simp [results, Tryz.results200, go_sem, (HX.out.set (encStr s)).cell]) rfl ⟨by rw [hall]; rfl, HB.out.setCell (p := ⟨w.heap.size, 0, none⟩) (Nat.le_refl _) _⟩
theorem named_any (s : List UInt8) (w : World) :
    Calls Tryz.prog 200 #[encStr s] w fun e w' => e = .returned (.tuple #[namV (nameN s), .int .i64 (errN s)]) ∧ Below w.heap.size w w' := by
  by_cases h : s.length < 1 ∨ 40 < s.length ∨ s = [46] ∨ s = [46, 46]
  · have hr : rightN s = false := by
      cases hr : rightN s with
      | false => rfl
      | true =>
        obtain ⟨h1, h2, h3, h4, -⟩ := (rightN_iff s).1 hr
        rcases h with h | h | h | h
        · omega
        · omega
        · exact absurd h h3
        · exact absurd h h4
    refine (named_early s w h).mono fun e w' h => ?_
    unfold nameN errN
    rw [hr]
    exact h
  · have h1 : 1 ≤ s.length := by
      rcases Nat.lt_or_ge s.length 1 with k | k
      · exact absurd (.inl k) h
      · exact k
    have h2 : s.length ≤ 40 := by
      rcases Nat.lt_or_ge 40 s.length with k | k
      · exact absurd (.inr (.inl k)) h
      · exact k
    have h3 : ¬ s = [46] := fun k => h (.inr (.inr (.inl k)))
    have h4 : ¬ s = [46, 46] := fun k => h (.inr (.inr (.inr k)))
    have hr : rightN s = s.all byteN := by
      unfold rightN
      simp [h1, h2, h3, h4]
    refine (named_late s w h1 h2 h3 h4).mono fun e w' h => ?_
    unfold nameN errN
    rw [hr]
    exact h
end Go.Proofs.YtgoemaecdolioaaGreatDoor

/-
  label: a text as bytes and as words.
-/
namespace Go.Proofs.YtgoemaecdolioaaGreatDoor
open Go.RowKit Go.Shelf Go.Sort

theorem laTold_any (s : List UInt8) (w : World) : Calls Tryz.prog 202 #[encStr s] w fun e w' => e = .returned (encStr s) ∧ w = w' := by
  go_enter Tryz.func202, Tryz.ntmps202
  go_wp2
  go_ret
  exact ⟨rfl, rfl⟩
theorem laCheck_any (s : List UInt8) (w : World) : Calls Tryz.prog 240 #[encStr s] w fun e w' => e = .returned (.int .i64 (errN s)) ∧ Below w.heap.size w w' := by
  have HN := Lib.hid (named_any s w)
  go_enter Tryz.func240, Tryz.ntmps240
  go_wp2_with fail
  refine HN.out.mono ?_
  rintro e w1 ⟨rfl, hb⟩
  have HB := Lib.hid hb
  clear hb
  go_wp2
  go_ret
  exact ⟨rfl, HB.out.alloc HB.out.size _⟩
end Go.Proofs.YtgoemaecdolioaaGreatDoor

/-
  The arithmetic of sums: each step is one to one in the word and in the sum.
-/
namespace Go.Proofs.YtgoemaecdolioaaGreatDoor
namespace SM
/-- The sum of no words. -/
def start : Nat := 14695981039346656037
end SM
end Go.Proofs.YtgoemaecdolioaaGreatDoor

/-
  Contracts of package sum's functions: take, told, seal, fold, More, Of, Seal, Sealed.
-/
namespace Go.Proofs.YtgoemaecdolioaaGreatDoor
open Go.RowKit Go.Shelf

def U64s (l : List Nat) : Prop := ∀ x ∈ l, x < 18446744073709551616
theorem U64s.at {l : List Nat} (h : U64s l) (k : Nat) : l[k]?.getD 0 < 18446744073709551616 := by
  by_cases hk : k < l.length
  · simp [hk]; exact h _ (List.getElem_mem hk)
  · simp [List.getElem?_eq_none (by omega : l.length ≤ k)]
end Go.Proofs.YtgoemaecdolioaaGreatDoor

/-
  Contracts of the document's answers for sums (waterlineref02): More, Of, Seal.
-/
namespace Go.Proofs.YtgoemaecdolioaaGreatDoor
open Go.RowKit Go.Shelf

end Go.Proofs.YtgoemaecdolioaaGreatDoor

/-
  The document's Words, bit by bit: what its list holds on the way. Plain arithmetic.
-/
namespace Go.Proofs.YtgoemaecdolioaaGreatDoor
namespace WM
end WM
end Go.Proofs.YtgoemaecdolioaaGreatDoor

/-
  Contract of the document's Words (waterlineref01).
-/
namespace Go.Proofs.YtgoemaecdolioaaGreatDoor
open Go.RowKit

end Go.Proofs.YtgoemaecdolioaaGreatDoor

/-
  Contracts of sum.Text and of the document's Text.
-/
namespace Go.Proofs.YtgoemaecdolioaaGreatDoor
open Go.RowKit Go.Shelf

end Go.Proofs.YtgoemaecdolioaaGreatDoor

/-
  label: five words compared; Words, Same, Bucket.
-/
namespace Go.Proofs.YtgoemaecdolioaaGreatDoor
open Go.RowKit Go.Shelf Go.Sort

end Go.Proofs.YtgoemaecdolioaaGreatDoor

/-
  node: bounds, numbers, chunks.
-/
namespace Go.Proofs.YtgoemaecdolioaaGreatDoor
open Go.RowKit Go.Shelf Go.Sort
attribute [local go_sem] Oper.semAt_some

/-- A closure that tells where a field is. -/
def FieldAt (w : World) (f : FuncId) (lb : Array Value) (i : Nat) : Prop := Enters Tryz.prog f ∧ ∀ (b : Nat) (W : World), Below w.heap.size w W → Calls Tryz.prog f (#[.pointer (some ⟨b, 0, none⟩)] ++ lb) W fun e w' => e = .returned (.pointer (some ⟨b, i, none⟩)) ∧ Below W.heap.size W w'
theorem FieldAt.below {w w1 : World} {f : FuncId} {lb : Array Value} {i : Nat} (h : FieldAt w f lb i) (hb : Below w.heap.size w w1) : FieldAt w1 f lb i := ⟨h.1, fun b W hW => h.2 b W (hb.trans (hW.mono hb.size))⟩
end Go.Proofs.YtgoemaecdolioaaGreatDoor

/-
  The frame of a law's row: whatever the arguments are, they read behind the call as they did, if nothing that lay has turned.
-/
namespace Go.Proofs.YtgoemaecdolioaaGreatDoor
open Go.ChangeShapes Go.WideShapes Go.ChangeAt Go.RowKit

theorem own : ownKnob Tryz.prog.godebug = none := by kernel_rfl
theorem laidOut : laidOutB Tryz.prog = true := by kernel_rfl
/-- These types read as data. -/
def typesOk (P : Program) (ts : List TypeId) : Bool := ts.all fun t => P.readableRec t && decide (t < P.types.size)
theorem trodAll_below {H : Type} {enc : TypeId × Value → H} {P : Program} (hl : laidOutB P = true) {W W' : World} (hb : Below W.heap.size W W') :
    ∀ {ts : List TypeId} {vs : List Value} {ds : List (DataW H)} {ps : List MemPlace}, typesOk P ts = true → DataW.TrodAll enc P W 0 (fun _ => true) true ts vs ds ps → (∀ x ∈ ps, x.block < W.heap.size) →
      DataW.TrodAll enc P W' 0 (fun b => decide (b < W.heap.size)) true ts vs ds ps
  | [], [], [], _, _, h, _ => h
  | [], [], _ :: _, _, _, h, _ => h.elim
  | [], _ :: _, _, _, _, h, _ => by cases h
  | _ :: _, [], _, _, _, h, _ => by cases h
  | _ :: _, _ :: _, [], _, _, h, _ => by cases h
  | t :: ts, v :: vs, d :: ds, ps, ht, ⟨p, q, h1, h2, e⟩, hlt => by
    simp only [typesOk, List.all_cons, Bool.and_eq_true, decide_eq_true_eq] at ht
    subst e
    exact ⟨p, q, Below.trod hl ht.1.1 ht.1.2 h1 hb (fun x hx => hlt x (List.mem_append_left _ hx)),
      trodAll_below hl hb (by simpa [typesOk] using ht.2) h2 (fun x hx => hlt x (List.mem_append_right _ hx)), rfl⟩
/-- A law's post: it returned true, and nothing that lay has turned. -/
theorem law_post {H : Type} {enc : TypeId × Value → H} {P : Program} (hl : laidOutB P = true) {f : Func} {s : ChangeSpec} {apart fresh handsOn : Bool} {W W' : World} {args : Array Value} {ds gs : List (DataW H)} {before : List MemPlace} {tb : TypeId}
    (hW : DataW.Whole enc P f.params.toList s.vars apart W args.toList ds gs before) (hv0 : s.vars = []) (hres : (s.fn H (ds ++ [])).results = [.lit (.bool true)]) (hargs : (s.fn H (ds ++ [])).args = ds) (hvars : (s.fn H (ds ++ [])).vars = [])
    (ht : typesOk P f.params.toList = true) (hrt : f.resultTypes = #[tb]) (htb : P.underlying tb = some .bool) (hb : Below W.heap.size W W') :
    s.post enc P f apart fresh handsOn false W args (.bool true) W' := by
  have hW' := hW
  obtain ⟨p, q, hA, hV, hbef, hfz, hnd⟩ := hW
  rw [hv0] at hV
  obtain ⟨rfl, rfl⟩ := trodVars_none hV
  rw [List.append_nil] at hbef
  subst hbef
  have hlt : ∀ x ∈ before, x.block < W.heap.size := fun x hx => hW'.lt x hx
  refine ⟨ds, [], before, [], before, [], hW', ?_, ?_, ?_, World.keptBut_mono (fun x hx => ⟨hx, .inr ?_⟩) (hb.frame (· ∈ before)), fun h => by cases h⟩
  · rw [hres, hrt]
    exact trodAll_cons_mk (shut_bool htb _) trodAll_mk0
  · rw [hargs]
    exact trodAll_below hl hb ht hA hlt
  · rw [hvars, hv0]
    rfl
  · simpa using hx
end Go.Proofs.YtgoemaecdolioaaGreatDoor

/-
  A slice of unsigned numbers that a law is handed, opened: the numbers as naturals, and its capacity.
-/
namespace Go.Proofs.YtgoemaecdolioaaGreatDoor
open Go.ChangeShapes Go.WideShapes Go.ChangeAt Go.RowKit

theorem nn8 : ∀ n, (Lit.int .u8 n).wf = true → 0 ≤ n := fun _ h => (bounds_u8 h).1
end Go.Proofs.YtgoemaecdolioaaGreatDoor

/-
  label: texts in order, each once; plain Lean.
-/
namespace Go.Proofs.YtgoemaecdolioaaGreatDoor

/-- Texts that rise, none twice. -/
def Rising (l : List (List UInt8)) : Prop := l.Pairwise (fun x y => x < y)
theorem rising_ext : ∀ {a b : List (List UInt8)}, Rising a → Rising b → (∀ x, x ∈ a ↔ x ∈ b) → a = b
  | [], [], _, _, _ => rfl
  | [], y :: b, _, _, h => by simpa using (h y).2 (by simp)
  | x :: a, [], _, _, h => by simpa using (h x).1 (by simp)
  | x :: a, y :: b, ha, hb, h => by
    obtain ⟨hx, ha'⟩ := List.pairwise_cons.1 ha
    obtain ⟨hy, hb'⟩ := List.pairwise_cons.1 hb
    have hxy : x = y := by
      rcases List.mem_cons.1 ((h x).1 (by simp)) with e | e
      · exact e
      · rcases List.mem_cons.1 ((h y).2 (by simp)) with e2 | e2
        · exact e2.symm
        · exact absurd (hx y e2) (List.lt_asymm (hy x e))
    subst hxy
    rw [rising_ext ha' hb' fun z => ?_]
    constructor
    · intro hz
      rcases List.mem_cons.1 ((h z).1 (List.mem_cons_of_mem _ hz)) with e | e
      · exact absurd (hx z hz) (by rw [e]; exact List.lt_irrefl _)
      · exact e
    · intro hz
      rcases List.mem_cons.1 ((h z).2 (List.mem_cons_of_mem _ hz)) with e | e
      · exact absurd (hy z hz) (by rw [e]; exact List.lt_irrefl _)
      · exact e
/-- Texts sorted, each once. -/
def sortU (l : List (List UInt8)) : List (List UInt8) := Lib.compact (l.mergeSort fun x y => decide (x ≤ y))
theorem mem_compact (zs : List (List UInt8)) (x : List UInt8) : x ∈ Lib.compact zs ↔ x ∈ zs := by
  unfold Lib.compact Lib.compactUpTo
  constructor
  · intro h
    obtain ⟨j, hj, rfl⟩ := List.mem_map.1 h
    have hl := List.mem_range.1 (List.mem_filter.1 hj).1
    simp [hl]
  · intro h
    obtain ⟨j, hj, rfl⟩ := List.mem_iff_getElem.1 h
    have key : ∀ (n j : Nat) (hj : j < zs.length), j ≤ n → ∃ i, i < zs.length ∧ Lib.keeps zs.toArray i = true ∧ zs.toArray[i]! = zs[j] := by
      intro n
      induction n with
      | zero =>
        intro j hj h0
        obtain rfl : j = 0 := by omega
        exact ⟨0, hj, Lib.keeps_lt_one _ 0 (by omega), by simp [hj]⟩
      | succ n ih =>
        intro j hj hn
        by_cases hk : Lib.keeps zs.toArray j = true
        · exact ⟨j, hj, hk, by simp [hj]⟩
        · unfold Lib.keeps at hk
          simp only [decide_eq_true_eq, not_or, Decidable.not_not] at hk
          obtain ⟨i, h1, h2, h3⟩ := ih (j - 1) (by omega) (by omega)
          refine ⟨i, h1, h2, h3.trans ?_⟩
          have e := hk.2
          simp [hj, show j - 1 < zs.length by omega] at e
          exact e.symm
    obtain ⟨i, h1, h2, h3⟩ := key j j hj (Nat.le_refl _)
    exact List.mem_map.2 ⟨i, List.mem_filter.2 ⟨List.mem_range.2 h1, h2⟩, h3⟩
theorem compact_rising (zs : List (List UInt8)) (h : zs.Pairwise (fun x y => x ≤ y)) : Rising (Lib.compact zs) := by
  unfold Rising Lib.compact Lib.compactUpTo
  rw [List.pairwise_map, List.pairwise_filter]
  refine List.Pairwise.imp_of_mem ?_ List.pairwise_lt_range
  intro i j hi hj hij _ hk
  have hi' := List.mem_range.1 hi
  have hj' := List.mem_range.1 hj
  unfold Lib.keeps at hk
  simp only [decide_eq_true_eq] at hk
  have hne : zs.toArray[j]! ≠ zs.toArray[j - 1]! := hk.resolve_left (by omega)
  have hp := List.pairwise_iff_getElem.1 h
  have hget : ∀ (m : Nat) (h : m < zs.length), zs.toArray[m]! = zs[m] := fun m h => by simp [h]
  rw [hget j hj', hget (j - 1) (by omega)] at hne
  rw [hget i hi', hget j hj']
  have h1 : zs[j - 1] < zs[j] := by
    refine List.not_le.1 fun hle => hne ?_
    exact List.le_antisymm hle (hp (j - 1) j (by omega) hj' (by omega))
  by_cases e : i = j - 1
  · subst e; exact h1
  · exact List.lt_of_le_of_lt (hp i (j - 1) hi' (by omega) (by omega)) h1
theorem sorted_le (l : List (List UInt8)) : (l.mergeSort fun x y => decide (x ≤ y)).Pairwise (fun x y => x ≤ y) := by
  have := List.pairwise_mergeSort (le := fun x y : List UInt8 => decide (x ≤ y)) (fun a b c h1 h2 => by simp only [decide_eq_true_eq] at *; exact List.le_trans h1 h2)
    (fun a b => by simp only [Bool.or_eq_true, decide_eq_true_eq]; exact List.le_total a b) l
  exact this.imp fun h => by simpa using h
theorem sortU_rising (l : List (List UInt8)) : Rising (sortU l) := compact_rising _ (sorted_le l)
theorem mem_sortU (l : List (List UInt8)) (x : List UInt8) : x ∈ sortU l ↔ x ∈ l := by
  unfold sortU
  rw [mem_compact]
  exact (List.mergeSort_perm l _).mem_iff
theorem sortU_ext {a b : List (List UInt8)} (h : ∀ x, x ∈ a ↔ x ∈ b) : sortU a = sortU b :=
  rising_ext (sortU_rising a) (sortU_rising b) fun x => by rw [mem_sortU, mem_sortU]; exact h x
end Go.Proofs.YtgoemaecdolioaaGreatDoor

/-
  tree: the document's tree as lists: paths with the numbers of their nodes. Plain Lean.
-/
namespace Go.Proofs.YtgoemaecdolioaaGreatDoor

abbrev RL := List (List UInt8 × Nat)
def lookR (L : RL) (p : List UInt8) : Option Nat := (L.find? fun e => e.1 == p).map (·.2)
def withR : RL → List UInt8 → Nat → RL
  | [], p, n => [(p, n)]
  | e :: r, p, n => if p < e.1 then (p, n) :: e :: r else e :: withR r p n
def withoutR (L : RL) (p : List UInt8) : RL := L.filter fun e => !(e.1 == p)
def RisR (L : RL) : Prop := L.Pairwise fun a b => a.1 < b.1
def cntR (L : RL) (n : Nat) : Nat := (L.filter fun e => e.2 == n).length
theorem text_total {a b : List UInt8} (h : a ≠ b) (h2 : ¬ a < b) : b < a := by
  rcases List.le_total a b with h3 | h3
  · rcases List.le_iff_lt_or_eq.1 h3 with h4 | h4
    · exact absurd h4 h2
    · exact absurd h4 h
  · rcases List.le_iff_lt_or_eq.1 h3 with h4 | h4
    · exact h4
    · exact absurd h4.symm h
theorem ris_one {L : RL} (h : RisR L) {p : List UInt8} {a b : Nat} (ha : (p, a) ∈ L) (hb : (p, b) ∈ L) : a = b := by
  induction L with
  | nil => cases ha
  | cons e r ih =>
    obtain ⟨h1, h2⟩ := List.pairwise_cons.1 h
    rcases List.mem_cons.1 ha with rfl | ha
    · rcases List.mem_cons.1 hb with hb | hb
      · exact (Prod.mk.inj hb).2.symm
      · exact absurd (h1 _ hb) (List.lt_irrefl _)
    · rcases List.mem_cons.1 hb with e | hb
      · have := h1 _ ha
        rw [← e] at this
        exact absurd this (List.lt_irrefl _)
      · exact ih h2 ha hb
theorem lookR_iff {L : RL} (h : RisR L) (p : List UInt8) (n : Nat) : lookR L p = some n ↔ (p, n) ∈ L := by
  unfold lookR
  constructor
  · intro hl
    cases hf : L.find? fun e => e.1 == p with
    | none => rw [hf] at hl; cases hl
    | some e =>
      rw [hf] at hl
      have h1 : e.1 = p := by simpa using List.find?_some hf
      have h2 := List.mem_of_find?_eq_some hf
      have h3 : e.2 = n := by simpa using hl
      rw [← h1, ← h3]
      exact h2
  · intro hm
    cases hf : L.find? fun e => e.1 == p with
    | none =>
      have := List.find?_eq_none.1 hf _ hm
      simp at this
    | some e =>
      have h1 : e.1 = p := by simpa using List.find?_some hf
      have h2 := List.mem_of_find?_eq_some hf
      have : (p, e.2) ∈ L := by rw [← h1]; exact h2
      rw [Option.map_some, ris_one h this hm]
theorem lookR_none {L : RL} (h : RisR L) (p : List UInt8) : lookR L p = none ↔ ∀ n, (p, n) ∉ L := by
  constructor
  · intro hn n hm
    rw [(lookR_iff h p n).2 hm] at hn
    cases hn
  · intro hn
    cases hl : lookR L p with
    | none => rfl
    | some n => exact absurd ((lookR_iff h p n).1 hl) (hn n)
theorem mem_withR (p : List UInt8) (n : Nat) (e : List UInt8 × Nat) : ∀ L : RL, e ∈ withR L p n ↔ e = (p, n) ∨ e ∈ L
  | [] => by simp [withR]
  | x :: r => by
    unfold withR
    split
    · simp [List.mem_cons]
    · rw [List.mem_cons, mem_withR p n e r, List.mem_cons]
      constructor
      · rintro (h | h | h)
        · exact .inr (.inl h)
        · exact .inl h
        · exact .inr (.inr h)
      · rintro (h | h | h)
        · exact .inr (.inl h)
        · exact .inl h
        · exact .inr (.inr h)
theorem ris_withR {p : List UInt8} {n : Nat} : ∀ {L : RL}, RisR L → (∀ k, (p, k) ∉ L) → RisR (withR L p n)
  | [], _, _ => List.pairwise_singleton _ _
  | x :: r, h, hp => by
    obtain ⟨h1, h2⟩ := List.pairwise_cons.1 h
    unfold withR
    split
    · rename_i hlt
      refine List.pairwise_cons.2 ⟨fun e he => ?_, h⟩
      rcases List.mem_cons.1 he with rfl | he
      · exact hlt
      · exact List.lt_trans hlt (h1 e he)
    · rename_i hlt
      refine List.pairwise_cons.2 ⟨fun e he => ?_, ris_withR h2 fun k hk => hp k (List.mem_cons_of_mem _ hk)⟩
      rcases (mem_withR p n e r).1 he with rfl | he
      · refine text_total (fun e => ?_) hlt
        have e1 : p = x.1 := e
        exact hp x.2 (by rw [e1]; exact List.mem_cons_self ..)
      · exact h1 e he
theorem cnt_withR (p : List UInt8) (n k : Nat) : ∀ L : RL, cntR (withR L p n) k = cntR L k + if n = k then 1 else 0
  | [] => by
    unfold withR cntR
    by_cases h : n = k
    · simp [h]
    · have : (n == k) = false := by simpa using h
      simp [h]
  | x :: r => by
    unfold withR
    split
    · unfold cntR
      rw [List.filter_cons]
      by_cases h : n = k
      · simp [h]
      · have : (n == k) = false := by simpa using h
        simp [h]
    · have ih := cnt_withR p n k r
      unfold cntR at ih ⊢
      rw [List.filter_cons, List.filter_cons]
      split
      · rw [List.length_cons, List.length_cons, ih]; omega
      · exact ih
theorem mem_withoutR (L : RL) (p : List UInt8) (e : List UInt8 × Nat) : e ∈ withoutR L p ↔ e ∈ L ∧ e.1 ≠ p := by
  unfold withoutR
  rw [List.mem_filter]
  simp
theorem ris_withoutR {L : RL} (h : RisR L) (p : List UInt8) : RisR (withoutR L p) := List.Pairwise.sublist List.filter_sublist h
theorem without_none {L : RL} {p : List UInt8} (h : ∀ n, (p, n) ∉ L) : withoutR L p = L := by
  unfold withoutR
  refine List.filter_eq_self.2 fun e he => ?_
  have : e.1 ≠ p := fun e1 => h e.2 (by rw [← e1]; exact he)
  simpa using this
theorem cnt_withoutR {p : List UInt8} {n k : Nat} : ∀ {L : RL}, RisR L → (p, n) ∈ L → cntR (withoutR L p) k + (if n = k then 1 else 0) = cntR L k
  | [], _, h => by cases h
  | x :: r, hr, h => by
    obtain ⟨h1, h2⟩ := List.pairwise_cons.1 hr
    rcases List.mem_cons.1 h with rfl | h
    · have hn : withoutR ((p, n) :: r) p = r := by
        unfold withoutR
        rw [List.filter_cons]
        simp only [beq_self_eq_true, Bool.not_true, Bool.false_eq_true, if_false]
        exact without_none (L := r) fun m hm => absurd (h1 _ hm) (List.lt_irrefl _)
      rw [hn]
      unfold cntR
      rw [List.filter_cons]
      by_cases e : n = k
      · simp [e]
      · have : (n == k) = false := by simpa using e
        simp [e]
    · have ih := cnt_withoutR (k := k) h2 h
      have hx : x.1 ≠ p := fun e => absurd (h1 _ h) (by rw [e]; exact List.lt_irrefl _)
      have hn : withoutR (x :: r) p = x :: withoutR r p := by
        unfold withoutR
        rw [List.filter_cons, if_pos (by simpa using hx)]
      rw [hn]
      unfold cntR at ih ⊢
      rw [List.filter_cons, List.filter_cons]
      split
      · rw [List.length_cons, List.length_cons]; omega
      · exact ih
theorem cnt_none {L : RL} {n : Nat} (h : ∀ p, (p, n) ∉ L) : cntR L n = 0 := by
  unfold cntR
  rw [List.length_eq_zero_iff, List.filter_eq_nil_iff]
  intro e he h2
  have : e.2 = n := by simpa using h2
  exact h e.1 (by rw [← this]; exact he)
theorem cnt_some {L : RL} {p : List UInt8} {n : Nat} (h : (p, n) ∈ L) : 0 < cntR L n := by
  unfold cntR
  exact List.length_pos_of_mem (List.mem_filter.2 ⟨h, by simp⟩)
/-- Does a path, however long, begin with another one's names, and have more? -/
def underP (p f : List UInt8) : Bool := decide (f.length < p.length) && (p.take f.length == f) && (p[f.length]?.getD 0 == 47)
theorem underP_iff (p f : List UInt8) : underP p f = true ↔ ∃ r, p = f ++ 47 :: r := by
  unfold underP
  simp only [Bool.and_eq_true, decide_eq_true_eq, beq_iff_eq]
  constructor
  · rintro ⟨⟨h1, h2⟩, h3⟩
    rw [List.getElem?_eq_getElem h1, Option.getD_some] at h3
    refine ⟨p.drop (f.length + 1), ?_⟩
    have := List.take_append_drop f.length p
    rw [h2, List.drop_eq_getElem_cons h1, h3] at this
    exact this.symm
  · rintro ⟨r, rfl⟩
    refine ⟨⟨by simp, by simp⟩, by simp⟩
theorem under_apart {p f t : List UInt8} (h1 : underP p f = true) (h2 : underP p t = true) (hft : f ≠ t) (hf : underP f t = false) (ht : underP t f = false) : False := by
  obtain ⟨a, ha⟩ := (underP_iff _ _).1 h1
  obtain ⟨b, hb⟩ := (underP_iff _ _).1 h2
  have key : ∀ {u v x y : List UInt8}, u ++ 47 :: x = v ++ 47 :: y → u = v ∨ underP u v = true ∨ underP v u = true := fun {u v x y} h => by
    rcases List.append_eq_append_iff.1 h with ⟨c, e1, e2⟩ | ⟨c, e1, e2⟩
    · cases c with
      | nil => exact .inl (by simpa using e1.symm)
      | cons z c =>
        simp only [List.cons_append, List.cons.injEq] at e2
        exact .inr (.inr ((underP_iff _ _).2 ⟨c, by rw [e1, ← e2.1]⟩))
    · cases c with
      | nil => exact .inl (by simpa using e1)
      | cons z c =>
        simp only [List.cons_append, List.cons.injEq] at e2
        exact .inr (.inl ((underP_iff _ _).2 ⟨c, by rw [e1, ← e2.1]⟩))
  rcases key (ha.symm.trans hb) with h | h | h
  · exact hft h
  · rw [hf] at h; cases h
  · rw [ht] at h; cases h
/-- The names behind a move. -/
def movedP (f t : List UInt8) (p : List UInt8) : List UInt8 := t ++ p.drop f.length
def moveFold (f t : List UInt8) : RL → RL → RL
  | o, [] => o
  | o, e :: r => moveFold f t (if underP e.1 f = true then withR (withoutR o e.1) (movedP f t e.1) e.2 else o) r
def moveRL (L : RL) (f t : List UInt8) (n : Nat) : RL := moveFold f t (withR (withoutR (withoutR L t) f) t n) L
theorem movedP_under {f t p : List UInt8} (h : underP p f = true) : underP (movedP f t p) t = true := by
  obtain ⟨r, rfl⟩ := (underP_iff _ _).1 h
  exact (underP_iff _ _).2 ⟨r, by unfold movedP; rw [List.drop_left]⟩
theorem movedP_inj {f t p q : List UInt8} (h : underP p f = true) (h2 : underP q f = true) (e : movedP f t p = movedP f t q) : p = q := by
  obtain ⟨r, rfl⟩ := (underP_iff _ _).1 h
  obtain ⟨s, rfl⟩ := (underP_iff _ _).1 h2
  unfold movedP at e
  rw [List.drop_left, List.drop_left] at e
  rw [List.append_cancel_left e]
/-- What stands behind a part of the move's rounds. -/
structure MoveI (L : RL) (f t : List UInt8) (n : Nat) (done o : RL) : Prop where
  ris : RisR o
  mem : ∀ e, e ∈ o ↔ e = (t, n) ∨ (∃ d ∈ done, underP d.1 f = true ∧ e = (movedP f t d.1, d.2)) ∨ (e ∈ L ∧ e.1 ≠ t ∧ e.1 ≠ f ∧ ¬ (underP e.1 f = true ∧ e ∈ done))
theorem moveFold_ok {L : RL} {f t : List UInt8} {n : Nat} (hL : RisR L) (hft : f ≠ t) (h1 : underP f t = false) (h2 : underP t f = false) (h3 : ∀ e ∈ L, underP e.1 t = false) : ∀ (todo done o : RL), L = done ++ todo → MoveI L f t n done o → ∃ o', moveFold f t o todo = o' ∧ MoveI L f t n L o' ∧ ∀ k, cntR o' k = cntR o k
  | [], done, o, hd, h => by
    refine ⟨o, rfl, ?_, fun _ => rfl⟩
    rw [List.append_nil] at hd
    rwa [← hd] at h
  | d :: r, done, o, hd, h => by
    have hdL : d ∈ L := by rw [hd]; simp
    have hd2 : L = (done ++ [d]) ++ r := by rw [hd]; simp
    have hnew : d ∉ done := fun hm => by
      rw [hd] at hL
      have := (List.pairwise_append.1 hL).2.2 d hm d (by simp)
      exact List.lt_irrefl _ this
    unfold moveFold
    by_cases hu : underP d.1 f = true
    · rw [if_pos hu]
      have hdf : d.1 ≠ f := fun e => by
        obtain ⟨q, hq⟩ := (underP_iff _ _).1 hu
        rw [e] at hq
        have := congrArg List.length hq
        simp at this
      have hdt : d.1 ≠ t := fun e => by rw [e, h2] at hu; cases hu
      have hdo : d ∈ o := (h.mem d).2 (.inr (.inr ⟨hdL, hdt, hdf, fun hh => hnew hh.2⟩))
      have hno : ∀ k, (movedP f t d.1, k) ∉ withoutR o d.1 := fun k hk => by
        obtain ⟨hk, -⟩ := (mem_withoutR _ _ _).1 hk
        have hmu := movedP_under (t := t) hu
        rcases (h.mem _).1 hk with e | ⟨d', hd', hu', e⟩ | ⟨hm, -⟩
        · have e1 := (Prod.mk.inj e).1
          rw [e1] at hmu
          obtain ⟨q, hq⟩ := (underP_iff _ _).1 hmu
          have := congrArg List.length hq
          simp at this
        · have e1 := movedP_inj hu hu' (Prod.mk.inj e).1
          have : d' = d := Prod.ext e1.symm (by
            have q1 : (d.1, d'.2) ∈ L := by rw [e1, hd]; exact List.mem_append_left _ hd'
            exact ris_one hL q1 hdL)
          exact hnew (this ▸ hd')
        · have := h3 _ hm
          rw [hmu] at this
          cases this
      have hI : MoveI L f t n (done ++ [d]) (withR (withoutR o d.1) (movedP f t d.1) d.2) := by
        refine ⟨ris_withR (ris_withoutR h.ris _) hno, fun e => ?_⟩
        rw [mem_withR, mem_withoutR, h.mem e]
        constructor
        · rintro (rfl | ⟨hm, hne⟩)
          · exact .inr (.inl ⟨d, by simp, hu, rfl⟩)
          · rcases hm with hm | ⟨d', hd', hu', e'⟩ | ⟨hm, g1, g2, g3⟩
            · exact .inl hm
            · exact .inr (.inl ⟨d', by simp [hd'], hu', e'⟩)
            · refine .inr (.inr ⟨hm, g1, g2, fun hh => ?_⟩)
              rcases List.mem_append.1 hh.2 with g | g
              · exact g3 ⟨hh.1, g⟩
              · exact hne (by rw [List.mem_singleton.1 g])
        · rintro (hm | ⟨d', hd', hu', e'⟩ | ⟨hm, g1, g2, g3⟩)
          · exact .inr ⟨.inl hm, by rw [hm]; exact fun e2 => hdt e2.symm⟩
          · rcases List.mem_append.1 hd' with g | g
            · refine .inr ⟨.inr (.inl ⟨d', g, hu', e'⟩), fun e2 => ?_⟩
              have hmu := movedP_under (t := t) hu'
              rw [e'] at e2
              have e2' : movedP f t d'.1 = d.1 := e2
              rw [e2'] at hmu
              exact under_apart hu hmu hft h1 h2
            · rw [List.mem_singleton.1 g] at e'
              exact .inl e'
          · refine .inr ⟨.inr (.inr ⟨hm, g1, g2, fun hh => g3 ⟨hh.1, List.mem_append_left _ hh.2⟩⟩), fun e2 => ?_⟩
            have : e = d := Prod.ext e2 (by
              have q1 : (d.1, e.2) ∈ L := by rw [← e2]; exact hm
              exact ris_one hL q1 hdL)
            exact g3 ⟨by rw [this]; exact hu, by rw [this]; simp⟩
      obtain ⟨o', g1, g2, g3⟩ := moveFold_ok hL hft h1 h2 h3 r (done ++ [d]) _ hd2 hI
      refine ⟨o', g1, g2, fun k => ?_⟩
      rw [g3 k, cnt_withR]
      exact cnt_withoutR h.ris hdo
    · rw [if_neg hu]
      have hI : MoveI L f t n (done ++ [d]) o := by
        refine ⟨h.ris, fun e => ?_⟩
        rw [h.mem e]
        constructor
        · rintro (hm | ⟨d', hd', hu', e'⟩ | ⟨hm, g1, g2, g3⟩)
          · exact .inl hm
          · exact .inr (.inl ⟨d', by simp [hd'], hu', e'⟩)
          · refine .inr (.inr ⟨hm, g1, g2, fun hh => ?_⟩)
            rcases List.mem_append.1 hh.2 with g | g
            · exact g3 ⟨hh.1, g⟩
            · rw [List.mem_singleton.1 g] at hh
              exact hu hh.1
        · rintro (hm | ⟨d', hd', hu', e'⟩ | ⟨hm, g1, g2, g3⟩)
          · exact .inl hm
          · rcases List.mem_append.1 hd' with g | g
            · exact .inr (.inl ⟨d', g, hu', e'⟩)
            · rw [List.mem_singleton.1 g] at hu'
              exact absurd hu' hu
          · exact .inr (.inr ⟨hm, g1, g2, fun hh => g3 ⟨hh.1, List.mem_append_left _ hh.2⟩⟩)
      exact moveFold_ok hL hft h1 h2 h3 r (done ++ [d]) o hd2 hI
/-- The names behind a move: all of them, and how often each node is named. -/
theorem moveRL_ok {L : RL} {f t : List UInt8} {n : Nat} (hL : RisR L) (hf : (f, n) ∈ L) (hft : f ≠ t) (h1 : underP f t = false) (h2 : underP t f = false) (h3 : ∀ e ∈ L, underP e.1 t = false) :
    RisR (moveRL L f t n) ∧ (∀ e, e ∈ moveRL L f t n ↔ e = (t, n) ∨ (∃ d ∈ L, underP d.1 f = true ∧ e = (movedP f t d.1, d.2)) ∨ (e ∈ L ∧ e.1 ≠ t ∧ e.1 ≠ f ∧ underP e.1 f = false)) ∧
    (∀ k, cntR (moveRL L f t n) k = cntR (withoutR L t) k) := by
  have r1 := ris_withoutR hL t
  have r2 := ris_withoutR r1 f
  have hno : ∀ k, (t, k) ∉ withoutR (withoutR L t) f := fun k hk => by
    have := ((mem_withoutR _ _ _).1 ((mem_withoutR _ _ _).1 hk).1).2
    exact this rfl
  have hI : MoveI L f t n [] (withR (withoutR (withoutR L t) f) t n) := by
    refine ⟨ris_withR r2 hno, fun e => ?_⟩
    rw [mem_withR, mem_withoutR, mem_withoutR]
    simp only [List.not_mem_nil, false_and, exists_false, false_or, and_false, not_false_eq_true, and_true]
    constructor
    · rintro (h | ⟨⟨a, b⟩, c⟩)
      · exact .inl h
      · exact .inr ⟨a, b, c⟩
    · rintro (h | ⟨a, b, c⟩)
      · exact .inl h
      · exact .inr ⟨⟨a, b⟩, c⟩
  obtain ⟨o', g1, g2, g3⟩ := moveFold_ok hL hft h1 h2 h3 L [] _ rfl hI
  have e : moveRL L f t n = o' := g1
  rw [e]
  refine ⟨g2.ris, fun x => ?_, fun k => ?_⟩
  · rw [g2.mem x]
    constructor
    · rintro (h | ⟨d, hd, hu, e'⟩ | ⟨hm, a, b, c⟩)
      · exact .inl h
      · exact .inr (.inl ⟨d, hd, hu, e'⟩)
      · refine .inr (.inr ⟨hm, a, b, ?_⟩)
        cases hu : underP x.1 f
        · rfl
        · exact absurd ⟨hu, hm⟩ c
    · rintro (h | ⟨d, hd, hu, e'⟩ | ⟨hm, a, b, c⟩)
      · exact .inl h
      · exact .inr (.inl ⟨d, hd, hu, e'⟩)
      · exact .inr (.inr ⟨hm, a, b, fun hh => by rw [c] at hh; cases hh.1⟩)
  · rw [g3 k, cnt_withR]
    exact cnt_withoutR r1 ((mem_withoutR _ _ _).2 ⟨hf, hft⟩)
end Go.Proofs.YtgoemaecdolioaaGreatDoor
