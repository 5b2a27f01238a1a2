/-
  label: names, as bytes; named, Check.
-/
import Derived.Sort.EncStr
import Derived.Lib.OthersKept
import Derived.Lib.Strings
import Derived.Test.YtoaloeipgadkjaaBase
namespace Go.Proofs.Ytoaloeipgadkjaa
open Go.RowKit Go.Shelf Go.Sort

/-- May a byte be in a name? -/
def byteN (b : UInt8) : Bool := decide (33 ≤ b.toNat) && decide (b.toNat ≤ 126) && decide (b.toNat ≠ 47)
/-- Is a text a name? -/
def rightN (s : List UInt8) : Bool := decide (1 ≤ s.length) && decide (s.length ≤ 40) && !(s == [46]) && !(s == [46, 46]) && s.all byteN
def errN (s : List UInt8) : Int := if rightN s then 0 else 160
def nameN (s : List UInt8) : List UInt8 := if rightN s then s else []
abbrev namV (s : List UInt8) : Value := .agg #[encStr s]
theorem str_eql {_P : Program} (t : TypeId) (a b : List UInt8) : binOp .eql t (encStr a) (encStr b) = (pure (.bool (a == b)) : Sem Value) := by
  rw [binOp_string_eql, Lib.toList_data, Lib.toList_data]
theorem rightN_iff (s : List UInt8) : rightN s = true ↔ 1 ≤ s.length ∧ s.length ≤ 40 ∧ ¬ s = [46] ∧ ¬ s = [46, 46] ∧ s.all byteN = true := by
  unfold rightN
  simp [and_assoc]
theorem named_early (s : List UInt8) (w : World) (h : s.length < 1 ∨ 40 < s.length ∨ s = [46] ∨ s = [46, 46]) :
    Calls Try.prog 23 #[encStr s] w fun e w' => e = .returned (.tuple #[namV [], .int .i64 160]) ∧ Below w.heap.size w w' := by
  by_cases k1 : (s.length : Int) < 1
  · go_enter Try.func23, Try.ntmps23
    go_wp2
    refine wp_scope_forward 0 rfl ?_
    go_wp2
    go_step3
    refine ⟨rfl, ?_⟩
    go_wp2
    rw [Exit.jump_ret]
    refine bodyPost_ret (v := .tuple #[namV [], .int .i64 160]) (by simp [results, Try.results23, go_sem]) rfl ⟨rfl, (by repeat (first | exact Below.refl _ _ | assumption | refine Below.drew ?_ | refine below_drewN ?_ _ | refine Below.alloc ?_ (by (try simp) <;> omega) _ | refine Below.setCell ?_ (by (try simp) <;> omega) _ | refine Below.trans ?_ (Below.mono (by assumption) (by (try simp) <;> omega))))⟩
  by_cases k2 : 40 < (s.length : Int)
  · go_enter Try.func23, Try.ntmps23
    go_wp2
    refine wp_scope_forward 0 rfl ?_
    go_wp2
    go_step3
    refine ⟨rfl, ?_⟩
    go_wp2
    rw [Exit.jump_ret]
    refine bodyPost_ret (v := .tuple #[namV [], .int .i64 160]) (by simp [results, Try.results23, go_sem]) rfl ⟨rfl, (by repeat (first | exact Below.refl _ _ | assumption | refine Below.drew ?_ | refine below_drewN ?_ _ | refine Below.alloc ?_ (by (try simp) <;> omega) _ | refine Below.setCell ?_ (by (try simp) <;> omega) _ | refine Below.trans ?_ (Below.mono (by assumption) (by (try simp) <;> omega))))⟩
  have h' : s = [46] ∨ s = [46, 46] := by
    rcases h with h | h | h
    · omega
    · omega
    · exact h
  rcases h' with rfl | rfl
  · go_enter Try.func23, Try.ntmps23
    go_wp2
    refine wp_scope_forward 0 rfl ?_
    go_wp2
    go_step3
    refine ⟨rfl, ?_⟩
    go_wp2
    rw [Exit.jump_ret]
    refine bodyPost_ret (v := .tuple #[namV [], .int .i64 160]) (by simp [results, Try.results23, go_sem]) rfl ⟨rfl, (by repeat (first | exact Below.refl _ _ | assumption | refine Below.drew ?_ | refine below_drewN ?_ _ | refine Below.alloc ?_ (by (try simp) <;> omega) _ | refine Below.setCell ?_ (by (try simp) <;> omega) _ | refine Below.trans ?_ (Below.mono (by assumption) (by (try simp) <;> omega))))⟩
  · go_enter Try.func23, Try.ntmps23
    go_wp2
    refine wp_scope_forward 0 rfl ?_
    go_wp2
    go_step3
    refine ⟨rfl, ?_⟩
    go_wp2
    rw [Exit.jump_ret]
    refine bodyPost_ret (v := .tuple #[namV [], .int .i64 160]) (by simp [results, Try.results23, go_sem]) rfl ⟨rfl, (by repeat (first | exact Below.refl _ _ | assumption | refine Below.drew ?_ | refine below_drewN ?_ _ | refine Below.alloc ?_ (by (try simp) <;> omega) _ | refine Below.setCell ?_ (by (try simp) <;> omega) _ | refine Below.trans ?_ (Below.mono (by assumption) (by (try simp) <;> omega))))⟩
/-- What a range over a text tells of the byte at a place. -/
theorem letter_at (s : List UInt8) (pos : Nat) (h : pos < s.length) :
    ((33 ≤ (Utf8.decode ⟨s.toArray⟩ pos).1 ∧ (Utf8.decode ⟨s.toArray⟩ pos).1 ≤ 126 ∧ (Utf8.decode ⟨s.toArray⟩ pos).1 ≠ 47) ↔ byteN s[pos] = true) ∧
    (byteN s[pos] = true → (Utf8.decode ⟨s.toArray⟩ pos).2 = 1) := by
  have hs : pos < (⟨s.toArray⟩ : ByteArray).size := by simpa [ByteArray.size] using h
  have hg : ((⟨s.toArray⟩ : ByteArray)[pos]'hs) = s[pos] := by rfl
  unfold byteN
  simp only [Bool.and_eq_true, decide_eq_true_eq]
  by_cases ha : (s[pos]).toNat < 128
  · rw [decode_ascii ⟨s.toArray⟩ pos hs (by rw [hg]; exact ha), hg]
    exact ⟨by constructor <;> (intro h; omega), fun _ => rfl⟩
  · have hd := decode_high ⟨s.toArray⟩ pos hs (by rw [hg]; omega)
    refine ⟨by constructor <;> (intro h; omega), fun h => by omega⟩
set_option maxRecDepth 100000 in
set_option maxHeartbeats 2000000 in
theorem named_late (s : List UInt8) (w : World) (k1 : 1 ≤ s.length) (k2 : s.length ≤ 40) (k3 : ¬ s = [46]) (k4 : ¬ s = [46, 46]) :
    Calls Try.prog 23 #[encStr s] w fun e w' => e = .returned (.tuple #[namV (if s.all byteN then s else []), .int .i64 (if s.all byteN then 0 else 160)]) ∧ Below w.heap.size w w' := by
  have q1 : ¬ (s.length : Int) < 1 := by omega
  have q2 : ¬ (40 : Int) < (s.length : Int) := by omega
  have q3 : (s == [46]) = false := by simp [k3]
  have q4 : (s == [46, 46]) = false := by simp [k4]
  have HL := Lib.hid (letter_at s)
  clear k3 k4
  go_enter Try.func23, Try.ntmps23
  go_wp2
  refine wp_scope_forward 0 rfl ?_
  go_wp2
  go_loopw [] (fun wr => ∃ pos : Nat, pos ≤ s.length ∧ wr.heap[w.heap.size + 1]? = some (.stringIter ⟨s.toArray⟩ pos) ∧ Boxed wr w.heap.size 52 (encStr []) ∧ Below w.heap.size w wr ∧ Hid ((s.take pos).all byteN = true)) (fun wr => s.length - wr.iterPos (w.heap.size + 1))
  case atStart =>
    refine ⟨0, Nat.zero_le _, ?_, (Boxed.new w 52 (encStr [])).alloc _, (by repeat (first | exact Below.refl _ _ | assumption | refine Below.drew ?_ | refine below_drewN ?_ _ | refine Below.alloc ?_ (by (try simp) <;> omega) _ | refine Below.setCell ?_ (by (try simp) <;> omega) _ | refine Below.trans ?_ (Below.mono (by assumption) (by (try simp) <;> omega)))), Lib.hid rfl⟩
    have := World.iter_heap (w.alloc (.cells #[encStr []] 52)) ⟨s.toArray⟩ 0
    simpa using this
  case round =>
    obtain ⟨pos, hpl, hit, hbx, hbw, HA⟩ := hrel
    by_cases hp : pos < s.length
    · have hps : pos < (⟨s.toArray⟩ : ByteArray).size := by simpa [ByteArray.size] using hp
      have hnx : ∀ ty, (Instr.next (.pointer (some ⟨w.heap.size + 1, 0, none⟩)) true ty).run Try.prog wr = _ := fun ty => Lib.run_next_any_at wr (w.heap.size + 1) ⟨s.toArray⟩ pos ty hit hps
      obtain ⟨h1, h2⟩ := HL.out pos hp
      have hmx := decode_le ⟨s.toArray⟩ pos
      have hi2 := Lib.iterAt_heap wr (w.heap.size + 1) ⟨s.toArray⟩ pos (pos + (Utf8.decode ⟨s.toArray⟩ pos).2) hit
      have hb2 := Lib.below_iterAt hbw (k := w.heap.size + 1) (by omega) ⟨s.toArray⟩ (pos + (Utf8.decode ⟨s.toArray⟩ pos).2)
      have hx2 : Boxed (wr.iterAt (w.heap.size + 1) ⟨s.toArray⟩ (pos + (Utf8.decode ⟨s.toArray⟩ pos).2)) w.heap.size 52 (encStr []) := (Lib.iterAt_other wr (w.heap.size + 1) w.heap.size ⟨s.toArray⟩ _ (by omega)).trans hbx
      obtain ⟨rr, hrr⟩ : ∃ rr, (Utf8.decode ⟨s.toArray⟩ pos).1 = rr := ⟨_, rfl⟩
      obtain ⟨ww, hww⟩ : ∃ ww, (Utf8.decode ⟨s.toArray⟩ pos).2 = ww := ⟨_, rfl⟩
      rw [hrr, hww] at hnx
      rw [hww] at hi2 hb2 hx2 h2
      rw [hrr] at h1 hmx
      clear hrr hww
      obtain ⟨W2, hW2⟩ : ∃ W2, wr.iterAt (w.heap.size + 1) ⟨s.toArray⟩ (pos + ww) = W2 := ⟨_, rfl⟩
      rw [hW2] at hnx hi2 hb2 hx2
      have HIT := Lib.hid hit
      have HI2 := Lib.hid hi2
      have HB2 := Lib.hid hb2
      have HX2 := Lib.hid hx2
      have cb := hx2.cell
      have cf := hx2.frozen
      have cl := hx2.lt
      clear hW2 hit hbx hbw hi2 hb2 hx2 hps
      by_cases hg : byteN s[pos] = true
      · obtain ⟨g1, g2, g3⟩ := h1.2 hg
        obtain rfl := h2 hg
        have e1 : ¬ ((rr : Int) < 33) := by omega
        have e2 : ¬ ((126 : Int) < rr) := by omega
        have e3 : ((rr : Int) == 47) = false := by simp; omega
        have HG := Lib.hid hg
        clear hg h1 h2 g1 g2 g3
        go_wp2
        go_roundw
        case rel =>
          refine ⟨pos + 1, by omega, HI2.out, HX2.out, HB2.out, ?_⟩
          exact Lib.hid (by rw [List.take_succ_eq_append_getElem hp, List.all_append, HA.out]; simp [HG.out])
        case measure =>
          simp only [World.iterPos, HI2.out, HIT.out]
          omega
      · have hn : ((decide ((rr : Int) < 33) || decide ((126 : Int) < rr) || ((rr : Int) == 47))) = true := by
          have : ¬ (33 ≤ rr ∧ rr ≤ 126 ∧ rr ≠ 47) := fun h => hg (h1.1 h)
          simp only [Bool.or_eq_true, decide_eq_true_eq, beq_iff_eq]
          omega
        have HN : Hid (s.all byteN = false) := show _ = _ from List.all_eq_false.2 ⟨s[pos], List.getElem_mem hp, by simpa using hg⟩
        clear hg h1 h2
        go_wp2
        all_goals
          go_step3
          refine ⟨rfl, ?_⟩
          go_wp2
          rw [Exit.jump_ret]
          exact bodyPost_ret (v := .tuple #[namV [], .int .i64 160]) (by simp [results, Try.results23, go_sem, (HX2.out.set (encStr [])).cell]) rfl ⟨by rw [HN.out]; rfl, HB2.out.setCell (p := ⟨w.heap.size, 0, none⟩) (Nat.le_refl _) _⟩
    · have hps : ¬ pos < (⟨s.toArray⟩ : ByteArray).size := by simpa [ByteArray.size] using hp
      have hnx : ∀ ty, (Instr.next (.pointer (some ⟨w.heap.size + 1, 0, none⟩)) true ty).run Try.prog wr = _ := fun ty => Lib.run_next_end_at wr (w.heap.size + 1) ⟨s.toArray⟩ pos ty hit hps
      have cb := hbx.cell
      have cf := hbx.frozen
      have cl := hbx.lt
      have hall : s.all byteN = true := by rw [List.take_of_length_le (by omega)] at HA; exact HA.out
      have HB := Lib.hid hbw
      have HX := Lib.hid hbx
      clear HA hbx hbw hit
      go_wp2
      rw [Exit.jump_ret]
      refine bodyPost_ret (v := .tuple #[namV s, .int .i64 0]) (by simp [results, Try.results23, go_sem, (HX.out.set (encStr s)).cell]) rfl ⟨by rw [hall]; rfl, HB.out.setCell (p := ⟨w.heap.size, 0, none⟩) (Nat.le_refl _) _⟩
theorem named_any (s : List UInt8) (w : World) :
    Calls Try.prog 23 #[encStr s] w fun e w' => e = .returned (.tuple #[namV (nameN s), .int .i64 (errN s)]) ∧ Below w.heap.size w w' := by
  by_cases h : s.length < 1 ∨ 40 < s.length ∨ s = [46] ∨ s = [46, 46]
  · have hr : rightN s = false := by
      cases hr : rightN s with
      | false => rfl
      | true =>
        obtain ⟨h1, h2, h3, h4, -⟩ := (rightN_iff s).1 hr
        rcases h with h | h | h | h
        · omega
        · omega
        · exact absurd h h3
        · exact absurd h h4
    refine (named_early s w h).mono fun e w' h => ?_
    unfold nameN errN
    rw [hr]
    exact h
  · have h1 : 1 ≤ s.length := by
      rcases Nat.lt_or_ge s.length 1 with k | k
      · exact absurd (.inl k) h
      · exact k
    have h2 : s.length ≤ 40 := by
      rcases Nat.lt_or_ge 40 s.length with k | k
      · exact absurd (.inr (.inl k)) h
      · exact k
    have h3 : ¬ s = [46] := fun k => h (.inr (.inr (.inl k)))
    have h4 : ¬ s = [46, 46] := fun k => h (.inr (.inr (.inr k)))
    have hr : rightN s = s.all byteN := by
      unfold rightN
      simp [h1, h2, h3, h4]
    refine (named_late s w h1 h2 h3 h4).mono fun e w' h => ?_
    unfold nameN errN
    rw [hr]
    exact h
end Go.Proofs.Ytoaloeipgadkjaa
