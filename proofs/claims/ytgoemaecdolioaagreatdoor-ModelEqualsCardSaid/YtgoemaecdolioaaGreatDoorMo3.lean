/-
  Texts FlA to FlC, as one.
-/
import Derived.Test.YtgoemaecdolioaaGreatDoorMo2
import Derived.Laws.MakeOwn
import Derived.Laws.CopyRow
import Derived.Laws.CopyOwn
/-
  file: bytes in memory: made, copied, cut; a file under way.
-/
namespace Go.Proofs.YtgoemaecdolioaaGreatDoor
open Go.RowKit Go.Shelf

/-- Bytes, as cells. -/
def byA (l : List Nat) : Array Value := (valsOf .u8 l).toArray
theorem byA_size (l : List Nat) : (byA l).size = l.length := by simp [byA, valsOf]
theorem byA_at (l : List Nat) (j : Nat) (h : j < l.length) : (byA l)[j]? = some (.int .u8 ((l[j]?.getD 0 : Nat) : Int)) := by
  simp [byA, valsOf, List.getElem?_eq_getElem h]
theorem byA_zero (n : Nat) : madeCells (Value.int .u8 0).cells (n * 1) = byA (List.replicate n 0) := by
  apply Array.ext
  · simp [madeCells, byA, valsOf]
  · intro i h1 h2
    simp [madeCells, byA, valsOf, Value.cells, Nat.mod_one]
theorem make_bytes (t : TypeId) (ht : Tryz.prog.underlying t = some (.slice 5)) (n : Nat) (hn : n ≤ 1000000) (W : World) :
    (Instr.makeSlice t (.int .i64 (n : Nat)) (.int .i64 (n : Nat))).run Tryz.prog W = .ok (.slice (some ⟨W.heap.size, 0, none⟩) n n) (W.alloc (.cells (byA (List.replicate n 0)) 5)) := by
  obtain ⟨i0, hi, hz0, hz1, hz2⟩ := info_parts infoU8
  have h := run_makeSlice (P := Tryz.prog) (w := W) t 5 i0 (.int .u8 0) ht hi hz0 .i64 .i64 (n : Int) (n : Int) (by omega) (Int.le_refl _) (by rw [hz1]; simp; omega) (by rw [hz2]; simp; omega) (by omega)
  rw [hz1] at h
  simp only [Int.toNat_natCast] at h
  rw [byA_zero] at h
  exact h
/-- Bytes of which some give way to others. -/
def spliceN (ys : List Nat) (o : Nat) (zs : List Nat) : List Nat := ys.take o ++ zs ++ ys.drop (o + zs.length)
theorem byA_splice (ys : List Nat) (o : Nat) (zs : List Nat) : ((byA ys).toList.take o ++ valsOf .u8 zs ++ (byA ys).toList.drop (o + (valsOf .u8 zs).length)).toArray = byA (spliceN ys o zs) := by
  unfold byA spliceN
  rw [valsOf_length]
  simp [valsOf, List.map_take, List.map_drop]
theorem Blk.setRow {W : World} {b : Nat} {t : TypeId} {X : Array Value} (h : Blk W b t X) (Y : Array Value) : Blk (W.setRow b Y) b t Y ∧ Turn (fun k => k = b) W (W.setRow b Y) := by
  refine ⟨setRow_heap W b _ _ _ _ h, ?_⟩
  have hb := below_setRow (B := b) (Below.refl b W) (Nat.le_refl _) Y
  exact ⟨hb.os, hb.tape, hb.output, hb.size, fun k _ hn => setRow_other W b k Y hn⟩
theorem copy_bytes (dT sT ty : TypeId) (hd : Tryz.prog.underlying dT = some (.slice 5)) {W : World} {g o dl dc : Nat} {ys xs : List Nat} {v : Value} (h : Blk W g 5 (byA ys)) (ho : o + dl ≤ ys.length) (hs : Sl W .u8 v xs) :
    (Builtin.copy_ #[dT, sT] ty #[.slice (some ⟨g, o, none⟩) dl dc, v]).run Tryz.prog W = .ok (goInt (xs.take dl).length) (W.setRow g (byA (spliceN ys o (xs.take dl)))) := by
  obtain ⟨i0, hi, hz0, hz1, hz2⟩ := info_parts infoU8
  obtain ⟨a, cap, rfl, hlc, hc⟩ := hs
  rcases a with _ | ad
  · have h0 : xs = [] := by
      rcases Nat.eq_zero_or_pos xs.length with h | h
      · exact List.eq_nil_of_length_eq_zero h
      · obtain ⟨b, off, hh, _⟩ := hc h
        cases hh
    subst h0
    have e : W.setRow g (byA (spliceN ys o (([] : List Nat).take dl))) = W := by
      have : byA (spliceN ys o (([] : List Nat).take dl)) = byA ys := by simp [spliceN]
      rw [this]
      exact setRow_self W g _ _ _ h
    rw [e]
    simp [Builtin.copy_, run_underlying hd, Builtin.lenOf, Builtin.firstCells, sizeOf, typeInfo, hi, storeCells]
  · have hr := run_copy_row (P := Tryz.prog) W dT sT ty 5 g o dl dc ad xs.length cap (byA ys) 5 (valsOf .u8 (xs.take dl)) hd (by rw [hi]; simp [hz1]) h
      (by rw [valsOf_length, List.length_take]; exact Nat.min_comm _ _) (fun j u hj => by
        have hl : j < (xs.take dl).length := by
          have := (List.getElem?_eq_some_iff.1 hj).1
          rwa [valsOf_length] at this
        have hl2 : j < xs.length := by rw [List.length_take] at hl; omega
        obtain ⟨b, off, hh, _, hcell⟩ := hc (by omega)
        simp only [Option.some.injEq] at hh
        subst hh
        have e1 : (⟨b, off, none⟩ : Addr).add j = ⟨b, off + j, none⟩ := by unfold Addr.add; split <;> simp_all
        rw [e1, hcell j hl2, ← hj]
        simp [valsOf, List.getElem?_take_of_lt (show j < dl by rw [List.length_take] at hl; omega), hl2])
      (by rw [valsOf_length, byA_size, List.length_take]; omega) (valsOf_one _ _)
    rw [hr, byA_splice, valsOf_length]
theorem blk_sl {W : World} {g : Nat} {ys : List Nat} (h : Blk W g 5 (byA ys)) (o n cap : Nat) (hn : o + n ≤ ys.length) (hc : n ≤ cap) : Sl W .u8 (.slice (some ⟨g, o, none⟩) n cap) ((ys.drop o).take n) := by
  have hlen : ((ys.drop o).take n).length = n := by rw [List.length_take, List.length_drop]; omega
  refine ⟨_, cap, by rw [hlen], by omega, fun _ => ⟨g, o, rfl, h.lt, fun j hj => ?_⟩⟩
  rw [hlen] at hj
  rw [h.cell (byA_at ys (o + j) (by omega)), List.getElem?_take_of_lt hj, List.getElem?_drop]
theorem blk_sl_all {W : World} {g : Nat} {ys : List Nat} (h : Blk W g 5 (byA ys)) : Sl W .u8 (.slice (some ⟨g, 0, none⟩) ys.length ys.length) ys := by
  have := blk_sl h 0 ys.length ys.length (by omega) (Nat.le_refl _)
  rwa [List.drop_zero, List.take_length] at this
/-- A slice of bytes, as a file's. -/
structure FB (W : World) (v : Value) (xs : List Nat) : Prop where
  sl : Sl W .u8 v xs
  all : WM.Bytes256 xs
  cap : ∀ a n c, v = .slice a n c → c ≤ 9223372036854775807
theorem FB.below {W W' : World} {v : Value} {xs : List Nat} (h : FB W v xs) (hb : Below W.heap.size W W') : FB W' v xs := ⟨h.sl.below hb, h.all, h.cap⟩
theorem FB.form {W : World} {v : Value} {xs : List Nat} (h : FB W v xs) : ∃ a c, v = .slice a xs.length c ∧ xs.length ≤ c ∧ c ≤ 9223372036854775807 := by
  obtain ⟨a, c, hv, hl, -⟩ := h.sl
  exact ⟨a, c, hv, hl, h.cap _ _ _ hv⟩
/-- What turns in a block of slices leaves bytes. -/
theorem Sl.slices {W W' : World} {k : IntKind} {v : Value} {xs : List Nat} {B : Nat} {t : TypeId} {a a' : Option Addr} {n c n' c' : Nat} (h : Sl W k v xs) (hB : Blk W B t #[.slice a n c, .slice a' n' c']) (ht : Turn (fun k => k = B) W W') : Sl W' k v xs := by
  obtain ⟨ad, cap, hv, hl, hc⟩ := h
  refine ⟨ad, cap, hv, hl, fun h0 => ?_⟩
  obtain ⟨b, off, ha, hlt, hj⟩ := hc h0
  have hne : b ≠ B := fun e => by
    subst e
    have h1 := hj 0 h0
    rw [cell_of_row W b (off + 0) _ t _ hB] at h1
    rcases off with _ | _ | off <;> simp at h1
  exact ⟨b, off, ha, Nat.lt_of_lt_of_le hlt ht.size, fun j hjl => (World.cell?_of_block (a := ⟨b, off + j, none⟩) (ht.block b hlt hne)).trans (hj j hjl)⟩
theorem FB.slices {W W' : World} {v : Value} {xs : List Nat} {B : Nat} {t : TypeId} {a a' : Option Addr} {n c n' c' : Nat} (h : FB W v xs) (hB : Blk W B t #[.slice a n c, .slice a' n' c']) (ht : Turn (fun k => k = B) W W') : FB W' v xs := ⟨h.sl.slices hB ht, h.all, h.cap⟩
theorem nil_sl (W : World) (k : IntKind) : Sl W k (.slice none 0 0) [] := ⟨none, 0, rfl, Nat.le_refl _, fun h => absurd h (by simp)⟩
theorem nil_256 : WM.Bytes256 [] := fun i => by rw [WM.at_none [] i (by simp)]; decide
theorem nil_fb (W : World) : FB W (.slice none 0 0) [] := ⟨nil_sl W _, nil_256, fun a n c e => by cases e; omega⟩
/-- A file of a size. -/
def cutF (xs : List Nat) (n : Nat) : List Nat := xs.take n ++ List.replicate (n - xs.length) 0
theorem cutF_length (xs : List Nat) (n : Nat) : (cutF xs n).length = n := by simp [cutF]; omega
theorem cutF_splice (xs : List Nat) (n : Nat) : spliceN (List.replicate n 0) 0 (xs.take n) = cutF xs n := by
  simp [spliceN, cutF]
  omega
theorem bytes256_app {a b : List Nat} (ha : WM.Bytes256 a) (hb : WM.Bytes256 b) : WM.Bytes256 (a ++ b) := fun i => by
  have h1 := ha i
  have h2 := hb (i - a.length)
  unfold WM.at' at *
  by_cases h : i < a.length
  · rw [List.getElem?_append_left h]; exact h1
  · rw [List.getElem?_append_right (by omega)]; exact h2
theorem bytes256_take {a : List Nat} (ha : WM.Bytes256 a) (n : Nat) : WM.Bytes256 (a.take n) := fun i => by
  have h1 := ha i
  unfold WM.at' at *
  rw [List.getElem?_take]
  split
  · exact h1
  · decide
theorem bytes256_drop {a : List Nat} (ha : WM.Bytes256 a) (n : Nat) : WM.Bytes256 (a.drop n) := fun i => by
  have h1 := ha (n + i)
  unfold WM.at' at *
  rw [List.getElem?_drop]
  exact h1
theorem bytes256_zero (n : Nat) : WM.Bytes256 (List.replicate n 0) := fun i => by
  unfold WM.at'
  rw [List.getElem?_replicate]
  split <;> decide
theorem cutF_256 {xs : List Nat} (h : WM.Bytes256 xs) (n : Nat) : WM.Bytes256 (cutF xs n) := bytes256_app (bytes256_take h n) (bytes256_zero _)
end Go.Proofs.YtgoemaecdolioaaGreatDoor

/-
  A region that draws its order: what reads no world at all comes first, whether the operation that waits for others waits for it or not.
-/
namespace Go.Proofs.YtgoemaecdolioaaGreatDoor
open Go.RowKit Go.Shelf

section
variable {P : Program} {md : Region.Mode} {ops : Array Oper} {Q : Exit → Act → World → Prop} {m : Nat} {R : World → Prop}
end
end Go.Proofs.YtgoemaecdolioaaGreatDoor

/-
  file: isBig, end, part.
-/
namespace Go.Proofs.YtgoemaecdolioaaGreatDoor
open Go.RowKit Go.Shelf
attribute [local go_sem] Oper.semAt_some

theorem isBig_any (a : Option Addr) (n c : Nat) (w : World) : Calls Tryz.prog 153 #[.slice a n c] w fun e w' => e = .returned (.bool (decide (448 < (n : Int)))) ∧ w = w' := by
  go_enter Tryz.func153, Tryz.ntmps153
  go_wp2
  go_ret
  exact ⟨rfl, rfl⟩
/-- A file under way in block B: what it is, and what is to be written. -/
structure Fil (W : World) (B : Nat) (v u : Value) (xs ds : List Nat) : Prop where
  blk : Blk W B 208 #[v, u]
  c : FB W v xs
  d : FB W u ds
theorem Fil.below {W W' : World} {B : Nat} {v u : Value} {xs ds : List Nat} (h : Fil W B v u xs ds) (hb : Below W.heap.size W W') : Fil W' B v u xs ds := ⟨h.blk.below hb h.blk.lt, h.c.below hb, h.d.below hb⟩
theorem Fil.cells {W : World} {B : Nat} {v u : Value} {xs ds : List Nat} (h : Fil W B v u xs ds) : W.cell? ⟨B, 0, none⟩ = some v ∧ W.cell? ⟨B, 1, none⟩ = some u ∧ W.frozen? ⟨B, 0, none⟩ = false ∧ W.frozen? ⟨B, 1, none⟩ = false := ⟨h.blk.cell rfl, h.blk.cell rfl, h.blk.frozen _, h.blk.frozen _⟩
theorem fil_new (W : World) {v u : Value} {xs ds : List Nat} (hc : FB W v xs) (hd : FB W u ds) : Fil (W.alloc (.cells #[v, u] 208)) W.heap.size v u xs ds :=
  ⟨Blk.new _ _ _, hc.below ((Below.refl _ _).alloc (Nat.le_refl _) _), hd.below ((Below.refl _ _).alloc (Nat.le_refl _) _)⟩
/-- A file whose content gives way. -/
theorem Fil.put {W W' : World} {B : Nat} {v u v' : Value} {xs ds ys : List Nat} (h : Fil W B v u xs ds) (hc : FB W v' ys) (hW : W.setCell ⟨B, 0, none⟩ v' = W') : Fil W' B v' u ys ds ∧ Turn (fun k => k = B) W W' := by
  subst hW
  obtain ⟨a, c, rfl, -⟩ := h.c.form
  obtain ⟨a', c', rfl, -⟩ := h.d.form
  have ht : Turn (fun k => k = B) W (W.setCell ⟨B, 0, none⟩ v') := Turn.setCell W v' rfl
  exact ⟨⟨h.blk.set 0 v', hc.slices h.blk ht, h.d.slices h.blk ht⟩, ht⟩
set_option maxHeartbeats 1000000 in
theorem end_any {B : Nat} {v u : Value} {xs ds : List Nat} (n : Nat) (hn : n ≤ 100000) (w : World) (h : Fil w B v u xs ds) :
    Calls Tryz.prog 173 #[.pointer (some ⟨B, 0, none⟩), .int .i64 n] w fun e w' => (∃ r, e = .returned r) ∧ Fil w' B (.slice (some ⟨w.heap.size, 0, none⟩) n n) u (cutF xs n) ds ∧ Blk w' w.heap.size 5 (byA (cutF xs n)) ∧ Turn (fun k => k = B) w w' := by
  have HM := Lib.hid (make_bytes 206 Tryz.underlying206 n (by omega) w)
  obtain ⟨W1, hW1⟩ : ∃ W1, w.alloc (.cells (byA (List.replicate n 0)) 5) = W1 := ⟨_, rfl⟩
  have hb1 : Below w.heap.size w W1 := by rw [← hW1]; exact (Below.refl _ _).alloc (Nat.le_refl _) _
  have hx1 : Blk W1 w.heap.size 5 (byA (List.replicate n 0)) := by rw [← hW1]; exact Blk.new _ _ _
  have h1 := h.below hb1
  have hcp := fun ty => copy_bytes 206 206 ty Tryz.underlying206 (o := 0) (dl := n) (dc := n) hx1 (by simp) h1.c.sl
  rw [cutF_splice] at hcp
  obtain ⟨hx2, ht2⟩ := hx1.setRow (byA (cutF xs n))
  obtain ⟨W2, hW2⟩ : ∃ W2, W1.setRow w.heap.size (byA (cutF xs n)) = W2 := ⟨_, rfl⟩
  rw [hW2] at hx2 ht2 hcp
  have hb2 : Below w.heap.size w W2 := hb1.trans (ht2.below (B := w.heap.size) (fun k hk => by omega) hb1.size)
  have h2 := h.below hb2
  have hne : B ≠ w.heap.size := by have := h.blk.lt; omega
  have hcut := blk_sl_all hx2
  rw [cutF_length] at hcut
  obtain ⟨W3, hW3⟩ : ∃ W3, W2.setCell ⟨B, 0, none⟩ (.slice (some ⟨w.heap.size, 0, none⟩) n n) = W3 := ⟨_, rfl⟩
  obtain ⟨h3, ht3⟩ := h2.put ⟨hcut, cutF_256 h.c.all n, fun a n' c e => by cases e; omega⟩ hW3
  have HFIN : Hid (Fil W3 B (.slice (some ⟨w.heap.size, 0, none⟩) n n) u (cutF xs n) ds ∧ Blk W3 w.heap.size 5 (byA (cutF xs n)) ∧ Turn (fun k => k = B) w W3) :=
    show _ ∧ _ from ⟨h3, hx2.turn ht3 (fun e => hne e.symm), (Turn.of_below hb2 (Nat.le_refl _)).trans ht3⟩
  obtain ⟨c0, -⟩ := h1.cells
  obtain ⟨d0, -, d1, -⟩ := h2.cells
  have hm := HM.out
  rw [hW1] at hm
  have HW3 := Lib.hid hW3
  clear hW1 hW2 hW3 h h1 h2 h3 ht3 hcut hx1 hx2 ht2 hb1 hb2 HM
  go_enter Tryz.func173, Tryz.ntmps173
  go_wp2_with fail
  rw [HW3.out]
  go_end0
  exact ⟨⟨_, rfl⟩, HFIN.out⟩
set_option maxHeartbeats 1000000 in
theorem part_any {v : Value} {xs : List Nat} (p m : Int) (hp : 0 ≤ p) (hm0 : 0 ≤ m) (hx : xs.length ≤ 100000) (w : World) (h : FB w v xs) :
    Calls Tryz.prog 154 #[v, .int .i64 p, .int .i64 m] w fun e w' => ∃ r, e = .returned r ∧ FB w' r ((xs.drop p.toNat).take m.toNat) ∧ Below w.heap.size w w' := by
  obtain ⟨a, c, rfl, hl, hc⟩ := h.form
  obtain ⟨q, hq⟩ : ∃ q : Nat, q = min p.toNat xs.length := ⟨_, rfl⟩
  have hq1 : q ≤ xs.length := by omega
  have hdr : xs.drop p.toNat = xs.drop q := by
    rcases Nat.le_total p.toNat xs.length with h | h
    · rw [hq, Nat.min_eq_left h]
    · rw [hq, Nat.min_eq_right h, List.drop_of_length_le h, List.drop_of_length_le (Nat.le_refl _)]
  obtain ⟨i0, hi, hz0, hz1, hz2⟩ := info_parts infoU8
  obtain ⟨r, hr, hrs⟩ := cut_from (P := Tryz.prog) (t := 206) Tryz.underlying206 hi hz1 h.sl q hq1
  have hrs0 := hrs w h.sl
  obtain ⟨a2, c2, hr2, hlc2, -⟩ := id hrs0
  subst hr2
  have hlen : (xs.drop q).length = xs.length - q := by rw [List.length_drop]
  obtain ⟨k, hk⟩ : ∃ k : Nat, k = min m.toNat (xs.length - q) := ⟨_, rfl⟩
  have hmk := make_bytes 23 Tryz.underlying23 k (by omega) w
  obtain ⟨W1, hW1⟩ : ∃ W1, w.alloc (.cells (byA (List.replicate k 0)) 5) = W1 := ⟨_, rfl⟩
  rw [hW1] at hmk
  have hb1 : Below w.heap.size w W1 := by rw [← hW1]; exact (Below.refl _ _).alloc (Nat.le_refl _) _
  have hx1 : Blk W1 w.heap.size 5 (byA (List.replicate k 0)) := by rw [← hW1]; exact Blk.new _ _ _
  have hcp := fun ty => copy_bytes 23 206 ty Tryz.underlying23 (o := 0) (dl := k) (dc := k) hx1 (by simp) (hrs0.below hb1)
  have hcut : cutF (xs.drop q) k = (xs.drop p.toNat).take m.toNat := by
    rw [hdr]
    unfold cutF
    rw [show k - (xs.drop q).length = 0 by rw [hlen]; omega, List.replicate_zero, List.append_nil, hk]
    rcases Nat.le_total m.toNat (xs.length - q) with h | h
    · rw [Nat.min_eq_left h]
    · rw [Nat.min_eq_right h, List.take_of_length_le (by rw [hlen]; omega), List.take_of_length_le (by rw [hlen]; omega)]
  rw [cutF_splice, hcut] at hcp
  obtain ⟨hx2, ht2⟩ := hx1.setRow (byA ((xs.drop p.toNat).take m.toNat))
  obtain ⟨W2, hW2⟩ : ∃ W2, W1.setRow w.heap.size (byA ((xs.drop p.toNat).take m.toNat)) = W2 := ⟨_, rfl⟩
  rw [hW2] at hx2 ht2 hcp
  have HB2 : Hid (Below w.heap.size w W2) := show Below _ _ _ from hb1.trans (ht2.below (B := w.heap.size) (fun k hk => by omega) hb1.size)
  have hsl := blk_sl_all hx2
  have hln : ((xs.drop p.toNat).take m.toNat).length = k := by rw [← hcut, cutF_length]
  rw [hln] at hsl
  have HFB : Hid (FB W2 (.slice (some ⟨w.heap.size, 0, none⟩) k k) ((xs.drop p.toNat).take m.toNat)) := show FB _ _ _ from ⟨hsl, bytes256_take (bytes256_drop h.all _) _, fun a n' c e => by cases e; omega⟩
  have hmin1 : (if (xs.length : Int) < p then (xs.length : Int) else p) = (q : Int) := by split <;> omega
  have hmin2 : (if ((xs.drop q).length : Int) < m then ((xs.drop q).length : Int) else m) = (k : Int) := by rw [hlen]; split <;> omega
  obtain ⟨n1, hn1⟩ : ∃ n1, xs.length = n1 := ⟨_, rfl⟩
  obtain ⟨n2, hn2⟩ : ∃ n2, (xs.drop q).length = n2 := ⟨_, rfl⟩
  rw [hn1] at hmin1 hl hq1 hr
  rw [hn2] at hmin2 hcp hlc2 hr
  have hn12 : n2 = n1 - q := by rw [← hn2, hlen, hn1]
  have hk2 : k ≤ n2 := by rw [← hn2, hlen]; omega
  rw [hn1]
  have HN12 := Lib.hid hn12
  clear hn1 hn2 hlen hn12
  clear hk hq hx hln
  clear hW1 hW2 hx1 hx2 ht2 hb1 hsl h hrs hrs0 hcut hdr
  go_enter Tryz.func154, Tryz.ntmps154
  go_wp2_with fail
  go_ret
  exact ⟨_, rfl, HFB.out, HB2.out⟩
end Go.Proofs.YtgoemaecdolioaaGreatDoor

/-
  file: write, behind; Write, Cut, Read.
-/
namespace Go.Proofs.YtgoemaecdolioaaGreatDoor
open Go.RowKit Go.Shelf
attribute [local go_sem] Oper.semAt_some

/-- A file when bytes are written at a place. -/
def writeF (xs : List Nat) (p : Nat) (ds : List Nat) : List Nat := if ds.length = 0 then xs else spliceN (cutF xs (max xs.length (p + ds.length))) p ds
theorem spliceN_length (ys : List Nat) (o : Nat) (zs : List Nat) (h : o + zs.length ≤ ys.length) : (spliceN ys o zs).length = ys.length := by simp [spliceN]; omega
theorem writeF_length (xs : List Nat) (p : Nat) (ds : List Nat) : (writeF xs p ds).length = if ds.length = 0 then xs.length else max xs.length (p + ds.length) := by
  unfold writeF
  split
  · rfl
  · rw [spliceN_length _ _ _ (by rw [cutF_length]; omega), cutF_length]
theorem writeF_256 {xs ds : List Nat} (hx : WM.Bytes256 xs) (hd : WM.Bytes256 ds) (p : Nat) : WM.Bytes256 (writeF xs p ds) := by
  unfold writeF
  split
  · exact hx
  · exact bytes256_app (bytes256_app (bytes256_take (cutF_256 hx _) _) hd) (bytes256_drop (cutF_256 hx _) _)
theorem slice_from {t : TypeId} (ht : Tryz.prog.underlying t = some (.slice 5)) (g n p : Nat) (hp : p < n) (W : World) :
    (Instr.sliceAt t (.slice (some ⟨g, 0, none⟩) n n) (some (.int .i64 (p : Nat))) none none).run Tryz.prog W = .ok (.slice (some ⟨g, p, none⟩) (n - p) (n - p)) W := by
  obtain ⟨i0, hi, hz0, hz1, hz2⟩ := info_parts infoU8
  have he : Tryz.prog.elem t = 5 := by simp [Program.elem, ht]
  have ht' : Tryz.prog.underlying t = some (.slice (Tryz.prog.elem t)) := by rw [he]; exact ht
  rw [run_sliceAt_slice W t _ _ _ _ ht', run_slice_l W t _ n n ht' .i64 (p : Int) (by omega) (by omega), he]
  have hne : ¬ n = p := by omega
  simp [sizeOf, typeInfo, hi, hz1, sliced, Result.andThen, Addr.add, hne]
  exact fun h => h.symm
set_option maxHeartbeats 2000000 in
theorem write1_any {B : Nat} {v u : Value} {xs ds : List Nat} (p : Nat) (hx : xs.length ≤ 448) (hp : p + ds.length ≤ 448) (w : World) (h : Fil w B v u xs ds) :
    Calls Tryz.prog 172 #[.pointer (some ⟨B, 0, none⟩), .int .i64 p] w fun e w' => (∃ r, e = .returned r) ∧ (∃ v', Fil w' B v' u (writeF xs p ds) ds) ∧ Turn (fun k => k = B) w w' := by
  obtain ⟨c0, c1, -⟩ := h.cells
  have HE : Hid (∀ W n, n ≤ 100000 → Fil W B v u xs ds → Calls Tryz.prog 173 #[.pointer (some ⟨B, 0, none⟩), .int .i64 (n : Nat)] W fun e w' => (∃ r, e = .returned r) ∧ Fil w' B (.slice (some ⟨W.heap.size, 0, none⟩) n n) u (cutF xs n) ds ∧ Blk w' W.heap.size 5 (byA (cutF xs n)) ∧ Turn (fun k => k = B) W w') := show ∀ W n, _ from fun W n hn h => end_any n hn W h
  obtain ⟨a, c, rfl, hl, hc⟩ := h.c.form
  obtain ⟨a', c', rfl, hl', hc'⟩ := h.d.form
  have HF := Lib.hid h
  by_cases h0 : ds.length = 0
  · have HX : Hid (writeF xs p ds = xs) := show _ = _ from if_pos h0
    rw [h0] at c1
    clear h
    go_enter Tryz.func172, Tryz.ntmps172
    go_wp2_with fail
    refine bodyPost_ret (results_none rfl _ _ _) rfl ?_
    exact ⟨⟨_, rfl⟩, ⟨_, by rw [HX.out]; exact HF.out⟩, Turn.refl _ _⟩
  · have HX : Hid (writeF xs p ds = spliceN (cutF xs (max xs.length (p + ds.length))) p ds) := show _ = _ from if_neg h0
    obtain ⟨n, hn⟩ : ∃ n, max xs.length (p + ds.length) = n := ⟨_, rfl⟩
    rw [hn] at HX
    obtain ⟨m, hm⟩ : ∃ m, ds.length = m := ⟨_, rfl⟩
    have hw : IntKind.i64.wrap ((p : Int) + (m : Int)) = ((p + m : Nat) : Int) := by rw [IntWalk.i64_in _ (by omega)]; omega
    obtain ⟨q, hq⟩ : ∃ q, p + m = q := ⟨_, rfl⟩
    rw [hq] at hw
    have hmax : (if (q : Int) > ((xs.length : Nat) : Int) then (q : Int) else ((xs.length : Nat) : Int)) = (n : Int) := by rw [← hn, hm, hq]; split <;> omega
    have hmax2 : max ((xs.length : Nat) : Int) (q : Int) = (n : Int) := by rw [← hn, hm, hq]; omega
    have hdr : Below w.heap.size w w.drew := Below.drew (Below.refl _ _)
    have HF1 := Lib.hid (h.below hdr)
    have d0 := (HF1.out.cells).1
    have d1 := (HF1.out.cells).2.1
    rw [hm] at c1 d1 h0 hl'
    obtain ⟨l, hll⟩ : ∃ l, xs.length = l := ⟨_, rfl⟩
    rw [hll] at c0 d0 hmax hmax2 hl hx
    have hR : (fun W : World => W.cell? ⟨B, 0, none⟩ = some (.slice a l c) ∧ W.cell? ⟨B, 1, none⟩ = some (.slice a' m c')) w.drew := ⟨d0, d1⟩
    have HM := Lib.hid hm
    have HL := Lib.hid hll
    have HQ := Lib.hid hq
    have HN := Lib.hid hn
    have hn1 : n ≤ 448 := by omega
    have hq1 : q ≤ 448 := by omega
    have hp1 : p ≤ 448 := by omega
    have hpn : p < n := by omega
    have hqn : q ≤ n := by omega
    have hm0 : ((m : Int) == 0) = false := by rw [beq_eq_false_iff_ne]; omega
    clear h hdr d0 d1 hq hn hm hll hp
    go_enter Tryz.func172, Tryz.ntmps172
    go_wp2_with fail
    refine wp_region_M 16 (fun W : World => W.cell? ⟨B, 0, none⟩ = some (.slice a l c) ∧ W.cell? ⟨B, 1, none⟩ = some (.slice a' m c')) (by kernel_rfl) ?_
    (refine wpAnyM_take2 8 (i := 0) (v := ?_) rfl (by kernel_rfl) (by kernel_rfl) (fun _ _ _ h => h) (Or.inl ⟨by rfl, ?_⟩) hR ?_; rotate_left; (focus (intro w hSw; (try dsimp only at hSw); go_simp; (try with_reducible rfl))); (try simp only [put_laws])); (refine wpAnyM_take2 8 (i := 3) (v := ?_) rfl (by kernel_rfl) (by kernel_rfl) (fun _ _ _ h => h) (Or.inl ⟨by rfl, ?_⟩) hR ?_; rotate_left; (focus (intro w hSw; (try dsimp only at hSw); go_simp; (try with_reducible rfl))); (try simp only [put_laws])); (refine wpAnyM_take2 8 (i := 8) (v := ?_) rfl (by kernel_rfl) (by kernel_rfl) (fun _ _ _ h => h) (Or.inl ⟨by rfl, ?_⟩) hR ?_; rotate_left; (focus (intro w hSw; (try dsimp only at hSw); go_simp; (try with_reducible rfl))); (try simp only [put_laws])); (refine wpAnyM_take2 8 (i := 9) (v := ?_) rfl (by kernel_rfl) (by kernel_rfl) (fun _ _ _ h => h) (Or.inl ⟨by rfl, ?_⟩) hR ?_; rotate_left; (focus (intro w hSw; (try dsimp only at hSw); go_simp; (try with_reducible rfl))); (try simp only [put_laws])); (refine wpAnyM_take2 8 (i := 1) (v := ?_) rfl (by kernel_rfl) (by kernel_rfl) (fun _ _ _ h => h) (Or.inl ⟨by rfl, ?_⟩) hR ?_; rotate_left; (focus (intro w hSw; (try dsimp only at hSw); go_simp; (try with_reducible rfl))); (try simp only [put_laws])); (refine wpAnyM_take2 8 (i := 4) (v := ?_) rfl (by kernel_rfl) (by kernel_rfl) (fun _ _ _ h => h) (Or.inl ⟨by rfl, ?_⟩) hR ?_; rotate_left; (focus (intro w hSw; (try dsimp only at hSw); go_simp; (try with_reducible rfl))); (try simp only [put_laws])); (refine wpAnyM_take2 8 (i := 10) (v := ?_) rfl (by kernel_rfl) (by kernel_rfl) (fun _ _ _ h => h) (Or.inl ⟨by rfl, ?_⟩) hR ?_; rotate_left; (focus (intro w hSw; (try dsimp only at hSw); go_simp; (try with_reducible rfl))); (try simp only [put_laws])); (refine wpAnyM_take2 8 (i := 2) (v := ?_) rfl (by kernel_rfl) (by kernel_rfl) (fun _ _ _ h => h) (Or.inl ⟨by rfl, ?_⟩) hR ?_; rotate_left; (focus (intro w hSw; (try dsimp only at hSw); go_simp; (try with_reducible rfl))); (try simp only [put_laws])); (refine wpAnyM_take2 8 (i := 5) (v := ?_) rfl (by kernel_rfl) (by kernel_rfl) (fun _ _ _ h => h) (Or.inl ⟨by rfl, ?_⟩) hR ?_; rotate_left; (focus (intro w hSw; (try dsimp only at hSw); go_simp; (try with_reducible rfl))); (try simp only [put_laws])); (refine wpAnyM_take2 8 (i := 11) (v := ?_) rfl (by kernel_rfl) (by kernel_rfl) (fun _ _ _ h => h) (Or.inl ⟨by rfl, ?_⟩) hR ?_; rotate_left; (focus (intro w hSw; (try dsimp only at hSw); go_simp; (try with_reducible rfl))); (try simp only [put_laws])); (refine wpAnyM_take2 8 (i := 6) (v := ?_) rfl (by kernel_rfl) (by kernel_rfl) (fun _ _ _ h => h) (Or.inl ⟨by rfl, ?_⟩) hR ?_; rotate_left; (focus (intro w hSw; (try dsimp only at hSw); go_simp; (try with_reducible rfl))); (try simp only [put_laws])); (refine wpAnyM_take2 8 (i := 12) (v := ?_) rfl (by kernel_rfl) (by kernel_rfl) (fun _ _ _ h => h) (Or.inl ⟨by rfl, ?_⟩) hR ?_; rotate_left; (focus (intro w hSw; (try dsimp only at hSw); go_simp; (try with_reducible rfl))); (try simp only [put_laws])); (refine wpAnyM_take2 8 (i := 7) (v := ?_) rfl (by kernel_rfl) (by kernel_rfl) (fun _ _ _ h => h) (Or.inl ⟨by rfl, ?_⟩) hR ?_; rotate_left; (focus (intro w hSw; (try dsimp only at hSw); go_simp; (try with_reducible rfl))); (try simp only [put_laws])); (refine wpAnyM_take2 8 (i := 13) (v := ?_) rfl (by kernel_rfl) (by kernel_rfl) (fun _ _ _ h => h) (Or.inl ⟨by rfl, ?_⟩) hR ?_; rotate_left; (focus (intro w hSw; (try dsimp only at hSw); go_simp; (try with_reducible rfl))); (try simp only [put_laws])); (refine wpAnyM_take2 8 (i := 14) (v := ?_) rfl (by kernel_rfl) (by kernel_rfl) (fun _ _ _ h => h) (Or.inl ⟨by rfl, ?_⟩) hR ?_; rotate_left; (focus (intro w hSw; (try dsimp only at hSw); go_simp; (try with_reducible rfl))); (try simp only [put_laws])); (refine wpAnyM_take2 8 (i := 15) (v := ?_) rfl (by kernel_rfl) (by kernel_rfl) (fun _ _ _ h => h) (Or.inl ⟨by rfl, ?_⟩) hR ?_; rotate_left; (focus (intro w hSw; (try dsimp only at hSw); go_simp; (try with_reducible rfl))); (try simp only [put_laws]))
    (refine wpAnyM_last rfl (by kernel_rfl) (fun K hK => ?_); rw [if_pos (by rfl)]; (try simp only [elem_laws]))
    go_simp
    have hif : (if l < q then (q : Int) else (l : Int)) = (n : Int) := by rw [← hmax]; split <;> split <;> omega
    rw [hif]
    refine (HE.out w.drew n (by omega) HF1.out).mono ?_
    rintro e w1 ⟨⟨r, rfl⟩, hfil, hblk, ht⟩
    refine hK _ _ ?_
    clear hK K hR hif hmax hmax2
    (try simp only [put_laws])
    refine wpAnyM_done (by kernel_rfl) ?_ _
    have hdr1 : Below w1.heap.size w1 w1.drew := Below.drew (Below.refl _ _)
    have HF2 := Lib.hid (hfil.below hdr1)
    have HB2 := Lib.hid (hblk.below hdr1 hblk.lt)
    have HT2 : Hid (Turn (fun k => k = B) w w1.drew) := show Turn _ _ _ from ((Turn.of_below (Below.drew (Below.refl w.heap.size w)) (Nat.le_refl _)).trans ht).trans (Turn.of_below hdr1 (Nat.le_refl _))
    have hcp := fun ty => copy_bytes 206 23 ty Tryz.underlying206 (o := p) (dl := n - p) (dc := n - p) HB2.out (by rw [cutF_length]; omega) HF2.out.d.sl
    rw [List.take_of_length_le (show ds.length ≤ n - p by rw [HM.out]; have := HQ.out; omega), ← HX.out, HM.out] at hcp
    have hHs : w.drew.heap.size = w.heap.size := by simp
    rw [hHs] at hcp HB2 HF2
    obtain ⟨d0, d1, -⟩ := HF2.out.cells
    rw [HM.out] at d1
    obtain ⟨W3, hW3⟩ : ∃ W3, w1.drew.setRow w.heap.size (byA (writeF xs p ds)) = W3 := ⟨_, rfl⟩
    rw [hW3] at hcp
    have hsl := slice_from Tryz.underlying206 w.heap.size n p hpn
    have hR : (fun W : World => W.cell? ⟨B, 0, none⟩ = some (.slice (some ⟨w.heap.size, 0, none⟩) n n) ∧ W.cell? ⟨B, 1, none⟩ = some (.slice a' m c')) w1.drew := ⟨d0, d1⟩
    have HW3 := Lib.hid hW3
    clear hW3 hfil hblk ht hdr1 d0 d1 c0 c1 hHs
    go_wp2_with fail
    refine wp_region_M 10 (fun W : World => W.cell? ⟨B, 0, none⟩ = some (.slice (some ⟨w.heap.size, 0, none⟩) n n) ∧ W.cell? ⟨B, 1, none⟩ = some (.slice a' m c')) (by kernel_rfl) ?_
    (refine wpAnyM_take2 8 (i := 0) (v := ?_) rfl (by kernel_rfl) (by kernel_rfl) (fun _ _ _ h => h) (Or.inl ⟨by rfl, ?_⟩) hR ?_; rotate_left; (focus (intro w hSw; (try dsimp only at hSw); go_simp; (try with_reducible rfl))); (try simp only [put_laws])); (refine wpAnyM_take2 8 (i := 6) (v := ?_) rfl (by kernel_rfl) (by kernel_rfl) (fun _ _ _ h => h) (Or.inl ⟨by rfl, ?_⟩) hR ?_; rotate_left; (focus (intro w hSw; (try dsimp only at hSw); go_simp; (try with_reducible rfl))); (try simp only [put_laws])); (refine wpAnyM_take2 8 (i := 4) (v := ?_) rfl (by kernel_rfl) (by kernel_rfl) (fun _ _ _ h => h) (Or.inl ⟨by rfl, ?_⟩) hR ?_; rotate_left; (focus (intro w hSw; (try dsimp only at hSw); go_simp; (try with_reducible rfl))); (try simp only [put_laws])); (refine wpAnyM_take2 8 (i := 1) (v := ?_) rfl (by kernel_rfl) (by kernel_rfl) (fun _ _ _ h => h) (Or.inl ⟨by rfl, ?_⟩) hR ?_; rotate_left; (focus (intro w hSw; (try dsimp only at hSw); go_simp; (try with_reducible rfl))); (try simp only [put_laws])); (refine wpAnyM_take2 8 (i := 7) (v := ?_) rfl (by kernel_rfl) (by kernel_rfl) (fun _ _ _ h => h) (Or.inl ⟨by rfl, ?_⟩) hR ?_; rotate_left; (focus (intro w hSw; (try dsimp only at hSw); go_simp; (try with_reducible rfl))); (try simp only [put_laws])); (refine wpAnyM_take2 8 (i := 2) (v := ?_) rfl (by kernel_rfl) (by kernel_rfl) (fun _ _ _ h => h) (Or.inl ⟨by rfl, ?_⟩) hR ?_; rotate_left; (focus (intro w hSw; (try dsimp only at hSw); go_simp; (try with_reducible rfl))); (try simp only [put_laws])); (refine wpAnyM_take2 8 (i := 8) (v := ?_) rfl (by kernel_rfl) (by kernel_rfl) (fun _ _ _ h => h) (Or.inl ⟨by rfl, ?_⟩) hR ?_; rotate_left; (focus (intro w hSw; (try dsimp only at hSw); go_simp; (try with_reducible rfl))); (try simp only [put_laws])); (refine wpAnyM_take2 8 (i := 3) (v := ?_) rfl (by kernel_rfl) (by kernel_rfl) (fun _ _ _ h => h) (Or.inl ⟨by rfl, ?_⟩) hR ?_; rotate_left; (focus (intro w hSw; (try dsimp only at hSw); go_simp; (try with_reducible rfl))); (try simp only [put_laws])); (refine wpAnyM_take2 8 (i := 9) (v := ?_) rfl (by kernel_rfl) (by kernel_rfl) (fun _ _ _ h => h) (Or.inl ⟨by rfl, ?_⟩) hR ?_; rotate_left; (focus (intro w hSw; (try dsimp only at hSw); go_simp; (try with_reducible rfl))); (try simp only [put_laws])); (refine wpAnyM_take2 8 (i := 5) (v := ?_) rfl (by kernel_rfl) (by kernel_rfl) (fun _ _ _ h => h) (Or.inl ⟨by rfl, ?_⟩) hR ?_; rotate_left; (focus (intro w hSw; (try dsimp only at hSw); go_simp; (try with_reducible rfl))); (try simp only [put_laws]))
    (refine wpAnyM_last rfl (by kernel_rfl) (fun K hK => ?_); rw [if_pos (by rfl)]; (try simp only [elem_laws]))
    go_simp
    refine hK _ _ ?_
    clear hK K hR hcp
    (try simp only [put_laws])
    refine wpAnyM_done (by kernel_rfl) ?_ _
    have HFIN : Hid ((∃ v', Fil W3 B v' (.slice a' ds.length c') (writeF xs p ds) ds) ∧ Turn (fun k => k = B) w W3) := show _ ∧ _ from by
      obtain ⟨h3, ht3⟩ := HB2.out.setRow (byA (writeF xs p ds))
      rw [HW3.out] at h3 ht3
      have hlen : (writeF xs p ds).length = n := by rw [writeF_length, if_neg (by rw [HM.out]; exact h0), ← HN.out]
      have hsl3 := blk_sl_all h3
      rw [hlen] at hsl3
      have hbl := HF.out.blk.lt
      have hT : Turn (fun k => k = B) w W3 := ⟨ht3.os.trans HT2.out.os, ht3.tape.trans HT2.out.tape, ht3.output.trans HT2.out.output, Nat.le_trans HT2.out.size ht3.size, fun k hk hn => (ht3.block k (Nat.lt_of_lt_of_le hk HT2.out.size) (by omega)).trans (HT2.out.block k hk hn)⟩
      exact ⟨⟨_, HF2.out.blk.turn ht3 (by omega), ⟨hsl3, writeF_256 HF.out.c.all HF.out.d.all p, fun a n' c e => by cases e; omega⟩, HF.out.d.slices HF.out.blk hT⟩, hT⟩
    go_wp2_with fail
    go_end0
    exact ⟨⟨_, rfl⟩, HFIN.out⟩
end Go.Proofs.YtgoemaecdolioaaGreatDoor
