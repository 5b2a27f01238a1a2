/-
  Texts LaB to Held, as one.
-/
import Derived.Test.YtohdgjmmekgcmaaDoorMp2
import Derived.Laws.IdiomStrings
import Derived.Laws.IdiomCopy
import Derived.Laws.CopyOwn
import Derived.Laws.BytesArg
import Derived.Test.YtohdgjmmekgcmaaDoorRows
import Derived.Laws.BitsAllLaws
import Derived.StillTailTactics
import Derived.Deep.DeepMust
import Derived.Maps.OwnIn
import Derived.RangeFuncBox
import Derived.RangeFuncCalls
import Derived.Laws.EntriesVeiled
import Derived.ScopeJumps
import Derived.WalkMore
import Derived.OrdersHeld
import Derived.StillTail
/-
  label: a text as bytes and as words.
-/
namespace Go.Proofs.YtohdgjmmekgcmaaDoor
open Go.RowKit Go.Shelf Go.Sort

/-- A text's bytes, as numbers. -/
def bsN (s : List UInt8) : List Nat := s.map UInt8.toNat
theorem bsN_length (s : List UInt8) : (bsN s).length = s.length := by simp [bsN]
theorem bsN_at (s : List UInt8) (j : Nat) (h : j < s.length) : (bsN s)[j]?.getD 0 = s[j].toNat := by simp [bsN, h]
theorem bsN_256 (s : List UInt8) : WM.Bytes256 (bsN s) := fun i => by
  unfold WM.at'
  by_cases h : i < s.length
  · rw [bsN_at s i h]; exact UInt8.toNat_lt _
  · rw [List.getElem?_eq_none (by rw [bsN_length]; omega)]; exact (by decide : (0 : Nat) < 256)
theorem bsN_inj {a b : List UInt8} (h : bsN a = bsN b) : a = b := (List.map_inj_right fun _ _ h => UInt8.toNat_inj.1 h).1 h
/-- The capacity and the world behind '[]byte(s)'. -/
def capC (W : World) (s : List UInt8) : Nat := grownCap W s.length 0 5
def bytesW (W : World) (s : List UInt8) : World := W.drew.alloc (.cells (bytesRow ⟨s.toArray⟩ (capC W s)) 5 ((bytesRow ⟨s.toArray⟩ (capC W s)).size, (bytesRow ⟨s.toArray⟩ (capC W s)).size + 1))
theorem conv_bytes (src : TypeId) (hs : Tryd.prog.underlying src = some .string) (s : List UInt8) (W : World) :
    (convert src 166 (encStr s)).run Tryd.prog W = .ok (.slice (some ⟨W.heap.size, 0, none⟩) s.length (capC W s)) (bytesW W s) := by
  have h := run_bytes_of_string (P := Tryd.prog) W src 166 5 ⟨s.toArray⟩ hs Tryd.underlying166 Tryd.underlying5
  have e : (⟨s.toArray⟩ : ByteArray).size = s.length := by simp [ByteArray.size]
  rw [e] at h
  exact h
theorem capC_ge (W : World) (s : List UInt8) : s.length ≤ capC W s := grownCap_ge _ _ _ _
theorem capC_le (W : World) (s : List UInt8) (h : s.length ≤ 9223372036854775807) : capC W s ≤ 9223372036854775807 := grownCap_le_maxLen W _ _ _ h
theorem bytesW_below (W : World) (s : List UInt8) : Below W.heap.size W (bytesW W s) := (Below.drew (Below.refl _ _)).alloc (Nat.le_refl _) _
theorem bytesW_size (W : World) (s : List UInt8) : (bytesW W s).heap.size = W.heap.size + 1 := by unfold bytesW; simp
theorem bytesW_sl (W : World) (s : List UInt8) : Sl (bytesW W s) .u8 (.slice (some ⟨W.heap.size, 0, none⟩) s.length (capC W s)) (bsN s) := by
  refine ⟨_, _, by rw [bsN_length], by rw [bsN_length]; exact capC_ge W s, fun _ => ⟨W.heap.size, 0, rfl, by rw [bytesW_size]; omega, fun j hj => ?_⟩⟩
  rw [bsN_length] at hj
  rw [bsN_at s j hj]
  have hh : (bytesW W s).heap[W.heap.size]? = some (.cells (bytesRow ⟨s.toArray⟩ (capC W s)) 5 ((bytesRow ⟨s.toArray⟩ (capC W s)).size, (bytesRow ⟨s.toArray⟩ (capC W s)).size + 1)) := World.alloc_heap_new W.drew _
  unfold World.cell?
  simp only [hh, Nat.zero_add]
  unfold bytesRow
  rw [Array.getElem?_append_left (by simp; exact hj)]
  simp [hj]
/-- 'string(b)'. -/
theorem conv_text (dst : TypeId) (hd : Tryd.prog.underlying dst = some .string) {W : World} {v : Value} {s : List UInt8} (h : Sl W .u8 v (bsN s)) :
    (convert 166 dst v).run Tryd.prog W = .ok (encStr s) W := by
  obtain ⟨a, cap, rfl, hc, hcell⟩ := h
  rw [bsN_length] at hcell ⊢
  by_cases h0 : 0 < s.length
  · obtain ⟨b, off, rfl, -, hj⟩ := hcell h0
    exact run_convert_bytes_back W _ _ _ _ _ _ Tryd.underlying166 Tryd.underlying5 hd fun j hl => by
      have hadd : (⟨b, off, none⟩ : Addr).add j = ⟨b, off + j, none⟩ := by unfold Addr.add; split <;> simp_all
      rw [hadd, hj j hl, bsN_at s j hl]
  · obtain rfl : s = [] := List.eq_nil_of_length_eq_zero (by omega)
    have hl := run_convert_bytes_back (P := Tryd.prog) W 166 dst 5 ⟨0, 0, none⟩ cap [] Tryd.underlying166 Tryd.underlying5 hd (fun j hj => absurd hj (by simp))
    cases a with
    | none => rw [run_convert_bytes_nil W 166 5 Tryd.underlying166 Tryd.underlying5 _ _ dst hd]; rfl
    | some ad => exact run_convert_bytes_back (P := Tryd.prog) W 166 dst 5 ad cap [] Tryd.underlying166 Tryd.underlying5 hd (fun j hj => absurd hj (by simp))
/-- Five words. -/
abbrev arr5 (l : List Nat) : Array Value := #[.int .u64 (l[0]?.getD 0 : Nat), .int .u64 (l[1]?.getD 0 : Nat), .int .u64 (l[2]?.getD 0 : Nat), .int .u64 (l[3]?.getD 0 : Nat), .int .u64 (l[4]?.getD 0 : Nat)]
def wordsN (s : List UInt8) : List Nat := WM.wordsOf (bsN s)
theorem wordsN_len (s : List UInt8) (h : s.length ≤ 40) : (wordsN s).length ≤ 5 := by
  unfold wordsN
  rw [WM.wordsOf_length, bsN_length]; unfold WM.need; omega
theorem laCheck_any (s : List UInt8) (w : World) : Calls Tryd.prog 111 #[encStr s] w fun e w' => e = .returned (.int .i64 (errN s)) ∧ Below w.heap.size w w' := by
  have HN := Lib.hid (named_any s w)
  go_enter Tryd.func111, Tryd.ntmps111
  go_wp2_with fail
  refine HN.out.mono ?_
  rintro e w1 ⟨rfl, hb⟩
  have HB := Lib.hid hb
  clear hb
  go_wp2
  go_ret
  exact ⟨rfl, HB.out.alloc HB.out.size _⟩
theorem five_row (xs : List Nat) (h : xs.length ≤ 5) (z : Value) (hz : z = .int .u64 0) :
    (([z, z, z, z, z] : List Value).take 0 ++ (xs.map fun y : Nat => Value.int .u64 (y : Nat)) ++ ([z, z, z, z, z] : List Value).drop (0 + (xs.map fun y : Nat => Value.int .u64 (y : Nat)).length)).toArray = arr5 xs := by
  subst hz
  match xs, h with
  | [], _ => rfl
  | [a], _ => rfl
  | [a, b], _ => rfl
  | [a, b, c], _ => rfl
  | [a, b, c, d], _ => rfl
  | [a, b, c, d, e], _ => rfl
end Go.Proofs.YtohdgjmmekgcmaaDoor

/-
  The arithmetic of sums: each step is one to one in the word and in the sum.
-/
namespace Go.Proofs.YtohdgjmmekgcmaaDoor
namespace SM
/-- One word taken into a sum. -/
def mix (s x : Nat) : Nat := (s ^^^ x) * 1099511628211 % 18446744073709551616
def sumFrom (s : Nat) (l : List Nat) : Nat := l.foldl mix s
/-- The sum of no words. -/
def start : Nat := 14695981039346656037
def sumOf (l : List Nat) : Nat := sumFrom start l
def sealOf (l : List Nat) : Nat := max (sumOf l) 1
theorem mix_lt (s x : Nat) : mix s x < 18446744073709551616 := Nat.mod_lt _ (by decide)
theorem sumFrom_cons (s a : Nat) (r : List Nat) : sumFrom s (a :: r) = sumFrom (mix s a) r := by unfold sumFrom; rw [List.foldl_cons]
theorem sumFrom_nil (s : Nat) : sumFrom s [] = s := by unfold sumFrom; rw [List.foldl_nil]
theorem sumFrom_lt (l : List Nat) : ∀ s, s < 18446744073709551616 → sumFrom s l < 18446744073709551616 := by
  induction l with
  | nil => intro s h; rw [sumFrom_nil]; exact h
  | cons a r ih => intro s _; rw [sumFrom_cons]; exact ih _ (mix_lt s a)
theorem start_lt : start < 18446744073709551616 := by decide
theorem sumOf_lt (l : List Nat) : sumOf l < 18446744073709551616 := sumFrom_lt l _ start_lt
theorem sealOf_lt (l : List Nat) : sealOf l < 18446744073709551616 := by have := sumOf_lt l; unfold sealOf; omega
theorem sealOf_pos (l : List Nat) : 1 ≤ sealOf l := by unfold sealOf; omega
theorem sumFrom_append (s : Nat) (a b : List Nat) : sumFrom s (a ++ b) = sumFrom (sumFrom s a) b := by unfold sumFrom; rw [List.foldl_append]
theorem sumFrom_snoc (s : Nat) (a : List Nat) (x : Nat) : sumFrom s (a ++ [x]) = mix (sumFrom s a) x := by unfold sumFrom; rw [List.foldl_append, List.foldl_cons, List.foldl_nil]
theorem take_snoc (l : List Nat) (k : Nat) (h : k < l.length) : l.take (k + 1) = l.take k ++ [l[k]?.getD 0] := by
  rw [List.take_succ_eq_append_getElem h]; simp [h]
/-- The sum up to a place, and one word more. -/
theorem sumFrom_step (s : Nat) (l : List Nat) (k : Nat) (h : k < l.length) : sumFrom s (l.take (k + 1)) = mix (sumFrom s (l.take k)) (l[k]?.getD 0) := by rw [take_snoc l k h, sumFrom_snoc]
theorem inv_mod (p q m k c : Nat) (h : p * q = m * k + 1) (hc : c < m) : (c * p % m) * q % m = c := by
  rw [Nat.mod_mul_mod, Nat.mul_assoc, h, Nat.mul_add, Nat.mul_one, Nat.mul_left_comm, Nat.mul_add_mod, Nat.mod_eq_of_lt hc]
theorem mul_inj_at (p q m k a b : Nat) (h : p * q = m * k + 1) (ha : a < m) (hb : b < m) (e : a * p % m = b * p % m) : a = b := by
  rw [← inv_mod p q m k a h ha, e, inv_mod p q m k b h hb]
theorem inv_num : 1099511628211 * 14886173955864302971 = 18446744073709551616 * 887285111055 + 1 := by decide +kernel
/-- The factor is odd: it has an inverse. -/
theorem mul_inj (a b : Nat) (ha : a < 18446744073709551616) (hb : b < 18446744073709551616) (h : a * 1099511628211 % 18446744073709551616 = b * 1099511628211 % 18446744073709551616) : a = b :=
  mul_inj_at _ _ _ _ a b inv_num ha hb h
theorem xor_lt (a b : Nat) (ha : a < 18446744073709551616) (hb : b < 18446744073709551616) : a ^^^ b < 18446744073709551616 := Nat.xor_lt_two_pow (n := 64) ha hb
theorem xor_inj_right (s x y : Nat) (h : s ^^^ x = s ^^^ y) : x = y := by
  have := congrArg (s ^^^ ·) h
  simpa [← Nat.xor_assoc] using this
theorem xor_inj_left (s t x : Nat) (h : s ^^^ x = t ^^^ x) : s = t := xor_inj_right x s t (by rw [Nat.xor_comm x s, Nat.xor_comm x t, h])
theorem mix_inj_right (s x y : Nat) (hs : s < 18446744073709551616) (hx : x < 18446744073709551616) (hy : y < 18446744073709551616) (h : mix s x = mix s y) : x = y :=
  xor_inj_right s x y (mul_inj _ _ (xor_lt _ _ hs hx) (xor_lt _ _ hs hy) h)
theorem mix_inj_left (s t x : Nat) (hs : s < 18446744073709551616) (ht : t < 18446744073709551616) (hx : x < 18446744073709551616) (h : mix s x = mix t x) : s = t :=
  xor_inj_left s t x (mul_inj _ _ (xor_lt _ _ hs hx) (xor_lt _ _ ht hx) h)
theorem sumFrom_inj (l : List Nat) : ∀ s t, s < 18446744073709551616 → t < 18446744073709551616 → (∀ x ∈ l, x < 18446744073709551616) → sumFrom s l = sumFrom t l → s = t := by
  induction l with
  | nil => intro s t _ _ _ h; rw [sumFrom_nil, sumFrom_nil] at h; exact h
  | cons a r ih =>
    intro s t hs ht hl h
    rw [sumFrom_cons, sumFrom_cons] at h
    have := ih (mix s a) (mix t a) (mix_lt _ _) (mix_lt _ _) (fun x hx => hl x (List.mem_cons_of_mem _ hx)) h
    exact mix_inj_left s t a hs ht (hl a (List.mem_cons_self ..)) this
/-- Words of which one alone is another one have unlike sums. -/
theorem sum_set_ne (l : List Nat) (k x s : Nat) (hk : k < l.length) (hs : s < 18446744073709551616) (hl : ∀ y ∈ l, y < 18446744073709551616) (hx : x < 18446744073709551616) (hne : x ≠ l[k]?.getD 0) : sumFrom s l ≠ sumFrom s (l.set k x) := by
  intro h
  have e1 : l = l.take k ++ l[k]?.getD 0 :: l.drop (k + 1) := by
    conv => lhs; rw [← List.take_append_drop k l, List.drop_eq_getElem_cons hk]
    simp [hk]
  have e2 : l.set k x = l.take k ++ x :: l.drop (k + 1) := List.set_eq_take_append_cons_drop ▸ by simp [hk]
  rw [e2] at h
  conv at h => lhs; rw [e1]
  rw [sumFrom_append, sumFrom_append, sumFrom_cons, sumFrom_cons] at h
  have hd : ∀ y ∈ l.drop (k + 1), y < 18446744073709551616 := fun y hy => hl y (List.mem_of_mem_drop hy)
  have hlk : l[k]?.getD 0 < 18446744073709551616 := by simp [hk]; exact hl _ (List.getElem_mem hk)
  have := sumFrom_inj (l.drop (k + 1)) _ _ (mix_lt _ _) (mix_lt _ _) hd h
  exact hne (mix_inj_right _ _ _ (sumFrom_lt _ _ hs) hlk hx this).symm
theorem mix_int (s x : Nat) (hs : s < 18446744073709551616) (hx : x < 18446744073709551616) : IntKind.u64.wrap (bits .xor .u64 (s : Int) (x : Int) * 1099511628211) = ((mix s x : Nat) : Int) := by
  rw [u64_xor_nat s x hs hx]
  unfold mix
  generalize s ^^^ x = y
  show ((y : Int) * 1099511628211) % 18446744073709551616 = _
  rw [Int.natCast_emod]
  rfl
end SM
end Go.Proofs.YtohdgjmmekgcmaaDoor

/-
  Contracts of package sum's functions: take, told, seal, fold, More, Of, Seal, Sealed.
-/
namespace Go.Proofs.YtohdgjmmekgcmaaDoor
open Go.RowKit Go.Shelf

def U64s (l : List Nat) : Prop := ∀ x ∈ l, x < 18446744073709551616
theorem U64s.at {l : List Nat} (h : U64s l) (k : Nat) : l[k]?.getD 0 < 18446744073709551616 := by
  by_cases hk : k < l.length
  · simp [hk]; exact h _ (List.getElem_mem hk)
  · simp [List.getElem?_eq_none (by omega : l.length ≤ k)]
end Go.Proofs.YtohdgjmmekgcmaaDoor

/-
  Contracts of the document's answers for sums (waterlineref02): More, Of, Seal.
-/
namespace Go.Proofs.YtohdgjmmekgcmaaDoor
open Go.RowKit Go.Shelf

end Go.Proofs.YtohdgjmmekgcmaaDoor

/-
  Contracts of the document's answers for fields (waterlineref01: Bit, With, Right, Get, Put), and num.
-/
namespace Go.Proofs.YtohdgjmmekgcmaaDoor
open Go.RowKit

theorem quiet_add_left {P : Program} {f : FuncId} {args : Array Value} {w : World} {a n : Nat} {v : Value}
    (h : Calls P f args (w.drewN (a + n)) fun e w' => e = .returned v ∧ w.drewN (a + n) = w') :
    Calls P f args (w.drewN (a + n)) fun e w'' => e = .returned v ∧ ∃ m, w'' = w.drewN (a + m) :=
  h.mono fun _ _ ⟨he, hm⟩ => ⟨he, n, hm.symm⟩
theorem quiet_left {P : Program} {f : FuncId} {args : Array Value} {w : World} {n : Nat} {v : Value}
    (h : Calls P f args (w.drewN n) fun e w' => e = .returned v ∧ w.drewN n = w') : Calls P f args (w.drewN n) fun e w'' => e = .returned v ∧ ∃ m, w'' = w.drewN m :=
  h.mono fun _ _ ⟨he, hm⟩ => ⟨he, n, hm.symm⟩
/-- What the document's Put answers. -/
def PutOut (n f v m : Nat) (e : Ending) : Prop := if m < 2 ^ v then e = .returned (.tuple #[.int .u64 (WM.putN n f v m : Nat), .bool true]) else e = .returned (.tuple #[.int .u64 0, .bool false])
end Go.Proofs.YtohdgjmmekgcmaaDoor

/-
  The document's Words, bit by bit: what its list holds on the way. Plain arithmetic.
-/
namespace Go.Proofs.YtohdgjmmekgcmaaDoor
namespace WM
/-- The first n words when m bits have gone in. -/
def upTo (bs : List Nat) (n m : Nat) : List Nat := (List.range n).map fun j => wordAt bs j % 2 ^ (m - 64 * j)
theorem upTo_length (bs : List Nat) (n m : Nat) : (upTo bs n m).length = n := by simp [upTo]
theorem upTo_at (bs : List Nat) (n m j : Nat) (h : j < n) : at' (upTo bs n m) j = wordAt bs j % 2 ^ (m - 64 * j) := by
  unfold upTo
  rw [at_map_range, if_pos h]
theorem upTo_more (bs : List Nat) (n : Nat) : upTo bs (n + 1) (64 * n) = upTo bs n (64 * n) ++ [0] := by
  unfold upTo
  rw [List.range_succ, List.map_append]
  simp [Nat.mod_one]
theorem mod_bit (x k j : Nat) : (x % 2 ^ k).testBit j = (decide (j < k) && x.testBit j) := Nat.testBit_mod_two_pow ..
theorem upTo_step (bs : List Nat) (hb : Bytes256 bs) (i k : Nat) (hk : k < 8) :
    upTo bs (i / 8 + 1) (8 * i + k + 1) = (upTo bs (i / 8 + 1) (8 * i + k)).set (i / 8) (withN (wordAt bs (i / 8) % 2 ^ (8 * (i % 8) + k)) (8 * (i % 8) + k) ((at' bs i).testBit k)) := by
  apply list_ext
  · rw [List.length_set, upTo_length, upTo_length]
  · intro j hj
    rw [upTo_length] at hj
    rw [upTo_at _ _ _ _ hj]
    show _ = ((upTo bs (i / 8 + 1) (8 * i + k)).set (i / 8) _)[j]?.getD 0
    by_cases hji : j = i / 8
    · subst hji
      rw [List.getElem?_set_self (by rw [upTo_length]; omega)]
      show _ = withN _ _ _
      rw [show 8 * i + k + 1 - 64 * (i / 8) = 8 * (i % 8) + k + 1 by omega]
      apply Nat.eq_of_testBit_eq
      intro t
      rw [withN_bit, mod_bit, mod_bit, wordAt_bit bs hb]
      by_cases h1 : t = 8 * (i % 8) + k
      · subst h1
        rw [if_pos rfl, show 8 * (i / 8) + (8 * (i % 8) + k) / 8 = i by omega, show (8 * (i % 8) + k) % 8 = k by omega]
        simp [show 8 * (i % 8) + k < 64 by omega]
      · rw [if_neg h1]
        by_cases h2 : t < 8 * (i % 8) + k
        · simp [h2, show t < 8 * (i % 8) + k + 1 by omega]
        · simp [h2, show ¬ t < 8 * (i % 8) + k + 1 by omega]
    · rw [List.getElem?_set_ne (by omega)]
      show _ = at' (upTo bs (i / 8 + 1) (8 * i + k)) j
      rw [upTo_at _ _ _ _ hj]
      have h64 : ∀ m, 64 ≤ m → wordAt bs j % 2 ^ m = wordAt bs j := fun m hm =>
        Nat.mod_eq_of_lt (Nat.lt_of_lt_of_le (wordAt_lt bs j) (Nat.le_trans (by decide : 18446744073709551616 ≤ 2 ^ 64) (Nat.pow_le_pow_right (by decide) hm)))
      rw [h64 _ (by omega), h64 _ (by omega)]
theorem upTo_end (bs : List Nat) (hb : Bytes256 bs) : upTo bs (need bs.length) (8 * bs.length) = wordsOf bs := by
  apply list_ext
  · rw [upTo_length, wordsOf_length]
  · intro j hj
    rw [upTo_length] at hj
    rw [upTo_at _ _ _ _ hj, wordsOf_at, if_pos hj]
    apply Nat.eq_of_testBit_eq
    intro t
    rw [mod_bit, wordAt_bit bs hb]
    by_cases h : t < 8 * bs.length - 64 * j
    · simp [h]
    · have e : at' bs (8 * j + t / 8) = 0 := at_none _ _ (by omega)
      simp [h, e]
theorem upTo_lt (bs : List Nat) (j m : Nat) : wordAt bs j % 2 ^ m < 18446744073709551616 := Nat.lt_of_le_of_lt (Nat.mod_le _ _) (wordAt_lt bs j)
end WM
end Go.Proofs.YtohdgjmmekgcmaaDoor

/-
  Contract of the document's Words (waterlineref01).
-/
namespace Go.Proofs.YtohdgjmmekgcmaaDoor
open Go.RowKit

/-- What the slice holds, as values. -/
def upVals (bs : List Nat) (n m : Nat) : List Value := (WM.upTo bs n m).map fun y : Nat => Value.int .u64 (y : Nat)
theorem upVals_length (bs : List Nat) (n m : Nat) : (upVals bs n m).length = n := by simp [upVals, WM.upTo_length]
theorem upVals_at (bs : List Nat) (n m j : Nat) (h : j < n) : (upVals bs n m)[j]? = some (.int .u64 ((WM.wordAt bs j % 2 ^ (m - 64 * j) : Nat) : Int)) := by
  unfold upVals WM.upTo
  rw [List.getElem?_map, List.getElem?_map, List.getElem?_range h]; rfl
theorem upVals_more (bs : List Nat) (n : Nat) : upVals bs (n + 1) (64 * n) = upVals bs n (64 * n) ++ [.int .u64 0] := by
  unfold upVals
  rw [WM.upTo_more, List.map_append]; rfl
theorem upVals_step (bs : List Nat) (hb : WM.Bytes256 bs) (i k : Nat) (hk : k < 8) :
    upVals bs (i / 8 + 1) (8 * i + k + 1) = (upVals bs (i / 8 + 1) (8 * i + k)).set (i / 8) (.int .u64 ((WM.withN (WM.wordAt bs (i / 8) % 2 ^ (8 * (i % 8) + k)) (8 * (i % 8) + k) ((WM.at' bs i).testBit k) : Nat) : Int)) := by
  unfold upVals
  rw [WM.upTo_step bs hb i k hk, List.map_set]
end Go.Proofs.YtohdgjmmekgcmaaDoor

/-
  Contracts of sum.Text and of the document's Text.
-/
namespace Go.Proofs.YtohdgjmmekgcmaaDoor
open Go.RowKit Go.Shelf

theorem u64s_words (xs : List Nat) : U64s (WM.wordsOf xs) := fun x hx => by
  unfold WM.wordsOf at hx
  obtain ⟨i, _, rfl⟩ := List.mem_map.1 hx
  exact WM.wordAt_lt xs i
/-- The words of bytes, and how many bytes they are. -/
def textWords (xs : List Nat) : List Nat := WM.wordsOf xs ++ [xs.length]
theorem textWords_len (xs : List Nat) (hl : xs.length ≤ 4096) : (textWords xs).length ≤ 513 := by
  unfold textWords
  rw [List.length_append, WM.wordsOf_length]
  unfold WM.need
  simp; omega
theorem u64s_text (xs : List Nat) (hl : xs.length ≤ 4096) : U64s (textWords xs) := fun x hx => by
  unfold textWords at hx
  rcases List.mem_append.1 hx with h | h
  · exact u64s_words xs x h
  · simp at h; omega
theorem oneSl' (w : World) (x : Nat) : Sl (w.alloc (.cells #[.int .u64 x] 23)) .u64 (.slice (some ⟨w.heap.size, 0, none⟩) 1 1) [x] := by
  refine ⟨_, 1, rfl, Nat.le_refl _, fun _ => ⟨w.heap.size, 0, rfl, by simp, fun j hj => ?_⟩⟩
  have hj1 : j < 1 := hj
  obtain rfl : j = 0 := by omega
  simp [go_sem]
end Go.Proofs.YtohdgjmmekgcmaaDoor

/-
  label: five words compared; Words, Same, Bucket.
-/
namespace Go.Proofs.YtohdgjmmekgcmaaDoor
open Go.RowKit Go.Shelf Go.Sort

def laVals (L : List Int) : List Value := L.map (Value.int .u64)
theorem laAll_range : ∀ (xs ys : List Int), xs.length = ys.length → ((List.range xs.length).all fun i => xs.getD i 0 == ys.getD i 0) = (xs == ys)
  | [], [], _ => rfl
  | x :: xs, y :: ys, h => by
    have ih := laAll_range xs ys (by simpa using h)
    rw [List.length_cons, List.range_succ_eq_map, List.all_cons, List.all_map]
    simp only [List.getD_cons_zero, Function.comp_def, List.getD_cons_succ, ih]
    simp [List.cons_beq_cons]
  | [], _ :: _, h => by simp at h
  | _ :: _, [], h => by simp at h
theorem laEq_items {P : Program} (d : Nat) (e : TypeId) (he : P.underlying e = some (.int .u64)) (xs ys : List Int) (w : World) :
    ∀ l : List Nat, (∀ i ∈ l, i < xs.length ∧ i < ys.length) → (Op.eqItems (d + 1) e 1 (laVals xs).toArray (laVals ys).toArray l).run P w = .ok (l.all fun i => xs.getD i 0 == ys.getD i 0) w
  | [], _ => by simp [Op.eqItems]
  | i :: l, h => by
    obtain ⟨hx, hy⟩ := h i (by simp)
    have px : (part e (laVals xs).toArray (i * 1)).run P w = .ok (.int .u64 (xs.getD i 0)) w := by
      simp [part, isAgg, run_underlying he, List.getD, laVals, List.getElem?_eq_getElem hx]
    have py : (part e (laVals ys).toArray (i * 1)).run P w = .ok (.int .u64 (ys.getD i 0)) w := by
      simp [part, isAgg, run_underlying he, List.getD, laVals, List.getElem?_eq_getElem hy]
    have ih := laEq_items d e he xs ys w l (fun j hj => h j (by simp [hj]))
    simp only [Op.eqItems, Sem.run_bind, px, py, Result.andThen_ok, run_equalIn_int w d e .u64 .u64 _ _ he, List.all_cons]
    cases hb : (xs.getD i 0 == ys.getD i 0)
    · simp
    · simpa using ih
theorem laEqual {t : TypeId} {n : Nat} (ht : Tryd.prog.underlying t = some (.array n 23)) (d : Nat) (L M : List Int) (hL : L.length = n) (hM : M.length = n) (w : World) :
    (Op.equalIn (d + 2) t (.agg (laVals L).toArray) (.agg (laVals M).toArray)).run Tryd.prog w = .ok (L == M) w := by
  obtain ⟨i, hi⟩ := Option.isSome_iff_exists.1 (show (Tryd.prog.info? 23).isSome = true by kernel_rfl)
  rw [run_equalIn_array (w := w) (d + 1) _ _ ht hi, show Tryd.prog.cellsOf 23 = 1 by kernel_rfl, laEq_items d 23 Tryd.underlying23 L M w _ (fun i hi => by rw [List.mem_range] at hi; omega), ← laAll_range L M (by omega), hL]
/-- Are five words the same? -/
def same5 (l m : List Nat) : Bool := decide (∀ i, i < 5 → l[i]?.getD 0 = m[i]?.getD 0)
theorem five_same (l m : List Nat) : (([(l[0]?.getD 0 : Nat), (l[1]?.getD 0 : Nat), (l[2]?.getD 0 : Nat), (l[3]?.getD 0 : Nat), (l[4]?.getD 0 : Nat)] : List Int) == [((m[0]?.getD 0 : Nat) : Int), (m[1]?.getD 0 : Nat), (m[2]?.getD 0 : Nat), (m[3]?.getD 0 : Nat), (m[4]?.getD 0 : Nat)]) = same5 l m := by
  unfold same5
  rw [Bool.eq_iff_iff]
  simp only [beq_iff_eq, decide_eq_true_eq, List.cons.injEq, and_true]
  constructor
  · rintro ⟨h0, h1, h2, h3, h4⟩ i hi
    have : i = 0 ∨ i = 1 ∨ i = 2 ∨ i = 3 ∨ i = 4 := by omega
    rcases this with rfl | rfl | rfl | rfl | rfl
    · exact Int.ofNat_inj.1 h0
    · exact Int.ofNat_inj.1 h1
    · exact Int.ofNat_inj.1 h2
    · exact Int.ofNat_inj.1 h3
    · exact Int.ofNat_inj.1 h4
  · intro h
    exact ⟨congrArg _ (h 0 (by omega)), congrArg _ (h 1 (by omega)), congrArg _ (h 2 (by omega)), congrArg _ (h 3 (by omega)), congrArg _ (h 4 (by omega))⟩
/-- Five stores. -/
def set5 (W : World) (b : Nat) (m : List Nat) : World := ((((W.setCell ⟨b, 0, none⟩ (.int .u64 (m[0]?.getD 0 : Nat))).setCell ⟨b, 1, none⟩ (.int .u64 (m[1]?.getD 0 : Nat))).setCell ⟨b, 2, none⟩ (.int .u64 (m[2]?.getD 0 : Nat))).setCell ⟨b, 3, none⟩ (.int .u64 (m[3]?.getD 0 : Nat))).setCell ⟨b, 4, none⟩ (.int .u64 (m[4]?.getD 0 : Nat))
theorem set5_below {B b : Nat} {w W : World} (h : Below B w W) (hb : B ≤ b) (m : List Nat) : Below B w (set5 W b m) := by
  unfold set5
  exact ((((h.setCell (p := ⟨b, 0, none⟩) hb _).setCell (p := ⟨b, 1, none⟩) hb _).setCell (p := ⟨b, 2, none⟩) hb _).setCell (p := ⟨b, 3, none⟩) hb _).setCell (p := ⟨b, 4, none⟩) hb _
/-- What Words tells. -/
def wordsOut (s : List UInt8) : List Nat := if rightN s then wordsN s else []
/-- Are these a name's words, of so many bytes? -/
def sameOut (s : List UInt8) (l : List Nat) (many : Int) : Bool := rightN s && (many == (s.length : Int)) && same5 (wordsN s) l
end Go.Proofs.YtohdgjmmekgcmaaDoor

/-
  A box that holds a row which grows in the rounds of a range.
-/
namespace Go.Proofs.YtohdgjmmekgcmaaDoor
open Go.RowKit Go.Shelf

/-- A box that holds a row from n₁ on; neither is part of q. -/
def RowG (n₁ B : Nat) (t e : TypeId) (size n : Nat) (xs : List Value) (q : Nat → Prop) (W : World) : Prop :=
  ∃ v, Boxed W B t v ∧ W.ownsRow n₁ e size v n xs ∧ ¬ q B ∧ ∀ g, v.ownBlock = some g → ¬ q g
theorem own_keptG {W W' : World} {base : Nat} {e : TypeId} {size : Nat} {v : Value} {n : Nat} {xs : List Value} (h : W.ownsRow base e size v n xs) (hk : ∀ g, v.ownBlock = some g → g < W.heap.size → W'.heap[g]? = W.heap[g]?) : W'.ownsRow base e size v n xs := by
  obtain ⟨hl, h⟩ := h
  refine ⟨hl, h.imp id fun ⟨g, cap, cur, hv, hb, hg, hr⟩ => ⟨g, cap, cur, hv, hb, ?_, hr⟩⟩
  rw [hk g (by rw [hv]; rfl) (Array.getElem?_eq_some_iff.1 hg).1]; exact hg
theorem own_lowG {W : World} {base base' : Nat} {e : TypeId} {size : Nat} {v : Value} {n : Nat} {xs : List Value} (h : W.ownsRow base e size v n xs) (hb : base' ≤ base) : W.ownsRow base' e size v n xs :=
  ⟨h.1, h.2.imp id fun ⟨g, cap, cur, h1, h2, h3⟩ => ⟨g, cap, cur, h1, Nat.le_trans hb h2, h3⟩⟩
theorem abides_rowG {β : Type} (n₁ B : Nat) (t e : TypeId) (size : Nat) (k : β → Nat) (f : β → List Value) : Abides (fun s q W => RowG n₁ B t e size (k s) (f s) q W) := fun s q q' W W' ⟨v, hv, hr, hB, hg⟩ ht hq =>
  ⟨v, (ht.block B hv.lt hB).trans hv, own_keptG hr (fun g e hl => ht.block g hl (hg g e)), fun h => (hq B h).elim hB fun h2 => by have := hv.lt; omega, fun g e h => (hq g h).elim (hg g e) fun h2 => by have := (hr.lt g e).2; omega⟩
/-- An append in a round, and the store of the new slice into its box. -/
theorem row_appG {W w2 w : World} {n₀ n₁ B : Nat} {t e : TypeId} {size n m : Nat} {v v' : Value} {xs ys : List Value} {tmp : Obj} {p q : Nat → Prop}
    (hv : Boxed W B t v) (hte : t ≠ e) (hrow : W.ownsRow n₁ e size v n xs) (hqB : ¬ q B) (hqg : ∀ g, v.ownBlock = some g → ¬ q g) (hB : BelowF n₀ w q W) (hnB : n₀ ≤ B) (hn : n₀ ≤ n₁) (hq : ∀ k, q k → k < W.heap.size) (hpB : ¬ p B) (hp : ∀ k, n₁ ≤ k → ¬ p k)
    (own2 : w2.ownsRow n₁ e size v' m ys) (grow2 : (W.alloc tmp).grownBy w2 v.ownBlock) (at2 : v'.ownBlock = v.ownBlock ∨ v'.ownBlock = some (W.alloc tmp).heap.size) :
    Boxed w2 B t v ∧ Boxed (w2.setCell ⟨B, 0, none⟩ v') B t v' ∧ Keeps (fun k => p k ∨ q k) W (w2.setCell ⟨B, 0, none⟩ v') ∧ RowG n₁ B t e size m ys q (w2.setCell ⟨B, 0, none⟩ v') ∧ BelowF n₀ w q (w2.setCell ⟨B, 0, none⟩ v') := by
  obtain ⟨hv1, hv2, -, hk2, hb2⟩ := hv.appended hte (own_lowG hrow hn) hB.2.1 hnB (own_lowG own2 hn) grow2
  have hr2 : (w2.setCell ⟨B, 0, none⟩ v').ownsRow n₁ e size v' m ys := own2.kept (grownBy_setCell' w2 B v') (.inr (hv1.not_row hte own2).symm)
  refine ⟨hv1, hv2, ?_, ⟨v', hv2, hr2, hqB, fun g e hg => ?_⟩, ⟨hB.1.trans hb2, Nat.le_trans hB.2.1 hb2.size, hB.2.2⟩⟩
  · refine (Keeps.trans (B := W.alloc tmp) ⟨by simp, fun k _ hl => Below.heap_alloc _ _ _ hl⟩ (Keeps.of_grown grow2 (fun k e => ?_))).trans (Keeps.set w2 (b := B) (o := 0) _ ?_)
    · rintro (h | h)
      · exact hp k (hrow.lt k e).1 h
      · exact hqg k e h
    · rintro (h | h)
      · exact hpB h
      · exact hqB h
  · rcases at2 with h | h
    · exact hqg g (by rw [← h]; exact e) hg
    · rw [h] at e
      simp only [Option.some.injEq] at e
      have := hq g hg
      simp at e
      omega
end Go.Proofs.YtohdgjmmekgcmaaDoor

/-
  label: a text's bytes as an iterator; first.
-/
namespace Go.Proofs.YtohdgjmmekgcmaaDoor
open Go.RowKit Go.Shelf Go.Sort
attribute [local go_sem] Oper.semAt_some

abbrev encB (x : Nat) : Array Value := #[.int .u8 (x : Nat)]
def vaP (p g : Nat) (k : Nat) : Prop := k = p ∨ k = g
end Go.Proofs.YtohdgjmmekgcmaaDoor

/-
  Contracts of word's split (words into bytes) and of slices.ContainsFunc at its predicate.
-/
namespace Go.Proofs.YtohdgjmmekgcmaaDoor
open Go.RowKit Go.Shelf

theorem infoU8 : (Tryd.prog.info? 5).map (fun i => (i.zero, i.size, i.bytes)) = some (some (.int .u8 0), 1, 1) := by kernel_rfl
theorem byte_div (x k : Nat) : (((x / 2 ^ (8 * k) : Nat)) : Int) % 256 = (WM.getN x (8 * k) 8 : Nat) := by
  unfold WM.getN
  rw [Int.natCast_emod]; rfl
theorem div_next (x k : Nat) : ((x / 2 ^ (8 * k) : Nat) : Int) / 256 = ((x / 2 ^ (8 * (k + 1)) : Nat) : Int) := by
  have : x / 2 ^ (8 * (k + 1)) = x / 2 ^ (8 * k) / 256 := by
    rw [Nat.div_div_eq_div_mul]; congr 1
    rw [show 8 * (k + 1) = 8 * k + 8 by omega, Nat.pow_add]
  rw [this]; omega
/-- The bytes of a word, as values. -/
def byteVals (x : Nat) (k : Nat) : List Value := (List.range k).map fun j => Value.int .u8 (WM.getN x (8 * j) 8 : Nat)
theorem byteVals_succ (x k : Nat) : byteVals x (k + 1) = byteVals x k ++ [.int .u8 (WM.getN x (8 * k) 8 : Nat)] := by unfold byteVals; rw [List.range_succ, List.map_append]; rfl
/-- The bytes of the first k words, as values. -/
def splitVals (l : List Nat) : Nat → List Value
  | 0 => []
  | k + 1 => splitVals l k ++ byteVals (l[k]?.getD 0) 8
theorem splitVals_eq (l : List Nat) : ∀ k, splitVals l k = (List.range (8 * k)).map fun j => Value.int .u8 (WM.byteAt l j : Nat)
  | 0 => rfl
  | k + 1 => by
    rw [splitVals, splitVals_eq l k, show 8 * (k + 1) = 8 * k + 8 by omega, List.range_add, List.map_append]
    congr 1
    unfold byteVals
    rw [List.map_map]
    apply List.map_congr_left
    intro j hj
    have hj8 : j < 8 := List.mem_range.1 hj
    show Value.int .u8 _ = Value.int .u8 (WM.byteAt l (8 * k + j) : Nat)
    unfold WM.byteAt
    rw [show (8 * k + j) / 8 = k by omega, show (8 * k + j) % 8 = j by omega]
def Words64 (l : List Nat) : Prop := ∀ i : Nat, l[i]?.getD 0 < 18446744073709551616
end Go.Proofs.YtohdgjmmekgcmaaDoor

/-
  label: the first bytes.
-/
namespace Go.Proofs.YtohdgjmmekgcmaaDoor
open Go.RowKit Go.Shelf Go.Sort
attribute [local go_sem] Oper.semAt_some

/-- In the rounds of first. -/
def FirI (w : World) (n₁ b m r : Nat) (many : Int) (pre : List Nat) (q : Nat → Prop) (W : World) : Prop :=
  RowG n₁ b 166 5 1 pre.length (valsOf .u8 pre) q W ∧ BoxF m 3 (.int .i64 many) q W ∧ BoxF r 184 (encStr []) q W ∧ BelowF w.heap.size w q W ∧ (pre.length : Int) ≤ max 0 many
theorem abides_fir (w : World) (n₁ b m r : Nat) (many : Int) : Abides (FirI w n₁ b m r many) := Abides.and (abides_rowG _ _ _ _ _ (fun pre : List Nat => pre.length) (fun pre => valsOf .u8 pre)) (Abides.and (Abides.box _ _ (fun _ => .int .i64 many)) (Abides.and (Abides.box _ _ (fun _ => encStr [])) (Abides.and (Abides.below _ _) (Abides.pure (fun pre : List Nat => (pre.length : Int) ≤ max 0 many)))))
/-- Where they are left. -/
def FirX (w : World) (n₁ b r : Nat) (many : Int) (cd : Code) (ys : List Nat) (q : Nat → Prop) (W : World) : Prop :=
  (cd = .exit 0 ∧ (many ≤ (ys.dropLast.length : Int) ∧ (ys.dropLast.length : Int) ≤ max 0 many)) ∧ RowG n₁ b 166 5 1 ys.dropLast.length (valsOf .u8 ys.dropLast) q W ∧ BoxF r 184 (encStr []) q W ∧ BelowF w.heap.size w q W
theorem abides_firx (w : World) (n₁ b r : Nat) (many : Int) (cd : Code) : Abides (FirX w n₁ b r many cd) := Abides.and (Abides.pure (fun ys : List Nat => cd = .exit 0 ∧ (many ≤ (ys.dropLast.length : Int) ∧ (ys.dropLast.length : Int) ≤ max 0 many))) (Abides.and (abides_rowG _ _ _ _ _ (fun ys : List Nat => ys.dropLast.length) (fun ys => valsOf .u8 ys.dropLast)) (Abides.and (Abides.box _ _ (fun _ => encStr [])) (Abides.below _ _)))
theorem take_bsN (s : List UInt8) (k : Nat) : bsN (s.take k) = (bsN s).take k := by simp [bsN, List.map_take]
theorem laOwn_slice {W : World} {base size n : Nat} {e : TypeId} {v : Value} {xs : List Value} (h : W.ownsRow base e size v n xs) : ∃ a c, v = .slice a n c := by
  rcases h.2 with ⟨rfl, hx⟩ | ⟨g, cap, cur, rfl, _⟩
  · exact ⟨none, 0, by have := h.1; simp_all⟩
  · exact ⟨_, _, rfl⟩
/-- A box beside a row that grows. -/
theorem box_beside {W w3 : World} {b n₁ size n : Nat} {t e : TypeId} {u v : Value} {xs : List Value} {tmp : Obj} (h : Boxed W b t u) (hte : t ≠ e) (hr : W.ownsRow n₁ e size v n xs) (hg : (W.alloc tmp).grownBy w3 v.ownBlock) : Boxed w3 b t u :=
  (hg.block b (by have := h.lt; simp; omega) (h.not_row hte hr)).trans ((Below.heap_alloc _ _ _ h.lt).trans h)
theorem cell_byte_new (w : World) (x : Value) (t : TypeId) : ∀ j u, [x][j]? = some u → (w.alloc (.cells #[x] t)).cell? ((⟨w.heap.size, 0, none⟩ : Addr).add j) = some u := by
  intro j u hj
  match j, hj with
  | 0, hj => simp at hj; subst hj; simp [go_sem, Addr.add]
end Go.Proofs.YtohdgjmmekgcmaaDoor

/-
  Contracts of slices.ContainsFunc at word's predicate, and of word.Bytes.
-/
namespace Go.Proofs.YtohdgjmmekgcmaaDoor
open Go.RowKit Go.Shelf

/-- What IndexFunc answers: at least 0 just where a byte is not nought. -/
def IdxOut (xs : List Nat) (e : Ending) : Prop := ∃ r : Int, e = .returned (.int .i64 r) ∧ -1 ≤ r ∧ r ≤ 4611686018427387904 ∧ (0 ≤ r ↔ ∃ j, j < xs.length ∧ xs[j]?.getD 0 ≠ 0)
theorem drop_sl {W : World} {n₀ g cap n many : Nat} {l : List Nat} (hn : n = 8 * l.length) (hrow : W.ownsRow n₀ 5 1 (.slice (some ⟨g, 0, none⟩) n cap) n (splitVals l l.length)) (hm : many ≤ n) :
    Sl W .u8 (.slice (some ⟨g, if many = cap then 0 else many, none⟩) (n - many) (cap - many)) ((WM.bytesOf l).drop many) := by
  subst hn
  have hlen : ((WM.bytesOf l).drop many).length = 8 * l.length - many := by rw [List.length_drop, WM.bytesOf_length]
  have hcap : 8 * l.length ≤ cap := by
    rcases hrow.2 with ⟨h0, _⟩ | ⟨g', cap', cur, h0, _, _, hc, _⟩
    · cases h0
    · simp at h0; omega
  refine ⟨_, cap - many, by rw [hlen], by omega, fun h0 => ⟨g, many, ?_, ?_, fun j hj => ?_⟩⟩
  · rw [if_neg (by omega)]
  · exact (hrow.lt g rfl).2
  · rw [World.ownsRow.cellAt hrow (many + j) (by omega), splitVals_eq, List.getElem?_map, List.getElem?_range (by omega)]
    have e : ((WM.bytesOf l).drop many)[j]?.getD 0 = WM.byteAt l (many + j) := (WM.at_drop _ _ _).trans (WM.bytesOf_at l _ (by omega))
    rw [e]; rfl
theorem take_sl {W : World} {n₀ g cap n many c : Nat} {l : List Nat} (hn : n = 8 * l.length) (hrow : W.ownsRow n₀ 5 1 (.slice (some ⟨g, 0, none⟩) n cap) n (splitVals l l.length)) (hm : many ≤ n) (hc : many ≤ c) :
    Sl W .u8 (.slice (some ⟨g, 0, none⟩) many c) ((WM.bytesOf l).take many) := by
  subst hn
  have hlen : ((WM.bytesOf l).take many).length = many := by rw [List.length_take, WM.bytesOf_length]; omega
  refine ⟨_, c, by rw [hlen], by omega, fun h0 => ⟨g, 0, rfl, (hrow.lt g rfl).2, fun j hj => ?_⟩⟩
  rw [Nat.zero_add, World.ownsRow.cellAt hrow j (by omega), splitVals_eq, List.getElem?_map, List.getElem?_range (by omega)]
  have e : ((WM.bytesOf l).take many)[j]?.getD 0 = WM.byteAt l j := (WM.at_take _ _ _ (by omega)).trans (WM.bytesOf_at l _ (by omega))
  rw [e]; rfl
end Go.Proofs.YtohdgjmmekgcmaaDoor

/-
  label: held, Read, Bucket.
-/
namespace Go.Proofs.YtohdgjmmekgcmaaDoor
open Go.RowKit Go.Shelf Go.Sort

/-- All bytes of words, as a text. -/
def txtN (l : List Nat) : List UInt8 := (WM.bytesOf l).map UInt8.ofNat
theorem txtN_bs (l : List Nat) : bsN (txtN l) = WM.bytesOf l := by
  unfold bsN txtN
  rw [List.map_map]
  have : ∀ x ∈ WM.bytesOf l, (UInt8.toNat ∘ UInt8.ofNat) x = x := fun x hx => by
    unfold WM.bytesOf at hx
    obtain ⟨k, -, rfl⟩ := List.mem_map.1 hx
    have := WM.byteAt_lt l k
    show (UInt8.ofNat _).toNat = _
    simp []
    exact this
  rw [List.map_congr_left this, List.map_id']
theorem txtN_length (l : List Nat) : (txtN l).length = 8 * l.length := by unfold txtN; rw [List.length_map, WM.bytesOf_length]
/-- What Read tells. -/
def readN (l : List Nat) (many : Int) : List UInt8 := (txtN l).take many.toNat
def isRead (l : List Nat) (many : Int) : Bool := sameOut (readN l many) l many
/-- A name's bucket. -/
def bucketN (s : List UInt8) : Nat := SM.sumOf (textWords (bsN s)) % 7
def bucketOut (s : List UInt8) : Nat := if rightN s then bucketN s else 0
end Go.Proofs.YtohdgjmmekgcmaaDoor

/-
  Contracts of the document's Byte and Bytes (waterlineref01).
-/
namespace Go.Proofs.YtohdgjmmekgcmaaDoor
open Go.RowKit Go.Shelf

/-- What the document's Bytes has gathered. -/
def outTo (l : List Nat) (many k : Nat) : List Nat := (List.range (min k many)).map (WM.byteAt l)
theorem outTo_length (l : List Nat) (many k : Nat) : (outTo l many k).length = min k many := by simp [outTo]
theorem outTo_succ (l : List Nat) (many k : Nat) (h : k < many) : outTo l many (k + 1) = outTo l many k ++ [WM.byteAt l k] := by
  unfold outTo
  rw [show min (k + 1) many = min k many + 1 by omega, List.range_succ, List.map_append, show min k many = k by omega]
  rfl
theorem outTo_stay (l : List Nat) (many k : Nat) (h : many ≤ k) : outTo l many (k + 1) = outTo l many k := by
  unfold outTo
  rw [show min (k + 1) many = min k many by omega]
theorem outTo_all (l : List Nat) (many : Nat) (h : many ≤ 8 * l.length) : outTo l many (8 * l.length) = (WM.bytesOf l).take many := by
  unfold outTo WM.bytesOf
  rw [show min (8 * l.length) many = many by omega, ← List.map_take, List.take_range, show min many (8 * l.length) = many by omega]
theorem any_drop (l : List Nat) (many : Nat) : ((WM.bytesOf l).drop many).any (· != 0) = true ↔ ∃ j, many ≤ j ∧ j < 8 * l.length ∧ WM.byteAt l j ≠ 0 := by
  rw [List.any_eq_true]
  constructor
  · rintro ⟨x, h1, h2⟩
    obtain ⟨j, hj, rfl⟩ := List.getElem_of_mem h1
    rw [List.length_drop, WM.bytesOf_length] at hj
    refine ⟨many + j, by omega, by omega, ?_⟩
    have e : ((WM.bytesOf l).drop many)[j]'(by rw [List.length_drop, WM.bytesOf_length]; exact hj) = WM.byteAt l (many + j) := by
      simp [WM.bytesOf]
    rw [e] at h2
    simpa using h2
  · rintro ⟨j, h1, h2, h3⟩
    have hl : j - many < ((WM.bytesOf l).drop many).length := by rw [List.length_drop, WM.bytesOf_length]; omega
    refine ⟨_, List.getElem_mem hl, ?_⟩
    have e : ((WM.bytesOf l).drop many)[j - many]'hl = WM.byteAt l j := by
      simp [WM.bytesOf, show many + (j - many) = j by omega]
    rw [e]
    simpa using h3
end Go.Proofs.YtohdgjmmekgcmaaDoor

/-
  label: the document's Right, Bucket, Words.
-/
namespace Go.Proofs.YtohdgjmmekgcmaaDoor
open Go.RowKit Go.Shelf Go.Sort

theorem refRight_early (s : List UInt8) (w : World) (h : s.length < 1 ∨ 40 < s.length ∨ s = [46] ∨ s = [46, 46]) :
    Calls Tryd.prog 75 #[encStr s] w fun e w' => e = .returned (.bool false) ∧ w = w' := by
  by_cases k1 : (s.length : Int) < 1
  · go_enter Tryd.func75, Tryd.ntmps75
    go_wp2
    go_ret
    exact ⟨rfl, rfl⟩
  by_cases k2 : 40 < (s.length : Int)
  · go_enter Tryd.func75, Tryd.ntmps75
    go_wp2
    go_ret
    exact ⟨rfl, rfl⟩
  have h' : s = [46] ∨ s = [46, 46] := by
    rcases h with h | h | h
    · omega
    · omega
    · exact h
  rcases h' with rfl | rfl
  · go_enter Tryd.func75, Tryd.ntmps75
    go_wp2
    go_ret
    exact ⟨rfl, rfl⟩
  · go_enter Tryd.func75, Tryd.ntmps75
    go_wp2
    go_ret
    exact ⟨rfl, rfl⟩
set_option maxRecDepth 100000 in
set_option maxHeartbeats 2000000 in
theorem refRight_late (s : List UInt8) (w : World) (k1 : 1 ≤ s.length) (k2 : s.length ≤ 40) (k3 : ¬ s = [46]) (k4 : ¬ s = [46, 46]) :
    Calls Tryd.prog 75 #[encStr s] w fun e w' => e = .returned (.bool (s.all byteN)) ∧ w = w' := by
  have q1 : ¬ (s.length : Int) < 1 := by omega
  have q2 : ¬ (40 : Int) < (s.length : Int) := by omega
  have q3 : (s == [46]) = false := by simp [k3]
  have q4 : (s == [46, 46]) = false := by simp [k4]
  clear k3 k4
  go_enter Tryd.func75, Tryd.ntmps75
  go_wp2
  go_loopw [3] (fun i wr => ∃ k : Nat, k ≤ s.length ∧ i = .int .i64 (k : Nat) ∧ w = wr ∧ Hid ((s.take k).all byteN = true)) (fun i _ => s.length - (intOf i).toNat)
  case atStart => exact ⟨0, Nat.zero_le _, rfl, rfl, Lib.hid rfl⟩
  case round =>
    obtain ⟨k, hk, rfl, rfl, HA⟩ := hrel
    by_cases hlt : k < s.length
    · have HT := Lib.hid (show s.take (k + 1) = s.take k ++ [s[k]] from List.take_succ_eq_append_getElem hlt)
      have HM := Lib.hid (List.getElem_mem hlt)
      obtain ⟨z, hz⟩ : ∃ z : Nat, s[k].toNat = z := ⟨_, rfl⟩
      have hzz : ∀ h : k < (⟨s.toArray⟩ : ByteArray).size, ((⟨s.toArray⟩ : ByteArray)[k]'h).toNat = z := fun _ => hz
      have hbz : byteN s[k] = true ↔ 33 ≤ z ∧ z ≤ 126 ∧ z ≠ 47 := by
        unfold byteN
        rw [hz]
        simp only [Bool.and_eq_true, decide_eq_true_eq, and_assoc]
      have k3 : (k : Int) < (s.length : Int) := by omega
      clear hz
      by_cases hg : byteN s[k] = true
      · obtain ⟨g1, g2, g3⟩ := hbz.1 hg
        have e1 : ¬ ((z : Int) < 33) := by omega
        have e2 : ¬ ((126 : Int) < z) := by omega
        have e3 : ((z : Int) == 47) = false := by simp; omega
        have HG := Lib.hid hg
        clear hg hbz g1 g2 g3
        go_wp2
        go_roundw
        case rel => exact ⟨k + 1, by omega, by go_num, by trivial, Lib.hid (by rw [HT.out, List.all_append, HA.out]; simp [HG.out])⟩
        case measure => simp [intOf]; omega
      · have HN : Hid (s.all byteN = false) := show _ = _ from List.all_eq_false.2 ⟨s[k], HM.out, by simpa using hg⟩
        have hn : ((decide ((z : Int) < 33) || decide ((126 : Int) < z) || ((z : Int) == 47))) = true := by
          have : ¬ (33 ≤ z ∧ z ≤ 126 ∧ z ≠ 47) := fun h => hg (hbz.2 h)
          simp only [Bool.or_eq_true, decide_eq_true_eq, beq_iff_eq]
          omega
        clear hg hbz
        go_wp2
        all_goals
          go_ret
          exact ⟨by rw [HN.out]; rfl, rfl⟩
    · obtain rfl : k = s.length := by omega
      have hall : s.all byteN = true := by rw [List.take_length] at HA; exact HA.out
      go_wp2
      go_ret
      exact ⟨by rw [hall]; rfl, rfl⟩
theorem refRight6_any (s : List UInt8) (w : World) : Calls Tryd.prog 75 #[encStr s] w fun e w' => e = .returned (.bool (rightN s)) ∧ w = w' := by
  by_cases h : s.length < 1 ∨ 40 < s.length ∨ s = [46] ∨ s = [46, 46]
  · have hr : rightN s = false := by
      cases hr : rightN s with
      | false => rfl
      | true =>
        obtain ⟨h1, h2, h3, h4, -⟩ := (rightN_iff s).1 hr
        rcases h with h | h | h | h
        · omega
        · omega
        · exact absurd h h3
        · exact absurd h h4
    rw [hr]
    exact refRight_early s w h
  · have h1 : 1 ≤ s.length := by
      rcases Nat.lt_or_ge s.length 1 with k | k
      · exact absurd (.inl k) h
      · exact k
    have h2 : s.length ≤ 40 := by
      rcases Nat.lt_or_ge 40 s.length with k | k
      · exact absurd (.inr (.inl k)) h
      · exact k
    have h3 : ¬ s = [46] := fun k => h (.inr (.inr (.inl k)))
    have h4 : ¬ s = [46, 46] := fun k => h (.inr (.inr (.inr k)))
    have hr : rightN s = s.all byteN := by
      unfold rightN
      simp [h1, h2, h3, h4]
    rw [hr]
    exact refRight_late s w h1 h2 h3 h4
theorem five_step (xs : List Nat) (k : Nat) (hk : k < xs.length) (h5 : xs.length ≤ 5) : (arr5 (xs.take k)).setIfInBounds k (.int .u64 (xs[k]?.getD 0 : Nat)) = arr5 (xs.take (k + 1)) := by
  have : k = 0 ∨ k = 1 ∨ k = 2 ∨ k = 3 ∨ k = 4 := by omega
  rcases this with rfl | rfl | rfl | rfl | rfl <;> simp [List.getElem?_take]
end Go.Proofs.YtohdgjmmekgcmaaDoor

/-
  A region that draws its order: what only reads comes first, as long as a condition on the world holds, which the operation that waits for all others need not keep.
-/
namespace Go.Proofs.YtohdgjmmekgcmaaDoor
open Go.RowKit Go.Shelf

/-- What a slot written, a list's element are. -/
theorem elem_laws : (∀ {α : Type} (l : List α) (i : Nat) (h : i < l.toArray.size), l.toArray[i]'h = l[i]'(by simpa using h)) ∧ (∀ {α : Type} (x : α) (l : List α) (h : 0 < (x :: l).length), (x :: l)[0]'h = x) ∧ (∀ {α : Type} (x : α) (l : List α) (i : Nat) (h : i + 1 < (x :: l).length), (x :: l)[i + 1]'h = l[i]'(Nat.lt_of_succ_lt_succ h)) :=
  ⟨fun _ _ _ => rfl, fun _ _ _ => rfl, fun _ _ _ _ => rfl⟩
theorem put_laws : (∀ (a : Act) (d : Tmp) (v : Value), a.put (some d) v = { a with tmps := a.tmps.setIfInBounds d v }) ∧ (∀ (a : Act) (v : Value), a.put none v = a) ∧
    (∀ {α : Type} (l : List α) (i : Nat) (x : α), l.toArray.setIfInBounds i x = (l.set i x).toArray) ∧ (∀ {α : Type} (x y : α) (l : List α), (x :: l).set 0 y = y :: l) ∧ (∀ {α : Type} (x y : α) (l : List α) (i : Nat), (x :: l).set (i + 1) y = x :: l.set i y) ∧
    (∀ {α : Type} (l : List α) (i : Nat) (h : i < l.toArray.size), l.toArray[i]'h = l[i]'(by simpa using h)) ∧ (∀ {α : Type} (x : α) (l : List α) (h : 0 < (x :: l).length), (x :: l)[0]'h = x) ∧ (∀ {α : Type} (x : α) (l : List α) (i : Nat) (h : i + 1 < (x :: l).length), (x :: l)[i + 1]'h = l[i]'(Nat.lt_of_succ_lt_succ h)) :=
  ⟨fun _ _ _ => rfl, fun _ _ => rfl, fun _ _ _ => by simp, fun _ _ _ => rfl, fun _ _ _ _ => rfl, elem_laws⟩
section
variable {P : Program} {md : Region.Mode} {ops : Array Oper} {Q : Exit → Act → World → Prop} {m : Nat} {R : World → Prop}
/-- Till operation m has come up, R holds. -/
def Till (m : Nat) (R : World → Prop) (l : Array Bool) (w : World) : Prop := l.getD m true = false → R w
/-- Whatever order is drawn from here on; R holds till m has come up. -/
def wpAnyM (P : Program) (md : Region.Mode) (ops : Array Oper) (Q : Exit → Act → World → Prop) (m : Nat) (R : World → Prop) : Nat → Array Bool → Act → World → Prop
  | 0, l, a, w => wpAny P md ops Q 0 l a w
  | f + 1, l, a, w => (Region.ready md ops l = [] → Q .normal a w) ∧ ∀ i ∈ Region.ready md ops l, wpOp P ops Q i (fun a' w' => Till m R (l.setIfInBounds i true) w' ∧ wpAnyM P md ops Q m R f (l.setIfInBounds i true) a' w') a w
theorem wpAny_of_M : ∀ (f : Nat) (l : Array Bool) (a : Act) (w : World), wpAnyM P md ops Q m R f l a w → wpAny P md ops Q f l a w
  | 0, _, _, _, h => h
  | f + 1, _, _, _, h => ⟨h.1, fun i hi => wpOp_mono (fun a' w' h' => wpAny_of_M f _ a' w' h'.2) (h.2 i hi)⟩
theorem getD_set_true {l : Array Bool} {i j : Nat} (h : (l.setIfInBounds i true).getD j true = false) : l.getD j true = false := by
  by_cases e : i = j
  · subst e
    rcases Nat.lt_or_ge i l.size with h' | h'
    · simp [h'] at h
    · rw [Array.getD_eq_getD_getElem?, Array.getElem?_eq_none (by simpa using h')] at h
      cases h
  · rwa [getD_set_ne true e] at h
theorem Till.set {l : Array Bool} {w : World} (h : Till m R l w) (i : Nat) : Till m R (l.setIfInBounds i true) w := fun hl => h (getD_set_true hl)
theorem unlisted_not {l : Array Bool} {i j : Nat} {oj : Oper} (hj : j ∈ Region.ready md ops l) (hoj : ops[j]? = some oj) (hi : l.getD i true = false) : ∀ e ∈ oj.after, Region.binds md e = true → e.on ≠ i := fun e he hb heq => by
  obtain ⟨_, oj', hoj', hall⟩ := mem_ready.1 hj
  rw [hoj] at hoj'
  obtain rfl := Option.some.inj hoj'
  have h1 := hall e he hb
  rw [heq] at h1
  rcases Nat.lt_or_ge i l.size with h' | h'
  · simp [h'] at hi h1; rw [hi] at h1; cases h1
  · simp [Array.getElem?_eq_none h'] at h1
theorem wpAnyM_first {i : Nat} {oi : Oper} {v : Value} (hi : ops[i]? = some oi) (hsel : ∀ (j : Nat) (o : Oper) cs b, ops[j]? = some o → o.op ≠ .select cs b)
    (hQ : ∀ c a w, Q (.panic c) (a.put oi.dst v) w → Q (.panic c) a w) (hmi : m ≠ i) (hmw : Region.waitsFor md ops m i = true) : ∀ (f : Nat) (l : Array Bool) (a : Act) (w : World),
      (∀ j oj, ops[j]? = some oj → j ≠ i → l.getD j true = false → (∀ e ∈ oj.after, Region.binds md e = true → e.on ≠ i) → oi.apart ops oj = true) →
      i ∈ Region.ready md ops l → l.getD m true = false → YieldsIf P ops R oi v a → R w →
      wpAnyM P md ops Q m R f (l.setIfInBounds i true) (a.put oi.dst v) w → wpAnyM P md ops Q m R (f + 1) l a w
  | f, l, a, w, hfree, hr, hml, hy, hw, H => by
    have hil := (mem_ready.1 hr).1
    refine ⟨fun h => (by rw [h] at hr; cases hr), fun j hj => ?_⟩
    by_cases hji : j = i
    · subst hji
      exact hy.wpOp hi hw ⟨fun _ => hw, H⟩
    · have hrj := ready_mono hj hji
      cases f with
      | zero =>
        have h0 := H.1
        rw [h0] at hrj
        cases hrj
      | succ f =>
        obtain ⟨hjun, oj, hoj, -⟩ := mem_ready.1 hj
        have hnot := unlisted_not hj hoj hil
        have hjm : j ≠ m := by
          rintro rfl
          obtain ⟨om, hom, e, he, hb, hon⟩ := Region.waitsFor_spec hmw
          exact unlisted_not hj hom hil e he hb hon
        have h2 := wpOp_putIf hoj (hfree j oj hoj hji hjun hnot) (fun cs b => hsel i oi cs b hi) (fun cs b => hsel j oj cs b hoj) hQ hy (H.2 j hrj)
        refine wpOp_mono (fun a' w' h3 => ?_) h2
        obtain ⟨hya, hTa, hMa⟩ := h3
        have hml2 : (l.setIfInBounds j true).getD m true = false := by rw [getD_set_ne true hjm]; exact hml
        have hw2 : R w' := hTa (by rw [getD_set_ne true hjm, getD_set_ne true (Ne.symm hmi)]; exact hml)
        refine ⟨fun _ => hw2, wpAnyM_first hi hsel hQ hmi hmw f (l.setIfInBounds j true) a' w' (fun k ok hk hki hku hno => ?_) (ready_mono hr (Ne.symm hji)) hml2 hya hw2 ?_⟩
        · exact hfree k ok hk hki (getD_set_true hku) hno
        · rw [Array.setIfInBounds_comm _ _ hji]; exact hMa
/-- Number i comes first. -/
theorem wpAnyM_take {i : Nat} {oi : Oper} {v : Value} {f : Nat} {l : Array Bool} {a : Act} {w : World} (hi : ops[i]? = some oi) (hs : Region.noSelect ops = true)
    (hc : (Region.free md ops l i && (Region.ready md ops l).contains i && (m != i) && Region.waitsFor md ops m i && !(l.getD m true)) = true)
    (hQ : ∀ c a w, Q (.panic c) (a.put oi.dst v) w → Q (.panic c) a w) (hy : YieldsIf P ops R oi v a) (hw : R w)
    (h : wpAnyM P md ops Q m R f (l.setIfInBounds i true) (a.put oi.dst v) w) : wpAnyM P md ops Q m R (f + 1) l a w := by
  simp only [Bool.and_eq_true, bne_iff_ne, ne_eq, Bool.not_eq_true'] at hc
  obtain ⟨⟨⟨⟨h1, h2⟩, h3⟩, h4⟩, h5⟩ := hc
  exact wpAnyM_first hi (Region.noSelect_spec hs) hQ h3 h4 f l a w (Region.free_spec hi h1) (by simpa using h2) h5 hy hw h
/-- One alone may come up. -/
theorem wpAnyM_one {i : Nat} {oi : Oper} {f : Nat} {l : Array Bool} {a : Act} {w : World} (hi : ops[i]? = some oi) (hr : Region.ready md ops l = [i])
    (h : ∀ K : Act → World → Prop, (∀ a' w', ((l.setIfInBounds i true).getD m true = false → R w') → wpAnyM P md ops Q m R f (l.setIfInBounds i true) a' w' → K a' w') →
      if Region.wanted oi (yielded ops a.tmps) = true then Oper.wp P oi a w K Q else K (a.put oi.dst undef) w) : wpAnyM P md ops Q m R (f + 1) l a w := by
  refine ⟨fun h0 => (by rw [h0] at hr; cases hr), fun j hj => ?_⟩
  rw [hr] at hj
  obtain rfl : j = i := by simpa using hj
  unfold wpOp
  simp only [hi]
  have hh := h (fun a' w' => Till m R (l.setIfInBounds j true) w' ∧ wpAnyM P md ops Q m R f (l.setIfInBounds j true) a' w') fun a' w' h1 h2 => ⟨h1, h2⟩
  by_cases hwt : Region.wanted oi (yielded ops a.tmps) = true
  · rw [if_pos hwt] at hh ⊢; exact .inl hh
  · rw [if_neg hwt] at hh ⊢; exact hh
theorem wpAnyM_two {i j : Nat} {oi oj : Oper} {f : Nat} {l : Array Bool} {a : Act} {w : World} (hi : ops[i]? = some oi) (hj : ops[j]? = some oj) (hr : Region.ready md ops l = [i, j])
    (h : ∀ K : Act → World → Prop, (∀ a' w', ((l.setIfInBounds i true).getD m true = false → R w') → wpAnyM P md ops Q m R f (l.setIfInBounds i true) a' w' → K a' w') →
      if Region.wanted oi (yielded ops a.tmps) = true then Oper.wp P oi a w K Q else K (a.put oi.dst undef) w)
    (h' : ∀ K : Act → World → Prop, (∀ a' w', ((l.setIfInBounds j true).getD m true = false → R w') → wpAnyM P md ops Q m R f (l.setIfInBounds j true) a' w' → K a' w') →
      if Region.wanted oj (yielded ops a.tmps) = true then Oper.wp P oj a w K Q else K (a.put oj.dst undef) w) : wpAnyM P md ops Q m R (f + 1) l a w := by
  refine ⟨fun h0 => (by rw [h0] at hr; cases hr), fun k hk => ?_⟩
  rw [hr] at hk
  rcases (by simpa using hk : k = i ∨ k = j) with rfl | rfl
  · unfold wpOp
    simp only [hi]
    have hh := h (fun a' w' => Till m R (l.setIfInBounds k true) w' ∧ wpAnyM P md ops Q m R f (l.setIfInBounds k true) a' w') fun a' w' h1 h2 => ⟨h1, h2⟩
    by_cases hwt : Region.wanted oi (yielded ops a.tmps) = true
    · rw [if_pos hwt] at hh ⊢; exact .inl hh
    · rw [if_neg hwt] at hh ⊢; exact hh
  · unfold wpOp
    simp only [hj]
    have hh := h' (fun a' w' => Till m R (l.setIfInBounds k true) w' ∧ wpAnyM P md ops Q m R f (l.setIfInBounds k true) a' w') fun a' w' h1 h2 => ⟨h1, h2⟩
    by_cases hwt : Region.wanted oj (yielded ops a.tmps) = true
    · rw [if_pos hwt] at hh ⊢; exact .inl hh
    · rw [if_neg hwt] at hh ⊢; exact hh
/-- The one that waits for all. -/
theorem wpAnyM_last {om : Oper} {f : Nat} {l : Array Bool} {a : Act} {w : World} (hi : ops[m]? = some om) (hr : Region.ready md ops l = [m])
    (h : ∀ K : Act → World → Prop, (∀ a' w', wpAnyM P md ops Q m R f (l.setIfInBounds m true) a' w' → K a' w') →
      if Region.wanted om (yielded ops a.tmps) = true then Oper.wp P om a w K Q else K (a.put om.dst undef) w) : wpAnyM P md ops Q m R (f + 1) l a w :=
  wpAnyM_one hi hr fun K hK => h K fun a' w' hM => hK a' w' (fun h0 => by
    rcases Nat.lt_or_ge m l.size with h' | h'
    · simp [h'] at h0
    · rw [Array.getD_eq_getD_getElem?, Array.getElem?_eq_none (by simpa using h')] at h0
      cases h0) hM
/-- All have come up. -/
theorem wpAnyM_done {l : Array Bool} {a : Act} {w : World} (hr : Region.ready md ops l = []) (h : Q .normal a w) : ∀ f, wpAnyM P md ops Q m R f l a w
  | 0 => ⟨hr, h⟩
  | _ + 1 => ⟨fun _ => h, by rw [hr]; simp⟩
/-- The beginning. -/
theorem wp_region_M {id : Nat} {a : Act} {w : World} (m : Nat) (R : World → Prop) (hm : P.follows .mixedOrders = true)
    (h : wpAnyM P .any ops Q m R ops.size (Array.replicate ops.size false) a w.drew) : (Code.region id ops true).wp P Q a w :=
  wp_region_any hm (wpAny_of_M _ _ _ _ h)
end
end Go.Proofs.YtohdgjmmekgcmaaDoor
