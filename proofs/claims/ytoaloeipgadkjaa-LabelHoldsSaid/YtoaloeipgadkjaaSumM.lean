/-
  The arithmetic of sums: each step is one to one in the word and in the sum.
-/
import Derived.Test.YtoaloeipgadkjaaRows
import Derived.Laws.BitsAllLaws
namespace Go.Proofs.Ytoaloeipgadkjaa
namespace SM
/-- One word taken into a sum. -/
def mix (s x : Nat) : Nat := (s ^^^ x) * 1099511628211 % 18446744073709551616
def sumFrom (s : Nat) (l : List Nat) : Nat := l.foldl mix s
/-- The sum of no words. -/
def start : Nat := 14695981039346656037
def sumOf (l : List Nat) : Nat := sumFrom start l
def sealOf (l : List Nat) : Nat := max (sumOf l) 1
theorem mix_lt (s x : Nat) : mix s x < 18446744073709551616 := Nat.mod_lt _ (by decide)
theorem sumFrom_cons (s a : Nat) (r : List Nat) : sumFrom s (a :: r) = sumFrom (mix s a) r := by unfold sumFrom; rw [List.foldl_cons]
theorem sumFrom_nil (s : Nat) : sumFrom s [] = s := by unfold sumFrom; rw [List.foldl_nil]
theorem sumFrom_lt (l : List Nat) : ∀ s, s < 18446744073709551616 → sumFrom s l < 18446744073709551616 := by
  induction l with
  | nil => intro s h; rw [sumFrom_nil]; exact h
  | cons a r ih => intro s _; rw [sumFrom_cons]; exact ih _ (mix_lt s a)
theorem start_lt : start < 18446744073709551616 := by decide
theorem sumOf_lt (l : List Nat) : sumOf l < 18446744073709551616 := sumFrom_lt l _ start_lt
theorem sealOf_lt (l : List Nat) : sealOf l < 18446744073709551616 := by have := sumOf_lt l; unfold sealOf; omega
theorem sealOf_pos (l : List Nat) : 1 ≤ sealOf l := by unfold sealOf; omega
theorem sumFrom_append (s : Nat) (a b : List Nat) : sumFrom s (a ++ b) = sumFrom (sumFrom s a) b := by unfold sumFrom; rw [List.foldl_append]
theorem sumFrom_snoc (s : Nat) (a : List Nat) (x : Nat) : sumFrom s (a ++ [x]) = mix (sumFrom s a) x := by unfold sumFrom; rw [List.foldl_append, List.foldl_cons, List.foldl_nil]
theorem take_snoc (l : List Nat) (k : Nat) (h : k < l.length) : l.take (k + 1) = l.take k ++ [l[k]?.getD 0] := by
  rw [List.take_succ_eq_append_getElem h]; simp [h]
/-- The sum up to a place, and one word more. -/
theorem sumFrom_step (s : Nat) (l : List Nat) (k : Nat) (h : k < l.length) : sumFrom s (l.take (k + 1)) = mix (sumFrom s (l.take k)) (l[k]?.getD 0) := by rw [take_snoc l k h, sumFrom_snoc]
theorem inv_mod (p q m k c : Nat) (h : p * q = m * k + 1) (hc : c < m) : (c * p % m) * q % m = c := by
  rw [Nat.mod_mul_mod, Nat.mul_assoc, h, Nat.mul_add, Nat.mul_one, Nat.mul_left_comm, Nat.mul_add_mod, Nat.mod_eq_of_lt hc]
theorem mul_inj_at (p q m k a b : Nat) (h : p * q = m * k + 1) (ha : a < m) (hb : b < m) (e : a * p % m = b * p % m) : a = b := by
  rw [← inv_mod p q m k a h ha, e, inv_mod p q m k b h hb]
theorem inv_num : 1099511628211 * 14886173955864302971 = 18446744073709551616 * 887285111055 + 1 := by decide +kernel
/-- The factor is odd: it has an inverse. -/
theorem mul_inj (a b : Nat) (ha : a < 18446744073709551616) (hb : b < 18446744073709551616) (h : a * 1099511628211 % 18446744073709551616 = b * 1099511628211 % 18446744073709551616) : a = b :=
  mul_inj_at _ _ _ _ a b inv_num ha hb h
theorem xor_lt (a b : Nat) (ha : a < 18446744073709551616) (hb : b < 18446744073709551616) : a ^^^ b < 18446744073709551616 := Nat.xor_lt_two_pow (n := 64) ha hb
theorem xor_inj_right (s x y : Nat) (h : s ^^^ x = s ^^^ y) : x = y := by
  have := congrArg (s ^^^ ·) h
  simpa [← Nat.xor_assoc] using this
theorem xor_inj_left (s t x : Nat) (h : s ^^^ x = t ^^^ x) : s = t := xor_inj_right x s t (by rw [Nat.xor_comm x s, Nat.xor_comm x t, h])
theorem mix_inj_right (s x y : Nat) (hs : s < 18446744073709551616) (hx : x < 18446744073709551616) (hy : y < 18446744073709551616) (h : mix s x = mix s y) : x = y :=
  xor_inj_right s x y (mul_inj _ _ (xor_lt _ _ hs hx) (xor_lt _ _ hs hy) h)
theorem mix_inj_left (s t x : Nat) (hs : s < 18446744073709551616) (ht : t < 18446744073709551616) (hx : x < 18446744073709551616) (h : mix s x = mix t x) : s = t :=
  xor_inj_left s t x (mul_inj _ _ (xor_lt _ _ hs hx) (xor_lt _ _ ht hx) h)
theorem sumFrom_inj (l : List Nat) : ∀ s t, s < 18446744073709551616 → t < 18446744073709551616 → (∀ x ∈ l, x < 18446744073709551616) → sumFrom s l = sumFrom t l → s = t := by
  induction l with
  | nil => intro s t _ _ _ h; rw [sumFrom_nil, sumFrom_nil] at h; exact h
  | cons a r ih =>
    intro s t hs ht hl h
    rw [sumFrom_cons, sumFrom_cons] at h
    have := ih (mix s a) (mix t a) (mix_lt _ _) (mix_lt _ _) (fun x hx => hl x (List.mem_cons_of_mem _ hx)) h
    exact mix_inj_left s t a hs ht (hl a (List.mem_cons_self ..)) this
/-- Words of which one alone is another one have unlike sums. -/
theorem sum_set_ne (l : List Nat) (k x s : Nat) (hk : k < l.length) (hs : s < 18446744073709551616) (hl : ∀ y ∈ l, y < 18446744073709551616) (hx : x < 18446744073709551616) (hne : x ≠ l[k]?.getD 0) : sumFrom s l ≠ sumFrom s (l.set k x) := by
  intro h
  have e1 : l = l.take k ++ l[k]?.getD 0 :: l.drop (k + 1) := by
    conv => lhs; rw [← List.take_append_drop k l, List.drop_eq_getElem_cons hk]
    simp [hk]
  have e2 : l.set k x = l.take k ++ x :: l.drop (k + 1) := List.set_eq_take_append_cons_drop ▸ by simp [hk]
  rw [e2] at h
  conv at h => lhs; rw [e1]
  rw [sumFrom_append, sumFrom_append, sumFrom_cons, sumFrom_cons] at h
  have hd : ∀ y ∈ l.drop (k + 1), y < 18446744073709551616 := fun y hy => hl y (List.mem_of_mem_drop hy)
  have hlk : l[k]?.getD 0 < 18446744073709551616 := by simp [hk]; exact hl _ (List.getElem_mem hk)
  have := sumFrom_inj (l.drop (k + 1)) _ _ (mix_lt _ _) (mix_lt _ _) hd h
  exact hne (mix_inj_right _ _ _ (sumFrom_lt _ _ hs) hlk hx this).symm
theorem mix_int (s x : Nat) (hs : s < 18446744073709551616) (hx : x < 18446744073709551616) : IntKind.u64.wrap (bits .xor .u64 (s : Int) (x : Int) * 1099511628211) = ((mix s x : Nat) : Int) := by
  rw [u64_xor_nat s x hs hx]
  unfold mix
  generalize s ^^^ x = y
  show ((y : Int) * 1099511628211) % 18446744073709551616 = _
  rw [Int.natCast_emod]
  rfl
end SM
end Go.Proofs.Ytoaloeipgadkjaa
