/-
  The law FileChunks: a file's chunks joined again; a file of more than 600 bytes.
-/
import Derived.Test.YtmncoclmgcjjjaaMf11
import Derived.Test.YtmncoclmgcjjjaaQFlX
import Derived.Test.YtmncoclmgcjjjaaQFmA
import Derived.Test.YtmncoclmgcjjjaaQFmF
namespace Go.Proofs.Ytmncoclmgcjjjaa
open Go.RowKit Go.Shelf
attribute [local go_sem] Oper.semAt_some

theorem chF_line (xs : List Nat) (hx : WM.Bytes256 xs) : ∀ l ∈ chF xs, Line8N l := by
  intro l hl
  refine ⟨chF_8 xs l hl, fun y hy => ?_⟩
  obtain ⟨k, hk, rfl⟩ := List.mem_iff_getElem.1 hl
  obtain ⟨j, hj, rfl⟩ := List.mem_iff_getElem.1 hy
  have h8 : ((chF xs)[k]).length = 8 := chF_8 xs _ hl
  have hkn : k < chN xs.length := by rw [← chF_length]; exact hk
  have h := chF_word xs hx k j hkn (by omega)
  rw [List.getElem?_eq_getElem hk, Option.getD_some, List.getElem?_eq_getElem hj, Option.getD_some] at h
  rw [h]
  have := WM.wordAt_lt xs (8 * k + j)
  omega
theorem join_self (xs : List Nat) (hx : WM.Bytes256 xs) : cutF (WM.bytesOf (flatN (chF xs))) xs.length = xs := by
  have hL := chF_line xs hx
  have h8 := chF_8 xs
  have hB := bytesOf_256 (flatN (chF xs))
  have h64 := flatN_64 (chF xs) hL
  apply WM.list_ext _ _ (by rw [cutF_length])
  intro i hi
  rw [cutF_length] at hi
  have e1 : WM.at' (cutF (WM.bytesOf (flatN (chF xs))) xs.length) i = WM.at' (WM.bytesOf (flatN (chF xs))) i := by
    unfold WM.at'
    rw [cutF_at, if_pos hi]
  rw [e1]
  apply at_of_words hB hx
  rw [wordAt_of _ h64 hB]
  have hk : i / 8 / 8 < chN xs.length := by unfold chN; omega
  have hj : i / 8 % 8 < 8 := Nat.mod_lt _ (by decide)
  have e2 := flatN_at (chF xs) h8 (i / 8 / 8) (i / 8 % 8) (by rw [chF_length]; exact hk) hj
  rw [Nat.div_add_mod] at e2
  rw [e2]
  have hm : ∀ x ∈ (chF xs)[i / 8 / 8]?.getD [], 0 ≤ x := by
    rw [List.getElem?_eq_getElem (by rw [chF_length]; exact hk), Option.getD_some]
    exact fun x hxm => ((hL _ (List.getElem_mem _)).2 x hxm).1
  have e3 := natL_at _ hm (i / 8 % 8)
  have e4 := chF_word xs hx (i / 8 / 8) (i / 8 % 8) hk hj
  rw [Nat.div_add_mod] at e4
  omega
theorem errJ_self (xs : List Nat) (hx : WM.Bytes256 xs) (h : xs.length ≤ 448) : errJ (xs.length : Nat) (chF xs) = 0 := by
  unfold errJ
  rw [if_neg (by omega), if_neg (by omega), Int.toNat_natCast, chF_length, if_neg (by simp), join_self xs hx, if_pos rfl]
theorem outJ_self (xs : List Nat) (hx : WM.Bytes256 xs) (h : xs.length ≤ 448) : outJ (xs.length : Nat) (chF xs) = xs := by
  unfold outJ
  rw [if_pos (errJ_self xs hx h), Int.toNat_natCast, join_self xs hx]
set_option maxRecDepth 100000 in
set_option maxHeartbeats 4000000 in
theorem chunks9_long {v : Value} {xs : List Nat} (many : Int) (hl : 600 < xs.length) (w : World) (hv : FB w v xs) :
    Calls Try.prog 4 #[v, .int .i64 many] w fun e w' => e = .returned (.bool true) ∧ Below w.heap.size w w' := by
  obtain ⟨a, c, rfl, -⟩ := hv.form
  obtain ⟨n, hn⟩ : ∃ n, xs.length = n := ⟨_, rfl⟩
  have k1 : (600 : Int) < (n : Int) := by omega
  rw [hn]
  clear hv hn hl
  have hR := Boxed.new (w.alloc (.cells #[.int .i64 many] 3)) 4 (.bool false)
  simp only [World.size_alloc] at hR
  go_enter Try.func4, Try.ntmps4
  go_wp2_with fail
  refine (works9_any _).mono ?_
  rintro e w1 ⟨rfl, hb1⟩
  have hR1 : Boxed w1 (w.heap.size + 1) 4 (.bool false) := (hb1.block _ (by simp)).trans hR
  have hc := hR1.cell
  have hf := hR1.frozen
  have hlt := hR1.lt
  go_wp2_with fail
  have hc2 := (hR1.set (.bool true)).cell
  have b1 : Below w.heap.size w w1 := (((Below.refl _ _).alloc (Nat.le_refl _) _).alloc (by simp) _).trans (hb1.mono (by simp; omega))
  refine bodyPost_ret (v := .bool true) (by simp [results, Try.results4, go_sem, hc2]) rfl ⟨rfl, b1.setCell (p := ⟨w.heap.size + 1, 0, none⟩) (show w.heap.size ≤ w.heap.size + 1 by omega) _⟩
end Go.Proofs.Ytmncoclmgcjjjaa
