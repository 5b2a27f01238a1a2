/-
  The walk of the law WordJoins.
-/
import Derived.Test.YtlkbikgeghafgaaDoorWordK
import Derived.Deep.DeepMust
namespace Go.Proofs.YtlkbikgeghafgaaDoor
open Go.RowKit Go.Shelf

theorem wpList_append_want {P : Program} (w : World) {ops : Array Oper} {rest : List Oper} {o : Oper} {a : Act} {Q : Exit → Act → World → Prop}
    (hw : Region.wanted o (yielded ops a.tmps) = true) (s x : Operand) (t : TypeId) (hop : o.op = Op.call { callee := Callee.builtin Builtin.append, args := #[s, x], argTypes := #[t, t] })
    (base : Nat) (e : TypeId) (i : TypeInfo) (z : Value) (size bytes : Nat) (h1 : P.underlying t = some (.slice e)) (h2 : P.info? e = some i) (h3 : i.zero = some z) (h4 : i.size = size) (h5 : i.bytes = bytes) (h6 : z.cells.size = size) (h7 : 0 < size)
    (v : Value) (k : Nat) (xs : List Value) (hs : a.eval s = v) (hown : w.ownsRow base e size v k xs) (ad : Addr) (m c : Nat) (news : List Value) (hx : a.eval x = .slice (some ad) m c) (hn : news.length = m * size)
    (hc : ∀ j u, news[j]? = some u → w.cell? (ad.add j) = some u) (h1c : ∀ u ∈ news, u.oneCell' = true) (b1 : k + m ≤ maxLen) (b2 : (k + m) * bytes ≤ 140737488355328) (b3 : base ≤ w.heap.size)
    (hK : ∀ v' w', w'.ownsRow base e size v' (k + m) (xs ++ news) → w.grownBy w' v.ownBlock → (v'.ownBlock = v.ownBlock ∨ v'.ownBlock = some w.heap.size) → wpList P ops Q rest (a.put o.dst v') w') :
    wpList P ops Q (o :: rest) a w := by
  refine BigFrame.wpList_want hw fun K hK' => ?_
  obtain ⟨v', w', hrun, r1, r2, _, r3⟩ := run_append_own_at (P := P) w base t o.type e i z size bytes h1 h2 h3 h4 h5 h6 h7 v k xs hown ad m c news hn hc h1c b1 b2 b3
  unfold Oper.wp
  simp [execOp, hop, resolve, invoke, builtin, hs, hx, hrun, Result.andThen]
  exact hK' _ _ (hK v' w' r1 r2 r3)
/-- Words of whole words, and of more behind, are those of both. -/
theorem words_join (bs : List Nat) (f : Nat) (h : 8 * f ≤ bs.length) : WM.wordsOf (bs.take (8 * f)) ++ WM.wordsOf (bs.drop (8 * f)) = WM.wordsOf bs := by
  have n1 : WM.need (8 * f) = f := by unfold WM.need; omega
  have n2 : WM.need (bs.length - 8 * f) = WM.need bs.length - f := by unfold WM.need; omega
  have n3 : f ≤ WM.need bs.length := by unfold WM.need; omega
  have l1 : (bs.take (8 * f)).length = 8 * f := by rw [List.length_take]; omega
  have l2 : (bs.drop (8 * f)).length = bs.length - 8 * f := by rw [List.length_drop]
  have w1 : ∀ i, i < f → WM.wordAt (bs.take (8 * f)) i = WM.wordAt bs i := fun i hi => by
    rw [← WM.chunkOf_word, ← WM.chunkOf_word]
    have : WM.chunkOf (bs.take (8 * f)) i = WM.chunkOf bs i := by
      unfold WM.chunkOf
      rw [List.drop_take, List.take_take]
      congr 1; omega
    rw [this]
  have w2 : ∀ i, WM.wordAt (bs.drop (8 * f)) i = WM.wordAt bs (f + i) := fun i => by
    rw [← WM.chunkOf_word, ← WM.chunkOf_word]
    have : WM.chunkOf (bs.drop (8 * f)) i = WM.chunkOf bs (f + i) := by
      unfold WM.chunkOf
      rw [List.drop_drop]
      congr 2; omega
    rw [this]
  unfold WM.wordsOf
  rw [l1, l2, n1, n2]
  conv => rhs; rw [show WM.need bs.length = f + (WM.need bs.length - f) by omega, List.range_add, List.map_append, List.map_map]
  congr 1
  · exact List.map_congr_left fun i hi => w1 i (List.mem_range.1 hi)
  · exact List.map_congr_left fun i _ => w2 i
theorem bytes256_take (bs : List Nat) (n : Nat) (h : WM.Bytes256 bs) : WM.Bytes256 (bs.take n) := fun i => by
  rcases Nat.lt_or_ge i n with h1 | h1
  · rw [WM.at_take _ _ _ h1]; exact h i
  · rw [WM.at_none _ _ (by rw [List.length_take]; omega)]; decide
theorem bytes256_drop (bs : List Nat) (n : Nat) (h : WM.Bytes256 bs) : WM.Bytes256 (bs.drop n) := fun i => by
  rw [WM.at_drop]; exact h _
theorem take_slice {W : World} {k : IntKind} {a : Option Addr} {cap n : Nat} {xs : List Nat} (h : Sl W k (.slice a xs.length cap) xs) (hn : n ≤ xs.length) : Sl W k (.slice a n cap) (xs.take n) := by
  obtain ⟨a', c', e, hl, hc⟩ := h
  simp only [Value.slice.injEq] at e
  obtain ⟨rfl, _, rfl⟩ := e
  have hlen : (xs.take n).length = n := by rw [List.length_take]; omega
  refine ⟨a, cap, by rw [hlen], by omega, fun h0 => ?_⟩
  obtain ⟨b, off, h1, h2, h3⟩ := hc (by omega)
  refine ⟨b, off, h1, h2, fun j hj => ?_⟩
  rw [h3 j (by omega), show (xs.take n)[j]?.getD 0 = xs[j]?.getD 0 from WM.at_take xs n j (by omega)]
theorem drop_slice {W : World} {k : IntKind} {a a' : Option Addr} {cap cap' n : Nat} {xs : List Nat} (h : Sl W k (.slice a xs.length cap) xs) (hn : n ≤ xs.length) (hc' : xs.length - n ≤ cap') (ha : n < xs.length → ∀ b off, a = some ⟨b, off, none⟩ → a' = some ⟨b, off + n, none⟩) : Sl W k (.slice a' (xs.length - n) cap') (xs.drop n) := by
  obtain ⟨a0, c0, e, hl, hc⟩ := h
  simp only [Value.slice.injEq] at e
  obtain ⟨rfl, _, rfl⟩ := e
  have hlen : (xs.drop n).length = xs.length - n := by rw [List.length_drop]
  refine ⟨a', cap', by rw [hlen], by omega, fun h0 => ?_⟩
  obtain ⟨b, off, h1, h2, h3⟩ := hc (by omega)
  refine ⟨b, off + n, ha (by omega) b off h1, h2, fun j hj => ?_⟩
  rw [Nat.add_assoc, h3 (n + j) (by omega), show (xs.drop n)[j]?.getD 0 = xs[n + j]?.getD 0 from WM.at_drop xs n j]
/-- The values of words. -/
def vals64 (l : List Nat) : List Value := l.map fun y : Nat => Value.int .u64 (y : Nat)
theorem joins_skip (v : Value) (xs : List Nat) (f : Int) (hl : xs.length ≤ 140737488351232) (hf1 : -9223372036854775808 ≤ f) (hf2 : f ≤ 9223372036854775807) (h : 1000 < xs.length ∨ f < 0 ∨ (xs.length : Int) / 8 < f) (w : World) (ht : Tabs w) (hs : Sl w .u8 v xs) :
    Calls Tryd.prog 9 #[v, .int .i64 f] w fun e w' => e = .returned (.bool true) ∧ Below w.heap.size w w' := by
  obtain ⟨a, c, b, off, rfl, -, -, -⟩ := hs.cell
  clear hs
  have hl' : (xs.length : Int) ≤ 140737488351232 := by omega
  by_cases h1 : 1000 < xs.length
  · have k1 : (1000 : Int) < (xs.length : Int) := by omega
    clear h
    go_enter Tryd.func9, Tryd.ntmps9
    go_wp2_with fail
    refine (works_any _ ht).mono ?_
    rintro e w1 ⟨rfl, hb1⟩
    go_wp2_with fail
    go_ret
    exact ⟨rfl, hb1⟩
  · have k1 : (xs.length : Int) ≤ 1000 := by omega
    by_cases h2 : f < 0
    · clear h
      go_enter Tryd.func9, Tryd.ntmps9
      go_wp2_with fail
      refine (works_any _ ht).mono ?_
      rintro e w1 ⟨rfl, hb1⟩
      go_wp2_with fail
      go_ret
      exact ⟨rfl, hb1⟩
    · have k2 : 0 ≤ f := by omega
      have k3 : (xs.length : Int) / 8 < f := by omega
      clear h
      go_enter Tryd.func9, Tryd.ntmps9
      go_wp2_with fail
      refine (works_any _ ht).mono ?_
      rintro e w1 ⟨rfl, hb1⟩
      go_wp2_with fail
      go_ret
      exact ⟨rfl, hb1⟩
set_option maxHeartbeats 2000000 in
theorem joins_some (a : Addr) (cap : Nat) (xs : List Nat) (f : Nat) (hl : xs.length ≤ 1000) (hf : f ≤ xs.length / 8) (hx : WM.Bytes256 xs) (hcap : cap ≤ 140737488351232) (hlc : xs.length ≤ cap) (w : World) (ht : Tabs w) (hs : Sl w .u8 (.slice (some a) xs.length cap) xs) :
    Calls Tryd.prog 9 #[.slice (some a) xs.length cap, .int .i64 f] w fun e w' => e = .returned (.bool true) ∧ Below w.heap.size w w' := by
  obtain ⟨i0, hi, hz0, hz1, hz2⟩ := info_parts infoU64
  have z0 := ht.room
  have k1 : (xs.length : Int) ≤ 1000 := by omega
  have k2 : (f : Int) ≤ (xs.length : Int) / 8 := by omega
  have k3 : 8 * (f : Int) ≤ (xs.length : Int) := by omega
  have k4 : 8 * (f : Int) ≤ (cap : Int) := by omega
  have k5 : (xs.length : Int) ≤ (cap : Int) := by omega
  have H8 : (8 * (f : Int)).toNat = 8 * f := by omega
  have W1 := Lib.hid (fun (W : World) (hb : Below w.heap.size w W) => words_any _ xs (by omega) hx W (hs.below hb) (by intro a' n c e; simp at e; omega))
  have W2 := Lib.hid (fun (W : World) (hb : Below w.heap.size w W) => words_any (.slice (some a) (8 * f) cap) (xs.take (8 * f)) (by rw [List.length_take]; omega) (bytes256_take xs _ hx) W (take_slice (hs.below hb) (by omega)) (by intro a' n c e; simp at e; omega))
  have W3 := Lib.hid (fun (W : World) (hb : Below w.heap.size w W) (a' : Addr) (c' : Nat) (hc' : xs.length - 8 * f ≤ c') (hc2 : c' ≤ cap) (ha : 8 * f < xs.length → ∀ b off, a = ⟨b, off, none⟩ → a' = ⟨b, off + 8 * f, none⟩) => words_any (.slice (some a') (xs.length - 8 * f) c') (xs.drop (8 * f)) (by rw [List.length_drop]; omega) (bytes256_drop xs _ hx) W (drop_slice (hs.below hb) (by omega) hc' (fun hlt b off e => by simp at e; rw [ha hlt b off e])) (by intro a'' n c e; simp at e; omega))
  have HJ := Lib.hid (words_join xs f (by omega))
  clear hs
  go_enter Tryd.func9, Tryd.ntmps9
  go_wp2_with fail
  refine (W1.out _ (Below.refl _ _)).mono ?_
  rintro e w1 ⟨r1, rfl, ⟨g1, c1, rfl⟩, hr1, hb1⟩
  have z1 := hb1.size
  go_wp2_with fail
  refine (W2.out _ hb1).mono ?_
  rintro e w2 ⟨r2, rfl, ⟨g2, c2, rfl⟩, hr2, hb2⟩
  have z2 := hb2.size
  have b2 : Below w.heap.size w w2 := hb1.trans (hb2.mono z1)
  go_wp2_with fail
  · refine (W3.out _ b2 a 0 (by omega) (by omega) (fun h => by omega)).mono ?_
    rintro e w3 ⟨r3, rfl, ⟨g3, c3, rfl⟩, hr3, hb3⟩
    have z3 := hb3.size
    have lg1 := hr1.lt g1 rfl
    have lg2 := hr2.lt g2 rfl
    have lg3 := hr3.lt g3 rfl
    have n1 : (WM.wordsOf (xs.take (8 * f))).length ≤ 1000 := by rw [WM.wordsOf_length, List.length_take]; unfold WM.need; omega
    have n2 : (WM.wordsOf (xs.drop (8 * f))).length ≤ 1000 := by rw [WM.wordsOf_length, List.length_drop]; unfold WM.need; omega
    have n3 : (WM.wordsOf xs).length ≤ 1000 := by rw [WM.wordsOf_length]; unfold WM.need; omega
    have s1 : Sl w3 .u64 (.slice (some ⟨g1, 0, none⟩) (WM.wordsOf xs).length c1) (WM.wordsOf xs) := ((sl_of_owns hr1).below hb2).below hb3
    have o2 := ownsRow_below hr2 hb3
    have HL := Lib.hid (World.ownsRow_lit (base := w3.heap.size) (size := 1) w3 #[] 0 (e := 22) (Nat.le_refl _) (by unfold maxLen; omega) rfl)
    generalize hA : WM.wordsOf xs = A at *
    generalize hB : WM.wordsOf (xs.take (8 * f)) = B at *
    generalize hC : WM.wordsOf (xs.drop (8 * f)) = C at *
    clear hr1 hr2 W1 W2 W3
    go_wp2_with (first
      | (go_at_call 13; refine (num_any _ _).mono ?_; rintro e w' ⟨rfl, rfl⟩)
      | (at_builtin; have own4' := own4; refine wpList_append_want _ (by rfl) (.tmp 60) (.tmp 61) 37 rfl w3.heap.size 22 i0 (.int .u64 0) 1 8 Tryd.underlying37 hi hz0 hz1 hz2 rfl (by decide) _ _ _ rfl own4 ⟨g3, 0, none⟩ C.length c3 (vals64 C) rfl (by simp [vals64]) (o3.cells rfl) (by simp [vals64, Value.oneCell']) (by unfold maxLen; omega) (by omega) b4.size ?_; intro v5 w5 own5 grow5 at5)
      | (at_builtin; refine wpList_append_want _ (by rfl) (.tmp 58) (.tmp 59) 37 rfl w3.heap.size 22 i0 (.int .u64 0) 1 8 Tryd.underlying37 hi hz0 hz1 hz2 rfl (by decide) _ 0 [] rfl HL.out ⟨g2, 0, none⟩ B.length c2 (vals64 B) rfl (by simp [vals64]) ((o2.alloc _).cells rfl) (by simp [vals64, Value.oneCell']) (by unfold maxLen; omega) (by omega) (by simp) ?_; intro v4 w4 own4 grow4 at4; have b4 : Below w3.heap.size w3 w4 := ((Below.refl _ _).alloc (Nat.le_refl _) _).grown grow4 (by simp) (fun j e => Nat.le_of_eq (Option.some.inj e)); have o3 := ownsRow_below hr3 b4))
    have b5 : Below w3.heap.size w3 w5 := b4.grown grow5 b4.size (fun j e => (own4.lt j e).1)
    have s5 : Sl w5 .u64 v5 (B ++ C) := by
      have h := own5
      rw [Nat.zero_add, List.nil_append] at h
      refine sl_of_owns (base := w3.heap.size) (e := 22) ?_
      rw [List.length_append, List.map_append]
      exact h
    refine (same_any _ v5 A (B ++ C) (by omega) (by rw [List.length_append]; omega) _ (s1.below b5) s5).mono ?_
    rintro e w6 ⟨rfl, hb6⟩
    have HD : Hid (decide (A = B ++ C) = true) := decide_eq_true HJ.out.symm
    rw [HD.out]
    have z5 := b5.size
    have z6 := hb6.size
    have bw6 : Below w.heap.size w w6 := (b2.trans (hb3.mono (by omega))).trans ((b5.mono (by omega)).trans (hb6.mono (by omega)))
    go_wp2_with (go_at_call 13; refine (num_any _ _).mono ?_; rintro e w' ⟨rfl, rfl⟩)
    refine (works_any _ (ht.below bw6 ht.room)).mono ?_
    rintro e w7 ⟨rfl, hb7⟩
    go_wp2_with (go_at_call 13; refine (num_any _ _).mono ?_; rintro e w' ⟨rfl, rfl⟩)
    go_ret
    exact ⟨rfl, bw6.trans (hb7.mono bw6.size)⟩
  · refine (W3.out _ b2 (a.add (8 * f)) (cap - 8 * f) (by omega) (by omega) (fun _ b off e => by rw [e]; unfold Addr.add; split <;> simp_all)).mono ?_
    rintro e w3 ⟨r3, rfl, ⟨g3, c3, rfl⟩, hr3, hb3⟩
    have z3 := hb3.size
    have lg1 := hr1.lt g1 rfl
    have lg2 := hr2.lt g2 rfl
    have lg3 := hr3.lt g3 rfl
    have n1 : (WM.wordsOf (xs.take (8 * f))).length ≤ 1000 := by rw [WM.wordsOf_length, List.length_take]; unfold WM.need; omega
    have n2 : (WM.wordsOf (xs.drop (8 * f))).length ≤ 1000 := by rw [WM.wordsOf_length, List.length_drop]; unfold WM.need; omega
    have n3 : (WM.wordsOf xs).length ≤ 1000 := by rw [WM.wordsOf_length]; unfold WM.need; omega
    have s1 : Sl w3 .u64 (.slice (some ⟨g1, 0, none⟩) (WM.wordsOf xs).length c1) (WM.wordsOf xs) := ((sl_of_owns hr1).below hb2).below hb3
    have o2 := ownsRow_below hr2 hb3
    have HL := Lib.hid (World.ownsRow_lit (base := w3.heap.size) (size := 1) w3 #[] 0 (e := 22) (Nat.le_refl _) (by unfold maxLen; omega) rfl)
    generalize hA : WM.wordsOf xs = A at *
    generalize hB : WM.wordsOf (xs.take (8 * f)) = B at *
    generalize hC : WM.wordsOf (xs.drop (8 * f)) = C at *
    clear hr1 hr2 W1 W2 W3
    go_wp2_with (first
      | (go_at_call 13; refine (num_any _ _).mono ?_; rintro e w' ⟨rfl, rfl⟩)
      | (at_builtin; have own4' := own4; refine wpList_append_want _ (by rfl) (.tmp 60) (.tmp 61) 37 rfl w3.heap.size 22 i0 (.int .u64 0) 1 8 Tryd.underlying37 hi hz0 hz1 hz2 rfl (by decide) _ _ _ rfl own4 ⟨g3, 0, none⟩ C.length c3 (vals64 C) rfl (by simp [vals64]) (o3.cells rfl) (by simp [vals64, Value.oneCell']) (by unfold maxLen; omega) (by omega) b4.size ?_; intro v5 w5 own5 grow5 at5)
      | (at_builtin; refine wpList_append_want _ (by rfl) (.tmp 58) (.tmp 59) 37 rfl w3.heap.size 22 i0 (.int .u64 0) 1 8 Tryd.underlying37 hi hz0 hz1 hz2 rfl (by decide) _ 0 [] rfl HL.out ⟨g2, 0, none⟩ B.length c2 (vals64 B) rfl (by simp [vals64]) ((o2.alloc _).cells rfl) (by simp [vals64, Value.oneCell']) (by unfold maxLen; omega) (by omega) (by simp) ?_; intro v4 w4 own4 grow4 at4; have b4 : Below w3.heap.size w3 w4 := ((Below.refl _ _).alloc (Nat.le_refl _) _).grown grow4 (by simp) (fun j e => Nat.le_of_eq (Option.some.inj e)); have o3 := ownsRow_below hr3 b4))
    have b5 : Below w3.heap.size w3 w5 := b4.grown grow5 b4.size (fun j e => (own4.lt j e).1)
    have s5 : Sl w5 .u64 v5 (B ++ C) := by
      have h := own5
      rw [Nat.zero_add, List.nil_append] at h
      refine sl_of_owns (base := w3.heap.size) (e := 22) ?_
      rw [List.length_append, List.map_append]
      exact h
    refine (same_any _ v5 A (B ++ C) (by omega) (by rw [List.length_append]; omega) _ (s1.below b5) s5).mono ?_
    rintro e w6 ⟨rfl, hb6⟩
    have HD : Hid (decide (A = B ++ C) = true) := decide_eq_true HJ.out.symm
    rw [HD.out]
    have z5 := b5.size
    have z6 := hb6.size
    have bw6 : Below w.heap.size w w6 := (b2.trans (hb3.mono (by omega))).trans ((b5.mono (by omega)).trans (hb6.mono (by omega)))
    go_wp2_with (go_at_call 13; refine (num_any _ _).mono ?_; rintro e w' ⟨rfl, rfl⟩)
    refine (works_any _ (ht.below bw6 ht.room)).mono ?_
    rintro e w7 ⟨rfl, hb7⟩
    go_wp2_with (go_at_call 13; refine (num_any _ _).mono ?_; rintro e w' ⟨rfl, rfl⟩)
    go_ret
    exact ⟨rfl, bw6.trans (hb7.mono bw6.size)⟩
theorem words_nil (w : World) : Calls Tryd.prog 17 #[.slice none 0 0] w fun e w' => ∃ g c, e = .returned (.tuple #[.slice (some ⟨g, 0, none⟩) 0 c, .int .i64 0]) ∧ w'.ownsRow w.heap.size 22 1 (.slice (some ⟨g, 0, none⟩) 0 c) 0 [] ∧ Below w.heap.size w w' :=
  (words_any (.slice none 0 0) [] (by decide) (fun i => by show ([] : List Nat)[i]?.getD 0 < 256; simp) w ⟨none, 0, rfl, Nat.le_refl _, fun h => by simp at h⟩ (by intro a n c e; simp at e; omega)).mono fun e w' ⟨r, he, ⟨g, c, hg⟩, ho, hb⟩ => by
    subst hg
    exact ⟨g, c, he, ho, hb⟩
set_option maxHeartbeats 2000000 in
theorem joins_nil (w : World) (ht : Tabs w) :
    Calls Tryd.prog 9 #[.slice none 0 0, .int .i64 0] w fun e w' => e = .returned (.bool true) ∧ Below w.heap.size w w' := by
  obtain ⟨i0, hi, hz0, hz1, hz2⟩ := info_parts infoU64
  have z0 := ht.room
  go_enter Tryd.func9, Tryd.ntmps9
  go_wp2_with fail
  refine (words_nil _).mono ?_
  rintro e w1 ⟨g1, c1, rfl, hr1, hb1⟩
  have z1 := hb1.size
  go_wp2_with fail
  refine (words_nil _).mono ?_
  rintro e w2 ⟨g2, c2, rfl, hr2, hb2⟩
  have z2 := hb2.size
  have b2 : Below w.heap.size w w2 := hb1.trans (hb2.mono z1)
  go_wp2_with fail
  refine (words_nil _).mono ?_
  rintro e w3 ⟨g3, c3, rfl, hr3, hb3⟩
  have z3 := hb3.size
  have lg1 := hr1.lt g1 rfl
  have lg2 := hr2.lt g2 rfl
  have lg3 := hr3.lt g3 rfl
  have s1 : Sl w3 .u64 (.slice (some ⟨g1, 0, none⟩) 0 c1) [] := ((sl_of_owns hr1).below hb2).below hb3
  have o2 := ownsRow_below hr2 hb3
  have HL := Lib.hid (World.ownsRow_lit (base := w3.heap.size) (size := 1) w3 #[] 0 (e := 22) (Nat.le_refl _) (by unfold maxLen; omega) rfl)
  clear hr1 hr2
  go_wp2_with (first
    | (go_at_call 13; refine (num_any _ _).mono ?_; rintro e w' ⟨rfl, rfl⟩)
    | (at_builtin; have own4' := own4; refine wpList_append_want _ (by rfl) (.tmp 60) (.tmp 61) 37 rfl w3.heap.size 22 i0 (.int .u64 0) 1 8 Tryd.underlying37 hi hz0 hz1 hz2 rfl (by decide) _ _ _ rfl own4 ⟨g3, 0, none⟩ 0 c3 ([]) rfl (by simp) (o3.cells rfl) (by simp) (by unfold maxLen; omega) (by omega) b4.size ?_; intro v5 w5 own5 grow5 at5)
    | (at_builtin; refine wpList_append_want _ (by rfl) (.tmp 58) (.tmp 59) 37 rfl w3.heap.size 22 i0 (.int .u64 0) 1 8 Tryd.underlying37 hi hz0 hz1 hz2 rfl (by decide) _ 0 [] rfl HL.out ⟨g2, 0, none⟩ 0 c2 ([]) rfl (by simp) ((o2.alloc _).cells rfl) (by simp) (by unfold maxLen; omega) (by omega) (by simp) ?_; intro v4 w4 own4 grow4 at4; have b4 : Below w3.heap.size w3 w4 := ((Below.refl _ _).alloc (Nat.le_refl _) _).grown grow4 (by simp) (fun j e => Nat.le_of_eq (Option.some.inj e)); have o3 := ownsRow_below hr3 b4))
  have b5 : Below w3.heap.size w3 w5 := b4.grown grow5 b4.size (fun j e => (own4.lt j e).1)
  have s5 : Sl w5 .u64 v5 [] := by
    have h := own5
    exact sl_of_owns (base := w3.heap.size) (e := 22) h
  refine (same_any _ v5 [] [] (by decide) (by decide) _ (s1.below b5) s5).mono ?_
  rintro e w6 ⟨rfl, hb6⟩
  have HD : Hid (decide (([] : List Nat) = []) = true) := decide_eq_true rfl
  rw [HD.out]
  have z5 := b5.size
  have z6 := hb6.size
  have bw6 : Below w.heap.size w w6 := (b2.trans (hb3.mono (by omega))).trans ((b5.mono (by omega)).trans (hb6.mono (by omega)))
  go_wp2_with (go_at_call 13; refine (num_any _ _).mono ?_; rintro e w' ⟨rfl, rfl⟩)
  refine (works_any _ (ht.below bw6 ht.room)).mono ?_
  rintro e w7 ⟨rfl, hb7⟩
  go_wp2_with (go_at_call 13; refine (num_any _ _).mono ?_; rintro e w' ⟨rfl, rfl⟩)
  go_ret
  exact ⟨rfl, bw6.trans (hb7.mono bw6.size)⟩
theorem joins_any (v : Value) (xs : List Nat) (f : Int) (hl : xs.length ≤ 140737488351232) (hx : WM.Bytes256 xs) (hf1 : -9223372036854775808 ≤ f) (hf2 : f ≤ 9223372036854775807) (w : World) (ht : Tabs w) (hs : Sl w .u8 v xs)
    (hv : (v = .slice none 0 0 ∧ xs = []) ∨ ∃ a cap, v = .slice (some a) xs.length cap ∧ cap ≤ 140737488351232) :
    Calls Tryd.prog 9 #[v, .int .i64 f] w fun e w' => e = .returned (.bool true) ∧ Below w.heap.size w w' := by
  by_cases h : 1000 < xs.length ∨ f < 0 ∨ (xs.length : Int) / 8 < f
  · exact joins_skip v xs f hl hf1 hf2 h w ht hs
  · obtain ⟨m, rfl⟩ := Int.eq_ofNat_of_zero_le (show 0 ≤ f by omega)
    rcases hv with ⟨rfl, rfl⟩ | ⟨a, cap, rfl, hcap⟩
    · obtain rfl : m = 0 := by simp at h; omega
      exact joins_nil w ht
    · obtain ⟨a', c', e, hlc, _⟩ := id hs
      exact joins_some a cap xs m (by omega) (by omega) hx hcap (by simp only [Value.slice.injEq] at e; omega) w ht hs
end Go.Proofs.YtlkbikgeghafgaaDoor
