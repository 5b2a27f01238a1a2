/-
  Texts TgJ to TgJ, as one.
-/
import Derived.Test.YtgoemaecdolioaaGreatDoorMo22
/-
  tree: Bytes, Names. Written by gen_tgj.py.
-/
namespace Go.Proofs.YtgoemaecdolioaaGreatDoor
open Go.RowKit Go.Shelf
attribute [local go_sem] Oper.semAt_some

/-- The node that is asked, or an error. -/
def askX (G : Gr) (r : Nat) (s : List UInt8) (bad : TN → Bool) (c : Int) : Int × Option TN := match askE G r s with
  | .error e => (e, none)
  | .ok b => match G b with
    | none => (0, none)
    | some x => if bad x = true then (c, none) else (0, some x)
/-- What is told, with an error. -/
def ToldX (q : Int × Option TN) (P : World → Value → TN → Prop) (w' : World) (v : Value) : Prop := (q.1 = 0 ∧ ∃ x, q.2 = some x ∧ P w' v x) ∨ (q.1 ≠ 0 ∧ v = .slice none 0 0)
def ToldE2 (q : Int × Option TN) (bx : Nat) (T : TypeId) (P : World → Value → TN → Prop) (V : World) (e : Ending) (w' : World) : Prop :=
  Turn (fun k => k = bx) V w' ∧ ∃ v, Boxed w' bx T v ∧ ToldX q P w' v ∧ ((q.1 = 0 ∧ ∃ u, e = .returned u) ∨ (q.1 ≠ 0 ∧ e = .panicked (refuse q.1)))
theorem names_slice {W : World} {v : Value} {l : List (List UInt8)} (h : TxS W v l) : ∃ a n c, v = .slice a n c := by
  obtain ⟨-, a, c, hv, -⟩ := h
  exact ⟨a, _, c, hv⟩
theorem bytes_slice {W : World} {v : Value} {xs : List Nat} (h : FB W v xs) : ∃ a n c, v = .slice a n c := by
  obtain ⟨a, c, hv, -⟩ := h.form
  exact ⟨a, _, c, hv⟩
theorem bytes_turn {W W' : World} {v : Value} {xs : List Nat} {E : Nat} {T : TypeId} {c : Int} (h : FB W v xs) (hE : Boxed W E T (.int .i64 c)) (ht : Turn (fun k => k = E) W W') : FB W' v xs := h.turn8 ht fun k hk _ => by
  subst hk
  exact boxed_noU8 hE
theorem boxed_noStr {W : World} {E : Nat} {T : TypeId} {v : Value} (hE : Boxed W E T v) (hv : ∀ z, v ≠ .string z) : NoStr W E := fun off z e => by
  have := cell_of_row W E off _ T (0, 0) hE
  rw [this] at e
  rcases off with _ | off
  · simp at e
    exact hv z e
  · simp at e
theorem names_turn {W W' : World} {v : Value} {l : List (List UInt8)} {E : Nat} {T : TypeId} {c : Int} (h : TxS W v l) (hE : Boxed W E T (.int .i64 c)) (ht : Turn (fun k => k = E) W W') : TxS W' v l := txs_turn h ht fun k hk _ => by
  subst hk
  exact boxed_noStr hE (fun z e => by cases e)
theorem boxed_noU8s {W : World} {E : Nat} {T : TypeId} {a : Option Addr} {n c : Nat} (hE : Boxed W E T (.slice a n c)) : NoU8 W E := fun off z e => by
  have := cell_of_row W E off _ T (0, 0) hE
  rw [this] at e
  rcases off with _ | off <;> simp at e
theorem bytes_box {W : World} {v : Value} {xs : List Nat} {bx : Nat} {T : TypeId} {a : Option Addr} {n c : Nat} (h : FB W v xs) (hb : Boxed W bx T (.slice a n c)) (u : Value) : FB (W.setCell ⟨bx, 0, none⟩ u) v xs :=
  h.turn8 (Turn.setCell _ _ rfl : Turn (fun k => k = bx) W _) fun k hk _ => by
    subst hk
    exact boxed_noU8s hb
theorem names_box {W : World} {v : Value} {l : List (List UInt8)} {bx : Nat} {T : TypeId} {a : Option Addr} {n c : Nat} (h : TxS W v l) (hb : Boxed W bx T (.slice a n c)) (u : Value) : TxS (W.setCell ⟨bx, 0, none⟩ u) v l :=
  txs_turn h (Turn.setCell _ _ rfl : Turn (fun k => k = bx) W _) fun k hk _ => by
    subst hk
    exact boxed_noStr hb (fun z e => by cases e)
set_option maxRecDepth 100000 in
set_option maxHeartbeats 16000000 in
theorem toldBytes1_any {G : Gr} {V : World} {T r m ba bt bp bx : Nat} (hT : TreeG V T r G m) (hgood : ∀ b x, G b = some x → x.bytes.length ≤ 448) (hmx : MaxC V) (s : List UInt8) (hs : s.length ≤ 1000000) (b3 : Boxed V ba 202 (.func (.func 147) #[] #[])) (b1 : Boxed V bt 52 (.pointer (some ⟨T, 0, none⟩))) (b0 : Boxed V bp 9 (encStr s)) (b2 : Boxed V bx 23 (.slice none 0 0)) :
    Calls Tryz.prog 179 #[.pointer (some ⟨ba, 0, none⟩), .pointer (some ⟨bt, 0, none⟩), .pointer (some ⟨bp, 0, none⟩), .pointer (some ⟨bx, 0, none⟩)] V (ToldE2 (askX G r s (fun x => x.isDir) 204) bx 23 (fun W v x => FB W v x.bytes) V) := by
  obtain ⟨xr, hxr, hdir⟩ := hT.root
  obtain ⟨t, ht⟩ : ∃ t, encStr s = t := ⟨_, rfl⟩
  rw [ht] at b0
  have HR0 : Hid (∀ W, Below V.heap.size V W → (fun W : World => W.cell? ⟨ba, 0, none⟩ = some (.func (.func 147) #[] #[]) ∧ W.cell? ⟨bt, 0, none⟩ = some (.pointer (some ⟨T, 0, none⟩)) ∧ W.cell? ⟨bp, 0, none⟩ = some t ∧ Below V.heap.size V W) W) := show ∀ W, _ from fun W hW => ⟨(boxed_low b3 hW).cell, (boxed_low b1 hW).cell, (boxed_low b0 hW).cell, hW⟩
  have HBX : Hid (∀ W, Below V.heap.size V W → Boxed W bx 23 (.slice none 0 0)) := show ∀ W, _ from fun W hW => boxed_low b2 hW
  by_cases h1 : (splitE s).2 = 0
  · have HS := Lib.hid (fun W (hW : Below V.heap.size V W) => split10_ok s hs W (hmx.below hW hmx.room) h1)
    rw [ht] at HS
    have hsl := splitE_len s
    have hsr := splitE_right s
    have HAT := Lib.hid (fun W v (hW : Below V.heap.size V W) (hv : TxS W v (splitE s).1) => at10_any (hT.below hW).nodes hT.leads (hT.below hW).at_ hxr (names := (splitE s).1) (by omega) (rightN_short hsr) hv)
    have hA : askE G r s = walkN G r (splitE s).1 := if_neg (by simpa using h1)
    cases hw : walkN G r (splitE s).1 with
    | error c =>
      have hc : c ≠ 0 := by rcases walkN_err hT.leads _ _ _ _ hxr hw with rfl | rfl <;> decide
      rw [hw] at HAT hA
      have hv : askX G r s (fun x => x.isDir) 204 = (c, none) := by unfold askX; rw [hA]
      rw [hv]
      have HC := Lib.hid hc
      obtain ⟨names, hnm⟩ : ∃ names, (splitE s).1 = names := ⟨_, rfl⟩
      rw [hnm] at HS HAT
      clear hT hgood hmx hs b0 b1 b2 b3 hxr hdir h1 ht hsl hsr hA hw hc hv hnm
      go_enter Tryz.func179, Tryz.ntmps179
      go_wp2_with fail
      have hR := HR0.out _ (Below.refl _ V).drew
      refine wp_region_M 6 (fun W : World => W.cell? ⟨ba, 0, none⟩ = some (.func (.func 147) #[] #[]) ∧ W.cell? ⟨bt, 0, none⟩ = some (.pointer (some ⟨T, 0, none⟩)) ∧ W.cell? ⟨bp, 0, none⟩ = some t ∧ Below V.heap.size V W) (by kernel_rfl) ?_
      (refine wpAnyM_take2 8 (i := 0) (v := ?_) rfl (by kernel_rfl) (by kernel_rfl) (fun _ _ _ h => h) (Or.inl ⟨by rfl, ?_⟩) hR ?_; rotate_left; (focus (intro w hSw; (try dsimp only at hSw); go_simp; (try with_reducible rfl))); (try simp only [put_laws])); (refine wpAnyM_take2 8 (i := 1) (v := ?_) rfl (by kernel_rfl) (by kernel_rfl) (fun _ _ _ h => h) (Or.inl ⟨by rfl, ?_⟩) hR ?_; rotate_left; (focus (intro w hSw; (try dsimp only at hSw); go_simp; (try with_reducible rfl))); (try simp only [put_laws])); (refine wpAnyM_take2 8 (i := 2) (v := ?_) rfl (by kernel_rfl) (by kernel_rfl) (fun _ _ _ h => h) (Or.inl ⟨by rfl, ?_⟩) hR ?_; rotate_left; (focus (intro w hSw; (try dsimp only at hSw); go_simp; (try with_reducible rfl))); (try simp only [put_laws]))
      (refine wpAnyM_one (i := 3) rfl (by kernel_rfl) (fun K hK => ?_); rw [if_pos (by rfl)]; (try simp only [elem_laws]))
      go_simp
      refine (HS.out _ hR.2.2.2).mono ?_
      rintro e w1 ⟨u, rfl, ho, hb⟩
      have hR' := HR0.out _ (hR.2.2.2.trans (hb.mono hR.2.2.2.size))
      refine hK _ _ (fun _ => hR') ?_
      clear hK K hR hb
      have hR := hR'
      clear hR'
      (try simp only [put_laws])
      (refine wpAnyM_one (i := 4) rfl (by kernel_rfl) (fun K hK => ?_); rw [if_pos (by rfl)]; (try simp only [elem_laws]))
      go_simp
      refine (HAT.out _ _ hR.2.2.2 ho.txs).mono ?_
      rintro e w2 ⟨hb, rfl⟩
      have hb2 := hR.2.2.2.trans (hb.mono hR.2.2.2.size)
      exact ⟨rfl, (show ToldE2 _ _ _ _ _ _ _ from ⟨Turn.of_below hb2 (Nat.le_refl _), _, HBX.out _ hb2, .inr ⟨HC.out, rfl⟩, .inr ⟨HC.out, rfl⟩⟩)⟩
    | ok b =>
      obtain ⟨x, hx⟩ := walkN_leads hT.leads _ _ _ _ hxr hw
      rw [hw] at HAT hA
      have hv : askX G r s (fun x => x.isDir) 204 = if (fun x => x.isDir) x = true then (204, none) else (0, some x) := by unfold askX; rw [hA]; simp only [hx]
      rw [hv]
      have HAK := Lib.hid (fun W (hW : Below V.heap.size V W) => askBytes_any ((hT.below hW).nodes b x hx) (hgood b x hx))
      obtain ⟨names, hnm⟩ : ∃ names, (splitE s).1 = names := ⟨_, rfl⟩
      rw [hnm] at HS HAT
      obtain ⟨bd, hbd⟩ : ∃ bd, (fun x => x.isDir) x = bd := ⟨_, rfl⟩
      rw [hbd]
      dsimp only at hbd
      rw [hbd] at HAK
      obtain ⟨Q, hQ⟩ : ∃ Q, (if bd = true then (204, none) else (0, some x) : Int × Option TN) = Q := ⟨_, rfl⟩
      have HQ := Lib.hid hQ
      rw [hQ]
      clear hT hgood hmx hs b0 b1 b2 b3 hxr hdir h1 ht hsl hsr hA hw hv hnm hx hbd hQ
      go_enter Tryz.func179, Tryz.ntmps179
      go_wp2_with fail
      have hR := HR0.out _ (Below.refl _ V).drew
      refine wp_region_M 6 (fun W : World => W.cell? ⟨ba, 0, none⟩ = some (.func (.func 147) #[] #[]) ∧ W.cell? ⟨bt, 0, none⟩ = some (.pointer (some ⟨T, 0, none⟩)) ∧ W.cell? ⟨bp, 0, none⟩ = some t ∧ Below V.heap.size V W) (by kernel_rfl) ?_
      (refine wpAnyM_take2 8 (i := 0) (v := ?_) rfl (by kernel_rfl) (by kernel_rfl) (fun _ _ _ h => h) (Or.inl ⟨by rfl, ?_⟩) hR ?_; rotate_left; (focus (intro w hSw; (try dsimp only at hSw); go_simp; (try with_reducible rfl))); (try simp only [put_laws])); (refine wpAnyM_take2 8 (i := 1) (v := ?_) rfl (by kernel_rfl) (by kernel_rfl) (fun _ _ _ h => h) (Or.inl ⟨by rfl, ?_⟩) hR ?_; rotate_left; (focus (intro w hSw; (try dsimp only at hSw); go_simp; (try with_reducible rfl))); (try simp only [put_laws])); (refine wpAnyM_take2 8 (i := 2) (v := ?_) rfl (by kernel_rfl) (by kernel_rfl) (fun _ _ _ h => h) (Or.inl ⟨by rfl, ?_⟩) hR ?_; rotate_left; (focus (intro w hSw; (try dsimp only at hSw); go_simp; (try with_reducible rfl))); (try simp only [put_laws]))
      (refine wpAnyM_one (i := 3) rfl (by kernel_rfl) (fun K hK => ?_); rw [if_pos (by rfl)]; (try simp only [elem_laws]))
      go_simp
      refine (HS.out _ hR.2.2.2).mono ?_
      rintro e w1 ⟨u, rfl, ho, hb⟩
      have hR' := HR0.out _ (hR.2.2.2.trans (hb.mono hR.2.2.2.size))
      refine hK _ _ (fun _ => hR') ?_
      clear hK K hR hb
      have hR := hR'
      clear hR'
      (try simp only [put_laws])
      (refine wpAnyM_one (i := 4) rfl (by kernel_rfl) (fun K hK => ?_); rw [if_pos (by rfl)]; (try simp only [elem_laws]))
      go_simp
      refine (HAT.out _ _ hR.2.2.2 ho.txs).mono ?_
      rintro e w2 ⟨hb, rfl⟩
      have hR' := HR0.out _ (hR.2.2.2.trans (hb.mono hR.2.2.2.size))
      refine hK _ _ (fun _ => hR') ?_
      clear hK K hR hb ho
      have hR := hR'
      clear hR'
      (try simp only [put_laws])
      (refine wpAnyM_one (i := 5) rfl (by kernel_rfl) (fun K hK => ?_); rw [if_pos (by rfl)]; (try simp only [elem_laws]))
      go_simp
      refine (HAK.out _ hR.2.2.2).mono ?_
      rintro e w3 (⟨rfl, rfl, rfl⟩ | ⟨rfl, z, rfl, hz, hb3⟩)
      · have hq := HQ.out
        rw [if_pos rfl] at hq
        subst hq
        exact ⟨rfl, (show ToldE2 _ _ _ _ _ _ _ from ⟨Turn.of_below hR.2.2.2 (Nat.le_refl _), _, HBX.out _ hR.2.2.2, .inr ⟨by decide, rfl⟩, .inr ⟨by decide, rfl⟩⟩)⟩
      · have hR' := HR0.out _ (hR.2.2.2.trans (hb3.mono hR.2.2.2.size))
        refine hK _ _ (fun _ => hR') ?_
        clear hK K hR hb3
        have hR := hR'
        clear hR'
        have HZ := Lib.hid hz
        clear hz
        (try simp only [put_laws])
        have hbx := HBX.out _ hR.2.2.2
        have xc := hbx.cell
        have xf := hbx.frozen
        have HB3 := Lib.hid hR.2.2.2
        have HX3 := Lib.hid hbx
        clear hbx
        obtain ⟨za, zn, zc, rfl⟩ : ∃ a n c, z = .slice a n c := bytes_slice HZ.out
        (refine wpAnyM_last rfl (by kernel_rfl) (fun K hK => ?_); rw [if_pos (by rfl)]; (try simp only [elem_laws]))
        go_simp
        refine hK _ _ ?_
        clear hK K hR xc xf
        (try simp only [put_laws])
        refine wpAnyM_done (by kernel_rfl) ?_ _
        go_wp2_with fail
        first
        | go_end0
        | refine bodyPost_ret (results_none rfl _ _ _) rfl ?_
        have hq := HQ.out
        rw [if_neg (by decide)] at hq
        subst hq
        exact (show ToldE2 _ _ _ _ _ _ _ from ⟨(Turn.of_below HB3.out (Nat.le_refl _)).trans (Turn.setCell _ _ rfl), _, HX3.out.set _, .inl ⟨rfl, x, rfl, bytes_box HZ.out HX3.out _⟩, .inl ⟨rfl, _, rfl⟩⟩)
  · have HS := Lib.hid (fun W (hW : Below V.heap.size V W) => split10_no s hs W (hmx.below hW hmx.room) h1)
    rw [ht] at HS
    have hv : askX G r s (fun x => x.isDir) 204 = ((splitE s).2, none) := by unfold askX askE; rw [if_pos h1]
    rw [hv]
    have H1 := Lib.hid h1
    clear hT hgood hmx hs b0 b1 b2 b3 hxr hdir h1 ht hv
    go_enter Tryz.func179, Tryz.ntmps179
    go_wp2_with fail
    have hR := HR0.out _ (Below.refl _ V).drew
    refine wp_region_M 6 (fun W : World => W.cell? ⟨ba, 0, none⟩ = some (.func (.func 147) #[] #[]) ∧ W.cell? ⟨bt, 0, none⟩ = some (.pointer (some ⟨T, 0, none⟩)) ∧ W.cell? ⟨bp, 0, none⟩ = some t ∧ Below V.heap.size V W) (by kernel_rfl) ?_
    (refine wpAnyM_take2 8 (i := 0) (v := ?_) rfl (by kernel_rfl) (by kernel_rfl) (fun _ _ _ h => h) (Or.inl ⟨by rfl, ?_⟩) hR ?_; rotate_left; (focus (intro w hSw; (try dsimp only at hSw); go_simp; (try with_reducible rfl))); (try simp only [put_laws])); (refine wpAnyM_take2 8 (i := 1) (v := ?_) rfl (by kernel_rfl) (by kernel_rfl) (fun _ _ _ h => h) (Or.inl ⟨by rfl, ?_⟩) hR ?_; rotate_left; (focus (intro w hSw; (try dsimp only at hSw); go_simp; (try with_reducible rfl))); (try simp only [put_laws])); (refine wpAnyM_take2 8 (i := 2) (v := ?_) rfl (by kernel_rfl) (by kernel_rfl) (fun _ _ _ h => h) (Or.inl ⟨by rfl, ?_⟩) hR ?_; rotate_left; (focus (intro w hSw; (try dsimp only at hSw); go_simp; (try with_reducible rfl))); (try simp only [put_laws]))
    (refine wpAnyM_one (i := 3) rfl (by kernel_rfl) (fun K hK => ?_); rw [if_pos (by rfl)]; (try simp only [elem_laws]))
    go_simp
    refine (HS.out _ hR.2.2.2).mono ?_
    rintro e w1 ⟨rfl, hb⟩
    have hb2 := hR.2.2.2.trans (hb.mono hR.2.2.2.size)
    exact ⟨rfl, (show ToldE2 _ _ _ _ _ _ _ from ⟨Turn.of_below hb2 (Nat.le_refl _), _, HBX.out _ hb2, .inr ⟨H1.out, rfl⟩, .inr ⟨H1.out, rfl⟩⟩)⟩
set_option maxRecDepth 100000 in
set_option maxHeartbeats 8000000 in
theorem toldBytes_any {G : Gr} {w : World} {T r m : Nat} (hT : TreeG w T r G m) (hgood : ∀ b x, G b = some x → x.bytes.length ≤ 448) (hmx : MaxC w) (s : List UInt8) (hs : s.length ≤ 1000000) :
    Calls Tryz.prog 146 #[.pointer (some ⟨T, 0, none⟩), encStr s, .func (.func 147) #[] #[]] w fun e w' => ∃ v, e = .returned (.tuple #[v, .int .i64 (askX G r s (fun x => x.isDir) 204).1]) ∧ ToldX (askX G r s (fun x => x.isDir) 204) (fun W v x => FB W v x.bytes) w' v ∧ Below w.heap.size w w' := by
  have hmf : ∀ (fn : Fn) (first cap : Array Value) (w : World), (Instr.makeFunc fn first cap).run Tryz.prog w = .ok (.func fn first cap) w := fun _ _ _ _ => rfl
  obtain ⟨t1, ht1⟩ : ∃ t, encStr s = .string t := ⟨_, rfl⟩
  obtain ⟨W4, hW4⟩ : ∃ W4, (((w.alloc (.cells #[.pointer (some ⟨T, 0, none⟩)] 52)).alloc (.cells #[.string t1] 9)).alloc (.cells #[.func (.func 147) #[] #[]] 202)).alloc (.cells #[.slice none 0 0] 23) = W4 := ⟨_, rfl⟩
  have hb4 : Below w.heap.size w W4 := by rw [← hW4]; exact (by repeat (first | exact Below.refl _ _ | assumption | refine Below.drew ?_ | refine below_drewN ?_ _ | refine Below.alloc ?_ (by (try simp) <;> omega) _ | refine Below.setCell ?_ (by (try simp) <;> omega) _ | refine Below.trans ?_ (Below.mono (by assumption) (by (try simp) <;> omega))))
  have hz4 : W4.heap.size = w.heap.size + 4 := by rw [← hW4]; simp
  have b1 : Boxed W4 w.heap.size 52 (.pointer (some ⟨T, 0, none⟩)) := by unfold Boxed; rw [← hW4]; (simp only [heap_at, World.size_alloc]; repeat (first | rw [if_pos (by omega)] | rw [if_neg (by omega)] | rw [if_pos trivial]))
  have b0 : Boxed W4 (w.heap.size + 1) 9 (.string t1) := by unfold Boxed; rw [← hW4]; (simp only [heap_at, World.size_alloc]; repeat (first | rw [if_pos (by omega)] | rw [if_neg (by omega)] | rw [if_pos trivial]))
  have b3 : Boxed W4 (w.heap.size + 1 + 1) 202 (.func (.func 147) #[] #[]) := by unfold Boxed; rw [← hW4]; (simp only [heap_at, World.size_alloc]; repeat (first | rw [if_pos (by omega)] | rw [if_neg (by omega)] | rw [if_pos trivial]))
  have b2 : Boxed W4 (w.heap.size + 1 + 1 + 1) 23 (.slice none 0 0) := by unfold Boxed; rw [← hW4]; (simp only [heap_at, World.size_alloc]; repeat (first | rw [if_pos (by omega)] | rw [if_neg (by omega)] | rw [if_pos trivial]))
  obtain ⟨V, hV⟩ : ∃ V, W4.alloc (.cells #[.int .i64 0] 30) = V := ⟨_, rfl⟩
  have h4V : Below W4.heap.size W4 V := by rw [← hV]; exact (Below.refl _ _).alloc (Nat.le_refl _) _
  have hbV : Below w.heap.size w V := hb4.trans (h4V.mono hb4.size)
  have hzV : V.heap.size = w.heap.size + 5 := by rw [← hV, World.size_alloc, hz4]
  have bE : Boxed V W4.heap.size 30 (.int .i64 0) := by rw [← hV]; exact Boxed.new _ _ _
  rw [← ht1] at b0
  have hcl := toldBytes1_any (hT.below hbV) hgood (hmx.below hbV hmx.room) s hs (boxed_low b3 h4V) (boxed_low b1 h4V) (boxed_low b0 h4V) (boxed_low b2 h4V)
  obtain ⟨Q, hQ⟩ : ∃ Q, askX G r s (fun x => x.isDir) 204 = Q := ⟨_, rfl⟩
  rw [hQ] at hcl ⊢
  have htr := tried10_any (f := 179) (enters_of Tryz.func179 (by kernel_rfl) rfl) #[.pointer (some ⟨w.heap.size + 1 + 1, 0, none⟩), .pointer (some ⟨w.heap.size, 0, none⟩), .pointer (some ⟨w.heap.size + 1, 0, none⟩), .pointer (some ⟨w.heap.size + 1 + 1 + 1, 0, none⟩)] W4 (hT.below hb4).at_
    (fun c w1 => Turn (fun k => k = w.heap.size + 1 + 1 + 1) V w1 ∧ (∃ v, Boxed w1 (w.heap.size + 1 + 1 + 1) 23 v ∧ ToldX Q (fun W v x => FB W v x.bytes) w1 v) ∧ c = Q.1 ∧ Boxed w1 W4.heap.size 30 (.int .i64 0)) (by
      rw [hV]
      refine hcl.mono fun e w1 h => ?_
      obtain ⟨h1, v, h2, h3, h4⟩ := h
      have hbe : Boxed w1 W4.heap.size 30 (.int .i64 0) := (h1.block _ (by omega) (by omega)).trans bE
      exact ⟨Q.1, hbe, ⟨h1, ⟨v, h2, h3⟩, rfl, hbe⟩, h4⟩)
  have HTR := Lib.hid htr
  have HW4 := Lib.hid hW4
  have HEND : Hid (∀ w1 w' v, Turn (fun k => k = w.heap.size + 1 + 1 + 1) V w1 → Turn (fun k => k = W4.heap.size) w1 w' → Boxed w1 W4.heap.size 30 (.int .i64 0) → Boxed w1 (w.heap.size + 1 + 1 + 1) 23 v → ToldX Q (fun W v x => FB W v x.bytes) w1 v → Boxed w' (w.heap.size + 1 + 1 + 1) 23 v ∧ Below w.heap.size w w' ∧ ToldX Q (fun W v x => FB W v x.bytes) w' v) := show ∀ w1 w' v, _ from fun w1 w' v h1 h2 hbe h3 h4 =>
    ⟨(h2.block _ h3.lt (by omega)).trans h3, hbV.trans ((h1.below (B := w.heap.size) (fun k hk => by omega) (by omega)).trans (h2.below (B := w.heap.size) (fun k hk => by omega) (by have := h1.size; omega))), by
      rcases h4 with ⟨q0, x, q1, q2⟩ | h4
      · exact .inl ⟨q0, x, q1, bytes_turn q2 hbe h2⟩
      · exact .inr h4⟩
  rw [ht1]
  clear htr hcl hT hgood hmx hs hb4 hz4 b0 b1 b2 b3 h4V hbV hzV bE hW4 hV hQ ht1
  go_enter Tryz.func146, Tryz.ntmps146
  go_wp2_with fail
  rw [HW4.out]
  refine HTR.out.mono ?_
  rintro e w' ⟨c, w1, rfl, ⟨g1, ⟨v, g2, g3⟩, rfl, g4⟩, ht⟩
  obtain ⟨f1, f2, f3⟩ := HEND.out w1 w' v g1 ht g4 g2 g3
  have xc := f1.cell
  have xf := f1.frozen
  have hsv : ∃ a n c, v = .slice a n c := by
    rcases f3 with ⟨-, x, -, q⟩ | ⟨-, q⟩
    · exact bytes_slice q
    · exact ⟨_, _, _, q⟩
  obtain ⟨va, vn, vc, rfl⟩ := hsv
  have HF1 := Lib.hid (f1.set (.slice va vn vc))
  have HF2 : Hid (Below w.heap.size w (w'.setCell ⟨w.heap.size + 1 + 1 + 1, 0, none⟩ (.slice va vn vc))) := show Below _ _ _ from f2.setCell (p := ⟨w.heap.size + 1 + 1 + 1, 0, none⟩) (by show w.heap.size ≤ w.heap.size + 1 + 1 + 1; omega) _
  have HF3 : Hid (ToldX Q (fun W v x => FB W v x.bytes) (w'.setCell ⟨w.heap.size + 1 + 1 + 1, 0, none⟩ (.slice va vn vc)) (.slice va vn vc)) := show ToldX _ _ _ _ from by
    rcases f3 with ⟨q0, x, q1, q2⟩ | f3
    · exact .inl ⟨q0, x, q1, bytes_box q2 f1 _⟩
    · exact .inr f3
  clear f1 f2 f3 g1 g2 g3 g4 ht
  go_wp2_with fail
  have hld : (loadVar 23 ⟨w.heap.size + 1 + 1 + 1, 0, none⟩).run Tryz.prog (w'.setCell ⟨w.heap.size + 1 + 1 + 1, 0, none⟩ (.slice va vn vc)) = .ok (.slice va vn vc) (w'.setCell ⟨w.heap.size + 1 + 1 + 1, 0, none⟩ (.slice va vn vc)) := by
    have hc := HF1.out.cell
    simp [go_sem, hc]
  exact bodyPost_ret (results_cell_tmp (fn := Tryz.f146) rfl rfl hld rfl) rfl ⟨_, rfl, HF3.out, HF2.out⟩
theorem bytes10_any {G : Gr} {w : World} {T r m : Nat} (hT : TreeG w T r G m) (hgood : ∀ b x, G b = some x → x.bytes.length ≤ 448) (hmx : MaxC w) (s : List UInt8) (hs : s.length ≤ 1000000) :
    Calls Tryz.prog 120 #[.pointer (some ⟨T, 0, none⟩), encStr s] w fun e w' => ∃ v, e = .returned (.tuple #[v, .int .i64 (askX G r s (fun x => x.isDir) 204).1]) ∧ ToldX (askX G r s (fun x => x.isDir) 204) (fun W v x => FB W v x.bytes) w' v ∧ Below w.heap.size w w' := by
  have H := Lib.hid (toldBytes_any hT hgood hmx s hs)
  obtain ⟨Q, hQ⟩ : ∃ Q, askX G r s (fun x => x.isDir) 204 = Q := ⟨_, rfl⟩
  rw [hQ] at H ⊢
  obtain ⟨t, ht⟩ : ∃ t, encStr s = t := ⟨_, rfl⟩
  rw [ht] at H ⊢
  clear hT hgood hmx hs hQ ht
  go_enter Tryz.func120, Tryz.ntmps120
  go_wp2_with fail
  refine H.out.mono ?_
  rintro e w' ⟨v, rfl, hq, hb⟩
  have HB := Lib.hid hb
  have HX := Lib.hid hq
  clear hb hq
  go_wp2_with fail
  go_ret2
  exact ⟨_, rfl, HX.out, HB.out⟩
set_option maxRecDepth 100000 in
set_option maxHeartbeats 16000000 in
theorem toldNames1_any {G : Gr} {V : World} {T r m ba bt bp bx : Nat} (hT : TreeG V T r G m) (hgood : ∀ b x, G b = some x → (∀ p ∈ x.nm, rightN p.1 = true) ∧ x.cnt ≤ 1000) (hmx : MaxC V) (s : List UInt8) (hs : s.length ≤ 1000000) (b3 : Boxed V ba 205 (.func (.func 150) #[] #[])) (b1 : Boxed V bt 52 (.pointer (some ⟨T, 0, none⟩))) (b0 : Boxed V bp 9 (encStr s)) (b2 : Boxed V bx 42 (.slice none 0 0)) :
    Calls Tryz.prog 180 #[.pointer (some ⟨ba, 0, none⟩), .pointer (some ⟨bt, 0, none⟩), .pointer (some ⟨bp, 0, none⟩), .pointer (some ⟨bx, 0, none⟩)] V (ToldE2 (askX G r s (fun x => !x.isDir) 201) bx 42 (fun W v x => TxS W v (sortU (x.nm.map (·.1)))) V) := by
  obtain ⟨xr, hxr, hdir⟩ := hT.root
  obtain ⟨t, ht⟩ : ∃ t, encStr s = t := ⟨_, rfl⟩
  rw [ht] at b0
  have HR0 : Hid (∀ W, Below V.heap.size V W → (fun W : World => W.cell? ⟨ba, 0, none⟩ = some (.func (.func 150) #[] #[]) ∧ W.cell? ⟨bt, 0, none⟩ = some (.pointer (some ⟨T, 0, none⟩)) ∧ W.cell? ⟨bp, 0, none⟩ = some t ∧ Below V.heap.size V W) W) := show ∀ W, _ from fun W hW => ⟨(boxed_low b3 hW).cell, (boxed_low b1 hW).cell, (boxed_low b0 hW).cell, hW⟩
  have HBX : Hid (∀ W, Below V.heap.size V W → Boxed W bx 42 (.slice none 0 0)) := show ∀ W, _ from fun W hW => boxed_low b2 hW
  by_cases h1 : (splitE s).2 = 0
  · have HS := Lib.hid (fun W (hW : Below V.heap.size V W) => split10_ok s hs W (hmx.below hW hmx.room) h1)
    rw [ht] at HS
    have hsl := splitE_len s
    have hsr := splitE_right s
    have HAT := Lib.hid (fun W v (hW : Below V.heap.size V W) (hv : TxS W v (splitE s).1) => at10_any (hT.below hW).nodes hT.leads (hT.below hW).at_ hxr (names := (splitE s).1) (by omega) (rightN_short hsr) hv)
    have hA : askE G r s = walkN G r (splitE s).1 := if_neg (by simpa using h1)
    cases hw : walkN G r (splitE s).1 with
    | error c =>
      have hc : c ≠ 0 := by rcases walkN_err hT.leads _ _ _ _ hxr hw with rfl | rfl <;> decide
      rw [hw] at HAT hA
      have hv : askX G r s (fun x => !x.isDir) 201 = (c, none) := by unfold askX; rw [hA]
      rw [hv]
      have HC := Lib.hid hc
      obtain ⟨names, hnm⟩ : ∃ names, (splitE s).1 = names := ⟨_, rfl⟩
      rw [hnm] at HS HAT
      clear hT hgood hmx hs b0 b1 b2 b3 hxr hdir h1 ht hsl hsr hA hw hc hv hnm
      go_enter Tryz.func180, Tryz.ntmps180
      go_wp2_with fail
      have hR := HR0.out _ (Below.refl _ V).drew
      refine wp_region_M 6 (fun W : World => W.cell? ⟨ba, 0, none⟩ = some (.func (.func 150) #[] #[]) ∧ W.cell? ⟨bt, 0, none⟩ = some (.pointer (some ⟨T, 0, none⟩)) ∧ W.cell? ⟨bp, 0, none⟩ = some t ∧ Below V.heap.size V W) (by kernel_rfl) ?_
      (refine wpAnyM_take2 8 (i := 0) (v := ?_) rfl (by kernel_rfl) (by kernel_rfl) (fun _ _ _ h => h) (Or.inl ⟨by rfl, ?_⟩) hR ?_; rotate_left; (focus (intro w hSw; (try dsimp only at hSw); go_simp; (try with_reducible rfl))); (try simp only [put_laws])); (refine wpAnyM_take2 8 (i := 1) (v := ?_) rfl (by kernel_rfl) (by kernel_rfl) (fun _ _ _ h => h) (Or.inl ⟨by rfl, ?_⟩) hR ?_; rotate_left; (focus (intro w hSw; (try dsimp only at hSw); go_simp; (try with_reducible rfl))); (try simp only [put_laws])); (refine wpAnyM_take2 8 (i := 2) (v := ?_) rfl (by kernel_rfl) (by kernel_rfl) (fun _ _ _ h => h) (Or.inl ⟨by rfl, ?_⟩) hR ?_; rotate_left; (focus (intro w hSw; (try dsimp only at hSw); go_simp; (try with_reducible rfl))); (try simp only [put_laws]))
      (refine wpAnyM_one (i := 3) rfl (by kernel_rfl) (fun K hK => ?_); rw [if_pos (by rfl)]; (try simp only [elem_laws]))
      go_simp
      refine (HS.out _ hR.2.2.2).mono ?_
      rintro e w1 ⟨u, rfl, ho, hb⟩
      have hR' := HR0.out _ (hR.2.2.2.trans (hb.mono hR.2.2.2.size))
      refine hK _ _ (fun _ => hR') ?_
      clear hK K hR hb
      have hR := hR'
      clear hR'
      (try simp only [put_laws])
      (refine wpAnyM_one (i := 4) rfl (by kernel_rfl) (fun K hK => ?_); rw [if_pos (by rfl)]; (try simp only [elem_laws]))
      go_simp
      refine (HAT.out _ _ hR.2.2.2 ho.txs).mono ?_
      rintro e w2 ⟨hb, rfl⟩
      have hb2 := hR.2.2.2.trans (hb.mono hR.2.2.2.size)
      exact ⟨rfl, (show ToldE2 _ _ _ _ _ _ _ from ⟨Turn.of_below hb2 (Nat.le_refl _), _, HBX.out _ hb2, .inr ⟨HC.out, rfl⟩, .inr ⟨HC.out, rfl⟩⟩)⟩
    | ok b =>
      obtain ⟨x, hx⟩ := walkN_leads hT.leads _ _ _ _ hxr hw
      rw [hw] at HAT hA
      have hv : askX G r s (fun x => !x.isDir) 201 = if (fun x => !x.isDir) x = true then (201, none) else (0, some x) := by unfold askX; rw [hA]; simp only [hx]
      rw [hv]
      have HAK := Lib.hid (fun W (hW : Below V.heap.size V W) => askNames_any ((hT.below hW).nodes b x hx) (hgood b x hx).1 (hgood b x hx).2)
      obtain ⟨names, hnm⟩ : ∃ names, (splitE s).1 = names := ⟨_, rfl⟩
      rw [hnm] at HS HAT
      obtain ⟨bd, hbd⟩ : ∃ bd, (fun x => !x.isDir) x = bd := ⟨_, rfl⟩
      rw [hbd]
      dsimp only at hbd
      rw [hbd] at HAK
      obtain ⟨Q, hQ⟩ : ∃ Q, (if bd = true then (201, none) else (0, some x) : Int × Option TN) = Q := ⟨_, rfl⟩
      have HQ := Lib.hid hQ
      rw [hQ]
      clear hT hgood hmx hs b0 b1 b2 b3 hxr hdir h1 ht hsl hsr hA hw hv hnm hx hbd hQ
      go_enter Tryz.func180, Tryz.ntmps180
      go_wp2_with fail
      have hR := HR0.out _ (Below.refl _ V).drew
      refine wp_region_M 6 (fun W : World => W.cell? ⟨ba, 0, none⟩ = some (.func (.func 150) #[] #[]) ∧ W.cell? ⟨bt, 0, none⟩ = some (.pointer (some ⟨T, 0, none⟩)) ∧ W.cell? ⟨bp, 0, none⟩ = some t ∧ Below V.heap.size V W) (by kernel_rfl) ?_
      (refine wpAnyM_take2 8 (i := 0) (v := ?_) rfl (by kernel_rfl) (by kernel_rfl) (fun _ _ _ h => h) (Or.inl ⟨by rfl, ?_⟩) hR ?_; rotate_left; (focus (intro w hSw; (try dsimp only at hSw); go_simp; (try with_reducible rfl))); (try simp only [put_laws])); (refine wpAnyM_take2 8 (i := 1) (v := ?_) rfl (by kernel_rfl) (by kernel_rfl) (fun _ _ _ h => h) (Or.inl ⟨by rfl, ?_⟩) hR ?_; rotate_left; (focus (intro w hSw; (try dsimp only at hSw); go_simp; (try with_reducible rfl))); (try simp only [put_laws])); (refine wpAnyM_take2 8 (i := 2) (v := ?_) rfl (by kernel_rfl) (by kernel_rfl) (fun _ _ _ h => h) (Or.inl ⟨by rfl, ?_⟩) hR ?_; rotate_left; (focus (intro w hSw; (try dsimp only at hSw); go_simp; (try with_reducible rfl))); (try simp only [put_laws]))
      (refine wpAnyM_one (i := 3) rfl (by kernel_rfl) (fun K hK => ?_); rw [if_pos (by rfl)]; (try simp only [elem_laws]))
      go_simp
      refine (HS.out _ hR.2.2.2).mono ?_
      rintro e w1 ⟨u, rfl, ho, hb⟩
      have hR' := HR0.out _ (hR.2.2.2.trans (hb.mono hR.2.2.2.size))
      refine hK _ _ (fun _ => hR') ?_
      clear hK K hR hb
      have hR := hR'
      clear hR'
      (try simp only [put_laws])
      (refine wpAnyM_one (i := 4) rfl (by kernel_rfl) (fun K hK => ?_); rw [if_pos (by rfl)]; (try simp only [elem_laws]))
      go_simp
      refine (HAT.out _ _ hR.2.2.2 ho.txs).mono ?_
      rintro e w2 ⟨hb, rfl⟩
      have hR' := HR0.out _ (hR.2.2.2.trans (hb.mono hR.2.2.2.size))
      refine hK _ _ (fun _ => hR') ?_
      clear hK K hR hb ho
      have hR := hR'
      clear hR'
      (try simp only [put_laws])
      (refine wpAnyM_one (i := 5) rfl (by kernel_rfl) (fun K hK => ?_); rw [if_pos (by rfl)]; (try simp only [elem_laws]))
      go_simp
      refine (HAK.out _ hR.2.2.2).mono ?_
      rintro e w3 (⟨rfl, rfl, rfl⟩ | ⟨rfl, z, rfl, hz, hb3⟩)
      · have hq := HQ.out
        rw [if_pos rfl] at hq
        subst hq
        exact ⟨rfl, (show ToldE2 _ _ _ _ _ _ _ from ⟨Turn.of_below hR.2.2.2 (Nat.le_refl _), _, HBX.out _ hR.2.2.2, .inr ⟨by decide, rfl⟩, .inr ⟨by decide, rfl⟩⟩)⟩
      · have hR' := HR0.out _ (hR.2.2.2.trans (hb3.mono hR.2.2.2.size))
        refine hK _ _ (fun _ => hR') ?_
        clear hK K hR hb3
        have hR := hR'
        clear hR'
        have HZ := Lib.hid hz
        clear hz
        (try simp only [put_laws])
        have hbx := HBX.out _ hR.2.2.2
        have xc := hbx.cell
        have xf := hbx.frozen
        have HB3 := Lib.hid hR.2.2.2
        have HX3 := Lib.hid hbx
        clear hbx
        obtain ⟨za, zn, zc, rfl⟩ : ∃ a n c, z = .slice a n c := names_slice HZ.out
        (refine wpAnyM_last rfl (by kernel_rfl) (fun K hK => ?_); rw [if_pos (by rfl)]; (try simp only [elem_laws]))
        go_simp
        refine hK _ _ ?_
        clear hK K hR xc xf
        (try simp only [put_laws])
        refine wpAnyM_done (by kernel_rfl) ?_ _
        go_wp2_with fail
        first
        | go_end0
        | refine bodyPost_ret (results_none rfl _ _ _) rfl ?_
        have hq := HQ.out
        rw [if_neg (by decide)] at hq
        subst hq
        exact (show ToldE2 _ _ _ _ _ _ _ from ⟨(Turn.of_below HB3.out (Nat.le_refl _)).trans (Turn.setCell _ _ rfl), _, HX3.out.set _, .inl ⟨rfl, x, rfl, names_box HZ.out HX3.out _⟩, .inl ⟨rfl, _, rfl⟩⟩)
  · have HS := Lib.hid (fun W (hW : Below V.heap.size V W) => split10_no s hs W (hmx.below hW hmx.room) h1)
    rw [ht] at HS
    have hv : askX G r s (fun x => !x.isDir) 201 = ((splitE s).2, none) := by unfold askX askE; rw [if_pos h1]
    rw [hv]
    have H1 := Lib.hid h1
    clear hT hgood hmx hs b0 b1 b2 b3 hxr hdir h1 ht hv
    go_enter Tryz.func180, Tryz.ntmps180
    go_wp2_with fail
    have hR := HR0.out _ (Below.refl _ V).drew
    refine wp_region_M 6 (fun W : World => W.cell? ⟨ba, 0, none⟩ = some (.func (.func 150) #[] #[]) ∧ W.cell? ⟨bt, 0, none⟩ = some (.pointer (some ⟨T, 0, none⟩)) ∧ W.cell? ⟨bp, 0, none⟩ = some t ∧ Below V.heap.size V W) (by kernel_rfl) ?_
    (refine wpAnyM_take2 8 (i := 0) (v := ?_) rfl (by kernel_rfl) (by kernel_rfl) (fun _ _ _ h => h) (Or.inl ⟨by rfl, ?_⟩) hR ?_; rotate_left; (focus (intro w hSw; (try dsimp only at hSw); go_simp; (try with_reducible rfl))); (try simp only [put_laws])); (refine wpAnyM_take2 8 (i := 1) (v := ?_) rfl (by kernel_rfl) (by kernel_rfl) (fun _ _ _ h => h) (Or.inl ⟨by rfl, ?_⟩) hR ?_; rotate_left; (focus (intro w hSw; (try dsimp only at hSw); go_simp; (try with_reducible rfl))); (try simp only [put_laws])); (refine wpAnyM_take2 8 (i := 2) (v := ?_) rfl (by kernel_rfl) (by kernel_rfl) (fun _ _ _ h => h) (Or.inl ⟨by rfl, ?_⟩) hR ?_; rotate_left; (focus (intro w hSw; (try dsimp only at hSw); go_simp; (try with_reducible rfl))); (try simp only [put_laws]))
    (refine wpAnyM_one (i := 3) rfl (by kernel_rfl) (fun K hK => ?_); rw [if_pos (by rfl)]; (try simp only [elem_laws]))
    go_simp
    refine (HS.out _ hR.2.2.2).mono ?_
    rintro e w1 ⟨rfl, hb⟩
    have hb2 := hR.2.2.2.trans (hb.mono hR.2.2.2.size)
    exact ⟨rfl, (show ToldE2 _ _ _ _ _ _ _ from ⟨Turn.of_below hb2 (Nat.le_refl _), _, HBX.out _ hb2, .inr ⟨H1.out, rfl⟩, .inr ⟨H1.out, rfl⟩⟩)⟩
set_option maxRecDepth 100000 in
set_option maxHeartbeats 8000000 in
theorem toldNames_any {G : Gr} {w : World} {T r m : Nat} (hT : TreeG w T r G m) (hgood : ∀ b x, G b = some x → (∀ p ∈ x.nm, rightN p.1 = true) ∧ x.cnt ≤ 1000) (hmx : MaxC w) (s : List UInt8) (hs : s.length ≤ 1000000) :
    Calls Tryz.prog 149 #[.pointer (some ⟨T, 0, none⟩), encStr s, .func (.func 150) #[] #[]] w fun e w' => ∃ v, e = .returned (.tuple #[v, .int .i64 (askX G r s (fun x => !x.isDir) 201).1]) ∧ ToldX (askX G r s (fun x => !x.isDir) 201) (fun W v x => TxS W v (sortU (x.nm.map (·.1)))) w' v ∧ Below w.heap.size w w' := by
  have hmf : ∀ (fn : Fn) (first cap : Array Value) (w : World), (Instr.makeFunc fn first cap).run Tryz.prog w = .ok (.func fn first cap) w := fun _ _ _ _ => rfl
  obtain ⟨t1, ht1⟩ : ∃ t, encStr s = .string t := ⟨_, rfl⟩
  obtain ⟨W4, hW4⟩ : ∃ W4, (((w.alloc (.cells #[.pointer (some ⟨T, 0, none⟩)] 52)).alloc (.cells #[.string t1] 9)).alloc (.cells #[.func (.func 150) #[] #[]] 205)).alloc (.cells #[.slice none 0 0] 42) = W4 := ⟨_, rfl⟩
  have hb4 : Below w.heap.size w W4 := by rw [← hW4]; exact (by repeat (first | exact Below.refl _ _ | assumption | refine Below.drew ?_ | refine below_drewN ?_ _ | refine Below.alloc ?_ (by (try simp) <;> omega) _ | refine Below.setCell ?_ (by (try simp) <;> omega) _ | refine Below.trans ?_ (Below.mono (by assumption) (by (try simp) <;> omega))))
  have hz4 : W4.heap.size = w.heap.size + 4 := by rw [← hW4]; simp
  have b1 : Boxed W4 w.heap.size 52 (.pointer (some ⟨T, 0, none⟩)) := by unfold Boxed; rw [← hW4]; (simp only [heap_at, World.size_alloc]; repeat (first | rw [if_pos (by omega)] | rw [if_neg (by omega)] | rw [if_pos trivial]))
  have b0 : Boxed W4 (w.heap.size + 1) 9 (.string t1) := by unfold Boxed; rw [← hW4]; (simp only [heap_at, World.size_alloc]; repeat (first | rw [if_pos (by omega)] | rw [if_neg (by omega)] | rw [if_pos trivial]))
  have b3 : Boxed W4 (w.heap.size + 1 + 1) 205 (.func (.func 150) #[] #[]) := by unfold Boxed; rw [← hW4]; (simp only [heap_at, World.size_alloc]; repeat (first | rw [if_pos (by omega)] | rw [if_neg (by omega)] | rw [if_pos trivial]))
  have b2 : Boxed W4 (w.heap.size + 1 + 1 + 1) 42 (.slice none 0 0) := by unfold Boxed; rw [← hW4]; (simp only [heap_at, World.size_alloc]; repeat (first | rw [if_pos (by omega)] | rw [if_neg (by omega)] | rw [if_pos trivial]))
  obtain ⟨V, hV⟩ : ∃ V, W4.alloc (.cells #[.int .i64 0] 30) = V := ⟨_, rfl⟩
  have h4V : Below W4.heap.size W4 V := by rw [← hV]; exact (Below.refl _ _).alloc (Nat.le_refl _) _
  have hbV : Below w.heap.size w V := hb4.trans (h4V.mono hb4.size)
  have hzV : V.heap.size = w.heap.size + 5 := by rw [← hV, World.size_alloc, hz4]
  have bE : Boxed V W4.heap.size 30 (.int .i64 0) := by rw [← hV]; exact Boxed.new _ _ _
  rw [← ht1] at b0
  have hcl := toldNames1_any (hT.below hbV) hgood (hmx.below hbV hmx.room) s hs (boxed_low b3 h4V) (boxed_low b1 h4V) (boxed_low b0 h4V) (boxed_low b2 h4V)
  obtain ⟨Q, hQ⟩ : ∃ Q, askX G r s (fun x => !x.isDir) 201 = Q := ⟨_, rfl⟩
  rw [hQ] at hcl ⊢
  have htr := tried10_any (f := 180) (enters_of Tryz.func180 (by kernel_rfl) rfl) #[.pointer (some ⟨w.heap.size + 1 + 1, 0, none⟩), .pointer (some ⟨w.heap.size, 0, none⟩), .pointer (some ⟨w.heap.size + 1, 0, none⟩), .pointer (some ⟨w.heap.size + 1 + 1 + 1, 0, none⟩)] W4 (hT.below hb4).at_
    (fun c w1 => Turn (fun k => k = w.heap.size + 1 + 1 + 1) V w1 ∧ (∃ v, Boxed w1 (w.heap.size + 1 + 1 + 1) 42 v ∧ ToldX Q (fun W v x => TxS W v (sortU (x.nm.map (·.1)))) w1 v) ∧ c = Q.1 ∧ Boxed w1 W4.heap.size 30 (.int .i64 0)) (by
      rw [hV]
      refine hcl.mono fun e w1 h => ?_
      obtain ⟨h1, v, h2, h3, h4⟩ := h
      have hbe : Boxed w1 W4.heap.size 30 (.int .i64 0) := (h1.block _ (by omega) (by omega)).trans bE
      exact ⟨Q.1, hbe, ⟨h1, ⟨v, h2, h3⟩, rfl, hbe⟩, h4⟩)
  have HTR := Lib.hid htr
  have HW4 := Lib.hid hW4
  have HEND : Hid (∀ w1 w' v, Turn (fun k => k = w.heap.size + 1 + 1 + 1) V w1 → Turn (fun k => k = W4.heap.size) w1 w' → Boxed w1 W4.heap.size 30 (.int .i64 0) → Boxed w1 (w.heap.size + 1 + 1 + 1) 42 v → ToldX Q (fun W v x => TxS W v (sortU (x.nm.map (·.1)))) w1 v → Boxed w' (w.heap.size + 1 + 1 + 1) 42 v ∧ Below w.heap.size w w' ∧ ToldX Q (fun W v x => TxS W v (sortU (x.nm.map (·.1)))) w' v) := show ∀ w1 w' v, _ from fun w1 w' v h1 h2 hbe h3 h4 =>
    ⟨(h2.block _ h3.lt (by omega)).trans h3, hbV.trans ((h1.below (B := w.heap.size) (fun k hk => by omega) (by omega)).trans (h2.below (B := w.heap.size) (fun k hk => by omega) (by have := h1.size; omega))), by
      rcases h4 with ⟨q0, x, q1, q2⟩ | h4
      · exact .inl ⟨q0, x, q1, names_turn q2 hbe h2⟩
      · exact .inr h4⟩
  rw [ht1]
  clear htr hcl hT hgood hmx hs hb4 hz4 b0 b1 b2 b3 h4V hbV hzV bE hW4 hV hQ ht1
  go_enter Tryz.func149, Tryz.ntmps149
  go_wp2_with fail
  rw [HW4.out]
  refine HTR.out.mono ?_
  rintro e w' ⟨c, w1, rfl, ⟨g1, ⟨v, g2, g3⟩, rfl, g4⟩, ht⟩
  obtain ⟨f1, f2, f3⟩ := HEND.out w1 w' v g1 ht g4 g2 g3
  have xc := f1.cell
  have xf := f1.frozen
  have hsv : ∃ a n c, v = .slice a n c := by
    rcases f3 with ⟨-, x, -, q⟩ | ⟨-, q⟩
    · exact names_slice q
    · exact ⟨_, _, _, q⟩
  obtain ⟨va, vn, vc, rfl⟩ := hsv
  have HF1 := Lib.hid (f1.set (.slice va vn vc))
  have HF2 : Hid (Below w.heap.size w (w'.setCell ⟨w.heap.size + 1 + 1 + 1, 0, none⟩ (.slice va vn vc))) := show Below _ _ _ from f2.setCell (p := ⟨w.heap.size + 1 + 1 + 1, 0, none⟩) (by show w.heap.size ≤ w.heap.size + 1 + 1 + 1; omega) _
  have HF3 : Hid (ToldX Q (fun W v x => TxS W v (sortU (x.nm.map (·.1)))) (w'.setCell ⟨w.heap.size + 1 + 1 + 1, 0, none⟩ (.slice va vn vc)) (.slice va vn vc)) := show ToldX _ _ _ _ from by
    rcases f3 with ⟨q0, x, q1, q2⟩ | f3
    · exact .inl ⟨q0, x, q1, names_box q2 f1 _⟩
    · exact .inr f3
  clear f1 f2 f3 g1 g2 g3 g4 ht
  go_wp2_with fail
  have hld : (loadVar 42 ⟨w.heap.size + 1 + 1 + 1, 0, none⟩).run Tryz.prog (w'.setCell ⟨w.heap.size + 1 + 1 + 1, 0, none⟩ (.slice va vn vc)) = .ok (.slice va vn vc) (w'.setCell ⟨w.heap.size + 1 + 1 + 1, 0, none⟩ (.slice va vn vc)) := by
    have hc := HF1.out.cell
    simp [go_sem, hc]
  exact bodyPost_ret (results_cell_tmp (fn := Tryz.f149) rfl rfl hld rfl) rfl ⟨_, rfl, HF3.out, HF2.out⟩
theorem names10_any {G : Gr} {w : World} {T r m : Nat} (hT : TreeG w T r G m) (hgood : ∀ b x, G b = some x → (∀ p ∈ x.nm, rightN p.1 = true) ∧ x.cnt ≤ 1000) (hmx : MaxC w) (s : List UInt8) (hs : s.length ≤ 1000000) :
    Calls Tryz.prog 122 #[.pointer (some ⟨T, 0, none⟩), encStr s] w fun e w' => ∃ v, e = .returned (.tuple #[v, .int .i64 (askX G r s (fun x => !x.isDir) 201).1]) ∧ ToldX (askX G r s (fun x => !x.isDir) 201) (fun W v x => TxS W v (sortU (x.nm.map (·.1)))) w' v ∧ Below w.heap.size w w' := by
  have H := Lib.hid (toldNames_any hT hgood hmx s hs)
  obtain ⟨Q, hQ⟩ : ∃ Q, askX G r s (fun x => !x.isDir) 201 = Q := ⟨_, rfl⟩
  rw [hQ] at H ⊢
  obtain ⟨t, ht⟩ : ∃ t, encStr s = t := ⟨_, rfl⟩
  rw [ht] at H ⊢
  clear hT hgood hmx hs hQ ht
  go_enter Tryz.func122, Tryz.ntmps122
  go_wp2_with fail
  refine H.out.mono ?_
  rintro e w' ⟨v, rfl, hq, hb⟩
  have HB := Lib.hid hb
  have HX := Lib.hid hq
  clear hb hq
  go_wp2_with fail
  go_ret2
  exact ⟨_, rfl, HX.out, HB.out⟩
end Go.Proofs.YtgoemaecdolioaaGreatDoor
