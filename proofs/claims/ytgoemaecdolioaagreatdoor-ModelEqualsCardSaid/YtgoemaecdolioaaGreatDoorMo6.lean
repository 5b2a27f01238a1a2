/-
  Texts TeA to LaL, as one.
-/
import Derived.Test.YtgoemaecdolioaaGreatDoorMo2
import Derived.Test.YtgoemaecdolioaaGreatDoorMo3
import Derived.Test.YtgoemaecdolioaaGreatDoorMo4
import Derived.Test.YtgoemaecdolioaaGreatDoorMo5
import Derived.Maps.OwnOps
import Derived.Maps.OwnSet
import Derived.Maps.Ext
import Derived.StringKeys
import Derived.RangeFuncCalls
import Derived.Laws.EntriesVeiled
import Derived.Deep.DeepMust
import Derived.Deep.RegionHeld3
import Derived.Laws.Cover1
import Derived.Sort.Walk0
/-
  tree: the names of a directory: a map of texts to nodes.
-/
namespace Go.Proofs.YtgoemaecdolioaaGreatDoor
open Go.RowKit Go.Shelf Go.Maps

/-- How a pointer to a node reads. -/
def ptrElem : Value → Option (DataW Unit × List MemPlace)
  | .pointer (some ⟨b, 0, none⟩) => some (.lit (.int .i64 (b : Nat)), [])
  | .pointer none => some (.nil, [])
  | _ => none
/-- A node, or none. -/
def ptrV : Option Nat → Value
  | some b => .pointer (some ⟨b, 0, none⟩)
  | none => .pointer none
theorem ptrElem_inv {v : Value} {o : Option Nat} {ps : List MemPlace} (h : ptrElem v = some ((match o with | some b => .lit (.int .i64 (b : Nat)) | none => .nil), ps)) : v = ptrV o := by
  unfold ptrElem at h
  split at h
  · cases o with
    | none => cases h
    | some b =>
      simp only [Option.some.injEq, Prod.mk.injEq, DataW.lit.injEq, Lit.int.injEq, true_and] at h
      rw [show b = _ from (Int.ofNat.inj h.1).symm]
      rfl
  · cases o with
    | none => rfl
    | some b => simp at h
  · cases h
/-- Names, rising, and their nodes. -/
abbrev Nm := List (List UInt8 × Nat)
def dNm (nm : Nm) : DataW Unit := .map (nm.map fun p => (.string p.1, .lit (.int .i64 (p.2 : Nat))))
def NameMap (W : World) (b n : Nat) (nm : Nm) : Prop := W.ownsMap Tryz.prog 9 ptrElem b n (dNm nm)
def lookNm (nm : Nm) (s : List UInt8) : Option Nat := (nm.find? fun p => p.1 == s).map (·.2)
def insNm (x : List UInt8 × Nat) : Nm → Nm
  | [] => [x]
  | y :: r => if bytesBefore x.1 y.1 then x :: y :: r else y :: insNm x r
def delNm (nm : Nm) (s : List UInt8) : Nm := nm.filter fun q => !(q.1 == s)
def putNm (nm : Nm) (s : List UInt8) (p : Nat) : Nm := insNm (s, p) (delNm nm s)
theorem insNm_d (s : List UInt8) (p : Nat) : ∀ nm : Nm, DataW.insert ((.string s, .lit (.int .i64 (p : Nat))) : Lit × DataW Unit) (nm.map fun p => (.string p.1, .lit (.int .i64 (p.2 : Nat)))) = (insNm (s, p) nm).map fun p => (.string p.1, .lit (.int .i64 (p.2 : Nat)))
  | [] => rfl
  | y :: r => by
    show (if bytesBefore s y.1 = true then _ else _) = _
    unfold insNm
    by_cases h : bytesBefore s y.1 = true
    · rw [if_pos h, if_pos h]; rfl
    · rw [if_neg h, if_neg h, insNm_d s p r]; rfl
theorem delNm_d (nm : Nm) (s : List UInt8) : ((nm.map fun p => ((.string p.1, .lit (.int .i64 (p.2 : Nat))) : Lit × DataW Unit)).filter fun p => !p.1.sameKey (.string s)) = (delNm nm s).map fun p => (.string p.1, .lit (.int .i64 (p.2 : Nat))) := by
  unfold delNm
  rw [List.filter_map]
  rfl
theorem dNm_put (nm : Nm) (s : List UInt8) (p : Nat) : (dNm nm).put (.string s) (.lit (.int .i64 (p : Nat))) = dNm (putNm nm s p) := by
  unfold dNm DataW.put putNm
  simp only
  rw [delNm_d, insNm_d]
theorem dNm_del (nm : Nm) (s : List UInt8) : (dNm nm).del (.string s) = dNm (delNm nm s) := by
  unfold dNm DataW.del
  simp only
  rw [delNm_d]
theorem dNm_at (nm : Nm) (s : List UInt8) : (dNm nm).atKey (.string s) .nil = (match lookNm nm s with | some b => .lit (.int .i64 (b : Nat)) | none => .nil) := by
  unfold dNm DataW.atKey lookNm
  simp only
  rw [List.find?_map]
  have : ((fun p : Lit × DataW Unit => p.1.sameKey (.string s)) ∘ fun p : List UInt8 × Nat => ((.string p.1, .lit (.int .i64 (p.2 : Nat))) : Lit × DataW Unit)) = fun p => p.1 == s := rfl
  rw [this]
  cases nm.find? fun p => p.1 == s <;> rfl
theorem dNm_size (nm : Nm) : Maps.size (dNm nm) = nm.length := by simp [dNm, Maps.size]
theorem NameMap.lt {W : World} {b n : Nat} {nm : Nm} (h : NameMap W b n nm) : b < W.heap.size := World.ownsMap.lt h
theorem NameMap.keep {W W' : World} {b n : Nat} {nm : Nm} (h : NameMap W b n nm) (hb : W'.heap[b]? = W.heap[b]?) : NameMap W' b n nm := by
  obtain ⟨es, clock, hm, r⟩ := h
  exact ⟨es, clock, hb.trans hm, r⟩
theorem NameMap.turn {q : Nat → Prop} {W W' : World} {b n : Nat} {nm : Nm} (h : NameMap W b n nm) (ht : Turn q W W') (hq : ¬ q b) : NameMap W' b n nm := h.keep (ht.block b h.lt hq)
theorem NameMap.below {B : Nat} {W W' : World} {b n : Nat} {nm : Nm} (h : NameMap W b n nm) (hb : Below B W W') (hl : b < B) : NameMap W' b n nm := h.keep (hb.block b hl)
theorem NameMap.mono {W : World} {b n n' : Nat} {nm : Nm} (h : NameMap W b n nm) (hn : n ≤ n') : NameMap W b n' nm := World.ownsMap.mono h hn
theorem NameMap.new (W : World) : NameMap (W.alloc (.map #[] 0)) W.heap.size 0 [] := World.ownsMap_made W _ _ _
theorem keyed_str : Keyed Tryz.prog 9 := string_keyed Tryz.underlying9
theorem keyS (s : List UInt8) (hs : s.length ≤ 1000) : keyOf Tryz.prog 9 (encStr s) = some (.string s) := by
  have := WideMaps.keyOf_string_mk (P := Tryz.prog) (k := 9) Tryz.underlying9 (s := ⟨s.toArray⟩) (by show s.toArray.size ≤ maxLen; simp; unfold maxLen; omega)
  simpa using this
theorem zero_node (w : World) : (zeroValue 103).run Tryz.prog w = .ok (.pointer none) w := by kernel_rfl
theorem turn_of_grown {W W' : World} {b : Nat} (h : W.grownBy W' (some b)) : Turn (fun k => k = b) W W' := ⟨h.os, h.tape, h.output, h.size, fun k hk hn => h.block k hk (by simpa using hn)⟩
theorem NameMap.look {W : World} {b n : Nat} {nm : Nm} (h : NameMap W b n nm) (s : List UInt8) (hs : s.length ≤ 1000) :
    (Instr.lookup 106 (.map (some b)) (encStr s) false).run Tryz.prog W = .ok (ptrV (lookNm nm s)) W := by
  obtain ⟨v, ps, h1, h2⟩ := World.ownsMap.lookup h keyed_str (show Tryz.prog.underlying 106 = some (.map 9 103) by kernel_rfl) (zero_node W) (zd := .nil) (zp := []) rfl (keyS s hs)
  rw [dNm_at] at h2
  rw [h1, ptrElem_inv h2]
theorem NameMap.store {W : World} {b n : Nat} {nm : Nm} (h : NameMap W b n nm) (hn : n < 1000000) (s : List UInt8) (hs : s.length ≤ 1000) (p : Nat) :
    ∃ W', (Instr.mapUpdate 106 (.map (some b)) (encStr s) (.pointer (some ⟨p, 0, none⟩))).run Tryz.prog W = .ok () W' ∧ NameMap W' b (n + 1) (putNm nm s p) ∧ Turn (fun k => k = b) W W' := by
  obtain ⟨W', h1, h2, h3⟩ := World.ownsMap.update h keyed_str (show Tryz.prog.underlying 106 = some (.map 9 103) by kernel_rfl) (by unfold maxLen; omega) (keyS s hs) (val := .pointer (some ⟨p, 0, none⟩)) (d := .lit (.int .i64 (p : Nat))) (ps := []) rfl
  refine ⟨W', h1, ?_, turn_of_grown h3⟩
  rw [dNm_put] at h2
  exact h2
theorem NameMap.drop {W : World} {b n : Nat} {nm : Nm} (h : NameMap W b n nm) (s : List UInt8) (hs : s.length ≤ 1000) (ty : TypeId) :
    ∃ W', (Builtin.delete_ #[106, 9] ty #[.map (some b), encStr s]).run Tryz.prog W = .ok (.tuple #[]) W' ∧ NameMap W' b n (delNm nm s) ∧ Turn (fun k => k = b) W W' := by
  obtain ⟨W', h1, h2, h3⟩ := World.ownsMap.drop h keyed_str (show Tryz.prog.underlying 106 = some (.map 9 103) by kernel_rfl) (keyS s hs) ty
  refine ⟨W', h1, ?_, turn_of_grown h3.grown⟩
  rw [dNm_del] at h2
  exact h2
theorem NameMap.len {W : World} {b n : Nat} {nm : Nm} (h : NameMap W b n nm) (ty : TypeId) : (Builtin.len_ #[106] ty #[.map (some b)]).run Tryz.prog W = .ok (.int .i64 (nm.length : Nat)) W := by
  have := World.ownsMap.len h (show Tryz.prog.underlying 106 = some (.map 9 103) by kernel_rfl) ty
  rw [dNm_size] at this
  exact this
theorem NameMap.len_le {W : World} {b n : Nat} {nm : Nm} (h : NameMap W b n nm) : nm.length ≤ n := by
  have := World.ownsMap.size_le h
  rwa [dNm_size] at this
end Go.Proofs.YtgoemaecdolioaaGreatDoor

/-
  tree: refusals; a node in memory; what is asked of it.
-/
namespace Go.Proofs.YtgoemaecdolioaaGreatDoor
open Go.RowKit Go.Shelf
attribute [local go_sem] Oper.semAt_some

/-- What is given up with. -/
def refuse (c : Int) : List PanicEntry := [{ v := .iface 216 (.int .i64 c), recovered := false }]
/-- It goes on, or gives up with an error, and memory stays. -/
def Goes (b : Bool) (c : Int) (w : World) (e : Ending) (w' : World) : Prop := (b = true ∧ (∃ u, e = .returned u) ∧ w' = w) ∨ (b = false ∧ e = .panicked (refuse c) ∧ w' = w)
theorem mustGo_ok (w : World) : Calls Tryz.prog 137 #[.int .i64 0] w fun e w' => (∃ u, e = .returned u) ∧ w' = w := by
  go_enter Tryz.func137, Tryz.ntmps137
  go_wp2
  first
  | go_end0
  | refine bodyPost_ret (results_none rfl _ _ _) rfl ?_
  exact ⟨⟨_, rfl⟩, rfl⟩
theorem mustGo_no (c : Int) (h : c ≠ 0) (w : World) : Calls Tryz.prog 137 #[.int .i64 c] w fun e w' => e = .panicked (refuse c) ∧ w' = w := by
  have h1 : (c != 0) = true := by simpa using h
  go_enter Tryz.func137, Tryz.ntmps137
  go_wp2
  exact ⟨rfl, rfl, rfl⟩
theorem mustBe10_any (b : Bool) (c : Int) (h : c ≠ 0) (w : World) : Calls Tryz.prog 106 #[.bool b, .int .i64 c] w (Goes b c w) := by
  have HM := Lib.hid (mustGo_no c h)
  clear h
  cases b
  · go_enter Tryz.func106, Tryz.ntmps106
    go_wp2_with (go_at_call 137; refine (HM.out _).mono ?_; rintro e w' ⟨rfl, rfl⟩)
    exact ⟨rfl, .inr ⟨by first | trivial | rfl, rfl, rfl⟩⟩
  · go_enter Tryz.func106, Tryz.ntmps106
    go_wp2
    first
    | go_end0
    | refine bodyPost_ret (results_none rfl _ _ _) rfl ?_
    exact .inl ⟨by first | trivial | rfl, ⟨_, rfl⟩, rfl⟩
/-- A node: its kind, how many names lead to it, its bytes (as they lie), its names. -/
structure TN where
  kind : Int
  links : Nat
  cont : Value
  bytes : List Nat
  map : Nat
  cnt : Nat
  nm : Nm
def TN.isDir (x : TN) : Bool := x.kind == 2
def TN.cells (x : TN) : Array Value := #[.map (some x.map), .int .i64 x.kind, .int .i64 (x.links : Nat), x.cont]
/-- A node lies at a block. -/
structure NodeAt (W : World) (b : Nat) (x : TN) : Prop where
  blk : Blk W b 108 x.cells
  names : NameMap W x.map x.cnt x.nm
  fb : FB W x.cont x.bytes
theorem isDir_any {W : World} {b : Nat} {x : TN} (h : NodeAt W b x) : Calls Tryz.prog 139 #[.pointer (some ⟨b, 0, none⟩)] W fun e w' => e = .returned (.bool x.isDir) ∧ w' = W := by
  have c1 : W.cell? ⟨b, 1, none⟩ = some (.int .i64 x.kind) := h.blk.cell rfl
  clear h
  go_enter Tryz.func139, Tryz.ntmps139
  go_wp2
  go_ret
  exact ⟨rfl, rfl⟩
theorem mustBeDir_any {W : World} {b : Nat} {x : TN} (h : NodeAt W b x) : Calls Tryz.prog 151 #[.pointer (some ⟨b, 0, none⟩)] W (Goes x.isDir 201 W) := by
  have HD := Lib.hid (isDir_any h)
  have HM := Lib.hid (fun b w => mustBe10_any b 201 (by decide) w)
  clear h
  obtain ⟨d, hd⟩ : ∃ d, x.isDir = d := ⟨_, rfl⟩
  rw [hd] at HD ⊢
  clear hd
  go_enter Tryz.func151, Tryz.ntmps151
  go_wp2_with fail
  refine HD.out.mono ?_
  rintro e w' ⟨rfl, rfl⟩
  go_wp2_with fail
  refine (HM.out _ _).mono ?_
  rintro e w' (⟨rfl, ⟨u, rfl⟩, rfl⟩ | ⟨rfl, rfl, rfl⟩)
  · go_wp2_with fail
    first
    | go_end0
    | refine bodyPost_ret (results_none rfl _ _ _) rfl ?_
    exact .inl ⟨rfl, ⟨_, rfl⟩, rfl⟩
  · exact ⟨rfl, .inr ⟨rfl, rfl, rfl⟩⟩
theorem mustBeFile_any {W : World} {b : Nat} {x : TN} (h : NodeAt W b x) : Calls Tryz.prog 148 #[.pointer (some ⟨b, 0, none⟩)] W (Goes (!x.isDir) 204 W) := by
  have HD := Lib.hid (isDir_any h)
  have HM := Lib.hid (fun b w => mustBe10_any b 204 (by decide) w)
  clear h
  obtain ⟨d, hd⟩ : ∃ d, x.isDir = d := ⟨_, rfl⟩
  rw [hd] at HD ⊢
  clear hd
  obtain ⟨q, hq⟩ : ∃ q, (!d) = q := ⟨_, rfl⟩
  rw [hq]
  have HQ := Lib.hid hq
  go_enter Tryz.func148, Tryz.ntmps148
  go_wp2_with fail
  refine HD.out.mono ?_
  rintro e w' ⟨rfl, rfl⟩
  go_wp2_with fail
  refine (HM.out _ _).mono ?_
  rintro e w' (⟨rfl, ⟨u, rfl⟩, rfl⟩ | ⟨rfl, rfl, rfl⟩)
  · go_wp2_with fail
    first
    | go_end0
    | refine bodyPost_ret (results_none rfl _ _ _) rfl ?_
    exact .inl ⟨by first | rfl | exact hq, ⟨_, rfl⟩, rfl⟩
  · exact ⟨rfl, .inr ⟨by first | rfl | exact hq, rfl, rfl⟩⟩
theorem mustBeEmpty_any {W : World} {b n : Nat} {nm : Nm} (h : NameMap W b n nm) : Calls Tryz.prog 164 #[.map (some b)] W (Goes (((nm.length : Nat) : Int) == 0) 205 W) := by
  have hl := h.len 3
  have HM := Lib.hid (fun b w => mustBe10_any b 205 (by decide) w)
  obtain ⟨k, hk⟩ : ∃ k, nm.length = k := ⟨_, rfl⟩
  rw [hk] at hl ⊢
  clear h hk
  go_enter Tryz.func164, Tryz.ntmps164
  go_wp2_with fail
  refine (HM.out _ _).mono ?_
  rintro e w' (⟨hg, ⟨u, rfl⟩, rfl⟩ | ⟨hg, rfl, rfl⟩)
  · have HG := Lib.hid hg
    clear hg
    go_wp2_with fail
    first
    | go_end0
    | refine bodyPost_ret (results_none rfl _ _ _) rfl ?_
    exact .inl ⟨HG.out, ⟨_, rfl⟩, rfl⟩
  · exact ⟨rfl, .inr ⟨hg, rfl, rfl⟩⟩
/-- It tells a value, or gives up with an error; memory stays. -/
def EndsAs (r : Except Int Value) (w : World) (e : Ending) (w' : World) : Prop := w' = w ∧ e = (match r with | .ok v => .returned v | .error c => .panicked (refuse c))
/-- Where a name leads from a node. -/
def nextN (x : TN) (s : List UInt8) : Except Int Nat := if x.isDir = true then (match lookNm x.nm s with | some c => .ok c | none => .error 202) else .error 201
def ptrE : Except Int Nat → Except Int Value
  | .ok c => .ok (.pointer (some ⟨c, 0, none⟩))
  | .error e => .error e
theorem next_any {W : World} {b : Nat} {x : TN} (h : NodeAt W b x) (s : List UInt8) (hs : s.length ≤ 1000) : Calls Tryz.prog 207 #[.pointer (some ⟨b, 0, none⟩), encStr s] W (EndsAs (ptrE (nextN x s)) W) := by
  have HD := Lib.hid (mustBeDir_any h)
  have HM := Lib.hid (fun b w => mustBe10_any b 202 (by decide) w)
  have c0 : W.cell? ⟨b, 0, none⟩ = some (.map (some x.map)) := h.blk.cell rfl
  have hl := h.names.look s hs
  unfold nextN
  obtain ⟨d, hd⟩ : ∃ d, x.isDir = d := ⟨_, rfl⟩
  rw [hd] at HD ⊢
  obtain ⟨o, ho⟩ : ∃ o, lookNm x.nm s = o := ⟨_, rfl⟩
  rw [ho] at hl ⊢
  clear h hd ho
  obtain ⟨t, ht⟩ : ∃ t, encStr s = t := ⟨_, rfl⟩
  rw [ht] at hl ⊢
  clear ht hs
  go_enter Tryz.func207, Tryz.ntmps207
  go_wp2_with fail
  refine HD.out.mono ?_
  rintro e w' (⟨rfl, ⟨u, rfl⟩, rfl⟩ | ⟨rfl, rfl, rfl⟩)
  · cases o with
    | none =>
      have hl' : (Instr.lookup 106 (.map (some x.map)) t false).run Tryz.prog w' = .ok (.pointer none) w' := hl
      clear hl
      go_wp2_with fail
      refine (HM.out _ _).mono ?_
      rintro e w2 (⟨hg, ⟨u, rfl⟩, rfl⟩ | ⟨hg, rfl, rfl⟩)
      · cases hg
      · exact ⟨rfl, rfl, rfl⟩
    | some c =>
      have hl' : (Instr.lookup 106 (.map (some x.map)) t false).run Tryz.prog w' = .ok (.pointer (some ⟨c, 0, none⟩)) w' := hl
      clear hl
      go_wp2_with fail
      refine (HM.out _ _).mono ?_
      rintro e w2 (⟨hg, ⟨u, rfl⟩, rfl⟩ | ⟨hg, rfl, rfl⟩)
      · clear hg
        go_wp2_with fail
        go_ret
        exact ⟨rfl, rfl⟩
      · cases hg
  · exact ⟨rfl, rfl, rfl⟩
end Go.Proofs.YtgoemaecdolioaaGreatDoor

/-
  label: a text's bytes as an iterator; first.
-/
namespace Go.Proofs.YtgoemaecdolioaaGreatDoor
open Go.RowKit Go.Shelf Go.Sort
attribute [local go_sem] Oper.semAt_some

end Go.Proofs.YtgoemaecdolioaaGreatDoor

/-
  label: the first bytes.
-/
namespace Go.Proofs.YtgoemaecdolioaaGreatDoor
open Go.RowKit Go.Shelf Go.Sort
attribute [local go_sem] Oper.semAt_some

end Go.Proofs.YtgoemaecdolioaaGreatDoor

/-
  label: held, Read, Bucket.
-/
namespace Go.Proofs.YtgoemaecdolioaaGreatDoor
open Go.RowKit Go.Shelf Go.Sort

end Go.Proofs.YtgoemaecdolioaaGreatDoor

/-
  Contracts of the document's Byte and Bytes (waterlineref01).
-/
namespace Go.Proofs.YtgoemaecdolioaaGreatDoor
open Go.RowKit Go.Shelf

end Go.Proofs.YtgoemaecdolioaaGreatDoor

/-
  label: the document's Right, Bucket, Words.
-/
namespace Go.Proofs.YtgoemaecdolioaaGreatDoor
open Go.RowKit Go.Shelf Go.Sort

theorem refRight_early (s : List UInt8) (w : World) (h : s.length < 1 ∨ 40 < s.length ∨ s = [46] ∨ s = [46, 46]) :
    Calls Tryz.prog 58 #[encStr s] w fun e w' => e = .returned (.bool false) ∧ w = w' := by
  by_cases k1 : (s.length : Int) < 1
  · go_enter Tryz.func58, Tryz.ntmps58
    go_wp2
    go_ret
    exact ⟨rfl, rfl⟩
  by_cases k2 : 40 < (s.length : Int)
  · go_enter Tryz.func58, Tryz.ntmps58
    go_wp2
    go_ret
    exact ⟨rfl, rfl⟩
  have h' : s = [46] ∨ s = [46, 46] := by
    rcases h with h | h | h
    · omega
    · omega
    · exact h
  rcases h' with rfl | rfl
  · go_enter Tryz.func58, Tryz.ntmps58
    go_wp2
    go_ret
    exact ⟨rfl, rfl⟩
  · go_enter Tryz.func58, Tryz.ntmps58
    go_wp2
    go_ret
    exact ⟨rfl, rfl⟩
set_option maxRecDepth 100000 in
set_option maxHeartbeats 2000000 in
theorem refRight_late (s : List UInt8) (w : World) (k1 : 1 ≤ s.length) (k2 : s.length ≤ 40) (k3 : ¬ s = [46]) (k4 : ¬ s = [46, 46]) :
    Calls Tryz.prog 58 #[encStr s] w fun e w' => e = .returned (.bool (s.all byteN)) ∧ w = w' := by
  have q1 : ¬ (s.length : Int) < 1 := by omega
  have q2 : ¬ (40 : Int) < (s.length : Int) := by omega
  have q3 : (s == [46]) = false := by simp [k3]
  have q4 : (s == [46, 46]) = false := by simp [k4]
  clear k3 k4
  go_enter Tryz.func58, Tryz.ntmps58
  go_wp2
  go_loopw [3] (fun i wr => ∃ k : Nat, k ≤ s.length ∧ i = .int .i64 (k : Nat) ∧ w = wr ∧ Hid ((s.take k).all byteN = true)) (fun i _ => s.length - (intOf i).toNat)
  case atStart => exact ⟨0, Nat.zero_le _, rfl, rfl, Lib.hid rfl⟩
  case round =>
    obtain ⟨k, hk, rfl, rfl, HA⟩ := hrel
    by_cases hlt : k < s.length
    · have HT := Lib.hid (show s.take (k + 1) = s.take k ++ [s[k]] from List.take_succ_eq_append_getElem hlt)
      have HM := Lib.hid (List.getElem_mem hlt)
      obtain ⟨z, hz⟩ : ∃ z : Nat, s[k].toNat = z := ⟨_, rfl⟩
      have hzz : ∀ h : k < (⟨s.toArray⟩ : ByteArray).size, ((⟨s.toArray⟩ : ByteArray)[k]'h).toNat = z := fun _ => hz
      have hbz : byteN s[k] = true ↔ 33 ≤ z ∧ z ≤ 126 ∧ z ≠ 47 := by
        unfold byteN
        rw [hz]
        simp only [Bool.and_eq_true, decide_eq_true_eq, and_assoc]
      have k3 : (k : Int) < (s.length : Int) := by omega
      clear hz
      by_cases hg : byteN s[k] = true
      · obtain ⟨g1, g2, g3⟩ := hbz.1 hg
        have e1 : ¬ ((z : Int) < 33) := by omega
        have e2 : ¬ ((126 : Int) < z) := by omega
        have e3 : ((z : Int) == 47) = false := by simp; omega
        have HG := Lib.hid hg
        clear hg hbz g1 g2 g3
        go_wp2
        go_roundw
        case rel => exact ⟨k + 1, by omega, by go_num, by trivial, Lib.hid (by rw [HT.out, List.all_append, HA.out]; simp [HG.out])⟩
        case measure => simp [intOf]; omega
      · have HN : Hid (s.all byteN = false) := show _ = _ from List.all_eq_false.2 ⟨s[k], HM.out, by simpa using hg⟩
        have hn : ((decide ((z : Int) < 33) || decide ((126 : Int) < z) || ((z : Int) == 47))) = true := by
          have : ¬ (33 ≤ z ∧ z ≤ 126 ∧ z ≠ 47) := fun h => hg (hbz.2 h)
          simp only [Bool.or_eq_true, decide_eq_true_eq, beq_iff_eq]
          omega
        clear hg hbz
        go_wp2
        all_goals
          go_ret
          exact ⟨by rw [HN.out]; rfl, rfl⟩
    · obtain rfl : k = s.length := by omega
      have hall : s.all byteN = true := by rw [List.take_length] at HA; exact HA.out
      go_wp2
      go_ret
      exact ⟨by rw [hall]; rfl, rfl⟩
theorem refRight6_any (s : List UInt8) (w : World) : Calls Tryz.prog 58 #[encStr s] w fun e w' => e = .returned (.bool (rightN s)) ∧ w = w' := by
  by_cases h : s.length < 1 ∨ 40 < s.length ∨ s = [46] ∨ s = [46, 46]
  · have hr : rightN s = false := by
      cases hr : rightN s with
      | false => rfl
      | true =>
        obtain ⟨h1, h2, h3, h4, -⟩ := (rightN_iff s).1 hr
        rcases h with h | h | h | h
        · omega
        · omega
        · exact absurd h h3
        · exact absurd h h4
    rw [hr]
    exact refRight_early s w h
  · have h1 : 1 ≤ s.length := by
      rcases Nat.lt_or_ge s.length 1 with k | k
      · exact absurd (.inl k) h
      · exact k
    have h2 : s.length ≤ 40 := by
      rcases Nat.lt_or_ge 40 s.length with k | k
      · exact absurd (.inr (.inl k)) h
      · exact k
    have h3 : ¬ s = [46] := fun k => h (.inr (.inr (.inl k)))
    have h4 : ¬ s = [46, 46] := fun k => h (.inr (.inr (.inr k)))
    have hr : rightN s = s.all byteN := by
      unfold rightN
      simp [h1, h2, h3, h4]
    rw [hr]
    exact refRight_late s w h1 h2 h3 h4
end Go.Proofs.YtgoemaecdolioaaGreatDoor

/-
  label: the document's Read.
-/
namespace Go.Proofs.YtgoemaecdolioaaGreatDoor
open Go.RowKit Go.Shelf Go.Sort

end Go.Proofs.YtgoemaecdolioaaGreatDoor

/-
  label: slices of texts; the document's Texts.
-/
namespace Go.Proofs.YtgoemaecdolioaaGreatDoor
open Go.RowKit Go.Shelf Go.Sort

/-- A slice of texts. -/
abbrev TxS (W : World) (v : Value) (l : List (List UInt8)) : Prop := Vec W v l.length 1 (l.map encStr)
theorem TxS.cell {W : World} {v : Value} {l : List (List UInt8)} (h : TxS W v l) : ∃ (a : Option Addr) (cap b off : Nat), v = .slice a l.length cap ∧ l.length ≤ cap ∧ (0 < l.length → a = some ⟨b, off, none⟩) ∧ (0 < l.length → b < W.heap.size ∧ ∀ j, j < l.length → W.cell? ⟨b, off + j, none⟩ = some (encStr (l[j]?.getD []))) := by
  obtain ⟨-, a, cap, rfl, hc, hj⟩ := h
  by_cases h0 : 0 < l.length
  · obtain ⟨b, off, rfl, hb, hx⟩ := hj h0
    exact ⟨_, cap, b, off, rfl, hc, fun _ => rfl, fun _ => ⟨hb, fun j hl => hx j _ (by simp [hl])⟩⟩
  · exact ⟨a, cap, 0, 0, rfl, hc, fun h => absurd h h0, fun h => absurd h h0⟩
theorem txs_same_of (xs ys : List (List UInt8)) (hl : xs.length = ys.length) (h : ∀ j, j < xs.length → xs[j]?.getD [] = ys[j]?.getD []) : decide (xs = ys) = true := by
  refine decide_eq_true (List.ext_getElem hl fun j h1 h2 => ?_)
  have := h j h1
  simpa [h1, h2] using this
theorem txs_ne_of (xs ys : List (List UInt8)) (k : Nat) (h : xs[k]?.getD [] ≠ ys[k]?.getD []) : decide (xs = ys) = false := decide_eq_false fun e => h (by rw [e])
set_option maxRecDepth 100000 in
set_option maxHeartbeats 2000000 in
theorem refTexts_any (v u : Value) (xs ys : List (List UInt8)) (hx : xs.length ≤ 1000000) (_hy : ys.length ≤ 1000000) (w : World) (hv : TxS w v xs) (hu : TxS w u ys) :
    Calls Tryz.prog 29 #[v, u] w fun e w' => e = .returned (.bool (decide (xs = ys))) ∧ Below w.heap.size w w' := by
  obtain ⟨a, cap, b, off, rfl, hlc, ha, hc⟩ := hv.cell
  obtain ⟨a', cap', b', off', rfl, hlc', ha', hc'⟩ := hu.cell
  clear hv hu
  have HC := Lib.hid hc; clear hc
  have HC' := Lib.hid hc'; clear hc'
  by_cases hl : xs.length = ys.length
  · have HL := Lib.hid hl
    have hne : ((xs.length : Int) != (xs.length : Int)) = false := by simp
    rw [← hl] at ha' hlc' ⊢
    clear hl hne
    generalize hn : xs.length = n at *
    go_enter Tryz.func29, Tryz.ntmps29
    go_wp2
    go_loopw [5] (fun i wr => ∃ k : Nat, k ≤ n ∧ i = .int .i64 k ∧ (∀ j, j < k → xs[j]?.getD [] = ys[j]?.getD []) ∧ Below w.heap.size w wr) (fun i _ => n - (intOf i).toNat)
    case atStart => exact ⟨0, Nat.zero_le _, rfl, fun j h => by omega, Below.refl _ _⟩
    case round =>
      obtain ⟨k, hk, rfl, heq, hb⟩ := hrel
      have HE := Lib.hid heq; clear heq
      by_cases hlt : k < n
      · obtain rfl := ha (by omega)
        obtain rfl := ha' (by omega)
        have c1 : wr.cell? ⟨b, off + k, none⟩ = some (encStr (xs[k]?.getD [])) := (hb.cell (p := ⟨b, off + k, none⟩) (HC.out (by omega)).1).trans ((HC.out (by omega)).2 k (by omega))
        have c2 : wr.cell? ⟨b', off' + k, none⟩ = some (encStr (ys[k]?.getD [])) := (hb.cell (p := ⟨b', off' + k, none⟩) (HC'.out (by rw [← HL.out]; omega)).1).trans ((HC'.out (by rw [← HL.out]; omega)).2 k (by rw [← HL.out]; omega))
        have hn' : ((k : Nat) : Int) < (n : Int) := by omega
        obtain ⟨x, hx1⟩ : ∃ x, x = xs[k]?.getD [] := ⟨_, rfl⟩
        obtain ⟨y, hy1⟩ : ∃ y, y = ys[k]?.getD [] := ⟨_, rfl⟩
        rw [← hx1] at c1
        rw [← hy1] at c2
        have HX1 := Lib.hid hx1; clear hx1
        have HY1 := Lib.hid hy1; clear hy1
        by_cases hxy : x = y
        · have HX : Hid (xs[k]?.getD [] = ys[k]?.getD []) := show _ = _ from HX1.out.symm.trans (hxy.trans HY1.out)
          subst hxy
          go_wp2
          go_quiet (fail)
          go_wp2
          go_roundw
          case rel => exact ⟨k + 1, by omega, by go_num, fun j hj => by
            by_cases hjk : j = k
            · rw [hjk]; exact HX.out
            · exact HE.out j (by omega), below_drewN hb _⟩
          case measure => simp [intOf]; omega
        · have hne : (x == y) = false := by simp [hxy]
          have HX := Lib.hid (txs_ne_of xs ys k (by rw [← HX1.out, ← HY1.out]; exact hxy))
          clear hxy
          go_wp2
          go_quiet (fail)
          go_wp2
          go_ret
          exact ⟨ret_bool (by rw [HX.out]), below_drewN hb _⟩
      · go_wp2
        go_ret
        exact ⟨ret_bool (by rw [txs_same_of xs ys (by rw [hn]; exact HL.out) (fun j hj => HE.out j (by omega))]), hb⟩
  · have hne : ((xs.length : Int) != (ys.length : Int)) = true := by rw [bne_iff_ne]; omega
    have HX := Lib.hid (show decide (xs = ys) = false from decide_eq_false fun e => hl (by rw [e]))
    clear hl
    go_enter Tryz.func29, Tryz.ntmps29
    go_wp2
    go_ret
    exact ⟨ret_bool (by rw [HX.out]), Below.refl _ _⟩
end Go.Proofs.YtgoemaecdolioaaGreatDoor

/-
  tree: the way along names.
-/
namespace Go.Proofs.YtgoemaecdolioaaGreatDoor
open Go.RowKit Go.Shelf
attribute [local go_sem] Oper.semAt_some

/-- Nodes, by their blocks. -/
abbrev Gr := Nat → Option TN
def GraphAt (W : World) (G : Gr) : Prop := ∀ b x, G b = some x → NodeAt W b x
/-- Where names lead there are nodes. -/
def Leads (G : Gr) : Prop := ∀ b x s c, G b = some x → lookNm x.nm s = some c → ∃ y, G c = some y
theorem NodeAt.below {W W' : World} {b : Nat} {x : TN} (h : NodeAt W b x) (hb : Below W.heap.size W W') : NodeAt W' b x := ⟨h.blk.below hb h.blk.lt, h.names.below hb h.names.lt, h.fb.below hb⟩
theorem GraphAt.below {W W' : World} {G : Gr} (h : GraphAt W G) (hb : Below W.heap.size W W') : GraphAt W' G := fun b x hx => (h b x hx).below hb
/-- Where names lead. -/
def walkN (G : Gr) : Nat → List (List UInt8) → Except Int Nat
  | b, [] => .ok b
  | b, s :: r => match G b with
    | none => .error 0
    | some x => match nextN x s with
      | .ok c => walkN G c r
      | .error k => .error k
theorem walkN_append (G : Gr) : ∀ (l m : List (List UInt8)) (b : Nat), walkN G b (l ++ m) = (match walkN G b l with | .ok c => walkN G c m | .error k => .error k)
  | [], _, _ => rfl
  | s :: r, m, b => by
    simp only [List.cons_append, walkN]
    cases G b with
    | none => rfl
    | some x =>
      simp only
      cases nextN x s with
      | error k => rfl
      | ok c => exact walkN_append G r m c
theorem nextN_leads {G : Gr} (hS : Leads G) {b : Nat} {x : TN} (hx : G b = some x) {s : List UInt8} {c : Nat} (h : nextN x s = .ok c) : ∃ y, G c = some y := by
  unfold nextN at h
  split at h
  · cases hl : lookNm x.nm s with
    | none => rw [hl] at h; cases h
    | some d =>
      rw [hl] at h
      simp only [Except.ok.injEq] at h
      exact hS b x s c hx (by rw [hl, h])
  · cases h
theorem enter10_any {W : World} {b B : Nat} {x : TN} (h : NodeAt W b x) (hb : Boxed W B 228 (.pointer (some ⟨b, 0, none⟩))) (s : List UInt8) (hs : s.length ≤ 1000) :
    Calls Tryz.prog 187 #[.pointer (some ⟨B, 0, none⟩), encStr s] W fun e w' => match nextN x s with
      | .ok c => (∃ u, e = .returned u) ∧ w' = W.setCell ⟨B, 0, none⟩ (.pointer (some ⟨c, 0, none⟩))
      | .error k => e = .panicked (refuse k) ∧ w' = W := by
  have HN := Lib.hid (next_any h s hs)
  have cbx := hb.cell
  have fbx := hb.frozen
  obtain ⟨r, hr⟩ : ∃ r, nextN x s = r := ⟨_, rfl⟩
  rw [hr] at HN ⊢
  obtain ⟨t, ht⟩ : ∃ t, encStr s = t := ⟨_, rfl⟩
  rw [ht] at HN ⊢
  clear h hb hr ht hs
  go_enter Tryz.func187, Tryz.ntmps187
  go_wp2_with fail
  refine HN.out.mono ?_
  rintro e w' ⟨rfl, rfl⟩
  cases r with
  | error k => exact ⟨rfl, rfl, rfl⟩
  | ok c =>
    simp only [ptrE]
    go_wp2_with fail
    first
    | go_end0
    | refine bodyPost_ret (results_none rfl _ _ _) rfl ?_
    exact ⟨⟨_, rfl⟩, rfl⟩
/-- The box that walks, behind all names. -/
def EachEnd (r : Except Int Nat) (B : Nat) (e : Ending) (w' : World) : Prop := match r with
  | .ok c => (∃ u, e = .returned u) ∧ Boxed w' B 228 (.pointer (some ⟨c, 0, none⟩))
  | .error k => e = .panicked (refuse k)
/-- The node at a path, or that there is none. -/
def AtEnd (r : Except Int Nat) (e : Ending) : Prop := match r with
  | .ok c => e = .returned (.pointer (some ⟨c, 0, none⟩))
  | .error k => e = .panicked (refuse k)
set_option maxHeartbeats 4000000 in
theorem each10_any {G : Gr} {w0 : World} (hG : GraphAt w0 G) (hS : Leads G) {v : Value} {names : List (List UInt8)} (hn : names.length ≤ 1000) (hs : ∀ s ∈ names, s.length ≤ 1000) (hT : TxS w0 v names) {b : Nat} {x : TN} (hx : G b = some x)
    {W : World} (hW : Below w0.heap.size w0 W) {B : Nat} (hB : w0.heap.size ≤ B) (hb : Boxed W B 228 (.pointer (some ⟨b, 0, none⟩))) :
    Calls Tryz.prog 186 #[.func (.func 187) #[.pointer (some ⟨B, 0, none⟩)] #[], v] W fun e w' => Below w0.heap.size w0 w' ∧ EachEnd (walkN G b names) B e w' := by
  obtain ⟨a, cap, vb, off, rfl, hcap, ha, hc⟩ := hT.cell
  have HG := Lib.hid hG
  have HS := Lib.hid hS
  have HX := Lib.hid hx
  have HC := Lib.hid hc
  have HSS := Lib.hid hs
  have HW := Lib.hid hW
  have HBX := Lib.hid hb
  have HPRE : Hid (∀ k c, k ≤ names.length → walkN G b (names.take k) = .ok c → walkN G b names = walkN G c (names.drop k)) := show ∀ k c, _ from fun k c hk h => by
    have := walkN_append G (names.take k) (names.drop k) b
    rw [List.take_append_drop, h] at this
    exact this
  have HFIN : Hid (names.length = names.length) := show _ = _ from rfl
  obtain ⟨N, hN⟩ : ∃ N, names.length = N := ⟨_, rfl⟩
  have HN := Lib.hid hN
  rw [hN] at ha hcap hn
  rw [hN]
  clear hN hG hS hx hc hs hW hb hT HFIN
  go_enter Tryz.func186, Tryz.ntmps186
  go_wp2_with fail
  go_loopw [8] (fun i wr => ∃ k : Nat, k ≤ N ∧ i = .int .i64 (k : Nat) ∧ Hid (∃ c y, walkN G b (names.take k) = .ok c ∧ G c = some y ∧ Boxed wr B 228 (.pointer (some ⟨c, 0, none⟩)) ∧ Below w0.heap.size w0 wr)) (fun i _ => N - (intOf i).toNat)
  case atStart => exact ⟨0, Nat.zero_le _, rfl, (show ∃ _, _ from ⟨b, x, rfl, HX.out, HBX.out, HW.out⟩)⟩
  case round =>
    obtain ⟨k, hk, rfl, HI⟩ := hrel
    obtain ⟨c, y, hwk, hy, hbx, hbl⟩ := HI.out
    by_cases hlt : k < N
    · have hk2 : ((k : Nat) : Int) < (N : Nat) := by omega
      obtain rfl := ha (by omega)
      have hkl : k < names.length := by rw [HN.out]; exact hlt
      have cs : wr.cell? ⟨vb, off + k, none⟩ = some (encStr (names[k]?.getD [])) := by
        obtain ⟨h1, h2⟩ := HC.out (by omega)
        rw [← h2 k hkl]
        exact hbl.cell h1
      have hmem : names[k]?.getD [] ∈ names := by
        rw [List.getElem?_eq_getElem hkl, Option.getD_some]
        exact List.getElem_mem hkl
      have HEN := Lib.hid (enter10_any ((HG.out c y hy).below hbl) hbx (names[k]?.getD []) (HSS.out _ hmem))
      have hnx : ∀ d, nextN y (names[k]?.getD []) = .ok d → walkN G b (names.take (k + 1)) = .ok d := fun d hd => by
        rw [List.take_succ_eq_append_getElem hkl, walkN_append, hwk]
        rw [List.getElem?_eq_getElem hkl, Option.getD_some] at hd
        simp only [walkN, hy, hd]
      have hbad : ∀ e, nextN y (names[k]?.getD []) = .error e → walkN G b names = .error e := fun e he => by
        rw [HPRE.out k c (by omega) hwk, List.drop_eq_getElem_cons hkl]
        rw [List.getElem?_eq_getElem hkl, Option.getD_some] at he
        simp only [walkN, hy, he]
      have HNX := Lib.hid hnx
      have HBAD := Lib.hid hbad
      have HY := Lib.hid hy
      have HBL := Lib.hid hbl
      have HBB := Lib.hid hbx
      have HLD := Lib.hid (fun d hd => nextN_leads HS.out hy (s := names[k]?.getD []) (c := d) hd)
      obtain ⟨t, ht⟩ : ∃ t, encStr (names[k]?.getD []) = t := ⟨_, rfl⟩
      rw [ht] at HEN cs
      clear ht hmem hnx hbad hy hbl hbx hwk HI
      obtain ⟨r, hr⟩ : ∃ r, nextN y (names[k]?.getD []) = r := ⟨_, rfl⟩
      rw [hr] at HEN
      have HR := Lib.hid hr
      clear hr
      cases r with
      | error q =>
        go_wp2_with fail
        refine HEN.out.mono ?_
        rintro e w' ⟨rfl, rfl⟩
        refine ⟨rfl, HBL.out, ?_⟩
        rw [HBAD.out q HR.out]
        exact (rfl : Ending.panicked (refuse q) = .panicked (refuse q))
      | ok d =>
        go_wp2_with fail
        refine HEN.out.mono ?_
        rintro e w' ⟨⟨u, rfl⟩, rfl⟩
        have HB2 : Hid (Boxed (wr.setCell ⟨B, 0, none⟩ (.pointer (some ⟨d, 0, none⟩))) B 228 (.pointer (some ⟨d, 0, none⟩))) := show Boxed _ _ _ _ from HBB.out.set _
        have HBL2 : Hid (Below w0.heap.size w0 (wr.setCell ⟨B, 0, none⟩ (.pointer (some ⟨d, 0, none⟩)))) := show Below _ _ _ from HBL.out.setCell (p := ⟨B, 0, none⟩) hB _
        go_wp2_with fail
        go_roundw
        case rel =>
          obtain ⟨y2, hy2⟩ := HLD.out d HR.out
          exact ⟨k + 1, by omega, by go_num, (show ∃ _, _ from ⟨d, y2, HNX.out d HR.out, hy2, HB2.out, HBL2.out⟩)⟩
        case measure => simp [intOf]; omega
    · obtain rfl : k = N := by omega
      have HWK : Hid (walkN G b names = .ok c) := show _ = _ by
        rw [← hwk, List.take_of_length_le (by rw [HN.out]; exact Nat.le_refl _)]
      have HBB := Lib.hid hbx
      have HBL := Lib.hid hbl
      clear hwk hbx hbl hy HI
      go_wp2_with fail
      first
      | go_end0
      | refine bodyPost_ret (results_none rfl _ _ _) rfl ?_
      refine ⟨HBL.out, ?_⟩
      rw [HWK.out]
      exact ⟨⟨_, rfl⟩, HBB.out⟩
/-- A tree: its root. -/
def TreeAt (W : World) (T r : Nat) : Prop := Boxed W T 110 (.pointer (some ⟨r, 0, none⟩))
theorem at10_any {G : Gr} {w : World} (hG : GraphAt w G) (hS : Leads G) {T r : Nat} (hT : TreeAt w T r) {x : TN} (hx : G r = some x) {v : Value} {names : List (List UInt8)} (hn : names.length ≤ 1000) (hs : ∀ s ∈ names, s.length ≤ 1000) (hv : TxS w v names) :
    Calls Tryz.prog 160 #[.pointer (some ⟨T, 0, none⟩), v] w fun e w' => Below w.heap.size w w' ∧ AtEnd (walkN G r names) e := by
  have c0 := hT.cell
  have HE := Lib.hid (fun (W : World) (hW : Below w.heap.size w W) (B : Nat) (hB : w.heap.size ≤ B) (hb : Boxed W B 228 (.pointer (some ⟨r, 0, none⟩))) => each10_any hG hS hn hs hv hx hW hB hb)
  obtain ⟨q, hq⟩ : ∃ q, walkN G r names = q := ⟨_, rfl⟩
  rw [hq] at HE ⊢
  clear hG hS hT hx hn hs hv hq
  go_enter Tryz.func160, Tryz.ntmps160
  go_wp2_with fail
  refine (HE.out _ ?_ _ ?_ ?_).mono ?_
  · exact (by repeat (first | exact Below.refl _ _ | assumption | refine Below.drew ?_ | refine below_drewN ?_ _ | refine Below.alloc ?_ (by (try simp) <;> omega) _ | refine Below.setCell ?_ (by (try simp) <;> omega) _ | refine Below.trans ?_ (Below.mono (by assumption) (by (try simp) <;> omega))))
  · exact Nat.le_refl _
  · exact Blk.new w _ _
  cases q with
  | error k =>
    rintro e w' ⟨hb, rfl⟩
    exact ⟨rfl, hb, rfl⟩
  | ok c =>
    rintro e w' ⟨hb, ⟨u, rfl⟩, hbx⟩
    have HB := Lib.hid hb
    have c1 := hbx.cell
    clear hb hbx
    go_wp2_with fail
    go_ret
    exact ⟨HB.out, rfl⟩
end Go.Proofs.YtgoemaecdolioaaGreatDoor

/-
  label: slices of texts cut; an append in a drawn region.
-/
namespace Go.Proofs.YtgoemaecdolioaaGreatDoor
open Go.RowKit Go.Shelf Go.Sort

theorem infoStr : (Tryz.prog.info? 9).map (fun i => (i.zero, i.size, i.bytes)) = some (some (.string { data := #[] }), 1, 16) := by kernel_rfl
theorem one_strs (l : List (List UInt8)) : ∀ u ∈ l.map encStr, u.oneCell' = true := by
  intro u hu
  obtain ⟨x, -, rfl⟩ := List.mem_map.1 hu
  rfl
end Go.Proofs.YtgoemaecdolioaaGreatDoor
