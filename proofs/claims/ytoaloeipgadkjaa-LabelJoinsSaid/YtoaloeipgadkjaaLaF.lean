/-
  label: held, Read, Bucket.
-/
import Derived.Test.YtoaloeipgadkjaaLaE
import Derived.Test.YtoaloeipgadkjaaWordE
namespace Go.Proofs.Ytoaloeipgadkjaa
open Go.RowKit Go.Shelf Go.Sort

/-- All bytes of words, as a text. -/
def txtN (l : List Nat) : List UInt8 := (WM.bytesOf l).map UInt8.ofNat
theorem txtN_bs (l : List Nat) : bsN (txtN l) = WM.bytesOf l := by
  unfold bsN txtN
  rw [List.map_map]
  have : ∀ x ∈ WM.bytesOf l, (UInt8.toNat ∘ UInt8.ofNat) x = x := fun x hx => by
    unfold WM.bytesOf at hx
    obtain ⟨k, -, rfl⟩ := List.mem_map.1 hx
    have := WM.byteAt_lt l k
    show (UInt8.ofNat _).toNat = _
    simp []
    exact this
  rw [List.map_congr_left this, List.map_id']
theorem txtN_length (l : List Nat) : (txtN l).length = 8 * l.length := by unfold txtN; rw [List.length_map, WM.bytesOf_length]
theorem box5_sl {W : World} {b : Nat} {l : List Nat} (h : Box5 W b l) (hl : l.length = 5) : Sl W .u64 (.slice (some ⟨b, 0, none⟩) 5 5) l := by
  refine ⟨_, 5, by rw [hl], by omega, fun _ => ⟨b, 0, rfl, h.lt, fun j hj => ?_⟩⟩
  obtain ⟨c0, c1, c2, c3, c4⟩ := h.cells
  have : j = 0 ∨ j = 1 ∨ j = 2 ∨ j = 3 ∨ j = 4 := by omega
  rcases this with rfl | rfl | rfl | rfl | rfl
  · exact c0
  · exact c1
  · exact c2
  · exact c3
  · exact c4
set_option maxRecDepth 100000 in
set_option maxHeartbeats 2000000 in
theorem laHeld_any (l : List Nat) (hl : l.length = 5) (h64 : Words64 l) (w : World) :
    Calls Try.prog 27 #[.agg (arr5 l)] w fun e w' => e = .returned (namV (txtN l)) ∧ Below w.heap.size w w' := by
  obtain ⟨W2, hW2⟩ : ∃ W2, (w.alloc (.cells (arr5 l) 24)).alloc (.cells #[encStr []] 52) = W2 := ⟨_, rfl⟩
  have b2 : Below w.heap.size w W2 := by rw [← hW2]; exact (by repeat (first | exact Below.refl _ _ | assumption | refine Below.drew ?_ | refine below_drewN ?_ _ | refine Below.alloc ?_ (by (try simp) <;> omega) _ | refine Below.setCell ?_ (by (try simp) <;> omega) _ | refine Below.trans ?_ (Below.mono (by assumption) (by (try simp) <;> omega))))
  have x2 : Box5 W2 w.heap.size l := by rw [← hW2]; exact (Box5.new w l).below ((Below.refl _ _).alloc (Nat.le_refl _) _)
  have y2 : Boxed W2 (w.heap.size + 1) 52 (encStr []) := by rw [← hW2]; unfold Boxed; (simp only [heap_at, World.size_alloc]; repeat (first | rw [if_pos (by omega)] | rw [if_neg (by omega)] | rw [if_pos trivial]))
  have HB := Lib.hid (bytes_rest _ l 40 h64 (by omega) (by omega) (by omega) (by rw [hl]; decide) W2 (box5_sl x2 hl))
  have HD := Lib.hid (show ((WM.bytesOf l).drop 40) = [] from List.drop_of_length_le (by rw [WM.bytesOf_length]; omega))
  have HT := Lib.hid (show (WM.bytesOf l).take 40 = bsN (txtN l) from by rw [txtN_bs]; exact List.take_of_length_le (by rw [WM.bytesOf_length]; omega))
  rw [HD.out, HT.out, show ((40 : Nat) : Int) = 40 from rfl] at HB
  have HW2 := Lib.hid hW2
  have HB2 := Lib.hid b2
  have HY2 := Lib.hid y2
  clear hW2 b2 x2 y2
  go_enter Try.func27, Try.ntmps27
  go_wp2_with fail
  rw [HW2.out]
  refine HB.out.mono ?_
  rintro e w1 ⟨⟨-, h⟩, hb⟩
  obtain ⟨r, rfl, hs⟩ := h (by rfl)
  have hct := conv_text 50 Try.underlying50 hs
  have y1 : Boxed w1 (w.heap.size + 1) 52 (encStr []) := (hb.block _ HY2.out.lt).trans HY2.out
  have HB1 : Hid (Below w.heap.size w w1) := show Below _ _ _ from HB2.out.trans (hb.mono HB2.out.size)
  have HY1 := Lib.hid y1
  have cy := y1.cell
  have fy := y1.frozen
  have ly := y1.lt
  clear hs hb h y1
  go_wp2_with fail
  refine bodyPost_ret (v := namV (txtN l)) (by simp [results, Try.results27, go_sem, (HY1.out.set (encStr (txtN l))).cell]) rfl ⟨rfl, ?_⟩
  exact HB1.out.setCell (p := ⟨w.heap.size + 1, 0, none⟩) (Nat.le_succ _) _
/-- What Read tells. -/
def readN (l : List Nat) (many : Int) : List UInt8 := (txtN l).take many.toNat
def isRead (l : List Nat) (many : Int) : Bool := sameOut (readN l many) l many
set_option maxRecDepth 100000 in
set_option maxHeartbeats 2000000 in
theorem laRead_any (l : List Nat) (hl : l.length = 5) (h64 : Words64 l) (many : Int) (w : World) :
    Calls Try.prog 15 #[.agg (arr5 l), .int .i64 many] w fun e w' => e = .returned (.tuple #[encStr (if isRead l many then readN l many else []), .int .i64 (if isRead l many then 0 else 161)]) ∧ Below w.heap.size w w' := by
  obtain ⟨W1, hW1⟩ : ∃ W1, w.alloc (.cells (arr5 l) 24) = W1 := ⟨_, rfl⟩
  have HB1 : Hid (Below w.heap.size w W1) := show Below _ _ _ by rw [← hW1]; exact (by repeat (first | exact Below.refl _ _ | assumption | refine Below.drew ?_ | refine below_drewN ?_ _ | refine Below.alloc ?_ (by (try simp) <;> omega) _ | refine Below.setCell ?_ (by (try simp) <;> omega) _ | refine Below.trans ?_ (Below.mono (by assumption) (by (try simp) <;> omega))))
  have x1 : Box5 W1 w.heap.size l := by rw [← hW1]; exact Box5.new w l
  have HX1 := Lib.hid x1
  have HH := Lib.hid (laHeld_any l hl h64 W1)
  have HF := Lib.hid (fun W => laFirst_any (txtN l) many (by rw [txtN_length, hl]; omega) W)
  have HS := Lib.hid (fun W => laSame_any (readN l many) l many W)
  have HT := Lib.hid (fun W => laTold_any (readN l many) W)
  have hfd : ∀ (s : List UInt8) (W : World), (Instr.field 52 (namV s) 0).run Try.prog W = .ok (encStr s) W := fun _ _ => by kernel_rfl
  obtain ⟨c0, c1, c2, c3, c4⟩ := x1.cells
  have HW1 := Lib.hid hW1
  clear hW1 x1
  obtain ⟨ir, hir⟩ : ∃ ir, isRead l many = ir := ⟨_, rfl⟩
  rw [show sameOut (readN l many) l many = ir from hir] at HS
  rw [hir, show (txtN l).take many.toNat = readN l many from rfl] at *
  generalize readN l many = s at *
  clear hir hl h64
  go_enter Try.func15, Try.ntmps15
  go_wp2_with fail
  rw [HW1.out]
  refine HH.out.mono ?_
  rintro e w2 ⟨rfl, hb2⟩
  have HB2 : Hid (Below w.heap.size w w2) := show Below _ _ _ from HB1.out.trans (hb2.mono HB1.out.size)
  have x2 := HX1.out.below hb2
  have HX2 := Lib.hid x2
  clear hb2 c0 c1 c2 c3 c4 x2
  go_wp2_with fail
  refine (HF.out _).mono ?_
  rintro e w3 ⟨rfl, hb3⟩
  have HB3 : Hid (Below w.heap.size w w3) := show Below _ _ _ from HB2.out.trans (hb3.mono HB2.out.size)
  have x3 := HX2.out.below hb3
  have HX3 := Lib.hid x3
  clear hb3 x3
  go_wp2_with fail
  refine (HT.out _).mono ?_
  rintro e w4 ⟨rfl, rfl⟩
  obtain ⟨c0, c1, c2, c3, c4⟩ := HX3.out.cells
  go_wp2_with fail
  refine (HS.out _).mono ?_
  rintro e w4 ⟨rfl, hb4⟩
  have HB4 : Hid (Below w.heap.size w w4) := show Below _ _ _ from HB3.out.trans (hb4.mono HB3.out.size)
  clear hb4 c0 c1 c2 c3 c4
  cases ir with
  | true =>
    go_wp2_with fail
    go_ret2
    exact ⟨rfl, HB4.out⟩
  | false =>
    go_wp2_with fail
    go_ret2
    exact ⟨rfl, HB4.out⟩
/-- A name's bucket. -/
def bucketN (s : List UInt8) : Nat := SM.sumOf (textWords (bsN s)) % 7
def bucketOut (s : List UInt8) : Nat := if rightN s then bucketN s else 0
set_option maxRecDepth 100000 in
set_option maxHeartbeats 2000000 in
theorem laBucket_any (s : List UInt8) (w : World) :
    Calls Try.prog 11 #[encStr s] w fun e w' => e = .returned (.tuple #[.int .i64 (bucketOut s : Nat), .int .i64 (errN s)]) ∧ Below w.heap.size w w' := by
  have HN := Lib.hid (fun W => named_any s W)
  cases hr : rightN s with
  | false =>
    have he : errN s = 160 := by unfold errN; rw [hr]; rfl
    have hn : nameN s = [] := by unfold nameN; rw [hr]; rfl
    have hbo : bucketOut s = 0 := by unfold bucketOut; rw [hr]; rfl
    rw [he, hn] at HN
    rw [hbo, he]
    go_enter Try.func11, Try.ntmps11
    go_wp2_with fail
    refine (HN.out _).mono ?_
    rintro e w1 ⟨rfl, hb⟩
    have HB := Lib.hid hb
    clear hb
    go_wp2_with fail
    go_ret2
    exact ⟨rfl, HB.out.alloc HB.out.size _⟩
  | true =>
    have he : errN s = 0 := by unfold errN; rw [hr]; rfl
    have hn : nameN s = s := by unfold nameN; rw [hr]; rfl
    have hbo : bucketOut s = bucketN s := by unfold bucketOut; rw [hr]; rfl
    have hl := ((rightN_iff s).1 hr).2.1
    have HT := Lib.hid (fun W => text_anyM _ (bsN s) (by rw [bsN_length]; omega) (bsN_256 s) (bytesW W s) (bytesW_sl W s) (fun a n c e => by cases e; exact capC_le W s (by omega)))
    have HTO := Lib.hid (fun W => laTold_any s W)
    have hcv := fun W => conv_bytes 9 Try.underlying9 s W
    rw [he, hn] at HN
    rw [hbo, he]
    unfold bucketN
    obtain ⟨z, hz⟩ : ∃ z, SM.sumOf (textWords (bsN s)) = z := ⟨_, rfl⟩
    rw [hz] at HT ⊢
    obtain ⟨y, hy⟩ : ∃ y : Nat, z % 7 = y := ⟨_, rfl⟩
    rw [hy]
    have hy2 : (z : Int) % 7 = (y : Int) := by omega
    have hzl : (z : Int) < 18446744073709551616 := by have := SM.sumOf_lt (textWords (bsN s)); rw [hz] at this; omega
    clear hz hl hr hy
    go_enter Try.func11, Try.ntmps11
    go_wp2_with fail
    refine (HN.out _).mono ?_
    rintro e w1 ⟨rfl, hb⟩
    have HB := Lib.hid hb
    clear hb
    go_wp2_with fail
    refine (HTO.out _).mono ?_
    rintro e w2 ⟨rfl, rfl⟩
    go_wp2_with fail
    obtain ⟨W2, hW2⟩ : ∃ W2, w1.alloc (.cells #[encStr s] 52) = W2 := ⟨_, rfl⟩
    have HB2 : Hid (Below w.heap.size w W2) := show Below _ _ _ by rw [← hW2]; exact HB.out.alloc HB.out.size _
    have hz2 : w1.heap.size + 1 = W2.heap.size := by rw [← hW2]; simp
    rw [hW2, hz2]
    have HBB := Lib.hid (bytesW_below W2 s)
    have HBS := Lib.hid (bytesW_size W2 s)
    clear hW2 hz2
    refine (HT.out W2).mono ?_
    rintro e w3 ⟨rfl, hb3⟩
    have HB3 : Hid (Below w.heap.size w w3) := show Below _ _ _ from HB2.out.trans ((HBB.out.trans (hb3.mono HBB.out.size)).mono HB2.out.size)
    clear hb3
    go_wp2_with fail
    go_ret2
    exact ⟨rfl, HB3.out⟩
end Go.Proofs.Ytoaloeipgadkjaa
