/-
  The statement ValueOne as a walk: it returns true for every input and changes nothing that was there. Conditions: the slices lie in memory; strconv's table lies in memory as the program text lays it.
-/
import Derived.Test.YtembcmmoicmkeaaDoorValOrd
import Derived.Test.YtembcmmoicmkeaaDoorValWorks
namespace Go.Proofs.YtembcmmoicmkeaaDoor
open Go.RowKit

set_option maxRecDepth 100000 in
set_option maxHeartbeats 2000000 in
theorem one_any (a1 : Option Addr) (l1 p1 : Nat) (f1 : Nat → Val) (a2 : Option Addr) (l2 p2 : Nat) (f2 : Nat → Val) (a3 : Option Addr) (l3 p3 : Nat) (f3 : Nat → Val) (an : Option Addr) (ln pn : Nat) (g : Nat → Bool) (w : World)
    (hl1 : l1 ≤ 140737488351232) (hl2 : l2 ≤ 140737488351232) (hl3 : l3 ≤ 140737488351232) (hln : ln ≤ 140737488351232) (h1 : Vals w a1 l1 f1) (h2 : Vals w a2 l2 f2) (h3 : Vals w a3 l3 f3) (hn : Bools w an ln g) (ht : Tab w) :
    Calls Tryd.prog 5 #[.slice a1 l1 p1, .slice a2 l2 p2, .slice a3 l3 p3, .slice an ln pn] w fun e w' => e = .returned (.bool true) ∧ Below w.heap.size w w' := by
  have H1 := Lib.hid h1; have H2 := Lib.hid h2; have H3 := Lib.hid h3; have H4 := Lib.hid hn
  have HT := Lib.hid ht
  clear h1 h2 h3 hn ht
  go_enter Tryd.func5, Tryd.ntmps5
  go_wp2_with fail
  refine (works4_any _ HT.out).mono ?_
  rintro e w1 ⟨rfl, b1⟩
  have HB := Lib.hid b1; clear b1
  go_wp2_with fail
  refine (great_any a1 l1 p1 f1 _ (by omega) (vals_next H1.out HB.out)).mono ?_
  generalize greatZ f1 l1 0 0 = g1
  rintro e w' ⟨rfl, rfl⟩
  cases g1 with
  | true =>
    go_wp2_with fail
    go_ret
    exact ⟨rfl, HB.out⟩
  | false =>
  go_wp2_with fail
  refine (great_any a2 l2 p2 f2 _ (by omega) (vals_next H2.out HB.out)).mono ?_
  generalize greatZ f2 l2 0 0 = g2
  rintro e w' ⟨rfl, rfl⟩
  cases g2 with
  | true =>
    go_wp2_with fail
    go_ret
    exact ⟨rfl, HB.out⟩
  | false =>
  go_wp2_with fail
  refine (great_any a3 l3 p3 f3 _ (by omega) (vals_next H3.out HB.out)).mono ?_
  generalize greatZ f3 l3 0 0 = g3
  rintro e w' ⟨rfl, rfl⟩
  cases g3 with
  | true =>
    go_wp2_with fail
    go_ret
    exact ⟨rfl, HB.out⟩
  | false =>
  by_cases h30 : 30 < ln
  · go_wp2_with fail
    go_ret
    exact ⟨rfl, HB.out⟩
  obtain ⟨x, hx⟩ : ∃ x, x = rowsZ f1 f2 g l1 l2 ln l1 0 := ⟨_, rfl⟩
  obtain ⟨y, hy⟩ : ∃ x, x = rowsZ f2 f3 g l2 l3 ln l2 0 := ⟨_, rfl⟩
  obtain ⟨z, hz⟩ : ∃ x, x = rowsZ f1 f3 g l1 l3 ln l1 0 := ⟨_, rfl⟩
  obtain ⟨x', hx'⟩ : ∃ x, x = rowsZ f2 f1 g l2 l1 ln l2 0 := ⟨_, rfl⟩
  obtain ⟨s, hs⟩ : ∃ x, x = rowsZ f1 f1 g l1 l1 ln l1 0 := ⟨_, rfl⟩
  have HO := Lib.hid (rows_one f1 f2 f3 g l1 l2 l3 ln x y z x' s hx hy hz hx' hs)
  have HX := Lib.hid hx; have HY := Lib.hid hy; have HZ := Lib.hid hz; have HX' := Lib.hid hx'; have HS := Lib.hid hs
  clear hx hy hz hx' hs
  go_wp2_with fail
  refine (rows_any a1 l1 p1 f1 a2 l2 p2 f2 an ln pn g _ hl1 hl2 hln (vals_next H1.out HB.out) (vals_next H2.out HB.out) (bools_next H4.out HB.out)).mono ?_
  rw [← HX.out]
  rintro e w2 ⟨rfl, b2⟩
  have HB2 := Lib.hid (HB.out.trans (b2.mono HB.out.size)); clear b2
  go_wp2_with fail
  refine (rows_any a2 l2 p2 f2 a3 l3 p3 f3 an ln pn g _ hl2 hl3 hln (vals_next H2.out HB2.out) (vals_next H3.out HB2.out) (bools_next H4.out HB2.out)).mono ?_
  rw [← HY.out]
  rintro e w3 ⟨rfl, b2⟩
  have HB3 := Lib.hid (HB2.out.trans (b2.mono HB2.out.size)); clear b2
  go_wp2_with fail
  refine (rows_any a1 l1 p1 f1 a3 l3 p3 f3 an ln pn g _ hl1 hl3 hln (vals_next H1.out HB3.out) (vals_next H3.out HB3.out) (bools_next H4.out HB3.out)).mono ?_
  rw [← HZ.out]
  rintro e w4 ⟨rfl, b2⟩
  have HB4 := Lib.hid (HB3.out.trans (b2.mono HB3.out.size)); clear b2
  go_wp2_with fail
  refine (rows_any a2 l2 p2 f2 a1 l1 p1 f1 an ln pn g _ hl2 hl1 hln (vals_next H2.out HB4.out) (vals_next H1.out HB4.out) (bools_next H4.out HB4.out)).mono ?_
  rw [← HX'.out]
  rintro e w5 ⟨rfl, b2⟩
  have HB5 := Lib.hid (HB4.out.trans (b2.mono HB4.out.size)); clear b2
  have hv : x = -1 ∧ x' = 1 ∨ x = 0 ∧ x' = 0 ∨ x = 1 ∧ x' = -1 := by have := HO.out; omega
  have HS0 := Lib.hid (show 0 = rowsZ f1 f1 g l1 l1 ln l1 0 by have := HS.out; have := HO.out; omega)
  clear HX HY HZ HX' HS
  rcases hv with ⟨rfl, rfl⟩ | ⟨rfl, rfl⟩ | ⟨rfl, rfl⟩
  all_goals
    go_wp2_with fail
    refine (rows_any a1 l1 p1 f1 a1 l1 p1 f1 an ln pn g _ hl1 hl1 hln (vals_next H1.out HB5.out) (vals_next H1.out HB5.out) (bools_next H4.out HB5.out)).mono ?_
    rw [← HS0.out]
    rintro e w6 ⟨rfl, b2⟩
    have HB6 := Lib.hid (HB5.out.trans (b2.mono HB5.out.size)); clear b2
    have hv : y = -1 ∨ y = 0 ∨ y = 1 := HO.out.2.2.2.1
    have hv2 : z = -1 ∨ z = 0 ∨ z = 1 := HO.out.2.2.2.2.1
    rcases hv with rfl | rfl | rfl <;> rcases hv2 with rfl | rfl | rfl <;> first | (exfalso; have h := HO.out.2.2.2.2.2; revert h; decide) | (go_wp2_with fail; go_ret; exact ⟨rfl, HB6.out⟩)
end Go.Proofs.YtembcmmoicmkeaaDoor
