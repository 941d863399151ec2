/-
  The statement ValueOrder as a walk: it returns true for every input and changes nothing that was there. Conditions: the slices lie in memory; strconv's table lies in memory as the program text lays it.
-/
import Derived.Test.YtembcmmoicmkeaaDoorValWorks
namespace Go.Proofs.YtembcmmoicmkeaaDoor
open Go.RowKit

set_option maxRecDepth 100000 in
set_option maxHeartbeats 2000000 in
theorem order_any (a1 : Option Addr) (l1 p1 : Nat) (f1 : Nat → Val) (a2 : Option Addr) (l2 p2 : Nat) (f2 : Nat → Val) (an : Option Addr) (ln pn : Nat) (g : Nat → Bool) (w : World)
    (hl1 : l1 ≤ 140737488351232) (hl2 : l2 ≤ 140737488351232) (hln : ln ≤ 140737488351232) (h1 : Vals w a1 l1 f1) (h2 : Vals w a2 l2 f2) (hn : Bools w an ln g) (ht : Tab w) :
    Calls Tryd.prog 4 #[.slice a1 l1 p1, .slice a2 l2 p2, .slice an ln pn] w fun e w' => e = .returned (.bool true) ∧ Below w.heap.size w w' := by
  have H1 := Lib.hid h1; have H2 := Lib.hid h2; have H4 := Lib.hid hn
  have HT := Lib.hid ht
  clear h1 h2 hn ht
  go_enter Tryd.func4, Tryd.ntmps4
  go_wp2_with fail
  refine (great_any a1 l1 p1 f1 _ (by omega) H1.out).mono ?_
  obtain ⟨g1, hg1⟩ : ∃ x, x = greatZ f1 l1 0 0 := ⟨_, rfl⟩
  rw [← hg1]
  have HG1 := Lib.hid hg1; clear hg1
  rintro e w' ⟨rfl, rfl⟩
  cases g1 with
  | true =>
    go_wp2_with fail
    go_ret
    exact ⟨rfl, Below.refl _ _⟩
  | false =>
  go_wp2_with fail
  refine (great_any a2 l2 p2 f2 _ (by omega) H2.out).mono ?_
  obtain ⟨g2, hg2⟩ : ∃ x, x = greatZ f2 l2 0 0 := ⟨_, rfl⟩
  rw [← hg2]
  have HG2 := Lib.hid hg2; clear hg2
  rintro e w' ⟨rfl, rfl⟩
  cases g2 with
  | true =>
    go_wp2_with fail
    go_ret
    exact ⟨rfl, Below.refl _ _⟩
  | false =>
  have HS1 := Lib.hid (show ∀ j, j < l1 → (f1 j).s.size ≤ 10000 from fun j hj => by have := (greatZ_false f1 l1 0 0 HG1.out.symm j hj).1; rwa [Nat.zero_add] at this)
  have HS2 := Lib.hid (show ∀ j, j < l2 → (f2 j).s.size ≤ 10000 from fun j hj => by have := (greatZ_false f2 l2 0 0 HG2.out.symm j hj).1; rwa [Nat.zero_add] at this)
  clear HG1 HG2
  by_cases h30 : 30 < ln
  · go_wp2_with fail
    go_ret
    exact ⟨rfl, Below.refl _ _⟩
  have t30 : decide (30 < (ln : Int)) = false := decide_eq_false (by omega)
  have hln30 : ln ≤ 30 := by omega
  clear h30
  go_wp2_with fail
  go_loopw [7] (fun i wr => ∃ k : Nat, k ≤ l1 ∧ k ≤ l2 ∧ i = .int .i64 k ∧ Hid (Below w.heap.size w wr)) (fun i _ => l1 - (intOf i).toNat)
  case atStart => exact ⟨0, by omega, by omega, rfl, Lib.hid (Below.refl _ _)⟩
  case round =>
    obtain ⟨k, hk, hk2, rfl, hB⟩ := hrel
    by_cases hlt : k < l1 ∧ k < l2
    · obtain ⟨i1, i2⟩ := hlt
      have hs1 := HS1.out k i1
      have hs2 := HS2.out k i2
      obtain ⟨-, b1, o1, rfl, hb1, c10, c11, c12⟩ := vals_next H1.out hB.out k i1
      obtain ⟨-, b2, o2, rfl, hb2, c20, c21, c22⟩ := vals_next H2.out hB.out k i2
      generalize f1 k = v1 at *
      generalize f2 k = v2 at *
      obtain ⟨k1, n1, s1⟩ := v1
      obtain ⟨k2, n2, s2⟩ := v2
      have hq1 : s1.size ≤ 140737488351232 := by change s1.size ≤ 10000 at hs1; omega
      have hq2 : s2.size ≤ 140737488351232 := by change s2.size ≤ 10000 at hs2; omega
      have hr1 : s1.size ≤ 30000 := by change s1.size ≤ 10000 at hs1; omega
      have hr2 : s2.size ≤ 30000 := by change s2.size ≤ 10000 at hs2; omega
      clear hs1 hs2
      have HI := Lib.hid (show RowI w b1 (o1 + k * 3) k1 n1 s1 b2 (o2 + k * 3) k2 n2 s2 wr from ⟨hb1, hb2, c10, c11, c12, c20, c21, c22, hB.out.size, hB.out⟩)
      clear c10 c11 c12 c20 c21 c22
      obtain ⟨c, hc⟩ : ∃ c, c = cmpV k1 n1 s1 k2 n2 s2 true := ⟨_, rfl⟩
      obtain ⟨d, hd⟩ : ∃ d, d = cmpV k1 n1 s1 k2 n2 s2 false := ⟨_, rfl⟩
      have HC := Lib.hid hc; have HD := Lib.hid hd
      clear hc hd
      have tc : (c != c) = false := by simp
      have td : (d != d) = false := by simp
      have j1 : (k : Int) < l1 := by omega
      have j2 : (k : Int) < l2 := by omega
      have j0 : (0 : Int) ≤ k := by omega
      go_upto_region 6 with (fail)
      go_region_held3 (fun w' => w'.cell? ⟨b1, o1 + k * 3, none⟩ = some (.int .i64 k1) ∧ w'.cell? ⟨b1, o1 + k * 3 + 1, none⟩ = some (.int .i64 n1) ∧ w'.cell? ⟨b1, o1 + k * 3 + 2, none⟩ = some (.string s1) ∧ w'.cell? ⟨b2, o2 + k * 3, none⟩ = some (.int .i64 k2) ∧ w'.cell? ⟨b2, o2 + k * 3 + 1, none⟩ = some (.int .i64 n2) ∧ w'.cell? ⟨b2, o2 + k * 3 + 2, none⟩ = some (.string s2) ∧ RowI w b1 (o1 + k * 3) k1 n1 s1 b2 (o2 + k * 3) k2 n2 s2 w')
        (first | assumption | exact rowS_of HI.out | exact rowS_of (rowI_drew HI.out) | exact rowS_of (rowI_drewN HI.out _) | exact rowS_of (rowI_next (And.right (And.right (And.right (And.right (And.right (And.right (by assumption))))))) (by assumption)))
        (first | (go_at_call 19; refine (compare_any k1 n1 s1 k2 n2 s2 _ _ hq1 hq2).mono ?_; (first | rw [← HC.out] | rw [← HD.out]); rintro e w2 ⟨rfl, hb⟩) | (go_at_call 20; refine (qcompare_any k1 n1 s1 k2 n2 s2 _ _ hr1 hr2).mono ?_; (first | rw [← HC.out] | rw [← HD.out]); rintro e w2 ⟨rfl, hb⟩))
      all_goals
        rename_i hq
        have HQ := Lib.hid (And.right (And.right (And.right (And.right (And.right (And.right hq)))))).below
        clear hq
        go_wp2_with fail
        go_roundw
        case rel => exact ⟨k + 1, by omega, by omega, by go_num, HQ⟩
        case measure => simp [intOf]; omega
    · obtain ⟨r, hr⟩ : ∃ r, r = rowsZ f1 f2 g l1 l2 ln l1 0 := ⟨_, rfl⟩
      have HR := Lib.hid hr; clear hr
      have HE1 := Lib.hid (show ∀ j, j < l1 → (f1 j).s.size ≤ 30000 from fun j hj => by have := HS1.out j hj; omega)
      have HE2 := Lib.hid (show ∀ j, j < l2 → (f2 j).s.size ≤ 30000 from fun j hj => by have := HS2.out j hj; omega)
      clear HS1 HS2
      have tr : (r == r) = true := by simp
      by_cases hk3 : k < l1
      · have hk4 : ¬ k < l2 := by omega
        go_wp2_with fail
        refine (rows_any a1 l1 p1 f1 a2 l2 p2 f2 an ln pn g _ hl1 hl2 hln (vals_next H1.out hB.out) (vals_next H2.out hB.out) (bools_next H4.out hB.out)).mono ?_
        rw [← HR.out]
        rintro e w2 ⟨rfl, b2⟩
        have HB2 := Lib.hid (hB.out.trans (b2.mono hB.out.size)); clear b2
        go_wp2_with fail
        refine (qrows_any a1 l1 p1 f1 a2 l2 p2 f2 an ln pn g _ hl1 hl2 hln (vals_next H1.out HB2.out) (vals_next H2.out HB2.out) (bools_next H4.out HB2.out) HE1.out HE2.out).mono ?_
        rw [← HR.out]
        rintro e w3 ⟨rfl, b2⟩
        have HB3 := Lib.hid (HB2.out.trans (b2.mono HB2.out.size)); clear b2
        go_wp2_with fail
        refine (works4_any _ (tab_below HT.out HB3.out)).mono ?_
        rintro e w4 ⟨rfl, b2⟩
        go_wp2_with fail
        go_ret
        exact ⟨rfl, HB3.out.trans (b2.mono HB3.out.size)⟩
      · go_wp2_with fail
        refine (rows_any a1 l1 p1 f1 a2 l2 p2 f2 an ln pn g _ hl1 hl2 hln (vals_next H1.out hB.out) (vals_next H2.out hB.out) (bools_next H4.out hB.out)).mono ?_
        rw [← HR.out]
        rintro e w2 ⟨rfl, b2⟩
        have HB2 := Lib.hid (hB.out.trans (b2.mono hB.out.size)); clear b2
        go_wp2_with fail
        refine (qrows_any a1 l1 p1 f1 a2 l2 p2 f2 an ln pn g _ hl1 hl2 hln (vals_next H1.out HB2.out) (vals_next H2.out HB2.out) (bools_next H4.out HB2.out) HE1.out HE2.out).mono ?_
        rw [← HR.out]
        rintro e w3 ⟨rfl, b2⟩
        have HB3 := Lib.hid (HB2.out.trans (b2.mono HB2.out.size)); clear b2
        go_wp2_with fail
        refine (works4_any _ (tab_below HT.out HB3.out)).mono ?_
        rintro e w4 ⟨rfl, b2⟩
        go_wp2_with fail
        go_ret
        exact ⟨rfl, HB3.out.trans (b2.mono HB3.out.size)⟩
end Go.Proofs.YtembcmmoicmkeaaDoor
