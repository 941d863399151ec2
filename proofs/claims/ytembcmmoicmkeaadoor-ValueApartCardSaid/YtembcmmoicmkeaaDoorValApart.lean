/-
  The statement ValueApart as a walk: it returns true for every input and changes nothing that was there. Conditions: the strings have at most 2^47 - 4096 bytes, the numbers are ints; strconv's table lies in memory as the program text lays it.
-/
import Derived.Test.YtembcmmoicmkeaaDoorValApm
import Derived.Test.YtembcmmoicmkeaaDoorValWorks
namespace Go.Proofs.YtembcmmoicmkeaaDoor
open Go.RowKit

/-- What the region reads of the two boxes. -/
theorem twoA_of {w : World} {k1 n1 : Int} {s1 : ByteArray} {k2 n2 : Int} {s2 : ByteArray} {a : World} (h : Two w k1 n1 s1 k2 n2 s2 a) :
    a.cell? ⟨w.heap.size, 0, none⟩ = some (.int .i64 k1) ∧ a.cell? ⟨w.heap.size, 1, none⟩ = some (.int .i64 n1) ∧ a.cell? ⟨w.heap.size, 2, none⟩ = some (.string s1) ∧ a.cell? ⟨w.heap.size + 1, 0, none⟩ = some (.int .i64 k2) ∧ a.cell? ⟨w.heap.size + 1, 1, none⟩ = some (.int .i64 n2) ∧ a.cell? ⟨w.heap.size + 1, 2, none⟩ = some (.string s2) ∧ Two w k1 n1 s1 k2 n2 s2 a := ⟨h.a0, h.a1, h.a2, h.b0, h.b1, h.b2, h⟩

theorem tab_two {w : World} {k1 n1 : Int} {s1 : ByteArray} {k2 n2 : Int} {s2 : ByteArray} {a : World} {p1 p2 p3 p4 p5 p6 : Prop} (ht : Tab w) (h : p1 ∧ p2 ∧ p3 ∧ p4 ∧ p5 ∧ p6 ∧ Two w k1 n1 s1 k2 n2 s2 a) : Tab a := tab_below ht h.2.2.2.2.2.2.below

set_option maxRecDepth 100000 in
set_option maxHeartbeats 4000000 in
theorem apart_any (k1 n1 : Int) (s1 : ByteArray) (k2 n2 : Int) (s2 : ByteArray) (w : World) (hs1 : s1.size ≤ 140737488351232) (hs2 : s2.size ≤ 140737488351232) (hn1 : -9223372036854775808 ≤ n1) (hm1 : n1 ≤ 9223372036854775807) (hn2 : -9223372036854775808 ≤ n2) (hm2 : n2 ≤ 9223372036854775807) (ht : Tab w) :
    Calls Tryd.prog 6 #[.agg #[.int .i64 k1, .int .i64 n1, .string s1], .agg #[.int .i64 k2, .int .i64 n2, .string s2]] w fun e w' => e = .returned (.bool true) ∧ Below w.heap.size w w' := by
  have HB := Lib.hid (two_new w k1 n1 s1 k2 n2 s2)
  have HT := Lib.hid ht
  have HN1 := Lib.hid hn1; have HM1 := Lib.hid hm1; have HN2 := Lib.hid hn2; have HM2 := Lib.hid hm2
  clear ht hn1 hm1 hn2 hm2
  go_enter Tryd.func6, Tryd.ntmps6
  go_wp2_with fail
  refine (works4_any _ (tab_below HT.out HB.out.below)).mono ?_
  rintro e w1 ⟨rfl, b1⟩
  have HB1 := Lib.hid (two_next HB.out b1); clear b1 HB
  obtain ⟨a0, a1, a2, b0, b1, b2, -, -⟩ := HB1.out
  go_wp2_with fail
  refine (qcheck_any k1 n1 s1 _ (by omega)).mono ?_
  obtain ⟨c1, hc1⟩ : ∃ c, c = checkZ k1 n1 s1 := ⟨_, rfl⟩
  rw [← hc1]
  have HC1 := Lib.hid hc1; clear hc1
  rintro e w2 ⟨rfl, hb⟩
  have HB2 := Lib.hid (two_next HB1.out hb)
  clear hb a0 a1 a2 b0 b1 b2 HB1
  by_cases e1 : c1 = 0
  case neg =>
    have t1 : (c1 != 0) = true := by simpa using e1
    clear e1
    go_wp2_with fail
    go_ret
    exact ⟨rfl, HB2.out.below⟩
  subst e1
  obtain ⟨a0, a1, a2, b0, b1, b2, -, -⟩ := HB2.out
  go_wp2_with fail
  refine (qcheck_any k2 n2 s2 _ (by omega)).mono ?_
  obtain ⟨c2, hc2⟩ : ∃ c, c = checkZ k2 n2 s2 := ⟨_, rfl⟩
  rw [← hc2]
  have HC2 := Lib.hid hc2; clear hc2
  rintro e w3 ⟨rfl, hb⟩
  have HB3 := Lib.hid (two_next HB2.out hb)
  clear hb a0 a1 a2 b0 b1 b2 HB2
  by_cases e2 : c2 = 0
  case neg =>
    have t1 : (c2 != 0) = true := by simpa using e2
    clear e2
    go_wp2_with fail
    go_ret
    exact ⟨rfl, HB3.out.below⟩
  subst e2
  have hz1 : s1.size ≤ 10000 := by have := check_ok HC1.out.symm; omega
  have hz2 : s2.size ≤ 10000 := by have := check_ok HC2.out.symm; omega
  obtain ⟨x, hx⟩ : ∃ x, x = printB k1 n1 s1 := ⟨_, rfl⟩
  obtain ⟨y, hy⟩ : ∃ x, x = printB k2 n2 s2 := ⟨_, rfl⟩
  have HX := Lib.hid hx; have HY := Lib.hid hy
  clear hx hy
  obtain ⟨z, hz⟩ : ∃ z, z = fitsZ 4 true k1 n1 s1 := ⟨_, rfl⟩
  obtain ⟨q0, tz, tk⟩ : ∃ q0 : Bool, (z == 0) = q0 ∧ (k1 != 0) = q0 := by
    rw [hz, fits_any1 HC1.out.symm]
    refine ⟨_, rfl, ?_⟩
    by_cases h : k1 = 0 <;> simp [h]
  have HF0 := Lib.hid (fits_any0 HC1.out.symm)
  have HF1 := Lib.hid hz; clear hz
  have hcases : ∃ q : Bool, (x.toList == y.toList) = q ∧ ((k1 == k2) = true ∧ (n1 == n2) = true ∧ (s1.toList == s2.toList) = true ∧ q = true ∨ (k1 == k2) = false ∧ q = false ∨ (k1 == k2) = true ∧ (n1 == n2) = false ∧ q = false ∨ (k1 == k2) = true ∧ (n1 == n2) = true ∧ (s1.toList == s2.toList) = false ∧ q = false) := by
    by_cases he : k1 = k2 ∧ n1 = n2 ∧ s1 = s2
    · obtain ⟨rfl, rfl, rfl⟩ := he
      obtain rfl : x = y := HX.out.trans HY.out.symm
      exact ⟨true, by simp, .inl ⟨by simp, by simp, by simp, rfl⟩⟩
    · refine ⟨false, ?_, .inr ?_⟩
      · rw [beq_eq_false_iff_ne]
        intro h
        exact he (print_inj HC1.out.symm HC2.out.symm (HX.out.symm.trans ((toList_inj h).trans HY.out)))
      · by_cases h1 : k1 = k2
        · by_cases h2 : n1 = n2
          · exact .inr (.inr ⟨by simpa using h1, by simpa using h2, by rw [beq_eq_false_iff_ne]; exact fun h => he ⟨h1, h2, toList_inj h⟩, rfl⟩)
          · exact .inr (.inl ⟨by simpa using h1, by simpa using h2, rfl⟩)
        · exact .inl ⟨by simpa using h1, rfl⟩
  obtain ⟨q, tq, hcases⟩ := hcases
  have HTT := Lib.hid (tab_below HT.out HB3.out.below)
  clear HC1 HC2
  have HSZ := Lib.hid (show s1.size ≤ 9223372036854775807 by omega)
  go_upto_region 5 with (fail)
  rcases hcases with ⟨t1, t2, t3, rfl⟩ | ⟨t1, rfl⟩ | ⟨t1, t2, rfl⟩ | ⟨t1, t2, t3, rfl⟩
  all_goals
    go_region_held3 (fun w' => w'.cell? ⟨w.heap.size, 0, none⟩ = some (.int .i64 k1) ∧ w'.cell? ⟨w.heap.size, 1, none⟩ = some (.int .i64 n1) ∧ w'.cell? ⟨w.heap.size, 2, none⟩ = some (.string s1) ∧ w'.cell? ⟨w.heap.size + 1, 0, none⟩ = some (.int .i64 k2) ∧ w'.cell? ⟨w.heap.size + 1, 1, none⟩ = some (.int .i64 n2) ∧ w'.cell? ⟨w.heap.size + 1, 2, none⟩ = some (.string s2) ∧ Two w k1 n1 s1 k2 n2 s2 w')
      (first | assumption | exact twoA_of HB3.out | exact twoA_of (two_drew HB3.out) | exact twoA_of (two_drewN HB3.out _) | exact twoA_of (two_next (And.right (And.right (And.right (And.right (And.right (And.right (by assumption))))))) (by assumption)))
      (first | (go_at_call 10; ((with_reducible refine (print_any k1 n1 s1 _ hz1 HN1.out HM1.out (tab_two HT.out (by assumption))).mono ?_); rw [← HX.out]; rintro e w2 ⟨rfl, hb⟩)) | (go_at_call 10; ((with_reducible refine (print_any k2 n2 s2 _ hz2 HN2.out HM2.out (tab_two HT.out (by assumption))).mono ?_); rw [← HY.out]; rintro e w2 ⟨rfl, hb⟩)) | (go_at_call 14; ((with_reducible refine (fits_any _ _ _ _ _ k1 n1 s1 _ HSZ.out).mono ?_); (first | rw [HF0.out] | rw [← HF1.out]); rintro e w2 ⟨rfl, hb⟩)))
  all_goals
    rename_i hq
    have HQ := Lib.hid (And.right (And.right (And.right (And.right (And.right (And.right hq)))))).below
    clear hq
    go_wp2_with fail
    go_ret
    exact ⟨rfl, HQ.out⟩
end Go.Proofs.YtembcmmoicmkeaaDoor
