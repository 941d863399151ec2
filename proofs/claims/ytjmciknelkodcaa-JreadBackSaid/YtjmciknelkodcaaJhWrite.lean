/-
  Layer 8: valid, Write and the document's Right and Write: each returns its plain function and changes nothing that was there. Condition: the header's numbers are ints.
-/
import Derived.Test.YtjmciknelkodcaaJhLeaf
namespace Go.Proofs.Ytjmciknelkodcaa
open Go.RowKit

theorem ret_st2 {A : ByteArray} {l : List UInt8} {k : Int} (h : A.data.toList = l) : Ending.returned (.tuple #[.string A, .int .i64 k]) = .returned (.tuple #[.string ⟨l.toArray⟩, .int .i64 k]) := by subst h; rfl
theorem okH_eq3 (a b c : Int) : eq3 a b c (clampZ a 2000) (clampZ b 2000) (clampZ c 4294967295) = okH a b c := by
  rw [Bool.eq_iff_iff, eq3_true, okH_iff]
  unfold clampZ
  omega

set_option maxHeartbeats 2000000 in
set_option maxRecDepth 100000 in
theorem valid_any (a b c : Int) (w : World) :
    Calls Try.prog 43 #[.agg #[.int .i64 a, .int .i64 b, .int .i64 c]] w fun e w' => e = .returned (.bool (okH a b c)) ∧ Below w.heap.size w w' := by
  have h1 := fun w => nearest_any a b c w
  have hk := okH_eq3 a b c
  generalize clampZ a 2000 = x at h1 hk
  generalize clampZ b 2000 = y at h1 hk
  generalize clampZ c 4294967295 = z at h1 hk
  have hq := run_eqlH a b c x y z
  have hg := guardH
  have HN := Lib.hid (h8_new w (.int .i64 a) (.int .i64 b) (.int .i64 c) 65)
  rw [hk] at hq
  clear hk
  go_enter Try.func43, Try.ntmps43
  go_upto_region 1 with (fail)
  revert HN
  generalize w.alloc (.cells #[.int .i64 a, .int .i64 b, .int .i64 c] 65) = W0
  intro HN
  go_region_held3 (fun v => v.cell? ⟨w.heap.size, 0, none⟩ = some (.int .i64 a) ∧ v.cell? ⟨w.heap.size, 1, none⟩ = some (.int .i64 b) ∧ v.cell? ⟨w.heap.size, 2, none⟩ = some (.int .i64 c) ∧ H8I w.heap.size (.int .i64 a) (.int .i64 b) (.int .i64 c) w v)
    (first | assumption | exact h8_of HN.out | exact h8_of (h8_drew HN.out) | exact h8_of (h8_next (And.right (And.right (And.right (by assumption)))) (by assumption)))
    ((go_at_call 60; refine (h1 _).mono ?_; rintro e w2 ⟨rfl, hb⟩))
  all_goals go_wp2
  all_goals go_ret
  all_goals exact ⟨rfl, H8I.below (And.right (And.right (And.right (by assumption))))⟩

set_option maxHeartbeats 2000000 in
set_option maxRecDepth 100000 in
theorem right_any (a b c : Int) (w : World) :
    Calls Try.prog 50 #[.agg #[.int .i64 a, .int .i64 b, .int .i64 c]] w fun e w' => e = .returned (.bool (okH a b c)) ∧ Below w.heap.size w w' := by
  obtain ⟨r, hr⟩ : ∃ r, r = okH a b c := ⟨_, rfl⟩
  rw [← hr]
  have HN := Lib.hid (h8_new w (.int .i64 a) (.int .i64 b) (.int .i64 c) 60)
  have hrr : r = true ↔ 0 ≤ a ∧ a ≤ 2000 ∧ 0 ≤ b ∧ b ≤ 2000 ∧ 0 ≤ c ∧ c ≤ 4294967295 := by rw [hr]; exact okH_iff
  have HR := Lib.hid hrr
  clear hr hrr
  go_enter Try.func50, Try.ntmps50
  go_wp2
  all_goals go_ret
  all_goals refine ⟨ret_bool ?_, HN.out.below⟩
  all_goals (rw [Bool.eq_iff_iff, HR.out]; simp only [decide_eq_true_iff, Bool.false_eq_true, false_iff]; omega)

set_option maxHeartbeats 4000000 in
set_option maxRecDepth 100000 in
theorem jwrite_any (a b c : Int) (h1 : -9223372036854775808 ≤ a) (h2 : a ≤ 9223372036854775807) (h3 : -9223372036854775808 ≤ b) (h4 : b ≤ 9223372036854775807) (h5 : -9223372036854775808 ≤ c) (h6 : c ≤ 9223372036854775807) (w : World) :
    Calls Try.prog 24 #[.agg #[.int .i64 a, .int .i64 b, .int .i64 c]] w fun e w' => e = .returned (.tuple #[.string ⟨(wrH a b c).1.toArray⟩, .int .i64 (wrH a b c).2]) ∧ Below w.heap.size w w' := by
  have HN := Lib.hid (h8_new w (.int .i64 a) (.int .i64 b) (.int .i64 c) 65)
  have HV := Lib.hid (fun w => valid_any a b c w)
  by_cases hok : okH a b c = true
  · have e1 : (fixR a).1 = fourL a.toNat := by rw [fixR, if_pos (by have := okH_iff.1 hok; omega)]
    have e2 : (fixR b).1 = fourL b.toNat := by rw [fixR, if_pos (by have := okH_iff.1 hok; omega)]
    have e3 : (fixR c).1 = fourL c.toNat := by rw [fixR, if_pos (by have := okH_iff.1 hok; omega)]
    have k1 := fun w => jfixed_any a h1 h2 w
    have k2 := fun w => jfixed_any b h3 h4 w
    have k3 := fun w => jfixed_any c h5 h6 w
    rw [e1] at k1
    rw [e2] at k2
    rw [e3] at k3
    clear e1 e2 e3
    obtain ⟨x, hx⟩ : ∃ x : ByteArray, x = ⟨(fourL a.toNat).toArray⟩ := ⟨_, rfl⟩
    obtain ⟨y, hy⟩ : ∃ y : ByteArray, y = ⟨(fourL b.toNat).toArray⟩ := ⟨_, rfl⟩
    obtain ⟨z, hz⟩ : ∃ z : ByteArray, z = ⟨(fourL c.toNat).toArray⟩ := ⟨_, rfl⟩
    rw [← hx] at k1
    rw [← hy] at k2
    rw [← hz] at k3
    have HH := Lib.hid (show ((⟨#[97, 110, 110, 120, 106, 114, 110, 108]⟩ : ByteArray) ++ x ++ y ++ z).data.toList = hdL a b c by rw [app_data, app_data, app_data, hx, hy, hz]; rfl)
    have x4 : x.size = 4 := by rw [hx]; rfl
    have y4 : y.size = 4 := by rw [hy]; rfl
    have z4 : z.size = 4 := by rw [hz]; rfl
    have HZ := Lib.hid (show ((⟨#[97, 110, 110, 120, 106, 114, 110, 108]⟩ : ByteArray) ++ x ++ y ++ z).size = 20 by rw [app_size, app_size, app_size, x4, y4, z4]; rfl)
    have HR := Lib.hid (show wrH a b c = (enL a b c, 0) by rw [wrH, if_pos hok])
    rw [hok] at HV
    clear hx hy hz hok
    obtain ⟨q, hq⟩ : ∃ q, q = sumZ 7 (hdL a b c) := ⟨_, rfl⟩
    have hq' : 0 ≤ q ∧ q ≤ 4294967295 := by rw [hq]; exact sumZ_bd _ _
    have k4 := fun w => jfixed_any q (by omega) (by omega) w
    rw [show (fixR q).1 = fourL q.toNat by rw [fixR, if_pos hq']] at k4
    obtain ⟨u, hu⟩ : ∃ u : ByteArray, u = ⟨(fourL q.toNat).toArray⟩ := ⟨_, rfl⟩
    rw [← hu] at k4
    have u4 : u.size = 4 := by rw [hu]; rfl
    have HQ := Lib.hid hq; have HU := Lib.hid hu
    clear hq hu hq'
    rw [HR.out]
    go_enter Try.func24, Try.ntmps24
    go_upto_region 3 with (first | (go_at_call 43; refine (HV.out _).mono ?_; rintro e w1 ⟨rfl, b1⟩))
    have HN1 := Lib.hid (h8_next HN.out b1)
    clear HN b1
    go_region_held3 (fun v => v.cell? ⟨w.heap.size, 0, none⟩ = some (.int .i64 a) ∧ v.cell? ⟨w.heap.size, 1, none⟩ = some (.int .i64 b) ∧ v.cell? ⟨w.heap.size, 2, none⟩ = some (.int .i64 c) ∧ H8I w.heap.size (.int .i64 a) (.int .i64 b) (.int .i64 c) w v)
      (first | assumption | exact h8_of HN1.out | exact h8_of (h8_drew HN1.out) | exact h8_of (h8_next (And.right (And.right (And.right (by assumption)))) (by assumption)))
      (first | (go_at_call_of 44 (Value.int .i64 a); (with_reducible refine (k1 _).mono ?_); rintro e w2 ⟨rfl, hb⟩) | (go_at_call_of 44 (Value.int .i64 b); (with_reducible refine (k2 _).mono ?_); rintro e w2 ⟨rfl, hb⟩) | (go_at_call_of 44 (Value.int .i64 c); (with_reducible refine (k3 _).mono ?_); rintro e w2 ⟨rfl, hb⟩))
    all_goals (rename_i hS; have HB := Lib.hid (H8I.below (And.right (And.right (And.right hS)))); clear hS)
    all_goals revert HH HZ
    all_goals generalize ((⟨#[97, 110, 110, 120, 106, 114, 110, 108]⟩ : ByteArray) ++ x ++ y ++ z) = s at *
    all_goals intro HH HZ
    all_goals have hz := HZ.out
    all_goals go_wp2_with (first | (go_at_call 45; refine (ssum_any 7 (by decide) (by decide) s (by rw [HZ.out]; decide) _).mono ?_; rw [HH.out, ← HQ.out]; rintro e w3 ⟨rfl, b3⟩; replace HB := Lib.hid (HB.out.trans (b3.mono HB.out.size)); clear b3) | (go_at_call 44; refine (k4 _).mono ?_; rintro e w4 ⟨rfl, b4⟩))
    all_goals go_ret2
    all_goals exact ⟨ret_st2 (by rw [app_data, app_data, HH.out, HU.out, HQ.out]; rfl), HB.out.trans (b4.mono HB.out.size)⟩
  · have HR := Lib.hid (show wrH a b c = ([], 3) by rw [wrH, if_neg hok])
    rw [show okH a b c = false by simpa using hok] at HV
    clear hok
    rw [HR.out]
    go_enter Try.func24, Try.ntmps24
    go_wp2_with (first | (go_at_call 43; refine (HV.out _).mono ?_; rintro e w1 ⟨rfl, b1⟩))
    go_ret2
    exact ⟨rfl, (h8_next HN.out b1).below⟩

set_option maxHeartbeats 4000000 in
set_option maxRecDepth 100000 in
theorem rwrite_any (a b c : Int) (h1 : -9223372036854775808 ≤ a) (h2 : a ≤ 9223372036854775807) (h3 : -9223372036854775808 ≤ b) (h4 : b ≤ 9223372036854775807) (h5 : -9223372036854775808 ≤ c) (h6 : c ≤ 9223372036854775807) (w : World) :
    Calls Try.prog 29 #[.agg #[.int .i64 a, .int .i64 b, .int .i64 c]] w fun e w' => e = .returned (.tuple #[.string ⟨(wrH a b c).1.toArray⟩, .int .i64 (wrH a b c).2]) ∧ Below w.heap.size w w' := by
  have HN := Lib.hid (h8_new w (.int .i64 a) (.int .i64 b) (.int .i64 c) 60)
  have HV := Lib.hid (fun w => right_any a b c w)
  by_cases hok : okH a b c = true
  · have e1 : (fixR a).1 = fourL a.toNat := by rw [fixR, if_pos (by have := okH_iff.1 hok; omega)]
    have e2 : (fixR b).1 = fourL b.toNat := by rw [fixR, if_pos (by have := okH_iff.1 hok; omega)]
    have e3 : (fixR c).1 = fourL c.toNat := by rw [fixR, if_pos (by have := okH_iff.1 hok; omega)]
    have k1 := fun w => rfour_any a h1 h2 w
    have k2 := fun w => rfour_any b h3 h4 w
    have k3 := fun w => rfour_any c h5 h6 w
    rw [e1] at k1
    rw [e2] at k2
    rw [e3] at k3
    clear e1 e2 e3
    obtain ⟨x, hx⟩ : ∃ x : ByteArray, x = ⟨(fourL a.toNat).toArray⟩ := ⟨_, rfl⟩
    obtain ⟨y, hy⟩ : ∃ y : ByteArray, y = ⟨(fourL b.toNat).toArray⟩ := ⟨_, rfl⟩
    obtain ⟨z, hz⟩ : ∃ z : ByteArray, z = ⟨(fourL c.toNat).toArray⟩ := ⟨_, rfl⟩
    rw [← hx] at k1
    rw [← hy] at k2
    rw [← hz] at k3
    have HH := Lib.hid (show ((⟨#[97, 110, 110, 120, 106, 114, 110, 108]⟩ : ByteArray) ++ x ++ y ++ z).data.toList = hdL a b c by rw [app_data, app_data, app_data, hx, hy, hz]; rfl)
    have x4 : x.size = 4 := by rw [hx]; rfl
    have y4 : y.size = 4 := by rw [hy]; rfl
    have z4 : z.size = 4 := by rw [hz]; rfl
    have HZ := Lib.hid (show ((⟨#[97, 110, 110, 120, 106, 114, 110, 108]⟩ : ByteArray) ++ x ++ y ++ z).size = 20 by rw [app_size, app_size, app_size, x4, y4, z4]; rfl)
    have HR := Lib.hid (show wrH a b c = (enL a b c, 0) by rw [wrH, if_pos hok])
    rw [hok] at HV
    clear hx hy hz hok
    obtain ⟨q, hq⟩ : ∃ q, q = sumZ 7 (hdL a b c) := ⟨_, rfl⟩
    have hq' : 0 ≤ q ∧ q ≤ 4294967295 := by rw [hq]; exact sumZ_bd _ _
    have k4 := fun w => rfour_any q (by omega) (by omega) w
    rw [show (fixR q).1 = fourL q.toNat by rw [fixR, if_pos hq']] at k4
    obtain ⟨u, hu⟩ : ∃ u : ByteArray, u = ⟨(fourL q.toNat).toArray⟩ := ⟨_, rfl⟩
    rw [← hu] at k4
    have u4 : u.size = 4 := by rw [hu]; rfl
    have HQ := Lib.hid hq; have HU := Lib.hid hu
    clear hq hu hq'
    rw [HR.out]
    go_enter Try.func29, Try.ntmps29
    go_upto_region 3 with (first | (go_at_call 50; refine (HV.out _).mono ?_; rintro e w1 ⟨rfl, b1⟩))
    have HN1 := Lib.hid (h8_next HN.out b1)
    clear HN b1
    go_region_held3 (fun v => v.cell? ⟨w.heap.size, 0, none⟩ = some (.int .i64 a) ∧ v.cell? ⟨w.heap.size, 1, none⟩ = some (.int .i64 b) ∧ v.cell? ⟨w.heap.size, 2, none⟩ = some (.int .i64 c) ∧ H8I w.heap.size (.int .i64 a) (.int .i64 b) (.int .i64 c) w v)
      (first | assumption | exact h8_of HN1.out | exact h8_of (h8_drew HN1.out) | exact h8_of (h8_next (And.right (And.right (And.right (by assumption)))) (by assumption)))
      (first | (go_at_call_of 34 (Value.int .i64 a); (with_reducible refine (k1 _).mono ?_); rintro e w2 ⟨rfl, hb⟩) | (go_at_call_of 34 (Value.int .i64 b); (with_reducible refine (k2 _).mono ?_); rintro e w2 ⟨rfl, hb⟩) | (go_at_call_of 34 (Value.int .i64 c); (with_reducible refine (k3 _).mono ?_); rintro e w2 ⟨rfl, hb⟩))
    all_goals (rename_i hS; have HB := Lib.hid (H8I.below (And.right (And.right (And.right hS)))); clear hS)
    all_goals revert HH HZ
    all_goals generalize ((⟨#[97, 110, 110, 120, 106, 114, 110, 108]⟩ : ByteArray) ++ x ++ y ++ z) = s at *
    all_goals intro HH HZ
    all_goals have hz := HZ.out
    all_goals go_wp2_with (first | (go_at_call 35; refine (rsum_any 7 (by decide) (by decide) s (by rw [HZ.out]; decide) _).mono ?_; rw [HH.out, ← HQ.out]; rintro e w3 ⟨rfl, rfl⟩) | (go_at_call 34; refine (k4 _).mono ?_; rintro e w4 ⟨rfl, b4⟩))
    all_goals go_ret2
    all_goals exact ⟨ret_st2 (by rw [app_data, app_data, HH.out, HU.out, HQ.out]; rfl), HB.out.trans (b4.mono HB.out.size)⟩
  · have HR := Lib.hid (show wrH a b c = ([], 3) by rw [wrH, if_neg hok])
    rw [show okH a b c = false by simpa using hok] at HV
    clear hok
    rw [HR.out]
    go_enter Try.func29, Try.ntmps29
    go_wp2_with (first | (go_at_call 50; refine (HV.out _).mono ?_; rintro e w1 ⟨rfl, b1⟩))
    go_ret2
    exact ⟨rfl, (h8_next HN.out b1).below⟩
end Go.Proofs.Ytjmciknelkodcaa
