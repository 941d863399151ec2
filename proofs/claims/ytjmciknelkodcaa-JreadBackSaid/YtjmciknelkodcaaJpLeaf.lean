/-
  Layer 9, the small functions and Write: valid, fixed, number, Write and the document's Write: each returns its plain function and changes nothing that was there. Condition: numbers are ints; a string has at most 2^63 - 1 bytes.
-/
import Derived.Test.YtjmciknelkodcaaJpMath
import Derived.Test.YtjmciknelkodcaaJhWrite
namespace Go.Proofs.Ytjmciknelkodcaa
open Go.RowKit

theorem pvalid_any (n : Int) (w : World) :
    Calls Try.prog 48 #[.int .i64 n] w fun e w' => e = .returned (.bool (okP n)) ∧ w = w' := by
  obtain ⟨r, hr⟩ : ∃ r, r = okP n := ⟨_, rfl⟩
  rw [← hr]
  have hrr : r = true ↔ 1 ≤ n ∧ n ≤ 2000 := by rw [hr]; exact okP_iff
  have HR := Lib.hid hrr
  clear hr hrr
  go_enter Try.func48, Try.ntmps48
  go_wp2
  all_goals go_ret
  all_goals refine ⟨ret_bool ?_, rfl⟩
  all_goals (rw [Bool.eq_iff_iff, HR.out]; simp only [decide_eq_true_iff, Bool.false_eq_true, false_iff]; omega)
theorem pfixed_any (n : Int) (h1 : -9223372036854775808 ≤ n) (h2 : n ≤ 9223372036854775807) (w : World) :
    Calls Try.prog 49 #[.int .i64 n] w fun e w' => e = .returned (.string ⟨(fixR n).1.toArray⟩) ∧ Below w.heap.size w w' := by
  go_enter Try.func49, Try.ntmps49
  go_wp2_with (go_at_call 61; refine (vfixed_any n h1 h2 _).mono ?_; rintro e w' ⟨rfl, hb⟩)
  go_ret
  exact ⟨rfl, hb⟩
theorem pnumber_any (s : ByteArray) (hs : s.size ≤ 9223372036854775807) (w : World) :
    Calls Try.prog 69 #[.string s] w fun e w' => e = .returned (.int .i64 (nmL s.data.toList)) ∧ w = w' := by
  go_enter Try.func69, Try.ntmps69
  go_wp2_with (go_at_call 75; refine (vnumber_any s hs _).mono ?_; rintro e w' ⟨rfl, rfl⟩)
  go_ret
  exact ⟨rfl, rfl⟩
set_option maxHeartbeats 4000000 in
set_option maxRecDepth 100000 in
theorem pwrite_any (n : Int) (h1 : -9223372036854775808 ≤ n) (h2 : n ≤ 9223372036854775807) (d : ByteArray) (hd : d.size ≤ 9223372036854775807) (k : Int) (h3 : -9223372036854775808 ≤ k) (h4 : k ≤ 9223372036854775807) (w : World) :
    Calls Try.prog 27 #[.int .i64 n, .string d, .int .i64 k] w fun e w' => e = .returned (.tuple #[.string ⟨(wrP n d.data.toList k).1.toArray⟩, .int .i64 (wrP n d.data.toList k).2]) ∧ Below w.heap.size w w' := by
  have HV := Lib.hid (fun w => pvalid_any n w)
  have hl : d.data.toList.length = d.size := by simp
  by_cases hok : okP n = true
  case neg =>
    have HR := Lib.hid (show wrP n d.data.toList k = ([], 3) by rw [wrP, if_neg hok])
    rw [show okP n = false by simpa using hok] at HV
    clear hok hl
    rw [HR.out]
    go_enter Try.func27, Try.ntmps27
    go_wp2_with (first | (go_at_call 48; refine (HV.out _).mono ?_; rintro e w1 ⟨rfl, rfl⟩))
    go_ret2
    exact ⟨rfl, Below.refl _ _⟩
  by_cases h512 : d.size = 512
  case neg =>
    have HR := Lib.hid (show wrP n d.data.toList k = ([], 12) by rw [wrP, if_pos hok, if_neg (by omega)])
    rw [hok] at HV
    have t1 : ((d.size : Int) == 512) = false := beq_eq_false_iff_ne.2 (by omega)
    have t2 : ¬ (d.size : Int) = 512 := by omega
    clear hok hl h512
    rw [HR.out]
    go_enter Try.func27, Try.ntmps27
    go_wp2_with (first | (go_at_call 48; refine (HV.out _).mono ?_; rintro e w1 ⟨rfl, rfl⟩))
    go_ret2
    exact ⟨rfl, Below.refl _ _⟩
  have HR := Lib.hid (show wrP n d.data.toList k = (epL n d.data.toList k, 0) by rw [wrP, if_pos hok, if_pos (by omega)])
  have e1 : (fixR n).1 = fourL n.toNat := by rw [fixR, if_pos (by have := okP_iff.1 hok; omega)]
  rw [hok] at HV
  have k1 := fun w => pfixed_any n h1 h2 w
  rw [e1] at k1
  clear e1 hok
  obtain ⟨x, hx⟩ : ∃ x : ByteArray, x = ⟨(fourL n.toNat).toArray⟩ := ⟨_, rfl⟩
  rw [← hx] at k1
  have HH := Lib.hid (show (x ++ d).data.toList = pgL n d.data.toList by rw [app_data, hx, pgL])
  have x4 : x.size = 4 := by rw [hx]; rfl
  have HZ := Lib.hid (show (x ++ d).size = 516 by rw [app_size, x4, h512])
  have x5 : x.size ≤ 4 := by omega
  have d5 : d.size ≤ 512 := by omega
  have t1 : ((d.size : Int) == 512) = true := beq_iff_eq.2 (by omega)
  have t2 : (d.size : Int) = 512 := by omega
  clear hx x4 h512 hl
  obtain ⟨q, hq⟩ : ∃ q, q = sumZ k (pgL n d.data.toList) := ⟨_, rfl⟩
  have hq' : 0 ≤ q ∧ q ≤ 4294967295 := by rw [hq]; exact sumZ_bd _ _
  have k4 := fun w => pfixed_any q (by omega) (by omega) w
  rw [show (fixR q).1 = fourL q.toNat by rw [fixR, if_pos hq']] at k4
  obtain ⟨u, hu⟩ : ∃ u : ByteArray, u = ⟨(fourL q.toNat).toArray⟩ := ⟨_, rfl⟩
  rw [← hu] at k4
  have u5 : u.size ≤ 4 := by rw [hu]; exact Nat.le_refl 4
  have HQ := Lib.hid hq; have HU := Lib.hid hu
  have k5 := fun (s : ByteArray) (hs : s.data.toList = pgL n d.data.toList) (hz : s.size ≤ 9223372036854775807) w => ssum_any k h3 h4 s hz w
  clear hq hu hq'
  rw [HR.out]
  go_enter Try.func27, Try.ntmps27
  go_wp2_with (first | (go_at_call 48; refine (HV.out _).mono ?_; rintro e w1 ⟨rfl, rfl⟩) | (go_at_call_of 49 (Value.int .i64 n); (with_reducible refine (k1 _).mono ?_); rintro e w2 ⟨rfl, b2⟩; have HB := Lib.hid b2; clear b2) | (go_at_call 45; refine (ssum_any k h3 h4 (x ++ d) (by rw [HZ.out]; decide) _).mono ?_; rw [HH.out, ← HQ.out]; rintro e w3 ⟨rfl, b3⟩; replace HB := Lib.hid (HB.out.trans (b3.mono HB.out.size)); clear b3) | (go_at_call 49; refine (k4 _).mono ?_; rintro e w4 ⟨rfl, b4⟩))
  go_ret2
  exact ⟨ret_st2 (by rw [app_data, HH.out, HU.out, HQ.out]; rfl), HB.out.trans (b4.mono HB.out.size)⟩

set_option maxHeartbeats 4000000 in
set_option maxRecDepth 100000 in
theorem qwrite_any (n : Int) (h1 : -9223372036854775808 ≤ n) (h2 : n ≤ 9223372036854775807) (d : ByteArray) (hd : d.size ≤ 9223372036854775807) (k : Int) (h3 : -9223372036854775808 ≤ k) (h4 : k ≤ 9223372036854775807) (w : World) :
    Calls Try.prog 30 #[.int .i64 n, .string d, .int .i64 k] w fun e w' => e = .returned (.tuple #[.string ⟨(wrP n d.data.toList k).1.toArray⟩, .int .i64 (wrP n d.data.toList k).2]) ∧ Below w.heap.size w w' := by
  have hl : d.data.toList.length = d.size := by simp
  by_cases hok : okP n = true
  case neg =>
    have HR := Lib.hid (show wrP n d.data.toList k = ([], 3) by rw [wrP, if_neg hok])
    rw [okP_iff] at hok
    clear hl
    rw [HR.out]
    by_cases g1 : n < 1
    · have t1 : decide (n < 1) = true := decide_eq_true g1
      go_enter Try.func30, Try.ntmps30
      go_wp2
      go_ret2
      exact ⟨rfl, Below.refl _ _⟩
    · have t1 : decide (n < 1) = false := decide_eq_false g1
      have t2 : decide (2000 < n) = true := decide_eq_true (by omega)
      go_enter Try.func30, Try.ntmps30
      go_wp2
      go_ret2
      exact ⟨rfl, Below.refl _ _⟩
  have hok' := okP_iff.1 hok
  have g1 : decide (n < 1) = false := decide_eq_false (by omega)
  have g2 : decide (2000 < n) = false := decide_eq_false (by omega)
  by_cases h512 : d.size = 512
  case neg =>
    have HR := Lib.hid (show wrP n d.data.toList k = ([], 12) by rw [wrP, if_pos hok, if_neg (by omega)])
    have t1 : ((d.size : Int) == 512) = false := beq_eq_false_iff_ne.2 (by omega)
    have t2 : ¬ (d.size : Int) = 512 := by omega
    clear hok hl h512 hok'
    rw [HR.out]
    go_enter Try.func30, Try.ntmps30
    go_wp2
    go_ret2
    exact ⟨rfl, Below.refl _ _⟩
  have HR := Lib.hid (show wrP n d.data.toList k = (epL n d.data.toList k, 0) by rw [wrP, if_pos hok, if_pos (by omega)])
  have e1 : (fixR n).1 = fourL n.toNat := by rw [fixR, if_pos (by omega)]
  have k1 := fun w => rfour_any n h1 h2 w
  rw [e1] at k1
  clear e1 hok hok'
  obtain ⟨x, hx⟩ : ∃ x : ByteArray, x = ⟨(fourL n.toNat).toArray⟩ := ⟨_, rfl⟩
  rw [← hx] at k1
  have HH := Lib.hid (show (x ++ d).data.toList = pgL n d.data.toList by rw [app_data, hx, pgL])
  have x4 : x.size = 4 := by rw [hx]; rfl
  have HZ := Lib.hid (show (x ++ d).size = 516 by rw [app_size, x4, h512])
  have x5 : x.size ≤ 4 := by omega
  have d5 : d.size ≤ 512 := by omega
  have t1 : ((d.size : Int) == 512) = true := beq_iff_eq.2 (by omega)
  have t2 : (d.size : Int) = 512 := by omega
  clear hx x4 h512 hl
  obtain ⟨q, hq⟩ : ∃ q, q = sumZ k (pgL n d.data.toList) := ⟨_, rfl⟩
  have hq' : 0 ≤ q ∧ q ≤ 4294967295 := by rw [hq]; exact sumZ_bd _ _
  have k4 := fun w => rfour_any q (by omega) (by omega) w
  rw [show (fixR q).1 = fourL q.toNat by rw [fixR, if_pos hq']] at k4
  obtain ⟨u, hu⟩ : ∃ u : ByteArray, u = ⟨(fourL q.toNat).toArray⟩ := ⟨_, rfl⟩
  rw [← hu] at k4
  have u5 : u.size ≤ 4 := by rw [hu]; exact Nat.le_refl 4
  have HQ := Lib.hid hq; have HU := Lib.hid hu
  clear hq hu hq'
  rw [HR.out]
  go_enter Try.func30, Try.ntmps30
  go_wp2_with (first | (go_at_call_of 34 (Value.int .i64 n); (with_reducible refine (k1 _).mono ?_); rintro e w2 ⟨rfl, b2⟩; have HB := Lib.hid b2; clear b2) | (go_at_call 35; refine (rsum_any k h3 h4 (x ++ d) (by rw [HZ.out]; decide) _).mono ?_; rw [HH.out, ← HQ.out]; rintro e w3 ⟨rfl, rfl⟩) | (go_at_call 34; refine (k4 _).mono ?_; rintro e w4 ⟨rfl, b4⟩))
  go_ret2
  exact ⟨ret_st2 (by rw [app_data, HH.out, HU.out, HQ.out]; rfl), HB.out.trans (b4.mono HB.out.size)⟩
end Go.Proofs.Ytjmciknelkodcaa
