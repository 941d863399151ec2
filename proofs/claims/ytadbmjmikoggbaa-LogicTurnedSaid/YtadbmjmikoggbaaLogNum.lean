/-
  Layer 6, numbers: Add, Mul, Negative and the document's answers for them: each returns its plain function and changes nothing that was there. Condition: the numbers are ints.
-/
import Derived.Test.YtadbmjmikoggbaaLogLeaf
namespace Go.Proofs.Ytadbmjmikoggbaa
open Go.RowKit

/-- A number that is to fit, and the error where it does not. -/
def fitN (z : Int) : Int := if -9223372036854775808 ≤ z ∧ z ≤ 9223372036854775807 then z else 0
def fitE (z : Int) : Int := if -9223372036854775808 ≤ z ∧ z ≤ 9223372036854775807 then 0 else 15

theorem carry_over {a b c : Int} (ha : -9223372036854775808 ≤ a ∧ a ≤ 9223372036854775807) (hb : -9223372036854775808 ≤ b ∧ b ≤ 9223372036854775807) (hc : 0 ≤ c ∧ c ≤ 1) (h1 : a < 0 ↔ b < 0) (h2 : (!decide (wrap64 (wrap64 (a + b) + c) < 0) == decide (b < 0)) = true) : ¬ (-9223372036854775808 ≤ a + b + c ∧ a + b + c ≤ 9223372036854775807) := by
  rw [Bool.not_eq_true', beq_eq_false_iff_ne, ne_eq, decide_eq_decide] at h2
  unfold wrap64 at h2
  omega
theorem carry_same {a b c : Int} (ha : -9223372036854775808 ≤ a ∧ a ≤ 9223372036854775807) (hb : -9223372036854775808 ≤ b ∧ b ≤ 9223372036854775807) (hc : 0 ≤ c ∧ c ≤ 1) (h1 : a < 0 ↔ b < 0) (h2 : (!decide (wrap64 (wrap64 (a + b) + c) < 0) == decide (b < 0)) = false) : (-9223372036854775808 ≤ a + b + c ∧ a + b + c ≤ 9223372036854775807) ∧ wrap64 (wrap64 (a + b) + c) = a + b + c := by
  rw [Bool.not_eq_false', beq_iff_eq, decide_eq_decide] at h2
  unfold wrap64 at *
  omega
theorem carry_other {a b c : Int} (ha : -9223372036854775808 ≤ a ∧ a ≤ 9223372036854775807) (hb : -9223372036854775808 ≤ b ∧ b ≤ 9223372036854775807) (hc : 0 ≤ c ∧ c ≤ 1) (h1 : ¬ (a < 0 ↔ b < 0)) : (-9223372036854775808 ≤ a + b + c ∧ a + b + c ≤ 9223372036854775807) ∧ wrap64 (wrap64 (a + b) + c) = a + b + c := by
  unfold wrap64
  omega
set_option maxHeartbeats 1000000 in
theorem carry_any (a b c : Int) (w : World) (ha : -9223372036854775808 ≤ a ∧ a ≤ 9223372036854775807) (hb : -9223372036854775808 ≤ b ∧ b ≤ 9223372036854775807) (hc : 0 ≤ c ∧ c ≤ 1) :
    Calls Try.prog 35 #[.int .i64 a, .int .i64 b, .int .i64 c] w fun e w' => e = .returned (.tuple #[.int .i64 (fitN (a + b + c)), .int .i64 (fitE (a + b + c))]) ∧ w = w' := by
  obtain ⟨r, hr⟩ : ∃ r, r = fitN (a + b + c) := ⟨_, rfl⟩
  obtain ⟨q, hq⟩ : ∃ q, q = fitE (a + b + c) := ⟨_, rfl⟩
  rw [← hr, ← hq]
  have HR := Lib.hid hr; have HQ := Lib.hid hq; clear hr hq
  have HA := Lib.hid ha; have HB := Lib.hid hb; have HC := Lib.hid hc; clear ha hb hc
  go_enter Try.func35, Try.ntmps35
  go_wp2
  · go_ret2
    have h := carry_over HA.out HB.out HC.out (by assumption) (by assumption)
    exact ⟨lg_ret2 (by rw [HR.out, fitN, if_neg h]) (by rw [HQ.out, fitE, if_neg h]), rfl⟩
  · go_ret2
    have h := carry_same HA.out HB.out HC.out (by assumption) (by assumption)
    exact ⟨lg_ret2 (by rw [HR.out, fitN, if_pos h.1, h.2]) (by rw [HQ.out, fitE, if_pos h.1]), rfl⟩
  · go_ret2
    have h := carry_other HA.out HB.out HC.out (by assumption)
    exact ⟨lg_ret2 (by rw [HR.out, fitN, if_pos h.1, h.2]) (by rw [HQ.out, fitE, if_pos h.1]), rfl⟩
theorem add_any (a b : Int) (w : World) (ha : -9223372036854775808 ≤ a ∧ a ≤ 9223372036854775807) (hb : -9223372036854775808 ≤ b ∧ b ≤ 9223372036854775807) :
    Calls Try.prog 21 #[.int .i64 a, .int .i64 b] w fun e w' => e = .returned (.tuple #[.int .i64 (fitN (a + b)), .int .i64 (fitE (a + b))]) ∧ w = w' := by
  have h := carry_any a b 0 w ha hb (by omega)
  rw [Int.add_zero] at h
  go_enter Try.func21, Try.ntmps21
  go_wp2_with fail
  refine h.mono ?_
  rintro e w' ⟨rfl, rfl⟩
  go_wp2_with fail
  go_ret2
  exact ⟨rfl, rfl⟩
theorem radd_any (a b : Int) (w : World) (ha : -9223372036854775808 ≤ a ∧ a ≤ 9223372036854775807) (hb : -9223372036854775808 ≤ b ∧ b ≤ 9223372036854775807) :
    Calls Try.prog 22 #[.int .i64 a, .int .i64 b] w fun e w' => e = .returned (.tuple #[.int .i64 (fitN (a + b)), .int .i64 (fitE (a + b))]) ∧ w = w' := by
  obtain ⟨r, hr⟩ : ∃ r, r = fitN (a + b) := ⟨_, rfl⟩
  obtain ⟨q, hq⟩ : ∃ q, q = fitE (a + b) := ⟨_, rfl⟩
  rw [← hr, ← hq]
  have HR := Lib.hid hr; have HQ := Lib.hid hq; clear hr hq
  have HA := Lib.hid ha; have HB := Lib.hid hb; clear ha hb
  go_enter Try.func22, Try.ntmps22
  go_wp2
  all_goals (go_ret2; refine ⟨lg_ret2 ?_ ?_, rfl⟩ <;> first | rw [HR.out, fitN] | rw [HQ.out, fitE])
  all_goals (have ha := HA.out; have hb := HB.out; clear HR HQ HA HB; unfold wrap64 at *; split <;> omega)
theorem rsub_any (a b : Int) (w : World) (ha : -9223372036854775808 ≤ a ∧ a ≤ 9223372036854775807) (hb : -9223372036854775808 ≤ b ∧ b ≤ 9223372036854775807) :
    Calls Try.prog 54 #[.int .i64 a, .int .i64 b] w fun e w' => e = .returned (.tuple #[.int .i64 (fitN (a - b)), .int .i64 (fitE (a - b))]) ∧ w = w' := by
  obtain ⟨r, hr⟩ : ∃ r, r = fitN (a - b) := ⟨_, rfl⟩
  obtain ⟨q, hq⟩ : ∃ q, q = fitE (a - b) := ⟨_, rfl⟩
  rw [← hr, ← hq]
  have HR := Lib.hid hr; have HQ := Lib.hid hq; clear hr hq
  have HA := Lib.hid ha; have HB := Lib.hid hb; clear ha hb
  go_enter Try.func54, Try.ntmps54
  go_wp2
  all_goals (go_ret2; refine ⟨lg_ret2 ?_ ?_, rfl⟩ <;> first | rw [HR.out, fitN] | rw [HQ.out, fitE])
  all_goals (have ha := HA.out; have hb := HB.out; clear HR HQ HA HB; unfold wrap64 at *; split <;> omega)

theorem mul_sign {a b : Int} (ha : a ≠ 0) (hb : b ≠ 0) : a * b < 0 ↔ ¬ (a < 0 ↔ b < 0) := by
  by_cases h1 : a < 0
  · by_cases h2 : b < 0
    · have := Int.mul_pos_of_neg_of_neg h1 h2; omega
    · have := Int.mul_neg_of_neg_of_pos h1 (show 0 < b by omega); omega
  · by_cases h2 : b < 0
    · have := Int.mul_neg_of_pos_of_neg (show 0 < a by omega) h2; omega
    · have := Int.mul_pos (show 0 < a by omega) (show 0 < b by omega); omega
theorem mul_wrap {p : Int} (h : -9223372036854775808 ≤ p ∧ p ≤ 9223372036854775807) : wrap64 p = p := by unfold wrap64; omega
theorem mul_a {a b : Int} (ha : a ≠ 0) (hb : b ≠ 0) (hf : -9223372036854775808 ≤ a * b ∧ a * b ≤ 9223372036854775807) (h : (!decide (wrap64 (a * b) < 0) == !decide (a < 0) == decide (b < 0)) = true) : False := by
  have hs := mul_sign ha hb
  rw [mul_wrap hf] at h
  by_cases h1 : a < 0 <;> by_cases h2 : b < 0 <;> by_cases h3 : a * b < 0 <;> simp [h1, h2, h3] at h hs
theorem mul_c {a b : Int} (ha : -9223372036854775808 ≤ a ∧ a ≤ 9223372036854775807) (hb : b ≠ 0) (hf : -9223372036854775808 ≤ a * b ∧ a * b ≤ 9223372036854775807) : wrap64 ((wrap64 (a * b)).tdiv b) = a := by
  rw [mul_wrap hf, Int.mul_tdiv_cancel _ hb, mul_wrap ha]
theorem mul_b {a b : Int} (ha : -9223372036854775808 ≤ a ∧ a ≤ 9223372036854775807) (hb : -9223372036854775808 ≤ b ∧ b ≤ 9223372036854775807) (hb0 : b ≠ 0) (h1 : wrap64 ((wrap64 (a * b)).tdiv b) = a) (h2 : (!decide (wrap64 (a * b) < 0) == !decide (a < 0) == decide (b < 0)) = false) : -9223372036854775808 ≤ a * b ∧ a * b ≤ 9223372036854775807 := by
  refine Decidable.byContradiction fun hn => ?_
  obtain ⟨p, hp⟩ : ∃ p, p = a * b := ⟨_, rfl⟩
  rw [← hp] at h1 h2 hn
  obtain ⟨P, hP⟩ : ∃ P, P = wrap64 p := ⟨_, rfl⟩
  rw [← hP] at h1 h2
  have hP1 : -9223372036854775808 ≤ P ∧ P ≤ 9223372036854775807 := by rw [hP]; unfold wrap64; omega
  have hP2 : P - p ≤ -18446744073709551616 ∨ 18446744073709551616 ≤ P - p := by rw [hP]; unfold wrap64; omega
  have hd := Int.mul_tdiv_add_tmod P b
  have hr : (P.tmod b).natAbs < b.natAbs := by rw [Int.natAbs_tmod]; exact Nat.mod_lt _ (by omega)
  have hq : (P.tdiv b).natAbs = P.natAbs / b.natAbs := Int.natAbs_tdiv _ _
  obtain ⟨q, hqq⟩ : ∃ q, q = P.tdiv b := ⟨_, rfl⟩
  obtain ⟨r, hrr⟩ : ∃ r, r = P.tmod b := ⟨_, rfl⟩
  rw [← hqq] at h1 hd hq
  rw [← hrr] at hd hr
  by_cases hin : -9223372036854775808 ≤ q ∧ q ≤ 9223372036854775807
  · rw [mul_wrap hin] at h1
    subst h1
    have : b * q = p := by rw [hp, Int.mul_comm]
    omega
  · have hb1 : b.natAbs = 1 := by
      refine Decidable.byContradiction fun h => ?_
      have : P.natAbs / b.natAbs ≤ P.natAbs / 2 := Nat.div_le_div_left (by omega) (by omega)
      omega
    rw [hb1, Nat.div_one] at hq
    have hbb : b = 1 ∨ b = -1 := by omega
    rcases hbb with rfl | rfl
    · omega
    · have hq2 : q = 9223372036854775808 := by omega
      have hP3 : P = -9223372036854775808 := by omega
      have ha2 : a = -9223372036854775808 := by rw [← h1, hq2]; unfold wrap64; omega
      rw [hP3, ha2] at h2
      simp at h2
set_option maxHeartbeats 1000000 in
theorem mul_any (a b : Int) (w : World) (ha : -9223372036854775808 ≤ a ∧ a ≤ 9223372036854775807) (hb : -9223372036854775808 ≤ b ∧ b ≤ 9223372036854775807) :
    Calls Try.prog 23 #[.int .i64 a, .int .i64 b] w fun e w' => e = .returned (.tuple #[.int .i64 (fitN (a * b)), .int .i64 (fitE (a * b))]) ∧ w = w' := by
  obtain ⟨r, hr⟩ : ∃ r, r = fitN (a * b) := ⟨_, rfl⟩
  obtain ⟨q, hq⟩ : ∃ q, q = fitE (a * b) := ⟨_, rfl⟩
  rw [← hr, ← hq]
  have HR := Lib.hid hr; have HQ := Lib.hid hq; clear hr hq
  have HA := Lib.hid ha; have HB := Lib.hid hb; clear ha hb
  by_cases a0 : a = 0
  · subst a0
    obtain rfl : r = 0 := by rw [HR.out, Int.zero_mul]; rfl
    obtain rfl : q = 0 := by rw [HQ.out, Int.zero_mul]; rfl
    clear HR HQ
    go_enter Try.func23, Try.ntmps23
    go_wp2
    go_ret2
    exact ⟨rfl, rfl⟩
  by_cases b0 : b = 0
  · subst b0
    obtain rfl : r = 0 := by rw [HR.out, Int.mul_zero]; rfl
    obtain rfl : q = 0 := by rw [HQ.out, Int.mul_zero]; rfl
    clear HR HQ
    go_enter Try.func23, Try.ntmps23
    go_wp2
    go_ret2
    exact ⟨rfl, rfl⟩
  have t1 : (a == 0) = false := by simpa using a0
  have t2 : (b == 0) = false := by simpa using b0
  go_enter Try.func23, Try.ntmps23
  go_wp2
  · go_ret2
    have h : ¬ (-9223372036854775808 ≤ a * b ∧ a * b ≤ 9223372036854775807) := fun h => mul_a a0 b0 h (by assumption)
    exact ⟨lg_ret2 (by rw [HR.out, fitN, if_neg h]) (by rw [HQ.out, fitE, if_neg h]), rfl⟩
  · go_ret2
    have h := mul_b HA.out HB.out b0 (by assumption) (by assumption)
    exact ⟨lg_ret2 (by rw [HR.out, fitN, if_pos h, mul_wrap h]) (by rw [HQ.out, fitE, if_pos h]), rfl⟩
  · go_ret2
    rename_i h1
    have h : ¬ (-9223372036854775808 ≤ a * b ∧ a * b ≤ 9223372036854775807) := fun h => h1 (mul_c HA.out b0 h)
    exact ⟨lg_ret2 (by rw [HR.out, fitN, if_neg h]) (by rw [HQ.out, fitE, if_neg h]), rfl⟩
theorem rsize_any (a : Int) (w : World) (ha : -9223372036854775808 ≤ a ∧ a ≤ 9223372036854775807) :
    Calls Try.prog 36 #[.int .i64 a] w fun e w' => e = .returned (.int .u64 (a.natAbs : Int)) ∧ w = w' := by
  obtain ⟨r, hr⟩ : ∃ r, r = (a.natAbs : Int) := ⟨_, rfl⟩
  rw [← hr]
  have HR := Lib.hid hr; have HA := Lib.hid ha; clear hr ha
  go_enter Try.func36, Try.ntmps36
  go_wp2
  all_goals (go_ret; refine ⟨lg_ret ?_, rfl⟩; have ha := HA.out; rw [HR.out]; clear HR HA; simp only [IntKind.wrap_u64]; omega)
theorem abs_mul (a b : Int) : a * b = (a.natAbs : Int) * b.natAbs ∧ (a < 0 ↔ b < 0) ∨ a * b = -((a.natAbs : Int) * b.natAbs) ∧ ¬ (a < 0 ↔ b < 0) := by
  by_cases h1 : a < 0
  · have e1 : (a.natAbs : Int) = -a := by omega
    by_cases h2 : b < 0
    · have e2 : (b.natAbs : Int) = -b := by omega
      exact .inl ⟨by rw [e1, e2, Int.neg_mul_neg], by omega⟩
    · have e2 : (b.natAbs : Int) = b := by omega
      exact .inr ⟨by rw [e1, e2, Int.neg_mul, Int.neg_neg], by omega⟩
  · have e1 : (a.natAbs : Int) = a := by omega
    by_cases h2 : b < 0
    · have e2 : (b.natAbs : Int) = -b := by omega
      exact .inr ⟨by rw [e1, e2, Int.mul_neg, Int.neg_neg], by omega⟩
    · have e2 : (b.natAbs : Int) = b := by omega
      exact .inl ⟨by rw [e1, e2], by omega⟩
theorem div_over {x y : Int} (hx : 0 ≤ x) (hy : 0 < y) : (IntKind.u64.wrap (Int.tdiv 9223372036854775808 y) < x) ↔ 9223372036854775808 < x * y := by
  rw [Int.tdiv_eq_ediv_of_nonneg (by omega)]
  have h0 : 0 ≤ 9223372036854775808 / y := Int.ediv_nonneg (by omega) (by omega)
  have h1 : 9223372036854775808 / y ≤ 9223372036854775808 := Int.ediv_le_self _ (by omega)
  rw [IntKind.wrap_u64, Int.emod_eq_of_lt h0 (by omega)]
  exact Int.ediv_lt_iff_lt_mul hy
set_option maxHeartbeats 1000000 in
theorem rmul_any (a b : Int) (w : World) (ha : -9223372036854775808 ≤ a ∧ a ≤ 9223372036854775807) (hb : -9223372036854775808 ≤ b ∧ b ≤ 9223372036854775807) :
    Calls Try.prog 24 #[.int .i64 a, .int .i64 b] w fun e w' => e = .returned (.tuple #[.int .i64 (fitN (a * b)), .int .i64 (fitE (a * b))]) ∧ w = w' := by
  obtain ⟨r, hr⟩ : ∃ r, r = fitN (a * b) := ⟨_, rfl⟩
  obtain ⟨q, hq⟩ : ∃ q, q = fitE (a * b) := ⟨_, rfl⟩
  rw [← hr, ← hq]
  obtain ⟨x, hx⟩ : ∃ x, x = (a.natAbs : Int) := ⟨_, rfl⟩
  obtain ⟨y, hy⟩ : ∃ y, y = (b.natAbs : Int) := ⟨_, rfl⟩
  have HR := Lib.hid hr; have HQ := Lib.hid hq; clear hr hq
  have HA := Lib.hid ha; have HB := Lib.hid hb; clear ha hb
  have HX := Lib.hid hx; have HY := Lib.hid hy; clear hx hy
  have hm := abs_mul a b
  rw [← HX.out, ← HY.out] at hm
  have hx0 : 0 ≤ x := by rw [HX.out]; omega
  have hy0 : 0 ≤ y := by rw [HY.out]; omega
  by_cases y0 : y = 0
  · subst y0
    have e : a * b = 0 := by rcases hm with ⟨h, -⟩ | ⟨h, -⟩ <;> rw [h, Int.mul_zero] <;> rfl
    obtain rfl : r = 0 := by rw [HR.out, e]; rfl
    obtain rfl : q = 0 := by rw [HQ.out, e]; rfl
    clear HR HQ hm hx0 hy0 e
    go_enter Try.func24, Try.ntmps24
    go_wp2_with (go_at_call 36; first | (with_reducible refine (rsize_any a _ HA.out).mono ?_; rw [← HX.out]; rintro e w' ⟨rfl, rfl⟩) | (with_reducible refine (rsize_any b _ HB.out).mono ?_; rw [← HY.out]; rintro e w' ⟨rfl, rfl⟩))
    all_goals (go_ret2; exact ⟨lg_ret2 (by first | rfl | decide) rfl, rfl⟩)
  have hd := div_over hx0 (show 0 < y by omega)
  have t1 : (y != 0) = true := by simpa using y0
  have t2 : (y == 0) = false := by simpa using y0
  obtain ⟨m, hme⟩ : ∃ m, m = x * y := ⟨_, rfl⟩
  rw [← hme] at hm hd
  have hm0 : 0 ≤ m := by rw [hme]; exact Int.mul_nonneg hx0 hy0
  obtain ⟨D, hD⟩ : ∃ D, D = IntKind.u64.wrap (Int.tdiv 9223372036854775808 y) := ⟨_, rfl⟩
  rw [← hD] at hd
  by_cases mo : 9223372036854775808 < m
  · have hd' : D < x := hd.2 mo
    have h : ¬ (-9223372036854775808 ≤ a * b ∧ a * b ≤ 9223372036854775807) := by omega
    obtain rfl : r = 0 := by rw [HR.out, fitN, if_neg h]
    obtain rfl : q = 15 := by rw [HQ.out, fitE, if_neg h]
    have hD' := hD.symm
    clear HR HQ hm hx0 hy0 h hd mo hm0 hme hD
    go_enter Try.func24, Try.ntmps24
    go_wp2_with (go_at_call 36; first | (with_reducible refine (rsize_any a _ HA.out).mono ?_; rw [← HX.out]; rintro e w' ⟨rfl, rfl⟩) | (with_reducible refine (rsize_any b _ HB.out).mono ?_; rw [← HY.out]; rintro e w' ⟨rfl, rfl⟩))
    go_ret2
    exact ⟨rfl, rfl⟩
  · have hd' : ¬ D < x := fun h => mo (hd.1 h)
    have hD' := hD.symm
    have hw : IntKind.u64.wrap (x * y) = m := by rw [← hme, IntKind.wrap_u64]; omega
    have HM := Lib.hid (show 0 ≤ m ∧ m ≤ 9223372036854775808 ∧ (a * b = m ∧ (a < 0 ↔ b < 0) ∨ a * b = -m ∧ ¬ (a < 0 ↔ b < 0)) from ⟨hm0, by omega, hm⟩)
    clear hm hx0 hy0 hd hm0 hme hD
    go_enter Try.func24, Try.ntmps24
    go_wp2_with (go_at_call 36; first | (with_reducible refine (rsize_any a _ HA.out).mono ?_; rw [← HX.out]; rintro e w' ⟨rfl, rfl⟩) | (with_reducible refine (rsize_any b _ HB.out).mono ?_; rw [← HY.out]; rintro e w' ⟨rfl, rfl⟩))
    all_goals (go_ret2; refine ⟨lg_ret2 ?_ ?_, rfl⟩ <;> first | rw [HR.out, fitN] | rw [HQ.out, fitE])
    all_goals (obtain ⟨m1, m2, m3⟩ := HM.out; clear HR HQ HA HB HM HX HY hw hD' hd')
    all_goals simp only [Bool.not_eq_true', Bool.not_eq_false', beq_eq_false_iff_ne, ne_eq, beq_iff_eq, decide_eq_decide] at *
    all_goals (generalize a * b = p at *; (try simp only [IntKind.wrap_u64, wrap64] at *); split <;> omega)
theorem lnumber_any (n e : Int) (w : World) : Calls Try.prog 37 #[.int .i64 n, .int .i64 e] w fun e' w' => e' = .returned (.tuple #[.agg #[.int .i64 (if e = 0 then 1 else 0), .int .i64 (if e = 0 then n else 0), .string ⟨#[]⟩], .int .i64 e]) ∧ Below w.heap.size w w' := by
  by_cases h : e = 0
  · subst h
    rw [if_pos rfl, if_pos rfl]
    go_enter Try.func37, Try.ntmps37
    go_wp2_with (go_at_call 33; refine (lnum_any _ _).mono ?_; rintro e w' ⟨rfl, hb⟩; have hrow := blk_below (blk_new w 23 #[.int .i64 0, .int .i64 0, .string ⟨#[]⟩]) hb; have f0 := blk_frozen hrow 0; have f1 := blk_frozen hrow 1; have f2 := blk_frozen hrow 2; have c0 := blk_cell hrow 0 rfl; have c1 := blk_cell hrow 1 rfl; have c2 := blk_cell hrow 2 rfl; have HB := Lib.hid (blw_new hb); clear hb)
    refine bodyPost_ret (results_pair rfl _ _ w.heap.size _ _ _ rfl (blk_set (blk_set (blk_set hrow 0 _) 1 _) 2 _) Try.underlying23 rfl (by kernel_rfl)) rfl ?_
    exact ⟨rfl, blw_set (blw_set (blw_set HB.out (Nat.le_refl _) _ _) (Nat.le_refl _) _ _) (Nat.le_refl _) _ _⟩
  · rw [if_neg h, if_neg h]
    have t1 : (e != 0) = true := by simpa using h
    go_enter Try.func37, Try.ntmps37
    go_wp2
    refine bodyPost_ret (results_pair rfl _ _ w.heap.size _ _ _ rfl (blk_new _ _ _) Try.underlying23 rfl (by kernel_rfl)) rfl ?_
    exact ⟨rfl, blw1 _ _⟩
/-- What Negative returns: kind, number, error. -/
def negK (k n : Int) : Int := if k = 1 ∧ n ≠ -9223372036854775808 then 1 else 0
def negN (k n : Int) : Int := if k = 1 ∧ n ≠ -9223372036854775808 then -n else 0
def negE (k n : Int) : Int := if k = 0 then 0 else if k = 1 then (if n = -9223372036854775808 then 15 else 0) else 14
theorem lg_retV {k n k' n' e e' : Int} {s : ByteArray} (h1 : k = k') (h2 : n = n') (h3 : e = e') : Ending.returned (.tuple #[.agg #[.int .i64 k, .int .i64 n, .string s], .int .i64 e]) = .returned (.tuple #[.agg #[.int .i64 k', .int .i64 n', .string s], .int .i64 e']) := by rw [h1, h2, h3]
theorem rneg_any (k n : Int) (s : ByteArray) (w : World) (hn : -9223372036854775808 ≤ n ∧ n ≤ 9223372036854775807) :
    Calls Try.prog 26 #[.agg #[.int .i64 k, .int .i64 n, .string s]] w fun e w' => e = .returned (.tuple #[.agg #[.int .i64 (negK k n), .int .i64 (negN k n), .string ⟨#[]⟩], .int .i64 (negE k n)]) ∧ Below w.heap.size w w' := by
  obtain ⟨x, hx⟩ : ∃ x, x = negK k n := ⟨_, rfl⟩
  obtain ⟨y, hy⟩ : ∃ y, y = negN k n := ⟨_, rfl⟩
  obtain ⟨z, hz⟩ : ∃ z, z = negE k n := ⟨_, rfl⟩
  rw [← hx, ← hy, ← hz]
  have HX := Lib.hid hx; have HY := Lib.hid hy; have HZ := Lib.hid hz; have HN := Lib.hid hn; clear hx hy hz hn
  go_enter Try.func26, Try.ntmps26
  go_wp2
  all_goals refine bodyPost_ret (results_pair rfl _ _ (w.heap.size + 1) _ _ _ rfl (blk_at (by simp)) Try.underlying23 rfl (by kernel_rfl)) rfl ?_
  all_goals (refine ⟨lg_retV ?_ ?_ ?_, blw2 _ _ _⟩ <;> first | rw [HX.out, negK] | rw [HY.out, negN] | rw [HZ.out, negE])
  all_goals (have hn := HN.out; clear HX HY HZ HN; simp only [beq_iff_eq, bne_iff_ne, beq_eq_false_iff_ne, bne_eq_false_iff_eq, ne_eq, Decidable.not_not] at *; (try unfold wrap64); (try split) <;> (try split) <;> omega)
theorem neg_any (k n : Int) (s : ByteArray) (w : World) (hn : -9223372036854775808 ≤ n ∧ n ≤ 9223372036854775807) :
    Calls Try.prog 25 #[.agg #[.int .i64 k, .int .i64 n, .string s]] w fun e w' => e = .returned (.tuple #[.agg #[.int .i64 (negK k n), .int .i64 (negN k n), .string ⟨#[]⟩], .int .i64 (negE k n)]) ∧ Below w.heap.size w w' := by
  obtain ⟨x, hx⟩ : ∃ x, x = negK k n := ⟨_, rfl⟩
  obtain ⟨y, hy⟩ : ∃ y, y = negN k n := ⟨_, rfl⟩
  obtain ⟨z, hz⟩ : ∃ z, z = negE k n := ⟨_, rfl⟩
  rw [← hx, ← hy, ← hz]
  have HX := Lib.hid hx; have HY := Lib.hid hy; have HZ := Lib.hid hz; have HN := Lib.hid hn; clear hx hy hz hn
  by_cases k0 : k = 0
  · subst k0
    obtain rfl : x = 0 := HX.out
    obtain rfl : y = 0 := HY.out
    obtain rfl : z = 0 := HZ.out
    clear HX HY HZ HN
    go_enter Try.func25, Try.ntmps25
    go_wp2
    refine bodyPost_ret (results_pair rfl _ _ (w.heap.size + 1) _ _ _ rfl (blk_at (by simp)) Try.underlying23 rfl (by kernel_rfl)) rfl ?_
    exact ⟨rfl, blw2 _ _ _⟩
  by_cases k1 : k = 1
  · subst k1
    clear k0
    obtain ⟨p, hp⟩ : ∃ p, p = fitN (n * -1) := ⟨_, rfl⟩
    obtain ⟨q, hq⟩ : ∃ q, q = fitE (n * -1) := ⟨_, rfl⟩
    have e1 : (if q = 0 then 1 else 0) = x := by
      have := HN.out
      rw [HX.out, hq]; unfold negK fitE; split <;> split <;> omega
    have e2 : (if q = 0 then p else 0) = y := by
      have := HN.out
      rw [HY.out, hp, hq]; unfold negN fitE fitN; split <;> split <;> omega
    have e3 : q = z := by
      have := HN.out
      rw [HZ.out, hq]; unfold negE fitE; split <;> (try split) <;> (try split) <;> omega
    subst e3
    have HE := Lib.hid (And.intro e1 e2)
    have HP := Lib.hid hp; have HQ := Lib.hid hq
    clear e1 e2 hp hq HX HY HZ
    go_enter Try.func25, Try.ntmps25
    go_wp2_with fail
    refine (mul_any n (-1) _ HN.out (by omega)).mono ?_
    rw [← HP.out, ← HQ.out]
    rintro e w' ⟨rfl, rfl⟩
    go_wp2_with fail
    refine (lnumber_any p q _).mono ?_
    rw [HE.out.1, HE.out.2]
    rintro e w' ⟨rfl, hb⟩
    have hrow := blk_below (blk_at (cs := #[.int .i64 0, .int .i64 0, .string ⟨#[]⟩]) (g := w.heap.size + 1) (by simp)) hb
    have f0 := blk_frozen hrow 0; have f1 := blk_frozen hrow 1; have f2 := blk_frozen hrow 2
    have c0 := blk_cell hrow 0 rfl; have c1 := blk_cell hrow 1 rfl; have c2 := blk_cell hrow 2 rfl
    have HB := Lib.hid (blw_new (blw_new hb)); clear hb
    go_wp2_with fail
    refine bodyPost_ret (results_pair rfl _ _ (w.heap.size + 1) _ _ _ rfl (blk_set (blk_set (blk_set hrow 0 _) 1 _) 2 _) Try.underlying23 rfl (by kernel_rfl)) rfl ?_
    exact ⟨rfl, blw_set (blw_set (blw_set HB.out (by omega) _ _) (by omega) _ _) (by omega) _ _⟩
  · obtain rfl : x = 0 := by rw [HX.out, negK, if_neg (fun h => k1 h.1)]
    obtain rfl : y = 0 := by rw [HY.out, negN, if_neg (fun h => k1 h.1)]
    obtain rfl : z = 14 := by rw [HZ.out, negE, if_neg k0, if_neg k1]
    clear HX HY HZ HN
    have t0 : (k == 0) = false := by simpa using k0
    have t1 : (k == 1) = false := by simpa using k1
    go_enter Try.func25, Try.ntmps25
    go_wp2
    refine bodyPost_ret (results_pair rfl _ _ (w.heap.size + 1) _ _ _ rfl (blk_at (by simp)) Try.underlying23 rfl (by kernel_rfl)) rfl ?_
    exact ⟨rfl, blw2 _ _ _⟩
end Go.Proofs.Ytadbmjmikoggbaa
