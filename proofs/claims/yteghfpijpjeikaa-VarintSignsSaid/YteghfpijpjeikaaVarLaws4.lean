/-
  The statement VarintSigns as a walk: it returns true for every input and changes nothing that was there.
-/
import Derived.Test.YteghfpijpjeikaaVarLaws3
namespace Go.Proofs.Yteghfpijpjeikaa
open Go.RowKit

theorem u64_or1 {x : Int} (hx₀ : 0 ≤ x) (hx : x % 2 = 0) (hx₁ : x < 18446744073709551616) : bits .or .u64 x 1 = x + 1 :=
  bits_join .u64 64 (by decide) wraps_u64 1 x 1 hx₀ hx (by omega) (by decide) (by decide) (by decide)
theorem len_even {x : Int} (h0 : 0 ≤ x) (h : x % 2 = 0) : lenN x.toNat = lenN (x + 1).toNat := by
  have := lenN_even (x.toNat / 2)
  rwa [show 2 * (x.toNat / 2) = x.toNat by omega, show x.toNat + 1 = (x + 1).toNat by omega] at this
theorem fold_nn {n : Int} (h : 0 ≤ n) : foldZ n = 2 * n := by rw [foldZ, if_pos h]
theorem fold_ng {n : Int} (h : n < 0) : foldZ n = -2 * n - 1 := by rw [foldZ, if_neg (by omega)]

set_option maxRecDepth 100000 in
set_option maxHeartbeats 2000000 in
theorem signs_nn (n : Int) (h0 : 0 ≤ n) (h1 : n < 9223372036854775807) (w : World) :
    Calls Try.prog 8 #[.int .i64 n] w fun e w' => e = .returned (.bool true) ∧ Below w.heap.size w w' := by
  have HA := Lib.hid (fold_nn h0)
  have HB := Lib.hid (show foldZ (-(n + 1)) = 2 * n + 1 by rw [fold_ng (by omega)]; omega)
  have ho := u64_or1 (x := 2 * n) (by omega) (by omega) (by omega)
  have HL := Lib.hid (len_even (x := 2 * n) (by omega) (by omega))
  obtain ⟨la, hla⟩ : ∃ la : Nat, la = lenN (2 * n + 1).toNat := ⟨_, rfl⟩
  rw [← hla] at HL
  have HLA := Lib.hid hla; clear hla
  have hne : (2 * n != 2 * n + 1) = true := by simp; omega
  go_enter Try.func8, Try.ntmps8
  go_wp2_with fail
  refine (works_any _).mono ?_
  rintro e w1 ⟨rfl, b1⟩
  go_wp2_with fail
  refine (vfold_any _ (by omega) (by omega) _).mono ?_
  rintro e w2 ⟨rfl, rfl⟩
  rw [HA.out]
  go_wp2_with fail
  refine (vfold_any _ (by omega) (by omega) _).mono ?_
  rintro e w2 ⟨rfl, rfl⟩
  rw [HB.out]
  go_wp2_with fail
  refine (vlen_any _ (by omega) (by omega) _).mono ?_
  rintro e w2 ⟨rfl, rfl⟩
  rw [HL.out]
  go_wp2_with fail
  refine (vlen_any _ (by omega) (by omega) _).mono ?_
  rintro e w2 ⟨rfl, rfl⟩
  rw [← HLA.out]
  go_wp2_with fail
  go_ret
  exact ⟨ret_bool (beq_iff_eq.2 (by omega)), b1⟩
set_option maxRecDepth 100000 in
set_option maxHeartbeats 2000000 in
theorem signs_ng (n : Int) (h0 : n < 0) (h1 : -9223372036854775808 ≤ n) (w : World) :
    Calls Try.prog 8 #[.int .i64 n] w fun e w' => e = .returned (.bool true) ∧ Below w.heap.size w w' := by
  obtain ⟨k, hk⟩ : ∃ k : Int, k = -(n + 1) := ⟨_, rfl⟩
  have hk0 : 0 ≤ k := by omega
  have hk1 : k ≤ 9223372036854775807 := by omega
  obtain rfl : n = -k - 1 := by omega
  have HA := Lib.hid (show foldZ (-k - 1) = 2 * k + 1 by rw [fold_ng (by omega)]; omega)
  have HB := Lib.hid (fold_nn hk0)
  have ho := u64_or1 (x := 2 * k) (by omega) (by omega) (by omega)
  have HL := Lib.hid (len_even (x := 2 * k) (by omega) (by omega))
  obtain ⟨la, hla⟩ : ∃ la : Nat, la = lenN (2 * k + 1).toNat := ⟨_, rfl⟩
  rw [← hla] at HL
  have HLA := Lib.hid hla; clear hla
  have hne : (2 * k + 1 != 2 * k) = true := by simp; omega
  have HK := Lib.hid hk; clear hk
  go_enter Try.func8, Try.ntmps8
  go_wp2_with fail
  refine (works_any _).mono ?_
  rintro e w1 ⟨rfl, b1⟩
  go_wp2_with fail
  refine (vfold_any _ (by omega) (by omega) _).mono ?_
  rintro e w2 ⟨rfl, rfl⟩
  rw [HA.out]
  go_wp2_with fail
  refine (vfold_any _ (by omega) (by omega) _).mono ?_
  rintro e w2 ⟨rfl, rfl⟩
  rw [HB.out]
  go_wp2_with fail
  refine (vlen_any _ (by omega) (by omega) _).mono ?_
  rintro e w2 ⟨rfl, rfl⟩
  rw [HL.out]
  go_wp2_with fail
  refine (vlen_any _ (by omega) (by omega) _).mono ?_
  rintro e w2 ⟨rfl, rfl⟩
  rw [← HLA.out]
  go_wp2_with fail
  go_ret
  exact ⟨ret_bool (beq_iff_eq.2 (by omega)), b1⟩
set_option maxRecDepth 100000 in
set_option maxHeartbeats 2000000 in
theorem signs_max (w : World) :
    Calls Try.prog 8 #[.int .i64 9223372036854775807] w fun e w' => e = .returned (.bool true) ∧ Below w.heap.size w w' := by
  have HA := Lib.hid (show foldZ 9223372036854775807 = 18446744073709551614 by decide)
  have HB := Lib.hid (show foldZ (-9223372036854775808) = 18446744073709551615 by decide)
  go_enter Try.func8, Try.ntmps8
  go_wp2_with fail
  refine (works_any _).mono ?_
  rintro e w1 ⟨rfl, b1⟩
  go_wp2_with fail
  refine (vfold_any _ (by omega) (by omega) _).mono ?_
  rintro e w2 ⟨rfl, rfl⟩
  rw [HA.out]
  go_wp2_with fail
  rw [show wrap64 (-wrap64 9223372036854775808) = -9223372036854775808 by unfold wrap64; decide]
  refine (vfold_any _ (by omega) (by omega) _).mono ?_
  rintro e w2 ⟨rfl, rfl⟩
  rw [HB.out]
  go_wp2_with fail
  refine (vfold_any _ (by omega) (by omega) _).mono ?_
  rintro e w2 ⟨rfl, rfl⟩
  rw [HB.out]
  have ho := u64_or1 (x := 18446744073709551614) (by omega) (by omega) (by omega)
  rw [show (18446744073709551614 : Int) + 1 = 18446744073709551615 by decide] at ho
  go_wp2_with fail
  refine (vlen_any _ (by omega) (by omega) _).mono ?_
  rintro e w2 ⟨rfl, rfl⟩
  rw [show lenN (18446744073709551614 : Int).toNat = 9 from lenN_big (by omega)]
  go_wp2_with fail
  refine (vlen_any _ (by omega) (by omega) _).mono ?_
  rintro e w2 ⟨rfl, rfl⟩
  rw [show lenN (18446744073709551615 : Int).toNat = 9 from lenN_big (by omega)]
  go_wp2_with fail
  go_ret
  exact ⟨rfl, b1⟩
theorem signs_any (n : Int) (h1 : -9223372036854775808 ≤ n) (h2 : n ≤ 9223372036854775807) (w : World) :
    Calls Try.prog 8 #[.int .i64 n] w fun e w' => e = .returned (.bool true) ∧ Below w.heap.size w w' := by
  by_cases h : n < 0
  · exact signs_ng n h h1 w
  · by_cases h' : n < 9223372036854775807
    · exact signs_nn n (by omega) h' w
    · obtain rfl : n = 9223372036854775807 := by omega
      exact signs_max w
end Go.Proofs.Yteghfpijpjeikaa
