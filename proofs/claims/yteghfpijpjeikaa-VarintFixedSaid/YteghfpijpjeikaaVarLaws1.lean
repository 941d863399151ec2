/-
  The statements VarintFolds, VarintFixed as walks: each returns true for every input and changes nothing that was there.
-/
import Derived.Test.YteghfpijpjeikaaVarWorks
namespace Go.Proofs.Yteghfpijpjeikaa
open Go.RowKit

theorem fold_bd {n : Int} (h1 : -9223372036854775808 ≤ n) (h2 : n ≤ 9223372036854775807) : 0 ≤ foldZ n ∧ foldZ n ≤ 18446744073709551615 := by
  unfold foldZ; split <;> omega
theorem unfold_bd {m : Int} (h1 : 0 ≤ m) (h2 : m ≤ 18446744073709551615) : -9223372036854775808 ≤ unfoldZ m ∧ unfoldZ m ≤ 9223372036854775807 := by
  unfold unfoldZ; split <;> omega
theorem unfold_fold (n : Int) : unfoldZ (foldZ n) = n := by
  unfold foldZ unfoldZ; split <;> split <;> omega
theorem fold_unfold {m : Int} (h1 : 0 ≤ m) : foldZ (unfoldZ m) = m := by
  unfold foldZ unfoldZ; split <;> split <;> omega

set_option maxRecDepth 100000 in
set_option maxHeartbeats 2000000 in
theorem folds_any (n : Int) (h1 : -9223372036854775808 ≤ n) (h2 : n ≤ 9223372036854775807) (m : Int) (h3 : 0 ≤ m) (h4 : m ≤ 18446744073709551615) (w : World) :
    Calls Try.prog 4 #[.int .i64 n, .int .u64 m] w fun e w' => e = .returned (.bool true) ∧ Below w.heap.size w w' := by
  have HB1 := Lib.hid (fold_bd h1 h2); have HB2 := Lib.hid (unfold_bd h3 h4)
  have HU := Lib.hid (unfold_fold n); have HF := Lib.hid (fold_unfold h3)
  obtain ⟨a, ha⟩ : ∃ a : Int, a = foldZ n := ⟨_, rfl⟩
  obtain ⟨b, hb⟩ : ∃ b : Int, b = unfoldZ m := ⟨_, rfl⟩
  rw [← ha] at HB1 HU; rw [← hb] at HB2 HF
  have HA := Lib.hid ha; have HB := Lib.hid hb; clear ha hb
  go_enter Try.func4, Try.ntmps4
  go_wp2_with fail
  refine (vfold_any _ h1 h2 _).mono ?_
  rintro e w1 ⟨rfl, rfl⟩
  rw [← HA.out]
  go_wp2_with fail
  refine (rvfold_any _ h1 h2 _).mono ?_
  rintro e w1 ⟨rfl, rfl⟩
  rw [← HA.out]
  go_wp2_with fail
  refine (vunfold_any _ h3 h4 _).mono ?_
  rintro e w1 ⟨rfl, rfl⟩
  rw [← HB.out]
  go_wp2_with fail
  refine (rvunfold_any _ h3 h4 _).mono ?_
  rintro e w1 ⟨rfl, rfl⟩
  rw [← HB.out]
  go_wp2_with fail
  refine (vfold_any _ h1 h2 _).mono ?_
  rintro e w1 ⟨rfl, rfl⟩
  rw [← HA.out]
  go_wp2_with fail
  refine (vunfold_any _ HB1.out.1 HB1.out.2 _).mono ?_
  rintro e w1 ⟨rfl, rfl⟩
  rw [HU.out]
  go_wp2_with fail
  refine (vunfold_any _ h3 h4 _).mono ?_
  rintro e w1 ⟨rfl, rfl⟩
  rw [← HB.out]
  go_wp2_with fail
  refine (vfold_any _ HB2.out.1 HB2.out.2 _).mono ?_
  rintro e w1 ⟨rfl, rfl⟩
  rw [HF.out]
  go_wp2_with fail
  refine (works_any _).mono ?_
  rintro e w6 ⟨rfl, b6⟩
  go_wp2_with fail
  go_ret
  exact ⟨rfl, b6⟩

set_option maxRecDepth 100000 in
set_option maxHeartbeats 2000000 in
theorem fixed_any (n : Int) (h1 : -9223372036854775808 ≤ n) (h2 : n ≤ 9223372036854775807) (s : ByteArray) (hs : s.size ≤ 9223372036854775807) (w : World) :
    Calls Try.prog 5 #[.int .i64 n, .string s] w fun e w' => e = .returned (.bool true) ∧ Below w.heap.size w w' := by
  obtain ⟨p, hp⟩ : ∃ p : ByteArray, p = ⟨(fixR n).1.toArray⟩ := ⟨_, rfl⟩
  obtain ⟨e0, he0⟩ : ∃ e0 : Int, e0 = (fixR n).2 := ⟨_, rfl⟩
  obtain ⟨a, ha⟩ : ∃ a : Int, a = (numR s.data.toList).1 := ⟨_, rfl⟩
  obtain ⟨g, hg⟩ : ∃ g : Int, g = (numR s.data.toList).2 := ⟨_, rfl⟩
  have hsz : p.size ≤ 9223372036854775807 := by
    rw [hp, fixR]
    split
    · show 4 ≤ _; omega
    · show 0 ≤ _; omega
  have HSZ := Lib.hid hsz; clear hsz
  have HA := Lib.hid ha; have HG := Lib.hid hg; have HE := Lib.hid he0; have HP := Lib.hid hp; clear ha hg hp
  by_cases hin : 0 ≤ n ∧ n ≤ 4294967295
  · obtain rfl : e0 = 0 := by rw [he0, fixR, if_pos hin]
    have HN := Lib.hid (show numR p.data.toList = (n, 0) by rw [HP.out, fixR, if_pos hin]; exact num_fix hin)
    clear he0 hin
    go_enter Try.func5, Try.ntmps5
    go_wp2_with fail
    refine (vfixed_any _ h1 h2 _).mono ?_
    rintro e w1 ⟨rfl, b1⟩
    rw [← HP.out, ← HE.out]
    go_wp2_with fail
    refine (rfixed_any _ h1 h2 _).mono ?_
    rintro e w2 ⟨rfl, b2⟩
    have B2 := b1.trans (b2.mono b1.size)
    rw [← HP.out, ← HE.out]
    go_wp2_with fail
    refine (vnumber_any _ hs _).mono ?_
    rintro e w3 ⟨rfl, rfl⟩
    rw [← HA.out, ← HG.out]
    go_wp2_with fail
    refine (rnumber_any _ hs _).mono ?_
    rintro e w4 ⟨rfl, b4⟩
    have B4 := B2.trans (b4.mono B2.size)
    rw [← HA.out, ← HG.out]
    go_wp2_with fail
    refine (vnumber_any _ HSZ.out _).mono ?_
    rintro e w5 ⟨rfl, rfl⟩
    rw [HN.out]
    go_wp2_with fail
    refine (works_any _).mono ?_
    rintro e w6 ⟨rfl, b6⟩
    go_wp2_with fail
    go_ret
    exact ⟨rfl, B4.trans (b6.mono B4.size)⟩
  · obtain rfl : e0 = 3 := by rw [he0, fixR, if_neg hin]
    obtain ⟨m, hm⟩ : ∃ m : Int, m = (numR p.data.toList).1 := ⟨_, rfl⟩
    obtain ⟨i, hi⟩ : ∃ i : Int, i = (numR p.data.toList).2 := ⟨_, rfl⟩
    have HM := Lib.hid hm; have HI := Lib.hid hi; clear hm hi
    clear he0 hin
    go_enter Try.func5, Try.ntmps5
    go_wp2_with fail
    refine (vfixed_any _ h1 h2 _).mono ?_
    rintro e w1 ⟨rfl, b1⟩
    rw [← HP.out, ← HE.out]
    go_wp2_with fail
    refine (rfixed_any _ h1 h2 _).mono ?_
    rintro e w2 ⟨rfl, b2⟩
    have B2 := b1.trans (b2.mono b1.size)
    rw [← HP.out, ← HE.out]
    go_wp2_with fail
    refine (vnumber_any _ hs _).mono ?_
    rintro e w3 ⟨rfl, rfl⟩
    rw [← HA.out, ← HG.out]
    go_wp2_with fail
    refine (rnumber_any _ hs _).mono ?_
    rintro e w4 ⟨rfl, b4⟩
    have B4 := B2.trans (b4.mono B2.size)
    rw [← HA.out, ← HG.out]
    go_wp2_with fail
    refine (vnumber_any _ HSZ.out _).mono ?_
    rintro e w5 ⟨rfl, rfl⟩
    rw [← HM.out, ← HI.out]
    go_wp2_with fail
    refine (works_any _).mono ?_
    rintro e w6 ⟨rfl, b6⟩
    go_wp2_with fail
    go_ret
    exact ⟨rfl, B4.trans (b6.mono B4.size)⟩
end Go.Proofs.Yteghfpijpjeikaa
