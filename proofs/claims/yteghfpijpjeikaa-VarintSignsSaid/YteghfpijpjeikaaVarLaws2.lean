/-
  The statement VarintBack as a walk: it returns true for every input and changes nothing that was there.
-/
import Derived.Test.YteghfpijpjeikaaVarLaws1
namespace Go.Proofs.Yteghfpijpjeikaa
open Go.RowKit

theorem get_put (n : Int) (h0 : 0 ≤ n) (h1 : n < 18446744073709551616) (A more : ByteArray) (hA : A = ⟨(putL n.toNat).toArray⟩) (hm : more.size ≤ 1000) (W : World) :
    Calls Try.prog 9 #[.string (A ++ more)] W fun e w' => e = .returned (.tuple #[.int .u64 n, .int .i64 A.size, .int .i64 0]) ∧ W = w' := by
  have hs : A.size = lenN n.toNat := by rw [hA]; exact List.size_toArray.trans (putL_length _)
  have h9 := lenN_le n.toNat
  refine (vget_any (A ++ more) (by rw [app_size]; omega) W).mono fun e w' ⟨he, hw⟩ => ⟨he.trans ?_, hw⟩
  have hg : getR (A ++ more).data.toList = (n.toNat, lenN n.toNat, 0) := by rw [app_data, hA]; exact get_back _ (by omega) _
  rw [hg, hs, show ((n.toNat : Nat) : Int) = n by omega]

set_option maxRecDepth 100000 in
set_option maxHeartbeats 2000000 in
theorem back_any (n : Int) (h0 : 0 ≤ n) (h1 : n < 18446744073709551616) (m : Int) (h2 : 0 ≤ m) (h3 : m < 18446744073709551616) (s : ByteArray) (hs : s.size ≤ 9223372036854775807) (w : World) :
    Calls Try.prog 6 #[.int .u64 n, .int .u64 m, .string s] w fun e w' => e = .returned (.bool true) ∧ Below w.heap.size w w' := by
  by_cases hl : 1000 < s.size
  · go_enter Try.func6, Try.ntmps6
    go_wp2_with fail
    refine (works_any _).mono ?_
    rintro e w1 ⟨rfl, b1⟩
    go_wp2_with fail
    go_ret
    exact ⟨rfl, b1⟩
  · obtain ⟨A, hA⟩ : ∃ A : ByteArray, A = ⟨(putL n.toNat).toArray⟩ := ⟨_, rfl⟩
    obtain ⟨B, hB⟩ : ∃ B : ByteArray, B = ⟨(putL m.toNat).toArray⟩ := ⟨_, rfl⟩
    have hAs : A.size ≤ 9 := by
      have : A.size = lenN n.toNat := by rw [hA]; exact List.size_toArray.trans (putL_length _)
      have := lenN_le n.toNat
      omega
    have HG := Lib.hid (fun W => get_put n h0 h1 A s hA (by omega) W)
    have HA := Lib.hid hA; have HB := Lib.hid hB; clear hA hB
    by_cases hnm : n = m
    · subst hnm
      have HAB := Lib.hid (show B = A by rw [HA.out, HB.out])
      go_enter Try.func6, Try.ntmps6
      go_wp2_with fail
      refine (works_any _).mono ?_
      rintro e w1 ⟨rfl, b1⟩
      go_wp2_with fail
      refine (vput_any _ h0 h1 _).mono ?_
      rintro e w2 ⟨rfl, b2⟩
      have B2 := b1.trans (b2.mono b1.size)
      rw [← HA.out]
      go_wp2_with fail
      refine (vput_any _ h0 h1 _).mono ?_
      rintro e w3 ⟨rfl, b3⟩
      have B3 := B2.trans (b3.mono B2.size)
      rw [← HA.out]
      go_wp2_with fail
      refine (HG.out _).mono ?_
      rintro e w4 ⟨rfl, rfl⟩
      go_wp2_with fail
      go_ret
      exact ⟨rfl, B3⟩
    · have t1 : (n == m) = false := beq_eq_false_iff_ne.2 hnm
      have t2 : (A.toList == B.toList) = false := beq_eq_false_iff_ne.2 fun e => by
        rw [ByteArray.toList_eq, ByteArray.toList_eq, HA.out, HB.out] at e
        have := put_inj (by omega) (by omega) e
        omega
      have t3 : ((B.extract 0 A.size).toList == A.toList) = false := beq_eq_false_iff_ne.2 fun e => by
        rw [Lib.extract_toList, ByteArray.toList_eq, List.drop_zero, Nat.sub_zero, HB.out] at e
        have hz : A.size = lenN n.toNat := by rw [HA.out]; exact List.size_toArray.trans (putL_length _)
        rw [hz, HA.out] at e
        have := put_prefix (by omega) (by omega) e
        omega
      go_enter Try.func6, Try.ntmps6
      go_wp2_with fail
      refine (works_any _).mono ?_
      rintro e w1 ⟨rfl, b1⟩
      go_wp2_with fail
      refine (vput_any _ h0 h1 _).mono ?_
      rintro e w2 ⟨rfl, b2⟩
      have B2 := b1.trans (b2.mono b1.size)
      rw [← HA.out]
      go_wp2_with fail
      refine (vput_any _ h2 h3 _).mono ?_
      rintro e w3 ⟨rfl, b3⟩
      have B3 := B2.trans (b3.mono B2.size)
      rw [← HB.out]
      go_wp2_with fail
      refine (HG.out _).mono ?_
      rintro e w4 ⟨rfl, rfl⟩
      by_cases hsz : A.size ≤ B.size
      · have hsz' : (A.size : Int) ≤ (B.size : Int) := by omega
        have hsz2 : decide ((B.size : Int) < (A.size : Int)) = false := by simp; omega
        go_wp2_with fail
        go_ret
        exact ⟨ret_bool (by simp), B3⟩
      · have hsz' : (B.size : Int) < (A.size : Int) := by omega
        go_wp2_with fail
        go_ret
        exact ⟨rfl, B3⟩

end Go.Proofs.Yteghfpijpjeikaa
