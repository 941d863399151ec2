/-
  The statement VarintLess as a walk: it returns true for every input and changes nothing that was there.
-/
import Derived.Test.YteghfpijpjeikaaVarLaws2
namespace Go.Proofs.Yteghfpijpjeikaa
open Go.RowKit

/-- What the walk needs to know of the lesser number lo, the greater one hi and the cut. -/
structure LessF (lo hi : Int) (la lb : Nat) (P : ByteArray) (jn : Nat) : Prop where
  pP : Hid (P = ⟨(putL lo.toNat).toArray⟩)
  A : Hid (la = lenN lo.toNat)
  B : Hid (lb = lenN hi.toNat)
  get : Hid (∀ W, Calls Try.prog 9 #[.string (P.extract 0 jn)] W fun e w' => e = .returned (.tuple #[.int .u64 0, .int .i64 0, .int .i64 1]) ∧ W = w')
theorem lessF (lo hi c : Int) (h : lo ≤ hi) : ∃ (la lb : Nat) (P : ByteArray) (jn : Nat), LessF lo hi la lb P jn ∧ la ≤ lb ∧ 1 ≤ la ∧ lb ≤ 9 ∧ P.size = la ∧ jn < la ∧ IntKind.u64.wrap c % (P.size : Int) = (jn : Int) := by
  have hP : (⟨(putL lo.toNat).toArray⟩ : ByteArray).size = lenN lo.toNat := List.size_toArray.trans (putL_length _)
  have h1 := lenN_ge lo.toNat
  have hm : 0 ≤ IntKind.u64.wrap c % ((lenN lo.toNat : Nat) : Int) ∧ IntKind.u64.wrap c % ((lenN lo.toNat : Nat) : Int) < ((lenN lo.toNat : Nat) : Int) := ⟨Int.emod_nonneg _ (by omega), Int.emod_lt_of_pos _ (by omega)⟩
  have hj : (IntKind.u64.wrap c % ((lenN lo.toNat : Nat) : Int)).toNat < lenN lo.toNat := by omega
  have hle := lenN_le lo.toNat
  refine ⟨_, _, _, (IntKind.u64.wrap c % ((lenN lo.toNat : Nat) : Int)).toNat, ⟨Lib.hid rfl, Lib.hid rfl, Lib.hid rfl, Lib.hid fun W => ?_⟩, lenN_mono (by omega), h1, lenN_le _, hP, hj, by rw [hP]; omega⟩
  have hs : ((⟨(putL lo.toNat).toArray⟩ : ByteArray).extract 0 (IntKind.u64.wrap c % ((lenN lo.toNat : Nat) : Int)).toNat).data.toList = (putL lo.toNat).take (IntKind.u64.wrap c % ((lenN lo.toNat : Nat) : Int)).toNat := by rw [Lib.extract_data]; simp
  refine (vget_any _ (by rw [← ba_len, hs, List.length_take]; omega) W).mono fun e w' ⟨he, hw⟩ => ⟨he.trans ?_, hw⟩
  rw [hs, put_cut _ _ hj]; rfl

set_option maxRecDepth 100000 in
set_option maxHeartbeats 2000000 in
theorem less_any (n : Int) (h0 : 0 ≤ n) (h1 : n < 18446744073709551616) (m : Int) (h2 : 0 ≤ m) (h3 : m < 18446744073709551616) (c : Int) (w : World) :
    Calls Try.prog 7 #[.int .u64 n, .int .u64 m, .int .i64 c] w fun e w' => e = .returned (.bool true) ∧ Below w.heap.size w w' := by
  obtain ⟨d, hd⟩ : ∃ d : Int, IntKind.u64.wrap c = d := ⟨_, rfl⟩
  have hd0 : 0 ≤ d := by rw [← hd, IntKind.wrap_u64]; omega
  have hd1 : d ≤ 18446744073709551615 := by rw [← hd, IntKind.wrap_u64]; omega
  rcases Int.lt_trichotomy n m with hlt | heq | hgt
  · obtain ⟨la, lb, P, jn, F, k1, k2, k3, k4, k5, k6⟩ := lessF n m c (by omega)
    rw [hd] at k6
    have k7 : 1 ≤ P.size := by omega
    have k8 : P.size ≤ 9 := by omega
    have k9 : jn < P.size := by omega
    clear k4
    go_enter Try.func7, Try.ntmps7
    go_wp2_with fail
    refine (works_any _).mono ?_
    rintro e w1 ⟨rfl, b1⟩
    go_wp2_with fail
    refine (vput_any _ (by assumption) (by assumption) _).mono ?_
    rintro e w2 ⟨rfl, b2⟩
    have B2 := b1.trans (b2.mono b1.size)
    rw [← F.pP.out]
    go_wp2_with fail
    refine (vlen_any _ (by assumption) (by assumption) _).mono ?_
    rintro e w3 ⟨rfl, rfl⟩
    rw [← F.A.out]
    go_wp2_with fail
    refine (vlen_any _ (by assumption) (by assumption) _).mono ?_
    rintro e w3 ⟨rfl, rfl⟩
    rw [← F.B.out]
    go_wp2_with fail
    refine (vlen_any _ (by assumption) (by assumption) _).mono ?_
    rintro e w3 ⟨rfl, rfl⟩
    rw [← F.A.out]
    go_wp2_with fail
    refine (vlen_any _ (by assumption) (by assumption) _).mono ?_
    rintro e w3 ⟨rfl, rfl⟩
    rw [← F.B.out]
    go_wp2_with fail
    refine (F.get.out _).mono ?_
    rintro e w4 ⟨rfl, rfl⟩
    go_wp2_with fail
    go_ret
    exact ⟨rfl, B2⟩
  · subst heq
    obtain ⟨la, lb, P, jn, F, k1, k2, k3, k4, k5, k6⟩ := lessF n n c (by omega)
    rw [hd] at k6
    have k7 : 1 ≤ P.size := by omega
    have k8 : P.size ≤ 9 := by omega
    have k9 : jn < P.size := by omega
    clear k4
    go_enter Try.func7, Try.ntmps7
    go_wp2_with fail
    refine (works_any _).mono ?_
    rintro e w1 ⟨rfl, b1⟩
    go_wp2_with fail
    refine (vput_any _ (by assumption) (by assumption) _).mono ?_
    rintro e w2 ⟨rfl, b2⟩
    have B2 := b1.trans (b2.mono b1.size)
    rw [← F.pP.out]
    go_wp2_with fail
    refine (vlen_any _ (by assumption) (by assumption) _).mono ?_
    rintro e w3 ⟨rfl, rfl⟩
    rw [← F.A.out]
    go_wp2_with fail
    refine (vlen_any _ (by assumption) (by assumption) _).mono ?_
    rintro e w3 ⟨rfl, rfl⟩
    rw [← F.B.out]
    go_wp2_with fail
    refine (vlen_any _ (by assumption) (by assumption) _).mono ?_
    rintro e w3 ⟨rfl, rfl⟩
    rw [← F.A.out]
    go_wp2_with fail
    refine (vlen_any _ (by assumption) (by assumption) _).mono ?_
    rintro e w3 ⟨rfl, rfl⟩
    rw [← F.B.out]
    go_wp2_with fail
    refine (F.get.out _).mono ?_
    rintro e w4 ⟨rfl, rfl⟩
    go_wp2_with fail
    go_ret
    exact ⟨rfl, B2⟩
  · obtain ⟨la, lb, P, jn, F, k1, k2, k3, k4, k5, k6⟩ := lessF m n c (by omega)
    rw [hd] at k6
    have k7 : 1 ≤ P.size := by omega
    have k8 : P.size ≤ 9 := by omega
    have k9 : jn < P.size := by omega
    clear k4
    go_enter Try.func7, Try.ntmps7
    go_wp2_with fail
    refine (works_any _).mono ?_
    rintro e w1 ⟨rfl, b1⟩
    go_wp2_with fail
    refine (vput_any _ (by assumption) (by assumption) _).mono ?_
    rintro e w2 ⟨rfl, b2⟩
    have B2 := b1.trans (b2.mono b1.size)
    rw [← F.pP.out]
    go_wp2_with fail
    refine (vlen_any _ (by assumption) (by assumption) _).mono ?_
    rintro e w3 ⟨rfl, rfl⟩
    rw [← F.A.out]
    go_wp2_with fail
    refine (vlen_any _ (by assumption) (by assumption) _).mono ?_
    rintro e w3 ⟨rfl, rfl⟩
    rw [← F.B.out]
    go_wp2_with fail
    refine (vlen_any _ (by assumption) (by assumption) _).mono ?_
    rintro e w3 ⟨rfl, rfl⟩
    rw [← F.A.out]
    go_wp2_with fail
    refine (vlen_any _ (by assumption) (by assumption) _).mono ?_
    rintro e w3 ⟨rfl, rfl⟩
    rw [← F.B.out]
    go_wp2_with fail
    refine (F.get.out _).mono ?_
    rintro e w4 ⟨rfl, rfl⟩
    go_wp2_with fail
    go_ret
    exact ⟨rfl, B2⟩
end Go.Proofs.Yteghfpijpjeikaa
