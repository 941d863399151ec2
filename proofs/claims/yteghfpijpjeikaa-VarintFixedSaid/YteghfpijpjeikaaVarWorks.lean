/-
  works of layer 2's statements: it returns true and changes nothing that was there.
-/
import Derived.Test.YteghfpijpjeikaaVarFixed
namespace Go.Proofs.Yteghfpijpjeikaa
open Go.RowKit

theorem get_300 (w : World) : Calls Try.prog 9 #[.string ⟨#[130, 44, 0]⟩] w fun e w' => e = .returned (.tuple #[.int .u64 300, .int .i64 2, .int .i64 0]) ∧ w = w' :=
  (vget_any _ (by decide) w).mono fun e w' ⟨he, hb⟩ => ⟨he.trans (by rw [show getR (⟨#[130, 44, 0]⟩ : ByteArray).data.toList = (300, 2, 0) by decide]; rfl), hb⟩
theorem put_300 (w : World) : Calls Try.prog 12 #[.int .u64 300] w fun e w' => e = .returned (.string ⟨#[130, 44]⟩) ∧ Below w.heap.size w w' :=
  (vput_any 300 (by decide) (by decide) w).mono fun e w' ⟨he, hb⟩ => ⟨he.trans (by rw [show putL (300 : Int).toNat = [130, 44] by decide]), hb⟩
theorem fold_m1 (w : World) : Calls Try.prog 15 #[.int .i64 (-1)] w fun e w' => e = .returned (.int .u64 1) ∧ w = w' :=
  (vfold_any (-1) (by decide) (by decide) w).mono fun e w' ⟨he, hb⟩ => ⟨he.trans (by rw [show foldZ (-1) = 1 by decide]), hb⟩

set_option maxRecDepth 100000 in
set_option maxHeartbeats 2000000 in
theorem works_any (w : World) : Calls Try.prog 14 #[] w fun e w' => e = .returned (.bool true) ∧ Below w.heap.size w w' := by
  go_enter Try.func14, Try.ntmps14
  go_wp2_with fail
  refine (get_300 _).mono ?_
  rintro e w1 ⟨rfl, rfl⟩
  go_wp2_with fail
  refine (put_300 _).mono ?_
  rintro e w2 ⟨rfl, b2⟩
  go_wp2_with fail
  refine (fold_m1 _).mono ?_
  rintro e w3 ⟨rfl, rfl⟩
  go_wp2_with fail
  go_ret
  exact ⟨rfl, b2⟩

set_option maxRecDepth 100000 in
set_option maxHeartbeats 2000000 in
theorem puts_any (z : Int) (h0 : 0 ≤ z) (h : z < 18446744073709551616) (s : ByteArray) (hs : s.size ≤ 9223372036854775807) (w : World) :
    Calls Try.prog 3 #[.int .u64 z, .string s] w fun e w' => e = .returned (.bool true) ∧ Below w.heap.size w w' := by
  obtain ⟨a, ha⟩ : ∃ a : Int, a = ((getR s.data.toList).1 : Int) := ⟨_, rfl⟩
  obtain ⟨k, hk⟩ : ∃ k : Int, k = ((getR s.data.toList).2.1 : Int) := ⟨_, rfl⟩
  obtain ⟨f, hf⟩ : ∃ f : Int, f = (getR s.data.toList).2.2 := ⟨_, rfl⟩
  obtain ⟨p, hp⟩ : ∃ p : ByteArray, p = ⟨(putL z.toNat).toArray⟩ := ⟨_, rfl⟩
  have hpl : (lenN z.toNat : Int) = (p.size : Int) := by
    rw [hp]
    have := putL_length z.toNat
    show (lenN z.toNat : Int) = (((putL z.toNat).toArray.size : Nat) : Int)
    rw [List.size_toArray, this]
  have HA := Lib.hid ha; have HK := Lib.hid hk; have HF := Lib.hid hf; have HP := Lib.hid hp; have HL := Lib.hid hpl
  clear ha hk hf hp hpl
  go_enter Try.func3, Try.ntmps3
  go_wp2_with fail
  refine (vget_any _ hs _).mono ?_
  rintro e w1 ⟨rfl, rfl⟩
  rw [← HA.out, ← HK.out, ← HF.out]
  go_wp2_with fail
  refine (rget_any _ hs _).mono ?_
  rintro e w2 ⟨rfl, b2⟩
  rw [← HA.out, ← HK.out, ← HF.out]
  go_wp2_with fail
  refine (rput_any _ h0 h _).mono ?_
  rintro e w3 ⟨rfl, b3⟩
  have B3 := b2.trans (b3.mono b2.size)
  rw [← HP.out]
  go_wp2_with fail
  refine (vput_any _ h0 h _).mono ?_
  rintro e w4 ⟨rfl, b4⟩
  have B4 := B3.trans (b4.mono B3.size)
  rw [← HP.out]
  go_wp2_with fail
  refine (vlen_any _ h0 h _).mono ?_
  rintro e w5 ⟨rfl, rfl⟩
  rw [HL.out]
  go_wp2_with fail
  refine (works_any _).mono ?_
  rintro e w6 ⟨rfl, b6⟩
  go_wp2_with fail
  go_ret
  exact ⟨rfl, B4.trans (b6.mono B4.size)⟩
end Go.Proofs.Yteghfpijpjeikaa
