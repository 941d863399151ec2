/-
  Layer 8: valid, Write and the document's Right and Write: each returns its plain function and changes nothing that was there. Condition: the header's numbers are ints.
-/
import Derived.Test.YtnbbnmhokclhdaaJhLeaf
namespace Go.Proofs.Ytnbbnmhokclhdaa
open Go.RowKit

theorem ret_st2 {A : ByteArray} {l : List UInt8} {k : Int} (h : A.data.toList = l) : Ending.returned (.tuple #[.string A, .int .i64 k]) = .returned (.tuple #[.string ⟨l.toArray⟩, .int .i64 k]) := by subst h; rfl
theorem okH_eq3 (a b c : Int) : eq3 a b c (clampZ a 2000) (clampZ b 2000) (clampZ c 4294967295) = okH a b c := by
  rw [Bool.eq_iff_iff, eq3_true, okH_iff]
  unfold clampZ
  omega

end Go.Proofs.Ytnbbnmhokclhdaa
