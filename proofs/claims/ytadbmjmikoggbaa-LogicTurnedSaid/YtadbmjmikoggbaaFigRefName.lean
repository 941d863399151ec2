/-
  The document's answers Name, Quote, Read and Fold of layer 1: each returns its plain function of the bytes and changes nothing that was there. Condition: the string has at most 30000 bytes.
-/
import Derived.Test.YtadbmjmikoggbaaFigMath
import Derived.LoopTactic
import Derived.Laws.DeepStrings4
import Derived.Lib.Strings
namespace Go.Proofs.Ytadbmjmikoggbaa
open Go.RowKit

theorem nameB_ref {l : List UInt8} (h0 : l ≠ []) (h1 : l.length ≤ 16) : nameB l = (letB (l.headD 0).toNat && l.all okChar) := by
  cases l with
  | nil => exact absurd rfl h0
  | cons a t =>
    simp only [List.length_cons] at h1
    simp only [nameB, List.isEmpty_cons, List.length_cons, List.headD_cons, List.all_cons, okChar, decide_eq_true h1, Bool.not_false, Bool.true_and]
    have : ∀ c : Int, (letB c = true → isDigB c = false) := by
      intro c h
      have := of_decide_eq_true h
      exact decide_eq_false (by omega)
    cases hl : letB a.toNat
    · cases hd : isDigB a.toNat <;> simp
    · rw [this _ hl]; simp

def allOk (l : List UInt8) : Bool := l.all okChar
theorem all_snoc (s : ByteArray) (k : Nat) (h : k < s.size) (p : UInt8 → Bool) : (s.data.toList.take (k + 1)).all p = ((s.data.toList.take k).all p && p s[k]) := by
  rw [take_snoc s k h]; simp

end Go.Proofs.Ytadbmjmikoggbaa
