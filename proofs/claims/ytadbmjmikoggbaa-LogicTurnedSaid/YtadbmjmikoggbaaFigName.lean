/-
  figure.Name: it returns whether the string is a name ('nameB'), and changes nothing that was there. Condition: the string is no longer than the model's greatest length.
-/
import Derived.Test.YtadbmjmikoggbaaFigRange
import Derived.Test.YtadbmjmikoggbaaFigPlain
namespace Go.Proofs.Ytadbmjmikoggbaa
open Go.RowKit Go.Shelf
attribute [local go_sem] Oper.semAt_some

theorem empty_no {s : ByteArray} (h : 0 < s.size) : s.toList.isEmpty = false ∧ ¬ s.toList = [] := by
  have : s.data.toList ≠ [] := fun e => by have := congrArg List.length e; simp at this; rw [this] at h; simp at h
  rw [ByteArray.toList_eq]
  exact ⟨by simp at this; simpa using this, this⟩
theorem empty_yes {s : ByteArray} (h : s.size = 0) : s.toList.isEmpty = true ∧ s.toList = [] := by
  have : s.data.toList = [] := List.eq_nil_of_length_eq_zero (by simpa using h)
  rw [ByteArray.toList_eq, this]
  exact ⟨rfl, rfl⟩

theorem head_zero {s : ByteArray} (h0 : 0 < s.size) : s.data.toList.headD 0 = s[0] := by
  obtain ⟨⟨l⟩⟩ := s
  cases l with
  | nil => exact absurd h0 (Nat.lt_irrefl 0)
  | cons a t => rfl

end Go.Proofs.Ytadbmjmikoggbaa
