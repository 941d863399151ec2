/-
  Layer 4, Print and the document's Print: both return a value as a literal ('printB') and change nothing that was there. Conditions: the string has at most 10000 bytes, the number is an int; strconv's table lies in memory as the program text lays it.
-/
import Derived.Test.YtadbmjmikoggbaaValKind
import Derived.Test.YtadbmjmikoggbaaFigRefText
namespace Go.Proofs.Ytadbmjmikoggbaa
open Go.RowKit

def quoteB (s : ByteArray) : ByteArray := ⟨(quoteL s.data.toList).toArray⟩
def hexB (s : ByteArray) : ByteArray := ⟨(hexL s.data.toList).toArray⟩
def itoaB (n : Int) : ByteArray := ⟨(Lib.itoa n).toArray⟩
theorem hexB_size (s : ByteArray) : (hexB s).size = 2 * s.size := by
  have := hexL_length s.data.toList
  show (hexL s.data.toList).toArray.size = _
  rw [List.size_toArray, this]; rfl
theorem quoteB_size (s : ByteArray) : (quoteB s).size ≤ 2 + 2 * s.size := by
  have := quoteM_length s.data.toList
  show (quoteL s.data.toList).toArray.size ≤ _
  rw [List.size_toArray]
  have h2 : s.data.toList.length = s.size := rfl
  rw [h2] at this
  have h3 : (quoteL s.data.toList).length = (quoteM s.data.toList).length + 1 := by simp [quoteL, quoteM]
  omega
/-- A value as a literal. -/
def printB (k n : Int) (s : ByteArray) : ByteArray :=
  if k = 0 then ⟨#[110, 117, 108, 108]⟩ else if k = 1 then itoaB n else if k = 2 then quoteB s else if k = 3 then ⟨#[120]⟩ ++ quoteB (hexB s) else ⟨#[]⟩
end Go.Proofs.Ytadbmjmikoggbaa
