/-
  figure.Unquote: it returns the string that a string literal denotes, or the error that the chapter names ('unqR'), and changes nothing that was there. Condition: the string is no longer than the model's greatest length.
-/
import Derived.Test.YtadbmjmikoggbaaFigUnd
import Derived.Laws.DeepStrings4
import Derived.Lib.Strings
namespace Go.Proofs.Ytadbmjmikoggbaa
open Go.RowKit Go.Shelf

def mid (l : List UInt8) : List UInt8 := (l.drop 1).take (l.length - 2)
def unqR (l : List UInt8) : List UInt8 × Int :=
  if l.length < 2 then ([], 1) else if l.headD 0 = 39 ∧ l.getLastD 0 = 39 then undR (mid l) else ([], 4)
theorem head_at {s : ByteArray} (h : 0 < s.size) : s.data.toList.headD 0 = s[0] := by
  obtain ⟨⟨l⟩⟩ := s
  cases l with
  | nil => exact absurd h (Nat.lt_irrefl 0)
  | cons a t => rfl
theorem last_at {s : ByteArray} (h : 0 < s.size) : s.data.toList.getLastD 0 = s[s.size - 1]'(by omega) := by
  obtain ⟨⟨l⟩⟩ := s
  show l.getLastD 0 = l[l.length - 1]'(by have : 0 < l.length := h; omega)
  cases l with
  | nil => exact absurd h (Nat.lt_irrefl 0)
  | cons a t => rw [← List.getLast_eq_getElem (l := a :: t) (by simp), List.getLast_eq_getLastD, List.getLastD_cons]
theorem ne39 {x : UInt8} (h : x = 39) : ((x.toNat : Int) != 39) = false := by rw [h]; rfl
theorem ne39' {x : UInt8} (h : ¬ x = 39) : ((x.toNat : Int) != 39) = true := bne_iff_ne.2 fun e => h (UInt8.toNat_inj.1 (Int.ofNat.inj e))

end Go.Proofs.Ytadbmjmikoggbaa
