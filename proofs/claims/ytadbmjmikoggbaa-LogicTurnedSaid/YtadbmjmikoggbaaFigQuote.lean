/-
  figure.Quote: it returns the string as a string literal ('quoteL'), and changes nothing that was there. Condition: the string has at most 2^46 - 2 bytes.
-/
import Derived.Test.YtadbmjmikoggbaaFigFold
namespace Go.Proofs.Ytadbmjmikoggbaa
open Go.RowKit Go.Shelf
attribute [local go_sem] Oper.semAt_some

def quoteC (x : UInt8) : List UInt8 := if x = 39 then [39, 39] else [x]
def quoteM (l : List UInt8) : List UInt8 := 39 :: l.flatMap quoteC
def quoteL (l : List UInt8) : List UInt8 := quoteM l ++ [39]
theorem quoteM_snoc (l : List UInt8) (x : UInt8) : quoteM (l ++ [x]) = if x = 39 then (quoteM l ++ [39]) ++ [39] else quoteM l ++ [x] := by
  simp only [quoteM, quoteC, List.flatMap_append, List.flatMap_cons, List.flatMap_nil, List.append_nil]
  split <;> simp
theorem quoteM_length (l : List UInt8) : (quoteM l).length ≤ 1 + 2 * l.length := by
  induction l with
  | nil => simp [quoteM]
  | cons a t ih =>
    simp only [quoteM, List.length_cons, List.flatMap_cons, List.length_append] at ih ⊢
    have : (quoteC a).length ≤ 2 := by unfold quoteC; split <;> simp
    omega

end Go.Proofs.Ytadbmjmikoggbaa
