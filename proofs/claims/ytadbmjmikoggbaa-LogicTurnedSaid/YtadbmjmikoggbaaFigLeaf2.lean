/-
  isLetter of layer 1, and Letter and Digit of the document's answers: each returns its plain function of the byte and leaves the world alone. Condition: the byte is from 0 to 255.
-/
import Derived.Test.YtadbmjmikoggbaaFigLeaf
namespace Go.Proofs.Ytadbmjmikoggbaa
open Go.RowKit
set_option maxHeartbeats 400000

def letB (c : Int) : Bool := decide ((97 ≤ c ∧ c ≤ 122) ∨ (65 ≤ c ∧ c ≤ 90) ∨ c = 95)
theorem low_hi {c : Int} (h : 65 ≤ c ∧ c ≤ 90) : lowI c = c + 32 := by simp [lowI, h]
theorem low_eq {c : Int} (h : ¬ (65 ≤ c ∧ c ≤ 90)) : lowI c = c := by simp only [lowI, if_neg h]
theorem low_bd (c : Int) (hc : 0 ≤ c ∧ c ≤ 255) : 0 ≤ lowI c ∧ lowI c ≤ 255 := by unfold lowI; split <;> omega

end Go.Proofs.Ytadbmjmikoggbaa
