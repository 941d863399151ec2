/-
  The small functions of layer 1 (isDigit, lower, isLetter, Letter, Digit): each returns its plain function of the byte, and leaves the world alone. Condition: the byte is from 0 to 255.
-/
import Derived.Test.YtadbmjmikoggbaaShelf
import Derived.WalkKit
import Derived.Lib.Hide
import Derived.Deep.QuietTactic
import Derived.BigQuiet
namespace Go.Proofs.Ytadbmjmikoggbaa
open Go.RowKit

def isDigB (c : Int) : Bool := decide (48 ≤ c ∧ c ≤ 57)
def lowI (c : Int) : Int := if 65 ≤ c ∧ c ≤ 90 then c + 32 else c
def isLetB (c : Int) : Bool := decide (c = 95 ∨ (97 ≤ lowI c ∧ lowI c ≤ 122))

set_option maxHeartbeats 400000
theorem ret_bool {a b : Bool} (h : a = b) : Ending.returned (.bool a) = .returned (.bool b) := by rw [h]
theorem ret_int {k : IntKind} {a b : Int} (h : a = b) : Ending.returned (.int k a) = .returned (.int k b) := by rw [h]

theorem lower_any (c : Int) (hc : 0 ≤ c ∧ c ≤ 255) (w : World) : Calls Try.prog 60 #[.int .u8 c] w fun e w' => e = .returned (.int .u8 (lowI c)) ∧ w = w' := by
  obtain ⟨hc0, hc1⟩ := hc
  by_cases h1 : 65 ≤ c
  · by_cases h2 : c ≤ 90
    · have e : lowI c = c + 32 := by simp [lowI, h1, h2]
      have E := Lib.hid e; clear e
      go_enter Try.func60, Try.ntmps60
      go_wp2
      go_ret
      exact ⟨ret_int E.out.symm, rfl⟩
    · have e : lowI c = c := by simp [lowI]; omega
      have E := Lib.hid e; clear e
      go_enter Try.func60, Try.ntmps60
      go_wp2
      go_ret
      exact ⟨ret_int E.out.symm, rfl⟩
  · have e : lowI c = c := by simp [lowI]; omega
    have E := Lib.hid e; clear e
    go_enter Try.func60, Try.ntmps60
    go_wp2
    go_ret
    exact ⟨ret_int E.out.symm, rfl⟩
end Go.Proofs.Ytadbmjmikoggbaa
