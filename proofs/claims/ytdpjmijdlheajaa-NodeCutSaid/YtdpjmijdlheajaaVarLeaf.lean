/-
  The functions of layer 2 without a loop (Fold, Unfold and the document's answers for them): each returns its plain function of the number, and leaves the world alone. Condition: the number is one of its kind.
-/
import Derived.Test.YtdpjmijdlheajaaProg
import Derived.WalkKit
import Derived.Lib.Hide
import Derived.Deep.QuietTactic
import Derived.BigQuiet
namespace Go.Proofs.Ytdpjmijdlheajaa
open Go.RowKit

def foldZ (n : Int) : Int := if 0 ≤ n then 2 * n else -2 * n - 1
def unfoldZ (n : Int) : Int := if n % 2 = 0 then n / 2 else -(n / 2) - 1
theorem ret_bool {a b : Bool} (h : a = b) : Ending.returned (.bool a) = .returned (.bool b) := by rw [h]
theorem ret_int {k : IntKind} {a b : Int} (h : a = b) : Ending.returned (.int k a) = .returned (.int k b) := by rw [h]

end Go.Proofs.Ytdpjmijdlheajaa
