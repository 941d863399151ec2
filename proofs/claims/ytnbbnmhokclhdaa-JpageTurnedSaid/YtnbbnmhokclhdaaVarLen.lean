/-
  Len of layer 2 returns 'lenN' of the number and leaves the world alone. Condition: the number is a uint64.
-/
import Derived.Test.YtnbbnmhokclhdaaVarMath
import Derived.Test.YtnbbnmhokclhdaaVarLeaf
import Derived.Handy
namespace Go.Proofs.Ytnbbnmhokclhdaa
open Go.RowKit

end Go.Proofs.Ytnbbnmhokclhdaa
