/-
  Len of layer 2 returns 'lenN' of the number and leaves the world alone. Condition: the number is a uint64.
-/
import Derived.Test.YtjmciknelkodcaaVarMath
import Derived.Test.YtjmciknelkodcaaVarLeaf
import Derived.Handy
namespace Go.Proofs.Ytjmciknelkodcaa
open Go.RowKit

end Go.Proofs.Ytjmciknelkodcaa
