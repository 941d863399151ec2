/-
  Len of layer 2 returns 'lenN' of the number and leaves the world alone. Condition: the number is a uint64.
-/
import Derived.Test.YtcfojplmmpeefaaVarMath
import Derived.Test.YtcfojplmmpeefaaVarLeaf
import Derived.Handy
namespace Go.Proofs.Ytcfojplmmpeefaa
open Go.RowKit

end Go.Proofs.Ytcfojplmmpeefaa
