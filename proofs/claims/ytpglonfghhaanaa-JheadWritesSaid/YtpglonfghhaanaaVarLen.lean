/-
  Len of layer 2 returns 'lenN' of the number and leaves the world alone. Condition: the number is a uint64.
-/
import Derived.Test.YtpglonfghhaanaaVarMath
import Derived.Test.YtpglonfghhaanaaVarLeaf
import Derived.Handy
namespace Go.Proofs.Ytpglonfghhaanaa
open Go.RowKit

end Go.Proofs.Ytpglonfghhaanaa
