/-
  Contracts: levels told by counts (both sides).
-/
import Derived.Test.YthbkonpclflkhaaCA
import Derived.Test.YthbkonpclflkhaaLev
import Derived.Test.YthbkonpclflkhaaCH
namespace Go.Proofs.Ythbkonpclflkhaa
open Go.RowKit

end Go.Proofs.Ythbkonpclflkhaa
