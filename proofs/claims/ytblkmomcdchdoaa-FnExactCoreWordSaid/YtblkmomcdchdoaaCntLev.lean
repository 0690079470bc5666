/-
  Contracts: levels told by counts (both sides).
-/
import Derived.Test.YtblkmomcdchdoaaCA
import Derived.Test.YtblkmomcdchdoaaLev
import Derived.Test.YtblkmomcdchdoaaCH
namespace Go.Proofs.Ytblkmomcdchdoaa
open Go.RowKit

end Go.Proofs.Ytblkmomcdchdoaa
