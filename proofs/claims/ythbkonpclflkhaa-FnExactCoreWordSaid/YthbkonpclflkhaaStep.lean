/-
  Contracts: steps along the border (places, letters).
-/
import Derived.Test.YthbkonpclflkhaaCB
import Derived.Deep.RegionHeld3
import Derived.Laws.Rows
namespace Go.Proofs.Ythbkonpclflkhaa
open Go.RowKit

end Go.Proofs.Ythbkonpclflkhaa
