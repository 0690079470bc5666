/-
  Contracts: steps along the border (places, letters).
-/
import Derived.Test.YtcgoiddghenkmaaCB
import Derived.Deep.RegionHeld3
import Derived.Laws.Rows
namespace Go.Proofs.Ytcgoiddghenkmaa
open Go.RowKit

end Go.Proofs.Ytcgoiddghenkmaa
