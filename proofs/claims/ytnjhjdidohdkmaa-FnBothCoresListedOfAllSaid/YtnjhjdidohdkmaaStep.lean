/-
  Contracts: steps along the border (places, letters).
-/
import Derived.Test.YtnjhjdidohdkmaaCB
import Derived.Deep.RegionHeld3
import Derived.Laws.Rows
namespace Go.Proofs.Ytnjhjdidohdkmaa
open Go.RowKit

end Go.Proofs.Ytnjhjdidohdkmaa
