/-
  Contracts: steps along the border (places, letters).
-/
import Derived.Test.YtpokehnjpakgcaaCB
import Derived.Deep.RegionHeld3
import Derived.Laws.Rows
namespace Go.Proofs.Ytpokehnjpakgcaa
open Go.RowKit

end Go.Proofs.Ytpokehnjpakgcaa
