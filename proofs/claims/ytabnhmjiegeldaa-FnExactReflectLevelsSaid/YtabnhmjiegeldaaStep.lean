/-
  Contracts: steps along the border (places, letters).
-/
import Derived.Test.YtabnhmjiegeldaaIsCell
import Derived.Deep.RegionHeld3
import Derived.Laws.Rows
namespace Go.Proofs.Ytabnhmjiegeldaa
open Go.RowKit

end Go.Proofs.Ytabnhmjiegeldaa
