/-
  Contracts: steps along the border (places, letters).
-/
import Derived.Test.YtmjncedijddmmaaCB
import Derived.Deep.RegionHeld3
import Derived.Laws.Rows
namespace Go.Proofs.Ytmjncedijddmmaa
open Go.RowKit

end Go.Proofs.Ytmjncedijddmmaa
