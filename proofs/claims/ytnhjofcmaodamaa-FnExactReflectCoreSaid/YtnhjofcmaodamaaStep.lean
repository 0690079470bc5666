/-
  Contracts: steps along the border (places, letters).
-/
import Derived.Test.YtnhjofcmaodamaaCB
import Derived.Deep.RegionHeld3
import Derived.Laws.Rows
namespace Go.Proofs.Ytnhjofcmaodamaa
open Go.RowKit

end Go.Proofs.Ytnhjofcmaodamaa
