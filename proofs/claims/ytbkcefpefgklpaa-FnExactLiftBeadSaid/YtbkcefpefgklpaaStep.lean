/-
  Contracts: steps along the border (places, letters).
-/
import Derived.Test.YtbkcefpefgklpaaIsCell
import Derived.Deep.RegionHeld3
import Derived.Laws.Rows
namespace Go.Proofs.Ytbkcefpefgklpaa
open Go.RowKit

end Go.Proofs.Ytbkcefpefgklpaa
