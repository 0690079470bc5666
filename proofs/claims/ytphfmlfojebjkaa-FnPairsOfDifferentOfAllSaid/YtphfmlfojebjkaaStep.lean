/-
  Contracts: steps along the border (places, letters).
-/
import Derived.Test.YtphfmlfojebjkaaCB
import Derived.Deep.RegionHeld3
import Derived.Laws.Rows
namespace Go.Proofs.Ytphfmlfojebjkaa
open Go.RowKit

end Go.Proofs.Ytphfmlfojebjkaa
