/-
  Contracts: steps along the border (places, letters).
-/
import Derived.Test.YthlamneaghbjbaaCB
import Derived.Deep.RegionHeld3
import Derived.Laws.Rows
namespace Go.Proofs.Ythlamneaghbjbaa
open Go.RowKit

end Go.Proofs.Ythlamneaghbjbaa
