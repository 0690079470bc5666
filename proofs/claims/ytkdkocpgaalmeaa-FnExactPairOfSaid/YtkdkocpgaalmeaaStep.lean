/-
  Contracts: steps along the border (places, letters).
-/
import Derived.Test.YtkdkocpgaalmeaaCB
import Derived.Deep.RegionHeld3
import Derived.Laws.Rows
namespace Go.Proofs.Ytkdkocpgaalmeaa
open Go.RowKit

end Go.Proofs.Ytkdkocpgaalmeaa
