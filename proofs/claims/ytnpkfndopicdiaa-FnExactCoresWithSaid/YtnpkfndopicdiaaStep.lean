/-
  Contracts: steps along the border (places, letters).
-/
import Derived.Test.YtnpkfndopicdiaaCB
import Derived.Deep.RegionHeld3
import Derived.Laws.Rows
namespace Go.Proofs.Ytnpkfndopicdiaa
open Go.RowKit

end Go.Proofs.Ytnpkfndopicdiaa
