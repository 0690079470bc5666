/-
  Contracts: what tells whether parts are a bar; the candidates of a part.
-/
import Derived.Test.YtblkmomcdchdoaaBr
import Derived.Test.YtblkmomcdchdoaaBarMath
import Derived.Test.YtblkmomcdchdoaaPushAp
import Derived.Test.YtblkmomcdchdoaaCutI
import Derived.Test.YtblkmomcdchdoaaBack2
import Derived.BigQuiet
import Derived.Laws.EntriesVeiled
namespace Go.Proofs.Ytblkmomcdchdoaa
open Go.RowKit

end Go.Proofs.Ytblkmomcdchdoaa
