/-
  Contracts: what is left without a rim hook (the model's list; the program's rows without cells).
-/
import Derived.Test.YtmjncedijddmmaaCC
import Derived.Test.YtmjncedijddmmaaCB
import Derived.Test.YtmjncedijddmmaaCA
namespace Go.Proofs.Ytmjncedijddmmaa
open Go.RowKit

end Go.Proofs.Ytmjncedijddmmaa
