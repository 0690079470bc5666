/-
  Contracts: what is left without a rim hook (the model's list; the program's rows without cells).
-/
import Derived.Test.YtnjhjdidohdkmaaCC
import Derived.Test.YtnjhjdidohdkmaaCB
import Derived.Test.YtnjhjdidohdkmaaCA
namespace Go.Proofs.Ytnjhjdidohdkmaa
open Go.RowKit

end Go.Proofs.Ytnjhjdidohdkmaa
