/-
  Contracts: CornersOf of the program and of the model.
-/
import Derived.Test.YtecfkkejhfnpbaaConjF
import Derived.Test.YtecfkkejhfnpbaaCorMath
namespace Go.Proofs.Ytecfkkejhfnpbaa
open Go.RowKit


end Go.Proofs.Ytecfkkejhfnpbaa
