/-
  Contracts: ConjugateOf of the program and of the model.
-/
import Derived.Test.YtecfkkejhfnpbaaConj
namespace Go.Proofs.Ytecfkkejhfnpbaa
open Go.RowKit

end Go.Proofs.Ytecfkkejhfnpbaa
