/-
  Contracts: ConjugateOf of the program and of the model.
-/
import Derived.Test.YtabnhmjiegeldaaConj
namespace Go.Proofs.Ytabnhmjiegeldaa
open Go.RowKit

end Go.Proofs.Ytabnhmjiegeldaa
