/-
  Contracts: a row of ints copied, its source a row of the call's own, nil or not.
-/
import Derived.Test.YtbkcefpefgklpaaOutF
import Derived.Test.YtbkcefpefgklpaaOpt
namespace Go.Proofs.Ytbkcefpefgklpaa
open Go.RowKit

end Go.Proofs.Ytbkcefpefgklpaa
