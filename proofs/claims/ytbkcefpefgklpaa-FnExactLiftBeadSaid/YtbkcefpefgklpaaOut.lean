/-
  Contracts: what is left without a rim hook (the model's list; the program's rows without cells).
-/
import Derived.Test.YtbkcefpefgklpaaConj
import Derived.Test.YtbkcefpefgklpaaIsCell
import Derived.Test.YtbkcefpefgklpaaOutMath
namespace Go.Proofs.Ytbkcefpefgklpaa
open Go.RowKit

end Go.Proofs.Ytbkcefpefgklpaa
