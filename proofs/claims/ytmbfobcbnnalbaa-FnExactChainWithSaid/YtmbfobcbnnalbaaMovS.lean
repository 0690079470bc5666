/-
  Contracts: MovableBeads of the model.
-/
import Derived.Test.YtmbfobcbnnalbaaCE
import Derived.Test.YtmbfobcbnnalbaaMaya
namespace Go.Proofs.Ytmbfobcbnnalbaa
open Go.RowKit

end Go.Proofs.Ytmbfobcbnnalbaa
