/-
  Contracts: levels told by counts (both sides).
-/
import Derived.Test.YtmbfobcbnnalbaaCA
import Derived.Test.YtmbfobcbnnalbaaLev
import Derived.Test.YtmbfobcbnnalbaaCH
namespace Go.Proofs.Ytmbfobcbnnalbaa
open Go.RowKit

end Go.Proofs.Ytmbfobcbnnalbaa
