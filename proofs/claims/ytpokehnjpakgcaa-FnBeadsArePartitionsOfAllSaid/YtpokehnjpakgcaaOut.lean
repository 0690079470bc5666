/-
  Contracts: what is left without a rim hook (the model's list; the program's rows without cells).
-/
import Derived.Test.YtpokehnjpakgcaaCC
import Derived.Test.YtpokehnjpakgcaaCB
import Derived.Test.YtpokehnjpakgcaaCA
namespace Go.Proofs.Ytpokehnjpakgcaa
open Go.RowKit

end Go.Proofs.Ytpokehnjpakgcaa
