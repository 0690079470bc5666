/-
  Contracts: HookAt of the program and of the model.
-/
import Derived.Test.YtecfkkejhfnpbaaHook
import Derived.Deep.RegionWith
namespace Go.Proofs.Ytecfkkejhfnpbaa
open Go.RowKit

end Go.Proofs.Ytecfkkejhfnpbaa
