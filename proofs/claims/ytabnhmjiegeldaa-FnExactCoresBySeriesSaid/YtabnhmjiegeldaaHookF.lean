/-
  Contracts: HookAt of the program and of the model.
-/
import Derived.Test.YtabnhmjiegeldaaHook
import Derived.Deep.RegionWith
namespace Go.Proofs.Ytabnhmjiegeldaa
open Go.RowKit

end Go.Proofs.Ytabnhmjiegeldaa
