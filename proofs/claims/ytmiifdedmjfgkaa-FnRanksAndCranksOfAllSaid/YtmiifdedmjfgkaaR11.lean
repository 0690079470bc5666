/-
  Several texts in one.
-/
import Derived.Test.YtmiifdedmjfgkaaR10
import Derived.Deep.RegionWith
/-
  Contract: the hook of a cell, of the program.
-/
namespace Go.Proofs.Ytmiifdedmjfgkaa
open Go.RowKit

end Go.Proofs.Ytmiifdedmjfgkaa
/-
  Contracts: HookAt of the program and of the model.
-/
namespace Go.Proofs.Ytmiifdedmjfgkaa
open Go.RowKit

end Go.Proofs.Ytmiifdedmjfgkaa
