/-
  Several texts in one.
-/
import Derived.Test.YtmiifdedmjfgkaaR10
import Derived.Test.YtmiifdedmjfgkaaR08
import Derived.Test.YtmiifdedmjfgkaaR09
import Derived.Test.YtmiifdedmjfgkaaR11
/-
  Contracts: CornersOf of the program and of the model.
-/
namespace Go.Proofs.Ytmiifdedmjfgkaa
open Go.RowKit


end Go.Proofs.Ytmiifdedmjfgkaa
/-
  Contracts: the model's rows of contents and of hooks.
-/
namespace Go.Proofs.Ytmiifdedmjfgkaa
open Go.RowKit

theorem cols_get' (xs : List Int) (G : Good xs) {k n m : Nat} (hk : k < xs.length) (hn : (n : Int) = xs.getD k 0) (hm : m < n) : m < (cols xs).length ∧ (m : Int) < xs.getD k 0 := by
  have h : (m : Int) < xs.getD k 0 := by omega
  exact ⟨col_lt G hk h, h⟩

end Go.Proofs.Ytmiifdedmjfgkaa
