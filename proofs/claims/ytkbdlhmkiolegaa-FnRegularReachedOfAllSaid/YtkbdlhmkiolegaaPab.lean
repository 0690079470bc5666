/-
  Contracts: how many parts are greater than a number.
-/
import Derived.Test.YtkbdlhmkiolegaaCB
import Derived.Test.YtkbdlhmkiolegaaCA
namespace Go.Proofs.Ytkbdlhmkiolegaa
open Go.RowKit

def ind (c x : Int) : Int := if c < x then 1 else 0
theorem colH_ind (xs : List Int) (c : Int) : colH xs c = (xs.map (ind c)).sum := rfl

theorem ind_bd (c x : Int) : 0 ≤ ind c x ∧ ind c x ≤ 1 := by unfold ind; split <;> omega
theorem map_get (xs : List Int) (f : Int → Int) (k : Nat) (h : k < xs.length) : (xs.map f).getD k 0 = f (xs.getD k 0) := by
  rw [List.getD_eq_getElem?_getD, List.getElem?_map, List.getD_eq_getElem?_getD, List.getElem?_eq_getElem h]; rfl

end Go.Proofs.Ytkbdlhmkiolegaa
