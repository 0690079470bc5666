/-
  Contracts: two rows of ints compared, by the program (Equal) and by the model (made by gensame.py).
-/
import Derived.Test.YtaonkebjakanjaaCB
namespace Go.Proofs.Ytaonkebjakanjaa
open Go.RowKit

theorem rows_ext {xs ys : List Int} (hl : xs.length = ys.length) (h : ∀ j, j < xs.length → xs.getD j 0 = ys.getD j 0) : xs = ys := by
  apply List.ext_getElem hl
  intro j h1 h2
  have := h j h1
  rw [List.getD_eq_getElem?_getD, List.getD_eq_getElem?_getD, List.getElem?_eq_getElem h1, List.getElem?_eq_getElem h2] at this
  exact this

end Go.Proofs.Ytaonkebjakanjaa
