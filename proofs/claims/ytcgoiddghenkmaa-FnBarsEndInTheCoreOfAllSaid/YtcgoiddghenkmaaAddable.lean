/-
  Contracts: AddableOf of the program and of the model.
-/
import Derived.Test.YtcgoiddghenkmaaCC
namespace Go.Proofs.Ytcgoiddghenkmaa
open Go.RowKit

theorem owns_drewN {w : World} {B e s n : Nat} {v : Value} {xs : List Value} (h : w.ownsRow B e s v n xs) (k : Nat) : (w.drewN k).ownsRow B e s v n xs := h

end Go.Proofs.Ytcgoiddghenkmaa
