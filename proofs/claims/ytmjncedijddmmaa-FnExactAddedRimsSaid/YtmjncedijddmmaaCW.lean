/-
  Several texts in one.
-/
import Derived.Test.YtmjncedijddmmaaCV
import Derived.Test.YtmjncedijddmmaaR28
import Derived.Test.YtmjncedijddmmaaR23
import Derived.Test.YtmjncedijddmmaaCU
/-
  Contracts: signatures and arrows of the program (made by genfo.py).
-/
namespace Go.Proofs.Ytmjncedijddmmaa
open Go.RowKit

end Go.Proofs.Ytmjncedijddmmaa
/-
  Contracts: the arrows of the program (made by genfa.py).
-/
namespace Go.Proofs.Ytmjncedijddmmaa
open Go.RowKit

theorem RN_get (l : List Nat) (k : Nat) (h : k < l.length) : (RN l).getD k 0 = ((l.getD k 0 : Nat) : Int) := by simp [RN, List.getD, h]

end Go.Proofs.Ytmjncedijddmmaa
/-
  Contracts of chapter 8's calls on signatures and arrows, as the laws' walks ask them: of rows of the call's own.
-/
namespace Go.Proofs.Ytmjncedijddmmaa
open Go.RowKit

theorem own_hno {w : World} {B c : Nat} {A : Option Addr} {xs : List Int} (h : Own w B A c xs) : A = none → xs.length = 0 ∧ c = 0 := by
  rintro rfl; exact own_none h
end Go.Proofs.Ytmjncedijddmmaa
