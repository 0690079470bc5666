/-
  Contracts: IsInside of the program and of the model.
-/
import Derived.Test.YtnpkfndopicdiaaCB
import Derived.Test.YtnpkfndopicdiaaCA
namespace Go.Proofs.Ytnpkfndopicdiaa
open Go.RowKit

def insF (xs ys : List Int) : Bool := (good xs && good ys) && insideB xs ys
theorem insF_t {xs ys : List Int} (h1 : good xs = true) (h2 : good ys = true) : insF xs ys = insideB xs ys := by simp [insF, h1, h2]
theorem insF_f {xs ys : List Int} (h : (good xs && good ys) = false) : insF xs ys = false := by simp [insF, h]

end Go.Proofs.Ytnpkfndopicdiaa
