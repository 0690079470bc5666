/-
  Contracts: IsInside of the program and of the model.
-/
import Derived.Test.YtnjhjdidohdkmaaCB
import Derived.Test.YtnjhjdidohdkmaaCA
namespace Go.Proofs.Ytnjhjdidohdkmaa
open Go.RowKit

def insideF (xs ys : List Int) : Bool := (good xs && good ys) && insideB xs ys
theorem insideF_t {xs ys : List Int} (h1 : good xs = true) (h2 : good ys = true) : insideF xs ys = insideB xs ys := by simp [insideF, h1, h2]
theorem insideF_f {xs ys : List Int} (h : (good xs && good ys) = false) : insideF xs ys = false := by simp [insideF, h]

end Go.Proofs.Ytnjhjdidohdkmaa
