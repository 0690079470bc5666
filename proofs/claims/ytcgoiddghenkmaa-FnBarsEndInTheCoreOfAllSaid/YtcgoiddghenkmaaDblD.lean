/-
  Bar cores and doubles as plain functions. No walk in this text.
-/
import Derived.Test.YtcgoiddghenkmaaBarMath
import Derived.Test.YtcgoiddghenkmaaTkbMath
import Derived.Test.YtcgoiddghenkmaaDbMath
import Derived.Test.YtcgoiddghenkmaaShfMath
namespace Go.Proofs.Ytcgoiddghenkmaa

def bcR (t : Int) : Nat → List Int → List Int × Nat
  | 0, xs => (xs, 0)
  | f + 1, xs => if (brs xs t xs.length).length = 0 then (xs, 0) else ((bcR t f (tkL xs t ((brs xs t xs.length).getD 0 []))).1, (bcR t f (tkL xs t ((brs xs t xs.length).getD 0 []))).2 + 1)
def bcF (xs : List Int) (t : Int) : List Int := if brtB xs t then (bcR t 31 xs).1 else []
def dbF (xs : List Int) : List Int := if shB xs then dbL xs else []
end Go.Proofs.Ytcgoiddghenkmaa
