/-
  Contracts: what is left without a rim hook (the model's list; the program's rows without cells).
-/
import Derived.Test.YtkdkocpgaalmeaaCC
import Derived.Test.YtkdkocpgaalmeaaCB
import Derived.Test.YtkdkocpgaalmeaaCA
namespace Go.Proofs.Ytkdkocpgaalmeaa
open Go.RowKit

end Go.Proofs.Ytkdkocpgaalmeaa
