/-
  Contracts: what is left without a rim hook (the model's list; the program's rows without cells).
-/
import Derived.Test.YtphfmlfojebjkaaCC
import Derived.Test.YtphfmlfojebjkaaCB
import Derived.Test.YtphfmlfojebjkaaCA
namespace Go.Proofs.Ytphfmlfojebjkaa
open Go.RowKit

end Go.Proofs.Ytphfmlfojebjkaa
