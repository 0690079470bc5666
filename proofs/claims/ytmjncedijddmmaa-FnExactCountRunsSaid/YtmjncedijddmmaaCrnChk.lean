/-
  Plain check: at all partitions of at most fifteen cells the product of the hooks divides the factorial. No program in this text.
-/
import Derived.Test.YtmjncedijddmmaaPaMath
import Derived.Test.YtmjncedijddmmaaChs
namespace Go.Proofs.Ytmjncedijddmmaa
def chkD (n : Nat) : Bool := (List.range (T n n)).all fun r => let L := hkL (pa n n n r); facN n % prN L L.length == 0
set_option maxRecDepth 100000 in
theorem div_chk : ∀ n, n < 16 → chkD n = true := by decide +kernel
end Go.Proofs.Ytmjncedijddmmaa
