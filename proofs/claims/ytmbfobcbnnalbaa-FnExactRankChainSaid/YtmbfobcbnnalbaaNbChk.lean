/-
  Plain check: a cell less and a cell more, at all partitions of at most twelve cells. No program in this text.
-/
import Derived.Test.YtmbfobcbnnalbaaCN
import Derived.Test.YtmbfobcbnnalbaaPaMath
namespace Go.Proofs.Ytmbfobcbnnalbaa

/-- The sum over all partitions with a cell more. -/
def upS (p : List Int) (F : List Int → Int) : Int := ((filt (addB p) (p.length + 1)).map fun r => F (incL p r.toNat)).sum
set_option maxRecDepth 100000 in
theorem up_chk : ∀ n, n < 12 → ∀ i, i < T (n + 1) (n + 1) → ∀ j, j < T n n → tkF 1 (dlt (pa n n n j)) (pa (n + 1) (n + 1) (n + 1) i) = upS (pa n n n j) (fun q => dlt q (pa (n + 1) (n + 1) (n + 1) i)) := by decide +kernel
end Go.Proofs.Ytmbfobcbnnalbaa
