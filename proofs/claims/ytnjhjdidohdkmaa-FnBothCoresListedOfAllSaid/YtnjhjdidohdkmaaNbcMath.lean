/-
  What FnBothCoresListedOfAll asks, checked for all sixteen pairs of sizes.
-/
import Derived.Test.YtnjhjdidohdkmaaBcl
import Derived.Test.YtnjhjdidohdkmaaAllB
import Derived.Test.YtnjhjdidohdkmaaCb
import Derived.Test.YtnjhjdidohdkmaaCob
import Derived.Test.YtnjhjdidohdkmaaGrt
import Derived.Test.YtnjhjdidohdkmaaGap
import Derived.Test.YtnjhjdidohdkmaaBoth
namespace Go.Proofs.Ytnjhjdidohdkmaa
open Go.RowKit

/-- The ways, counted up to i. -/
def wyK (a b : Int) : Nat → Int
  | 0 => 1
  | i + 1 => Int.tdiv (wyK a b i * (Int.tdiv b 2 + ((i : Int) + 1))) ((i : Int) + 1)
def nbRow (a b : Int) (r : List Int) : Bool := ibB r a b && (ibOk r a b && ((boL a b).any (fun q => decide (q = cols r))))
theorem nb_rows {a b : Int} (hs : sz a b = true) : (boL a b).all (nbRow a b) = true := sz_nat (p := fun a b => (boL a b).all (nbRow a b) = true) (by decide +kernel) hs
def nbOrd (L : List (List Int)) : Bool := (List.range (L.length - 1)).all fun k => decide ((L.getD k []).sum ≤ (L.getD (k + 1) []).sum) && (decide ((L.getD k []).sum < (L.getD (k + 1) []).sum) || befB (L.getD k []) (L.getD (k + 1) []))
theorem nb_ord {a b : Int} (hs : sz a b = true) : nbOrd (boL a b) = true := sz_nat (p := fun a b => nbOrd (boL a b) = true) (by decide +kernel) hs
def nbNum (a b : Int) : Bool :=
  decide (((boL a b).length : Int) = cbF a b ∧ 0 < (boL a b).length) && (decide (((gapsL a b).length : Int) = Int.tdiv ((a - 1) * (b - 1)) 2) && (decide ((partsL (gapsL a b)).sum = Int.tdiv ((a * a - 1) * (b * b - 1)) 24)
  && (decide (24 * cobF a b = cbF a b * (a + b + 1) * (a - 1) * (b - 1)) && (decide ((boL a b).getD ((boL a b).length - 1) [] = partsL (gapsL a b)) && decide (wyK a b (Int.tdiv a 2).toNat = ctuF a b)))))
theorem nb_num {a b : Int} (hs : sz a b = true) : nbNum a b = true := sz_nat (p := fun a b => nbNum a b = true) (by decide +kernel) hs
def nbBd (a b : Int) : Bool :=
  decide (0 ≤ cbF a b ∧ cbF a b ≤ 1000) && (decide (0 ≤ cobF a b ∧ cobF a b ≤ 100000) && (decide (0 ≤ cbF a b * (a + b + 1) ∧ cbF a b * (a + b + 1) ≤ 100000) && (decide (0 ≤ cbF a b * (a + b + 1) * (a - 1) ∧ cbF a b * (a + b + 1) * (a - 1) ≤ 1000000)
  && (decide (0 ≤ cbF a b * (a + b + 1) * (a - 1) * (b - 1) ∧ cbF a b * (a + b + 1) * (a - 1) * (b - 1) ≤ 10000000) && (decide (0 ≤ (a * a - 1) * (b * b - 1) ∧ (a * a - 1) * (b * b - 1) ≤ 10000) && (decide (0 ≤ (a - 1) * (b - 1) ∧ (a - 1) * (b - 1) ≤ 100) && (decide (2 ≤ a ∧ a ≤ 7 ∧ 2 ≤ b ∧ b ≤ 7)
  && (List.range 4).all fun i => decide (0 ≤ wyK a b i ∧ wyK a b i ≤ 1000 ∧ 0 ≤ wyK a b i * (Int.tdiv b 2 + ((i : Int) + 1)) ∧ wyK a b i * (Int.tdiv b 2 + ((i : Int) + 1)) ≤ 10000))))))))
theorem nb_bd {a b : Int} (hs : sz a b = true) : nbBd a b = true := sz_nat (p := fun a b => nbBd a b = true) (by decide +kernel) hs
end Go.Proofs.Ytnjhjdidohdkmaa
