/-
  Several texts in one.
-/
import Derived.Test.YtdoahfjccpniaaaR13
import Derived.Test.YtdoahfjccpniaaaCA
import Derived.Test.YtdoahfjccpniaaaR12
/-
  Contracts: CountPartitions of the program and of the model.
-/
namespace Go.Proofs.Ytdoahfjccpniaaa
open Go.RowKit

def okN (n : Int) : Bool := inB 0 30 n
def countF (n : Int) : Int := if okN n then (T n.toNat n.toNat : Int) else 0
theorem countF_t (n : Nat) (h : n ≤ 30) : countF n = T n n := by
  have e : okN n = true := inB_iff.2 (by omega)
  simp [countF, e]
theorem countF_f {n : Int} (h : okN n = false) : countF n = 0 := by simp [countF, h]
theorem okN_nat {n : Int} (h : okN n = true) : ∃ m : Nat, n = m ∧ m ≤ 30 := by
  have := inB_iff.1 h
  exact ⟨n.toNat, by omega, by omega⟩

end Go.Proofs.Ytdoahfjccpniaaa
/-
  Contracts: levels told by counts (both sides).
-/
namespace Go.Proofs.Ytdoahfjccpniaaa
open Go.RowKit

end Go.Proofs.Ytdoahfjccpniaaa
