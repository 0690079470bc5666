/-
  Contract: the sign of a number.
-/
import Derived.Test.YtalmeamgnmboiaaCB
namespace Go.Proofs.Ytalmeamgnmboiaa
open Go.RowKit

def sgn (n : Int) : Int := if n % 2 = 0 then 1 else -1
theorem evenSign_any (n : Int) (w : World) (h0 : 0 ≤ n) (_ : n ≤ 1000) : Calls Try.prog 27 #[.int .i64 n] w fun e w' => e = .returned (.int .i64 (sgn n)) ∧ w = w' := by
  have hm : n.tmod 2 = n % 2 := Int.tmod_eq_emod_of_nonneg h0
  by_cases h : n % 2 = 0
  · have h2 : n.tmod 2 = 0 := by omega
    go_enter Try.func27, Try.ntmps27
    go_wp2
    go_ret
    exact ⟨by simp [sgn, h], rfl⟩
  · have h2 : ¬ n.tmod 2 = 0 := by omega
    go_enter Try.func27, Try.ntmps27
    go_wp2
    go_ret
    exact ⟨by simp [sgn, h], rfl⟩
end Go.Proofs.Ytalmeamgnmboiaa
