/-
  Several texts in one.
-/
import Derived.Test.YtmiifdedmjfgkaaR02
import Derived.Test.YtmiifdedmjfgkaaR01
/-
  Contracts: PentagonalAt on both sides.
-/
namespace Go.Proofs.Ytmiifdedmjfgkaa
open Go.RowKit

def pntB (k : Int) : Bool := inB (-1000) 1000 k
def pnt (k : Int) : Int := (k * (3 * k - 1)).tdiv 2
def pntF (k : Int) : Int := if pntB k then pnt k else 0
theorem pntF_t {k : Int} (h : pntB k = true) : pntF k = pnt k := by simp [pntF, h]
theorem pntF_f {k : Int} (h : pntB k = false) : pntF k = 0 := by simp [pntF, h]
theorem pnt_prod {k : Int} (h : -1000 ≤ k ∧ k ≤ 1000) : 0 ≤ k * (3 * k - 1) ∧ k * (3 * k - 1) ≤ 4000000 := by
  have h1 : k * (3 * k - 1) = 3 * (k * k) - k := by grind
  have h2 : 0 ≤ k * k := by
    rcases Int.le_total 0 k with h | h
    · exact Int.mul_nonneg h h
    · exact Int.mul_nonneg_of_nonpos_of_nonpos h h
  have h3 : k * k ≤ 1000000 := by
    have := Int.mul_nonneg (show 0 ≤ 1000 - k by omega) (show 0 ≤ 1000 + k by omega)
    have e : (1000 - k) * (1000 + k) = 1000000 - k * k := by grind
    omega
  have h4 : k ≤ 0 ∨ 1 ≤ k := by omega
  refine ⟨?_, by omega⟩
  rcases h4 with h4 | h4
  · exact Int.mul_nonneg_of_nonpos_of_nonpos h4 (by omega)
  · exact Int.mul_nonneg (by omega) (by omega)
theorem pnt_bd {k : Int} (h : -1000 ≤ k ∧ k ≤ 1000) : 0 ≤ pnt k ∧ pnt k ≤ 4000000 := by
  have := pnt_prod h
  unfold pnt
  rw [Int.tdiv_eq_ediv_of_nonneg this.1]
  omega

set_option maxHeartbeats 400000 in
theorem pentagonal_any (k : Int) (w : World) (h : -1000 ≤ k ∧ k ≤ 1000) :
    Calls Try.prog 52 #[.int .i64 k] w fun e w' => e = .returned (.int .i64 (pnt k)) ∧ w = w' := by
  have hp := pnt_prod h
  have hb := pnt_bd h
  unfold pnt at hb ⊢
  go_enter Try.func52, Try.ntmps52
  go_wp2_with fail
  go_ret
  exact ⟨rfl, rfl⟩
end Go.Proofs.Ytmiifdedmjfgkaa
/-
  Contract: the sign of a number.
-/
namespace Go.Proofs.Ytmiifdedmjfgkaa
open Go.RowKit

def sgn (n : Int) : Int := if n % 2 = 0 then 1 else -1
theorem evenSign_any (n : Int) (w : World) (h0 : 0 ≤ n) (_ : n ≤ 1000) : Calls Try.prog 53 #[.int .i64 n] w fun e w' => e = .returned (.int .i64 (sgn n)) ∧ w = w' := by
  have hm : n.tmod 2 = n % 2 := Int.tmod_eq_emod_of_nonneg h0
  by_cases h : n % 2 = 0
  · have h2 : n.tmod 2 = 0 := by omega
    go_enter Try.func53, Try.ntmps53
    go_wp2
    go_ret
    exact ⟨by simp [sgn, h], rfl⟩
  · have h2 : ¬ n.tmod 2 = 0 := by omega
    go_enter Try.func53, Try.ntmps53
    go_wp2
    go_ret
    exact ⟨by simp [sgn, h], rfl⟩
end Go.Proofs.Ytmiifdedmjfgkaa
