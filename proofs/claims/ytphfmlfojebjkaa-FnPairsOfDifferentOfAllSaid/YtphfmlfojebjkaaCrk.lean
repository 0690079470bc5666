/-
  Contracts: RankOf, CrankOf on both sides.
-/
import Derived.Test.YtphfmlfojebjkaaPab
import Derived.Test.YtphfmlfojebjkaaCB
namespace Go.Proofs.Ytphfmlfojebjkaa
open Go.RowKit

def rcB (xs : List Int) : Bool := good xs && decide (0 < xs.length)
theorem rcB_iff {xs : List Int} : rcB xs = true ↔ good xs = true ∧ 0 < xs.length := by simp [rcB]
def rkV (xs : List Int) : Int := xs.getD 0 0 - xs.length
def rkF (xs : List Int) : Int := if rcB xs then rkV xs else 0
theorem rkF_t {xs : List Int} (h : rcB xs = true) : rkF xs = rkV xs := by simp [rkF, h]
theorem rkF_f {xs : List Int} (h : rcB xs = false) : rkF xs = 0 := by simp [rkF, h]
def onesN (xs : List Int) : Int := xs.length - colH xs 1
def crV (xs : List Int) : Int := if onesN xs = 0 then xs.getD 0 0 else colH xs (onesN xs) - onesN xs
def crF (xs : List Int) : Int := if rcB xs then crV xs else 0
theorem crF_t {xs : List Int} (h : rcB xs = true) : crF xs = crV xs := by simp [crF, h]
theorem crF_f {xs : List Int} (h : rcB xs = false) : crF xs = 0 := by simp [crF, h]
theorem colH_take_succ (xs : List Int) (c : Int) (k : Nat) (h : k < xs.length) : colH (xs.take (k + 1)) c = colH (xs.take k) c + ind c (xs.getD k 0) := by
  rw [colH_ind, colH_ind, List.map_take, List.map_take, sum_take_succ _ k (by simpa using h), map_get xs (ind c) k h]
theorem colH_take_le (xs : List Int) (c : Int) (k : Nat) (h : k ≤ xs.length) : 0 ≤ colH (xs.take k) c ∧ colH (xs.take k) c ≤ k := by
  have := colH_bound (xs.take k) c
  rw [List.length_take] at this
  omega

end Go.Proofs.Ytphfmlfojebjkaa
