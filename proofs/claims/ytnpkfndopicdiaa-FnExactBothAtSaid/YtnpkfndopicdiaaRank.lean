/-
  Contracts: RankPartition of the program and of the model.
-/
import Derived.Test.YtnpkfndopicdiaaCountF
namespace Go.Proofs.Ytnpkfndopicdiaa
open Go.RowKit

theorem T_sat : ∀ n, n < 31 → ∀ k, k < 31 → n ≤ k → T n k = T n n := by decide +kernel
theorem T_min {l m : Nat} (hl : l < 31) (hm : m < 31) : T l (min l m) = T l m := by
  rcases Nat.le_total l m with h | h
  · rw [Nat.min_eq_left h, T_sat l hl m hm h]
  · rw [Nat.min_eq_right h]
def rk : Nat → Nat → List Int → Int
  | _, _, [] => 0
  | l, m, x :: t => ((T l m : Int) - T l x.toNat) + rk (l - x.toNat) x.toNat t
def rankF (xs : List Int) : Int := if good xs then rk xs.sum.toNat xs.sum.toNat xs else 0
theorem rankF_t {xs : List Int} (h : good xs = true) : rankF xs = rk xs.sum.toNat xs.sum.toNat xs := by simp [rankF, h]
theorem rankF_f {xs : List Int} (h : good xs = false) : rankF xs = 0 := by simp [rankF, h]
theorem sum_drop_nonneg {xs : List Int} (G : Good xs) (k : Nat) : 0 ≤ (xs.drop k).sum := by
  refine (sum_bound (xs.drop k) 30 fun j hj => ?_).1
  rw [List.length_drop] at hj
  rw [getD_drop]
  have := G.pos (k + j) (by omega); have := G.le (k + j) (by omega); omega
theorem sum_drop {xs : List Int} {k : Nat} (h : k < xs.length) : (xs.drop k).sum = xs.getD k 0 + (xs.drop (k + 1)).sum := by rw [drop_cons xs k h, List.sum_cons]

end Go.Proofs.Ytnpkfndopicdiaa
