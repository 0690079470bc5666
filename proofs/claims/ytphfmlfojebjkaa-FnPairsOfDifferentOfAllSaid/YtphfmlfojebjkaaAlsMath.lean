/-
  All strict partitions: those that are strict among all, in order. Checked for each number of cells.
-/
import Derived.Test.YtphfmlfojebjkaaBrMath
import Derived.Test.YtphfmlfojebjkaaPaMath
namespace Go.Proofs.Ytphfmlfojebjkaa

/-- What is listed with first parts p, p - 1, .., 1. -/
def sBg (g : Nat → Nat → List (List Int)) (n : Nat) : Nat → List (List Int)
  | 0 => []
  | p + 1 => (g (n - (p + 1)) p).map (fun r => ((p + 1 : Nat) : Int) :: r) ++ sBg g n p
def sA : Nat → Nat → Nat → List (List Int)
  | 0, _, _ => [[]]
  | f + 1, n, m => if n = 0 then [[]] else sBg (sA f) n (min n m)
theorem sA_zero (f m : Nat) : sA f 0 m = [[]] := by cases f <;> rfl
theorem sA_next {f n m : Nat} (h : 0 < n) : sA (f + 1) n m = sBg (sA f) n (min n m) := by rw [sA, if_neg (by omega)]
theorem sBg_congr {g h : Nat → Nat → List (List Int)} {n : Nat} : ∀ k, k ≤ n → (∀ a b, a < n → g a b = h a b) → sBg g n k = sBg h n k
  | 0, _, _ => rfl
  | k + 1, hk, e => by rw [sBg, sBg, sBg_congr k (by omega) e, e _ _ (by omega)]
theorem sA_fuel : ∀ f n m, n ≤ f → sA f n m = sA (f + 1) n m
  | 0, n, m, h => by rw [show n = 0 by omega, sA_zero, sA_zero]
  | f + 1, n, m, h => by
    rcases Nat.eq_zero_or_pos n with h0 | h0
    · subst h0; rw [sA_zero, sA_zero]
    · rw [sA_next h0, sA_next h0]
      exact sBg_congr _ (by omega) fun a b hab => sA_fuel f a b (by omega)
theorem sA_any {n m : Nat} : ∀ d f, n ≤ f → sA f n m = sA (f + d) n m
  | 0, _, _ => rfl
  | d + 1, f, h => by rw [sA_any d f h, sA_fuel (f + d) n m (by omega)]; rfl
theorem sA_chk : ∀ n, n < 25 → (lst n n (T n n)).filter dcr = sA 24 n n := by decide +kernel
theorem sA_bd : ∀ n, n < 25 → ∀ m, m < 25 → (sA 24 n m).length ≤ 200 := by decide +kernel
end Go.Proofs.Ytphfmlfojebjkaa
