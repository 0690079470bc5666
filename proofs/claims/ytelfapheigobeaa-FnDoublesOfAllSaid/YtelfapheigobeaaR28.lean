/-
  Several texts in one.
-/
import Derived.Test.YtelfapheigobeaaCB
import Derived.Test.YtelfapheigobeaaR24
import Derived.Lib.AppendZerosOnto
/-
  Factorials of the program and of the model.
-/
namespace Go.Proofs.Ytelfapheigobeaa
open Go.RowKit

def fac : Nat → Int
  | 0 => 1
  | n + 1 => fac n * ((n : Int) + 1)
theorem fac_step (k : Nat) : fac (k + 1) = fac k * ((k : Int) + 1) := rfl
theorem fac_bd20 : ∀ k < 21, 1 ≤ fac k ∧ fac k ≤ 2432902008176640000 := by decide +kernel

/-- What the other side has multiplied when it has come down to m. -/
def facD (n : Nat) : Nat → Int
  | 0 => 1
  | j + 1 => facD n j * ((n : Int) - j)
theorem facDN : ((List.range 21).all fun n => (List.range 21).all fun j => decide (n < j) || (decide (1 ≤ facD n j ∨ j = n + 1) && decide (facD n j ≤ 2432902008176640000 ∧ 0 ≤ facD n j))) = true := by decide +kernel
theorem facD_bd (n : Nat) (hn : n ≤ 20) (j : Nat) (hj : j ≤ n) : 0 ≤ facD n j ∧ facD n j ≤ 2432902008176640000 := by
  have h1 := List.all_eq_true.1 facDN n (List.mem_range.2 (by omega))
  have h2 := List.all_eq_true.1 h1 j (List.mem_range.2 (by omega))
  simp only [Bool.or_eq_true, Bool.and_eq_true, decide_eq_true_eq] at h2
  omega
theorem facD_fac : ∀ n < 21, facD n (n - 1) = fac n := by decide +kernel

end Go.Proofs.Ytelfapheigobeaa
/-
  Contracts: slices.Grow of nil and slices.Concat at rows of ints, none of them empty.
-/
namespace Go.Proofs.Ytelfapheigobeaa
open Go.RowKit

theorem flat_succ (rows : List (List Int)) (k : Nat) (h : k < rows.length) : (rows.take (k + 1)).flatten = (rows.take k).flatten ++ rows.getD k [] := by
  rw [List.take_succ_eq_append_getElem h, List.flatten_append]; simp [List.getD, h]
theorem flat_len (rows : List (List Int)) : rows.flatten.length = tot rows := by
  induction rows with
  | nil => rfl
  | cons r t ih => simp only [List.flatten_cons, List.length_append, tot, ih]
theorem IL_app (xs ys : List Int) : IL (xs ++ ys) = IL xs ++ IL ys := by simp [IL]

end Go.Proofs.Ytelfapheigobeaa
