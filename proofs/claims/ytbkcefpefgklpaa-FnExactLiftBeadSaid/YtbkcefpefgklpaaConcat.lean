/-
  Contracts: slices.Grow of nil and slices.Concat at rows of ints, none of them empty.
-/
import Derived.Test.YtbkcefpefgklpaaOutF
import Derived.Lib.AppendZerosOnto
namespace Go.Proofs.Ytbkcefpefgklpaa
open Go.RowKit

theorem flat_succ (rows : List (List Int)) (k : Nat) (h : k < rows.length) : (rows.take (k + 1)).flatten = (rows.take k).flatten ++ rows.getD k [] := by
  rw [List.take_succ_eq_append_getElem h, List.flatten_append]; simp [List.getD, h]
theorem flat_len (rows : List (List Int)) : rows.flatten.length = tot rows := by
  induction rows with
  | nil => rfl
  | cons r t ih => simp only [List.flatten_cons, List.length_append, tot, ih]
theorem IL_app (xs ys : List Int) : IL (xs ++ ys) = IL xs ++ IL ys := by simp [IL]

end Go.Proofs.Ytbkcefpefgklpaa
