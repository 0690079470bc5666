/-
  Plain facts: a number for each cell, row by row. No program in this text.
-/
import Derived.Test.YtabnhmjiegeldaaCorMath
import Derived.Test.YtabnhmjiegeldaaGrow
namespace Go.Proofs.Ytabnhmjiegeldaa
open Go.RowKit

def rowF (f : Nat → Nat → Int) (r n : Nat) : List Int := (List.range n).map (f r)
def rowsF (xs : List Int) (f : Nat → Nat → Int) (k : Nat) : List (List Int) := (List.range k).map fun r => rowF f r (xs.getD r 0).toNat
theorem rowF_len (f : Nat → Nat → Int) (r n : Nat) : (rowF f r n).length = n := by simp [rowF]
theorem rowF_succ (f : Nat → Nat → Int) (r n : Nat) : rowF f r (n + 1) = rowF f r n ++ [f r n] := by simp [rowF, List.range_succ]
theorem rowF_get (f : Nat → Nat → Int) (r n c : Nat) (h : c < n) : (rowF f r n).getD c 0 = f r c := by
  rw [List.getD_eq_getElem?_getD, rowF, List.getElem?_map, List.getElem?_range h]; rfl
theorem rowsF_len (xs : List Int) (f : Nat → Nat → Int) (k : Nat) : (rowsF xs f k).length = k := by simp [rowsF]
theorem rowsF_succ (xs : List Int) (f : Nat → Nat → Int) (k : Nat) : rowsF xs f (k + 1) = rowsF xs f k ++ [rowF f k (xs.getD k 0).toNat] := by simp [rowsF, List.range_succ]
theorem rowsF_get (xs : List Int) (f : Nat → Nat → Int) (k r : Nat) (h : r < k) : (rowsF xs f k).getD r [] = rowF f r (xs.getD r 0).toNat := by
  rw [List.getD_eq_getElem?_getD, rowsF, List.getElem?_map, List.getElem?_range h]; rfl
theorem tot_append (a b : List (List Int)) : tot (a ++ b) = tot a + tot b := by
  induction a with
  | nil => simp [tot]
  | cons x t ih => simp only [List.cons_append, tot, ih]; omega
theorem tot_rowsF (xs : List Int) (f : Nat → Nat → Int) (h : ∀ j, j < xs.length → xs.getD j 0 ≤ 30) : ∀ k, k ≤ xs.length → tot (rowsF xs f k) ≤ k * 30
  | 0, _ => by simp [rowsF, tot]
  | k + 1, hk => by
    rw [rowsF_succ, tot_append]
    have := tot_rowsF xs f h k (by omega)
    have := h k (by omega)
    simp only [tot, rowF_len]; omega
def contN (r c : Nat) : Int := (c : Int) - r
def contF (xs : List Int) : List (List Int) := if good xs then rowsF xs contN xs.length else []
def hooksF (xs : List Int) : List (List Int) := if good xs then rowsF xs (hookN xs) xs.length else []
theorem contF_t {xs : List Int} (h : good xs = true) : contF xs = rowsF xs contN xs.length := by simp [contF, h]
theorem contF_f {xs : List Int} (h : good xs = false) : contF xs = [] := by simp [contF, h]
theorem hooksF_t {xs : List Int} (h : good xs = true) : hooksF xs = rowsF xs (hookN xs) xs.length := by simp [hooksF, h]
theorem hooksF_f {xs : List Int} (h : good xs = false) : hooksF xs = [] := by simp [hooksF, h]
theorem bound_rows (xs : List Int) (f : Nat → Nat → Int) (G : Good xs) : (rowsF xs f xs.length).length ≤ 1048576 ∧ tot (rowsF xs f xs.length) ≤ 1048576 := by
  have := tot_rowsF xs f G.le xs.length (Nat.le_refl _)
  have := G.len
  rw [rowsF_len]; omega
theorem bound_ContentsOf (xs : List Int) : (contF xs).length ≤ 1048576 ∧ tot (contF xs) ≤ 1048576 := by
  cases h : good xs
  · rw [contF_f h]; simp [tot]
  · rw [contF_t h]; exact bound_rows xs _ ((good_iff xs).1 h)
theorem bound_HooksOf (xs : List Int) : (hooksF xs).length ≤ 1048576 ∧ tot (hooksF xs) ≤ 1048576 := by
  cases h : good xs
  · rw [hooksF_f h]; simp [tot]
  · rw [hooksF_t h]; exact bound_rows xs _ ((good_iff xs).1 h)

end Go.Proofs.Ytabnhmjiegeldaa
