/-
  Plain facts on the columns of a partition. No program in this text.
-/
import Derived.Test.YtbkcefpefgklpaaGoodMath
namespace Go.Proofs.Ytbkcefpefgklpaa

/-- How many parts are greater than c. -/
def colH (xs : List Int) (c : Int) : Int := (xs.map fun x => if c < x then (1 : Int) else 0).sum
def cols (xs : List Int) : List Int := (List.range (xs.getD 0 0).toNat).map fun c : Nat => colH xs (c : Int)
def conjF (xs : List Int) : List Int := if good xs then cols xs else []

theorem sum_ones (xs : List Int) (c : Int) (h : ∀ j, j < xs.length → c < xs.getD j 0) : colH xs c = xs.length := by
  induction xs with
  | nil => rfl
  | cons x t ih =>
    have h0 := h 0 (by simp)
    simp only [List.getD_cons_zero] at h0
    have := ih (fun j hj => by have := h (j + 1) (by simp; omega); simpa using this)
    unfold colH at this ⊢
    simp only [List.map_cons, List.sum_cons, this, if_pos h0, List.length_cons]
    omega
theorem sum_zeros (xs : List Int) (c : Int) (h : ∀ j, j < xs.length → xs.getD j 0 ≤ c) : colH xs c = 0 := by
  induction xs with
  | nil => rfl
  | cons x t ih =>
    have h0 := h 0 (by simp)
    simp only [List.getD_cons_zero] at h0
    have := ih (fun j hj => by have := h (j + 1) (by simp; omega); simpa using this)
    unfold colH at this ⊢
    simp only [List.map_cons, List.sum_cons, this, if_neg (show ¬ c < x by omega)]
    omega
theorem colH_append (xs ys : List Int) (c : Int) : colH (xs ++ ys) c = colH xs c + colH ys c := by simp [colH]
theorem getD_take (xs : List Int) (n j : Nat) (h : j < n) : (xs.take n).getD j 0 = xs.getD j 0 := by
  rw [List.getD_eq_getElem?_getD, List.getElem?_take, if_pos h, ← List.getD_eq_getElem?_getD]
theorem getD_drop (xs : List Int) (n j : Nat) : (xs.drop n).getD j 0 = xs.getD (n + j) 0 := by
  rw [List.getD_eq_getElem?_getD, List.getElem?_drop, ← List.getD_eq_getElem?_getD]
theorem colH_eq (xs : List Int) (c : Int) (n : Nat) (hn : n ≤ xs.length) (h1 : ∀ j, j < n → c < xs.getD j 0) (h2 : n < xs.length → xs.getD n 0 ≤ c)
    (hd : ∀ j, j + 1 < xs.length → xs.getD (j + 1) 0 ≤ xs.getD j 0) : colH xs c = n := by
  rw [← List.take_append_drop n xs, colH_append, sum_ones (xs.take n) c (fun j hj => ?_), sum_zeros (xs.drop n) c (fun j hj => ?_)]
  · rw [List.length_take]; omega
  · rw [List.length_drop] at hj
    rw [getD_drop]
    have := down_le xs hd n j (by omega)
    have := h2 (by omega)
    omega
  · rw [List.length_take] at hj
    rw [getD_take xs n j (by omega)]; exact h1 j (by omega)
theorem colH_bound (xs : List Int) (c : Int) : 0 ≤ colH xs c ∧ colH xs c ≤ xs.length := by
  induction xs with
  | nil => simp [colH]
  | cons x t ih =>
    unfold colH at ih ⊢
    simp only [List.map_cons, List.sum_cons, List.length_cons]
    split <;> omega
theorem cols_len (xs : List Int) : (cols xs).length = (xs.getD 0 0).toNat := by simp [cols]
theorem cols_get (xs : List Int) (k : Nat) (h : k < (xs.getD 0 0).toNat) : (cols xs).getD k 0 = colH xs k := by
  rw [List.getD_eq_getElem?_getD, cols, List.getElem?_map, List.getElem?_range h]; rfl
theorem bound_ConjugateOf (xs : List Int) : (conjF xs).length ≤ 1048576 := by
  unfold conjF
  split
  · rename_i h
    have G := (good_iff xs).1 h
    rw [cols_len]
    rcases Nat.eq_zero_or_pos xs.length with h0 | h0
    · rw [List.getD_eq_getElem?_getD, List.getElem?_eq_none (by omega)]; simp
    · have := G.le 0 h0; omega
  · simp
theorem conjF_t {xs : List Int} (h : good xs = true) : conjF xs = cols xs := by simp [conjF, h]
theorem conjF_f {xs : List Int} (h : good xs = false) : conjF xs = [] := by simp [conjF, h]
end Go.Proofs.Ytbkcefpefgklpaa
