/-
  Several texts in one.
-/
import Derived.Test.YtelfapheigobeaaR01
/-
  Plain facts: how many partitions of n cells have no part greater than k, as a table. No program in this text.
-/
namespace Go.Proofs.Ytelfapheigobeaa
def tbl : List (List Nat) := [
  [1, 1, 1, 1, 1, 1, 1, 1, 1, 1, 1, 1, 1, 1, 1, 1, 1, 1, 1, 1, 1, 1, 1, 1, 1, 1, 1, 1, 1, 1, 1],
  [0, 1, 1, 1, 1, 1, 1, 1, 1, 1, 1, 1, 1, 1, 1, 1, 1, 1, 1, 1, 1, 1, 1, 1, 1, 1, 1, 1, 1, 1, 1],
  [0, 1, 2, 2, 2, 2, 2, 2, 2, 2, 2, 2, 2, 2, 2, 2, 2, 2, 2, 2, 2, 2, 2, 2, 2, 2, 2, 2, 2, 2, 2],
  [0, 1, 2, 3, 3, 3, 3, 3, 3, 3, 3, 3, 3, 3, 3, 3, 3, 3, 3, 3, 3, 3, 3, 3, 3, 3, 3, 3, 3, 3, 3],
  [0, 1, 3, 4, 5, 5, 5, 5, 5, 5, 5, 5, 5, 5, 5, 5, 5, 5, 5, 5, 5, 5, 5, 5, 5, 5, 5, 5, 5, 5, 5],
  [0, 1, 3, 5, 6, 7, 7, 7, 7, 7, 7, 7, 7, 7, 7, 7, 7, 7, 7, 7, 7, 7, 7, 7, 7, 7, 7, 7, 7, 7, 7],
  [0, 1, 4, 7, 9, 10, 11, 11, 11, 11, 11, 11, 11, 11, 11, 11, 11, 11, 11, 11, 11, 11, 11, 11, 11, 11, 11, 11, 11, 11, 11],
  [0, 1, 4, 8, 11, 13, 14, 15, 15, 15, 15, 15, 15, 15, 15, 15, 15, 15, 15, 15, 15, 15, 15, 15, 15, 15, 15, 15, 15, 15, 15],
  [0, 1, 5, 10, 15, 18, 20, 21, 22, 22, 22, 22, 22, 22, 22, 22, 22, 22, 22, 22, 22, 22, 22, 22, 22, 22, 22, 22, 22, 22, 22],
  [0, 1, 5, 12, 18, 23, 26, 28, 29, 30, 30, 30, 30, 30, 30, 30, 30, 30, 30, 30, 30, 30, 30, 30, 30, 30, 30, 30, 30, 30, 30],
  [0, 1, 6, 14, 23, 30, 35, 38, 40, 41, 42, 42, 42, 42, 42, 42, 42, 42, 42, 42, 42, 42, 42, 42, 42, 42, 42, 42, 42, 42, 42],
  [0, 1, 6, 16, 27, 37, 44, 49, 52, 54, 55, 56, 56, 56, 56, 56, 56, 56, 56, 56, 56, 56, 56, 56, 56, 56, 56, 56, 56, 56, 56],
  [0, 1, 7, 19, 34, 47, 58, 65, 70, 73, 75, 76, 77, 77, 77, 77, 77, 77, 77, 77, 77, 77, 77, 77, 77, 77, 77, 77, 77, 77, 77],
  [0, 1, 7, 21, 39, 57, 71, 82, 89, 94, 97, 99, 100, 101, 101, 101, 101, 101, 101, 101, 101, 101, 101, 101, 101, 101, 101, 101, 101, 101, 101],
  [0, 1, 8, 24, 47, 70, 90, 105, 116, 123, 128, 131, 133, 134, 135, 135, 135, 135, 135, 135, 135, 135, 135, 135, 135, 135, 135, 135, 135, 135, 135],
  [0, 1, 8, 27, 54, 84, 110, 131, 146, 157, 164, 169, 172, 174, 175, 176, 176, 176, 176, 176, 176, 176, 176, 176, 176, 176, 176, 176, 176, 176, 176],
  [0, 1, 9, 30, 64, 101, 136, 164, 186, 201, 212, 219, 224, 227, 229, 230, 231, 231, 231, 231, 231, 231, 231, 231, 231, 231, 231, 231, 231, 231, 231],
  [0, 1, 9, 33, 72, 119, 163, 201, 230, 252, 267, 278, 285, 290, 293, 295, 296, 297, 297, 297, 297, 297, 297, 297, 297, 297, 297, 297, 297, 297, 297],
  [0, 1, 10, 37, 84, 141, 199, 248, 288, 318, 340, 355, 366, 373, 378, 381, 383, 384, 385, 385, 385, 385, 385, 385, 385, 385, 385, 385, 385, 385, 385],
  [0, 1, 10, 40, 94, 164, 235, 300, 352, 393, 423, 445, 460, 471, 478, 483, 486, 488, 489, 490, 490, 490, 490, 490, 490, 490, 490, 490, 490, 490, 490],
  [0, 1, 11, 44, 108, 192, 282, 364, 434, 488, 530, 560, 582, 597, 608, 615, 620, 623, 625, 626, 627, 627, 627, 627, 627, 627, 627, 627, 627, 627, 627],
  [0, 1, 11, 48, 120, 221, 331, 436, 525, 598, 653, 695, 725, 747, 762, 773, 780, 785, 788, 790, 791, 792, 792, 792, 792, 792, 792, 792, 792, 792, 792],
  [0, 1, 12, 52, 136, 255, 391, 522, 638, 732, 807, 863, 905, 935, 957, 972, 983, 990, 995, 998, 1000, 1001, 1002, 1002, 1002, 1002, 1002, 1002, 1002, 1002, 1002],
  [0, 1, 12, 56, 150, 291, 454, 618, 764, 887, 984, 1060, 1116, 1158, 1188, 1210, 1225, 1236, 1243, 1248, 1251, 1253, 1254, 1255, 1255, 1255, 1255, 1255, 1255, 1255, 1255],
  [0, 1, 13, 61, 169, 333, 532, 733, 919, 1076, 1204, 1303, 1380, 1436, 1478, 1508, 1530, 1545, 1556, 1563, 1568, 1571, 1573, 1574, 1575, 1575, 1575, 1575, 1575, 1575, 1575],
  [0, 1, 13, 65, 185, 377, 612, 860, 1090, 1291, 1455, 1586, 1686, 1763, 1819, 1861, 1891, 1913, 1928, 1939, 1946, 1951, 1954, 1956, 1957, 1958, 1958, 1958, 1958, 1958, 1958],
  [0, 1, 14, 70, 206, 427, 709, 1009, 1297, 1549, 1761, 1930, 2063, 2164, 2241, 2297, 2339, 2369, 2391, 2406, 2417, 2424, 2429, 2432, 2434, 2435, 2436, 2436, 2436, 2436, 2436],
  [0, 1, 14, 75, 225, 480, 811, 1175, 1527, 1845, 2112, 2331, 2503, 2637, 2738, 2815, 2871, 2913, 2943, 2965, 2980, 2991, 2998, 3003, 3006, 3008, 3009, 3010, 3010, 3010, 3010],
  [0, 1, 15, 80, 249, 540, 931, 1367, 1801, 2194, 2534, 2812, 3036, 3210, 3345, 3446, 3523, 3579, 3621, 3651, 3673, 3688, 3699, 3706, 3711, 3714, 3716, 3717, 3718, 3718, 3718],
  [0, 1, 15, 85, 270, 603, 1057, 1579, 2104, 2592, 3015, 3370, 3655, 3882, 4057, 4192, 4293, 4370, 4426, 4468, 4498, 4520, 4535, 4546, 4553, 4558, 4561, 4563, 4564, 4565, 4565],
  [0, 1, 16, 91, 297, 674, 1206, 1824, 2462, 3060, 3590, 4035, 4401, 4691, 4920, 5096, 5231, 5332, 5409, 5465, 5507, 5537, 5559, 5574, 5585, 5592, 5597, 5600, 5602, 5603, 5604]]
def T (n k : Nat) : Nat := (tbl.getD n []).getD k 0
theorem T_zero : ∀ n, n < 31 → T n 0 = if n = 0 then 1 else 0 := by decide +kernel
theorem T_rec : ∀ n, n < 31 → ∀ k, k < 30 → T n (k + 1) = T n k + if k + 1 ≤ n then T (n - (k + 1)) (k + 1) else 0 := by decide +kernel
theorem T_bound : ∀ n, n < 31 → ∀ k, k < 31 → T n k ≤ 5604 := by decide +kernel
theorem T_top : ∀ k, k < 31 → T 0 k = 1 := by decide +kernel
end Go.Proofs.Ytelfapheigobeaa
/-
  Plain facts on the columns of a partition. No program in this text.
-/
namespace Go.Proofs.Ytelfapheigobeaa

/-- How many parts are greater than c. -/
def colH (xs : List Int) (c : Int) : Int := (xs.map fun x => if c < x then (1 : Int) else 0).sum
def cols (xs : List Int) : List Int := (List.range (xs.getD 0 0).toNat).map fun c : Nat => colH xs (c : Int)
def conjF (xs : List Int) : List Int := if good xs then cols xs else []

theorem sum_ones (xs : List Int) (c : Int) (h : ∀ j, j < xs.length → c < xs.getD j 0) : colH xs c = xs.length := by
  induction xs with
  | nil => rfl
  | cons x t ih =>
    have h0 := h 0 (by simp)
    simp only [List.getD_cons_zero] at h0
    have := ih (fun j hj => by have := h (j + 1) (by simp; omega); simpa using this)
    unfold colH at this ⊢
    simp only [List.map_cons, List.sum_cons, this, if_pos h0, List.length_cons]
    omega
theorem sum_zeros (xs : List Int) (c : Int) (h : ∀ j, j < xs.length → xs.getD j 0 ≤ c) : colH xs c = 0 := by
  induction xs with
  | nil => rfl
  | cons x t ih =>
    have h0 := h 0 (by simp)
    simp only [List.getD_cons_zero] at h0
    have := ih (fun j hj => by have := h (j + 1) (by simp; omega); simpa using this)
    unfold colH at this ⊢
    simp only [List.map_cons, List.sum_cons, this, if_neg (show ¬ c < x by omega)]
    omega
theorem colH_append (xs ys : List Int) (c : Int) : colH (xs ++ ys) c = colH xs c + colH ys c := by simp [colH]
theorem getD_take (xs : List Int) (n j : Nat) (h : j < n) : (xs.take n).getD j 0 = xs.getD j 0 := by
  rw [List.getD_eq_getElem?_getD, List.getElem?_take, if_pos h, ← List.getD_eq_getElem?_getD]
theorem getD_drop (xs : List Int) (n j : Nat) : (xs.drop n).getD j 0 = xs.getD (n + j) 0 := by
  rw [List.getD_eq_getElem?_getD, List.getElem?_drop, ← List.getD_eq_getElem?_getD]
theorem colH_eq (xs : List Int) (c : Int) (n : Nat) (hn : n ≤ xs.length) (h1 : ∀ j, j < n → c < xs.getD j 0) (h2 : n < xs.length → xs.getD n 0 ≤ c)
    (hd : ∀ j, j + 1 < xs.length → xs.getD (j + 1) 0 ≤ xs.getD j 0) : colH xs c = n := by
  rw [← List.take_append_drop n xs, colH_append, sum_ones (xs.take n) c (fun j hj => ?_), sum_zeros (xs.drop n) c (fun j hj => ?_)]
  · rw [List.length_take]; omega
  · rw [List.length_drop] at hj
    rw [getD_drop]
    have := down_le xs hd n j (by omega)
    have := h2 (by omega)
    omega
  · rw [List.length_take] at hj
    rw [getD_take xs n j (by omega)]; exact h1 j (by omega)
theorem colH_bound (xs : List Int) (c : Int) : 0 ≤ colH xs c ∧ colH xs c ≤ xs.length := by
  induction xs with
  | nil => simp [colH]
  | cons x t ih =>
    unfold colH at ih ⊢
    simp only [List.map_cons, List.sum_cons, List.length_cons]
    split <;> omega
theorem cols_len (xs : List Int) : (cols xs).length = (xs.getD 0 0).toNat := by simp [cols]
theorem cols_get (xs : List Int) (k : Nat) (h : k < (xs.getD 0 0).toNat) : (cols xs).getD k 0 = colH xs k := by
  rw [List.getD_eq_getElem?_getD, cols, List.getElem?_map, List.getElem?_range h]; rfl
theorem bound_ConjugateOf (xs : List Int) : (conjF xs).length ≤ 1048576 := by
  unfold conjF
  split
  · rename_i h
    have G := (good_iff xs).1 h
    rw [cols_len]
    rcases Nat.eq_zero_or_pos xs.length with h0 | h0
    · rw [List.getD_eq_getElem?_getD, List.getElem?_eq_none (by omega)]; simp
    · have := G.le 0 h0; omega
  · simp
theorem conjF_t {xs : List Int} (h : good xs = true) : conjF xs = cols xs := by simp [conjF, h]
theorem conjF_f {xs : List Int} (h : good xs = false) : conjF xs = [] := by simp [conjF, h]
end Go.Proofs.Ytelfapheigobeaa
