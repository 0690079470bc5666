/-
  Several texts in one.
-/
import Derived.Test.YtmjncedijddmmaaR01
/-
  Plain facts on levels: the check, the size of their core, turned ones. No program in this text.
-/
namespace Go.Proofs.Ytmjncedijddmmaa

theorem sum_abs (xs : List Int) (hi : Int) (h : ∀ j, j < xs.length → -hi ≤ xs.getD j 0 ∧ xs.getD j 0 ≤ hi) : -(xs.length * hi) ≤ xs.sum ∧ xs.sum ≤ xs.length * hi := by
  induction xs with
  | nil => simp
  | cons x t ih =>
    have h0 := h 0 (by simp)
    have ht := ih (fun j hj => by have := h (j + 1) (by simp; omega); simpa using this)
    simp only [List.getD_cons_zero] at h0
    simp only [List.sum_cons, List.length_cons]
    rw [show ((t.length + 1 : Nat) : Int) * hi = t.length * hi + hi from by rw [Int.natCast_add, Int.add_mul]; simp]
    omega
theorem sum_take_abs (xs : List Int) (hi : Int) (h : ∀ j, j < xs.length → -hi ≤ xs.getD j 0 ∧ xs.getD j 0 ≤ hi) (h0 : 0 ≤ hi) (k : Nat) : -(xs.length * hi) ≤ (xs.take k).sum ∧ (xs.take k).sum ≤ xs.length * hi := by
  have := sum_abs (xs.take k) hi (fun j hj => by
    have hj' : j < k ∧ j < xs.length := by rw [List.length_take] at hj; omega
    have := h j hj'.2
    rw [List.getD_eq_getElem?_getD, List.getElem?_take, if_pos hj'.1, ← List.getD_eq_getElem?_getD]
    exact this)
  have hl : (xs.take k).length ≤ xs.length := by simp; omega
  have : ((xs.take k).length : Int) * hi ≤ xs.length * hi := Int.mul_le_mul_of_nonneg_right (by omega) h0
  omega

def levB (xs : List Int) : Bool := inB 2 6 (xs.length : Int) && (xs.all (inB (-10) 10) && decide (xs.sum = 0))
structure Lev (xs : List Int) : Prop where
  lo : 2 ≤ xs.length
  hi : xs.length ≤ 6
  bd : ∀ j, j < xs.length → -10 ≤ xs.getD j 0 ∧ xs.getD j 0 ≤ 10
  sum : xs.sum = 0
theorem all_bd {lo hi : Int} {xs : List Int} (h : xs.all (inB lo hi) = true) (j : Nat) (hj : j < xs.length) : lo ≤ xs.getD j 0 ∧ xs.getD j 0 ≤ hi := by
  rw [List.all_eq_true] at h
  exact inB_iff.1 (h _ (by rw [List.getD_eq_getElem?_getD, List.getElem?_eq_getElem hj]; exact List.getElem_mem hj))
theorem levB_iff {xs : List Int} : levB xs = true ↔ Lev xs := by
  constructor
  · intro h
    simp only [levB, Bool.and_eq_true, decide_eq_true_eq] at h
    obtain ⟨h1, h2, h3⟩ := h
    have := inB_iff.1 h1
    exact ⟨by omega, by omega, fun j hj => all_bd h2 j hj, h3⟩
  · intro h
    simp only [levB, Bool.and_eq_true, decide_eq_true_eq]
    refine ⟨inB_iff.2 ⟨by have := h.lo; omega, by have := h.hi; omega⟩, ?_, h.sum⟩
    rw [List.all_eq_true]
    intro x hx
    obtain ⟨j, hj, rfl⟩ := List.getElem_of_mem hx
    have a := h.bd j hj
    rw [List.getD_eq_getElem?_getD, List.getElem?_eq_getElem hj] at a
    exact inB_iff.2 a
theorem lev_no_len {xs : List Int} (h : inB 2 6 (xs.length : Int) = false) : levB xs = false := by simp [levB, h]
theorem lev_no_all {xs : List Int} (h : xs.all (inB (-10) 10) = false) : levB xs = false := by simp [levB, h]
theorem lev_sum {xs : List Int} (h : inB 2 6 (xs.length : Int) = true) (h2 : xs.all (inB (-10) 10) = true) : levB xs = decide (xs.sum = 0) := by simp [levB, h, h2]

def sqSum (xs : List Int) : Nat → Int
  | 0 => 0
  | k + 1 => sqSum xs k + xs.getD k 0 * xs.getD k 0
def ixSum (xs : List Int) : Nat → Int
  | 0 => 0
  | k + 1 => ixSum xs k + (k : Int) * xs.getD k 0
theorem sq_bd {x : Int} (h : -10 ≤ x ∧ x ≤ 10) : 0 ≤ x * x ∧ x * x ≤ 100 := by
  have : x = -10 ∨ x = -9 ∨ x = -8 ∨ x = -7 ∨ x = -6 ∨ x = -5 ∨ x = -4 ∨ x = -3 ∨ x = -2 ∨ x = -1 ∨ x = 0 ∨ x = 1 ∨ x = 2 ∨ x = 3 ∨ x = 4 ∨ x = 5 ∨ x = 6 ∨ x = 7 ∨ x = 8 ∨ x = 9 ∨ x = 10 := by omega
  rcases this with rfl | rfl | rfl | rfl | rfl | rfl | rfl | rfl | rfl | rfl | rfl | rfl | rfl | rfl | rfl | rfl | rfl | rfl | rfl | rfl | rfl <;> decide
theorem sq_par (x : Int) : (x * x - x) % 2 = 0 := by
  rcases Int.emod_two_eq x with h | h
  · obtain ⟨m, rfl⟩ : ∃ m, x = 2 * m := ⟨x / 2, by omega⟩
    rw [show 2 * m * (2 * m) - 2 * m = 2 * (2 * m * m - m) by rw [Int.mul_sub]; simp only [Int.mul_assoc, Int.mul_left_comm]]
    omega
  · obtain ⟨m, rfl⟩ : ∃ m, x = 2 * m + 1 := ⟨x / 2, by omega⟩
    have e : (2 * m + 1) * (2 * m + 1) = 2 * (2 * (m * m)) + 2 * m + 2 * m + 1 := by
      rw [Int.add_mul, Int.mul_add, show 2 * m * (2 * m) = 2 * (2 * (m * m)) by simp only [Int.mul_assoc, Int.mul_left_comm]]
      omega
    rw [e]
    omega
theorem ix_bd {x : Int} (h : -10 ≤ x ∧ x ≤ 10) (k : Nat) (hk : k ≤ 6) : -60 ≤ (k : Int) * x ∧ (k : Int) * x ≤ 60 := by
  have : k = 0 ∨ k = 1 ∨ k = 2 ∨ k = 3 ∨ k = 4 ∨ k = 5 ∨ k = 6 := by omega
  rcases this with rfl | rfl | rfl | rfl | rfl | rfl | rfl <;> simp <;> omega
theorem sqSum_bd {xs : List Int} (L : Lev xs) (k : Nat) (hk : k ≤ xs.length) : 0 ≤ sqSum xs k ∧ sqSum xs k ≤ 100 * k := by
  induction k with
  | zero => simp [sqSum]
  | succ k ih =>
    have := ih (by omega)
    have := sq_bd (L.bd k (by omega))
    simp only [sqSum]; omega
theorem ixSum_bd {xs : List Int} (L : Lev xs) (k : Nat) (hk : k ≤ xs.length) : -(60 * k) ≤ ixSum xs k ∧ ixSum xs k ≤ 60 * k := by
  induction k with
  | zero => simp [ixSum]
  | succ k ih =>
    have := ih (by omega)
    have := ix_bd (L.bd k (by omega)) k (by have := L.hi; omega)
    simp only [ixSum]; omega
theorem sqSum_par (xs : List Int) (k : Nat) (hk : k ≤ xs.length) : (sqSum xs k - (xs.take k).sum) % 2 = 0 := by
  induction k with
  | zero => simp [sqSum]
  | succ k ih =>
    have := ih (by omega)
    have := sq_par (xs.getD k 0)
    rw [sum_take_succ xs k (by omega)]
    simp only [sqSum]; omega
theorem sqSum_even {xs : List Int} (L : Lev xs) : sqSum xs xs.length % 2 = 0 := by
  have := sqSum_par xs xs.length (Nat.le_refl _)
  rw [List.take_of_length_le (Nat.le_refl _), L.sum] at this
  omega
/-- The size of the core, as the program makes it. -/
def sizeL (xs : List Int) : Int := sqSum xs xs.length / 2 * xs.length + ixSum xs xs.length
def sizeF (xs : List Int) : Int := if levB xs then sizeL xs else 0
theorem half_mul {xs : List Int} (L : Lev xs) : (xs.length : Int) * sqSum xs xs.length / 2 = sqSum xs xs.length / 2 * xs.length := by
  obtain ⟨m, hm⟩ : ∃ m, sqSum xs xs.length = 2 * m := ⟨sqSum xs xs.length / 2, by have := sqSum_even L; omega⟩
  rw [hm, Int.mul_left_comm, Int.mul_ediv_cancel_left _ (by decide), Int.mul_ediv_cancel_left _ (by decide), Int.mul_comm]
theorem mul6_bd (t : Nat) (h : t ≤ 6) (s : Int) (hs : 0 ≤ s ∧ s ≤ 600) : 0 ≤ (t : Int) * s ∧ (t : Int) * s ≤ 3600 := by
  have : t = 0 ∨ t = 1 ∨ t = 2 ∨ t = 3 ∨ t = 4 ∨ t = 5 ∨ t = 6 := by omega
  rcases this with rfl | rfl | rfl | rfl | rfl | rfl | rfl <;> simp <;> omega

def turnL (xs : List Int) : List Int := fnRow xs.length fun m => -xs.getD (xs.length - 1 - m) 0
def turnF (xs : List Int) : List Int := if levB xs then turnL xs else []
theorem turnL_len (xs : List Int) : (turnL xs).length = xs.length := fnRow_len _ _
def turnK (xs : List Int) (k : Nat) : List Int := fnRow xs.length fun m => if xs.length - 1 - m < k then -xs.getD (xs.length - 1 - m) 0 else 0
theorem turnK_zero (xs : List Int) : turnK xs 0 = fnRow xs.length (fun _ => 0) := rowF_ext _ _ _ fun j _ => by simp
theorem turnK_all (xs : List Int) : turnK xs xs.length = turnL xs := rowF_ext _ _ _ fun j hj => by rw [if_pos (by omega)]
theorem turnK_len (xs : List Int) (k : Nat) : (turnK xs k).length = xs.length := fnRow_len _ _
theorem turnK_succ (xs : List Int) (k : Nat) (hk : k < xs.length) : (turnK xs k).set (xs.length - 1 - k) (-xs.getD k 0) = turnK xs (k + 1) := by
  unfold turnK
  rw [fnRow_set]
  refine rowF_ext _ _ _ fun j hj => ?_
  by_cases h : j = xs.length - 1 - k
  · subst h
    rw [if_pos rfl, if_pos (by omega), show xs.length - 1 - (xs.length - 1 - k) = k by omega]
  · rw [if_neg h]
    by_cases h2 : xs.length - 1 - j < k
    · rw [if_pos h2, if_pos (by omega)]
    · rw [if_neg h2, if_neg (by omega)]
theorem take_snoc (ys : List Int) (k : Nat) (h : k < ys.length) (x : Int) (hx : ys.getD k 0 = x) : ys.take (k + 1) = ys.take k ++ [x] := by
  rw [List.take_succ_eq_append_getElem h]
  rw [List.getD_eq_getElem?_getD, List.getElem?_eq_getElem h] at hx
  rw [← hx]; rfl
theorem bound_TurnLevels (xs : List Int) : (turnF xs).length ≤ 1048576 := by
  unfold turnF; split
  · rename_i h; have := (levB_iff.1 h).hi; rw [turnL_len]; omega
  · simp
end Go.Proofs.Ytmjncedijddmmaa
/-
  Plain facts on the columns of a partition. No program in this text.
-/
namespace Go.Proofs.Ytmjncedijddmmaa

/-- How many parts are greater than c. -/
def colH (xs : List Int) (c : Int) : Int := (xs.map fun x => if c < x then (1 : Int) else 0).sum
def cols (xs : List Int) : List Int := (List.range (xs.getD 0 0).toNat).map fun c : Nat => colH xs (c : Int)
def conjF (xs : List Int) : List Int := if good xs then cols xs else []

theorem sum_ones (xs : List Int) (c : Int) (h : ∀ j, j < xs.length → c < xs.getD j 0) : colH xs c = xs.length := by
  induction xs with
  | nil => rfl
  | cons x t ih =>
    have h0 := h 0 (by simp)
    simp only [List.getD_cons_zero] at h0
    have := ih (fun j hj => by have := h (j + 1) (by simp; omega); simpa using this)
    unfold colH at this ⊢
    simp only [List.map_cons, List.sum_cons, this, if_pos h0, List.length_cons]
    omega
theorem sum_zeros (xs : List Int) (c : Int) (h : ∀ j, j < xs.length → xs.getD j 0 ≤ c) : colH xs c = 0 := by
  induction xs with
  | nil => rfl
  | cons x t ih =>
    have h0 := h 0 (by simp)
    simp only [List.getD_cons_zero] at h0
    have := ih (fun j hj => by have := h (j + 1) (by simp; omega); simpa using this)
    unfold colH at this ⊢
    simp only [List.map_cons, List.sum_cons, this, if_neg (show ¬ c < x by omega)]
    omega
theorem colH_append (xs ys : List Int) (c : Int) : colH (xs ++ ys) c = colH xs c + colH ys c := by simp [colH]
theorem getD_take (xs : List Int) (n j : Nat) (h : j < n) : (xs.take n).getD j 0 = xs.getD j 0 := by
  rw [List.getD_eq_getElem?_getD, List.getElem?_take, if_pos h, ← List.getD_eq_getElem?_getD]
theorem getD_drop (xs : List Int) (n j : Nat) : (xs.drop n).getD j 0 = xs.getD (n + j) 0 := by
  rw [List.getD_eq_getElem?_getD, List.getElem?_drop, ← List.getD_eq_getElem?_getD]
theorem colH_eq (xs : List Int) (c : Int) (n : Nat) (hn : n ≤ xs.length) (h1 : ∀ j, j < n → c < xs.getD j 0) (h2 : n < xs.length → xs.getD n 0 ≤ c)
    (hd : ∀ j, j + 1 < xs.length → xs.getD (j + 1) 0 ≤ xs.getD j 0) : colH xs c = n := by
  rw [← List.take_append_drop n xs, colH_append, sum_ones (xs.take n) c (fun j hj => ?_), sum_zeros (xs.drop n) c (fun j hj => ?_)]
  · rw [List.length_take]; omega
  · rw [List.length_drop] at hj
    rw [getD_drop]
    have := down_le xs hd n j (by omega)
    have := h2 (by omega)
    omega
  · rw [List.length_take] at hj
    rw [getD_take xs n j (by omega)]; exact h1 j (by omega)
theorem colH_bound (xs : List Int) (c : Int) : 0 ≤ colH xs c ∧ colH xs c ≤ xs.length := by
  induction xs with
  | nil => simp [colH]
  | cons x t ih =>
    unfold colH at ih ⊢
    simp only [List.map_cons, List.sum_cons, List.length_cons]
    split <;> omega
theorem cols_len (xs : List Int) : (cols xs).length = (xs.getD 0 0).toNat := by simp [cols]
theorem cols_get (xs : List Int) (k : Nat) (h : k < (xs.getD 0 0).toNat) : (cols xs).getD k 0 = colH xs k := by
  rw [List.getD_eq_getElem?_getD, cols, List.getElem?_map, List.getElem?_range h]; rfl
theorem bound_ConjugateOf (xs : List Int) : (conjF xs).length ≤ 1048576 := by
  unfold conjF
  split
  · rename_i h
    have G := (good_iff xs).1 h
    rw [cols_len]
    rcases Nat.eq_zero_or_pos xs.length with h0 | h0
    · rw [List.getD_eq_getElem?_getD, List.getElem?_eq_none (by omega)]; simp
    · have := G.le 0 h0; omega
  · simp
theorem conjF_t {xs : List Int} (h : good xs = true) : conjF xs = cols xs := by simp [conjF, h]
theorem conjF_f {xs : List Int} (h : good xs = false) : conjF xs = [] := by simp [conjF, h]
end Go.Proofs.Ytmjncedijddmmaa
