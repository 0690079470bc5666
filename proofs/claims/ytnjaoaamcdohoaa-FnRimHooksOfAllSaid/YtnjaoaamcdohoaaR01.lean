/-
  Several texts in one.
-/

/-
  Plain facts on what a partition is: the check as the program makes it and as the model makes it. No program in this text.
-/
namespace Go.Proofs.Ytnjaoaamcdohoaa

def inB (lo hi n : Int) : Bool := decide (lo ≤ n) && decide (n ≤ hi)
theorem inB_iff {lo hi n : Int} : inB lo hi n = true ↔ lo ≤ n ∧ n ≤ hi := by simp [inB]

theorem all_take_succ (p : Int → Bool) (xs : List Int) (k : Nat) (h : k < xs.length) : (xs.take (k+1)).all p = ((xs.take k).all p && p (xs.getD k 0)) := by
  rw [List.take_succ_eq_append_getElem h, List.all_append]; simp [List.getD, h]
theorem all_take_false (p : Int → Bool) (xs : List Int) (k : Nat) (h : k < xs.length) (hp : p (xs.getD k 0) = false) : xs.all p = false := by
  rw [List.all_eq_false]
  refine ⟨xs[k], List.getElem_mem h, ?_⟩
  rw [List.getD_eq_getElem?_getD, List.getElem?_eq_getElem h] at hp
  simp only [Option.getD_some] at hp
  rw [hp]; simp
theorem sum_take_succ (xs : List Int) (k : Nat) (h : k < xs.length) : (xs.take (k+1)).sum = (xs.take k).sum + xs.getD k 0 := by
  rw [List.take_succ_eq_append_getElem h, List.sum_append]; simp [List.getD, h]
theorem sum_bound (xs : List Int) (hi : Int) (h : ∀ j, j < xs.length → 0 ≤ xs.getD j 0 ∧ xs.getD j 0 ≤ hi) : 0 ≤ xs.sum ∧ xs.sum ≤ xs.length * hi := by
  induction xs with
  | nil => simp
  | cons x t ih =>
    have h0 := h 0 (by simp)
    have ht := ih (fun j hj => by have := h (j + 1) (by simp; omega); simpa using this)
    simp only [List.getD_cons_zero] at h0
    simp only [List.sum_cons, List.length_cons]
    rw [show ((t.length + 1 : Nat) : Int) * hi = t.length * hi + hi from by rw [Int.natCast_add, Int.add_mul]; simp]
    omega
theorem sum_take_bound (xs : List Int) (hi : Int) (h : ∀ j, j < xs.length → 0 ≤ xs.getD j 0 ∧ xs.getD j 0 ≤ hi) (h0 : 0 ≤ hi) (k : Nat) : 0 ≤ (xs.take k).sum ∧ (xs.take k).sum ≤ xs.length * hi := by
  have := sum_bound (xs.take k) hi (fun j hj => by
    have hj' : j < k ∧ j < xs.length := by rw [List.length_take] at hj; omega
    have := h j hj'.2
    rw [List.getD_eq_getElem?_getD, List.getElem?_take, if_pos hj'.1, ← List.getD_eq_getElem?_getD]
    exact this)
  have hl : (xs.take k).length ≤ xs.length := by simp; omega
  have : ((xs.take k).length : Int) * hi ≤ xs.length * hi := Int.mul_le_mul_of_nonneg_right (by omega) h0
  omega

/-- The check of the parts, one after the other, each at most the one before. -/
def chk : Int → List Int → Bool
  | _, [] => true
  | m, x :: t => decide (1 ≤ x) && (decide (x ≤ m) && chk x t)
def good (xs : List Int) : Bool := decide (xs.length ≤ 30) && (chk 30 xs && decide (xs.sum ≤ 30))

theorem drop_cons (xs : List Int) (k : Nat) (h : k < xs.length) : xs.drop k = xs.getD k 0 :: xs.drop (k + 1) := by
  rw [List.drop_eq_getElem_cons h]; simp [List.getD, h]
theorem chk_step (xs : List Int) (k : Nat) (m : Int) (h : k < xs.length) : chk m (xs.drop k) = (decide (1 ≤ xs.getD k 0) && (decide (xs.getD k 0 ≤ m) && chk (xs.getD k 0) (xs.drop (k + 1)))) := by
  rw [drop_cons xs k h, chk]

theorem chk_iff (m : Int) (xs : List Int) : chk m xs = true ↔ (∀ j, j < xs.length → 1 ≤ xs.getD j 0) ∧ (0 < xs.length → xs.getD 0 0 ≤ m) ∧ (∀ j, j + 1 < xs.length → xs.getD (j + 1) 0 ≤ xs.getD j 0) := by
  induction xs generalizing m with
  | nil => simp [chk]
  | cons x t ih =>
    simp only [chk, Bool.and_eq_true, decide_eq_true_eq, ih x, List.length_cons]
    constructor
    · rintro ⟨h1, h2, h3, h4, h5⟩
      refine ⟨fun j hj => ?_, fun _ => by simpa using h2, fun j hj => ?_⟩
      · cases j with
        | zero => simpa using h1
        | succ j => simpa using h3 j (by omega)
      · cases j with
        | zero => simpa using h4 (by omega)
        | succ j => simpa using h5 j (by omega)
    · rintro ⟨h1, h2, h3⟩
      refine ⟨by simpa using h1 0 (by omega), by simpa using h2 (by omega), fun j hj => ?_, fun h0 => ?_, fun j hj => ?_⟩
      · simpa using h1 (j + 1) (by omega)
      · simpa using h3 0 (by omega)
      · simpa using h3 (j + 1) (by omega)

theorem down_le (xs : List Int) (h : ∀ j, j + 1 < xs.length → xs.getD (j + 1) 0 ≤ xs.getD j 0) (i : Nat) : ∀ d, i + d < xs.length → xs.getD (i + d) 0 ≤ xs.getD i 0 := by
  intro d
  induction d with
  | zero => intro _; simp
  | succ d ih => intro hd; have := ih (by omega); have := h (i + d) (by omega); rw [show i + (d + 1) = i + d + 1 by omega]; omega

structure Good (xs : List Int) : Prop where
  len : xs.length ≤ 30
  pos : ∀ j, j < xs.length → 1 ≤ xs.getD j 0
  le : ∀ j, j < xs.length → xs.getD j 0 ≤ 30
  down : ∀ j, j + 1 < xs.length → xs.getD (j + 1) 0 ≤ xs.getD j 0
  sum0 : 0 ≤ xs.sum
  sum : xs.sum ≤ 30

theorem chk_parts {xs : List Int} (h : chk 30 xs = true) : (∀ j, j < xs.length → 1 ≤ xs.getD j 0) ∧ (∀ j, j < xs.length → xs.getD j 0 ≤ 30) ∧ (∀ j, j + 1 < xs.length → xs.getD (j + 1) 0 ≤ xs.getD j 0) := by
  obtain ⟨h1, h2, h3⟩ := (chk_iff 30 xs).1 h
  refine ⟨h1, fun j hj => ?_, h3⟩
  have := down_le xs h3 0 j (by omega)
  have := h2 (by omega)
  rw [Nat.zero_add] at *
  omega
theorem chk_of {xs : List Int} (h1 : xs.all (inB 1 30) = true) (h3 : ∀ j, j + 1 < xs.length → xs.getD (j + 1) 0 ≤ xs.getD j 0) : chk 30 xs = true := by
  have hh : ∀ j, j < xs.length → inB 1 30 (xs.getD j 0) = true := fun j hj => by
    rw [List.all_eq_true] at h1
    exact h1 _ (by rw [List.getD_eq_getElem?_getD, List.getElem?_eq_getElem hj]; exact List.getElem_mem hj)
  exact (chk_iff 30 xs).2 ⟨fun j hj => (inB_iff.1 (hh j hj)).1, fun h0 => (inB_iff.1 (hh 0 h0)).2, h3⟩
theorem all_of_chk {xs : List Int} (h : chk 30 xs = true) : xs.all (inB 1 30) = true := by
  obtain ⟨h1, h2, _⟩ := chk_parts h
  rw [List.all_eq_true]
  intro x hx
  obtain ⟨j, hj, rfl⟩ := List.getElem_of_mem hx
  have a := h1 j hj
  have b := h2 j hj
  rw [List.getD_eq_getElem?_getD, List.getElem?_eq_getElem hj] at a b
  exact inB_iff.2 ⟨a, b⟩
theorem good_iff (xs : List Int) : good xs = true ↔ Good xs := by
  constructor
  · intro h
    simp only [good, Bool.and_eq_true, decide_eq_true_eq] at h
    obtain ⟨h1, h2, h3⟩ := h
    obtain ⟨a, b, c⟩ := chk_parts h2
    exact ⟨h1, a, b, c, (sum_bound xs 30 (fun j hj => ⟨by have := a j hj; omega, b j hj⟩)).1, h3⟩
  · intro h
    simp only [good, Bool.and_eq_true, decide_eq_true_eq]
    refine ⟨h.len, (chk_iff 30 xs).2 ⟨h.pos, fun h0 => h.le 0 h0, h.down⟩, h.sum⟩
theorem good_no_len {xs : List Int} (h : 30 < xs.length) : good xs = false := by
  simp only [good]; rw [decide_eq_false (by omega)]; rfl
theorem good_no_chk {xs : List Int} (h : chk 30 xs = false) : good xs = false := by simp [good, h]
theorem good_chk {xs : List Int} (h1 : xs.length ≤ 30) (h : chk 30 xs = true) : good xs = decide (xs.sum ≤ 30) := by simp [good, h, h1]
theorem not_all_chk {xs : List Int} (h : xs.all (inB 1 30) = false) : chk 30 xs = false := by
  cases hc : chk 30 xs
  · rfl
  · rw [all_of_chk hc] at h; cases h
theorem not_down_chk {xs : List Int} {k : Nat} (hk : k + 1 < xs.length) (h : xs.getD k 0 < xs.getD (k + 1) 0) : chk 30 xs = false := by
  cases hc : chk 30 xs
  · rfl
  · have := (chk_parts hc).2.2 k hk; omega
theorem all_bounds {xs : List Int} (h : xs.all (inB 1 30) = true) : ∀ j, j < xs.length → 0 ≤ xs.getD j 0 ∧ xs.getD j 0 ≤ 30 := by
  intro j hj
  rw [List.all_eq_true] at h
  have := inB_iff.1 (h _ (by rw [List.getD_eq_getElem?_getD, List.getElem?_eq_getElem hj]; exact List.getElem_mem hj) : inB 1 30 (xs.getD j 0) = true)
  omega
end Go.Proofs.Ytnjaoaamcdohoaa
/-
  Plain facts on the columns of a partition. No program in this text.
-/
namespace Go.Proofs.Ytnjaoaamcdohoaa

/-- How many parts are greater than c. -/
def colH (xs : List Int) (c : Int) : Int := (xs.map fun x => if c < x then (1 : Int) else 0).sum
def cols (xs : List Int) : List Int := (List.range (xs.getD 0 0).toNat).map fun c : Nat => colH xs (c : Int)
def conjF (xs : List Int) : List Int := if good xs then cols xs else []

theorem sum_ones (xs : List Int) (c : Int) (h : ∀ j, j < xs.length → c < xs.getD j 0) : colH xs c = xs.length := by
  induction xs with
  | nil => rfl
  | cons x t ih =>
    have h0 := h 0 (by simp)
    simp only [List.getD_cons_zero] at h0
    have := ih (fun j hj => by have := h (j + 1) (by simp; omega); simpa using this)
    unfold colH at this ⊢
    simp only [List.map_cons, List.sum_cons, this, if_pos h0, List.length_cons]
    omega
theorem sum_zeros (xs : List Int) (c : Int) (h : ∀ j, j < xs.length → xs.getD j 0 ≤ c) : colH xs c = 0 := by
  induction xs with
  | nil => rfl
  | cons x t ih =>
    have h0 := h 0 (by simp)
    simp only [List.getD_cons_zero] at h0
    have := ih (fun j hj => by have := h (j + 1) (by simp; omega); simpa using this)
    unfold colH at this ⊢
    simp only [List.map_cons, List.sum_cons, this, if_neg (show ¬ c < x by omega)]
    omega
theorem colH_append (xs ys : List Int) (c : Int) : colH (xs ++ ys) c = colH xs c + colH ys c := by simp [colH]
theorem getD_take (xs : List Int) (n j : Nat) (h : j < n) : (xs.take n).getD j 0 = xs.getD j 0 := by
  rw [List.getD_eq_getElem?_getD, List.getElem?_take, if_pos h, ← List.getD_eq_getElem?_getD]
theorem getD_drop (xs : List Int) (n j : Nat) : (xs.drop n).getD j 0 = xs.getD (n + j) 0 := by
  rw [List.getD_eq_getElem?_getD, List.getElem?_drop, ← List.getD_eq_getElem?_getD]
theorem colH_eq (xs : List Int) (c : Int) (n : Nat) (hn : n ≤ xs.length) (h1 : ∀ j, j < n → c < xs.getD j 0) (h2 : n < xs.length → xs.getD n 0 ≤ c)
    (hd : ∀ j, j + 1 < xs.length → xs.getD (j + 1) 0 ≤ xs.getD j 0) : colH xs c = n := by
  rw [← List.take_append_drop n xs, colH_append, sum_ones (xs.take n) c (fun j hj => ?_), sum_zeros (xs.drop n) c (fun j hj => ?_)]
  · rw [List.length_take]; omega
  · rw [List.length_drop] at hj
    rw [getD_drop]
    have := down_le xs hd n j (by omega)
    have := h2 (by omega)
    omega
  · rw [List.length_take] at hj
    rw [getD_take xs n j (by omega)]; exact h1 j (by omega)
theorem colH_bound (xs : List Int) (c : Int) : 0 ≤ colH xs c ∧ colH xs c ≤ xs.length := by
  induction xs with
  | nil => simp [colH]
  | cons x t ih =>
    unfold colH at ih ⊢
    simp only [List.map_cons, List.sum_cons, List.length_cons]
    split <;> omega
theorem cols_len (xs : List Int) : (cols xs).length = (xs.getD 0 0).toNat := by simp [cols]
theorem cols_get (xs : List Int) (k : Nat) (h : k < (xs.getD 0 0).toNat) : (cols xs).getD k 0 = colH xs k := by
  rw [List.getD_eq_getElem?_getD, cols, List.getElem?_map, List.getElem?_range h]; rfl
theorem bound_ConjugateOf (xs : List Int) : (conjF xs).length ≤ 1048576 := by
  unfold conjF
  split
  · rename_i h
    have G := (good_iff xs).1 h
    rw [cols_len]
    rcases Nat.eq_zero_or_pos xs.length with h0 | h0
    · rw [List.getD_eq_getElem?_getD, List.getElem?_eq_none (by omega)]; simp
    · have := G.le 0 h0; omega
  · simp
theorem conjF_t {xs : List Int} (h : good xs = true) : conjF xs = cols xs := by simp [conjF, h]
theorem conjF_f {xs : List Int} (h : good xs = false) : conjF xs = [] := by simp [conjF, h]
end Go.Proofs.Ytnjaoaamcdohoaa
