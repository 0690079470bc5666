/-
  Several texts in one.
-/
import Derived.Test.YtnjaoaamcdohoaaR01
import Derived.Test.YtnjaoaamcdohoaaBeadMath
/-
  Plain facts on levels: the check, the size of their core, turned ones. No program in this text.
-/
namespace Go.Proofs.Ytnjaoaamcdohoaa

theorem sum_abs (xs : List Int) (hi : Int) (h : ∀ j, j < xs.length → -hi ≤ xs.getD j 0 ∧ xs.getD j 0 ≤ hi) : -(xs.length * hi) ≤ xs.sum ∧ xs.sum ≤ xs.length * hi := by
  induction xs with
  | nil => simp
  | cons x t ih =>
    have h0 := h 0 (by simp)
    have ht := ih (fun j hj => by have := h (j + 1) (by simp; omega); simpa using this)
    simp only [List.getD_cons_zero] at h0
    simp only [List.sum_cons, List.length_cons]
    rw [show ((t.length + 1 : Nat) : Int) * hi = t.length * hi + hi from by rw [Int.natCast_add, Int.add_mul]; simp]
    omega
theorem sum_take_abs (xs : List Int) (hi : Int) (h : ∀ j, j < xs.length → -hi ≤ xs.getD j 0 ∧ xs.getD j 0 ≤ hi) (h0 : 0 ≤ hi) (k : Nat) : -(xs.length * hi) ≤ (xs.take k).sum ∧ (xs.take k).sum ≤ xs.length * hi := by
  have := sum_abs (xs.take k) hi (fun j hj => by
    have hj' : j < k ∧ j < xs.length := by rw [List.length_take] at hj; omega
    have := h j hj'.2
    rw [List.getD_eq_getElem?_getD, List.getElem?_take, if_pos hj'.1, ← List.getD_eq_getElem?_getD]
    exact this)
  have hl : (xs.take k).length ≤ xs.length := by simp; omega
  have : ((xs.take k).length : Int) * hi ≤ xs.length * hi := Int.mul_le_mul_of_nonneg_right (by omega) h0
  omega

def levB (xs : List Int) : Bool := inB 2 6 (xs.length : Int) && (xs.all (inB (-10) 10) && decide (xs.sum = 0))
structure Lev (xs : List Int) : Prop where
  lo : 2 ≤ xs.length
  hi : xs.length ≤ 6
  bd : ∀ j, j < xs.length → -10 ≤ xs.getD j 0 ∧ xs.getD j 0 ≤ 10
  sum : xs.sum = 0
theorem all_bd {lo hi : Int} {xs : List Int} (h : xs.all (inB lo hi) = true) (j : Nat) (hj : j < xs.length) : lo ≤ xs.getD j 0 ∧ xs.getD j 0 ≤ hi := by
  rw [List.all_eq_true] at h
  exact inB_iff.1 (h _ (by rw [List.getD_eq_getElem?_getD, List.getElem?_eq_getElem hj]; exact List.getElem_mem hj))
theorem levB_iff {xs : List Int} : levB xs = true ↔ Lev xs := by
  constructor
  · intro h
    simp only [levB, Bool.and_eq_true, decide_eq_true_eq] at h
    obtain ⟨h1, h2, h3⟩ := h
    have := inB_iff.1 h1
    exact ⟨by omega, by omega, fun j hj => all_bd h2 j hj, h3⟩
  · intro h
    simp only [levB, Bool.and_eq_true, decide_eq_true_eq]
    refine ⟨inB_iff.2 ⟨by have := h.lo; omega, by have := h.hi; omega⟩, ?_, h.sum⟩
    rw [List.all_eq_true]
    intro x hx
    obtain ⟨j, hj, rfl⟩ := List.getElem_of_mem hx
    have a := h.bd j hj
    rw [List.getD_eq_getElem?_getD, List.getElem?_eq_getElem hj] at a
    exact inB_iff.2 a
theorem lev_no_len {xs : List Int} (h : inB 2 6 (xs.length : Int) = false) : levB xs = false := by simp [levB, h]
theorem lev_no_all {xs : List Int} (h : xs.all (inB (-10) 10) = false) : levB xs = false := by simp [levB, h]
theorem lev_sum {xs : List Int} (h : inB 2 6 (xs.length : Int) = true) (h2 : xs.all (inB (-10) 10) = true) : levB xs = decide (xs.sum = 0) := by simp [levB, h, h2]

def sqSum (xs : List Int) : Nat → Int
  | 0 => 0
  | k + 1 => sqSum xs k + xs.getD k 0 * xs.getD k 0
def ixSum (xs : List Int) : Nat → Int
  | 0 => 0
  | k + 1 => ixSum xs k + (k : Int) * xs.getD k 0
theorem sq_bd {x : Int} (h : -10 ≤ x ∧ x ≤ 10) : 0 ≤ x * x ∧ x * x ≤ 100 := by
  have : x = -10 ∨ x = -9 ∨ x = -8 ∨ x = -7 ∨ x = -6 ∨ x = -5 ∨ x = -4 ∨ x = -3 ∨ x = -2 ∨ x = -1 ∨ x = 0 ∨ x = 1 ∨ x = 2 ∨ x = 3 ∨ x = 4 ∨ x = 5 ∨ x = 6 ∨ x = 7 ∨ x = 8 ∨ x = 9 ∨ x = 10 := by omega
  rcases this with rfl | rfl | rfl | rfl | rfl | rfl | rfl | rfl | rfl | rfl | rfl | rfl | rfl | rfl | rfl | rfl | rfl | rfl | rfl | rfl | rfl <;> decide
theorem sq_par (x : Int) : (x * x - x) % 2 = 0 := by
  rcases Int.emod_two_eq x with h | h
  · obtain ⟨m, rfl⟩ : ∃ m, x = 2 * m := ⟨x / 2, by omega⟩
    rw [show 2 * m * (2 * m) - 2 * m = 2 * (2 * m * m - m) by rw [Int.mul_sub]; simp only [Int.mul_assoc, Int.mul_left_comm]]
    omega
  · obtain ⟨m, rfl⟩ : ∃ m, x = 2 * m + 1 := ⟨x / 2, by omega⟩
    have e : (2 * m + 1) * (2 * m + 1) = 2 * (2 * (m * m)) + 2 * m + 2 * m + 1 := by
      rw [Int.add_mul, Int.mul_add, show 2 * m * (2 * m) = 2 * (2 * (m * m)) by simp only [Int.mul_assoc, Int.mul_left_comm]]
      omega
    rw [e]
    omega
theorem ix_bd {x : Int} (h : -10 ≤ x ∧ x ≤ 10) (k : Nat) (hk : k ≤ 6) : -60 ≤ (k : Int) * x ∧ (k : Int) * x ≤ 60 := by
  have : k = 0 ∨ k = 1 ∨ k = 2 ∨ k = 3 ∨ k = 4 ∨ k = 5 ∨ k = 6 := by omega
  rcases this with rfl | rfl | rfl | rfl | rfl | rfl | rfl <;> simp <;> omega
theorem sqSum_bd {xs : List Int} (L : Lev xs) (k : Nat) (hk : k ≤ xs.length) : 0 ≤ sqSum xs k ∧ sqSum xs k ≤ 100 * k := by
  induction k with
  | zero => simp [sqSum]
  | succ k ih =>
    have := ih (by omega)
    have := sq_bd (L.bd k (by omega))
    simp only [sqSum]; omega
theorem ixSum_bd {xs : List Int} (L : Lev xs) (k : Nat) (hk : k ≤ xs.length) : -(60 * k) ≤ ixSum xs k ∧ ixSum xs k ≤ 60 * k := by
  induction k with
  | zero => simp [ixSum]
  | succ k ih =>
    have := ih (by omega)
    have := ix_bd (L.bd k (by omega)) k (by have := L.hi; omega)
    simp only [ixSum]; omega
theorem sqSum_par (xs : List Int) (k : Nat) (hk : k ≤ xs.length) : (sqSum xs k - (xs.take k).sum) % 2 = 0 := by
  induction k with
  | zero => simp [sqSum]
  | succ k ih =>
    have := ih (by omega)
    have := sq_par (xs.getD k 0)
    rw [sum_take_succ xs k (by omega)]
    simp only [sqSum]; omega
theorem sqSum_even {xs : List Int} (L : Lev xs) : sqSum xs xs.length % 2 = 0 := by
  have := sqSum_par xs xs.length (Nat.le_refl _)
  rw [List.take_of_length_le (Nat.le_refl _), L.sum] at this
  omega
/-- The size of the core, as the program makes it. -/
def sizeL (xs : List Int) : Int := sqSum xs xs.length / 2 * xs.length + ixSum xs xs.length
def sizeF (xs : List Int) : Int := if levB xs then sizeL xs else 0
theorem half_mul {xs : List Int} (L : Lev xs) : (xs.length : Int) * sqSum xs xs.length / 2 = sqSum xs xs.length / 2 * xs.length := by
  obtain ⟨m, hm⟩ : ∃ m, sqSum xs xs.length = 2 * m := ⟨sqSum xs xs.length / 2, by have := sqSum_even L; omega⟩
  rw [hm, Int.mul_left_comm, Int.mul_ediv_cancel_left _ (by decide), Int.mul_ediv_cancel_left _ (by decide), Int.mul_comm]
theorem mul6_bd (t : Nat) (h : t ≤ 6) (s : Int) (hs : 0 ≤ s ∧ s ≤ 600) : 0 ≤ (t : Int) * s ∧ (t : Int) * s ≤ 3600 := by
  have : t = 0 ∨ t = 1 ∨ t = 2 ∨ t = 3 ∨ t = 4 ∨ t = 5 ∨ t = 6 := by omega
  rcases this with rfl | rfl | rfl | rfl | rfl | rfl | rfl <;> simp <;> omega

def turnL (xs : List Int) : List Int := fnRow xs.length fun m => -xs.getD (xs.length - 1 - m) 0
def turnF (xs : List Int) : List Int := if levB xs then turnL xs else []
theorem turnL_len (xs : List Int) : (turnL xs).length = xs.length := fnRow_len _ _
def turnK (xs : List Int) (k : Nat) : List Int := fnRow xs.length fun m => if xs.length - 1 - m < k then -xs.getD (xs.length - 1 - m) 0 else 0
theorem turnK_zero (xs : List Int) : turnK xs 0 = fnRow xs.length (fun _ => 0) := rowF_ext _ _ _ fun j _ => by simp
theorem turnK_all (xs : List Int) : turnK xs xs.length = turnL xs := rowF_ext _ _ _ fun j hj => by rw [if_pos (by omega)]
theorem turnK_len (xs : List Int) (k : Nat) : (turnK xs k).length = xs.length := fnRow_len _ _
theorem turnK_succ (xs : List Int) (k : Nat) (hk : k < xs.length) : (turnK xs k).set (xs.length - 1 - k) (-xs.getD k 0) = turnK xs (k + 1) := by
  unfold turnK
  rw [fnRow_set]
  refine rowF_ext _ _ _ fun j hj => ?_
  by_cases h : j = xs.length - 1 - k
  · subst h
    rw [if_pos rfl, if_pos (by omega), show xs.length - 1 - (xs.length - 1 - k) = k by omega]
  · rw [if_neg h]
    by_cases h2 : xs.length - 1 - j < k
    · rw [if_pos h2, if_pos (by omega)]
    · rw [if_neg h2, if_neg (by omega)]
theorem take_snoc (ys : List Int) (k : Nat) (h : k < ys.length) (x : Int) (hx : ys.getD k 0 = x) : ys.take (k + 1) = ys.take k ++ [x] := by
  rw [List.take_succ_eq_append_getElem h]
  rw [List.getD_eq_getElem?_getD, List.getElem?_eq_getElem h] at hx
  rw [← hx]; rfl
theorem bound_TurnLevels (xs : List Int) : (turnF xs).length ≤ 1048576 := by
  unfold turnF; split
  · rename_i h; have := (levB_iff.1 h).hi; rw [turnL_len]; omega
  · simp
end Go.Proofs.Ytnjaoaamcdohoaa
/-
  Beads of partitions: their parts, and that they are beads.
-/
namespace Go.Proofs.Ytnjaoaamcdohoaa

theorem getD_out {p : List Int} {k : Nat} (h : p.length ≤ k) : p.getD k 0 = 0 := by rw [List.getD_eq_getElem?_getD, List.getElem?_eq_none h]; rfl
theorem bpk_beads {p : List Int} (G : Good p) {n : Nat} : ∀ k, k ≤ n → bpk (beadsL p n) k = p.take k
  | 0, _ => rfl
  | k + 1, h => by
    have ih := bpk_beads G (n := n) k (by omega)
    have hl := beadsL_len p n
    have hx : (beadsL p n).getD (n - 1 - k) 0 = bead p n (n - 1 - k) := fnRow_get _ _ _ (by omega)
    have hb : bead p n (n - 1 - k) = ((n - 1 - k : Nat) : Int) + p.getD k 0 := by unfold bead; rw [show n - 1 - (n - 1 - k) = k by omega]
    by_cases hk : k < p.length
    · have h1 := G.pos k hk
      rw [bpk_yes (i := n - 1 - k) (x := bead p n (n - 1 - k)) (by rw [hl]) hx.symm (by rw [hb]; omega), ih, take_snoc p k hk _ rfl, hb]
      congr 2; omega
    · have h0 := getD_out (p := p) (k := k) (by omega)
      rw [bpk_no (i := n - 1 - k) (x := bead p n (n - 1 - k)) (by rw [hl]) hx.symm (by rw [hb]; omega), ih, List.take_of_length_le (by omega), List.take_of_length_le (by omega)]
theorem partsL_beads {p : List Int} (G : Good p) {n : Nat} (h : p.length ≤ n) : partsL (beadsL p n) = p := by
  unfold partsL; rw [bpk_beads G _ (by rw [beadsL_len]; exact Nat.le_refl _), beadsL_len, List.take_of_length_le h]
theorem part_down {p : List Int} (G : Good p) (i : Nat) : p.getD (i + 1) 0 ≤ p.getD i 0 := by
  by_cases h : i + 1 < p.length
  · exact G.down i h
  · rw [getD_out (k := i + 1) (by omega)]
    by_cases h2 : i < p.length
    · have := G.pos i h2; omega
    · rw [getD_out (k := i) (by omega)]; omega
/-- The beads of a partition are beads. -/
theorem beadsL_goodB {p : List Int} (G : Good p) {n : Nat} (h : p.length ≤ n) (hn : n ≤ 40) : goodB (beadsL p n) = true := by
  refine goodB_iff.2 ⟨by rw [beadsL_len]; exact hn, ⟨fun j hj => ?_, fun j hj => ?_⟩, by rw [partsL_beads G h]; exact G⟩
  · rw [beadsL_len] at hj
    rw [show (beadsL p n).getD j 0 = bead p n j from fnRow_get _ _ _ hj]
    have := bead_bd G n j hj hn; omega
  · rw [beadsL_len] at hj
    rw [show (beadsL p n).getD j 0 = bead p n j from fnRow_get _ _ _ (by omega), show (beadsL p n).getD (j + 1) 0 = bead p n (j + 1) from fnRow_get _ _ _ hj]
    unfold bead
    have := part_down G (n - 1 - (j + 1))
    rw [show n - 1 - (j + 1) + 1 = n - 1 - j by omega] at this
    omega
end Go.Proofs.Ytnjaoaamcdohoaa
