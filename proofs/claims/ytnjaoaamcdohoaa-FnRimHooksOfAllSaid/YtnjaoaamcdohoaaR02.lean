/-
  Several texts in one.
-/
import Derived.Test.YtnjaoaamcdohoaaR01
/-
  Plain facts: lists inside each other, cells and their hooks. No program in this text.
-/
namespace Go.Proofs.Ytnjaoaamcdohoaa

def insideB (xs ys : List Int) : Bool := decide (xs.length ≤ ys.length) && (List.range xs.length).all (fun r => decide (xs.getD r 0 ≤ ys.getD r 0))
theorem inside_no_len {xs ys : List Int} (h : ys.length < xs.length) : insideB xs ys = false := by
  unfold insideB; rw [decide_eq_false (by omega)]; rfl
theorem inside_no {xs ys : List Int} {k : Nat} (hk : k < xs.length) (h : ys.getD k 0 < xs.getD k 0) : insideB xs ys = false := by
  unfold insideB
  rw [Bool.and_eq_false_iff]
  right
  rw [List.all_eq_false]
  exact ⟨k, List.mem_range.2 hk, by simp only [decide_eq_true_eq]; omega⟩
theorem inside_yes {xs ys : List Int} (h1 : xs.length ≤ ys.length) (h : ∀ k, k < xs.length → xs.getD k 0 ≤ ys.getD k 0) : insideB xs ys = true := by
  unfold insideB
  rw [Bool.and_eq_true, List.all_eq_true]
  exact ⟨by simpa using h1, fun k hk => by simpa using h k (List.mem_range.1 hk)⟩

/-- Is r, c a cell of the rows xs? -/
def cellB (xs : List Int) (r c : Int) : Bool := decide (0 ≤ r) && (decide (r < xs.length) && (decide (0 ≤ c) && decide (c < xs.getD r.toNat 0)))
theorem cellB_iff {xs : List Int} {r c : Int} : cellB xs r c = true ↔ 0 ≤ r ∧ r < xs.length ∧ 0 ≤ c ∧ c < xs.getD r.toNat 0 := by simp [cellB]
theorem cellB_nat {xs : List Int} {r c : Int} (h : cellB xs r c = true) : ∃ r' c' : Nat, r = r' ∧ c = c' ∧ r' < xs.length ∧ (c' : Int) < xs.getD r' 0 := by
  obtain ⟨h1, h2, h3, h4⟩ := cellB_iff.1 h
  exact ⟨r.toNat, c.toNat, by omega, by omega, by omega, by omega⟩
def atB (xs : List Int) (r c : Int) : Bool := good xs && cellB xs r c
def hookN (xs : List Int) (r c : Nat) : Int := xs.getD r 0 - c + (cols xs).getD c 0 - r - 1
def hookF (xs : List Int) (r c : Int) : Int := if atB xs r c then hookN xs r.toNat c.toNat else 0
theorem hookF_t {xs : List Int} {r c : Int} (h : atB xs r c = true) : hookF xs r c = hookN xs r.toNat c.toNat := by simp [hookF, h]
theorem hookF_f {xs : List Int} {r c : Int} (h : atB xs r c = false) : hookF xs r c = 0 := by simp [hookF, h]
theorem le_first {xs : List Int} (G : Good xs) {r : Nat} (h : r < xs.length) : xs.getD r 0 ≤ xs.getD 0 0 := by
  have := down_le xs G.down 0 r (by omega)
  rw [Nat.zero_add] at this; exact this
theorem col_lt {xs : List Int} (G : Good xs) {r c : Nat} (h : r < xs.length) (hc : (c : Int) < xs.getD r 0) : c < (cols xs).length := by
  rw [cols_len]; have := le_first G h; omega
theorem col_bound (xs : List Int) (G : Good xs) (c : Nat) : 0 ≤ (cols xs).getD c 0 ∧ (cols xs).getD c 0 ≤ 30 := by
  by_cases h : c < (xs.getD 0 0).toNat
  · rw [cols_get xs c h]; have := colH_bound xs c; have := G.len; omega
  · rw [List.getD_eq_getElem?_getD, List.getElem?_eq_none (by rw [cols_len]; omega)]; simp
end Go.Proofs.Ytnjaoaamcdohoaa
/-
  Plain facts: the rows that meet a test, in order. No program in this text.
-/
namespace Go.Proofs.Ytnjaoaamcdohoaa

def filt (p : Nat → Bool) (k : Nat) : List Int := ((List.range k).filter p).map fun i : Nat => (i : Int)
theorem filt_yes {p : Nat → Bool} {k : Nat} (h : p k = true) : filt p (k + 1) = filt p k ++ [(k : Int)] := by simp [filt, List.range_succ, List.filter_append, h]
theorem filt_no {p : Nat → Bool} {k : Nat} (h : p k = false) : filt p (k + 1) = filt p k := by simp [filt, List.range_succ, List.filter_append, h]
theorem filt_len (p : Nat → Bool) (k : Nat) : (filt p k).length ≤ k := by
  unfold filt; rw [List.length_map]
  have := List.length_filter_le p (List.range k)
  rw [List.length_range] at this; exact this
theorem filt_zero (p : Nat → Bool) : filt p 0 = [] := rfl
def corB (xs : List Int) (r : Nat) : Bool := decide (r + 1 = xs.length) || decide (xs.getD (r + 1) 0 < xs.getD r 0)
def addB (xs : List Int) (r : Nat) : Bool := decide (r = 0) || (decide (r = xs.length) || decide (xs.getD r 0 < xs.getD (r - 1) 0))
def corF (xs : List Int) : List Int := if good xs then filt (corB xs) xs.length else []
def addF (xs : List Int) : List Int := if good xs then filt (addB xs) (xs.length + 1) else []
theorem corF_t {xs : List Int} (h : good xs = true) : corF xs = filt (corB xs) xs.length := by simp [corF, h]
theorem corF_f {xs : List Int} (h : good xs = false) : corF xs = [] := by simp [corF, h]
theorem addF_t {xs : List Int} (h : good xs = true) : addF xs = filt (addB xs) (xs.length + 1) := by simp [addF, h]
theorem addF_f {xs : List Int} (h : good xs = false) : addF xs = [] := by simp [addF, h]
theorem bound_CornersOf (xs : List Int) : (corF xs).length ≤ 1048576 := by
  unfold corF
  split
  · rename_i h
    have := filt_len (corB xs) xs.length
    have := ((good_iff xs).1 h).len
    omega
  · simp
theorem bound_AddableOf (xs : List Int) : (addF xs).length ≤ 1048576 := by
  unfold addF
  split
  · rename_i h
    have := filt_len (addB xs) (xs.length + 1)
    have := ((good_iff xs).1 h).len
    omega
  · simp
theorem cor_last {xs : List Int} {r : Nat} (h : r + 1 = xs.length) : corB xs r = true := by simp [corB, h]
theorem cor_lt {xs : List Int} {r : Nat} (h : xs.getD (r + 1) 0 < xs.getD r 0) : corB xs r = true := by
  unfold corB; rw [decide_eq_true h, Bool.or_true]
theorem cor_no {xs : List Int} {r : Nat} (h : r + 1 ≠ xs.length) (h2 : ¬ xs.getD (r + 1) 0 < xs.getD r 0) : corB xs r = false := by
  unfold corB; rw [decide_eq_false h, decide_eq_false h2]; rfl
theorem add_zero (xs : List Int) : addB xs 0 = true := by simp [addB]
theorem add_last (xs : List Int) : addB xs xs.length = true := by
  unfold addB; rw [decide_eq_true (p := xs.length = xs.length) rfl, Bool.true_or, Bool.or_true]
theorem add_lt {xs : List Int} {r : Nat} (h : xs.getD r 0 < xs.getD (r - 1) 0) : addB xs r = true := by
  unfold addB; rw [decide_eq_true h, Bool.or_true, Bool.or_true]
theorem add_no {xs : List Int} {r : Nat} (h : r ≠ 0) (h1 : r ≠ xs.length) (h2 : ¬ xs.getD r 0 < xs.getD (r - 1) 0) : addB xs r = false := by
  unfold addB; rw [decide_eq_false h, decide_eq_false h1, decide_eq_false h2]; rfl
end Go.Proofs.Ytnjaoaamcdohoaa
