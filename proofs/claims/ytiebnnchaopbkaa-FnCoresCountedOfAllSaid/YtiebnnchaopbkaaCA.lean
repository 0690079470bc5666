/-
  Several texts in one.
-/

/-
  Plain facts on what a partition is: the check as the program makes it and as the model makes it. No program in this text.
-/
namespace Go.Proofs.Ytiebnnchaopbkaa

def inB (lo hi n : Int) : Bool := decide (lo ≤ n) && decide (n ≤ hi)
theorem inB_iff {lo hi n : Int} : inB lo hi n = true ↔ lo ≤ n ∧ n ≤ hi := by simp [inB]

theorem all_take_succ (p : Int → Bool) (xs : List Int) (k : Nat) (h : k < xs.length) : (xs.take (k+1)).all p = ((xs.take k).all p && p (xs.getD k 0)) := by
  rw [List.take_succ_eq_append_getElem h, List.all_append]; simp [List.getD, h]
theorem all_take_false (p : Int → Bool) (xs : List Int) (k : Nat) (h : k < xs.length) (hp : p (xs.getD k 0) = false) : xs.all p = false := by
  rw [List.all_eq_false]
  refine ⟨xs[k], List.getElem_mem h, ?_⟩
  rw [List.getD_eq_getElem?_getD, List.getElem?_eq_getElem h] at hp
  simp only [Option.getD_some] at hp
  rw [hp]; simp
theorem sum_take_succ (xs : List Int) (k : Nat) (h : k < xs.length) : (xs.take (k+1)).sum = (xs.take k).sum + xs.getD k 0 := by
  rw [List.take_succ_eq_append_getElem h, List.sum_append]; simp [List.getD, h]
theorem sum_bound (xs : List Int) (hi : Int) (h : ∀ j, j < xs.length → 0 ≤ xs.getD j 0 ∧ xs.getD j 0 ≤ hi) : 0 ≤ xs.sum ∧ xs.sum ≤ xs.length * hi := by
  induction xs with
  | nil => simp
  | cons x t ih =>
    have h0 := h 0 (by simp)
    have ht := ih (fun j hj => by have := h (j + 1) (by simp; omega); simpa using this)
    simp only [List.getD_cons_zero] at h0
    simp only [List.sum_cons, List.length_cons]
    rw [show ((t.length + 1 : Nat) : Int) * hi = t.length * hi + hi from by rw [Int.natCast_add, Int.add_mul]; simp]
    omega
theorem sum_take_bound (xs : List Int) (hi : Int) (h : ∀ j, j < xs.length → 0 ≤ xs.getD j 0 ∧ xs.getD j 0 ≤ hi) (h0 : 0 ≤ hi) (k : Nat) : 0 ≤ (xs.take k).sum ∧ (xs.take k).sum ≤ xs.length * hi := by
  have := sum_bound (xs.take k) hi (fun j hj => by
    have hj' : j < k ∧ j < xs.length := by rw [List.length_take] at hj; omega
    have := h j hj'.2
    rw [List.getD_eq_getElem?_getD, List.getElem?_take, if_pos hj'.1, ← List.getD_eq_getElem?_getD]
    exact this)
  have hl : (xs.take k).length ≤ xs.length := by simp; omega
  have : ((xs.take k).length : Int) * hi ≤ xs.length * hi := Int.mul_le_mul_of_nonneg_right (by omega) h0
  omega

/-- The check of the parts, one after the other, each at most the one before. -/
def chk : Int → List Int → Bool
  | _, [] => true
  | m, x :: t => decide (1 ≤ x) && (decide (x ≤ m) && chk x t)
def good (xs : List Int) : Bool := decide (xs.length ≤ 30) && (chk 30 xs && decide (xs.sum ≤ 30))

theorem drop_cons (xs : List Int) (k : Nat) (h : k < xs.length) : xs.drop k = xs.getD k 0 :: xs.drop (k + 1) := by
  rw [List.drop_eq_getElem_cons h]; simp [List.getD, h]
theorem chk_step (xs : List Int) (k : Nat) (m : Int) (h : k < xs.length) : chk m (xs.drop k) = (decide (1 ≤ xs.getD k 0) && (decide (xs.getD k 0 ≤ m) && chk (xs.getD k 0) (xs.drop (k + 1)))) := by
  rw [drop_cons xs k h, chk]

theorem chk_iff (m : Int) (xs : List Int) : chk m xs = true ↔ (∀ j, j < xs.length → 1 ≤ xs.getD j 0) ∧ (0 < xs.length → xs.getD 0 0 ≤ m) ∧ (∀ j, j + 1 < xs.length → xs.getD (j + 1) 0 ≤ xs.getD j 0) := by
  induction xs generalizing m with
  | nil => simp [chk]
  | cons x t ih =>
    simp only [chk, Bool.and_eq_true, decide_eq_true_eq, ih x, List.length_cons]
    constructor
    · rintro ⟨h1, h2, h3, h4, h5⟩
      refine ⟨fun j hj => ?_, fun _ => by simpa using h2, fun j hj => ?_⟩
      · cases j with
        | zero => simpa using h1
        | succ j => simpa using h3 j (by omega)
      · cases j with
        | zero => simpa using h4 (by omega)
        | succ j => simpa using h5 j (by omega)
    · rintro ⟨h1, h2, h3⟩
      refine ⟨by simpa using h1 0 (by omega), by simpa using h2 (by omega), fun j hj => ?_, fun h0 => ?_, fun j hj => ?_⟩
      · simpa using h1 (j + 1) (by omega)
      · simpa using h3 0 (by omega)
      · simpa using h3 (j + 1) (by omega)

theorem down_le (xs : List Int) (h : ∀ j, j + 1 < xs.length → xs.getD (j + 1) 0 ≤ xs.getD j 0) (i : Nat) : ∀ d, i + d < xs.length → xs.getD (i + d) 0 ≤ xs.getD i 0 := by
  intro d
  induction d with
  | zero => intro _; simp
  | succ d ih => intro hd; have := ih (by omega); have := h (i + d) (by omega); rw [show i + (d + 1) = i + d + 1 by omega]; omega

structure Good (xs : List Int) : Prop where
  len : xs.length ≤ 30
  pos : ∀ j, j < xs.length → 1 ≤ xs.getD j 0
  le : ∀ j, j < xs.length → xs.getD j 0 ≤ 30
  down : ∀ j, j + 1 < xs.length → xs.getD (j + 1) 0 ≤ xs.getD j 0
  sum0 : 0 ≤ xs.sum
  sum : xs.sum ≤ 30

theorem chk_parts {xs : List Int} (h : chk 30 xs = true) : (∀ j, j < xs.length → 1 ≤ xs.getD j 0) ∧ (∀ j, j < xs.length → xs.getD j 0 ≤ 30) ∧ (∀ j, j + 1 < xs.length → xs.getD (j + 1) 0 ≤ xs.getD j 0) := by
  obtain ⟨h1, h2, h3⟩ := (chk_iff 30 xs).1 h
  refine ⟨h1, fun j hj => ?_, h3⟩
  have := down_le xs h3 0 j (by omega)
  have := h2 (by omega)
  rw [Nat.zero_add] at *
  omega
theorem chk_of {xs : List Int} (h1 : xs.all (inB 1 30) = true) (h3 : ∀ j, j + 1 < xs.length → xs.getD (j + 1) 0 ≤ xs.getD j 0) : chk 30 xs = true := by
  have hh : ∀ j, j < xs.length → inB 1 30 (xs.getD j 0) = true := fun j hj => by
    rw [List.all_eq_true] at h1
    exact h1 _ (by rw [List.getD_eq_getElem?_getD, List.getElem?_eq_getElem hj]; exact List.getElem_mem hj)
  exact (chk_iff 30 xs).2 ⟨fun j hj => (inB_iff.1 (hh j hj)).1, fun h0 => (inB_iff.1 (hh 0 h0)).2, h3⟩
theorem all_of_chk {xs : List Int} (h : chk 30 xs = true) : xs.all (inB 1 30) = true := by
  obtain ⟨h1, h2, _⟩ := chk_parts h
  rw [List.all_eq_true]
  intro x hx
  obtain ⟨j, hj, rfl⟩ := List.getElem_of_mem hx
  have a := h1 j hj
  have b := h2 j hj
  rw [List.getD_eq_getElem?_getD, List.getElem?_eq_getElem hj] at a b
  exact inB_iff.2 ⟨a, b⟩
theorem good_iff (xs : List Int) : good xs = true ↔ Good xs := by
  constructor
  · intro h
    simp only [good, Bool.and_eq_true, decide_eq_true_eq] at h
    obtain ⟨h1, h2, h3⟩ := h
    obtain ⟨a, b, c⟩ := chk_parts h2
    exact ⟨h1, a, b, c, (sum_bound xs 30 (fun j hj => ⟨by have := a j hj; omega, b j hj⟩)).1, h3⟩
  · intro h
    simp only [good, Bool.and_eq_true, decide_eq_true_eq]
    refine ⟨h.len, (chk_iff 30 xs).2 ⟨h.pos, fun h0 => h.le 0 h0, h.down⟩, h.sum⟩
theorem good_no_len {xs : List Int} (h : 30 < xs.length) : good xs = false := by
  simp only [good]; rw [decide_eq_false (by omega)]; rfl
theorem good_no_chk {xs : List Int} (h : chk 30 xs = false) : good xs = false := by simp [good, h]
theorem good_chk {xs : List Int} (h1 : xs.length ≤ 30) (h : chk 30 xs = true) : good xs = decide (xs.sum ≤ 30) := by simp [good, h, h1]
theorem not_all_chk {xs : List Int} (h : xs.all (inB 1 30) = false) : chk 30 xs = false := by
  cases hc : chk 30 xs
  · rfl
  · rw [all_of_chk hc] at h; cases h
theorem not_down_chk {xs : List Int} {k : Nat} (hk : k + 1 < xs.length) (h : xs.getD k 0 < xs.getD (k + 1) 0) : chk 30 xs = false := by
  cases hc : chk 30 xs
  · rfl
  · have := (chk_parts hc).2.2 k hk; omega
theorem all_bounds {xs : List Int} (h : xs.all (inB 1 30) = true) : ∀ j, j < xs.length → 0 ≤ xs.getD j 0 ∧ xs.getD j 0 ≤ 30 := by
  intro j hj
  rw [List.all_eq_true] at h
  have := inB_iff.1 (h _ (by rw [List.getD_eq_getElem?_getD, List.getElem?_eq_getElem hj]; exact List.getElem_mem hj) : inB 1 30 (xs.getD j 0) = true)
  omega
end Go.Proofs.Ytiebnnchaopbkaa
/-
  Plain facts on the columns of a partition. No program in this text.
-/
namespace Go.Proofs.Ytiebnnchaopbkaa

/-- How many parts are greater than c. -/
def colH (xs : List Int) (c : Int) : Int := (xs.map fun x => if c < x then (1 : Int) else 0).sum
def cols (xs : List Int) : List Int := (List.range (xs.getD 0 0).toNat).map fun c : Nat => colH xs (c : Int)
def conjF (xs : List Int) : List Int := if good xs then cols xs else []

theorem sum_ones (xs : List Int) (c : Int) (h : ∀ j, j < xs.length → c < xs.getD j 0) : colH xs c = xs.length := by
  induction xs with
  | nil => rfl
  | cons x t ih =>
    have h0 := h 0 (by simp)
    simp only [List.getD_cons_zero] at h0
    have := ih (fun j hj => by have := h (j + 1) (by simp; omega); simpa using this)
    unfold colH at this ⊢
    simp only [List.map_cons, List.sum_cons, this, if_pos h0, List.length_cons]
    omega
theorem sum_zeros (xs : List Int) (c : Int) (h : ∀ j, j < xs.length → xs.getD j 0 ≤ c) : colH xs c = 0 := by
  induction xs with
  | nil => rfl
  | cons x t ih =>
    have h0 := h 0 (by simp)
    simp only [List.getD_cons_zero] at h0
    have := ih (fun j hj => by have := h (j + 1) (by simp; omega); simpa using this)
    unfold colH at this ⊢
    simp only [List.map_cons, List.sum_cons, this, if_neg (show ¬ c < x by omega)]
    omega
theorem colH_append (xs ys : List Int) (c : Int) : colH (xs ++ ys) c = colH xs c + colH ys c := by simp [colH]
theorem getD_take (xs : List Int) (n j : Nat) (h : j < n) : (xs.take n).getD j 0 = xs.getD j 0 := by
  rw [List.getD_eq_getElem?_getD, List.getElem?_take, if_pos h, ← List.getD_eq_getElem?_getD]
theorem getD_drop (xs : List Int) (n j : Nat) : (xs.drop n).getD j 0 = xs.getD (n + j) 0 := by
  rw [List.getD_eq_getElem?_getD, List.getElem?_drop, ← List.getD_eq_getElem?_getD]
theorem colH_eq (xs : List Int) (c : Int) (n : Nat) (hn : n ≤ xs.length) (h1 : ∀ j, j < n → c < xs.getD j 0) (h2 : n < xs.length → xs.getD n 0 ≤ c)
    (hd : ∀ j, j + 1 < xs.length → xs.getD (j + 1) 0 ≤ xs.getD j 0) : colH xs c = n := by
  rw [← List.take_append_drop n xs, colH_append, sum_ones (xs.take n) c (fun j hj => ?_), sum_zeros (xs.drop n) c (fun j hj => ?_)]
  · rw [List.length_take]; omega
  · rw [List.length_drop] at hj
    rw [getD_drop]
    have := down_le xs hd n j (by omega)
    have := h2 (by omega)
    omega
  · rw [List.length_take] at hj
    rw [getD_take xs n j (by omega)]; exact h1 j (by omega)
theorem colH_bound (xs : List Int) (c : Int) : 0 ≤ colH xs c ∧ colH xs c ≤ xs.length := by
  induction xs with
  | nil => simp [colH]
  | cons x t ih =>
    unfold colH at ih ⊢
    simp only [List.map_cons, List.sum_cons, List.length_cons]
    split <;> omega
theorem cols_len (xs : List Int) : (cols xs).length = (xs.getD 0 0).toNat := by simp [cols]
theorem cols_get (xs : List Int) (k : Nat) (h : k < (xs.getD 0 0).toNat) : (cols xs).getD k 0 = colH xs k := by
  rw [List.getD_eq_getElem?_getD, cols, List.getElem?_map, List.getElem?_range h]; rfl
theorem bound_ConjugateOf (xs : List Int) : (conjF xs).length ≤ 1048576 := by
  unfold conjF
  split
  · rename_i h
    have G := (good_iff xs).1 h
    rw [cols_len]
    rcases Nat.eq_zero_or_pos xs.length with h0 | h0
    · rw [List.getD_eq_getElem?_getD, List.getElem?_eq_none (by omega)]; simp
    · have := G.le 0 h0; omega
  · simp
theorem conjF_t {xs : List Int} (h : good xs = true) : conjF xs = cols xs := by simp [conjF, h]
theorem conjF_f {xs : List Int} (h : good xs = false) : conjF xs = [] := by simp [conjF, h]
end Go.Proofs.Ytiebnnchaopbkaa
/-
  Plain facts on beads: which lists are beads, the parts that they stand for, the beads of a list of parts. No program in this text.
-/
namespace Go.Proofs.Ytiebnnchaopbkaa

/-- Number j of a list is within lo..hi and greater than the one before. -/
def okAt (lo hi : Int) (xs : List Int) (j : Nat) : Bool := inB lo hi (xs.getD j 0) && (decide (j = 0) || decide (xs.getD (j - 1) 0 < xs.getD j 0))
def rises (lo hi : Int) (xs : List Int) : Bool := (List.range xs.length).all (okAt lo hi xs)
theorem rises_iff {lo hi : Int} {xs : List Int} : rises lo hi xs = true ↔ ∀ j, j < xs.length → okAt lo hi xs j = true := by
  simp [rises, List.all_eq_true]
theorem rises_no {lo hi : Int} {xs : List Int} {k : Nat} (hk : k < xs.length) (h : okAt lo hi xs k = false) : rises lo hi xs = false := by
  cases hr : rises lo hi xs
  · rfl
  · rw [rises_iff.1 hr k hk] at h; cases h
theorem okAt_iff {lo hi : Int} {xs : List Int} {j : Nat} : okAt lo hi xs j = true ↔ (lo ≤ xs.getD j 0 ∧ xs.getD j 0 ≤ hi) ∧ (j = 0 ∨ xs.getD (j - 1) 0 < xs.getD j 0) := by
  simp [okAt, inB]
structure Rises (lo hi : Int) (xs : List Int) : Prop where
  bd : ∀ j, j < xs.length → lo ≤ xs.getD j 0 ∧ xs.getD j 0 ≤ hi
  up : ∀ j, j + 1 < xs.length → xs.getD j 0 < xs.getD (j + 1) 0
theorem rises_Rises {lo hi : Int} {xs : List Int} : rises lo hi xs = true ↔ Rises lo hi xs := by
  rw [rises_iff]
  constructor
  · intro h
    refine ⟨fun j hj => (okAt_iff.1 (h j hj)).1, fun j hj => ?_⟩
    rcases (okAt_iff.1 (h (j + 1) hj)).2 with h0 | h1
    · omega
    · simpa using h1
  · intro h j hj
    refine okAt_iff.2 ⟨h.bd j hj, ?_⟩
    rcases Nat.eq_zero_or_pos j with h0 | h0
    · exact .inl h0
    · have := h.up (j - 1) (by omega)
      rw [show j - 1 + 1 = j by omega] at this
      exact .inr this

/-- The parts of the first k beads from the greatest one down. -/
def bpk (xs : List Int) : Nat → List Int
  | 0 => []
  | k + 1 => bpk xs k ++ if ((xs.length - 1 - k : Nat) : Int) < xs.getD (xs.length - 1 - k) 0 then [xs.getD (xs.length - 1 - k) 0 - (xs.length - 1 - k : Nat)] else []
def partsL (xs : List Int) : List Int := bpk xs xs.length
theorem bpk_yes {xs : List Int} {k i : Nat} {x : Int} (hi : i = xs.length - 1 - k) (hx : x = xs.getD i 0) (h : (i : Int) < x) : bpk xs (k + 1) = bpk xs k ++ [x - i] := by
  subst hi hx; simp only [bpk]; rw [if_pos h]
theorem bpk_no {xs : List Int} {k i : Nat} {x : Int} (hi : i = xs.length - 1 - k) (hx : x = xs.getD i 0) (h : ¬ (i : Int) < x) : bpk xs (k + 1) = bpk xs k := by
  subst hi hx; simp only [bpk]; rw [if_neg h, List.append_nil]
theorem pk_len (xs : List Int) : ∀ k, (bpk xs k).length ≤ k
  | 0 => by simp [bpk]
  | k + 1 => by
    have := pk_len xs k
    simp only [bpk, List.length_append]
    split <;> simp <;> omega
theorem partsL_len (xs : List Int) : (partsL xs).length ≤ xs.length := pk_len xs _

def goodB (xs : List Int) : Bool := decide (xs.length ≤ 40) && (rises 0 1000 xs && good (partsL xs))
structure GoodB (xs : List Int) : Prop where
  len : xs.length ≤ 40
  rise : Rises 0 1000 xs
  parts : Good (partsL xs)
theorem goodB_iff {xs : List Int} : goodB xs = true ↔ GoodB xs := by
  simp only [goodB, Bool.and_eq_true, decide_eq_true_eq, rises_Rises, good_iff]
  exact ⟨fun ⟨a, b, c⟩ => ⟨a, b, c⟩, fun ⟨a, b, c⟩ => ⟨a, b, c⟩⟩
theorem goodB_no_len {xs : List Int} (h : 40 < xs.length) : goodB xs = false := by simp [goodB]; omega
theorem goodB_no_rise {xs : List Int} (h : rises 0 1000 xs = false) : goodB xs = false := by simp [goodB, h]
theorem goodB_parts {xs : List Int} (hl : xs.length ≤ 40) (h : rises 0 1000 xs = true) : goodB xs = good (partsL xs) := by simp [goodB, h, hl]

/-- A row of n numbers told by a function. -/
def fnRow (n : Nat) (f : Nat → Int) : List Int := (List.range n).map f
theorem fnRow_len (n : Nat) (f : Nat → Int) : (fnRow n f).length = n := by simp [fnRow]
theorem fnRow_get (n : Nat) (f : Nat → Int) (j : Nat) (h : j < n) : (fnRow n f).getD j 0 = f j := by simp [fnRow, List.getD, h]
theorem rowF_ext (n : Nat) (f g : Nat → Int) (h : ∀ j, j < n → f j = g j) : fnRow n f = fnRow n g := by
  unfold fnRow
  exact List.map_congr_left fun j hj => h j (List.mem_range.1 hj)
theorem fnRow_set (n : Nat) (f : Nat → Int) (i : Nat) (v : Int) : (fnRow n f).set i v = fnRow n (fun j => if j = i then v else f j) := by
  apply List.ext_getElem
  · simp [fnRow]
  · intro j h1 h2
    simp only [fnRow, List.getElem_set, List.getElem_map, List.getElem_range]
    by_cases h : i = j
    · subst h; simp
    · rw [if_neg h, if_neg (by omega)]
theorem rowF_zero (n : Nat) : fnRow n (fun _ => 0) = List.replicate n 0 := by
  apply List.ext_getElem
  · simp [fnRow]
  · intro j h1 h2; simp [fnRow]
theorem rowF_of (xs : List Int) : fnRow xs.length (fun j => xs.getD j 0) = xs := by
  apply List.ext_getElem
  · simp [fnRow]
  · intro j h1 h2; simp [fnRow, List.getD, h2]

def upTo (n : Nat) : List Int := fnRow n (fun j => j)
def bead (p : List Int) (n j : Nat) : Int := (j : Int) + p.getD (n - 1 - j) 0
/-- The n beads of the parts p. -/
def beadsL (p : List Int) (n : Nat) : List Int := fnRow n (bead p n)
theorem beadsL_len (p : List Int) (n : Nat) : (beadsL p n).length = n := fnRow_len _ _
/-- .. when the first k parts have come. -/
def beadsK (p : List Int) (n k : Nat) : List Int := fnRow n (fun j => (j : Int) + if n - 1 - j < k then p.getD (n - 1 - j) 0 else 0)
theorem beadsK_zero (p : List Int) (n : Nat) : beadsK p n 0 = upTo n := rowF_ext _ _ _ fun j _ => by simp
theorem beadsK_all (p : List Int) (n : Nat) : beadsK p n p.length = beadsL p n := rowF_ext _ _ _ fun j _ => by
  unfold bead
  split
  · rfl
  · rw [List.getD_eq_getElem?_getD, List.getElem?_eq_none (by omega)]; rfl
theorem beadsK_get (p : List Int) (n k : Nat) (h : k < n) : (beadsK p n k).getD (n - 1 - k) 0 = (n - 1 - k : Nat) := by
  unfold beadsK; rw [fnRow_get _ _ _ (by omega), if_neg (by omega)]; simp
theorem beadsK_succ (p : List Int) (n k : Nat) (h : k < n) : (beadsK p n k).set (n - 1 - k) ((n - 1 - k : Nat) + p.getD k 0) = beadsK p n (k + 1) := by
  unfold beadsK; rw [fnRow_set]
  refine rowF_ext _ _ _ fun j hj => ?_
  by_cases e : j = n - 1 - k
  · subst e
    rw [if_pos rfl, if_pos (by omega), show n - 1 - (n - 1 - k) = k by omega]
  · rw [if_neg e]
    by_cases h1 : n - 1 - j < k
    · rw [if_pos h1, if_pos (by omega)]
    · rw [if_neg h1, if_neg (by omega)]
/-- The other side's row, filled from the greatest bead down. -/
def beadsD (p : List Int) (n k : Nat) : List Int := fnRow n (fun j => if n - 1 - j < k then bead p n j else 0)
theorem beadsD_zero (p : List Int) (n : Nat) : beadsD p n 0 = List.replicate n 0 := by
  rw [← rowF_zero]; exact rowF_ext _ _ _ fun j _ => by simp
theorem beadsD_all (p : List Int) (n : Nat) : beadsD p n n = beadsL p n := rowF_ext _ _ _ fun j hj => by rw [if_pos (by omega)]
theorem beadsD_succ (p : List Int) (n k : Nat) (h : k < n) : (beadsD p n k).set (n - 1 - k) (bead p n (n - 1 - k)) = beadsD p n (k + 1) := by
  unfold beadsD; rw [fnRow_set]
  refine rowF_ext _ _ _ fun j hj => ?_
  by_cases e : j = n - 1 - k
  · subst e
    rw [if_pos rfl, if_pos (by omega)]
  · rw [if_neg e]
    by_cases h1 : n - 1 - j < k
    · rw [if_pos h1, if_pos (by omega)]
    · rw [if_neg h1, if_neg (by omega)]
theorem bead_bd {p : List Int} (G : Good p) (n j : Nat) (hj : j < n) (hn : n ≤ 40) : 0 ≤ bead p n j ∧ bead p n j ≤ 70 := by
  unfold bead
  by_cases h : n - 1 - j < p.length
  · have := G.pos _ h; have := G.le _ h; omega
  · rw [List.getD_eq_getElem?_getD, List.getElem?_eq_none (by omega)]; simp; omega

def beadsF (p : List Int) (n : Int) : List Int := if good p = true ∧ (p.length : Int) ≤ n ∧ n ≤ 40 then beadsL p n.toNat else []
def beadsOk (p : List Int) (n : Int) : Bool := good p && inB p.length 40 n
def fromBeadsF (xs : List Int) : List Int := if goodB xs then partsL xs else []
def leastF (xs : List Int) : List Int := if goodB xs then beadsL (partsL xs) (partsL xs).length else []
def shiftL (xs : List Int) (by_ : Nat) : List Int := upTo by_ ++ xs.map (· + (by_ : Int))
end Go.Proofs.Ytiebnnchaopbkaa
namespace Go.Proofs.Ytiebnnchaopbkaa
/-! Shifted beads. -/
def shiftK (xs : List Int) (m k : Nat) : List Int := upTo m ++ (xs.take k).map (fun x => x + (m : Int))
theorem shiftK_zero (xs : List Int) (m : Nat) : shiftK xs m 0 = upTo m := by simp [shiftK]
theorem shiftK_all (xs : List Int) (m : Nat) : shiftK xs m xs.length = shiftL xs m := by simp [shiftK, shiftL]
theorem shiftK_succ (xs : List Int) (m k : Nat) (h : k < xs.length) : shiftK xs m (k + 1) = shiftK xs m k ++ [xs.getD k 0 + m] := by
  unfold shiftK
  rw [List.take_succ_eq_append_getElem h, List.map_append, List.append_assoc, List.getD_eq_getElem?_getD, List.getElem?_eq_getElem h]; rfl
theorem shiftL_len (xs : List Int) (m : Nat) : (shiftL xs m).length = m + xs.length := by simp [shiftL, upTo, fnRow]
theorem shiftK_len (xs : List Int) (m k : Nat) (h : k ≤ xs.length) : (shiftK xs m k).length = m + k := by simp [shiftK, upTo, fnRow]; omega
theorem upTo_len (n : Nat) : (upTo n).length = n := fnRow_len _ _
theorem upTo_succ (n : Nat) : upTo (n + 1) = upTo n ++ [(n : Int)] := by simp [upTo, fnRow, List.range_succ]
/-- What ShiftBeads hands back. -/
def shiftOk (xs : List Int) (b : Int) : Bool := goodB xs && (decide (0 ≤ b) && (decide (b ≤ 40) && goodB (shiftL xs b.toNat)))
def shiftF (xs : List Int) (b : Int) : List Int := if shiftOk xs b then shiftL xs b.toNat else []
end Go.Proofs.Ytiebnnchaopbkaa
/-
  Plain facts: lists inside each other, cells and their hooks. No program in this text.
-/
namespace Go.Proofs.Ytiebnnchaopbkaa

def insideB (xs ys : List Int) : Bool := decide (xs.length ≤ ys.length) && (List.range xs.length).all (fun r => decide (xs.getD r 0 ≤ ys.getD r 0))
theorem inside_no_len {xs ys : List Int} (h : ys.length < xs.length) : insideB xs ys = false := by
  unfold insideB; rw [decide_eq_false (by omega)]; rfl
theorem inside_no {xs ys : List Int} {k : Nat} (hk : k < xs.length) (h : ys.getD k 0 < xs.getD k 0) : insideB xs ys = false := by
  unfold insideB
  rw [Bool.and_eq_false_iff]
  right
  rw [List.all_eq_false]
  exact ⟨k, List.mem_range.2 hk, by simp only [decide_eq_true_eq]; omega⟩
theorem inside_yes {xs ys : List Int} (h1 : xs.length ≤ ys.length) (h : ∀ k, k < xs.length → xs.getD k 0 ≤ ys.getD k 0) : insideB xs ys = true := by
  unfold insideB
  rw [Bool.and_eq_true, List.all_eq_true]
  exact ⟨by simpa using h1, fun k hk => by simpa using h k (List.mem_range.1 hk)⟩

/-- Is r, c a cell of the rows xs? -/
def cellB (xs : List Int) (r c : Int) : Bool := decide (0 ≤ r) && (decide (r < xs.length) && (decide (0 ≤ c) && decide (c < xs.getD r.toNat 0)))
theorem cellB_iff {xs : List Int} {r c : Int} : cellB xs r c = true ↔ 0 ≤ r ∧ r < xs.length ∧ 0 ≤ c ∧ c < xs.getD r.toNat 0 := by simp [cellB]
theorem cellB_nat {xs : List Int} {r c : Int} (h : cellB xs r c = true) : ∃ r' c' : Nat, r = r' ∧ c = c' ∧ r' < xs.length ∧ (c' : Int) < xs.getD r' 0 := by
  obtain ⟨h1, h2, h3, h4⟩ := cellB_iff.1 h
  exact ⟨r.toNat, c.toNat, by omega, by omega, by omega, by omega⟩
def atB (xs : List Int) (r c : Int) : Bool := good xs && cellB xs r c
def hookN (xs : List Int) (r c : Nat) : Int := xs.getD r 0 - c + (cols xs).getD c 0 - r - 1
def hookF (xs : List Int) (r c : Int) : Int := if atB xs r c then hookN xs r.toNat c.toNat else 0
theorem hookF_t {xs : List Int} {r c : Int} (h : atB xs r c = true) : hookF xs r c = hookN xs r.toNat c.toNat := by simp [hookF, h]
theorem hookF_f {xs : List Int} {r c : Int} (h : atB xs r c = false) : hookF xs r c = 0 := by simp [hookF, h]
theorem le_first {xs : List Int} (G : Good xs) {r : Nat} (h : r < xs.length) : xs.getD r 0 ≤ xs.getD 0 0 := by
  have := down_le xs G.down 0 r (by omega)
  rw [Nat.zero_add] at this; exact this
theorem col_lt {xs : List Int} (G : Good xs) {r c : Nat} (h : r < xs.length) (hc : (c : Int) < xs.getD r 0) : c < (cols xs).length := by
  rw [cols_len]; have := le_first G h; omega
theorem col_bound (xs : List Int) (G : Good xs) (c : Nat) : 0 ≤ (cols xs).getD c 0 ∧ (cols xs).getD c 0 ≤ 30 := by
  by_cases h : c < (xs.getD 0 0).toNat
  · rw [cols_get xs c h]; have := colH_bound xs c; have := G.len; omega
  · rw [List.getD_eq_getElem?_getD, List.getElem?_eq_none (by rw [cols_len]; omega)]; simp
end Go.Proofs.Ytiebnnchaopbkaa
/-
  Plain facts: the rows that meet a test, in order. No program in this text.
-/
namespace Go.Proofs.Ytiebnnchaopbkaa

def filt (p : Nat → Bool) (k : Nat) : List Int := ((List.range k).filter p).map fun i : Nat => (i : Int)
theorem filt_yes {p : Nat → Bool} {k : Nat} (h : p k = true) : filt p (k + 1) = filt p k ++ [(k : Int)] := by simp [filt, List.range_succ, List.filter_append, h]
theorem filt_no {p : Nat → Bool} {k : Nat} (h : p k = false) : filt p (k + 1) = filt p k := by simp [filt, List.range_succ, List.filter_append, h]
theorem filt_len (p : Nat → Bool) (k : Nat) : (filt p k).length ≤ k := by
  unfold filt; rw [List.length_map]
  have := List.length_filter_le p (List.range k)
  rw [List.length_range] at this; exact this
theorem filt_zero (p : Nat → Bool) : filt p 0 = [] := rfl
def corB (xs : List Int) (r : Nat) : Bool := decide (r + 1 = xs.length) || decide (xs.getD (r + 1) 0 < xs.getD r 0)
def addB (xs : List Int) (r : Nat) : Bool := decide (r = 0) || (decide (r = xs.length) || decide (xs.getD r 0 < xs.getD (r - 1) 0))
def corF (xs : List Int) : List Int := if good xs then filt (corB xs) xs.length else []
def addF (xs : List Int) : List Int := if good xs then filt (addB xs) (xs.length + 1) else []
theorem corF_t {xs : List Int} (h : good xs = true) : corF xs = filt (corB xs) xs.length := by simp [corF, h]
theorem corF_f {xs : List Int} (h : good xs = false) : corF xs = [] := by simp [corF, h]
theorem addF_t {xs : List Int} (h : good xs = true) : addF xs = filt (addB xs) (xs.length + 1) := by simp [addF, h]
theorem addF_f {xs : List Int} (h : good xs = false) : addF xs = [] := by simp [addF, h]
theorem bound_CornersOf (xs : List Int) : (corF xs).length ≤ 1048576 := by
  unfold corF
  split
  · rename_i h
    have := filt_len (corB xs) xs.length
    have := ((good_iff xs).1 h).len
    omega
  · simp
theorem bound_AddableOf (xs : List Int) : (addF xs).length ≤ 1048576 := by
  unfold addF
  split
  · rename_i h
    have := filt_len (addB xs) (xs.length + 1)
    have := ((good_iff xs).1 h).len
    omega
  · simp
theorem cor_last {xs : List Int} {r : Nat} (h : r + 1 = xs.length) : corB xs r = true := by simp [corB, h]
theorem cor_lt {xs : List Int} {r : Nat} (h : xs.getD (r + 1) 0 < xs.getD r 0) : corB xs r = true := by
  unfold corB; rw [decide_eq_true h, Bool.or_true]
theorem cor_no {xs : List Int} {r : Nat} (h : r + 1 ≠ xs.length) (h2 : ¬ xs.getD (r + 1) 0 < xs.getD r 0) : corB xs r = false := by
  unfold corB; rw [decide_eq_false h, decide_eq_false h2]; rfl
theorem add_zero (xs : List Int) : addB xs 0 = true := by simp [addB]
theorem add_last (xs : List Int) : addB xs xs.length = true := by
  unfold addB; rw [decide_eq_true (p := xs.length = xs.length) rfl, Bool.true_or, Bool.or_true]
theorem add_lt {xs : List Int} {r : Nat} (h : xs.getD r 0 < xs.getD (r - 1) 0) : addB xs r = true := by
  unfold addB; rw [decide_eq_true h, Bool.or_true, Bool.or_true]
theorem add_no {xs : List Int} {r : Nat} (h : r ≠ 0) (h1 : r ≠ xs.length) (h2 : ¬ xs.getD r 0 < xs.getD (r - 1) 0) : addB xs r = false := by
  unfold addB; rw [decide_eq_false h, decide_eq_false h1, decide_eq_false h2]; rfl
end Go.Proofs.Ytiebnnchaopbkaa
/-
  Plain facts on Maya's numbers of a list of parts, as the model and the program tell them.
-/
namespace Go.Proofs.Ytiebnnchaopbkaa

def num (p : List Int) (i : Nat) : Int := p.getD i 0 - i - 1
def mayaA (p : List Int) : Nat → List Int
  | 0 => []
  | k + 1 => mayaA p k ++ if 0 ≤ num p k then [num p k] else []
def heldL (p : List Int) (k : Nat) : List Int := (List.range k).map (num p)
def mayaB (p : List Int) : Nat → List Int
  | 0 => []
  | j + 1 => mayaB p j ++ if (-1 - (j : Int)) ∈ heldL p p.length then [] else [-1 - (j : Int)]
def mayaL (p : List Int) : List Int := mayaA p p.length ++ mayaB p p.length
def mayaF (p : List Int) : List Int := if good p then mayaL p else []
theorem mayaA_yes {p : List Int} {k : Nat} {x : Int} (hx : x = num p k) (h : 0 ≤ x) : mayaA p (k + 1) = mayaA p k ++ [x] := by subst hx; simp only [mayaA]; rw [if_pos h]
theorem mayaA_no {p : List Int} {k : Nat} {x : Int} (hx : x = num p k) (h : ¬ 0 ≤ x) : mayaA p (k + 1) = mayaA p k := by subst hx; simp only [mayaA]; rw [if_neg h, List.append_nil]
theorem mayaB_yes {p : List Int} {j : Nat} (h : (-1 - (j : Int)) ∈ heldL p p.length) : mayaB p (j + 1) = mayaB p j := by simp only [mayaB]; rw [if_pos h, List.append_nil]
theorem mayaB_no {p : List Int} {j : Nat} (h : ¬ (-1 - (j : Int)) ∈ heldL p p.length) : mayaB p (j + 1) = mayaB p j ++ [-1 - (j : Int)] := by simp only [mayaB]; rw [if_neg h]
theorem mayaA_len (p : List Int) : ∀ k, (mayaA p k).length ≤ k
  | 0 => by simp [mayaA]
  | k + 1 => by have := mayaA_len p k; simp only [mayaA, List.length_append]; split <;> simp <;> omega
theorem mayaB_len (p : List Int) : ∀ k, (mayaB p k).length ≤ k
  | 0 => by simp [mayaB]
  | k + 1 => by have := mayaB_len p k; simp only [mayaB, List.length_append]; split <;> simp <;> omega
theorem heldL_len (p : List Int) (k : Nat) : (heldL p k).length = k := by simp [heldL]
theorem heldL_succ (p : List Int) (k : Nat) : heldL p (k + 1) = heldL p k ++ [num p k] := by simp [heldL, List.range_succ]
theorem heldL_get (p : List Int) (k j : Nat) (h : j < k) : (heldL p k).getD j 0 = num p j := by simp [heldL, List.getD, h]
theorem mayaL_len (p : List Int) : (mayaL p).length ≤ 2 * p.length := by
  unfold mayaL; rw [List.length_append]; have := mayaA_len p p.length; have := mayaB_len p p.length; omega
theorem bound_MayaOf (p : List Int) : (mayaF p).length ≤ 1048576 := by
  unfold mayaF; split
  · rename_i h; have := ((good_iff p).1 h).len; have := mayaL_len p; omega
  · simp
theorem num_bd {p : List Int} (G : Good p) {i : Nat} (h : i < p.length) : -31 ≤ num p i ∧ num p i ≤ 30 := by
  have := G.pos i h; have := G.le i h; have := G.len; unfold num; omega
/-- A bead at a place stands for a number that is held. -/
theorem bead_held (p : List Int) (j : Nat) (hj : j < p.length) : ((p.length - 1 - j : Nat) : Int) ∈ beadsL p p.length ↔ (-1 - (j : Int)) ∈ heldL p p.length := by
  have key : ∀ i, i < p.length → bead p p.length (p.length - 1 - i) = num p i + p.length := by
    intro i hi
    unfold bead num
    rw [show p.length - 1 - (p.length - 1 - i) = i by omega]; omega
  constructor
  · intro h
    simp only [beadsL, fnRow, List.mem_map, List.mem_range] at h
    obtain ⟨i, hi, e⟩ := h
    simp only [heldL, List.mem_map, List.mem_range]
    refine ⟨p.length - 1 - i, by omega, ?_⟩
    have := key (p.length - 1 - i) (by omega)
    rw [show p.length - 1 - (p.length - 1 - i) = i by omega] at this
    omega
  · intro h
    simp only [heldL, List.mem_map, List.mem_range] at h
    obtain ⟨i, hi, e⟩ := h
    simp only [beadsL, fnRow, List.mem_map, List.mem_range]
    refine ⟨p.length - 1 - i, by omega, ?_⟩
    have := key i hi
    omega
end Go.Proofs.Ytiebnnchaopbkaa
/-
  Plain facts: how many partitions of n cells have no part greater than k, as a table. No program in this text.
-/
namespace Go.Proofs.Ytiebnnchaopbkaa
def tbl : List (List Nat) := [
  [1, 1, 1, 1, 1, 1, 1, 1, 1, 1, 1, 1, 1, 1, 1, 1, 1, 1, 1, 1, 1, 1, 1, 1, 1, 1, 1, 1, 1, 1, 1],
  [0, 1, 1, 1, 1, 1, 1, 1, 1, 1, 1, 1, 1, 1, 1, 1, 1, 1, 1, 1, 1, 1, 1, 1, 1, 1, 1, 1, 1, 1, 1],
  [0, 1, 2, 2, 2, 2, 2, 2, 2, 2, 2, 2, 2, 2, 2, 2, 2, 2, 2, 2, 2, 2, 2, 2, 2, 2, 2, 2, 2, 2, 2],
  [0, 1, 2, 3, 3, 3, 3, 3, 3, 3, 3, 3, 3, 3, 3, 3, 3, 3, 3, 3, 3, 3, 3, 3, 3, 3, 3, 3, 3, 3, 3],
  [0, 1, 3, 4, 5, 5, 5, 5, 5, 5, 5, 5, 5, 5, 5, 5, 5, 5, 5, 5, 5, 5, 5, 5, 5, 5, 5, 5, 5, 5, 5],
  [0, 1, 3, 5, 6, 7, 7, 7, 7, 7, 7, 7, 7, 7, 7, 7, 7, 7, 7, 7, 7, 7, 7, 7, 7, 7, 7, 7, 7, 7, 7],
  [0, 1, 4, 7, 9, 10, 11, 11, 11, 11, 11, 11, 11, 11, 11, 11, 11, 11, 11, 11, 11, 11, 11, 11, 11, 11, 11, 11, 11, 11, 11],
  [0, 1, 4, 8, 11, 13, 14, 15, 15, 15, 15, 15, 15, 15, 15, 15, 15, 15, 15, 15, 15, 15, 15, 15, 15, 15, 15, 15, 15, 15, 15],
  [0, 1, 5, 10, 15, 18, 20, 21, 22, 22, 22, 22, 22, 22, 22, 22, 22, 22, 22, 22, 22, 22, 22, 22, 22, 22, 22, 22, 22, 22, 22],
  [0, 1, 5, 12, 18, 23, 26, 28, 29, 30, 30, 30, 30, 30, 30, 30, 30, 30, 30, 30, 30, 30, 30, 30, 30, 30, 30, 30, 30, 30, 30],
  [0, 1, 6, 14, 23, 30, 35, 38, 40, 41, 42, 42, 42, 42, 42, 42, 42, 42, 42, 42, 42, 42, 42, 42, 42, 42, 42, 42, 42, 42, 42],
  [0, 1, 6, 16, 27, 37, 44, 49, 52, 54, 55, 56, 56, 56, 56, 56, 56, 56, 56, 56, 56, 56, 56, 56, 56, 56, 56, 56, 56, 56, 56],
  [0, 1, 7, 19, 34, 47, 58, 65, 70, 73, 75, 76, 77, 77, 77, 77, 77, 77, 77, 77, 77, 77, 77, 77, 77, 77, 77, 77, 77, 77, 77],
  [0, 1, 7, 21, 39, 57, 71, 82, 89, 94, 97, 99, 100, 101, 101, 101, 101, 101, 101, 101, 101, 101, 101, 101, 101, 101, 101, 101, 101, 101, 101],
  [0, 1, 8, 24, 47, 70, 90, 105, 116, 123, 128, 131, 133, 134, 135, 135, 135, 135, 135, 135, 135, 135, 135, 135, 135, 135, 135, 135, 135, 135, 135],
  [0, 1, 8, 27, 54, 84, 110, 131, 146, 157, 164, 169, 172, 174, 175, 176, 176, 176, 176, 176, 176, 176, 176, 176, 176, 176, 176, 176, 176, 176, 176],
  [0, 1, 9, 30, 64, 101, 136, 164, 186, 201, 212, 219, 224, 227, 229, 230, 231, 231, 231, 231, 231, 231, 231, 231, 231, 231, 231, 231, 231, 231, 231],
  [0, 1, 9, 33, 72, 119, 163, 201, 230, 252, 267, 278, 285, 290, 293, 295, 296, 297, 297, 297, 297, 297, 297, 297, 297, 297, 297, 297, 297, 297, 297],
  [0, 1, 10, 37, 84, 141, 199, 248, 288, 318, 340, 355, 366, 373, 378, 381, 383, 384, 385, 385, 385, 385, 385, 385, 385, 385, 385, 385, 385, 385, 385],
  [0, 1, 10, 40, 94, 164, 235, 300, 352, 393, 423, 445, 460, 471, 478, 483, 486, 488, 489, 490, 490, 490, 490, 490, 490, 490, 490, 490, 490, 490, 490],
  [0, 1, 11, 44, 108, 192, 282, 364, 434, 488, 530, 560, 582, 597, 608, 615, 620, 623, 625, 626, 627, 627, 627, 627, 627, 627, 627, 627, 627, 627, 627],
  [0, 1, 11, 48, 120, 221, 331, 436, 525, 598, 653, 695, 725, 747, 762, 773, 780, 785, 788, 790, 791, 792, 792, 792, 792, 792, 792, 792, 792, 792, 792],
  [0, 1, 12, 52, 136, 255, 391, 522, 638, 732, 807, 863, 905, 935, 957, 972, 983, 990, 995, 998, 1000, 1001, 1002, 1002, 1002, 1002, 1002, 1002, 1002, 1002, 1002],
  [0, 1, 12, 56, 150, 291, 454, 618, 764, 887, 984, 1060, 1116, 1158, 1188, 1210, 1225, 1236, 1243, 1248, 1251, 1253, 1254, 1255, 1255, 1255, 1255, 1255, 1255, 1255, 1255],
  [0, 1, 13, 61, 169, 333, 532, 733, 919, 1076, 1204, 1303, 1380, 1436, 1478, 1508, 1530, 1545, 1556, 1563, 1568, 1571, 1573, 1574, 1575, 1575, 1575, 1575, 1575, 1575, 1575],
  [0, 1, 13, 65, 185, 377, 612, 860, 1090, 1291, 1455, 1586, 1686, 1763, 1819, 1861, 1891, 1913, 1928, 1939, 1946, 1951, 1954, 1956, 1957, 1958, 1958, 1958, 1958, 1958, 1958],
  [0, 1, 14, 70, 206, 427, 709, 1009, 1297, 1549, 1761, 1930, 2063, 2164, 2241, 2297, 2339, 2369, 2391, 2406, 2417, 2424, 2429, 2432, 2434, 2435, 2436, 2436, 2436, 2436, 2436],
  [0, 1, 14, 75, 225, 480, 811, 1175, 1527, 1845, 2112, 2331, 2503, 2637, 2738, 2815, 2871, 2913, 2943, 2965, 2980, 2991, 2998, 3003, 3006, 3008, 3009, 3010, 3010, 3010, 3010],
  [0, 1, 15, 80, 249, 540, 931, 1367, 1801, 2194, 2534, 2812, 3036, 3210, 3345, 3446, 3523, 3579, 3621, 3651, 3673, 3688, 3699, 3706, 3711, 3714, 3716, 3717, 3718, 3718, 3718],
  [0, 1, 15, 85, 270, 603, 1057, 1579, 2104, 2592, 3015, 3370, 3655, 3882, 4057, 4192, 4293, 4370, 4426, 4468, 4498, 4520, 4535, 4546, 4553, 4558, 4561, 4563, 4564, 4565, 4565],
  [0, 1, 16, 91, 297, 674, 1206, 1824, 2462, 3060, 3590, 4035, 4401, 4691, 4920, 5096, 5231, 5332, 5409, 5465, 5507, 5537, 5559, 5574, 5585, 5592, 5597, 5600, 5602, 5603, 5604]]
def T (n k : Nat) : Nat := (tbl.getD n []).getD k 0
theorem T_zero : ∀ n, n < 31 → T n 0 = if n = 0 then 1 else 0 := by decide +kernel
theorem T_rec : ∀ n, n < 31 → ∀ k, k < 30 → T n (k + 1) = T n k + if k + 1 ≤ n then T (n - (k + 1)) (k + 1) else 0 := by decide +kernel
theorem T_bound : ∀ n, n < 31 → ∀ k, k < 31 → T n k ≤ 5604 := by decide +kernel
theorem T_top : ∀ k, k < 31 → T 0 k = 1 := by decide +kernel
end Go.Proofs.Ytiebnnchaopbkaa
/-
  Plain facts on levels: the check, the size of their core, turned ones. No program in this text.
-/
namespace Go.Proofs.Ytiebnnchaopbkaa

theorem sum_abs (xs : List Int) (hi : Int) (h : ∀ j, j < xs.length → -hi ≤ xs.getD j 0 ∧ xs.getD j 0 ≤ hi) : -(xs.length * hi) ≤ xs.sum ∧ xs.sum ≤ xs.length * hi := by
  induction xs with
  | nil => simp
  | cons x t ih =>
    have h0 := h 0 (by simp)
    have ht := ih (fun j hj => by have := h (j + 1) (by simp; omega); simpa using this)
    simp only [List.getD_cons_zero] at h0
    simp only [List.sum_cons, List.length_cons]
    rw [show ((t.length + 1 : Nat) : Int) * hi = t.length * hi + hi from by rw [Int.natCast_add, Int.add_mul]; simp]
    omega
theorem sum_take_abs (xs : List Int) (hi : Int) (h : ∀ j, j < xs.length → -hi ≤ xs.getD j 0 ∧ xs.getD j 0 ≤ hi) (h0 : 0 ≤ hi) (k : Nat) : -(xs.length * hi) ≤ (xs.take k).sum ∧ (xs.take k).sum ≤ xs.length * hi := by
  have := sum_abs (xs.take k) hi (fun j hj => by
    have hj' : j < k ∧ j < xs.length := by rw [List.length_take] at hj; omega
    have := h j hj'.2
    rw [List.getD_eq_getElem?_getD, List.getElem?_take, if_pos hj'.1, ← List.getD_eq_getElem?_getD]
    exact this)
  have hl : (xs.take k).length ≤ xs.length := by simp; omega
  have : ((xs.take k).length : Int) * hi ≤ xs.length * hi := Int.mul_le_mul_of_nonneg_right (by omega) h0
  omega

def levB (xs : List Int) : Bool := inB 2 6 (xs.length : Int) && (xs.all (inB (-10) 10) && decide (xs.sum = 0))
structure Lev (xs : List Int) : Prop where
  lo : 2 ≤ xs.length
  hi : xs.length ≤ 6
  bd : ∀ j, j < xs.length → -10 ≤ xs.getD j 0 ∧ xs.getD j 0 ≤ 10
  sum : xs.sum = 0
theorem all_bd {lo hi : Int} {xs : List Int} (h : xs.all (inB lo hi) = true) (j : Nat) (hj : j < xs.length) : lo ≤ xs.getD j 0 ∧ xs.getD j 0 ≤ hi := by
  rw [List.all_eq_true] at h
  exact inB_iff.1 (h _ (by rw [List.getD_eq_getElem?_getD, List.getElem?_eq_getElem hj]; exact List.getElem_mem hj))
theorem levB_iff {xs : List Int} : levB xs = true ↔ Lev xs := by
  constructor
  · intro h
    simp only [levB, Bool.and_eq_true, decide_eq_true_eq] at h
    obtain ⟨h1, h2, h3⟩ := h
    have := inB_iff.1 h1
    exact ⟨by omega, by omega, fun j hj => all_bd h2 j hj, h3⟩
  · intro h
    simp only [levB, Bool.and_eq_true, decide_eq_true_eq]
    refine ⟨inB_iff.2 ⟨by have := h.lo; omega, by have := h.hi; omega⟩, ?_, h.sum⟩
    rw [List.all_eq_true]
    intro x hx
    obtain ⟨j, hj, rfl⟩ := List.getElem_of_mem hx
    have a := h.bd j hj
    rw [List.getD_eq_getElem?_getD, List.getElem?_eq_getElem hj] at a
    exact inB_iff.2 a
theorem lev_no_len {xs : List Int} (h : inB 2 6 (xs.length : Int) = false) : levB xs = false := by simp [levB, h]
theorem lev_no_all {xs : List Int} (h : xs.all (inB (-10) 10) = false) : levB xs = false := by simp [levB, h]
theorem lev_sum {xs : List Int} (h : inB 2 6 (xs.length : Int) = true) (h2 : xs.all (inB (-10) 10) = true) : levB xs = decide (xs.sum = 0) := by simp [levB, h, h2]

def sqSum (xs : List Int) : Nat → Int
  | 0 => 0
  | k + 1 => sqSum xs k + xs.getD k 0 * xs.getD k 0
def ixSum (xs : List Int) : Nat → Int
  | 0 => 0
  | k + 1 => ixSum xs k + (k : Int) * xs.getD k 0
theorem sq_bd {x : Int} (h : -10 ≤ x ∧ x ≤ 10) : 0 ≤ x * x ∧ x * x ≤ 100 := by
  have : x = -10 ∨ x = -9 ∨ x = -8 ∨ x = -7 ∨ x = -6 ∨ x = -5 ∨ x = -4 ∨ x = -3 ∨ x = -2 ∨ x = -1 ∨ x = 0 ∨ x = 1 ∨ x = 2 ∨ x = 3 ∨ x = 4 ∨ x = 5 ∨ x = 6 ∨ x = 7 ∨ x = 8 ∨ x = 9 ∨ x = 10 := by omega
  rcases this with rfl | rfl | rfl | rfl | rfl | rfl | rfl | rfl | rfl | rfl | rfl | rfl | rfl | rfl | rfl | rfl | rfl | rfl | rfl | rfl | rfl <;> decide
theorem sq_par (x : Int) : (x * x - x) % 2 = 0 := by
  rcases Int.emod_two_eq x with h | h
  · obtain ⟨m, rfl⟩ : ∃ m, x = 2 * m := ⟨x / 2, by omega⟩
    rw [show 2 * m * (2 * m) - 2 * m = 2 * (2 * m * m - m) by rw [Int.mul_sub]; simp only [Int.mul_assoc, Int.mul_left_comm]]
    omega
  · obtain ⟨m, rfl⟩ : ∃ m, x = 2 * m + 1 := ⟨x / 2, by omega⟩
    have e : (2 * m + 1) * (2 * m + 1) = 2 * (2 * (m * m)) + 2 * m + 2 * m + 1 := by
      rw [Int.add_mul, Int.mul_add, show 2 * m * (2 * m) = 2 * (2 * (m * m)) by simp only [Int.mul_assoc, Int.mul_left_comm]]
      omega
    rw [e]
    omega
theorem ix_bd {x : Int} (h : -10 ≤ x ∧ x ≤ 10) (k : Nat) (hk : k ≤ 6) : -60 ≤ (k : Int) * x ∧ (k : Int) * x ≤ 60 := by
  have : k = 0 ∨ k = 1 ∨ k = 2 ∨ k = 3 ∨ k = 4 ∨ k = 5 ∨ k = 6 := by omega
  rcases this with rfl | rfl | rfl | rfl | rfl | rfl | rfl <;> simp <;> omega
theorem sqSum_bd {xs : List Int} (L : Lev xs) (k : Nat) (hk : k ≤ xs.length) : 0 ≤ sqSum xs k ∧ sqSum xs k ≤ 100 * k := by
  induction k with
  | zero => simp [sqSum]
  | succ k ih =>
    have := ih (by omega)
    have := sq_bd (L.bd k (by omega))
    simp only [sqSum]; omega
theorem ixSum_bd {xs : List Int} (L : Lev xs) (k : Nat) (hk : k ≤ xs.length) : -(60 * k) ≤ ixSum xs k ∧ ixSum xs k ≤ 60 * k := by
  induction k with
  | zero => simp [ixSum]
  | succ k ih =>
    have := ih (by omega)
    have := ix_bd (L.bd k (by omega)) k (by have := L.hi; omega)
    simp only [ixSum]; omega
theorem sqSum_par (xs : List Int) (k : Nat) (hk : k ≤ xs.length) : (sqSum xs k - (xs.take k).sum) % 2 = 0 := by
  induction k with
  | zero => simp [sqSum]
  | succ k ih =>
    have := ih (by omega)
    have := sq_par (xs.getD k 0)
    rw [sum_take_succ xs k (by omega)]
    simp only [sqSum]; omega
theorem sqSum_even {xs : List Int} (L : Lev xs) : sqSum xs xs.length % 2 = 0 := by
  have := sqSum_par xs xs.length (Nat.le_refl _)
  rw [List.take_of_length_le (Nat.le_refl _), L.sum] at this
  omega
/-- The size of the core, as the program makes it. -/
def sizeL (xs : List Int) : Int := sqSum xs xs.length / 2 * xs.length + ixSum xs xs.length
def sizeF (xs : List Int) : Int := if levB xs then sizeL xs else 0
theorem half_mul {xs : List Int} (L : Lev xs) : (xs.length : Int) * sqSum xs xs.length / 2 = sqSum xs xs.length / 2 * xs.length := by
  obtain ⟨m, hm⟩ : ∃ m, sqSum xs xs.length = 2 * m := ⟨sqSum xs xs.length / 2, by have := sqSum_even L; omega⟩
  rw [hm, Int.mul_left_comm, Int.mul_ediv_cancel_left _ (by decide), Int.mul_ediv_cancel_left _ (by decide), Int.mul_comm]
theorem mul6_bd (t : Nat) (h : t ≤ 6) (s : Int) (hs : 0 ≤ s ∧ s ≤ 600) : 0 ≤ (t : Int) * s ∧ (t : Int) * s ≤ 3600 := by
  have : t = 0 ∨ t = 1 ∨ t = 2 ∨ t = 3 ∨ t = 4 ∨ t = 5 ∨ t = 6 := by omega
  rcases this with rfl | rfl | rfl | rfl | rfl | rfl | rfl <;> simp <;> omega

def turnL (xs : List Int) : List Int := fnRow xs.length fun m => -xs.getD (xs.length - 1 - m) 0
def turnF (xs : List Int) : List Int := if levB xs then turnL xs else []
theorem turnL_len (xs : List Int) : (turnL xs).length = xs.length := fnRow_len _ _
def turnK (xs : List Int) (k : Nat) : List Int := fnRow xs.length fun m => if xs.length - 1 - m < k then -xs.getD (xs.length - 1 - m) 0 else 0
theorem turnK_zero (xs : List Int) : turnK xs 0 = fnRow xs.length (fun _ => 0) := rowF_ext _ _ _ fun j _ => by simp
theorem turnK_all (xs : List Int) : turnK xs xs.length = turnL xs := rowF_ext _ _ _ fun j hj => by rw [if_pos (by omega)]
theorem turnK_len (xs : List Int) (k : Nat) : (turnK xs k).length = xs.length := fnRow_len _ _
theorem turnK_succ (xs : List Int) (k : Nat) (hk : k < xs.length) : (turnK xs k).set (xs.length - 1 - k) (-xs.getD k 0) = turnK xs (k + 1) := by
  unfold turnK
  rw [fnRow_set]
  refine rowF_ext _ _ _ fun j hj => ?_
  by_cases h : j = xs.length - 1 - k
  · subst h
    rw [if_pos rfl, if_pos (by omega), show xs.length - 1 - (xs.length - 1 - k) = k by omega]
  · rw [if_neg h]
    by_cases h2 : xs.length - 1 - j < k
    · rw [if_pos h2, if_pos (by omega)]
    · rw [if_neg h2, if_neg (by omega)]
theorem take_snoc (ys : List Int) (k : Nat) (h : k < ys.length) (x : Int) (hx : ys.getD k 0 = x) : ys.take (k + 1) = ys.take k ++ [x] := by
  rw [List.take_succ_eq_append_getElem h]
  rw [List.getD_eq_getElem?_getD, List.getElem?_eq_getElem h] at hx
  rw [← hx]; rfl
theorem bound_TurnLevels (xs : List Int) : (turnF xs).length ≤ 1048576 := by
  unfold turnF; split
  · rename_i h; have := (levB_iff.1 h).hi; rw [turnL_len]; omega
  · simp
end Go.Proofs.Ytiebnnchaopbkaa
/-
  Plain facts on the rim hook of a cell: its rows from the lowest up, and what is left of the parts without it.
-/
namespace Go.Proofs.Ytiebnnchaopbkaa

/-- The first column of the rim in a row. -/
def fr (xs : List Int) (k row : Nat) : Nat := max k (xs.getD (row + 1) 0 - 1).toNat
/-- How many cells of the rim the row has. -/
def cn (xs : List Int) (k row : Nat) : Nat := (xs.getD row 0).toNat - fr xs k row
def rimRow (xs : List Int) (k row n : Nat) : List (Nat × Nat) := (List.range n).map fun i => (row, fr xs k row + i)
/-- The cells of the d lowest rows of the rim. -/
def rimUp (xs : List Int) (k low : Nat) : Nat → List (Nat × Nat)
  | 0 => []
  | d + 1 => rimUp xs k low d ++ rimRow xs k (low - d) (cn xs k (low - d))
def rimAt (xs : List Int) (k low d i : Nat) : List (Nat × Nat) := rimUp xs k low d ++ rimRow xs k (low - d) i
theorem rimAt_zero (xs : List Int) (k low : Nat) : rimAt xs k low 0 0 = [] := rfl
theorem rimAt_succ (xs : List Int) (k low d i : Nat) : rimAt xs k low d (i + 1) = rimAt xs k low d i ++ [(low - d, fr xs k (low - d) + i)] := by
  simp [rimAt, rimRow, List.range_succ]
theorem rimAt_next (xs : List Int) (k low d : Nat) : rimAt xs k low d (cn xs k (low - d)) = rimAt xs k low (d + 1) 0 := by
  simp [rimAt, rimUp, rimRow]
theorem rimAt_up (xs : List Int) (k low d : Nat) : rimAt xs k low d 0 = rimUp xs k low d := by simp [rimAt, rimRow]
theorem rimRow_len (xs : List Int) (k row n : Nat) : (rimRow xs k row n).length = n := by simp [rimRow]
theorem rimUp_len (xs : List Int) (k low : Nat) (h : ∀ j, j < xs.length → xs.getD j 0 ≤ 30) : ∀ d, (rimUp xs k low d).length ≤ 30 * d
  | 0 => by simp [rimUp]
  | d + 1 => by
    have ih := rimUp_len xs k low h d
    simp only [rimUp, List.length_append, rimRow_len]
    have : cn xs k (low - d) ≤ 30 := by
      unfold cn
      by_cases hh : low - d < xs.length
      · have := h _ hh; omega
      · rw [List.getD_eq_getElem?_getD, List.getElem?_eq_none (by omega)]; simp
    omega
theorem rimAt_len (xs : List Int) (k low d i : Nat) : (rimAt xs k low d i).length = (rimUp xs k low d).length + i := by simp [rimAt, rimRow_len]

structure RimOK (xs : List Int) (r k low : Nat) : Prop where
  good : Good xs
  low_lt : low < xs.length
  r_le : r ≤ low
  tall : ∀ j, j ≤ low → (k : Int) < xs.getD j 0
  short : low + 1 < xs.length → xs.getD (low + 1) 0 ≤ k
  col : colH xs k = low + 1
theorem tall_ex (xs : List Int) (k : Int) : ∀ m, m ≤ xs.length → ∃ n, n ≤ m ∧ (∀ j, j < n → k < xs.getD j 0) ∧ (n < m → xs.getD n 0 ≤ k)
  | 0, _ => ⟨0, Nat.le_refl _, fun j hj => by omega, fun h => by omega⟩
  | m + 1, hm => by
    obtain ⟨n, h1, h2, h3⟩ := tall_ex xs k m (by omega)
    by_cases hn : n < m
    · exact ⟨n, by omega, h2, fun _ => h3 hn⟩
    · have e : n = m := by omega
      subst e
      by_cases hk : k < xs.getD n 0
      · refine ⟨n + 1, by omega, fun j hj => ?_, fun h => by omega⟩
        by_cases h : j < n
        · exact h2 j h
        · have : j = n := by omega
          subst this; exact hk
      · exact ⟨n, by omega, h2, fun _ => by omega⟩
theorem rim_ok {xs : List Int} (G : Good xs) {r k : Nat} (hr : r < xs.length) (hk : (k : Int) < xs.getD r 0) : RimOK xs r k ((colH xs k).toNat - 1) := by
  obtain ⟨n, h1, h2, h3⟩ := tall_ex xs k xs.length (Nat.le_refl _)
  have hc := colH_eq xs k n h1 h2 h3 G.down
  have hrn : r < n := by
    by_cases h : r < n
    · exact h
    · have hn : n < xs.length := by omega
      have a := h3 hn
      have b := down_le xs G.down n (r - n) (by omega)
      rw [show n + (r - n) = r by omega] at b
      omega
  rw [hc]
  have e : ((n : Int).toNat - 1) = n - 1 := by omega
  rw [e]
  refine ⟨G, by omega, by omega, fun j hj => h2 j (by omega), fun h => ?_, by rw [hc]; omega⟩
  rw [show n - 1 + 1 = n by omega] at h ⊢
  exact h3 h
theorem RimOK.fr_lt {xs : List Int} {r k low : Nat} (R : RimOK xs r k low) {row : Nat} (h : row ≤ low) : (fr xs k row : Int) < xs.getD row 0 := by
  have h1 := R.tall row h
  have h2 : xs.getD (row + 1) 0 ≤ xs.getD row 0 := by
    by_cases hh : row + 1 < xs.length
    · exact R.good.down row hh
    · rw [List.getD_eq_getElem?_getD, List.getElem?_eq_none (by omega)]; simp only [Option.getD_none]; omega
  unfold fr
  omega
theorem RimOK.fr_up {xs : List Int} {r k low : Nat} (R : RimOK xs r k low) {row : Nat} (h : row + 1 ≤ low) : (fr xs k row : Int) = xs.getD (row + 1) 0 - 1 := by
  have h1 := R.tall (row + 1) h
  unfold fr
  omega
theorem RimOK.fr_low {xs : List Int} {r k low : Nat} (R : RimOK xs r k low) : fr xs k low = k := by
  unfold fr
  by_cases h : low + 1 < xs.length
  · have := R.short h; omega
  · rw [List.getD_eq_getElem?_getD, List.getElem?_eq_none (by omega)]; simp
theorem RimOK.cn_pos {xs : List Int} {r k low : Nat} (R : RimOK xs r k low) {row : Nat} (h : row ≤ low) : (cn xs k row : Int) = xs.getD row 0 - fr xs k row ∧ 0 < cn xs k row := by
  have := R.fr_lt h
  unfold cn
  omega
theorem RimOK.le30 {xs : List Int} {r k low : Nat} (R : RimOK xs r k low) {row : Nat} (h : row ≤ low) : xs.getD row 0 ≤ 30 := R.good.le row (by have := R.low_lt; omega)
theorem RimOK.len {xs : List Int} {r k low : Nat} (R : RimOK xs r k low) (d i : Nat) (hd : d ≤ 30) (hi : i ≤ 30) : (rimAt xs k low d i).length ≤ 930 := by
  rw [rimAt_len]
  have := rimUp_len xs k low R.good.le d
  omega
/-- The cells of the rim hook, from its lower left end on. -/
def rimL (xs : List Int) (r k : Nat) : List (Nat × Nat) := rimUp xs k ((colH xs k).toNat - 1) ((colH xs k).toNat - r)
end Go.Proofs.Ytiebnnchaopbkaa
/-
  Plain facts on levels told by counts, and reflected ones. No program in this text.
-/
namespace Go.Proofs.Ytiebnnchaopbkaa

/-- A row that is filled from the front. -/
def rowK (n : Nat) (f : Nat → Int) (k : Nat) : List Int := fnRow n fun m => if m < k then f m else 0
theorem rowK_zero (n : Nat) (f : Nat → Int) : rowK n f 0 = fnRow n (fun _ => 0) := rowF_ext _ _ _ fun j _ => by simp
theorem rowK_all (n : Nat) (f : Nat → Int) : rowK n f n = fnRow n f := rowF_ext _ _ _ fun j hj => by rw [if_pos hj]
theorem rowK_len (n : Nat) (f : Nat → Int) (k : Nat) : (rowK n f k).length = n := fnRow_len _ _
theorem rowK_succ (n : Nat) (f : Nat → Int) (k : Nat) : (rowK n f k).set k (f k) = rowK n f (k + 1) := by
  unfold rowK
  rw [fnRow_set]
  refine rowF_ext _ _ _ fun j _ => ?_
  by_cases h : j = k
  · subst h; rw [if_pos rfl, if_pos (by omega)]
  · rw [if_neg h]
    by_cases h2 : j < k
    · rw [if_pos h2, if_pos (by omega)]
    · rw [if_neg h2, if_neg (by omega)]

def diffF (xs : List Int) (m : Nat) : Int := xs.getD m 0 - xs.getD ((m + 1) % xs.length) 0
def diffL (xs : List Int) : List Int := fnRow xs.length (diffF xs)
theorem diffL_len (xs : List Int) : (diffL xs).length = xs.length := fnRow_len _ _
def cntOk (xs : List Int) : Bool := inB 2 6 (xs.length : Int) && xs.all (inB 0 30)
def fromB (xs : List Int) : Bool := cntOk xs && levB (diffL xs)
def fromCF (xs : List Int) : List Int := if fromB xs then diffL xs else []
theorem bound_LevelsFromCounts (xs : List Int) : (fromCF xs).length ≤ 1048576 := by
  unfold fromCF; split
  · rename_i h
    simp only [fromB, Bool.and_eq_true] at h
    have := (levB_iff.1 h.2).hi; omega
  · simp
theorem fromB_c {xs : List Int} (h : cntOk xs = false) : fromB xs = false := by simp [fromB, h]
theorem cntOk_len {xs : List Int} (h : inB 2 6 (xs.length : Int) = false) : cntOk xs = false := by simp [cntOk, h]
theorem cntOk_all {xs : List Int} (h : xs.all (inB 0 30) = false) : cntOk xs = false := by simp [cntOk, h]
theorem fromB_l {xs : List Int} (h : inB 2 6 (xs.length : Int) = true) (h2 : xs.all (inB 0 30) = true) : fromB xs = levB (diffL xs) := by simp [fromB, cntOk, h, h2]
theorem fromCF_f {xs : List Int} (h : fromB xs = false) : fromCF xs = [] := by simp [fromCF, h]
theorem fromCF_t {xs : List Int} (h : fromB xs = true) : fromCF xs = diffL xs := by simp [fromCF, h]

def reflL (xs : List Int) (i : Nat) : List Int :=
  if i = 0 then (xs.set 0 (xs.getD (xs.length - 1) 0 + 1)).set (xs.length - 1) (xs.getD 0 0 - 1)
  else (xs.set (i - 1) (xs.getD i 0)).set i (xs.getD (i - 1) 0)
theorem reflL_len (xs : List Int) (i : Nat) : (reflL xs i).length = xs.length := by unfold reflL; split <;> simp
def reflA (xs : List Int) (i : Int) : Bool := levB xs && (decide (0 ≤ i) && decide (i < xs.length))
def reflB (xs : List Int) (i : Int) : Bool := reflA xs i && levB (reflL xs i.toNat)
def reflF (xs : List Int) (i : Int) : List Int := if reflB xs i then reflL xs i.toNat else []
theorem reflF_f {xs : List Int} {i : Int} (h : reflB xs i = false) : reflF xs i = [] := by simp [reflF, h]
theorem reflF_t {xs : List Int} {i : Int} (h : reflB xs i = true) : reflF xs i = reflL xs i.toNat := by simp [reflF, h]
theorem reflB_a {xs : List Int} {i : Int} (h : reflA xs i = false) : reflB xs i = false := by simp [reflB, h]
theorem reflB_l {xs : List Int} {i : Int} (h : reflA xs i = true) : reflB xs i = levB (reflL xs i.toNat) := by simp [reflB, h]
theorem reflA_lev {xs : List Int} {i : Int} (h : levB xs = false) : reflA xs i = false := by simp [reflA, h]
theorem bound_ReflectLevels (xs : List Int) (i : Int) : (reflF xs i).length ≤ 1048576 := by
  unfold reflF; split
  · rename_i h
    simp only [reflB, Bool.and_eq_true] at h
    have := (levB_iff.1 h.2).hi; omega
  · simp
end Go.Proofs.Ytiebnnchaopbkaa
/-
  Beads of partitions: their parts, and that they are beads.
-/
namespace Go.Proofs.Ytiebnnchaopbkaa

theorem getD_out {p : List Int} {k : Nat} (h : p.length ≤ k) : p.getD k 0 = 0 := by rw [List.getD_eq_getElem?_getD, List.getElem?_eq_none h]; rfl
theorem bpk_beads {p : List Int} (G : Good p) {n : Nat} : ∀ k, k ≤ n → bpk (beadsL p n) k = p.take k
  | 0, _ => rfl
  | k + 1, h => by
    have ih := bpk_beads G (n := n) k (by omega)
    have hl := beadsL_len p n
    have hx : (beadsL p n).getD (n - 1 - k) 0 = bead p n (n - 1 - k) := fnRow_get _ _ _ (by omega)
    have hb : bead p n (n - 1 - k) = ((n - 1 - k : Nat) : Int) + p.getD k 0 := by unfold bead; rw [show n - 1 - (n - 1 - k) = k by omega]
    by_cases hk : k < p.length
    · have h1 := G.pos k hk
      rw [bpk_yes (i := n - 1 - k) (x := bead p n (n - 1 - k)) (by rw [hl]) hx.symm (by rw [hb]; omega), ih, take_snoc p k hk _ rfl, hb]
      congr 2; omega
    · have h0 := getD_out (p := p) (k := k) (by omega)
      rw [bpk_no (i := n - 1 - k) (x := bead p n (n - 1 - k)) (by rw [hl]) hx.symm (by rw [hb]; omega), ih, List.take_of_length_le (by omega), List.take_of_length_le (by omega)]
theorem partsL_beads {p : List Int} (G : Good p) {n : Nat} (h : p.length ≤ n) : partsL (beadsL p n) = p := by
  unfold partsL; rw [bpk_beads G _ (by rw [beadsL_len]; exact Nat.le_refl _), beadsL_len, List.take_of_length_le h]
theorem part_down {p : List Int} (G : Good p) (i : Nat) : p.getD (i + 1) 0 ≤ p.getD i 0 := by
  by_cases h : i + 1 < p.length
  · exact G.down i h
  · rw [getD_out (k := i + 1) (by omega)]
    by_cases h2 : i < p.length
    · have := G.pos i h2; omega
    · rw [getD_out (k := i) (by omega)]; omega
/-- The beads of a partition are beads. -/
theorem beadsL_goodB {p : List Int} (G : Good p) {n : Nat} (h : p.length ≤ n) (hn : n ≤ 40) : goodB (beadsL p n) = true := by
  refine goodB_iff.2 ⟨by rw [beadsL_len]; exact hn, ⟨fun j hj => ?_, fun j hj => ?_⟩, by rw [partsL_beads G h]; exact G⟩
  · rw [beadsL_len] at hj
    rw [show (beadsL p n).getD j 0 = bead p n j from fnRow_get _ _ _ hj]
    have := bead_bd G n j hj hn; omega
  · rw [beadsL_len] at hj
    rw [show (beadsL p n).getD j 0 = bead p n j from fnRow_get _ _ _ (by omega), show (beadsL p n).getD (j + 1) 0 = bead p n (j + 1) from fnRow_get _ _ _ hj]
    unfold bead
    have := part_down G (n - 1 - (j + 1))
    rw [show n - 1 - (j + 1) + 1 = n - 1 - j by omega] at this
    omega
end Go.Proofs.Ytiebnnchaopbkaa
/-
  Plain facts: a partition without a rim hook, as the program takes it away cell by cell, and as the model tells it.
-/
namespace Go.Proofs.Ytiebnnchaopbkaa

def decs (xs : List Int) (L : List (Nat × Nat)) : List Int := L.foldl (fun a q => a.set q.1 (a.getD q.1 0 - 1)) xs
theorem decs_nil (xs : List Int) : decs xs [] = xs := rfl
theorem decs_snoc (xs : List Int) (L : List (Nat × Nat)) (q : Nat × Nat) : decs xs (L ++ [q]) = (decs xs L).set q.1 ((decs xs L).getD q.1 0 - 1) := by simp [decs]
theorem getD_set (xs : List Int) (i j : Nat) (v : Int) (h : i < xs.length) : (xs.set i v).getD j 0 = if j = i then v else xs.getD j 0 := by
  simp only [List.getD_eq_getElem?_getD, List.getElem?_set]
  by_cases e : i = j
  · subst e; simp [h]
  · rw [if_neg e, if_neg (by omega)]
theorem snocInd {P : List (Nat × Nat) → Prop} (h0 : P []) (h1 : ∀ L q, P L → P (L ++ [q])) (L : List (Nat × Nat)) : P L := by
  have key : ∀ M : List (Nat × Nat), P M.reverse := by
    intro M
    induction M with
    | nil => exact h0
    | cons q t ih => rw [List.reverse_cons]; exact h1 _ _ ih
  have := key L.reverse
  rwa [List.reverse_reverse] at this
theorem decs_len (xs : List Int) (L : List (Nat × Nat)) : (decs xs L).length = xs.length := by
  refine snocInd (P := fun L => (decs xs L).length = xs.length) rfl (fun L q ih => ?_) L
  rw [decs_snoc, List.length_set, ih]
def cntR (L : List (Nat × Nat)) (row : Nat) : Nat := (L.filter fun q => decide (q.1 = row)).length
theorem decs_get (xs : List Int) (L : List (Nat × Nat)) (row : Nat) (h : ∀ q ∈ L, q.1 < xs.length) : (decs xs L).getD row 0 = xs.getD row 0 - cntR L row := by
  revert h
  refine snocInd (P := fun L => (∀ q ∈ L, q.1 < xs.length) → (decs xs L).getD row 0 = xs.getD row 0 - cntR L row) (fun _ => by simp [decs, cntR]) (fun L q ih h => ?_) L
  have ih := ih fun q' hq => h q' (List.mem_append_left _ hq)
  have hq := h q (List.mem_append_right _ (List.mem_singleton.2 rfl))
  rw [decs_snoc, getD_set _ _ _ _ (by rw [decs_len]; exact hq)]
  unfold cntR at ih ⊢
  rw [List.filter_append, List.length_append]
  by_cases e : row = q.1
  · subst e
    rw [if_pos rfl, ih]
    simp only [List.filter_cons, List.filter_nil, decide_true, if_true, List.length_singleton]
    omega
  · have e2 : ¬ q.1 = row := fun h => e h.symm
    rw [if_neg e, ih]
    simp only [List.filter_cons, List.filter_nil, e2, decide_false, Bool.false_eq_true, if_false, List.length_nil]
    omega
theorem rimUp_mem (xs : List Int) (k low : Nat) : ∀ d, ∀ q ∈ rimUp xs k low d, q.1 ≤ low
  | 0, q, h => by simp [rimUp] at h
  | d + 1, q, h => by
    simp only [rimUp, List.mem_append, rimRow, List.mem_map, List.mem_range] at h
    rcases h with h | ⟨i, _, rfl⟩
    · exact rimUp_mem xs k low d q h
    · simp
theorem cntR_rimUp (xs : List Int) (k low row : Nat) : ∀ d, d ≤ low + 1 → cntR (rimUp xs k low d) row = if row ≤ low ∧ low < row + d then cn xs k row else 0
  | 0, _ => by rw [if_neg (by omega)]; rfl
  | d + 1, hd => by
    have ih := cntR_rimUp xs k low row d (by omega)
    unfold cntR at ih ⊢
    simp only [rimUp, List.filter_append, List.length_append, ih]
    by_cases e : row = low - d
    · subst e
      rw [if_neg (by omega), if_pos (by omega)]
      have : (rimRow xs k (low - d) (cn xs k (low - d))).filter (fun q => decide (q.1 = low - d)) = rimRow xs k (low - d) (cn xs k (low - d)) := by
        rw [List.filter_eq_self]
        intro q hq
        simp only [rimRow, List.mem_map] at hq
        obtain ⟨i, _, rfl⟩ := hq
        simp
      rw [this, rimRow_len]; omega
    · have : (rimRow xs k (low - d) (cn xs k (low - d))).filter (fun q => decide (q.1 = row)) = [] := by
        rw [List.filter_eq_nil_iff]
        intro q hq
        simp only [rimRow, List.mem_map] at hq
        obtain ⟨i, _, rfl⟩ := hq
        simp; omega
      rw [this]
      by_cases h1 : row ≤ low ∧ low < row + d
      · rw [if_pos h1, if_pos (by omega)]; rfl
      · rw [if_neg h1, if_neg (by omega)]; rfl

/-- What is left of a row. -/
def rest (xs : List Int) (r k low row : Nat) : Int := if r ≤ row ∧ row ≤ low then (fr xs k row : Int) else xs.getD row 0
def restL (xs : List Int) (r k low : Nat) : List Int := (List.range xs.length).map (rest xs r k low)
def outL (xs : List Int) (r k low : Nat) : List Int := (restL xs r k low).filter fun n => decide (0 < n)
theorem restL_len (xs : List Int) (r k low : Nat) : (restL xs r k low).length = xs.length := by simp [restL]
theorem restL_get (xs : List Int) (r k low row : Nat) (h : row < xs.length) : (restL xs r k low).getD row 0 = rest xs r k low row := by simp [restL, List.getD, h]
theorem ext_getD {xs ys : List Int} (hl : xs.length = ys.length) (h : ∀ j, j < xs.length → xs.getD j 0 = ys.getD j 0) : xs = ys := by
  apply List.ext_getElem hl
  intro j h1 h2
  have := h j h1
  simpa [List.getD, h1, h2] using this
theorem RimOK.decs {xs : List Int} {r k low : Nat} (R : RimOK xs r k low) : decs xs (rimUp xs k low (low + 1 - r)) = restL xs r k low := by
  refine ext_getD (by rw [decs_len, restL_len]) fun j hj => ?_
  rw [decs_len] at hj
  rw [decs_get _ _ _ fun q hq => by have := rimUp_mem xs k low _ q hq; have := R.low_lt; omega, restL_get _ _ _ _ _ hj, cntR_rimUp _ _ _ _ _ (by have := R.r_le; omega)]
  have := R.r_le
  unfold rest
  by_cases h : r ≤ j ∧ j ≤ low
  · rw [if_pos (by omega), if_pos h]
    have := R.cn_pos h.2
    omega
  · rw [if_neg (by omega), if_neg h]; simp
theorem RimOK.rest_pos {xs : List Int} {r k low : Nat} (R : RimOK xs r k low) {j : Nat} (hj : j < xs.length) : 0 ≤ rest xs r k low j ∧ rest xs r k low j ≤ 30 := by
  have h1 := R.good.pos j hj
  have h2 := R.good.le j hj
  unfold rest
  split
  · rename_i h
    have := R.fr_lt h.2
    omega
  · omega
theorem RimOK.rest_down {xs : List Int} {r k low : Nat} (R : RimOK xs r k low) {j : Nat} (hj : j + 1 < xs.length) : rest xs r k low (j + 1) ≤ rest xs r k low j := by
  have hd := R.good.down j hj
  have hrl := R.r_le
  unfold rest
  by_cases h : r ≤ j ∧ j ≤ low
  · rw [if_pos h]
    by_cases h2 : j + 1 ≤ low
    · rw [if_pos (by omega), R.fr_up h2]
      have := R.fr_lt h2
      omega
    · rw [if_neg (by omega)]
      have e : j = low := by omega
      subst e
      rw [R.fr_low]
      exact R.short hj
  · rw [if_neg h]
    by_cases h2 : r ≤ j + 1 ∧ j + 1 ≤ low
    · rw [if_pos h2]
      have := R.fr_lt h2.2
      omega
    · rw [if_neg h2]; exact hd
/-- Where the rows without cells begin: all that is left stands ahead. -/
theorem RimOK.out_take {xs : List Int} {r k low : Nat} (R : RimOK xs r k low) {m : Nat} (hm : m ≤ xs.length) (hz : ∀ j, m ≤ j → j < xs.length → rest xs r k low j = 0) (hp : 0 < m → rest xs r k low (m - 1) ≠ 0) :
    (restL xs r k low).take m = outL xs r k low := by
  have hdown : ∀ d j, j + d < xs.length → rest xs r k low (j + d) ≤ rest xs r k low j := by
    intro d
    induction d with
    | zero => intro j _; exact Int.le_refl _
    | succ d ih => intro j h; have a := ih j (by omega); have b := R.rest_down (j := j + d) (by omega); rw [show j + (d + 1) = j + d + 1 by omega]; omega
  unfold outL
  conv => rhs; rw [← List.take_append_drop m (restL xs r k low)]
  rw [List.filter_append]
  have h1 : ((restL xs r k low).take m).filter (fun n => decide (0 < n)) = (restL xs r k low).take m := by
    rw [List.filter_eq_self]
    intro n hn
    obtain ⟨j, hj, rfl⟩ := List.getElem_of_mem hn
    rw [List.length_take, restL_len] at hj
    have e : ((restL xs r k low).take m)[j]'(by rw [List.length_take, restL_len]; omega) = rest xs r k low j := by simp [restL]
    rw [e]
    have a := hdown (m - 1 - j) j (by omega)
    rw [show j + (m - 1 - j) = m - 1 by omega] at a
    have b := hp (by omega)
    have c := R.rest_pos (j := m - 1) (by omega)
    simp; omega
  have h2 : ((restL xs r k low).drop m).filter (fun n => decide (0 < n)) = [] := by
    rw [List.filter_eq_nil_iff]
    intro n hn
    obtain ⟨j, hj, rfl⟩ := List.getElem_of_mem hn
    rw [List.length_drop, restL_len] at hj
    have e : ((restL xs r k low).drop m)[j]'(by rw [List.length_drop, restL_len]; omega) = rest xs r k low (m + j) := by simp [restL]
    rw [e, hz (m + j) (by omega) (by omega)]
    simp
  rw [h1, h2, List.append_nil]
/-- The model's list, when the first j rows are done. -/
def outK (xs : List Int) (r k low j : Nat) : List Int := ((restL xs r k low).take j).filter fun n => decide (0 < n)
theorem outK_all (xs : List Int) (r k low : Nat) : outK xs r k low xs.length = outL xs r k low := by unfold outK outL; rw [List.take_of_length_le (by rw [restL_len]; exact Nat.le_refl _)]
theorem outK_len (xs : List Int) (r k low j : Nat) : (outK xs r k low j).length ≤ j := by
  unfold outK
  refine Nat.le_trans (List.length_filter_le _ _) ?_
  rw [List.length_take]; omega
theorem outK_yes (xs : List Int) (r k low j : Nat) (h : j < xs.length) (hp : 0 < rest xs r k low j) : outK xs r k low (j + 1) = outK xs r k low j ++ [rest xs r k low j] := by
  unfold outK
  have e : (restL xs r k low)[j]'(by rw [restL_len]; exact h) = rest xs r k low j := by simp [restL]
  rw [List.take_succ_eq_append_getElem (by rw [restL_len]; exact h), e, List.filter_append]
  simp [hp]
theorem outK_no (xs : List Int) (r k low j : Nat) (h : j < xs.length) (hp : ¬ 0 < rest xs r k low j) : outK xs r k low (j + 1) = outK xs r k low j := by
  unfold outK
  have e : (restL xs r k low)[j]'(by rw [restL_len]; exact h) = rest xs r k low j := by simp [restL]
  rw [List.take_succ_eq_append_getElem (by rw [restL_len]; exact h), e, List.filter_append]
  simp [hp]
end Go.Proofs.Ytiebnnchaopbkaa
namespace Go.Proofs.Ytiebnnchaopbkaa
theorem rim_first {xs : List Int} {r k low : Nat} (R : RimOK xs r k low) : 0 < (rimUp xs k low (low + 1 - r)).length ∧ ((rimUp xs k low (low + 1 - r)).getD 0 (0, 0)).1 = low := by
  have key : ∀ d, 0 < (rimUp xs k low (d + 1)).length ∧ ((rimUp xs k low (d + 1)).getD 0 (0, 0)).1 = low := by
    intro d
    induction d with
    | zero =>
      have h := (R.cn_pos (Nat.le_refl low)).2
      simp only [rimUp, List.nil_append, Nat.sub_zero]
      refine ⟨by rw [rimRow_len]; exact h, ?_⟩
      rw [List.getD_eq_getElem?_getD, rimRow, List.getElem?_map, List.getElem?_range h]; rfl
    | succ d ih =>
      have e : rimUp xs k low (d + 1 + 1) = rimUp xs k low (d + 1) ++ rimRow xs k (low - (d + 1)) (cn xs k (low - (d + 1))) := rfl
      rw [e, List.length_append]
      refine ⟨by omega, ?_⟩
      rw [List.getD_eq_getElem?_getD, List.getElem?_append_left ih.1, ← List.getD_eq_getElem?_getD]
      exact ih.2
  have := R.r_le
  rw [show low + 1 - r = (low - r) + 1 by omega]
  exact key (low - r)
end Go.Proofs.Ytiebnnchaopbkaa
