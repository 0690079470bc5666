/-
  Several texts in one.
-/
import Derived.Test.YtkbdlhmkiolegaaCA
/-
  Plain facts on partitions with a cell more, on chains and on cycles. No program in this text.
-/
namespace Go.Proofs.Ytkbdlhmkiolegaa

/-- p with a cell more at the end of the row r, which may be the one behind the last. -/
def incL (p : List Int) (r : Nat) : List Int := if r = p.length then p ++ [1] else p.set r (p.getD r 0 + 1)
theorem inc_len (p : List Int) (r : Nat) : (incL p r).length = if r = p.length then p.length + 1 else p.length := by unfold incL; split <;> simp
theorem inc_get (p : List Int) (r : Nat) (hr : r ≤ p.length) (j : Nat) : (incL p r).getD j 0 = p.getD j 0 + (if j = r then 1 else 0) := by
  unfold incL
  split
  · rename_i h
    subst h
    rcases Nat.lt_trichotomy j p.length with h | h | h
    · rw [if_neg (by omega)]; simp [List.getD, List.getElem?_append_left h]
    · subst h; simp [List.getD]
    · rw [if_neg (by omega)]
      rw [List.getD_eq_getElem?_getD, List.getElem?_eq_none (by simp; omega), List.getD_eq_getElem?_getD, List.getElem?_eq_none (by omega)]; rfl
  · rename_i h
    have hlt : r < p.length := by omega
    by_cases hj : j = r
    · subst hj; simp [List.getD, hlt]
    · rw [if_neg hj]; simp [List.getD, Ne.symm hj]
theorem sum_set (p : List Int) (r : Nat) (h : r < p.length) (x : Int) : (p.set r x).sum = p.sum + x - p.getD r 0 := by
  induction p generalizing r with
  | nil => simp at h
  | cons y t ih =>
    cases r with
    | zero => simp; omega
    | succ r =>
      have := ih r (by simpa using h)
      simp only [List.set_cons_succ, List.sum_cons, List.getD_cons_succ]
      omega
theorem inc_sum (p : List Int) (r : Nat) (hr : r ≤ p.length) : (incL p r).sum = p.sum + 1 := by
  unfold incL
  split
  · simp
  · rw [sum_set p r (by omega)]; omega
/-- What is written: a zero behind p, and one more in the row r; the zero is left out again. -/
theorem inc_more (p : List Int) (r : Nat) (hr : r ≤ p.length) : (incL p r).length ≤ p.length + 1 ∧ ((p ++ [0]).set r ((p ++ [0]).getD r 0 + 1)).take (incL p r).length = incL p r ∧ ((p ++ [0]).set r ((p ++ [0]).getD r 0 + 1)).length = p.length + 1 := by
  refine ⟨by rw [inc_len]; split <;> omega, ?_, by simp⟩
  unfold incL
  split
  · rename_i h
    subst h
    rw [List.take_of_length_le (by simp)]
    simp [List.getD]
  · rename_i h
    have hlt : r < p.length := by omega
    rw [List.set_append_left _ _ hlt, List.take_append_of_le_length (by simp), List.take_of_length_le (by simp)]
    simp [List.getD, List.getElem?_append_left hlt]
theorem len_sum (p : List Int) (h : ∀ j, j < p.length → 1 ≤ p.getD j 0) : (p.length : Int) ≤ p.sum := by
  induction p with
  | nil => simp
  | cons x t ih =>
    have h0 := h 0 (by simp)
    have := ih (fun j hj => by simpa using h (j + 1) (by simp; omega))
    simp only [List.getD_cons_zero] at h0
    simp only [List.length_cons, List.sum_cons]; omega
theorem sum_nn (p : List Int) (h : ∀ j, j < p.length → 0 ≤ p.getD j 0) : 0 ≤ p.sum := by
  induction p with
  | nil => simp
  | cons x t ih =>
    have h0 := h 0 (by simp)
    have := ih (fun j hj => by simpa using h (j + 1) (by simp; omega))
    simp only [List.getD_cons_zero] at h0
    simp only [List.sum_cons]; omega
theorem part_sum (p : List Int) (h : ∀ j, j < p.length → 0 ≤ p.getD j 0) (j : Nat) (hj : j < p.length) : p.getD j 0 ≤ p.sum := by
  induction p generalizing j with
  | nil => simp at hj
  | cons x t ih =>
    have h0 := h 0 (by simp)
    have ht : ∀ j, j < t.length → 0 ≤ t.getD j 0 := fun j hj => by simpa using h (j + 1) (by simp; omega)
    have hs := sum_nn t ht
    simp only [List.getD_cons_zero] at h0
    cases j with
    | zero => simp only [List.getD_cons_zero, List.sum_cons]; omega
    | succ j =>
      have := ih ht j (by simpa using hj)
      simp only [List.getD_cons_succ, List.sum_cons]; omega
theorem Good.len_le {p : List Int} (G : Good p) : (p.length : Int) ≤ p.sum := len_sum p G.pos
theorem getD_past (p : List Int) (j : Nat) (h : p.length ≤ j) : p.getD j 0 = 0 := by rw [List.getD_eq_getElem?_getD, List.getElem?_eq_none h]; rfl
/-- A cell more makes a partition just where a cell can be added. -/
theorem inc_good {p : List Int} (G : Good p) (hs : p.sum ≤ 29) (r : Nat) (hr : r ≤ p.length) : good (incL p r) = addB p r := by
  have hll := G.len_le
  have hpos : ∀ j, j < (incL p r).length → 1 ≤ (incL p r).getD j 0 := by
    intro j hj
    rw [inc_get p r hr]
    rw [inc_len] at hj
    by_cases h : j < p.length
    · have := G.pos j h
      split <;> omega
    · have : j = r := by split at hj <;> omega
      rw [if_pos this, getD_past p j (by omega)]; omega
  have hsum := inc_sum p r hr
  have hlen : (incL p r).length ≤ 30 := by rw [inc_len]; split <;> omega
  have hle : ∀ j, j < (incL p r).length → (incL p r).getD j 0 ≤ 30 := fun j hj => by
    have := part_sum (incL p r) (fun i hi => by have := hpos i hi; omega) j hj
    omega
  cases ha : addB p r
  · cases hg : good (incL p r)
    · rfl
    · exfalso
      have G2 := (good_iff _).1 hg
      simp only [addB, Bool.or_eq_false_iff, decide_eq_false_iff_not] at ha
      have hd := G2.down (r - 1) (by rw [inc_len, if_neg ha.2.1]; omega)
      rw [show r - 1 + 1 = r by omega, inc_get p r hr, inc_get p r hr, if_pos rfl, if_neg (by omega)] at hd
      omega
  · refine (good_iff _).2 ⟨hlen, hpos, hle, fun j hj => ?_, by omega, by omega⟩
    rw [inc_get p r hr, inc_get p r hr]
    rw [inc_len] at hj
    simp only [addB, Bool.or_eq_true, decide_eq_true_eq] at ha
    by_cases h : j + 1 < p.length
    · have hd := G.down j h
      by_cases e : j + 1 = r
      · subst e
        rw [if_pos rfl, if_neg (by omega)]
        rw [show j + 1 - 1 = j by omega] at ha
        omega
      · rw [if_neg e]; split <;> omega
    · have e1 : j + 1 = p.length ∧ r = p.length := by split at hj <;> omega
      rw [getD_past p (j + 1) (by omega), if_pos (by omega), if_neg (by omega)]
      have := G.pos j (by omega)
      omega
theorem inc_Good {p : List Int} (G : Good p) (hs : p.sum ≤ 29) {r : Nat} (hr : r ≤ p.length) (h : addB p r = true) : Good (incL p r) := (good_iff _).1 (by rw [inc_good G hs r hr]; exact h)

/-- A cell can be added at the end of a row. -/
def stepB (p : List Int) (r : Int) : Bool := decide (0 ≤ r) && (decide (r ≤ (p.length : Int)) && addB p r.toNat)
theorem stepB_iff {p : List Int} {r : Int} : stepB p r = true ↔ ∃ k : Nat, r = k ∧ k ≤ p.length ∧ addB p k = true := by
  simp only [stepB, Bool.and_eq_true, decide_eq_true_eq]
  constructor
  · rintro ⟨h1, h2, h3⟩; exact ⟨r.toNat, by omega, by omega, h3⟩
  · rintro ⟨k, rfl, h2, h3⟩; exact ⟨by omega, by omega, by simpa using h3⟩
theorem stepB_nat (p : List Int) (k : Nat) : stepB p k = (decide (k ≤ p.length) && addB p k) := by
  simp [stepB]
theorem mem_add (p : List Int) (r : Int) : decide (r ∈ filt (addB p) (p.length + 1)) = stepB p r := by
  rw [Bool.eq_iff_iff, decide_eq_true_eq, stepB_iff]
  simp only [filt, List.mem_map, List.mem_filter, List.mem_range]
  constructor
  · rintro ⟨k, ⟨h1, h2⟩, rfl⟩; exact ⟨k, rfl, by omega, h2⟩
  · rintro ⟨k, rfl, h1, h2⟩; exact ⟨k, ⟨by omega, h2⟩, rfl⟩

/-- The shape of rows, beginning with p. -/
def shp : List Int → List Int → Option (List Int)
  | p, [] => some p
  | p, r :: t => if stepB p r then shp (incL p r.toNat) t else none
theorem shp_drop (p rows : List Int) (k : Nat) (h : k < rows.length) : shp p (rows.drop k) = if stepB p (rows.getD k 0) then shp (incL p (rows.getD k 0).toNat) (rows.drop (k + 1)) else none := by
  rw [drop_cons rows k h, shp]
def rowsB (rows : List Int) : Bool := decide (rows.length ≤ 12) && rows.all (inB 0 99)
def shpO (rows : List Int) : Option (List Int) := if rows.length ≤ 12 then shp [] rows else none
def shpL (rows : List Int) : List Int := (shpO rows).getD []
def shpB (rows : List Int) : Bool := (shpO rows).isSome
theorem shp_len (p rows q : List Int) (h : shp p rows = some q) : p.length ≤ q.length ∧ q.length ≤ p.length + rows.length := by
  induction rows generalizing p with
  | nil => simp [shp] at h; subst h; simp
  | cons r t ih =>
    rw [shp] at h
    split at h
    · have := ih _ h
      rw [inc_len] at this
      simp only [List.length_cons]
      split at this <;> omega
    · cases h
theorem shp_all (p rows q : List Int) (h : shp p rows = some q) : ∀ r ∈ rows, 0 ≤ r ∧ r ≤ (q.length : Int) := by
  induction rows generalizing p with
  | nil => simp
  | cons r t ih =>
    rw [shp] at h
    split at h
    · rename_i hs
      intro x hx
      rcases List.mem_cons.1 hx with rfl | hx
      · obtain ⟨k, rfl, hk, _⟩ := stepB_iff.1 hs
        have := (shp_len _ _ _ h).1
        rw [inc_len] at this
        split at this <;> omega
      · exact ih _ h x hx
    · cases h
theorem shp_good (p rows q : List Int) (h : shp p rows = some q) (G : Good p) (hs : p.sum + rows.length ≤ 30) : Good q ∧ q.sum = p.sum + rows.length := by
  induction rows generalizing p with
  | nil => simp [shp] at h; subst h; exact ⟨G, by simp⟩
  | cons r t ih =>
    rw [shp] at h
    split at h
    · rename_i hst
      obtain ⟨k, rfl, hk, ha⟩ := stepB_iff.1 hst
      simp only [Int.toNat_natCast] at h
      simp only [List.length_cons] at hs ⊢
      have hsum := inc_sum p k hk
      have := ih _ h (inc_Good G (by omega) hk ha) (by omega)
      exact ⟨this.1, by omega⟩
    · cases h
theorem good_nil : Good [] := ⟨by simp, by simp, by simp, by simp, by simp, by simp⟩
theorem shpO_none {rows : List Int} (h : rowsB rows = false) : shpO rows = none := by
  unfold shpO
  split
  · rename_i hl
    cases hs : shp [] rows with
    | none => rfl
    | some q =>
      have hq := shp_all _ _ _ hs
      have hlen := (shp_len _ _ _ hs).2
      exfalso
      simp only [rowsB, hl, decide_true, Bool.true_and] at h
      rw [List.all_eq_false] at h
      obtain ⟨x, hx, hxx⟩ := h
      have := hq x hx
      simp only [List.length_nil] at hlen
      exact hxx (inB_iff.2 ⟨this.1, by omega⟩)
  · rfl
theorem shpO_eq {rows : List Int} (h : rows.length ≤ 12) : shpO rows = shp [] rows := by simp [shpO, h]
def isChB (rows : List Int) : Bool := rowsB rows && shpB rows
theorem shpL_len (rows : List Int) : (shpL rows).length ≤ 12 := by
  unfold shpL shpO
  split
  · cases hs : shp [] rows with
    | none => simp
    | some q => have := (shp_len _ _ _ hs).2; simp at this ⊢; omega
  · simp
theorem bound_ShapeOf (xs : List Int) : (shpL xs).length ≤ 1048576 := by have := shpL_len xs; omega
end Go.Proofs.Ytkbdlhmkiolegaa
/-
  Signatures: marks of rows, what is left of them. No program in this text.
-/
namespace Go.Proofs.Ytkbdlhmkiolegaa

/-- One more mark behind those that are left. -/
def redS (st : List (Nat × Nat)) (m : Nat × Nat) : List (Nat × Nat) :=
  if m.1 = 82 ∧ 0 < st.length ∧ (st.getD (st.length - 1) (0, 0)).1 = 65 then st.take (st.length - 1) else st ++ [m]
def red (M : List (Nat × Nat)) : List (Nat × Nat) := M.foldl redS []
theorem red_nil : red [] = [] := rfl
theorem take_snoc_get {α : Type} (M : List α) (d : α) (k : Nat) (h : k < M.length) : M.take (k + 1) = M.take k ++ [M.getD k d] := by
  rw [List.take_succ_eq_append_getElem h, List.getD_eq_getElem?_getD, List.getElem?_eq_getElem h]; rfl
theorem red_take (M : List (Nat × Nat)) (k : Nat) (h : k < M.length) : red (M.take (k + 1)) = redS (red (M.take k)) (M.getD k (0, 0)) := by
  rw [take_snoc_get M (0, 0) k h]
  simp only [red, List.foldl_append, List.foldl_cons, List.foldl_nil]
theorem redS_len (st : List (Nat × Nat)) (m : Nat × Nat) : (redS st m).length ≤ st.length + 1 := by
  unfold redS; split
  · rw [List.length_take]; omega
  · simp
theorem red_snoc (M : List (Nat × Nat)) (m : Nat × Nat) : red (M ++ [m]) = redS (red M) m := by
  simp only [red, List.foldl_append, List.foldl_cons, List.foldl_nil]
theorem snoc_ind {α : Type} {P : List α → Prop} (h0 : P []) (h1 : ∀ l a, P l → P (l ++ [a])) (l : List α) : P l := by
  have : ∀ n (l : List α), l.length = n → P l := by
    intro n
    induction n with
    | zero => intro l h; rw [List.eq_nil_of_length_eq_zero h]; exact h0
    | succ n ih =>
      intro l h
      have hne : l ≠ [] := by intro e; subst e; simp at h
      rw [← List.dropLast_concat_getLast hne]
      exact h1 _ _ (ih _ (by rw [List.length_dropLast]; omega))
  exact this _ l rfl
theorem red_len (M : List (Nat × Nat)) : (red M).length ≤ M.length := by
  induction M using snoc_ind with
  | h0 => simp [red]
  | h1 l a ih => rw [red_snoc]; have := redS_len (red l) a; simp; omega
theorem red_mem (M : List (Nat × Nat)) : ∀ m, m ∈ red M → m ∈ M := by
  induction M using snoc_ind with
  | h0 => intro m h; simp [red] at h
  | h1 l a ih =>
    intro m h
    rw [red_snoc] at h
    unfold redS at h
    split at h
    · exact List.mem_append_left _ (ih m (List.mem_of_mem_take h))
    · rcases List.mem_append.1 h with h | h
      · exact List.mem_append_left _ (ih m h)
      · exact List.mem_append_right _ h
/-- Only the letters decide what is left. -/
theorem redS_map (f : Nat → Nat) (st : List (Nat × Nat)) (m : Nat × Nat) : redS (st.map fun q => (q.1, f q.2)) (m.1, f m.2) = (redS st m).map fun q => (q.1, f q.2) := by
  have e : ∀ k, k < st.length → ((st.map fun q => (q.1, f q.2)).getD k (0, 0)).1 = (st.getD k (0, 0)).1 := by
    intro k hk
    simp [List.getD, hk]
  unfold redS
  rw [List.length_map]
  by_cases h0 : 0 < st.length
  · rw [e _ (by omega)]
    split
    · rw [List.map_take]
    · simp
  · rw [if_neg (fun h => h0 h.2.1), if_neg (fun h => h0 h.2.1)]; simp
theorem red_map (f : Nat → Nat) (M : List (Nat × Nat)) : red (M.map fun q => (q.1, f q.2)) = (red M).map fun q => (q.1, f q.2) := by
  induction M using snoc_ind with
  | h0 => rfl
  | h1 l a ih => rw [List.map_append, List.map_cons, List.map_nil, red_snoc, ih, redS_map, red_snoc]

/-! The letter of a row. -/
def sgB (xs : List Int) (t : Nat) (i : Int) (r : Nat) : Nat :=
  if addB xs r = true ∧ (xs.getD r 0 - r) % (t : Int) = i then 65
  else if (r < xs.length ∧ corB xs r = true) ∧ (xs.getD r 0 - 1 - r) % (t : Int) = i then 82 else 0
def sgM (xs : List Int) (t : Nat) (i : Int) : Nat → List (Nat × Nat)
  | 0 => []
  | k + 1 => if sgB xs t i k = 0 then sgM xs t i k else sgM xs t i k ++ [(sgB xs t i k, k)]
def sig (xs : List Int) (t : Nat) (i : Int) : List (Nat × Nat) := sgM xs t i (xs.length + 1)
theorem sgM_no {xs : List Int} {t : Nat} {i : Int} {k : Nat} (h : sgB xs t i k = 0) : sgM xs t i (k + 1) = sgM xs t i k := if_pos h
theorem sgM_yes {xs : List Int} {t : Nat} {i : Int} {k : Nat} (h : sgB xs t i k ≠ 0) : sgM xs t i (k + 1) = sgM xs t i k ++ [(sgB xs t i k, k)] := if_neg h
theorem sgM_len (xs : List Int) (t : Nat) (i : Int) (k : Nat) : (sgM xs t i k).length ≤ k := by
  induction k with
  | zero => simp [sgM]
  | succ k ih =>
    by_cases h : sgB xs t i k = 0
    · rw [sgM_no h]; omega
    · rw [sgM_yes h]; simp; omega
theorem sgB_cases (xs : List Int) (t : Nat) (i : Int) (r : Nat) : sgB xs t i r = 65 ∨ sgB xs t i r = 82 ∨ sgB xs t i r = 0 := by
  unfold sgB; split
  · exact .inl rfl
  · split
    · exact .inr (.inl rfl)
    · exact .inr (.inr rfl)
theorem sgM_mem {xs : List Int} {t : Nat} {i : Int} : ∀ {k : Nat} {m : Nat × Nat}, m ∈ sgM xs t i k → m.2 < k ∧ m.1 = sgB xs t i m.2 ∧ m.1 ≠ 0
  | 0, m, h => by simp [sgM] at h
  | k + 1, m, h => by
    by_cases hs : sgB xs t i k = 0
    · rw [sgM_no hs] at h
      obtain ⟨a, b, c⟩ := sgM_mem h
      exact ⟨by omega, b, c⟩
    · rw [sgM_yes hs] at h
      rcases List.mem_append.1 h with h | h
      · obtain ⟨a, b, c⟩ := sgM_mem h
        exact ⟨by omega, b, c⟩
      · simp at h; subst h; exact ⟨by simp, rfl, hs⟩
theorem add_cor {xs : List Int} {t : Nat} {i : Int} {r : Nat} (ht : 2 ≤ t) (h : (xs.getD r 0 - r) % (t : Int) = i) : (xs.getD r 0 - 1 - r) % (t : Int) ≠ i := by
  intro h2
  have e1 := Int.mul_ediv_add_emod (xs.getD r 0 - r) t
  have e2 := Int.mul_ediv_add_emod (xs.getD r 0 - 1 - r) t
  obtain ⟨a, ha⟩ : ∃ a, a = (xs.getD r 0 - r) / (t : Int) := ⟨_, rfl⟩
  obtain ⟨b, hb⟩ : ∃ b, b = (xs.getD r 0 - 1 - r) / (t : Int) := ⟨_, rfl⟩
  rw [h, ← ha] at e1
  rw [h2, ← hb] at e2
  have e3 : (t : Int) * (a - b) = 1 := by rw [Int.mul_sub]; omega
  have := Int.le_of_dvd (by omega) ⟨a - b, e3.symm⟩
  omega
theorem Good.part {xs : List Int} (G : Good xs) (k : Nat) : 0 ≤ xs.getD k 0 ∧ xs.getD k 0 ≤ 30 := by
  by_cases h : k < xs.length
  · have := G.pos k h; have := G.le k h; omega
  · rw [List.getD_eq_getElem?_getD, List.getElem?_eq_none (by omega)]; simp
theorem getD_beyond {xs : List Int} {k : Nat} (h : xs.length ≤ k) : xs.getD k 0 = 0 := by
  rw [List.getD_eq_getElem?_getD, List.getElem?_eq_none h]; rfl
theorem add_iff {xs : List Int} (G : Good xs) {r : Nat} : addB xs r = true ↔ r = 0 ∨ xs.getD r 0 < xs.getD (r - 1) 0 := by
  unfold addB
  simp only [Bool.or_eq_true, decide_eq_true_eq]
  constructor
  · rintro (h | h | h)
    · exact .inl h
    · by_cases h0 : r = 0
      · exact .inl h0
      · rw [h, getD_beyond (Nat.le_refl _)]
        have := G.pos (xs.length - 1) (by omega)
        exact .inr (by omega)
    · exact .inr h
  · rintro (h | h)
    · exact .inl h
    · exact .inr (.inr h)
theorem cor_iff {xs : List Int} (G : Good xs) {r : Nat} : (r < xs.length ∧ corB xs r = true) ↔ xs.getD (r + 1) 0 < xs.getD r 0 := by
  unfold corB
  simp only [Bool.or_eq_true, decide_eq_true_eq]
  constructor
  · rintro ⟨h1, h | h⟩
    · rw [getD_beyond (show xs.length ≤ r + 1 by omega)]
      have := G.pos r h1
      omega
    · exact h
  · intro h
    refine ⟨?_, .inr h⟩
    apply Classical.byContradiction
    intro h1
    rw [getD_beyond (show xs.length ≤ r by omega), getD_beyond (show xs.length ≤ r + 1 by omega)] at h
    omega
theorem sgB_eq {xs : List Int} (G : Good xs) {t : Nat} {i : Int} {r : Nat} :
    sgB xs t i r = if (r = 0 ∨ xs.getD r 0 < xs.getD (r - 1) 0) ∧ (xs.getD r 0 - r) % (t : Int) = i then 65
      else if xs.getD (r + 1) 0 < xs.getD r 0 ∧ (xs.getD r 0 - 1 - r) % (t : Int) = i then 82 else 0 := by
  unfold sgB
  simp only [add_iff G, cor_iff G]

/-! The letters and the rows of marks; the letters of a text with their indices. -/
def rws (M : List (Nat × Nat)) : List Int := M.map fun q => (q.2 : Int)
def ltrs (M : List (Nat × Nat)) : List UInt8 := M.map fun q => UInt8.ofNat q.1
def idx (l : List UInt8) : List (Nat × Nat) := (List.range l.length).map fun k => ((l.getD k 0).toNat, k)
theorem rws_len (M : List (Nat × Nat)) : (rws M).length = M.length := by simp [rws]
theorem ltrs_len (M : List (Nat × Nat)) : (ltrs M).length = M.length := by simp [ltrs]
theorem idx_len (l : List UInt8) : (idx l).length = l.length := by simp [idx]
theorem rws_get (M : List (Nat × Nat)) (k : Nat) (h : k < M.length) : (rws M).getD k 0 = ((M.getD k (0, 0)).2 : Int) := by simp [rws, List.getD, h]
theorem idx_get (l : List UInt8) (k : Nat) (h : k < l.length) : (idx l).getD k (0, 0) = ((l.getD k 0).toNat, k) := by simp [idx, List.getD, h]
theorem idx_mem {l : List UInt8} {m : Nat × Nat} (h : m ∈ idx l) : m.2 < l.length ∧ m.1 = (l.getD m.2 0).toNat := by
  simp only [idx, List.mem_map, List.mem_range] at h
  obtain ⟨k, hk, rfl⟩ := h
  exact ⟨hk, rfl⟩
theorem rws_take (M : List (Nat × Nat)) (k : Nat) : rws (M.take k) = (rws M).take k := by simp [rws, List.map_take]
theorem rws_snoc (M : List (Nat × Nat)) (m : Nat × Nat) : rws (M ++ [m]) = rws M ++ [(m.2 : Int)] := by simp [rws]
theorem ltrs_snoc (M : List (Nat × Nat)) (m : Nat × Nat) : ltrs (M ++ [m]) = ltrs M ++ [UInt8.ofNat m.1] := by simp [ltrs]
theorem memD_ar {α : Type} {M : List α} {d : α} {k : Nat} (h : k < M.length) : M.getD k d ∈ M := by
  rw [List.getD_eq_getElem?_getD, List.getElem?_eq_getElem h]; exact List.getElem_mem h
/-- The text's letters, with their rows again. -/
theorem idx_rows (M : List (Nat × Nat)) (hM : ∀ m ∈ M, m.1 < 256) : (idx (ltrs M)).map (fun q => (q.1, ((rws M).getD q.2 0).toNat)) = M := by
  apply List.ext_getElem?
  intro k
  by_cases h : k < M.length
  · have h1 := hM M[k] (List.getElem_mem h)
    simp [idx, ltrs, rws, List.getD, h, Nat.mod_eq_of_lt h1]
  · rw [List.getElem?_eq_none (by simp [idx_len, ltrs_len]; omega), List.getElem?_eq_none (by omega)]
theorem red_rows (M : List (Nat × Nat)) (hM : ∀ m ∈ M, m.1 < 256) : (red (idx (ltrs M))).map (fun q => (q.1, ((rws M).getD q.2 0).toNat)) = red M := by
  have h := red_map (fun k => ((rws M).getD k 0).toNat) (idx (ltrs M))
  rw [← h, idx_rows M hM]
theorem sig_lt {xs : List Int} {t : Nat} {i : Int} : ∀ m ∈ sig xs t i, m.1 < 256 := by
  intro m h
  obtain ⟨_, b, _⟩ := sgM_mem h
  rcases sgB_cases xs t i m.2 with e | e | e <;> omega
theorem sig_len {xs : List Int} (t : Nat) (i : Int) : (sig xs t i).length ≤ xs.length + 1 := sgM_len _ _ _ _
theorem sig_mem {xs : List Int} {t : Nat} {i : Int} {m : Nat × Nat} (h : m ∈ sig xs t i) : m.2 ≤ xs.length ∧ (m.1 = 65 ∨ m.1 = 82) ∧ m.1 = sgB xs t i m.2 := by
  obtain ⟨a, b, c⟩ := sgM_mem h
  refine ⟨by omega, ?_, b⟩
  rcases sgB_cases xs t i m.2 with e | e | e
  · exact .inl (by omega)
  · exact .inr (by omega)
  · omega

/-! The rows of a letter; the first A, the last R. -/
def fl (L : List (Nat × Nat)) (l : Nat) : List Nat := (L.filter fun q => q.1 == l).map Prod.snd
def upR (L : List (Nat × Nat)) : Option Nat := (fl L 65).head?
def dnRr (L : List (Nat × Nat)) : Option Nat := (fl L 82).getLast?
theorem fl_app (L K : List (Nat × Nat)) (l : Nat) : fl (L ++ K) l = fl L l ++ fl K l := by simp [fl]
theorem fl_none {L : List (Nat × Nat)} {l : Nat} (h : ∀ k, k < L.length → (L.getD k (0, 0)).1 ≠ l) : fl L l = [] := by
  unfold fl
  rw [List.map_eq_nil_iff, List.filter_eq_nil_iff]
  intro q hq
  obtain ⟨k, hk, rfl⟩ := List.getElem_of_mem hq
  have := h k hk
  rw [List.getD_eq_getElem?_getD, List.getElem?_eq_getElem hk] at this
  simpa using this
theorem fl_split {L : List (Nat × Nat)} {l k : Nat} (hk : k < L.length) (h : (L.getD k (0, 0)).1 = l) : fl L l = fl (L.take k) l ++ (L.getD k (0, 0)).2 :: fl (L.drop (k + 1)) l := by
  have e : L = L.take k ++ (L.getD k (0, 0) :: L.drop (k + 1)) := by
    conv => lhs; rw [← List.take_append_drop k L]
    rw [List.drop_eq_getElem_cons hk, List.getD_eq_getElem?_getD, List.getElem?_eq_getElem hk]; rfl
  conv => lhs; rw [e]
  rw [fl_app]
  congr 1
  simp only [fl]
  rw [List.filter_cons_of_pos (by simpa using h)]; rfl
theorem upR_hit {L : List (Nat × Nat)} {k : Nat} (hk : k < L.length) (h : (L.getD k (0, 0)).1 = 65) (hb : ∀ j, j < k → (L.getD j (0, 0)).1 ≠ 65) : upR L = some (L.getD k (0, 0)).2 := by
  unfold upR
  rw [fl_split hk h, fl_none (L := L.take k)]
  · rfl
  · intro j hj
    rw [List.length_take] at hj
    have := hb j (by omega)
    rw [List.getD_eq_getElem?_getD, List.getElem?_take, if_pos (by omega), ← List.getD_eq_getElem?_getD]; exact this
theorem upR_none {L : List (Nat × Nat)} (h : ∀ j, j < L.length → (L.getD j (0, 0)).1 ≠ 65) : upR L = none := by
  unfold upR; rw [fl_none h]; rfl
theorem dnR_hit {L : List (Nat × Nat)} {k : Nat} (hk : k < L.length) (h : (L.getD k (0, 0)).1 = 82) (hb : ∀ j, k < j → j < L.length → (L.getD j (0, 0)).1 ≠ 82) : dnRr L = some (L.getD k (0, 0)).2 := by
  unfold dnRr
  rw [fl_split hk h, fl_none (L := L.drop (k + 1))]
  · simp
  · intro j hj
    rw [List.length_drop] at hj
    have := hb (k + 1 + j) (by omega) (by omega)
    rw [List.getD_eq_getElem?_getD, List.getElem?_drop, ← List.getD_eq_getElem?_getD]; exact this
theorem dnR_none {L : List (Nat × Nat)} (h : ∀ j, j < L.length → (L.getD j (0, 0)).1 ≠ 82) : dnRr L = none := by
  unfold dnRr; rw [fl_none h]; rfl
theorem fl_mem {L : List (Nat × Nat)} {l r : Nat} (h : r ∈ fl L l) : (l, r) ∈ L := by
  simp only [fl, List.mem_map, List.mem_filter, beq_iff_eq] at h
  obtain ⟨q, ⟨h1, h2⟩, rfl⟩ := h
  rw [← h2]; exact h1
theorem upR_mem {L : List (Nat × Nat)} {r : Nat} (h : upR L = some r) : (65, r) ∈ L := fl_mem (List.mem_of_mem_head? h)
theorem dnR_mem {L : List (Nat × Nat)} {r : Nat} (h : dnRr L = some r) : (82, r) ∈ L := fl_mem (List.mem_of_mem_getLast? h)

/-! Partitions behind arrows. -/
def decL (p : List Int) (r : Nat) : List Int := if p.getD r 0 = 1 then p.take r else p.set r (p.getD r 0 - 1)
def auL (xs : List Int) (t : Nat) (i : Int) : List Int := match upR (red (sig xs t i)) with | some r => incL xs r | none => []
def auB (xs : List Int) (t : Nat) (i : Int) : Bool := (upR (red (sig xs t i))).isSome
def adL (xs : List Int) (t : Nat) (i : Int) : List Int := match dnRr (red (sig xs t i)) with | some r => decL xs r | none => []
def adB (xs : List Int) (t : Nat) (i : Int) : Bool := (dnRr (red (sig xs t i))).isSome
theorem au_some {xs : List Int} {t : Nat} {i : Int} {r : Nat} (h : upR (red (sig xs t i)) = some r) : auL xs t i = incL xs r ∧ auB xs t i = true := by simp [auL, auB, h]
theorem au_none {xs : List Int} {t : Nat} {i : Int} (h : upR (red (sig xs t i)) = none) : auL xs t i = [] ∧ auB xs t i = false := by simp [auL, auB, h]
theorem ad_some {xs : List Int} {t : Nat} {i : Int} {r : Nat} (h : dnRr (red (sig xs t i)) = some r) : adL xs t i = decL xs r ∧ adB xs t i = true := by simp [adL, adB, h]
theorem ad_none {xs : List Int} {t : Nat} {i : Int} (h : dnRr (red (sig xs t i)) = none) : adL xs t i = [] ∧ adB xs t i = false := by simp [adL, adB, h]
theorem sg65 {xs : List Int} (G : Good xs) {t : Nat} {i : Int} {r : Nat} (h : sgB xs t i r = 65) : (r = 0 ∨ xs.getD r 0 < xs.getD (r - 1) 0) ∧ (xs.getD r 0 - r) % (t : Int) = i := by
  rw [sgB_eq G] at h
  split at h
  · assumption
  · split at h <;> cases h
theorem sg82 {xs : List Int} (G : Good xs) {t : Nat} {i : Int} {r : Nat} (h : sgB xs t i r = 82) : xs.getD (r + 1) 0 < xs.getD r 0 ∧ (xs.getD r 0 - 1 - r) % (t : Int) = i := by
  rw [sgB_eq G] at h
  split at h
  · cases h
  · split at h
    · assumption
    · cases h
/-- The cell of an R that is left can be taken away. -/
theorem dn_ok {xs : List Int} (G : Good xs) {t : Nat} {i : Int} {r : Nat} (h : dnRr (red (sig xs t i)) = some r) : r < xs.length ∧ xs.getD (r + 1) 0 < xs.getD r 0 ∧ sgB xs t i r = 82 := by
  have hm := sig_mem (red_mem _ _ (dnR_mem h))
  obtain ⟨h1, _⟩ := sg82 G hm.2.2.symm
  refine ⟨?_, h1, hm.2.2.symm⟩
  apply Classical.byContradiction
  intro hh
  rw [getD_beyond (show xs.length ≤ r by omega), getD_beyond (show xs.length ≤ r + 1 by omega)] at h1
  omega
theorem up_ok {xs : List Int} (G : Good xs) {t : Nat} {i : Int} {r : Nat} (h : upR (red (sig xs t i)) = some r) : r ≤ xs.length ∧ (r = 0 ∨ xs.getD r 0 < xs.getD (r - 1) 0) ∧ sgB xs t i r = 65 := by
  have hm := sig_mem (red_mem _ _ (upR_mem h))
  exact ⟨hm.1, (sg65 G hm.2.2.symm).1, hm.2.2.symm⟩

/-! What the calls answer. -/
def asB (xs : List Int) (t i : Int) : Bool := good xs && (inB 2 6 t && inB 0 (t - 1) i)
theorem asB_t {xs : List Int} {t i : Int} (h : asB xs t i = true) : good xs = true ∧ Good xs ∧ (2 ≤ t ∧ t ≤ 6) ∧ (0 ≤ i ∧ i ≤ t - 1) := by
  simp only [asB, Bool.and_eq_true] at h
  exact ⟨h.1, (good_iff xs).1 h.1, inB_iff.1 h.2.1, inB_iff.1 h.2.2⟩
def upF (xs : List Int) (t i : Int) : List Int := if asB xs t i && good (auL xs t.toNat i) then auL xs t.toNat i else []
def upOk (xs : List Int) (t i : Int) : Bool := asB xs t i && (auB xs t.toNat i && good (auL xs t.toNat i))
def dnF (xs : List Int) (t i : Int) : List Int := if asB xs t i then adL xs t.toNat i else []
def dnOk8 (xs : List Int) (t i : Int) : Bool := asB xs t i && adB xs t.toNat i
def ctD (xs : List Int) (t i : Int) : Int := if asB xs t i then (fl (red (sig xs t.toNat i)) 82).length else 0
def ctU (xs : List Int) (t i : Int) : Int := if asB xs t i then (fl (red (sig xs t.toNat i)) 65).length else 0
theorem good_len {xs : List Int} (h : good xs = true) : xs.length ≤ 30 := ((good_iff xs).1 h).len
theorem bound_ArrowUp (xs : List Int) (t i : Int) : (upF xs t i).length ≤ 1048576 := by
  unfold upF; split
  · rename_i h
    simp only [Bool.and_eq_true] at h
    have := good_len h.2; omega
  · simp
theorem dec_len (p : List Int) (r : Nat) : (decL p r).length ≤ p.length := by
  unfold decL; split
  · rw [List.length_take]; omega
  · simp
theorem ad_len (xs : List Int) (t : Nat) (i : Int) : (adL xs t i).length ≤ xs.length := by
  unfold adL; split
  · exact dec_len _ _
  · simp
theorem bound_ArrowDown (xs : List Int) (t i : Int) : (dnF xs t i).length ≤ 1048576 := by
  unfold dnF; split
  · rename_i h
    have := good_len (asB_t h).1
    have := ad_len xs t.toNat i; omega
  · simp
theorem fl_count (L : List (Nat × Nat)) (h : ∀ m ∈ L, m.1 = 65 ∨ m.1 = 82) : (fl L 65).length + (fl L 82).length = L.length := by
  induction L with
  | nil => rfl
  | cons m t ih =>
    have := ih fun q hq => h q (List.mem_cons_of_mem _ hq)
    simp only [fl, List.length_map] at this ⊢
    rcases h m (List.mem_cons_self ..) with e | e
    · rw [List.filter_cons_of_pos (by simp [e]), List.filter_cons_of_neg (by simp [e])]; simp; omega
    · rw [List.filter_cons_of_neg (by simp [e]), List.filter_cons_of_pos (by simp [e])]; simp; omega
theorem fl_take_yes {L : List (Nat × Nat)} {l k : Nat} (hk : k < L.length) (h : (L.getD k (0, 0)).1 = l) : fl (L.take (k + 1)) l = fl (L.take k) l ++ [(L.getD k (0, 0)).2] := by
  rw [take_snoc_get L (0, 0) k hk, fl_app]
  congr 1
  simp only [fl]
  rw [List.filter_cons_of_pos (by simpa using h)]; rfl
theorem fl_take_no {L : List (Nat × Nat)} {l k : Nat} (hk : k < L.length) (h : (L.getD k (0, 0)).1 ≠ l) : fl (L.take (k + 1)) l = fl (L.take k) l := by
  rw [take_snoc_get L (0, 0) k hk, fl_app]
  simp only [fl]
  rw [List.filter_cons_of_neg (by simpa using h)]; simp
theorem fl_le (L : List (Nat × Nat)) (l : Nat) : (fl L l).length ≤ L.length := by
  simp only [fl, List.length_map]; exact List.length_filter_le _ _

theorem dec_last {p : List Int} (G : Good p) {r : Nat} (hr : r < p.length) (hd : p.getD (r + 1) 0 < p.getD r 0) (h : p.getD r 0 = 1) : r + 1 = p.length := by
  apply Classical.byContradiction
  intro hh
  have := G.pos (r + 1) (by omega)
  omega
theorem dec_get {p : List Int} (G : Good p) {r : Nat} (hr : r < p.length) (hd : p.getD (r + 1) 0 < p.getD r 0) (j : Nat) : (decL p r).getD j 0 = p.getD j 0 - (if j = r then 1 else 0) := by
  unfold decL
  split
  · rename_i h
    have hl := dec_last G hr hd h
    rcases Nat.lt_trichotomy j r with e | e | e
    · rw [if_neg (by omega), List.getD_eq_getElem?_getD, List.getElem?_take, if_pos e, ← List.getD_eq_getElem?_getD]; omega
    · subst e
      rw [if_pos rfl, h, getD_beyond (by rw [List.length_take]; omega)]; rfl
    · rw [if_neg (by omega), getD_beyond (by rw [List.length_take]; omega), getD_beyond (by omega)]; rfl
  · by_cases e : j = r
    · subst e; simp [List.getD, hr]
    · rw [if_neg e]; simp [List.getD, Ne.symm e]
theorem dec_sum {p : List Int} (G : Good p) {r : Nat} (hr : r < p.length) (hd : p.getD (r + 1) 0 < p.getD r 0) : (decL p r).sum = p.sum - 1 := by
  unfold decL
  split
  · rename_i h
    have hl := dec_last G hr hd h
    have e := sum_take_succ p r hr
    rw [show r + 1 = p.length from hl, List.take_of_length_le (Nat.le_refl _), h] at e
    omega
  · rw [sum_set p r hr]; omega
theorem dec_good {p : List Int} (G : Good p) {r : Nat} (hr : r < p.length) (hd : p.getD (r + 1) 0 < p.getD r 0) : Good (decL p r) := by
  have hlen := dec_len p r
  have hg := dec_get G hr hd
  have hs := dec_sum G hr hd
  have hlp := len_sum p G.pos
  have hpos : ∀ j, j < (decL p r).length → 1 ≤ (decL p r).getD j 0 := by
    intro j hj
    rw [hg]
    have h1 := G.pos j (by omega)
    split
    · rename_i e
      subst e
      by_cases h : p.getD j 0 = 1
      · unfold decL at hj
        rw [if_pos h, List.length_take] at hj; omega
      · omega
    · omega
  have := G.sum
  refine ⟨by have := G.len; omega, hpos, fun j hj => ?_, fun j hj => ?_, by omega, by omega⟩
  · rw [hg]; have := G.le j (by omega); split <;> omega
  · rw [hg, hg]
    have := G.down j (by omega)
    by_cases e : j = r
    · subst e; rw [if_pos rfl, if_neg (by omega)]; omega
    · rw [if_neg e]; split <;> omega
theorem upR_fl {L : List (Nat × Nat)} {r : Nat} (h : upR L = some r) : 0 < (fl L 65).length ∧ (fl L 65).getD 0 0 = r := by
  unfold upR at h
  cases hf : fl L 65 with
  | nil => rw [hf] at h; cases h
  | cons a t => rw [hf] at h; simp at h; subst h; simp
theorem dnR_fl {L : List (Nat × Nat)} {r : Nat} (h : dnRr L = some r) : 0 < (fl L 82).length ∧ (fl L 82).getD ((fl L 82).length - 1) 0 = r := by
  unfold dnRr at h
  rw [List.getLast?_eq_getElem?] at h
  have hlt := (List.getElem?_eq_some_iff.1 h).1
  exact ⟨by omega, by rw [List.getD_eq_getElem?_getD, h]; rfl⟩
theorem upR_no {L : List (Nat × Nat)} (h : upR L = none) : fl L 65 = [] := by
  unfold upR at h; exact List.head?_eq_none_iff.1 h
theorem dnRr_no {L : List (Nat × Nat)} (h : dnRr L = none) : fl L 82 = [] := by
  unfold dnRr at h; exact List.getLast?_eq_none_iff.1 h
end Go.Proofs.Ytkbdlhmkiolegaa
/-
  Regular partitions; partitions above others. No program in this text.
-/
namespace Go.Proofs.Ytkbdlhmkiolegaa

/-- The first k places at which s + 1 parts could be equal hold no such parts. -/
def regTo (xs : List Int) (s : Nat) : Nat → Bool
  | 0 => true
  | k + 1 => regTo xs s k && decide (¬ xs.getD k 0 = xs.getD (k + s) 0)
def regB (xs : List Int) (t : Nat) : Bool := regTo xs (t - 1) (xs.length + 1 - t)
theorem regTo_le {xs : List Int} {s : Nat} : ∀ {k j : Nat}, regTo xs s k = true → j ≤ k → regTo xs s j = true
  | 0, j, h, hj => by rw [show j = 0 by omega]; exact h
  | k + 1, j, h, hj => by
    by_cases e : j = k + 1
    · subst e; exact h
    · simp only [regTo, Bool.and_eq_true] at h
      exact regTo_le h.1 (by omega)
theorem regTo_no {xs : List Int} {s k n : Nat} (h : xs.getD k 0 = xs.getD (k + s) 0) (hk : k < n) : regTo xs s n = false := by
  cases hd : regTo xs s n
  · rfl
  · have := regTo_le hd (show k + 1 ≤ n by omega)
    simp only [regTo, Bool.and_eq_true, decide_eq_true_eq] at this
    exact absurd h this.2
theorem regTo_ne {xs : List Int} {s k n : Nat} (h : regTo xs s n = true) (hk : k < n) : xs.getD k 0 ≠ xs.getD (k + s) 0 := by
  have := regTo_le h (show k + 1 ≤ n by omega)
  simp only [regTo, Bool.and_eq_true, decide_eq_true_eq] at this
  exact this.2
theorem regB_ne {xs : List Int} {t : Nat} (h : regB xs t = true) {k : Nat} (hk : k + t ≤ xs.length) : xs.getD k 0 ≠ xs.getD (k + (t - 1)) 0 := regTo_ne h (by omega)
theorem regB_of {xs : List Int} {t : Nat} (h : ∀ k, k + t ≤ xs.length → xs.getD k 0 ≠ xs.getD (k + (t - 1)) 0) : regB xs t = true := by
  unfold regB
  have : ∀ n, n ≤ xs.length + 1 - t → regTo xs (t - 1) n = true := by
    intro n
    induction n with
    | zero => intro _; rfl
    | succ n ih =>
      intro hn
      simp only [regTo, Bool.and_eq_true, decide_eq_true_eq]
      exact ⟨ih (by omega), h n (by omega)⟩
  exact this _ (Nat.le_refl _)
def giB (xs : List Int) (t : Int) : Bool := good xs && inB 2 6 t
def rgB (xs : List Int) (t : Int) : Bool := giB xs t && regB xs t.toNat
theorem giB_t {xs : List Int} {t : Int} (h : giB xs t = true) : good xs = true ∧ inB 2 6 t = true := by
  simpa only [giB, Bool.and_eq_true] using h

/-! Partitions above others. -/
theorem sum_take_any (xs : List Int) (k : Nat) : (xs.take (k + 1)).sum = (xs.take k).sum + xs.getD k 0 := by
  by_cases h : k < xs.length
  · exact sum_take_succ xs k h
  · rw [List.take_of_length_le (by omega), List.take_of_length_le (by omega), getD_beyond (by omega)]; omega
def abTo (p q : List Int) : Nat → Bool
  | 0 => true
  | k + 1 => abTo p q k && decide ((q.take (k + 1)).sum ≤ (p.take (k + 1)).sum)
theorem abTo_le {p q : List Int} : ∀ {k j : Nat}, abTo p q k = true → j ≤ k → abTo p q j = true
  | 0, j, h, hj => by rw [show j = 0 by omega]; exact h
  | k + 1, j, h, hj => by
    by_cases e : j = k + 1
    · subst e; exact h
    · simp only [abTo, Bool.and_eq_true] at h
      exact abTo_le h.1 (by omega)
theorem abTo_no {p q : List Int} {k n : Nat} (h : ¬ (q.take (k + 1)).sum ≤ (p.take (k + 1)).sum) (hk : k < n) : abTo p q n = false := by
  cases hd : abTo p q n
  · rfl
  · have := abTo_le hd (show k + 1 ≤ n by omega)
    simp only [abTo, Bool.and_eq_true, decide_eq_true_eq] at this
    exact absurd this.2 h
theorem abTo_at {p q : List Int} {k n : Nat} (h : abTo p q n = true) (hk : k ≤ n) : (q.take k).sum ≤ (p.take k).sum := by
  cases k with
  | zero => simp
  | succ k =>
    have := abTo_le h hk
    simp only [abTo, Bool.and_eq_true, decide_eq_true_eq] at this
    exact this.2
theorem abTo_of {p q : List Int} {n : Nat} (h : ∀ k, k ≤ n → (q.take k).sum ≤ (p.take k).sum) : abTo p q n = true := by
  induction n with
  | zero => rfl
  | succ n ih =>
    simp only [abTo, Bool.and_eq_true, decide_eq_true_eq]
    exact ⟨ih fun k hk => h k (by omega), h (n + 1) (Nat.le_refl _)⟩
def abB (p q : List Int) : Bool := abTo p q (max p.length q.length) && decide (p.sum = q.sum)
theorem take_le_sum {p : List Int} (hp : ∀ j, j < p.length → 1 ≤ p.getD j 0) (k : Nat) : (p.take k).sum ≤ p.sum ∧ (k < p.length → (p.take k).sum < p.sum) := by
  have step : ∀ d, k + d ≤ p.length → (p.take k).sum + d ≤ (p.take (k + d)).sum := by
    intro d
    induction d with
    | zero => intro _; simp
    | succ d ih =>
      intro h
      have := ih (by omega)
      have h1 := sum_take_succ p (k + d) (by omega)
      have h2 := hp (k + d) (by omega)
      rw [show k + (d + 1) = k + d + 1 by omega]; omega
  by_cases h : k ≤ p.length
  · have := step (p.length - k) (by omega)
    rw [show k + (p.length - k) = p.length by omega, List.take_of_length_le (Nat.le_refl _)] at this
    exact ⟨by omega, fun _ => by omega⟩
  · rw [List.take_of_length_le (by omega)]
    exact ⟨Int.le_refl _, fun h2 => by omega⟩
/-- As the program asks it. -/
theorem ab_impl {p q : List Int} (Gp : Good p) (Gq : Good q) (hs : p.sum = q.sum) : abB p q = (decide (p.length ≤ q.length) && abTo p q p.length) := by
  unfold abB
  rw [decide_eq_true hs, Bool.and_true]
  cases hb : (decide (p.length ≤ q.length) && abTo p q p.length)
  · cases ha : abTo p q (max p.length q.length)
    · rfl
    · exfalso
      have h1 := abTo_le ha (show p.length ≤ max p.length q.length by omega)
      rw [h1, Bool.and_true, decide_eq_false_iff_not] at hb
      have h2 := abTo_at ha (show q.length ≤ max p.length q.length by omega)
      rw [List.take_of_length_le (l := q) (Nat.le_refl _)] at h2
      exact hb (by
        apply Classical.byContradiction
        intro hlt
        have := (take_le_sum Gp.pos q.length).2 (by omega)
        omega)
  · simp only [Bool.and_eq_true, decide_eq_true_eq] at hb
    refine abTo_of fun k hk => ?_
    by_cases h : k ≤ p.length
    · exact abTo_at hb.2 h
    · rw [List.take_of_length_le (l := p) (by omega), hs]
      exact (take_le_sum Gq.pos k).1
theorem ab_sum {p q : List Int} (hs : ¬ p.sum = q.sum) : abB p q = false := by unfold abB; rw [decide_eq_false hs, Bool.and_false]
def aaB (p q : List Int) : Bool := good p && (good q && abB p q)
end Go.Proofs.Ytkbdlhmkiolegaa
