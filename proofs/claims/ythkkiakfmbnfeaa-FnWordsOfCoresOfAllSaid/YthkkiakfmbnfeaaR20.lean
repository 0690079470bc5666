/-
  Several texts in one.
-/
import Derived.Test.YthkkiakfmbnfeaaCA
import Derived.Test.YthkkiakfmbnfeaaCH
/-
  Plain facts on partitions with a cell more, on chains and on cycles. No program in this text.
-/
namespace Go.Proofs.Ythkkiakfmbnfeaa

/-- p with a cell more at the end of the row r, which may be the one behind the last. -/
def incL (p : List Int) (r : Nat) : List Int := if r = p.length then p ++ [1] else p.set r (p.getD r 0 + 1)
theorem inc_len (p : List Int) (r : Nat) : (incL p r).length = if r = p.length then p.length + 1 else p.length := by unfold incL; split <;> simp
theorem inc_get (p : List Int) (r : Nat) (hr : r ≤ p.length) (j : Nat) : (incL p r).getD j 0 = p.getD j 0 + (if j = r then 1 else 0) := by
  unfold incL
  split
  · rename_i h
    subst h
    rcases Nat.lt_trichotomy j p.length with h | h | h
    · rw [if_neg (by omega)]; simp [List.getD, List.getElem?_append_left h]
    · subst h; simp [List.getD]
    · rw [if_neg (by omega)]
      rw [List.getD_eq_getElem?_getD, List.getElem?_eq_none (by simp; omega), List.getD_eq_getElem?_getD, List.getElem?_eq_none (by omega)]; rfl
  · rename_i h
    have hlt : r < p.length := by omega
    by_cases hj : j = r
    · subst hj; simp [List.getD, hlt]
    · rw [if_neg hj]; simp [List.getD, Ne.symm hj]
theorem sum_set (p : List Int) (r : Nat) (h : r < p.length) (x : Int) : (p.set r x).sum = p.sum + x - p.getD r 0 := by
  induction p generalizing r with
  | nil => simp at h
  | cons y t ih =>
    cases r with
    | zero => simp; omega
    | succ r =>
      have := ih r (by simpa using h)
      simp only [List.set_cons_succ, List.sum_cons, List.getD_cons_succ]
      omega
theorem inc_sum (p : List Int) (r : Nat) (hr : r ≤ p.length) : (incL p r).sum = p.sum + 1 := by
  unfold incL
  split
  · simp
  · rw [sum_set p r (by omega)]; omega
/-- What is written: a zero behind p, and one more in the row r; the zero is left out again. -/
theorem inc_more (p : List Int) (r : Nat) (hr : r ≤ p.length) : (incL p r).length ≤ p.length + 1 ∧ ((p ++ [0]).set r ((p ++ [0]).getD r 0 + 1)).take (incL p r).length = incL p r ∧ ((p ++ [0]).set r ((p ++ [0]).getD r 0 + 1)).length = p.length + 1 := by
  refine ⟨by rw [inc_len]; split <;> omega, ?_, by simp⟩
  unfold incL
  split
  · rename_i h
    subst h
    rw [List.take_of_length_le (by simp)]
    simp [List.getD]
  · rename_i h
    have hlt : r < p.length := by omega
    rw [List.set_append_left _ _ hlt, List.take_append_of_le_length (by simp), List.take_of_length_le (by simp)]
    simp [List.getD, List.getElem?_append_left hlt]
theorem len_sum (p : List Int) (h : ∀ j, j < p.length → 1 ≤ p.getD j 0) : (p.length : Int) ≤ p.sum := by
  induction p with
  | nil => simp
  | cons x t ih =>
    have h0 := h 0 (by simp)
    have := ih (fun j hj => by simpa using h (j + 1) (by simp; omega))
    simp only [List.getD_cons_zero] at h0
    simp only [List.length_cons, List.sum_cons]; omega
theorem sum_nn (p : List Int) (h : ∀ j, j < p.length → 0 ≤ p.getD j 0) : 0 ≤ p.sum := by
  induction p with
  | nil => simp
  | cons x t ih =>
    have h0 := h 0 (by simp)
    have := ih (fun j hj => by simpa using h (j + 1) (by simp; omega))
    simp only [List.getD_cons_zero] at h0
    simp only [List.sum_cons]; omega
theorem part_sum (p : List Int) (h : ∀ j, j < p.length → 0 ≤ p.getD j 0) (j : Nat) (hj : j < p.length) : p.getD j 0 ≤ p.sum := by
  induction p generalizing j with
  | nil => simp at hj
  | cons x t ih =>
    have h0 := h 0 (by simp)
    have ht : ∀ j, j < t.length → 0 ≤ t.getD j 0 := fun j hj => by simpa using h (j + 1) (by simp; omega)
    have hs := sum_nn t ht
    simp only [List.getD_cons_zero] at h0
    cases j with
    | zero => simp only [List.getD_cons_zero, List.sum_cons]; omega
    | succ j =>
      have := ih ht j (by simpa using hj)
      simp only [List.getD_cons_succ, List.sum_cons]; omega
theorem Good.len_le {p : List Int} (G : Good p) : (p.length : Int) ≤ p.sum := len_sum p G.pos
theorem getD_past (p : List Int) (j : Nat) (h : p.length ≤ j) : p.getD j 0 = 0 := by rw [List.getD_eq_getElem?_getD, List.getElem?_eq_none h]; rfl
/-- A cell more makes a partition just where a cell can be added. -/
theorem inc_good {p : List Int} (G : Good p) (hs : p.sum ≤ 29) (r : Nat) (hr : r ≤ p.length) : good (incL p r) = addB p r := by
  have hll := G.len_le
  have hpos : ∀ j, j < (incL p r).length → 1 ≤ (incL p r).getD j 0 := by
    intro j hj
    rw [inc_get p r hr]
    rw [inc_len] at hj
    by_cases h : j < p.length
    · have := G.pos j h
      split <;> omega
    · have : j = r := by split at hj <;> omega
      rw [if_pos this, getD_past p j (by omega)]; omega
  have hsum := inc_sum p r hr
  have hlen : (incL p r).length ≤ 30 := by rw [inc_len]; split <;> omega
  have hle : ∀ j, j < (incL p r).length → (incL p r).getD j 0 ≤ 30 := fun j hj => by
    have := part_sum (incL p r) (fun i hi => by have := hpos i hi; omega) j hj
    omega
  cases ha : addB p r
  · cases hg : good (incL p r)
    · rfl
    · exfalso
      have G2 := (good_iff _).1 hg
      simp only [addB, Bool.or_eq_false_iff, decide_eq_false_iff_not] at ha
      have hd := G2.down (r - 1) (by rw [inc_len, if_neg ha.2.1]; omega)
      rw [show r - 1 + 1 = r by omega, inc_get p r hr, inc_get p r hr, if_pos rfl, if_neg (by omega)] at hd
      omega
  · refine (good_iff _).2 ⟨hlen, hpos, hle, fun j hj => ?_, by omega, by omega⟩
    rw [inc_get p r hr, inc_get p r hr]
    rw [inc_len] at hj
    simp only [addB, Bool.or_eq_true, decide_eq_true_eq] at ha
    by_cases h : j + 1 < p.length
    · have hd := G.down j h
      by_cases e : j + 1 = r
      · subst e
        rw [if_pos rfl, if_neg (by omega)]
        rw [show j + 1 - 1 = j by omega] at ha
        omega
      · rw [if_neg e]; split <;> omega
    · have e1 : j + 1 = p.length ∧ r = p.length := by split at hj <;> omega
      rw [getD_past p (j + 1) (by omega), if_pos (by omega), if_neg (by omega)]
      have := G.pos j (by omega)
      omega
theorem inc_Good {p : List Int} (G : Good p) (hs : p.sum ≤ 29) {r : Nat} (hr : r ≤ p.length) (h : addB p r = true) : Good (incL p r) := (good_iff _).1 (by rw [inc_good G hs r hr]; exact h)

/-- A cell can be added at the end of a row. -/
def stepB (p : List Int) (r : Int) : Bool := decide (0 ≤ r) && (decide (r ≤ (p.length : Int)) && addB p r.toNat)
theorem stepB_iff {p : List Int} {r : Int} : stepB p r = true ↔ ∃ k : Nat, r = k ∧ k ≤ p.length ∧ addB p k = true := by
  simp only [stepB, Bool.and_eq_true, decide_eq_true_eq]
  constructor
  · rintro ⟨h1, h2, h3⟩; exact ⟨r.toNat, by omega, by omega, h3⟩
  · rintro ⟨k, rfl, h2, h3⟩; exact ⟨by omega, by omega, by simpa using h3⟩
theorem stepB_nat (p : List Int) (k : Nat) : stepB p k = (decide (k ≤ p.length) && addB p k) := by
  simp [stepB]
theorem mem_add (p : List Int) (r : Int) : decide (r ∈ filt (addB p) (p.length + 1)) = stepB p r := by
  rw [Bool.eq_iff_iff, decide_eq_true_eq, stepB_iff]
  simp only [filt, List.mem_map, List.mem_filter, List.mem_range]
  constructor
  · rintro ⟨k, ⟨h1, h2⟩, rfl⟩; exact ⟨k, rfl, by omega, h2⟩
  · rintro ⟨k, rfl, h1, h2⟩; exact ⟨k, ⟨by omega, h2⟩, rfl⟩

/-- The shape of rows, beginning with p. -/
def shp : List Int → List Int → Option (List Int)
  | p, [] => some p
  | p, r :: t => if stepB p r then shp (incL p r.toNat) t else none
theorem shp_drop (p rows : List Int) (k : Nat) (h : k < rows.length) : shp p (rows.drop k) = if stepB p (rows.getD k 0) then shp (incL p (rows.getD k 0).toNat) (rows.drop (k + 1)) else none := by
  rw [drop_cons rows k h, shp]
def rowsB (rows : List Int) : Bool := decide (rows.length ≤ 12) && rows.all (inB 0 99)
def shpO (rows : List Int) : Option (List Int) := if rows.length ≤ 12 then shp [] rows else none
def shpL (rows : List Int) : List Int := (shpO rows).getD []
def shpB (rows : List Int) : Bool := (shpO rows).isSome
theorem shp_len (p rows q : List Int) (h : shp p rows = some q) : p.length ≤ q.length ∧ q.length ≤ p.length + rows.length := by
  induction rows generalizing p with
  | nil => simp [shp] at h; subst h; simp
  | cons r t ih =>
    rw [shp] at h
    split at h
    · have := ih _ h
      rw [inc_len] at this
      simp only [List.length_cons]
      split at this <;> omega
    · cases h
theorem shp_all (p rows q : List Int) (h : shp p rows = some q) : ∀ r ∈ rows, 0 ≤ r ∧ r ≤ (q.length : Int) := by
  induction rows generalizing p with
  | nil => simp
  | cons r t ih =>
    rw [shp] at h
    split at h
    · rename_i hs
      intro x hx
      rcases List.mem_cons.1 hx with rfl | hx
      · obtain ⟨k, rfl, hk, _⟩ := stepB_iff.1 hs
        have := (shp_len _ _ _ h).1
        rw [inc_len] at this
        split at this <;> omega
      · exact ih _ h x hx
    · cases h
theorem shp_good (p rows q : List Int) (h : shp p rows = some q) (G : Good p) (hs : p.sum + rows.length ≤ 30) : Good q ∧ q.sum = p.sum + rows.length := by
  induction rows generalizing p with
  | nil => simp [shp] at h; subst h; exact ⟨G, by simp⟩
  | cons r t ih =>
    rw [shp] at h
    split at h
    · rename_i hst
      obtain ⟨k, rfl, hk, ha⟩ := stepB_iff.1 hst
      simp only [Int.toNat_natCast] at h
      simp only [List.length_cons] at hs ⊢
      have hsum := inc_sum p k hk
      have := ih _ h (inc_Good G (by omega) hk ha) (by omega)
      exact ⟨this.1, by omega⟩
    · cases h
theorem good_nil : Good [] := ⟨by simp, by simp, by simp, by simp, by simp, by simp⟩
theorem shpO_none {rows : List Int} (h : rowsB rows = false) : shpO rows = none := by
  unfold shpO
  split
  · rename_i hl
    cases hs : shp [] rows with
    | none => rfl
    | some q =>
      have hq := shp_all _ _ _ hs
      have hlen := (shp_len _ _ _ hs).2
      exfalso
      simp only [rowsB, hl, decide_true, Bool.true_and] at h
      rw [List.all_eq_false] at h
      obtain ⟨x, hx, hxx⟩ := h
      have := hq x hx
      simp only [List.length_nil] at hlen
      exact hxx (inB_iff.2 ⟨this.1, by omega⟩)
  · rfl
theorem shpO_eq {rows : List Int} (h : rows.length ≤ 12) : shpO rows = shp [] rows := by simp [shpO, h]
def isChB (rows : List Int) : Bool := rowsB rows && shpB rows
theorem shpL_len (rows : List Int) : (shpL rows).length ≤ 12 := by
  unfold shpL shpO
  split
  · cases hs : shp [] rows with
    | none => simp
    | some q => have := (shp_len _ _ _ hs).2; simp at this ⊢; omega
  · simp
theorem bound_ShapeOf (xs : List Int) : (shpL xs).length ≤ 1048576 := by have := shpL_len xs; omega
end Go.Proofs.Ythkkiakfmbnfeaa
/-
  Plain facts: all partitions in their order, by ranks and by the greatest part. No program in this text.
-/
namespace Go.Proofs.Ythkkiakfmbnfeaa
theorem T_le {n : Nat} (hn : n < 31) {p : Nat} : ∀ m, m ≤ 30 → p ≤ m → T n p ≤ T n m := by
  intro m
  induction m with
  | zero => intro _ h; rw [Nat.le_zero.1 h]; exact Nat.le_refl _
  | succ m ih =>
    intro hm h
    rcases Nat.eq_or_lt_of_le h with h | h
    · rw [h]; exact Nat.le_refl _
    · exact Nat.le_trans (ih (by omega) (by omega)) (T_up n hn m (by omega))
/-- The rank of a partition with greatest part p. -/
theorem pk_at {n p j : Nat} (hn : n < 31) (h1 : 1 ≤ p) (hp : p ≤ n) (hj : j < T (n - p) p) : ∀ m, m ≤ 30 → p ≤ m → pk n m (T n m - T n p + j) = (p, j) := by
  intro m
  induction m with
  | zero => intro _ h; omega
  | succ m ih =>
    intro hm h
    rcases Nat.eq_or_lt_of_le h with h | h
    · subst h
      have := T_step (n := n) (k := m) hn (by omega) hp
      rw [Nat.sub_self, Nat.zero_add, pk_no (by omega)]
    · have hm' : p ≤ m := by omega
      have h2 := T_le hn m (by omega) hm'
      have h3 := T_up n hn m (by omega)
      rw [pk_yes (by omega), show T n (m + 1) - T n p + j - (T n (m + 1) - T n m) = T n m - T n p + j by omega]
      exact ih (by omega) hm'
/-- What a search finds is a part. -/
theorem pk_ok {n : Nat} (hn : n < 31) (h1 : 1 ≤ n) : ∀ m, m ≤ 30 → ∀ r, r < T n m → ∃ p q, pk n m r = (p, q) ∧ 1 ≤ p ∧ p ≤ m ∧ p ≤ n ∧ q < T (n - p) p := by
  intro m
  induction m with
  | zero => intro _ r h; rw [T_none n hn h1] at h; omega
  | succ m ih =>
    intro hm r h
    by_cases hc : T n (m + 1) - T n m ≤ r
    · obtain ⟨p, q, e, a, b, c, d⟩ := ih (by omega) (r - (T n (m + 1) - T n m)) (by have := T_up n hn m (by omega); omega)
      exact ⟨p, q, by rw [pk_yes hc]; exact e, a, by omega, c, d⟩
    · obtain ⟨c, d⟩ := pick_last (q := r) hn hm (by omega) (by rw [Nat.add_sub_cancel]; exact hc)
      exact ⟨m + 1, r, pk_no hc, by omega, Nat.le_refl _, c, d⟩
/-- How much fuel is there does not matter. -/
theorem pa_fuel2 : ∀ f g n m r, n ≤ f → n ≤ g → n < 31 → m ≤ 30 → r < T n m → pa f n m r = pa g n m r := by
  intro f
  induction f with
  | zero => intro g n m r h _ _ _ _; rw [Nat.le_zero.1 h, pa_zero, pa_zero]
  | succ f ih =>
    intro g n m r h hg hn hm hr
    rcases Nat.eq_zero_or_pos n with h0 | h0
    · subst h0; rw [pa_zero, pa_zero]
    · obtain ⟨p, q, e, a, b, c, d⟩ := pk_ok hn h0 m hm r hr
      obtain ⟨f1, hf1, e1⟩ := pa_next h h0 e
      obtain ⟨g1, hg1, e2⟩ := pa_next hg h0 e
      cases hf1
      rw [e1, e2, ih g1 (n - p) p q (by omega) (by omega) (by omega) (by omega) d]
/-- The first k partitions of n with parts up to m. -/
def lst (n m k : Nat) : List (List Int) := (List.range k).map fun r => pa n n m r
theorem lst_len (n m k : Nat) : (lst n m k).length = k := by simp [lst]
theorem lst_succ (n m k : Nat) : lst n m (k + 1) = lst n m k ++ [pa n n m k] := by simp [lst, List.range_succ]
theorem lst_get (n m k j : Nat) (h : j < k) : (lst n m k).getD j [] = pa n n m j := by
  rw [List.getD_eq_getElem?_getD, lst, List.getElem?_map, List.getElem?_range h]; rfl
theorem lst_zero (m : Nat) : lst 0 m 1 = [[]] := by simp [lst, List.range_succ, pa]
theorem pa_at {n m p j : Nat} (hn : n < 31) (h1 : 1 ≤ p) (hp : p ≤ n) (hm : m ≤ 30) (hpm : p ≤ m) (hj : j < T (n - p) p) : pa n n m (T n m - T n p + j) = (p : Int) :: pa (n - p) (n - p) p j := by
  obtain ⟨f, hf, e⟩ := pa_next (Nat.le_refl n) (by omega) (pk_at hn h1 hp hj m hm hpm)
  rw [e, pa_fuel2 f (n - p) (n - p) p j (by omega) (Nat.le_refl _) (by omega) (by omega) hj]
/-- One row more behind the rows whose greatest part is above p and j of those with p. -/
theorem lst_row {n m p j : Nat} (hn : n < 31) (h1 : 1 ≤ p) (hp : p ≤ n) (hm : m ≤ 30) (hpm : p ≤ m) (hj : j < T (n - p) p) :
    lst n m (T n m - T n p + (j + 1)) = lst n m (T n m - T n p + j) ++ [(p : Int) :: (lst (n - p) p (T (n - p) p)).getD j []] := by
  rw [← Nat.add_assoc, lst_succ, pa_at hn h1 hp hm hpm hj, lst_get _ _ _ _ hj]
/-- The rows of p are done. -/
theorem lst_next {n m p : Nat} (hn : n < 31) (h1 : 1 ≤ p) (hp : p ≤ n) (hm : m ≤ 30) (hpm : p ≤ m) : lst n m (T n m - T n p + T (n - p) p) = lst n m (T n m - T n (p - 1)) := by
  have h2 := T_le hn m hm hpm
  have h3 := T_step (n := n) (k := p - 1) hn (by omega) (by omega)
  rw [show p - 1 + 1 = p by omega] at h3
  congr 1; omega
end Go.Proofs.Ythkkiakfmbnfeaa
