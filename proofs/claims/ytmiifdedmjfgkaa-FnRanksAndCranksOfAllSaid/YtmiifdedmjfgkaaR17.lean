/-
  Several texts in one.
-/
import Derived.Test.YtmiifdedmjfgkaaR02
import Derived.Test.YtmiifdedmjfgkaaR08
import Derived.Test.YtmiifdedmjfgkaaR14
/-
  Plain facts on partitions with a cell more, on chains and on cycles. No program in this text.
-/
namespace Go.Proofs.Ytmiifdedmjfgkaa

/-- p with a cell more at the end of the row r, which may be the one behind the last. -/
def incL (p : List Int) (r : Nat) : List Int := if r = p.length then p ++ [1] else p.set r (p.getD r 0 + 1)
theorem inc_len (p : List Int) (r : Nat) : (incL p r).length = if r = p.length then p.length + 1 else p.length := by unfold incL; split <;> simp
theorem inc_get (p : List Int) (r : Nat) (hr : r ≤ p.length) (j : Nat) : (incL p r).getD j 0 = p.getD j 0 + (if j = r then 1 else 0) := by
  unfold incL
  split
  · rename_i h
    subst h
    rcases Nat.lt_trichotomy j p.length with h | h | h
    · rw [if_neg (by omega)]; simp [List.getD, List.getElem?_append_left h]
    · subst h; simp [List.getD]
    · rw [if_neg (by omega)]
      rw [List.getD_eq_getElem?_getD, List.getElem?_eq_none (by simp; omega), List.getD_eq_getElem?_getD, List.getElem?_eq_none (by omega)]; rfl
  · rename_i h
    have hlt : r < p.length := by omega
    by_cases hj : j = r
    · subst hj; simp [List.getD, hlt]
    · rw [if_neg hj]; simp [List.getD, Ne.symm hj]
theorem sum_set (p : List Int) (r : Nat) (h : r < p.length) (x : Int) : (p.set r x).sum = p.sum + x - p.getD r 0 := by
  induction p generalizing r with
  | nil => simp at h
  | cons y t ih =>
    cases r with
    | zero => simp; omega
    | succ r =>
      have := ih r (by simpa using h)
      simp only [List.set_cons_succ, List.sum_cons, List.getD_cons_succ]
      omega
theorem inc_sum (p : List Int) (r : Nat) (hr : r ≤ p.length) : (incL p r).sum = p.sum + 1 := by
  unfold incL
  split
  · simp
  · rw [sum_set p r (by omega)]; omega
/-- What is written: a zero behind p, and one more in the row r; the zero is left out again. -/
theorem inc_more (p : List Int) (r : Nat) (hr : r ≤ p.length) : (incL p r).length ≤ p.length + 1 ∧ ((p ++ [0]).set r ((p ++ [0]).getD r 0 + 1)).take (incL p r).length = incL p r ∧ ((p ++ [0]).set r ((p ++ [0]).getD r 0 + 1)).length = p.length + 1 := by
  refine ⟨by rw [inc_len]; split <;> omega, ?_, by simp⟩
  unfold incL
  split
  · rename_i h
    subst h
    rw [List.take_of_length_le (by simp)]
    simp [List.getD]
  · rename_i h
    have hlt : r < p.length := by omega
    rw [List.set_append_left _ _ hlt, List.take_append_of_le_length (by simp), List.take_of_length_le (by simp)]
    simp [List.getD, List.getElem?_append_left hlt]
theorem len_sum (p : List Int) (h : ∀ j, j < p.length → 1 ≤ p.getD j 0) : (p.length : Int) ≤ p.sum := by
  induction p with
  | nil => simp
  | cons x t ih =>
    have h0 := h 0 (by simp)
    have := ih (fun j hj => by simpa using h (j + 1) (by simp; omega))
    simp only [List.getD_cons_zero] at h0
    simp only [List.length_cons, List.sum_cons]; omega
theorem sum_nn (p : List Int) (h : ∀ j, j < p.length → 0 ≤ p.getD j 0) : 0 ≤ p.sum := by
  induction p with
  | nil => simp
  | cons x t ih =>
    have h0 := h 0 (by simp)
    have := ih (fun j hj => by simpa using h (j + 1) (by simp; omega))
    simp only [List.getD_cons_zero] at h0
    simp only [List.sum_cons]; omega
theorem part_sum (p : List Int) (h : ∀ j, j < p.length → 0 ≤ p.getD j 0) (j : Nat) (hj : j < p.length) : p.getD j 0 ≤ p.sum := by
  induction p generalizing j with
  | nil => simp at hj
  | cons x t ih =>
    have h0 := h 0 (by simp)
    have ht : ∀ j, j < t.length → 0 ≤ t.getD j 0 := fun j hj => by simpa using h (j + 1) (by simp; omega)
    have hs := sum_nn t ht
    simp only [List.getD_cons_zero] at h0
    cases j with
    | zero => simp only [List.getD_cons_zero, List.sum_cons]; omega
    | succ j =>
      have := ih ht j (by simpa using hj)
      simp only [List.getD_cons_succ, List.sum_cons]; omega
theorem Good.len_le {p : List Int} (G : Good p) : (p.length : Int) ≤ p.sum := len_sum p G.pos
theorem getD_past (p : List Int) (j : Nat) (h : p.length ≤ j) : p.getD j 0 = 0 := by rw [List.getD_eq_getElem?_getD, List.getElem?_eq_none h]; rfl
/-- A cell more makes a partition just where a cell can be added. -/
theorem inc_good {p : List Int} (G : Good p) (hs : p.sum ≤ 29) (r : Nat) (hr : r ≤ p.length) : good (incL p r) = addB p r := by
  have hll := G.len_le
  have hpos : ∀ j, j < (incL p r).length → 1 ≤ (incL p r).getD j 0 := by
    intro j hj
    rw [inc_get p r hr]
    rw [inc_len] at hj
    by_cases h : j < p.length
    · have := G.pos j h
      split <;> omega
    · have : j = r := by split at hj <;> omega
      rw [if_pos this, getD_past p j (by omega)]; omega
  have hsum := inc_sum p r hr
  have hlen : (incL p r).length ≤ 30 := by rw [inc_len]; split <;> omega
  have hle : ∀ j, j < (incL p r).length → (incL p r).getD j 0 ≤ 30 := fun j hj => by
    have := part_sum (incL p r) (fun i hi => by have := hpos i hi; omega) j hj
    omega
  cases ha : addB p r
  · cases hg : good (incL p r)
    · rfl
    · exfalso
      have G2 := (good_iff _).1 hg
      simp only [addB, Bool.or_eq_false_iff, decide_eq_false_iff_not] at ha
      have hd := G2.down (r - 1) (by rw [inc_len, if_neg ha.2.1]; omega)
      rw [show r - 1 + 1 = r by omega, inc_get p r hr, inc_get p r hr, if_pos rfl, if_neg (by omega)] at hd
      omega
  · refine (good_iff _).2 ⟨hlen, hpos, hle, fun j hj => ?_, by omega, by omega⟩
    rw [inc_get p r hr, inc_get p r hr]
    rw [inc_len] at hj
    simp only [addB, Bool.or_eq_true, decide_eq_true_eq] at ha
    by_cases h : j + 1 < p.length
    · have hd := G.down j h
      by_cases e : j + 1 = r
      · subst e
        rw [if_pos rfl, if_neg (by omega)]
        rw [show j + 1 - 1 = j by omega] at ha
        omega
      · rw [if_neg e]; split <;> omega
    · have e1 : j + 1 = p.length ∧ r = p.length := by split at hj <;> omega
      rw [getD_past p (j + 1) (by omega), if_pos (by omega), if_neg (by omega)]
      have := G.pos j (by omega)
      omega
theorem inc_Good {p : List Int} (G : Good p) (hs : p.sum ≤ 29) {r : Nat} (hr : r ≤ p.length) (h : addB p r = true) : Good (incL p r) := (good_iff _).1 (by rw [inc_good G hs r hr]; exact h)

/-- A cell can be added at the end of a row. -/
def stepB (p : List Int) (r : Int) : Bool := decide (0 ≤ r) && (decide (r ≤ (p.length : Int)) && addB p r.toNat)
theorem stepB_iff {p : List Int} {r : Int} : stepB p r = true ↔ ∃ k : Nat, r = k ∧ k ≤ p.length ∧ addB p k = true := by
  simp only [stepB, Bool.and_eq_true, decide_eq_true_eq]
  constructor
  · rintro ⟨h1, h2, h3⟩; exact ⟨r.toNat, by omega, by omega, h3⟩
  · rintro ⟨k, rfl, h2, h3⟩; exact ⟨by omega, by omega, by simpa using h3⟩
theorem stepB_nat (p : List Int) (k : Nat) : stepB p k = (decide (k ≤ p.length) && addB p k) := by
  simp [stepB]
theorem mem_add (p : List Int) (r : Int) : decide (r ∈ filt (addB p) (p.length + 1)) = stepB p r := by
  rw [Bool.eq_iff_iff, decide_eq_true_eq, stepB_iff]
  simp only [filt, List.mem_map, List.mem_filter, List.mem_range]
  constructor
  · rintro ⟨k, ⟨h1, h2⟩, rfl⟩; exact ⟨k, rfl, by omega, h2⟩
  · rintro ⟨k, rfl, h1, h2⟩; exact ⟨k, ⟨by omega, h2⟩, rfl⟩

/-- The shape of rows, beginning with p. -/
def shp : List Int → List Int → Option (List Int)
  | p, [] => some p
  | p, r :: t => if stepB p r then shp (incL p r.toNat) t else none
theorem shp_drop (p rows : List Int) (k : Nat) (h : k < rows.length) : shp p (rows.drop k) = if stepB p (rows.getD k 0) then shp (incL p (rows.getD k 0).toNat) (rows.drop (k + 1)) else none := by
  rw [drop_cons rows k h, shp]
def rowsB (rows : List Int) : Bool := decide (rows.length ≤ 12) && rows.all (inB 0 99)
def shpO (rows : List Int) : Option (List Int) := if rows.length ≤ 12 then shp [] rows else none
def shpL (rows : List Int) : List Int := (shpO rows).getD []
def shpB (rows : List Int) : Bool := (shpO rows).isSome
theorem shp_len (p rows q : List Int) (h : shp p rows = some q) : p.length ≤ q.length ∧ q.length ≤ p.length + rows.length := by
  induction rows generalizing p with
  | nil => simp [shp] at h; subst h; simp
  | cons r t ih =>
    rw [shp] at h
    split at h
    · have := ih _ h
      rw [inc_len] at this
      simp only [List.length_cons]
      split at this <;> omega
    · cases h
theorem shp_all (p rows q : List Int) (h : shp p rows = some q) : ∀ r ∈ rows, 0 ≤ r ∧ r ≤ (q.length : Int) := by
  induction rows generalizing p with
  | nil => simp
  | cons r t ih =>
    rw [shp] at h
    split at h
    · rename_i hs
      intro x hx
      rcases List.mem_cons.1 hx with rfl | hx
      · obtain ⟨k, rfl, hk, _⟩ := stepB_iff.1 hs
        have := (shp_len _ _ _ h).1
        rw [inc_len] at this
        split at this <;> omega
      · exact ih _ h x hx
    · cases h
theorem shp_good (p rows q : List Int) (h : shp p rows = some q) (G : Good p) (hs : p.sum + rows.length ≤ 30) : Good q ∧ q.sum = p.sum + rows.length := by
  induction rows generalizing p with
  | nil => simp [shp] at h; subst h; exact ⟨G, by simp⟩
  | cons r t ih =>
    rw [shp] at h
    split at h
    · rename_i hst
      obtain ⟨k, rfl, hk, ha⟩ := stepB_iff.1 hst
      simp only [Int.toNat_natCast] at h
      simp only [List.length_cons] at hs ⊢
      have hsum := inc_sum p k hk
      have := ih _ h (inc_Good G (by omega) hk ha) (by omega)
      exact ⟨this.1, by omega⟩
    · cases h
theorem good_nil : Good [] := ⟨by simp, by simp, by simp, by simp, by simp, by simp⟩
theorem shpO_none {rows : List Int} (h : rowsB rows = false) : shpO rows = none := by
  unfold shpO
  split
  · rename_i hl
    cases hs : shp [] rows with
    | none => rfl
    | some q =>
      have hq := shp_all _ _ _ hs
      have hlen := (shp_len _ _ _ hs).2
      exfalso
      simp only [rowsB, hl, decide_true, Bool.true_and] at h
      rw [List.all_eq_false] at h
      obtain ⟨x, hx, hxx⟩ := h
      have := hq x hx
      simp only [List.length_nil] at hlen
      exact hxx (inB_iff.2 ⟨this.1, by omega⟩)
  · rfl
theorem shpO_eq {rows : List Int} (h : rows.length ≤ 12) : shpO rows = shp [] rows := by simp [shpO, h]
def isChB (rows : List Int) : Bool := rowsB rows && shpB rows
theorem shpL_len (rows : List Int) : (shpL rows).length ≤ 12 := by
  unfold shpL shpO
  split
  · cases hs : shp [] rows with
    | none => simp
    | some q => have := (shp_len _ _ _ hs).2; simp at this ⊢; omega
  · simp
theorem bound_ShapeOf (xs : List Int) : (shpL xs).length ≤ 1048576 := by have := shpL_len xs; omega
end Go.Proofs.Ytmiifdedmjfgkaa
/-
  Plain facts: what is listed by rank are the partitions, and all of them. No program in this text.
-/
namespace Go.Proofs.Ytmiifdedmjfgkaa

theorem pa_chk : ∀ (f n m r : Nat), n ≤ f → n < 31 → m ≤ 30 → r < T n m → chk m (pa f n m r) = true ∧ (pa f n m r).sum = n
  | f, 0, m, r, _, _, _, _ => by rw [pa_zero]; simp [chk]
  | 0, n + 1, m, r, h, _, _, _ => absurd h (by omega)
  | f + 1, n + 1, m, r, hf, hn, hm, hr => by
    obtain ⟨p, q, h1, h2, h3, h4, h5⟩ := pk_ok hn (by omega) m hm r hr
    obtain ⟨f', hf', e⟩ := pa_next hf (by omega) h1
    have hff : f' = f := by omega
    subst hff
    obtain ⟨i1, i2⟩ := pa_chk f' (n + 1 - p) p q (by omega) (by omega) (by omega) h5
    rw [e]
    constructor
    · rw [chk, i1]
      simp only [Bool.and_true, Bool.and_eq_true, decide_eq_true_eq]
      omega
    · rw [List.sum_cons, i2]; omega
theorem pa_good {n r : Nat} (hn : n ≤ 30) (hr : r < T n n) : Good (pa n n n r) ∧ (pa n n n r).sum = n := by
  obtain ⟨h1, h2⟩ := pa_chk n n n r (Nat.le_refl _) (by omega) hn hr
  obtain ⟨c1, c2, c3⟩ := (chk_iff _ _).1 h1
  have hl := len_sum _ c1
  have hle : ∀ j, j < (pa n n n r).length → (pa n n n r).getD j 0 ≤ 30 := fun j hj => by
    have := part_sum _ (fun i hi => by have := c1 i hi; omega) j hj
    omega
  exact ⟨⟨by omega, c1, hle, c3, by omega, by omega⟩, h2⟩
theorem pa_all : ∀ (n m : Nat) (p : List Int), n < 31 → m ≤ 30 → chk m p = true → p.sum = n → ∃ r, r < T n m ∧ p = pa n n m r := by
  intro n
  induction n using Nat.strongRecOn with
  | _ n ih =>
    intro m p hn hm hc hs
    cases p with
    | nil =>
      simp at hs
      have h0 : n = 0 := by omega
      subst h0
      exact ⟨0, by rw [T_top m (by omega)]; omega, by rw [pa_zero]⟩
    | cons x t =>
      rw [chk] at hc
      simp only [Bool.and_eq_true, decide_eq_true_eq] at hc
      obtain ⟨h1, h2, h3⟩ := hc
      have ht := (chk_iff _ _).1 h3
      have hl := len_sum t ht.1
      rw [List.sum_cons] at hs
      obtain ⟨y, rfl⟩ : ∃ y : Nat, x = y := ⟨x.toNat, by omega⟩
      obtain ⟨j, hj, e⟩ := ih (n - y) (by omega) y t (by omega) (by omega) h3 (by omega)
      have hT := T_le hn m hm (show y ≤ m by omega)
      have hst : T n y = T n (y - 1) + T (n - y) y := by
        have := T_step (n := n) (k := y - 1) hn (by omega) (by omega)
        rw [show y - 1 + 1 = y by omega] at this; exact this
      refine ⟨T n m - T n y + j, by omega, ?_⟩
      rw [pa_at hn (by omega) (by omega) hm (by omega) hj, ← e]
theorem good_pa {p : List Int} (G : Good p) : ∃ r, r < T p.sum.toNat p.sum.toNat ∧ p = pa p.sum.toNat p.sum.toNat p.sum.toNat r := by
  have hs := G.sum0
  have hs2 := G.sum
  refine pa_all p.sum.toNat p.sum.toNat p (by omega) (by omega) ?_ (by omega)
  refine (chk_iff _ _).2 ⟨G.pos, fun h0 => ?_, G.down⟩
  have := part_sum p (fun i hi => by have := G.pos i hi; omega) 0 h0
  omega
end Go.Proofs.Ytmiifdedmjfgkaa
