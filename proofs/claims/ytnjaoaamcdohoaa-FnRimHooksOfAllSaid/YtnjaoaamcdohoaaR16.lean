/-
  Several texts in one.
-/
import Derived.Test.YtnjaoaamcdohoaaR01
import Derived.Test.YtnjaoaamcdohoaaR02
import Derived.Test.YtnjaoaamcdohoaaR07
import Derived.Test.YtnjaoaamcdohoaaR10
import Derived.Test.YtnjaoaamcdohoaaR15
/-
  Plain facts on partitions with a cell more, on chains and on cycles. No program in this text.
-/
namespace Go.Proofs.Ytnjaoaamcdohoaa

/-- p with a cell more at the end of the row r, which may be the one behind the last. -/
def incL (p : List Int) (r : Nat) : List Int := if r = p.length then p ++ [1] else p.set r (p.getD r 0 + 1)
theorem inc_len (p : List Int) (r : Nat) : (incL p r).length = if r = p.length then p.length + 1 else p.length := by unfold incL; split <;> simp
theorem inc_get (p : List Int) (r : Nat) (hr : r ≤ p.length) (j : Nat) : (incL p r).getD j 0 = p.getD j 0 + (if j = r then 1 else 0) := by
  unfold incL
  split
  · rename_i h
    subst h
    rcases Nat.lt_trichotomy j p.length with h | h | h
    · rw [if_neg (by omega)]; simp [List.getD, List.getElem?_append_left h]
    · subst h; simp [List.getD]
    · rw [if_neg (by omega)]
      rw [List.getD_eq_getElem?_getD, List.getElem?_eq_none (by simp; omega), List.getD_eq_getElem?_getD, List.getElem?_eq_none (by omega)]; rfl
  · rename_i h
    have hlt : r < p.length := by omega
    by_cases hj : j = r
    · subst hj; simp [List.getD, hlt]
    · rw [if_neg hj]; simp [List.getD, Ne.symm hj]
theorem sum_set (p : List Int) (r : Nat) (h : r < p.length) (x : Int) : (p.set r x).sum = p.sum + x - p.getD r 0 := by
  induction p generalizing r with
  | nil => simp at h
  | cons y t ih =>
    cases r with
    | zero => simp; omega
    | succ r =>
      have := ih r (by simpa using h)
      simp only [List.set_cons_succ, List.sum_cons, List.getD_cons_succ]
      omega
theorem inc_sum (p : List Int) (r : Nat) (hr : r ≤ p.length) : (incL p r).sum = p.sum + 1 := by
  unfold incL
  split
  · simp
  · rw [sum_set p r (by omega)]; omega
/-- What is written: a zero behind p, and one more in the row r; the zero is left out again. -/
theorem inc_more (p : List Int) (r : Nat) (hr : r ≤ p.length) : (incL p r).length ≤ p.length + 1 ∧ ((p ++ [0]).set r ((p ++ [0]).getD r 0 + 1)).take (incL p r).length = incL p r ∧ ((p ++ [0]).set r ((p ++ [0]).getD r 0 + 1)).length = p.length + 1 := by
  refine ⟨by rw [inc_len]; split <;> omega, ?_, by simp⟩
  unfold incL
  split
  · rename_i h
    subst h
    rw [List.take_of_length_le (by simp)]
    simp [List.getD]
  · rename_i h
    have hlt : r < p.length := by omega
    rw [List.set_append_left _ _ hlt, List.take_append_of_le_length (by simp), List.take_of_length_le (by simp)]
    simp [List.getD, List.getElem?_append_left hlt]
theorem len_sum (p : List Int) (h : ∀ j, j < p.length → 1 ≤ p.getD j 0) : (p.length : Int) ≤ p.sum := by
  induction p with
  | nil => simp
  | cons x t ih =>
    have h0 := h 0 (by simp)
    have := ih (fun j hj => by simpa using h (j + 1) (by simp; omega))
    simp only [List.getD_cons_zero] at h0
    simp only [List.length_cons, List.sum_cons]; omega
theorem sum_nn (p : List Int) (h : ∀ j, j < p.length → 0 ≤ p.getD j 0) : 0 ≤ p.sum := by
  induction p with
  | nil => simp
  | cons x t ih =>
    have h0 := h 0 (by simp)
    have := ih (fun j hj => by simpa using h (j + 1) (by simp; omega))
    simp only [List.getD_cons_zero] at h0
    simp only [List.sum_cons]; omega
theorem part_sum (p : List Int) (h : ∀ j, j < p.length → 0 ≤ p.getD j 0) (j : Nat) (hj : j < p.length) : p.getD j 0 ≤ p.sum := by
  induction p generalizing j with
  | nil => simp at hj
  | cons x t ih =>
    have h0 := h 0 (by simp)
    have ht : ∀ j, j < t.length → 0 ≤ t.getD j 0 := fun j hj => by simpa using h (j + 1) (by simp; omega)
    have hs := sum_nn t ht
    simp only [List.getD_cons_zero] at h0
    cases j with
    | zero => simp only [List.getD_cons_zero, List.sum_cons]; omega
    | succ j =>
      have := ih ht j (by simpa using hj)
      simp only [List.getD_cons_succ, List.sum_cons]; omega
theorem Good.len_le {p : List Int} (G : Good p) : (p.length : Int) ≤ p.sum := len_sum p G.pos
theorem getD_past (p : List Int) (j : Nat) (h : p.length ≤ j) : p.getD j 0 = 0 := by rw [List.getD_eq_getElem?_getD, List.getElem?_eq_none h]; rfl
/-- A cell more makes a partition just where a cell can be added. -/
theorem inc_good {p : List Int} (G : Good p) (hs : p.sum ≤ 29) (r : Nat) (hr : r ≤ p.length) : good (incL p r) = addB p r := by
  have hll := G.len_le
  have hpos : ∀ j, j < (incL p r).length → 1 ≤ (incL p r).getD j 0 := by
    intro j hj
    rw [inc_get p r hr]
    rw [inc_len] at hj
    by_cases h : j < p.length
    · have := G.pos j h
      split <;> omega
    · have : j = r := by split at hj <;> omega
      rw [if_pos this, getD_past p j (by omega)]; omega
  have hsum := inc_sum p r hr
  have hlen : (incL p r).length ≤ 30 := by rw [inc_len]; split <;> omega
  have hle : ∀ j, j < (incL p r).length → (incL p r).getD j 0 ≤ 30 := fun j hj => by
    have := part_sum (incL p r) (fun i hi => by have := hpos i hi; omega) j hj
    omega
  cases ha : addB p r
  · cases hg : good (incL p r)
    · rfl
    · exfalso
      have G2 := (good_iff _).1 hg
      simp only [addB, Bool.or_eq_false_iff, decide_eq_false_iff_not] at ha
      have hd := G2.down (r - 1) (by rw [inc_len, if_neg ha.2.1]; omega)
      rw [show r - 1 + 1 = r by omega, inc_get p r hr, inc_get p r hr, if_pos rfl, if_neg (by omega)] at hd
      omega
  · refine (good_iff _).2 ⟨hlen, hpos, hle, fun j hj => ?_, by omega, by omega⟩
    rw [inc_get p r hr, inc_get p r hr]
    rw [inc_len] at hj
    simp only [addB, Bool.or_eq_true, decide_eq_true_eq] at ha
    by_cases h : j + 1 < p.length
    · have hd := G.down j h
      by_cases e : j + 1 = r
      · subst e
        rw [if_pos rfl, if_neg (by omega)]
        rw [show j + 1 - 1 = j by omega] at ha
        omega
      · rw [if_neg e]; split <;> omega
    · have e1 : j + 1 = p.length ∧ r = p.length := by split at hj <;> omega
      rw [getD_past p (j + 1) (by omega), if_pos (by omega), if_neg (by omega)]
      have := G.pos j (by omega)
      omega
theorem inc_Good {p : List Int} (G : Good p) (hs : p.sum ≤ 29) {r : Nat} (hr : r ≤ p.length) (h : addB p r = true) : Good (incL p r) := (good_iff _).1 (by rw [inc_good G hs r hr]; exact h)

/-- A cell can be added at the end of a row. -/
def stepB (p : List Int) (r : Int) : Bool := decide (0 ≤ r) && (decide (r ≤ (p.length : Int)) && addB p r.toNat)
theorem stepB_iff {p : List Int} {r : Int} : stepB p r = true ↔ ∃ k : Nat, r = k ∧ k ≤ p.length ∧ addB p k = true := by
  simp only [stepB, Bool.and_eq_true, decide_eq_true_eq]
  constructor
  · rintro ⟨h1, h2, h3⟩; exact ⟨r.toNat, by omega, by omega, h3⟩
  · rintro ⟨k, rfl, h2, h3⟩; exact ⟨by omega, by omega, by simpa using h3⟩
theorem stepB_nat (p : List Int) (k : Nat) : stepB p k = (decide (k ≤ p.length) && addB p k) := by
  simp [stepB]
theorem mem_add (p : List Int) (r : Int) : decide (r ∈ filt (addB p) (p.length + 1)) = stepB p r := by
  rw [Bool.eq_iff_iff, decide_eq_true_eq, stepB_iff]
  simp only [filt, List.mem_map, List.mem_filter, List.mem_range]
  constructor
  · rintro ⟨k, ⟨h1, h2⟩, rfl⟩; exact ⟨k, rfl, by omega, h2⟩
  · rintro ⟨k, rfl, h1, h2⟩; exact ⟨k, ⟨by omega, h2⟩, rfl⟩

/-- The shape of rows, beginning with p. -/
def shp : List Int → List Int → Option (List Int)
  | p, [] => some p
  | p, r :: t => if stepB p r then shp (incL p r.toNat) t else none
theorem shp_drop (p rows : List Int) (k : Nat) (h : k < rows.length) : shp p (rows.drop k) = if stepB p (rows.getD k 0) then shp (incL p (rows.getD k 0).toNat) (rows.drop (k + 1)) else none := by
  rw [drop_cons rows k h, shp]
def rowsB (rows : List Int) : Bool := decide (rows.length ≤ 12) && rows.all (inB 0 99)
def shpO (rows : List Int) : Option (List Int) := if rows.length ≤ 12 then shp [] rows else none
def shpL (rows : List Int) : List Int := (shpO rows).getD []
def shpB (rows : List Int) : Bool := (shpO rows).isSome
theorem shp_len (p rows q : List Int) (h : shp p rows = some q) : p.length ≤ q.length ∧ q.length ≤ p.length + rows.length := by
  induction rows generalizing p with
  | nil => simp [shp] at h; subst h; simp
  | cons r t ih =>
    rw [shp] at h
    split at h
    · have := ih _ h
      rw [inc_len] at this
      simp only [List.length_cons]
      split at this <;> omega
    · cases h
theorem shp_all (p rows q : List Int) (h : shp p rows = some q) : ∀ r ∈ rows, 0 ≤ r ∧ r ≤ (q.length : Int) := by
  induction rows generalizing p with
  | nil => simp
  | cons r t ih =>
    rw [shp] at h
    split at h
    · rename_i hs
      intro x hx
      rcases List.mem_cons.1 hx with rfl | hx
      · obtain ⟨k, rfl, hk, _⟩ := stepB_iff.1 hs
        have := (shp_len _ _ _ h).1
        rw [inc_len] at this
        split at this <;> omega
      · exact ih _ h x hx
    · cases h
theorem shp_good (p rows q : List Int) (h : shp p rows = some q) (G : Good p) (hs : p.sum + rows.length ≤ 30) : Good q ∧ q.sum = p.sum + rows.length := by
  induction rows generalizing p with
  | nil => simp [shp] at h; subst h; exact ⟨G, by simp⟩
  | cons r t ih =>
    rw [shp] at h
    split at h
    · rename_i hst
      obtain ⟨k, rfl, hk, ha⟩ := stepB_iff.1 hst
      simp only [Int.toNat_natCast] at h
      simp only [List.length_cons] at hs ⊢
      have hsum := inc_sum p k hk
      have := ih _ h (inc_Good G (by omega) hk ha) (by omega)
      exact ⟨this.1, by omega⟩
    · cases h
theorem good_nil : Good [] := ⟨by simp, by simp, by simp, by simp, by simp, by simp⟩
theorem shpO_none {rows : List Int} (h : rowsB rows = false) : shpO rows = none := by
  unfold shpO
  split
  · rename_i hl
    cases hs : shp [] rows with
    | none => rfl
    | some q =>
      have hq := shp_all _ _ _ hs
      have hlen := (shp_len _ _ _ hs).2
      exfalso
      simp only [rowsB, hl, decide_true, Bool.true_and] at h
      rw [List.all_eq_false] at h
      obtain ⟨x, hx, hxx⟩ := h
      have := hq x hx
      simp only [List.length_nil] at hlen
      exact hxx (inB_iff.2 ⟨this.1, by omega⟩)
  · rfl
theorem shpO_eq {rows : List Int} (h : rows.length ≤ 12) : shpO rows = shp [] rows := by simp [shpO, h]
def isChB (rows : List Int) : Bool := rowsB rows && shpB rows
theorem shpL_len (rows : List Int) : (shpL rows).length ≤ 12 := by
  unfold shpL shpO
  split
  · cases hs : shp [] rows with
    | none => simp
    | some q => have := (shp_len _ _ _ hs).2; simp at this ⊢; omega
  · simp
theorem bound_ShapeOf (xs : List Int) : (shpL xs).length ≤ 1048576 := by have := shpL_len xs; omega
end Go.Proofs.Ytnjaoaamcdohoaa
/-
  Plain facts: a bead that is moved down to a gap takes the rim hook of a cell away.
-/
namespace Go.Proofs.Ytnjaoaamcdohoaa

theorem asc_eq : ∀ {L M : List Int}, L.Perm M → L.Pairwise (fun x y => x ≤ y) → M.Pairwise (fun x y => x ≤ y) → L = M
  | [], M, h, _, _ => by rw [List.nil_perm.1 h]
  | x :: L, [], h, _, _ => by have := h.length_eq; simp at this
  | x :: L, y :: M, h, h1, h2 => by
    have hxm : x ∈ y :: M := h.mem_iff.1 (List.mem_cons_self ..)
    have hym : y ∈ x :: L := h.mem_iff.2 (List.mem_cons_self ..)
    have e : x = y := by
      rcases List.mem_cons.1 hxm with e | hx
      · exact e
      · rcases List.mem_cons.1 hym with e | hy
        · exact e.symm
        · have := (List.pairwise_cons.1 h1).1 y hy
          have := (List.pairwise_cons.1 h2).1 x hx
          omega
    subst e
    rw [asc_eq (List.Perm.cons_inv h) (List.pairwise_cons.1 h1).2 (List.pairwise_cons.1 h2).2]

/-! Sums of beads. -/
theorem sum_fn_add (f g : Nat → Int) : ∀ n, (fnRow n fun j => f j + g j).sum = (fnRow n f).sum + (fnRow n g).sum
  | 0 => by simp [fnRow]
  | n + 1 => by
    have := sum_fn_add f g n
    simp only [fnRow, List.range_succ, List.map_append, List.map_cons, List.map_nil, List.sum_append, List.sum_cons, List.sum_nil] at this ⊢
    omega
theorem sum_fn_rev (h : Nat → Int) : ∀ n, (fnRow n fun j => h (n - 1 - j)).sum = (fnRow n h).sum
  | 0 => by simp [fnRow]
  | n + 1 => by
    have ih := sum_fn_rev h n
    have e1 : (fnRow (n + 1) fun j => h (n + 1 - 1 - j)).sum = h n + (fnRow n fun j => h (n - 1 - j)).sum := by
      simp only [fnRow, List.range_succ_eq_map, List.map_cons, List.map_map, List.sum_cons]
      congr 2
      apply List.map_congr_left
      intro j _
      simp only [Function.comp]
      congr 1; omega
    have e2 : (fnRow (n + 1) h).sum = (fnRow n h).sum + h n := by
      simp [fnRow, List.range_succ, List.sum_append]
    rw [e1, e2, ih]; omega
theorem sum_fn_getD : ∀ (p : List Int) (n : Nat), p.length ≤ n → (fnRow n fun j => p.getD j 0).sum = p.sum
  | [], n, _ => by
    have : (fnRow n fun j => ([] : List Int).getD j 0) = List.replicate n 0 := by rw [← rowF_zero n]; exact rowF_ext _ _ _ fun j _ => by simp
    rw [this]; simp
  | x :: t, 0, h => absurd h (by simp)
  | x :: t, n + 1, h => by
    have ih := sum_fn_getD t n (by simpa using h)
    simp only [fnRow, List.range_succ_eq_map, List.map_cons, List.map_map, List.sum_cons] at ih ⊢
    rw [← ih]
    simp [Function.comp_def]
theorem sum_beadsL (p : List Int) (n : Nat) (h : p.length ≤ n) : (beadsL p n).sum = (upTo n).sum + p.sum := by
  have e : beadsL p n = fnRow n fun j => ((j : Nat) : Int) + (fun i => p.getD i 0) (n - 1 - j) := rfl
  rw [e, sum_fn_add (fun j => (j : Int)) (fun j => (fun i => p.getD i 0) (n - 1 - j)), sum_fn_rev (fun i => p.getD i 0), sum_fn_getD p n h]
  rfl

/-! The hits of a row. -/
def rowHits (p : List Int) (t : Int) (r : Nat) : List (Nat × Nat) := hitRow ((hooksR p).getD r []) t r ((hooksR p).getD r []).length
theorem row_of {p : List Int} {r : Nat} (hr : r < p.length) : (hooksR p).getD r [] = rowF (hookN p) r (p.getD r 0).toNat := by unfold hooksR; rw [rowsF_get p _ _ _ hr]
theorem hitRow_iff {row : List Int} {t : Int} {r : Nat} {q : Nat × Nat} : ∀ {m : Nat}, q ∈ hitRow row t r m ↔ q.1 = r ∧ q.2 < m ∧ row.getD q.2 0 = t
  | 0 => by simp [hitRow]
  | m + 1 => by
    have ih := hitRow_iff (row := row) (t := t) (r := r) (q := q) (m := m)
    unfold hitRow
    split
    · rename_i h
      rw [List.mem_append, ih, List.mem_singleton]
      constructor
      · rintro (h1 | h1)
        · exact ⟨h1.1, by omega, h1.2.2⟩
        · subst h1; exact ⟨rfl, by simp, h⟩
      · rintro ⟨h1, h2, h3⟩
        by_cases e : q.2 = m
        · right; exact Prod.ext h1 e
        · left; exact ⟨h1, by omega, h3⟩
    · rename_i h
      rw [ih]
      constructor
      · rintro ⟨h1, h2, h3⟩; exact ⟨h1, by omega, h3⟩
      · rintro ⟨h1, h2, h3⟩
        refine ⟨h1, ?_, h3⟩
        by_cases e : q.2 = m
        · rw [e] at h3; exact absurd h3 h
        · omega
theorem hitRow_nodup (row : List Int) (t : Int) (r : Nat) : ∀ m, (hitRow row t r m).Nodup
  | 0 => by simp [hitRow]
  | m + 1 => by
    have ih := hitRow_nodup row t r m
    unfold hitRow
    split
    · rw [List.nodup_append]
      refine ⟨ih, by simp, ?_⟩
      intro a ha b hb e
      rw [List.mem_singleton] at hb
      subst hb
      subst e
      have := (hitRow_iff.1 ha).2.1
      simp at this
    · exact ih
theorem rowHits_iff {p : List Int} {t : Int} {r : Nat} (hr : r < p.length) {q : Nat × Nat} : q ∈ rowHits p t r ↔ q.1 = r ∧ (q.2 : Int) < p.getD r 0 ∧ hookN p r q.2 = t := by
  unfold rowHits
  rw [hitRow_iff, row_of hr, rowF_len]
  constructor
  · rintro ⟨h1, h2, h3⟩
    rw [rowF_get _ _ _ _ h2] at h3
    exact ⟨h1, by omega, h3⟩
  · rintro ⟨h1, h2, h3⟩
    have : q.2 < (p.getD r 0).toNat := by omega
    exact ⟨h1, this, by rw [rowF_get _ _ _ _ this]; exact h3⟩
theorem gap_mono {p : List Int} (G : Good p) {c d : Int} (hc : 0 ≤ c) (h : c < d) : gapN p c < gapN p d := by
  have h1 : colH p d ≤ colH p c := by
    rcases Int.lt_or_le (colH p c) (colH p d) with hlt | hle
    · exfalso
      have b1 := (colH_bound p c).1
      obtain ⟨r, hr⟩ : ∃ r : Nat, (r : Int) = colH p c := ⟨(colH p c).toNat, by omega⟩
      have := (colH_iff G d (by omega) r).1 (by omega)
      have h2 := (colH_iff G c hc r).2 (by omega)
      omega
    · exact hle
  unfold gapN; omega
theorem rowHits_one {p : List Int} (G : Good p) {t : Int} {r c : Nat} (hr : r < p.length) (hc : (c : Int) < p.getD r 0) (hh : hookN p r c = t) : rowHits p t r = [(r, c)] := by
  have hm : (r, c) ∈ rowHits p t r := (rowHits_iff hr).2 ⟨rfl, hc, hh⟩
  have hall : ∀ q ∈ rowHits p t r, q = (r, c) := by
    intro q hq
    obtain ⟨h1, h2, h3⟩ := (rowHits_iff hr).1 hq
    rw [hook_gap G hr h2] at h3
    rw [hook_gap G hr hc] at hh
    refine Prod.ext h1 ?_
    rcases Nat.lt_trichotomy q.2 c with h | h | h
    · have := gap_mono G (c := (q.2 : Int)) (d := (c : Int)) (by omega) (by omega); omega
    · exact h
    · have := gap_mono G (c := (c : Int)) (d := (q.2 : Int)) (by omega) (by omega); omega
  have hnd : (rowHits p t r).Nodup := hitRow_nodup _ _ _ _
  match hrh : rowHits p t r, hm, hall, hnd with
  | [], hm, _, _ => simp at hm
  | [a], _, hall, _ => rw [hall a (by simp)]
  | a :: b :: l, _, hall, hnd =>
    have ha := hall a (by simp)
    have hb := hall b (by simp)
    rw [ha, hb] at hnd
    simp at hnd
end Go.Proofs.Ytnjaoaamcdohoaa
