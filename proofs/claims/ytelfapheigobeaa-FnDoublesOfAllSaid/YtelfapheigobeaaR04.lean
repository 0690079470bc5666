/-
  Several texts in one.
-/
import Derived.Test.YtelfapheigobeaaR01
import Derived.Test.YtelfapheigobeaaR03
/-
  Plain facts on partitions with a cell more, on chains and on cycles. No program in this text.
-/
namespace Go.Proofs.Ytelfapheigobeaa

/-- p with a cell more at the end of the row r, which may be the one behind the last. -/
def incL (p : List Int) (r : Nat) : List Int := if r = p.length then p ++ [1] else p.set r (p.getD r 0 + 1)
theorem inc_len (p : List Int) (r : Nat) : (incL p r).length = if r = p.length then p.length + 1 else p.length := by unfold incL; split <;> simp
theorem inc_get (p : List Int) (r : Nat) (hr : r ≤ p.length) (j : Nat) : (incL p r).getD j 0 = p.getD j 0 + (if j = r then 1 else 0) := by
  unfold incL
  split
  · rename_i h
    subst h
    rcases Nat.lt_trichotomy j p.length with h | h | h
    · rw [if_neg (by omega)]; simp [List.getD, List.getElem?_append_left h]
    · subst h; simp [List.getD]
    · rw [if_neg (by omega)]
      rw [List.getD_eq_getElem?_getD, List.getElem?_eq_none (by simp; omega), List.getD_eq_getElem?_getD, List.getElem?_eq_none (by omega)]; rfl
  · rename_i h
    have hlt : r < p.length := by omega
    by_cases hj : j = r
    · subst hj; simp [List.getD, hlt]
    · rw [if_neg hj]; simp [List.getD, Ne.symm hj]
theorem sum_set (p : List Int) (r : Nat) (h : r < p.length) (x : Int) : (p.set r x).sum = p.sum + x - p.getD r 0 := by
  induction p generalizing r with
  | nil => simp at h
  | cons y t ih =>
    cases r with
    | zero => simp; omega
    | succ r =>
      have := ih r (by simpa using h)
      simp only [List.set_cons_succ, List.sum_cons, List.getD_cons_succ]
      omega
theorem inc_sum (p : List Int) (r : Nat) (hr : r ≤ p.length) : (incL p r).sum = p.sum + 1 := by
  unfold incL
  split
  · simp
  · rw [sum_set p r (by omega)]; omega
/-- What is written: a zero behind p, and one more in the row r; the zero is left out again. -/
theorem inc_more (p : List Int) (r : Nat) (hr : r ≤ p.length) : (incL p r).length ≤ p.length + 1 ∧ ((p ++ [0]).set r ((p ++ [0]).getD r 0 + 1)).take (incL p r).length = incL p r ∧ ((p ++ [0]).set r ((p ++ [0]).getD r 0 + 1)).length = p.length + 1 := by
  refine ⟨by rw [inc_len]; split <;> omega, ?_, by simp⟩
  unfold incL
  split
  · rename_i h
    subst h
    rw [List.take_of_length_le (by simp)]
    simp [List.getD]
  · rename_i h
    have hlt : r < p.length := by omega
    rw [List.set_append_left _ _ hlt, List.take_append_of_le_length (by simp), List.take_of_length_le (by simp)]
    simp [List.getD, List.getElem?_append_left hlt]
theorem len_sum (p : List Int) (h : ∀ j, j < p.length → 1 ≤ p.getD j 0) : (p.length : Int) ≤ p.sum := by
  induction p with
  | nil => simp
  | cons x t ih =>
    have h0 := h 0 (by simp)
    have := ih (fun j hj => by simpa using h (j + 1) (by simp; omega))
    simp only [List.getD_cons_zero] at h0
    simp only [List.length_cons, List.sum_cons]; omega
theorem sum_nn (p : List Int) (h : ∀ j, j < p.length → 0 ≤ p.getD j 0) : 0 ≤ p.sum := by
  induction p with
  | nil => simp
  | cons x t ih =>
    have h0 := h 0 (by simp)
    have := ih (fun j hj => by simpa using h (j + 1) (by simp; omega))
    simp only [List.getD_cons_zero] at h0
    simp only [List.sum_cons]; omega
theorem part_sum (p : List Int) (h : ∀ j, j < p.length → 0 ≤ p.getD j 0) (j : Nat) (hj : j < p.length) : p.getD j 0 ≤ p.sum := by
  induction p generalizing j with
  | nil => simp at hj
  | cons x t ih =>
    have h0 := h 0 (by simp)
    have ht : ∀ j, j < t.length → 0 ≤ t.getD j 0 := fun j hj => by simpa using h (j + 1) (by simp; omega)
    have hs := sum_nn t ht
    simp only [List.getD_cons_zero] at h0
    cases j with
    | zero => simp only [List.getD_cons_zero, List.sum_cons]; omega
    | succ j =>
      have := ih ht j (by simpa using hj)
      simp only [List.getD_cons_succ, List.sum_cons]; omega
theorem Good.len_le {p : List Int} (G : Good p) : (p.length : Int) ≤ p.sum := len_sum p G.pos
theorem getD_past (p : List Int) (j : Nat) (h : p.length ≤ j) : p.getD j 0 = 0 := by rw [List.getD_eq_getElem?_getD, List.getElem?_eq_none h]; rfl
/-- A cell more makes a partition just where a cell can be added. -/
theorem inc_good {p : List Int} (G : Good p) (hs : p.sum ≤ 29) (r : Nat) (hr : r ≤ p.length) : good (incL p r) = addB p r := by
  have hll := G.len_le
  have hpos : ∀ j, j < (incL p r).length → 1 ≤ (incL p r).getD j 0 := by
    intro j hj
    rw [inc_get p r hr]
    rw [inc_len] at hj
    by_cases h : j < p.length
    · have := G.pos j h
      split <;> omega
    · have : j = r := by split at hj <;> omega
      rw [if_pos this, getD_past p j (by omega)]; omega
  have hsum := inc_sum p r hr
  have hlen : (incL p r).length ≤ 30 := by rw [inc_len]; split <;> omega
  have hle : ∀ j, j < (incL p r).length → (incL p r).getD j 0 ≤ 30 := fun j hj => by
    have := part_sum (incL p r) (fun i hi => by have := hpos i hi; omega) j hj
    omega
  cases ha : addB p r
  · cases hg : good (incL p r)
    · rfl
    · exfalso
      have G2 := (good_iff _).1 hg
      simp only [addB, Bool.or_eq_false_iff, decide_eq_false_iff_not] at ha
      have hd := G2.down (r - 1) (by rw [inc_len, if_neg ha.2.1]; omega)
      rw [show r - 1 + 1 = r by omega, inc_get p r hr, inc_get p r hr, if_pos rfl, if_neg (by omega)] at hd
      omega
  · refine (good_iff _).2 ⟨hlen, hpos, hle, fun j hj => ?_, by omega, by omega⟩
    rw [inc_get p r hr, inc_get p r hr]
    rw [inc_len] at hj
    simp only [addB, Bool.or_eq_true, decide_eq_true_eq] at ha
    by_cases h : j + 1 < p.length
    · have hd := G.down j h
      by_cases e : j + 1 = r
      · subst e
        rw [if_pos rfl, if_neg (by omega)]
        rw [show j + 1 - 1 = j by omega] at ha
        omega
      · rw [if_neg e]; split <;> omega
    · have e1 : j + 1 = p.length ∧ r = p.length := by split at hj <;> omega
      rw [getD_past p (j + 1) (by omega), if_pos (by omega), if_neg (by omega)]
      have := G.pos j (by omega)
      omega
theorem inc_Good {p : List Int} (G : Good p) (hs : p.sum ≤ 29) {r : Nat} (hr : r ≤ p.length) (h : addB p r = true) : Good (incL p r) := (good_iff _).1 (by rw [inc_good G hs r hr]; exact h)

/-- A cell can be added at the end of a row. -/
def stepB (p : List Int) (r : Int) : Bool := decide (0 ≤ r) && (decide (r ≤ (p.length : Int)) && addB p r.toNat)
theorem stepB_iff {p : List Int} {r : Int} : stepB p r = true ↔ ∃ k : Nat, r = k ∧ k ≤ p.length ∧ addB p k = true := by
  simp only [stepB, Bool.and_eq_true, decide_eq_true_eq]
  constructor
  · rintro ⟨h1, h2, h3⟩; exact ⟨r.toNat, by omega, by omega, h3⟩
  · rintro ⟨k, rfl, h2, h3⟩; exact ⟨by omega, by omega, by simpa using h3⟩
theorem stepB_nat (p : List Int) (k : Nat) : stepB p k = (decide (k ≤ p.length) && addB p k) := by
  simp [stepB]
theorem mem_add (p : List Int) (r : Int) : decide (r ∈ filt (addB p) (p.length + 1)) = stepB p r := by
  rw [Bool.eq_iff_iff, decide_eq_true_eq, stepB_iff]
  simp only [filt, List.mem_map, List.mem_filter, List.mem_range]
  constructor
  · rintro ⟨k, ⟨h1, h2⟩, rfl⟩; exact ⟨k, rfl, by omega, h2⟩
  · rintro ⟨k, rfl, h1, h2⟩; exact ⟨k, ⟨by omega, h2⟩, rfl⟩

/-- The shape of rows, beginning with p. -/
def shp : List Int → List Int → Option (List Int)
  | p, [] => some p
  | p, r :: t => if stepB p r then shp (incL p r.toNat) t else none
theorem shp_drop (p rows : List Int) (k : Nat) (h : k < rows.length) : shp p (rows.drop k) = if stepB p (rows.getD k 0) then shp (incL p (rows.getD k 0).toNat) (rows.drop (k + 1)) else none := by
  rw [drop_cons rows k h, shp]
def rowsB (rows : List Int) : Bool := decide (rows.length ≤ 12) && rows.all (inB 0 99)
def shpO (rows : List Int) : Option (List Int) := if rows.length ≤ 12 then shp [] rows else none
def shpL (rows : List Int) : List Int := (shpO rows).getD []
def shpB (rows : List Int) : Bool := (shpO rows).isSome
theorem shp_len (p rows q : List Int) (h : shp p rows = some q) : p.length ≤ q.length ∧ q.length ≤ p.length + rows.length := by
  induction rows generalizing p with
  | nil => simp [shp] at h; subst h; simp
  | cons r t ih =>
    rw [shp] at h
    split at h
    · have := ih _ h
      rw [inc_len] at this
      simp only [List.length_cons]
      split at this <;> omega
    · cases h
theorem shp_all (p rows q : List Int) (h : shp p rows = some q) : ∀ r ∈ rows, 0 ≤ r ∧ r ≤ (q.length : Int) := by
  induction rows generalizing p with
  | nil => simp
  | cons r t ih =>
    rw [shp] at h
    split at h
    · rename_i hs
      intro x hx
      rcases List.mem_cons.1 hx with rfl | hx
      · obtain ⟨k, rfl, hk, _⟩ := stepB_iff.1 hs
        have := (shp_len _ _ _ h).1
        rw [inc_len] at this
        split at this <;> omega
      · exact ih _ h x hx
    · cases h
theorem shp_good (p rows q : List Int) (h : shp p rows = some q) (G : Good p) (hs : p.sum + rows.length ≤ 30) : Good q ∧ q.sum = p.sum + rows.length := by
  induction rows generalizing p with
  | nil => simp [shp] at h; subst h; exact ⟨G, by simp⟩
  | cons r t ih =>
    rw [shp] at h
    split at h
    · rename_i hst
      obtain ⟨k, rfl, hk, ha⟩ := stepB_iff.1 hst
      simp only [Int.toNat_natCast] at h
      simp only [List.length_cons] at hs ⊢
      have hsum := inc_sum p k hk
      have := ih _ h (inc_Good G (by omega) hk ha) (by omega)
      exact ⟨this.1, by omega⟩
    · cases h
theorem good_nil : Good [] := ⟨by simp, by simp, by simp, by simp, by simp, by simp⟩
theorem shpO_none {rows : List Int} (h : rowsB rows = false) : shpO rows = none := by
  unfold shpO
  split
  · rename_i hl
    cases hs : shp [] rows with
    | none => rfl
    | some q =>
      have hq := shp_all _ _ _ hs
      have hlen := (shp_len _ _ _ hs).2
      exfalso
      simp only [rowsB, hl, decide_true, Bool.true_and] at h
      rw [List.all_eq_false] at h
      obtain ⟨x, hx, hxx⟩ := h
      have := hq x hx
      simp only [List.length_nil] at hlen
      exact hxx (inB_iff.2 ⟨this.1, by omega⟩)
  · rfl
theorem shpO_eq {rows : List Int} (h : rows.length ≤ 12) : shpO rows = shp [] rows := by simp [shpO, h]
def isChB (rows : List Int) : Bool := rowsB rows && shpB rows
theorem shpL_len (rows : List Int) : (shpL rows).length ≤ 12 := by
  unfold shpL shpO
  split
  · cases hs : shp [] rows with
    | none => simp
    | some q => have := (shp_len _ _ _ hs).2; simp at this ⊢; omega
  · simp
theorem bound_ShapeOf (xs : List Int) : (shpL xs).length ≤ 1048576 := by have := shpL_len xs; omega
end Go.Proofs.Ytelfapheigobeaa
/-
  Lengths of bars: the model's one countdown is the program's two lists.
-/
namespace Go.Proofs.Ytelfapheigobeaa

/-- m, m - 1, .. : k numbers. -/
def cdn (m k : Nat) : List Int := (List.range k).map fun i : Nat => (m : Int) - i
theorem cdn_succ (m k : Nat) : cdn m (k + 1) = cdn m k ++ [(m : Int) - k] := by simp [cdn, List.range_succ]
theorem cdn_len (m k : Nat) : (cdn m k).length = k := by simp [cdn]
theorem cdn_top (m k : Nat) : cdn (m + 1) (k + 1) = ((m + 1 : Nat) : Int) :: cdn m k := by
  unfold cdn
  rw [List.range_succ_eq_map, List.map_cons, List.map_map]
  congr 1
  apply List.map_congr_left
  intro i _
  simp only [Function.comp, Nat.succ_eq_add_one]
  omega
theorem cdn_split (m j k : Nat) (h : j ≤ m) : cdn m (j + k) = cdn m j ++ cdn (m - j) k := by
  induction k with
  | zero => simp [cdn]
  | succ k ih =>
    rw [← Nat.add_assoc, cdn_succ, ih, cdn_succ, List.append_assoc]
    congr 3
    omega
theorem cdn_mem {m k : Nat} {n : Int} (h : n ∈ cdn m k) : (m : Int) - k < n ∧ n ≤ m := by
  obtain ⟨i, hi, rfl⟩ := List.mem_map.1 h
  have := List.mem_range.1 hi
  omega
/-- A list that falls, with numbers from 1 to m, is what a countdown from m shows of it. -/
theorem cdn_filter : ∀ (m : Nat) (ys : List Int), ys.Pairwise (· > ·) → (∀ y ∈ ys, 1 ≤ y ∧ y ≤ m) → (cdn m m).filter (fun n => decide (n ∈ ys)) = ys
  | 0, ys, _, hb => by
    cases ys with
    | nil => rfl
    | cons y t => have := hb y (by simp); omega
  | m + 1, [], _, _ => by simp
  | m + 1, y :: t, hp, hb => by
    rw [cdn_top]
    have hp' := List.pairwise_cons.1 hp
    have hy := hb y (by simp)
    by_cases e : y = ((m + 1 : Nat) : Int)
    · rw [List.filter_cons_of_pos (by simp [e])]
      rw [← e]
      congr 1
      rw [← cdn_filter m t hp'.2 (fun z hz => ⟨(hb z (by simp [hz])).1, by have := hp'.1 z hz; omega⟩)]
      rw [cdn_filter m t hp'.2 (fun z hz => ⟨(hb z (by simp [hz])).1, by have := hp'.1 z hz; omega⟩)]
      conv => rhs; rw [← cdn_filter m t hp'.2 (fun z hz => ⟨(hb z (by simp [hz])).1, by have := hp'.1 z hz; omega⟩)]
      apply List.filter_congr
      intro n hn
      have := cdn_mem hn
      have hne : n ≠ y := by omega
      simp [hne]
    · have hn : ¬ ((m + 1 : Nat) : Int) ∈ y :: t := by
        intro h
        rcases List.mem_cons.1 h with h1 | h1
        · omega
        · have := hp'.1 _ h1; omega
      rw [List.filter_cons_of_neg (by simpa using hn)]
      refine cdn_filter m (y :: t) hp (fun z hz => ⟨(hb z hz).1, ?_⟩)
      rcases List.mem_cons.1 hz with h1 | h1
      · subst h1; have := hb z (by simp); omega
      · have := hp'.1 z h1; omega

def blHi (x : Nat) (ys : List Int) : List Int := ys.map fun y => (x : Int) + y
def blLo (x : Nat) (ys : List Int) (k : Nat) : List Int := (cdn x k).filter fun n => decide (¬ (x : Int) - n ∈ ys)
def blL (x : Nat) (ys : List Int) : List Int := blHi x ys ++ blLo x ys x
def blC (x : Nat) (ys : List Int) (n : Int) : Bool := if n ≤ x then decide (¬ (x : Int) - n ∈ ys) else decide (n - x ∈ ys)
/-- What the model holds after k steps of its countdown from 2 x. -/
def blM (x : Nat) (ys : List Int) (k : Nat) : List Int := (cdn (2 * x) k).filter (blC x ys)
theorem blM_zero (x : Nat) (ys : List Int) : blM x ys 0 = [] := rfl
theorem blM_yes {x : Nat} {ys : List Int} {k : Nat} (h : blC x ys (((2 * x : Nat) : Int) - k) = true) : blM x ys (k + 1) = blM x ys k ++ [((2 * x : Nat) : Int) - k] := by
  unfold blM; rw [cdn_succ, List.filter_append, List.filter_cons_of_pos h]; rfl
theorem blM_no {x : Nat} {ys : List Int} {k : Nat} (h : blC x ys (((2 * x : Nat) : Int) - k) = false) : blM x ys (k + 1) = blM x ys k := by
  unfold blM; rw [cdn_succ, List.filter_append, List.filter_cons_of_neg (by rw [h]; decide), List.filter_nil, List.append_nil]
theorem blM_len (x : Nat) (ys : List Int) (k : Nat) : (blM x ys k).length ≤ k := by
  have := List.length_filter_le (blC x ys) (cdn (2 * x) k)
  rw [cdn_len] at this; exact this
theorem blLo_yes {x : Nat} {ys : List Int} {k : Nat} (h : ¬ (k : Int) ∈ ys) : blLo x ys (k + 1) = blLo x ys k ++ [(x : Int) - k] := by
  unfold blLo; rw [cdn_succ, List.filter_append]
  have e : (x : Int) - ((x : Int) - k) = k := by omega
  simp [e, h]
theorem blLo_no {x : Nat} {ys : List Int} {k : Nat} (h : (k : Int) ∈ ys) : blLo x ys (k + 1) = blLo x ys k := by
  unfold blLo; rw [cdn_succ, List.filter_append]
  have e : (x : Int) - ((x : Int) - k) = k := by omega
  simp [e, h]
theorem blLo_len (x : Nat) (ys : List Int) (k : Nat) : (blLo x ys k).length ≤ k := by
  have := List.length_filter_le (fun n => decide (¬ (x : Int) - n ∈ ys)) (cdn x k)
  rw [cdn_len] at this; exact this
theorem blHi_len (x : Nat) (ys : List Int) : (blHi x ys).length = ys.length := by simp [blHi]
theorem blM_all {x : Nat} {ys : List Int} (hp : ys.Pairwise (· > ·)) (hb : ∀ y ∈ ys, 1 ≤ y ∧ y ≤ x) : blM x ys (2 * x) = blL x ys := by
  unfold blM blL
  rw [show cdn (2 * x) (2 * x) = cdn (2 * x) x ++ cdn x x by have := cdn_split (2 * x) x x (by omega); rwa [← Nat.two_mul, show 2 * x - x = x by omega] at this]
  rw [List.filter_append]
  have h2 : (cdn x x).filter (blC x ys) = blLo x ys x := by
    unfold blLo
    apply List.filter_congr
    intro n hn
    have := cdn_mem hn
    unfold blC; rw [if_pos this.2]
  have h1 : (cdn (2 * x) x).filter (blC x ys) = blHi x ys := by
    have e : cdn (2 * x) x = (cdn x x).map fun n => (x : Int) + n := by
      unfold cdn; rw [List.map_map]
      apply List.map_congr_left
      intro i _
      simp only [Function.comp]; omega
    rw [e, List.filter_map]
    unfold blHi
    congr 1
    conv => rhs; rw [← cdn_filter x ys hp hb]
    apply List.filter_congr
    intro n hn
    have := cdn_mem hn
    simp only [Function.comp]
    unfold blC; rw [if_neg (by omega), show (x : Int) + n - x = n by omega]
  rw [h1, h2]

theorem strB_pairwise {xs : List Int} (h : strB xs = true) : xs.Pairwise (· > ·) := by
  rw [List.pairwise_iff_getElem]
  intro i j hi hj hij
  have := strB_lt h hij hj
  rw [List.getD_eq_getElem?_getD, List.getD_eq_getElem?_getD, List.getElem?_eq_getElem hj, List.getElem?_eq_getElem hi] at this
  simpa using this
theorem strB_drop {xs : List Int} (h : strB xs = true) {k : Nat} (hk : k < xs.length) : (xs.drop (k + 1)).Pairwise (· > ·) ∧ ∀ y ∈ xs.drop (k + 1), 1 ≤ y ∧ y ≤ (xs.getD k 0) - 1 := by
  refine ⟨(strB_pairwise h).sublist (List.drop_sublist _ _), fun y hy => ?_⟩
  obtain ⟨j, hj, rfl⟩ := List.mem_iff_getElem.1 hy
  rw [List.length_drop] at hj
  have e : (xs.drop (k + 1))[j]'(by rw [List.length_drop]; exact hj) = xs.getD (k + 1 + j) 0 := by
    rw [List.getElem_drop, List.getD_eq_getElem?_getD, List.getElem?_eq_getElem (by omega)]; rfl
  rw [e]
  have h1 := (strB_good h).pos (k + 1 + j) (by omega)
  have h2 := strB_lt h (i := k) (j := k + 1 + j) (by omega) (by omega)
  omega

/-- The rows of the lengths of the first k parts. -/
def blR (xs : List Int) (k : Nat) : List (List Int) := (List.range k).map fun i => blL (xs.getD i 0).toNat (xs.drop (i + 1))
theorem blR_succ (xs : List Int) (k : Nat) : blR xs (k + 1) = blR xs k ++ [blL (xs.getD k 0).toNat (xs.drop (k + 1))] := by simp [blR, List.range_succ]
theorem blR_len (xs : List Int) (k : Nat) : (blR xs k).length = k := by simp [blR]
theorem blR_get (xs : List Int) (k j : Nat) (h : j < k) : (blR xs k).getD j [] = blL (xs.getD j 0).toNat (xs.drop (j + 1)) := by simp [blR, List.getD, h]
def blF (xs : List Int) : List (List Int) := if strB xs then blR xs xs.length else []
theorem blF_t {xs : List Int} (h : strB xs = true) : blF xs = blR xs xs.length := by simp [blF, h]
theorem blF_f {xs : List Int} (h : strB xs = false) : blF xs = [] := by simp [blF, h]
end Go.Proofs.Ytelfapheigobeaa
