/-
  Lengths of bars: the model's one countdown is the program's two lists.
-/
import Derived.Test.YtphfmlfojebjkaaBrMath
namespace Go.Proofs.Ytphfmlfojebjkaa

/-- m, m - 1, .. : k numbers. -/
def cdn (m k : Nat) : List Int := (List.range k).map fun i : Nat => (m : Int) - i
theorem cdn_succ (m k : Nat) : cdn m (k + 1) = cdn m k ++ [(m : Int) - k] := by simp [cdn, List.range_succ]
theorem cdn_len (m k : Nat) : (cdn m k).length = k := by simp [cdn]
theorem cdn_top (m k : Nat) : cdn (m + 1) (k + 1) = ((m + 1 : Nat) : Int) :: cdn m k := by
  unfold cdn
  rw [List.range_succ_eq_map, List.map_cons, List.map_map]
  congr 1
  apply List.map_congr_left
  intro i _
  simp only [Function.comp, Nat.succ_eq_add_one]
  omega
theorem cdn_split (m j k : Nat) (h : j ≤ m) : cdn m (j + k) = cdn m j ++ cdn (m - j) k := by
  induction k with
  | zero => simp [cdn]
  | succ k ih =>
    rw [← Nat.add_assoc, cdn_succ, ih, cdn_succ, List.append_assoc]
    congr 3
    omega
theorem cdn_mem {m k : Nat} {n : Int} (h : n ∈ cdn m k) : (m : Int) - k < n ∧ n ≤ m := by
  obtain ⟨i, hi, rfl⟩ := List.mem_map.1 h
  have := List.mem_range.1 hi
  omega
/-- A list that falls, with numbers from 1 to m, is what a countdown from m shows of it. -/
theorem cdn_filter : ∀ (m : Nat) (ys : List Int), ys.Pairwise (· > ·) → (∀ y ∈ ys, 1 ≤ y ∧ y ≤ m) → (cdn m m).filter (fun n => decide (n ∈ ys)) = ys
  | 0, ys, _, hb => by
    cases ys with
    | nil => rfl
    | cons y t => have := hb y (by simp); omega
  | m + 1, [], _, _ => by simp
  | m + 1, y :: t, hp, hb => by
    rw [cdn_top]
    have hp' := List.pairwise_cons.1 hp
    have hy := hb y (by simp)
    by_cases e : y = ((m + 1 : Nat) : Int)
    · rw [List.filter_cons_of_pos (by simp [e])]
      rw [← e]
      congr 1
      rw [← cdn_filter m t hp'.2 (fun z hz => ⟨(hb z (by simp [hz])).1, by have := hp'.1 z hz; omega⟩)]
      rw [cdn_filter m t hp'.2 (fun z hz => ⟨(hb z (by simp [hz])).1, by have := hp'.1 z hz; omega⟩)]
      conv => rhs; rw [← cdn_filter m t hp'.2 (fun z hz => ⟨(hb z (by simp [hz])).1, by have := hp'.1 z hz; omega⟩)]
      apply List.filter_congr
      intro n hn
      have := cdn_mem hn
      have hne : n ≠ y := by omega
      simp [hne]
    · have hn : ¬ ((m + 1 : Nat) : Int) ∈ y :: t := by
        intro h
        rcases List.mem_cons.1 h with h1 | h1
        · omega
        · have := hp'.1 _ h1; omega
      rw [List.filter_cons_of_neg (by simpa using hn)]
      refine cdn_filter m (y :: t) hp (fun z hz => ⟨(hb z hz).1, ?_⟩)
      rcases List.mem_cons.1 hz with h1 | h1
      · subst h1; have := hb z (by simp); omega
      · have := hp'.1 z h1; omega

def blHi (x : Nat) (ys : List Int) : List Int := ys.map fun y => (x : Int) + y
def blLo (x : Nat) (ys : List Int) (k : Nat) : List Int := (cdn x k).filter fun n => decide (¬ (x : Int) - n ∈ ys)
def blL (x : Nat) (ys : List Int) : List Int := blHi x ys ++ blLo x ys x
def blC (x : Nat) (ys : List Int) (n : Int) : Bool := if n ≤ x then decide (¬ (x : Int) - n ∈ ys) else decide (n - x ∈ ys)
/-- What the model holds after k steps of its countdown from 2 x. -/
def blM (x : Nat) (ys : List Int) (k : Nat) : List Int := (cdn (2 * x) k).filter (blC x ys)
theorem blM_zero (x : Nat) (ys : List Int) : blM x ys 0 = [] := rfl
theorem blM_yes {x : Nat} {ys : List Int} {k : Nat} (h : blC x ys (((2 * x : Nat) : Int) - k) = true) : blM x ys (k + 1) = blM x ys k ++ [((2 * x : Nat) : Int) - k] := by
  unfold blM; rw [cdn_succ, List.filter_append, List.filter_cons_of_pos h]; rfl
theorem blM_no {x : Nat} {ys : List Int} {k : Nat} (h : blC x ys (((2 * x : Nat) : Int) - k) = false) : blM x ys (k + 1) = blM x ys k := by
  unfold blM; rw [cdn_succ, List.filter_append, List.filter_cons_of_neg (by rw [h]; decide), List.filter_nil, List.append_nil]
theorem blM_len (x : Nat) (ys : List Int) (k : Nat) : (blM x ys k).length ≤ k := by
  have := List.length_filter_le (blC x ys) (cdn (2 * x) k)
  rw [cdn_len] at this; exact this
theorem blLo_yes {x : Nat} {ys : List Int} {k : Nat} (h : ¬ (k : Int) ∈ ys) : blLo x ys (k + 1) = blLo x ys k ++ [(x : Int) - k] := by
  unfold blLo; rw [cdn_succ, List.filter_append]
  have e : (x : Int) - ((x : Int) - k) = k := by omega
  simp [e, h]
theorem blLo_no {x : Nat} {ys : List Int} {k : Nat} (h : (k : Int) ∈ ys) : blLo x ys (k + 1) = blLo x ys k := by
  unfold blLo; rw [cdn_succ, List.filter_append]
  have e : (x : Int) - ((x : Int) - k) = k := by omega
  simp [e, h]
theorem blLo_len (x : Nat) (ys : List Int) (k : Nat) : (blLo x ys k).length ≤ k := by
  have := List.length_filter_le (fun n => decide (¬ (x : Int) - n ∈ ys)) (cdn x k)
  rw [cdn_len] at this; exact this
theorem blHi_len (x : Nat) (ys : List Int) : (blHi x ys).length = ys.length := by simp [blHi]
theorem blM_all {x : Nat} {ys : List Int} (hp : ys.Pairwise (· > ·)) (hb : ∀ y ∈ ys, 1 ≤ y ∧ y ≤ x) : blM x ys (2 * x) = blL x ys := by
  unfold blM blL
  rw [show cdn (2 * x) (2 * x) = cdn (2 * x) x ++ cdn x x by have := cdn_split (2 * x) x x (by omega); rwa [← Nat.two_mul, show 2 * x - x = x by omega] at this]
  rw [List.filter_append]
  have h2 : (cdn x x).filter (blC x ys) = blLo x ys x := by
    unfold blLo
    apply List.filter_congr
    intro n hn
    have := cdn_mem hn
    unfold blC; rw [if_pos this.2]
  have h1 : (cdn (2 * x) x).filter (blC x ys) = blHi x ys := by
    have e : cdn (2 * x) x = (cdn x x).map fun n => (x : Int) + n := by
      unfold cdn; rw [List.map_map]
      apply List.map_congr_left
      intro i _
      simp only [Function.comp]; omega
    rw [e, List.filter_map]
    unfold blHi
    congr 1
    conv => rhs; rw [← cdn_filter x ys hp hb]
    apply List.filter_congr
    intro n hn
    have := cdn_mem hn
    simp only [Function.comp]
    unfold blC; rw [if_neg (by omega), show (x : Int) + n - x = n by omega]
  rw [h1, h2]

theorem strB_pairwise {xs : List Int} (h : strB xs = true) : xs.Pairwise (· > ·) := by
  rw [List.pairwise_iff_getElem]
  intro i j hi hj hij
  have := strB_lt h hij hj
  rw [List.getD_eq_getElem?_getD, List.getD_eq_getElem?_getD, List.getElem?_eq_getElem hj, List.getElem?_eq_getElem hi] at this
  simpa using this
theorem strB_drop {xs : List Int} (h : strB xs = true) {k : Nat} (hk : k < xs.length) : (xs.drop (k + 1)).Pairwise (· > ·) ∧ ∀ y ∈ xs.drop (k + 1), 1 ≤ y ∧ y ≤ (xs.getD k 0) - 1 := by
  refine ⟨(strB_pairwise h).sublist (List.drop_sublist _ _), fun y hy => ?_⟩
  obtain ⟨j, hj, rfl⟩ := List.mem_iff_getElem.1 hy
  rw [List.length_drop] at hj
  have e : (xs.drop (k + 1))[j]'(by rw [List.length_drop]; exact hj) = xs.getD (k + 1 + j) 0 := by
    rw [List.getElem_drop, List.getD_eq_getElem?_getD, List.getElem?_eq_getElem (by omega)]; rfl
  rw [e]
  have h1 := (strB_good h).pos (k + 1 + j) (by omega)
  have h2 := strB_lt h (i := k) (j := k + 1 + j) (by omega) (by omega)
  omega

/-- The rows of the lengths of the first k parts. -/
def blR (xs : List Int) (k : Nat) : List (List Int) := (List.range k).map fun i => blL (xs.getD i 0).toNat (xs.drop (i + 1))
theorem blR_succ (xs : List Int) (k : Nat) : blR xs (k + 1) = blR xs k ++ [blL (xs.getD k 0).toNat (xs.drop (k + 1))] := by simp [blR, List.range_succ]
theorem blR_len (xs : List Int) (k : Nat) : (blR xs k).length = k := by simp [blR]
theorem blR_get (xs : List Int) (k j : Nat) (h : j < k) : (blR xs k).getD j [] = blL (xs.getD j 0).toNat (xs.drop (j + 1)) := by simp [blR, List.getD, h]
def blF (xs : List Int) : List (List Int) := if strB xs then blR xs xs.length else []
theorem blF_t {xs : List Int} (h : strB xs = true) : blF xs = blR xs xs.length := by simp [blF, h]
theorem blF_f {xs : List Int} (h : strB xs = false) : blF xs = [] := by simp [blF, h]
end Go.Proofs.Ytphfmlfojebjkaa
