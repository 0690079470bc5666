/-
  Several texts in one.
-/
import Derived.Test.YtmiifdedmjfgkaaCH
/-
  Plain facts: all partitions in their order, by ranks and by the greatest part. No program in this text.
-/
namespace Go.Proofs.Ytmiifdedmjfgkaa
theorem T_le {n : Nat} (hn : n < 31) {p : Nat} : ∀ m, m ≤ 30 → p ≤ m → T n p ≤ T n m := by
  intro m
  induction m with
  | zero => intro _ h; rw [Nat.le_zero.1 h]; exact Nat.le_refl _
  | succ m ih =>
    intro hm h
    rcases Nat.eq_or_lt_of_le h with h | h
    · rw [h]; exact Nat.le_refl _
    · exact Nat.le_trans (ih (by omega) (by omega)) (T_up n hn m (by omega))
/-- The rank of a partition with greatest part p. -/
theorem pk_at {n p j : Nat} (hn : n < 31) (h1 : 1 ≤ p) (hp : p ≤ n) (hj : j < T (n - p) p) : ∀ m, m ≤ 30 → p ≤ m → pk n m (T n m - T n p + j) = (p, j) := by
  intro m
  induction m with
  | zero => intro _ h; omega
  | succ m ih =>
    intro hm h
    rcases Nat.eq_or_lt_of_le h with h | h
    · subst h
      have := T_step (n := n) (k := m) hn (by omega) hp
      rw [Nat.sub_self, Nat.zero_add, pk_no (by omega)]
    · have hm' : p ≤ m := by omega
      have h2 := T_le hn m (by omega) hm'
      have h3 := T_up n hn m (by omega)
      rw [pk_yes (by omega), show T n (m + 1) - T n p + j - (T n (m + 1) - T n m) = T n m - T n p + j by omega]
      exact ih (by omega) hm'
/-- What a search finds is a part. -/
theorem pk_ok {n : Nat} (hn : n < 31) (h1 : 1 ≤ n) : ∀ m, m ≤ 30 → ∀ r, r < T n m → ∃ p q, pk n m r = (p, q) ∧ 1 ≤ p ∧ p ≤ m ∧ p ≤ n ∧ q < T (n - p) p := by
  intro m
  induction m with
  | zero => intro _ r h; rw [T_none n hn h1] at h; omega
  | succ m ih =>
    intro hm r h
    by_cases hc : T n (m + 1) - T n m ≤ r
    · obtain ⟨p, q, e, a, b, c, d⟩ := ih (by omega) (r - (T n (m + 1) - T n m)) (by have := T_up n hn m (by omega); omega)
      exact ⟨p, q, by rw [pk_yes hc]; exact e, a, by omega, c, d⟩
    · obtain ⟨c, d⟩ := pick_last (q := r) hn hm (by omega) (by rw [Nat.add_sub_cancel]; exact hc)
      exact ⟨m + 1, r, pk_no hc, by omega, Nat.le_refl _, c, d⟩
/-- How much fuel is there does not matter. -/
theorem pa_fuel2 : ∀ f g n m r, n ≤ f → n ≤ g → n < 31 → m ≤ 30 → r < T n m → pa f n m r = pa g n m r := by
  intro f
  induction f with
  | zero => intro g n m r h _ _ _ _; rw [Nat.le_zero.1 h, pa_zero, pa_zero]
  | succ f ih =>
    intro g n m r h hg hn hm hr
    rcases Nat.eq_zero_or_pos n with h0 | h0
    · subst h0; rw [pa_zero, pa_zero]
    · obtain ⟨p, q, e, a, b, c, d⟩ := pk_ok hn h0 m hm r hr
      obtain ⟨f1, hf1, e1⟩ := pa_next h h0 e
      obtain ⟨g1, hg1, e2⟩ := pa_next hg h0 e
      cases hf1
      rw [e1, e2, ih g1 (n - p) p q (by omega) (by omega) (by omega) (by omega) d]
/-- The first k partitions of n with parts up to m. -/
def lst (n m k : Nat) : List (List Int) := (List.range k).map fun r => pa n n m r
theorem lst_len (n m k : Nat) : (lst n m k).length = k := by simp [lst]
theorem lst_succ (n m k : Nat) : lst n m (k + 1) = lst n m k ++ [pa n n m k] := by simp [lst, List.range_succ]
theorem lst_get (n m k j : Nat) (h : j < k) : (lst n m k).getD j [] = pa n n m j := by
  rw [List.getD_eq_getElem?_getD, lst, List.getElem?_map, List.getElem?_range h]; rfl
theorem lst_zero (m : Nat) : lst 0 m 1 = [[]] := by simp [lst, List.range_succ, pa]
theorem pa_at {n m p j : Nat} (hn : n < 31) (h1 : 1 ≤ p) (hp : p ≤ n) (hm : m ≤ 30) (hpm : p ≤ m) (hj : j < T (n - p) p) : pa n n m (T n m - T n p + j) = (p : Int) :: pa (n - p) (n - p) p j := by
  obtain ⟨f, hf, e⟩ := pa_next (Nat.le_refl n) (by omega) (pk_at hn h1 hp hj m hm hpm)
  rw [e, pa_fuel2 f (n - p) (n - p) p j (by omega) (Nat.le_refl _) (by omega) (by omega) hj]
/-- One row more behind the rows whose greatest part is above p and j of those with p. -/
theorem lst_row {n m p j : Nat} (hn : n < 31) (h1 : 1 ≤ p) (hp : p ≤ n) (hm : m ≤ 30) (hpm : p ≤ m) (hj : j < T (n - p) p) :
    lst n m (T n m - T n p + (j + 1)) = lst n m (T n m - T n p + j) ++ [(p : Int) :: (lst (n - p) p (T (n - p) p)).getD j []] := by
  rw [← Nat.add_assoc, lst_succ, pa_at hn h1 hp hm hpm hj, lst_get _ _ _ _ hj]
/-- The rows of p are done. -/
theorem lst_next {n m p : Nat} (hn : n < 31) (h1 : 1 ≤ p) (hp : p ≤ n) (hm : m ≤ 30) (hpm : p ≤ m) : lst n m (T n m - T n p + T (n - p) p) = lst n m (T n m - T n (p - 1)) := by
  have h2 := T_le hn m hm hpm
  have h3 := T_step (n := n) (k := p - 1) hn (by omega) (by omega)
  rw [show p - 1 + 1 = p by omega] at h3
  congr 1; omega
end Go.Proofs.Ytmiifdedmjfgkaa
/-
  All partitions as a list made part by part. No program in this text.
-/
namespace Go.Proofs.Ytmiifdedmjfgkaa

theorem T_satP : ∀ n, n < 31 → ∀ k, k < 31 → n ≤ k → T n k = T n n := by decide +kernel
theorem T_minP {l m : Nat} (hl : l < 31) (hm : m < 31) : T l (min l m) = T l m := by
  rcases Nat.le_total l m with h | h
  · rw [Nat.min_eq_left h, T_satP l hl m hm h]
  · rw [Nat.min_eq_right h]
def lBg (g : Nat → Nat → List (List Int)) (n : Nat) : Nat → List (List Int)
  | 0 => []
  | p + 1 => (g (n - (p + 1)) (p + 1)).map (fun r => ((p + 1 : Nat) : Int) :: r) ++ lBg g n p
def lA : Nat → Nat → Nat → List (List Int)
  | 0, _, _ => [[]]
  | f + 1, n, m => if n = 0 then [[]] else lBg (lA f) n (min n m)
theorem lA_zero (f m : Nat) : lA f 0 m = [[]] := by cases f <;> rfl
theorem lA_next {f n m : Nat} (h : 0 < n) : lA (f + 1) n m = lBg (lA f) n (min n m) := by rw [lA, if_neg (by omega)]
theorem lst_rows1 {n m p : Nat} (hn : n < 31) (h1 : 1 ≤ p) (hp : p ≤ n) (hm : m ≤ 30) (hpm : p ≤ m) : ∀ j, j ≤ T (n - p) p →
    lst n m (T n m - T n p + j) = lst n m (T n m - T n p) ++ ((lst (n - p) p (T (n - p) p)).take j).map (fun r => (p : Int) :: r)
  | 0, _ => by simp
  | j + 1, hj => by
    rw [lst_row hn h1 hp hm hpm (by omega), lst_rows1 hn h1 hp hm hpm j (by omega), List.append_assoc, List.take_succ_eq_append_getElem (by rw [lst_len]; omega), List.map_append]
    congr 2
    rw [List.getD_eq_getElem?_getD, List.getElem?_eq_getElem (by rw [lst_len]; omega)]
    rfl
theorem lst_lA : ∀ f n m, n ≤ f → n < 31 → m ≤ 30 → 1 ≤ m ∨ n = 0 → lst n m (T n m) = lA f n m
  | f, 0, m, _, _, hm, _ => by rw [lA_zero, T_top m (by omega), lst_zero]
  | 0, n + 1, m, h, _, _, _ => absurd h (by omega)
  | f + 1, n + 1, m, h, hn, hm, h1 => by
    rw [lA_next (by omega)]
    have key : ∀ p, p ≤ n + 1 → p ≤ m → lst (n + 1) m (T (n + 1) m - T (n + 1) p) ++ lBg (lA f) (n + 1) p = lst (n + 1) m (T (n + 1) m) := by
      intro p
      induction p with
      | zero =>
        intro _ _
        rw [T_none (n + 1) hn (by omega), lBg, List.append_nil, Nat.sub_zero]
      | succ p ih =>
        intro hp hpm
        rw [← ih (by omega) (by omega), lBg, ← List.append_assoc]
        congr 1
        have e := lst_rows1 (n := n + 1) (m := m) (p := p + 1) hn (by omega) hp hm hpm _ (Nat.le_refl _)
        rw [lst_next hn (by omega) hp hm hpm, show p + 1 - 1 = p by omega, List.take_of_length_le (by rw [lst_len]; omega), lst_lA f (n + 1 - (p + 1)) (p + 1) (by omega) (by omega) (by omega) (.inl (by omega))] at e
        exact e.symm
    have e := key (min (n + 1) m) (by omega) (by omega)
    rw [← e, T_minP hn (by omega), Nat.sub_self]
    rfl
end Go.Proofs.Ytmiifdedmjfgkaa
