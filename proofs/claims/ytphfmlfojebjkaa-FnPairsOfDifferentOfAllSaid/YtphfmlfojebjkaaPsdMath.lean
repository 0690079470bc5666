/-
  Pairs of strict partitions: they undo themselves; the signed numbers. Checked over all strict partitions.
-/
import Derived.Test.YtphfmlfojebjkaaDbMath
import Derived.Test.YtphfmlfojebjkaaPrMath
import Derived.Test.YtphfmlfojebjkaaAllMath
namespace Go.Proofs.Ytphfmlfojebjkaa

theorem T_satP : ∀ n, n < 31 → ∀ k, k < 31 → n ≤ k → T n k = T n n := by decide +kernel
theorem T_minP {l m : Nat} (hl : l < 31) (hm : m < 31) : T l (min l m) = T l m := by
  rcases Nat.le_total l m with h | h
  · rw [Nat.min_eq_left h, T_satP l hl m hm h]
  · rw [Nat.min_eq_right h]
def lBg (g : Nat → Nat → List (List Int)) (n : Nat) : Nat → List (List Int)
  | 0 => []
  | p + 1 => (g (n - (p + 1)) (p + 1)).map (fun r => ((p + 1 : Nat) : Int) :: r) ++ lBg g n p
def lA : Nat → Nat → Nat → List (List Int)
  | 0, _, _ => [[]]
  | f + 1, n, m => if n = 0 then [[]] else lBg (lA f) n (min n m)
theorem lA_zero (f m : Nat) : lA f 0 m = [[]] := by cases f <;> rfl
theorem lA_next {f n m : Nat} (h : 0 < n) : lA (f + 1) n m = lBg (lA f) n (min n m) := by rw [lA, if_neg (by omega)]
theorem lst_rows1 {n m p : Nat} (hn : n < 31) (h1 : 1 ≤ p) (hp : p ≤ n) (hm : m ≤ 30) (hpm : p ≤ m) : ∀ j, j ≤ T (n - p) p →
    lst n m (T n m - T n p + j) = lst n m (T n m - T n p) ++ ((lst (n - p) p (T (n - p) p)).take j).map (fun r => (p : Int) :: r)
  | 0, _ => by simp
  | j + 1, hj => by
    rw [lst_row hn h1 hp hm hpm (by omega), lst_rows1 hn h1 hp hm hpm j (by omega), List.append_assoc, List.take_succ_eq_append_getElem (by rw [lst_len]; omega), List.map_append]
    congr 2
    rw [List.getD_eq_getElem?_getD, List.getElem?_eq_getElem (by rw [lst_len]; omega)]
    rfl
theorem lst_lA : ∀ f n m, n ≤ f → n < 31 → m ≤ 30 → 1 ≤ m ∨ n = 0 → lst n m (T n m) = lA f n m
  | f, 0, m, _, _, hm, _ => by rw [lA_zero, T_top m (by omega), lst_zero]
  | 0, n + 1, m, h, _, _, _ => absurd h (by omega)
  | f + 1, n + 1, m, h, hn, hm, h1 => by
    rw [lA_next (by omega)]
    have key : ∀ p, p ≤ n + 1 → p ≤ m → lst (n + 1) m (T (n + 1) m - T (n + 1) p) ++ lBg (lA f) (n + 1) p = lst (n + 1) m (T (n + 1) m) := by
      intro p
      induction p with
      | zero =>
        intro _ _
        rw [T_none (n + 1) hn (by omega), lBg, List.append_nil, Nat.sub_zero]
      | succ p ih =>
        intro hp hpm
        rw [← ih (by omega) (by omega), lBg, ← List.append_assoc]
        congr 1
        have e := lst_rows1 (n := n + 1) (m := m) (p := p + 1) hn (by omega) hp hm hpm _ (Nat.le_refl _)
        rw [lst_next hn (by omega) hp hm hpm, show p + 1 - 1 = p by omega, List.take_of_length_le (by rw [lst_len]; omega), lst_lA f (n + 1 - (p + 1)) (p + 1) (by omega) (by omega) (by omega) (.inl (by omega))] at e
        exact e.symm
    have e := key (min (n + 1) m) (by omega) (by omega)
    rw [← e, T_minP hn (by omega), Nat.sub_self]
    rfl

theorem dcr_cons (p : Int) (r : List Int) : dcr (p :: r) = (decide (r = [] ∨ r.getD 0 0 < p) && dcr r) := by
  have key : ∀ k, dcrTo (p :: r) (k + 1) = (decide (r.getD 0 0 < p) && dcrTo r k) := by
    intro k
    induction k with
    | zero => simp [dcrTo]
    | succ k ih =>
      rw [dcrTo, ih, dcrTo, List.getD_cons_succ, List.getD_cons_succ]
      cases decide (r.getD 0 0 < p) <;> cases dcrTo r k <;> simp
  unfold dcr
  cases r with
  | nil => rfl
  | cons a t =>
    rw [show (p :: a :: t).length - 1 = t.length + 1 by simp, key, show (a :: t).length - 1 = t.length by simp]
    simp
theorem lA_head : ∀ f n m, n ≤ f → ∀ r ∈ lA f n m, r = [] ∨ r.getD 0 0 ≤ m := by
  intro f n m hf r hr
  rcases Nat.eq_zero_or_pos n with h | h
  · subst h; rw [lA_zero] at hr; left; simpa using hr
  · obtain ⟨f, rfl⟩ : ∃ g, f = g + 1 := ⟨f - 1, by omega⟩
    rw [lA_next h] at hr
    have key : ∀ p, p ≤ m → r ∈ lBg (lA f) n p → r = [] ∨ r.getD 0 0 ≤ m := by
      intro p
      induction p with
      | zero => intro _ h; simp [lBg] at h
      | succ p ih =>
        intro hp h
        rw [lBg, List.mem_append] at h
        rcases h with h | h
        · obtain ⟨s, _, rfl⟩ := List.mem_map.1 h
          right
          show ((p + 1 : Nat) : Int) ≤ m
          omega
        · exact ih (by omega) h
    exact key _ (by omega) hr
/-- Those whose first part is smaller are those of smaller parts. -/
theorem lA_less {f n m : Nat} (hf : n ≤ f) (h : 0 < n) : (lA f n (m + 1)).filter (fun r => decide (r = [] ∨ r.getD 0 0 < ((m + 1 : Nat) : Int))) = lA f n m := by
  obtain ⟨f, rfl⟩ : ∃ g, f = g + 1 := ⟨f - 1, by omega⟩
  have h2 : (lA (f + 1) n m).filter (fun r => decide (r = [] ∨ r.getD 0 0 < ((m + 1 : Nat) : Int))) = lA (f + 1) n m := by
    rw [List.filter_eq_self]
    intro r hr
    refine decide_eq_true ?_
    rcases lA_head (f + 1) n m hf r hr with e | e
    · exact .inl e
    · right; omega
  rcases Nat.lt_or_ge m n with hm | hm
  · rw [lA_next h, show min n (m + 1) = m + 1 by omega, lBg, List.filter_append]
    have e1 : ((lA f (n - (m + 1)) (m + 1)).map (fun r => ((m + 1 : Nat) : Int) :: r)).filter (fun r => decide (r = [] ∨ r.getD 0 0 < ((m + 1 : Nat) : Int))) = [] := by
      rw [List.filter_eq_nil_iff]
      intro r hr
      obtain ⟨s, _, rfl⟩ := List.mem_map.1 hr
      simp
    rw [e1, List.nil_append]
    rw [lA_next h, show min n m = m by omega] at h2 ⊢
    exact h2
  · rw [lA_next h, show min n (m + 1) = n by omega] 
    rw [lA_next h, show min n m = n by omega] at h2 ⊢
    exact h2
theorem filter_lA : ∀ f n m, n ≤ f → (lA f n m).filter dcr = sA f n m := by
  intro f
  induction f with
  | zero => intro n m _; rfl
  | succ f ih =>
    intro n m hf
    rcases Nat.eq_zero_or_pos n with h | h
    · subst h; rw [lA_zero, sA_zero]; rfl
    · rw [lA_next h, sA_next h]
      have key : ∀ p, p ≤ n → (lBg (lA f) n p).filter dcr = sBg (sA f) n p := by
        intro p
        induction p with
        | zero => intro _; rfl
        | succ p ihp =>
          intro hp
          rw [lBg, sBg, List.filter_append, ihp (by omega)]
          congr 1
          rw [List.filter_map]
          congr 1
          have e : (dcr ∘ fun r => ((p + 1 : Nat) : Int) :: r) = fun r => decide (r = [] ∨ r.getD 0 0 < ((p + 1 : Nat) : Int)) && dcr r := by
            funext r; exact dcr_cons _ r
          rw [e, ← ih _ _ (by omega)]
          have e2 : ∀ L : List (List Int), L.filter (fun r => decide (r = [] ∨ r.getD 0 0 < ((p + 1 : Nat) : Int)) && dcr r) = (L.filter (fun r => decide (r = [] ∨ r.getD 0 0 < ((p + 1 : Nat) : Int)))).filter dcr := by
            intro L
            rw [List.filter_filter]
            congr 1; funext r; rw [Bool.and_comm]
          rw [e2]
          rcases Nat.eq_zero_or_pos (n - (p + 1)) with h0 | h0
          · rw [h0, lA_zero, lA_zero]; rfl
          · rw [lA_less (by omega) h0]
      exact key _ (by omega)
/-- The strict ones among all partitions. -/
theorem strict_all {n : Nat} (hn : n ≤ 30) : (lst n n (T n n)).filter dcr = sA n n n := by
  rw [lst_lA n n n (Nat.le_refl _) (by omega) hn (by omega), filter_lA n n n (Nat.le_refl _)]
end Go.Proofs.Ytphfmlfojebjkaa
