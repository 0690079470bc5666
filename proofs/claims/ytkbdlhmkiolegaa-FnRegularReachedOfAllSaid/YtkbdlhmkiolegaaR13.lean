/-
  Several texts in one.
-/
import Derived.Test.YtkbdlhmkiolegaaCH
import Derived.Test.YtkbdlhmkiolegaaR01
/-
  Plain facts: all partitions in their order, by ranks and by the greatest part. No program in this text.
-/
namespace Go.Proofs.Ytkbdlhmkiolegaa
theorem T_le {n : Nat} (hn : n < 31) {p : Nat} : ∀ m, m ≤ 30 → p ≤ m → T n p ≤ T n m := by
  intro m
  induction m with
  | zero => intro _ h; rw [Nat.le_zero.1 h]; exact Nat.le_refl _
  | succ m ih =>
    intro hm h
    rcases Nat.eq_or_lt_of_le h with h | h
    · rw [h]; exact Nat.le_refl _
    · exact Nat.le_trans (ih (by omega) (by omega)) (T_up n hn m (by omega))
/-- The rank of a partition with greatest part p. -/
theorem pk_at {n p j : Nat} (hn : n < 31) (h1 : 1 ≤ p) (hp : p ≤ n) (hj : j < T (n - p) p) : ∀ m, m ≤ 30 → p ≤ m → pk n m (T n m - T n p + j) = (p, j) := by
  intro m
  induction m with
  | zero => intro _ h; omega
  | succ m ih =>
    intro hm h
    rcases Nat.eq_or_lt_of_le h with h | h
    · subst h
      have := T_step (n := n) (k := m) hn (by omega) hp
      rw [Nat.sub_self, Nat.zero_add, pk_no (by omega)]
    · have hm' : p ≤ m := by omega
      have h2 := T_le hn m (by omega) hm'
      have h3 := T_up n hn m (by omega)
      rw [pk_yes (by omega), show T n (m + 1) - T n p + j - (T n (m + 1) - T n m) = T n m - T n p + j by omega]
      exact ih (by omega) hm'
/-- What a search finds is a part. -/
theorem pk_ok {n : Nat} (hn : n < 31) (h1 : 1 ≤ n) : ∀ m, m ≤ 30 → ∀ r, r < T n m → ∃ p q, pk n m r = (p, q) ∧ 1 ≤ p ∧ p ≤ m ∧ p ≤ n ∧ q < T (n - p) p := by
  intro m
  induction m with
  | zero => intro _ r h; rw [T_none n hn h1] at h; omega
  | succ m ih =>
    intro hm r h
    by_cases hc : T n (m + 1) - T n m ≤ r
    · obtain ⟨p, q, e, a, b, c, d⟩ := ih (by omega) (r - (T n (m + 1) - T n m)) (by have := T_up n hn m (by omega); omega)
      exact ⟨p, q, by rw [pk_yes hc]; exact e, a, by omega, c, d⟩
    · obtain ⟨c, d⟩ := pick_last (q := r) hn hm (by omega) (by rw [Nat.add_sub_cancel]; exact hc)
      exact ⟨m + 1, r, pk_no hc, by omega, Nat.le_refl _, c, d⟩
/-- How much fuel is there does not matter. -/
theorem pa_fuel2 : ∀ f g n m r, n ≤ f → n ≤ g → n < 31 → m ≤ 30 → r < T n m → pa f n m r = pa g n m r := by
  intro f
  induction f with
  | zero => intro g n m r h _ _ _ _; rw [Nat.le_zero.1 h, pa_zero, pa_zero]
  | succ f ih =>
    intro g n m r h hg hn hm hr
    rcases Nat.eq_zero_or_pos n with h0 | h0
    · subst h0; rw [pa_zero, pa_zero]
    · obtain ⟨p, q, e, a, b, c, d⟩ := pk_ok hn h0 m hm r hr
      obtain ⟨f1, hf1, e1⟩ := pa_next h h0 e
      obtain ⟨g1, hg1, e2⟩ := pa_next hg h0 e
      cases hf1
      rw [e1, e2, ih g1 (n - p) p q (by omega) (by omega) (by omega) (by omega) d]
/-- The first k partitions of n with parts up to m. -/
def lst (n m k : Nat) : List (List Int) := (List.range k).map fun r => pa n n m r
theorem lst_len (n m k : Nat) : (lst n m k).length = k := by simp [lst]
theorem lst_succ (n m k : Nat) : lst n m (k + 1) = lst n m k ++ [pa n n m k] := by simp [lst, List.range_succ]
theorem lst_get (n m k j : Nat) (h : j < k) : (lst n m k).getD j [] = pa n n m j := by
  rw [List.getD_eq_getElem?_getD, lst, List.getElem?_map, List.getElem?_range h]; rfl
theorem lst_zero (m : Nat) : lst 0 m 1 = [[]] := by simp [lst, List.range_succ, pa]
theorem pa_at {n m p j : Nat} (hn : n < 31) (h1 : 1 ≤ p) (hp : p ≤ n) (hm : m ≤ 30) (hpm : p ≤ m) (hj : j < T (n - p) p) : pa n n m (T n m - T n p + j) = (p : Int) :: pa (n - p) (n - p) p j := by
  obtain ⟨f, hf, e⟩ := pa_next (Nat.le_refl n) (by omega) (pk_at hn h1 hp hj m hm hpm)
  rw [e, pa_fuel2 f (n - p) (n - p) p j (by omega) (Nat.le_refl _) (by omega) (by omega) hj]
/-- One row more behind the rows whose greatest part is above p and j of those with p. -/
theorem lst_row {n m p j : Nat} (hn : n < 31) (h1 : 1 ≤ p) (hp : p ≤ n) (hm : m ≤ 30) (hpm : p ≤ m) (hj : j < T (n - p) p) :
    lst n m (T n m - T n p + (j + 1)) = lst n m (T n m - T n p + j) ++ [(p : Int) :: (lst (n - p) p (T (n - p) p)).getD j []] := by
  rw [← Nat.add_assoc, lst_succ, pa_at hn h1 hp hm hpm hj, lst_get _ _ _ _ hj]
/-- The rows of p are done. -/
theorem lst_next {n m p : Nat} (hn : n < 31) (h1 : 1 ≤ p) (hp : p ≤ n) (hm : m ≤ 30) (hpm : p ≤ m) : lst n m (T n m - T n p + T (n - p) p) = lst n m (T n m - T n (p - 1)) := by
  have h2 := T_le hn m hm hpm
  have h3 := T_step (n := n) (k := p - 1) hn (by omega) (by omega)
  rw [show p - 1 + 1 = p by omega] at h3
  congr 1; omega
end Go.Proofs.Ytkbdlhmkiolegaa
/-
  Plain facts: what is listed by rank are the partitions, and all of them. No program in this text.
-/
namespace Go.Proofs.Ytkbdlhmkiolegaa

theorem pa_chk : ∀ (f n m r : Nat), n ≤ f → n < 31 → m ≤ 30 → r < T n m → chk m (pa f n m r) = true ∧ (pa f n m r).sum = n
  | f, 0, m, r, _, _, _, _ => by rw [pa_zero]; simp [chk]
  | 0, n + 1, m, r, h, _, _, _ => absurd h (by omega)
  | f + 1, n + 1, m, r, hf, hn, hm, hr => by
    obtain ⟨p, q, h1, h2, h3, h4, h5⟩ := pk_ok hn (by omega) m hm r hr
    obtain ⟨f', hf', e⟩ := pa_next hf (by omega) h1
    have hff : f' = f := by omega
    subst hff
    obtain ⟨i1, i2⟩ := pa_chk f' (n + 1 - p) p q (by omega) (by omega) (by omega) h5
    rw [e]
    constructor
    · rw [chk, i1]
      simp only [Bool.and_true, Bool.and_eq_true, decide_eq_true_eq]
      omega
    · rw [List.sum_cons, i2]; omega
theorem pa_good {n r : Nat} (hn : n ≤ 30) (hr : r < T n n) : Good (pa n n n r) ∧ (pa n n n r).sum = n := by
  obtain ⟨h1, h2⟩ := pa_chk n n n r (Nat.le_refl _) (by omega) hn hr
  obtain ⟨c1, c2, c3⟩ := (chk_iff _ _).1 h1
  have hl := len_sum _ c1
  have hle : ∀ j, j < (pa n n n r).length → (pa n n n r).getD j 0 ≤ 30 := fun j hj => by
    have := part_sum _ (fun i hi => by have := c1 i hi; omega) j hj
    omega
  exact ⟨⟨by omega, c1, hle, c3, by omega, by omega⟩, h2⟩
theorem pa_all : ∀ (n m : Nat) (p : List Int), n < 31 → m ≤ 30 → chk m p = true → p.sum = n → ∃ r, r < T n m ∧ p = pa n n m r := by
  intro n
  induction n using Nat.strongRecOn with
  | _ n ih =>
    intro m p hn hm hc hs
    cases p with
    | nil =>
      simp at hs
      have h0 : n = 0 := by omega
      subst h0
      exact ⟨0, by rw [T_top m (by omega)]; omega, by rw [pa_zero]⟩
    | cons x t =>
      rw [chk] at hc
      simp only [Bool.and_eq_true, decide_eq_true_eq] at hc
      obtain ⟨h1, h2, h3⟩ := hc
      have ht := (chk_iff _ _).1 h3
      have hl := len_sum t ht.1
      rw [List.sum_cons] at hs
      obtain ⟨y, rfl⟩ : ∃ y : Nat, x = y := ⟨x.toNat, by omega⟩
      obtain ⟨j, hj, e⟩ := ih (n - y) (by omega) y t (by omega) (by omega) h3 (by omega)
      have hT := T_le hn m hm (show y ≤ m by omega)
      have hst : T n y = T n (y - 1) + T (n - y) y := by
        have := T_step (n := n) (k := y - 1) hn (by omega) (by omega)
        rw [show y - 1 + 1 = y by omega] at this; exact this
      refine ⟨T n m - T n y + j, by omega, ?_⟩
      rw [pa_at hn (by omega) (by omega) hm (by omega) hj, ← e]
theorem good_pa {p : List Int} (G : Good p) : ∃ r, r < T p.sum.toNat p.sum.toNat ∧ p = pa p.sum.toNat p.sum.toNat p.sum.toNat r := by
  have hs := G.sum0
  have hs2 := G.sum
  refine pa_all p.sum.toNat p.sum.toNat p (by omega) (by omega) ?_ (by omega)
  refine (chk_iff _ _).2 ⟨G.pos, fun h0 => ?_, G.down⟩
  have := part_sum p (fun i hi => by have := G.pos i hi; omega) 0 h0
  omega
end Go.Proofs.Ytkbdlhmkiolegaa
/-
  Contracts: PartitionWith of the model.
-/
namespace Go.Proofs.Ytkbdlhmkiolegaa
open Go.RowKit

theorem l1Least_s (a b : Nat) (w : World) :
    Calls Try.prog 42 #[.int .i64 a, .int .i64 b] w fun e w' => e = .returned (.int .i64 ((min a b : Nat) : Int)) ∧ w = w' :=
  (l1Least_any a b w).mono fun _ _ h => ⟨h.1, h.2.symm⟩

theorem bound_PartitionWith (n r : Int) : (withF n r).length ≤ 1048576 := by have := withF_len n r; omega
end Go.Proofs.Ytkbdlhmkiolegaa
