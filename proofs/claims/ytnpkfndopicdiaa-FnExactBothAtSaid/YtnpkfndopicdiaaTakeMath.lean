/-
  Plain facts: the partition with a rank. No program in this text.
-/
import Derived.Test.YtnpkfndopicdiaaCA
namespace Go.Proofs.Ytnpkfndopicdiaa
theorem T_up : ∀ n, n < 31 → ∀ k, k < 30 → T n k ≤ T n (k + 1) := by decide +kernel
theorem T_same : ∀ n, n < 31 → ∀ k, k < 30 → n ≤ k → T n (k + 1) = T n k := by decide +kernel
theorem T_none : ∀ n, n < 31 → 1 ≤ n → T n 0 = 0 := by decide +kernel
theorem T_step {n k : Nat} (hn : n < 31) (hk : k < 30) (h : k + 1 ≤ n) : T n (k + 1) = T n k + T (n - (k + 1)) (k + 1) := by
  have := T_rec n hn k hk
  rw [if_pos h] at this; exact this
def pk (n : Nat) : Nat → Nat → Nat × Nat
  | 0, r => (0, r)
  | x + 1, r => if T n (x + 1) - T n x ≤ r then pk n x (r - (T n (x + 1) - T n x)) else (x + 1, r)
theorem pk_yes {n x r : Nat} (h : T n (x + 1) - T n x ≤ r) : pk n (x + 1) r = pk n x (r - (T n (x + 1) - T n x)) := by rw [pk, if_pos h]
theorem pk_no {n x r : Nat} (h : ¬ T n (x + 1) - T n x ≤ r) : pk n (x + 1) r = (x + 1, r) := by rw [pk, if_neg h]
def pa : Nat → Nat → Nat → Nat → List Int
  | 0, _, _, _ => []
  | f + 1, n, m, r => if n = 0 then [] else ((pk n m r).1 : Int) :: pa f (n - (pk n m r).1) (pk n m r).1 (pk n m r).2
theorem pa_zero (f m r : Nat) : pa f 0 m r = [] := by cases f <;> simp [pa]
theorem pa_next {f n m r p q : Nat} (hf : n ≤ f) (h1 : 1 ≤ n) (h : pk n m r = (p, q)) : ∃ f', f = f' + 1 ∧ pa f n m r = (p : Int) :: pa f' (n - p) p q := by
  obtain ⟨f', rfl⟩ : ∃ f', f = f' + 1 := ⟨f - 1, by omega⟩
  exact ⟨f', rfl, by rw [pa, if_neg (by omega), h]⟩
/-- Down from m to n nothing is taken. -/
theorem pk_min {n : Nat} (hn : n < 31) : ∀ m, m < 31 → ∀ r, pk n m r = pk n (min n m) r := by
  intro m
  induction m with
  | zero => intro _ r; rw [Nat.min_eq_right (Nat.zero_le _)]
  | succ m ih =>
    intro hm r
    by_cases h : n ≤ m
    · have hs := T_same n hn m (by omega) h
      rw [pk_yes (by omega), ih (by omega), hs, Nat.sub_self, Nat.sub_zero, Nat.min_eq_left h, Nat.min_eq_left (by omega)]
    · rw [Nat.min_eq_right (by omega : m + 1 ≤ n)]
/-- What the last step of a search tells. -/
theorem pick_last {n p q : Nat} (hn : n < 31) (hp : p ≤ 30) (h1 : 1 ≤ p) (h : ¬ T n p - T n (p - 1) ≤ q) : p ≤ n ∧ q < T (n - p) p := by
  obtain ⟨x, rfl⟩ : ∃ x, p = x + 1 := ⟨p - 1, by omega⟩
  rw [Nat.add_sub_cancel] at h
  by_cases hpn : x + 1 ≤ n
  · have := T_step hn (by omega) hpn
    exact ⟨hpn, by omega⟩
  · have := T_same n hn x (by omega) (by omega)
    omega
end Go.Proofs.Ytnpkfndopicdiaa
