/-
  Plain facts: what is listed by rank are the partitions, and all of them. No program in this text.
-/
import Derived.Test.YtphfmlfojebjkaaAllMath
import Derived.Test.YtphfmlfojebjkaaChnMath
namespace Go.Proofs.Ytphfmlfojebjkaa

theorem pa_chk : ∀ (f n m r : Nat), n ≤ f → n < 31 → m ≤ 30 → r < T n m → chk m (pa f n m r) = true ∧ (pa f n m r).sum = n
  | f, 0, m, r, _, _, _, _ => by rw [pa_zero]; simp [chk]
  | 0, n + 1, m, r, h, _, _, _ => absurd h (by omega)
  | f + 1, n + 1, m, r, hf, hn, hm, hr => by
    obtain ⟨p, q, h1, h2, h3, h4, h5⟩ := pk_ok hn (by omega) m hm r hr
    obtain ⟨f', hf', e⟩ := pa_next hf (by omega) h1
    have hff : f' = f := by omega
    subst hff
    obtain ⟨i1, i2⟩ := pa_chk f' (n + 1 - p) p q (by omega) (by omega) (by omega) h5
    rw [e]
    constructor
    · rw [chk, i1]
      simp only [Bool.and_true, Bool.and_eq_true, decide_eq_true_eq]
      omega
    · rw [List.sum_cons, i2]; omega
theorem pa_good {n r : Nat} (hn : n ≤ 30) (hr : r < T n n) : Good (pa n n n r) ∧ (pa n n n r).sum = n := by
  obtain ⟨h1, h2⟩ := pa_chk n n n r (Nat.le_refl _) (by omega) hn hr
  obtain ⟨c1, c2, c3⟩ := (chk_iff _ _).1 h1
  have hl := len_sum _ c1
  have hle : ∀ j, j < (pa n n n r).length → (pa n n n r).getD j 0 ≤ 30 := fun j hj => by
    have := part_sum _ (fun i hi => by have := c1 i hi; omega) j hj
    omega
  exact ⟨⟨by omega, c1, hle, c3, by omega, by omega⟩, h2⟩
theorem pa_all : ∀ (n m : Nat) (p : List Int), n < 31 → m ≤ 30 → chk m p = true → p.sum = n → ∃ r, r < T n m ∧ p = pa n n m r := by
  intro n
  induction n using Nat.strongRecOn with
  | _ n ih =>
    intro m p hn hm hc hs
    cases p with
    | nil =>
      simp at hs
      have h0 : n = 0 := by omega
      subst h0
      exact ⟨0, by rw [T_top m (by omega)]; omega, by rw [pa_zero]⟩
    | cons x t =>
      rw [chk] at hc
      simp only [Bool.and_eq_true, decide_eq_true_eq] at hc
      obtain ⟨h1, h2, h3⟩ := hc
      have ht := (chk_iff _ _).1 h3
      have hl := len_sum t ht.1
      rw [List.sum_cons] at hs
      obtain ⟨y, rfl⟩ : ∃ y : Nat, x = y := ⟨x.toNat, by omega⟩
      obtain ⟨j, hj, e⟩ := ih (n - y) (by omega) y t (by omega) (by omega) h3 (by omega)
      have hT := T_le hn m hm (show y ≤ m by omega)
      have hst : T n y = T n (y - 1) + T (n - y) y := by
        have := T_step (n := n) (k := y - 1) hn (by omega) (by omega)
        rw [show y - 1 + 1 = y by omega] at this; exact this
      refine ⟨T n m - T n y + j, by omega, ?_⟩
      rw [pa_at hn (by omega) (by omega) hm (by omega) hj, ← e]
theorem good_pa {p : List Int} (G : Good p) : ∃ r, r < T p.sum.toNat p.sum.toNat ∧ p = pa p.sum.toNat p.sum.toNat p.sum.toNat r := by
  have hs := G.sum0
  have hs2 := G.sum
  refine pa_all p.sum.toNat p.sum.toNat p (by omega) (by omega) ?_ (by omega)
  refine (chk_iff _ _).2 ⟨G.pos, fun h0 => ?_, G.down⟩
  have := part_sum p (fun i hi => by have := G.pos i hi; omega) 0 h0
  omega
end Go.Proofs.Ytphfmlfojebjkaa
