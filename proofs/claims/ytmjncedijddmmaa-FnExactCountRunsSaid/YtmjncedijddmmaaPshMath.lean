/-
  Plain facts: beads of a board moved down until none can be. No program in this text.
-/
import Derived.Test.YtmjncedijddmmaaLow
import Derived.Test.YtmjncedijddmmaaCF
namespace Go.Proofs.Ytmjncedijddmmaa
open Go.RowKit

/-- How many rows have a bead, and the sum of these rows. -/
def cT (f : Nat → Bool) : Nat → Nat
  | 0 => 0
  | n + 1 => cT f n + (if f n = true then 1 else 0)
def wT (f : Nat → Bool) : Nat → Int
  | 0 => 0
  | n + 1 => wT f n + (if f n = true then (n : Int) else 0)
theorem cT_le (f : Nat → Bool) : ∀ n, cT f n ≤ n
  | 0 => Nat.le_refl _
  | n + 1 => by have := cT_le f n; rw [cT]; split <;> omega
theorem wT_bd (f : Nat → Bool) : ∀ n, n ≤ 36 → 0 ≤ wT f n ∧ wT f n ≤ 36 * n
  | 0, _ => by simp [wT]
  | n + 1, h => by have := wT_bd f n (by omega); rw [wT]; split <;> omega
theorem cT_congr {f g : Nat → Bool} : ∀ n, (∀ r, r < n → f r = g r) → cT f n = cT g n
  | 0, _ => rfl
  | n + 1, h => by rw [cT, cT, cT_congr n fun r hr => h r (by omega), h n (by omega)]
theorem wT_congr {f g : Nat → Bool} : ∀ n, (∀ r, r < n → f r = g r) → wT f n = wT g n
  | 0, _ => rfl
  | n + 1, h => by rw [wT, wT, wT_congr n fun r hr => h r (by omega), h n (by omega)]
theorem rw_c (f : Nat → Bool) : ∀ n, (rwL f n).length = cT f n
  | 0 => rfl
  | n + 1 => by
    rw [cT, ← rw_c f n]
    cases h : f n
    · rw [rwL_f h]; simp
    · rw [rwL_t h]; simp
theorem rw_w (f : Nat → Bool) : ∀ n, (rwL f n).sum = wT f n
  | 0 => rfl
  | n + 1 => by
    rw [wT, ← rw_w f n]
    cases h : f n
    · rw [rwL_f h]; simp
    · rw [rwL_t h]; simp
theorem cT_upd (f : Nat → Bool) (r : Nat) (b : Bool) : ∀ n, (cT (updB f r b) n : Int) = cT f n + if r < n then (if b = true then 1 else 0) - (if f r = true then 1 else 0) else 0
  | 0 => by simp [cT]
  | n + 1 => by
    have ih := cT_upd f r b n
    rw [cT, cT]
    unfold updB at ih ⊢
    by_cases e : n = r
    · subst e
      rw [if_neg (Nat.lt_irrefl _)] at ih
      rw [if_pos (Nat.lt_succ_self _), if_pos rfl]
      split <;> split <;> omega
    · rw [if_neg e]
      by_cases h : r < n
      · rw [if_pos h] at ih
        rw [if_pos (show r < n + 1 by omega)]; split <;> omega
      · rw [if_neg h] at ih
        rw [if_neg (show ¬ r < n + 1 by omega)]; split <;> omega
theorem wT_upd (f : Nat → Bool) (r : Nat) (b : Bool) : ∀ n, wT (updB f r b) n = wT f n + if r < n then (if b = true then (r : Int) else 0) - (if f r = true then (r : Int) else 0) else 0
  | 0 => by simp [wT]
  | n + 1 => by
    have ih := wT_upd f r b n
    rw [wT, wT]
    unfold updB at ih ⊢
    by_cases e : n = r
    · subst e
      rw [if_neg (Nat.lt_irrefl _)] at ih
      rw [if_pos (Nat.lt_succ_self _), if_pos rfl]
      split <;> split <;> omega
    · rw [if_neg e]
      by_cases h : r < n
      · rw [if_pos h] at ih
        rw [if_pos (show r < n + 1 by omega)]; split <;> omega
      · rw [if_neg h] at ih
        rw [if_neg (show ¬ r < n + 1 by omega)]; split <;> omega
theorem dn_cw {f : Nat → Bool} {r : Nat} (hr : r < 36) (h : dnOk f r = true) : cT (dnR f r) 36 = cT f 36 ∧ wT (dnR f r) 36 + 1 = wT f 36 := by
  obtain ⟨h1, h2, h3⟩ := (dnOk_iff hr).1 h
  rw [dnR_yes h]
  have e : updB f r false (r - 1) = false := by unfold updB; rw [if_neg (by omega)]; exact h3
  have c1 := cT_upd (updB f r false) (r - 1) true 36
  have c2 := cT_upd f r false 36
  have w1 := wT_upd (updB f r false) (r - 1) true 36
  have w2 := wT_upd f r false 36
  rw [if_pos (by omega), if_pos rfl, e, if_neg (by simp)] at c1 w1
  rw [if_pos hr, if_neg (by simp), h2, if_pos rfl] at c2 w2
  omega
/-- No bead can go down: they are the first rows. -/
theorem cT_init {f : Nat → Bool} : ∀ n, (∀ r, r < n → ¬ (0 < r ∧ f r = true ∧ f (r - 1) = false)) → ∀ r, r < n → f r = decide (r < cT f n)
  | 0, _, r, h => by omega
  | n + 1, h, r, hr => by
    have ih := cT_init n fun r hr => h r (by omega)
    have hle := cT_le f n
    rw [cT]
    cases hn : f n
    · simp only [Bool.false_eq_true, if_false, Nat.add_zero]
      by_cases e : r = n
      · subst e; rw [hn]; symm; rw [decide_eq_false_iff_not]; omega
      · exact ih r (by omega)
    · simp only [if_true]
      have hall : cT f n = n := by
        rcases Nat.eq_zero_or_pos n with h0 | h0
        · subst h0; rfl
        · have hp : f (n - 1) = true := by
            cases hq : f (n - 1)
            · exact absurd ⟨h0, hn, hq⟩ (h n (by omega))
            · rfl
          have := ih (n - 1) (by omega)
          rw [hp] at this
          have := of_decide_eq_true this.symm
          omega
      rw [hall]
      by_cases e : r = n
      · subst e; rw [hn]; symm; rw [decide_eq_true_eq]; omega
      · rw [ih r (by omega), hall]
        rw [Bool.eq_iff_iff, decide_eq_true_eq, decide_eq_true_eq]; omega

/-- The sum of the rows of a board's beads. -/
def wB (F : Nat → Bool) : Nat → Int
  | 0 => 0
  | i + 1 => wB F i + wT (lnB F i) 36
theorem wB_bd (F : Nat → Bool) : ∀ t, 0 ≤ wB F t ∧ wB F t ≤ 1296 * t
  | 0 => by simp [wB]
  | t + 1 => by have := wB_bd F t; have := wT_bd (lnB F t) 36 (Nat.le_refl _); rw [wB]; omega
theorem ln_set (F : Nat → Bool) (i j : Nat) (g : Nat → Bool) : ∀ r, r < 36 → lnB (setLn F i g) j r = if j = i then g r else lnB F j r := by
  intro r hr
  unfold lnB setLn
  by_cases e : j = i
  · subst e; rw [if_pos (at_in j r hr), if_pos rfl, at_sub]
  · rw [if_neg (at_out i j r hr e), if_neg e]
theorem wB_set (F : Nat → Bool) (i : Nat) (g : Nat → Bool) : ∀ t, wB (setLn F i g) t = wB F t + if i < t then wT g 36 - wT (lnB F i) 36 else 0
  | 0 => by simp [wB]
  | t + 1 => by
    have ih := wB_set F i g t
    rw [wB, wB, ih]
    by_cases e : t = i
    · subst e
      rw [if_neg (Nat.lt_irrefl _), if_pos (Nat.lt_succ_self _), wT_congr (g := g) 36 fun r hr => by rw [ln_set F t t g r hr, if_pos rfl]]
      omega
    · rw [wT_congr (f := lnB (setLn F i g) t) (g := lnB F t) 36 fun r hr => by rw [ln_set F i t g r hr, if_neg e]]
      by_cases h : i < t
      · rw [if_pos h, if_pos (show i < t + 1 by omega)]; omega
      · rw [if_neg h, if_neg (show ¬ i < t + 1 by omega)]; omega
/-- A board with all beads down. -/
def pdB (t : Nat) (F : Nat → Bool) : Nat → Bool := fun k => if k < 36 * t then decide (k % 36 < cT (lnB F (k / 36)) 36) else F k
theorem at_parts (i r : Nat) (hr : r < 36) : (36 * i + r) % 36 = r ∧ (36 * i + r) / 36 = i := by omega
theorem pdB_end {t : Nat} {F : Nat → Bool} (h : ∀ i, i < t → ∀ r, r < 36 → dnOk (lnB F i) r = false) : pdB t F = F := by
  funext k
  unfold pdB
  by_cases hk : k < 36 * t
  · rw [if_pos hk]
    have hi : k / 36 < t := by omega
    have hr : k % 36 < 36 := by omega
    have := cT_init 36 (f := lnB F (k / 36)) (fun r hr hh => by
      have := h (k / 36) hi r hr
      rw [(dnOk_iff hr).2 hh] at this; cases this) (k % 36) hr
    rw [← this]
    unfold lnB; congr 1; omega
  · rw [if_neg hk]
theorem pdB_set {t i r : Nat} {F : Nat → Bool} (hi : i < t) (hr : r < 36) (h : dnOk (lnB F i) r = true) : pdB t (setLn F i (dnR (lnB F i) r)) = pdB t F := by
  funext k
  unfold pdB
  by_cases hk : k < 36 * t
  · rw [if_pos hk, if_pos hk]
    by_cases e : k / 36 = i
    · rw [e, cT_congr (g := dnR (lnB F i) r) 36 fun q hq => by rw [ln_set F i i _ q hq, if_pos rfl], (dn_cw hr h).1]
    · rw [cT_congr (g := lnB F (k / 36)) 36 fun q hq => by rw [ln_set F i (k / 36) _ q hq, if_neg e]]
  · rw [if_neg hk, if_neg hk]
    unfold setLn
    rw [if_neg (by omega)]
theorem low_eq {t : Nat} {F G : Nat → Bool} (h : Low t F G) (ht : t ≤ 6) (he : ∀ k, k < 216 → G k = F k) : F = pdB t F := by
  rcases h with ⟨_, h⟩ | ⟨i, r, hi, hr, hd, rfl⟩
  · exact (pdB_end h).symm
  · exfalso
    obtain ⟨h1, h2, h3⟩ := (dnOk_iff hr).1 hd
    have := he (36 * i + r) (at_216 i r t hr hi ht)
    unfold setLn at this
    rw [if_pos (at_in i r hr), at_sub, dnR_yes hd] at this
    unfold updB at this
    rw [if_neg (by omega), if_pos rfl] at this
    have h4 : F (36 * i + r) = true := h2
    rw [h4] at this; cases this
theorem low_ne {t : Nat} {F G : Nat → Bool} (h : Low t F G) (he : ¬ ∀ k, k < 216 → G k = F k) : pdB t G = pdB t F ∧ wB G t + 1 = wB F t := by
  rcases h with ⟨rfl, _⟩ | ⟨i, r, hi, hr, hd, rfl⟩
  · exact absurd (fun k _ => rfl) he
  · refine ⟨pdB_set hi hr hd, ?_⟩
    rw [wB_set, if_pos hi]
    have := (dn_cw hr hd).2
    omega
end Go.Proofs.Ytmjncedijddmmaa
