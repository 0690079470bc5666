/-
  Several texts in one.
-/
import Derived.Test.YtiebnnchaopbkaaR05
import Derived.Test.YtiebnnchaopbkaaCF
/-
  Plain facts: beads of a board moved down until none can be. No program in this text.
-/
namespace Go.Proofs.Ytiebnnchaopbkaa
open Go.RowKit

/-- How many rows have a bead, and the sum of these rows. -/
def cT (f : Nat → Bool) : Nat → Nat
  | 0 => 0
  | n + 1 => cT f n + (if f n = true then 1 else 0)
def wT (f : Nat → Bool) : Nat → Int
  | 0 => 0
  | n + 1 => wT f n + (if f n = true then (n : Int) else 0)
theorem cT_le (f : Nat → Bool) : ∀ n, cT f n ≤ n
  | 0 => Nat.le_refl _
  | n + 1 => by have := cT_le f n; rw [cT]; split <;> omega
theorem wT_bd (f : Nat → Bool) : ∀ n, n ≤ 36 → 0 ≤ wT f n ∧ wT f n ≤ 36 * n
  | 0, _ => by simp [wT]
  | n + 1, h => by have := wT_bd f n (by omega); rw [wT]; split <;> omega
theorem cT_congr {f g : Nat → Bool} : ∀ n, (∀ r, r < n → f r = g r) → cT f n = cT g n
  | 0, _ => rfl
  | n + 1, h => by rw [cT, cT, cT_congr n fun r hr => h r (by omega), h n (by omega)]
theorem wT_congr {f g : Nat → Bool} : ∀ n, (∀ r, r < n → f r = g r) → wT f n = wT g n
  | 0, _ => rfl
  | n + 1, h => by rw [wT, wT, wT_congr n fun r hr => h r (by omega), h n (by omega)]
theorem rw_c (f : Nat → Bool) : ∀ n, (rwL f n).length = cT f n
  | 0 => rfl
  | n + 1 => by
    rw [cT, ← rw_c f n]
    cases h : f n
    · rw [rwL_f h]; simp
    · rw [rwL_t h]; simp
theorem rw_w (f : Nat → Bool) : ∀ n, (rwL f n).sum = wT f n
  | 0 => rfl
  | n + 1 => by
    rw [wT, ← rw_w f n]
    cases h : f n
    · rw [rwL_f h]; simp
    · rw [rwL_t h]; simp
theorem cT_upd (f : Nat → Bool) (r : Nat) (b : Bool) : ∀ n, (cT (updB f r b) n : Int) = cT f n + if r < n then (if b = true then 1 else 0) - (if f r = true then 1 else 0) else 0
  | 0 => by simp [cT]
  | n + 1 => by
    have ih := cT_upd f r b n
    rw [cT, cT]
    unfold updB at ih ⊢
    by_cases e : n = r
    · subst e
      rw [if_neg (Nat.lt_irrefl _)] at ih
      rw [if_pos (Nat.lt_succ_self _), if_pos rfl]
      split <;> split <;> omega
    · rw [if_neg e]
      by_cases h : r < n
      · rw [if_pos h] at ih
        rw [if_pos (show r < n + 1 by omega)]; split <;> omega
      · rw [if_neg h] at ih
        rw [if_neg (show ¬ r < n + 1 by omega)]; split <;> omega
theorem wT_upd (f : Nat → Bool) (r : Nat) (b : Bool) : ∀ n, wT (updB f r b) n = wT f n + if r < n then (if b = true then (r : Int) else 0) - (if f r = true then (r : Int) else 0) else 0
  | 0 => by simp [wT]
  | n + 1 => by
    have ih := wT_upd f r b n
    rw [wT, wT]
    unfold updB at ih ⊢
    by_cases e : n = r
    · subst e
      rw [if_neg (Nat.lt_irrefl _)] at ih
      rw [if_pos (Nat.lt_succ_self _), if_pos rfl]
      split <;> split <;> omega
    · rw [if_neg e]
      by_cases h : r < n
      · rw [if_pos h] at ih
        rw [if_pos (show r < n + 1 by omega)]; split <;> omega
      · rw [if_neg h] at ih
        rw [if_neg (show ¬ r < n + 1 by omega)]; split <;> omega
theorem dn_cw {f : Nat → Bool} {r : Nat} (hr : r < 36) (h : dnOk f r = true) : cT (dnR f r) 36 = cT f 36 ∧ wT (dnR f r) 36 + 1 = wT f 36 := by
  obtain ⟨h1, h2, h3⟩ := (dnOk_iff hr).1 h
  rw [dnR_yes h]
  have e : updB f r false (r - 1) = false := by unfold updB; rw [if_neg (by omega)]; exact h3
  have c1 := cT_upd (updB f r false) (r - 1) true 36
  have c2 := cT_upd f r false 36
  have w1 := wT_upd (updB f r false) (r - 1) true 36
  have w2 := wT_upd f r false 36
  rw [if_pos (by omega), if_pos rfl, e, if_neg (by simp)] at c1 w1
  rw [if_pos hr, if_neg (by simp), h2, if_pos rfl] at c2 w2
  omega
/-- No bead can go down: they are the first rows. -/
theorem cT_init {f : Nat → Bool} : ∀ n, (∀ r, r < n → ¬ (0 < r ∧ f r = true ∧ f (r - 1) = false)) → ∀ r, r < n → f r = decide (r < cT f n)
  | 0, _, r, h => by omega
  | n + 1, h, r, hr => by
    have ih := cT_init n fun r hr => h r (by omega)
    have hle := cT_le f n
    rw [cT]
    cases hn : f n
    · simp only [Bool.false_eq_true, if_false, Nat.add_zero]
      by_cases e : r = n
      · subst e; rw [hn]; symm; rw [decide_eq_false_iff_not]; omega
      · exact ih r (by omega)
    · simp only [if_true]
      have hall : cT f n = n := by
        rcases Nat.eq_zero_or_pos n with h0 | h0
        · subst h0; rfl
        · have hp : f (n - 1) = true := by
            cases hq : f (n - 1)
            · exact absurd ⟨h0, hn, hq⟩ (h n (by omega))
            · rfl
          have := ih (n - 1) (by omega)
          rw [hp] at this
          have := of_decide_eq_true this.symm
          omega
      rw [hall]
      by_cases e : r = n
      · subst e; rw [hn]; symm; rw [decide_eq_true_eq]; omega
      · rw [ih r (by omega), hall]
        rw [Bool.eq_iff_iff, decide_eq_true_eq, decide_eq_true_eq]; omega

/-- The sum of the rows of a board's beads. -/
def wB (F : Nat → Bool) : Nat → Int
  | 0 => 0
  | i + 1 => wB F i + wT (lnB F i) 36
theorem wB_bd (F : Nat → Bool) : ∀ t, 0 ≤ wB F t ∧ wB F t ≤ 1296 * t
  | 0 => by simp [wB]
  | t + 1 => by have := wB_bd F t; have := wT_bd (lnB F t) 36 (Nat.le_refl _); rw [wB]; omega
theorem ln_set (F : Nat → Bool) (i j : Nat) (g : Nat → Bool) : ∀ r, r < 36 → lnB (setLn F i g) j r = if j = i then g r else lnB F j r := by
  intro r hr
  unfold lnB setLn
  by_cases e : j = i
  · subst e; rw [if_pos (at_in j r hr), if_pos rfl, at_sub]
  · rw [if_neg (at_out i j r hr e), if_neg e]
theorem wB_set (F : Nat → Bool) (i : Nat) (g : Nat → Bool) : ∀ t, wB (setLn F i g) t = wB F t + if i < t then wT g 36 - wT (lnB F i) 36 else 0
  | 0 => by simp [wB]
  | t + 1 => by
    have ih := wB_set F i g t
    rw [wB, wB, ih]
    by_cases e : t = i
    · subst e
      rw [if_neg (Nat.lt_irrefl _), if_pos (Nat.lt_succ_self _), wT_congr (g := g) 36 fun r hr => by rw [ln_set F t t g r hr, if_pos rfl]]
      omega
    · rw [wT_congr (f := lnB (setLn F i g) t) (g := lnB F t) 36 fun r hr => by rw [ln_set F i t g r hr, if_neg e]]
      by_cases h : i < t
      · rw [if_pos h, if_pos (show i < t + 1 by omega)]; omega
      · rw [if_neg h, if_neg (show ¬ i < t + 1 by omega)]; omega
/-- A board with all beads down. -/
def pdB (t : Nat) (F : Nat → Bool) : Nat → Bool := fun k => if k < 36 * t then decide (k % 36 < cT (lnB F (k / 36)) 36) else F k
theorem at_parts (i r : Nat) (hr : r < 36) : (36 * i + r) % 36 = r ∧ (36 * i + r) / 36 = i := by omega
theorem pdB_end {t : Nat} {F : Nat → Bool} (h : ∀ i, i < t → ∀ r, r < 36 → dnOk (lnB F i) r = false) : pdB t F = F := by
  funext k
  unfold pdB
  by_cases hk : k < 36 * t
  · rw [if_pos hk]
    have hi : k / 36 < t := by omega
    have hr : k % 36 < 36 := by omega
    have := cT_init 36 (f := lnB F (k / 36)) (fun r hr hh => by
      have := h (k / 36) hi r hr
      rw [(dnOk_iff hr).2 hh] at this; cases this) (k % 36) hr
    rw [← this]
    unfold lnB; congr 1; omega
  · rw [if_neg hk]
theorem pdB_set {t i r : Nat} {F : Nat → Bool} (hi : i < t) (hr : r < 36) (h : dnOk (lnB F i) r = true) : pdB t (setLn F i (dnR (lnB F i) r)) = pdB t F := by
  funext k
  unfold pdB
  by_cases hk : k < 36 * t
  · rw [if_pos hk, if_pos hk]
    by_cases e : k / 36 = i
    · rw [e, cT_congr (g := dnR (lnB F i) r) 36 fun q hq => by rw [ln_set F i i _ q hq, if_pos rfl], (dn_cw hr h).1]
    · rw [cT_congr (g := lnB F (k / 36)) 36 fun q hq => by rw [ln_set F i (k / 36) _ q hq, if_neg e]]
  · rw [if_neg hk, if_neg hk]
    unfold setLn
    rw [if_neg (by omega)]
theorem low_eq {t : Nat} {F G : Nat → Bool} (h : Low t F G) (ht : t ≤ 6) (he : ∀ k, k < 216 → G k = F k) : F = pdB t F := by
  rcases h with ⟨_, h⟩ | ⟨i, r, hi, hr, hd, rfl⟩
  · exact (pdB_end h).symm
  · exfalso
    obtain ⟨h1, h2, h3⟩ := (dnOk_iff hr).1 hd
    have := he (36 * i + r) (at_216 i r t hr hi ht)
    unfold setLn at this
    rw [if_pos (at_in i r hr), at_sub, dnR_yes hd] at this
    unfold updB at this
    rw [if_neg (by omega), if_pos rfl] at this
    have h4 : F (36 * i + r) = true := h2
    rw [h4] at this; cases this
theorem low_ne {t : Nat} {F G : Nat → Bool} (h : Low t F G) (he : ¬ ∀ k, k < 216 → G k = F k) : pdB t G = pdB t F ∧ wB G t + 1 = wB F t := by
  rcases h with ⟨rfl, _⟩ | ⟨i, r, hi, hr, hd, rfl⟩
  · exact absurd (fun k _ => rfl) he
  · refine ⟨pdB_set hi hr hd, ?_⟩
    rw [wB_set, if_pos hi]
    have := (dn_cw hr hd).2
    omega
end Go.Proofs.Ytiebnnchaopbkaa
/-
  Plain facts: rows laid on runners; an abacus with all beads down, told by rows and by a board. No program in this text.
-/
namespace Go.Proofs.Ytiebnnchaopbkaa
open Go.RowKit

/-! sums over runners -/
def sumN (f : Nat → Int) : Nat → Int
  | 0 => 0
  | n + 1 => sumN f n + f n
theorem sumN_congr {f g : Nat → Int} : ∀ n, (∀ i, i < n → f i = g i) → sumN f n = sumN g n
  | 0, _ => rfl
  | n + 1, h => by rw [sumN, sumN, sumN_congr n fun i hi => h i (by omega), h n (by omega)]
theorem sumN_zero : ∀ n, sumN (fun _ => 0) n = 0
  | 0 => rfl
  | n + 1 => by rw [sumN, sumN_zero n]; rfl
theorem sumN_add (f g : Nat → Int) : ∀ n, sumN (fun i => f i + g i) n = sumN f n + sumN g n
  | 0 => rfl
  | n + 1 => by rw [sumN, sumN, sumN, sumN_add f g n]; omega
theorem sumN_sub (f g : Nat → Int) : ∀ n, sumN (fun i => f i - g i) n = sumN f n - sumN g n
  | 0 => rfl
  | n + 1 => by rw [sumN, sumN, sumN, sumN_sub f g n]; omega
theorem sumN_mul (t : Int) (f : Nat → Int) : ∀ n, sumN (fun i => t * f i) n = t * sumN f n
  | 0 => by simp [sumN]
  | n + 1 => by rw [sumN, sumN, sumN_mul t f n, Int.mul_add]
theorem sumN_one (m : Nat) (v : Int) : ∀ n, sumN (fun i => if i = m then v else 0) n = if m < n then v else 0
  | 0 => by simp [sumN]
  | n + 1 => by
    rw [sumN, sumN_one m v n]
    by_cases e : n = m
    · subst e; rw [if_neg (Nat.lt_irrefl _), if_pos rfl, if_pos (Nat.lt_succ_self _)]; omega
    · rw [if_neg e]
      by_cases h : m < n
      · rw [if_pos h, if_pos (show m < n + 1 by omega)]; omega
      · rw [if_neg h, if_neg (show ¬ m < n + 1 by omega)]; rfl
theorem sumN_le {f g : Nat → Int} : ∀ n, (∀ i, i < n → f i ≤ g i) → sumN f n ≤ sumN g n
  | 0, _ => Int.le_refl _
  | n + 1, h => by have := sumN_le n fun i hi => h i (by omega); have := h n (by omega); rw [sumN, sumN]; omega

/-! rows laid on runners -/
def abfL (t : Nat) (R : Nat → List Int) : Nat → List Int
  | 0 => []
  | i + 1 => abfL t R i ++ (R i).map fun x => x * (t : Int) + (i : Int)
theorem mem_abfL {t : Nat} {R : Nat → List Int} {x : Int} : ∀ n, x ∈ abfL t R n ↔ ∃ i y, i < n ∧ y ∈ R i ∧ x = y * (t : Int) + (i : Int)
  | 0 => by simp [abfL]
  | n + 1 => by
    rw [abfL, List.mem_append, mem_abfL n, List.mem_map]
    constructor
    · rintro (⟨i, y, h1, h2, h3⟩ | ⟨y, h1, rfl⟩)
      · exact ⟨i, y, by omega, h2, h3⟩
      · exact ⟨n, y, by omega, h1, rfl⟩
    · rintro ⟨i, y, h1, h2, h3⟩
      by_cases e : i = n
      · subst e; exact .inr ⟨y, h2, h3.symm⟩
      · exact .inl ⟨i, y, by omega, h2, h3⟩
theorem lay_inj {t i j : Nat} {x y : Int} (hi : i < t) (hj : j < t) (h : x * (t : Int) + i = y * (t : Int) + j) : x = y ∧ i = j := by
  have h1 : (x * (t : Int) + i) % (t : Int) = i := by rw [Int.add_comm, Int.add_mul_emod_self_right]; exact Int.emod_eq_of_lt (by omega) (by omega)
  have h2 : (y * (t : Int) + j) % (t : Int) = j := by rw [Int.add_comm, Int.add_mul_emod_self_right]; exact Int.emod_eq_of_lt (by omega) (by omega)
  rw [h] at h1
  have e : i = j := by omega
  subst e
  refine ⟨?_, rfl⟩
  have h3 : x * (t : Int) = y * (t : Int) := by omega
  exact Int.eq_of_mul_eq_mul_right (by omega) h3
theorem lay_div {t i : Nat} {y : Int} (hi : i < t) : (y * (t : Int) + i) / (t : Int) = y ∧ (y * (t : Int) + i) % (t : Int) = i := by
  have h1 : (y * (t : Int) + i) % (t : Int) = i := by rw [Int.add_comm, Int.add_mul_emod_self_right]; exact Int.emod_eq_of_lt (by omega) (by omega)
  refine ⟨?_, h1⟩
  have h2 := Int.mul_ediv_add_emod (y * (t : Int) + i) t
  rw [h1] at h2
  have h3 : (t : Int) * ((y * (t : Int) + i) / (t : Int)) = (t : Int) * y := by rw [Int.mul_comm (t : Int) y]; omega
  exact Int.eq_of_mul_eq_mul_left (by omega) h3
theorem abfL_nodup {t : Nat} {R : Nat → List Int} : ∀ n, n ≤ t → (∀ i, i < n → (R i).Nodup) → (abfL t R n).Nodup
  | 0, _, _ => by simp [abfL]
  | n + 1, hn, h => by
    rw [abfL, List.nodup_append]
    refine ⟨abfL_nodup n (by omega) fun i hi => h i (by omega), ?_, ?_⟩
    · have := h n (by omega)
      unfold List.Nodup at this ⊢
      rw [List.pairwise_map]
      refine List.Pairwise.imp ?_ this
      intro a b hab e
      exact hab (lay_inj (by omega) (by omega) e).1
    · intro a ha b hb e
      subst e
      obtain ⟨i, y, h1, _, h3⟩ := (mem_abfL n).1 ha
      obtain ⟨z, _, h4⟩ := List.mem_map.1 hb
      have := (lay_inj (t := t) (i := n) (j := i) (by omega) (by omega) (h4.trans h3)).2
      omega
theorem abfL_len {t : Nat} {R : Nat → List Int} : ∀ n, ((abfL t R n).length : Int) = sumN (fun i => (R i).length) n
  | 0 => rfl
  | n + 1 => by rw [abfL, sumN, ← abfL_len (t := t) n, List.length_append, List.length_map]; omega
theorem lay_sum (t i : Nat) : ∀ L : List Int, (L.map fun x => x * (t : Int) + (i : Int)).sum = t * L.sum + i * L.length
  | [] => by simp
  | x :: r => by
    rw [List.map_cons, List.sum_cons, lay_sum t i r, List.sum_cons, List.length_cons, Int.mul_add, Int.mul_comm (t : Int) x]
    have : ((i : Int) * ((r.length + 1 : Nat) : Int)) = i * r.length + i := by rw [Int.natCast_add, Int.mul_add]; simp
    omega
theorem abfL_sum {t : Nat} {R : Nat → List Int} : ∀ n, (abfL t R n).sum = sumN (fun i => t * (R i).sum + i * (R i).length) n
  | 0 => rfl
  | n + 1 => by rw [abfL, sumN, ← abfL_sum n, List.sum_append, lay_sum]

/-! the numbers of a list by their runners -/
theorem rnL_cons {t : Nat} {x : Int} {xs : List Int} {i : Nat} : rnL t (x :: xs) i = if x % (t : Int) = (i : Int) then x / (t : Int) :: rnL t xs i else rnL t xs i := by
  unfold rnL
  rw [List.filter_cons]
  by_cases h : x % (t : Int) = (i : Int)
  · simp [h]
  · simp [h]
theorem rn_len_sum {t : Nat} (ht : 0 < t) : ∀ xs : List Int, sumN (fun i => ((rnL t xs i).length : Int)) t = xs.length
  | [] => by
    rw [sumN_congr (g := fun _ => 0) t fun i _ => by simp [rnL], sumN_zero]; rfl
  | x :: xs => by
    have h1 := Int.emod_nonneg x (show (t : Int) ≠ 0 by omega)
    have h2 := Int.emod_lt_of_pos x (show 0 < (t : Int) by omega)
    obtain ⟨m, hm⟩ : ∃ m : Nat, x % (t : Int) = m := ⟨(x % (t : Int)).toNat, by omega⟩
    rw [sumN_congr (g := fun i => ((rnL t xs i).length : Int) + if i = m then 1 else 0) t fun i _ => by
      rw [rnL_cons, hm]
      by_cases e : i = m
      · subst e; simp
      · rw [if_neg (by omega), if_neg e]; omega]
    rw [sumN_add, rn_len_sum ht xs, sumN_one, if_pos (by omega), List.length_cons]; omega
theorem rn_sum {t : Nat} (ht : 0 < t) : ∀ xs : List Int, sumN (fun i => t * (rnL t xs i).sum + i * (rnL t xs i).length) t = xs.sum
  | [] => by
    rw [sumN_congr (g := fun _ => 0) t fun i _ => by simp [rnL], sumN_zero]; rfl
  | x :: xs => by
    have h1 := Int.emod_nonneg x (show (t : Int) ≠ 0 by omega)
    have h2 := Int.emod_lt_of_pos x (show 0 < (t : Int) by omega)
    have h3 := Int.mul_ediv_add_emod x t
    obtain ⟨m, hm⟩ : ∃ m : Nat, x % (t : Int) = m := ⟨(x % (t : Int)).toNat, by omega⟩
    rw [sumN_congr (g := fun i => (t * (rnL t xs i).sum + i * (rnL t xs i).length) + if i = m then x else 0) t fun i _ => by
      rw [rnL_cons, hm]
      by_cases e : i = m
      · subst e
        simp only [if_true, List.sum_cons, List.length_cons]
        rw [Int.mul_add]
        have : ((i : Int) * (((rnL t xs i).length + 1 : Nat) : Int)) = i * (rnL t xs i).length + i := by rw [Int.natCast_add, Int.mul_add]; simp
        omega
      · rw [if_neg (by omega), if_neg e]; omega]
    rw [sumN_add, rn_sum ht xs, sumN_one, if_pos (by omega), List.sum_cons]; omega
theorem tri_le : ∀ (L : List Int) (b : Int), L.Pairwise (· < ·) → (∀ x ∈ L, b ≤ x) → b * L.length + tri L.length ≤ L.sum
  | [], b, _, _ => by simp [tri]
  | x :: r, b, hp, hb => by
    rw [List.pairwise_cons] at hp
    have ih := tri_le r (b + 1) hp.2 fun y hy => by have := hp.1 y hy; have := hb x (by simp); omega
    have hx := hb x (by simp)
    rw [List.sum_cons, List.length_cons, tri]
    have e1 : b * ((r.length + 1 : Nat) : Int) = b * r.length + b := by rw [Int.natCast_add, Int.mul_add]; simp
    have e2 : (b + 1) * (r.length : Int) = b * r.length + r.length := by rw [Int.add_mul]; simp
    omega
theorem rnL_pw {t : Nat} {xs : List Int} (ht : 0 < t) (h : xs.Pairwise (· < ·)) (i : Nat) : (rnL t xs i).Pairwise (· < ·) := by
  unfold rnL
  rw [List.pairwise_map]
  refine List.Pairwise.imp_of_mem ?_ (h.filter _)
  intro a b ha hb hab
  have h1 := of_decide_eq_true (List.mem_filter.1 ha).2
  have h2 := of_decide_eq_true (List.mem_filter.1 hb).2
  have e1 := Int.mul_ediv_add_emod a t
  have e2 := Int.mul_ediv_add_emod b t
  rw [h1] at e1; rw [h2] at e2
  have hlt : (t : Int) * (a / t) < (t : Int) * (b / t) := by omega
  exact Int.lt_of_mul_lt_mul_left hlt (by omega)
theorem rnL_pos {t : Nat} {xs : List Int} (ht : 0 < t) (h : ∀ x ∈ xs, 0 ≤ x) (i : Nat) : ∀ y ∈ rnL t xs i, 0 ≤ y := by
  intro y hy
  unfold rnL at hy
  obtain ⟨x, hx, rfl⟩ := List.mem_map.1 hy
  exact Int.ediv_nonneg (h x (List.mem_filter.1 hx).1) (by omega)

/-! all beads down -/
def dwR (t : Nat) (xs : List Int) (i : Nat) : List Int := upTo (rnL t xs i).length
def dwL (t : Nat) (xs : List Int) : List Int := insF (abfL t (dwR t xs) t)
def dwM (t : Nat) (xs : List Int) : Int := sumN (fun i => (rnL t xs i).sum - tri (rnL t xs i).length) t
theorem mem_upTo {n : Nat} {x : Int} : x ∈ upTo n ↔ 0 ≤ x ∧ x < n := by
  unfold upTo fnRow
  rw [List.mem_map]
  constructor
  · rintro ⟨j, hj, rfl⟩; have := List.mem_range.1 hj; omega
  · rintro ⟨h1, h2⟩; exact ⟨x.toNat, List.mem_range.2 (by omega), by omega⟩
theorem upTo_pw (n : Nat) : (upTo n).Pairwise (· < ·) := by
  unfold upTo fnRow
  rw [List.pairwise_map]
  refine List.Pairwise.imp ?_ List.pairwise_lt_range
  intro a b h; omega
theorem upTo_sum : ∀ n, (upTo n).sum = tri n
  | 0 => rfl
  | n + 1 => by rw [upTo_succ, List.sum_append, upTo_sum n, tri]; simp
theorem dwR_nodup (t : Nat) (xs : List Int) (i : Nat) : (dwR t xs i).Nodup := pw_nodup (upTo_pw _)
theorem dw_nodup (t : Nat) (xs : List Int) : (abfL t (dwR t xs) t).Nodup := abfL_nodup t (Nat.le_refl _) fun i _ => dwR_nodup t xs i
theorem dwL_pw (t : Nat) (xs : List Int) : (dwL t xs).Pairwise (· < ·) := (insF_all (dw_nodup t xs)).1
theorem dwL_len {t : Nat} (ht : 0 < t) (xs : List Int) : (dwL t xs).length = xs.length := by
  have h1 := (insF_all (dw_nodup t xs)).2.2
  have h2 := abfL_len (t := t) (R := dwR t xs) t
  have h3 := rn_len_sum ht xs
  rw [sumN_congr (g := fun i => ((rnL t xs i).length : Int)) t fun i _ => by unfold dwR; rw [upTo_len]] at h2
  unfold dwL; omega
theorem mem_dwL {t : Nat} (ht : 0 < t) {xs : List Int} {x : Int} : x ∈ dwL t xs ↔ 0 ≤ x ∧ x / (t : Int) < (rnL t xs (x % (t : Int)).toNat).length := by
  unfold dwL
  rw [(insF_all (dw_nodup t xs)).2.1 x, mem_abfL]
  constructor
  · rintro ⟨i, y, h1, h2, rfl⟩
    unfold dwR at h2
    have h3 := mem_upTo.1 h2
    obtain ⟨e1, e2⟩ := lay_div (y := y) h1
    rw [e1, e2, Int.toNat_natCast]
    refine ⟨?_, h3.2⟩
    have := Int.mul_nonneg h3.1 (show (0 : Int) ≤ t by omega)
    omega
  · rintro ⟨h1, h2⟩
    have h4 := Int.emod_nonneg x (show (t : Int) ≠ 0 by omega)
    have h5 := Int.emod_lt_of_pos x (show 0 < (t : Int) by omega)
    have h6 := Int.mul_ediv_add_emod x t
    refine ⟨(x % (t : Int)).toNat, x / (t : Int), by omega, mem_upTo.2 ⟨Int.ediv_nonneg h1 (by omega), h2⟩, ?_⟩
    rw [Int.mul_comm]; omega
theorem dwL_sum {t : Nat} (ht : 0 < t) (xs : List Int) : (t : Int) * dwM t xs = xs.sum - (dwL t xs).sum := by
  unfold dwL dwM
  rw [insF_sum, abfL_sum, ← rn_sum ht xs, ← sumN_sub, ← sumN_mul]
  refine sumN_congr t fun i _ => ?_
  unfold dwR
  rw [upTo_sum, upTo_len, Int.mul_sub]; omega
theorem dwM_pos {t : Nat} {xs : List Int} (ht : 0 < t) (hp : xs.Pairwise (· < ·)) (h0 : ∀ x ∈ xs, 0 ≤ x) : 0 ≤ dwM t xs := by
  unfold dwM
  rw [← sumN_zero t]
  refine sumN_le t fun i _ => ?_
  have := tri_le _ 0 (rnL_pw ht hp i) (rnL_pos ht h0 i)
  simp only [Int.zero_mul] at this
  omega
theorem goodB_pos {xs : List Int} (G : GoodB xs) : ∀ x ∈ xs, 0 ≤ x ∧ x ≤ 69 := fun x hx => by
  obtain ⟨j, hj, rfl⟩ := mem_getD.1 hx
  exact G.top hj
theorem dw_good {t : Nat} {xs : List Int} (ht : 2 ≤ t ∧ t ≤ 6) (G : GoodB xs) : goodB (dwL t xs) = true := by
  have hp := rise_pw G.rise.up
  have h0 := fun x hx => (goodB_pos G x hx).1
  have hl := dwL_len (t := t) (by omega) xs
  have hm := dwM_pos (t := t) (by omega) hp h0
  have hs := dwL_sum (t := t) (by omega) xs
  have h1 : 0 ≤ (t : Int) * dwM t xs := Int.mul_nonneg (by omega) hm
  have h2 := goodB_sum G
  have h40 := G.len
  refine goodB_of (by omega) (pw_rises (dwL_pw t xs) fun x hx => ?_) (by rw [hl]; omega)
  obtain ⟨h3, h4⟩ := (mem_dwL (by omega)).1 hx
  have h5 := rnL_len t xs (x % (t : Int)).toNat
  have h6 := Int.mul_ediv_add_emod x t
  have h7 := Int.emod_lt_of_pos x (show 0 < (t : Int) by omega)
  have h8 : (t : Int) * (x / (t : Int)) ≤ 6 * 40 := Int.mul_le_mul (by omega) (by omega) (Int.ediv_nonneg h3 (by omega)) (by omega)
  exact ⟨h3, by omega⟩
theorem dw_aba {t : Nat} {xs : List Int} (h : isAba t xs = true) : isAba t (dwL t xs) = true := by
  simp only [isAba, Bool.and_eq_true] at h ⊢
  have := inB_iff.1 h.1
  exact ⟨h.1, dw_good (by omega) (goodB_iff.1 h.2)⟩
theorem dw_board {t : Nat} {xs : List Int} (ht : 2 ≤ t ∧ t ≤ 6) (G : GoodB xs) : abL t (pdB t (bitsK t xs xs.length)) = dwL t xs ∧ wB (bitsK t xs xs.length) t - wB (pdB t (bitsK t xs xs.length)) t = dwM t xs := by
  obtain ⟨F, hF⟩ : ∃ F, F = bitsK t xs xs.length := ⟨_, rfl⟩
  have hc : ∀ i, i < t → cT (lnB F i) 36 = (rnL t xs i).length := fun i hi => by rw [hF, ← rw_c, rn_same ht G hi]
  have hw : ∀ i, i < t → wT (lnB F i) 36 = (rnL t xs i).sum := fun i hi => by rw [hF, ← rw_w, rn_same ht G hi]
  rw [← hF]
  clear hF
  constructor
  · refine pw_ext (bdL_pw _ _ _) (dwL_pw _ _) fun x => ?_
    unfold abL
    rw [mem_bdL, mem_dwL (by omega)]
    constructor
    · rintro ⟨n, hn, hf, rfl⟩
      have hd : n / t < 36 := by rw [Nat.div_lt_iff_lt_mul (by omega)]; rw [Nat.mul_comm]; exact hn
      have hm : n % t < t := Nat.mod_lt _ (by omega)
      unfold pdB atQ at hf
      rw [if_pos (by omega), (at_parts _ _ hd).1, (at_parts _ _ hd).2, decide_eq_true_eq, hc _ hm] at hf
      refine ⟨by omega, ?_⟩
      show ((n / t : Nat) : Int) < ((rnL t xs (((n % t : Nat) : Int)).toNat).length : Int)
      rw [Int.toNat_natCast]; omega
    · rintro ⟨h1, h2⟩
      obtain ⟨n, rfl⟩ : ∃ n : Nat, x = n := ⟨x.toNat, by omega⟩
      have hm : n % t < t := Nat.mod_lt _ (by omega)
      change ((n / t : Nat) : Int) < ((rnL t xs (((n % t : Nat) : Int)).toNat).length : Int) at h2
      rw [Int.toNat_natCast, ← hc _ hm] at h2
      have hle := cT_le (lnB F (n % t)) 36
      have hd : n / t < 36 := by omega
      refine ⟨n, by rw [Nat.div_lt_iff_lt_mul (by omega)] at hd; rw [Nat.mul_comm]; exact hd, ?_, rfl⟩
      unfold pdB atQ
      rw [if_pos (by omega), (at_parts _ _ hd).1, (at_parts _ _ hd).2, decide_eq_true_eq]; omega
  · have key : ∀ (G : Nat → Bool) n, wB G n = sumN (fun i => wT (lnB G i) 36) n := by
      intro G n
      induction n with
      | zero => rfl
      | succ n ih => rw [wB, sumN, ih]
    have hini : ∀ c n, wT (fun r => decide (r < c)) n = if n ≤ c then tri n else tri c := by
      intro c n
      induction n with
      | zero => simp [wT, tri]
      | succ n ih =>
        rw [wT, ih]
        by_cases h : n < c
        · rw [if_pos (show n ≤ c by omega), if_pos (show n + 1 ≤ c by omega), if_pos (show decide (n < c) = true from decide_eq_true h), tri]
        · rw [if_neg (show ¬ n + 1 ≤ c by omega), if_neg (show ¬ decide (n < c) = true from fun hh => h (of_decide_eq_true hh))]
          by_cases h2 : n ≤ c
          · have : n = c := by omega
            rw [if_pos h2, this]; omega
          · rw [if_neg h2]; omega
    unfold dwM
    rw [key, key, ← sumN_sub]
    refine sumN_congr t fun i hi => ?_
    rw [hw i hi]
    have hle := cT_le (lnB F i) 36
    rw [wT_congr (f := lnB (pdB t F) i) (g := fun r => decide (r < cT (lnB F i) 36)) 36 fun r hr => by
      unfold lnB pdB
      rw [if_pos (by omega), (at_parts _ _ hr).1, (at_parts _ _ hr).2]; rfl]
    rw [hini, hc i hi]
    rw [hc i hi] at hle
    by_cases h : 36 ≤ (rnL t xs i).length
    · rw [if_pos h, show (rnL t xs i).length = 36 by omega]
    · rw [if_neg h]
end Go.Proofs.Ytiebnnchaopbkaa
/-
  Plain facts: the core and the weight are the same for any number of beads. No program in this text.
-/
namespace Go.Proofs.Ytiebnnchaopbkaa
open Go.RowKit

def shL (L : List Int) : List Int := 0 :: L.map fun x => x + 1
theorem shL_len (L : List Int) : (shL L).length = L.length + 1 := by simp [shL]
theorem shL_sum (L : List Int) : (shL L).sum = L.sum + L.length := by
  unfold shL
  rw [List.sum_cons]
  induction L with
  | nil => simp
  | cons x r ih => rw [List.map_cons, List.sum_cons, List.sum_cons, List.length_cons]; omega
theorem shL_get (L : List Int) (j : Nat) (h : j < L.length) : (shL L).getD (j + 1) 0 = L.getD j 0 + 1 := by
  unfold shL
  rw [List.getD_cons_succ, List.getD_eq_getElem?_getD, List.getElem?_map, List.getElem?_eq_getElem h, List.getD_eq_getElem?_getD, List.getElem?_eq_getElem h]; rfl
theorem beads_next {p : List Int} {n : Nat} (h : p.length ≤ n) : beadsL p (n + 1) = shL (beadsL p n) := by
  unfold beadsL shL fnRow
  rw [List.range_succ_eq_map, List.map_cons, List.map_map, List.map_map]
  congr 1
  · unfold bead
    rw [List.getD_eq_getElem?_getD, List.getElem?_eq_none (by omega)]; rfl
  · refine List.map_congr_left fun j hj => ?_
    have := List.mem_range.1 hj
    show bead p (n + 1) (j + 1) = bead p n j + 1
    unfold bead
    rw [show n + 1 - 1 - (j + 1) = n - 1 - j by omega]; omega
/-- The runner below. -/
def pdI (t i : Nat) : Nat := if i = 0 then t - 1 else i - 1
theorem succ_mod {t : Nat} (ht : 0 < t) (x : Int) : ((x + 1) % (t : Int) = 0 ∧ x % (t : Int) = t - 1 ∧ (x + 1) / (t : Int) = x / (t : Int) + 1) ∨ ((x + 1) % (t : Int) = x % (t : Int) + 1 ∧ x % (t : Int) < t - 1 ∧ (x + 1) / (t : Int) = x / (t : Int)) := by
  have h4 := Int.emod_nonneg x (show (t : Int) ≠ 0 by omega)
  have h5 := Int.emod_lt_of_pos x (show 0 < (t : Int) by omega)
  have h6 := Int.mul_ediv_add_emod x t
  rw [Int.mul_comm] at h6
  by_cases e : x % (t : Int) = t - 1
  · left
    have e1 : x + 1 = (x / (t : Int) + 1) * (t : Int) + ((0 : Nat) : Int) := by rw [Int.add_mul]; omega
    obtain ⟨d1, d2⟩ := lay_div (t := t) (i := 0) (y := x / (t : Int) + 1) ht
    rw [← e1] at d1 d2
    exact ⟨d2, e, d1⟩
  · right
    have e1 : x + 1 = (x / (t : Int)) * (t : Int) + (((x % (t : Int)).toNat + 1 : Nat) : Int) := by omega
    obtain ⟨d1, d2⟩ := lay_div (t := t) (i := (x % (t : Int)).toNat + 1) (y := x / (t : Int)) (by omega)
    rw [← e1] at d1 d2
    exact ⟨by omega, by omega, d1⟩
theorem rn_succ {t i : Nat} (hi : i < t) : ∀ L : List Int, (rnL t (L.map fun x => x + 1) i).length = (rnL t L (pdI t i)).length
  | [] => rfl
  | x :: L => by
    have ih := rn_succ hi L
    rw [List.map_cons, rnL_cons, rnL_cons]
    have key : (x + 1) % (t : Int) = (i : Int) ↔ x % (t : Int) = ((pdI t i : Nat) : Int) := by
      have h4 := Int.emod_nonneg x (show (t : Int) ≠ 0 by omega)
      unfold pdI
      rcases succ_mod (t := t) (by omega) x with ⟨h1, h2, _⟩ | ⟨h1, h2, _⟩ <;> split <;> omega
    by_cases h : (x + 1) % (t : Int) = (i : Int)
    · rw [if_pos h, if_pos (key.1 h), List.length_cons, List.length_cons, ih]
    · rw [if_neg h, if_neg (fun hh => h (key.2 hh)), ih]
theorem rn_sh {t i : Nat} (hi : i < t) (L : List Int) : (rnL t (shL L) i).length = (if i = 0 then 1 else 0) + (rnL t L (pdI t i)).length := by
  unfold shL
  rw [rnL_cons, Int.zero_emod]
  by_cases e : i = 0
  · subst e
    rw [if_pos (show (0 : Int) = ((0 : Nat) : Int) from rfl), if_pos rfl, List.length_cons, rn_succ hi]; omega
  · rw [if_neg (by omega), if_neg e, rn_succ hi]; omega
theorem dw_sh {t : Nat} (ht : 0 < t) (L : List Int) : dwL t (shL L) = shL (dwL t L) := by
  refine pw_ext (dwL_pw _ _) ?_ fun x => ?_
  · unfold shL
    rw [List.pairwise_cons]
    refine ⟨fun y hy => ?_, ?_⟩
    · obtain ⟨z, hz, rfl⟩ := List.mem_map.1 hy
      have := ((mem_dwL ht).1 hz).1
      omega
    · rw [List.pairwise_map]
      refine List.Pairwise.imp ?_ (dwL_pw t L)
      intro a b h; omega
  · have hm : x ∈ shL (dwL t L) ↔ x = 0 ∨ x - 1 ∈ dwL t L := by
      unfold shL
      rw [List.mem_cons, List.mem_map]
      constructor
      · rintro (h | ⟨y, hy, rfl⟩)
        · exact .inl h
        · exact .inr (by rw [show y + 1 - 1 = y by omega]; exact hy)
      · rintro (h | h)
        · exact .inl h
        · exact .inr ⟨x - 1, h, by omega⟩
    rw [hm, mem_dwL ht, mem_dwL ht]
    have g4 := Int.emod_nonneg x (show (t : Int) ≠ 0 by omega)
    have g5 := Int.emod_lt_of_pos x (show 0 < (t : Int) by omega)
    rw [rn_sh (show (x % (t : Int)).toNat < t by omega)]
    have k4 := Int.emod_nonneg (x - 1) (show (t : Int) ≠ 0 by omega)
    by_cases e0 : x = 0
    · subst e0
      simp only [Int.zero_emod, Int.toNat_zero, if_true, true_or, iff_true]
      rw [Int.zero_ediv]; omega
    · have hs := succ_mod ht (x - 1)
      rw [show x - 1 + 1 = x by omega] at hs
      rcases hs with ⟨h1, h2, h3⟩ | ⟨h1, h2, h3⟩
      · rw [h1, h3, h2]
        simp only [Int.toNat_zero, if_true, pdI]
        rw [show ((t : Int) - 1).toNat = t - 1 by omega]
        omega
      · rw [if_neg (show ¬ (x % (t : Int)).toNat = 0 by omega), h3]
        rw [show pdI t (x % (t : Int)).toNat = ((x - 1) % (t : Int)).toNat by unfold pdI; rw [if_neg (by omega)]; omega]
        omega
theorem bpk_sh (M : List Int) : ∀ k, k ≤ M.length → bpk (shL M) k = bpk M k
  | 0, _ => rfl
  | k + 1, h => by
    have ih := bpk_sh M k (by omega)
    have hg := shL_get M (M.length - 1 - k) (by omega)
    have hi : M.length - 1 - k + 1 = (shL M).length - 1 - k := by rw [shL_len]; omega
    by_cases c : ((M.length - 1 - k : Nat) : Int) < M.getD (M.length - 1 - k) 0
    · rw [bpk_yes hi hg.symm (by omega), bpk_yes rfl rfl c, ih]
      congr 2; omega
    · rw [bpk_no hi hg.symm (by omega), bpk_no rfl rfl c, ih]
theorem parts_sh (M : List Int) : partsL (shL M) = partsL M := by
  unfold partsL
  rw [shL_len, bpk_no (i := 0) (x := 0) (by rw [shL_len]; omega) rfl (by simp), bpk_sh M _ (Nat.le_refl _)]
def coreL (t : Nat) (p : List Int) : List Int := partsL (dwL t (beadsL p p.length))
def wgtN (t : Nat) (p : List Int) : Int := dwM t (beadsL p p.length)
theorem core_n {t : Nat} (ht : 0 < t) (p : List Int) : ∀ d, partsL (dwL t (beadsL p (p.length + d))) = coreL t p ∧ dwM t (beadsL p (p.length + d)) = wgtN t p
  | 0 => ⟨rfl, rfl⟩
  | d + 1 => by
    obtain ⟨h1, h2⟩ := core_n ht p d
    rw [show p.length + (d + 1) = (p.length + d) + 1 by omega, beads_next (by omega), dw_sh ht, parts_sh, h1]
    refine ⟨rfl, ?_⟩
    rw [← h2]
    obtain ⟨L, hL⟩ : ∃ L, L = beadsL p (p.length + d) := ⟨_, rfl⟩
    rw [← hL]
    have e1 := dwL_sum (t := t) ht (shL L)
    have e2 := dwL_sum (t := t) ht L
    rw [dw_sh ht, shL_sum, shL_sum, dwL_len ht] at e1
    have e3 : (t : Int) * dwM t (shL L) = (t : Int) * dwM t L := by omega
    exact Int.eq_of_mul_eq_mul_left (by omega) e3
theorem core_at {t n : Nat} (ht : 0 < t) {p : List Int} (h : p.length ≤ n) : partsL (dwL t (beadsL p n)) = coreL t p ∧ dwM t (beadsL p n) = wgtN t p := by
  have := core_n ht p (n - p.length)
  rw [show p.length + (n - p.length) = n by omega] at this; exact this
end Go.Proofs.Ytiebnnchaopbkaa
