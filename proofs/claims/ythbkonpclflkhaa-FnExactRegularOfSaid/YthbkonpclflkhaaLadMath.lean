/-
  Cells on ladders and the regular partition that they make. No program in this text.
-/
import Derived.Test.YthbkonpclflkhaaRegMath
import Derived.Test.YthbkonpclflkhaaCA
namespace Go.Proofs.Ythbkonpclflkhaa

/-- Whether the row r has a cell on the ladder l in its first c columns (s = t - 1). -/
def onL (s l r c : Nat) : Bool := decide (r ≤ l) && (decide ((l - r) % s = 0) && decide ((l - r) / s < c))
theorem onL_iff {s l r c : Nat} : onL s l r c = true ↔ r ≤ l ∧ (l - r) % s = 0 ∧ (l - r) / s < c := by simp [onL]
def pt (xs : List Int) (r : Nat) : Nat := (xs.getD r 0).toNat
/-- How many of the first k rows have a cell on the ladder l. -/
def cntT (xs : List Int) (s : Nat) : Nat → Nat → Nat
  | 0, _ => 0
  | r + 1, l => cntT xs s r l + if onL s l r (pt xs r) then 1 else 0
def cnt8 (xs : List Int) (s l : Nat) : Nat := cntT xs s xs.length l
theorem cntT_le (xs : List Int) (s l : Nat) : ∀ k, cntT xs s k l ≤ k
  | 0 => Nat.le_refl _
  | k + 1 => by have := cntT_le xs s l k; simp only [cntT]; split <;> omega
/-- The columns that a ladder meets in a row, one more. -/
theorem onL_succ {s : Nat} (hs : 1 ≤ s) (l r c : Nat) : (if onL s l r (c + 1) then 1 else 0) = (if onL s l r c then 1 else 0) + (if l = r + s * c then 1 else (0 : Nat)) := by
  have key : onL s l r (c + 1) = true ↔ (onL s l r c = true ∨ l = r + s * c) := by
    simp only [onL_iff]
    constructor
    · rintro ⟨h1, h2, h3⟩
      by_cases h : (l - r) / s < c
      · exact .inl ⟨h1, h2, h⟩
      · have hq : (l - r) / s = c := by omega
        have := Nat.div_add_mod (l - r) s
        rw [hq, h2] at this
        exact .inr (by omega)
    · rintro (⟨h1, h2, h3⟩ | h)
      · exact ⟨h1, h2, by omega⟩
      · subst h
        refine ⟨Nat.le_add_right _ _, ?_, ?_⟩
        · rw [Nat.add_sub_cancel_left]; exact Nat.mul_mod_right _ _
        · rw [Nat.add_sub_cancel_left, Nat.mul_div_cancel_left _ (by omega)]; omega
  have dis : ¬ (onL s l r c = true ∧ l = r + s * c) := by
    rintro ⟨h, e⟩
    have := (onL_iff.1 h).2.2
    rw [e, Nat.add_sub_cancel_left, Nat.mul_div_cancel_left _ (by omega)] at this
    omega
  by_cases h1 : onL s l r c = true
  · have h2 : ¬ l = r + s * c := fun e => dis ⟨h1, e⟩
    rw [if_pos (key.2 (.inl h1)), if_pos h1, if_neg h2]
  · by_cases h2 : l = r + s * c
    · rw [if_pos (key.2 (.inr h2)), if_neg h1, if_pos h2]
    · rw [if_neg (fun h => (key.1 h).elim h1 h2), if_neg h1, if_neg h2]
theorem onL_zero (s l r : Nat) : onL s l r 0 = false := by
  cases h : onL s l r 0
  · rfl
  · exact absurd (onL_iff.1 h).2.2 (Nat.not_lt_zero _)
/-- Rows of one class below n: so many that the last of them, were they the first ones, lies below n. -/
def cls (s a : Nat) : Nat → Nat
  | 0 => 0
  | n + 1 => cls s a n + if n % s = a then 1 else 0
theorem cls_bd : ∀ s, s < 6 → ∀ a, a < s → ∀ n, n < 40 → 1 ≤ cls s a n → a + s * (cls s a n - 1) < n := by decide +kernel
theorem cnt_cls (xs : List Int) {s : Nat} (hs : 1 ≤ s) (l : Nat) : ∀ k, cntT xs s k l ≤ cls s (l % s) (min k (l + 1))
  | 0 => Nat.zero_le _
  | k + 1 => by
    have ih := cnt_cls xs hs l k
    simp only [cntT]
    by_cases h : onL s l k (pt xs k) = true
    · obtain ⟨h1, h2, _⟩ := onL_iff.1 h
      rw [if_pos h, show min (k + 1) (l + 1) = k + 1 by omega]
      rw [show min k (l + 1) = k by omega] at ih
      have hm : k % s = l % s := by
        have := Nat.div_add_mod (l - k) s
        rw [h2] at this
        have e : l = k + s * ((l - k) / s) := by omega
        rw [e, Nat.add_mul_mod_self_left]
      simp only [cls, hm, if_true]
      omega
    · rw [if_neg h]
      by_cases hk : k + 1 ≤ l + 1
      · rw [show min (k + 1) (l + 1) = k + 1 by omega]
        rw [show min k (l + 1) = k by omega] at ih
        simp only [cls]; omega
      · rw [show min (k + 1) (l + 1) = l + 1 by omega]
        rw [show min k (l + 1) = l + 1 by omega] at ih
        omega
theorem cls_mono (s a : Nat) : ∀ {m n : Nat}, m ≤ n → cls s a m ≤ cls s a n
  | m, 0, h => by rw [show m = 0 by omega]; exact Nat.le_refl _
  | m, n + 1, h => by
    by_cases e : m = n + 1
    · subst e; exact Nat.le_refl _
    · have := cls_mono s a (show m ≤ n by omega)
      simp only [cls]; omega
/-- The lowest row that is filled on a ladder. -/
theorem cnt_low {xs : List Int} (hl : xs.length ≤ 30) {s : Nat} (hs : 1 ≤ s ∧ s ≤ 5) (l : Nat) {k : Nat} (hk : k < cnt8 xs s l) : l % s + s * k < xs.length ∧ l % s + s * k ≤ l := by
  have h1 := cnt_cls xs hs.1 l xs.length
  have hm := Nat.mod_lt l (show 0 < s by omega)
  have h2 : cls s (l % s) (min xs.length (l + 1)) ≤ cls s (l % s) (min xs.length (l + 1)) := Nat.le_refl _
  have hb := cls_bd s (by omega) (l % s) hm (min xs.length (l + 1)) (by omega) (by unfold cnt8 at hk; omega)
  have hle : s * k ≤ s * (cls s (l % s) (min xs.length (l + 1)) - 1) := Nat.mul_le_mul_left s (by unfold cnt8 at hk; omega)
  omega
theorem cnt_zero {xs : List Int} (G : Good xs) {s : Nat} (_ : 1 ≤ s ∧ s ≤ 5) {l : Nat} (hl : xs.length + s * pt xs 0 ≤ l) : cnt8 xs s l = 0 := by
  unfold cnt8
  have : ∀ k, k ≤ xs.length → cntT xs s k l = 0 := by
    intro k
    induction k with
    | zero => intro _; rfl
    | succ k ih =>
      intro hk
      simp only [cntT, ih (by omega)]
      rw [if_neg (fun h => by
        obtain ⟨h1, h2, h3⟩ := onL_iff.1 h
        have hd := Nat.div_add_mod (l - k) s
        rw [h2] at hd
        have h4 : pt xs k ≤ pt xs 0 := by
          unfold pt
          by_cases e : k = 0
          · subst e; exact Nat.le_refl _
          · have := down_le xs G.down 0 k (by omega)
            rw [Nat.zero_add] at this; omega
        have : s * ((l - k) / s) ≤ s * pt xs 0 := Nat.mul_le_mul_left s (by omega)
        omega)]
  exact this _ (Nat.le_refl _)
/-! The rows that are filled. -/
def fitB (xs : List Int) (s l r : Nat) : Bool := decide (r % s = l % s) && decide (r / s < cnt8 xs s l)
def lr (xs : List Int) (s : Nat) : Nat → Nat → Nat
  | 0, _ => 0
  | l + 1, r => lr xs s l r + if fitB xs s l r then 1 else 0
theorem lr_le (xs : List Int) (s r : Nat) : ∀ l, lr xs s l r ≤ l
  | 0 => Nat.le_refl _
  | l + 1 => by have := lr_le xs s r l; simp only [lr]; split <;> omega
theorem lr_more {xs : List Int} (G : Good xs) {s : Nat} (hs : 1 ≤ s ∧ s ≤ 5) (r l : Nat) (hl : xs.length + s * pt xs 0 ≤ l) : ∀ d, lr xs s (l + d) r = lr xs s l r
  | 0 => rfl
  | d + 1 => by
    rw [show l + (d + 1) = l + d + 1 by omega, lr, lr_more G hs r l hl d, if_neg (by
      unfold fitB
      rw [cnt_zero G hs (show xs.length + s * pt xs 0 ≤ l + d by omega)]
      simp)]; rfl
def lF (xs : List Int) (s r : Nat) : Nat := lr xs s (xs.length + s * pt xs 0) r
theorem lr_end {xs : List Int} (G : Good xs) {s : Nat} (hs : 1 ≤ s ∧ s ≤ 5) (r : Nat) {l : Nat} (hl : xs.length + s * pt xs 0 ≤ l) : lr xs s l r = lF xs s r := by
  have := lr_more G hs r (xs.length + s * pt xs 0) (Nat.le_refl _) (l - (xs.length + s * pt xs 0))
  rwa [show xs.length + s * pt xs 0 + (l - (xs.length + s * pt xs 0)) = l by omega] at this
theorem row_form {s r l k : Nat} (_ : 1 ≤ s) (h : r % s = l % s) (hk : r / s = k) : r = l % s + s * k := by
  have := Nat.div_add_mod r s
  rw [h, hk] at this; omega
/-- On the ladder before, each row but the first has its cell a row higher. -/
theorem cnt_up (xs : List Int) (G : Good xs) {s : Nat} (_ : 1 ≤ s) (l : Nat) (hl : 1 ≤ l) : cnt8 xs s l ≤ cnt8 xs s (l - 1) + (if l % s = 0 then 1 else 0) := by
  have hon : ∀ r, onL s l (r + 1) (pt xs (r + 1)) = true → onL s (l - 1) r (pt xs r) = true := by
    intro r h
    obtain ⟨h1, h2, h3⟩ := onL_iff.1 h
    have e : l - 1 - r = l - (r + 1) := by omega
    refine onL_iff.2 ⟨by omega, by rw [e]; exact h2, by
      rw [e]
      have : pt xs (r + 1) ≤ pt xs r := by
        unfold pt
        by_cases h : r + 1 < xs.length
        · have := G.down r h; omega
        · rw [getD_beyond (show xs.length ≤ r + 1 by omega)]; simp
      omega⟩
  have step : ∀ k, cntT xs s (k + 1) l ≤ cntT xs s k (l - 1) + (if l % s = 0 then 1 else 0) := by
    intro k
    induction k with
    | zero =>
      simp only [cntT, Nat.zero_add]
      by_cases h : onL s l 0 (pt xs 0) = true
      · have := (onL_iff.1 h).2.1
        rw [Nat.sub_zero] at this
        rw [if_pos h, if_pos this]; omega
      · rw [if_neg h]; omega
    | succ k ih =>
      rw [cntT]
      simp only [cntT] at ih ⊢
      by_cases h : onL s l (k + 1) (pt xs (k + 1)) = true
      · rw [if_pos h, if_pos (hon k h)]; omega
      · rw [if_neg h]; omega
  unfold cnt8
  cases hn : xs.length with
  | zero => simp [cntT]
  | succ n =>
    have := step n
    have hm : cntT xs s n (l - 1) ≤ cntT xs s (n + 1) (l - 1) := by simp only [cntT]; omega
    omega
/-- The rows get no longer. -/
theorem lr_down (xs : List Int) (G : Good xs) {s : Nat} (hs : 1 ≤ s) (r : Nat) : ∀ l, lr xs s (l + 1) (r + 1) ≤ lr xs s l r
  | 0 => by
    simp only [lr, Nat.zero_add]
    rw [if_neg (by
      unfold fitB
      simp only [Bool.and_eq_true, decide_eq_true_eq]
      rintro ⟨h1, h2⟩
      have h3 := cnt_cls xs hs 0 xs.length
      have h4 := cls_mono s (0 % s) (show min xs.length (0 + 1) ≤ 1 by omega)
      have h5 : cls s (0 % s) 1 ≤ 1 := by simp only [cls]; split <;> omega
      unfold cnt8 at h2
      rw [Nat.zero_mod] at h1
      have hd := Nat.div_add_mod (r + 1) s
      rw [h1] at hd
      have : (r + 1) / s = 0 := Nat.lt_one_iff.1 (by omega)
      rw [this] at hd
      omega)]
    exact Nat.le_refl _
  | l + 1 => by
    have ih := lr_down xs G hs r l
    show lr xs s (l + 1) (r + 1) + (if fitB xs s (l + 1) (r + 1) then 1 else 0) ≤ lr xs s l r + (if fitB xs s l r then 1 else 0)
    have himp : fitB xs s (l + 1) (r + 1) = true → fitB xs s l r = true := by
      unfold fitB
      simp only [Bool.and_eq_true, decide_eq_true_eq]
      rintro ⟨h1, h2⟩
      have hu := cnt_up xs G hs (l + 1) (by omega)
      rw [Nat.add_sub_cancel] at hu
      have hmod : r % s = l % s := by
        have e : (r + 1 + (s - 1)) % s = (l + 1 + (s - 1)) % s := by rw [Nat.add_mod, h1, ← Nat.add_mod]
        rw [show r + 1 + (s - 1) = r + s by omega, show l + 1 + (s - 1) = l + s by omega, Nat.add_mod_right, Nat.add_mod_right] at e
        exact e
      refine ⟨hmod, ?_⟩
      have hdr := Nat.div_add_mod r s
      have hd1 := Nat.div_add_mod (r + 1) s
      by_cases h0 : (l + 1) % s = 0
      · rw [if_pos h0] at hu
        rw [h1, h0] at hd1
        have hlt := Nat.mod_lt r (show 0 < s by omega)
        have hq : r / s < (r + 1) / s := by
          apply Classical.byContradiction
          intro hh
          have hle : s * ((r + 1) / s) ≤ s * (r / s) := Nat.mul_le_mul_left s (by omega)
          omega
        omega
      · rw [if_neg h0] at hu
        have hq : r / s ≤ (r + 1) / s := Nat.div_le_div_right (by omega)
        omega
    by_cases h : fitB xs s (l + 1) (r + 1) = true
    · rw [if_pos h, if_pos (himp h)]; omega
    · rw [if_neg h]; omega
theorem lF_down {xs : List Int} (G : Good xs) {s : Nat} (hs : 1 ≤ s ∧ s ≤ 5) (r : Nat) : lF xs s (r + 1) ≤ lF xs s r := by
  have h := lr_down xs G hs.1 r (xs.length + s * pt xs 0)
  rwa [lr_end G hs (r + 1) (Nat.le_succ _)] at h
theorem lF_zero {xs : List Int} (G : Good xs) {s : Nat} (hs : 1 ≤ s ∧ s ≤ 5) {r : Nat} (hr : xs.length ≤ r) : lF xs s r = 0 := by
  unfold lF
  have : ∀ l, lr xs s l r = 0 := by
    intro l
    induction l with
    | zero => rfl
    | succ l ih =>
      rw [lr, ih, if_neg (by
        unfold fitB
        simp only [Bool.and_eq_true, decide_eq_true_eq]
        rintro ⟨h1, h2⟩
        have := (cnt_low G.len hs l h2).1
        have := row_form hs.1 h1 rfl
        omega)]
  exact this _
/-- So many rows are filled. -/
theorem lF_rows {xs : List Int} (G : Good xs) {s : Nat} (hs : 1 ≤ s ∧ s ≤ 5) : ∃ K, K ≤ xs.length ∧ ∀ r, 0 < lF xs s r ↔ r < K := by
  have anti : ∀ r d, lF xs s (r + d) ≤ lF xs s r := by
    intro r d
    induction d with
    | zero => exact Nat.le_refl _
    | succ d ih => have := lF_down G hs (r + d); rw [show r + (d + 1) = r + d + 1 by omega]; omega
  have step : ∀ n, (∀ r, n ≤ r → lF xs s r = 0) → ∃ K, K ≤ n ∧ ∀ r, 0 < lF xs s r ↔ r < K := by
    intro n
    induction n with
    | zero => intro h; exact ⟨0, Nat.le_refl _, fun r => by have := h r (Nat.zero_le _); omega⟩
    | succ n ih =>
      intro h
      by_cases h0 : lF xs s n = 0
      · obtain ⟨K, hK, hh⟩ := ih (fun r hr => by
          by_cases e : r = n
          · subst e; exact h0
          · exact h r (by omega))
        exact ⟨K, by omega, hh⟩
      · refine ⟨n + 1, Nat.le_refl _, fun r => ⟨fun hp => ?_, fun hr => ?_⟩⟩
        · apply Classical.byContradiction
          intro hh
          have := h r (by omega)
          omega
        · have := anti r (n - r)
          rw [show r + (n - r) = n by omega] at this
          omega
  exact step xs.length fun r hr => lF_zero G hs hr
def lK (xs : List Int) (s : Nat) : Nat := ((List.range xs.length).filter fun r => decide (0 < lF xs s r)).length
theorem filter_lt (K n : Nat) (h : K ≤ n) : ((List.range n).filter fun r => decide (r < K)) = List.range K := by
  induction n with
  | zero => rw [show K = 0 by omega]; rfl
  | succ n ih =>
    rw [List.range_succ, List.filter_append]
    by_cases e : K = n + 1
    · subst e
      rw [List.filter_eq_self.2 (fun a ha => by have := List.mem_range.1 ha; simp; omega), List.range_succ]
      simp
    · rw [ih (by omega)]
      simp; omega
theorem lK_eq {xs : List Int} (G : Good xs) {s : Nat} (hs : 1 ≤ s ∧ s ≤ 5) : lK xs s ≤ xs.length ∧ (∀ r, 0 < lF xs s r ↔ r < lK xs s) ∧ ((List.range xs.length).filter fun r => decide (0 < lF xs s r)) = List.range (lK xs s) := by
  obtain ⟨K, hK, hh⟩ := lF_rows G hs
  have e : ((List.range xs.length).filter fun r => decide (0 < lF xs s r)) = List.range K := by
    rw [← filter_lt K xs.length hK]
    congr 1
    funext r
    exact decide_eq_decide.2 (hh r)
  have e2 : lK xs s = K := by unfold lK; rw [e, List.length_range]
  rw [e2]
  exact ⟨hK, hh, e⟩
def lRow (xs : List Int) (s : Nat) (n : Nat) : List Int := fnRow n fun r => (lF xs s r : Int)
def roL (xs : List Int) (t : Nat) : List Int := lRow xs (t - 1) (lK xs (t - 1))
def roF (xs : List Int) (t : Int) : List Int := if giB xs t then roL xs t.toNat else []
theorem bound_RegularOf (xs : List Int) (t : Int) : (roF xs t).length ≤ 1048576 := by
  unfold roF; split
  · rename_i h
    obtain ⟨h1, h2⟩ := giB_t h
    have ht := inB_iff.1 h2
    have hk := (lK_eq ((good_iff xs).1 h1) (s := t.toNat - 1) (by omega)).1
    have := good_len h1
    unfold roL lRow
    rw [fnRow_len]; omega
  · simp
end Go.Proofs.Ythbkonpclflkhaa
