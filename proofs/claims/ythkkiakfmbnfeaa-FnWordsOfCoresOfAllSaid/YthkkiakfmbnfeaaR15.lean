/-
  Several texts in one.
-/
import Derived.Test.YthkkiakfmbnfeaaCF
import Derived.Test.YthkkiakfmbnfeaaR14
import Derived.Test.YthkkiakfmbnfeaaCA
import Derived.Test.YthkkiakfmbnfeaaR02
/-
  Plain facts: the beads of the partition of some beads are those beads. No program in this text.
-/
namespace Go.Proofs.Ythkkiakfmbnfeaa

theorem bpk_at {xs : List Int} (R : Rises 0 1000 xs) : ∀ k, k ≤ xs.length →
    (∀ j, j < k → (bpk xs k).getD j 0 = xs.getD (xs.length - 1 - j) 0 - ((xs.length - 1 - j : Nat) : Int)) ∧ (bpk xs k).length ≤ k ∧ ((bpk xs k).length < k → xs.getD (xs.length - k) 0 = ((xs.length - k : Nat) : Int))
  | 0, _ => ⟨fun j hj => absurd hj (Nat.not_lt_zero _), by simp [bpk], fun h => absurd h (by simp [bpk])⟩
  | k + 1, hk => by
    obtain ⟨h1, h2, h3⟩ := bpk_at R k (by omega)
    obtain ⟨i, hi⟩ : ∃ i, i = xs.length - 1 - k := ⟨_, rfl⟩
    have hge := rise_ge R i (by omega)
    have hk1 : xs.length - (k + 1) = i := by omega
    by_cases hx : (i : Int) < xs.getD i 0
    · rw [bpk_yes hi rfl hx]
      have hlen : (bpk xs k).length = k := by
        rcases Nat.lt_or_ge (bpk xs k).length k with h | h
        · exfalso
          have h4 := h3 h
          have h5 := gap_up R i 1 (by omega)
          rw [show xs.length - k = i + 1 by omega] at h4
          omega
        · omega
      refine ⟨fun j hj => ?_, by rw [List.length_append, hlen]; simp, fun h => ?_⟩
      · by_cases e : j = k
        · subst e
          rw [List.getD_eq_getElem?_getD, List.getElem?_append_right (by omega), hlen, Nat.sub_self, hi]; rfl
        · rw [List.getD_eq_getElem?_getD, List.getElem?_append_left (by omega), ← List.getD_eq_getElem?_getD]; exact h1 j (by omega)
      · rw [List.length_append, hlen] at h; simp at h
    · rw [bpk_no hi rfl hx]
      refine ⟨fun j hj => ?_, by omega, fun _ => by rw [hk1]; omega⟩
      by_cases e : j = k
      · subst e
        rw [getD_out h2, ← hi]; omega
      · exact h1 j (by omega)
theorem beadsL_parts {xs : List Int} (R : Rises 0 1000 xs) : beadsL (partsL xs) xs.length = xs := by
  refine ext_fh (beadsL_len _ _) fun j hj => ?_
  rw [beadsL_len] at hj
  unfold beadsL
  rw [fnRow_get _ _ _ hj]
  unfold bead partsL
  rw [(bpk_at R xs.length (Nat.le_refl _)).1 (xs.length - 1 - j) (by omega), show xs.length - 1 - (xs.length - 1 - j) = j by omega]
  omega
end Go.Proofs.Ythkkiakfmbnfeaa
/-
  Plain facts: hooks are differences of beads and gaps; no hook t, no hook that t divides, all beads down: the same. No program in this text.
-/
namespace Go.Proofs.Ythkkiakfmbnfeaa

/-- The gap of a column. -/
def gapN (p : List Int) (c : Int) : Int := c - colH p c
theorem colH_iff {p : List Int} (G : Good p) (c : Int) (hc : 0 ≤ c) (r : Nat) : (r : Int) < colH p c ↔ c < p.getD r 0 := by
  obtain ⟨m, hm1, hm2, hm3⟩ : ∃ m : Nat, m ≤ p.length ∧ (∀ j, j < m → c < p.getD j 0) ∧ (m < p.length → p.getD m 0 ≤ c) := by
    have : ∀ n, n ≤ p.length → ∃ m : Nat, m ≤ n ∧ (∀ j, j < m → c < p.getD j 0) ∧ (m < n → p.getD m 0 ≤ c) := by
      intro n
      induction n with
      | zero => intro _; exact ⟨0, Nat.le_refl _, fun j hj => absurd hj (Nat.not_lt_zero _), fun h => absurd h (Nat.lt_irrefl _)⟩
      | succ n ih =>
        intro hn
        obtain ⟨m, h1, h2, h3⟩ := ih (by omega)
        by_cases e : m = n
        · subst e
          by_cases hh : c < p.getD m 0
          · exact ⟨m + 1, Nat.le_refl _, fun j hj => by rcases Nat.lt_or_ge j m with h | h; exact h2 j h; rw [show j = m by omega]; exact hh, fun h => absurd h (Nat.lt_irrefl _)⟩
          · exact ⟨m, by omega, h2, fun _ => by omega⟩
        · exact ⟨m, by omega, h2, fun _ => h3 (by omega)⟩
    exact this p.length (Nat.le_refl _)
  have he := colH_eq p c m hm1 hm2 hm3 G.down
  rw [he]
  constructor
  · intro h; exact hm2 r (by omega)
  · intro h
    rcases Nat.lt_or_ge r m with h1 | h1
    · omega
    · exfalso
      by_cases hm : m < p.length
      · have h4 := hm3 hm
        have h5 : p.getD r 0 ≤ p.getD m 0 := by
          have := down_le p G.down m (r - m)
          by_cases hr : r < p.length
          · have := this (by omega)
            rw [show m + (r - m) = r by omega] at this; exact this
          · rw [getD_out (by omega)]; have := G.pos m hm; omega
        omega
      · rw [getD_out (by omega)] at h; omega
theorem gap_lt {p : List Int} (G : Good p) {c : Int} (hc : 0 ≤ c) (r : Nat) : num p r ≠ gapN p c ∧ (gapN p c < num p r ↔ c < p.getD r 0) := by
  have h := colH_iff G c hc r
  unfold num gapN
  constructor
  · intro e
    rcases Int.lt_or_le c (p.getD r 0) with h1 | h1
    · have := h.2 h1; omega
    · have : ¬ (r : Int) < colH p c := fun hh => by have := h.1 hh; omega
      omega
  · constructor
    · intro h1
      rcases Int.lt_or_le c (p.getD r 0) with h2 | h2
      · exact h2
      · have : ¬ (r : Int) < colH p c := fun hh => by have := h.1 hh; omega
        omega
    · intro h1
      have := h.2 h1; omega
theorem part_nn {p : List Int} (G : Good p) (r : Nat) : 0 ≤ p.getD r 0 := by
  by_cases h : r < p.length
  · have := G.pos r h; omega
  · rw [getD_out (by omega)]; omega
/-- A number that is no bead is the gap of a column. -/
theorem gap_of {p : List Int} (G : Good p) {x : Int} (h : ∀ r, num p r ≠ x) : ∃ c : Int, 0 ≤ c ∧ gapN p c = x := by
  have hd : ∀ r, num p (r + 1) < num p r := fun r => by
    have := part_down G r
    unfold num; omega
  have hlow : num p (p.length + (-x).toNat) < x := by
    have h1 := h (p.length + (-x).toNat)
    rw [num_out (by omega)] at h1 ⊢
    omega
  obtain ⟨m, hm1, hm2⟩ : ∃ m, num p m < x ∧ ∀ j, j < m → x < num p j := by
    have : ∀ n, num p n < x → ∃ m, num p m < x ∧ ∀ j, j < m → x < num p j := by
      intro n
      induction n with
      | zero => intro h0; exact ⟨0, h0, fun j hj => absurd hj (Nat.not_lt_zero _)⟩
      | succ n ih =>
        intro h0
        by_cases h1 : num p n < x
        · exact ih h1
        · refine ⟨n + 1, h0, fun j hj => ?_⟩
          have h2 := h n
          have h3 : ∀ d, j + d = n → num p n ≤ num p j := by
            intro d
            induction d generalizing j with
            | zero => intro e; rw [show j = n by omega]; exact Int.le_refl _
            | succ d ihd =>
              intro e
              have := ihd (j := j + 1) (by omega) (by omega)
              have := hd j
              omega
          have := h3 (n - j) (by omega)
          omega
    exact this _ hlow
  refine ⟨x + m, ?_, ?_⟩
  · have := part_nn G m
    unfold num at hm1; omega
  · have hc : 0 ≤ x + m := by have := part_nn G m; unfold num at hm1; omega
    have key : colH p (x + m) = m := by
      have h1 := colH_iff G (x + m) hc
      have h2 : ¬ (m : Int) < colH p (x + m) := fun hh => by have := (h1 m).1 hh; unfold num at hm1; omega
      rcases Nat.eq_zero_or_pos m with h0 | h0
      · subst h0; have := (colH_bound p (x + (0 : Nat))).1; omega
      · have h3 := hm2 (m - 1) (by omega)
        have h4 := (h1 (m - 1)).2 (by unfold num at h3; omega)
        omega
    unfold gapN; rw [key]; omega
theorem hook_gap {p : List Int} (G : Good p) {r c : Nat} (hr : r < p.length) (hc : (c : Int) < p.getD r 0) : hookN p r c = num p r - gapN p c := by
  unfold hookN num gapN
  have hl := col_lt G hr hc
  rw [cols_len] at hl
  rw [cols_get p c hl]; omega
/-- No bead can be moved down by t. -/
def Dn (p : List Int) (t : Int) : Prop := ∀ r, ∃ s, num p s = num p r - t
theorem no_hook_dn {p : List Int} (G : Good p) {t : Int} (ht : 0 < t) (h : ∀ r c : Nat, r < p.length → (c : Int) < p.getD r 0 → hookN p r c ≠ t) : Dn p t := by
  intro r
  rcases Classical.em (∃ s, num p s = num p r - t) with h1 | h1
  · exact h1
  · exfalso
    obtain ⟨c, hc0, hc⟩ := gap_of G (x := num p r - t) fun s e => h1 ⟨s, e⟩
    have hlt := (gap_lt G hc0 r).2.1 (by omega)
    have hr : r < p.length := by
      rcases Nat.lt_or_ge r p.length with h2 | h2
      · exact h2
      · rw [getD_out h2] at hlt; omega
    obtain ⟨c', rfl⟩ : ∃ c' : Nat, c = c' := ⟨c.toNat, by omega⟩
    exact h r c' hr hlt (by rw [hook_gap G hr hlt, hc]; omega)
theorem dn_mul {p : List Int} {t : Int} (h : Dn p t) (r : Nat) : ∀ k : Nat, ∃ s, num p s = num p r - k * t
  | 0 => ⟨r, by simp⟩
  | k + 1 => by
    obtain ⟨s, hs⟩ := dn_mul h r k
    obtain ⟨u, hu⟩ := h s
    refine ⟨u, ?_⟩
    rw [hu, hs, Int.natCast_add, Int.add_mul]; simp; omega
theorem dn_no_div {p : List Int} (G : Good p) {t : Int} (ht : 0 < t) (h : Dn p t) (r c : Nat) (hr : r < p.length) (hc : (c : Int) < p.getD r 0) : ¬ hookN p r c % t = 0 := by
  intro hm
  have hg := hook_gap G hr hc
  have hlt := (gap_lt G (c := (c : Int)) (by omega) r).2.2 hc
  obtain ⟨q, hq⟩ : ∃ q, hookN p r c = q * t := ⟨hookN p r c / t, by have := Int.mul_ediv_add_emod (hookN p r c) t; rw [hm, Int.mul_comm] at this; omega⟩
  have hq0 : 0 < q := by
    rcases Int.lt_or_le 0 q with h1 | h1
    · exact h1
    · have : q * t ≤ 0 := Int.mul_nonpos_of_nonpos_of_nonneg h1 (by omega)
      omega
  obtain ⟨k, rfl⟩ : ∃ k : Nat, q = k := ⟨q.toNat, by omega⟩
  obtain ⟨s, hs⟩ := dn_mul h r k
  exact (gap_lt G (c := (c : Int)) (by omega) s).1 (by rw [hs]; omega)
end Go.Proofs.Ythkkiakfmbnfeaa
