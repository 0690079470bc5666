/-
  Several texts in one.
-/
import Derived.Test.YtnjaoaamcdohoaaR08
import Derived.Test.YtnjaoaamcdohoaaR09
import Derived.Test.YtnjaoaamcdohoaaR02
/-
  Levels of a partition, told by its beads and by the numbers that have none: the same.
-/
namespace Go.Proofs.Ytnjaoaamcdohoaa

/-- A sum over numbers that follow each other. -/
def Sg (f : Int → Int) : Int → Nat → Int
  | _, 0 => 0
  | a, m + 1 => f a + Sg f (a + 1) m
theorem Sg_snoc (f : Int → Int) : ∀ (m : Nat) (a : Int), Sg f a (m + 1) = Sg f a m + f (a + m)
  | 0, a => by simp [Sg]
  | m + 1, a => by
    rw [Sg, Sg_snoc f m (a + 1), Sg]
    rw [show a + 1 + (m : Int) = a + ((m + 1 : Nat) : Int) by omega]; omega
theorem Sg_add (f : Int → Int) : ∀ (m k : Nat) (a : Int), Sg f a (m + k) = Sg f a m + Sg f (a + m) k
  | 0, k, a => by simp [Sg]
  | m + 1, k, a => by
    rw [show m + 1 + k = (m + k) + 1 by omega, Sg, Sg_add f m k (a + 1), Sg]
    rw [show a + 1 + (m : Int) = a + ((m + 1 : Nat) : Int) by omega]; omega
theorem Sg_congr {f g : Int → Int} : ∀ (m : Nat) (a : Int), (∀ x, a ≤ x → x < a + m → f x = g x) → Sg f a m = Sg g a m
  | 0, _, _ => rfl
  | m + 1, a, h => by
    rw [Sg, Sg, h a (by omega) (by omega), Sg_congr m (a + 1) fun x h1 h2 => h x (by omega) (by omega)]
theorem Sg_zero {f : Int → Int} : ∀ (m : Nat) (a : Int), (∀ x, a ≤ x → x < a + m → f x = 0) → Sg f a m = 0
  | 0, _, _ => rfl
  | m + 1, a, h => by
    rw [Sg, h a (by omega) (by omega), Sg_zero m (a + 1) fun x h1 h2 => h x (by omega) (by omega)]; rfl
theorem Sg_sub (f g : Int → Int) : ∀ (m : Nat) (a : Int), Sg (fun x => f x - g x) a m = Sg f a m - Sg g a m
  | 0, _ => rfl
  | m + 1, a => by rw [Sg, Sg, Sg, Sg_sub f g m (a + 1)]; omega
theorem Sg_shift (f : Int → Int) (n : Int) : ∀ (m : Nat) (a : Int), Sg f a m = Sg (fun y => f (y - n)) (a + n) m
  | 0, _ => rfl
  | m + 1, a => by
    rw [Sg, Sg, Sg_shift f n m (a + 1)]
    rw [show a + n - n = a by omega, show a + 1 + n = a + n + 1 by omega]
theorem Sg_count (P : Int → Bool) : ∀ (m : Nat) (a : Int) (L : List Int), L.Pairwise (· < ·) → (∀ y ∈ L, a ≤ y ∧ y < a + m) → Sg (fun y => if P y = true ∧ y ∈ L then 1 else 0) a m = ((L.filter P).length : Nat)
  | 0, a, L, _, h => by
    cases L with
    | nil => rfl
    | cons y r => have := h y (by simp); omega
  | m + 1, a, L, hp, h => by
    rw [Sg]
    cases L with
    | nil => rw [Sg_zero]; · simp
             · intro x _ _; simp
    | cons y r =>
      have hpr := List.pairwise_cons.1 hp
      by_cases e : y = a
      · subst e
        rw [Sg_congr (g := fun z => if P z = true ∧ z ∈ r then 1 else 0) m (y + 1) fun x h1 _ => by
            have : x ≠ y := by omega
            simp [this]]
        rw [Sg_count P m (y + 1) r hpr.2 fun z hz => ⟨by have := hpr.1 z hz; omega, by have := (h z (by simp [hz])).2; omega⟩]
        by_cases hP : P y = true
        · rw [if_pos ⟨hP, by simp⟩, List.filter_cons_of_pos hP, List.length_cons]; omega
        · rw [if_neg (fun hh => hP hh.1), List.filter_cons_of_neg hP]; omega
      · have ha : a ∉ (y :: r) := fun hm => by
          rcases List.mem_cons.1 hm with h1 | h1
          · exact e h1.symm
          · have := hpr.1 a h1; have := (h y (by simp)).1; omega
        rw [if_neg (fun hh => ha hh.2), Sg_count P m (a + 1) (y :: r) hp fun z hz => by
          have h1 := h z hz
          have : z ≠ a := fun hh => ha (hh ▸ hz)
          omega]
        omega
theorem Sg_one (c : Int) : ∀ (m : Nat) (a : Int), a ≤ c → c < a + m → Sg (fun y => if y = c then 1 else 0) a m = 1
  | 0, a, h1, h2 => by omega
  | m + 1, a, h1, h2 => by
    rw [Sg]
    by_cases e : a = c
    · rw [if_pos e, Sg_zero m (a + 1) fun x h3 _ => by rw [if_neg (by omega)]]; rfl
    · rw [if_neg e, Sg_one c m (a + 1) (by omega) (by omega)]; rfl
theorem Sg_resid {t i : Nat} (h : i < t) : ∀ q : Nat, Sg (fun y => if y % (t : Int) = (i : Int) then 1 else 0) 0 (q * t) = q
  | 0 => by simp [Sg]
  | q + 1 => by
    rw [Nat.add_mul, Nat.one_mul, Sg_add, Sg_resid h q]
    rw [Sg_congr (g := fun y => if y = ((q * t : Nat) : Int) + i then 1 else 0), Sg_one]
    · rfl
    · omega
    · omega
    · intro x h1 h2
      obtain ⟨j, rfl⟩ : ∃ j : Nat, x = ((q * t : Nat) : Int) + j := ⟨(x - ((q * t : Nat) : Int)).toNat, by omega⟩
      have hj : j < t := by omega
      have hm : (((q * t : Nat) : Int) + j) % (t : Int) = j := by
        have e1 : ((q * t + j) % t) = j := by rw [Nat.mul_comm, Nat.mul_add_mod, Nat.mod_eq_of_lt hj]
        have h5 : (((q * t + j : Nat) : Int) % (t : Int)) = (((q * t + j) % t : Nat) : Int) := rfl
        rw [e1] at h5
        rw [show ((q * t : Nat) : Int) + (j : Int) = ((q * t + j : Nat) : Int) by omega]; exact h5
      rw [hm]
      by_cases e : j = i
      · subst e; simp
      · rw [if_neg (by omega), if_neg (by omega)]

/-- Whether a partition has a bead at a number. -/
def bdB (p : List Int) (x : Int) : Bool := (List.range (p.length + (-x).toNat + 1)).any fun r => decide (num p r = x)
theorem bdB_iff {p : List Int} {x : Int} : bdB p x = true ↔ ∃ r, r < p.length + (-x).toNat + 1 ∧ num p r = x := by
  simp [bdB]
theorem num_out {p : List Int} {r : Nat} (h : p.length ≤ r) : num p r = -(r : Int) - 1 := by unfold num; rw [getD_out h]; omega
theorem bdB_low {p : List Int} {x : Int} (h : x < -(p.length : Int)) : bdB p x = true := by
  refine bdB_iff.2 ⟨(-x - 1).toNat, by omega, ?_⟩
  rw [num_out (by omega)]; omega
def eV (p : List Int) (t i : Nat) (x : Int) : Int := if x % (t : Int) = (i : Int) then (if bdB p x = true then 1 else 0) - (if x < 0 then 1 else 0) else 0
theorem eV_low {p : List Int} {t i : Nat} {x : Int} (h : x < -(p.length : Int)) : eV p t i x = 0 := by
  unfold eV
  rw [bdB_low h, if_pos (show x < 0 by omega)]
  split <;> rfl
theorem mem_beadsL {p : List Int} {n : Nat} {y : Int} : y ∈ beadsL p n ↔ ∃ r, r < n ∧ num p r = y - n := by
  unfold beadsL fnRow
  rw [List.mem_map]
  constructor
  · rintro ⟨j, hj, rfl⟩
    have := List.mem_range.1 hj
    refine ⟨n - 1 - j, by omega, ?_⟩
    unfold num bead; omega
  · rintro ⟨r, hr, e⟩
    refine ⟨n - 1 - r, List.mem_range.2 (by omega), ?_⟩
    unfold bead; unfold num at e
    rw [show n - 1 - (n - 1 - r) = r by omega]; omega
theorem bd_mem {p : List Int} {n : Nat} {y : Int} (hl : p.length ≤ n) (hy : 0 ≤ y) : bdB p (y - n) = true ↔ y ∈ beadsL p n := by
  rw [bdB_iff, mem_beadsL]
  constructor
  · rintro ⟨r, h1, h2⟩
    refine ⟨r, ?_, h2⟩
    rcases Nat.lt_or_ge r n with h | h
    · exact h
    · rw [num_out (by omega)] at h2; omega
  · rintro ⟨r, h1, h2⟩
    refine ⟨r, ?_, h2⟩
    rcases Nat.lt_or_ge r p.length with h | h
    · omega
    · rw [num_out h] at h2; omega
theorem part_first {p : List Int} (G : Good p) : ∀ k, p.getD k 0 ≤ p.getD 0 0
  | 0 => Int.le_refl _
  | k + 1 => Int.le_trans (part_down G k) (part_first G k)
theorem beads_pw {p : List Int} (G : Good p) {n : Nat} (h : p.length ≤ n) (hn : n ≤ 40) : (beadsL p n).Pairwise (· < ·) := by
  have R := (goodB_iff.1 (beadsL_goodB G h hn)).rise.up
  rw [List.pairwise_iff_getElem]
  have key : ∀ d i, i + d + 1 < (beadsL p n).length → (beadsL p n).getD i 0 < (beadsL p n).getD (i + d + 1) 0 := by
    intro d
    induction d with
    | zero => intro i hi; exact R i hi
    | succ d ih => intro i hi; exact Int.lt_trans (ih i (by omega)) (R (i + d + 1) hi)
  intro i j hi hj hij
  have := key (j - i - 1) i (by omega)
  rw [show i + (j - i - 1) + 1 = j by omega] at this
  simpa [List.getD, hi, hj] using this
theorem lv_main {p : List Int} (G : Good p) {t q n i : Nat} (hi : i < t) (hn : n = q * t) (hl : p.length ≤ n) (h40 : n ≤ 40) :
    Sg (eV p t i) (-(p.length : Int) - 1) (p.length + 1 + (p.getD 0 0).toNat) = cnt t (beadsL p n) i - q := by
  obtain ⟨P, hP⟩ : ∃ P, P = (p.getD 0 0).toNat := ⟨_, rfl⟩
  have hP2 : ∀ k, p.getD k 0 ≤ P := fun k => by have := part_first G k; omega
  rw [← hP]
  have s1 : Sg (eV p t i) (-(p.length : Int) - 1) (p.length + 1 + P) = Sg (eV p t i) (-(p.length : Int)) (p.length + P) := by
    rw [show p.length + 1 + P = (p.length + P) + 1 by omega, Sg, eV_low (by omega)]
    rw [show -(p.length : Int) - 1 + 1 = -(p.length : Int) by omega]; omega
  have s2 : Sg (eV p t i) (-(n : Int)) (n + P) = Sg (eV p t i) (-(p.length : Int)) (p.length + P) := by
    rw [show n + P = (n - p.length) + (p.length + P) by omega, Sg_add, Sg_zero (n - p.length) _ fun x h1 h2 => eV_low (by omega)]
    rw [show -(n : Int) + ((n - p.length : Nat) : Int) = -(p.length : Int) by omega]; omega
  rw [s1, ← s2, Sg_shift _ n, show -(n : Int) + n = 0 by omega]
  have s3 : Sg (fun y => eV p t i (y - n)) 0 (n + P) = Sg (fun y => (if decide (y % (t : Int) = (i : Int)) = true ∧ y ∈ beadsL p n then 1 else 0) - (if y % (t : Int) = (i : Int) ∧ y < n then 1 else 0)) 0 (n + P) := by
    refine Sg_congr _ _ fun y h1 h2 => ?_
    have hm : (y - n) % (t : Int) = y % (t : Int) := by
      rw [hn]
      have : y = (y - ((q * t : Nat) : Int)) + (q : Int) * (t : Int) := by rw [show ((q * t : Nat) : Int) = (q : Int) * (t : Int) from rfl]; omega
      conv => rhs; rw [this]
      rw [Int.add_mul_emod_self_right]
    unfold eV
    rw [hm]
    have hb := bd_mem (p := p) (n := n) (y := y) hl h1
    by_cases e : y % (t : Int) = (i : Int)
    · rw [if_pos e]
      have e1 : ((if bdB p (y - n) = true then 1 else 0 : Int)) = if decide (y % (t : Int) = (i : Int)) = true ∧ y ∈ beadsL p n then 1 else 0 := by
        by_cases hm2 : y ∈ beadsL p n
        · rw [if_pos (hb.2 hm2), if_pos ⟨by simp [e], hm2⟩]
        · rw [if_neg (fun h => hm2 (hb.1 h)), if_neg (fun h => hm2 h.2)]
      have e2 : ((if y - (n : Int) < 0 then 1 else 0 : Int)) = if y % (t : Int) = (i : Int) ∧ y < n then 1 else 0 := by
        by_cases hy : y < n
        · rw [if_pos (by omega), if_pos ⟨e, hy⟩]
        · rw [if_neg (by omega), if_neg (fun h => hy h.2)]
      rw [e1, e2]
    · rw [if_neg e, if_neg (by simp [e]), if_neg (fun h => e h.1)]; rfl
  rw [s3, Sg_sub, Sg_count _ _ _ _ (beads_pw G hl h40) fun y hy => by
    unfold beadsL fnRow at hy
    obtain ⟨j, hj, rfl⟩ := List.mem_map.1 hy
    have hj2 := List.mem_range.1 hj
    have := bead_bd G n j hj2 h40
    have := hP2 (n - 1 - j)
    unfold bead at *
    omega]
  have s4 : Sg (fun y => if y % (t : Int) = (i : Int) ∧ y < n then 1 else 0) 0 (n + P) = q := by
    rw [Sg_add, Sg_zero P _ fun x h1 h2 => by rw [if_neg (fun h => by omega)]]
    rw [Sg_congr (g := fun y => if y % (t : Int) = (i : Int) then 1 else 0) n 0 fun x h1 h2 => by
      have : x < n := by omega
      simp [this]]
    rw [hn, Sg_resid hi]; omega
  rw [s4]; rfl
end Go.Proofs.Ytnjaoaamcdohoaa
/-
  Plain facts: hooks are differences of beads and gaps; no hook t, no hook that t divides, all beads down: the same. No program in this text.
-/
namespace Go.Proofs.Ytnjaoaamcdohoaa

/-- The gap of a column. -/
def gapN (p : List Int) (c : Int) : Int := c - colH p c
theorem colH_iff {p : List Int} (G : Good p) (c : Int) (hc : 0 ≤ c) (r : Nat) : (r : Int) < colH p c ↔ c < p.getD r 0 := by
  obtain ⟨m, hm1, hm2, hm3⟩ : ∃ m : Nat, m ≤ p.length ∧ (∀ j, j < m → c < p.getD j 0) ∧ (m < p.length → p.getD m 0 ≤ c) := by
    have : ∀ n, n ≤ p.length → ∃ m : Nat, m ≤ n ∧ (∀ j, j < m → c < p.getD j 0) ∧ (m < n → p.getD m 0 ≤ c) := by
      intro n
      induction n with
      | zero => intro _; exact ⟨0, Nat.le_refl _, fun j hj => absurd hj (Nat.not_lt_zero _), fun h => absurd h (Nat.lt_irrefl _)⟩
      | succ n ih =>
        intro hn
        obtain ⟨m, h1, h2, h3⟩ := ih (by omega)
        by_cases e : m = n
        · subst e
          by_cases hh : c < p.getD m 0
          · exact ⟨m + 1, Nat.le_refl _, fun j hj => by rcases Nat.lt_or_ge j m with h | h; exact h2 j h; rw [show j = m by omega]; exact hh, fun h => absurd h (Nat.lt_irrefl _)⟩
          · exact ⟨m, by omega, h2, fun _ => by omega⟩
        · exact ⟨m, by omega, h2, fun _ => h3 (by omega)⟩
    exact this p.length (Nat.le_refl _)
  have he := colH_eq p c m hm1 hm2 hm3 G.down
  rw [he]
  constructor
  · intro h; exact hm2 r (by omega)
  · intro h
    rcases Nat.lt_or_ge r m with h1 | h1
    · omega
    · exfalso
      by_cases hm : m < p.length
      · have h4 := hm3 hm
        have h5 : p.getD r 0 ≤ p.getD m 0 := by
          have := down_le p G.down m (r - m)
          by_cases hr : r < p.length
          · have := this (by omega)
            rw [show m + (r - m) = r by omega] at this; exact this
          · rw [getD_out (by omega)]; have := G.pos m hm; omega
        omega
      · rw [getD_out (by omega)] at h; omega
theorem gap_lt {p : List Int} (G : Good p) {c : Int} (hc : 0 ≤ c) (r : Nat) : num p r ≠ gapN p c ∧ (gapN p c < num p r ↔ c < p.getD r 0) := by
  have h := colH_iff G c hc r
  unfold num gapN
  constructor
  · intro e
    rcases Int.lt_or_le c (p.getD r 0) with h1 | h1
    · have := h.2 h1; omega
    · have : ¬ (r : Int) < colH p c := fun hh => by have := h.1 hh; omega
      omega
  · constructor
    · intro h1
      rcases Int.lt_or_le c (p.getD r 0) with h2 | h2
      · exact h2
      · have : ¬ (r : Int) < colH p c := fun hh => by have := h.1 hh; omega
        omega
    · intro h1
      have := h.2 h1; omega
theorem part_nn {p : List Int} (G : Good p) (r : Nat) : 0 ≤ p.getD r 0 := by
  by_cases h : r < p.length
  · have := G.pos r h; omega
  · rw [getD_out (by omega)]; omega
/-- A number that is no bead is the gap of a column. -/
theorem gap_of {p : List Int} (G : Good p) {x : Int} (h : ∀ r, num p r ≠ x) : ∃ c : Int, 0 ≤ c ∧ gapN p c = x := by
  have hd : ∀ r, num p (r + 1) < num p r := fun r => by
    have := part_down G r
    unfold num; omega
  have hlow : num p (p.length + (-x).toNat) < x := by
    have h1 := h (p.length + (-x).toNat)
    rw [num_out (by omega)] at h1 ⊢
    omega
  obtain ⟨m, hm1, hm2⟩ : ∃ m, num p m < x ∧ ∀ j, j < m → x < num p j := by
    have : ∀ n, num p n < x → ∃ m, num p m < x ∧ ∀ j, j < m → x < num p j := by
      intro n
      induction n with
      | zero => intro h0; exact ⟨0, h0, fun j hj => absurd hj (Nat.not_lt_zero _)⟩
      | succ n ih =>
        intro h0
        by_cases h1 : num p n < x
        · exact ih h1
        · refine ⟨n + 1, h0, fun j hj => ?_⟩
          have h2 := h n
          have h3 : ∀ d, j + d = n → num p n ≤ num p j := by
            intro d
            induction d generalizing j with
            | zero => intro e; rw [show j = n by omega]; exact Int.le_refl _
            | succ d ihd =>
              intro e
              have := ihd (j := j + 1) (by omega) (by omega)
              have := hd j
              omega
          have := h3 (n - j) (by omega)
          omega
    exact this _ hlow
  refine ⟨x + m, ?_, ?_⟩
  · have := part_nn G m
    unfold num at hm1; omega
  · have hc : 0 ≤ x + m := by have := part_nn G m; unfold num at hm1; omega
    have key : colH p (x + m) = m := by
      have h1 := colH_iff G (x + m) hc
      have h2 : ¬ (m : Int) < colH p (x + m) := fun hh => by have := (h1 m).1 hh; unfold num at hm1; omega
      rcases Nat.eq_zero_or_pos m with h0 | h0
      · subst h0; have := (colH_bound p (x + (0 : Nat))).1; omega
      · have h3 := hm2 (m - 1) (by omega)
        have h4 := (h1 (m - 1)).2 (by unfold num at h3; omega)
        omega
    unfold gapN; rw [key]; omega
theorem hook_gap {p : List Int} (G : Good p) {r c : Nat} (hr : r < p.length) (hc : (c : Int) < p.getD r 0) : hookN p r c = num p r - gapN p c := by
  unfold hookN num gapN
  have hl := col_lt G hr hc
  rw [cols_len] at hl
  rw [cols_get p c hl]; omega
/-- No bead can be moved down by t. -/
def Dn (p : List Int) (t : Int) : Prop := ∀ r, ∃ s, num p s = num p r - t
theorem no_hook_dn {p : List Int} (G : Good p) {t : Int} (ht : 0 < t) (h : ∀ r c : Nat, r < p.length → (c : Int) < p.getD r 0 → hookN p r c ≠ t) : Dn p t := by
  intro r
  rcases Classical.em (∃ s, num p s = num p r - t) with h1 | h1
  · exact h1
  · exfalso
    obtain ⟨c, hc0, hc⟩ := gap_of G (x := num p r - t) fun s e => h1 ⟨s, e⟩
    have hlt := (gap_lt G hc0 r).2.1 (by omega)
    have hr : r < p.length := by
      rcases Nat.lt_or_ge r p.length with h2 | h2
      · exact h2
      · rw [getD_out h2] at hlt; omega
    obtain ⟨c', rfl⟩ : ∃ c' : Nat, c = c' := ⟨c.toNat, by omega⟩
    exact h r c' hr hlt (by rw [hook_gap G hr hlt, hc]; omega)
theorem dn_mul {p : List Int} {t : Int} (h : Dn p t) (r : Nat) : ∀ k : Nat, ∃ s, num p s = num p r - k * t
  | 0 => ⟨r, by simp⟩
  | k + 1 => by
    obtain ⟨s, hs⟩ := dn_mul h r k
    obtain ⟨u, hu⟩ := h s
    refine ⟨u, ?_⟩
    rw [hu, hs, Int.natCast_add, Int.add_mul]; simp; omega
theorem dn_no_div {p : List Int} (G : Good p) {t : Int} (ht : 0 < t) (h : Dn p t) (r c : Nat) (hr : r < p.length) (hc : (c : Int) < p.getD r 0) : ¬ hookN p r c % t = 0 := by
  intro hm
  have hg := hook_gap G hr hc
  have hlt := (gap_lt G (c := (c : Int)) (by omega) r).2.2 hc
  obtain ⟨q, hq⟩ : ∃ q, hookN p r c = q * t := ⟨hookN p r c / t, by have := Int.mul_ediv_add_emod (hookN p r c) t; rw [hm, Int.mul_comm] at this; omega⟩
  have hq0 : 0 < q := by
    rcases Int.lt_or_le 0 q with h1 | h1
    · exact h1
    · have : q * t ≤ 0 := Int.mul_nonpos_of_nonpos_of_nonneg h1 (by omega)
      omega
  obtain ⟨k, rfl⟩ : ∃ k : Nat, q = k := ⟨q.toNat, by omega⟩
  obtain ⟨s, hs⟩ := dn_mul h r k
  exact (gap_lt G (c := (c : Int)) (by omega) s).1 (by rw [hs]; omega)
end Go.Proofs.Ytnjaoaamcdohoaa
