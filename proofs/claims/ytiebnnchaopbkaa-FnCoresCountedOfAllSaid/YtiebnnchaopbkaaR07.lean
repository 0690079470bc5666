/-
  Several texts in one.
-/
import Derived.Test.YtiebnnchaopbkaaR02
import Derived.Test.YtiebnnchaopbkaaR04
import Derived.Test.YtiebnnchaopbkaaCA
import Derived.Test.YtiebnnchaopbkaaR06
import Derived.Test.YtiebnnchaopbkaaCB
/-
  How many cells have a residue, row by row. No walk in this text.
-/
namespace Go.Proofs.Ytiebnnchaopbkaa
open Go.RowKit

def indP (b : Prop) [Decidable b] : Int := if b then 1 else 0
theorem indP_t {b : Prop} [Decidable b] (h : b) : indP b = 1 := if_pos h
theorem indP_f {b : Prop} [Decidable b] (h : ¬ b) : indP b = 0 := if_neg h
theorem indP_iff {a b : Prop} [Decidable a] [Decidable b] (h : a ↔ b) : indP a = indP b := by
  by_cases ha : a
  · rw [indP_t ha, indP_t (h.1 ha)]
  · rw [indP_f ha, indP_f fun hb => ha (h.2 hb)]
theorem smr_cut {f : Nat → Int} {k : Nat} : ∀ d : Nat, (∀ r, k ≤ r → f r = 0) → smr (k + d) f = smr k f
  | 0, _ => rfl
  | d + 1, h => by rw [← Nat.add_assoc, smr_succ, smr_cut d h, h (k + d) (by omega), Int.add_zero]
theorem smr_rev (g : Nat → Int) : ∀ n : Nat, smr n (fun j => g (n - 1 - j)) = smr n g
  | 0 => rfl
  | n + 1 => by
    rw [smr_first, smr_succ]
    rw [show smr n (fun k => g (n + 1 - 1 - (k + 1))) = smr n fun j => g (n - 1 - j) from smr_congr _ fun k _ => by rw [show n + 1 - 1 - (k + 1) = n - 1 - k by omega]]
    rw [smr_rev g n]
    rw [show n + 1 - 1 - 0 = n by omega]; omega
theorem cnt_app (t : Nat) (L M : List Int) (j : Nat) : cnt t (L ++ M) j = cnt t L j + cnt t M j := by
  unfold cnt
  rw [List.filter_append, List.length_append]; omega
theorem cnt_fn (t n : Nat) (f : Nat → Int) (i : Nat) : cnt t (fnRow n f) i = smr n fun j => indP (f j % (t : Int) = i) := by
  induction n with
  | zero => rfl
  | succ n ih =>
    have e : fnRow (n + 1) f = fnRow n f ++ [f n] := by simp [fnRow, List.range_succ]
    rw [e, cnt_app, ih, smr_succ]
    congr 1
    unfold cnt indP
    by_cases h : f n % (t : Int) = (i : Int)
    · simp [h]
    · simp [h]
theorem next_mod {t i m : Nat} (ht : 0 < t) (hi : i < t) {y : Int} (hm : (y + 1) % (t : Int) = m) : y % (t : Int) = i ↔ m = (i + 1) % t := by
  have h1 := Int.emod_nonneg y (show (t : Int) ≠ 0 by omega)
  have h2 := Int.emod_lt_of_pos y (show 0 < (t : Int) by omega)
  have h3 : (i + 1 = t ∧ (i + 1) % t = 0) ∨ (i + 1 < t ∧ (i + 1) % t = i + 1) := by
    rcases Nat.lt_or_ge (i + 1) t with h | h
    · exact .inr ⟨h, Nat.mod_eq_of_lt h⟩
    · exact .inl ⟨by omega, by rw [show i + 1 = t by omega, Nat.mod_self]⟩
  rcases succ_mod ht y with ⟨a, b, _⟩ | ⟨a, b, _⟩ <;> omega
theorem cnt_row {t i : Nat} (ht : 0 < t) (hi : i < t) (k : Nat) : ∀ n : Nat,
    cnt t (rowF contN k n) i - cnt t (rowF contN k n) ((i + 1) % t) = indP (((n : Int) - k - 1) % (t : Int) = i) - indP ((-(k : Int) - 1) % (t : Int) = i)
  | 0 => by
    rw [show ((0 : Nat) : Int) - k - 1 = -(k : Int) - 1 by omega]
    simp [rowF, cnt]
  | n + 1 => by
    have ih := cnt_row ht hi k n
    rw [rowF_succ]
    have h1 := Int.emod_nonneg (contN k n) (show (t : Int) ≠ 0 by omega)
    obtain ⟨m, hm⟩ : ∃ m : Nat, contN k n % (t : Int) = (m : Int) := ⟨(contN k n % (t : Int)).toNat, by omega⟩
    rw [cnt_snoc t _ _ m hm, cnt_snoc t _ _ m hm]
    have hc : contN k n = ((n : Int) - k - 1) + 1 := by unfold contN; omega
    have e1 := next_mod ht hi (y := (n : Int) - k - 1) (m := m) (by rw [← hc]; exact hm)
    have e2 : (((n + 1 : Nat) : Int) - k - 1) % (t : Int) = i ↔ i = m := by
      rw [show ((n + 1 : Nat) : Int) - k - 1 = contN k n by unfold contN; omega, hm]; omega
    rw [indP_iff e2]
    rw [indP_iff e1] at ih
    unfold indP at ih ⊢
    by_cases a : i = m
    · by_cases b : m = (i + 1) % t
      · rw [if_pos a, if_pos b.symm, if_pos a]; rw [if_pos b] at ih; omega
      · rw [if_pos a, if_neg (fun h => b h.symm), if_pos a]; rw [if_neg b] at ih; omega
    · by_cases b : m = (i + 1) % t
      · rw [if_neg a, if_pos b.symm, if_neg a]; rw [if_pos b] at ih; omega
      · rw [if_neg a, if_neg (fun h => b h.symm), if_neg a]; rw [if_neg b] at ih; omega
def lvS (p : List Int) (t i r : Nat) : Int := indP ((num p r) % (t : Int) = i) - indP ((-(r : Int) - 1) % (t : Int) = i)
theorem cnt_cont {p : List Int} (G : Good p) {t i : Nat} (ht : 0 < t) (hi : i < t) : ∀ k : Nat, k ≤ p.length →
    cnt t (contL p k) i - cnt t (contL p k) ((i + 1) % t) = smr k (lvS p t i)
  | 0, _ => by simp [contL, rowsF, cnt, smr]
  | k + 1, hk => by
    have ih := cnt_cont G ht hi k (by omega)
    have h1 := cnt_row ht hi k (p.getD k 0).toNat
    have hp := G.pos k (by omega)
    rw [contL_succ, cnt_app, cnt_app, smr_succ, ← ih]
    unfold lvS num
    rw [show (((p.getD k 0).toNat : Nat) : Int) = p.getD k 0 by omega] at h1
    rw [← h1]; omega
end Go.Proofs.Ytiebnnchaopbkaa
/-
  Levels of a partition, told by its beads and by the numbers that have none: the same.
-/
namespace Go.Proofs.Ytiebnnchaopbkaa

/-- A sum over numbers that follow each other. -/
def Sg (f : Int → Int) : Int → Nat → Int
  | _, 0 => 0
  | a, m + 1 => f a + Sg f (a + 1) m
theorem Sg_snoc (f : Int → Int) : ∀ (m : Nat) (a : Int), Sg f a (m + 1) = Sg f a m + f (a + m)
  | 0, a => by simp [Sg]
  | m + 1, a => by
    rw [Sg, Sg_snoc f m (a + 1), Sg]
    rw [show a + 1 + (m : Int) = a + ((m + 1 : Nat) : Int) by omega]; omega
theorem Sg_add (f : Int → Int) : ∀ (m k : Nat) (a : Int), Sg f a (m + k) = Sg f a m + Sg f (a + m) k
  | 0, k, a => by simp [Sg]
  | m + 1, k, a => by
    rw [show m + 1 + k = (m + k) + 1 by omega, Sg, Sg_add f m k (a + 1), Sg]
    rw [show a + 1 + (m : Int) = a + ((m + 1 : Nat) : Int) by omega]; omega
theorem Sg_congr {f g : Int → Int} : ∀ (m : Nat) (a : Int), (∀ x, a ≤ x → x < a + m → f x = g x) → Sg f a m = Sg g a m
  | 0, _, _ => rfl
  | m + 1, a, h => by
    rw [Sg, Sg, h a (by omega) (by omega), Sg_congr m (a + 1) fun x h1 h2 => h x (by omega) (by omega)]
theorem Sg_zero {f : Int → Int} : ∀ (m : Nat) (a : Int), (∀ x, a ≤ x → x < a + m → f x = 0) → Sg f a m = 0
  | 0, _, _ => rfl
  | m + 1, a, h => by
    rw [Sg, h a (by omega) (by omega), Sg_zero m (a + 1) fun x h1 h2 => h x (by omega) (by omega)]; rfl
theorem Sg_sub (f g : Int → Int) : ∀ (m : Nat) (a : Int), Sg (fun x => f x - g x) a m = Sg f a m - Sg g a m
  | 0, _ => rfl
  | m + 1, a => by rw [Sg, Sg, Sg, Sg_sub f g m (a + 1)]; omega
theorem Sg_shift (f : Int → Int) (n : Int) : ∀ (m : Nat) (a : Int), Sg f a m = Sg (fun y => f (y - n)) (a + n) m
  | 0, _ => rfl
  | m + 1, a => by
    rw [Sg, Sg, Sg_shift f n m (a + 1)]
    rw [show a + n - n = a by omega, show a + 1 + n = a + n + 1 by omega]
theorem Sg_count (P : Int → Bool) : ∀ (m : Nat) (a : Int) (L : List Int), L.Pairwise (· < ·) → (∀ y ∈ L, a ≤ y ∧ y < a + m) → Sg (fun y => if P y = true ∧ y ∈ L then 1 else 0) a m = ((L.filter P).length : Nat)
  | 0, a, L, _, h => by
    cases L with
    | nil => rfl
    | cons y r => have := h y (by simp); omega
  | m + 1, a, L, hp, h => by
    rw [Sg]
    cases L with
    | nil => rw [Sg_zero]; · simp
             · intro x _ _; simp
    | cons y r =>
      have hpr := List.pairwise_cons.1 hp
      by_cases e : y = a
      · subst e
        rw [Sg_congr (g := fun z => if P z = true ∧ z ∈ r then 1 else 0) m (y + 1) fun x h1 _ => by
            have : x ≠ y := by omega
            simp [this]]
        rw [Sg_count P m (y + 1) r hpr.2 fun z hz => ⟨by have := hpr.1 z hz; omega, by have := (h z (by simp [hz])).2; omega⟩]
        by_cases hP : P y = true
        · rw [if_pos ⟨hP, by simp⟩, List.filter_cons_of_pos hP, List.length_cons]; omega
        · rw [if_neg (fun hh => hP hh.1), List.filter_cons_of_neg hP]; omega
      · have ha : a ∉ (y :: r) := fun hm => by
          rcases List.mem_cons.1 hm with h1 | h1
          · exact e h1.symm
          · have := hpr.1 a h1; have := (h y (by simp)).1; omega
        rw [if_neg (fun hh => ha hh.2), Sg_count P m (a + 1) (y :: r) hp fun z hz => by
          have h1 := h z hz
          have : z ≠ a := fun hh => ha (hh ▸ hz)
          omega]
        omega
theorem Sg_one (c : Int) : ∀ (m : Nat) (a : Int), a ≤ c → c < a + m → Sg (fun y => if y = c then 1 else 0) a m = 1
  | 0, a, h1, h2 => by omega
  | m + 1, a, h1, h2 => by
    rw [Sg]
    by_cases e : a = c
    · rw [if_pos e, Sg_zero m (a + 1) fun x h3 _ => by rw [if_neg (by omega)]]; rfl
    · rw [if_neg e, Sg_one c m (a + 1) (by omega) (by omega)]; rfl
theorem Sg_resid {t i : Nat} (h : i < t) : ∀ q : Nat, Sg (fun y => if y % (t : Int) = (i : Int) then 1 else 0) 0 (q * t) = q
  | 0 => by simp [Sg]
  | q + 1 => by
    rw [Nat.add_mul, Nat.one_mul, Sg_add, Sg_resid h q]
    rw [Sg_congr (g := fun y => if y = ((q * t : Nat) : Int) + i then 1 else 0), Sg_one]
    · rfl
    · omega
    · omega
    · intro x h1 h2
      obtain ⟨j, rfl⟩ : ∃ j : Nat, x = ((q * t : Nat) : Int) + j := ⟨(x - ((q * t : Nat) : Int)).toNat, by omega⟩
      have hj : j < t := by omega
      have hm : (((q * t : Nat) : Int) + j) % (t : Int) = j := by
        have e1 : ((q * t + j) % t) = j := by rw [Nat.mul_comm, Nat.mul_add_mod, Nat.mod_eq_of_lt hj]
        have h5 : (((q * t + j : Nat) : Int) % (t : Int)) = (((q * t + j) % t : Nat) : Int) := rfl
        rw [e1] at h5
        rw [show ((q * t : Nat) : Int) + (j : Int) = ((q * t + j : Nat) : Int) by omega]; exact h5
      rw [hm]
      by_cases e : j = i
      · subst e; simp
      · rw [if_neg (by omega), if_neg (by omega)]

/-- Whether a partition has a bead at a number. -/
def bdB (p : List Int) (x : Int) : Bool := (List.range (p.length + (-x).toNat + 1)).any fun r => decide (num p r = x)
theorem bdB_iff {p : List Int} {x : Int} : bdB p x = true ↔ ∃ r, r < p.length + (-x).toNat + 1 ∧ num p r = x := by
  simp [bdB]
theorem num_out {p : List Int} {r : Nat} (h : p.length ≤ r) : num p r = -(r : Int) - 1 := by unfold num; rw [getD_out h]; omega
theorem bdB_low {p : List Int} {x : Int} (h : x < -(p.length : Int)) : bdB p x = true := by
  refine bdB_iff.2 ⟨(-x - 1).toNat, by omega, ?_⟩
  rw [num_out (by omega)]; omega
def eV (p : List Int) (t i : Nat) (x : Int) : Int := if x % (t : Int) = (i : Int) then (if bdB p x = true then 1 else 0) - (if x < 0 then 1 else 0) else 0
theorem eV_low {p : List Int} {t i : Nat} {x : Int} (h : x < -(p.length : Int)) : eV p t i x = 0 := by
  unfold eV
  rw [bdB_low h, if_pos (show x < 0 by omega)]
  split <;> rfl
theorem mem_beadsL {p : List Int} {n : Nat} {y : Int} : y ∈ beadsL p n ↔ ∃ r, r < n ∧ num p r = y - n := by
  unfold beadsL fnRow
  rw [List.mem_map]
  constructor
  · rintro ⟨j, hj, rfl⟩
    have := List.mem_range.1 hj
    refine ⟨n - 1 - j, by omega, ?_⟩
    unfold num bead; omega
  · rintro ⟨r, hr, e⟩
    refine ⟨n - 1 - r, List.mem_range.2 (by omega), ?_⟩
    unfold bead; unfold num at e
    rw [show n - 1 - (n - 1 - r) = r by omega]; omega
theorem bd_mem {p : List Int} {n : Nat} {y : Int} (hl : p.length ≤ n) (hy : 0 ≤ y) : bdB p (y - n) = true ↔ y ∈ beadsL p n := by
  rw [bdB_iff, mem_beadsL]
  constructor
  · rintro ⟨r, h1, h2⟩
    refine ⟨r, ?_, h2⟩
    rcases Nat.lt_or_ge r n with h | h
    · exact h
    · rw [num_out (by omega)] at h2; omega
  · rintro ⟨r, h1, h2⟩
    refine ⟨r, ?_, h2⟩
    rcases Nat.lt_or_ge r p.length with h | h
    · omega
    · rw [num_out h] at h2; omega
theorem part_first {p : List Int} (G : Good p) : ∀ k, p.getD k 0 ≤ p.getD 0 0
  | 0 => Int.le_refl _
  | k + 1 => Int.le_trans (part_down G k) (part_first G k)
theorem beads_pw {p : List Int} (G : Good p) {n : Nat} (h : p.length ≤ n) (hn : n ≤ 40) : (beadsL p n).Pairwise (· < ·) := by
  have R := (goodB_iff.1 (beadsL_goodB G h hn)).rise.up
  rw [List.pairwise_iff_getElem]
  have key : ∀ d i, i + d + 1 < (beadsL p n).length → (beadsL p n).getD i 0 < (beadsL p n).getD (i + d + 1) 0 := by
    intro d
    induction d with
    | zero => intro i hi; exact R i hi
    | succ d ih => intro i hi; exact Int.lt_trans (ih i (by omega)) (R (i + d + 1) hi)
  intro i j hi hj hij
  have := key (j - i - 1) i (by omega)
  rw [show i + (j - i - 1) + 1 = j by omega] at this
  simpa [List.getD, hi, hj] using this
theorem lv_main {p : List Int} (G : Good p) {t q n i : Nat} (hi : i < t) (hn : n = q * t) (hl : p.length ≤ n) (h40 : n ≤ 40) :
    Sg (eV p t i) (-(p.length : Int) - 1) (p.length + 1 + (p.getD 0 0).toNat) = cnt t (beadsL p n) i - q := by
  obtain ⟨P, hP⟩ : ∃ P, P = (p.getD 0 0).toNat := ⟨_, rfl⟩
  have hP2 : ∀ k, p.getD k 0 ≤ P := fun k => by have := part_first G k; omega
  rw [← hP]
  have s1 : Sg (eV p t i) (-(p.length : Int) - 1) (p.length + 1 + P) = Sg (eV p t i) (-(p.length : Int)) (p.length + P) := by
    rw [show p.length + 1 + P = (p.length + P) + 1 by omega, Sg, eV_low (by omega)]
    rw [show -(p.length : Int) - 1 + 1 = -(p.length : Int) by omega]; omega
  have s2 : Sg (eV p t i) (-(n : Int)) (n + P) = Sg (eV p t i) (-(p.length : Int)) (p.length + P) := by
    rw [show n + P = (n - p.length) + (p.length + P) by omega, Sg_add, Sg_zero (n - p.length) _ fun x h1 h2 => eV_low (by omega)]
    rw [show -(n : Int) + ((n - p.length : Nat) : Int) = -(p.length : Int) by omega]; omega
  rw [s1, ← s2, Sg_shift _ n, show -(n : Int) + n = 0 by omega]
  have s3 : Sg (fun y => eV p t i (y - n)) 0 (n + P) = Sg (fun y => (if decide (y % (t : Int) = (i : Int)) = true ∧ y ∈ beadsL p n then 1 else 0) - (if y % (t : Int) = (i : Int) ∧ y < n then 1 else 0)) 0 (n + P) := by
    refine Sg_congr _ _ fun y h1 h2 => ?_
    have hm : (y - n) % (t : Int) = y % (t : Int) := by
      rw [hn]
      have : y = (y - ((q * t : Nat) : Int)) + (q : Int) * (t : Int) := by rw [show ((q * t : Nat) : Int) = (q : Int) * (t : Int) from rfl]; omega
      conv => rhs; rw [this]
      rw [Int.add_mul_emod_self_right]
    unfold eV
    rw [hm]
    have hb := bd_mem (p := p) (n := n) (y := y) hl h1
    by_cases e : y % (t : Int) = (i : Int)
    · rw [if_pos e]
      have e1 : ((if bdB p (y - n) = true then 1 else 0 : Int)) = if decide (y % (t : Int) = (i : Int)) = true ∧ y ∈ beadsL p n then 1 else 0 := by
        by_cases hm2 : y ∈ beadsL p n
        · rw [if_pos (hb.2 hm2), if_pos ⟨by simp [e], hm2⟩]
        · rw [if_neg (fun h => hm2 (hb.1 h)), if_neg (fun h => hm2 h.2)]
      have e2 : ((if y - (n : Int) < 0 then 1 else 0 : Int)) = if y % (t : Int) = (i : Int) ∧ y < n then 1 else 0 := by
        by_cases hy : y < n
        · rw [if_pos (by omega), if_pos ⟨e, hy⟩]
        · rw [if_neg (by omega), if_neg (fun h => hy h.2)]
      rw [e1, e2]
    · rw [if_neg e, if_neg (by simp [e]), if_neg (fun h => e h.1)]; rfl
  rw [s3, Sg_sub, Sg_count _ _ _ _ (beads_pw G hl h40) fun y hy => by
    unfold beadsL fnRow at hy
    obtain ⟨j, hj, rfl⟩ := List.mem_map.1 hy
    have hj2 := List.mem_range.1 hj
    have := bead_bd G n j hj2 h40
    have := hP2 (n - 1 - j)
    unfold bead at *
    omega]
  have s4 : Sg (fun y => if y % (t : Int) = (i : Int) ∧ y < n then 1 else 0) 0 (n + P) = q := by
    rw [Sg_add, Sg_zero P _ fun x h1 h2 => by rw [if_neg (fun h => by omega)]]
    rw [Sg_congr (g := fun y => if y % (t : Int) = (i : Int) then 1 else 0) n 0 fun x h1 h2 => by
      have : x < n := by omega
      simp [this]]
    rw [hn, Sg_resid hi]; omega
  rw [s4]; rfl
end Go.Proofs.Ytiebnnchaopbkaa
/-
  Contracts: what tells whether a list is levels (both sides), the size of their core, turned levels.
-/
namespace Go.Proofs.Ytiebnnchaopbkaa
open Go.RowKit

set_option maxHeartbeats 400000 in
theorem chRunners_any (r : Int) (w : World) : Calls Try.prog 44 #[.int .i64 r] w fun e w' => e = .returned (.bool (inB 2 6 r)) ∧ w = w' := by
  go_enter Try.func44, Try.ntmps44
  go_wp2_with (go_at_call 70; refine (l1In_any _ _ _ _).mono ?_; rintro e w' ⟨rfl, rfl⟩)
  go_ret
  exact ⟨rfl, rfl⟩
theorem chRunners_b (r : Int) (w : World) (b : Bool) (h : inB 2 6 r = b) : Calls Try.prog 44 #[.int .i64 r] w fun e w' => e = .returned (.bool b) ∧ w = w' := by
  subst h; exact chRunners_any r w

set_option maxHeartbeats 400000 in
theorem IsLevels_any (A : Option Addr) (c : Nat) (xs : List Int) (w : World) (hl : xs.length ≤ 1048576) (hc : Cells w A xs) :
    Calls Try.prog 34 #[.slice A xs.length c] w fun e w' => e = .returned (.bool (levB xs)) ∧ w = w' := by
  cases hr : inB 2 6 (xs.length : Int)
  · rw [lev_no_len hr]
    have HR := hid hr; clear hr
    go_enter Try.func34, Try.ntmps34
    go_wp2_with (go_at_call 26; refine (hasRunners_b _ _ _ HR.out).mono ?_; rintro e w' ⟨rfl, rfl⟩)
    go_ret
    exact ⟨rfl, rfl⟩
  have h6 := (inB_iff.1 hr).2
  have HR := hid hr; clear hr
  go_enter Try.func34, Try.ntmps34
  go_wp2_with (go_at_call 26; refine (hasRunners_b _ _ _ HR.out).mono ?_; rintro e w' ⟨rfl, rfl⟩)
  go_loop [3, 12] (fun s i => ∃ k : Nat, k ≤ xs.length ∧ i = .int .i64 k ∧ s = .int .i64 (xs.take k).sum ∧ (xs.take k).all (inB (-10) 10) = true) (fun _ i => xs.length - (intOf i).toNat)
  case atStart => exact ⟨0, Nat.zero_le _, rfl, by simp, by simp⟩
  case round =>
    obtain ⟨k, hk, rfl, rfl, hall⟩ := hrel
    have HA := hid hall
    have hsb := sum_take_abs (xs.take k) 10 (fun j hj => by have := all_bd hall j hj; omega) (by omega) k
    rw [List.take_take, Nat.min_self, List.length_take, Nat.min_eq_left hk] at hsb
    obtain ⟨s, hs⟩ : ∃ s, s = (xs.take k).sum := ⟨_, rfl⟩
    rw [← hs] at hsb ⊢
    have HS := hid hs
    clear hall hs
    by_cases hlt : k < xs.length
    · obtain ⟨b, o, rfl, hcc⟩ := hc (by omega)
      have hck := hcc k hlt
      clear hcc hc
      obtain ⟨x, hx⟩ : ∃ x, x = xs.getD k 0 := ⟨_, rfl⟩
      rw [← hx] at hck
      have HX := hid hx; clear hx
      by_cases h1 : x < -10
      · go_wp2_with fail
        go_ret
        exact ⟨ret_bool (lev_no_all (all_take_false _ xs k hlt (by rw [← HX.out]; simp [inB]; omega))).symm, rfl⟩
      by_cases h2 : 10 < x
      · go_wp2_with fail
        go_ret
        exact ⟨ret_bool (lev_no_all (all_take_false _ xs k hlt (by rw [← HX.out]; simp [inB]; omega))).symm, rfl⟩
      have HI := hid (show inB (-10) 10 x = true from inB_iff.2 ⟨by omega, by omega⟩)
      go_wp2_with fail
      go_round
      case rel => exact ⟨k + 1, by omega, by go_num, by rw [sum_take_succ xs k hlt, ← HS.out, ← HX.out], by rw [all_take_succ _ _ _ hlt, HA.out, ← HX.out, HI.out]; rfl⟩
      case measure => simp [intOf]; omega
    · have hkl : k = xs.length := by omega
      subst hkl
      rw [List.take_of_length_le (Nat.le_refl _)] at HA HS
      go_wp2_with fail
      go_ret
      exact ⟨ret_bool (by rw [lev_sum HR.out HA.out, ← HS.out]; first | rfl | (simp; done)), rfl⟩
theorem IsLevels_b (A : Option Addr) (c : Nat) (xs : List Int) (w : World) (hl : xs.length ≤ 1048576) (hc : Cells w A xs) (b : Bool) (h : levB xs = b) :
    Calls Try.prog 34 #[.slice A xs.length c] w fun e w' => e = .returned (.bool b) ∧ w = w' := by
  subst h; exact IsLevels_any A c xs w hl hc

set_option maxHeartbeats 400000 in
theorem ptSum_abs (A : Option Addr) (xs : List Int) (c : Nat) (w : World) (hl : xs.length ≤ 100) (hb : ∀ j, j < xs.length → -1000 ≤ xs.getD j 0 ∧ xs.getD j 0 ≤ 1000) (hc : Cells w A xs) :
    Calls Try.prog 47 #[.slice A xs.length c] w fun e w' => e = .returned (.int .i64 xs.sum) ∧ w = w' := by
  have HB := hid hb; clear hb
  go_enter Try.func47, Try.ntmps47
  go_wp2
  go_loop [3, 8] (fun s i => ∃ k : Nat, k ≤ xs.length ∧ i = .int .i64 k ∧ s = .int .i64 (xs.take k).sum) (fun _ i => xs.length - (intOf i).toNat)
  case atStart => exact ⟨0, Nat.zero_le _, rfl, by simp⟩
  case round =>
    obtain ⟨k, hk, rfl, rfl⟩ := hrel
    have hsb := sum_take_abs xs 1000 HB.out (by omega) k
    obtain ⟨s, hs⟩ : ∃ s, s = (xs.take k).sum := ⟨_, rfl⟩
    rw [← hs] at hsb ⊢
    have HS := hid hs; clear hs
    by_cases hlt : k < xs.length
    · obtain ⟨b, o, rfl, hcc⟩ := hc (by omega)
      have hck := hcc k hlt
      have hxb := HB.out k hlt
      clear hcc hc
      obtain ⟨x, hx⟩ : ∃ x, x = xs.getD k 0 := ⟨_, rfl⟩
      rw [← hx] at hck hxb
      have HX := hid hx; clear hx
      go_wp2
      go_round
      case rel => exact ⟨k + 1, by omega, by go_num, by rw [sum_take_succ xs k hlt, ← HS.out, ← HX.out]⟩
      case measure => simp [intOf]; omega
    · go_wp2
      go_ret
      exact ⟨ret_int (by rw [HS.out, List.take_of_length_le (by omega)]), rfl⟩

set_option maxHeartbeats 400000 in
theorem chGood_any (A : Option Addr) (c : Nat) (xs : List Int) (w : World) (hl : xs.length ≤ 1048576) (hc : Cells w A xs) :
    Calls Try.prog 48 #[.slice A xs.length c] w fun e w' => e = .returned (.bool (levB xs)) ∧ w = w' := by
  cases hr : inB 2 6 (xs.length : Int)
  · rw [lev_no_len hr]
    have HR := hid hr; clear hr
    go_enter Try.func48, Try.ntmps48
    go_wp2_with (go_at_call 44; refine (chRunners_b _ _ _ HR.out).mono ?_; rintro e w' ⟨rfl, rfl⟩)
    go_ret
    exact ⟨rfl, rfl⟩
  have h6 := (inB_iff.1 hr).2
  cases ha : xs.all (inB (-10) 10)
  · rw [lev_no_all ha]
    have HR := hid hr; clear hr
    have HA := hid ha; clear ha
    go_enter Try.func48, Try.ntmps48
    go_wp2_with (first | (go_at_call 44; refine (chRunners_b _ _ _ HR.out).mono ?_; rintro e w' ⟨rfl, rfl⟩) | (go_at_call 71; refine (l1All_b _ _ _ _ _ _ hl hc _ HA.out).mono ?_; rintro e w' ⟨rfl, rfl⟩))
    go_ret
    exact ⟨rfl, rfl⟩
  rw [lev_sum hr ha]
  have HR := hid hr; clear hr
  have HA := hid ha; clear ha
  go_enter Try.func48, Try.ntmps48
  go_wp2_with (first | (go_at_call 44; refine (chRunners_b _ _ _ HR.out).mono ?_; rintro e w' ⟨rfl, rfl⟩) | (go_at_call 71; refine (l1All_b _ _ _ _ _ _ hl hc _ HA.out).mono ?_; rintro e w' ⟨rfl, rfl⟩) | (go_at_call 47; refine (ptSum_abs _ _ _ _ (by omega) (fun j hj => by have := all_bd HA.out j hj; omega) hc).mono ?_; rintro e w' ⟨rfl, rfl⟩))
  go_ret
  exact ⟨ret_bool (by first | rfl | (simp; done)), rfl⟩
theorem chGood_b (A : Option Addr) (c : Nat) (xs : List Int) (w : World) (hl : xs.length ≤ 1048576) (hc : Cells w A xs) (b : Bool) (h : levB xs = b) :
    Calls Try.prog 48 #[.slice A xs.length c] w fun e w' => e = .returned (.bool b) ∧ w = w' := by
  subst h; exact chGood_any A c xs w hl hc

theorem impl_IsLevels (A : Option Addr) (c : Nat) (xs : List Int) (w : World) (hl : xs.length ≤ 1048576) (hc : Cells w A xs) :
    Calls Try.prog 34 #[.slice A xs.length c] w fun e w' => e = .returned (.bool (levB xs)) ∧ Below w.heap.size w w' :=
  (IsLevels_any A c xs w hl hc).mono fun _ _ ⟨he, hw⟩ => ⟨he, by rw [hw]; exact Below.refl _ _⟩
end Go.Proofs.Ytiebnnchaopbkaa
