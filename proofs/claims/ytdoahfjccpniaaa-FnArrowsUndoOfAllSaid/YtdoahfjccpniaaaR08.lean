/-
  Several texts in one.
-/
import Derived.Test.YtdoahfjccpniaaaR07
import Derived.Test.YtdoahfjccpniaaaR02
import Derived.Test.YtdoahfjccpniaaaR05
import Derived.Test.YtdoahfjccpniaaaCA
/-
  Plain facts: the core and the weight are the same for any number of beads. No program in this text.
-/
namespace Go.Proofs.Ytdoahfjccpniaaa
open Go.RowKit

def shL (L : List Int) : List Int := 0 :: L.map fun x => x + 1
theorem shL_len (L : List Int) : (shL L).length = L.length + 1 := by simp [shL]
theorem shL_sum (L : List Int) : (shL L).sum = L.sum + L.length := by
  unfold shL
  rw [List.sum_cons]
  induction L with
  | nil => simp
  | cons x r ih => rw [List.map_cons, List.sum_cons, List.sum_cons, List.length_cons]; omega
theorem shL_get (L : List Int) (j : Nat) (h : j < L.length) : (shL L).getD (j + 1) 0 = L.getD j 0 + 1 := by
  unfold shL
  rw [List.getD_cons_succ, List.getD_eq_getElem?_getD, List.getElem?_map, List.getElem?_eq_getElem h, List.getD_eq_getElem?_getD, List.getElem?_eq_getElem h]; rfl
theorem beads_next {p : List Int} {n : Nat} (h : p.length ≤ n) : beadsL p (n + 1) = shL (beadsL p n) := by
  unfold beadsL shL fnRow
  rw [List.range_succ_eq_map, List.map_cons, List.map_map, List.map_map]
  congr 1
  · unfold bead
    rw [List.getD_eq_getElem?_getD, List.getElem?_eq_none (by omega)]; rfl
  · refine List.map_congr_left fun j hj => ?_
    have := List.mem_range.1 hj
    show bead p (n + 1) (j + 1) = bead p n j + 1
    unfold bead
    rw [show n + 1 - 1 - (j + 1) = n - 1 - j by omega]; omega
/-- The runner below. -/
def pdI (t i : Nat) : Nat := if i = 0 then t - 1 else i - 1
theorem succ_mod {t : Nat} (ht : 0 < t) (x : Int) : ((x + 1) % (t : Int) = 0 ∧ x % (t : Int) = t - 1 ∧ (x + 1) / (t : Int) = x / (t : Int) + 1) ∨ ((x + 1) % (t : Int) = x % (t : Int) + 1 ∧ x % (t : Int) < t - 1 ∧ (x + 1) / (t : Int) = x / (t : Int)) := by
  have h4 := Int.emod_nonneg x (show (t : Int) ≠ 0 by omega)
  have h5 := Int.emod_lt_of_pos x (show 0 < (t : Int) by omega)
  have h6 := Int.mul_ediv_add_emod x t
  rw [Int.mul_comm] at h6
  by_cases e : x % (t : Int) = t - 1
  · left
    have e1 : x + 1 = (x / (t : Int) + 1) * (t : Int) + ((0 : Nat) : Int) := by rw [Int.add_mul]; omega
    obtain ⟨d1, d2⟩ := lay_div (t := t) (i := 0) (y := x / (t : Int) + 1) ht
    rw [← e1] at d1 d2
    exact ⟨d2, e, d1⟩
  · right
    have e1 : x + 1 = (x / (t : Int)) * (t : Int) + (((x % (t : Int)).toNat + 1 : Nat) : Int) := by omega
    obtain ⟨d1, d2⟩ := lay_div (t := t) (i := (x % (t : Int)).toNat + 1) (y := x / (t : Int)) (by omega)
    rw [← e1] at d1 d2
    exact ⟨by omega, by omega, d1⟩
theorem rn_succ {t i : Nat} (hi : i < t) : ∀ L : List Int, (rnL t (L.map fun x => x + 1) i).length = (rnL t L (pdI t i)).length
  | [] => rfl
  | x :: L => by
    have ih := rn_succ hi L
    rw [List.map_cons, rnL_cons, rnL_cons]
    have key : (x + 1) % (t : Int) = (i : Int) ↔ x % (t : Int) = ((pdI t i : Nat) : Int) := by
      have h4 := Int.emod_nonneg x (show (t : Int) ≠ 0 by omega)
      unfold pdI
      rcases succ_mod (t := t) (by omega) x with ⟨h1, h2, _⟩ | ⟨h1, h2, _⟩ <;> split <;> omega
    by_cases h : (x + 1) % (t : Int) = (i : Int)
    · rw [if_pos h, if_pos (key.1 h), List.length_cons, List.length_cons, ih]
    · rw [if_neg h, if_neg (fun hh => h (key.2 hh)), ih]
theorem rn_sh {t i : Nat} (hi : i < t) (L : List Int) : (rnL t (shL L) i).length = (if i = 0 then 1 else 0) + (rnL t L (pdI t i)).length := by
  unfold shL
  rw [rnL_cons, Int.zero_emod]
  by_cases e : i = 0
  · subst e
    rw [if_pos (show (0 : Int) = ((0 : Nat) : Int) from rfl), if_pos rfl, List.length_cons, rn_succ hi]; omega
  · rw [if_neg (by omega), if_neg e, rn_succ hi]; omega
theorem dw_sh {t : Nat} (ht : 0 < t) (L : List Int) : dwL t (shL L) = shL (dwL t L) := by
  refine pw_ext (dwL_pw _ _) ?_ fun x => ?_
  · unfold shL
    rw [List.pairwise_cons]
    refine ⟨fun y hy => ?_, ?_⟩
    · obtain ⟨z, hz, rfl⟩ := List.mem_map.1 hy
      have := ((mem_dwL ht).1 hz).1
      omega
    · rw [List.pairwise_map]
      refine List.Pairwise.imp ?_ (dwL_pw t L)
      intro a b h; omega
  · have hm : x ∈ shL (dwL t L) ↔ x = 0 ∨ x - 1 ∈ dwL t L := by
      unfold shL
      rw [List.mem_cons, List.mem_map]
      constructor
      · rintro (h | ⟨y, hy, rfl⟩)
        · exact .inl h
        · exact .inr (by rw [show y + 1 - 1 = y by omega]; exact hy)
      · rintro (h | h)
        · exact .inl h
        · exact .inr ⟨x - 1, h, by omega⟩
    rw [hm, mem_dwL ht, mem_dwL ht]
    have g4 := Int.emod_nonneg x (show (t : Int) ≠ 0 by omega)
    have g5 := Int.emod_lt_of_pos x (show 0 < (t : Int) by omega)
    rw [rn_sh (show (x % (t : Int)).toNat < t by omega)]
    have k4 := Int.emod_nonneg (x - 1) (show (t : Int) ≠ 0 by omega)
    by_cases e0 : x = 0
    · subst e0
      simp only [Int.zero_emod, Int.toNat_zero, if_true, true_or, iff_true]
      rw [Int.zero_ediv]; omega
    · have hs := succ_mod ht (x - 1)
      rw [show x - 1 + 1 = x by omega] at hs
      rcases hs with ⟨h1, h2, h3⟩ | ⟨h1, h2, h3⟩
      · rw [h1, h3, h2]
        simp only [Int.toNat_zero, if_true, pdI]
        rw [show ((t : Int) - 1).toNat = t - 1 by omega]
        omega
      · rw [if_neg (show ¬ (x % (t : Int)).toNat = 0 by omega), h3]
        rw [show pdI t (x % (t : Int)).toNat = ((x - 1) % (t : Int)).toNat by unfold pdI; rw [if_neg (by omega)]; omega]
        omega
theorem bpk_sh (M : List Int) : ∀ k, k ≤ M.length → bpk (shL M) k = bpk M k
  | 0, _ => rfl
  | k + 1, h => by
    have ih := bpk_sh M k (by omega)
    have hg := shL_get M (M.length - 1 - k) (by omega)
    have hi : M.length - 1 - k + 1 = (shL M).length - 1 - k := by rw [shL_len]; omega
    by_cases c : ((M.length - 1 - k : Nat) : Int) < M.getD (M.length - 1 - k) 0
    · rw [bpk_yes hi hg.symm (by omega), bpk_yes rfl rfl c, ih]
      congr 2; omega
    · rw [bpk_no hi hg.symm (by omega), bpk_no rfl rfl c, ih]
theorem parts_sh (M : List Int) : partsL (shL M) = partsL M := by
  unfold partsL
  rw [shL_len, bpk_no (i := 0) (x := 0) (by rw [shL_len]; omega) rfl (by simp), bpk_sh M _ (Nat.le_refl _)]
def coreL (t : Nat) (p : List Int) : List Int := partsL (dwL t (beadsL p p.length))
def wgtN (t : Nat) (p : List Int) : Int := dwM t (beadsL p p.length)
theorem core_n {t : Nat} (ht : 0 < t) (p : List Int) : ∀ d, partsL (dwL t (beadsL p (p.length + d))) = coreL t p ∧ dwM t (beadsL p (p.length + d)) = wgtN t p
  | 0 => ⟨rfl, rfl⟩
  | d + 1 => by
    obtain ⟨h1, h2⟩ := core_n ht p d
    rw [show p.length + (d + 1) = (p.length + d) + 1 by omega, beads_next (by omega), dw_sh ht, parts_sh, h1]
    refine ⟨rfl, ?_⟩
    rw [← h2]
    obtain ⟨L, hL⟩ : ∃ L, L = beadsL p (p.length + d) := ⟨_, rfl⟩
    rw [← hL]
    have e1 := dwL_sum (t := t) ht (shL L)
    have e2 := dwL_sum (t := t) ht L
    rw [dw_sh ht, shL_sum, shL_sum, dwL_len ht] at e1
    have e3 : (t : Int) * dwM t (shL L) = (t : Int) * dwM t L := by omega
    exact Int.eq_of_mul_eq_mul_left (by omega) e3
theorem core_at {t n : Nat} (ht : 0 < t) {p : List Int} (h : p.length ≤ n) : partsL (dwL t (beadsL p n)) = coreL t p ∧ dwM t (beadsL p n) = wgtN t p := by
  have := core_n ht p (n - p.length)
  rw [show p.length + (n - p.length) = n by omega] at this; exact this
end Go.Proofs.Ytdoahfjccpniaaa
/-
  How many cells have a residue, row by row. No walk in this text.
-/
namespace Go.Proofs.Ytdoahfjccpniaaa
open Go.RowKit

def indP (b : Prop) [Decidable b] : Int := if b then 1 else 0
theorem indP_t {b : Prop} [Decidable b] (h : b) : indP b = 1 := if_pos h
theorem indP_f {b : Prop} [Decidable b] (h : ¬ b) : indP b = 0 := if_neg h
theorem indP_iff {a b : Prop} [Decidable a] [Decidable b] (h : a ↔ b) : indP a = indP b := by
  by_cases ha : a
  · rw [indP_t ha, indP_t (h.1 ha)]
  · rw [indP_f ha, indP_f fun hb => ha (h.2 hb)]
theorem smr_cut {f : Nat → Int} {k : Nat} : ∀ d : Nat, (∀ r, k ≤ r → f r = 0) → smr (k + d) f = smr k f
  | 0, _ => rfl
  | d + 1, h => by rw [← Nat.add_assoc, smr_succ, smr_cut d h, h (k + d) (by omega), Int.add_zero]
theorem smr_rev (g : Nat → Int) : ∀ n : Nat, smr n (fun j => g (n - 1 - j)) = smr n g
  | 0 => rfl
  | n + 1 => by
    rw [smr_first, smr_succ]
    rw [show smr n (fun k => g (n + 1 - 1 - (k + 1))) = smr n fun j => g (n - 1 - j) from smr_congr _ fun k _ => by rw [show n + 1 - 1 - (k + 1) = n - 1 - k by omega]]
    rw [smr_rev g n]
    rw [show n + 1 - 1 - 0 = n by omega]; omega
theorem cnt_app (t : Nat) (L M : List Int) (j : Nat) : cnt t (L ++ M) j = cnt t L j + cnt t M j := by
  unfold cnt
  rw [List.filter_append, List.length_append]; omega
theorem cnt_fn (t n : Nat) (f : Nat → Int) (i : Nat) : cnt t (fnRow n f) i = smr n fun j => indP (f j % (t : Int) = i) := by
  induction n with
  | zero => rfl
  | succ n ih =>
    have e : fnRow (n + 1) f = fnRow n f ++ [f n] := by simp [fnRow, List.range_succ]
    rw [e, cnt_app, ih, smr_succ]
    congr 1
    unfold cnt indP
    by_cases h : f n % (t : Int) = (i : Int)
    · simp [h]
    · simp [h]
theorem next_mod {t i m : Nat} (ht : 0 < t) (hi : i < t) {y : Int} (hm : (y + 1) % (t : Int) = m) : y % (t : Int) = i ↔ m = (i + 1) % t := by
  have h1 := Int.emod_nonneg y (show (t : Int) ≠ 0 by omega)
  have h2 := Int.emod_lt_of_pos y (show 0 < (t : Int) by omega)
  have h3 : (i + 1 = t ∧ (i + 1) % t = 0) ∨ (i + 1 < t ∧ (i + 1) % t = i + 1) := by
    rcases Nat.lt_or_ge (i + 1) t with h | h
    · exact .inr ⟨h, Nat.mod_eq_of_lt h⟩
    · exact .inl ⟨by omega, by rw [show i + 1 = t by omega, Nat.mod_self]⟩
  rcases succ_mod ht y with ⟨a, b, _⟩ | ⟨a, b, _⟩ <;> omega
theorem cnt_row {t i : Nat} (ht : 0 < t) (hi : i < t) (k : Nat) : ∀ n : Nat,
    cnt t (rowF contN k n) i - cnt t (rowF contN k n) ((i + 1) % t) = indP (((n : Int) - k - 1) % (t : Int) = i) - indP ((-(k : Int) - 1) % (t : Int) = i)
  | 0 => by
    rw [show ((0 : Nat) : Int) - k - 1 = -(k : Int) - 1 by omega]
    simp [rowF, cnt]
  | n + 1 => by
    have ih := cnt_row ht hi k n
    rw [rowF_succ]
    have h1 := Int.emod_nonneg (contN k n) (show (t : Int) ≠ 0 by omega)
    obtain ⟨m, hm⟩ : ∃ m : Nat, contN k n % (t : Int) = (m : Int) := ⟨(contN k n % (t : Int)).toNat, by omega⟩
    rw [cnt_snoc t _ _ m hm, cnt_snoc t _ _ m hm]
    have hc : contN k n = ((n : Int) - k - 1) + 1 := by unfold contN; omega
    have e1 := next_mod ht hi (y := (n : Int) - k - 1) (m := m) (by rw [← hc]; exact hm)
    have e2 : (((n + 1 : Nat) : Int) - k - 1) % (t : Int) = i ↔ i = m := by
      rw [show ((n + 1 : Nat) : Int) - k - 1 = contN k n by unfold contN; omega, hm]; omega
    rw [indP_iff e2]
    rw [indP_iff e1] at ih
    unfold indP at ih ⊢
    by_cases a : i = m
    · by_cases b : m = (i + 1) % t
      · rw [if_pos a, if_pos b.symm, if_pos a]; rw [if_pos b] at ih; omega
      · rw [if_pos a, if_neg (fun h => b h.symm), if_pos a]; rw [if_neg b] at ih; omega
    · by_cases b : m = (i + 1) % t
      · rw [if_neg a, if_pos b.symm, if_neg a]; rw [if_pos b] at ih; omega
      · rw [if_neg a, if_neg (fun h => b h.symm), if_neg a]; rw [if_neg b] at ih; omega
def lvS (p : List Int) (t i r : Nat) : Int := indP ((num p r) % (t : Int) = i) - indP ((-(r : Int) - 1) % (t : Int) = i)
theorem cnt_cont {p : List Int} (G : Good p) {t i : Nat} (ht : 0 < t) (hi : i < t) : ∀ k : Nat, k ≤ p.length →
    cnt t (contL p k) i - cnt t (contL p k) ((i + 1) % t) = smr k (lvS p t i)
  | 0, _ => by simp [contL, rowsF, cnt, smr]
  | k + 1, hk => by
    have ih := cnt_cont G ht hi k (by omega)
    have h1 := cnt_row ht hi k (p.getD k 0).toNat
    have hp := G.pos k (by omega)
    rw [contL_succ, cnt_app, cnt_app, smr_succ, ← ih]
    unfold lvS num
    rw [show (((p.getD k 0).toNat : Nat) : Int) = p.getD k 0 by omega] at h1
    rw [← h1]; omega
end Go.Proofs.Ytdoahfjccpniaaa
