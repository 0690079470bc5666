/-
  Several texts in one.
-/
import Derived.Test.YtmjncedijddmmaaR16
import Derived.Test.YtmjncedijddmmaaR09
/-
  Plain facts: the reflection of a core is a core.
-/
namespace Go.Proofs.Ytmjncedijddmmaa
open Go.RowKit

theorem num_lt {p : List Int} (G : Good p) {r s : Nat} (h : r < s) : num p s < num p r := by
  have := down_le p G.down r (s - r) 
  by_cases hs : s < p.length
  · have h2 := this (by omega)
    rw [show r + (s - r) = s by omega] at h2
    unfold num; omega
  · have h3 := part_nn G r
    have h4 : p.getD s 0 = 0 := by rw [List.getD_eq_getElem?_getD, List.getElem?_eq_none (by omega)]; rfl
    unfold num; omega
theorem num_le' {p : List Int} (G : Good p) {r s : Nat} (h : r ≤ s) : num p s ≤ num p r := by
  rcases Nat.lt_or_eq_of_le h with h | h
  · exact Int.le_of_lt (num_lt G h)
  · rw [h]; exact Int.le_refl _
def Bd (p : List Int) (x : Int) : Prop := ∃ r, num p r = x
theorem getD_out' {p : List Int} {r : Nat} (h : p.length ≤ r) : p.getD r 0 = 0 := by rw [List.getD_eq_getElem?_getD, List.getElem?_eq_none h]; rfl
theorem add_bd {p : List Int} (G : Good p) (r : Nat) : (decide (r < p.length + 1) && addB p r) = true ↔ ¬ Bd p (num p r + 1) := by
  constructor
  · intro h ⟨s, hs⟩
    simp only [Bool.and_eq_true, decide_eq_true_eq, addB, Bool.or_eq_true] at h
    obtain ⟨hl, h⟩ := h
    by_cases hsr : s < r
    · have h1 := num_le' G (show s ≤ r - 1 by omega)
      have h2 : p.getD r 0 < p.getD (r - 1) 0 := by
        rcases h with h | h | h
        · omega
        · rw [getD_out' (show p.length ≤ r by omega)]
          have := G.pos (r - 1) (by omega); omega
        · exact h
      have h3 : num p (r - 1) = p.getD (r - 1) 0 - (r - 1 : Nat) - 1 := rfl
      have h4 : num p r = p.getD r 0 - r - 1 := rfl
      omega
    · have := num_le' G (show r ≤ s by omega)
      omega
  · intro h
    simp only [Bool.and_eq_true, decide_eq_true_eq, addB, Bool.or_eq_true]
    have hr : r = 0 ∨ num p (r - 1) ≠ num p r + 1 := by
      rcases Nat.eq_zero_or_pos r with h0 | h0
      · exact .inl h0
      · exact .inr fun e => h ⟨r - 1, e⟩
    rcases hr with hr | hr
    · exact ⟨by omega, .inl hr⟩
    · by_cases h0 : r = 0
      · exact ⟨by omega, .inl h0⟩
      · have h3 : num p (r - 1) = p.getD (r - 1) 0 - (r - 1 : Nat) - 1 := rfl
        have h4 : num p r = p.getD r 0 - r - 1 := rfl
        have h5 := num_lt G (show r - 1 < r by omega)
        by_cases hl : r < p.length + 1
        · exact ⟨hl, .inr (.inr (by omega))⟩
        · exfalso
          rw [getD_out' (show p.length ≤ r by omega)] at h4
          rw [getD_out' (show p.length ≤ r - 1 by omega)] at h3
          omega
theorem cor_bd {p : List Int} (G : Good p) (r : Nat) : (decide (r < p.length) && corB p r) = true ↔ ¬ Bd p (num p r - 1) := by
  have h3 : num p (r + 1) = p.getD (r + 1) 0 - (r + 1 : Nat) - 1 := rfl
  have h4 : num p r = p.getD r 0 - r - 1 := rfl
  constructor
  · intro h ⟨s, hs⟩
    simp only [Bool.and_eq_true, decide_eq_true_eq, corB, Bool.or_eq_true] at h
    obtain ⟨hl, h⟩ := h
    by_cases hsr : r < s
    · have h1 := num_le' G (show r + 1 ≤ s by omega)
      have h2 : p.getD (r + 1) 0 < p.getD r 0 := by
        rcases h with h | h
        · rw [getD_out' (show p.length ≤ r + 1 by omega)]
          have := G.pos r hl; omega
        · exact h
      omega
    · have := num_le' G (show s ≤ r by omega)
      omega
  · intro h
    simp only [Bool.and_eq_true, decide_eq_true_eq, corB, Bool.or_eq_true]
    have hne : num p (r + 1) ≠ num p r - 1 := fun e => h ⟨r + 1, e⟩
    have h5 := num_lt G (show r < r + 1 by omega)
    by_cases hl : r < p.length
    · exact ⟨hl, .inr (by omega)⟩
    · exfalso
      rw [getD_out' (show p.length ≤ r by omega)] at h4
      rw [getD_out' (show p.length ≤ r + 1 by omega)] at h3
      omega
theorem rf_get {p : List Int} (t : Nat) (i : Int) (r : Nat) : (rfL p t i).getD r 0 = rfG p t i r := by
  unfold rfL
  by_cases h : r < rfK p t i
  · exact fnRow_get _ _ _ h
  · rw [getD_out' (by rw [fnRow_len]; omega)]
    by_cases h2 : r < p.length + 1
    · exact (rf_zero t i (by omega) h2).symm
    · unfold rfG
      split
      · unfold aR
        rw [getD_out' (show p.length ≤ r by omega), decide_eq_false h2]; rfl
      · unfold cR
        rw [getD_out' (show p.length ≤ r by omega), decide_eq_false (show ¬ r < p.length by omega)]; rfl
open Classical in
theorem rf_up {p : List Int} (G : Good p) {t : Nat} {i : Int} (hg : grw p t i = true) (r : Nat) : num (rfL p t i) r = num p r + if ¬ Bd p (num p r + 1) ∧ (num p r + 1) % (t : Int) = i then 1 else 0 := by
  have e : num (rfL p t i) r = rfG p t i r - r - 1 := by unfold num; rw [rf_get]
  rw [e]
  unfold rfG
  rw [if_pos hg]
  unfold aR
  have h4 : num p r = p.getD r 0 - r - 1 := rfl
  have hq : qA p t i r = decide ((num p r + 1) % (t : Int) = i) := by unfold qA; rw [h4, show p.getD r 0 - (r : Int) - 1 + 1 = p.getD r 0 - r by omega]
  have ha := add_bd G r
  by_cases h1 : (decide (r < p.length + 1) && addB p r) = true
  · by_cases h2 : (num p r + 1) % (t : Int) = i
    · rw [if_pos (by rw [h1, hq, decide_eq_true h2]; rfl), if_pos ⟨ha.1 h1, h2⟩]; omega
    · rw [if_neg (by rw [hq, decide_eq_false h2]; simp), if_neg fun h => h2 h.2]; omega
  · rw [if_neg (by intro h; rw [Bool.and_eq_true] at h; exact h1 h.1), if_neg fun h => h1 (ha.2 h.1)]; omega
open Classical in
theorem rf_down {p : List Int} (G : Good p) {t : Nat} {i : Int} (hg : grw p t i = false) (r : Nat) : num (rfL p t i) r = num p r - if ¬ Bd p (num p r - 1) ∧ num p r % (t : Int) = i then 1 else 0 := by
  have e : num (rfL p t i) r = rfG p t i r - r - 1 := by unfold num; rw [rf_get]
  rw [e]
  unfold rfG
  rw [if_neg (by rw [hg]; simp)]
  unfold cR
  have h4 : num p r = p.getD r 0 - r - 1 := rfl
  have hq : qC p t i r = decide (num p r % (t : Int) = i) := by unfold qC; rw [h4, show p.getD r 0 - (r : Int) - 1 = p.getD r 0 - 1 - r by omega]
  have ha := cor_bd G r
  by_cases h1 : (decide (r < p.length) && corB p r) = true
  · by_cases h2 : num p r % (t : Int) = i
    · rw [if_pos (by rw [h1, hq, decide_eq_true h2]; rfl), if_pos ⟨ha.1 h1, h2⟩]; omega
    · rw [if_neg (by rw [hq, decide_eq_false h2]; simp), if_neg fun h => h2 h.2]; omega
  · rw [if_neg (by intro h; rw [Bool.and_eq_true] at h; exact h1 h.1), if_neg fun h => h1 (ha.2 h.1)]; omega
theorem mod_sub (x : Int) (t : Nat) : (x - t) % (t : Int) = x % t := by simp
theorem mod_next {x : Int} {t : Nat} (ht : 2 ≤ t) {i : Int} (h1 : x % (t : Int) = i) (h2 : (x + 1) % (t : Int) = i) : False := by
  have h : (x + 1 - x) % (t : Int) = 0 := by rw [Int.sub_emod, h1, h2]; simp
  rw [show x + 1 - x = 1 by omega, Int.emod_eq_of_lt (by omega) (by omega)] at h
  omega
theorem rf_dn {p : List Int} (G : Good p) {t : Nat} (ht : 2 ≤ t) {i : Int} (hD : Dn p t) : Dn (rfL p t i) t := by
  have hB : ∀ x, Bd p x → Bd p (x - t) := fun x ⟨r, hr⟩ => by
    obtain ⟨s, hs⟩ := hD r
    exact ⟨s, by omega⟩
  intro r
  cases hg : grw p t i
  · have key := rf_down G hg
    have hr := key r
    by_cases hm : ¬ Bd p (num p r - 1) ∧ num p r % (t : Int) = i
    · rw [if_pos hm] at hr
      obtain ⟨s, hs⟩ := hD r
      have hsi : num p s % (t : Int) = i := by rw [hs, mod_sub]; exact hm.2
      by_cases hb : Bd p (num p s - 1)
      · obtain ⟨u, hu⟩ := hb
        refine ⟨u, ?_⟩
        rw [key u, if_neg, hr]
        · omega
        · rintro ⟨_, h2⟩
          rw [hu] at h2
          exact mod_next ht h2 (by rw [show num p s - 1 + 1 = num p s by omega]; exact hsi)
      · exact ⟨s, by rw [key s, if_pos ⟨hb, hsi⟩, hr]; omega⟩
    · rw [if_neg hm] at hr
      obtain ⟨s, hs⟩ := hD r
      refine ⟨s, ?_⟩
      rw [key s, if_neg, hr]
      · omega
      · rintro ⟨h1, h2⟩
        rw [hs, mod_sub] at h2
        refine hm ⟨fun hb => h1 ?_, h2⟩
        have := hB _ hb
        rw [hs, show num p r - (t : Int) - 1 = num p r - 1 - t by omega]; exact this
  · have key := rf_up G hg
    have hr := key r
    by_cases hm : ¬ Bd p (num p r + 1) ∧ (num p r + 1) % (t : Int) = i
    · rw [if_pos hm] at hr
      obtain ⟨s, hs⟩ := hD r
      have hsi : (num p s + 1) % (t : Int) = i := by rw [hs, show num p r - (t : Int) + 1 = num p r + 1 - t by omega, mod_sub]; exact hm.2
      by_cases hb : Bd p (num p s + 1)
      · obtain ⟨u, hu⟩ := hb
        refine ⟨u, ?_⟩
        rw [key u, if_neg, hr]
        · omega
        · rintro ⟨_, h2⟩
          rw [hu] at h2
          exact mod_next ht hsi h2
      · exact ⟨s, by rw [key s, if_pos ⟨hb, hsi⟩, hr]; omega⟩
    · rw [if_neg hm] at hr
      obtain ⟨s, hs⟩ := hD r
      refine ⟨s, ?_⟩
      rw [key s, if_neg, hr]
      · omega
      · rintro ⟨h1, h2⟩
        rw [hs, show num p r - (t : Int) + 1 = num p r + 1 - t by omega, mod_sub] at h2
        refine hm ⟨fun hb => h1 ?_, h2⟩
        have := hB _ hb
        rw [hs, show num p r - (t : Int) + 1 = num p r + 1 - t by omega]; exact this
theorem core_Dn {p : List Int} {t : Int} (h : isCoreF p t = true) : Dn p t := by
  have hg : crB p t = true := by unfold isCoreF at h; rw [Bool.and_eq_true] at h; exact h.1
  obtain ⟨h1, h2⟩ := crB_good hg
  have G := (good_iff p).1 h1
  have ht := inB_iff.1 h2
  refine no_hook_dn G (by omega) fun r c hr hc he => ?_
  have hin := hook_in hr hc
  have := core_no hg hr hin (by rw [(hook_at hr hin).1, he, Int.tmod_self])
  rw [h] at this; cases this
theorem Dn_core {p : List Int} {t : Int} (hg : crB p t = true) (h : Dn p t) : isCoreF p t = true := by
  obtain ⟨h1, h2⟩ := crB_good hg
  have G := (good_iff p).1 h1
  have ht := inB_iff.1 h2
  refine core_yes hg fun r hr c hc hm => ?_
  obtain ⟨e, hlt⟩ := hook_at hr hc
  rw [e] at hm
  exact dn_no_div G (by omega) h r c hr hlt (Int.emod_eq_zero_of_dvd (Int.dvd_of_tmod_eq_zero hm))
/-- The reflection of a core is a core, if it has cells enough to be a partition at all. -/
theorem rf_core {p : List Int} {t : Nat} {i : Int} (h : isCoreF p t = true) (hg : good (rfL p t i) = true) : isCoreF (rfL p t i) t = true := by
  have hc : crB p t = true := by unfold isCoreF at h; rw [Bool.and_eq_true] at h; exact h.1
  obtain ⟨h1, h2⟩ := crB_good hc
  have ht := inB_iff.1 h2
  exact Dn_core (by unfold crB; rw [hg, h2]; rfl) (rf_dn ((good_iff p).1 h1) (by omega) (core_Dn h))
end Go.Proofs.Ytmjncedijddmmaa
/-
  Plain facts: the core and the weight are the same for any number of beads. No program in this text.
-/
namespace Go.Proofs.Ytmjncedijddmmaa
open Go.RowKit

def shL (L : List Int) : List Int := 0 :: L.map fun x => x + 1
theorem shL_len (L : List Int) : (shL L).length = L.length + 1 := by simp [shL]
theorem shL_sum (L : List Int) : (shL L).sum = L.sum + L.length := by
  unfold shL
  rw [List.sum_cons]
  induction L with
  | nil => simp
  | cons x r ih => rw [List.map_cons, List.sum_cons, List.sum_cons, List.length_cons]; omega
theorem shL_get (L : List Int) (j : Nat) (h : j < L.length) : (shL L).getD (j + 1) 0 = L.getD j 0 + 1 := by
  unfold shL
  rw [List.getD_cons_succ, List.getD_eq_getElem?_getD, List.getElem?_map, List.getElem?_eq_getElem h, List.getD_eq_getElem?_getD, List.getElem?_eq_getElem h]; rfl
theorem beads_next {p : List Int} {n : Nat} (h : p.length ≤ n) : beadsL p (n + 1) = shL (beadsL p n) := by
  unfold beadsL shL fnRow
  rw [List.range_succ_eq_map, List.map_cons, List.map_map, List.map_map]
  congr 1
  · unfold bead
    rw [List.getD_eq_getElem?_getD, List.getElem?_eq_none (by omega)]; rfl
  · refine List.map_congr_left fun j hj => ?_
    have := List.mem_range.1 hj
    show bead p (n + 1) (j + 1) = bead p n j + 1
    unfold bead
    rw [show n + 1 - 1 - (j + 1) = n - 1 - j by omega]; omega
/-- The runner below. -/
def pdI (t i : Nat) : Nat := if i = 0 then t - 1 else i - 1
theorem succ_mod {t : Nat} (ht : 0 < t) (x : Int) : ((x + 1) % (t : Int) = 0 ∧ x % (t : Int) = t - 1 ∧ (x + 1) / (t : Int) = x / (t : Int) + 1) ∨ ((x + 1) % (t : Int) = x % (t : Int) + 1 ∧ x % (t : Int) < t - 1 ∧ (x + 1) / (t : Int) = x / (t : Int)) := by
  have h4 := Int.emod_nonneg x (show (t : Int) ≠ 0 by omega)
  have h5 := Int.emod_lt_of_pos x (show 0 < (t : Int) by omega)
  have h6 := Int.mul_ediv_add_emod x t
  rw [Int.mul_comm] at h6
  by_cases e : x % (t : Int) = t - 1
  · left
    have e1 : x + 1 = (x / (t : Int) + 1) * (t : Int) + ((0 : Nat) : Int) := by rw [Int.add_mul]; omega
    obtain ⟨d1, d2⟩ := lay_div (t := t) (i := 0) (y := x / (t : Int) + 1) ht
    rw [← e1] at d1 d2
    exact ⟨d2, e, d1⟩
  · right
    have e1 : x + 1 = (x / (t : Int)) * (t : Int) + (((x % (t : Int)).toNat + 1 : Nat) : Int) := by omega
    obtain ⟨d1, d2⟩ := lay_div (t := t) (i := (x % (t : Int)).toNat + 1) (y := x / (t : Int)) (by omega)
    rw [← e1] at d1 d2
    exact ⟨by omega, by omega, d1⟩
theorem rn_succ {t i : Nat} (hi : i < t) : ∀ L : List Int, (rnL t (L.map fun x => x + 1) i).length = (rnL t L (pdI t i)).length
  | [] => rfl
  | x :: L => by
    have ih := rn_succ hi L
    rw [List.map_cons, rnL_cons, rnL_cons]
    have key : (x + 1) % (t : Int) = (i : Int) ↔ x % (t : Int) = ((pdI t i : Nat) : Int) := by
      have h4 := Int.emod_nonneg x (show (t : Int) ≠ 0 by omega)
      unfold pdI
      rcases succ_mod (t := t) (by omega) x with ⟨h1, h2, _⟩ | ⟨h1, h2, _⟩ <;> split <;> omega
    by_cases h : (x + 1) % (t : Int) = (i : Int)
    · rw [if_pos h, if_pos (key.1 h), List.length_cons, List.length_cons, ih]
    · rw [if_neg h, if_neg (fun hh => h (key.2 hh)), ih]
theorem rn_sh {t i : Nat} (hi : i < t) (L : List Int) : (rnL t (shL L) i).length = (if i = 0 then 1 else 0) + (rnL t L (pdI t i)).length := by
  unfold shL
  rw [rnL_cons, Int.zero_emod]
  by_cases e : i = 0
  · subst e
    rw [if_pos (show (0 : Int) = ((0 : Nat) : Int) from rfl), if_pos rfl, List.length_cons, rn_succ hi]; omega
  · rw [if_neg (by omega), if_neg e, rn_succ hi]; omega
theorem dw_sh {t : Nat} (ht : 0 < t) (L : List Int) : dwL t (shL L) = shL (dwL t L) := by
  refine pw_ext (dwL_pw _ _) ?_ fun x => ?_
  · unfold shL
    rw [List.pairwise_cons]
    refine ⟨fun y hy => ?_, ?_⟩
    · obtain ⟨z, hz, rfl⟩ := List.mem_map.1 hy
      have := ((mem_dwL ht).1 hz).1
      omega
    · rw [List.pairwise_map]
      refine List.Pairwise.imp ?_ (dwL_pw t L)
      intro a b h; omega
  · have hm : x ∈ shL (dwL t L) ↔ x = 0 ∨ x - 1 ∈ dwL t L := by
      unfold shL
      rw [List.mem_cons, List.mem_map]
      constructor
      · rintro (h | ⟨y, hy, rfl⟩)
        · exact .inl h
        · exact .inr (by rw [show y + 1 - 1 = y by omega]; exact hy)
      · rintro (h | h)
        · exact .inl h
        · exact .inr ⟨x - 1, h, by omega⟩
    rw [hm, mem_dwL ht, mem_dwL ht]
    have g4 := Int.emod_nonneg x (show (t : Int) ≠ 0 by omega)
    have g5 := Int.emod_lt_of_pos x (show 0 < (t : Int) by omega)
    rw [rn_sh (show (x % (t : Int)).toNat < t by omega)]
    have k4 := Int.emod_nonneg (x - 1) (show (t : Int) ≠ 0 by omega)
    by_cases e0 : x = 0
    · subst e0
      simp only [Int.zero_emod, Int.toNat_zero, if_true, true_or, iff_true]
      rw [Int.zero_ediv]; omega
    · have hs := succ_mod ht (x - 1)
      rw [show x - 1 + 1 = x by omega] at hs
      rcases hs with ⟨h1, h2, h3⟩ | ⟨h1, h2, h3⟩
      · rw [h1, h3, h2]
        simp only [Int.toNat_zero, if_true, pdI]
        rw [show ((t : Int) - 1).toNat = t - 1 by omega]
        omega
      · rw [if_neg (show ¬ (x % (t : Int)).toNat = 0 by omega), h3]
        rw [show pdI t (x % (t : Int)).toNat = ((x - 1) % (t : Int)).toNat by unfold pdI; rw [if_neg (by omega)]; omega]
        omega
theorem bpk_sh (M : List Int) : ∀ k, k ≤ M.length → bpk (shL M) k = bpk M k
  | 0, _ => rfl
  | k + 1, h => by
    have ih := bpk_sh M k (by omega)
    have hg := shL_get M (M.length - 1 - k) (by omega)
    have hi : M.length - 1 - k + 1 = (shL M).length - 1 - k := by rw [shL_len]; omega
    by_cases c : ((M.length - 1 - k : Nat) : Int) < M.getD (M.length - 1 - k) 0
    · rw [bpk_yes hi hg.symm (by omega), bpk_yes rfl rfl c, ih]
      congr 2; omega
    · rw [bpk_no hi hg.symm (by omega), bpk_no rfl rfl c, ih]
theorem parts_sh (M : List Int) : partsL (shL M) = partsL M := by
  unfold partsL
  rw [shL_len, bpk_no (i := 0) (x := 0) (by rw [shL_len]; omega) rfl (by simp), bpk_sh M _ (Nat.le_refl _)]
def coreL (t : Nat) (p : List Int) : List Int := partsL (dwL t (beadsL p p.length))
def wgtN (t : Nat) (p : List Int) : Int := dwM t (beadsL p p.length)
theorem core_n {t : Nat} (ht : 0 < t) (p : List Int) : ∀ d, partsL (dwL t (beadsL p (p.length + d))) = coreL t p ∧ dwM t (beadsL p (p.length + d)) = wgtN t p
  | 0 => ⟨rfl, rfl⟩
  | d + 1 => by
    obtain ⟨h1, h2⟩ := core_n ht p d
    rw [show p.length + (d + 1) = (p.length + d) + 1 by omega, beads_next (by omega), dw_sh ht, parts_sh, h1]
    refine ⟨rfl, ?_⟩
    rw [← h2]
    obtain ⟨L, hL⟩ : ∃ L, L = beadsL p (p.length + d) := ⟨_, rfl⟩
    rw [← hL]
    have e1 := dwL_sum (t := t) ht (shL L)
    have e2 := dwL_sum (t := t) ht L
    rw [dw_sh ht, shL_sum, shL_sum, dwL_len ht] at e1
    have e3 : (t : Int) * dwM t (shL L) = (t : Int) * dwM t L := by omega
    exact Int.eq_of_mul_eq_mul_left (by omega) e3
theorem core_at {t n : Nat} (ht : 0 < t) {p : List Int} (h : p.length ≤ n) : partsL (dwL t (beadsL p n)) = coreL t p ∧ dwM t (beadsL p n) = wgtN t p := by
  have := core_n ht p (n - p.length)
  rw [show p.length + (n - p.length) = n by omega] at this; exact this
end Go.Proofs.Ytmjncedijddmmaa
