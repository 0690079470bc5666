/-
  Plain facts: the reflection of a core is a core.
-/
import Derived.Test.YtblkmomcdchdoaaRfCore
import Derived.Test.YtblkmomcdchdoaaRfMath
namespace Go.Proofs.Ytblkmomcdchdoaa
open Go.RowKit

theorem num_lt {p : List Int} (G : Good p) {r s : Nat} (h : r < s) : num p s < num p r := by
  have := down_le p G.down r (s - r) 
  by_cases hs : s < p.length
  · have h2 := this (by omega)
    rw [show r + (s - r) = s by omega] at h2
    unfold num; omega
  · have h3 := part_nn G r
    have h4 : p.getD s 0 = 0 := by rw [List.getD_eq_getElem?_getD, List.getElem?_eq_none (by omega)]; rfl
    unfold num; omega
theorem num_le' {p : List Int} (G : Good p) {r s : Nat} (h : r ≤ s) : num p s ≤ num p r := by
  rcases Nat.lt_or_eq_of_le h with h | h
  · exact Int.le_of_lt (num_lt G h)
  · rw [h]; exact Int.le_refl _
def Bd (p : List Int) (x : Int) : Prop := ∃ r, num p r = x
theorem getD_out' {p : List Int} {r : Nat} (h : p.length ≤ r) : p.getD r 0 = 0 := by rw [List.getD_eq_getElem?_getD, List.getElem?_eq_none h]; rfl
theorem add_bd {p : List Int} (G : Good p) (r : Nat) : (decide (r < p.length + 1) && addB p r) = true ↔ ¬ Bd p (num p r + 1) := by
  constructor
  · intro h ⟨s, hs⟩
    simp only [Bool.and_eq_true, decide_eq_true_eq, addB, Bool.or_eq_true] at h
    obtain ⟨hl, h⟩ := h
    by_cases hsr : s < r
    · have h1 := num_le' G (show s ≤ r - 1 by omega)
      have h2 : p.getD r 0 < p.getD (r - 1) 0 := by
        rcases h with h | h | h
        · omega
        · rw [getD_out' (show p.length ≤ r by omega)]
          have := G.pos (r - 1) (by omega); omega
        · exact h
      have h3 : num p (r - 1) = p.getD (r - 1) 0 - (r - 1 : Nat) - 1 := rfl
      have h4 : num p r = p.getD r 0 - r - 1 := rfl
      omega
    · have := num_le' G (show r ≤ s by omega)
      omega
  · intro h
    simp only [Bool.and_eq_true, decide_eq_true_eq, addB, Bool.or_eq_true]
    have hr : r = 0 ∨ num p (r - 1) ≠ num p r + 1 := by
      rcases Nat.eq_zero_or_pos r with h0 | h0
      · exact .inl h0
      · exact .inr fun e => h ⟨r - 1, e⟩
    rcases hr with hr | hr
    · exact ⟨by omega, .inl hr⟩
    · by_cases h0 : r = 0
      · exact ⟨by omega, .inl h0⟩
      · have h3 : num p (r - 1) = p.getD (r - 1) 0 - (r - 1 : Nat) - 1 := rfl
        have h4 : num p r = p.getD r 0 - r - 1 := rfl
        have h5 := num_lt G (show r - 1 < r by omega)
        by_cases hl : r < p.length + 1
        · exact ⟨hl, .inr (.inr (by omega))⟩
        · exfalso
          rw [getD_out' (show p.length ≤ r by omega)] at h4
          rw [getD_out' (show p.length ≤ r - 1 by omega)] at h3
          omega
theorem cor_bd {p : List Int} (G : Good p) (r : Nat) : (decide (r < p.length) && corB p r) = true ↔ ¬ Bd p (num p r - 1) := by
  have h3 : num p (r + 1) = p.getD (r + 1) 0 - (r + 1 : Nat) - 1 := rfl
  have h4 : num p r = p.getD r 0 - r - 1 := rfl
  constructor
  · intro h ⟨s, hs⟩
    simp only [Bool.and_eq_true, decide_eq_true_eq, corB, Bool.or_eq_true] at h
    obtain ⟨hl, h⟩ := h
    by_cases hsr : r < s
    · have h1 := num_le' G (show r + 1 ≤ s by omega)
      have h2 : p.getD (r + 1) 0 < p.getD r 0 := by
        rcases h with h | h
        · rw [getD_out' (show p.length ≤ r + 1 by omega)]
          have := G.pos r hl; omega
        · exact h
      omega
    · have := num_le' G (show s ≤ r by omega)
      omega
  · intro h
    simp only [Bool.and_eq_true, decide_eq_true_eq, corB, Bool.or_eq_true]
    have hne : num p (r + 1) ≠ num p r - 1 := fun e => h ⟨r + 1, e⟩
    have h5 := num_lt G (show r < r + 1 by omega)
    by_cases hl : r < p.length
    · exact ⟨hl, .inr (by omega)⟩
    · exfalso
      rw [getD_out' (show p.length ≤ r by omega)] at h4
      rw [getD_out' (show p.length ≤ r + 1 by omega)] at h3
      omega
theorem rf_get {p : List Int} (t : Nat) (i : Int) (r : Nat) : (rfL p t i).getD r 0 = rfG p t i r := by
  unfold rfL
  by_cases h : r < rfK p t i
  · exact fnRow_get _ _ _ h
  · rw [getD_out' (by rw [fnRow_len]; omega)]
    by_cases h2 : r < p.length + 1
    · exact (rf_zero t i (by omega) h2).symm
    · unfold rfG
      split
      · unfold aR
        rw [getD_out' (show p.length ≤ r by omega), decide_eq_false h2]; rfl
      · unfold cR
        rw [getD_out' (show p.length ≤ r by omega), decide_eq_false (show ¬ r < p.length by omega)]; rfl
open Classical in
theorem rf_up {p : List Int} (G : Good p) {t : Nat} {i : Int} (hg : grw p t i = true) (r : Nat) : num (rfL p t i) r = num p r + if ¬ Bd p (num p r + 1) ∧ (num p r + 1) % (t : Int) = i then 1 else 0 := by
  have e : num (rfL p t i) r = rfG p t i r - r - 1 := by unfold num; rw [rf_get]
  rw [e]
  unfold rfG
  rw [if_pos hg]
  unfold aR
  have h4 : num p r = p.getD r 0 - r - 1 := rfl
  have hq : qA p t i r = decide ((num p r + 1) % (t : Int) = i) := by unfold qA; rw [h4, show p.getD r 0 - (r : Int) - 1 + 1 = p.getD r 0 - r by omega]
  have ha := add_bd G r
  by_cases h1 : (decide (r < p.length + 1) && addB p r) = true
  · by_cases h2 : (num p r + 1) % (t : Int) = i
    · rw [if_pos (by rw [h1, hq, decide_eq_true h2]; rfl), if_pos ⟨ha.1 h1, h2⟩]; omega
    · rw [if_neg (by rw [hq, decide_eq_false h2]; simp), if_neg fun h => h2 h.2]; omega
  · rw [if_neg (by intro h; rw [Bool.and_eq_true] at h; exact h1 h.1), if_neg fun h => h1 (ha.2 h.1)]; omega
open Classical in
theorem rf_down {p : List Int} (G : Good p) {t : Nat} {i : Int} (hg : grw p t i = false) (r : Nat) : num (rfL p t i) r = num p r - if ¬ Bd p (num p r - 1) ∧ num p r % (t : Int) = i then 1 else 0 := by
  have e : num (rfL p t i) r = rfG p t i r - r - 1 := by unfold num; rw [rf_get]
  rw [e]
  unfold rfG
  rw [if_neg (by rw [hg]; simp)]
  unfold cR
  have h4 : num p r = p.getD r 0 - r - 1 := rfl
  have hq : qC p t i r = decide (num p r % (t : Int) = i) := by unfold qC; rw [h4, show p.getD r 0 - (r : Int) - 1 = p.getD r 0 - 1 - r by omega]
  have ha := cor_bd G r
  by_cases h1 : (decide (r < p.length) && corB p r) = true
  · by_cases h2 : num p r % (t : Int) = i
    · rw [if_pos (by rw [h1, hq, decide_eq_true h2]; rfl), if_pos ⟨ha.1 h1, h2⟩]; omega
    · rw [if_neg (by rw [hq, decide_eq_false h2]; simp), if_neg fun h => h2 h.2]; omega
  · rw [if_neg (by intro h; rw [Bool.and_eq_true] at h; exact h1 h.1), if_neg fun h => h1 (ha.2 h.1)]; omega
theorem mod_sub (x : Int) (t : Nat) : (x - t) % (t : Int) = x % t := by simp
theorem mod_next {x : Int} {t : Nat} (ht : 2 ≤ t) {i : Int} (h1 : x % (t : Int) = i) (h2 : (x + 1) % (t : Int) = i) : False := by
  have h : (x + 1 - x) % (t : Int) = 0 := by rw [Int.sub_emod, h1, h2]; simp
  rw [show x + 1 - x = 1 by omega, Int.emod_eq_of_lt (by omega) (by omega)] at h
  omega
theorem rf_dn {p : List Int} (G : Good p) {t : Nat} (ht : 2 ≤ t) {i : Int} (hD : Dn p t) : Dn (rfL p t i) t := by
  have hB : ∀ x, Bd p x → Bd p (x - t) := fun x ⟨r, hr⟩ => by
    obtain ⟨s, hs⟩ := hD r
    exact ⟨s, by omega⟩
  intro r
  cases hg : grw p t i
  · have key := rf_down G hg
    have hr := key r
    by_cases hm : ¬ Bd p (num p r - 1) ∧ num p r % (t : Int) = i
    · rw [if_pos hm] at hr
      obtain ⟨s, hs⟩ := hD r
      have hsi : num p s % (t : Int) = i := by rw [hs, mod_sub]; exact hm.2
      by_cases hb : Bd p (num p s - 1)
      · obtain ⟨u, hu⟩ := hb
        refine ⟨u, ?_⟩
        rw [key u, if_neg, hr]
        · omega
        · rintro ⟨_, h2⟩
          rw [hu] at h2
          exact mod_next ht h2 (by rw [show num p s - 1 + 1 = num p s by omega]; exact hsi)
      · exact ⟨s, by rw [key s, if_pos ⟨hb, hsi⟩, hr]; omega⟩
    · rw [if_neg hm] at hr
      obtain ⟨s, hs⟩ := hD r
      refine ⟨s, ?_⟩
      rw [key s, if_neg, hr]
      · omega
      · rintro ⟨h1, h2⟩
        rw [hs, mod_sub] at h2
        refine hm ⟨fun hb => h1 ?_, h2⟩
        have := hB _ hb
        rw [hs, show num p r - (t : Int) - 1 = num p r - 1 - t by omega]; exact this
  · have key := rf_up G hg
    have hr := key r
    by_cases hm : ¬ Bd p (num p r + 1) ∧ (num p r + 1) % (t : Int) = i
    · rw [if_pos hm] at hr
      obtain ⟨s, hs⟩ := hD r
      have hsi : (num p s + 1) % (t : Int) = i := by rw [hs, show num p r - (t : Int) + 1 = num p r + 1 - t by omega, mod_sub]; exact hm.2
      by_cases hb : Bd p (num p s + 1)
      · obtain ⟨u, hu⟩ := hb
        refine ⟨u, ?_⟩
        rw [key u, if_neg, hr]
        · omega
        · rintro ⟨_, h2⟩
          rw [hu] at h2
          exact mod_next ht hsi h2
      · exact ⟨s, by rw [key s, if_pos ⟨hb, hsi⟩, hr]; omega⟩
    · rw [if_neg hm] at hr
      obtain ⟨s, hs⟩ := hD r
      refine ⟨s, ?_⟩
      rw [key s, if_neg, hr]
      · omega
      · rintro ⟨h1, h2⟩
        rw [hs, show num p r - (t : Int) + 1 = num p r + 1 - t by omega, mod_sub] at h2
        refine hm ⟨fun hb => h1 ?_, h2⟩
        have := hB _ hb
        rw [hs, show num p r - (t : Int) + 1 = num p r + 1 - t by omega]; exact this
theorem core_Dn {p : List Int} {t : Int} (h : isCoreF p t = true) : Dn p t := by
  have hg : crB p t = true := by unfold isCoreF at h; rw [Bool.and_eq_true] at h; exact h.1
  obtain ⟨h1, h2⟩ := crB_good hg
  have G := (good_iff p).1 h1
  have ht := inB_iff.1 h2
  refine no_hook_dn G (by omega) fun r c hr hc he => ?_
  have hin := hook_in hr hc
  have := core_no hg hr hin (by rw [(hook_at hr hin).1, he, Int.tmod_self])
  rw [h] at this; cases this
theorem Dn_core {p : List Int} {t : Int} (hg : crB p t = true) (h : Dn p t) : isCoreF p t = true := by
  obtain ⟨h1, h2⟩ := crB_good hg
  have G := (good_iff p).1 h1
  have ht := inB_iff.1 h2
  refine core_yes hg fun r hr c hc hm => ?_
  obtain ⟨e, hlt⟩ := hook_at hr hc
  rw [e] at hm
  exact dn_no_div G (by omega) h r c hr hlt (Int.emod_eq_zero_of_dvd (Int.dvd_of_tmod_eq_zero hm))
/-- The reflection of a core is a core, if it has cells enough to be a partition at all. -/
theorem rf_core {p : List Int} {t : Nat} {i : Int} (h : isCoreF p t = true) (hg : good (rfL p t i) = true) : isCoreF (rfL p t i) t = true := by
  have hc : crB p t = true := by unfold isCoreF at h; rw [Bool.and_eq_true] at h; exact h.1
  obtain ⟨h1, h2⟩ := crB_good hc
  have ht := inB_iff.1 h2
  exact Dn_core (by unfold crB; rw [hg, h2]; rfl) (rf_dn ((good_iff p).1 h1) (by omega) (core_Dn h))
end Go.Proofs.Ytblkmomcdchdoaa
