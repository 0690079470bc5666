/-
  Several texts in one.
-/
import Derived.Test.YtiebnnchaopbkaaR12
import Derived.Test.YtiebnnchaopbkaaCC
import Derived.Test.YtiebnnchaopbkaaR07
import Derived.Test.YtiebnnchaopbkaaCA
/-
  Contracts: chIsCore and chCoreOf of the model.
-/
namespace Go.Proofs.Ytiebnnchaopbkaa
open Go.RowKit

theorem hitRow_all {row : List Int} {t : Int} {r c : Nat} (h : row.getD c 0 = t) : ∀ m, c < m → (r, c) ∈ hitRow row t r m
  | m + 1, hm => by
    rw [hitRow]
    by_cases e : c = m
    · subst e; rw [if_pos h]; simp
    · have := hitRow_all (r := r) h m (by omega)
      split
      · exact List.mem_append_left _ this
      · exact this
theorem hits_all {R : List (List Int)} {t : Int} {r c : Nat} (hc : c < (R.getD r []).length) (h : (R.getD r []).getD c 0 = t) : ∀ k, r < k → (r, c) ∈ hits R t k
  | k + 1, hk => by
    rw [hits, List.mem_append]
    by_cases e : r = k
    · subst e; exact .inr (hitRow_all h _ hc)
    · exact .inl (hits_all hc h k (by omega))
theorem hook_at {xs : List Int} {r c : Nat} (hr : r < xs.length) (hc : c < ((hooksR xs).getD r []).length) : ((hooksR xs).getD r []).getD c 0 = hookN xs r c ∧ (c : Int) < xs.getD r 0 := by
  unfold hooksR at hc ⊢
  rw [rowsF_get _ _ _ _ hr] at hc ⊢
  rw [rowF_len] at hc
  exact ⟨rowF_get _ _ _ _ hc, by omega⟩
theorem hook_in {xs : List Int} {r c : Nat} (hr : r < xs.length) (hc : (c : Int) < xs.getD r 0) : c < ((hooksR xs).getD r []).length := by
  unfold hooksR
  rw [rowsF_get _ _ _ _ hr, rowF_len]; omega
theorem core_no {xs : List Int} {t : Int} (hg : crB xs t = true) {r c : Nat} (hr : r < xs.length) (hc : c < ((hooksR xs).getD r []).length) (h : Int.tmod (((hooksR xs).getD r []).getD c 0) t = 0) : isCoreF xs t = false := by
  obtain ⟨h1, h2⟩ := crB_good hg
  have G := (good_iff xs).1 h1
  have ht := inB_iff.1 h2
  obtain ⟨e, hlt⟩ := hook_at hr hc
  rw [e] at h
  rw [isCoreF_t hg]
  refine decide_eq_false fun hl => ?_
  rw [show rimCellsF xs t = pairs (rimCs xs t) by unfold rimCellsF; rw [if_pos hg], pairs_len] at hl
  have hnil : rimCs xs t = [] := List.eq_nil_of_length_eq_zero hl
  have hd : Dn xs t := no_hook_dn G (by omega) fun r' c' hr' hc' he => by
    have hin := hook_in hr' hc'
    have : (r', c') ∈ rimCs xs t := by
      unfold rimCs
      exact hits_all hin (by rw [(hook_at hr' hin).1]; exact he) _ hr'
    rw [hnil] at this; cases this
  exact dn_no_div G (by omega) hd r c hr hlt (Int.emod_eq_zero_of_dvd (Int.dvd_of_tmod_eq_zero h))
theorem core_yes {xs : List Int} {t : Int} (hg : crB xs t = true) (h : ∀ r, r < xs.length → ∀ c, c < ((hooksR xs).getD r []).length → ¬ Int.tmod (((hooksR xs).getD r []).getD c 0) t = 0) : isCoreF xs t = true := by
  rw [isCoreF_t hg]
  refine decide_eq_true ?_
  rw [show rimCellsF xs t = pairs (rimCs xs t) by unfold rimCellsF; rw [if_pos hg], pairs_len]
  rcases hh : rimCs xs t with _ | ⟨q, l⟩
  · rfl
  · exfalso
    have hm : q ∈ rimCs xs t := by rw [hh]; exact List.mem_cons_self ..
    obtain ⟨a, b, e⟩ := hits_mem hm
    exact h q.1 a q.2 b (by rw [e, Int.tmod_self])

end Go.Proofs.Ytiebnnchaopbkaa
/-
  Plain facts: a partition with all cells of a residue more, or without them. No program in this text.
-/
namespace Go.Proofs.Ytiebnnchaopbkaa

theorem mem_filt {f : Nat → Bool} {k : Nat} {x : Int} : x ∈ filt f k ↔ ∃ r, r < k ∧ f r = true ∧ x = (r : Int) := by
  unfold filt
  simp only [List.mem_map, List.mem_filter, List.mem_range]
  constructor
  · rintro ⟨r, ⟨h1, h2⟩, rfl⟩; exact ⟨r, h1, h2, rfl⟩
  · rintro ⟨r, h1, h2, rfl⟩; exact ⟨r, ⟨h1, h2⟩, rfl⟩
theorem filt_nodup (f : Nat → Bool) (k : Nat) : (filt f k).Nodup := by
  unfold filt
  rw [List.nodup_iff_pairwise_ne, List.pairwise_map]
  exact List.Pairwise.imp (fun h e => h (by omega)) (List.Pairwise.filter _ (List.nodup_iff_pairwise_ne.1 List.nodup_range))
theorem filt_at {f : Nat → Bool} {k j : Nat} (h : j < (filt f k).length) : ∃ r : Nat, r < k ∧ f r = true ∧ (filt f k).getD j 0 = (r : Int) := by
  have : (filt f k).getD j 0 ∈ filt f k := by
    rw [List.getD_eq_getElem?_getD, List.getElem?_eq_getElem h]; exact List.getElem_mem h
  exact mem_filt.1 this
theorem take_succ_get {L : List Int} {j : Nat} (h : j < L.length) : L.take (j + 1) = L.take j ++ [L.getD j 0] := by
  rw [List.take_succ_eq_append_getElem h]; simp [List.getD, h]
theorem nodup_not_mem {L : List Int} (nd : L.Nodup) {j : Nat} (h : j < L.length) : L.getD j 0 ∉ L.take j := by
  have h1 : (L.take (j + 1)).Nodup := List.Nodup.sublist (List.take_sublist _ _) nd
  rw [take_succ_get h, List.nodup_append] at h1
  intro hm
  exact h1.2.2 _ hm _ (List.mem_singleton.2 rfl) rfl

/-- A row that is being changed at the places of a list. -/
def stp (m : Nat) (g : Nat → Int) (q : Nat → Bool) (d : Int) (L : List Int) (j : Nat) : List Int := fnRow m fun r => g r + if decide ((r : Int) ∈ L.take j) && q r then d else 0
theorem stp_len (m : Nat) (g : Nat → Int) (q : Nat → Bool) (d : Int) (L : List Int) (j : Nat) : (stp m g q d L j).length = m := fnRow_len _ _
theorem stp_zero (m : Nat) (g : Nat → Int) (q : Nat → Bool) (d : Int) (L : List Int) : stp m g q d L 0 = fnRow m g := rowF_ext _ _ _ fun j _ => by simp
theorem stp_get {m : Nat} {g : Nat → Int} {q : Nat → Bool} {d : Int} {L : List Int} (nd : L.Nodup) {j r : Nat} (hj : j < L.length) (hr : L.getD j 0 = (r : Int)) (hm : r < m) : (stp m g q d L j).getD r 0 = g r := by
  unfold stp
  rw [fnRow_get _ _ _ hm, decide_eq_false (show ¬ (r : Int) ∈ L.take j by rw [← hr]; exact nodup_not_mem nd hj)]
  simp
theorem stp_set {m : Nat} {g : Nat → Int} {q : Nat → Bool} {d : Int} {L : List Int} {j r : Nat} (hj : j < L.length) (hr : L.getD j 0 = (r : Int)) (hq : q r = true) : (stp m g q d L j).set r (g r + d) = stp m g q d L (j + 1) := by
  unfold stp
  rw [fnRow_set]
  refine rowF_ext _ _ _ fun s _ => ?_
  rw [take_succ_get hj, hr]
  by_cases e : s = r
  · subst e; rw [if_pos rfl]; simp [hq]
  · rw [if_neg e]
    have e2 : decide ((s : Int) ∈ L.take j ++ [(r : Int)]) = decide ((s : Int) ∈ L.take j) := by
      rw [decide_eq_decide, List.mem_append, List.mem_singleton]
      exact ⟨fun h => h.resolve_right (by omega), .inl⟩
    rw [e2]
theorem stp_skip {m : Nat} {g : Nat → Int} {q : Nat → Bool} {d : Int} {L : List Int} {j r : Nat} (hj : j < L.length) (hr : L.getD j 0 = (r : Int)) (hq : q r = false) : stp m g q d L j = stp m g q d L (j + 1) := by
  unfold stp
  refine rowF_ext _ _ _ fun s _ => ?_
  rw [take_succ_get hj, hr]
  by_cases e : s = r
  · subst e; simp [hq]
  · have e2 : decide ((s : Int) ∈ L.take j ++ [(r : Int)]) = decide ((s : Int) ∈ L.take j) := by
      rw [decide_eq_decide, List.mem_append, List.mem_singleton]
      exact ⟨fun h => h.resolve_right (by omega), .inl⟩
    rw [e2]
theorem stp_all (m : Nat) (g : Nat → Int) (q : Nat → Bool) (d : Int) (f : Nat → Bool) (k : Nat) (_hk : k ≤ m) : stp m g q d (filt f k) (filt f k).length = fnRow m fun r => g r + if (decide (r < k) && f r) && q r then d else 0 := by
  unfold stp
  rw [List.take_of_length_le (Nat.le_refl _)]
  refine rowF_ext _ _ _ fun s _ => ?_
  have e2 : decide ((s : Int) ∈ filt f k) = (decide (s < k) && f s) := by
    rw [Bool.eq_iff_iff]
    simp only [decide_eq_true_eq, Bool.and_eq_true]
    rw [mem_filt]
    exact ⟨fun ⟨r, h1, h2, h3⟩ => by
      have : s = r := by omega
      subst this; exact ⟨h1, h2⟩, fun ⟨h1, h2⟩ => ⟨s, h1, h2, rfl⟩⟩
  rw [e2]
def anyK (q : Nat → Bool) (L : List Int) (j : Nat) : Bool := (L.take j).any fun x => q x.toNat
theorem anyK_zero (q : Nat → Bool) (L : List Int) : anyK q L 0 = false := by simp [anyK]
theorem anyK_succ {q : Nat → Bool} {L : List Int} {j r : Nat} (hj : j < L.length) (hr : L.getD j 0 = (r : Int)) : anyK q L (j + 1) = (anyK q L j || q r) := by
  unfold anyK; rw [take_succ_get hj, List.any_append, hr]; simp
theorem stp_none {m : Nat} {g : Nat → Int} {q : Nat → Bool} {d : Int} {L : List Int} {j : Nat} (h : anyK q L j = false) : stp m g q d L j = fnRow m g := by
  unfold stp
  refine rowF_ext _ _ _ fun s _ => ?_
  by_cases hm : (s : Int) ∈ L.take j
  · have : q s = false := by
      unfold anyK at h
      rw [List.any_eq_false] at h
      have := h _ hm
      rw [Int.toNat_natCast] at this
      exact Bool.eq_false_iff.2 this
    simp [this]
  · simp [hm]

def qA (p : List Int) (t : Nat) (i : Int) (r : Nat) : Bool := decide ((p.getD r 0 - (r : Int)) % (t : Int) = i)
def qC (p : List Int) (t : Nat) (i : Int) (r : Nat) : Bool := decide ((p.getD r 0 - 1 - (r : Int)) % (t : Int) = i)
def aR (p : List Int) (t : Nat) (i : Int) (r : Nat) : Int := p.getD r 0 + if (decide (r < p.length + 1) && addB p r) && qA p t i r then 1 else 0
def cR (p : List Int) (t : Nat) (i : Int) (r : Nat) : Int := p.getD r 0 + if (decide (r < p.length) && corB p r) && qC p t i r then -1 else 0
def grw (p : List Int) (t : Nat) (i : Int) : Bool := anyK (qA p t i) (filt (addB p) (p.length + 1)) (filt (addB p) (p.length + 1)).length
/-- How many rows are left. -/
def rfK (p : List Int) (t : Nat) (i : Int) : Nat := if grw p t i then (if qA p t i p.length then p.length + 1 else p.length) else (if 0 < p.length ∧ cR p t i (p.length - 1) = 0 then p.length - 1 else p.length)
def rfG (p : List Int) (t : Nat) (i : Int) : Nat → Int := if grw p t i then aR p t i else cR p t i
def rfL (p : List Int) (t : Nat) (i : Int) : List Int := fnRow (rfK p t i) (rfG p t i)
theorem rfK_le (p : List Int) (t : Nat) (i : Int) : rfK p t i ≤ p.length + 1 := by unfold rfK; split <;> split <;> omega
theorem fnRow_take (m k : Nat) (h : k ≤ m) (f : Nat → Int) : (fnRow m f).take k = fnRow k f := by
  unfold fnRow; rw [← List.map_take, List.take_range]; congr 2; omega
theorem rfL_take (p : List Int) (t : Nat) (i : Int) : (fnRow (p.length + 1) (rfG p t i)).take (rfK p t i) = rfL p t i := fnRow_take _ _ (rfK_le p t i) _
theorem cor_out (p : List Int) : corB p p.length = false := by
  unfold corB
  rw [getD_out (show p.length ≤ p.length + 1 by omega), getD_out (Nat.le_refl p.length)]
  simp
theorem cR_out (p : List Int) (t : Nat) (i : Int) : cR p t i p.length = 0 := by
  unfold cR; rw [getD_out (Nat.le_refl _)]; simp
theorem cR_pos {p : List Int} (G : Good p) (t : Nat) (i : Int) {r : Nat} (h : r + 1 < p.length) : 0 < cR p t i r := by
  unfold cR
  have h1 := G.pos r (by omega)
  have h2 := G.pos (r + 1) h
  by_cases hc : corB p r = true
  · unfold corB at hc
    simp only [Bool.or_eq_true, decide_eq_true_eq] at hc
    have h3 : p.getD (r + 1) 0 < p.getD r 0 := hc.resolve_left (by omega)
    split <;> omega
  · rw [Bool.not_eq_true] at hc
    rw [hc, Bool.and_false, Bool.false_and, if_neg (by decide)]; omega
theorem aR_pos {p : List Int} (G : Good p) (t : Nat) (i : Int) {r : Nat} (h : r < p.length) : 0 < aR p t i r := by
  unfold aR
  have h1 := G.pos r h
  split <;> omega
theorem add_top (p : List Int) : addB p p.length = true := by simp [addB]
theorem aR_top (p : List Int) (t : Nat) (i : Int) : aR p t i p.length = if qA p t i p.length then 1 else 0 := by
  unfold aR; rw [getD_out (Nat.le_refl _), add_top]; simp
theorem rf_zero {p : List Int} (t : Nat) (i : Int) {j : Nat} (h1 : rfK p t i ≤ j) (h2 : j < p.length + 1) : rfG p t i j = 0 := by
  unfold rfK at h1
  unfold rfG
  cases hg : grw p t i
  · rw [hg] at h1
    simp only [Bool.false_eq_true, if_false] at h1 ⊢
    by_cases hj : j = p.length
    · subst hj; exact cR_out p t i
    · split at h1
      · rename_i hh
        have : j = p.length - 1 := by omega
        subst this; exact hh.2
      · omega
  · rw [hg] at h1
    simp only [if_true] at h1 ⊢
    cases hq : qA p t i p.length
    · rw [hq] at h1
      simp only [Bool.false_eq_true, if_false] at h1
      have : j = p.length := by omega
      subst this; rw [aR_top, hq]; simp
    · rw [hq] at h1
      simp only [if_true] at h1
      omega
theorem rf_last {p : List Int} (G : Good p) (t : Nat) (i : Int) (h : 0 < rfK p t i) : rfG p t i (rfK p t i - 1) ≠ 0 := by
  unfold rfK at h ⊢
  unfold rfG
  cases hg : grw p t i
  · rw [hg] at h
    simp only [Bool.false_eq_true, if_false] at h ⊢
    by_cases hh : 0 < p.length ∧ cR p t i (p.length - 1) = 0
    · rw [if_pos hh] at h ⊢
      have := cR_pos G t i (r := p.length - 1 - 1) (by omega)
      omega
    · rw [if_neg hh] at h ⊢
      exact fun e => hh ⟨h, e⟩
  · rw [hg] at h
    simp only [if_true] at h ⊢
    cases hq : qA p t i p.length
    · rw [hq] at h
      simp only [Bool.false_eq_true, if_false] at h ⊢
      have := aR_pos G t i (r := p.length - 1) (by omega)
      omega
    · simp only [if_true]
      rw [show p.length + 1 - 1 = p.length by omega, aR_top, hq]; simp
end Go.Proofs.Ytiebnnchaopbkaa
/-
  Plain facts: the reflection of a core is a core.
-/
namespace Go.Proofs.Ytiebnnchaopbkaa
open Go.RowKit

theorem num_lt {p : List Int} (G : Good p) {r s : Nat} (h : r < s) : num p s < num p r := by
  have := down_le p G.down r (s - r) 
  by_cases hs : s < p.length
  · have h2 := this (by omega)
    rw [show r + (s - r) = s by omega] at h2
    unfold num; omega
  · have h3 := part_nn G r
    have h4 : p.getD s 0 = 0 := by rw [List.getD_eq_getElem?_getD, List.getElem?_eq_none (by omega)]; rfl
    unfold num; omega
theorem num_le' {p : List Int} (G : Good p) {r s : Nat} (h : r ≤ s) : num p s ≤ num p r := by
  rcases Nat.lt_or_eq_of_le h with h | h
  · exact Int.le_of_lt (num_lt G h)
  · rw [h]; exact Int.le_refl _
def Bd (p : List Int) (x : Int) : Prop := ∃ r, num p r = x
theorem getD_out' {p : List Int} {r : Nat} (h : p.length ≤ r) : p.getD r 0 = 0 := by rw [List.getD_eq_getElem?_getD, List.getElem?_eq_none h]; rfl
theorem add_bd {p : List Int} (G : Good p) (r : Nat) : (decide (r < p.length + 1) && addB p r) = true ↔ ¬ Bd p (num p r + 1) := by
  constructor
  · intro h ⟨s, hs⟩
    simp only [Bool.and_eq_true, decide_eq_true_eq, addB, Bool.or_eq_true] at h
    obtain ⟨hl, h⟩ := h
    by_cases hsr : s < r
    · have h1 := num_le' G (show s ≤ r - 1 by omega)
      have h2 : p.getD r 0 < p.getD (r - 1) 0 := by
        rcases h with h | h | h
        · omega
        · rw [getD_out' (show p.length ≤ r by omega)]
          have := G.pos (r - 1) (by omega); omega
        · exact h
      have h3 : num p (r - 1) = p.getD (r - 1) 0 - (r - 1 : Nat) - 1 := rfl
      have h4 : num p r = p.getD r 0 - r - 1 := rfl
      omega
    · have := num_le' G (show r ≤ s by omega)
      omega
  · intro h
    simp only [Bool.and_eq_true, decide_eq_true_eq, addB, Bool.or_eq_true]
    have hr : r = 0 ∨ num p (r - 1) ≠ num p r + 1 := by
      rcases Nat.eq_zero_or_pos r with h0 | h0
      · exact .inl h0
      · exact .inr fun e => h ⟨r - 1, e⟩
    rcases hr with hr | hr
    · exact ⟨by omega, .inl hr⟩
    · by_cases h0 : r = 0
      · exact ⟨by omega, .inl h0⟩
      · have h3 : num p (r - 1) = p.getD (r - 1) 0 - (r - 1 : Nat) - 1 := rfl
        have h4 : num p r = p.getD r 0 - r - 1 := rfl
        have h5 := num_lt G (show r - 1 < r by omega)
        by_cases hl : r < p.length + 1
        · exact ⟨hl, .inr (.inr (by omega))⟩
        · exfalso
          rw [getD_out' (show p.length ≤ r by omega)] at h4
          rw [getD_out' (show p.length ≤ r - 1 by omega)] at h3
          omega
theorem cor_bd {p : List Int} (G : Good p) (r : Nat) : (decide (r < p.length) && corB p r) = true ↔ ¬ Bd p (num p r - 1) := by
  have h3 : num p (r + 1) = p.getD (r + 1) 0 - (r + 1 : Nat) - 1 := rfl
  have h4 : num p r = p.getD r 0 - r - 1 := rfl
  constructor
  · intro h ⟨s, hs⟩
    simp only [Bool.and_eq_true, decide_eq_true_eq, corB, Bool.or_eq_true] at h
    obtain ⟨hl, h⟩ := h
    by_cases hsr : r < s
    · have h1 := num_le' G (show r + 1 ≤ s by omega)
      have h2 : p.getD (r + 1) 0 < p.getD r 0 := by
        rcases h with h | h
        · rw [getD_out' (show p.length ≤ r + 1 by omega)]
          have := G.pos r hl; omega
        · exact h
      omega
    · have := num_le' G (show s ≤ r by omega)
      omega
  · intro h
    simp only [Bool.and_eq_true, decide_eq_true_eq, corB, Bool.or_eq_true]
    have hne : num p (r + 1) ≠ num p r - 1 := fun e => h ⟨r + 1, e⟩
    have h5 := num_lt G (show r < r + 1 by omega)
    by_cases hl : r < p.length
    · exact ⟨hl, .inr (by omega)⟩
    · exfalso
      rw [getD_out' (show p.length ≤ r by omega)] at h4
      rw [getD_out' (show p.length ≤ r + 1 by omega)] at h3
      omega
theorem rf_get {p : List Int} (t : Nat) (i : Int) (r : Nat) : (rfL p t i).getD r 0 = rfG p t i r := by
  unfold rfL
  by_cases h : r < rfK p t i
  · exact fnRow_get _ _ _ h
  · rw [getD_out' (by rw [fnRow_len]; omega)]
    by_cases h2 : r < p.length + 1
    · exact (rf_zero t i (by omega) h2).symm
    · unfold rfG
      split
      · unfold aR
        rw [getD_out' (show p.length ≤ r by omega), decide_eq_false h2]; rfl
      · unfold cR
        rw [getD_out' (show p.length ≤ r by omega), decide_eq_false (show ¬ r < p.length by omega)]; rfl
open Classical in
theorem rf_up {p : List Int} (G : Good p) {t : Nat} {i : Int} (hg : grw p t i = true) (r : Nat) : num (rfL p t i) r = num p r + if ¬ Bd p (num p r + 1) ∧ (num p r + 1) % (t : Int) = i then 1 else 0 := by
  have e : num (rfL p t i) r = rfG p t i r - r - 1 := by unfold num; rw [rf_get]
  rw [e]
  unfold rfG
  rw [if_pos hg]
  unfold aR
  have h4 : num p r = p.getD r 0 - r - 1 := rfl
  have hq : qA p t i r = decide ((num p r + 1) % (t : Int) = i) := by unfold qA; rw [h4, show p.getD r 0 - (r : Int) - 1 + 1 = p.getD r 0 - r by omega]
  have ha := add_bd G r
  by_cases h1 : (decide (r < p.length + 1) && addB p r) = true
  · by_cases h2 : (num p r + 1) % (t : Int) = i
    · rw [if_pos (by rw [h1, hq, decide_eq_true h2]; rfl), if_pos ⟨ha.1 h1, h2⟩]; omega
    · rw [if_neg (by rw [hq, decide_eq_false h2]; simp), if_neg fun h => h2 h.2]; omega
  · rw [if_neg (by intro h; rw [Bool.and_eq_true] at h; exact h1 h.1), if_neg fun h => h1 (ha.2 h.1)]; omega
open Classical in
theorem rf_down {p : List Int} (G : Good p) {t : Nat} {i : Int} (hg : grw p t i = false) (r : Nat) : num (rfL p t i) r = num p r - if ¬ Bd p (num p r - 1) ∧ num p r % (t : Int) = i then 1 else 0 := by
  have e : num (rfL p t i) r = rfG p t i r - r - 1 := by unfold num; rw [rf_get]
  rw [e]
  unfold rfG
  rw [if_neg (by rw [hg]; simp)]
  unfold cR
  have h4 : num p r = p.getD r 0 - r - 1 := rfl
  have hq : qC p t i r = decide (num p r % (t : Int) = i) := by unfold qC; rw [h4, show p.getD r 0 - (r : Int) - 1 = p.getD r 0 - 1 - r by omega]
  have ha := cor_bd G r
  by_cases h1 : (decide (r < p.length) && corB p r) = true
  · by_cases h2 : num p r % (t : Int) = i
    · rw [if_pos (by rw [h1, hq, decide_eq_true h2]; rfl), if_pos ⟨ha.1 h1, h2⟩]; omega
    · rw [if_neg (by rw [hq, decide_eq_false h2]; simp), if_neg fun h => h2 h.2]; omega
  · rw [if_neg (by intro h; rw [Bool.and_eq_true] at h; exact h1 h.1), if_neg fun h => h1 (ha.2 h.1)]; omega
theorem mod_sub (x : Int) (t : Nat) : (x - t) % (t : Int) = x % t := by simp
theorem mod_next {x : Int} {t : Nat} (ht : 2 ≤ t) {i : Int} (h1 : x % (t : Int) = i) (h2 : (x + 1) % (t : Int) = i) : False := by
  have h : (x + 1 - x) % (t : Int) = 0 := by rw [Int.sub_emod, h1, h2]; simp
  rw [show x + 1 - x = 1 by omega, Int.emod_eq_of_lt (by omega) (by omega)] at h
  omega
theorem rf_dn {p : List Int} (G : Good p) {t : Nat} (ht : 2 ≤ t) {i : Int} (hD : Dn p t) : Dn (rfL p t i) t := by
  have hB : ∀ x, Bd p x → Bd p (x - t) := fun x ⟨r, hr⟩ => by
    obtain ⟨s, hs⟩ := hD r
    exact ⟨s, by omega⟩
  intro r
  cases hg : grw p t i
  · have key := rf_down G hg
    have hr := key r
    by_cases hm : ¬ Bd p (num p r - 1) ∧ num p r % (t : Int) = i
    · rw [if_pos hm] at hr
      obtain ⟨s, hs⟩ := hD r
      have hsi : num p s % (t : Int) = i := by rw [hs, mod_sub]; exact hm.2
      by_cases hb : Bd p (num p s - 1)
      · obtain ⟨u, hu⟩ := hb
        refine ⟨u, ?_⟩
        rw [key u, if_neg, hr]
        · omega
        · rintro ⟨_, h2⟩
          rw [hu] at h2
          exact mod_next ht h2 (by rw [show num p s - 1 + 1 = num p s by omega]; exact hsi)
      · exact ⟨s, by rw [key s, if_pos ⟨hb, hsi⟩, hr]; omega⟩
    · rw [if_neg hm] at hr
      obtain ⟨s, hs⟩ := hD r
      refine ⟨s, ?_⟩
      rw [key s, if_neg, hr]
      · omega
      · rintro ⟨h1, h2⟩
        rw [hs, mod_sub] at h2
        refine hm ⟨fun hb => h1 ?_, h2⟩
        have := hB _ hb
        rw [hs, show num p r - (t : Int) - 1 = num p r - 1 - t by omega]; exact this
  · have key := rf_up G hg
    have hr := key r
    by_cases hm : ¬ Bd p (num p r + 1) ∧ (num p r + 1) % (t : Int) = i
    · rw [if_pos hm] at hr
      obtain ⟨s, hs⟩ := hD r
      have hsi : (num p s + 1) % (t : Int) = i := by rw [hs, show num p r - (t : Int) + 1 = num p r + 1 - t by omega, mod_sub]; exact hm.2
      by_cases hb : Bd p (num p s + 1)
      · obtain ⟨u, hu⟩ := hb
        refine ⟨u, ?_⟩
        rw [key u, if_neg, hr]
        · omega
        · rintro ⟨_, h2⟩
          rw [hu] at h2
          exact mod_next ht hsi h2
      · exact ⟨s, by rw [key s, if_pos ⟨hb, hsi⟩, hr]; omega⟩
    · rw [if_neg hm] at hr
      obtain ⟨s, hs⟩ := hD r
      refine ⟨s, ?_⟩
      rw [key s, if_neg, hr]
      · omega
      · rintro ⟨h1, h2⟩
        rw [hs, show num p r - (t : Int) + 1 = num p r + 1 - t by omega, mod_sub] at h2
        refine hm ⟨fun hb => h1 ?_, h2⟩
        have := hB _ hb
        rw [hs, show num p r - (t : Int) + 1 = num p r + 1 - t by omega]; exact this
theorem core_Dn {p : List Int} {t : Int} (h : isCoreF p t = true) : Dn p t := by
  have hg : crB p t = true := by unfold isCoreF at h; rw [Bool.and_eq_true] at h; exact h.1
  obtain ⟨h1, h2⟩ := crB_good hg
  have G := (good_iff p).1 h1
  have ht := inB_iff.1 h2
  refine no_hook_dn G (by omega) fun r c hr hc he => ?_
  have hin := hook_in hr hc
  have := core_no hg hr hin (by rw [(hook_at hr hin).1, he, Int.tmod_self])
  rw [h] at this; cases this
theorem Dn_core {p : List Int} {t : Int} (hg : crB p t = true) (h : Dn p t) : isCoreF p t = true := by
  obtain ⟨h1, h2⟩ := crB_good hg
  have G := (good_iff p).1 h1
  have ht := inB_iff.1 h2
  refine core_yes hg fun r hr c hc hm => ?_
  obtain ⟨e, hlt⟩ := hook_at hr hc
  rw [e] at hm
  exact dn_no_div G (by omega) h r c hr hlt (Int.emod_eq_zero_of_dvd (Int.dvd_of_tmod_eq_zero hm))
/-- The reflection of a core is a core, if it has cells enough to be a partition at all. -/
theorem rf_core {p : List Int} {t : Nat} {i : Int} (h : isCoreF p t = true) (hg : good (rfL p t i) = true) : isCoreF (rfL p t i) t = true := by
  have hc : crB p t = true := by unfold isCoreF at h; rw [Bool.and_eq_true] at h; exact h.1
  obtain ⟨h1, h2⟩ := crB_good hc
  have ht := inB_iff.1 h2
  exact Dn_core (by unfold crB; rw [hg, h2]; rfl) (rf_dn ((good_iff p).1 h1) (by omega) (core_Dn h))
end Go.Proofs.Ytiebnnchaopbkaa
