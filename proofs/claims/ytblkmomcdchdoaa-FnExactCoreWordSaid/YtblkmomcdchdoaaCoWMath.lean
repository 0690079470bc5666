/-
  Words of cores: a core with cells has a residue whose reflection takes cells away. No program in this text.
-/
import Derived.Test.YtblkmomcdchdoaaRfDn
import Derived.Test.YtblkmomcdchdoaaChnMath
namespace Go.Proofs.Ytblkmomcdchdoaa
open Go.RowKit

theorem sum_take_w (xs : List Int) (k : Nat) : (xs.take (k + 1)).sum = (xs.take k).sum + xs.getD k 0 := by
  by_cases h : k < xs.length
  · exact sum_take_succ xs k h
  · rw [List.take_of_length_le (by omega), List.take_of_length_le (by omega), getD_out' (by omega)]; omega
theorem sum_ptw {a b : List Int} (h : ∀ r, a.getD r 0 ≤ b.getD r 0) : ∀ k, (a.take k).sum ≤ (b.take k).sum ∧ ∀ r, r < k → a.getD r 0 < b.getD r 0 → (a.take k).sum < (b.take k).sum
  | 0 => ⟨by simp, fun r hr => absurd hr (by omega)⟩
  | k + 1 => by
    obtain ⟨h1, h2⟩ := sum_ptw h k
    have := h k
    rw [sum_take_w, sum_take_w]
    refine ⟨by omega, fun r hr hlt => ?_⟩
    by_cases e : r = k
    · subst e; omega
    · have := h2 r (by omega) hlt; omega
theorem sum_le_ptw {a b : List Int} (h : ∀ r, a.getD r 0 ≤ b.getD r 0) : a.sum ≤ b.sum ∧ ∀ r, a.getD r 0 < b.getD r 0 → a.sum < b.sum := by
  have key := sum_ptw h
  have ha : ∀ k, a.length ≤ k → a.take k = a := fun k hk => List.take_of_length_le hk
  have hb : ∀ k, b.length ≤ k → b.take k = b := fun k hk => List.take_of_length_le hk
  refine ⟨?_, fun r hr => ?_⟩
  · have := (key (a.length + b.length)).1
    rwa [ha _ (by omega), hb _ (by omega)] at this
  · have := (key (a.length + b.length + r + 1)).2 r (by omega) hr
    rwa [ha _ (by omega), hb _ (by omega)] at this
theorem eq_of_getD {a b : List Int} (ha : ∀ j, j < a.length → 1 ≤ a.getD j 0) (hb : ∀ j, j < b.length → 1 ≤ b.getD j 0) (h : ∀ r, a.getD r 0 = b.getD r 0) : a = b := by
  have hl : a.length = b.length := by
    apply Classical.byContradiction
    intro hh
    by_cases h1 : a.length < b.length
    · have e1 := hb a.length h1
      rw [← h, getD_out' (Nat.le_refl _)] at e1; omega
    · have e1 := ha b.length (by omega)
      rw [h, getD_out' (Nat.le_refl _)] at e1; omega
  apply List.ext_getElem hl
  intro i h1 h2
  have := h i
  simpa [List.getD, h1, h2] using this
/-- What takes cells away leaves a partition, with fewer cells if it is another one. -/
theorem rf_less {p : List Int} (G : Good p) {t : Nat} {i : Int} (hg : grw p t i = false) : Good (rfL p t i) ∧ (∀ r, (rfL p t i).getD r 0 ≤ p.getD r 0) ∧ (∀ r, (rfL p t i).getD r 0 = p.getD r 0 - if (decide (r < p.length) && corB p r) && qC p t i r then 1 else 0) := by
  have key : ∀ r, (rfL p t i).getD r 0 = p.getD r 0 - if (decide (r < p.length) && corB p r) && qC p t i r then 1 else 0 := by
    intro r
    rw [rf_get]
    unfold rfG
    rw [if_neg (by rw [hg]; decide)]
    unfold cR
    split <;> omega
  have hle : ∀ r, (rfL p t i).getD r 0 ≤ p.getD r 0 := fun r => by rw [key]; split <;> omega
  have hsum := (sum_le_ptw hle).1
  have hlen : (rfL p t i).length = rfK p t i := fnRow_len _ _
  have hK : rfK p t i ≤ p.length := by
    unfold rfK
    rw [if_neg (by rw [hg]; decide)]
    split <;> omega
  have hnn : ∀ r, 0 ≤ (rfL p t i).getD r 0 := fun r => by
    rw [key]
    by_cases h : r < p.length
    · have := G.pos r h; split <;> omega
    · rw [decide_eq_false h]
      simp only [Bool.false_and, getD_out' (show p.length ≤ r by omega)]; decide
  have hdown : ∀ j, j + 1 < p.length → (rfL p t i).getD (j + 1) 0 ≤ (rfL p t i).getD j 0 := by
    intro j hj
    rw [key, key]
    have hd := G.down j hj
    by_cases hc : (decide (j < p.length) && corB p j) = true
    · have h1 := (Bool.and_eq_true _ _ ▸ hc)
      have h2 : p.getD (j + 1) 0 < p.getD j 0 := by
        have h3 := h1.2
        unfold corB at h3
        rw [Bool.or_eq_true, decide_eq_true_eq, decide_eq_true_eq] at h3
        rcases h3 with h3 | h3
        · omega
        · exact h3
      split <;> split <;> omega
    · have e : ((decide (j < p.length) && corB p j) && qC p t i j) = false := by
        rw [Bool.eq_false_iff.2 hc]; rfl
      rw [e, if_neg (show ¬ (false = true) by decide)]
      split <;> omega
  have hpos : ∀ j, j < (rfL p t i).length → 1 ≤ (rfL p t i).getD j 0 := by
    intro j hj
    rw [hlen] at hj
    have hl := rf_last G t i (show 0 < rfK p t i by omega)
    rw [← rf_get] at hl
    have hn := hnn (rfK p t i - 1)
    have down : ∀ d, j + d < p.length → (rfL p t i).getD (j + d) 0 ≤ (rfL p t i).getD j 0 := by
      intro d
      induction d with
      | zero => intro _; exact Int.le_refl _
      | succ d ih =>
        intro h
        have := hdown (j + d) (by omega)
        have := ih (by omega)
        rw [show j + (d + 1) = j + d + 1 by omega]; omega
    have := down (rfK p t i - 1 - j) (by omega)
    rw [show j + (rfK p t i - 1 - j) = rfK p t i - 1 by omega] at this
    omega
  have hs0 := sum_nn (rfL p t i) fun j _ => hnn j
  have := G.sum
  have hG : Good (rfL p t i) := ⟨by have := G.len; omega, hpos, fun j hj => by have := hle j; have := G.le j (by omega); omega, fun j hj => hdown j (by omega), hs0, by omega⟩
  exact ⟨hG, hle, key⟩
/-- The reflection takes cells away. -/
def dsB (p : List Int) (t : Nat) (i : Int) : Bool := !grw p t i && decide (¬ rfL p t i = p)
theorem ds_less {p : List Int} (G : Good p) {t : Nat} {i : Int} (h : dsB p t i = true) : Good (rfL p t i) ∧ (rfL p t i).sum < p.sum := by
  unfold dsB at h
  rw [Bool.and_eq_true, decide_eq_true_eq, Bool.not_eq_true'] at h
  obtain ⟨g, hle, _⟩ := rf_less G h.1
  refine ⟨g, ?_⟩
  apply Classical.byContradiction
  intro hh
  refine h.2 (eq_of_getD g.pos G.pos fun r => ?_)
  apply Classical.byContradiction
  intro hne
  have := hle r
  exact hh ((sum_le_ptw hle).2 r (by omega))
theorem ds_impl {p : List Int} (G : Good p) (t : Nat) (i : Int) : (good (rfL p t i) && decide ((rfL p t i).sum < p.sum)) = dsB p t i := by
  cases h : dsB p t i
  · cases hg : grw p t i
    · unfold dsB at h
      rw [hg] at h
      have e : rfL p t i = p := by
        apply Classical.byContradiction
        intro hne
        rw [decide_eq_true hne] at h; cases h
      rw [e, decide_eq_false (Int.lt_irrefl _), Bool.and_false]
    · rw [decide_eq_false, Bool.and_false]
      have hle : ∀ r, p.getD r 0 ≤ (rfL p t i).getD r 0 := fun r => by
        rw [rf_get]; unfold rfG; rw [if_pos hg]; unfold aR; split <;> omega
      have := (sum_le_ptw hle).1
      omega
  · obtain ⟨g, hs⟩ := ds_less G h
    rw [(good_iff _).2 g, decide_eq_true hs]; rfl
/-- A core with cells has such a residue. -/
theorem ds_ex {p : List Int} (G : Good p) (h0 : 0 < p.length) {t : Nat} (ht : 2 ≤ t) (hD : Dn p t) : ∃ i : Nat, i < t ∧ dsB p t i = true := by
  obtain ⟨m, hm⟩ : ∃ m, p.length = m + 1 := ⟨p.length - 1, by omega⟩
  have hcor : (decide (m < p.length) && corB p m) = true := by
    rw [decide_eq_true (by omega)]
    unfold corB
    rw [decide_eq_true (show m + 1 = p.length by omega)]; rfl
  have hnb := (cor_bd G m).1 hcor
  have hm0 := Int.emod_nonneg (num p m) (show (t : Int) ≠ 0 by omega)
  have hm1 := Int.emod_lt_of_pos (num p m) (show (0 : Int) < t by omega)
  obtain ⟨i, hi⟩ : ∃ i : Nat, num p m % (t : Int) = i := ⟨(num p m % (t : Int)).toNat, by omega⟩
  refine ⟨i, by omega, ?_⟩
  have hB : ∀ x, Bd p x → Bd p (x - t) := fun x ⟨r, hr⟩ => by
    obtain ⟨s, hs⟩ := hD r
    exact ⟨s, by omega⟩
  have hBk : ∀ (k : Nat) x, Bd p x → Bd p (x - t * k) := by
    intro k
    induction k with
    | zero => intro x h; simpa using h
    | succ k ih =>
      intro x h
      have := hB _ (ih x h)
      rw [show x - (t : Int) * ((k + 1 : Nat) : Int) = x - (t : Int) * (k : Int) - t by rw [show ((k + 1 : Nat) : Int) = (k : Int) + 1 by omega, Int.mul_add]; omega]
      exact this
  have hng : grw p t i = false := by
    cases hg : grw p t i
    · rfl
    · exfalso
      unfold grw anyK at hg
      rw [List.take_of_length_le (Nat.le_refl _), List.any_eq_true] at hg
      obtain ⟨x, hx, hq⟩ := hg
      obtain ⟨r, hr, ha, rfl⟩ := mem_filt.1 hx
      rw [Int.toNat_natCast] at hq
      have hnb2 := (add_bd G r).1 (by rw [decide_eq_true hr, ha]; rfl)
      have h4 : num p r = p.getD r 0 - r - 1 := rfl
      have hq2 : (num p r + 1) % (t : Int) = i := by
        unfold qA at hq
        rw [decide_eq_true_eq] at hq
        rw [h4, show p.getD r 0 - (r : Int) - 1 + 1 = p.getD r 0 - r by omega]; exact hq
      have hdv : (t : Int) ∣ (num p r + 1) - num p m := by
        have := Int.emod_emod_of_dvd
        refine Int.dvd_of_emod_eq_zero ?_
        rw [Int.sub_emod, hq2, hi]; simp
      obtain ⟨q, hqe⟩ := hdv
      by_cases hq0 : q ≤ 0
      · have := hBk (-q).toNat _ ⟨m, rfl⟩
        rw [show ((-q).toNat : Int) = -q by omega, show num p m - (t : Int) * -q = num p m + t * q by rw [Int.mul_neg]; omega, ← hqe, show num p m + (num p r + 1 - num p m) = num p r + 1 by omega] at this
        exact hnb2 this
      · have := hBk q.toNat _ ⟨r, rfl⟩
        rw [show (q.toNat : Int) = q by omega, ← hqe, show num p r - (num p r + 1 - num p m) = num p m - 1 by omega] at this
        exact hnb this
  unfold dsB
  rw [hng]
  have hne : ¬ rfL p t i = p := by
    intro e
    have hk := (rf_less G hng).2.2 m
    have hq : qC p t i m = true := by
      unfold qC
      have h4 : num p m = p.getD m 0 - m - 1 := rfl
      rw [decide_eq_true_eq, show p.getD m 0 - 1 - (m : Int) = num p m by omega]; exact hi
    rw [hcor, hq, e] at hk
    simp at hk
    omega
  rw [decide_eq_true hne]; rfl

/-! The word. -/
def firstC (p : List Int) (t : Nat) : Nat := ((List.range t).find? fun i : Nat => dsB p t i).getD 0
theorem find_first {n k : Nat} {f : Nat → Bool} (hk : k < n) (hb : ∀ j, j < k → f j = false) (h : f k = true) : (List.range n).find? f = some k := by
  rw [List.find?_eq_some_iff_getElem]
  refine ⟨h, k, by rw [List.length_range]; exact hk, by simp, fun j hj => ?_⟩
  rw [List.getElem_range, hb j hj]; rfl
theorem firstC_eq {p : List Int} {t k : Nat} (hk : k < t) (hb : ∀ j, j < k → dsB p t (j : Nat) = false) (h : dsB p t (k : Nat) = true) : firstC p t = k := by
  unfold firstC
  rw [find_first (f := fun i : Nat => dsB p t i) hk hb h]; rfl
theorem firstC_lt {p : List Int} {t : Nat} (h : ∃ i : Nat, i < t ∧ dsB p t i = true) : firstC p t < t ∧ dsB p t (firstC p t : Nat) = true := by
  obtain ⟨i, hi, ha⟩ := h
  unfold firstC
  cases hf : (List.range t).find? (fun i : Nat => dsB p t i) with
  | none => exact absurd ha (by have := List.find?_eq_none.1 hf i (List.mem_range.2 hi); simpa using this)
  | some k => exact ⟨List.mem_range.1 (List.mem_of_find?_eq_some hf), by have := List.find?_some hf; exact this⟩
def nextC (t : Nat) (p : List Int) : List Int := rfL p t (firstC p t : Nat)
def dwc (t : Nat) (p : List Int) : Nat → List Int
  | 0 => p
  | k + 1 => nextC t (dwc t p k)
theorem dwc_front (t : Nat) (p : List Int) : ∀ k, dwc t p (k + 1) = dwc t (nextC t p) k
  | 0 => rfl
  | k + 1 => by rw [dwc, dwc_front t p k]; rfl
theorem nextC_ok {p : List Int} {t : Nat} (h : isCoreF p t = true) (h0 : 0 < p.length) : isCoreF (nextC t p) t = true ∧ (nextC t p).sum < p.sum := by
  have hc : crB p t = true := by unfold isCoreF at h; rw [Bool.and_eq_true] at h; exact h.1
  obtain ⟨h1, h2⟩ := crB_good hc
  have G := (good_iff p).1 h1
  have ht := inB_iff.1 h2
  obtain ⟨_, hd⟩ := firstC_lt (ds_ex G h0 (by omega) (core_Dn h))
  obtain ⟨g, hs⟩ := ds_less G hd
  exact ⟨rf_core h ((good_iff _).2 g), hs⟩
theorem core_good {p : List Int} {t : Int} (h : isCoreF p t = true) : Good p ∧ 2 ≤ t ∧ t ≤ 6 ∧ Dn p t := by
  have hc : crB p t = true := by unfold isCoreF at h; rw [Bool.and_eq_true] at h; exact h.1
  obtain ⟨h1, h2⟩ := crB_good hc
  have ht := inB_iff.1 h2
  exact ⟨(good_iff p).1 h1, ht.1, ht.2, core_Dn h⟩
theorem cw_steps (t : Nat) : ∀ (n : Nat) (p : List Int), isCoreF p t = true → p.sum ≤ n → ∃ K, K ≤ n ∧ (dwc t p K).length = 0 ∧ ∀ k, k ≤ K → isCoreF (dwc t p k) t = true ∧ (k < K → 0 < (dwc t p k).length)
  | n, p, h, hn => by
    by_cases h0 : p.length = 0
    · exact ⟨0, Nat.zero_le _, h0, fun k hk => ⟨by rw [show k = 0 by omega]; exact h, fun hh => absurd hh (by omega)⟩⟩
    · obtain ⟨G, _⟩ := core_good h
      obtain ⟨h1, h2⟩ := nextC_ok h (by omega)
      match n with
      | 0 =>
        exfalso
        have := len_sum p G.pos
        omega
      | n + 1 =>
        obtain ⟨K, a, b, c⟩ := cw_steps t n (nextC t p) h1 (by omega)
        refine ⟨K + 1, by omega, by rw [dwc_front]; exact b, fun k hk => ?_⟩
        cases k with
        | zero => exact ⟨h, fun _ => by show 0 < p.length; omega⟩
        | succ k =>
          rw [dwc_front]
          obtain ⟨d, e⟩ := c k (by omega)
          exact ⟨d, fun hh => e (by omega)⟩
def cwoK (t : Nat) (p : List Int) : Nat := ((List.range 31).find? fun k => decide ((dwc t p k).length = 0)).getD 0
theorem cwoK_ok {p : List Int} {t : Nat} (h : isCoreF p t = true) : cwoK t p ≤ 30 ∧ (dwc t p (cwoK t p)).length = 0 ∧ ∀ k, k ≤ cwoK t p → isCoreF (dwc t p k) t = true ∧ (k < cwoK t p → 0 < (dwc t p k).length) := by
  obtain ⟨G, _⟩ := core_good h
  obtain ⟨K, a, b, c⟩ := cw_steps t 30 p h G.sum
  have e : cwoK t p = K := by
    unfold cwoK
    rw [find_first (f := fun k => decide ((dwc t p k).length = 0)) (k := K) (by omega) (fun j hj => decide_eq_false (by have := (c j (by omega)).2 hj; omega)) (decide_eq_true b)]; rfl
  rw [e]
  exact ⟨a, b, c⟩
def cwo (t : Nat) (p : List Int) (k : Nat) : List Int := (List.range k).map fun j => ((firstC (dwc t p j) t : Nat) : Int)
theorem cwo_len (t : Nat) (p : List Int) (k : Nat) : (cwo t p k).length = k := by simp [cwo]
theorem cwo_succ (t : Nat) (p : List Int) (k : Nat) : cwo t p (k + 1) = cwo t p k ++ [((firstC (dwc t p k) t : Nat) : Int)] := by simp [cwo, List.range_succ]
def cwoL (t : Nat) (p : List Int) : List Int := cwo t p (cwoK t p)
def cwoF (p : List Int) (t : Int) : List Int := if isCoreF p t then cwoL t.toNat p else []
theorem bound_CoreWord (p : List Int) (t : Int) : (cwoF p t).length ≤ 1048576 := by
  unfold cwoF; split
  · rename_i h
    obtain ⟨_, h1, _⟩ := core_good h
    have h2 : isCoreF p (t.toNat : Nat) = true := by rw [show ((t.toNat : Nat) : Int) = t by omega]; exact h
    have := (cwoK_ok h2).1
    unfold cwoL; rw [cwo_len]; omega
  · simp
end Go.Proofs.Ytblkmomcdchdoaa
