/-
  Several texts in one.
-/
import Derived.Test.YthkkiakfmbnfeaaR18
import Derived.Test.YthkkiakfmbnfeaaR20
import Derived.Test.YthkkiakfmbnfeaaR33
/-
  Words of cores: a core with cells has a residue whose reflection takes cells away. No program in this text.
-/
namespace Go.Proofs.Ythkkiakfmbnfeaa
open Go.RowKit

theorem sum_take_w (xs : List Int) (k : Nat) : (xs.take (k + 1)).sum = (xs.take k).sum + xs.getD k 0 := by
  by_cases h : k < xs.length
  · exact sum_take_succ xs k h
  · rw [List.take_of_length_le (by omega), List.take_of_length_le (by omega), getD_out' (by omega)]; omega
theorem sum_ptw {a b : List Int} (h : ∀ r, a.getD r 0 ≤ b.getD r 0) : ∀ k, (a.take k).sum ≤ (b.take k).sum ∧ ∀ r, r < k → a.getD r 0 < b.getD r 0 → (a.take k).sum < (b.take k).sum
  | 0 => ⟨by simp, fun r hr => absurd hr (by omega)⟩
  | k + 1 => by
    obtain ⟨h1, h2⟩ := sum_ptw h k
    have := h k
    rw [sum_take_w, sum_take_w]
    refine ⟨by omega, fun r hr hlt => ?_⟩
    by_cases e : r = k
    · subst e; omega
    · have := h2 r (by omega) hlt; omega
theorem sum_le_ptw {a b : List Int} (h : ∀ r, a.getD r 0 ≤ b.getD r 0) : a.sum ≤ b.sum ∧ ∀ r, a.getD r 0 < b.getD r 0 → a.sum < b.sum := by
  have key := sum_ptw h
  have ha : ∀ k, a.length ≤ k → a.take k = a := fun k hk => List.take_of_length_le hk
  have hb : ∀ k, b.length ≤ k → b.take k = b := fun k hk => List.take_of_length_le hk
  refine ⟨?_, fun r hr => ?_⟩
  · have := (key (a.length + b.length)).1
    rwa [ha _ (by omega), hb _ (by omega)] at this
  · have := (key (a.length + b.length + r + 1)).2 r (by omega) hr
    rwa [ha _ (by omega), hb _ (by omega)] at this
theorem eq_of_getD {a b : List Int} (ha : ∀ j, j < a.length → 1 ≤ a.getD j 0) (hb : ∀ j, j < b.length → 1 ≤ b.getD j 0) (h : ∀ r, a.getD r 0 = b.getD r 0) : a = b := by
  have hl : a.length = b.length := by
    apply Classical.byContradiction
    intro hh
    by_cases h1 : a.length < b.length
    · have e1 := hb a.length h1
      rw [← h, getD_out' (Nat.le_refl _)] at e1; omega
    · have e1 := ha b.length (by omega)
      rw [h, getD_out' (Nat.le_refl _)] at e1; omega
  apply List.ext_getElem hl
  intro i h1 h2
  have := h i
  simpa [List.getD, h1, h2] using this
/-- What takes cells away leaves a partition, with fewer cells if it is another one. -/
theorem rf_less {p : List Int} (G : Good p) {t : Nat} {i : Int} (hg : grw p t i = false) : Good (rfL p t i) ∧ (∀ r, (rfL p t i).getD r 0 ≤ p.getD r 0) ∧ (∀ r, (rfL p t i).getD r 0 = p.getD r 0 - if (decide (r < p.length) && corB p r) && qC p t i r then 1 else 0) := by
  have key : ∀ r, (rfL p t i).getD r 0 = p.getD r 0 - if (decide (r < p.length) && corB p r) && qC p t i r then 1 else 0 := by
    intro r
    rw [rf_get]
    unfold rfG
    rw [if_neg (by rw [hg]; decide)]
    unfold cR
    split <;> omega
  have hle : ∀ r, (rfL p t i).getD r 0 ≤ p.getD r 0 := fun r => by rw [key]; split <;> omega
  have hsum := (sum_le_ptw hle).1
  have hlen : (rfL p t i).length = rfK p t i := fnRow_len _ _
  have hK : rfK p t i ≤ p.length := by
    unfold rfK
    rw [if_neg (by rw [hg]; decide)]
    split <;> omega
  have hnn : ∀ r, 0 ≤ (rfL p t i).getD r 0 := fun r => by
    rw [key]
    by_cases h : r < p.length
    · have := G.pos r h; split <;> omega
    · rw [decide_eq_false h]
      simp only [Bool.false_and, getD_out' (show p.length ≤ r by omega)]; decide
  have hdown : ∀ j, j + 1 < p.length → (rfL p t i).getD (j + 1) 0 ≤ (rfL p t i).getD j 0 := by
    intro j hj
    rw [key, key]
    have hd := G.down j hj
    by_cases hc : (decide (j < p.length) && corB p j) = true
    · have h1 := (Bool.and_eq_true _ _ ▸ hc)
      have h2 : p.getD (j + 1) 0 < p.getD j 0 := by
        have h3 := h1.2
        unfold corB at h3
        rw [Bool.or_eq_true, decide_eq_true_eq, decide_eq_true_eq] at h3
        rcases h3 with h3 | h3
        · omega
        · exact h3
      split <;> split <;> omega
    · have e : ((decide (j < p.length) && corB p j) && qC p t i j) = false := by
        rw [Bool.eq_false_iff.2 hc]; rfl
      rw [e, if_neg (show ¬ (false = true) by decide)]
      split <;> omega
  have hpos : ∀ j, j < (rfL p t i).length → 1 ≤ (rfL p t i).getD j 0 := by
    intro j hj
    rw [hlen] at hj
    have hl := rf_last G t i (show 0 < rfK p t i by omega)
    rw [← rf_get] at hl
    have hn := hnn (rfK p t i - 1)
    have down : ∀ d, j + d < p.length → (rfL p t i).getD (j + d) 0 ≤ (rfL p t i).getD j 0 := by
      intro d
      induction d with
      | zero => intro _; exact Int.le_refl _
      | succ d ih =>
        intro h
        have := hdown (j + d) (by omega)
        have := ih (by omega)
        rw [show j + (d + 1) = j + d + 1 by omega]; omega
    have := down (rfK p t i - 1 - j) (by omega)
    rw [show j + (rfK p t i - 1 - j) = rfK p t i - 1 by omega] at this
    omega
  have hs0 := sum_nn (rfL p t i) fun j _ => hnn j
  have := G.sum
  have hG : Good (rfL p t i) := ⟨by have := G.len; omega, hpos, fun j hj => by have := hle j; have := G.le j (by omega); omega, fun j hj => hdown j (by omega), hs0, by omega⟩
  exact ⟨hG, hle, key⟩
/-- The reflection takes cells away. -/
def dsB (p : List Int) (t : Nat) (i : Int) : Bool := !grw p t i && decide (¬ rfL p t i = p)
theorem ds_less {p : List Int} (G : Good p) {t : Nat} {i : Int} (h : dsB p t i = true) : Good (rfL p t i) ∧ (rfL p t i).sum < p.sum := by
  unfold dsB at h
  rw [Bool.and_eq_true, decide_eq_true_eq, Bool.not_eq_true'] at h
  obtain ⟨g, hle, _⟩ := rf_less G h.1
  refine ⟨g, ?_⟩
  apply Classical.byContradiction
  intro hh
  refine h.2 (eq_of_getD g.pos G.pos fun r => ?_)
  apply Classical.byContradiction
  intro hne
  have := hle r
  exact hh ((sum_le_ptw hle).2 r (by omega))
theorem ds_impl {p : List Int} (G : Good p) (t : Nat) (i : Int) : (good (rfL p t i) && decide ((rfL p t i).sum < p.sum)) = dsB p t i := by
  cases h : dsB p t i
  · cases hg : grw p t i
    · unfold dsB at h
      rw [hg] at h
      have e : rfL p t i = p := by
        apply Classical.byContradiction
        intro hne
        rw [decide_eq_true hne] at h; cases h
      rw [e, decide_eq_false (Int.lt_irrefl _), Bool.and_false]
    · rw [decide_eq_false, Bool.and_false]
      have hle : ∀ r, p.getD r 0 ≤ (rfL p t i).getD r 0 := fun r => by
        rw [rf_get]; unfold rfG; rw [if_pos hg]; unfold aR; split <;> omega
      have := (sum_le_ptw hle).1
      omega
  · obtain ⟨g, hs⟩ := ds_less G h
    rw [(good_iff _).2 g, decide_eq_true hs]; rfl
/-- A core with cells has such a residue. -/
theorem ds_ex {p : List Int} (G : Good p) (h0 : 0 < p.length) {t : Nat} (ht : 2 ≤ t) (hD : Dn p t) : ∃ i : Nat, i < t ∧ dsB p t i = true := by
  obtain ⟨m, hm⟩ : ∃ m, p.length = m + 1 := ⟨p.length - 1, by omega⟩
  have hcor : (decide (m < p.length) && corB p m) = true := by
    rw [decide_eq_true (by omega)]
    unfold corB
    rw [decide_eq_true (show m + 1 = p.length by omega)]; rfl
  have hnb := (cor_bd G m).1 hcor
  have hm0 := Int.emod_nonneg (num p m) (show (t : Int) ≠ 0 by omega)
  have hm1 := Int.emod_lt_of_pos (num p m) (show (0 : Int) < t by omega)
  obtain ⟨i, hi⟩ : ∃ i : Nat, num p m % (t : Int) = i := ⟨(num p m % (t : Int)).toNat, by omega⟩
  refine ⟨i, by omega, ?_⟩
  have hB : ∀ x, Bd p x → Bd p (x - t) := fun x ⟨r, hr⟩ => by
    obtain ⟨s, hs⟩ := hD r
    exact ⟨s, by omega⟩
  have hBk : ∀ (k : Nat) x, Bd p x → Bd p (x - t * k) := by
    intro k
    induction k with
    | zero => intro x h; simpa using h
    | succ k ih =>
      intro x h
      have := hB _ (ih x h)
      rw [show x - (t : Int) * ((k + 1 : Nat) : Int) = x - (t : Int) * (k : Int) - t by rw [show ((k + 1 : Nat) : Int) = (k : Int) + 1 by omega, Int.mul_add]; omega]
      exact this
  have hng : grw p t i = false := by
    cases hg : grw p t i
    · rfl
    · exfalso
      unfold grw anyK at hg
      rw [List.take_of_length_le (Nat.le_refl _), List.any_eq_true] at hg
      obtain ⟨x, hx, hq⟩ := hg
      obtain ⟨r, hr, ha, rfl⟩ := mem_filt.1 hx
      rw [Int.toNat_natCast] at hq
      have hnb2 := (add_bd G r).1 (by rw [decide_eq_true hr, ha]; rfl)
      have h4 : num p r = p.getD r 0 - r - 1 := rfl
      have hq2 : (num p r + 1) % (t : Int) = i := by
        unfold qA at hq
        rw [decide_eq_true_eq] at hq
        rw [h4, show p.getD r 0 - (r : Int) - 1 + 1 = p.getD r 0 - r by omega]; exact hq
      have hdv : (t : Int) ∣ (num p r + 1) - num p m := by
        have := Int.emod_emod_of_dvd
        refine Int.dvd_of_emod_eq_zero ?_
        rw [Int.sub_emod, hq2, hi]; simp
      obtain ⟨q, hqe⟩ := hdv
      by_cases hq0 : q ≤ 0
      · have := hBk (-q).toNat _ ⟨m, rfl⟩
        rw [show ((-q).toNat : Int) = -q by omega, show num p m - (t : Int) * -q = num p m + t * q by rw [Int.mul_neg]; omega, ← hqe, show num p m + (num p r + 1 - num p m) = num p r + 1 by omega] at this
        exact hnb2 this
      · have := hBk q.toNat _ ⟨r, rfl⟩
        rw [show (q.toNat : Int) = q by omega, ← hqe, show num p r - (num p r + 1 - num p m) = num p m - 1 by omega] at this
        exact hnb this
  unfold dsB
  rw [hng]
  have hne : ¬ rfL p t i = p := by
    intro e
    have hk := (rf_less G hng).2.2 m
    have hq : qC p t i m = true := by
      unfold qC
      have h4 : num p m = p.getD m 0 - m - 1 := rfl
      rw [decide_eq_true_eq, show p.getD m 0 - 1 - (m : Int) = num p m by omega]; exact hi
    rw [hcor, hq, e] at hk
    simp at hk
    omega
  rw [decide_eq_true hne]; rfl

/-! The word. -/
def firstC (p : List Int) (t : Nat) : Nat := ((List.range t).find? fun i : Nat => dsB p t i).getD 0
theorem find_first {n k : Nat} {f : Nat → Bool} (hk : k < n) (hb : ∀ j, j < k → f j = false) (h : f k = true) : (List.range n).find? f = some k := by
  rw [List.find?_eq_some_iff_getElem]
  refine ⟨h, k, by rw [List.length_range]; exact hk, by simp, fun j hj => ?_⟩
  rw [List.getElem_range, hb j hj]; rfl
theorem firstC_eq {p : List Int} {t k : Nat} (hk : k < t) (hb : ∀ j, j < k → dsB p t (j : Nat) = false) (h : dsB p t (k : Nat) = true) : firstC p t = k := by
  unfold firstC
  rw [find_first (f := fun i : Nat => dsB p t i) hk hb h]; rfl
theorem firstC_lt {p : List Int} {t : Nat} (h : ∃ i : Nat, i < t ∧ dsB p t i = true) : firstC p t < t ∧ dsB p t (firstC p t : Nat) = true := by
  obtain ⟨i, hi, ha⟩ := h
  unfold firstC
  cases hf : (List.range t).find? (fun i : Nat => dsB p t i) with
  | none => exact absurd ha (by have := List.find?_eq_none.1 hf i (List.mem_range.2 hi); simpa using this)
  | some k => exact ⟨List.mem_range.1 (List.mem_of_find?_eq_some hf), by have := List.find?_some hf; exact this⟩
def nextC (t : Nat) (p : List Int) : List Int := rfL p t (firstC p t : Nat)
def dwc (t : Nat) (p : List Int) : Nat → List Int
  | 0 => p
  | k + 1 => nextC t (dwc t p k)
theorem dwc_front (t : Nat) (p : List Int) : ∀ k, dwc t p (k + 1) = dwc t (nextC t p) k
  | 0 => rfl
  | k + 1 => by rw [dwc, dwc_front t p k]; rfl
theorem nextC_ok {p : List Int} {t : Nat} (h : isCoreF p t = true) (h0 : 0 < p.length) : isCoreF (nextC t p) t = true ∧ (nextC t p).sum < p.sum := by
  have hc : crB p t = true := by unfold isCoreF at h; rw [Bool.and_eq_true] at h; exact h.1
  obtain ⟨h1, h2⟩ := crB_good hc
  have G := (good_iff p).1 h1
  have ht := inB_iff.1 h2
  obtain ⟨_, hd⟩ := firstC_lt (ds_ex G h0 (by omega) (core_Dn h))
  obtain ⟨g, hs⟩ := ds_less G hd
  exact ⟨rf_core h ((good_iff _).2 g), hs⟩
theorem core_good {p : List Int} {t : Int} (h : isCoreF p t = true) : Good p ∧ 2 ≤ t ∧ t ≤ 6 ∧ Dn p t := by
  have hc : crB p t = true := by unfold isCoreF at h; rw [Bool.and_eq_true] at h; exact h.1
  obtain ⟨h1, h2⟩ := crB_good hc
  have ht := inB_iff.1 h2
  exact ⟨(good_iff p).1 h1, ht.1, ht.2, core_Dn h⟩
theorem cw_steps (t : Nat) : ∀ (n : Nat) (p : List Int), isCoreF p t = true → p.sum ≤ n → ∃ K, K ≤ n ∧ (dwc t p K).length = 0 ∧ ∀ k, k ≤ K → isCoreF (dwc t p k) t = true ∧ (k < K → 0 < (dwc t p k).length)
  | n, p, h, hn => by
    by_cases h0 : p.length = 0
    · exact ⟨0, Nat.zero_le _, h0, fun k hk => ⟨by rw [show k = 0 by omega]; exact h, fun hh => absurd hh (by omega)⟩⟩
    · obtain ⟨G, _⟩ := core_good h
      obtain ⟨h1, h2⟩ := nextC_ok h (by omega)
      match n with
      | 0 =>
        exfalso
        have := len_sum p G.pos
        omega
      | n + 1 =>
        obtain ⟨K, a, b, c⟩ := cw_steps t n (nextC t p) h1 (by omega)
        refine ⟨K + 1, by omega, by rw [dwc_front]; exact b, fun k hk => ?_⟩
        cases k with
        | zero => exact ⟨h, fun _ => by show 0 < p.length; omega⟩
        | succ k =>
          rw [dwc_front]
          obtain ⟨d, e⟩ := c k (by omega)
          exact ⟨d, fun hh => e (by omega)⟩
def cwoK (t : Nat) (p : List Int) : Nat := ((List.range 31).find? fun k => decide ((dwc t p k).length = 0)).getD 0
theorem cwoK_ok {p : List Int} {t : Nat} (h : isCoreF p t = true) : cwoK t p ≤ 30 ∧ (dwc t p (cwoK t p)).length = 0 ∧ ∀ k, k ≤ cwoK t p → isCoreF (dwc t p k) t = true ∧ (k < cwoK t p → 0 < (dwc t p k).length) := by
  obtain ⟨G, _⟩ := core_good h
  obtain ⟨K, a, b, c⟩ := cw_steps t 30 p h G.sum
  have e : cwoK t p = K := by
    unfold cwoK
    rw [find_first (f := fun k => decide ((dwc t p k).length = 0)) (k := K) (by omega) (fun j hj => decide_eq_false (by have := (c j (by omega)).2 hj; omega)) (decide_eq_true b)]; rfl
  rw [e]
  exact ⟨a, b, c⟩
def cwo (t : Nat) (p : List Int) (k : Nat) : List Int := (List.range k).map fun j => ((firstC (dwc t p j) t : Nat) : Int)
theorem cwo_len (t : Nat) (p : List Int) (k : Nat) : (cwo t p k).length = k := by simp [cwo]
theorem cwo_succ (t : Nat) (p : List Int) (k : Nat) : cwo t p (k + 1) = cwo t p k ++ [((firstC (dwc t p k) t : Nat) : Int)] := by simp [cwo, List.range_succ]
def cwoL (t : Nat) (p : List Int) : List Int := cwo t p (cwoK t p)
def cwoF (p : List Int) (t : Int) : List Int := if isCoreF p t then cwoL t.toNat p else []
theorem bound_CoreWord (p : List Int) (t : Int) : (cwoF p t).length ≤ 1048576 := by
  unfold cwoF; split
  · rename_i h
    obtain ⟨_, h1, _⟩ := core_good h
    have h2 : isCoreF p (t.toNat : Nat) = true := by rw [show ((t.toNat : Nat) : Int) = t by omega]; exact h
    have := (cwoK_ok h2).1
    unfold cwoL; rw [cwo_len]; omega
  · simp
end Go.Proofs.Ythkkiakfmbnfeaa
/-
  A reflection of a core undoes itself, and its levels are those of the core reflected. No walk in this text.
-/
namespace Go.Proofs.Ythkkiakfmbnfeaa
open Go.RowKit

theorem num_inj {p : List Int} (G : Good p) {r s : Nat} (h : num p r = num p s) : r = s := by
  rcases Nat.lt_trichotomy r s with h1 | h1 | h1
  · have := num_lt G h1; omega
  · exact h1
  · have := num_lt G h1; omega
theorem num_nx {p : List Int} (G : Good p) {r s : Nat} (h : num p s = num p r + 1) : r = s + 1 := by
  rcases Nat.lt_trichotomy s r with h1 | h1 | h1
  · rcases Nat.lt_or_ge (s + 1) r with h2 | h2
    · have := num_lt G h2
      have := num_lt G (show s < s + 1 by omega); omega
    · omega
  · subst h1; omega
  · have := num_lt G h1; omega
theorem grw_iff {p : List Int} (G : Good p) {t : Nat} {i : Int} : grw p t i = true ↔ ∃ r, ¬ Bd p (num p r + 1) ∧ (num p r + 1) % (t : Int) = i := by
  have hq : ∀ r, qA p t i r = true ↔ (num p r + 1) % (t : Int) = i := fun r => by
    unfold qA num
    rw [show p.getD r 0 - (r : Int) - 1 + 1 = p.getD r 0 - r by omega, decide_eq_true_eq]
  unfold grw anyK
  rw [List.take_length, List.any_eq_true]
  constructor
  · rintro ⟨x, hx, h⟩
    obtain ⟨r, hr, ha, rfl⟩ := mem_filt.1 hx
    rw [Int.toNat_natCast] at h
    exact ⟨r, (add_bd G r).1 (by rw [decide_eq_true hr, ha]; rfl), (hq r).1 h⟩
  · rintro ⟨r, h1, h2⟩
    have := (add_bd G r).2 h1
    rw [Bool.and_eq_true, decide_eq_true_eq] at this
    exact ⟨(r : Int), mem_filt.2 ⟨r, this.1, this.2, rfl⟩, by rw [Int.toNat_natCast]; exact (hq r).2 h2⟩
theorem flush {p : List Int} {t : Nat} (D : Dn p t) {x : Int} (h : Bd p x) : ∀ k : Nat, Bd p (x - t * k)
  | 0 => by simpa using h
  | k + 1 => by
    obtain ⟨r, hr⟩ := flush D h k
    obtain ⟨s, hs⟩ := D r
    refine ⟨s, ?_⟩
    rw [hs, hr, show ((k + 1 : Nat) : Int) = (k : Int) + 1 by omega, Int.mul_add, Int.mul_one]; omega
theorem same_mod {t : Nat} {x y : Int} (h : x % (t : Int) = y % (t : Int)) (hle : x ≤ y) (ht : 0 < t) : ∃ k : Nat, x = y - t * k := by
  have h1 := Int.mul_ediv_add_emod x t
  have h2 := Int.mul_ediv_add_emod y t
  have h3 : x - y = (t : Int) * (x / t - y / t) := by rw [Int.mul_sub]; omega
  have h4 : x / (t : Int) - y / t ≤ 0 := by
    rcases Int.lt_or_le 0 (x / (t : Int) - y / t) with h5 | h5
    · have := Int.mul_le_mul_of_nonneg_left (show 1 ≤ x / (t : Int) - y / t by omega) (show (0 : Int) ≤ t by omega); omega
    · exact h5
  obtain ⟨k, hk⟩ : ∃ k : Nat, x / (t : Int) - y / t = -(k : Int) := ⟨(y / (t : Int) - x / t).toNat, by omega⟩
  refine ⟨k, ?_⟩
  rw [hk, Int.mul_neg] at h3; omega
theorem up_flush {p : List Int} (G : Good p) {t : Nat} (ht : 0 < t) {i : Int} (D : Dn p t) (hg : grw p t i = true) {y : Int} (hy : Bd p y) (hm : y % (t : Int) = i) : Bd p (y - 1) := by
  obtain ⟨r0, h1, h2⟩ := (grw_iff G).1 hg
  rcases Int.lt_or_le y (num p r0 + 1) with h | h
  · obtain ⟨k, hk⟩ := same_mod (hm.trans h2.symm) (by omega) ht
    have := flush D ⟨r0, rfl⟩ k
    rw [hk, show num p r0 + 1 - (t : Int) * k - 1 = num p r0 - t * k by omega]; exact this
  · obtain ⟨k, hk⟩ := same_mod (h2.trans hm.symm) h ht
    exact absurd (by rw [hk]; exact flush D hy k) h1
theorem no_up {p : List Int} (G : Good p) {t : Nat} {i : Int} (hg : grw p t i = false) {r : Nat} (h : (num p r + 1) % (t : Int) = i) : Bd p (num p r + 1) := by
  by_cases hb : Bd p (num p r + 1)
  · exact hb
  · have := (grw_iff G).2 ⟨r, hb, h⟩
    rw [hg] at this; cases this
theorem rf_up_y {p : List Int} (G : Good p) {t : Nat} {i : Int} (hg : grw p t i = true) {r : Nat} (h : ¬ Bd p (num p r + 1)) (h2 : (num p r + 1) % (t : Int) = i) : num (rfL p t i) r = num p r + 1 := by
  rw [rf_up G hg r, if_pos ⟨h, h2⟩]
theorem rf_up_n {p : List Int} (G : Good p) {t : Nat} {i : Int} (hg : grw p t i = true) {r : Nat} (h : ¬ (¬ Bd p (num p r + 1) ∧ (num p r + 1) % (t : Int) = i)) : num (rfL p t i) r = num p r := by
  rw [rf_up G hg r, if_neg h, Int.add_zero]
theorem rf_dn_y {p : List Int} (G : Good p) {t : Nat} {i : Int} (hg : grw p t i = false) {r : Nat} (h : ¬ Bd p (num p r - 1)) (h2 : num p r % (t : Int) = i) : num (rfL p t i) r = num p r - 1 := by
  rw [rf_down G hg r, if_pos ⟨h, h2⟩]
theorem rf_dn_n {p : List Int} (G : Good p) {t : Nat} {i : Int} (hg : grw p t i = false) {r : Nat} (h : ¬ (¬ Bd p (num p r - 1) ∧ num p r % (t : Int) = i)) : num (rfL p t i) r = num p r := by
  rw [rf_down G hg r, if_neg h, Int.sub_zero]
theorem num_ext {a b : List Int} (A : Good a) (B : Good b) (h : ∀ r, num a r = num b r) : a = b :=
  eq_of_getD A.pos B.pos fun r => by have := h r; unfold num at this; omega
/-- The reflection of a core undoes itself, number by number. -/
theorem rf_back {p : List Int} (G : Good p) {t : Nat} (ht : 2 ≤ t) {i : Int} (D : Dn p t) (Gq : Good (rfL p t i)) : ∀ r, num (rfL (rfL p t i) t i) r = num p r := by
  intro r
  cases hg : grw p t i
  · by_cases hex : ∃ r, ¬ Bd p (num p r - 1) ∧ num p r % (t : Int) = i
    · have hun : ∀ s, num (rfL p t i) s % (t : Int) = i → num (rfL p t i) s = num p s := fun s hs => by
        by_cases C : ¬ Bd p (num p s - 1) ∧ num p s % (t : Int) = i
        · rw [rf_dn_y G hg C.1 C.2] at hs
          exact absurd (by rw [show num p s - 1 + 1 = num p s by omega]; exact C.2) fun h2 => mod_next ht hs h2
        · exact rf_dn_n G hg C
      have hmv : ∀ s, ¬ Bd p (num p s - 1) → num p s % (t : Int) = i → num (rfL p t i) s = num p s - 1 ∧ ¬ Bd (rfL p t i) (num (rfL p t i) s + 1) := fun s h1 h2 => by
        have e := rf_dn_y G hg h1 h2
        refine ⟨e, ?_⟩
        rintro ⟨u, hu⟩
        rw [e, show num p s - 1 + 1 = num p s by omega] at hu
        have e2 := hun u (by rw [hu]; exact h2)
        have := num_inj G (show num p u = num p s by omega)
        subst this; omega
      obtain ⟨r0, c1, c2⟩ := hex
      have hgq : grw (rfL p t i) t i = true := by
        refine (grw_iff Gq).2 ⟨r0, (hmv r0 c1 c2).2, ?_⟩
        rw [(hmv r0 c1 c2).1, show num p r0 - 1 + 1 = num p r0 by omega]; exact c2
      by_cases C : ¬ Bd p (num p r - 1) ∧ num p r % (t : Int) = i
      · obtain ⟨e, hb⟩ := hmv r C.1 C.2
        rw [rf_up_y Gq hgq hb (by rw [e, show num p r - 1 + 1 = num p r by omega]; exact C.2), e]; omega
      · have e := rf_dn_n G hg C
        rw [rf_up_n Gq hgq, e]
        rintro ⟨h1, h2⟩
        rw [e] at h1 h2
        obtain ⟨s, hs⟩ := no_up G hg h2
        have es : num (rfL p t i) s = num p s := rf_dn_n G hg fun h => h.1 ⟨r, by omega⟩
        exact h1 ⟨s, by omega⟩
    · have e : rfL p t i = p := num_ext Gq G fun s => rf_dn_n G hg fun h => hex ⟨s, h⟩
      rw [e, e]
  · have hun : ∀ s, (num (rfL p t i) s + 1) % (t : Int) = i → num (rfL p t i) s = num p s := fun s hs => by
      by_cases C : ¬ Bd p (num p s + 1) ∧ (num p s + 1) % (t : Int) = i
      · rw [rf_up_y G hg C.1 C.2] at hs
        exact absurd hs fun h2 => mod_next ht C.2 h2
      · exact rf_up_n G hg C
    have hgq : grw (rfL p t i) t i = false := by
      cases h : grw (rfL p t i) t i
      · rfl
      · obtain ⟨s, h1, h2⟩ := (grw_iff Gq).1 h
        have e := hun s h2
        rw [e] at h1 h2
        by_cases hb : Bd p (num p s + 1)
        · obtain ⟨u, hu⟩ := hb
          have eu : num (rfL p t i) u = num p u := rf_up_n G hg fun h => mod_next ht (by rw [hu]; exact h2) h.2
          exact absurd ⟨u, by omega⟩ h1
        · have := rf_up_y G hg hb h2; omega
    by_cases C : ¬ Bd p (num p r + 1) ∧ (num p r + 1) % (t : Int) = i
    · have e := rf_up_y G hg C.1 C.2
      rw [rf_dn_y Gq hgq, e]
      · omega
      · rintro ⟨s, hs⟩
        rw [e] at hs
        have e2 := hun s (by rw [hs, show num p r + 1 - 1 = num p r by omega]; exact C.2)
        have := num_inj G (show num p s = num p r by omega)
        subst this; omega
      · rw [e]; exact C.2
    · have e := rf_up_n G hg C
      rw [rf_dn_n Gq hgq, e]
      rintro ⟨h1, h2⟩
      rw [e] at h1 h2
      obtain ⟨s, hs⟩ := up_flush G (by omega) D hg ⟨r, rfl⟩ h2
      have es : num (rfL p t i) s = num p s := rf_up_n G hg fun h => h.1 ⟨r, by omega⟩
      exact h1 ⟨s, by omega⟩
theorem rf_undo {p : List Int} (G : Good p) {t : Nat} (ht : 2 ≤ t) {i : Int} (D : Dn p t) (Gq : Good (rfL p t i)) : rfL (rfL p t i) t i = p := by
  have h := rf_back G ht D Gq
  have hg : ∀ r, (rfL (rfL p t i) t i).getD r 0 = p.getD r 0 := fun r => by have := h r; unfold num at this; omega
  have hlen : (rfL (rfL p t i) t i).length = rfK (rfL p t i) t i := fnRow_len _ _
  refine eq_of_getD (fun j hj => ?_) G.pos hg
  rw [hlen] at hj
  have hl := rf_last Gq t i (by omega)
  rw [← rf_get, hg] at hl
  have : rfK (rfL p t i) t i - 1 < p.length := by
    rcases Nat.lt_or_ge (rfK (rfL p t i) t i - 1) p.length with h | h
    · exact h
    · exact absurd (getD_out' h) hl
  rw [hg]
  exact G.pos j (by omega)
/-- The numbers of beads by residues, in a window that is wide enough. -/
def win (t : Nat) : Nat := mulN t 30 + t
def cw (p : List Int) (t j : Nat) : Int := smr (win t) fun r => indP (num p r % (t : Int) = j)
theorem lvL_cw {p : List Int} (G : Good p) {t : Nat} (ht : 2 ≤ t ∧ t ≤ 6) : lvL p t = fnRow t fun j => cw p t j - ((qR t + 1 : Nat) : Int) := by
  unfold lvL lvK lvN
  refine rowF_ext _ _ _ fun i hi => ?_
  obtain ⟨a, b, c, d⟩ := qR_bd ht
  have hb := mulN_bd (t := t) (n := 30) ht
  have hl := G.len
  have hw : win t = (qR t + 1) * t := by unfold win; rw [d, Nat.add_mul, Nat.one_mul]
  have h40 : win t ≤ 40 := by
    have : t = 2 ∨ t = 3 ∨ t = 4 ∨ t = 5 ∨ t = 6 := by omega
    rcases this with rfl | rfl | rfl | rfl | rfl <;> decide
  rw [lv_main G (q := qR t + 1) (n := win t) hi hw (by unfold win; omega) h40, cnt_beads p (by omega) (by rw [hw, Nat.mul_mod_left])]
  rfl
theorem win_facts {p : List Int} (G : Good p) {t : Nat} (ht : 2 ≤ t ∧ t ≤ 6) : ∃ K, win t = K + 1 ∧ p.length ≤ K ∧ (-(win t : Int)) % (t : Int) = 0 := by
  have hb := mulN_bd (t := t) (n := 30) ht
  have hl := G.len
  refine ⟨win t - 1, by unfold win; omega, by unfold win; omega, ?_⟩
  have : win t % t = 0 := by unfold win; rw [Nat.add_mod_right]; exact mulN_dvd t 30
  have h2 : (win t : Int) % (t : Int) = 0 := by rw [← Int.natCast_emod, this]; rfl
  rw [Int.neg_emod, if_pos (Int.dvd_of_emod_eq_zero h2)]
def prv (t I : Nat) : Nat := (I + t - 1) % t
theorem prv_lt {t I : Nat} (ht : 2 ≤ t) : prv t I < t := Nat.mod_lt _ (by omega)
theorem prv_eq {t I : Nat} (ht : 2 ≤ t) (hI : I < t) : prv t I = if I = 0 then t - 1 else I - 1 := by
  unfold prv
  split
  · subst_vars; rw [Nat.zero_add]; exact Nat.mod_eq_of_lt (by omega)
  · rw [show I + t - 1 = (I - 1) + t by omega, Nat.add_mod_right]; exact Nat.mod_eq_of_lt (by omega)
theorem prv_iff {t I : Nat} (ht : 2 ≤ t) (hI : I < t) (x : Int) : (x + 1) % (t : Int) = I ↔ x % (t : Int) = prv t I := by
  have h1 := Int.emod_nonneg (x + 1) (show (t : Int) ≠ 0 by omega)
  have h2 := Int.emod_lt_of_pos (x + 1) (show 0 < (t : Int) by omega)
  have h := next_mod (t := t) (i := prv t I) (m := ((x + 1) % (t : Int)).toNat) (by omega) (prv_lt ht) (y := x) (by omega)
  rw [h]
  have e : (prv t I + 1) % t = I := by
    rw [prv_eq ht hI]
    split
    · subst_vars; rw [show t - 1 + 1 = t by omega, Nat.mod_self]
    · rw [show I - 1 + 1 = I by omega, Nat.mod_eq_of_lt hI]
  rw [e]; omega
open Classical in
/-- How many beads a reflection moves, and what it makes of the numbers by residues. -/
theorem cw_refl {p : List Int} (G : Good p) {t I : Nat} (ht : 2 ≤ t ∧ t ≤ 6) (hI : I < t) (D : Dn p t) :
    cw (rfL p t I) t I = cw p t (prv t I) + (if I = 0 then 1 else 0) ∧ cw (rfL p t I) t (prv t I) = cw p t I - (if I = 0 then 1 else 0) ∧ ∀ j, j ≠ I → j ≠ prv t I → cw (rfL p t I) t j = cw p t j := by
  obtain ⟨K, hK, hpK, hz⟩ := win_facts G ht
  have hne : prv t I ≠ I := by rw [prv_eq ht.1 hI]; split <;> omega
  have hgK : num p K % (t : Int) = 0 := by rw [num_out hpK, show -(K : Int) - 1 = -(win t : Int) by omega]; exact hz
  have hgM : num p (win t) + 1 = -(win t : Int) := by rw [num_out (by omega)]; omega
  have hI0 : indP ((0 : Int) = (I : Int)) = if I = 0 then 1 else 0 := by
    unfold indP
    by_cases h : I = 0
    · rw [if_pos (by omega), if_pos h]
    · rw [if_neg (by omega), if_neg h]
  unfold cw
  cases hg : grw p t (I : Int)
  · -- cells are taken away
    have hC : ∀ r, indP (¬ Bd p (num p r - 1) ∧ num p r % (t : Int) = I) = indP (num p r % (t : Int) = I) - indP (num p (r + 1) % (t : Int) = prv t I) := fun r => by
      by_cases h1 : num p r % (t : Int) = I
      · rw [indP_t h1]
        by_cases h2 : Bd p (num p r - 1)
        · obtain ⟨s, hs⟩ := h2
          have e := num_nx G (r := s) (s := r) (by omega)
          subst e
          rw [indP_f (fun h => h.1 ⟨_, hs⟩), indP_t ((prv_iff ht.1 hI _).1 (by rw [hs, show num p r - 1 + 1 = num p r by omega]; exact h1))]; rfl
        · rw [indP_t ⟨h2, h1⟩, indP_f]
          · rfl
          · intro h
            obtain ⟨s, hs⟩ := no_up G hg ((prv_iff ht.1 hI _).2 h)
            have e := num_nx G hs
            have e2 : s = r := by omega
            subst e2
            exact h2 ⟨s + 1, by omega⟩
      · rw [indP_f (fun h => h1 h.2), indP_f h1, indP_f]
        · rfl
        · intro h
          have h3 := (prv_iff ht.1 hI _).2 h
          obtain ⟨s, hs⟩ := no_up G hg h3
          have e := num_nx G hs
          have e2 : s = r := by omega
          subst e2
          exact h1 (by rw [hs]; exact h3)
    have h0 : indP (num p 0 % (t : Int) = prv t I) = 0 := indP_f fun h => by
      obtain ⟨s, hs⟩ := no_up G hg ((prv_iff ht.1 hI _).2 h)
      have := num_nx G hs; omega
    have hM : indP (num p (win t) % (t : Int) = prv t I) = if I = 0 then 1 else 0 := by
      rw [indP_iff (prv_iff ht.1 hI _).symm, hgM, hz, hI0]
    have hsum : smr (win t) (fun r => indP (¬ Bd p (num p r - 1) ∧ num p r % (t : Int) = I)) = smr (win t) (fun r => indP (num p r % (t : Int) = I)) - (smr (win t) (fun r => indP (num p r % (t : Int) = prv t I)) + if I = 0 then 1 else 0) := by
      have e1 : smr (win t) (fun r => indP (num p r % (t : Int) = I)) = smr (win t) (fun r => indP (¬ Bd p (num p r - 1) ∧ num p r % (t : Int) = I)) + smr (win t) (fun r => indP (num p (r + 1) % (t : Int) = prv t I)) := by
        rw [← smr_add]; exact smr_congr _ fun r _ => by rw [hC]; omega
      have e2 := smr_first (win t) fun r => indP (num p r % (t : Int) = prv t I)
      rw [smr_succ, hM, h0] at e2
      omega
    refine ⟨?_, ?_, fun j hj1 hj2 => ?_⟩
    · have : smr (win t) (fun r => indP (num (rfL p t I) r % (t : Int) = I)) + smr (win t) (fun r => indP (¬ Bd p (num p r - 1) ∧ num p r % (t : Int) = I)) = smr (win t) (fun r => indP (num p r % (t : Int) = I)) := by
        rw [← smr_add]
        refine smr_congr _ fun r _ => ?_
        by_cases C : ¬ Bd p (num p r - 1) ∧ num p r % (t : Int) = I
        · rw [rf_dn_y G hg C.1 C.2, indP_t C, indP_t C.2, indP_f]
          · rfl
          · intro h; exact mod_next ht.1 h (by rw [show num p r - 1 + 1 = num p r by omega]; exact C.2)
        · rw [rf_dn_n G hg C, indP_f C, Int.add_zero]
      omega
    · have : smr (win t) (fun r => indP (num (rfL p t I) r % (t : Int) = prv t I)) = smr (win t) (fun r => indP (num p r % (t : Int) = prv t I)) + smr (win t) (fun r => indP (¬ Bd p (num p r - 1) ∧ num p r % (t : Int) = I)) := by
        rw [← smr_add]
        refine smr_congr _ fun r _ => ?_
        by_cases C : ¬ Bd p (num p r - 1) ∧ num p r % (t : Int) = I
        · rw [rf_dn_y G hg C.1 C.2, indP_t C, indP_t ((prv_iff ht.1 hI _).1 (by rw [show num p r - 1 + 1 = num p r by omega]; exact C.2)), indP_f (fun h => hne (by have := C.2; omega))]; rfl
        · rw [rf_dn_n G hg C, indP_f C, Int.add_zero]
      omega
    · refine smr_congr _ fun r _ => indP_iff ?_
      by_cases C : ¬ Bd p (num p r - 1) ∧ num p r % (t : Int) = I
      · rw [rf_dn_y G hg C.1 C.2]
        have h1 := (prv_iff ht.1 hI (num p r - 1)).1 (by rw [show num p r - 1 + 1 = num p r by omega]; exact C.2)
        have h2 := C.2
        constructor <;> intro h <;> omega
      · rw [rf_dn_n G hg C]
  · -- cells are added
    have hC : ∀ r, indP (¬ Bd p (num p (r + 1) + 1) ∧ (num p (r + 1) + 1) % (t : Int) = I) = indP (num p (r + 1) % (t : Int) = prv t I) - indP (num p r % (t : Int) = I) := fun r => by
      by_cases h1 : (num p (r + 1) + 1) % (t : Int) = I
      · rw [indP_t ((prv_iff ht.1 hI _).1 h1)]
        by_cases h2 : Bd p (num p (r + 1) + 1)
        · obtain ⟨s, hs⟩ := h2
          have e := num_nx G hs
          have e2 : s = r := by omega
          subst e2
          rw [indP_f (fun h => h.1 ⟨_, hs⟩), indP_t (by rw [hs]; exact h1)]; rfl
        · rw [indP_t ⟨h2, h1⟩, indP_f]
          · rfl
          · intro h
            obtain ⟨s, hs⟩ := up_flush G (by omega) D hg ⟨r, rfl⟩ h
            have e := num_nx G (r := s) (s := r) (by omega)
            subst e
            exact h2 ⟨r, by omega⟩
      · rw [indP_f (fun h => h1 h.2), indP_f (fun h => h1 ((prv_iff ht.1 hI _).2 h)), indP_f]
        · rfl
        · intro h
          obtain ⟨s, hs⟩ := up_flush G (by omega) D hg ⟨r, rfl⟩ h
          have e := num_nx G (r := s) (s := r) (by omega)
          subst e
          exact h1 (by rw [hs, show num p r - 1 + 1 = num p r by omega]; exact h)
    have h0 : indP (¬ Bd p (num p 0 + 1) ∧ (num p 0 + 1) % (t : Int) = I) = indP (num p 0 % (t : Int) = prv t I) := by
      refine indP_iff ⟨fun h => (prv_iff ht.1 hI _).1 h.2, fun h => ⟨?_, (prv_iff ht.1 hI _).2 h⟩⟩
      rintro ⟨s, hs⟩
      have := num_nx G hs; omega
    have hsum : smr (win t) (fun r => indP (¬ Bd p (num p r + 1) ∧ (num p r + 1) % (t : Int) = I)) = smr (win t) (fun r => indP (num p r % (t : Int) = prv t I)) - (smr (win t) (fun r => indP (num p r % (t : Int) = I)) - if I = 0 then 1 else 0) := by
      have e1 : smr K (fun r => indP (¬ Bd p (num p (r + 1) + 1) ∧ (num p (r + 1) + 1) % (t : Int) = I)) + smr K (fun r => indP (num p r % (t : Int) = I)) = smr K (fun r => indP (num p (r + 1) % (t : Int) = prv t I)) := by
        rw [← smr_add]; exact smr_congr _ fun r _ => by rw [hC]; omega
      rw [hK, smr_first, smr_first K (fun r => indP (num p r % (t : Int) = prv t I)), h0, smr_succ K (fun r => indP (num p r % (t : Int) = I)), hgK, hI0]
      omega
    refine ⟨?_, ?_, fun j hj1 hj2 => ?_⟩
    · have : smr (win t) (fun r => indP (num (rfL p t I) r % (t : Int) = I)) = smr (win t) (fun r => indP (num p r % (t : Int) = I)) + smr (win t) (fun r => indP (¬ Bd p (num p r + 1) ∧ (num p r + 1) % (t : Int) = I)) := by
        rw [← smr_add]
        refine smr_congr _ fun r _ => ?_
        by_cases C : ¬ Bd p (num p r + 1) ∧ (num p r + 1) % (t : Int) = I
        · rw [rf_up_y G hg C.1 C.2, indP_t C, indP_t C.2, indP_f]
          · rfl
          · intro h; exact mod_next ht.1 h C.2
        · rw [rf_up_n G hg C, indP_f C, Int.add_zero]
      omega
    · have : smr (win t) (fun r => indP (num (rfL p t I) r % (t : Int) = prv t I)) + smr (win t) (fun r => indP (¬ Bd p (num p r + 1) ∧ (num p r + 1) % (t : Int) = I)) = smr (win t) (fun r => indP (num p r % (t : Int) = prv t I)) := by
        rw [← smr_add]
        refine smr_congr _ fun r _ => ?_
        by_cases C : ¬ Bd p (num p r + 1) ∧ (num p r + 1) % (t : Int) = I
        · rw [rf_up_y G hg C.1 C.2, indP_t C, indP_t ((prv_iff ht.1 hI _).1 C.2), indP_f (fun h => hne (by have := C.2; omega))]; rfl
        · rw [rf_up_n G hg C, indP_f C, Int.add_zero]
      omega
    · refine smr_congr _ fun r _ => indP_iff ?_
      by_cases C : ¬ Bd p (num p r + 1) ∧ (num p r + 1) % (t : Int) = I
      · rw [rf_up_y G hg C.1 C.2]
        have h1 := (prv_iff ht.1 hI (num p r)).1 C.2
        have h2 := C.2
        constructor <;> intro h <;> omega
      · rw [rf_up_n G hg C]
/-- The levels of the reflection are the levels reflected. -/
theorem rf_lv {p : List Int} (G : Good p) {t I : Nat} (ht : 2 ≤ t ∧ t ≤ 6) (hI : I < t) (D : Dn p t) (Gq : Good (rfL p t I)) : lvL (rfL p t I) t = reflL (lvL p t) I := by
  obtain ⟨c1, c2, c3⟩ := cw_refl G ht hI D
  have hpe := prv_eq (I := I) ht.1 hI
  refine ext_get (by rw [reflL_len, lv_len, lv_len]) fun j hj => ?_
  rw [lv_len] at hj
  rw [refl_get (by rw [lv_len]; omega) (by rw [lv_len]; exact hI), lv_len, lvL_cw Gq ht, lvL_cw G ht, fnRow_get _ _ _ hj]
  by_cases h0 : I = 0
  · rw [if_pos h0] at c1 c2 hpe ⊢
    rw [fnRow_get _ _ _ (show t - 1 < t by omega), fnRow_get _ _ _ (show 0 < t by omega)]
    by_cases h1 : j = 0
    · rw [if_pos h1, h1, ← h0, c1, hpe]; omega
    · rw [if_neg h1]
      by_cases h2 : j = t - 1
      · rw [if_pos h2, h2, ← hpe, c2, h0]; omega
      · rw [if_neg h2, fnRow_get _ _ _ hj, c3 j (by omega) (by omega)]
  · rw [if_neg h0] at c1 c2 hpe ⊢
    rw [fnRow_get _ _ _ hI, fnRow_get _ _ _ (show I - 1 < t by omega)]
    by_cases h1 : j = I - 1
    · rw [if_pos h1, h1, ← hpe, c2]; omega
    · rw [if_neg h1]
      by_cases h2 : j = I
      · rw [if_pos h2, h2, c1, hpe]; omega
      · rw [if_neg h2, fnRow_get _ _ _ hj, c3 j h2 (by omega)]
end Go.Proofs.Ythkkiakfmbnfeaa
