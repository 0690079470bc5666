/-
  Cores for two sizes: hooks that no size divides, beads that go down, closed gaps: the same. The model's boIs.
-/
import Derived.Test.YtnjhjdidohdkmaaBc
import Derived.Test.YtnjhjdidohdkmaaRfCore
namespace Go.Proofs.Ytnjhjdidohdkmaa
open Go.RowKit

/-- Each first hook is less than t, or is one more t. -/
def dnB (xs : List Int) (t : Int) : Bool := (beadsL xs xs.length).all fun x => decide (x < t) || decide (x - t ∈ beadsL xs xs.length)
theorem mem_beads {xs : List Int} {x : Int} : x ∈ beadsL xs xs.length ↔ ∃ r, r < xs.length ∧ x = num xs r + xs.length := by
  unfold beadsL fnRow bead num
  simp only [List.mem_map, List.mem_range]
  constructor
  · rintro ⟨j, hj, rfl⟩
    refine ⟨xs.length - 1 - j, by omega, ?_⟩
    omega
  · rintro ⟨r, hr, rfl⟩
    refine ⟨xs.length - 1 - r, by omega, ?_⟩
    rw [show xs.length - 1 - (xs.length - 1 - r) = r by omega]
    omega
theorem bead_pos {xs : List Int} (G : Good xs) {x : Int} (h : x ∈ beadsL xs xs.length) : 1 ≤ x ∧ x < 60 := by
  obtain ⟨r, hr, rfl⟩ := mem_beads.1 h
  have h1 := G.pos r hr
  have h2 := G.le r hr
  have h3 := G.len
  unfold num; omega
theorem num_high {xs : List Int} {r : Nat} (h : xs.length ≤ r) : num xs r = -(r : Int) - 1 := by
  unfold num
  rw [List.getD_eq_getElem?_getD, List.getElem?_eq_none (by omega)]
  simp
theorem dnB_iff {xs : List Int} {t : Int} (ht : 0 < t) : dnB xs t = true ↔ Dn xs t := by
  unfold dnB
  rw [List.all_eq_true]
  constructor
  · intro h r
    by_cases hr : r < xs.length
    · have hm : num xs r + xs.length ∈ beadsL xs xs.length := mem_beads.2 ⟨r, hr, rfl⟩
      have h1 := h _ hm
      simp only [Bool.or_eq_true, decide_eq_true_eq] at h1
      rcases h1 with h1 | h1
      · refine ⟨(t - num xs r - 1).toNat, ?_⟩
        rw [num_high (by omega)]
        omega
      · obtain ⟨s, hs, e⟩ := mem_beads.1 h1
        exact ⟨s, by omega⟩
    · refine ⟨(t + r).toNat, ?_⟩
      rw [num_high (by omega), num_high (by omega)]
      omega
  · intro h x hx
    obtain ⟨r, hr, e⟩ := mem_beads.1 hx
    obtain ⟨s, hs⟩ := h r
    simp only [Bool.or_eq_true, decide_eq_true_eq]
    by_cases h1 : x < t
    · exact .inl h1
    · refine .inr (mem_beads.2 ⟨s, ?_, by omega⟩)
      by_cases hsl : s < xs.length
      · exact hsl
      · rw [num_high (by omega)] at hs
        omega
theorem hook_dvd_no {xs : List Int} {t : Int} (G : Good xs) (ht : 0 < t) (hd : dnB xs t = true) {r c : Nat} (hr : r < xs.length) (hc : c < ((hooksR xs).getD r []).length) : ¬ Int.tmod (((hooksR xs).getD r []).getD c 0) t = 0 := by
  intro h
  obtain ⟨e, hlt⟩ := hook_at hr hc
  rw [e] at h
  exact dn_no_div G ht ((dnB_iff ht).1 hd) r c hr hlt (Int.emod_eq_zero_of_dvd (Int.dvd_of_tmod_eq_zero h))
theorem hook_dvd_yes {xs : List Int} {t : Int} (G : Good xs) (ht : 0 < t) (h : ∀ r, r < xs.length → ∀ c, c < ((hooksR xs).getD r []).length → ¬ Int.tmod (((hooksR xs).getD r []).getD c 0) t = 0) : dnB xs t = true := by
  refine (dnB_iff ht).2 (no_hook_dn G ht fun r c hr hc e => ?_)
  have hin := hook_in hr hc
  refine h r hr c hin ?_
  rw [(hook_at hr hin).1, e, Int.tmod_self]

/-! Closed gaps. -/
theorem sumA_ij {a b x : Int} (hb : 0 < b) (h : sumA a b x = true) : ∃ i j : Nat, x = i * a + j * b := by
  unfold sumA at h
  rw [List.any_eq_true] at h
  obtain ⟨i, -, h⟩ := h
  simp only [Bool.and_eq_true, decide_eq_true_eq, beq_iff_eq] at h
  obtain ⟨h1, h2⟩ := h
  have h3 := Int.mul_ediv_add_emod (x - i * a) b
  rw [h2] at h3
  have h4 : 0 ≤ (x - i * a) / b := Int.ediv_nonneg (by omega) (by omega)
  refine ⟨i, ((x - i * a) / b).toNat, ?_⟩
  rw [Int.toNat_of_nonneg h4, Int.mul_comm ((x - i * a) / b) b]
  omega
theorem no_sum {xs : List Int} {a b : Int} (G : Good xs) (ha : 0 < a) (hb : 0 < b) (hda : dnB xs a = true) (hdb : dnB xs b = true) : ∀ (i j : Nat) (y : Int), y ∈ beadsL xs xs.length → y = i * a + j * b → False := by
  have stp : ∀ t, dnB xs t = true → ∀ y, y ∈ beadsL xs xs.length → t ≤ y → y - t ∈ beadsL xs xs.length := by
    intro t ht y hy hle
    have := List.all_eq_true.1 ht y hy
    simp only [Bool.or_eq_true, decide_eq_true_eq] at this
    rcases this with h | h
    · omega
    · exact h
  intro i
  induction i with
  | zero =>
    intro j
    induction j with
    | zero => intro y hy e; have := (bead_pos G hy).1; simp at e; omega
    | succ j ih =>
      intro y hy e
      have e2 : y = j * b + b := by rw [e, Int.natCast_add, Int.add_mul]; simp
      have hnn : 0 ≤ (j : Int) * b := Int.mul_nonneg (by omega) (by omega)
      exact ih (y - b) (stp b hdb y hy (by omega)) (by simp; omega)
  | succ i ih =>
    intro j y hy e
    have e2 : y = i * a + a + j * b := by rw [e, Int.natCast_add, Int.add_mul]; simp
    have h1 : 0 ≤ (j : Int) * b := Int.mul_nonneg (by omega) (by omega)
    have h2 : 0 ≤ (i : Int) * a := Int.mul_nonneg (by omega) (by omega)
    exact ih j (y - a) (stp a hda y hy (by omega)) (by omega)
theorem big_sum {a b x : Int} (hs : sz a b = true) (h1 : a * b ≤ x) (h2 : x < 64) : sumA a b x = true := by
  have := sz_nat (p := fun a b => ∀ x < 64, a * b ≤ ((x : Nat) : Int) → sumA a b x = true) (by decide +kernel) hs
  obtain ⟨ha, hb, -⟩ := sz_iff.1 hs
  have hp := (ab49 ha hb).1
  have h3 := this x.toNat (by omega)
  rw [Int.toNat_of_nonneg (by omega)] at h3
  exact h3 h1
theorem self_sum {a b : Int} (hs : sz a b = true) : sumA a b a = true ∧ sumA a b b = true := sz_nat (p := fun a b => sumA a b a = true ∧ sumA a b b = true) (by decide +kernel) hs
theorem beads_up {xs : List Int} (G : Good xs) {j : Nat} (hj : j + 1 < xs.length) : (beadsL xs xs.length).getD j 0 < (beadsL xs xs.length).getD (j + 1) 0 := by
  unfold beadsL
  rw [fnRow_get _ _ _ (by omega), fnRow_get _ _ _ hj]
  unfold bead
  have := G.down (xs.length - 1 - (j + 1)) (by omega)
  rw [show xs.length - 1 - (j + 1) + 1 = xs.length - 1 - j by omega] at this
  omega
theorem both_eq {xs : List Int} {a b : Int} (G : Good xs) (hs : sz a b = true) : clB a b (beadsL xs xs.length) = (dnB xs a && dnB xs b) := by
  obtain ⟨ha, hb, -⟩ := sz_iff.1 hs
  rw [Bool.eq_iff_iff, Bool.and_eq_true]
  have hl := beadsL_len xs xs.length
  constructor
  · intro h
    have key : ∀ t, (t = a ∨ t = b) → dnB xs t = true := by
      intro t ht
      refine List.all_eq_true.2 fun x hx => ?_
      obtain ⟨j, hj, e⟩ := List.getElem_of_mem hx
      have hg : (beadsL xs xs.length).getD j 0 = x := by rw [List.getD_eq_getElem?_getD, List.getElem?_eq_getElem hj]; exact e
      obtain ⟨-, h2, h3, h4⟩ := okC_parts.1 (clB_iff.1 h j hj)
      rw [hg] at h2 h3 h4
      obtain ⟨g1, g2, g3⟩ := mem_gapsL.1 h2
      have hne : x ≠ t := by
        rintro rfl
        obtain ⟨s1, s2⟩ := self_sum hs
        rcases ht with rfl | rfl
        · rw [s1] at g3; cases g3
        · rw [s2] at g3; cases g3
      have h5 : hbB (beadsL xs xs.length) x t = true := by
        rcases ht with rfl | rfl
        · exact h3
        · exact h4
      simp only [hbB, Bool.or_eq_true, decide_eq_true_eq] at h5 ⊢
      rcases h5 with h5 | h5
      · exact .inl (by omega)
      · exact .inr h5
    exact ⟨key a (.inl rfl), key b (.inr rfl)⟩
  · rintro ⟨hda, hdb⟩
    refine clB_iff.2 fun j hj => okC_parts.2 ⟨?_, ?_, ?_⟩
    · rcases Nat.eq_zero_or_pos j with h0 | h0
      · exact .inl h0
      · have := beads_up G (j := j - 1) (by omega)
        rw [show j - 1 + 1 = j by omega] at this
        exact .inr this
    · have hm : (beadsL xs xs.length).getD j 0 ∈ beadsL xs xs.length := by rw [List.getD_eq_getElem?_getD, List.getElem?_eq_getElem hj]; exact List.getElem_mem hj
      obtain ⟨p1, p2⟩ := bead_pos G hm
      have hno : sumA a b ((beadsL xs xs.length).getD j 0) = false := by
        cases e : sumA a b ((beadsL xs xs.length).getD j 0)
        · rfl
        · obtain ⟨i, k, e2⟩ := sumA_ij (by omega) e
          exact (no_sum G (by omega) (by omega) hda hdb i k _ hm e2).elim
      refine mem_gapsL.2 ⟨p1, ?_, hno⟩
      by_cases h : a * b ≤ (beadsL xs xs.length).getD j 0
      · rw [big_sum hs h (by omega)] at hno; cases hno
      · omega
    · have hm : (beadsL xs xs.length).getD j 0 ∈ beadsL xs xs.length := by rw [List.getD_eq_getElem?_getD, List.getElem?_eq_getElem hj]; exact List.getElem_mem hj
      have key : ∀ t, dnB xs t = true → hbB (beadsL xs xs.length) ((beadsL xs xs.length).getD j 0) t = true := by
        intro t ht
        have := List.all_eq_true.1 ht _ hm
        simp only [hbB, Bool.or_eq_true, decide_eq_true_eq] at this ⊢
        rcases this with h | h
        · exact .inl (by omega)
        · exact .inr h
      exact ⟨key a hda, key b hdb⟩
end Go.Proofs.Ytnjhjdidohdkmaa
