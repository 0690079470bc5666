/-
  Plain facts on lists of cycles: their sums and weights. No program in this text.
-/
import Derived.Test.YtmbfobcbnnalbaaChnMath
namespace Go.Proofs.Ytmbfobcbnnalbaa

def cycM (m : Nat) (xs : List Int) : Bool := decide (xs.length ≤ m) && (xs.all (inB 1 m) && decide (xs.sum ≤ (m : Int)))
def cycB (xs : List Int) : Bool := cycM 12 xs
def cycS (xs : List Int) : Int := if cycB xs then xs.sum else 0
theorem cycM_iff {m : Nat} {xs : List Int} : cycM m xs = true ↔ (∀ j, j < xs.length → 1 ≤ xs.getD j 0) ∧ xs.sum ≤ (m : Int) := by
  simp only [cycM, Bool.and_eq_true, decide_eq_true_eq, List.all_eq_true]
  constructor
  · rintro ⟨_, h2, h3⟩
    refine ⟨fun j hj => ?_, h3⟩
    rw [List.getD_eq_getElem?_getD, List.getElem?_eq_getElem hj]
    exact (inB_iff.1 (h2 _ (List.getElem_mem hj))).1
  · rintro ⟨h1, h2⟩
    have hl := len_sum xs h1
    refine ⟨by omega, fun x hx => ?_, h2⟩
    obtain ⟨j, hj, rfl⟩ := List.getElem_of_mem hx
    have a := h1 j hj
    have b := part_sum xs (fun i hi => by have := h1 i hi; omega) j hj
    rw [List.getD_eq_getElem?_getD, List.getElem?_eq_getElem hj] at a b
    simp only [Option.getD_some] at a b
    exact inB_iff.2 ⟨a, by omega⟩
theorem cyc_len {m : Nat} {xs : List Int} (h : cycM m xs = true) : xs.length ≤ m ∧ 0 ≤ xs.sum ∧ xs.sum ≤ (m : Int) ∧ (∀ j, j < xs.length → 1 ≤ xs.getD j 0 ∧ xs.getD j 0 ≤ (m : Int)) ∧ (xs.length : Int) ≤ xs.sum := by
  obtain ⟨h1, h2⟩ := cycM_iff.1 h
  have hl := len_sum xs h1
  refine ⟨by omega, by omega, h2, fun j hj => ⟨h1 j hj, ?_⟩, hl⟩
  have b := part_sum xs (fun i hi => by have := h1 i hi; omega) j hj
  omega
/-- The sum of what stands ahead, as a walk has it. -/
theorem sum_take_nn (xs : List Int) (h : ∀ j, j < xs.length → 1 ≤ xs.getD j 0) (k : Nat) : ((xs.take k).length : Int) ≤ (xs.take k).sum ∧ (xs.take k).sum ≤ xs.sum := by
  constructor
  · refine len_sum _ fun j hj => ?_
    rw [List.length_take] at hj
    rw [List.getD_eq_getElem?_getD, List.getElem?_take, if_pos (by omega), ← List.getD_eq_getElem?_getD]
    exact h j (by omega)
  · have e := congrArg List.sum (List.take_append_drop k xs)
    rw [List.sum_append] at e
    have : 0 ≤ (xs.drop k).sum := sum_nn _ fun j hj => by
      rw [List.getD_eq_getElem?_getD, List.getElem?_drop, ← List.getD_eq_getElem?_getD]
      have := h (k + j) (by simp at hj; omega)
      omega
    omega
/-- A walk's first number that is too small, or too great for what is left. -/
theorem cyc_no {xs : List Int} {k : Nat} (hk : k < xs.length) (h : xs.getD k 0 < 1 ∨ 12 - (xs.take k).sum < xs.getD k 0) : cycB xs = false := by
  cases hc : cycB xs
  · rfl
  · obtain ⟨h1, h2⟩ := cycM_iff.1 hc
    have a := h1 k hk
    have b := (sum_take_nn xs h1 (k + 1)).2
    rw [sum_take_succ xs k hk] at b
    omega
theorem cyc_yes {xs : List Int} (hp : ∀ j, j < xs.length → 1 ≤ xs.getD j 0) (h : xs.sum ≤ 12) : cycB xs = true := cycM_iff.2 ⟨hp, h⟩
theorem cyc8 {xs : List Int} (h : cycM 8 xs = true) : cycB xs = true := by
  obtain ⟨h1, h2⟩ := cycM_iff.1 h
  exact cycM_iff.2 ⟨h1, by omega⟩

/-! The weight of a class. -/
def cntX (xs : List Int) (k : Nat) (x : Int) : Nat := (xs.take k).count x
theorem cntX_succ (xs : List Int) (k : Nat) (h : k < xs.length) (x : Int) : cntX xs (k + 1) x = cntX xs k x + if xs.getD k 0 = x then 1 else 0 := by
  unfold cntX
  rw [List.take_succ_eq_append_getElem h, List.count_append, List.count_singleton]
  have e : xs.getD k 0 = xs[k] := by rw [List.getD_eq_getElem?_getD, List.getElem?_eq_getElem h]; rfl
  rw [e]
  simp
def wgt (xs : List Int) : Nat → Int
  | 0 => 1
  | k + 1 => wgt xs k * xs.getD k 0 * (1 + (cntX xs k (xs.getD k 0) : Int))
theorem cnt_sum (xs : List Int) (h : ∀ x ∈ xs, 0 ≤ x) (x : Int) (hx : 0 ≤ x) : x * (xs.count x : Int) ≤ xs.sum := by
  induction xs with
  | nil => simp
  | cons y t ih =>
    have h0 := h y (by simp)
    have ih := ih (fun z hz => h z (by simp [hz]))
    rw [List.count_cons, List.sum_cons]
    by_cases e : y = x
    · subst e
      simp only [beq_self_eq_true, if_true]
      rw [Int.natCast_add, Int.mul_add]; omega
    · have e2 : (y == x) = false := beq_eq_false_iff_ne.2 e
      simp only [e2, Bool.false_eq_true, if_false, Nat.add_zero]; omega
theorem wgt_fac {xs : List Int} (h : cycB xs = true) {k : Nat} (hk : k < xs.length) : 1 ≤ xs.getD k 0 * (1 + (cntX xs k (xs.getD k 0) : Int)) ∧ xs.getD k 0 * (1 + (cntX xs k (xs.getD k 0) : Int)) ≤ 12 := by
  obtain ⟨h1, h2⟩ := cycM_iff.1 h
  have a := h1 k hk
  have hs := cntX_succ xs k hk (xs.getD k 0)
  rw [if_pos rfl] at hs
  have hb := cnt_sum (xs.take (k + 1)) (fun x hx => by
    obtain ⟨j, hj, rfl⟩ := List.getElem_of_mem hx
    rw [List.length_take] at hj
    have := h1 j (by omega)
    rw [List.getD_eq_getElem?_getD, List.getElem?_eq_getElem (by omega)] at this
    rw [List.getElem_take]
    simp only [Option.getD_some] at this; omega) (xs.getD k 0) (by omega)
  have hb2 := (sum_take_nn xs h1 (k + 1)).2
  have e : ((xs.take (k + 1)).count (xs.getD k 0) : Int) = 1 + (cntX xs k (xs.getD k 0) : Int) := by
    have : (xs.take (k + 1)).count (xs.getD k 0) = cntX xs (k + 1) (xs.getD k 0) := rfl
    rw [this, hs]; omega
  rw [e] at hb
  refine ⟨?_, by omega⟩
  have : 1 * 1 ≤ xs.getD k 0 * (1 + (cntX xs k (xs.getD k 0) : Int)) := Int.mul_le_mul a (by omega) (by omega) (by omega)
  omega
def p12 (k : Nat) : Int := 12 ^ k
theorem wgt_bd {xs : List Int} (h : cycB xs = true) : ∀ k, k ≤ xs.length → 1 ≤ wgt xs k ∧ wgt xs k ≤ p12 k
  | 0, _ => by simp [wgt, p12]
  | k + 1, hk => by
    obtain ⟨i1, i2⟩ := wgt_bd h k (by omega)
    obtain ⟨f1, f2⟩ := wgt_fac h (k := k) (by omega)
    have e : wgt xs (k + 1) = wgt xs k * (xs.getD k 0 * (1 + (cntX xs k (xs.getD k 0) : Int))) := by rw [wgt, Int.mul_assoc]
    have e2 : p12 (k + 1) = p12 k * 12 := by unfold p12; rw [Int.pow_succ]
    rw [e, e2]
    constructor
    · have := Int.mul_le_mul i1 f1 (by omega) (by omega); omega
    · exact Int.mul_le_mul i2 f2 (by omega) (by omega)
theorem p12_bd : ∀ k < 13, p12 k ≤ 8916100448256 := by decide +kernel
theorem wgt_le {xs : List Int} (h : cycB xs = true) (k : Nat) (hk : k ≤ xs.length) : 1 ≤ wgt xs k ∧ wgt xs k ≤ 8916100448256 := by
  have := wgt_bd h k hk
  have hl := (cyc_len h).1
  have := p12_bd k (by omega)
  omega
/-- The first factor alone. -/
theorem wgt_half {xs : List Int} (h : cycB xs = true) (k : Nat) (hk : k < xs.length) : 0 ≤ wgt xs k * xs.getD k 0 ∧ wgt xs k * xs.getD k 0 ≤ 8916100448256 * 12 := by
  have a := wgt_le h k (by omega)
  have b := (cyc_len h).2.2.2.1 k hk
  exact ⟨Int.mul_nonneg (by omega) (by omega), Int.mul_le_mul a.2 b.2 (by omega) (by omega)⟩
def wgtF (xs : List Int) : Int := if cycB xs then wgt xs xs.length else 0
end Go.Proofs.Ytmbfobcbnnalbaa
