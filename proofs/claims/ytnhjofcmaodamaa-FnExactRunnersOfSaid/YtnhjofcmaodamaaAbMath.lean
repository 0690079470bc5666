/-
  Plain facts: the beads of an abacus, and their bits on a board. No program in this text.
-/
import Derived.Test.YtnhjofcmaodamaaBeadMath
import Derived.Test.YtnhjofcmaodamaaBrdOf
namespace Go.Proofs.Ytnhjofcmaodamaa
open Go.RowKit

theorem parts_mem (xs : List Int) : ∀ k, k ≤ xs.length → ∀ i, xs.length - k ≤ i → i < xs.length → (i : Int) < xs.getD i 0 → xs.getD i 0 - i ∈ bpk xs k
  | 0, _, i, h1, h2, _ => by omega
  | k + 1, hk, i, h1, h2, h3 => by
    by_cases e : i = xs.length - 1 - k
    · rw [bpk_yes e rfl h3]; simp
    · have ih := parts_mem xs k (by omega) i (by omega) h2 h3
      by_cases hq : ((xs.length - 1 - k : Nat) : Int) < xs.getD (xs.length - 1 - k) 0
      · rw [bpk_yes rfl rfl hq]; exact List.mem_append_left _ ih
      · rw [bpk_no rfl rfl hq]; exact ih
theorem good_mem {xs : List Int} (G : Good xs) {x : Int} (h : x ∈ xs) : 1 ≤ x ∧ x ≤ 30 := by
  obtain ⟨j, hj, rfl⟩ := List.getElem_of_mem h
  have h1 := G.pos j hj
  have h2 := G.le j hj
  rw [List.getD_eq_getElem?_getD, List.getElem?_eq_getElem hj] at h1 h2
  exact ⟨h1, h2⟩
theorem GoodB.top {xs : List Int} (h : GoodB xs) {j : Nat} (hj : j < xs.length) : 0 ≤ xs.getD j 0 ∧ xs.getD j 0 ≤ 69 := by
  refine ⟨(h.rise.bd j hj).1, ?_⟩
  have hl := h.len
  by_cases hq : (j : Int) < xs.getD j 0
  · have := (good_mem h.parts (parts_mem xs xs.length (Nat.le_refl _) j (by omega) hj hq)).2
    omega
  · omega
theorem mem_getD {xs : List Int} {x : Int} : x ∈ xs ↔ ∃ j, j < xs.length ∧ xs.getD j 0 = x := by
  constructor
  · intro h
    obtain ⟨j, hj, rfl⟩ := List.getElem_of_mem h
    exact ⟨j, hj, by rw [List.getD_eq_getElem?_getD, List.getElem?_eq_getElem hj]; rfl⟩
  · rintro ⟨j, hj, rfl⟩
    rw [List.getD_eq_getElem?_getD, List.getElem?_eq_getElem hj]
    exact List.getElem_mem hj
theorem bitsK_iff (t : Nat) (xs : List Int) (q : Nat) : ∀ k, bitsK t xs k q = true ↔ ∃ j, j < k ∧ atQ t (xs.getD j 0).toNat = q
  | 0 => by simp [bitsK]
  | k + 1 => by
    have ih := bitsK_iff t xs q k
    simp only [bitsK, updB]
    by_cases e : q = atQ t (xs.getD k 0).toNat
    · rw [if_pos e]
      exact ⟨fun _ => ⟨k, by omega, e.symm⟩, fun _ => rfl⟩
    · rw [if_neg e, ih]
      constructor
      · rintro ⟨j, h1, h2⟩; exact ⟨j, by omega, h2⟩
      · rintro ⟨j, h1, h2⟩
        by_cases hjk : j = k
        · subst hjk; exact absurd h2.symm e
        · exact ⟨j, by omega, h2⟩
theorem atQ_inj {t x y : Nat} (ht : 0 < t) (hx : x < t * 36) (hy : y < t * 36) (h : atQ t x = atQ t y) : x = y := by
  unfold atQ at h
  have h1 : x / t < 36 := by rw [Nat.div_lt_iff_lt_mul ht]; rw [Nat.mul_comm]; exact hx
  have h2 : y / t < 36 := by rw [Nat.div_lt_iff_lt_mul ht]; rw [Nat.mul_comm]; exact hy
  have key : ∀ a b c d : Nat, c < 36 → d < 36 → 36 * a + c = 36 * b + d → a = b ∧ c = d := fun a b c d _ _ _ => by omega
  obtain ⟨hm, hd⟩ := key _ _ _ _ h1 h2 h
  rw [← Nat.div_add_mod x t, ← Nat.div_add_mod y t, hm, hd]
theorem bits_at {t : Nat} {xs : List Int} (ht : 0 < t) (hb : ∀ j, j < xs.length → 0 ≤ xs.getD j 0 ∧ xs.getD j 0 < t * 36) {x : Nat} (hx : x < t * 36) : bitsK t xs xs.length (atQ t x) = decide ((x : Int) ∈ xs) := by
  rw [Bool.eq_iff_iff, bitsK_iff, decide_eq_true_eq, mem_getD]
  constructor
  · rintro ⟨j, h1, h2⟩
    have := hb j h1
    have := atQ_inj ht (by omega) hx h2
    exact ⟨j, h1, by omega⟩
  · rintro ⟨j, h1, h2⟩
    exact ⟨j, h1, by rw [h2]; rfl⟩
end Go.Proofs.Ytnhjofcmaodamaa
