/-
  Plain facts: the beads of the partition of some beads are those beads. No program in this text.
-/
import Derived.Test.YtmjncedijddmmaaCF
import Derived.Test.YtmjncedijddmmaaFhMath
import Derived.Test.YtmjncedijddmmaaCA
namespace Go.Proofs.Ytmjncedijddmmaa

theorem bpk_at {xs : List Int} (R : Rises 0 1000 xs) : ∀ k, k ≤ xs.length →
    (∀ j, j < k → (bpk xs k).getD j 0 = xs.getD (xs.length - 1 - j) 0 - ((xs.length - 1 - j : Nat) : Int)) ∧ (bpk xs k).length ≤ k ∧ ((bpk xs k).length < k → xs.getD (xs.length - k) 0 = ((xs.length - k : Nat) : Int))
  | 0, _ => ⟨fun j hj => absurd hj (Nat.not_lt_zero _), by simp [bpk], fun h => absurd h (by simp [bpk])⟩
  | k + 1, hk => by
    obtain ⟨h1, h2, h3⟩ := bpk_at R k (by omega)
    obtain ⟨i, hi⟩ : ∃ i, i = xs.length - 1 - k := ⟨_, rfl⟩
    have hge := rise_ge R i (by omega)
    have hk1 : xs.length - (k + 1) = i := by omega
    by_cases hx : (i : Int) < xs.getD i 0
    · rw [bpk_yes hi rfl hx]
      have hlen : (bpk xs k).length = k := by
        rcases Nat.lt_or_ge (bpk xs k).length k with h | h
        · exfalso
          have h4 := h3 h
          have h5 := gap_up R i 1 (by omega)
          rw [show xs.length - k = i + 1 by omega] at h4
          omega
        · omega
      refine ⟨fun j hj => ?_, by rw [List.length_append, hlen]; simp, fun h => ?_⟩
      · by_cases e : j = k
        · subst e
          rw [List.getD_eq_getElem?_getD, List.getElem?_append_right (by omega), hlen, Nat.sub_self, hi]; rfl
        · rw [List.getD_eq_getElem?_getD, List.getElem?_append_left (by omega), ← List.getD_eq_getElem?_getD]; exact h1 j (by omega)
      · rw [List.length_append, hlen] at h; simp at h
    · rw [bpk_no hi rfl hx]
      refine ⟨fun j hj => ?_, by omega, fun _ => by rw [hk1]; omega⟩
      by_cases e : j = k
      · subst e
        rw [getD_out h2, ← hi]; omega
      · exact h1 j (by omega)
theorem beadsL_parts {xs : List Int} (R : Rises 0 1000 xs) : beadsL (partsL xs) xs.length = xs := by
  refine ext_fh (beadsL_len _ _) fun j hj => ?_
  rw [beadsL_len] at hj
  unfold beadsL
  rw [fnRow_get _ _ _ hj]
  unfold bead partsL
  rw [(bpk_at R xs.length (Nat.le_refl _)).1 (xs.length - 1 - j) (by omega), show xs.length - 1 - (xs.length - 1 - j) = j by omega]
  omega
end Go.Proofs.Ytmjncedijddmmaa
