/-
  Several texts in one.
-/
import Derived.Test.YtmjncedijddmmaaR01
import Derived.Test.YtmjncedijddmmaaR02
import Derived.Test.YtmjncedijddmmaaCF
import Derived.Test.YtmjncedijddmmaaR04
/-
  Beads of partitions: their parts, and that they are beads.
-/
namespace Go.Proofs.Ytmjncedijddmmaa

theorem getD_out {p : List Int} {k : Nat} (h : p.length ≤ k) : p.getD k 0 = 0 := by rw [List.getD_eq_getElem?_getD, List.getElem?_eq_none h]; rfl
theorem bpk_beads {p : List Int} (G : Good p) {n : Nat} : ∀ k, k ≤ n → bpk (beadsL p n) k = p.take k
  | 0, _ => rfl
  | k + 1, h => by
    have ih := bpk_beads G (n := n) k (by omega)
    have hl := beadsL_len p n
    have hx : (beadsL p n).getD (n - 1 - k) 0 = bead p n (n - 1 - k) := fnRow_get _ _ _ (by omega)
    have hb : bead p n (n - 1 - k) = ((n - 1 - k : Nat) : Int) + p.getD k 0 := by unfold bead; rw [show n - 1 - (n - 1 - k) = k by omega]
    by_cases hk : k < p.length
    · have h1 := G.pos k hk
      rw [bpk_yes (i := n - 1 - k) (x := bead p n (n - 1 - k)) (by rw [hl]) hx.symm (by rw [hb]; omega), ih, take_snoc p k hk _ rfl, hb]
      congr 2; omega
    · have h0 := getD_out (p := p) (k := k) (by omega)
      rw [bpk_no (i := n - 1 - k) (x := bead p n (n - 1 - k)) (by rw [hl]) hx.symm (by rw [hb]; omega), ih, List.take_of_length_le (by omega), List.take_of_length_le (by omega)]
theorem partsL_beads {p : List Int} (G : Good p) {n : Nat} (h : p.length ≤ n) : partsL (beadsL p n) = p := by
  unfold partsL; rw [bpk_beads G _ (by rw [beadsL_len]; exact Nat.le_refl _), beadsL_len, List.take_of_length_le h]
theorem part_down {p : List Int} (G : Good p) (i : Nat) : p.getD (i + 1) 0 ≤ p.getD i 0 := by
  by_cases h : i + 1 < p.length
  · exact G.down i h
  · rw [getD_out (k := i + 1) (by omega)]
    by_cases h2 : i < p.length
    · have := G.pos i h2; omega
    · rw [getD_out (k := i) (by omega)]; omega
/-- The beads of a partition are beads. -/
theorem beadsL_goodB {p : List Int} (G : Good p) {n : Nat} (h : p.length ≤ n) (hn : n ≤ 40) : goodB (beadsL p n) = true := by
  refine goodB_iff.2 ⟨by rw [beadsL_len]; exact hn, ⟨fun j hj => ?_, fun j hj => ?_⟩, by rw [partsL_beads G h]; exact G⟩
  · rw [beadsL_len] at hj
    rw [show (beadsL p n).getD j 0 = bead p n j from fnRow_get _ _ _ hj]
    have := bead_bd G n j hj hn; omega
  · rw [beadsL_len] at hj
    rw [show (beadsL p n).getD j 0 = bead p n j from fnRow_get _ _ _ (by omega), show (beadsL p n).getD (j + 1) 0 = bead p n (j + 1) from fnRow_get _ _ _ hj]
    unfold bead
    have := part_down G (n - 1 - (j + 1))
    rw [show n - 1 - (j + 1) + 1 = n - 1 - j by omega] at this
    omega
end Go.Proofs.Ytmjncedijddmmaa
/-
  Plain facts: the beads of the partition of some beads are those beads. No program in this text.
-/
namespace Go.Proofs.Ytmjncedijddmmaa

theorem bpk_at {xs : List Int} (R : Rises 0 1000 xs) : ∀ k, k ≤ xs.length →
    (∀ j, j < k → (bpk xs k).getD j 0 = xs.getD (xs.length - 1 - j) 0 - ((xs.length - 1 - j : Nat) : Int)) ∧ (bpk xs k).length ≤ k ∧ ((bpk xs k).length < k → xs.getD (xs.length - k) 0 = ((xs.length - k : Nat) : Int))
  | 0, _ => ⟨fun j hj => absurd hj (Nat.not_lt_zero _), by simp [bpk], fun h => absurd h (by simp [bpk])⟩
  | k + 1, hk => by
    obtain ⟨h1, h2, h3⟩ := bpk_at R k (by omega)
    obtain ⟨i, hi⟩ : ∃ i, i = xs.length - 1 - k := ⟨_, rfl⟩
    have hge := rise_ge R i (by omega)
    have hk1 : xs.length - (k + 1) = i := by omega
    by_cases hx : (i : Int) < xs.getD i 0
    · rw [bpk_yes hi rfl hx]
      have hlen : (bpk xs k).length = k := by
        rcases Nat.lt_or_ge (bpk xs k).length k with h | h
        · exfalso
          have h4 := h3 h
          have h5 := gap_up R i 1 (by omega)
          rw [show xs.length - k = i + 1 by omega] at h4
          omega
        · omega
      refine ⟨fun j hj => ?_, by rw [List.length_append, hlen]; simp, fun h => ?_⟩
      · by_cases e : j = k
        · subst e
          rw [List.getD_eq_getElem?_getD, List.getElem?_append_right (by omega), hlen, Nat.sub_self, hi]; rfl
        · rw [List.getD_eq_getElem?_getD, List.getElem?_append_left (by omega), ← List.getD_eq_getElem?_getD]; exact h1 j (by omega)
      · rw [List.length_append, hlen] at h; simp at h
    · rw [bpk_no hi rfl hx]
      refine ⟨fun j hj => ?_, by omega, fun _ => by rw [hk1]; omega⟩
      by_cases e : j = k
      · subst e
        rw [getD_out h2, ← hi]; omega
      · exact h1 j (by omega)
theorem beadsL_parts {xs : List Int} (R : Rises 0 1000 xs) : beadsL (partsL xs) xs.length = xs := by
  refine ext_fh (beadsL_len _ _) fun j hj => ?_
  rw [beadsL_len] at hj
  unfold beadsL
  rw [fnRow_get _ _ _ hj]
  unfold bead partsL
  rw [(bpk_at R xs.length (Nat.le_refl _)).1 (xs.length - 1 - j) (by omega), show xs.length - 1 - (xs.length - 1 - j) = j by omega]
  omega
end Go.Proofs.Ytmjncedijddmmaa
