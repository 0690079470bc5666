/-
  First hooks and partitions tell each other: plain facts.
-/
import Derived.Test.YtmjncedijddmmaaFst
namespace Go.Proofs.Ytmjncedijddmmaa

theorem beads_rises {p : List Int} (G : Good p) : Rises 1 60 (beadsL p p.length) := by
  have hl := beadsL_len p p.length
  have h30 := G.len
  refine ⟨fun j hj => ?_, fun j hj => ?_⟩
  · rw [hl] at hj
    have h1 := G.pos (p.length - 1 - j) (by omega)
    have h2 := G.le (p.length - 1 - j) (by omega)
    unfold beadsL
    rw [fnRow_get _ _ _ hj]
    unfold bead; omega
  · rw [hl] at hj
    unfold beadsL
    rw [fnRow_get _ _ _ (by omega), fnRow_get _ _ _ hj]
    unfold bead
    have := G.down (p.length - 1 - (j + 1)) (by omega)
    rw [show p.length - 1 - (j + 1) + 1 = p.length - 1 - j by omega] at this
    omega
theorem ext_fh {xs ys : List Int} (hl : xs.length = ys.length) (h : ∀ j, j < xs.length → xs.getD j 0 = ys.getD j 0) : xs = ys := by
  apply List.ext_getElem hl
  intro j h1 h2
  have := h j h1
  rw [List.getD_eq_getElem?_getD, List.getElem?_eq_getElem h1, List.getD_eq_getElem?_getD, List.getElem?_eq_getElem h2] at this
  exact this
theorem parts_beads_id {p : List Int} (G : Good p) : partsL (beadsL p p.length) = p := by
  have hu := rises_up (beads_rises G)
  have hl := beadsL_len p p.length
  have hfl : (partsL (beadsL p p.length)).length = p.length := by unfold partsL; rw [bpk_full hu _ (Nat.le_refl _), hl]
  refine ext_fh hfl fun j hj => ?_
  rw [hfl] at hj
  unfold partsL
  rw [bpk_get hu _ (Nat.le_refl _) j (by omega), hl]
  unfold beadsL
  rw [fnRow_get _ _ _ (by omega)]
  unfold bead
  rw [show p.length - 1 - (p.length - 1 - j) = j by omega]
  omega
theorem ff_beads {p : List Int} (G : Good p) : ffOk (beadsL p p.length) = true := by
  simp only [ffOk, Bool.and_eq_true, decide_eq_true_eq]
  refine ⟨by rw [beadsL_len]; exact G.len, rises_Rises.2 (beads_rises G), ?_⟩
  rw [parts_beads_id G]; exact (good_iff p).2 G
theorem beads_parts_id {xs : List Int} (h : ffOk xs = true) : firstF (ffF xs) = xs := by
  rw [ff_t h]
  simp only [ffOk, Bool.and_eq_true, decide_eq_true_eq] at h
  have R := rises_Rises.1 h.2.1
  have hu := rises_up R
  have hpl : (partsL xs).length = xs.length := bpk_full hu _ (Nat.le_refl _)
  rw [show firstF (partsL xs) = beadsL (partsL xs) (partsL xs).length by simp [firstF, h.2.2]]
  refine ext_fh (by rw [beadsL_len, hpl]) fun j hj => ?_
  rw [beadsL_len, hpl] at hj
  rw [hpl]
  unfold beadsL
  rw [fnRow_get _ _ _ hj]
  unfold bead partsL
  rw [bpk_get hu _ (Nat.le_refl _) _ (by omega), show xs.length - 1 - (xs.length - 1 - j) = j by omega]
  omega
end Go.Proofs.Ytmjncedijddmmaa
