/-
  Several texts in one.
-/
import Derived.Test.YtiebnnchaopbkaaCB
import Derived.Test.YtiebnnchaopbkaaCF
import Derived.Test.YtiebnnchaopbkaaCA
/-
  First hooks: contracts of FirstHooks and FromFirstHooks on both sides.
-/
namespace Go.Proofs.Ytiebnnchaopbkaa
open Go.RowKit

def firstF (p : List Int) : List Int := if good p then beadsL p p.length else []
theorem bound_FirstHooks (xs : List Int) : (firstF xs).length ≤ 1048576 := by
  unfold firstF
  split
  · rename_i h; have := ((good_iff xs).1 h).len; rw [beadsL_len]; omega
  · exact Nat.zero_le _
theorem beadsL_take (p : List Int) (m : Nat) (h : m < p.length) : (beadsL p p.length).take (m + 1) = (beadsL p p.length).take m ++ [(m : Int) + p.getD (p.length - 1 - m) 0] := by
  have hl := beadsL_len p p.length
  rw [List.take_succ_eq_append_getElem (by omega)]
  have e : (beadsL p p.length).getD m 0 = (m : Int) + p.getD (p.length - 1 - m) 0 := by unfold beadsL; rw [fnRow_get _ _ _ h]; rfl
  rw [List.getD_eq_getElem?_getD, List.getElem?_eq_getElem (by omega)] at e
  rw [← e]; rfl

/-! FromFirstHooks -/
def ffOk (xs : List Int) : Bool := decide (xs.length ≤ 30) && (rises 1 60 xs && good (partsL xs))
def ffF (xs : List Int) : List Int := if ffOk xs then partsL xs else []
theorem bound_FromFirstHooks (xs : List Int) : (ffF xs).length ≤ 1048576 := by
  unfold ffF
  split
  · rename_i h
    simp only [ffOk, Bool.and_eq_true, decide_eq_true_eq] at h
    have := partsL_len xs; omega
  · exact Nat.zero_le _
theorem rises_up {hi : Int} {xs : List Int} (R : Rises 1 hi xs) : ∀ j, j < xs.length → (j : Int) < xs.getD j 0
  | 0, h => by have := (R.bd 0 h).1; omega
  | j + 1, h => by have := rises_up R j (by omega); have := R.up j h; omega
theorem bpk_full {xs : List Int} (h : ∀ j, j < xs.length → (j : Int) < xs.getD j 0) : ∀ k, k ≤ xs.length → (bpk xs k).length = k
  | 0, _ => rfl
  | k + 1, hk => by rw [bpk_yes rfl rfl (h _ (by omega)), List.length_append, bpk_full h k (by omega)]; rfl
theorem bpk_get {xs : List Int} (h : ∀ j, j < xs.length → (j : Int) < xs.getD j 0) : ∀ k, k ≤ xs.length → ∀ j, j < k → (bpk xs k).getD j 0 = xs.getD (xs.length - 1 - j) 0 - (xs.length - 1 - j : Nat)
  | 0, _, j, hj => by omega
  | k + 1, hk, j, hj => by
    have hl := bpk_full h k (by omega)
    rw [bpk_yes rfl rfl (h _ (by omega)), List.getD_eq_getElem?_getD, List.getElem?_append]
    by_cases e : j < k
    · rw [if_pos (by omega), ← List.getD_eq_getElem?_getD]; exact bpk_get h k (by omega) j e
    · have e2 : j = k := by omega
      subst e2
      rw [if_neg (by omega), hl, Nat.sub_self]; rfl
theorem ff_same {xs : List Int} (h0 : 0 < xs.length → 1 ≤ xs.getD 0 0) : goodB xs = ffOk xs := by
  cases e : ffOk xs
  · cases e2 : goodB xs
    · rfl
    · exfalso
      have G := goodB_iff.1 e2
      have hge : ∀ j, j < xs.length → 1 ≤ xs.getD j 0 := by
        intro j
        induction j with
        | zero => exact h0
        | succ j ih => intro h; have := ih (by omega); have := G.rise.up j h; omega
      have R1 : Rises 1 1000 xs := ⟨fun j hj => ⟨hge j hj, (G.rise.bd j hj).2⟩, G.rise.up⟩
      have hu := rises_up R1
      have hl := bpk_full hu xs.length (Nat.le_refl _)
      have h30 := G.parts.len
      have hll : (partsL xs).length = xs.length := hl
      have R : Rises 1 60 xs := ⟨fun j hj => by
        refine ⟨hge j hj, ?_⟩
        have h1 := bpk_get hu xs.length (Nat.le_refl _) (xs.length - 1 - j) (by omega)
        rw [show xs.length - 1 - (xs.length - 1 - j) = j by omega] at h1
        have h2 := G.parts.le (xs.length - 1 - j) (by omega)
        rw [show partsL xs = bpk xs xs.length from rfl, h1] at h2
        omega, G.rise.up⟩
      have h3 : xs.length ≤ 30 := by omega
      have : ffOk xs = true := by simp only [ffOk, Bool.and_eq_true, decide_eq_true_eq]; exact ⟨h3, rises_Rises.2 R, (good_iff _).2 G.parts⟩
      rw [this] at e; cases e
  · simp only [ffOk, Bool.and_eq_true, decide_eq_true_eq] at e
    have R := rises_Rises.1 e.2.1
    exact goodB_iff.2 ⟨by omega, ⟨fun j hj => by have := R.bd j hj; omega, R.up⟩, (good_iff _).1 e.2.2⟩
theorem ff_low {xs : List Int} (h : 0 < xs.length) (h0 : xs.getD 0 0 < 1) : ffOk xs = false := by
  cases e : ffOk xs
  · rfl
  · exfalso
    simp only [ffOk, Bool.and_eq_true, decide_eq_true_eq] at e
    have := ((rises_Rises.1 e.2.1).bd 0 h).1
    omega

theorem ff_f {xs : List Int} (h : ffOk xs = false) : ffF xs = [] := by simp [ffF, h]
theorem ff_t {xs : List Int} (h : ffOk xs = true) : ffF xs = partsL xs := by simp [ffF, h]
end Go.Proofs.Ytiebnnchaopbkaa
/-
  First hooks and partitions tell each other: plain facts.
-/
namespace Go.Proofs.Ytiebnnchaopbkaa

theorem beads_rises {p : List Int} (G : Good p) : Rises 1 60 (beadsL p p.length) := by
  have hl := beadsL_len p p.length
  have h30 := G.len
  refine ⟨fun j hj => ?_, fun j hj => ?_⟩
  · rw [hl] at hj
    have h1 := G.pos (p.length - 1 - j) (by omega)
    have h2 := G.le (p.length - 1 - j) (by omega)
    unfold beadsL
    rw [fnRow_get _ _ _ hj]
    unfold bead; omega
  · rw [hl] at hj
    unfold beadsL
    rw [fnRow_get _ _ _ (by omega), fnRow_get _ _ _ hj]
    unfold bead
    have := G.down (p.length - 1 - (j + 1)) (by omega)
    rw [show p.length - 1 - (j + 1) + 1 = p.length - 1 - j by omega] at this
    omega
theorem ext_fh {xs ys : List Int} (hl : xs.length = ys.length) (h : ∀ j, j < xs.length → xs.getD j 0 = ys.getD j 0) : xs = ys := by
  apply List.ext_getElem hl
  intro j h1 h2
  have := h j h1
  rw [List.getD_eq_getElem?_getD, List.getElem?_eq_getElem h1, List.getD_eq_getElem?_getD, List.getElem?_eq_getElem h2] at this
  exact this
theorem parts_beads_id {p : List Int} (G : Good p) : partsL (beadsL p p.length) = p := by
  have hu := rises_up (beads_rises G)
  have hl := beadsL_len p p.length
  have hfl : (partsL (beadsL p p.length)).length = p.length := by unfold partsL; rw [bpk_full hu _ (Nat.le_refl _), hl]
  refine ext_fh hfl fun j hj => ?_
  rw [hfl] at hj
  unfold partsL
  rw [bpk_get hu _ (Nat.le_refl _) j (by omega), hl]
  unfold beadsL
  rw [fnRow_get _ _ _ (by omega)]
  unfold bead
  rw [show p.length - 1 - (p.length - 1 - j) = j by omega]
  omega
theorem ff_beads {p : List Int} (G : Good p) : ffOk (beadsL p p.length) = true := by
  simp only [ffOk, Bool.and_eq_true, decide_eq_true_eq]
  refine ⟨by rw [beadsL_len]; exact G.len, rises_Rises.2 (beads_rises G), ?_⟩
  rw [parts_beads_id G]; exact (good_iff p).2 G
theorem beads_parts_id {xs : List Int} (h : ffOk xs = true) : firstF (ffF xs) = xs := by
  rw [ff_t h]
  simp only [ffOk, Bool.and_eq_true, decide_eq_true_eq] at h
  have R := rises_Rises.1 h.2.1
  have hu := rises_up R
  have hpl : (partsL xs).length = xs.length := bpk_full hu _ (Nat.le_refl _)
  rw [show firstF (partsL xs) = beadsL (partsL xs) (partsL xs).length by simp [firstF, h.2.2]]
  refine ext_fh (by rw [beadsL_len, hpl]) fun j hj => ?_
  rw [beadsL_len, hpl] at hj
  rw [hpl]
  unfold beadsL
  rw [fnRow_get _ _ _ hj]
  unfold bead partsL
  rw [bpk_get hu _ (Nat.le_refl _) _ (by omega), show xs.length - 1 - (xs.length - 1 - j) = j by omega]
  omega
end Go.Proofs.Ytiebnnchaopbkaa
/-
  Plain facts: the beads of the partition of some beads are those beads. No program in this text.
-/
namespace Go.Proofs.Ytiebnnchaopbkaa

theorem bpk_at {xs : List Int} (R : Rises 0 1000 xs) : ∀ k, k ≤ xs.length →
    (∀ j, j < k → (bpk xs k).getD j 0 = xs.getD (xs.length - 1 - j) 0 - ((xs.length - 1 - j : Nat) : Int)) ∧ (bpk xs k).length ≤ k ∧ ((bpk xs k).length < k → xs.getD (xs.length - k) 0 = ((xs.length - k : Nat) : Int))
  | 0, _ => ⟨fun j hj => absurd hj (Nat.not_lt_zero _), by simp [bpk], fun h => absurd h (by simp [bpk])⟩
  | k + 1, hk => by
    obtain ⟨h1, h2, h3⟩ := bpk_at R k (by omega)
    obtain ⟨i, hi⟩ : ∃ i, i = xs.length - 1 - k := ⟨_, rfl⟩
    have hge := rise_ge R i (by omega)
    have hk1 : xs.length - (k + 1) = i := by omega
    by_cases hx : (i : Int) < xs.getD i 0
    · rw [bpk_yes hi rfl hx]
      have hlen : (bpk xs k).length = k := by
        rcases Nat.lt_or_ge (bpk xs k).length k with h | h
        · exfalso
          have h4 := h3 h
          have h5 := gap_up R i 1 (by omega)
          rw [show xs.length - k = i + 1 by omega] at h4
          omega
        · omega
      refine ⟨fun j hj => ?_, by rw [List.length_append, hlen]; simp, fun h => ?_⟩
      · by_cases e : j = k
        · subst e
          rw [List.getD_eq_getElem?_getD, List.getElem?_append_right (by omega), hlen, Nat.sub_self, hi]; rfl
        · rw [List.getD_eq_getElem?_getD, List.getElem?_append_left (by omega), ← List.getD_eq_getElem?_getD]; exact h1 j (by omega)
      · rw [List.length_append, hlen] at h; simp at h
    · rw [bpk_no hi rfl hx]
      refine ⟨fun j hj => ?_, by omega, fun _ => by rw [hk1]; omega⟩
      by_cases e : j = k
      · subst e
        rw [getD_out h2, ← hi]; omega
      · exact h1 j (by omega)
theorem beadsL_parts {xs : List Int} (R : Rises 0 1000 xs) : beadsL (partsL xs) xs.length = xs := by
  refine ext_fh (beadsL_len _ _) fun j hj => ?_
  rw [beadsL_len] at hj
  unfold beadsL
  rw [fnRow_get _ _ _ hj]
  unfold bead partsL
  rw [(bpk_at R xs.length (Nat.le_refl _)).1 (xs.length - 1 - j) (by omega), show xs.length - 1 - (xs.length - 1 - j) = j by omega]
  omega
end Go.Proofs.Ytiebnnchaopbkaa
