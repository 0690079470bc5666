/-
  Several texts in one.
-/
import Derived.Test.YtijfefahogcfmaaGreatR02
import Derived.Test.YtijfefahogcfmaaGreatR06
/-
  Beads of partitions: their parts, and that they are beads.
-/
namespace Go.Proofs.YtijfefahogcfmaaGreat

theorem getD_out {p : List Int} {k : Nat} (h : p.length ≤ k) : p.getD k 0 = 0 := by rw [List.getD_eq_getElem?_getD, List.getElem?_eq_none h]; rfl
theorem bpk_beads {p : List Int} (G : Good p) {n : Nat} : ∀ k, k ≤ n → bpk (beadsL p n) k = p.take k
  | 0, _ => rfl
  | k + 1, h => by
    have ih := bpk_beads G (n := n) k (by omega)
    have hl := beadsL_len p n
    have hx : (beadsL p n).getD (n - 1 - k) 0 = bead p n (n - 1 - k) := fnRow_get _ _ _ (by omega)
    have hb : bead p n (n - 1 - k) = ((n - 1 - k : Nat) : Int) + p.getD k 0 := by unfold bead; rw [show n - 1 - (n - 1 - k) = k by omega]
    by_cases hk : k < p.length
    · have h1 := G.pos k hk
      rw [bpk_yes (i := n - 1 - k) (x := bead p n (n - 1 - k)) (by rw [hl]) hx.symm (by rw [hb]; omega), ih, take_snoc p k hk _ rfl, hb]
      congr 2; omega
    · have h0 := getD_out (p := p) (k := k) (by omega)
      rw [bpk_no (i := n - 1 - k) (x := bead p n (n - 1 - k)) (by rw [hl]) hx.symm (by rw [hb]; omega), ih, List.take_of_length_le (by omega), List.take_of_length_le (by omega)]
theorem partsL_beads {p : List Int} (G : Good p) {n : Nat} (h : p.length ≤ n) : partsL (beadsL p n) = p := by
  unfold partsL; rw [bpk_beads G _ (by rw [beadsL_len]; exact Nat.le_refl _), beadsL_len, List.take_of_length_le h]
theorem part_down {p : List Int} (G : Good p) (i : Nat) : p.getD (i + 1) 0 ≤ p.getD i 0 := by
  by_cases h : i + 1 < p.length
  · exact G.down i h
  · rw [getD_out (k := i + 1) (by omega)]
    by_cases h2 : i < p.length
    · have := G.pos i h2; omega
    · rw [getD_out (k := i) (by omega)]; omega
/-- The beads of a partition are beads. -/
theorem beadsL_goodB {p : List Int} (G : Good p) {n : Nat} (h : p.length ≤ n) (hn : n ≤ 40) : goodB (beadsL p n) = true := by
  refine goodB_iff.2 ⟨by rw [beadsL_len]; exact hn, ⟨fun j hj => ?_, fun j hj => ?_⟩, by rw [partsL_beads G h]; exact G⟩
  · rw [beadsL_len] at hj
    rw [show (beadsL p n).getD j 0 = bead p n j from fnRow_get _ _ _ hj]
    have := bead_bd G n j hj hn; omega
  · rw [beadsL_len] at hj
    rw [show (beadsL p n).getD j 0 = bead p n j from fnRow_get _ _ _ (by omega), show (beadsL p n).getD (j + 1) 0 = bead p n (j + 1) from fnRow_get _ _ _ hj]
    unfold bead
    have := part_down G (n - 1 - (j + 1))
    rw [show n - 1 - (j + 1) + 1 = n - 1 - j by omega] at this
    omega
end Go.Proofs.YtijfefahogcfmaaGreat
/-
  Plain facts on Maya's numbers of a list of parts, as the model and the program tell them.
-/
namespace Go.Proofs.YtijfefahogcfmaaGreat

def num (p : List Int) (i : Nat) : Int := p.getD i 0 - i - 1
def mayaA (p : List Int) : Nat → List Int
  | 0 => []
  | k + 1 => mayaA p k ++ if 0 ≤ num p k then [num p k] else []
def heldL (p : List Int) (k : Nat) : List Int := (List.range k).map (num p)
def mayaB (p : List Int) : Nat → List Int
  | 0 => []
  | j + 1 => mayaB p j ++ if (-1 - (j : Int)) ∈ heldL p p.length then [] else [-1 - (j : Int)]
def mayaL (p : List Int) : List Int := mayaA p p.length ++ mayaB p p.length
def mayaF (p : List Int) : List Int := if good p then mayaL p else []
theorem mayaA_yes {p : List Int} {k : Nat} {x : Int} (hx : x = num p k) (h : 0 ≤ x) : mayaA p (k + 1) = mayaA p k ++ [x] := by subst hx; simp only [mayaA]; rw [if_pos h]
theorem mayaA_no {p : List Int} {k : Nat} {x : Int} (hx : x = num p k) (h : ¬ 0 ≤ x) : mayaA p (k + 1) = mayaA p k := by subst hx; simp only [mayaA]; rw [if_neg h, List.append_nil]
theorem mayaB_yes {p : List Int} {j : Nat} (h : (-1 - (j : Int)) ∈ heldL p p.length) : mayaB p (j + 1) = mayaB p j := by simp only [mayaB]; rw [if_pos h, List.append_nil]
theorem mayaB_no {p : List Int} {j : Nat} (h : ¬ (-1 - (j : Int)) ∈ heldL p p.length) : mayaB p (j + 1) = mayaB p j ++ [-1 - (j : Int)] := by simp only [mayaB]; rw [if_neg h]
theorem mayaA_len (p : List Int) : ∀ k, (mayaA p k).length ≤ k
  | 0 => by simp [mayaA]
  | k + 1 => by have := mayaA_len p k; simp only [mayaA, List.length_append]; split <;> simp <;> omega
theorem mayaB_len (p : List Int) : ∀ k, (mayaB p k).length ≤ k
  | 0 => by simp [mayaB]
  | k + 1 => by have := mayaB_len p k; simp only [mayaB, List.length_append]; split <;> simp <;> omega
theorem heldL_len (p : List Int) (k : Nat) : (heldL p k).length = k := by simp [heldL]
theorem heldL_succ (p : List Int) (k : Nat) : heldL p (k + 1) = heldL p k ++ [num p k] := by simp [heldL, List.range_succ]
theorem heldL_get (p : List Int) (k j : Nat) (h : j < k) : (heldL p k).getD j 0 = num p j := by simp [heldL, List.getD, h]
theorem mayaL_len (p : List Int) : (mayaL p).length ≤ 2 * p.length := by
  unfold mayaL; rw [List.length_append]; have := mayaA_len p p.length; have := mayaB_len p p.length; omega
theorem bound_MayaOf (p : List Int) : (mayaF p).length ≤ 1048576 := by
  unfold mayaF; split
  · rename_i h; have := ((good_iff p).1 h).len; have := mayaL_len p; omega
  · simp
theorem num_bd {p : List Int} (G : Good p) {i : Nat} (h : i < p.length) : -31 ≤ num p i ∧ num p i ≤ 30 := by
  have := G.pos i h; have := G.le i h; have := G.len; unfold num; omega
/-- A bead at a place stands for a number that is held. -/
theorem bead_held (p : List Int) (j : Nat) (hj : j < p.length) : ((p.length - 1 - j : Nat) : Int) ∈ beadsL p p.length ↔ (-1 - (j : Int)) ∈ heldL p p.length := by
  have key : ∀ i, i < p.length → bead p p.length (p.length - 1 - i) = num p i + p.length := by
    intro i hi
    unfold bead num
    rw [show p.length - 1 - (p.length - 1 - i) = i by omega]; omega
  constructor
  · intro h
    simp only [beadsL, fnRow, List.mem_map, List.mem_range] at h
    obtain ⟨i, hi, e⟩ := h
    simp only [heldL, List.mem_map, List.mem_range]
    refine ⟨p.length - 1 - i, by omega, ?_⟩
    have := key (p.length - 1 - i) (by omega)
    rw [show p.length - 1 - (p.length - 1 - i) = i by omega] at this
    omega
  · intro h
    simp only [heldL, List.mem_map, List.mem_range] at h
    obtain ⟨i, hi, e⟩ := h
    simp only [beadsL, fnRow, List.mem_map, List.mem_range]
    refine ⟨p.length - 1 - i, by omega, ?_⟩
    have := key i hi
    omega
end Go.Proofs.YtijfefahogcfmaaGreat
