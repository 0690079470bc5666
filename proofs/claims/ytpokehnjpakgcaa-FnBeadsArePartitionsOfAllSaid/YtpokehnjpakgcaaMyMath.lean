/-
  Beads and Maya's numbers are partitions again: the mathematics of FnBeadsArePartitionsOfAll.
-/
import Derived.Test.YtpokehnjpakgcaaUnMath
import Derived.Test.YtpokehnjpakgcaaCA
import Derived.Test.YtpokehnjpakgcaaSame
namespace Go.Proofs.Ytpokehnjpakgcaa

def Pos (p : List Int) : Prop := ∀ i, i < p.length → 1 ≤ p.getD i 0
theorem my_held {p : List Int} {k : Nat} {x : Int} : x ∈ heldL p k ↔ ∃ i, i < k ∧ num p i = x := by simp [heldL]
theorem my_mem {p : List Int} {x : Int} : x ∈ mayaL p ↔ (0 ≤ x ∧ x ∈ heldL p p.length) ∨ (x < 0 ∧ -(p.length : Int) ≤ x ∧ x ∉ heldL p p.length) := by
  unfold mayaL
  rw [mayaA_pos, mayaB_gaps, List.mem_append]
  simp only [posPart, gaps, List.mem_filter, decide_eq_true_eq, mem_below]
  constructor
  · rintro (⟨h1, h2⟩ | ⟨⟨h1, h2⟩, h3⟩)
    · exact .inl ⟨h2, h1⟩
    · exact .inr ⟨h1, h2, h3⟩
  · rintro (⟨h1, h2⟩ | ⟨h1, h2, h3⟩)
    · exact .inl ⟨h2, h1⟩
    · exact .inr ⟨⟨h1, h2⟩, h3⟩
theorem my_low {p : List Int} (G : Pos p) {x : Int} (h : x ∈ heldL p p.length) : 1 - (p.length : Int) ≤ x := by
  obtain ⟨i, hi, rfl⟩ := my_held.1 h
  have := G i hi
  unfold num; omega
theorem my_len_le {p q : List Int} (Gp : Pos p) (h : mayaL p = mayaL q) : p.length ≤ q.length := by
  rcases Nat.eq_zero_or_pos p.length with h0 | h0
  · omega
  · have h1 : -(p.length : Int) ∈ mayaL p := my_mem.2 (.inr ⟨by omega, by omega, fun hx => by have := my_low Gp hx; omega⟩)
    rw [h] at h1
    rcases my_mem.1 h1 with ⟨h2, _⟩ | ⟨_, h2, _⟩ <;> omega
theorem my_sub {p q : List Int} (Gp : Pos p) (h : mayaL p = mayaL q) (hl : p.length = q.length) {x : Int} (hx : x ∈ heldL p p.length) : x ∈ heldL q q.length := by
  by_cases h0 : 0 ≤ x
  · have := my_mem.2 (.inl ⟨h0, hx⟩)
    rw [h] at this
    rcases my_mem.1 this with ⟨_, h2⟩ | ⟨h2, _, _⟩
    · exact h2
    · omega
  · have hlo := my_low Gp hx
    rcases Classical.em (x ∈ heldL q q.length) with h1 | h1
    · exact h1
    · have := my_mem.2 (.inr ⟨by omega, by omega, h1⟩)
      rw [← h] at this
      rcases my_mem.1 this with ⟨h2, _⟩ | ⟨_, _, h2⟩
      · omega
      · exact absurd hx h2
theorem my_inj {p q : List Int} (Gp : Pos p) (Gq : Pos q) (Fp : Falls (heldL p p.length)) (Fq : Falls (heldL q q.length)) (h : mayaL p = mayaL q) : p = q := by
  have hl : p.length = q.length := Nat.le_antisymm (my_len_le Gp h) (my_len_le Gq h.symm)
  have e := falls_ext _ _ Fp Fq fun x => ⟨my_sub Gp h hl, my_sub Gq h.symm hl.symm⟩
  refine rows_ext hl fun j hj => ?_
  have h1 := heldL_get p p.length j hj
  have h2 := heldL_get q q.length j (by omega)
  rw [e, h2] at h1
  unfold num at h1; omega

theorem my_split (l : List Int) (f : Int → Bool) : (l.filter f).sum + (l.filter fun x => !f x).sum = l.sum := by
  induction l with
  | nil => rfl
  | cons x l ih => cases h : f x <;> simp [h] <;> omega
theorem my_hsum (p : List Int) : ∀ k, k ≤ p.length → (heldL p k).sum = (p.take k).sum + (below k).sum
  | 0, _ => by simp [heldL, below]
  | k + 1, h => by
    rw [heldL_succ, below_succ, List.sum_append, List.sum_append, my_hsum p k (by omega), List.take_succ_eq_append_getElem (by omega), List.sum_append]
    simp only [List.sum_cons, List.sum_nil, num]
    rw [getD_in (show k < p.length by omega)]
    omega
theorem my_sum {p : List Int} (G : Good p) : (mayaA p p.length).sum - (mayaB p p.length).sum = p.sum := by
  have hf := held_falls G p.length (Nat.le_refl _)
  have hneg : unHits (heldL p p.length) p.length = negPart (heldL p p.length) := by
    refine falls_ext _ _ (falls_filter (below_falls _) _) (falls_filter hf _) fun x => ?_
    simp only [unHits, negPart, List.mem_filter, decide_eq_true_eq]
    constructor
    · rintro ⟨h1, h2⟩; exact ⟨h2, (mem_below.1 h1).1⟩
    · rintro ⟨h1, h2⟩
      exact ⟨mem_below.2 ⟨h2, by have := my_low G.pos h1; omega⟩, h1⟩
  have h1 := my_split (heldL p p.length) fun x => decide (0 ≤ x)
  have h2 := my_split (below p.length) fun x => decide (x ∉ heldL p p.length)
  have h3 := my_hsum p p.length (Nat.le_refl _)
  rw [List.take_length] at h3
  have e1 : ((heldL p p.length).filter fun x => !decide (0 ≤ x)) = negPart (heldL p p.length) := by
    unfold negPart; apply List.filter_congr; intro x _; rw [Bool.eq_iff_iff]; simp
  have e2 : ((below p.length).filter fun x => !decide (x ∉ heldL p p.length)) = unHits (heldL p p.length) p.length := by
    unfold unHits; apply List.filter_congr; intro x _; simp
  rw [e1] at h1
  rw [e2, hneg] at h2
  rw [mayaA_pos, mayaB_gaps]
  change (posPart (heldL p p.length)).sum + _ = _ at h1
  change (gaps (heldL p p.length) p.length).sum + _ = _ at h2
  omega

theorem un_maya {p : List Int} (G : Good p) : unOk (mayaL p) = true ∧ unF (mayaL p) = p := by
  have M := maya_MO G
  have hl := unOut_len (mayaL p)
  have e : unOut (mayaL p) = p := by
    refine my_inj (fun i hi => ?_) G.pos (by rw [hl, out_held M]; exact hold_falls M.falls) (held_falls G _ (Nat.le_refl _)) (maya_out M)
    rw [hl] at hi
    have := out_pos M hi
    unfold unOut
    rw [fnRow_get _ _ _ hi]
    omega
  have h1 : unOk (mayaL p) = true := by simp [unOk, moB_iff.2 M, e, (good_iff p).2 G]
  exact ⟨h1, by rw [unF_yes h1, e]⟩
/-- The sum of the first k numbers, those from the half on taken off. -/
def myS (m : List Int) (h : Nat) : Nat → Int
  | 0 => 0
  | k + 1 => myS m h k + if k < h then m.getD k 0 else -m.getD k 0
theorem myS_bd {m : List Int} (hb : ∀ j, j < m.length → -1000 ≤ m.getD j 0 ∧ m.getD j 0 ≤ 1000) (h : Nat) : ∀ k, k ≤ m.length → -1000 * (k : Int) ≤ myS m h k ∧ myS m h k ≤ 1000 * k
  | 0, _ => by simp [myS]
  | k + 1, hk => by
    have := myS_bd hb h k (by omega)
    have := hb k (by omega)
    rw [myS]; split <;> omega
theorem take_sum (m : List Int) (k : Nat) (h : k < m.length) : (m.take (k + 1)).sum = (m.take k).sum + m.getD k 0 := by
  rw [List.take_succ_eq_append_getElem h, List.sum_append, getD_in h]; simp
theorem myS_lo (m : List Int) (h : Nat) : ∀ k, k ≤ h → k ≤ m.length → myS m h k = (m.take k).sum
  | 0, _, _ => by simp [myS]
  | k + 1, hh, hk => by rw [myS, if_pos (by omega), myS_lo m h k (by omega) (by omega), take_sum m k (by omega)]
theorem myS_hi (m : List Int) (h : Nat) (hh : h ≤ m.length) : ∀ d, h + d ≤ m.length → myS m h (h + d) = 2 * (m.take h).sum - (m.take (h + d)).sum
  | 0, _ => by rw [Nat.add_zero, myS_lo m h h (Nat.le_refl _) hh]; omega
  | d + 1, hd => by
    rw [show h + (d + 1) = (h + d) + 1 by omega, myS, if_neg (by omega), myS_hi m h hh d (by omega), take_sum m (h + d) (by omega)]; omega
theorem myS_all {p : List Int} (G : Good p) : myS (mayaL p) ((mayaL p).length / 2) (mayaL p).length = p.sum := by
  have M := maya_MO G
  have e := myS_hi (mayaL p) ((mayaL p).length / 2) (by omega) ((mayaL p).length - (mayaL p).length / 2) (by omega)
  rw [show (mayaL p).length / 2 + ((mayaL p).length - (mayaL p).length / 2) = (mayaL p).length by omega, List.take_of_length_le (Nat.le_refl _)] at e
  have hA : (mayaL p).take ((mayaL p).length / 2) = mayaA p p.length := by
    rw [← M.take.1]
    unfold mayaL posPart
    have eA : mayaA p p.length = posPart (heldL p p.length) := mayaA_pos _ _
    have eB : mayaB p p.length = gaps (heldL p p.length) p.length := mayaB_gaps _ _
    rw [List.filter_append, List.filter_eq_self.2, List.filter_eq_nil_iff.2, List.append_nil]
    · intro x hx
      rw [eB] at hx
      simp only [gaps, List.mem_filter] at hx
      have := (mem_below.1 hx.1).1
      simp; omega
    · intro x hx
      rw [eA] at hx
      simp only [posPart, List.mem_filter] at hx
      exact hx.2
  have hs := my_sum G
  have e2 : (mayaL p).sum = (mayaA p p.length).sum + (mayaB p p.length).sum := by unfold mayaL; rw [List.sum_append]
  rw [e, hA, e2]; omega
theorem shiftL_hi (L : List Int) (k i : Nat) (h : i < L.length) : (shiftL L k).getD (k + i) 0 = L.getD i 0 + k := by
  have hu := upTo_len k
  unfold shiftL
  rw [List.getD_eq_getElem?_getD, List.getElem?_append_right (by omega), hu, Nat.add_sub_cancel_left, List.getElem?_map, List.getElem?_eq_getElem h, getD_in h]; rfl
theorem shiftL_lo (L : List Int) (k i : Nat) (h : i < k) : (shiftL L k).getD i 0 = i := by
  have hu := upTo_len k
  unfold shiftL
  rw [List.getD_eq_getElem?_getD, List.getElem?_append_left (by omega), ← List.getD_eq_getElem?_getD]
  exact fnRow_get _ _ _ h
theorem my_shift (L : List Int) (k : Nat) : partsL (shiftL L k) = partsL L := by
  have hl := shiftL_len L k
  have h1 : ∀ j, j ≤ L.length → bpk (shiftL L k) j = bpk L j := by
    intro j
    induction j with
    | zero => intro _; rfl
    | succ j ih =>
      intro hj
      have hv := shiftL_hi L k (L.length - 1 - j) (by omega)
      by_cases h : ((L.length - 1 - j : Nat) : Int) < L.getD (L.length - 1 - j) 0
      · rw [bpk_yes (i := k + (L.length - 1 - j)) (by omega) hv.symm (by omega), bpk_yes (i := L.length - 1 - j) rfl rfl h, ih (by omega)]
        congr 2; omega
      · rw [bpk_no (i := k + (L.length - 1 - j)) (by omega) hv.symm (by omega), bpk_no (i := L.length - 1 - j) rfl rfl h, ih (by omega)]
  have h2 : ∀ j, j ≤ k → bpk (shiftL L k) (L.length + j) = bpk L L.length := by
    intro j
    induction j with
    | zero => intro _; exact h1 _ (Nat.le_refl _)
    | succ j ih =>
      intro hj
      rw [show L.length + (j + 1) = (L.length + j) + 1 by omega, bpk_no (i := k - 1 - j) (by omega) (shiftL_lo L k _ (by omega)).symm (by omega), ih (by omega)]
  unfold partsL
  rw [hl, Nat.add_comm, h2 k (Nat.le_refl _)]
/-- Beads of a partition, asked for by any int. -/
theorem beads_t {p : List Int} {n : Int} (h : beadsOk p n = true) : good p = true ∧ (p.length : Int) ≤ n ∧ n ≤ 40 ∧ beadsF p n = beadsL p n.toNat := by
  simp only [beadsOk, Bool.and_eq_true] at h
  have h2 := inB_iff.1 h.2
  exact ⟨h.1, h2.1, h2.2, by rw [beadsF, if_pos ⟨h.1, h2.1, h2.2⟩]⟩
theorem beads_facts {p : List Int} {n : Int} (h : beadsOk p n = true) : goodB (beadsF p n) = true ∧ fromBeadsF (beadsF p n) = p ∧ leastF (beadsF p n) = beadsF p p.length ∧ beadsOk p p.length = true ∧ ((beadsF p n).length : Int) = n := by
  obtain ⟨hg, h1, h2, e⟩ := beads_t h
  have G := (good_iff p).1 hg
  have hb := beadsL_goodB G (n := n.toNat) (by omega) (by omega)
  have hp := partsL_beads G (n := n.toNat) (by omega)
  have h30 := G.len
  rw [e]
  refine ⟨hb, by simp [fromBeadsF, hb, hp], ?_, ?_, by rw [beadsL_len]; omega⟩
  · rw [beadsF, if_pos ⟨hg, Int.le_refl _, by omega⟩, leastF, if_pos hb, hp]; rfl
  · simp only [beadsOk, hg, Bool.true_and]; exact inB_iff.2 ⟨Int.le_refl _, by omega⟩
theorem shift_facts {b : List Int} {s : Int} (h : shiftOk b s = true) : goodB (shiftF b s) = true ∧ fromBeadsF (shiftF b s) = fromBeadsF b := by
  have e : shiftF b s = shiftL b s.toNat := by simp [shiftF, h]
  simp only [shiftOk, Bool.and_eq_true] at h
  rw [e]
  refine ⟨h.2.2.2, ?_⟩
  simp [fromBeadsF, h.2.2.2, h.1, my_shift]
end Go.Proofs.Ytpokehnjpakgcaa
