/-
  Several texts in one.
-/
import Derived.Test.YtelfapheigobeaaR16
import Derived.Test.YtelfapheigobeaaR06
import Derived.Test.YtelfapheigobeaaR04
import Derived.Test.YtelfapheigobeaaR15
/-
  Doubles taken apart: when Maya's numbers of a partition are those of a double.
-/
namespace Go.Proofs.Ytelfapheigobeaa

def fdP (q : List Int) : List Int := mayaA q q.length
def fdB (q : List Int) : Bool := good q && decide (mayaL q = dmL (fdP q))
def fdF (q : List Int) : List Int := if fdB q then fdP q else []

theorem mem_held {p : List Int} {k : Nat} {x : Int} : x ∈ heldL p k ↔ ∃ i, i < k ∧ num p i = x := by simp [heldL]
theorem mem_maya {p : List Int} {x : Int} : x ∈ mayaL p ↔ (0 ≤ x ∧ x ∈ heldL p p.length) ∨ (x < 0 ∧ -(p.length : Int) ≤ x ∧ x ∉ heldL p p.length) := by
  unfold mayaL
  rw [mayaA_pos, mayaB_gaps, List.mem_append]
  simp only [posPart, gaps, List.mem_filter, decide_eq_true_eq, mem_below]
  constructor
  · rintro (⟨h1, h2⟩ | ⟨⟨h1, h2⟩, h3⟩)
    · exact .inl ⟨h2, h1⟩
    · exact .inr ⟨h1, h2, h3⟩
  · rintro (⟨h1, h2⟩ | ⟨h1, h2, h3⟩)
    · exact .inl ⟨h2, h1⟩
    · exact .inr ⟨⟨h1, h2⟩, h3⟩
theorem held_low {p : List Int} (G : Good p) {x : Int} (h : x ∈ heldL p p.length) : 1 - (p.length : Int) ≤ x := by
  obtain ⟨i, hi, rfl⟩ := mem_held.1 h
  have := G.pos i hi
  unfold num; omega
theorem maya_len_le {p q : List Int} (Gp : Good p) (h : mayaL p = mayaL q) : p.length ≤ q.length := by
  rcases Nat.eq_zero_or_pos p.length with h0 | h0
  · omega
  · have h1 : -(p.length : Int) ∈ mayaL p := mem_maya.2 (.inr ⟨by omega, by omega, fun hx => by have := held_low Gp hx; omega⟩)
    rw [h] at h1
    rcases mem_maya.1 h1 with ⟨h2, _⟩ | ⟨_, h2, _⟩ <;> omega
theorem held_sub {p q : List Int} (Gp : Good p) (h : mayaL p = mayaL q) (hl : p.length = q.length) {x : Int} (hx : x ∈ heldL p p.length) : x ∈ heldL q q.length := by
  by_cases h0 : 0 ≤ x
  · have := mem_maya.2 (.inl ⟨h0, hx⟩)
    rw [h] at this
    rcases mem_maya.1 this with ⟨_, h2⟩ | ⟨h2, _, _⟩
    · exact h2
    · omega
  · have hlo := held_low Gp hx
    rcases Classical.em (x ∈ heldL q q.length) with h1 | h1
    · exact h1
    · have := mem_maya.2 (.inr ⟨by omega, by omega, h1⟩)
      rw [← h] at this
      rcases mem_maya.1 this with ⟨h2, _⟩ | ⟨_, _, h2⟩
      · omega
      · exact absurd hx h2
theorem maya_inj {p q : List Int} (Gp : Good p) (Gq : Good q) (h : mayaL p = mayaL q) : p = q := by
  have hl : p.length = q.length := Nat.le_antisymm (maya_len_le Gp h) (maya_len_le Gq h.symm)
  have e := falls_ext _ _ (held_falls Gp p.length (Nat.le_refl _)) (held_falls Gq q.length (Nat.le_refl _)) fun x => ⟨held_sub Gp h hl, held_sub Gq h.symm hl.symm⟩
  refine rows_ext hl fun j hj => ?_
  have h1 := heldL_get p p.length j hj
  have h2 := heldL_get q q.length j (by omega)
  rw [e, h2] at h1
  unfold num at h1; omega

theorem sum_split (l : List Int) (f : Int → Bool) : (l.filter f).sum + (l.filter fun x => !f x).sum = l.sum := by
  induction l with
  | nil => rfl
  | cons x l ih => cases h : f x <;> simp [h] <;> omega
theorem held_sum (p : List Int) : ∀ k, k ≤ p.length → (heldL p k).sum = (p.take k).sum + (below k).sum
  | 0, _ => by simp [heldL, below]
  | k + 1, h => by
    rw [heldL_succ, below_succ, List.sum_append, List.sum_append, held_sum p k (by omega), List.take_succ_eq_append_getElem (by omega), List.sum_append]
    simp only [List.sum_cons, List.sum_nil, num]
    rw [getD_in (show k < p.length by omega)]
    omega
theorem maya_sum {p : List Int} (G : Good p) : (mayaA p p.length).sum - (mayaB p p.length).sum = p.sum := by
  have hf := held_falls G p.length (Nat.le_refl _)
  have hneg : unHits (heldL p p.length) p.length = negPart (heldL p p.length) := by
    refine falls_ext _ _ (falls_filter (below_falls _) _) (falls_filter hf _) fun x => ?_
    simp only [unHits, negPart, List.mem_filter, decide_eq_true_eq]
    constructor
    · rintro ⟨h1, h2⟩; exact ⟨h2, (mem_below.1 h1).1⟩
    · rintro ⟨h1, h2⟩
      exact ⟨mem_below.2 ⟨h2, by have := held_low G h1; omega⟩, h1⟩
  have h1 := sum_split (heldL p p.length) fun x => decide (0 ≤ x)
  have h2 := sum_split (below p.length) fun x => decide (x ∉ heldL p p.length)
  have h3 := held_sum p p.length (Nat.le_refl _)
  rw [List.take_length] at h3
  have e1 : ((heldL p p.length).filter fun x => !decide (0 ≤ x)) = negPart (heldL p p.length) := by
    unfold negPart; apply List.filter_congr; intro x _; rw [Bool.eq_iff_iff]; simp
  have e2 : ((below p.length).filter fun x => !decide (x ∉ heldL p p.length)) = unHits (heldL p p.length) p.length := by
    unfold unHits; apply List.filter_congr; intro x _; simp
  rw [e1] at h1
  rw [e2, hneg] at h2
  rw [mayaA_pos, mayaB_gaps]
  change (posPart (heldL p p.length)).sum + _ = _ at h1
  change (gaps (heldL p p.length) p.length).sum + _ = _ at h2
  omega
theorem neg_sum (l : List Int) : (l.map fun x => -x).sum = -l.sum := by
  induction l with
  | nil => rfl
  | cons x l ih => simp only [List.map_cons, List.sum_cons, ih]; omega
theorem rev_sum (l : List Int) : l.reverse.sum = l.sum := by
  induction l with
  | nil => rfl
  | cons x l ih => rw [List.reverse_cons, List.sum_append, ih]; simp; omega
theorem dcr_of {xs : List Int} : ∀ n, (∀ k, k < n → xs.getD (k + 1) 0 < xs.getD k 0) → dcrTo xs n = true
  | 0, _ => rfl
  | n + 1, h => by simp only [dcrTo, dcr_of n (fun k hk => h k (by omega)), h n (by omega), decide_true, Bool.and_self]
theorem fdP_mem {q : List Int} (G : Good q) {x : Int} (h : x ∈ fdP q) : 0 ≤ x ∧ x ≤ 29 := by
  unfold fdP at h
  rw [mayaA_pos] at h
  simp only [posPart, List.mem_filter, decide_eq_true_eq] at h
  obtain ⟨i, hi, rfl⟩ := mem_held.1 h.1
  have := G.le i hi
  refine ⟨h.2, ?_⟩
  unfold num; omega
theorem fdP_len {q : List Int} (G : Good q) : (fdP q).length ≤ 30 := by
  have := mayaA_len q q.length; have := G.len; unfold fdP; omega
theorem fdP_at {q : List Int} (G : Good q) (j : Nat) (hj : j < (fdP q).length) : 0 ≤ (fdP q).getD j 0 ∧ (fdP q).getD j 0 ≤ 29 := by
  rw [getD_in hj]; exact fdP_mem G (List.getElem_mem _)
theorem fdP_lt {q : List Int} (G : Good q) (j : Nat) (hj : j + 1 < (fdP q).length) : (fdP q).getD (j + 1) 0 < (fdP q).getD j 0 := by
  have hf : Falls (fdP q) := by unfold fdP; rw [mayaA_pos]; exact falls_filter (held_falls G _ (Nat.le_refl _)) _
  rw [getD_in hj, getD_in (show j < (fdP q).length by omega)]
  exact List.pairwise_iff_getElem.1 hf j (j + 1) (by omega) hj (by omega)
theorem fd_good {q : List Int} (G : Good q) (h : mayaL q = dmL (fdP q)) : strB (fdP q) = true ∧ (fdP q).sum ≤ 15 := by
  have hB : mayaB q q.length = (fdP q).reverse.map fun x => -x := by
    unfold mayaL dmL at h
    exact List.append_cancel_left h
  have hs := maya_sum G
  rw [hB, neg_sum, rev_sum] at hs
  change (fdP q).sum - _ = _ at hs
  have hq := G.sum
  have hq0 := G.sum0
  have hpos : ∀ j, j < (fdP q).length → 1 ≤ (fdP q).getD j 0 := fun j hj => by
    have h0 := fdP_at G j hj
    rcases Classical.em ((fdP q).getD j 0 = 0) with e | e
    · have hm : (0 : Int) ∈ fdP q := by rw [← e, getD_in hj]; exact List.getElem_mem _
      have h2 : (0 : Int) ∈ mayaB q q.length := by
        rw [hB, List.mem_map]; exact ⟨0, by simpa using hm, rfl⟩
      rw [mayaB_gaps] at h2
      simp only [gaps, List.mem_filter] at h2
      have := (mem_below.1 h2.1).1
      omega
    · omega
  have GP : Good (fdP q) := ⟨fdP_len G, hpos, fun j hj => by have := fdP_at G j hj; omega, fun j hj => by have := fdP_lt G j hj; omega, by omega, by omega⟩
  refine ⟨?_, by omega⟩
  unfold strB dcr
  rw [(good_iff _).2 GP, dcr_of _ fun k hk => fdP_lt G k (by omega)]; rfl
theorem fd_iff {q : List Int} (hg : good q = true) : fdB q = (strB (fdP q) && decide (dbL (fdP q) = q)) := by
  have G := (good_iff q).1 hg
  rw [Bool.eq_iff_iff]
  simp only [fdB, hg, Bool.true_and, Bool.and_eq_true, decide_eq_true_eq]
  constructor
  · intro h
    obtain ⟨hs, h15⟩ := fd_good G h
    obtain ⟨_, _, h3, h4⟩ := db_ok hs h15
    exact ⟨hs, maya_inj ((good_iff _).1 h4) G (by rw [h3, h])⟩
  · rintro ⟨hs, e⟩
    have h15 : (fdP q).sum ≤ 15 := Int.not_lt.1 fun h => by
      have := db_no hs h
      rw [e] at this
      have := G.sum; omega
    obtain ⟨_, _, h3, _⟩ := db_ok hs h15
    rw [e] at h3
    exact h3
theorem fd_take {q : List Int} (G : Good q) : (mayaL q).take ((mayaL q).length / 2) = fdP q := by
  have M := maya_MO G
  rw [← M.take.1]
  unfold mayaL posPart fdP
  have eA : mayaA q q.length = posPart (heldL q q.length) := mayaA_pos _ _
  have eB : mayaB q q.length = gaps (heldL q q.length) q.length := mayaB_gaps _ _
  rw [List.filter_append, List.filter_eq_self.2, List.filter_eq_nil_iff.2, List.append_nil]
  · intro x hx
    rw [eB] at hx
    simp only [gaps, List.mem_filter] at hx
    have := (mem_below.1 hx.1).1
    simp; omega
  · intro x hx
    rw [eA] at hx
    simp only [posPart, List.mem_filter] at hx
    exact hx.2
/-- Once a number is below nothing, so are all after it. -/
theorem fd_stop {q : List Int} (G : Good q) {k : Nat} (hk : k ≤ q.length) (h : k = q.length ∨ num q k < 0) : fdP q = mayaA q k := by
  rcases h with h | h
  · rw [h]; rfl
  have hd : ∀ d, k + d < q.length → num q (k + d) < 0 := by
    intro d
    induction d with
    | zero => intro _; exact h
    | succ d ih => intro hd; have := ih (by omega); have := G.down (k + d) (by omega); rw [show k + (d + 1) = k + d + 1 by omega]; unfold num at *; omega
  have ha : ∀ d, k + d ≤ q.length → mayaA q (k + d) = mayaA q k := by
    intro d
    induction d with
    | zero => intro _; rfl
    | succ d ih => intro hh; rw [show k + (d + 1) = k + d + 1 by omega, mayaA_no rfl (by have := hd d (by omega); omega), ih (by omega)]
  have := ha (q.length - k) (by omega)
  rwa [show k + (q.length - k) = q.length by omega] at this
theorem bound_FromDouble (q : List Int) : (fdF q).length ≤ 1048576 := by
  unfold fdF fdB
  split
  · next h =>
    simp only [Bool.and_eq_true] at h
    have := fdP_len ((good_iff q).1 h.1); omega
  · simp
end Go.Proofs.Ytelfapheigobeaa
/-
  Bar lengths of strict partitions of at most 15 cells: as many as cells, and bounded like hooks. Checked for each one.
-/
namespace Go.Proofs.Ytelfapheigobeaa

def shfL (xs : List Int) : List Int := (blR xs xs.length).flatten
def shOk (n : Nat) (xs : List Int) : Bool :=
  decide ((shfL xs).length = n) && ((List.range (shfL xs).length).all (fun k => decide (1 ≤ (shfL xs).getD k 0) && decide ((shfL xs).getD k 0 ≤ (n : Int) - k)) && (blR xs xs.length).all (fun r => decide (0 < r.length)))
theorem sh_chk : ((List.range 16).all fun n => (List.range (T n n)).all fun r => !dcr (pa n n n r) || shOk n (pa n n n r)) = true := by decide +kernel
def shB (xs : List Int) : Bool := strB xs && decide (xs.sum ≤ 15)
theorem shB_t {xs : List Int} (h : shB xs = true) : strB xs = true ∧ xs.sum ≤ 15 := by simpa [shB] using h
theorem sh_ok {xs : List Int} (h : shB xs = true) : shOk xs.sum.toNat xs = true := by
  obtain ⟨hs, h15⟩ := shB_t h
  have G := strB_good hs
  obtain ⟨r, hr, e⟩ := good_pa G
  have h0 := G.sum0
  have h1 := List.all_eq_true.1 sh_chk xs.sum.toNat (List.mem_range.2 (by omega))
  have h2 := List.all_eq_true.1 h1 r (List.mem_range.2 hr)
  rw [← e] at h2
  have hd : dcr xs = true := by simp only [strB, Bool.and_eq_true] at hs; exact hs.2
  rw [hd] at h2
  simpa using h2
theorem sh_facts {xs : List Int} (h : shB xs = true) : (shfL xs).length = xs.sum.toNat ∧ HkB (shfL xs) (shfL xs).length ∧ ∀ j, j < (blR xs xs.length).length → 0 < ((blR xs xs.length).getD j []).length := by
  have h1 := sh_ok h
  simp only [shOk, Bool.and_eq_true, decide_eq_true_eq] at h1
  obtain ⟨h1, h2, h3⟩ := h1
  refine ⟨h1, fun k hk => ?_, fun j hj => ?_⟩
  · have := List.all_eq_true.1 h2 k (List.mem_range.2 hk)
    simp only [Bool.and_eq_true, decide_eq_true_eq] at this
    rw [h1]; exact this
  · have := List.all_eq_true.1 h3 ((blR xs xs.length).getD j []) (by rw [List.getD_eq_getElem?_getD, List.getElem?_eq_getElem hj]; exact List.getElem_mem hj)
    simpa using this
def shF (xs : List Int) : Int := if shB xs then (wyN (shfL xs) (shfL xs).length : Int) else 0
end Go.Proofs.Ytelfapheigobeaa
