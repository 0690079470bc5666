/-
  The partition that Maya's numbers tell: plain mathematics.
-/
import Derived.Test.YtphfmlfojebjkaaCA
namespace Go.Proofs.Ytphfmlfojebjkaa

/-- Falling strictly. -/
def Falls (l : List Int) : Prop := l.Pairwise (fun a b => b < a)
theorem falls_ext : ∀ (a b : List Int), Falls a → Falls b → (∀ x, x ∈ a ↔ x ∈ b) → a = b
  | [], [], _, _, _ => rfl
  | [], y :: b, _, _, h => by have := (h y).2 (by simp); simp at this
  | x :: a, [], _, _, h => by have := (h x).1 (by simp); simp at this
  | x :: a, y :: b, ha, hb, h => by
    obtain ⟨ha1, ha2⟩ := List.pairwise_cons.1 ha
    obtain ⟨hb1, hb2⟩ := List.pairwise_cons.1 hb
    have e : x = y := by
      rcases List.mem_cons.1 ((h x).1 (by simp)) with e | e
      · exact e
      · rcases List.mem_cons.1 ((h y).2 (by simp)) with e2 | e2
        · exact e2.symm
        · have := hb1 _ e; have := ha1 _ e2; omega
    subst e
    rw [falls_ext a b ha2 hb2 fun z => ⟨fun hz => ?_, fun hz => ?_⟩]
    · rcases List.mem_cons.1 ((h z).1 (List.mem_cons_of_mem _ hz)) with e | e
      · have := ha1 _ hz; omega
      · exact e
    · rcases List.mem_cons.1 ((h z).2 (List.mem_cons_of_mem _ hz)) with e | e
      · have := hb1 _ hz; omega
      · exact e
theorem falls_app {a b : List Int} (ha : Falls a) (hb : Falls b) (h : ∀ x ∈ a, ∀ y ∈ b, y < x) : Falls (a ++ b) :=
  List.pairwise_append.2 ⟨ha, hb, h⟩
/-- The numbers below zero from -1 on, n of them. -/
def below (n : Nat) : List Int := (List.range n).map fun j : Nat => -1 - (j : Int)
theorem below_succ (n : Nat) : below (n + 1) = below n ++ [-1 - (n : Int)] := by simp [below, List.range_succ]
theorem mem_below {n : Nat} {x : Int} : x ∈ below n ↔ x < 0 ∧ -(n : Int) ≤ x := by
  simp only [below, List.mem_map, List.mem_range]
  constructor
  · rintro ⟨j, hj, rfl⟩; omega
  · rintro ⟨h1, h2⟩; exact ⟨(-1 - x).toNat, by omega, by omega⟩
theorem below_falls : ∀ n, Falls (below n)
  | 0 => List.Pairwise.nil
  | n + 1 => by
    rw [below_succ]
    refine falls_app (below_falls n) (by simp [Falls]) fun x hx y hy => ?_
    have := mem_below.1 hx
    simp at hy; omega
theorem falls_filter {l : List Int} (h : Falls l) (f : Int → Bool) : Falls (l.filter f) := h.filter f

/-- What the program asks of Maya's numbers. -/
structure MO (m : List Int) : Prop where
  len : m.length ≤ 60
  even : m.length % 2 = 0
  falls : Falls m
  lo : ∀ x ∈ m, -30 ≤ x ∧ x < 30
  sign : ∀ i, i < m.length → (i < m.length / 2 ↔ 0 ≤ m.getD i 0)
def mn (m : List Int) : Nat := (-(m.getD (m.length - 1) 0)).toNat
def posPart (m : List Int) : List Int := m.filter fun x => decide (0 ≤ x)
def negPart (m : List Int) : List Int := m.filter fun x => decide (x < 0)
def gaps (m : List Int) (n : Nat) : List Int := (below n).filter fun x => decide (x ∉ m)
def unHits (m : List Int) (n : Nat) : List Int := (below n).filter fun x => decide (x ∈ m)
/-- The numbers that are held. -/
def hold (m : List Int) : List Int := posPart m ++ gaps m (mn m)
theorem hold_falls {m : List Int} (h : Falls m) : Falls (hold m) := by
  refine falls_app (falls_filter h _) (falls_filter (below_falls _) _) fun x hx y hy => ?_
  simp only [posPart, List.mem_filter, decide_eq_true_eq] at hx
  simp only [gaps, List.mem_filter] at hy
  have := mem_below.1 hy.1
  omega
theorem getD_in {m : List Int} {i : Nat} (h : i < m.length) : m.getD i 0 = m[i] := by simp [List.getD, h]
theorem falls_last {m : List Int} (h : Falls m) {i : Nat} (hi : i < m.length) : m.getD (m.length - 1) 0 ≤ m.getD i 0 := by
  rcases Nat.lt_or_ge i (m.length - 1) with h1 | h1
  · have := List.pairwise_iff_getElem.1 h i (m.length - 1) hi (by omega) h1
    rw [getD_in hi, getD_in (show m.length - 1 < m.length by omega)]
    omega
  · rw [show i = m.length - 1 by omega]; exact Int.le_refl _
theorem hits_neg {m : List Int} (M : MO m) : unHits m (mn m) = negPart m := by
  refine falls_ext _ _ (falls_filter (below_falls _) _) (falls_filter M.falls _) fun x => ?_
  simp only [unHits, negPart, List.mem_filter, decide_eq_true_eq]
  constructor
  · rintro ⟨h1, h2⟩; exact ⟨h2, (mem_below.1 h1).1⟩
  · rintro ⟨h1, h2⟩
    refine ⟨mem_below.2 ⟨h2, ?_⟩, h1⟩
    obtain ⟨i, hi, e⟩ := List.mem_iff_getElem.1 h1
    have := falls_last M.falls hi
    rw [getD_in hi, e] at this
    unfold mn; omega
theorem split_len (l : List Int) (f : Int → Bool) : (l.filter f).length + (l.filter fun x => !f x).length = l.length := by
  induction l with
  | nil => rfl
  | cons x l ih => cases h : f x <;> simp [h] <;> omega
theorem pos_neg_len (m : List Int) : (posPart m).length + (negPart m).length = m.length := by
  have h := split_len m fun x => decide (0 ≤ x)
  rw [← h]; unfold posPart negPart
  congr 2
  apply List.filter_congr
  intro x _
  rw [Bool.eq_iff_iff]; simp
theorem gaps_hits_len (m : List Int) (n : Nat) : (gaps m n).length + (unHits m n).length = n := by
  have h := split_len (below n) fun x => decide (x ∈ m)
  have h2 : (below n).length = n := by simp [below]
  rw [h2] at h
  have e : gaps m n = (below n).filter fun x => !decide (x ∈ m) := by unfold gaps; apply List.filter_congr; intro x _; simp
  rw [e]; unfold unHits; omega
theorem MO.take {m : List Int} (M : MO m) : posPart m = m.take (m.length / 2) ∧ negPart m = m.drop (m.length / 2) := by
  have h1 : ∀ x ∈ m.take (m.length / 2), 0 ≤ x := fun x hx => by
    obtain ⟨i, hi, e⟩ := List.mem_iff_getElem.1 hx
    rw [List.length_take] at hi
    rw [List.getElem_take] at e
    have := (M.sign i (by omega)).1 (by omega)
    rw [getD_in (by omega), e] at this; exact this
  have h2 : ∀ x ∈ m.drop (m.length / 2), ¬ 0 ≤ x := fun x hx => by
    obtain ⟨i, hi, e⟩ := List.mem_iff_getElem.1 hx
    rw [List.length_drop] at hi
    rw [List.getElem_drop] at e
    intro h
    have := (M.sign (m.length / 2 + i) (by omega)).2 (by rw [getD_in (by omega), e]; exact h)
    omega
  constructor
  · unfold posPart
    rw [← List.take_append_drop (m.length / 2) m, List.filter_append, List.take_append_drop]
    rw [List.filter_eq_self.2 (fun x hx => decide_eq_true (h1 x hx)), List.filter_eq_nil_iff.2 (fun x hx => by simpa using h2 x hx), List.append_nil]
  · unfold negPart
    rw [← List.take_append_drop (m.length / 2) m, List.filter_append, List.take_append_drop]
    have e1 : (m.take (m.length / 2)).filter (fun x => decide (x < 0)) = [] := List.filter_eq_nil_iff.2 (fun x hx => by have := h1 x hx; simp; omega)
    have e2 : (m.drop (m.length / 2)).filter (fun x => decide (x < 0)) = m.drop (m.length / 2) := List.filter_eq_self.2 (fun x hx => decide_eq_true (by have := h2 x hx; omega))
    rw [e1, e2, List.nil_append]
theorem MO.split {m : List Int} (M : MO m) : posPart m ++ negPart m = m := by rw [M.take.1, M.take.2, List.take_append_drop]
theorem hold_len {m : List Int} (M : MO m) : (hold m).length = mn m := by
  have h1 := pos_neg_len m
  have h2 := gaps_hits_len m (mn m)
  rw [hits_neg M] at h2
  have h3 : (posPart m).length = m.length / 2 := by rw [M.take.1, List.length_take]; omega
  have := M.even
  unfold hold; rw [List.length_append]; omega
theorem hold_low {m : List Int} (M : MO m) : ∀ x ∈ hold m, -(mn m : Int) < x := fun x hx => by
  rcases List.mem_append.1 hx with h | h
  · simp only [posPart, List.mem_filter, decide_eq_true_eq] at h
    have hne : 0 < m.length := List.length_pos_of_mem h.1
    have hl := M.sign (m.length - 1) (by omega)
    have := M.even
    have : ¬ 0 ≤ m.getD (m.length - 1) 0 := fun e => by have := hl.2 e; omega
    unfold mn; omega
  · simp only [gaps, List.mem_filter, decide_eq_true_eq] at h
    have hb := mem_below.1 h.1
    rcases Int.lt_or_eq_of_le hb.2 with e | e
    · exact e
    · exfalso
      apply h.2
      have hn : 0 < mn m := by omega
      have hne : 0 < m.length := by
        rcases Nat.eq_zero_or_pos m.length with e0 | e0
        · unfold mn at hn; rw [List.eq_nil_of_length_eq_zero e0] at hn; simp at hn
        · exact e0
      rw [← e]
      have : -(mn m : Int) = m.getD (m.length - 1) 0 := by unfold mn at hn ⊢; omega
      rw [this, getD_in (by omega)]
      exact List.getElem_mem _
theorem falls_get {l : List Int} (h : Falls l) : ∀ d i, i + d < l.length → l.getD (i + d) 0 + d ≤ l.getD i 0
  | 0, i, _ => by simp
  | d + 1, i, hi => by
    have ih := falls_get h d i (by omega)
    have := List.pairwise_iff_getElem.1 h (i + d) (i + d + 1) (by omega) (by omega) (by omega)
    rw [getD_in (show i + d < l.length by omega)] at ih
    rw [show i + (d + 1) = i + d + 1 by omega, getD_in (show i + d + 1 < l.length by omega)]
    omega
/-- The parts. -/
def unOut (m : List Int) : List Int := fnRow (mn m) fun k => (hold m).getD k 0 + k + 1
theorem unOut_len (m : List Int) : (unOut m).length = mn m := fnRow_len _ _
theorem out_pos {m : List Int} (M : MO m) {k : Nat} (hk : k < mn m) : 0 < (hold m).getD k 0 + k + 1 := by
  have hl := hold_len M
  have h1 := falls_get (hold_falls M.falls) (mn m - 1 - k) k (by omega)
  have h2 := hold_low M ((hold m).getD (k + (mn m - 1 - k)) 0) (by rw [getD_in (by omega)]; exact List.getElem_mem _)
  omega
theorem out_num {m : List Int} {k : Nat} (hk : k < mn m) : num (unOut m) k = (hold m).getD k 0 := by
  unfold num unOut; rw [fnRow_get _ _ _ hk]; omega
theorem out_held {m : List Int} (M : MO m) : heldL (unOut m) (mn m) = hold m := by
  have hl := hold_len M
  apply List.ext_getElem
  · rw [heldL_len, hl]
  · intro i h1 h2
    have h3 := heldL_get (unOut m) (mn m) i (by rw [heldL_len] at h1; exact h1)
    rw [out_num (by omega), getD_in h1, getD_in h2] at h3
    exact h3
theorem mayaA_pos (p : List Int) : ∀ k, mayaA p k = posPart (heldL p k)
  | 0 => rfl
  | k + 1 => by
    rw [heldL_succ, posPart, List.filter_append, ← posPart, ← mayaA_pos p k]
    simp only [mayaA]
    congr 1
    by_cases h : 0 ≤ num p k <;> simp [h]
theorem mayaB_gaps (p : List Int) : ∀ j, mayaB p j = gaps (heldL p p.length) j
  | 0 => rfl
  | j + 1 => by
    rw [gaps, below_succ, List.filter_append, ← gaps, ← mayaB_gaps p j]
    simp only [mayaB]
    congr 1
    by_cases h : (-1 - (j : Int)) ∈ heldL p p.length <;> simp [h]
theorem maya_out {m : List Int} (M : MO m) : mayaL (unOut m) = m := by
  unfold mayaL
  rw [mayaA_pos, mayaB_gaps, unOut_len, out_held M]
  have h1 : posPart (hold m) = posPart m := by
    unfold hold posPart
    have e1 : (gaps m (mn m)).filter (fun x => decide (0 ≤ x)) = [] := List.filter_eq_nil_iff.2 (fun x hx => by simp only [gaps, List.mem_filter] at hx; have := mem_below.1 hx.1; simp; omega)
    rw [List.filter_append, e1, List.append_nil, List.filter_filter]
    apply List.filter_congr; intro x _; simp
  have h2 : gaps (hold m) (mn m) = negPart m := by
    rw [← hits_neg M]
    unfold gaps unHits
    apply List.filter_congr
    intro x hx
    have hb := mem_below.1 hx
    have : x ∈ hold m ↔ ¬ x ∈ m := by
      unfold hold
      rw [List.mem_append]
      simp only [posPart, gaps, List.mem_filter, decide_eq_true_eq]
      constructor
      · rintro (⟨_, h⟩ | ⟨_, h⟩)
        · omega
        · exact h
      · intro h; exact .inr ⟨hx, h⟩
    rw [Bool.eq_iff_iff]; simp [this]
  rw [h1, h2, M.split]

/-- Maya's numbers of a partition are such numbers. -/
theorem held_falls {p : List Int} (G : Good p) : ∀ k, k ≤ p.length → Falls (heldL p k)
  | 0, _ => List.Pairwise.nil
  | k + 1, h => by
    rw [heldL_succ]
    refine falls_app (held_falls G k (by omega)) (by simp [Falls]) fun x hx y hy => ?_
    simp only [heldL, List.mem_map, List.mem_range] at hx
    obtain ⟨i, hi, rfl⟩ := hx
    simp at hy; subst hy
    have hd : ∀ d, i + d < p.length → p.getD (i + d) 0 ≤ p.getD i 0 := by
      intro d
      induction d with
      | zero => intro _; exact Int.le_refl _
      | succ d ih => intro hd; have := ih (by omega); have := G.down (i + d) (by omega); rw [show i + (d + 1) = i + d + 1 by omega]; omega
    have := hd (k - i) (by omega)
    rw [show i + (k - i) = k by omega] at this
    unfold num; omega
theorem maya_MO {p : List Int} (G : Good p) : MO (mayaL p) := by
  have hlen := G.len
  have hf := held_falls G p.length (Nat.le_refl _)
  have eA : mayaA p p.length = posPart (heldL p p.length) := mayaA_pos _ _
  have eB : mayaB p p.length = gaps (heldL p p.length) p.length := mayaB_gaps _ _
  have hneg : unHits (heldL p p.length) p.length = negPart (heldL p p.length) := by
    refine falls_ext _ _ (falls_filter (below_falls _) _) (falls_filter hf _) fun x => ?_
    simp only [unHits, negPart, List.mem_filter, decide_eq_true_eq]
    constructor
    · rintro ⟨h1, h2⟩; exact ⟨h2, (mem_below.1 h1).1⟩
    · rintro ⟨h1, h2⟩
      refine ⟨mem_below.2 ⟨h2, ?_⟩, h1⟩
      simp only [heldL, List.mem_map, List.mem_range] at h1
      obtain ⟨i, hi, rfl⟩ := h1
      have := G.pos i hi
      unfold num; omega
  have c1 := pos_neg_len (heldL p p.length)
  have c2 := gaps_hits_len (heldL p p.length) p.length
  rw [heldL_len] at c1
  rw [hneg] at c2
  have hAB : (mayaA p p.length).length = (mayaB p p.length).length := by rw [eA, eB]; omega
  have hml : (mayaL p).length = (mayaA p p.length).length + (mayaA p p.length).length := by unfold mayaL; rw [List.length_append, ← hAB]
  have hpos : ∀ x ∈ mayaA p p.length, 0 ≤ x ∧ x < 30 := fun x hx => by
    rw [eA] at hx
    simp only [posPart, List.mem_filter, decide_eq_true_eq, heldL, List.mem_map, List.mem_range] at hx
    obtain ⟨⟨i, hi, rfl⟩, h0⟩ := hx
    have := G.le i hi
    refine ⟨h0, ?_⟩
    unfold num; omega
  have hng : ∀ x ∈ mayaB p p.length, x < 0 ∧ -30 ≤ x := fun x hx => by
    rw [eB] at hx
    simp only [gaps, List.mem_filter] at hx
    have := mem_below.1 hx.1
    omega
  refine ⟨by have := mayaL_len p; omega, by omega, ?_, ?_, ?_⟩
  · unfold mayaL
    rw [eA, eB]
    refine falls_app (falls_filter hf _) (falls_filter (below_falls _) _) fun x hx y hy => ?_
    rw [← eA] at hx; rw [← eB] at hy
    have := hpos x hx; have := hng y hy; omega
  · intro x hx
    rcases List.mem_append.1 hx with h | h
    · have := hpos x h; omega
    · have := hng x h; omega
  · intro i hi
    have hh : (mayaL p).length / 2 = (mayaA p p.length).length := by omega
    rw [hh]
    constructor
    · intro h
      have : (mayaL p).getD i 0 ∈ mayaA p p.length := by
        unfold mayaL
        rw [getD_in (by rw [List.length_append]; omega), List.getElem_append_left h]; exact List.getElem_mem _
      exact (hpos _ this).1
    · intro h
      rcases Nat.lt_or_ge i (mayaA p p.length).length with h1 | h1
      · exact h1
      · have : (mayaL p).getD i 0 ∈ mayaB p p.length := by
          unfold mayaL
          rw [getD_in (by rw [List.length_append]; omega), List.getElem_append_right h1]; exact List.getElem_mem _
        have := (hng _ this).1
        omega

/-- The beads of Maya's numbers. -/
def beadsM (m : List Int) : List Int := (hold m).reverse.map fun x => x + (mn m : Int)
theorem beadsM_len {m : List Int} (M : MO m) : (beadsM m).length = mn m := by simp [beadsM, hold_len M]
theorem beadsM_get {m : List Int} (M : MO m) {j : Nat} (h : j < mn m) : (beadsM m).getD j 0 = (hold m).getD (mn m - 1 - j) 0 + mn m := by
  have hl := hold_len M
  have hb := beadsM_len M
  rw [getD_in (by omega), getD_in (show mn m - 1 - j < (hold m).length by omega)]
  simp [beadsM, hl]
theorem mn_le {m : List Int} (M : MO m) : mn m ≤ 30 := by
  rcases Nat.eq_zero_or_pos m.length with h | h
  · unfold mn; rw [List.eq_nil_of_length_eq_zero h]; simp
  · have := M.lo _ (List.getElem_mem (show m.length - 1 < m.length by omega))
    unfold mn; rw [getD_in (by omega)]; omega
theorem hold_hi {m : List Int} (M : MO m) : ∀ x ∈ hold m, x < 30 := fun x hx => by
  rcases List.mem_append.1 hx with h | h
  · simp only [posPart, List.mem_filter] at h; exact (M.lo x h.1).2
  · simp only [gaps, List.mem_filter] at h; have := (mem_below.1 h.1).1; omega
theorem parts_out {m : List Int} (M : MO m) : partsL (beadsM m) = unOut m := by
  have hb := beadsM_len M
  have key : ∀ k, k ≤ mn m → bpk (beadsM m) k = (unOut m).take k := by
    intro k
    induction k with
    | zero => intro _; rfl
    | succ k ih =>
      intro hk
      have hg := beadsM_get M (j := mn m - 1 - k) (by omega)
      rw [show mn m - 1 - (mn m - 1 - k) = k by omega] at hg
      have hp := out_pos M (k := k) (by omega)
      rw [bpk_yes (i := mn m - 1 - k) (x := (beadsM m).getD (mn m - 1 - k) 0) (by rw [hb]) rfl (by rw [hg]; omega), ih (by omega)]
      rw [List.take_succ_eq_append_getElem (by rw [unOut_len]; omega)]
      congr 2
      have h3 : (unOut m).getD k 0 = (hold m).getD k 0 + k + 1 := fnRow_get _ _ _ (by omega)
      rw [getD_in (by rw [unOut_len]; omega)] at h3
      rw [h3, hg]; omega
  unfold partsL
  rw [hb, key (mn m) (Nat.le_refl _), List.take_of_length_le (by rw [unOut_len]; omega)]
theorem beads_rise {m : List Int} (M : MO m) : rises 0 1000 (beadsM m) = true := by
  have hb := beadsM_len M
  have hl := hold_len M
  have hn := mn_le M
  rw [rises_iff]
  intro j hj
  rw [hb] at hj
  rw [okAt_iff, beadsM_get M hj]
  have hm1 : (hold m).getD (mn m - 1 - j) 0 ∈ hold m := by rw [getD_in (by omega)]; exact List.getElem_mem _
  have h1 := hold_low M _ hm1
  have h2 := hold_hi M _ hm1
  refine ⟨⟨by omega, by omega⟩, ?_⟩
  rcases Nat.eq_zero_or_pos j with h | h
  · exact .inl h
  · right
    rw [beadsM_get M (by omega)]
    have := falls_get (hold_falls M.falls) 1 (mn m - 1 - j) (by omega)
    rw [show mn m - 1 - j + 1 = mn m - 1 - (j - 1) by omega] at this
    omega
theorem goodB_beads {m : List Int} (M : MO m) : goodB (beadsM m) = good (unOut m) := by
  rw [goodB_parts (by rw [beadsM_len M]; have := mn_le M; omega) (beads_rise M), parts_out M]

/-- One number of Maya's at its place. -/
def okM (m : List Int) (j : Nat) : Bool := decide (-30 ≤ m.getD j 0) && (decide (m.getD j 0 < 30) && ((decide (j = 0) || decide (m.getD j 0 < m.getD (j - 1) 0)) && (decide (j < m.length / 2) == decide (0 ≤ m.getD j 0))))
def moB (m : List Int) : Bool := decide (m.length ≤ 60) && (decide (m.length % 2 = 0) && (List.range m.length).all (okM m))
theorem okM_iff {m : List Int} {j : Nat} : okM m j = true ↔ (-30 ≤ m.getD j 0 ∧ m.getD j 0 < 30) ∧ (j = 0 ∨ m.getD j 0 < m.getD (j - 1) 0) ∧ (j < m.length / 2 ↔ 0 ≤ m.getD j 0) := by
  simp only [okM, Bool.and_eq_true, Bool.or_eq_true, decide_eq_true_eq, beq_iff_eq, decide_eq_decide]
  constructor
  · rintro ⟨a, b, c, d⟩; exact ⟨⟨a, b⟩, c, d⟩
  · rintro ⟨⟨a, b⟩, c, d⟩; exact ⟨a, b, c, d⟩
theorem falls_adj {m : List Int} (h : ∀ j, j + 1 < m.length → m.getD (j + 1) 0 < m.getD j 0) : Falls m := by
  have key : ∀ d i, i + d + 1 < m.length → m.getD (i + d + 1) 0 < m.getD i 0 := by
    intro d
    induction d with
    | zero => intro i hi; exact h i hi
    | succ d ih => intro i hi; have := ih i (by omega); have := h (i + d + 1) (by omega); rw [show i + (d + 1) + 1 = i + d + 1 + 1 by omega]; omega
  refine List.pairwise_iff_getElem.2 fun i j hi hj hij => ?_
  have := key (j - i - 1) i (by omega)
  rw [show i + (j - i - 1) + 1 = j by omega, getD_in hi, getD_in hj] at this
  exact this
theorem moB_iff {m : List Int} : moB m = true ↔ MO m := by
  simp only [moB, Bool.and_eq_true, decide_eq_true_eq, List.all_eq_true, List.mem_range]
  constructor
  · rintro ⟨h1, h2, h3⟩
    refine ⟨h1, h2, falls_adj fun j hj => ?_, fun x hx => ?_, fun i hi => (okM_iff.1 (h3 i hi)).2.2⟩
    · rcases (okM_iff.1 (h3 (j + 1) hj)).2.1 with e | e
      · omega
      · exact e
    · obtain ⟨i, hi, e⟩ := List.mem_iff_getElem.1 hx
      have := (okM_iff.1 (h3 i hi)).1
      rw [getD_in hi, e] at this; exact this
  · intro M
    refine ⟨M.len, M.even, fun i hi => okM_iff.2 ⟨?_, ?_, M.sign i hi⟩⟩
    · rw [getD_in hi]; exact M.lo _ (List.getElem_mem _)
    · rcases Nat.eq_zero_or_pos i with e | e
      · exact .inl e
      · right
        have := falls_get M.falls 1 (i - 1) (by omega)
        rw [show i - 1 + 1 = i by omega] at this; omega
theorem moB_no {m : List Int} {k : Nat} (hk : k < m.length) (h : okM m k = false) : moB m = false := by
  have : (List.range m.length).all (okM m) = false := by
    rw [List.all_eq_false]; exact ⟨k, List.mem_range.2 hk, by rw [h]; simp⟩
  simp [moB, this]
def unOk (m : List Int) : Bool := moB m && good (unOut m)
def unF (m : List Int) : List Int := if unOk m then unOut m else []
theorem unF_yes {m : List Int} (h : unOk m = true) : unF m = unOut m := by simp [unF, h]
theorem unF_no {m : List Int} (h : unOk m = false) : unF m = [] := by simp [unF, h]
theorem unOk_beads {m : List Int} (M : MO m) : unOk m = goodB (beadsM m) := by rw [goodB_beads M]; simp [unOk, moB_iff.2 M]
theorem unF_beads {m : List Int} (M : MO m) : unF m = fromBeadsF (beadsM m) := by
  unfold unF fromBeadsF
  rw [unOk_beads M, parts_out M]
theorem bound_FromMaya (m : List Int) : (unF m).length ≤ 1048576 := by
  unfold unF
  split
  · rename_i h
    simp only [unOk, Bool.and_eq_true] at h
    rw [unOut_len]; have := mn_le (moB_iff.1 h.1); omega
  · simp
/-- What the model asks. -/
theorem model_iff (m : List Int) (P : Prop) (out : List Int) (hP : P → out = unOut m) (hM : MO m → P) : (P ∧ Good out ∧ mayaL out = m) ↔ (MO m ∧ Good (unOut m)) := by
  constructor
  · rintro ⟨h, g, e⟩
    have M : MO m := by rw [← e]; exact maya_MO g
    exact ⟨M, by rw [← hP h]; exact g⟩
  · rintro ⟨M, g⟩
    have h := hM M
    rw [hP h]
    exact ⟨h, g, maya_out M⟩
end Go.Proofs.Ytphfmlfojebjkaa
