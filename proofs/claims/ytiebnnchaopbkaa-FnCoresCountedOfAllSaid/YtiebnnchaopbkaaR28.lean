/-
  Several texts in one.
-/
import Derived.Test.YtiebnnchaopbkaaR12
import Derived.Test.YtiebnnchaopbkaaR06
import Derived.Test.YtiebnnchaopbkaaR13
import Derived.Test.YtiebnnchaopbkaaCI
import Derived.Test.YtiebnnchaopbkaaR14
import Derived.Test.YtiebnnchaopbkaaR17
import Derived.Test.YtiebnnchaopbkaaCB
import Derived.Test.YtiebnnchaopbkaaR04
import Derived.Test.YtiebnnchaopbkaaR20
import Derived.Test.YtiebnnchaopbkaaR21
/-
  Plain facts: a core and a quotient make one partition, with any number of beads that is enough. No program in this text.
-/
namespace Go.Proofs.Ytiebnnchaopbkaa

theorem down_upTo {L : List Int} (hp : L.Pairwise (· < ·)) (h0 : ∀ y ∈ L, 0 ≤ y) (hd : ∀ y ∈ L, 0 < y → y - 1 ∈ L) : L = upTo L.length := by
  have key : ∀ n j, j ≤ n → j < L.length → L.getD j 0 = j := by
    intro n
    induction n with
    | zero =>
      intro j hj hl
      obtain rfl : j = 0 := by omega
      have hm : L.getD 0 0 ∈ L := mem_getD.2 ⟨0, hl, rfl⟩
      rcases Int.lt_or_le 0 (L.getD 0 0) with h | h
      · obtain ⟨k, hk, e⟩ := mem_getD.1 (hd _ hm h)
        rcases Nat.eq_zero_or_pos k with hz | hz
        · subst hz; omega
        · have := (List.pairwise_iff_getElem.1 hp) 0 k hl hk hz
          rw [← getD_get L hl, ← getD_get L hk] at this; omega
      · have := h0 _ hm; omega
    | succ n ih =>
      intro j hj hl
      by_cases hjn : j ≤ n
      · exact ih j hjn hl
      · obtain rfl : j = n + 1 := by omega
        have hm : L.getD (n + 1) 0 ∈ L := mem_getD.2 ⟨n + 1, hl, rfl⟩
        have h1 := ih n (Nat.le_refl _) (by omega)
        have h2 := (List.pairwise_iff_getElem.1 hp) n (n + 1) (by omega) hl (by omega)
        rw [← getD_get L hl, ← getD_get L (show n < L.length by omega)] at h2
        obtain ⟨k, hk, e⟩ := mem_getD.1 (hd _ hm (by omega))
        rcases Nat.lt_or_ge k (n + 1) with h3 | h3
        · have := ih k (by omega) hk; omega
        · rcases Nat.eq_or_lt_of_le h3 with h4 | h4
          · subst h4; omega
          · have := (List.pairwise_iff_getElem.1 hp) (n + 1) k hl hk h4
            rw [← getD_get L hl, ← getD_get L hk] at this; omega
  refine ext_fh (upTo_len _).symm fun j hj => ?_
  rw [key j j (Nat.le_refl _) hj]
  unfold upTo
  rw [fnRow_get _ _ _ hj]
theorem part_le30 {p : List Int} (G : Good p) (r : Nat) : p.getD r 0 ≤ 30 := by
  rcases Nat.lt_or_ge r p.length with h | h
  · exact G.le _ h
  · rw [getD_out h]; omega
/-- Beads of a partition rise, however many there are. -/
theorem beads_rise {p : List Int} (G : Good p) {n : Nat} (hn : n ≤ 900) : Rises 0 1000 (beadsL p n) := by
  refine ⟨fun j hj => ?_, fun j hj => ?_⟩
  · rw [beadsL_len] at hj
    unfold beadsL
    rw [fnRow_get _ _ _ hj]
    unfold bead
    have := part_nn G (n - 1 - j)
    have h30 : p.getD (n - 1 - j) 0 ≤ 30 := by
      rcases Nat.lt_or_ge (n - 1 - j) p.length with h | h
      · exact G.le _ h
      · rw [getD_out h]; omega
    omega
  · rw [beadsL_len] at hj
    unfold beadsL
    rw [fnRow_get _ _ _ hj, fnRow_get _ _ _ (by omega)]
    unfold bead
    have := part_down G (n - 1 - (j + 1))
    rw [show n - 1 - (j + 1) + 1 = n - 1 - j by omega] at this
    omega
theorem beads_sumN {p : List Int} (G : Good p) {n : Nat} (hl : p.length ≤ n) (hn : n ≤ 900) : (beadsL p n).sum = p.sum + tri n := by
  have := beads_sum (beads_rise G hn)
  rw [partsL_beads G hl, beadsL_len] at this
  omega
def ctN (t : Nat) (p : List Int) (n i : Nat) : Nat := (rnL t (beadsL p n) i).length
theorem core_run {p : List Int} {t : Nat} (hc : isCoreF p t = true) {n : Nat} (hl : p.length ≤ n) (hn : n ≤ 900) (i : Nat) (hi : i < t) : rnL t (beadsL p n) i = upTo (ctN t p n i) := by
  have hD := core_Dn hc
  have hcr : crB p t = true := by unfold isCoreF at hc; exact (Bool.and_eq_true _ _ ▸ hc).1
  have G := (good_iff p).1 (crB_good hcr).1
  have R := beads_rise G hn
  have hm : ∀ y, y ∈ rnL t (beadsL p n) i ↔ y * t + i ∈ beadsL p n := fun y => by
    unfold rnL
    simp only [List.mem_map, List.mem_filter, decide_eq_true_eq]
    constructor
    · rintro ⟨x, ⟨hx, h1⟩, h2⟩
      have := Int.mul_ediv_add_emod x t
      rw [h1, h2, Int.mul_comm] at this
      rw [this]; exact hx
    · intro h
      have := lay_div (t := t) (y := y) hi
      exact ⟨_, ⟨h, this.2⟩, this.1⟩
  have hpos : ∀ y ∈ rnL t (beadsL p n) i, 0 ≤ y := rnL_pos (by omega) (fun x hx => by obtain ⟨j, hj, rfl⟩ := mem_getD.1 hx; exact (R.bd j hj).1) i
  refine down_upTo (rnL_pw (by omega) (rise_pw R.up) i) hpos fun y hy h0 => ?_
  rw [hm] at hy ⊢
  obtain ⟨r, hr, e⟩ := mem_beadsL.1 hy
  obtain ⟨s, hs⟩ := hD r
  have e2 : (y - 1) * (t : Int) = y * t - t := by rw [Int.sub_mul, Int.one_mul]
  have hyt : (t : Int) ≤ y * t := by have := Int.mul_le_mul_of_nonneg_right (show (1 : Int) ≤ y by omega) (show (0 : Int) ≤ t by omega); omega
  refine mem_beadsL.2 ⟨s, ?_, by rw [hs, e, e2]; omega⟩
  rcases Nat.lt_or_ge s n with h | h
  · exact h
  · rw [num_out (by omega)] at hs; omega

theorem mem_more {p : List Int} {n t : Nat} (hl : p.length ≤ n) (x : Int) : x ∈ beadsL p (n + t) ↔ (0 ≤ x ∧ x < t) ∨ x - t ∈ beadsL p n := by
  rw [mem_beadsL, mem_beadsL]
  constructor
  · rintro ⟨r, hr, e⟩
    rcases Nat.lt_or_ge r n with h | h
    · exact Or.inr ⟨r, h, by omega⟩
    · rw [num_out (by omega)] at e
      exact Or.inl (by omega)
  · rintro (h | ⟨r, hr, e⟩)
    · exact ⟨n + t - 1 - x.toNat, by omega, by rw [num_out (by omega)]; omega⟩
    · exact ⟨r, by omega, by omega⟩
theorem mem_rn {t i : Nat} (hi : i < t) (L : List Int) (y : Int) : y ∈ rnL t L i ↔ y * t + i ∈ L := by
  unfold rnL
  simp only [List.mem_map, List.mem_filter, decide_eq_true_eq]
  constructor
  · rintro ⟨x, ⟨hx, h1⟩, h2⟩
    have := Int.mul_ediv_add_emod x t
    rw [h1, h2, Int.mul_comm] at this
    rw [this]; exact hx
  · intro h
    have := lay_div (t := t) (y := y) hi
    exact ⟨_, ⟨h, this.2⟩, this.1⟩
theorem ct_more {p : List Int} {t n : Nat} (hc : isCoreF p t = true) (hl : p.length ≤ n) (hn : n + t ≤ 900) (i : Nat) (hi : i < t) : ctN t p (n + t) i = ctN t p n i + 1 := by
  have h1 := core_run hc (n := n) hl (by omega) i hi
  have h2 := core_run hc (n := n + t) (by omega) hn i hi
  have key : ∀ y : Int, 0 ≤ y → (y < ctN t p (n + t) i ↔ y = 0 ∨ y - 1 < ctN t p n i) := by
    intro y hy
    have e1 : y ∈ rnL t (beadsL p (n + t)) i ↔ y < ctN t p (n + t) i := by rw [h2, mem_upTo]; omega
    rw [← e1, mem_rn hi, mem_more hl]
    have e2 : (y * t + i - t : Int) = (y - 1) * t + i := by rw [Int.sub_mul]; omega
    rw [e2, ← mem_rn hi, h1, mem_upTo]
    constructor
    · rintro (h | h)
      · left
        rcases Int.lt_or_le 0 y with h3 | h3
        · have := Int.mul_le_mul_of_nonneg_right (show (1 : Int) ≤ y by omega) (show (0 : Int) ≤ t by omega); omega
        · omega
      · right; omega
    · rintro (h | h)
      · left; subst h; omega
      · by_cases h3 : y = 0
        · left; subst h3; omega
        · right; omega
  have k1 := key (ctN t p n i) (by omega)
  have k2 := key (ctN t p n i + 1) (by omega)
  have k0 := key 0 (by omega)
  omega
def fcR (t : Nat) (p : List Int) (n : Nat) (q : Nat → List Int) (i : Nat) : List Int := beadsL (q i) (ctN t p n i)
def fcA (t : Nat) (p : List Int) (n : Nat) (q : Nat → List Int) : List Int := insF (abfL t (fcR t p n q) t)
def fcP (t : Nat) (p : List Int) (n : Nat) (q : Nat → List Int) : List Int := partsL (fcA t p n q)
theorem ct_le (t : Nat) (p : List Int) (n i : Nat) : ctN t p n i ≤ n := by
  have := rnL_len t (beadsL p n) i
  rw [beadsL_len] at this; exact this
theorem fc_nodup {t : Nat} {p : List Int} {n : Nat} (hn : n ≤ 900) {q : Nat → List Int} (G : ∀ i, i < t → Good (q i)) : (abfL t (fcR t p n q) t).Nodup :=
  abfL_nodup t (Nat.le_refl _) fun i hi => pw_nodup (rise_pw (beads_rise (G i hi) (by have := ct_le t p n i; omega)).up)
theorem fc_mem {t : Nat} {p : List Int} {n : Nat} (hn : n ≤ 900) {q : Nat → List Int} (G : ∀ i, i < t → Good (q i)) (x : Int) : x ∈ fcA t p n q ↔ ∃ i y, i < t ∧ y ∈ fcR t p n q i ∧ x = y * (t : Int) + (i : Int) := by
  unfold fcA
  rw [(insF_all (fc_nodup hn G)).2.1, mem_abfL]
/-- The beads of the partition that is made. -/
theorem fc_facts {t : Nat} {p : List Int} {n : Nat} (hc : isCoreF p t = true) (hl : p.length ≤ n) (hn : n ≤ 130) {q : Nat → List Int} (G : ∀ i, i < t → Good (q i)) (hq : ∀ i, i < t → (q i).length ≤ ctN t p n i) :
    Rises 0 1000 (fcA t p n q) ∧ (fcA t p n q).Pairwise (· < ·) ∧ (∀ x ∈ fcA t p n q, 0 ≤ x) ∧ (fcA t p n q).length = n ∧ (fcA t p n q).sum = p.sum + tri n + t * sumN (fun i => (q i).sum) t := by
  have hcr : crB p t = true := by unfold isCoreF at hc; exact (Bool.and_eq_true _ _ ▸ hc).1
  have Gp := (good_iff p).1 (crB_good hcr).1
  have hin := inB_iff.1 (crB_good hcr).2
  have ht : 0 < t := by omega
  have hnd := fc_nodup (p := p) (n := n) (by omega) G
  obtain ⟨h1, h2, h3⟩ := insF_all hnd
  have hlen : (abfL t (fcR t p n q) t).length = n := by
    have e1 : ((abfL t (fcR t p n q) t).length : Int) = sumN (fun i => ((fcR t p n q i).length : Int)) t := abfL_len t
    have e2 : sumN (fun i => ((fcR t p n q i).length : Int)) t = sumN (fun i => ((rnL t (beadsL p n) i).length : Int)) t := sumN_congr t fun i _ => by unfold fcR; rw [beadsL_len]; rfl
    rw [e2, rn_len_sum ht, beadsL_len] at e1
    omega
  have hbd : ∀ x ∈ fcA t p n q, 0 ≤ x ∧ x ≤ 1000 := fun x hx => by
    obtain ⟨i, y, hi, hy, e⟩ := (fc_mem (by omega) G x).1 hx
    have hci := ct_le t p n i
    have h4 : 0 ≤ y ∧ y ≤ 160 := by
      obtain ⟨j, hj, e2⟩ := mem_getD.1 hy
      rw [← e2]
      refine ⟨((beads_rise (G i hi) (show ctN t p n i ≤ 900 by omega)).bd j hj).1, ?_⟩
      unfold fcR at hj ⊢
      rw [beadsL_len] at hj
      unfold beadsL
      rw [fnRow_get _ _ _ hj]
      unfold bead
      have h30 := part_le30 (G i hi) (ctN t p n i - 1 - j)
      omega
    have h5 := Int.mul_nonneg h4.1 (show (0 : Int) ≤ t by omega)
    have h6 : y * (t : Int) ≤ 160 * 6 := Int.mul_le_mul h4.2 (by omega) (by omega) (by omega)
    omega
  have hpos : ∀ x ∈ fcA t p n q, 0 ≤ x := fun x hx => (hbd x hx).1
  have hsum : (fcA t p n q).sum = p.sum + tri n + t * sumN (fun i => (q i).sum) t := by
    unfold fcA
    rw [insF_sum, abfL_sum]
    have e1 := rn_sum ht (beadsL p n)
    have e2 := beads_sumN Gp hl (show n ≤ 900 by omega)
    rw [e2] at e1
    rw [← e1, ← sumN_mul, ← sumN_add]
    refine sumN_congr t fun i hi => ?_
    have hci := ct_le t p n i
    have e3 : (fcR t p n q i).sum = (q i).sum + tri (ctN t p n i) := beads_sumN (G i hi) (hq i hi) (by omega)
    have e4 : (rnL t (beadsL p n) i).sum = tri (ctN t p n i) := by
      have h5 := core_run hc hl (show n ≤ 900 by omega) i hi
      have h6 := congrArg List.sum h5
      rw [upTo_sum] at h6; exact h6
    have e5 : (fcR t p n q i).length = (rnL t (beadsL p n) i).length := by unfold fcR; rw [beadsL_len]; rfl
    rw [e3, e4, e5, Int.mul_add]; omega
  exact ⟨pw_rises h1 hbd, h1, hpos, by unfold fcA; rw [h3, hlen], hsum⟩
theorem fc_sum {t : Nat} {p : List Int} {n : Nat} (hc : isCoreF p t = true) (hl : p.length ≤ n) (hn : n ≤ 130) {q : Nat → List Int} (G : ∀ i, i < t → Good (q i)) (hq : ∀ i, i < t → (q i).length ≤ ctN t p n i) :
    (fcP t p n q).sum = p.sum + t * sumN (fun i => (q i).sum) t := by
  obtain ⟨R, _, _, h4, h5⟩ := fc_facts hc hl hn G hq
  unfold fcP
  rw [beads_sum R, h4, h5]; omega
/-- One more bead on each runner. -/
theorem fc_next {t : Nat} {p : List Int} {n : Nat} (hc : isCoreF p t = true) (hl : p.length ≤ n) (hn : n + t ≤ 130) {q : Nat → List Int} (G : ∀ i, i < t → Good (q i)) (hq : ∀ i, i < t → (q i).length ≤ ctN t p n i) :
    fcP t p (n + t) q = fcP t p n q := by
  have hq2 : ∀ i, i < t → (q i).length ≤ ctN t p (n + t) i := fun i hi => by rw [ct_more hc hl (by omega) i hi]; have := hq i hi; omega
  obtain ⟨_, b2, b3, _, _⟩ := fc_facts hc hl (show n ≤ 130 by omega) G hq
  obtain ⟨_, d2, _, _, _⟩ := fc_facts hc (show p.length ≤ n + t by omega) hn G hq2
  have e : fcA t p (n + t) q = shiftL (fcA t p n q) t := by
    refine pw_ext d2 ?_ fun x => ?_
    · unfold shiftL
      rw [List.pairwise_append]
      refine ⟨upTo_pw t, ?_, fun a ha b hb => ?_⟩
      · rw [List.pairwise_map]; exact b2.imp fun h => by omega
      · have h1 := mem_upTo.1 ha
        obtain ⟨y, hy, rfl⟩ := List.mem_map.1 hb
        have := b3 y hy; omega
    · rw [fc_mem (by omega) G]
      unfold shiftL
      rw [List.mem_append, List.mem_map, mem_upTo]
      have hr : ∀ i, i < t → fcR t p (n + t) q i = shL (fcR t p n q i) := fun i hi => by
        unfold fcR; rw [ct_more hc hl (by omega) i hi]; exact beads_next (hq i hi)
      constructor
      · rintro ⟨i, y, hi, hy, rfl⟩
        rw [hr i hi] at hy
        unfold shL at hy
        rcases List.mem_cons.1 hy with h | h
        · subst h; left; omega
        · obtain ⟨z, hz, rfl⟩ := List.mem_map.1 h
          right
          exact ⟨z * t + i, (fc_mem (by omega) G _).2 ⟨i, z, hi, hz, rfl⟩, by rw [Int.add_mul]; omega⟩
      · rintro (h | ⟨z, hz, rfl⟩)
        · refine ⟨x.toNat, 0, by omega, ?_, by omega⟩
          rw [hr _ (by omega)]; exact List.mem_cons_self
        · obtain ⟨i, y, hi, hy, rfl⟩ := (fc_mem (by omega) G z).1 hz
          refine ⟨i, y + 1, hi, ?_, by rw [Int.add_mul]; omega⟩
          rw [hr i hi]; exact List.mem_cons_of_mem _ (List.mem_map.2 ⟨y, hy, rfl⟩)
  unfold fcP
  rw [e, parts_shift]
theorem fc_mul {t : Nat} {p : List Int} {n : Nat} (hc : isCoreF p t = true) (hl : p.length ≤ n) {q : Nat → List Int} (G : ∀ i, i < t → Good (q i)) (hq : ∀ i, i < t → (q i).length ≤ ctN t p n i) :
    ∀ k, n + t * k ≤ 130 → fcP t p (n + t * k) q = fcP t p n q ∧ ∀ i, i < t → ctN t p (n + t * k) i = ctN t p n i + k
  | 0, _ => ⟨rfl, fun _ _ => rfl⟩
  | k + 1, h => by
    rw [Nat.mul_succ, ← Nat.add_assoc] at h ⊢
    obtain ⟨h1, h2⟩ := fc_mul hc hl G hq k (by omega)
    refine ⟨?_, fun i hi => by rw [ct_more hc (by omega) (by omega) i hi, h2 i hi]; omega⟩
    rw [fc_next hc (by omega) h G (fun i hi => by rw [h2 i hi]; have := hq i hi; omega), h1]
theorem ct_mul {t : Nat} {p : List Int} {n : Nat} (hc : isCoreF p t = true) (hl : p.length ≤ n) :
    ∀ k, n + t * k ≤ 900 → ∀ i, i < t → ctN t p (n + t * k) i = ctN t p n i + k
  | 0, _, _, _ => rfl
  | k + 1, h, i, hi => by
    rw [Nat.mul_succ, ← Nat.add_assoc] at h ⊢
    rw [ct_more hc (by omega) (by omega) i hi, ct_mul hc hl k (by omega) i hi]; omega
/-- Where all cells together are few, thirty beads are enough for each runner's partition. -/
theorem fc_enough {t : Nat} {p : List Int} {n : Nat} (hc : isCoreF p t = true) (hn : 30 ≤ n ∧ n ≤ 40) {q : Nat → List Int} (G : ∀ i, i < t → Good (q i)) (hs : p.sum + t * sumN (fun i => (q i).sum) t ≤ 30) (i : Nat) (hi : i < t) : (q i).length ≤ ctN t p n i := by
  have hcr : crB p t = true := by unfold isCoreF at hc; exact (Bool.and_eq_true _ _ ▸ hc).1
  have Gp := (good_iff p).1 (crB_good hcr).1
  have hin := inB_iff.1 (crB_good hcr).2
  have hl := Gp.len
  have h0 := sumN_nn t fun i hi => (G i hi).sum0
  have hlen15 : ∀ i, i < t → (q i).length ≤ 15 := fun i hi => by
    have h1 := h0.2 i hi
    have h2 := len_sum (q i) fun j hj => by have := (G i hi).pos j hj; omega
    have h3 : 2 * sumN (fun i => (q i).sum) t ≤ (t : Int) * sumN (fun i => (q i).sum) t := Int.mul_le_mul_of_nonneg_right (by omega) h0.1
    have := Gp.sum0
    omega
  have htk : t * 15 ≤ 90 := Nat.mul_le_mul_right 15 (show t ≤ 6 by omega)
  have hct := ct_mul hc (n := n) (by omega) 15 (by omega)
  obtain ⟨R, _, _, h4, h5⟩ := fc_facts hc (n := n + t * 15) (by omega) (by omega) G fun i hi => by rw [hct i hi]; have := hlen15 i hi; omega
  have hsm := fc_sum hc (n := n + t * 15) (by omega) (by omega) G fun i hi => by rw [hct i hi]; have := hlen15 i hi; omega
  obtain ⟨f1, f2, _, _⟩ := bpk_facts R (fcA t p (n + t * 15) q).length (Nat.le_refl _)
  have Gm : Good (fcP t p (n + t * 15) q) := good_of f1 f2 (by show (fcP t p (n + t * 15) q).sum ≤ 30; rw [hsm]; exact hs)
  have hb := beadsL_parts R
  rw [h4] at hb
  have hml := Gm.len
  have hall : ∀ y : Nat, y < 15 → (y : Int) ∈ fcR t p (n + t * 15) q i := fun y hy => by
    have hyt : t * y + i < t * 15 := by
      have := Nat.mul_le_mul_left t (show y + 1 ≤ 15 by omega)
      rw [Nat.mul_succ] at this; omega
    have hx : ((t * y + i : Nat) : Int) ∈ fcA t p (n + t * 15) q := by
      rw [← hb]
      refine mem_beads.2 ⟨t * y + i, by omega, ?_⟩
      unfold bead
      have : (fcP t p (n + t * 15) q).getD (n + t * 15 - 1 - (t * y + i)) 0 = 0 := getD_out (by omega)
      unfold fcP at this
      rw [this]; omega
    obtain ⟨i', y', hi', hy', e⟩ := (fc_mem (by omega) G _).1 hx
    have e2 : (y : Int) * t + i = y' * t + i' := by rw [← e, Int.mul_comm]; omega
    obtain ⟨e3, e4⟩ := lay_inj hi hi' e2
    rw [e3, e4]; exact hy'
  rcases Nat.lt_or_ge (ctN t p n i) (q i).length with h | h
  · exfalso
    have h15 := hlen15 i hi
    have hm := hall (ctN t p n i + 15 - (q i).length) (by omega)
    unfold fcR at hm
    rw [hct i hi] at hm
    obtain ⟨j, hj, e⟩ := mem_beads.1 hm
    unfold bead at e
    rcases Nat.lt_or_ge j (ctN t p n i + 15 - (q i).length) with h6 | h6
    · rw [getD_out (by omega)] at e; omega
    · have := (G i hi).pos (ctN t p n i + 15 - 1 - j) (by omega)
      omega
  · exact h
end Go.Proofs.Ytiebnnchaopbkaa
/-
  Contracts: FromCore of the program.
-/
namespace Go.Proofs.Ytiebnnchaopbkaa
open Go.RowKit

def fcOk (p : List Int) (rows : List (List Int)) : Bool := isCoreF p rows.length && (rows.all good && decide (p.sum + rows.length * sumN (fun i => (rowsR rows i).sum) rows.length ≤ 30))
def fcF (p : List Int) (rows : List (List Int)) : List Int := if fcOk p rows then fcP rows.length p (mulN rows.length 30) (rowsR rows) else []
def fcB (p : List Int) (rows : List (List Int)) (i : Nat) : List Int := beadsF (rowsR rows i) (ctN rows.length p (mulN rows.length 30) i)
def fcBk (p : List Int) (rows : List (List Int)) (i : Nat) : Bool := beadsOk (rowsR rows i) (ctN rows.length p (mulN rows.length 30) i)
theorem all_rows {rows : List (List Int)} : rows.all good = true ↔ ∀ i, i < rows.length → good (rowsR rows i) = true := by
  rw [List.all_eq_true]
  constructor
  · intro h i hi
    unfold rowsR
    rw [List.getD_eq_getElem?_getD, List.getElem?_eq_getElem hi]
    exact h _ (List.getElem_mem hi)
  · intro h x hx
    obtain ⟨i, hi, rfl⟩ := List.getElem_of_mem hx
    have := h i hi
    unfold rowsR at this
    rw [List.getD_eq_getElem?_getD, List.getElem?_eq_getElem hi] at this
    exact this
theorem fc_bad {p : List Int} {rows : List (List Int)} {k : Nat} (hk : k < rows.length) (h : fcBk p rows k = false) : fcOk p rows = false := by
  cases hf : fcOk p rows
  · rfl
  · exfalso
    unfold fcOk at hf
    rw [Bool.and_eq_true, Bool.and_eq_true, decide_eq_true_eq] at hf
    obtain ⟨h1, h2, h3⟩ := hf
    have hg := all_rows.1 h2
    have hcr : crB p rows.length = true := by unfold isCoreF at h1; exact (Bool.and_eq_true _ _ ▸ h1).1
    have hin := inB_iff.1 (crB_good hcr).2
    have hb := mulN_bd (t := rows.length) (n := 30) (by omega)
    have he := fc_enough h1 (n := mulN rows.length 30) (by omega) (fun i hi => (good_iff _).1 (hg i hi)) h3 k hk
    have hc := ct_le rows.length p (mulN rows.length 30) k
    unfold fcBk beadsOk at h
    rw [hg k hk, inB_iff.2 ⟨by omega, by omega⟩] at h
    cases h
theorem fc_all {p : List Int} {rows : List (List Int)} (hc : isCoreF p rows.length = true) (h : ∀ k, k < rows.length → fcBk p rows k = true) :
    frOk ((List.range rows.length).map (fcB p rows)) = fcOk p rows ∧ partsL (frF ((List.range rows.length).map (fcB p rows))) = fcF p rows ∧ (frF ((List.range rows.length).map (fcB p rows))).length ≤ 1000 ∧ ∀ j, j < (frF ((List.range rows.length).map (fcB p rows))).length → 0 ≤ (frF ((List.range rows.length).map (fcB p rows))).getD j 0 ∧ (frF ((List.range rows.length).map (fcB p rows))).getD j 0 ≤ 1000 := by
  have hcr : crB p rows.length = true := by unfold isCoreF at hc; exact (Bool.and_eq_true _ _ ▸ hc).1
  have hin := inB_iff.1 (crB_good hcr).2
  have hb := mulN_bd (t := rows.length) (n := 30) (by omega)
  have Gp := ((good_iff p).1 (crB_good hcr).1)
  have hpl := Gp.len
  have hg : ∀ i, i < rows.length → good (rowsR rows i) = true ∧ (rowsR rows i).length ≤ ctN rows.length p (mulN rows.length 30) i := fun i hi => by
    have := h i hi
    unfold fcBk beadsOk at this
    rw [Bool.and_eq_true] at this
    exact ⟨this.1, by have := inB_iff.1 this.2; omega⟩
  have hrow : ∀ i, i < rows.length → fcB p rows i = fcR rows.length p (mulN rows.length 30) (rowsR rows) i := fun i hi => by
    have hc := ct_le rows.length p (mulN rows.length 30) i
    unfold fcB beadsF fcR
    rw [if_pos ⟨(hg i hi).1, by have := (hg i hi).2; omega, by omega⟩, Int.toNat_natCast]
  have hl : ((List.range rows.length).map (fcB p rows)).length = rows.length := by simp
  have hrr : ∀ i, i < rows.length → rowsR ((List.range rows.length).map (fcB p rows)) i = fcB p rows i := fun i hi => by simp [rowsR, List.getD, hi]
  have hfl : frL ((List.range rows.length).map (fcB p rows)) = fcA rows.length p (mulN rows.length 30) (rowsR rows) := by
    unfold frL fcA
    rw [hl]
    congr 1
    have : ∀ n, n ≤ rows.length → abfL rows.length (rowsR ((List.range rows.length).map (fcB p rows))) n = abfL rows.length (fcR rows.length p (mulN rows.length 30) (rowsR rows)) n := by
      intro n
      induction n with
      | zero => intro _; rfl
      | succ n ih => intro hn; rw [abfL, abfL, ih (by omega), hrr n (by omega), hrow n (by omega)]
    exact this _ (Nat.le_refl _)
  obtain ⟨R, pw, pos, len, sum⟩ := fc_facts hc (n := mulN rows.length 30) (by omega) (by omega) (q := rowsR rows) (fun i hi => (good_iff _).1 (hg i hi).1) (fun i hi => (hg i hi).2)
  have e1 : frOk ((List.range rows.length).map (fcB p rows)) = isAba rows.length (fcA rows.length p (mulN rows.length 30) (rowsR rows)) := by
    have := fr_full (rows := (List.range rows.length).map (fcB p rows)) (by rw [hl]; exact (crB_good hcr).2) fun i hi => by
      rw [hl] at hi
      rw [hrr i hi, hrow i hi]
      exact rises_Rises.2 (beads_rise ((good_iff _).1 (hg i hi).1) (by have := ct_le rows.length p (mulN rows.length 30) i; omega))
    rw [this, hl, hfl]
  have e2 : isAba rows.length (fcA rows.length p (mulN rows.length 30) (rowsR rows)) = fcOk p rows := by
    have hall : rows.all good = true := all_rows.2 fun i hi => (hg i hi).1
    unfold isAba fcOk
    rw [(crB_good hcr).2, hc, hall, Bool.true_and, Bool.true_and, Bool.true_and]
    by_cases hs : p.sum + rows.length * sumN (fun i => (rowsR rows i).sum) rows.length ≤ 30
    · rw [decide_eq_true hs]
      exact goodB_of (by rw [len]; omega) R (by rw [sum, len]; omega)
    · rw [decide_eq_false hs]
      cases hgb : goodB (fcA rows.length p (mulN rows.length 30) (rowsR rows))
      · rfl
      · exfalso
        have := goodB_sum (goodB_iff.1 hgb)
        rw [sum, len] at this; omega
  have e3 : frOk ((List.range rows.length).map (fcB p rows)) = fcOk p rows := by rw [e1, e2]
  refine ⟨e3, ?_, ?_⟩
  · unfold frF fcF
    rw [e3, hfl]
    split <;> rfl
  · unfold frF
    rw [hfl]
    split
    · exact ⟨by rw [len]; omega, R.bd⟩
    · exact ⟨by simp, fun j hj => absurd hj (by simp)⟩

theorem tot_map (f : Nat → List Int) (m : Nat) (h : ∀ i, (f i).length ≤ m) : ∀ n, tot ((List.range n).map f) ≤ n * m
  | 0 => by simp [tot]
  | n + 1 => by
    rw [List.range_succ, List.map_append, tot_append, Nat.succ_mul]
    have := tot_map f m h n
    have := h n
    simp only [List.map_cons, List.map_nil, tot]; omega

end Go.Proofs.Ytiebnnchaopbkaa
/-
  A partition, its core and its quotient: each is made of the others. No walk in this text.
-/
namespace Go.Proofs.Ytiebnnchaopbkaa
open Go.RowKit

theorem run_rise {p : List Int} (G : Good p) {t n : Nat} (ht : 0 < t) (hn : n ≤ 900) (i : Nat) : Rises 0 1000 (rnL t (beadsL p n) i) := by
  have R := beads_rise G hn
  have hp := rnL_pw ht (rise_pw R.up) i
  refine pw_rises hp fun x hx => ?_
  unfold rnL at hx
  obtain ⟨y, hy, rfl⟩ := List.mem_map.1 hx
  obtain ⟨j, hj, e⟩ := mem_getD.1 (List.mem_filter.1 hy).1
  have hb := R.bd j hj
  rw [e] at hb
  have h3 : 0 ≤ y / (t : Int) := Int.ediv_nonneg hb.1 (by omega)
  have h4 : y / (t : Int) ≤ y := Int.ediv_le_self _ hb.1
  omega
/-- The core's beads: each runner's beads pushed down. -/
theorem core_beads {p : List Int} (G : Good p) {t N : Nat} (ht : 0 < t) (hn : p.length ≤ N) (hN : N ≤ 900) : beadsL (coreL t p) N = dwL t (beadsL p N) := by
  have hl : (dwL t (beadsL p N)).length = N := by rw [dwL_len ht, beadsL_len]
  have R : Rises 0 1000 (dwL t (beadsL p N)) := pw_rises (dwL_pw _ _) fun x hx => by
    obtain ⟨h0, h1⟩ := (mem_dwL ht).1 hx
    refine ⟨h0, ?_⟩
    have hq0 : 0 ≤ x / (t : Int) := Int.ediv_nonneg h0 (by omega)
    have h2 := run_rise G ht hN (x % (t : Int)).toNat
    have h3 := rise_ge h2 ((rnL t (beadsL p N) (x % (t : Int)).toNat).length - 1) (by omega)
    have h4 : (rnL t (beadsL p N) (x % (t : Int)).toNat).getD ((rnL t (beadsL p N) (x % (t : Int)).toNat).length - 1) 0 ∈ rnL t (beadsL p N) (x % (t : Int)).toNat := mem_getD.2 ⟨_, by omega, rfl⟩
    have g4 := Int.emod_nonneg x (show (t : Int) ≠ 0 by omega)
    have g5 := Int.emod_lt_of_pos x (show 0 < (t : Int) by omega)
    obtain ⟨y, hy⟩ : ∃ y, y = (rnL t (beadsL p N) (x % (t : Int)).toNat).getD ((rnL t (beadsL p N) (x % (t : Int)).toNat).length - 1) 0 := ⟨_, rfl⟩
    have hxy : x / (t : Int) ≤ y := by rw [← hy] at h3; omega
    clear h1
    rw [← hy] at h4
    rw [mem_rn (by omega)] at h4
    obtain ⟨j, hj, e⟩ := mem_getD.1 h4
    have h5 := ((beads_rise G hN).bd j hj).2
    rw [e] at h5
    have h6 := Int.mul_ediv_add_emod x t
    have h7 : (x / (t : Int)) * t ≤ y * t := Int.mul_le_mul_of_nonneg_right hxy (by omega)
    rw [Int.mul_comm] at h6
    omega
  have h := beadsL_parts R
  rw [hl, (core_at ht hn).1] at h
  exact h
theorem core_cut {p : List Int} (t : Nat) (ht : 0 < t) : (coreL t p).length ≤ p.length := by
  unfold coreL
  have := partsL_len (dwL t (beadsL p p.length))
  rw [dwL_len ht, beadsL_len] at this
  exact this
theorem core_is {p : List Int} {t : Nat} (h : crB p t = true) (hg : Good (coreL t p)) : isCoreF (coreL t p) t = true := by
  obtain ⟨h1, h2⟩ := crB_good h
  have G := (good_iff p).1 h1
  have ht := inB_iff.1 h2
  have hl := core_cut (p := p) t (by omega)
  have hlen := G.len
  have hD := core_beads G (t := t) (N := 60) (by omega) (by omega) (by omega)
  refine Dn_core (by unfold crB; rw [(good_iff _).2 hg, h2]; rfl) fun r => ?_
  by_cases hr : r < 60
  · have hx : num (coreL t p) r + (60 : Nat) ∈ beadsL (coreL t p) 60 := mem_beadsL.2 ⟨r, hr, by omega⟩
    obtain ⟨x, hxx⟩ : ∃ x, x = num (coreL t p) r + (60 : Nat) := ⟨_, rfl⟩
    rw [← hxx] at hx
    by_cases h0 : 0 ≤ x - t
    · rw [hD] at hx
      have h3 : x - t ∈ dwL t (beadsL p 60) := by
        rw [mem_dwL (by omega)] at hx ⊢
        have e1 : (x - t) / (t : Int) = x / (t : Int) - 1 := by
          rw [show x - (t : Int) = x + (-1) * (t : Int) by omega, Int.add_mul_ediv_right _ _ (by omega)]; omega
        have e2 : (x - t) % (t : Int) = x % (t : Int) := by
          rw [show x - (t : Int) = x + (-1) * (t : Int) by omega, Int.add_mul_emod_self_right]
        rw [e1, e2]
        exact ⟨h0, by omega⟩
      rw [← hD] at h3
      obtain ⟨s, _, hs⟩ := mem_beadsL.1 h3
      exact ⟨s, by omega⟩
    · exact ⟨(59 + t - x).toNat, by rw [num_out (by omega)]; omega⟩
  · exact ⟨r + t, by rw [num_out (by omega), num_out (by omega)]; omega⟩
theorem run_next {p : List Int} {t n : Nat} (ht : 0 < t) (G : Good p) (hl : p.length ≤ n) (hn : n + t ≤ 900) (i : Nat) (hi : i < t) : rnL t (beadsL p (n + t)) i = shL (rnL t (beadsL p n) i) := by
  have R1 := run_rise G ht (show n ≤ 900 by omega) i
  have R2 := run_rise G ht hn i
  refine pw_ext (rise_pw R2.up) ?_ fun y => ?_
  · unfold shL
    rw [List.pairwise_cons]
    refine ⟨fun z hz => ?_, ?_⟩
    · obtain ⟨u, hu, rfl⟩ := List.mem_map.1 hz
      obtain ⟨j, hj, e⟩ := mem_getD.1 hu
      have := (R1.bd j hj).1
      omega
    · rw [List.pairwise_map]
      exact (rise_pw R1.up).imp fun h => by omega
  · rw [mem_rn hi, mem_more hl]
    unfold shL
    rw [List.mem_cons, List.mem_map]
    have e2 : (y * t + i - t : Int) = (y - 1) * t + i := by rw [Int.sub_mul]; omega
    rw [e2, ← mem_rn hi]
    constructor
    · rintro (⟨h1, h2⟩ | h)
      · left
        rcases Int.lt_or_le 0 y with h3 | h3
        · have := Int.mul_le_mul_of_nonneg_right (show (1 : Int) ≤ y by omega) (show (0 : Int) ≤ t by omega); omega
        · rcases Int.lt_or_le y 0 with h4 | h4
          · have := Int.mul_le_mul_of_nonneg_right (show y ≤ -1 by omega) (show (0 : Int) ≤ t by omega); omega
          · omega
      · right; exact ⟨y - 1, h, by omega⟩
    · rintro (h | ⟨u, hu, rfl⟩)
      · left; subst h; omega
      · right; rw [show u + 1 - 1 = u by omega]; exact hu
theorem run_mul {p : List Int} {t n : Nat} (ht : 0 < t) (G : Good p) (hl : p.length ≤ n) (i : Nat) (hi : i < t) : ∀ k, n + t * k ≤ 900 → partsL (rnL t (beadsL p (n + t * k)) i) = partsL (rnL t (beadsL p n) i)
  | 0, _ => rfl
  | k + 1, h => by
    rw [Nat.mul_succ, ← Nat.add_assoc] at h ⊢
    rw [run_next ht G (by omega) h i hi, parts_sh, run_mul ht G hl i hi k (by omega)]
theorem core_ct {p : List Int} (G : Good p) {t N : Nat} (ht : 0 < t) (hn : p.length ≤ N) (hN : N ≤ 900) : ∀ i, i < t → ctN t (coreL t p) N i = (rnL t (beadsL p N) i).length := fun i hi => by
    unfold ctN
    rw [core_beads G ht hn hN]
    have e : rnL t (dwL t (beadsL p N)) i = upTo (rnL t (beadsL p N) i).length := by
      refine pw_ext (rnL_pw ht (dwL_pw _ _) i) (upTo_pw _) fun y => ?_
      rw [mem_rn hi, mem_dwL ht, mem_upTo]
      have h := lay_div (t := t) (y := y) hi
      rw [h.1, h.2, Int.toNat_natCast]
      constructor
      · rintro ⟨h1, h2⟩
        refine ⟨?_, h2⟩
        rcases Int.lt_or_le y 0 with h4 | h4
        · have := Int.mul_le_mul_of_nonneg_right (show y ≤ -1 by omega) (show (0 : Int) ≤ t by omega); omega
        · exact h4
      · rintro ⟨h1, h2⟩
        have := Int.mul_nonneg h1 (show (0 : Int) ≤ t by omega)
        exact ⟨by omega, h2⟩
    rw [e, upTo_len]
/-- The core and the quotient make the partition. -/
theorem qf_back {p : List Int} (G : Good p) {t N : Nat} (ht : 0 < t) (hn : p.length ≤ N) (hN : N ≤ 900) (hq : ∀ i, i < t → Good (partsL (rnL t (beadsL p N) i))) :
    fcP t (coreL t p) N (fun i => partsL (rnL t (beadsL p N) i)) = p := by
  have hct := core_ct G ht hn hN
  have hr : ∀ i, i < t → fcR t (coreL t p) N (fun i => partsL (rnL t (beadsL p N) i)) i = rnL t (beadsL p N) i := fun i hi => by
    unfold fcR
    rw [hct i hi]
    exact beadsL_parts (run_rise G ht hN i)
  have e : fcA t (coreL t p) N (fun i => partsL (rnL t (beadsL p N) i)) = beadsL p N := by
    refine pw_ext (insF_all (fc_nodup hN hq)).1 (rise_pw (beads_rise G hN).up) fun x => ?_
    rw [fc_mem hN hq]
    constructor
    · rintro ⟨i, y, hi, hy, rfl⟩
      rw [hr i hi] at hy
      exact (mem_rn hi _ _).1 hy
    · intro hx
      have g4 := Int.emod_nonneg x (show (t : Int) ≠ 0 by omega)
      have g5 := Int.emod_lt_of_pos x (show 0 < (t : Int) by omega)
      have h6 := Int.mul_ediv_add_emod x t
      rw [Int.mul_comm] at h6
      refine ⟨(x % (t : Int)).toNat, x / (t : Int), by omega, ?_, by omega⟩
      rw [hr _ (by omega), mem_rn (by omega)]
      rw [show x / (t : Int) * t + ((x % (t : Int)).toNat : Int) = x by omega]
      exact hx
  unfold fcP
  rw [e, partsL_beads G hn]
theorem split_at {t : Nat} (ht : 0 < t) (x : Int) : (x % (t : Int)).toNat < t ∧ x / (t : Int) * t + ((x % (t : Int)).toNat : Int) = x := by
  have g4 := Int.emod_nonneg x (show (t : Int) ≠ 0 by omega)
  have g5 := Int.emod_lt_of_pos x (show 0 < (t : Int) by omega)
  have h6 := Int.mul_ediv_add_emod x t
  rw [Int.mul_comm] at h6
  omega
theorem dw_same {t : Nat} (ht : 0 < t) {X Y : List Int} (h : ∀ i, i < t → (rnL t X i).length = (rnL t Y i).length) : dwL t X = dwL t Y :=
  pw_ext (dwL_pw _ _) (dwL_pw _ _) fun x => by rw [mem_dwL ht, mem_dwL ht, h _ (split_at ht x).1]
/-- A core is its own core. -/
theorem core_self {c : List Int} {t : Nat} (hc : isCoreF c t = true) {N : Nat} (hl : c.length ≤ N) (hN : N ≤ 900) : dwL t (beadsL c N) = beadsL c N ∧ coreL t c = c := by
  have hcr : crB c t = true := by unfold isCoreF at hc; exact (Bool.and_eq_true _ _ ▸ hc).1
  have G := (good_iff c).1 (crB_good hcr).1
  have hin := inB_iff.1 (crB_good hcr).2
  have ht : 0 < t := by omega
  have e : dwL t (beadsL c N) = beadsL c N := by
    refine pw_ext (dwL_pw _ _) (rise_pw (beads_rise G hN).up) fun x => ?_
    obtain ⟨h1, h2⟩ := split_at ht x
    have h3 := mem_rn h1 (beadsL c N) (x / (t : Int))
    rw [h2, core_run hc hl hN _ h1, mem_upTo] at h3
    rw [mem_dwL ht, ← h3]
    have h4 : (rnL t (beadsL c N) (x % (t : Int)).toNat).length = ctN t c N (x % (t : Int)).toNat := rfl
    rw [h4]
    constructor
    · rintro ⟨a, b⟩; exact ⟨Int.ediv_nonneg a (by omega), b⟩
    · rintro ⟨a, b⟩
      have := Int.mul_nonneg a (show (0 : Int) ≤ t by omega)
      exact ⟨by omega, b⟩
  exact ⟨e, by rw [← (core_at ht hl).1, e, partsL_beads G hl]⟩
/-- The beads, the runners and the core of the partition that a core and a quotient make. -/
theorem qf_made {c : List Int} {t N : Nat} (hc : isCoreF c t = true) (hl : c.length ≤ N) (hN : N ≤ 130) {q : Nat → List Int} (G : ∀ i, i < t → Good (q i)) (hq : ∀ i, i < t → (q i).length ≤ ctN t c N i) (hp : (fcP t c N q).length ≤ N) :
    beadsL (fcP t c N q) N = fcA t c N q ∧ (∀ i, i < t → partsL (rnL t (beadsL (fcP t c N q) N) i) = q i) ∧ coreL t (fcP t c N q) = c := by
  have hcr : crB c t = true := by unfold isCoreF at hc; exact (Bool.and_eq_true _ _ ▸ hc).1
  have hin := inB_iff.1 (crB_good hcr).2
  have ht : 0 < t := by omega
  obtain ⟨R, h1, h2, h3, _⟩ := fc_facts hc hl hN G hq
  have e : beadsL (fcP t c N q) N = fcA t c N q := by
    have := beadsL_parts R
    rw [h3] at this; exact this
  have hr : ∀ i, i < t → rnL t (fcA t c N q) i = fcR t c N q i := fun i hi => by
    refine pw_ext (rnL_pw ht h1 i) (rise_pw (beads_rise (G i hi) (by have := ct_le t c N i; omega)).up) fun y => ?_
    rw [mem_rn hi, fc_mem (by omega) G]
    constructor
    · rintro ⟨j, z, hj, hz, ee⟩
      have a := lay_div (t := t) (y := y) hi
      have b := lay_div (t := t) (y := z) hj
      rw [← ee] at b
      have e1 : y = z := by rw [← a.1, b.1]
      have e2 : (i : Int) = j := by rw [← a.2, b.2]
      have e3 : i = j := by omega
      subst e1 e3
      exact hz
    · intro hy; exact ⟨i, y, hi, hy, rfl⟩
  refine ⟨e, fun i hi => ?_, ?_⟩
  · rw [e, hr i hi]; exact partsL_beads (G i hi) (hq i hi)
  · rw [← (core_at ht hp).1, e, dw_same (Y := beadsL c N) ht fun i hi => by rw [hr i hi]; unfold fcR; rw [beadsL_len]; rfl, (core_self hc hl (by omega)).1, partsL_beads ((good_iff c).1 (crB_good hcr).1) hl]
theorem abfL_same {t : Nat} {R S : Nat → List Int} : ∀ n, (∀ i, i < n → R i = S i) → abfL t R n = abfL t S n
  | 0, _ => rfl
  | n + 1, h => by rw [abfL, abfL, abfL_same n fun i hi => h i (by omega), h n (by omega)]
theorem fcP_same {t : Nat} {c : List Int} {N : Nat} {q q2 : Nat → List Int} (h : ∀ i, i < t → q i = q2 i) : fcP t c N q = fcP t c N q2 := by
  unfold fcP fcA
  rw [abfL_same (S := fcR t c N q2) t fun i hi => by unfold fcR; rw [h i hi]]
theorem mulN_step {t : Nat} (ht : 0 < t) {a b : Nat} (h : a ≤ b) : ∃ k, mulN t b = mulN t a + t * k := by
  unfold mulN
  have h1 : (a + t - 1) / t ≤ (b + t - 1) / t := Nat.div_le_div_right (by omega)
  refine ⟨(b + t - 1) / t - (a + t - 1) / t, ?_⟩
  rw [Nat.mul_comm t, Nat.sub_mul]
  have := Nat.mul_le_mul_right t h1
  omega
/-- The quotient, with as many beads as the program takes to make the partition anew. -/
theorem quo_at {p : List Int} {t : Nat} (h : crB p t = true) (i : Nat) (hi : i < t) : (quoF p t).getD i [] = partsL (rnL t (beadsL p (mulN t 30)) i) := by
  have G := (good_iff p).1 (crB_good h).1
  have hin := inB_iff.1 (crB_good h).2
  have hl := G.len
  obtain ⟨k, hk⟩ := mulN_step (t := t) (by omega) (show p.length ≤ 30 by omega)
  have hb := mulN_bd (t := t) (n := 30) (by omega)
  have hb2 := mulN_bd (t := t) (n := p.length) (by omega)
  rw [quoF_t h, evF_t h, hk, run_mul (by omega) G hb2.1 i hi k (by omega)]
  simp [List.getD, hi, quoR]
theorem quo_len {p : List Int} {t : Nat} (h : crB p t = true) : (quoF p t).length = t := by rw [quoF_t h]; simp
theorem qf_one {p : List Int} {t : Nat} (h : crB p t = true) : fcOk (coF p t) (quoF p t) = true ∧ fcF (coF p t) (quoF p t) = p := by
  have G := (good_iff p).1 (crB_good h).1
  have hin := inB_iff.1 (crB_good h).2
  have hl := G.len
  have hb := mulN_bd (t := t) (n := 30) (by omega)
  obtain ⟨f1, f2, f3⟩ := run_facts G (t := t) (n := mulN t 30) (by omega) (by omega) (by omega)
  have hq : ∀ i, i < t → Good (partsL (rnL t (beadsL p (mulN t 30)) i)) := fun i hi => (f1 i hi).parts
  have hback := qf_back G (t := t) (N := mulN t 30) (by omega) (by omega) (by omega) hq
  have hct := core_ct G (t := t) (N := mulN t 30) (by omega) (by omega) (by omega)
  have hc : coF p t = coreL t p := (co_yes h).1
  have hgc : Good (coreL t p) := (goodB_iff.1 (dw_good (by omega) (goodB_iff.1 (beadsL_goodB G (Nat.le_refl _) (by omega))))).parts
  have hcore := core_is h hgc
  have hsum := fc_sum hcore (n := mulN t 30) (by have := core_cut (p := p) t (by omega); omega) (by omega) hq fun i hi => by
    rw [hct i hi]; exact partsL_len _
  rw [hback] at hsum
  have hp : fcP t (coreL t p) (mulN t 30) (rowsR (quoF p t)) = p := (fcP_same fun i hi => quo_at h i hi).trans hback
  have hok : fcOk (coF p t) (quoF p t) = true := by
    unfold fcOk
    rw [hc, quo_len h, hcore, Bool.true_and, Bool.and_eq_true]
    refine ⟨?_, ?_⟩
    · rw [List.all_eq_true]
      intro r hr
      obtain ⟨i, hi, e⟩ := List.mem_iff_getElem.1 hr
      rw [quo_len h] at hi
      have e2 := quo_at h i hi
      rw [List.getD_eq_getElem?_getD, List.getElem?_eq_getElem (by rw [quo_len h]; exact hi), Option.getD_some, e] at e2
      rw [e2]
      exact (good_iff _).2 (hq i hi)
    · rw [decide_eq_true_eq, sumN_congr (f := fun i => (rowsR (quoF p t) i).sum) (g := fun i => (partsL (rnL t (beadsL p (mulN t 30)) i)).sum) t fun i hi => congrArg List.sum (quo_at h i hi), ← hsum]
      exact G.sum
  refine ⟨hok, ?_⟩
  unfold fcF
  rw [if_pos hok, quo_len h, hc, hp]
/-- The weight is the size of the quotient. -/
theorem qf_weight {p : List Int} {t : Nat} (h : crB p t = true) : coN p t = sumN (fun i => ((quoF p t).getD i []).sum) t := by
  have G := (good_iff p).1 (crB_good h).1
  have hin := inB_iff.1 (crB_good h).2
  have hl := G.len
  have hb := mulN_bd (t := t) (n := 30) (by omega)
  rw [(co_yes h).2, ← (core_at (t := t) (n := mulN t 30) (by omega) (show p.length ≤ mulN t 30 by omega)).2]
  refine sumN_congr t fun i hi => ?_
  rw [quo_at h i hi, beads_sum (run_rise G (by omega) (by omega) i)]
theorem qf_two {c : List Int} {rows : List (List Int)} (h : fcOk c rows = true) :
    crB (fcF c rows) rows.length = true ∧ quoF (fcF c rows) rows.length = rows ∧ coF (fcF c rows) rows.length = c := by
  have hF : fcF c rows = fcP rows.length c (mulN rows.length 30) (rowsR rows) := by unfold fcF; rw [if_pos h]
  have h2 := h
  unfold fcOk at h2
  rw [Bool.and_eq_true, Bool.and_eq_true, List.all_eq_true, decide_eq_true_eq] at h2
  obtain ⟨hc, hall, hs⟩ := h2
  have hcr : crB c rows.length = true := by unfold isCoreF at hc; exact (Bool.and_eq_true _ _ ▸ hc).1
  have Gc := (good_iff c).1 (crB_good hcr).1
  have hin := inB_iff.1 (crB_good hcr).2
  have hl := Gc.len
  obtain ⟨t, ht⟩ : ∃ t, t = rows.length := ⟨_, rfl⟩
  have G : ∀ i, i < t → Good (rowsR rows i) := fun i hi => by
    have := hall ((rowsR rows) i) (by
      unfold rowsR
      rw [List.getD_eq_getElem?_getD, List.getElem?_eq_getElem (by omega)]; exact List.getElem_mem _)
    exact (good_iff _).1 this
  rw [← ht] at hF hc hs hcr hin ⊢
  have hb := mulN_bd (t := t) (n := 30) (by omega)
  have hq := fc_enough hc (n := mulN t 30) (by omega) G hs
  obtain ⟨R, _, _, e4, _⟩ := fc_facts hc (n := mulN t 30) (by omega) (by omega) G hq
  have hsum := fc_sum hc (n := mulN t 30) (by omega) (by omega) G hq
  obtain ⟨b1, b2, _, _⟩ := bpk_facts R (fcA t c (mulN t 30) (rowsR rows)).length (Nat.le_refl _)
  have Gp : Good (fcP t c (mulN t 30) (rowsR rows)) := good_of b1 b2 (by show (fcP t c (mulN t 30) (rowsR rows)).sum ≤ 30; rw [hsum]; exact hs)
  have hpl := Gp.len
  obtain ⟨k1, k2, k3⟩ := qf_made hc (N := mulN t 30) (by omega) (by omega) G hq (by omega)
  have hcp : crB (fcP t c (mulN t 30) (rowsR rows)) t = true := by
    unfold crB
    rw [(good_iff _).2 Gp, (crB_good hcr).2]; rfl
  rw [hF]
  refine ⟨hcp, ?_, ?_⟩
  · apply List.ext_getElem
    · rw [quo_len hcp, ht]
    · intro i h1 h3
      have hi : i < t := by rw [quo_len hcp] at h1; exact h1
      have e := quo_at hcp i hi
      rw [k2 i hi, List.getD_eq_getElem?_getD, List.getElem?_eq_getElem h1, Option.getD_some] at e
      rw [e]
      unfold rowsR
      rw [List.getD_eq_getElem?_getD, List.getElem?_eq_getElem h3, Option.getD_some]
  · rw [(co_yes hcp).1, k3]
end Go.Proofs.Ytiebnnchaopbkaa
