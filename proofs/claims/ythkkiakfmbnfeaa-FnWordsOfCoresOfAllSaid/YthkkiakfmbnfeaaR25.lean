/-
  Several texts in one.
-/
import Derived.Test.YthkkiakfmbnfeaaR16
import Derived.Test.YthkkiakfmbnfeaaR12
import Derived.Test.YthkkiakfmbnfeaaR18
import Derived.Test.YthkkiakfmbnfeaaR19
import Derived.Test.YthkkiakfmbnfeaaR20
import Derived.Test.YthkkiakfmbnfeaaR24
import Derived.Test.YthkkiakfmbnfeaaCF
import Derived.Test.YthkkiakfmbnfeaaCB
/-
  Plain facts: a core and a quotient make one partition, with any number of beads that is enough. No program in this text.
-/
namespace Go.Proofs.Ythkkiakfmbnfeaa

theorem down_upTo {L : List Int} (hp : L.Pairwise (· < ·)) (h0 : ∀ y ∈ L, 0 ≤ y) (hd : ∀ y ∈ L, 0 < y → y - 1 ∈ L) : L = upTo L.length := by
  have key : ∀ n j, j ≤ n → j < L.length → L.getD j 0 = j := by
    intro n
    induction n with
    | zero =>
      intro j hj hl
      obtain rfl : j = 0 := by omega
      have hm : L.getD 0 0 ∈ L := mem_getD.2 ⟨0, hl, rfl⟩
      rcases Int.lt_or_le 0 (L.getD 0 0) with h | h
      · obtain ⟨k, hk, e⟩ := mem_getD.1 (hd _ hm h)
        rcases Nat.eq_zero_or_pos k with hz | hz
        · subst hz; omega
        · have := (List.pairwise_iff_getElem.1 hp) 0 k hl hk hz
          rw [← getD_get L hl, ← getD_get L hk] at this; omega
      · have := h0 _ hm; omega
    | succ n ih =>
      intro j hj hl
      by_cases hjn : j ≤ n
      · exact ih j hjn hl
      · obtain rfl : j = n + 1 := by omega
        have hm : L.getD (n + 1) 0 ∈ L := mem_getD.2 ⟨n + 1, hl, rfl⟩
        have h1 := ih n (Nat.le_refl _) (by omega)
        have h2 := (List.pairwise_iff_getElem.1 hp) n (n + 1) (by omega) hl (by omega)
        rw [← getD_get L hl, ← getD_get L (show n < L.length by omega)] at h2
        obtain ⟨k, hk, e⟩ := mem_getD.1 (hd _ hm (by omega))
        rcases Nat.lt_or_ge k (n + 1) with h3 | h3
        · have := ih k (by omega) hk; omega
        · rcases Nat.eq_or_lt_of_le h3 with h4 | h4
          · subst h4; omega
          · have := (List.pairwise_iff_getElem.1 hp) (n + 1) k hl hk h4
            rw [← getD_get L hl, ← getD_get L hk] at this; omega
  refine ext_fh (upTo_len _).symm fun j hj => ?_
  rw [key j j (Nat.le_refl _) hj]
  unfold upTo
  rw [fnRow_get _ _ _ hj]
theorem part_le30 {p : List Int} (G : Good p) (r : Nat) : p.getD r 0 ≤ 30 := by
  rcases Nat.lt_or_ge r p.length with h | h
  · exact G.le _ h
  · rw [getD_out h]; omega
/-- Beads of a partition rise, however many there are. -/
theorem beads_rise {p : List Int} (G : Good p) {n : Nat} (hn : n ≤ 900) : Rises 0 1000 (beadsL p n) := by
  refine ⟨fun j hj => ?_, fun j hj => ?_⟩
  · rw [beadsL_len] at hj
    unfold beadsL
    rw [fnRow_get _ _ _ hj]
    unfold bead
    have := part_nn G (n - 1 - j)
    have h30 : p.getD (n - 1 - j) 0 ≤ 30 := by
      rcases Nat.lt_or_ge (n - 1 - j) p.length with h | h
      · exact G.le _ h
      · rw [getD_out h]; omega
    omega
  · rw [beadsL_len] at hj
    unfold beadsL
    rw [fnRow_get _ _ _ hj, fnRow_get _ _ _ (by omega)]
    unfold bead
    have := part_down G (n - 1 - (j + 1))
    rw [show n - 1 - (j + 1) + 1 = n - 1 - j by omega] at this
    omega
theorem beads_sumN {p : List Int} (G : Good p) {n : Nat} (hl : p.length ≤ n) (hn : n ≤ 900) : (beadsL p n).sum = p.sum + tri n := by
  have := beads_sum (beads_rise G hn)
  rw [partsL_beads G hl, beadsL_len] at this
  omega
def ctN (t : Nat) (p : List Int) (n i : Nat) : Nat := (rnL t (beadsL p n) i).length
theorem core_run {p : List Int} {t : Nat} (hc : isCoreF p t = true) {n : Nat} (hl : p.length ≤ n) (hn : n ≤ 900) (i : Nat) (hi : i < t) : rnL t (beadsL p n) i = upTo (ctN t p n i) := by
  have hD := core_Dn hc
  have hcr : crB p t = true := by unfold isCoreF at hc; exact (Bool.and_eq_true _ _ ▸ hc).1
  have G := (good_iff p).1 (crB_good hcr).1
  have R := beads_rise G hn
  have hm : ∀ y, y ∈ rnL t (beadsL p n) i ↔ y * t + i ∈ beadsL p n := fun y => by
    unfold rnL
    simp only [List.mem_map, List.mem_filter, decide_eq_true_eq]
    constructor
    · rintro ⟨x, ⟨hx, h1⟩, h2⟩
      have := Int.mul_ediv_add_emod x t
      rw [h1, h2, Int.mul_comm] at this
      rw [this]; exact hx
    · intro h
      have := lay_div (t := t) (y := y) hi
      exact ⟨_, ⟨h, this.2⟩, this.1⟩
  have hpos : ∀ y ∈ rnL t (beadsL p n) i, 0 ≤ y := rnL_pos (by omega) (fun x hx => by obtain ⟨j, hj, rfl⟩ := mem_getD.1 hx; exact (R.bd j hj).1) i
  refine down_upTo (rnL_pw (by omega) (rise_pw R.up) i) hpos fun y hy h0 => ?_
  rw [hm] at hy ⊢
  obtain ⟨r, hr, e⟩ := mem_beadsL.1 hy
  obtain ⟨s, hs⟩ := hD r
  have e2 : (y - 1) * (t : Int) = y * t - t := by rw [Int.sub_mul, Int.one_mul]
  have hyt : (t : Int) ≤ y * t := by have := Int.mul_le_mul_of_nonneg_right (show (1 : Int) ≤ y by omega) (show (0 : Int) ≤ t by omega); omega
  refine mem_beadsL.2 ⟨s, ?_, by rw [hs, e, e2]; omega⟩
  rcases Nat.lt_or_ge s n with h | h
  · exact h
  · rw [num_out (by omega)] at hs; omega

theorem mem_more {p : List Int} {n t : Nat} (hl : p.length ≤ n) (x : Int) : x ∈ beadsL p (n + t) ↔ (0 ≤ x ∧ x < t) ∨ x - t ∈ beadsL p n := by
  rw [mem_beadsL, mem_beadsL]
  constructor
  · rintro ⟨r, hr, e⟩
    rcases Nat.lt_or_ge r n with h | h
    · exact Or.inr ⟨r, h, by omega⟩
    · rw [num_out (by omega)] at e
      exact Or.inl (by omega)
  · rintro (h | ⟨r, hr, e⟩)
    · exact ⟨n + t - 1 - x.toNat, by omega, by rw [num_out (by omega)]; omega⟩
    · exact ⟨r, by omega, by omega⟩
theorem mem_rn {t i : Nat} (hi : i < t) (L : List Int) (y : Int) : y ∈ rnL t L i ↔ y * t + i ∈ L := by
  unfold rnL
  simp only [List.mem_map, List.mem_filter, decide_eq_true_eq]
  constructor
  · rintro ⟨x, ⟨hx, h1⟩, h2⟩
    have := Int.mul_ediv_add_emod x t
    rw [h1, h2, Int.mul_comm] at this
    rw [this]; exact hx
  · intro h
    have := lay_div (t := t) (y := y) hi
    exact ⟨_, ⟨h, this.2⟩, this.1⟩
theorem ct_more {p : List Int} {t n : Nat} (hc : isCoreF p t = true) (hl : p.length ≤ n) (hn : n + t ≤ 900) (i : Nat) (hi : i < t) : ctN t p (n + t) i = ctN t p n i + 1 := by
  have h1 := core_run hc (n := n) hl (by omega) i hi
  have h2 := core_run hc (n := n + t) (by omega) hn i hi
  have key : ∀ y : Int, 0 ≤ y → (y < ctN t p (n + t) i ↔ y = 0 ∨ y - 1 < ctN t p n i) := by
    intro y hy
    have e1 : y ∈ rnL t (beadsL p (n + t)) i ↔ y < ctN t p (n + t) i := by rw [h2, mem_upTo]; omega
    rw [← e1, mem_rn hi, mem_more hl]
    have e2 : (y * t + i - t : Int) = (y - 1) * t + i := by rw [Int.sub_mul]; omega
    rw [e2, ← mem_rn hi, h1, mem_upTo]
    constructor
    · rintro (h | h)
      · left
        rcases Int.lt_or_le 0 y with h3 | h3
        · have := Int.mul_le_mul_of_nonneg_right (show (1 : Int) ≤ y by omega) (show (0 : Int) ≤ t by omega); omega
        · omega
      · right; omega
    · rintro (h | h)
      · left; subst h; omega
      · by_cases h3 : y = 0
        · left; subst h3; omega
        · right; omega
  have k1 := key (ctN t p n i) (by omega)
  have k2 := key (ctN t p n i + 1) (by omega)
  have k0 := key 0 (by omega)
  omega
def fcR (t : Nat) (p : List Int) (n : Nat) (q : Nat → List Int) (i : Nat) : List Int := beadsL (q i) (ctN t p n i)
def fcA (t : Nat) (p : List Int) (n : Nat) (q : Nat → List Int) : List Int := insF (abfL t (fcR t p n q) t)
def fcP (t : Nat) (p : List Int) (n : Nat) (q : Nat → List Int) : List Int := partsL (fcA t p n q)
theorem ct_le (t : Nat) (p : List Int) (n i : Nat) : ctN t p n i ≤ n := by
  have := rnL_len t (beadsL p n) i
  rw [beadsL_len] at this; exact this
theorem fc_nodup {t : Nat} {p : List Int} {n : Nat} (hn : n ≤ 900) {q : Nat → List Int} (G : ∀ i, i < t → Good (q i)) : (abfL t (fcR t p n q) t).Nodup :=
  abfL_nodup t (Nat.le_refl _) fun i hi => pw_nodup (rise_pw (beads_rise (G i hi) (by have := ct_le t p n i; omega)).up)
theorem fc_mem {t : Nat} {p : List Int} {n : Nat} (hn : n ≤ 900) {q : Nat → List Int} (G : ∀ i, i < t → Good (q i)) (x : Int) : x ∈ fcA t p n q ↔ ∃ i y, i < t ∧ y ∈ fcR t p n q i ∧ x = y * (t : Int) + (i : Int) := by
  unfold fcA
  rw [(insF_all (fc_nodup hn G)).2.1, mem_abfL]
/-- The beads of the partition that is made. -/
theorem fc_facts {t : Nat} {p : List Int} {n : Nat} (hc : isCoreF p t = true) (hl : p.length ≤ n) (hn : n ≤ 130) {q : Nat → List Int} (G : ∀ i, i < t → Good (q i)) (hq : ∀ i, i < t → (q i).length ≤ ctN t p n i) :
    Rises 0 1000 (fcA t p n q) ∧ (fcA t p n q).Pairwise (· < ·) ∧ (∀ x ∈ fcA t p n q, 0 ≤ x) ∧ (fcA t p n q).length = n ∧ (fcA t p n q).sum = p.sum + tri n + t * sumN (fun i => (q i).sum) t := by
  have hcr : crB p t = true := by unfold isCoreF at hc; exact (Bool.and_eq_true _ _ ▸ hc).1
  have Gp := (good_iff p).1 (crB_good hcr).1
  have hin := inB_iff.1 (crB_good hcr).2
  have ht : 0 < t := by omega
  have hnd := fc_nodup (p := p) (n := n) (by omega) G
  obtain ⟨h1, h2, h3⟩ := insF_all hnd
  have hlen : (abfL t (fcR t p n q) t).length = n := by
    have e1 : ((abfL t (fcR t p n q) t).length : Int) = sumN (fun i => ((fcR t p n q i).length : Int)) t := abfL_len t
    have e2 : sumN (fun i => ((fcR t p n q i).length : Int)) t = sumN (fun i => ((rnL t (beadsL p n) i).length : Int)) t := sumN_congr t fun i _ => by unfold fcR; rw [beadsL_len]; rfl
    rw [e2, rn_len_sum ht, beadsL_len] at e1
    omega
  have hbd : ∀ x ∈ fcA t p n q, 0 ≤ x ∧ x ≤ 1000 := fun x hx => by
    obtain ⟨i, y, hi, hy, e⟩ := (fc_mem (by omega) G x).1 hx
    have hci := ct_le t p n i
    have h4 : 0 ≤ y ∧ y ≤ 160 := by
      obtain ⟨j, hj, e2⟩ := mem_getD.1 hy
      rw [← e2]
      refine ⟨((beads_rise (G i hi) (show ctN t p n i ≤ 900 by omega)).bd j hj).1, ?_⟩
      unfold fcR at hj ⊢
      rw [beadsL_len] at hj
      unfold beadsL
      rw [fnRow_get _ _ _ hj]
      unfold bead
      have h30 := part_le30 (G i hi) (ctN t p n i - 1 - j)
      omega
    have h5 := Int.mul_nonneg h4.1 (show (0 : Int) ≤ t by omega)
    have h6 : y * (t : Int) ≤ 160 * 6 := Int.mul_le_mul h4.2 (by omega) (by omega) (by omega)
    omega
  have hpos : ∀ x ∈ fcA t p n q, 0 ≤ x := fun x hx => (hbd x hx).1
  have hsum : (fcA t p n q).sum = p.sum + tri n + t * sumN (fun i => (q i).sum) t := by
    unfold fcA
    rw [insF_sum, abfL_sum]
    have e1 := rn_sum ht (beadsL p n)
    have e2 := beads_sumN Gp hl (show n ≤ 900 by omega)
    rw [e2] at e1
    rw [← e1, ← sumN_mul, ← sumN_add]
    refine sumN_congr t fun i hi => ?_
    have hci := ct_le t p n i
    have e3 : (fcR t p n q i).sum = (q i).sum + tri (ctN t p n i) := beads_sumN (G i hi) (hq i hi) (by omega)
    have e4 : (rnL t (beadsL p n) i).sum = tri (ctN t p n i) := by
      have h5 := core_run hc hl (show n ≤ 900 by omega) i hi
      have h6 := congrArg List.sum h5
      rw [upTo_sum] at h6; exact h6
    have e5 : (fcR t p n q i).length = (rnL t (beadsL p n) i).length := by unfold fcR; rw [beadsL_len]; rfl
    rw [e3, e4, e5, Int.mul_add]; omega
  exact ⟨pw_rises h1 hbd, h1, hpos, by unfold fcA; rw [h3, hlen], hsum⟩
theorem fc_sum {t : Nat} {p : List Int} {n : Nat} (hc : isCoreF p t = true) (hl : p.length ≤ n) (hn : n ≤ 130) {q : Nat → List Int} (G : ∀ i, i < t → Good (q i)) (hq : ∀ i, i < t → (q i).length ≤ ctN t p n i) :
    (fcP t p n q).sum = p.sum + t * sumN (fun i => (q i).sum) t := by
  obtain ⟨R, _, _, h4, h5⟩ := fc_facts hc hl hn G hq
  unfold fcP
  rw [beads_sum R, h4, h5]; omega
/-- One more bead on each runner. -/
theorem fc_next {t : Nat} {p : List Int} {n : Nat} (hc : isCoreF p t = true) (hl : p.length ≤ n) (hn : n + t ≤ 130) {q : Nat → List Int} (G : ∀ i, i < t → Good (q i)) (hq : ∀ i, i < t → (q i).length ≤ ctN t p n i) :
    fcP t p (n + t) q = fcP t p n q := by
  have hq2 : ∀ i, i < t → (q i).length ≤ ctN t p (n + t) i := fun i hi => by rw [ct_more hc hl (by omega) i hi]; have := hq i hi; omega
  obtain ⟨_, b2, b3, _, _⟩ := fc_facts hc hl (show n ≤ 130 by omega) G hq
  obtain ⟨_, d2, _, _, _⟩ := fc_facts hc (show p.length ≤ n + t by omega) hn G hq2
  have e : fcA t p (n + t) q = shiftL (fcA t p n q) t := by
    refine pw_ext d2 ?_ fun x => ?_
    · unfold shiftL
      rw [List.pairwise_append]
      refine ⟨upTo_pw t, ?_, fun a ha b hb => ?_⟩
      · rw [List.pairwise_map]; exact b2.imp fun h => by omega
      · have h1 := mem_upTo.1 ha
        obtain ⟨y, hy, rfl⟩ := List.mem_map.1 hb
        have := b3 y hy; omega
    · rw [fc_mem (by omega) G]
      unfold shiftL
      rw [List.mem_append, List.mem_map, mem_upTo]
      have hr : ∀ i, i < t → fcR t p (n + t) q i = shL (fcR t p n q i) := fun i hi => by
        unfold fcR; rw [ct_more hc hl (by omega) i hi]; exact beads_next (hq i hi)
      constructor
      · rintro ⟨i, y, hi, hy, rfl⟩
        rw [hr i hi] at hy
        unfold shL at hy
        rcases List.mem_cons.1 hy with h | h
        · subst h; left; omega
        · obtain ⟨z, hz, rfl⟩ := List.mem_map.1 h
          right
          exact ⟨z * t + i, (fc_mem (by omega) G _).2 ⟨i, z, hi, hz, rfl⟩, by rw [Int.add_mul]; omega⟩
      · rintro (h | ⟨z, hz, rfl⟩)
        · refine ⟨x.toNat, 0, by omega, ?_, by omega⟩
          rw [hr _ (by omega)]; exact List.mem_cons_self
        · obtain ⟨i, y, hi, hy, rfl⟩ := (fc_mem (by omega) G z).1 hz
          refine ⟨i, y + 1, hi, ?_, by rw [Int.add_mul]; omega⟩
          rw [hr i hi]; exact List.mem_cons_of_mem _ (List.mem_map.2 ⟨y, hy, rfl⟩)
  unfold fcP
  rw [e, parts_shift]
theorem fc_mul {t : Nat} {p : List Int} {n : Nat} (hc : isCoreF p t = true) (hl : p.length ≤ n) {q : Nat → List Int} (G : ∀ i, i < t → Good (q i)) (hq : ∀ i, i < t → (q i).length ≤ ctN t p n i) :
    ∀ k, n + t * k ≤ 130 → fcP t p (n + t * k) q = fcP t p n q ∧ ∀ i, i < t → ctN t p (n + t * k) i = ctN t p n i + k
  | 0, _ => ⟨rfl, fun _ _ => rfl⟩
  | k + 1, h => by
    rw [Nat.mul_succ, ← Nat.add_assoc] at h ⊢
    obtain ⟨h1, h2⟩ := fc_mul hc hl G hq k (by omega)
    refine ⟨?_, fun i hi => by rw [ct_more hc (by omega) (by omega) i hi, h2 i hi]; omega⟩
    rw [fc_next hc (by omega) h G (fun i hi => by rw [h2 i hi]; have := hq i hi; omega), h1]
theorem ct_mul {t : Nat} {p : List Int} {n : Nat} (hc : isCoreF p t = true) (hl : p.length ≤ n) :
    ∀ k, n + t * k ≤ 900 → ∀ i, i < t → ctN t p (n + t * k) i = ctN t p n i + k
  | 0, _, _, _ => rfl
  | k + 1, h, i, hi => by
    rw [Nat.mul_succ, ← Nat.add_assoc] at h ⊢
    rw [ct_more hc (by omega) (by omega) i hi, ct_mul hc hl k (by omega) i hi]; omega
/-- Where all cells together are few, thirty beads are enough for each runner's partition. -/
theorem fc_enough {t : Nat} {p : List Int} {n : Nat} (hc : isCoreF p t = true) (hn : 30 ≤ n ∧ n ≤ 40) {q : Nat → List Int} (G : ∀ i, i < t → Good (q i)) (hs : p.sum + t * sumN (fun i => (q i).sum) t ≤ 30) (i : Nat) (hi : i < t) : (q i).length ≤ ctN t p n i := by
  have hcr : crB p t = true := by unfold isCoreF at hc; exact (Bool.and_eq_true _ _ ▸ hc).1
  have Gp := (good_iff p).1 (crB_good hcr).1
  have hin := inB_iff.1 (crB_good hcr).2
  have hl := Gp.len
  have h0 := sumN_nn t fun i hi => (G i hi).sum0
  have hlen15 : ∀ i, i < t → (q i).length ≤ 15 := fun i hi => by
    have h1 := h0.2 i hi
    have h2 := len_sum (q i) fun j hj => by have := (G i hi).pos j hj; omega
    have h3 : 2 * sumN (fun i => (q i).sum) t ≤ (t : Int) * sumN (fun i => (q i).sum) t := Int.mul_le_mul_of_nonneg_right (by omega) h0.1
    have := Gp.sum0
    omega
  have htk : t * 15 ≤ 90 := Nat.mul_le_mul_right 15 (show t ≤ 6 by omega)
  have hct := ct_mul hc (n := n) (by omega) 15 (by omega)
  obtain ⟨R, _, _, h4, h5⟩ := fc_facts hc (n := n + t * 15) (by omega) (by omega) G fun i hi => by rw [hct i hi]; have := hlen15 i hi; omega
  have hsm := fc_sum hc (n := n + t * 15) (by omega) (by omega) G fun i hi => by rw [hct i hi]; have := hlen15 i hi; omega
  obtain ⟨f1, f2, _, _⟩ := bpk_facts R (fcA t p (n + t * 15) q).length (Nat.le_refl _)
  have Gm : Good (fcP t p (n + t * 15) q) := good_of f1 f2 (by show (fcP t p (n + t * 15) q).sum ≤ 30; rw [hsm]; exact hs)
  have hb := beadsL_parts R
  rw [h4] at hb
  have hml := Gm.len
  have hall : ∀ y : Nat, y < 15 → (y : Int) ∈ fcR t p (n + t * 15) q i := fun y hy => by
    have hyt : t * y + i < t * 15 := by
      have := Nat.mul_le_mul_left t (show y + 1 ≤ 15 by omega)
      rw [Nat.mul_succ] at this; omega
    have hx : ((t * y + i : Nat) : Int) ∈ fcA t p (n + t * 15) q := by
      rw [← hb]
      refine mem_beads.2 ⟨t * y + i, by omega, ?_⟩
      unfold bead
      have : (fcP t p (n + t * 15) q).getD (n + t * 15 - 1 - (t * y + i)) 0 = 0 := getD_out (by omega)
      unfold fcP at this
      rw [this]; omega
    obtain ⟨i', y', hi', hy', e⟩ := (fc_mem (by omega) G _).1 hx
    have e2 : (y : Int) * t + i = y' * t + i' := by rw [← e, Int.mul_comm]; omega
    obtain ⟨e3, e4⟩ := lay_inj hi hi' e2
    rw [e3, e4]; exact hy'
  rcases Nat.lt_or_ge (ctN t p n i) (q i).length with h | h
  · exfalso
    have h15 := hlen15 i hi
    have hm := hall (ctN t p n i + 15 - (q i).length) (by omega)
    unfold fcR at hm
    rw [hct i hi] at hm
    obtain ⟨j, hj, e⟩ := mem_beads.1 hm
    unfold bead at e
    rcases Nat.lt_or_ge j (ctN t p n i + 15 - (q i).length) with h6 | h6
    · rw [getD_out (by omega)] at e; omega
    · have := (G i hi).pos (ctN t p n i + 15 - 1 - j) (by omega)
      omega
  · exact h
end Go.Proofs.Ythkkiakfmbnfeaa
/-
  Contracts: LiftBead of the program.
-/
namespace Go.Proofs.Ythkkiakfmbnfeaa
open Go.RowKit

def lfB (r : Int) (xs : List Int) (a : Int) : Bool := isAba r xs && (canGo xs a (a + r) && isAba r (insF (mvL a (a + r) xs)))
def lfR (r : Int) (xs : List Int) (a : Int) : Int := if lfB r xs a then r else 0
def lfF (r : Int) (xs : List Int) (a : Int) : List Int := if lfB r xs a then insF (mvL a (a + r) xs) else []
theorem lf_no {r : Int} {xs : List Int} {a : Int} (h : lfB r xs a = false) : lfR r xs a = 0 ∧ lfF r xs a = [] := by simp [lfR, lfF, h]
theorem lf_yes {r : Int} {xs : List Int} {a : Int} (h : lfB r xs a = true) : lfR r xs a = r ∧ lfF r xs a = insF (mvL a (a + r) xs) := by simp [lfR, lfF, h]

theorem bound_LiftBead (r : Int) (xs : List Int) (a : Int) : (lfF r xs a).length ≤ 1048576 := by
  cases h : lfB r xs a
  · rw [(lf_no h).2]; simp
  · rw [(lf_yes h).2]
    simp only [lfB, Bool.and_eq_true] at h
    have h2 := h.2.2
    simp only [isAba, Bool.and_eq_true] at h2
    have := (goodB_iff.1 h2.2).len; omega

end Go.Proofs.Ythkkiakfmbnfeaa
