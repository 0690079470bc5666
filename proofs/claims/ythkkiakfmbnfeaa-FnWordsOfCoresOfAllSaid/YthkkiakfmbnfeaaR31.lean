/-
  Several texts in one.
-/
import Derived.Test.YthkkiakfmbnfeaaR13
import Derived.Test.YthkkiakfmbnfeaaR30
import Derived.Test.YthkkiakfmbnfeaaR10
import Derived.Test.YthkkiakfmbnfeaaCA
import Derived.Test.YthkkiakfmbnfeaaR25
import Derived.Test.YthkkiakfmbnfeaaR16
import Derived.Test.YthkkiakfmbnfeaaR29
/-
  Contracts: CoreOf and WeightOf of the program and of the model.
-/
namespace Go.Proofs.Ythkkiakfmbnfeaa
open Go.RowKit

def coF (xs : List Int) (t : Int) : List Int := if crB xs t then coreL t.toNat xs else []
def coN (xs : List Int) (t : Int) : Int := if crB xs t then wgtN t.toNat xs else 0
theorem co_no {xs : List Int} {t : Int} (h : crB xs t = false) : coF xs t = [] ∧ coN xs t = 0 := by simp [coF, coN, h]
theorem co_yes {xs : List Int} {t : Nat} (h : crB xs t = true) : coF xs t = coreL t xs ∧ coN xs t = wgtN t xs := by simp [coF, coN, h]
theorem coreL_len {t : Nat} (ht : 0 < t) (p : List Int) : (coreL t p).length ≤ p.length := by
  unfold coreL
  have := partsL_len (dwL t (beadsL p p.length))
  rw [dwL_len ht, beadsL_len] at this; exact this
theorem bound_CoreOf (xs : List Int) (t : Int) : (coF xs t).length ≤ 1048576 := by
  unfold coF; split
  · rename_i h
    obtain ⟨hg, ht⟩ := crB_good h
    have := inB_iff.1 ht
    have := coreL_len (t := t.toNat) (by omega) xs
    have := ((good_iff xs).1 hg).len
    omega
  · simp
theorem aba_own {xs : List Int} {t : Int} : abaOk xs t xs.length = crB xs t := by
  unfold abaOk beadsOk crB
  cases hg : good xs
  · simp
  · have hl := ((good_iff xs).1 hg).len
    have : inB xs.length 40 xs.length = true := inB_iff.2 (by omega)
    rw [this]; cases inB 2 6 t <;> rfl

end Go.Proofs.Ythkkiakfmbnfeaa
/-
  A partition, its core and its quotient: each is made of the others. No walk in this text.
-/
namespace Go.Proofs.Ythkkiakfmbnfeaa
open Go.RowKit

theorem run_rise {p : List Int} (G : Good p) {t n : Nat} (ht : 0 < t) (hn : n ≤ 900) (i : Nat) : Rises 0 1000 (rnL t (beadsL p n) i) := by
  have R := beads_rise G hn
  have hp := rnL_pw ht (rise_pw R.up) i
  refine pw_rises hp fun x hx => ?_
  unfold rnL at hx
  obtain ⟨y, hy, rfl⟩ := List.mem_map.1 hx
  obtain ⟨j, hj, e⟩ := mem_getD.1 (List.mem_filter.1 hy).1
  have hb := R.bd j hj
  rw [e] at hb
  have h3 : 0 ≤ y / (t : Int) := Int.ediv_nonneg hb.1 (by omega)
  have h4 : y / (t : Int) ≤ y := Int.ediv_le_self _ hb.1
  omega
/-- The core's beads: each runner's beads pushed down. -/
theorem core_beads {p : List Int} (G : Good p) {t N : Nat} (ht : 0 < t) (hn : p.length ≤ N) (hN : N ≤ 900) : beadsL (coreL t p) N = dwL t (beadsL p N) := by
  have hl : (dwL t (beadsL p N)).length = N := by rw [dwL_len ht, beadsL_len]
  have R : Rises 0 1000 (dwL t (beadsL p N)) := pw_rises (dwL_pw _ _) fun x hx => by
    obtain ⟨h0, h1⟩ := (mem_dwL ht).1 hx
    refine ⟨h0, ?_⟩
    have hq0 : 0 ≤ x / (t : Int) := Int.ediv_nonneg h0 (by omega)
    have h2 := run_rise G ht hN (x % (t : Int)).toNat
    have h3 := rise_ge h2 ((rnL t (beadsL p N) (x % (t : Int)).toNat).length - 1) (by omega)
    have h4 : (rnL t (beadsL p N) (x % (t : Int)).toNat).getD ((rnL t (beadsL p N) (x % (t : Int)).toNat).length - 1) 0 ∈ rnL t (beadsL p N) (x % (t : Int)).toNat := mem_getD.2 ⟨_, by omega, rfl⟩
    have g4 := Int.emod_nonneg x (show (t : Int) ≠ 0 by omega)
    have g5 := Int.emod_lt_of_pos x (show 0 < (t : Int) by omega)
    obtain ⟨y, hy⟩ : ∃ y, y = (rnL t (beadsL p N) (x % (t : Int)).toNat).getD ((rnL t (beadsL p N) (x % (t : Int)).toNat).length - 1) 0 := ⟨_, rfl⟩
    have hxy : x / (t : Int) ≤ y := by rw [← hy] at h3; omega
    clear h1
    rw [← hy] at h4
    rw [mem_rn (by omega)] at h4
    obtain ⟨j, hj, e⟩ := mem_getD.1 h4
    have h5 := ((beads_rise G hN).bd j hj).2
    rw [e] at h5
    have h6 := Int.mul_ediv_add_emod x t
    have h7 : (x / (t : Int)) * t ≤ y * t := Int.mul_le_mul_of_nonneg_right hxy (by omega)
    rw [Int.mul_comm] at h6
    omega
  have h := beadsL_parts R
  rw [hl, (core_at ht hn).1] at h
  exact h
theorem core_cut {p : List Int} (t : Nat) (ht : 0 < t) : (coreL t p).length ≤ p.length := by
  unfold coreL
  have := partsL_len (dwL t (beadsL p p.length))
  rw [dwL_len ht, beadsL_len] at this
  exact this
theorem core_is {p : List Int} {t : Nat} (h : crB p t = true) (hg : Good (coreL t p)) : isCoreF (coreL t p) t = true := by
  obtain ⟨h1, h2⟩ := crB_good h
  have G := (good_iff p).1 h1
  have ht := inB_iff.1 h2
  have hl := core_cut (p := p) t (by omega)
  have hlen := G.len
  have hD := core_beads G (t := t) (N := 60) (by omega) (by omega) (by omega)
  refine Dn_core (by unfold crB; rw [(good_iff _).2 hg, h2]; rfl) fun r => ?_
  by_cases hr : r < 60
  · have hx : num (coreL t p) r + (60 : Nat) ∈ beadsL (coreL t p) 60 := mem_beadsL.2 ⟨r, hr, by omega⟩
    obtain ⟨x, hxx⟩ : ∃ x, x = num (coreL t p) r + (60 : Nat) := ⟨_, rfl⟩
    rw [← hxx] at hx
    by_cases h0 : 0 ≤ x - t
    · rw [hD] at hx
      have h3 : x - t ∈ dwL t (beadsL p 60) := by
        rw [mem_dwL (by omega)] at hx ⊢
        have e1 : (x - t) / (t : Int) = x / (t : Int) - 1 := by
          rw [show x - (t : Int) = x + (-1) * (t : Int) by omega, Int.add_mul_ediv_right _ _ (by omega)]; omega
        have e2 : (x - t) % (t : Int) = x % (t : Int) := by
          rw [show x - (t : Int) = x + (-1) * (t : Int) by omega, Int.add_mul_emod_self_right]
        rw [e1, e2]
        exact ⟨h0, by omega⟩
      rw [← hD] at h3
      obtain ⟨s, _, hs⟩ := mem_beadsL.1 h3
      exact ⟨s, by omega⟩
    · exact ⟨(59 + t - x).toNat, by rw [num_out (by omega)]; omega⟩
  · exact ⟨r + t, by rw [num_out (by omega), num_out (by omega)]; omega⟩
theorem run_next {p : List Int} {t n : Nat} (ht : 0 < t) (G : Good p) (hl : p.length ≤ n) (hn : n + t ≤ 900) (i : Nat) (hi : i < t) : rnL t (beadsL p (n + t)) i = shL (rnL t (beadsL p n) i) := by
  have R1 := run_rise G ht (show n ≤ 900 by omega) i
  have R2 := run_rise G ht hn i
  refine pw_ext (rise_pw R2.up) ?_ fun y => ?_
  · unfold shL
    rw [List.pairwise_cons]
    refine ⟨fun z hz => ?_, ?_⟩
    · obtain ⟨u, hu, rfl⟩ := List.mem_map.1 hz
      obtain ⟨j, hj, e⟩ := mem_getD.1 hu
      have := (R1.bd j hj).1
      omega
    · rw [List.pairwise_map]
      exact (rise_pw R1.up).imp fun h => by omega
  · rw [mem_rn hi, mem_more hl]
    unfold shL
    rw [List.mem_cons, List.mem_map]
    have e2 : (y * t + i - t : Int) = (y - 1) * t + i := by rw [Int.sub_mul]; omega
    rw [e2, ← mem_rn hi]
    constructor
    · rintro (⟨h1, h2⟩ | h)
      · left
        rcases Int.lt_or_le 0 y with h3 | h3
        · have := Int.mul_le_mul_of_nonneg_right (show (1 : Int) ≤ y by omega) (show (0 : Int) ≤ t by omega); omega
        · rcases Int.lt_or_le y 0 with h4 | h4
          · have := Int.mul_le_mul_of_nonneg_right (show y ≤ -1 by omega) (show (0 : Int) ≤ t by omega); omega
          · omega
      · right; exact ⟨y - 1, h, by omega⟩
    · rintro (h | ⟨u, hu, rfl⟩)
      · left; subst h; omega
      · right; rw [show u + 1 - 1 = u by omega]; exact hu
theorem run_mul {p : List Int} {t n : Nat} (ht : 0 < t) (G : Good p) (hl : p.length ≤ n) (i : Nat) (hi : i < t) : ∀ k, n + t * k ≤ 900 → partsL (rnL t (beadsL p (n + t * k)) i) = partsL (rnL t (beadsL p n) i)
  | 0, _ => rfl
  | k + 1, h => by
    rw [Nat.mul_succ, ← Nat.add_assoc] at h ⊢
    rw [run_next ht G (by omega) h i hi, parts_sh, run_mul ht G hl i hi k (by omega)]
theorem core_ct {p : List Int} (G : Good p) {t N : Nat} (ht : 0 < t) (hn : p.length ≤ N) (hN : N ≤ 900) : ∀ i, i < t → ctN t (coreL t p) N i = (rnL t (beadsL p N) i).length := fun i hi => by
    unfold ctN
    rw [core_beads G ht hn hN]
    have e : rnL t (dwL t (beadsL p N)) i = upTo (rnL t (beadsL p N) i).length := by
      refine pw_ext (rnL_pw ht (dwL_pw _ _) i) (upTo_pw _) fun y => ?_
      rw [mem_rn hi, mem_dwL ht, mem_upTo]
      have h := lay_div (t := t) (y := y) hi
      rw [h.1, h.2, Int.toNat_natCast]
      constructor
      · rintro ⟨h1, h2⟩
        refine ⟨?_, h2⟩
        rcases Int.lt_or_le y 0 with h4 | h4
        · have := Int.mul_le_mul_of_nonneg_right (show y ≤ -1 by omega) (show (0 : Int) ≤ t by omega); omega
        · exact h4
      · rintro ⟨h1, h2⟩
        have := Int.mul_nonneg h1 (show (0 : Int) ≤ t by omega)
        exact ⟨by omega, h2⟩
    rw [e, upTo_len]
/-- The core and the quotient make the partition. -/
theorem qf_back {p : List Int} (G : Good p) {t N : Nat} (ht : 0 < t) (hn : p.length ≤ N) (hN : N ≤ 900) (hq : ∀ i, i < t → Good (partsL (rnL t (beadsL p N) i))) :
    fcP t (coreL t p) N (fun i => partsL (rnL t (beadsL p N) i)) = p := by
  have hct := core_ct G ht hn hN
  have hr : ∀ i, i < t → fcR t (coreL t p) N (fun i => partsL (rnL t (beadsL p N) i)) i = rnL t (beadsL p N) i := fun i hi => by
    unfold fcR
    rw [hct i hi]
    exact beadsL_parts (run_rise G ht hN i)
  have e : fcA t (coreL t p) N (fun i => partsL (rnL t (beadsL p N) i)) = beadsL p N := by
    refine pw_ext (insF_all (fc_nodup hN hq)).1 (rise_pw (beads_rise G hN).up) fun x => ?_
    rw [fc_mem hN hq]
    constructor
    · rintro ⟨i, y, hi, hy, rfl⟩
      rw [hr i hi] at hy
      exact (mem_rn hi _ _).1 hy
    · intro hx
      have g4 := Int.emod_nonneg x (show (t : Int) ≠ 0 by omega)
      have g5 := Int.emod_lt_of_pos x (show 0 < (t : Int) by omega)
      have h6 := Int.mul_ediv_add_emod x t
      rw [Int.mul_comm] at h6
      refine ⟨(x % (t : Int)).toNat, x / (t : Int), by omega, ?_, by omega⟩
      rw [hr _ (by omega), mem_rn (by omega)]
      rw [show x / (t : Int) * t + ((x % (t : Int)).toNat : Int) = x by omega]
      exact hx
  unfold fcP
  rw [e, partsL_beads G hn]
theorem split_at {t : Nat} (ht : 0 < t) (x : Int) : (x % (t : Int)).toNat < t ∧ x / (t : Int) * t + ((x % (t : Int)).toNat : Int) = x := by
  have g4 := Int.emod_nonneg x (show (t : Int) ≠ 0 by omega)
  have g5 := Int.emod_lt_of_pos x (show 0 < (t : Int) by omega)
  have h6 := Int.mul_ediv_add_emod x t
  rw [Int.mul_comm] at h6
  omega
theorem dw_same {t : Nat} (ht : 0 < t) {X Y : List Int} (h : ∀ i, i < t → (rnL t X i).length = (rnL t Y i).length) : dwL t X = dwL t Y :=
  pw_ext (dwL_pw _ _) (dwL_pw _ _) fun x => by rw [mem_dwL ht, mem_dwL ht, h _ (split_at ht x).1]
/-- A core is its own core. -/
theorem core_self {c : List Int} {t : Nat} (hc : isCoreF c t = true) {N : Nat} (hl : c.length ≤ N) (hN : N ≤ 900) : dwL t (beadsL c N) = beadsL c N ∧ coreL t c = c := by
  have hcr : crB c t = true := by unfold isCoreF at hc; exact (Bool.and_eq_true _ _ ▸ hc).1
  have G := (good_iff c).1 (crB_good hcr).1
  have hin := inB_iff.1 (crB_good hcr).2
  have ht : 0 < t := by omega
  have e : dwL t (beadsL c N) = beadsL c N := by
    refine pw_ext (dwL_pw _ _) (rise_pw (beads_rise G hN).up) fun x => ?_
    obtain ⟨h1, h2⟩ := split_at ht x
    have h3 := mem_rn h1 (beadsL c N) (x / (t : Int))
    rw [h2, core_run hc hl hN _ h1, mem_upTo] at h3
    rw [mem_dwL ht, ← h3]
    have h4 : (rnL t (beadsL c N) (x % (t : Int)).toNat).length = ctN t c N (x % (t : Int)).toNat := rfl
    rw [h4]
    constructor
    · rintro ⟨a, b⟩; exact ⟨Int.ediv_nonneg a (by omega), b⟩
    · rintro ⟨a, b⟩
      have := Int.mul_nonneg a (show (0 : Int) ≤ t by omega)
      exact ⟨by omega, b⟩
  exact ⟨e, by rw [← (core_at ht hl).1, e, partsL_beads G hl]⟩
/-- The beads, the runners and the core of the partition that a core and a quotient make. -/
theorem qf_made {c : List Int} {t N : Nat} (hc : isCoreF c t = true) (hl : c.length ≤ N) (hN : N ≤ 130) {q : Nat → List Int} (G : ∀ i, i < t → Good (q i)) (hq : ∀ i, i < t → (q i).length ≤ ctN t c N i) (hp : (fcP t c N q).length ≤ N) :
    beadsL (fcP t c N q) N = fcA t c N q ∧ (∀ i, i < t → partsL (rnL t (beadsL (fcP t c N q) N) i) = q i) ∧ coreL t (fcP t c N q) = c := by
  have hcr : crB c t = true := by unfold isCoreF at hc; exact (Bool.and_eq_true _ _ ▸ hc).1
  have hin := inB_iff.1 (crB_good hcr).2
  have ht : 0 < t := by omega
  obtain ⟨R, h1, h2, h3, _⟩ := fc_facts hc hl hN G hq
  have e : beadsL (fcP t c N q) N = fcA t c N q := by
    have := beadsL_parts R
    rw [h3] at this; exact this
  have hr : ∀ i, i < t → rnL t (fcA t c N q) i = fcR t c N q i := fun i hi => by
    refine pw_ext (rnL_pw ht h1 i) (rise_pw (beads_rise (G i hi) (by have := ct_le t c N i; omega)).up) fun y => ?_
    rw [mem_rn hi, fc_mem (by omega) G]
    constructor
    · rintro ⟨j, z, hj, hz, ee⟩
      have a := lay_div (t := t) (y := y) hi
      have b := lay_div (t := t) (y := z) hj
      rw [← ee] at b
      have e1 : y = z := by rw [← a.1, b.1]
      have e2 : (i : Int) = j := by rw [← a.2, b.2]
      have e3 : i = j := by omega
      subst e1 e3
      exact hz
    · intro hy; exact ⟨i, y, hi, hy, rfl⟩
  refine ⟨e, fun i hi => ?_, ?_⟩
  · rw [e, hr i hi]; exact partsL_beads (G i hi) (hq i hi)
  · rw [← (core_at ht hp).1, e, dw_same (Y := beadsL c N) ht fun i hi => by rw [hr i hi]; unfold fcR; rw [beadsL_len]; rfl, (core_self hc hl (by omega)).1, partsL_beads ((good_iff c).1 (crB_good hcr).1) hl]
theorem abfL_same {t : Nat} {R S : Nat → List Int} : ∀ n, (∀ i, i < n → R i = S i) → abfL t R n = abfL t S n
  | 0, _ => rfl
  | n + 1, h => by rw [abfL, abfL, abfL_same n fun i hi => h i (by omega), h n (by omega)]
theorem fcP_same {t : Nat} {c : List Int} {N : Nat} {q q2 : Nat → List Int} (h : ∀ i, i < t → q i = q2 i) : fcP t c N q = fcP t c N q2 := by
  unfold fcP fcA
  rw [abfL_same (S := fcR t c N q2) t fun i hi => by unfold fcR; rw [h i hi]]
theorem mulN_step {t : Nat} (ht : 0 < t) {a b : Nat} (h : a ≤ b) : ∃ k, mulN t b = mulN t a + t * k := by
  unfold mulN
  have h1 : (a + t - 1) / t ≤ (b + t - 1) / t := Nat.div_le_div_right (by omega)
  refine ⟨(b + t - 1) / t - (a + t - 1) / t, ?_⟩
  rw [Nat.mul_comm t, Nat.sub_mul]
  have := Nat.mul_le_mul_right t h1
  omega
/-- The quotient, with as many beads as the program takes to make the partition anew. -/
theorem quo_at {p : List Int} {t : Nat} (h : crB p t = true) (i : Nat) (hi : i < t) : (quoF p t).getD i [] = partsL (rnL t (beadsL p (mulN t 30)) i) := by
  have G := (good_iff p).1 (crB_good h).1
  have hin := inB_iff.1 (crB_good h).2
  have hl := G.len
  obtain ⟨k, hk⟩ := mulN_step (t := t) (by omega) (show p.length ≤ 30 by omega)
  have hb := mulN_bd (t := t) (n := 30) (by omega)
  have hb2 := mulN_bd (t := t) (n := p.length) (by omega)
  rw [quoF_t h, evF_t h, hk, run_mul (by omega) G hb2.1 i hi k (by omega)]
  simp [List.getD, hi, quoR]
theorem quo_len {p : List Int} {t : Nat} (h : crB p t = true) : (quoF p t).length = t := by rw [quoF_t h]; simp
theorem qf_one {p : List Int} {t : Nat} (h : crB p t = true) : fcOk (coF p t) (quoF p t) = true ∧ fcF (coF p t) (quoF p t) = p := by
  have G := (good_iff p).1 (crB_good h).1
  have hin := inB_iff.1 (crB_good h).2
  have hl := G.len
  have hb := mulN_bd (t := t) (n := 30) (by omega)
  obtain ⟨f1, f2, f3⟩ := run_facts G (t := t) (n := mulN t 30) (by omega) (by omega) (by omega)
  have hq : ∀ i, i < t → Good (partsL (rnL t (beadsL p (mulN t 30)) i)) := fun i hi => (f1 i hi).parts
  have hback := qf_back G (t := t) (N := mulN t 30) (by omega) (by omega) (by omega) hq
  have hct := core_ct G (t := t) (N := mulN t 30) (by omega) (by omega) (by omega)
  have hc : coF p t = coreL t p := (co_yes h).1
  have hgc : Good (coreL t p) := (goodB_iff.1 (dw_good (by omega) (goodB_iff.1 (beadsL_goodB G (Nat.le_refl _) (by omega))))).parts
  have hcore := core_is h hgc
  have hsum := fc_sum hcore (n := mulN t 30) (by have := core_cut (p := p) t (by omega); omega) (by omega) hq fun i hi => by
    rw [hct i hi]; exact partsL_len _
  rw [hback] at hsum
  have hp : fcP t (coreL t p) (mulN t 30) (rowsR (quoF p t)) = p := (fcP_same fun i hi => quo_at h i hi).trans hback
  have hok : fcOk (coF p t) (quoF p t) = true := by
    unfold fcOk
    rw [hc, quo_len h, hcore, Bool.true_and, Bool.and_eq_true]
    refine ⟨?_, ?_⟩
    · rw [List.all_eq_true]
      intro r hr
      obtain ⟨i, hi, e⟩ := List.mem_iff_getElem.1 hr
      rw [quo_len h] at hi
      have e2 := quo_at h i hi
      rw [List.getD_eq_getElem?_getD, List.getElem?_eq_getElem (by rw [quo_len h]; exact hi), Option.getD_some, e] at e2
      rw [e2]
      exact (good_iff _).2 (hq i hi)
    · rw [decide_eq_true_eq, sumN_congr (f := fun i => (rowsR (quoF p t) i).sum) (g := fun i => (partsL (rnL t (beadsL p (mulN t 30)) i)).sum) t fun i hi => congrArg List.sum (quo_at h i hi), ← hsum]
      exact G.sum
  refine ⟨hok, ?_⟩
  unfold fcF
  rw [if_pos hok, quo_len h, hc, hp]
/-- The weight is the size of the quotient. -/
theorem qf_weight {p : List Int} {t : Nat} (h : crB p t = true) : coN p t = sumN (fun i => ((quoF p t).getD i []).sum) t := by
  have G := (good_iff p).1 (crB_good h).1
  have hin := inB_iff.1 (crB_good h).2
  have hl := G.len
  have hb := mulN_bd (t := t) (n := 30) (by omega)
  rw [(co_yes h).2, ← (core_at (t := t) (n := mulN t 30) (by omega) (show p.length ≤ mulN t 30 by omega)).2]
  refine sumN_congr t fun i hi => ?_
  rw [quo_at h i hi, beads_sum (run_rise G (by omega) (by omega) i)]
theorem qf_two {c : List Int} {rows : List (List Int)} (h : fcOk c rows = true) :
    crB (fcF c rows) rows.length = true ∧ quoF (fcF c rows) rows.length = rows ∧ coF (fcF c rows) rows.length = c := by
  have hF : fcF c rows = fcP rows.length c (mulN rows.length 30) (rowsR rows) := by unfold fcF; rw [if_pos h]
  have h2 := h
  unfold fcOk at h2
  rw [Bool.and_eq_true, Bool.and_eq_true, List.all_eq_true, decide_eq_true_eq] at h2
  obtain ⟨hc, hall, hs⟩ := h2
  have hcr : crB c rows.length = true := by unfold isCoreF at hc; exact (Bool.and_eq_true _ _ ▸ hc).1
  have Gc := (good_iff c).1 (crB_good hcr).1
  have hin := inB_iff.1 (crB_good hcr).2
  have hl := Gc.len
  obtain ⟨t, ht⟩ : ∃ t, t = rows.length := ⟨_, rfl⟩
  have G : ∀ i, i < t → Good (rowsR rows i) := fun i hi => by
    have := hall ((rowsR rows) i) (by
      unfold rowsR
      rw [List.getD_eq_getElem?_getD, List.getElem?_eq_getElem (by omega)]; exact List.getElem_mem _)
    exact (good_iff _).1 this
  rw [← ht] at hF hc hs hcr hin ⊢
  have hb := mulN_bd (t := t) (n := 30) (by omega)
  have hq := fc_enough hc (n := mulN t 30) (by omega) G hs
  obtain ⟨R, _, _, e4, _⟩ := fc_facts hc (n := mulN t 30) (by omega) (by omega) G hq
  have hsum := fc_sum hc (n := mulN t 30) (by omega) (by omega) G hq
  obtain ⟨b1, b2, _, _⟩ := bpk_facts R (fcA t c (mulN t 30) (rowsR rows)).length (Nat.le_refl _)
  have Gp : Good (fcP t c (mulN t 30) (rowsR rows)) := good_of b1 b2 (by show (fcP t c (mulN t 30) (rowsR rows)).sum ≤ 30; rw [hsum]; exact hs)
  have hpl := Gp.len
  obtain ⟨k1, k2, k3⟩ := qf_made hc (N := mulN t 30) (by omega) (by omega) G hq (by omega)
  have hcp : crB (fcP t c (mulN t 30) (rowsR rows)) t = true := by
    unfold crB
    rw [(good_iff _).2 Gp, (crB_good hcr).2]; rfl
  rw [hF]
  refine ⟨hcp, ?_, ?_⟩
  · apply List.ext_getElem
    · rw [quo_len hcp, ht]
    · intro i h1 h3
      have hi : i < t := by rw [quo_len hcp] at h1; exact h1
      have e := quo_at hcp i hi
      rw [k2 i hi, List.getD_eq_getElem?_getD, List.getElem?_eq_getElem h1, Option.getD_some] at e
      rw [e]
      unfold rowsR
      rw [List.getD_eq_getElem?_getD, List.getElem?_eq_getElem h3, Option.getD_some]
  · rw [(co_yes hcp).1, k3]
end Go.Proofs.Ythkkiakfmbnfeaa
