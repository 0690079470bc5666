/-
  Several texts in one.
-/
import Derived.Test.YtiebnnchaopbkaaCF
import Derived.Test.YtiebnnchaopbkaaR10
import Derived.Test.YtiebnnchaopbkaaCA
import Derived.Test.YtiebnnchaopbkaaCE
import Derived.Test.YtiebnnchaopbkaaCB
import Derived.Test.YtiebnnchaopbkaaR12
import Derived.Test.YtiebnnchaopbkaaR16
/-
  Contracts: RunnersOf of the program and of the model.
-/
namespace Go.Proofs.Ytiebnnchaopbkaa
open Go.RowKit

theorem roF_f {r : Int} {xs : List Int} (h : isAba r xs = false) : roF r xs = [] := by simp [roF, h]
theorem roF_t {t : Nat} {xs : List Int} (h : isAba t xs = true) : roF t xs = rnS t xs := by simp [roF, h]

theorem Gr.base {w : World} {B B' g t : Nat} {rows : List (List Int)} {P : Nat → Option Addr} {C : Nat → Nat} (h : Gr w B g t rows P C) (hB : B' ≤ B) : Gr w B' g t rows P C := by
  refine ⟨h.len, ?_, fun j hj => (h.row j hj).more hB, h.apart⟩
  refine ⟨h.out.1, ?_⟩
  rcases h.out.2 with hn | ⟨g', cap, cur, hv, hb, rest⟩
  · exact .inl hn
  · exact .inr ⟨g', cap, cur, hv, Nat.le_trans hB hb, rest⟩

end Go.Proofs.Ytiebnnchaopbkaa
/-
  Contracts: QuotientOf of the program and of the model.
-/
namespace Go.Proofs.Ytiebnnchaopbkaa
open Go.RowKit

def quoR (t : Nat) (xs : List Int) (i : Nat) : List Int := partsL (rnL t xs i)
def quoF (xs : List Int) (t : Int) : List (List Int) := if crB xs t then (List.range t.toNat).map (quoR t.toNat (evF xs t)) else []
theorem quoF_f {xs : List Int} {t : Int} (h : crB xs t = false) : quoF xs t = [] := by simp [quoF, h]
theorem quoF_t {xs : List Int} {t : Nat} (h : crB xs t = true) : quoF xs t = (List.range t).map (quoR t (evF xs t)) := by simp [quoF, h]
theorem evF_t {xs : List Int} {t : Nat} (h : crB xs t = true) : evF xs t = beadsL xs (mulN t xs.length) := by simp [evF, h, evN]
def midQ (f g : Nat → List Int) (t k : Nat) : List (List Int) := (List.range t).map fun j => if j < k then f j else g j
theorem midQ_len (f g : Nat → List Int) (t k : Nat) : (midQ f g t k).length = t := by simp [midQ]
theorem midQ_zero (f g : Nat → List Int) (t : Nat) : midQ f g t 0 = (List.range t).map g := by simp [midQ]
theorem midQ_get (f g : Nat → List Int) (t k : Nat) (h : k < t) : (midQ f g t k).getD k [] = g k := by simp [midQ, List.getD, h]
theorem midQ_set (f g : Nat → List Int) (t k : Nat) : (midQ f g t k).set k (f k) = midQ f g t (k + 1) := by
  apply List.ext_getElem
  · simp [midQ]
  · intro j h1 h2
    rw [List.getElem_set]
    simp only [midQ, List.getElem_map, List.getElem_range]
    by_cases e : k = j
    · subst e; simp
    · rw [if_neg e]
      by_cases h3 : j < k
      · rw [if_pos h3, if_pos (by omega)]
      · rw [if_neg h3, if_neg (by omega)]
theorem midQ_all (f g : Nat → List Int) (t : Nat) : midQ f g t t = (List.range t).map f := by
  unfold midQ
  exact List.map_congr_left fun j hj => by rw [if_pos (List.mem_range.1 hj)]

theorem rnL_bd {t : Nat} {xs : List Int} (ht : 2 ≤ t ∧ t ≤ 6) (G : GoodB xs) (i : Nat) (j : Nat) (hj : j < (rnL t xs i).length) : 0 ≤ (rnL t xs i).getD j 0 ∧ (rnL t xs i).getD j 0 ≤ 1000 := by
  have hm : (rnL t xs i).getD j 0 ∈ rnL t xs i := mem_getD.2 ⟨j, hj, rfl⟩
  obtain ⟨x, hx⟩ : ∃ x, x = (rnL t xs i).getD j 0 := ⟨_, rfl⟩
  rw [← hx] at hm ⊢
  unfold rnL at hm
  obtain ⟨y, hy, rfl⟩ := List.mem_map.1 hm
  obtain ⟨k, hk, e⟩ := mem_getD.1 (List.mem_filter.1 hy).1
  have hb := G.top hk
  rw [e] at hb
  have h1 := Int.mul_ediv_add_emod y t
  have h2 := Int.emod_nonneg y (show (t : Int) ≠ 0 by omega)
  have h3 : 0 ≤ y / (t : Int) := Int.ediv_nonneg hb.1 (by omega)
  have h4 : y / (t : Int) ≤ y := Int.ediv_le_self _ hb.1
  omega
theorem rnL_len40 {t : Nat} {xs : List Int} (G : GoodB xs) (i : Nat) : (rnL t xs i).length ≤ 1000 := by
  have := rnL_len t xs i; have := G.len; omega

theorem bound_QuotientOf (xs : List Int) (t : Int) : (quoF xs t).length ≤ 1048576 ∧ tot (quoF xs t) ≤ 1048576 := by
  unfold quoF; split
  · rename_i h
    obtain ⟨hg, ht⟩ := crB_good h
    have hin := inB_iff.1 ht
    have hb := ev_bd (xs := xs) ht
    have G := ((good_iff xs).1 hg).len
    have he : (evF xs t).length ≤ 40 := by unfold evF; rw [if_pos h, beadsL_len]; omega
    refine ⟨by simp; omega, ?_⟩
    have key : ∀ (l : List Nat), tot (l.map (quoR t.toNat (evF xs t))) ≤ l.length * 40 := by
      intro l
      induction l with
      | nil => simp [tot]
      | cons a q ih =>
        have h1 : (quoR t.toNat (evF xs t) a).length ≤ 40 := by
          have := partsL_len (rnL t.toNat (evF xs t) a)
          have := rnL_len t.toNat (evF xs t) a
          unfold quoR; omega
        simp only [List.map_cons, tot, List.length_cons]; omega
    have := key (List.range t.toNat)
    rw [List.length_range] at this; omega
  · simp [tot]
end Go.Proofs.Ytiebnnchaopbkaa
/-
  Plain facts: runs by the formula of all hooks are runs of the runners' partitions in any order. No program in this text.
-/
namespace Go.Proofs.Ytiebnnchaopbkaa

theorem sumN_nn {f : Nat → Int} : ∀ n, (∀ i, i < n → 0 ≤ f i) → 0 ≤ sumN f n ∧ ∀ i, i < n → f i ≤ sumN f n
  | 0, _ => ⟨Int.le_refl _, fun i hi => absurd hi (Nat.not_lt_zero _)⟩
  | n + 1, h => by
    obtain ⟨h1, h2⟩ := sumN_nn n fun i hi => h i (by omega)
    have h3 := h n (by omega)
    refine ⟨by rw [sumN]; omega, fun i hi => ?_⟩
    rw [sumN]
    by_cases e : i = n
    · subst e; omega
    · have := h2 i (by omega); omega
theorem run_facts {p : List Int} (G : Good p) {t n : Nat} (ht : 2 ≤ t ∧ t ≤ 6) (hn : p.length ≤ n) (hn40 : n ≤ 40) :
    (∀ i, i < t → GoodB (rnL t (beadsL p n) i)) ∧ (∀ i, i < t → 0 ≤ (partsL (rnL t (beadsL p n) i)).sum) ∧ (t : Int) * sumN (fun i => (partsL (rnL t (beadsL p n) i)).sum) t ≤ 30 := by
  have GB := goodB_iff.1 (beadsL_goodB G hn hn40)
  have hpw := rise_pw GB.rise.up
  have hmem : ∀ x ∈ beadsL p n, 0 ≤ x ∧ x ≤ 1000 := fun x hx => by obtain ⟨j, hj, rfl⟩ := mem_getD.1 hx; exact GB.rise.bd j hj
  have hR : ∀ i, i < t → Rises 0 1000 (rnL t (beadsL p n) i) := fun i _ => by
    refine pw_rises (rnL_pw (by omega) hpw i) fun y hy => ?_
    have h1 := rnL_pos (by omega) (fun x hx => (hmem x hx).1) i y hy
    refine ⟨h1, ?_⟩
    unfold rnL at hy
    obtain ⟨x, hx, rfl⟩ := List.mem_map.1 hy
    have h2 := hmem x (List.mem_filter.1 hx).1
    have := Int.ediv_le_self (t : Int) h2.1
    omega
  have hs : ∀ i, i < t → 0 ≤ (partsL (rnL t (beadsL p n) i)).sum := fun i hi => by
    rw [beads_sum (hR i hi)]
    have := tri_le (rnL t (beadsL p n) i) 0 (rnL_pw (by omega) hpw i) (rnL_pos (by omega) (fun x hx => (hmem x hx).1) i)
    rw [Int.zero_mul, Int.zero_add] at this
    omega
  have hd := dwL_sum (t := t) (by omega) (beadsL p n)
  have h3 := tri_le _ 0 (dwL_pw t (beadsL p n)) (fun x hx => ((mem_dwL (by omega)).1 hx).1)
  rw [dwL_len (by omega), Int.zero_mul, Int.zero_add] at h3
  have h4 := beads_sum GB.rise
  rw [partsL_beads G hn] at h4
  have h5 : dwM t (beadsL p n) = sumN (fun i => (partsL (rnL t (beadsL p n) i)).sum) t := sumN_congr t fun i hi => (beads_sum (hR i hi)).symm
  rw [h5] at hd
  have hps := G.sum
  have hall : (t : Int) * sumN (fun i => (partsL (rnL t (beadsL p n) i)).sum) t ≤ 30 := by omega
  have hle := (sumN_nn t hs)
  refine ⟨fun i hi => ?_, hs, hall⟩
  refine goodB_iff.1 (goodB_of ?_ (hR i hi) ?_)
  · have := rnL_len t (beadsL p n) i
    rw [beadsL_len] at this; omega
  · have h6 := hle.2 i hi
    have h7 : sumN (fun i => (partsL (rnL t (beadsL p n) i)).sum) t ≤ (t : Int) * sumN (fun i => (partsL (rnL t (beadsL p n) i)).sum) t := by
      have := Int.mul_le_mul_of_nonneg_right (show (1 : Int) ≤ t by omega) hle.1; omega
    rw [beads_sum (hR i hi)] at h6
    omega

def pdN (L : List Nat) : Nat := L.foldr (· * ·) 1
theorem pdN_append (a b : List Nat) : pdN (a ++ b) = pdN a * pdN b := by
  induction a with
  | nil => simp [pdN]
  | cons x a ih => simp only [pdN, List.cons_append, List.foldr_cons] at ih ⊢; rw [ih, Nat.mul_assoc]
theorem pdN_perm {a b : List Nat} (h : a.Perm b) : pdN a = pdN b := by
  induction h with
  | nil => rfl
  | cons x _ ih => simp only [pdN, List.foldr_cons] at ih ⊢; rw [ih]
  | swap x y l => simp only [pdN, List.foldr_cons]; rw [← Nat.mul_assoc, ← Nat.mul_assoc, Nat.mul_comm y x]
  | trans _ _ h1 h2 => rw [h1, h2]
theorem prN_pd (L : List Int) : ∀ k, k ≤ L.length → prN L k = pdN ((L.take k).map Int.toNat)
  | 0, _ => rfl
  | k + 1, h => by
    have e : L.getD k 0 = L[k] := by rw [List.getD_eq_getElem?_getD, List.getElem?_eq_getElem (by omega)]; rfl
    rw [prN, prN_pd L k (by omega), List.take_succ_eq_append_getElem (by omega), List.map_append, pdN_append, e]
    simp [pdN]
theorem prN_all (L : List Int) : prN L L.length = pdN (L.map Int.toNat) := by rw [prN_pd L _ (Nat.le_refl _), List.take_of_length_le (Nat.le_refl _)]
/-- Chains times the product of the hooks are the factorial. -/
theorem ch_fac {q : List Int} (G : Good q) (hs : q.sum ≤ 15) : chN q * pdN ((hkL q).map Int.toNat) = facN q.sum.toNat ∧ (hkL q).length = q.sum.toNat := by
  have hl := hkL_len G
  have h0 := G.sum0
  obtain ⟨r, hr, e⟩ := good_pa G
  have h := div_chk q.sum.toNat (by omega)
  unfold chkD at h
  rw [List.all_eq_true] at h
  have h1 := h r (List.mem_range.2 hr)
  rw [← e] at h1
  have h2 : facN q.sum.toNat % prN (hkL q) (hkL q).length = 0 := by simpa using h1
  have hlen : (hkL q).length = q.sum.toNat := by omega
  refine ⟨?_, hlen⟩
  rw [← prN_all]
  unfold chN wyN
  rw [hlen] at h2 ⊢
  exact Nat.div_mul_cancel (Nat.dvd_of_mod_eq_zero h2)

def rcnC : Nat → Nat → Nat
  | _, 0 => 1
  | 0, _ + 1 => 0
  | n + 1, k + 1 => rcnC n k + rcnC n (k + 1)
theorem bin_big : ∀ n k, n < k → rcnC n k = 0
  | 0, 0, h => absurd h (Nat.lt_irrefl _)
  | 0, _ + 1, _ => rfl
  | _ + 1, 0, h => absurd h (Nat.not_lt_zero _)
  | n + 1, k + 1, h => by rw [rcnC, bin_big n k (by omega), bin_big n (k + 1) (by omega)]
theorem bin_up : ∀ n k, rcnC n (k + 1) * (k + 1) = rcnC n k * (n - k)
  | 0, 0 => rfl
  | 0, k + 1 => by simp [rcnC]
  | n + 1, 0 => by
    have := bin_up n 0
    simp only [rcnC, Nat.zero_add, Nat.mul_one, Nat.sub_zero, Nat.one_mul] at this ⊢
    omega
  | n + 1, k + 1 => by
    have h1 := bin_up n k
    have h2 := bin_up n (k + 1)
    rcases Nat.lt_or_ge k n with h | h
    · obtain ⟨d, rfl⟩ : ∃ d, n = k + 1 + d := ⟨n - k - 1, by omega⟩
      rw [show k + 1 + d - k = d + 1 by omega] at h1
      rw [show k + 1 + d - (k + 1) = d by omega] at h2
      rw [show k + 1 + d + 1 - (k + 1) = d + 1 by omega]
      show (rcnC (k + 1 + d) (k + 1) + rcnC (k + 1 + d) (k + 1 + 1)) * (k + 1 + 1) = (rcnC (k + 1 + d) k + rcnC (k + 1 + d) (k + 1)) * (d + 1)
      rw [Nat.add_mul, h2, Nat.add_mul (rcnC (k + 1 + d) k), ← h1, ← Nat.mul_add, ← Nat.mul_add]
      congr 1; omega
    · rcases Nat.eq_or_lt_of_le h with h3 | h3
      · subst h3
        rw [bin_big (n + 1) (n + 1 + 1) (by omega), show n + 1 - (n + 1) = 0 by omega]; simp
      · rw [bin_big (n + 1) (k + 1 + 1) (by omega), bin_big (n + 1) (k + 1) (by omega)]; simp
theorem bin_fac : ∀ a b, rcnC (a + b) b * (facN a * facN b) = facN (a + b)
  | a, 0 => by simp [rcnC, facN]
  | 0, b + 1 => by
    have := bin_fac 0 b
    rw [Nat.zero_add] at this ⊢
    show (rcnC b b + rcnC b (b + 1)) * (facN 0 * facN (b + 1)) = facN (b + 1)
    rw [bin_big b (b + 1) (by omega), Nat.add_zero]
    simp only [facN] at this ⊢
    rw [Nat.one_mul] at this ⊢
    rw [← Nat.mul_assoc, this]
  | a + 1, b + 1 => by
    have h1 := bin_fac (a + 1) b
    have h2 := bin_fac a (b + 1)
    rw [show a + 1 + b = a + b + 1 by omega] at h1
    rw [show a + (b + 1) = a + b + 1 by omega] at h2
    rw [show a + 1 + (b + 1) = a + b + 1 + 1 by omega]
    show (rcnC (a + b + 1) b + rcnC (a + b + 1) (b + 1)) * (facN (a + 1) * (facN b * (b + 1))) = facN (a + b + 1) * (a + b + 1 + 1)
    have h3 : rcnC (a + b + 1) b * (facN (a + 1) * (facN b * (b + 1))) = facN (a + b + 1) * (b + 1) := by rw [← h1]; simp only [Nat.mul_assoc]
    have h4 : rcnC (a + b + 1) (b + 1) * (facN (a + 1) * (facN b * (b + 1))) = facN (a + b + 1) * (a + 1) := by
      rw [← h2]
      show rcnC (a + b + 1) (b + 1) * (facN a * (a + 1) * (facN b * (b + 1))) = rcnC (a + b + 1) (b + 1) * (facN a * (facN b * (b + 1))) * (a + 1)
      simp only [Nat.mul_assoc, Nat.mul_comm, Nat.mul_left_comm]
    rw [Nat.add_mul, h3, h4, ← Nat.mul_add]
    congr 1; omega

/-- The cells of the first runners' partitions; the runs of them. -/
def rcnL (q : Nat → List Int) : Nat → Nat
  | 0 => 0
  | k + 1 => rcnL q k + (q k).sum.toNat
def rcnN (q : Nat → List Int) : Nat → Nat
  | 0 => 1
  | k + 1 => rcnN q k * chN (q k) * rcnC (rcnL q (k + 1)) (q k).sum.toNat
theorem rn_fac (q : Nat → List Int) : ∀ k, (∀ i, i < k → Good (q i) ∧ (q i).sum ≤ 15) → rcnN q k * pdN ((((List.range k).map fun i => (hooksR (q i)).flatten).flatten).map Int.toNat) = facN (rcnL q k)
  | 0, _ => rfl
  | k + 1, h => by
    have ih := rn_fac q k fun i hi => h i (by omega)
    obtain ⟨G, hs⟩ := h k (by omega)
    have hc := (ch_fac G hs).1
    unfold hkL at hc
    rw [List.range_succ, List.map_append, List.flatten_append, List.map_append, pdN_append]
    simp only [List.map_cons, List.map_nil, List.flatten_cons, List.flatten_nil, List.append_nil]
    have hb := bin_fac (rcnL q k) (q k).sum.toNat
    rw [rcnN, rcnL, ← hb, ← ih, ← hc]
    simp only [Nat.mul_assoc, Nat.mul_comm, Nat.mul_left_comm]
end Go.Proofs.Ytiebnnchaopbkaa
