/-
  Contracts: CountRuns of the program and of the model.
-/
import Derived.Test.YtmjncedijddmmaaCrnMath2
import Derived.Test.YtmjncedijddmmaaChs
import Derived.Test.YtmjncedijddmmaaDiv
import Derived.Test.YtmjncedijddmmaaQuo
namespace Go.Proofs.Ytmjncedijddmmaa
open Go.RowKit

def quT (t : Nat) (xs : List Int) (i : Nat) : List Int := quoR t (beadsL xs (mulN t xs.length)) i
/-- How many runs there are. -/
def rcnV (xs : List Int) (t : Int) : Nat := rcnN (quT t.toNat xs) t.toNat
def rcnB (xs : List Int) (t : Int) : Bool := crB xs t && decide (rcnV xs t ≤ 1000000000000)
def rcnR (xs : List Int) (t : Int) : Int := if rcnB xs t then (rcnV xs t : Int) else 0
theorem lf_sum (q : Nat → List Int) : ∀ k, (∀ i, i < k → 0 ≤ (q i).sum) → (rcnL q k : Int) = sumN (fun i => (q i).sum) k
  | 0, _ => rfl
  | k + 1, h => by
    have := lf_sum q k fun i hi => h i (by omega)
    have := h k (by omega)
    rw [rcnL, sumN]; omega
theorem lfN_mono (q : Nat → List Int) : ∀ k d, rcnL q k ≤ rcnL q (k + d)
  | _, 0 => Nat.le_refl _
  | k, d + 1 => by have := lfN_mono q k d; rw [← Nat.add_assoc, rcnL]; omega
structure Qs (q : Nat → List Int) (t : Nat) : Prop where
  good : ∀ i, i < t → Good (q i) ∧ (q i).sum ≤ 15
  left : rcnL q t ≤ 15
theorem qs_of {xs : List Int} (G : Good xs) {t : Nat} (ht : 2 ≤ t ∧ t ≤ 6) : Qs (quT t xs) t := by
  have hb := mulN_bd (t := t) (n := xs.length) ht
  have hl := G.len
  obtain ⟨h1, h2, h3⟩ := run_facts G ht hb.1 (by omega)
  have h4 := lf_sum (quT t xs) t h2
  have h5 : (sumN (fun i => (quT t xs i).sum) t) = sumN (fun i => (partsL (rnL t (beadsL xs (mulN t xs.length)) i)).sum) t := rfl
  rw [h5] at h4
  have h0 := (sumN_nn t h2)
  have h6 : 2 * sumN (fun i => (partsL (rnL t (beadsL xs (mulN t xs.length)) i)).sum) t ≤ (t : Int) * sumN (fun i => (partsL (rnL t (beadsL xs (mulN t xs.length)) i)).sum) t :=
    Int.mul_le_mul_of_nonneg_right (by omega) h0.1
  refine ⟨fun i hi => ⟨(h1 i hi).parts, ?_⟩, by omega⟩
  have := h0.2 i hi
  show (partsL (rnL t (beadsL xs (mulN t xs.length)) i)).sum ≤ 15
  omega
theorem flat_lenN (f : Nat → List Int) (q : Nat → List Int) : ∀ k, (∀ i, i < k → (f i).length = (q i).sum.toNat) → ((List.range k).map f).flatten.length = rcnL q k
  | 0, _ => rfl
  | k + 1, h => by
    rw [List.range_succ, List.map_append, List.flatten_append, List.length_append, flat_lenN f q k fun i hi => h i (by omega), rcnL, ← h k (by omega)]; simp
/-- The formula of all hooks. -/
theorem ways_eq {xs : List Int} {t : Nat} (h : crB xs t = true) : (divF xs t).length ≤ 15 ∧ (∀ j, j < (divF xs t).length → 1 ≤ (divF xs t).getD j 0) ∧ wyN (divF xs t) (divF xs t).length = rcnV xs t := by
  obtain ⟨hg, ht⟩ := crB_good h
  have hin := inB_iff.1 ht
  have G := (good_iff xs).1 hg
  have ht2 : 2 ≤ t ∧ t ≤ 6 := by omega
  have Q := qs_of G ht2
  have hb := mulN_bd (t := t) (n := xs.length) ht2
  have hl := G.len
  obtain ⟨h1, _, _⟩ := run_facts G ht2 hb.1 (by omega)
  have GB := goodB_iff.1 (beadsL_goodB G hb.1 (show mulN t xs.length ≤ 40 by omega))
  have hp := quo_perm G (t := t) (by omega) hb.1 (fun i hi => ⟨(h1 i hi).parts, (h1 i hi).rise⟩) (fun x hx => by obtain ⟨j, hj, rfl⟩ := mem_getD.1 hx; exact (GB.rise.bd j hj).2)
  have hf := rn_fac (quT t xs) t Q.good
  have hlen := hp.length_eq
  rw [List.length_map, List.length_map, flat_lenN (fun i => (hooksR (partsL (rnL t (beadsL xs (mulN t xs.length)) i))).flatten) (quT t xs) t fun i hi => (ch_fac (Q.good i hi).1 (Q.good i hi).2).2] at hlen
  have e : divF xs t = quoL t (divL xs t) := by simp [divF, h]
  have hpos : ∀ j, j < (quoL t (divL xs t)).length → 1 ≤ (quoL t (divL xs t)).getD j 0 := by
    intro j hj
    have hm : (quoL t (divL xs t)).getD j 0 ∈ quoL t (divL xs t) := mem_getD.2 ⟨j, hj, rfl⟩
    obtain ⟨x, hx⟩ : ∃ x, x = (quoL t (divL xs t)).getD j 0 := ⟨_, rfl⟩
    rw [← hx] at hm ⊢
    unfold quoL at hm
    obtain ⟨y, hy, rfl⟩ := List.mem_map.1 hm
    unfold divL at hy
    obtain ⟨h2, h3⟩ := List.mem_filter.1 hy
    have h4 := hooksR_bd G y h2
    have h5 : y.tmod t = 0 := by simpa [dvB] using h3
    have h6 := Int.mul_tdiv_add_tmod y t
    rw [h5] at h6
    rcases Int.lt_or_le 0 (y.tdiv t) with h7 | h7
    · omega
    · exfalso
      have := Int.mul_le_mul_of_nonneg_left h7 (show (0 : Int) ≤ t by omega)
      omega
  rw [e]
  refine ⟨by rw [hlen]; exact Q.left, hpos, ?_⟩
  have hpp := prN_pos (quoL t (divL xs t)) _ hpos
  unfold wyN rcnV
  rw [prN_all, pdN_perm hp] at *
  rw [hlen, Int.toNat_natCast]
  have hf2 : rcnN (quT t xs) t * pdN ((((List.range t).map fun i => (hooksR (partsL (rnL t (beadsL xs (mulN t xs.length)) i))).flatten).flatten).map Int.toNat) = facN (rcnL (quT t xs) t) := hf
  rw [← hf2, Nat.mul_div_cancel _ (by omega)]
theorem bin_le : ∀ n k, rcnC n k ≤ 2 ^ n
  | 0, 0 => Nat.le_refl _
  | 0, _ + 1 => Nat.zero_le _
  | n + 1, 0 => Nat.one_le_two_pow
  | n + 1, k + 1 => by have := bin_le n k; have := bin_le n (k + 1); rw [rcnC, Nat.pow_succ]; omega
theorem facN_pos : ∀ n, 1 ≤ facN n
  | 0 => Nat.le_refl _
  | n + 1 => by have := facN_pos n; rw [facN]; exact Nat.mul_pos this (by omega)
theorem fac_up : ∀ d n, facN n ≤ facN (n + d)
  | 0, _ => Nat.le_refl _
  | d + 1, n => by have := fac_up d n; rw [← Nat.add_assoc, facN]; exact Nat.le_trans this (Nat.le_mul_of_pos_right _ (by omega))
theorem bin_pos : ∀ n k, k ≤ n → 1 ≤ rcnC n k
  | _, 0, _ => by rename_i n; cases n <;> simp [rcnC]
  | 0, _ + 1, h => absurd h (by omega)
  | n + 1, k + 1, h => by have := bin_pos n k (by omega); rw [rcnC]; omega
theorem pd_pos {L : List Int} (h : ∀ j, j < L.length → 1 ≤ L.getD j 0) : 1 ≤ pdN (L.map Int.toNat) := by rw [← prN_all]; exact prN_pos L _ h
theorem hk_pos {q : List Int} (G : Good q) : ∀ j, j < (hkL q).length → 1 ≤ (hkL q).getD j 0 := fun j hj => (hooksR_bd G _ (mem_getD.2 ⟨j, hj, rfl⟩)).1
theorem rn_le {q : Nat → List Int} {t : Nat} (Q : Qs q t) : ∀ k, k ≤ t → rcnN q k ≤ facN (rcnL q k)
  | 0, _ => Nat.le_refl _
  | k + 1, hk => by
    have ih := rn_le Q k (by omega)
    obtain ⟨G, hs⟩ := Q.good k (by omega)
    have hc := (ch_fac G hs).1
    have hp := pd_pos (hk_pos G)
    have h1 : chN (q k) ≤ facN (q k).sum.toNat := by rw [← hc]; exact Nat.le_mul_of_pos_right _ hp
    have hb := bin_fac (rcnL q k) (q k).sum.toNat
    rw [rcnN, rcnL, ← hb, Nat.mul_comm]
    exact Nat.mul_le_mul_left _ (Nat.mul_le_mul ih h1)
theorem fac15 : facN 15 = 1307674368000 := by decide +kernel
/-- What stands in the model's count while a runner's cells are counted. -/
theorem mid_bd {q : Nat → List Int} {t : Nat} (Q : Qs q t) {k : Nat} (hk : k < t) (j : Nat) : rcnN q k ≤ 1307674368000 ∧ chN (q k) ≤ 1307674368000 ∧ rcnN q k * chN (q k) ≤ 1307674368000 ∧ rcnN q k * chN (q k) * rcnC (rcnL q (k + 1)) j ≤ 42849873690624000 ∧ rcnL q (k + 1) ≤ 15 := by
  have h1 := rn_le Q k (by omega)
  obtain ⟨G, hs⟩ := Q.good k hk
  have hc := (ch_fac G hs).1
  have hp := pd_pos (hk_pos G)
  have h2 : chN (q k) ≤ facN (q k).sum.toNat := by rw [← hc]; exact Nat.le_mul_of_pos_right _ hp
  have hl : rcnL q (k + 1) ≤ 15 := by
    obtain ⟨d, hd⟩ : ∃ d, t = k + 1 + d := ⟨t - (k + 1), by omega⟩
    have := lfN_mono q (k + 1) d
    rw [← hd] at this; have := Q.left; omega
  have hl2 : rcnL q (k + 1) = rcnL q k + (q k).sum.toNat := rfl
  have h15 : ∀ m, m ≤ 15 → facN m ≤ 1307674368000 := fun m hm => by
    have := fac_up (15 - m) m
    rw [show m + (15 - m) = 15 by omega, fac15] at this; exact this
  have h3 : rcnN q k * chN (q k) ≤ facN (rcnL q (k + 1)) := by
    have hb := bin_fac (rcnL q k) (q k).sum.toNat
    rw [hl2, ← hb]
    exact Nat.le_trans (Nat.mul_le_mul h1 h2) (Nat.le_mul_of_pos_left _ (bin_pos _ _ (by omega)))
  have h4 := h15 _ hl
  have h5 : rcnC (rcnL q (k + 1)) j ≤ 32768 := Nat.le_trans (bin_le _ _) (Nat.pow_le_pow_right (by omega) hl)
  have h6 := Nat.mul_le_mul (Nat.le_trans h3 h4) h5
  exact ⟨Nat.le_trans h1 (h15 _ (by omega)), Nat.le_trans h2 (h15 _ (by omega)), Nat.le_trans h3 h4, by omega, hl⟩
theorem mid_step (c n j : Nat) : c * rcnC n j * (n - j) / (j + 1) = c * rcnC n (j + 1) := by
  rw [Nat.mul_assoc, ← bin_up, ← Nat.mul_assoc, Nat.mul_div_cancel _ (by omega)]

theorem mid_wrap {x l m : Nat} (hm : m < l) (hl : l ≤ 15) (hb : x ≤ 42849873690624000) : wrap64 ((wrap64 ((x : Int) * wrap64 ((l : Int) - (m : Int)))).tdiv ((m : Int) + 1)) = ((x * (l - m) / (m + 1) : Nat) : Int) := by
  have h1 : wrap64 ((l : Int) - (m : Int)) = ((l - m : Nat) : Int) := by
    rw [show (l : Int) - m = ((l - m : Nat) : Int) by omega]; exact IntWalk.wrap64_in _ (by omega)
  have h2 : x * (l - m) ≤ 42849873690624000 * 15 := Nat.mul_le_mul hb (by omega)
  obtain ⟨z, hz⟩ : ∃ z, z = x * (l - m) := ⟨_, rfl⟩
  have h3 : wrap64 ((x : Int) * ((l - m : Nat) : Int)) = (z : Nat) := by
    rw [← Int.natCast_mul, ← hz]; exact IntWalk.wrap64_in _ (by omega)
  rw [h1, h3, ← hz, show ((m : Int) + 1) = ((m + 1 : Nat) : Int) by omega, ← Int.ofNat_tdiv]
  have hd := Nat.div_le_self z (m + 1)
  generalize z / (m + 1) = d at hd ⊢
  exact IntWalk.wrap64_in _ (by omega)

theorem rcn_le {xs : List Int} {t : Nat} (hg : crB xs t = true) : rcnV xs t ≤ 1307674368000 := by
  obtain ⟨hgg, ht⟩ := crB_good hg
  have hin := inB_iff.1 ht
  have Q := qs_of ((good_iff xs).1 hgg) (t := t) (by omega)
  have := rn_le Q t (Nat.le_refl _)
  have h4 := fac_up (15 - rcnL (quT t xs) t) (rcnL (quT t xs) t)
  rw [show rcnL (quT t xs) t + (15 - rcnL (quT t xs) t) = 15 by have := Q.left; omega, fac15] at h4
  exact Nat.le_trans this h4

theorem impl_CountRuns (A : Option Addr) (c : Nat) (xs : List Int) (t : Int) (w : World) (hl : xs.length ≤ 1048576) (hc : Cells w A xs) (_ : I64 t) :
    Calls Try.prog 27 #[.slice A xs.length c, .int .i64 t] w fun e w' => e = .returned (.tuple #[.int .i64 (rcnR xs t), .bool (rcnB xs t)]) ∧ Below w.heap.size w w' := by
  have HD := hid (quotientHooks_any A c xs t w hl hc)
  cases hg : crB xs t
  · have e1 : rcnB xs t = false := by simp [rcnB, hg]
    have e2 : rcnR xs t = 0 := by simp [rcnR, e1]
    rw [e1, e2]
    rw [hg] at HD
    go_enter Try.func27, Try.ntmps27
    go_wp2_with (go_at_call 52; refine (HD.out).mono ?_; rintro e w2 ⟨A2, c2, rfl, o2, b2⟩)
    go_ret2
    exact ⟨rfl, b2⟩
  · obtain ⟨t, rfl⟩ : ∃ m : Nat, t = m := ⟨t.toNat, by have := inB_iff.1 (crB_good hg).2; omega⟩
    obtain ⟨h1, h2, h3⟩ := ways_eq hg
    have h20 : (divF xs t).length ≤ 20 := by omega
    have HW := hid fun A2 c2 W (h : Cells W A2 (divF xs t)) => waysByHooks_any A2 c2 (divF xs t) W h20 h2 h
    rw [h3] at HW
    have hv := rcn_le hg
    rw [hg] at HD
    have e0 : rcnB xs t = decide (rcnV xs t ≤ 1000000000000) := by simp [rcnB, hg]
    have e2 : rcnR xs t = if rcnV xs t ≤ 1000000000000 then (rcnV xs t : Int) else 0 := by simp [rcnR, e0]
    rw [e0, e2]
    obtain ⟨v, hvv⟩ : ∃ v, v = rcnV xs t := ⟨_, rfl⟩
    rw [← hvv] at HW hv ⊢
    clear hvv h1 h2 h3 h20 e0 e2
    by_cases hle : v ≤ 1000000000000
    · rw [if_pos hle, decide_eq_true hle]
      go_enter Try.func27, Try.ntmps27
      go_wp2_with (first | (go_at_call 52; refine (HD.out).mono ?_; rintro e w2 ⟨A2, c2, rfl, o2, b2⟩) | (go_at_call 53; refine (HW.out _ _ _ o2.cells).mono ?_; rintro e w3 ⟨rfl, rfl⟩))
      go_ret2
      exact ⟨rfl, b2⟩
    · rw [if_neg hle, decide_eq_false hle]
      go_enter Try.func27, Try.ntmps27
      go_wp2_with (first | (go_at_call 52; refine (HD.out).mono ?_; rintro e w2 ⟨A2, c2, rfl, o2, b2⟩) | (go_at_call 53; refine (HW.out _ _ _ o2.cells).mono ?_; rintro e w3 ⟨rfl, rfl⟩))
      go_ret2
      exact ⟨rfl, b2⟩

set_option maxRecDepth 100000 in
set_option maxHeartbeats 2000000 in
theorem crRuns_any (A : Option Addr) (c : Nat) (xs : List Int) (t : Nat) (w : World) (ht : 2 ≤ t ∧ t ≤ 6) (G : Good xs) (hc : Cells w A xs) :
    Calls Try.prog 51 #[.slice A xs.length c, .int .i64 t] w fun e w' => e = .returned (.int .i64 (rcnN (quT t xs) t : Nat)) ∧ Below w.heap.size w w' := by
  have Q := qs_of G ht
  have HQ := hid fun W (h : Cells W A xs) => crQuotient_any A c xs t W ht G h
  change Hid (∀ W (h : Cells W A xs), Calls Try.prog 77 #[.slice A xs.length c, .int .i64 t] W fun e w' => ∃ A' c', e = .returned (.slice A' t c') ∧ Own2 w' W.heap.size w'.heap.size A' c' ((List.range t).map (quT t xs)) ∧ Below W.heap.size W w') at HQ
  obtain ⟨q, hq⟩ : ∃ q, q = quT t xs := ⟨_, rfl⟩
  rw [← hq] at Q HQ ⊢
  clear hq G
  have HP := hid fun (i : Nat) (hi : i < t) A1 c1 W (h : Cells W A1 (q i)) => ptSum_any A1 (q i) c1 W (Q.good i hi).1.len (fun j hj => ⟨by have := (Q.good i hi).1.pos j hj; omega, by have := (Q.good i hi).1.le j hj; omega⟩) h
  have HC := hid fun (i : Nat) (hi : i < t) A1 c1 W (h : Cells W A1 (q i)) => crChains_any A1 c1 (q i) W (Q.good i hi).1 (by have := (Q.good i hi).2; omega) h
  have HQ2 := hid Q
  clear Q
  go_enter Try.func51, Try.ntmps51
  go_wp2_with (go_at_call 77; refine (HQ.out _ hc).mono ?_; rintro e w1 ⟨A1, c1, rfl, o1, b1⟩)
  obtain ⟨Pt, Ct, hA1, hA2⟩ := o1.cells
  have hrl : ((List.range t).map q).length = t := by simp
  rw [hrl] at hA1 hA2
  have HA1 := hid hA1
  have HA2 := hid hA2
  clear o1 hA1 hA2 hrl
  go_loopw [5, 6, 15] (fun l v i wr => ∃ k : Nat, k ≤ t ∧ i = .int .i64 k ∧ l = .int .i64 (rcnL q k : Nat) ∧ v = .int .i64 (rcnN q k : Nat) ∧ Below w1.heap.size w1 wr) (fun _ _ i _ => t - (intOf i).toNat)
  case atStart => exact ⟨0, Nat.zero_le _, rfl, rfl, rfl, Below.refl _ _⟩
  case round =>
    obtain ⟨k, hk, rfl, rfl, rfl, hbel⟩ := hrel
    by_cases hlt : k < t
    · obtain ⟨b, o, rfl, hcc⟩ := HA1.out (by omega)
      have hck := (hbel.cell (World.block_lt_of_cell? w1 _ (hcc k hlt))).trans (hcc k hlt)
      have hgk : ((List.range t).map q).getD k [] = q k := by simp [List.getD, hlt]
      have hrow := HA2.out k hlt
      rw [hgk] at hck hrow
      have HS := hid (HP.out k hlt (Pt k) (Ct k) wr (hrow.below hbel))
      have HCC := hid (HC.out k hlt (Pt k) (Ct k) wr (hrow.below hbel))
      have HM := hid (mid_bd HQ2.out hlt)
      have hs0 : 0 ≤ (q k).sum ∧ (q k).sum ≤ 15 := ⟨(HQ2.out.good k hlt).1.sum0, (HQ2.out.good k hlt).2⟩
      have HE1 := hid (show rcnL q (k + 1) = rcnL q k + (q k).sum.toNat from rfl)
      have HE2 := hid (show rcnN q (k + 1) = rcnN q k * chN (q k) * rcnC (rcnL q (k + 1)) (q k).sum.toNat from rfl)
      obtain ⟨r, hr⟩ : ∃ r, r = q k := ⟨_, rfl⟩
      obtain ⟨P, hP⟩ : ∃ P, P = Pt k := ⟨_, rfl⟩
      obtain ⟨C, hC⟩ : ∃ C, C = Ct k := ⟨_, rfl⟩
      obtain ⟨n, hn⟩ : ∃ n : Nat, r.sum = n := ⟨r.sum.toNat, by rw [hr]; omega⟩
      obtain ⟨a, ha⟩ : ∃ a, a = rcnN q k := ⟨_, rfl⟩
      obtain ⟨h, hh⟩ : ∃ h, h = chN (q k) := ⟨_, rfl⟩
      obtain ⟨l0, hl0⟩ : ∃ l0, l0 = rcnL q k := ⟨_, rfl⟩
      obtain ⟨l1, hl1⟩ : ∃ l1, l1 = rcnL q (k + 1) := ⟨_, rfl⟩
      rw [← hh, ← hl1, ← ha] at HM
      rw [← hh, ← hl1, ← ha, ← hr, hn, Int.toNat_natCast] at HE2
      rw [← hl1, ← hl0, ← hr, hn, Int.toNat_natCast] at HE1
      rw [← hr, hn] at HS hs0
      rw [← hr] at HCC hck
      rw [← hP, ← hC] at hck HS HCC
      rw [hr, ← hh, ← hr] at HCC
      rw [← ha, ← hl0]
      clear hcc hgk hrow hr hP hC ha hh hl0 hn
      have hm0 := HM.out 0
      have e1 := HE1.out
      have hw1 : wrap64 ((a : Int) * (h : Int)) = ((a * h : Nat) : Int) := by
        rw [← Int.natCast_mul]
        exact IntWalk.wrap64_in _ (by omega)
      have hw2 : wrap64 ((l0 : Int) + (n : Int)) = (l1 : Nat) := by
        rw [show (l0 : Int) + n = (l1 : Nat) by omega]
        exact IntWalk.wrap64_in _ (by omega)
      clear hm0 e1
      go_wp2_with fail
      refine HS.out.mono ?_
      rintro e w2 ⟨rfl, rfl⟩
      go_wp2_with fail
      refine HCC.out.mono ?_
      rintro e w3 ⟨rfl, b3⟩
      have HW1 := hid hw1
      have HW2 := hid hw2
      obtain ⟨y, hy⟩ : ∃ y : Nat → Nat, ∀ m, y m = a * h * rcnC l1 m := ⟨_, fun _ => rfl⟩
      have HY0 := hid (show a * h = y 0 by rw [hy]; cases l1 <;> simp [rcnC])
      have HYS := hid (show ∀ m, y m * (l1 - m) / (m + 1) = y (m + 1) from fun m => by rw [hy, hy]; exact mid_step (a * h) l1 m)
      have HYB := hid (show (∀ m, y m ≤ 42849873690624000) ∧ l1 ≤ 15 ∧ n ≤ l1 from ⟨fun m => by rw [hy]; exact (HM.out m).2.2.2.1, (HM.out 0).2.2.2.2, by have := HE1.out; omega⟩)
      have HYE := hid (show rcnN q (k + 1) = y n by rw [HE2.out, hy])
      have HL1 := hid (show rcnL q (k + 1) = l1 from hl1.symm)
      clear hw1 hw2 hy HM HE1 HE2 hl1
      go_wp2_with fail
      rw [HW1.out, HW2.out, HY0.out]
      clear HW1 HW2 HY0
      go_loop [6, 10] (fun v j => ∃ m : Nat, m ≤ n ∧ j = .int .i64 m ∧ v = .int .i64 (y m : Nat)) (fun _ j => n - (intOf j).toNat)
      case atStart => exact ⟨0, Nat.zero_le _, rfl, rfl⟩
      case round =>
        obtain ⟨m, hm, rfl, rfl⟩ := hrel
        by_cases hml : m < n
        · have hw := mid_wrap (x := y m) (l := l1) (m := m) (by have := HYB.out.2.2; omega) HYB.out.2.1 (HYB.out.1 m)
          rw [HYS.out m] at hw
          have HW := hid hw
          obtain ⟨x, hx⟩ : ∃ x, x = y m := ⟨_, rfl⟩
          rw [← hx] at HW ⊢
          clear hx hw
          go_wp2_with fail
          go_round
          case rel => exact ⟨m + 1, by omega, by go_num, by rw [HW.out]⟩
          case measure => simp [intOf]; omega
        · have hmr : m = n := by omega
          subst hmr
          go_wp2_with fail
          go_round
          case rel => exact ⟨k + 1, by omega, by go_num, by rw [HL1.out], by rw [HYE.out], Below.next hbel b3⟩
          case measure => simp [intOf]; omega
    · have hkl : k = t := by omega
      subst hkl
      go_wp2_with fail
      go_ret
      exact ⟨rfl, Below.next b1 hbel⟩

theorem spec_CountRuns (A : Option Addr) (c : Nat) (xs : List Int) (t : Int) (w : World) (hl : xs.length ≤ 1048576) (hc : Cells w A xs) (_ : I64 t) :
    Calls Try.prog 26 #[.slice A xs.length c, .int .i64 t] w fun e w' => e = .returned (.tuple #[.int .i64 (rcnR xs t), .bool (rcnB xs t)]) ∧ Below w.heap.size w w' := by
  cases hg : crB xs t
  · have e1 : rcnB xs t = false := by simp [rcnB, hg]
    have e2 : rcnR xs t = 0 := by simp [rcnR, e1]
    rw [e1, e2]
    have HG := hid hg; clear hg
    go_enter Try.func26, Try.ntmps26
    go_wp2_with (go_at_call 39; refine (crT_any _ _ _ _ _ hl hc _ HG.out).mono ?_; rintro e w' ⟨rfl, n, rfl⟩)
    go_ret2
    exact ⟨rfl, below_drew' _ _⟩
  · obtain ⟨t, rfl⟩ : ∃ m : Nat, t = m := ⟨t.toNat, by have := inB_iff.1 (crB_good hg).2; omega⟩
    obtain ⟨hgg, ht⟩ := crB_good hg
    have hin := inB_iff.1 ht
    have HR := hid fun W (h : Cells W A xs) => crRuns_any A c xs t W (by omega) ((good_iff xs).1 hgg) h
    have hv := rcn_le hg
    have e0 : rcnB xs t = decide (rcnV xs t ≤ 1000000000000) := by simp [rcnB, hg]
    have e2 : rcnR xs t = if rcnV xs t ≤ 1000000000000 then (rcnV xs t : Int) else 0 := by simp [rcnR, e0]
    have e3 : rcnN (quT t xs) t = rcnV xs t := rfl
    rw [e0, e2]
    rw [e3] at HR
    obtain ⟨v, hvv⟩ : ∃ v, v = rcnV xs t := ⟨_, rfl⟩
    rw [← hvv] at HR hv ⊢
    have HG := hid hg
    clear hvv e0 e2 e3 hg hgg ht hin
    by_cases hle : v ≤ 1000000000000
    · rw [if_pos hle, decide_eq_true hle]
      go_enter Try.func26, Try.ntmps26
      go_wp2_with (go_at_call 39; refine (crT_any _ _ _ _ _ hl hc _ HG.out).mono ?_; rintro e w' ⟨rfl, n, rfl⟩)
      refine (HR.out _ (hc.below (below_drew' _ n))).mono ?_
      rintro e w1 ⟨rfl, b1⟩
      go_wp2_with fail
      go_ret2
      exact ⟨rfl, Below.next (below_drew' _ n) b1⟩
    · rw [if_neg hle, decide_eq_false hle]
      go_enter Try.func26, Try.ntmps26
      go_wp2_with (go_at_call 39; refine (crT_any _ _ _ _ _ hl hc _ HG.out).mono ?_; rintro e w' ⟨rfl, n, rfl⟩)
      refine (HR.out _ (hc.below (below_drew' _ n))).mono ?_
      rintro e w1 ⟨rfl, b1⟩
      go_wp2_with fail
      go_ret2
      exact ⟨rfl, Below.next (below_drew' _ n) b1⟩
end Go.Proofs.Ytmjncedijddmmaa
