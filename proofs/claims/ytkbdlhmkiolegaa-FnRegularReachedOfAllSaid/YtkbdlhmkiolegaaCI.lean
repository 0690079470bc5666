/-
  Several texts in one.
-/
import Derived.Test.YtkbdlhmkiolegaaR18
import Derived.Test.YtkbdlhmkiolegaaCA
import Derived.Test.YtkbdlhmkiolegaaR11
import Derived.Test.YtkbdlhmkiolegaaCC
import Derived.Test.YtkbdlhmkiolegaaR19
import Derived.Test.YtkbdlhmkiolegaaR10
import Derived.Test.YtkbdlhmkiolegaaCB
import Derived.Test.YtkbdlhmkiolegaaR17
import Derived.Test.YtkbdlhmkiolegaaR14
import Derived.Test.YtkbdlhmkiolegaaCH
import Derived.Test.YtkbdlhmkiolegaaR04
import Derived.Test.YtkbdlhmkiolegaaR06
import Derived.Test.YtkbdlhmkiolegaaLevF
import Derived.BigQuiet
/-
  Plain facts: the beads of levels, their sum, their partition. No program in this text.
-/
namespace Go.Proofs.Ytkbdlhmkiolegaa
open Go.RowKit

/-- Runner i with its first q and level i rows. -/
def fillR (q : Nat) (xs : List Int) (i : Nat) : List Int := upTo ((q : Int) + xs.getD i 0).toNat
def kL (q : Nat) (xs : List Int) : List Int := insF (abfL xs.length (fillR q xs) xs.length)
theorem kL_nodup (q : Nat) (xs : List Int) : (abfL xs.length (fillR q xs) xs.length).Nodup := abfL_nodup _ (Nat.le_refl _) fun _ _ => pw_nodup (upTo_pw _)
theorem kL_pw (q : Nat) (xs : List Int) : (kL q xs).Pairwise (· < ·) := (insF_all (kL_nodup q xs)).1
theorem mem_kL {q : Nat} {xs : List Int} (ht : 0 < xs.length) {x : Int} : x ∈ kL q xs ↔ 0 ≤ x ∧ x / (xs.length : Int) < q + xs.getD (x % (xs.length : Int)).toNat 0 := by
  obtain ⟨t, hte⟩ : ∃ t, t = xs.length := ⟨_, rfl⟩
  unfold kL
  rw [(insF_all (kL_nodup q xs)).2.1 x, mem_abfL]
  rw [← hte] at ht ⊢
  constructor
  · rintro ⟨i, y, h1, h2, rfl⟩
    unfold fillR at h2
    have h3 := mem_upTo.1 h2
    obtain ⟨e1, e2⟩ := lay_div (y := y) h1
    rw [e1, e2, Int.toNat_natCast]
    refine ⟨?_, by omega⟩
    have := Int.mul_nonneg h3.1 (show (0 : Int) ≤ t by omega)
    omega
  · rintro ⟨h1, h2⟩
    have h4 := Int.emod_nonneg x (show (t : Int) ≠ 0 by omega)
    have h5 := Int.emod_lt_of_pos x (show 0 < (t : Int) by omega)
    have h6 := Int.mul_ediv_add_emod x t
    have h7 := Int.ediv_nonneg h1 (show (0 : Int) ≤ t by omega)
    refine ⟨(x % (t : Int)).toNat, x / (t : Int), by omega, mem_upTo.2 ⟨h7, by omega⟩, ?_⟩
    rw [Int.mul_comm]; omega
theorem parts_shift (L : List Int) : ∀ k, partsL (shiftL L k) = partsL L
  | 0 => by unfold shiftL; simp [upTo, fnRow]
  | k + 1 => by
    have e : shiftL L (k + 1) = shL (shiftL L k) := by
      unfold shiftL shL
      rw [List.map_append, List.map_map]
      have e1 : upTo (k + 1) = 0 :: (upTo k).map fun x => x + 1 := by
        unfold upTo fnRow
        rw [List.range_succ_eq_map, List.map_cons, List.map_map, List.map_map]
        rfl
      rw [e1, List.cons_append]
      congr 2
      exact List.map_congr_left fun x _ => by simp; omega
    rw [e, parts_sh, parts_shift L k]
theorem kL_up {q : Nat} {xs : List Int} (ht : 0 < xs.length) (h : ∀ i, i < xs.length → 0 ≤ (q : Int) + xs.getD i 0) : kL (q + 1) xs = shiftL (kL q xs) xs.length := by
  have hp : (shiftL (kL q xs) xs.length).Pairwise (· < ·) := by
    unfold shiftL
    rw [List.pairwise_append]
    refine ⟨upTo_pw _, ?_, fun a ha b hb => ?_⟩
    · rw [List.pairwise_map]
      refine List.Pairwise.imp ?_ (kL_pw q xs)
      intro a b hab; omega
    · have h1 := mem_upTo.1 ha
      obtain ⟨z, hz, rfl⟩ := List.mem_map.1 hb
      have := ((mem_kL ht).1 hz).1
      omega
  refine pw_ext (kL_pw _ _) hp fun x => ?_
  have hm : x ∈ shiftL (kL q xs) xs.length ↔ (0 ≤ x ∧ x < xs.length) ∨ x - xs.length ∈ kL q xs := by
    unfold shiftL
    rw [List.mem_append, mem_upTo, List.mem_map]
    constructor
    · rintro (h1 | ⟨y, hy, rfl⟩)
      · exact .inl h1
      · exact .inr (by rw [show y + (xs.length : Int) - xs.length = y by omega]; exact hy)
    · rintro (h1 | h1)
      · exact .inl h1
      · exact .inr ⟨_, h1, by omega⟩
  rw [hm, mem_kL ht, mem_kL ht]
  obtain ⟨t, hte⟩ : ∃ t, t = xs.length := ⟨_, rfl⟩
  rw [← hte] at ht h ⊢
  have e1 : (x - (t : Int)) % (t : Int) = x % (t : Int) := by
    have := Int.add_mul_emod_self_right (a := x) (b := -1) (c := (t : Int))
    rw [show x + -1 * (t : Int) = x - t by omega] at this; exact this
  have e2 : (x - (t : Int)) / (t : Int) = x / (t : Int) - 1 := by
    have := Int.add_mul_ediv_right x (-1) (show (t : Int) ≠ 0 by omega)
    rw [show x + -1 * (t : Int) = x - t by omega] at this; omega
  rw [e1, e2]
  have h4 := Int.emod_nonneg x (show (t : Int) ≠ 0 by omega)
  have h5 := Int.emod_lt_of_pos x (show 0 < (t : Int) by omega)
  have h6 := Int.mul_ediv_add_emod x t
  have hq := h (x % (t : Int)).toNat (by omega)
  constructor
  · rintro ⟨h1, h2⟩
    by_cases hx : x < t
    · exact .inl ⟨h1, hx⟩
    · exact .inr ⟨by omega, by omega⟩
  · rintro (⟨h1, h2⟩ | ⟨h1, h2⟩)
    · have : x / (t : Int) = 0 := Int.ediv_eq_zero_of_lt h1 h2
      refine ⟨h1, by rw [this]; omega⟩
    · exact ⟨by omega, by omega⟩
theorem kL_parts {q : Nat} {xs : List Int} (ht : 0 < xs.length) (h : ∀ i, i < xs.length → 0 ≤ (q : Int) + xs.getD i 0) : ∀ d, partsL (kL (q + d) xs) = partsL (kL q xs)
  | 0 => rfl
  | d + 1 => by
    rw [show q + (d + 1) = q + d + 1 by omega, kL_up ht fun i hi => by have := h i hi; omega, parts_shift, kL_parts ht h d]
theorem sq_exp (a b : Int) : (a + b) * (a + b) = a * a + 2 * (a * b) + b * b := by
  rw [Int.add_mul, Int.mul_add, Int.mul_add, Int.mul_comm b a]; omega
theorem tri_sq : ∀ n : Nat, 2 * tri n = (n : Int) * n - n
  | 0 => by simp [tri]
  | n + 1 => by
    have := tri_sq n
    rw [tri, show ((n + 1 : Nat) : Int) = (n : Int) + 1 by omega, sq_exp]; omega
theorem sq_ge (x : Int) : x ≤ x * x ∧ -x ≤ x * x ∧ (6 ≤ x → 6 * x ≤ x * x) ∧ (x ≤ -6 → -(6 * x) ≤ x * x) := by
  have key : ∀ y : Int, 0 ≤ y → y ≤ y * y := fun y hy => by
    rcases Int.lt_or_le 0 y with h | h
    · have := Int.mul_le_mul_of_nonneg_right (show (1 : Int) ≤ y by omega) hy
      omega
    · have : y = 0 := by omega
      subst this; simp
  have hn : (-x) * (-x) = x * x := Int.neg_mul_neg x x
  rcases Int.lt_or_le x 0 with h | h
  · have h1 := key (-x) (by omega)
    rw [hn] at h1
    refine ⟨by omega, by omega, fun h2 => by omega, fun h2 => ?_⟩
    have := Int.mul_le_mul_of_nonneg_right (show (6 : Int) ≤ -x by omega) (show 0 ≤ -x by omega)
    rw [hn] at this; omega
  · have h1 := key x h
    refine ⟨h1, by omega, fun h2 => ?_, fun h2 => by omega⟩
    exact Int.mul_le_mul_of_nonneg_right h2 h
theorem list_of {xs : List Int} {t : Nat} (h : xs.length = t) : xs = (List.range t).map fun i => xs.getD i 0 := by
  apply List.ext_getElem
  · simp [h]
  · intro j h1 h2
    simp [List.getD, h1]
theorem sum_of (xs : List Int) : ∀ k, k ≤ xs.length → (xs.take k).sum = sumN (fun i => xs.getD i 0) k
  | 0, _ => by simp [sumN]
  | k + 1, h => by rw [take_snoc xs k (by omega) _ rfl, List.sum_append, sum_of xs k (by omega), sumN]; simp
theorem sq_sumN (xs : List Int) : ∀ n, sqSum xs n = sumN (fun i => xs.getD i 0 * xs.getD i 0) n
  | 0 => rfl
  | n + 1 => by rw [sqSum, sumN, sq_sumN xs n]
theorem ix_sumN (xs : List Int) : ∀ n, ixSum xs n = sumN (fun i => (i : Int) * xs.getD i 0) n
  | 0 => rfl
  | n + 1 => by rw [ixSum, sumN, ix_sumN xs n]
theorem lev_sumN {xs : List Int} (L : Lev xs) : sumN (fun i => xs.getD i 0) xs.length = 0 := by
  have hs := sum_of xs xs.length (Nat.le_refl _)
  rw [List.take_of_length_le (Nat.le_refl _), L.sum] at hs
  exact hs.symm
theorem sumN_pos {f : Nat → Int} : ∀ n, (∀ i, i < n → 0 ≤ f i) → 0 ≤ sumN f n
  | 0, _ => Int.le_refl 0
  | n + 1, h => by rw [sumN]; have := sumN_pos n fun i hi => h i (by omega); have := h n (by omega); omega
theorem sumN_one_le {f : Nat → Int} : ∀ n, (∀ i, i < n → 0 ≤ f i) → ∀ i, i < n → f i ≤ sumN f n
  | n + 1, h, i, hi => by
    rw [sumN]
    have h1 := h n (by omega)
    by_cases e : i = n
    · subst e; have := sumN_pos i fun j hj => h j (by omega); omega
    · have := sumN_one_le n (fun j hj => h j (by omega)) i (by omega); omega
/-- Twice the share of a level in the size. -/
def shr (t i : Nat) (x : Int) : Int := t * (x * x) + (2 * (i : Int) - t + 1) * x
theorem shr_ge {t i : Nat} (ht : 2 ≤ t ∧ t ≤ 6) (hi : i < t) (x : Int) : 0 ≤ shr t i x ∧ (6 ≤ x ∨ x ≤ -6 → 61 ≤ shr t i x) := by
  obtain ⟨g1, g2, g3, g4⟩ := sq_ge x
  have ht6 : t = 2 ∨ t = 3 ∨ t = 4 ∨ t = 5 ∨ t = 6 := by omega
  have hi6 : i = 0 ∨ i = 1 ∨ i = 2 ∨ i = 3 ∨ i = 4 ∨ i = 5 := by omega
  unfold shr
  generalize x * x = y at *
  rcases ht6 with rfl | rfl | rfl | rfl | rfl <;> (rcases hi6 with rfl | rfl | rfl | rfl | rfl | rfl <;> first | omega | (simp; omega))
theorem two_size {xs : List Int} (L : Lev xs) : 2 * sizeL xs = sumN (fun i => shr xs.length i (xs.getD i 0)) xs.length := by
  have h0 := lev_sumN L
  have he := sqSum_even L
  obtain ⟨m, hm⟩ : ∃ m, sqSum xs xs.length = 2 * m := ⟨sqSum xs xs.length / 2, by omega⟩
  have hz : 2 * sizeL xs = xs.length * sqSum xs xs.length + 2 * ixSum xs xs.length := by
    unfold sizeL
    rw [hm, Int.mul_ediv_cancel_left _ (by decide)]; grind
  rw [hz, sq_sumN, ix_sumN]
  obtain ⟨t, ht⟩ : ∃ t, t = xs.length := ⟨_, rfl⟩
  rw [← ht] at h0 ⊢
  have key : ∀ n, sumN (fun i => shr t i (xs.getD i 0)) n = t * sumN (fun i => xs.getD i 0 * xs.getD i 0) n + 2 * sumN (fun i => (i : Int) * xs.getD i 0) n + (1 - (t : Int)) * sumN (fun i => xs.getD i 0) n := by
    intro n
    induction n with
    | zero => simp [sumN]
    | succ n ih => rw [sumN, ih, sumN, sumN, sumN]; unfold shr; grind
  rw [key, h0]; omega
/-- The levels of a small core are small. -/
theorem lev_small {xs : List Int} (L : Lev xs) (h : sizeL xs ≤ 30) (i : Nat) (hi : i < xs.length) : -5 ≤ xs.getD i 0 ∧ xs.getD i 0 ≤ 5 := by
  have h1 := two_size L
  have h2 := sumN_one_le (f := fun i => shr xs.length i (xs.getD i 0)) xs.length (fun j hj => (shr_ge ⟨L.lo, L.hi⟩ hj _).1) i hi
  have h3 := (shr_ge ⟨L.lo, L.hi⟩ hi (xs.getD i 0)).2
  have h4 : shr xs.length i (xs.getD i 0) ≤ 2 * sizeL xs := by rw [h1]; exact h2
  omega
theorem kL_len {q : Nat} {xs : List Int} (L : Lev xs) (h : ∀ i, i < xs.length → 0 ≤ (q : Int) + xs.getD i 0) : ((kL q xs).length : Int) = xs.length * q := by
  have h0 := lev_sumN L
  unfold kL
  rw [(insF_all (kL_nodup q xs)).2.2, abfL_len]
  have e : sumN (fun i => ((fillR q xs i).length : Int)) xs.length = sumN (fun i => (q : Int) + xs.getD i 0) xs.length :=
    sumN_congr _ fun i hi => by have := h i hi; unfold fillR; rw [upTo_len]; omega
  rw [e]
  have key : ∀ n : Nat, sumN (fun i => (q : Int) + xs.getD i 0) n = n * q + sumN (fun i => xs.getD i 0) n := by
    intro n
    induction n with
    | zero => simp [sumN]
    | succ n ih => rw [sumN, ih, sumN]; grind
  rw [key, h0]; omega
theorem kL_sum {q : Nat} {xs : List Int} (L : Lev xs) (h : ∀ i, i < xs.length → 0 ≤ (q : Int) + xs.getD i 0) : (kL q xs).sum = sizeL xs + tri (xs.length * q) := by
  have h0 := lev_sumN L
  have h1 := two_size L
  have h2 := tri_sq (xs.length * q)
  unfold kL
  rw [insF_sum, abfL_sum]
  obtain ⟨t, ht⟩ : ∃ t, t = xs.length := ⟨_, rfl⟩
  rw [← ht] at h0 h1 h2 h ⊢
  have e : ∀ i, i < t → 2 * ((t : Int) * (fillR q xs i).sum + i * (fillR q xs i).length) = shr t i (xs.getD i 0) + (2 * (t : Int) * q - 1) * xs.getD i 0 + (t * (q * q - q) + 2 * i * q) := by
    intro i hi
    have := h i hi
    obtain ⟨n, hn⟩ : ∃ n : Nat, (n : Int) = (q : Int) + xs.getD i 0 := ⟨((q : Int) + xs.getD i 0).toNat, by omega⟩
    have h3 := tri_sq n
    have e1 : (fillR q xs i) = upTo n := by unfold fillR; rw [← hn]; simp
    rw [e1, upTo_sum, upTo_len]
    have e2 : xs.getD i 0 = (n : Int) - q := by omega
    rw [e2]; unfold shr; grind
  have key : ∀ n, n ≤ t → 2 * sumN (fun i => (t : Int) * (fillR q xs i).sum + i * (fillR q xs i).length) n = sumN (fun i => shr t i (xs.getD i 0)) n + (2 * (t : Int) * q - 1) * sumN (fun i => xs.getD i 0) n + ((n : Int) * (t * (q * q - q)) + (n * n - n) * q) := by
    intro n
    induction n with
    | zero => intro _; simp [sumN]
    | succ n ih =>
      intro hn
      have a := ih (by omega)
      have b := e n (by omega)
      simp only [sumN]
      rw [show ((n + 1 : Nat) : Int) = (n : Int) + 1 by omega]
      grind
  have := key t (Nat.le_refl _)
  rw [h0] at this
  rw [show ((t * q : Nat) : Int) = (t : Int) * q by simp] at h2
  have h3 : 2 * sumN (fun i => (t : Int) * (fillR q xs i).sum + i * (fillR q xs i).length) t = 2 * (sizeL xs + tri (t * q)) := by grind
  omega
theorem kL_bd {q : Nat} {xs : List Int} (L : Lev xs) (hq : q ≤ 20) : ∀ x ∈ kL q xs, 0 ≤ x ∧ x ≤ 1000 := fun x hx => by
  have h2 := L.lo
  have h6 := L.hi
  obtain ⟨h3, h4⟩ := (mem_kL (by omega)).1 hx
  obtain ⟨t, ht⟩ : ∃ t, t = xs.length := ⟨_, rfl⟩
  have h5 := Int.mul_ediv_add_emod x t
  have h7 := Int.emod_lt_of_pos x (show 0 < (t : Int) by omega)
  have h8 := Int.emod_nonneg x (show (t : Int) ≠ 0 by omega)
  have h9 := L.bd (x % (xs.length : Int)).toNat (by rw [← ht]; omega)
  rw [← ht] at h4 h9 h2 h6
  have h10 : (t : Int) * (x / (t : Int)) ≤ 6 * 40 := Int.mul_le_mul (by omega) (by omega) (Int.ediv_nonneg h3 (by omega)) (by omega)
  exact ⟨h3, by omega⟩
theorem kL_good {q : Nat} {xs : List Int} (L : Lev xs) (hs : sizeL xs ≤ 30) (hq : 5 ≤ q) (hm : xs.length * q ≤ 40) : goodB (kL q xs) = true := by
  have h2 := L.lo
  have hq0 : ∀ i, i < xs.length → 0 ≤ (q : Int) + xs.getD i 0 := fun i hi => by have := lev_small L hs i hi; omega
  have hl := kL_len L hq0
  have hsum := kL_sum L hq0
  have hl2 : (kL q xs).length = xs.length * q := by
    have : ((xs.length * q : Nat) : Int) = xs.length * q := by simp
    omega
  have hq20 : q ≤ 20 := by
    have := Nat.mul_le_mul_right q h2
    omega
  refine goodB_of (by omega) (pw_rises (kL_pw q xs) (kL_bd L hq20)) (by rw [hl2, hsum]; omega)
/-- The rows that the program lays. -/
def clR (q : Nat) (xs : List Int) (k : Nat) : List (List Int) := (List.range k).map (fillR q xs)
theorem clR_len (q : Nat) (xs : List Int) (k : Nat) : (clR q xs k).length = k := by simp [clR]
theorem clR_succ (q : Nat) (xs : List Int) (k : Nat) : clR q xs (k + 1) = clR q xs k ++ [fillR q xs k] := by simp [clR, List.range_succ]
theorem clR_get (q : Nat) (xs : List Int) {k i : Nat} (h : i < k) : (clR q xs k).getD i [] = fillR q xs i := by
  simp [clR, List.getD, h]
theorem upTo_rw {n : Nat} (h : n ≤ 36) : rwOk (upTo n) = true := by
  refine rises_Rises.2 ⟨fun j hj => ?_, fun j hj => ?_⟩
  · rw [upTo_len] at hj; unfold upTo; rw [fnRow_get _ _ _ hj]; omega
  · rw [upTo_len] at hj; unfold upTo; rw [fnRow_get _ _ _ (by omega), fnRow_get _ _ _ hj]; omega
theorem clR_frL (q : Nat) (xs : List Int) : frL (clR q xs xs.length) = kL q xs := by
  unfold frL kL
  rw [clR_len]
  congr 1
  have key : ∀ k, k ≤ xs.length → abfL xs.length (rowsR (clR q xs xs.length)) k = abfL xs.length (fillR q xs) k := by
    intro k
    induction k with
    | zero => intro _; rfl
    | succ k ih =>
      intro hk
      rw [abfL, abfL, ih (by omega)]
      unfold rowsR
      rw [clR_get q xs (show k < xs.length by omega)]
  exact key _ (Nat.le_refl _)
theorem clR_ok {q : Nat} {xs : List Int} (L : Lev xs) (hs : sizeL xs ≤ 30) (hq : 5 ≤ q) (hm : xs.length * q ≤ 40) : frOk (clR q xs xs.length) = true := by
  have h2 := L.lo
  have h6 := L.hi
  have h20 : q ≤ 20 := by have := Nat.mul_le_mul_right q h2; omega
  have hin : inB 2 6 ((clR q xs xs.length).length : Int) = true := by rw [clR_len]; exact inB_iff.2 (by omega)
  rw [fr_ok hin ?_, clR_frL, clR_len]
  · rw [clR_len] at hin
    simp [isAba, hin, kL_good L hs hq hm]
  · intro i hi
    rw [clR_len] at hi
    unfold rowsR
    rw [clR_get q xs hi]
    have := lev_small L hs i hi
    exact upTo_rw (by omega)
theorem clR_tot {q : Nat} {xs : List Int} (L : Lev xs) (hs : sizeL xs ≤ 30) (hq : 5 ≤ q) (hm : xs.length * q ≤ 40) : tot (clR q xs xs.length) ≤ 1048576 := by
  have h2 := L.lo
  have h6 := L.hi
  have h20 : q ≤ 20 := by have := Nat.mul_le_mul_right q h2; omega
  have key : ∀ k, k ≤ xs.length → tot (clR q xs k) ≤ k * 40 := by
    intro k
    induction k with
    | zero => intro _; simp [clR, tot]
    | succ k ih =>
      intro hk
      have := ih (by omega)
      have := lev_small L hs k (by omega)
      rw [clR_succ, tot_append]
      have e : tot [fillR q xs k] = (fillR q xs k).length := by simp [tot]
      rw [e]
      unfold fillR
      rw [upTo_len]; omega
  have := key _ (Nat.le_refl _)
  omega
def clOk (xs : List Int) : Bool := levB xs && decide (sizeL xs ≤ 30)
def clF (xs : List Int) : List Int := if clOk xs then partsL (kL 11 xs) else []
theorem cl_no {xs : List Int} (h : clOk xs = false) : clF xs = [] := by simp [clF, h]
theorem cl_yes {xs : List Int} (h : clOk xs = true) : clF xs = partsL (kL 11 xs) := by simp [clF, h]
theorem cl_at {q : Nat} {xs : List Int} (L : Lev xs) (hs : sizeL xs ≤ 30) (hq : 5 ≤ q) : partsL (kL q xs) = partsL (kL 5 xs) := by
  have h2 := L.lo
  obtain ⟨d, rfl⟩ : ∃ d, q = 5 + d := ⟨q - 5, by omega⟩
  exact kL_parts (by omega) (fun i hi => by have := lev_small L hs i hi; omega) d
def qR (t : Nat) : Nat := (30 + t - 1) / t
theorem qR_bd {t : Nat} (ht : 2 ≤ t ∧ t ≤ 6) : 5 ≤ qR t ∧ qR t ≤ 15 ∧ t * qR t ≤ 40 ∧ mulN t 30 = qR t * t := by
  refine ⟨?_, ?_, ?_, rfl⟩ <;> (have : t = 2 ∨ t = 3 ∨ t = 4 ∨ t = 5 ∨ t = 6 := by omega) <;> rcases this with rfl | rfl | rfl | rfl | rfl <;> decide
end Go.Proofs.Ytkbdlhmkiolegaa
/-
  Plain facts: the levels of all cores of so many cells, listed in two ways. No program in this text.
-/
namespace Go.Proofs.Ytkbdlhmkiolegaa
open Go.RowKit

/-- The shares of levels from a runner on. -/
def shW (t : Nat) : Nat → List Int → Int
  | _, [] => 0
  | i, x :: r => shr t i x + shW t (i + 1) r
theorem shW_app (t : Nat) (ys : List Int) : ∀ (xs : List Int) (i : Nat), shW t i (xs ++ ys) = shW t i xs + shW t (i + xs.length) ys
  | [], i => by simp [shW]
  | x :: r, i => by
    rw [List.cons_append, shW, shW, shW_app t ys r (i + 1), List.length_cons, show i + 1 + r.length = i + (r.length + 1) by omega]; omega
theorem shW_one (t i : Nat) (x : Int) : shW t i [x] = shr t i x := by simp [shW]
theorem shW_sum (t : Nat) (xs : List Int) : ∀ k, k ≤ xs.length → shW t 0 (xs.take k) = sumN (fun i => shr t i (xs.getD i 0)) k
  | 0, _ => by simp [shW, sumN]
  | k + 1, h => by
    rw [take_snoc xs k (by omega) _ rfl, shW_app, shW_sum t xs k (by omega), shW_one, sumN, List.length_take, show 0 + min k xs.length = k by omega]
theorem two_size' {xs : List Int} (L : Lev xs) : 2 * sizeL xs = shW xs.length 0 xs := by
  rw [two_size L, ← shW_sum _ _ _ (Nat.le_refl _), List.take_of_length_le (Nat.le_refl _)]
theorem shW_pos {t : Nat} (ht : 2 ≤ t ∧ t ≤ 6) : ∀ (xs : List Int) (i : Nat), i + xs.length ≤ t → 0 ≤ shW t i xs
  | [], _, _ => Int.le_refl 0
  | x :: r, i, h => by
    rw [List.length_cons] at h
    have h1 := (shr_ge ht (show i < t by omega) x).1
    have h2 := shW_pos ht r (i + 1) (by omega)
    rw [shW]; omega
/-- The levels of a small core are smaller yet. -/
theorem shr_ge5 {t i : Nat} (ht : 3 ≤ t ∧ t ≤ 6) (hi : i < t) (x : Int) (hx : 5 ≤ x ∨ x ≤ -5) : 61 ≤ shr t i x := by
  have g : (5 ≤ x → 5 * x ≤ x * x) ∧ (x ≤ -5 → -(5 * x) ≤ x * x) := by
    refine ⟨fun h => Int.mul_le_mul_of_nonneg_right h (by omega), fun h => ?_⟩
    have := Int.mul_le_mul_of_nonneg_right (show (5 : Int) ≤ -x by omega) (show 0 ≤ -x by omega)
    rw [Int.neg_mul_neg] at this; omega
  obtain ⟨g3, g4⟩ := g
  have ht6 : t = 3 ∨ t = 4 ∨ t = 5 ∨ t = 6 := by omega
  have hi6 : i = 0 ∨ i = 1 ∨ i = 2 ∨ i = 3 ∨ i = 4 ∨ i = 5 := by omega
  unfold shr
  generalize x * x = y at *
  rcases ht6 with rfl | rfl | rfl | rfl <;> (rcases hi6 with rfl | rfl | rfl | rfl | rfl | rfl <;> first | omega | (simp; omega))
theorem lev_small4 {xs : List Int} (L : Lev xs) (h : sizeL xs ≤ 30) (i : Nat) (hi : i < xs.length) : -4 ≤ xs.getD i 0 ∧ xs.getD i 0 ≤ 4 := by
  have h1 := two_size L
  have h2 := sumN_one_le (f := fun i => shr xs.length i (xs.getD i 0)) xs.length (fun j hj => (shr_ge ⟨L.lo, L.hi⟩ hj _).1) i hi
  have h4 : shr xs.length i (xs.getD i 0) ≤ 2 * sizeL xs := by rw [h1]; exact h2
  by_cases h3 : 3 ≤ xs.length
  · have h5 := shr_ge5 ⟨h3, L.hi⟩ hi (xs.getD i 0)
    omega
  · have hl := L.lo
    have e2 : xs.length = 2 := by omega
    have h0 := lev_sumN L
    rw [e2] at h0 h1 hi
    simp only [sumN] at h0 h1
    have e1 : xs.getD 1 0 = -xs.getD 0 0 := by omega
    rw [e1] at h1
    unfold shr at h1
    rw [Int.neg_mul_neg] at h1
    have g := sq_ge (xs.getD 0 0)
    have g5 : (5 ≤ xs.getD 0 0 → 5 * xs.getD 0 0 ≤ xs.getD 0 0 * xs.getD 0 0) ∧ (xs.getD 0 0 ≤ -5 → -(5 * xs.getD 0 0) ≤ xs.getD 0 0 * xs.getD 0 0) := by
      refine ⟨fun h => Int.mul_le_mul_of_nonneg_right h (by omega), fun h => ?_⟩
      have := Int.mul_le_mul_of_nonneg_right (show (5 : Int) ≤ -xs.getD 0 0 by omega) (show 0 ≤ -xs.getD 0 0 by omega)
      rw [Int.neg_mul_neg] at this; omega
    have hx : -4 ≤ xs.getD 0 0 ∧ xs.getD 0 0 ≤ 4 := by
      generalize xs.getD 0 0 * xs.getD 0 0 = y at *
      omega
    rcases (show i = 0 ∨ i = 1 by omega) with rfl | rfl
    · exact hx
    · omega

def lvl (b : Int) (k : Nat) : List Int := (List.range k).map fun (j : Nat) => (j : Int) - b
theorem lvl_succ (b : Int) (k : Nat) : lvl b (k + 1) = lvl b k ++ [(k : Int) - b] := by simp [lvl, List.range_succ]
theorem mem_lvl {b : Int} {k : Nat} {x : Int} : x ∈ lvl b k ↔ -b ≤ x ∧ x < k - b := by
  unfold lvl
  rw [List.mem_map]
  constructor
  · rintro ⟨j, hj, rfl⟩; have := List.mem_range.1 hj; omega
  · rintro ⟨h1, h2⟩; exact ⟨(x + b).toNat, List.mem_range.2 (by omega), by omega⟩
theorem lvl_nodup (b : Int) (k : Nat) : (lvl b k).Nodup := by
  unfold lvl
  rw [List.nodup_iff_pairwise_ne, List.pairwise_map]
  exact List.Pairwise.imp (fun h e => h (by omega)) (List.nodup_iff_pairwise_ne.1 List.nodup_range)
theorem lvl_part : lvl 10 21 = [-10, -9, -8, -7, -6, -5] ++ lvl 4 9 ++ [5, 6, 7, 8, 9, 10] := by decide
theorem flat_one {s : Int} {f : Int → List (List Int)} : ∀ L : List Int, L.Nodup → (∀ l ∈ L, l ≠ s → f l = []) → L.flatMap f = if s ∈ L then f s else []
  | [], _, _ => by simp
  | a :: r, nd, h => by
    obtain ⟨n1, n2⟩ := List.nodup_cons.1 nd
    rw [List.flatMap_cons, flat_one r n2 fun l hl => h l (List.mem_cons_of_mem _ hl)]
    by_cases e : a = s
    · subst e; rw [if_neg n1, if_pos (List.mem_cons_self ..), List.append_nil]
    · rw [h a (List.mem_cons_self ..) e, List.nil_append]
      by_cases hs : s ∈ r
      · rw [if_pos hs, if_pos (List.mem_cons_of_mem _ hs)]
      · rw [if_neg hs, if_neg (by simp [hs]; omega)]

theorem flat_congr {f g : Int → List (List Int)} : ∀ L : List Int, (∀ l ∈ L, f l = g l) → L.flatMap f = L.flatMap g
  | [], _ => rfl
  | a :: r, h => by rw [List.flatMap_cons, List.flatMap_cons, h a (List.mem_cons_self ..), flat_congr r fun l hl => h l (List.mem_cons_of_mem _ hl)]

/-- The program's list: so many runners left, the sum and the shares that are left. -/
def lf (t : Nat) : Nat → Int → Int → List (List Int)
  | 0, s, h => if s = 0 ∧ h = 0 then [[]] else []
  | r + 1, s, h => (lvl 10 21).flatMap fun l => if h - shr t (t - (r + 1)) l < 0 then [] else (lf t r (s - l) (h - shr t (t - (r + 1)) l)).map (l :: ·)
theorem lf_zero (t : Nat) (s h : Int) : lf t 0 s h = if s = 0 ∧ h = 0 then [[]] else [] := rfl
/-- The model's list: levels that go on a list. -/
def chL (n : Int) : Nat → List Int → List (List Int)
  | 0, P => if levB (P ++ [-P.sum]) && decide (sizeL (P ++ [-P.sum]) = n) then [P ++ [-P.sum]] else []
  | r + 1, P => (lvl 4 9).flatMap fun c => chL n r (P ++ [c])
theorem mem_chL {n : Int} {v : List Int} : ∀ (r : Nat) (P : List Int), v ∈ chL n r P → Lev v ∧ sizeL v = n ∧ v.length = P.length + r + 1 ∧ ∃ x, v = P ++ x
  | 0, P, h => by
    rw [chL] at h
    split at h
    · rename_i hh
      rw [List.mem_singleton] at h
      subst h
      simp only [Bool.and_eq_true, decide_eq_true_eq] at hh
      exact ⟨levB_iff.1 hh.1, hh.2, by simp, _, rfl⟩
    · cases h
  | r + 1, P, h => by
    rw [chL, List.mem_flatMap] at h
    obtain ⟨c, _, hc⟩ := h
    obtain ⟨h1, h2, h3, x, h4⟩ := mem_chL r (P ++ [c]) hc
    refine ⟨h1, h2, by rw [h3, List.length_append, List.length_singleton]; omega, c :: x, by rw [h4]; simp⟩
theorem mem_lf {t : Nat} {x : List Int} : ∀ (r : Nat) (s h : Int), r ≤ t → x ∈ lf t r s h → x.length = r ∧ (∀ y ∈ x, -10 ≤ y ∧ y ≤ 10) ∧ x.sum = s ∧ shW t (t - r) x = h
  | 0, s, h, _, hx => by
    rw [lf] at hx
    split at hx
    · rename_i hh
      rw [List.mem_singleton] at hx
      subst hx
      exact ⟨rfl, (fun y hy => by cases hy), by simp [hh.1], by simp [shW, hh.2]⟩
    · cases hx
  | r + 1, s, h, hr, hx => by
    rw [lf, List.mem_flatMap] at hx
    obtain ⟨l, hl, hx⟩ := hx
    split at hx
    · cases hx
    · obtain ⟨y, hy, rfl⟩ := List.mem_map.1 hx
      obtain ⟨h1, h2, h3, h4⟩ := mem_lf r _ _ (by omega) hy
      have hb := mem_lvl.1 hl
      refine ⟨by simp [h1], fun z hz => ?_, by rw [List.sum_cons, h3]; omega, ?_⟩
      · rcases List.mem_cons.1 hz with rfl | hz
        · omega
        · exact h2 z hz
      · rw [shW, show t - (r + 1) + 1 = t - r by omega, h4]; omega
theorem lev_of {P : List Int} {v : List Int} (h26 : 2 ≤ v.length ∧ v.length ≤ 6) (hb : ∀ y ∈ v, -10 ≤ y ∧ y ≤ 10) (hs : v.sum = 0) (_ : P = P) : Lev v :=
  ⟨h26.1, h26.2, fun j hj => hb _ (by rw [List.getD_eq_getElem?_getD, List.getElem?_eq_getElem hj]; exact List.getElem_mem hj), hs⟩
theorem lw_eq {t : Nat} {n : Int} (ht : 2 ≤ t ∧ t ≤ 6) (hn : n ≤ 30) : ∀ (r : Nat) (P : List Int), P.length + r + 1 = t → (∀ y ∈ P, -10 ≤ y ∧ y ≤ 10) →
    (lf t (r + 1) (-P.sum) (2 * n - shW t 0 P)).map (P ++ ·) = chL n r P
  | 0, P, hl, hP => by
    obtain ⟨s, hs⟩ : ∃ s, s = -P.sum := ⟨_, rfl⟩
    rw [chL, lf, ← hs, List.map_flatMap]
    rw [flat_one (s := s) _ (lvl_nodup _ _) fun l _ hne => by
      split
      · rfl
      · rw [lf_zero, if_neg (by omega)]; rfl]
    have hlen : (P ++ [s]).length = t := by rw [List.length_append, List.length_singleton]; omega
    have hsum : (P ++ [s]).sum = 0 := by rw [List.sum_append, List.sum_singleton]; omega
    by_cases hb : -10 ≤ s ∧ s ≤ 10
    · have L : Lev (P ++ [s]) := lev_of (P := P) (by omega) (fun y hy => by
        rcases List.mem_append.1 hy with h | h
        · exact hP y h
        · rw [List.mem_singleton] at h; omega) hsum rfl
      have h2 := two_size' L
      rw [hlen, shW_app, shW_one, show 0 + P.length = t - (0 + 1) by omega] at h2
      rw [if_pos (mem_lvl.2 (by omega)), levB_iff.2 L, Bool.true_and]
      by_cases hz : sizeL (P ++ [s]) = n
      · rw [if_neg (show ¬ (2 * n - shW t 0 P - shr t (t - (0 + 1)) s < 0) by omega), lf_zero, if_pos (show s - s = 0 ∧ 2 * n - shW t 0 P - shr t (t - (0 + 1)) s = 0 by omega), if_pos (decide_eq_true hz)]; rfl
      · rw [if_neg (show ¬ (decide (sizeL (P ++ [s]) = n) = true) by rw [decide_eq_false hz]; decide)]
        split
        · rfl
        · rw [lf_zero, if_neg (by omega)]; rfl
    · rw [if_neg (fun h => hb (by have := mem_lvl.1 h; omega))]
      have : levB (P ++ [s]) = false := Bool.eq_false_iff.2 fun h => by
        have := (levB_iff.1 h).bd P.length (by rw [hlen]; omega)
        simp [List.getD] at this
        omega
      rw [this]; rfl
  | r + 1, P, hl, hP => by
    have hpt : ∀ l, -10 ≤ l ∧ l ≤ 10 → (if 2 * n - shW t 0 P - shr t (t - (r + 1 + 1)) l < 0 then [] else (lf t (r + 1) (-P.sum - l) (2 * n - shW t 0 P - shr t (t - (r + 1 + 1)) l)).map (l :: ·)).map (P ++ ·) = chL n r (P ++ [l]) := fun l hb => by
      have hP2 : ∀ y ∈ P ++ [l], -10 ≤ y ∧ y ≤ 10 := fun y hy => by
        rcases List.mem_append.1 hy with h | h
        · exact hP y h
        · rw [List.mem_singleton] at h; omega
      have hsh : shW t 0 (P ++ [l]) = shW t 0 P + shr t (t - (r + 1 + 1)) l := by
        rw [shW_app, shW_one, show 0 + P.length = t - (r + 1 + 1) by omega]
      by_cases hneg : 2 * n - shW t 0 P - shr t (t - (r + 1 + 1)) l < 0
      · rw [if_pos hneg, List.map_nil]
        symm
        rw [List.eq_nil_iff_forall_not_mem]
        intro v hv
        obtain ⟨L, h2, h3, x, rfl⟩ := mem_chL r _ hv
        have h4 := two_size' L
        rw [h3, show (P ++ [l]).length + r + 1 = t by simp; omega, shW_app, hsh] at h4
        have h5 := shW_pos ht x (0 + (P ++ [l]).length) (by simp only [List.length_append, List.length_singleton] at h3 ⊢; omega)
        omega
      · rw [if_neg hneg]
        have ih := lw_eq ht hn r (P ++ [l]) (by rw [List.length_append, List.length_singleton]; omega) hP2
        rw [hsh, List.sum_append, List.sum_singleton] at ih
        rw [← ih, List.map_map, show -P.sum - l = -(P.sum + l) by omega, show 2 * n - shW t 0 P - shr t (t - (r + 1 + 1)) l = 2 * n - (shW t 0 P + shr t (t - (r + 1 + 1)) l) by omega]
        exact List.map_congr_left fun y _ => by simp
    have hout : ∀ l, -10 ≤ l ∧ l ≤ 10 → ¬ (-4 ≤ l ∧ l ≤ 4) → chL n r (P ++ [l]) = [] := fun l hb h4 => by
      rw [List.eq_nil_iff_forall_not_mem]
      intro v hv
      obtain ⟨L, h2, h3, x, rfl⟩ := mem_chL r _ hv
      have := lev_small4 L (by omega) P.length (by simp)
      rw [List.append_assoc] at this
      simp [List.getD] at this
      omega
    rw [lf, chL, List.map_flatMap, lvl_part, List.flatMap_append, List.flatMap_append]
    have nilA : ∀ A : List Int, (∀ l ∈ A, (-10 ≤ l ∧ l ≤ 10) ∧ ¬ (-4 ≤ l ∧ l ≤ 4)) → A.flatMap (fun l => (if 2 * n - shW t 0 P - shr t (t - (r + 1 + 1)) l < 0 then [] else (lf t (r + 1) (-P.sum - l) (2 * n - shW t 0 P - shr t (t - (r + 1 + 1)) l)).map (l :: ·)).map (P ++ ·)) = [] := fun A hA => by
      rw [List.flatMap_eq_nil_iff]
      intro l hl
      rw [hpt l (hA l hl).1, hout l (hA l hl).1 (hA l hl).2]
    rw [nilA [-10, -9, -8, -7, -6, -5] (by decide), nilA [5, 6, 7, 8, 9, 10] (by decide), List.nil_append, List.append_nil]
    exact flat_congr _ fun l hl => hpt l (by have := mem_lvl.1 hl; omega)
theorem lw_main {t : Nat} {n : Int} (ht : 2 ≤ t ∧ t ≤ 6) (hn : n ≤ 30) : lf t t 0 (2 * n) = chL n (t - 1) [] := by
  have := lw_eq ht hn (t - 1) [] (by simp; omega) (fun y hy => by cases hy)
  rw [show t - 1 + 1 = t by omega] at this
  simpa [shW] using this
theorem chL_len {n : Int} : ∀ (r : Nat) (P : List Int), (chL n r P).length ≤ 9 ^ r
  | 0, P => by rw [chL]; split <;> simp
  | r + 1, P => by
    rw [chL, List.length_flatMap]
    have : ∀ L : List Int, (L.map fun c => (chL n r (P ++ [c])).length).sum ≤ L.length * 9 ^ r := fun L => by
      induction L with
      | nil => simp
      | cons a l ih =>
        have := chL_len (n := n) r (P ++ [a])
        rw [List.map_cons, List.sum_cons, List.length_cons, Nat.add_mul]; omega
    have h2 := this (lvl 4 9)
    rw [show (lvl 4 9).length = 9 from rfl] at h2
    rw [Nat.pow_succ]; omega
end Go.Proofs.Ytkbdlhmkiolegaa
/-
  Contracts: levelsFrom and its users of the program; slices.Concat at rows that may be empty.
-/
namespace Go.Proofs.Ytkbdlhmkiolegaa
open Go.RowKit

theorem mul3_bd {t : Nat} {x : Int} (ht : 2 ≤ t ∧ t ≤ 6) (hx : -10 ≤ x ∧ x ≤ 10) : -60 ≤ (t : Int) * x ∧ (t : Int) * x ≤ 60 ∧ 0 ≤ (t : Int) * x * x ∧ (t : Int) * x * x ≤ 600 := by
  have h := sq_bd hx
  rw [Int.mul_assoc]
  generalize x * x = y at *
  have : t = 2 ∨ t = 3 ∨ t = 4 ∨ t = 5 ∨ t = 6 := by omega
  rcases this with rfl | rfl | rfl | rfl | rfl <;> simp <;> omega
theorem mul4_bd {a x : Int} (ha : -10 ≤ a ∧ a ≤ 10) (hx : -10 ≤ x ∧ x ≤ 10) : -100 ≤ a * x ∧ a * x ≤ 100 := by
  have : a = -10 ∨ a = -9 ∨ a = -8 ∨ a = -7 ∨ a = -6 ∨ a = -5 ∨ a = -4 ∨ a = -3 ∨ a = -2 ∨ a = -1 ∨ a = 0 ∨ a = 1 ∨ a = 2 ∨ a = 3 ∨ a = 4 ∨ a = 5 ∨ a = 6 ∨ a = 7 ∨ a = 8 ∨ a = 9 ∨ a = 10 := by omega
  rcases this with rfl | rfl | rfl | rfl | rfl | rfl | rfl | rfl | rfl | rfl | rfl | rfl | rfl | rfl | rfl | rfl | rfl | rfl | rfl | rfl | rfl <;> omega
theorem shr_alt (t i : Nat) (x : Int) : shr t i x = (t : Int) * x * x + (2 * (i : Int) - ((t : Int) - 1)) * x := by unfold shr; grind
def lfr (t r : Nat) (s h l : Int) : List (List Int) := if h - shr t (t - (r + 1)) l < 0 then [] else (lf t r (s - l) (h - shr t (t - (r + 1)) l)).map (l :: ·)
def lfK (t r : Nat) (s h : Int) (K : Nat) : List (List Int) := (lvl 10 K).flatMap (lfr t r s h)
theorem lfK_succ (t r : Nat) (s h : Int) (K : Nat) : lfK t r s h (K + 1) = lfK t r s h K ++ lfr t r s h ((K : Int) - 10) := by
  unfold lfK; rw [lvl_succ, List.flatMap_append]; simp
theorem lfK_all (t r : Nat) (s h : Int) : lfK t r s h 21 = lf t (r + 1) s h := rfl
def lfJ (M : List (List Int)) (l : Int) (j : Nat) : List (List Int) := (M.take j).map (l :: ·)
theorem lfJ_succ {M : List (List Int)} {l : Int} {j : Nat} (hj : j < M.length) : lfJ M l (j + 1) = lfJ M l j ++ [l :: M.getD j []] := by
  unfold lfJ
  rw [List.take_succ_eq_append_getElem hj, List.map_append]; simp [List.getD, hj]
theorem lfJ_len {M : List (List Int)} {l : Int} {j : Nat} (hj : j ≤ M.length) : (lfJ M l j).length = j := by simp [lfJ]; omega
theorem lf_len {t : Nat} : ∀ (r : Nat) (s h : Int), (lf t r s h).length ≤ 21 ^ r
  | 0, s, h => by rw [lf_zero]; split <;> simp
  | r + 1, s, h => by
    rw [lf, List.length_flatMap]
    have : ∀ L : List Int, (L.map fun l => (if h - shr t (t - (r + 1)) l < 0 then [] else (lf t r (s - l) (h - shr t (t - (r + 1)) l)).map (l :: ·)).length).sum ≤ L.length * 21 ^ r := fun L => by
      induction L with
      | nil => simp
      | cons a l ih =>
        rw [List.map_cons, List.sum_cons, List.length_cons, Nat.add_mul]
        have h1 : (if h - shr t (t - (r + 1)) a < 0 then [] else (lf t r (s - a) (h - shr t (t - (r + 1)) a)).map (a :: ·)).length ≤ 21 ^ r := by
          split
          · simp
          · rw [List.length_map]; exact lf_len r _ _
        omega
    have h2 := this (lvl 10 21)
    rw [show (lvl 10 21).length = 21 from rfl] at h2
    rw [Nat.pow_succ]; omega
theorem lfK_len {t : Nat} (r : Nat) (s h : Int) (K : Nat) (hK : K ≤ 21) : (lfK t r s h K).length ≤ 21 ^ (r + 1) := by
  have h1 := lf_len (t := t) (r + 1) s h
  rw [← lfK_all] at h1
  have key : ∀ d, K + d ≤ 21 → (lfK t r s h K).length ≤ (lfK t r s h (K + d)).length := fun d => by
    induction d with
    | zero => intro _; exact Nat.le_refl _
    | succ d ih => intro hd; have := ih (by omega); rw [show K + (d + 1) = K + d + 1 by omega, lfK_succ, List.length_append]; omega
  have := key (21 - K) (by omega)
  rw [show K + (21 - K) = 21 by omega] at this
  omega
theorem pow21 {r : Nat} (h : r ≤ 6) : 21 ^ r ≤ 100000000 := by
  have : r = 0 ∨ r = 1 ∨ r = 2 ∨ r = 3 ∨ r = 4 ∨ r = 5 ∨ r = 6 := by omega
  rcases this with rfl | rfl | rfl | rfl | rfl | rfl | rfl <;> decide
end Go.Proofs.Ytkbdlhmkiolegaa
/-
  Contracts: levelsFrom, LevelsWith and CountCores of the program.
-/
namespace Go.Proofs.Ytkbdlhmkiolegaa
open Go.RowKit

def lwOk (t n : Int) : Bool := inB 2 6 t && okN n
def lwF (t n : Int) : List (List Int) := if lwOk t n then chL n (t.toNat - 1) [] else []
def lwN (t n : Int) : Int := (lwF t n).length
theorem lw_no {t n : Int} (h : lwOk t n = false) : lwF t n = [] := by simp [lwF, h]
theorem lw_yes {t n : Int} (h : lwOk t n = true) : lwF t n = chL n (t.toNat - 1) [] := by simp [lwF, h]
theorem bound_LevelsWith (t n : Int) : (lwF t n).length ≤ 1048576 ∧ tot (lwF t n) ≤ 1048576 := by
  cases h : lwOk t n
  · rw [lw_no h]; simp [tot]
  · rw [lw_yes h]
    simp only [lwOk, Bool.and_eq_true] at h
    have hin := inB_iff.1 h.1
    have h1 := chL_len (n := n) (t.toNat - 1) []
    have h2 : 9 ^ (t.toNat - 1) ≤ 59049 := by
      have : t.toNat - 1 = 1 ∨ t.toNat - 1 = 2 ∨ t.toNat - 1 = 3 ∨ t.toNat - 1 = 4 ∨ t.toNat - 1 = 5 := by omega
      rcases this with e | e | e | e | e <;> rw [e] <;> decide
    have h3 := tot_le (chL n (t.toNat - 1) []) 6 fun r hr => by
      have := (mem_chL _ _ hr).2.2.1
      simp at this; omega
    omega

end Go.Proofs.Ytkbdlhmkiolegaa
/-
  Contracts: chAll, LevelsWith and CountCores of the model.
-/
namespace Go.Proofs.Ytkbdlhmkiolegaa
open Go.RowKit

def chK (n : Int) (r : Nat) (P : List Int) (K : Nat) : List (List Int) := (lvl 4 K).flatMap fun c => chL n r (P ++ [c])
theorem chK_succ (n : Int) (r : Nat) (P : List Int) (K : Nat) : chK n r P (K + 1) = chK n r P K ++ chL n r (P ++ [(K : Int) - 4]) := by
  unfold chK; rw [lvl_succ, List.flatMap_append]; simp
theorem chK_len {n : Int} (r : Nat) (P : List Int) (K : Nat) (hK : K ≤ 9) : (chK n r P K).length ≤ 9 ^ (r + 1) := by
  have h1 := chL_len (n := n) (r + 1) P
  have e : chL n (r + 1) P = chK n r P 9 := rfl
  rw [e] at h1
  have key : ∀ d, K + d ≤ 9 → (chK n r P K).length ≤ (chK n r P (K + d)).length := fun d => by
    induction d with
    | zero => intro _; exact Nat.le_refl _
    | succ d ih => intro hd; have := ih (by omega); rw [show K + (d + 1) = K + d + 1 by omega, chK_succ, List.length_append]; omega
  have := key (9 - K) (by omega)
  rw [show K + (9 - K) = 9 by omega] at this
  omega
theorem pow9 {r : Nat} (h : r ≤ 6) : 9 ^ r ≤ 1000000 := by
  have : r = 0 ∨ r = 1 ∨ r = 2 ∨ r = 3 ∨ r = 4 ∨ r = 5 ∨ r = 6 := by omega
  rcases this with rfl | rfl | rfl | rfl | rfl | rfl | rfl <;> decide

end Go.Proofs.Ytkbdlhmkiolegaa
/-
  Contracts: CoreOfLevels of the program.
-/
namespace Go.Proofs.Ytkbdlhmkiolegaa
open Go.RowKit

end Go.Proofs.Ytkbdlhmkiolegaa
/-
  Contracts: CoreOfLevels of the model.
-/
namespace Go.Proofs.Ytkbdlhmkiolegaa
open Go.RowKit

theorem bpk_snoc (L : List Int) (y : Int) : ∀ k, k ≤ L.length → bpk (L ++ [y]) (k + 1) = (if (L.length : Int) < y then [y - L.length] else []) ++ bpk L k
  | 0, _ => by
    have hi : L.length = (L ++ [y]).length - 1 - 0 := by simp
    have hx : y = (L ++ [y]).getD L.length 0 := by simp [List.getD]
    by_cases c : (L.length : Int) < y
    · rw [bpk_yes hi hx c, if_pos c]; simp [bpk]
    · rw [bpk_no hi hx c, if_neg c]; simp [bpk]
  | k + 1, h => by
    have ih := bpk_snoc L y k (by omega)
    have hi : L.length - 1 - k = (L ++ [y]).length - 1 - (k + 1) := by simp; omega
    have hx : L.getD (L.length - 1 - k) 0 = (L ++ [y]).getD (L.length - 1 - k) 0 := by
      rw [List.getD_eq_getElem?_getD, List.getD_eq_getElem?_getD, List.getElem?_append_left (by omega)]
    by_cases c : ((L.length - 1 - k : Nat) : Int) < L.getD (L.length - 1 - k) 0
    · rw [bpk_yes hi hx c, ih, bpk_yes rfl rfl c, List.append_assoc]
    · rw [bpk_no hi hx c, ih, bpk_no rfl rfl c]
theorem parts_snoc (L : List Int) (y : Int) : partsL (L ++ [y]) = (if (L.length : Int) < y then [y - L.length] else []) ++ partsL L := by
  unfold partsL
  rw [List.length_append, List.length_singleton, bpk_snoc L y _ (Nat.le_refl _)]
/-- Whether the number m, counted from the least one, is a bead. -/
def hB (xs : List Int) (m : Nat) : Bool := decide (((m / xs.length : Nat) : Int) < 11 + xs.getD (m % xs.length) 0)
def kP (xs : List Int) : Nat → List Int
  | 0 => []
  | m + 1 => kP xs m ++ if hB xs m then [(m : Int)] else []
theorem own_drewN' {w : World} {B c : Nat} {A : Option Addr} {xs : List Int} (h : Own w B A c xs) (n : Nat) : Own (w.drewN n) B A c xs := h
def oL (xs : List Int) (m : Nat) : List Int := partsL (kP xs m)
def frN (xs : List Int) (m : Nat) : Nat := m - (kP xs m).length
theorem kP_len (xs : List Int) : ∀ m, (kP xs m).length ≤ m
  | 0 => Nat.le_refl 0
  | m + 1 => by have := kP_len xs m; rw [kP]; split <;> simp <;> omega
theorem mem_kP {xs : List Int} {x : Int} : ∀ m : Nat, x ∈ kP xs m ↔ 0 ≤ x ∧ x < m ∧ hB xs x.toNat = true
  | 0 => by simp [kP]; omega
  | m + 1 => by
    rw [kP, List.mem_append, mem_kP m]
    by_cases h : hB xs m = true
    · rw [if_pos h, List.mem_singleton]
      constructor
      · rintro (⟨a, b, c⟩ | rfl)
        · exact ⟨a, by omega, c⟩
        · exact ⟨by omega, by omega, by rw [Int.toNat_natCast]; exact h⟩
      · rintro ⟨a, b, c⟩
        by_cases e : x = m
        · exact .inr e
        · exact .inl ⟨a, by omega, c⟩
    · rw [if_neg h]
      constructor
      · rintro (⟨a, b, c⟩ | hh)
        · exact ⟨a, by omega, c⟩
        · cases hh
      · rintro ⟨a, b, c⟩
        by_cases e : x = m
        · subst e; rw [Int.toNat_natCast] at c; exact absurd c h
        · exact .inl ⟨a, by omega, c⟩
theorem kP_pw (xs : List Int) : ∀ m, (kP xs m).Pairwise (· < ·)
  | 0 => List.Pairwise.nil
  | m + 1 => by
    rw [kP, List.pairwise_append]
    refine ⟨kP_pw xs m, by split <;> simp, fun a ha b hb => ?_⟩
    have := ((mem_kP m).1 ha).2.1
    split at hb
    · rw [List.mem_singleton] at hb; omega
    · cases hb
theorem kP_all {xs : List Int} (L : Lev xs) : kP xs (22 * xs.length) = kL 11 xs := by
  have h2 := L.lo
  refine pw_ext (kP_pw _ _) (kL_pw _ _) fun x => ?_
  rw [mem_kP, mem_kL (by omega)]
  constructor
  · rintro ⟨h1, _, h3⟩
    obtain ⟨m, rfl⟩ : ∃ m : Nat, x = m := ⟨x.toNat, by omega⟩
    rw [Int.toNat_natCast] at h3
    refine ⟨h1, ?_⟩
    have := of_decide_eq_true h3
    rw [← Int.natCast_ediv, ← Int.natCast_emod, Int.toNat_natCast]
    exact this
  · rintro ⟨h1, h3⟩
    obtain ⟨m, rfl⟩ : ∃ m : Nat, x = m := ⟨x.toNat, by omega⟩
    rw [← Int.natCast_ediv, ← Int.natCast_emod, Int.toNat_natCast] at h3
    refine ⟨h1, ?_, ?_⟩
    · have hb := L.bd (m % xs.length) (Nat.mod_lt _ (by omega))
      have hd : m / xs.length < 22 := by omega
      rw [Nat.div_lt_iff_lt_mul (by omega)] at hd
      omega
    · rw [Int.toNat_natCast]; exact decide_eq_true h3
theorem o_yes {xs : List Int} {m : Nat} (h : hB xs m = true) (hf : 0 < frN xs m) : oL xs (m + 1) = (frN xs m : Int) :: oL xs m := by
  have := kP_len xs m
  unfold frN at hf
  unfold oL frN
  rw [kP, if_pos h, parts_snoc, if_pos (by omega), show (m : Int) - ((kP xs m).length : Int) = ((m - (kP xs m).length : Nat) : Int) by omega]; rfl
theorem o_zero {xs : List Int} {m : Nat} (h : hB xs m = true) (hf : frN xs m = 0) : oL xs (m + 1) = oL xs m := by
  unfold frN at hf
  unfold oL
  rw [kP, if_pos h, parts_snoc, if_neg (by omega)]; rfl
theorem o_no {xs : List Int} {m : Nat} (h : hB xs m = false) : oL xs (m + 1) = oL xs m := by
  unfold oL
  rw [kP, h]; simp
theorem f_yes {xs : List Int} {m : Nat} (h : hB xs m = true) : frN xs (m + 1) = frN xs m := by
  unfold frN
  rw [kP, if_pos h]; simp
theorem f_no {xs : List Int} {m : Nat} (h : hB xs m = false) : frN xs (m + 1) = frN xs m + 1 := by
  have := kP_len xs m
  unfold frN
  rw [kP, h]; simp; omega
theorem o_len (xs : List Int) (m : Nat) : (oL xs m).length ≤ m := Nat.le_trans (pk_len _ _) (kP_len xs m)

/-- The numbers of a round: the runner and the row. -/
theorem round_nums {t m : Nat} (ht : 2 ≤ t ∧ t ≤ 6) {x : Int} (hx : x = (m : Int) - 11 * t) :
    x % (t : Int) = (m % t : Nat) ∧ Int.tdiv (x - (m % t : Nat)) (t : Int) = (m / t : Nat) - 11 := by
  have h1 := Nat.div_add_mod m t
  have h2 : (m : Int) = (t : Int) * ((m / t : Nat) : Int) + ((m % t : Nat) : Int) := by rw [← Int.natCast_mul, ← Int.natCast_add]; omega
  constructor
  · have := Int.add_mul_emod_self_right (a := (m : Int)) (b := -11) (c := (t : Int))
    rw [hx, show (m : Int) - 11 * t = m + -11 * t by omega, this]; rfl
  · have e : x - (m % t : Nat) = (t : Int) * (((m / t : Nat) : Int) - 11) := by
      rw [hx, Int.mul_sub]; omega
    rw [e, Int.mul_tdiv_cancel_left _ (by omega)]

theorem bound_CoreOfLevels (xs : List Int) : (clF xs).length ≤ 1048576 := by
  unfold clF; split
  · rename_i h
    simp only [clOk, Bool.and_eq_true, decide_eq_true_eq] at h
    have L := levB_iff.1 h.1
    have h2 := L.lo
    have h6 := L.hi
    have := kL_len (q := 11) L fun i hi => by have := L.bd i hi; omega
    have := pk_len (kL 11 xs) (kL 11 xs).length
    unfold partsL
    omega
  · simp
end Go.Proofs.Ytkbdlhmkiolegaa
