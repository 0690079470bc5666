/-
  Several texts in one.
-/
import Derived.Test.YtiebnnchaopbkaaR06
import Derived.Test.YtiebnnchaopbkaaCA
import Derived.Test.YtiebnnchaopbkaaR10
import Derived.Test.YtiebnnchaopbkaaCC
import Derived.Test.YtiebnnchaopbkaaR14
import Derived.Test.YtiebnnchaopbkaaR03
import Derived.Test.YtiebnnchaopbkaaCB
import Derived.Test.YtiebnnchaopbkaaR05
import Derived.Test.YtiebnnchaopbkaaR27
import Derived.Test.YtiebnnchaopbkaaCH
import Derived.Test.YtiebnnchaopbkaaR24
import Derived.Test.YtiebnnchaopbkaaR08
import Derived.Test.YtiebnnchaopbkaaR21
import Derived.Test.YtiebnnchaopbkaaR04
import Derived.BigQuiet
/-
  Plain facts: the beads of levels, their sum, their partition. No program in this text.
-/
namespace Go.Proofs.Ytiebnnchaopbkaa
open Go.RowKit

/-- Runner i with its first q and level i rows. -/
def fillR (q : Nat) (xs : List Int) (i : Nat) : List Int := upTo ((q : Int) + xs.getD i 0).toNat
def kL (q : Nat) (xs : List Int) : List Int := insF (abfL xs.length (fillR q xs) xs.length)
theorem kL_nodup (q : Nat) (xs : List Int) : (abfL xs.length (fillR q xs) xs.length).Nodup := abfL_nodup _ (Nat.le_refl _) fun _ _ => pw_nodup (upTo_pw _)
theorem kL_pw (q : Nat) (xs : List Int) : (kL q xs).Pairwise (· < ·) := (insF_all (kL_nodup q xs)).1
theorem mem_kL {q : Nat} {xs : List Int} (ht : 0 < xs.length) {x : Int} : x ∈ kL q xs ↔ 0 ≤ x ∧ x / (xs.length : Int) < q + xs.getD (x % (xs.length : Int)).toNat 0 := by
  obtain ⟨t, hte⟩ : ∃ t, t = xs.length := ⟨_, rfl⟩
  unfold kL
  rw [(insF_all (kL_nodup q xs)).2.1 x, mem_abfL]
  rw [← hte] at ht ⊢
  constructor
  · rintro ⟨i, y, h1, h2, rfl⟩
    unfold fillR at h2
    have h3 := mem_upTo.1 h2
    obtain ⟨e1, e2⟩ := lay_div (y := y) h1
    rw [e1, e2, Int.toNat_natCast]
    refine ⟨?_, by omega⟩
    have := Int.mul_nonneg h3.1 (show (0 : Int) ≤ t by omega)
    omega
  · rintro ⟨h1, h2⟩
    have h4 := Int.emod_nonneg x (show (t : Int) ≠ 0 by omega)
    have h5 := Int.emod_lt_of_pos x (show 0 < (t : Int) by omega)
    have h6 := Int.mul_ediv_add_emod x t
    have h7 := Int.ediv_nonneg h1 (show (0 : Int) ≤ t by omega)
    refine ⟨(x % (t : Int)).toNat, x / (t : Int), by omega, mem_upTo.2 ⟨h7, by omega⟩, ?_⟩
    rw [Int.mul_comm]; omega
theorem parts_shift (L : List Int) : ∀ k, partsL (shiftL L k) = partsL L
  | 0 => by unfold shiftL; simp [upTo, fnRow]
  | k + 1 => by
    have e : shiftL L (k + 1) = shL (shiftL L k) := by
      unfold shiftL shL
      rw [List.map_append, List.map_map]
      have e1 : upTo (k + 1) = 0 :: (upTo k).map fun x => x + 1 := by
        unfold upTo fnRow
        rw [List.range_succ_eq_map, List.map_cons, List.map_map, List.map_map]
        rfl
      rw [e1, List.cons_append]
      congr 2
      exact List.map_congr_left fun x _ => by simp; omega
    rw [e, parts_sh, parts_shift L k]
theorem kL_up {q : Nat} {xs : List Int} (ht : 0 < xs.length) (h : ∀ i, i < xs.length → 0 ≤ (q : Int) + xs.getD i 0) : kL (q + 1) xs = shiftL (kL q xs) xs.length := by
  have hp : (shiftL (kL q xs) xs.length).Pairwise (· < ·) := by
    unfold shiftL
    rw [List.pairwise_append]
    refine ⟨upTo_pw _, ?_, fun a ha b hb => ?_⟩
    · rw [List.pairwise_map]
      refine List.Pairwise.imp ?_ (kL_pw q xs)
      intro a b hab; omega
    · have h1 := mem_upTo.1 ha
      obtain ⟨z, hz, rfl⟩ := List.mem_map.1 hb
      have := ((mem_kL ht).1 hz).1
      omega
  refine pw_ext (kL_pw _ _) hp fun x => ?_
  have hm : x ∈ shiftL (kL q xs) xs.length ↔ (0 ≤ x ∧ x < xs.length) ∨ x - xs.length ∈ kL q xs := by
    unfold shiftL
    rw [List.mem_append, mem_upTo, List.mem_map]
    constructor
    · rintro (h1 | ⟨y, hy, rfl⟩)
      · exact .inl h1
      · exact .inr (by rw [show y + (xs.length : Int) - xs.length = y by omega]; exact hy)
    · rintro (h1 | h1)
      · exact .inl h1
      · exact .inr ⟨_, h1, by omega⟩
  rw [hm, mem_kL ht, mem_kL ht]
  obtain ⟨t, hte⟩ : ∃ t, t = xs.length := ⟨_, rfl⟩
  rw [← hte] at ht h ⊢
  have e1 : (x - (t : Int)) % (t : Int) = x % (t : Int) := by
    have := Int.add_mul_emod_self_right (a := x) (b := -1) (c := (t : Int))
    rw [show x + -1 * (t : Int) = x - t by omega] at this; exact this
  have e2 : (x - (t : Int)) / (t : Int) = x / (t : Int) - 1 := by
    have := Int.add_mul_ediv_right x (-1) (show (t : Int) ≠ 0 by omega)
    rw [show x + -1 * (t : Int) = x - t by omega] at this; omega
  rw [e1, e2]
  have h4 := Int.emod_nonneg x (show (t : Int) ≠ 0 by omega)
  have h5 := Int.emod_lt_of_pos x (show 0 < (t : Int) by omega)
  have h6 := Int.mul_ediv_add_emod x t
  have hq := h (x % (t : Int)).toNat (by omega)
  constructor
  · rintro ⟨h1, h2⟩
    by_cases hx : x < t
    · exact .inl ⟨h1, hx⟩
    · exact .inr ⟨by omega, by omega⟩
  · rintro (⟨h1, h2⟩ | ⟨h1, h2⟩)
    · have : x / (t : Int) = 0 := Int.ediv_eq_zero_of_lt h1 h2
      refine ⟨h1, by rw [this]; omega⟩
    · exact ⟨by omega, by omega⟩
theorem kL_parts {q : Nat} {xs : List Int} (ht : 0 < xs.length) (h : ∀ i, i < xs.length → 0 ≤ (q : Int) + xs.getD i 0) : ∀ d, partsL (kL (q + d) xs) = partsL (kL q xs)
  | 0 => rfl
  | d + 1 => by
    rw [show q + (d + 1) = q + d + 1 by omega, kL_up ht fun i hi => by have := h i hi; omega, parts_shift, kL_parts ht h d]
theorem sq_exp (a b : Int) : (a + b) * (a + b) = a * a + 2 * (a * b) + b * b := by
  rw [Int.add_mul, Int.mul_add, Int.mul_add, Int.mul_comm b a]; omega
theorem tri_sq : ∀ n : Nat, 2 * tri n = (n : Int) * n - n
  | 0 => by simp [tri]
  | n + 1 => by
    have := tri_sq n
    rw [tri, show ((n + 1 : Nat) : Int) = (n : Int) + 1 by omega, sq_exp]; omega
theorem sq_ge (x : Int) : x ≤ x * x ∧ -x ≤ x * x ∧ (6 ≤ x → 6 * x ≤ x * x) ∧ (x ≤ -6 → -(6 * x) ≤ x * x) := by
  have key : ∀ y : Int, 0 ≤ y → y ≤ y * y := fun y hy => by
    rcases Int.lt_or_le 0 y with h | h
    · have := Int.mul_le_mul_of_nonneg_right (show (1 : Int) ≤ y by omega) hy
      omega
    · have : y = 0 := by omega
      subst this; simp
  have hn : (-x) * (-x) = x * x := Int.neg_mul_neg x x
  rcases Int.lt_or_le x 0 with h | h
  · have h1 := key (-x) (by omega)
    rw [hn] at h1
    refine ⟨by omega, by omega, fun h2 => by omega, fun h2 => ?_⟩
    have := Int.mul_le_mul_of_nonneg_right (show (6 : Int) ≤ -x by omega) (show 0 ≤ -x by omega)
    rw [hn] at this; omega
  · have h1 := key x h
    refine ⟨h1, by omega, fun h2 => ?_, fun h2 => by omega⟩
    exact Int.mul_le_mul_of_nonneg_right h2 h
theorem list_of {xs : List Int} {t : Nat} (h : xs.length = t) : xs = (List.range t).map fun i => xs.getD i 0 := by
  apply List.ext_getElem
  · simp [h]
  · intro j h1 h2
    simp [List.getD, h1]
theorem sum_of (xs : List Int) : ∀ k, k ≤ xs.length → (xs.take k).sum = sumN (fun i => xs.getD i 0) k
  | 0, _ => by simp [sumN]
  | k + 1, h => by rw [take_snoc xs k (by omega) _ rfl, List.sum_append, sum_of xs k (by omega), sumN]; simp
theorem sq_sumN (xs : List Int) : ∀ n, sqSum xs n = sumN (fun i => xs.getD i 0 * xs.getD i 0) n
  | 0 => rfl
  | n + 1 => by rw [sqSum, sumN, sq_sumN xs n]
theorem ix_sumN (xs : List Int) : ∀ n, ixSum xs n = sumN (fun i => (i : Int) * xs.getD i 0) n
  | 0 => rfl
  | n + 1 => by rw [ixSum, sumN, ix_sumN xs n]
theorem lev_sumN {xs : List Int} (L : Lev xs) : sumN (fun i => xs.getD i 0) xs.length = 0 := by
  have hs := sum_of xs xs.length (Nat.le_refl _)
  rw [List.take_of_length_le (Nat.le_refl _), L.sum] at hs
  exact hs.symm
theorem sumN_pos {f : Nat → Int} : ∀ n, (∀ i, i < n → 0 ≤ f i) → 0 ≤ sumN f n
  | 0, _ => Int.le_refl 0
  | n + 1, h => by rw [sumN]; have := sumN_pos n fun i hi => h i (by omega); have := h n (by omega); omega
theorem sumN_one_le {f : Nat → Int} : ∀ n, (∀ i, i < n → 0 ≤ f i) → ∀ i, i < n → f i ≤ sumN f n
  | n + 1, h, i, hi => by
    rw [sumN]
    have h1 := h n (by omega)
    by_cases e : i = n
    · subst e; have := sumN_pos i fun j hj => h j (by omega); omega
    · have := sumN_one_le n (fun j hj => h j (by omega)) i (by omega); omega
/-- Twice the share of a level in the size. -/
def shr (t i : Nat) (x : Int) : Int := t * (x * x) + (2 * (i : Int) - t + 1) * x
theorem shr_ge {t i : Nat} (ht : 2 ≤ t ∧ t ≤ 6) (hi : i < t) (x : Int) : 0 ≤ shr t i x ∧ (6 ≤ x ∨ x ≤ -6 → 61 ≤ shr t i x) := by
  obtain ⟨g1, g2, g3, g4⟩ := sq_ge x
  have ht6 : t = 2 ∨ t = 3 ∨ t = 4 ∨ t = 5 ∨ t = 6 := by omega
  have hi6 : i = 0 ∨ i = 1 ∨ i = 2 ∨ i = 3 ∨ i = 4 ∨ i = 5 := by omega
  unfold shr
  generalize x * x = y at *
  rcases ht6 with rfl | rfl | rfl | rfl | rfl <;> (rcases hi6 with rfl | rfl | rfl | rfl | rfl | rfl <;> first | omega | (simp; omega))
theorem two_size {xs : List Int} (L : Lev xs) : 2 * sizeL xs = sumN (fun i => shr xs.length i (xs.getD i 0)) xs.length := by
  have h0 := lev_sumN L
  have he := sqSum_even L
  obtain ⟨m, hm⟩ : ∃ m, sqSum xs xs.length = 2 * m := ⟨sqSum xs xs.length / 2, by omega⟩
  have hz : 2 * sizeL xs = xs.length * sqSum xs xs.length + 2 * ixSum xs xs.length := by
    unfold sizeL
    rw [hm, Int.mul_ediv_cancel_left _ (by decide)]; grind
  rw [hz, sq_sumN, ix_sumN]
  obtain ⟨t, ht⟩ : ∃ t, t = xs.length := ⟨_, rfl⟩
  rw [← ht] at h0 ⊢
  have key : ∀ n, sumN (fun i => shr t i (xs.getD i 0)) n = t * sumN (fun i => xs.getD i 0 * xs.getD i 0) n + 2 * sumN (fun i => (i : Int) * xs.getD i 0) n + (1 - (t : Int)) * sumN (fun i => xs.getD i 0) n := by
    intro n
    induction n with
    | zero => simp [sumN]
    | succ n ih => rw [sumN, ih, sumN, sumN, sumN]; unfold shr; grind
  rw [key, h0]; omega
/-- The levels of a small core are small. -/
theorem lev_small {xs : List Int} (L : Lev xs) (h : sizeL xs ≤ 30) (i : Nat) (hi : i < xs.length) : -5 ≤ xs.getD i 0 ∧ xs.getD i 0 ≤ 5 := by
  have h1 := two_size L
  have h2 := sumN_one_le (f := fun i => shr xs.length i (xs.getD i 0)) xs.length (fun j hj => (shr_ge ⟨L.lo, L.hi⟩ hj _).1) i hi
  have h3 := (shr_ge ⟨L.lo, L.hi⟩ hi (xs.getD i 0)).2
  have h4 : shr xs.length i (xs.getD i 0) ≤ 2 * sizeL xs := by rw [h1]; exact h2
  omega
theorem kL_len {q : Nat} {xs : List Int} (L : Lev xs) (h : ∀ i, i < xs.length → 0 ≤ (q : Int) + xs.getD i 0) : ((kL q xs).length : Int) = xs.length * q := by
  have h0 := lev_sumN L
  unfold kL
  rw [(insF_all (kL_nodup q xs)).2.2, abfL_len]
  have e : sumN (fun i => ((fillR q xs i).length : Int)) xs.length = sumN (fun i => (q : Int) + xs.getD i 0) xs.length :=
    sumN_congr _ fun i hi => by have := h i hi; unfold fillR; rw [upTo_len]; omega
  rw [e]
  have key : ∀ n : Nat, sumN (fun i => (q : Int) + xs.getD i 0) n = n * q + sumN (fun i => xs.getD i 0) n := by
    intro n
    induction n with
    | zero => simp [sumN]
    | succ n ih => rw [sumN, ih, sumN]; grind
  rw [key, h0]; omega
theorem kL_sum {q : Nat} {xs : List Int} (L : Lev xs) (h : ∀ i, i < xs.length → 0 ≤ (q : Int) + xs.getD i 0) : (kL q xs).sum = sizeL xs + tri (xs.length * q) := by
  have h0 := lev_sumN L
  have h1 := two_size L
  have h2 := tri_sq (xs.length * q)
  unfold kL
  rw [insF_sum, abfL_sum]
  obtain ⟨t, ht⟩ : ∃ t, t = xs.length := ⟨_, rfl⟩
  rw [← ht] at h0 h1 h2 h ⊢
  have e : ∀ i, i < t → 2 * ((t : Int) * (fillR q xs i).sum + i * (fillR q xs i).length) = shr t i (xs.getD i 0) + (2 * (t : Int) * q - 1) * xs.getD i 0 + (t * (q * q - q) + 2 * i * q) := by
    intro i hi
    have := h i hi
    obtain ⟨n, hn⟩ : ∃ n : Nat, (n : Int) = (q : Int) + xs.getD i 0 := ⟨((q : Int) + xs.getD i 0).toNat, by omega⟩
    have h3 := tri_sq n
    have e1 : (fillR q xs i) = upTo n := by unfold fillR; rw [← hn]; simp
    rw [e1, upTo_sum, upTo_len]
    have e2 : xs.getD i 0 = (n : Int) - q := by omega
    rw [e2]; unfold shr; grind
  have key : ∀ n, n ≤ t → 2 * sumN (fun i => (t : Int) * (fillR q xs i).sum + i * (fillR q xs i).length) n = sumN (fun i => shr t i (xs.getD i 0)) n + (2 * (t : Int) * q - 1) * sumN (fun i => xs.getD i 0) n + ((n : Int) * (t * (q * q - q)) + (n * n - n) * q) := by
    intro n
    induction n with
    | zero => intro _; simp [sumN]
    | succ n ih =>
      intro hn
      have a := ih (by omega)
      have b := e n (by omega)
      simp only [sumN]
      rw [show ((n + 1 : Nat) : Int) = (n : Int) + 1 by omega]
      grind
  have := key t (Nat.le_refl _)
  rw [h0] at this
  rw [show ((t * q : Nat) : Int) = (t : Int) * q by simp] at h2
  have h3 : 2 * sumN (fun i => (t : Int) * (fillR q xs i).sum + i * (fillR q xs i).length) t = 2 * (sizeL xs + tri (t * q)) := by grind
  omega
theorem kL_bd {q : Nat} {xs : List Int} (L : Lev xs) (hq : q ≤ 20) : ∀ x ∈ kL q xs, 0 ≤ x ∧ x ≤ 1000 := fun x hx => by
  have h2 := L.lo
  have h6 := L.hi
  obtain ⟨h3, h4⟩ := (mem_kL (by omega)).1 hx
  obtain ⟨t, ht⟩ : ∃ t, t = xs.length := ⟨_, rfl⟩
  have h5 := Int.mul_ediv_add_emod x t
  have h7 := Int.emod_lt_of_pos x (show 0 < (t : Int) by omega)
  have h8 := Int.emod_nonneg x (show (t : Int) ≠ 0 by omega)
  have h9 := L.bd (x % (xs.length : Int)).toNat (by rw [← ht]; omega)
  rw [← ht] at h4 h9 h2 h6
  have h10 : (t : Int) * (x / (t : Int)) ≤ 6 * 40 := Int.mul_le_mul (by omega) (by omega) (Int.ediv_nonneg h3 (by omega)) (by omega)
  exact ⟨h3, by omega⟩
theorem kL_good {q : Nat} {xs : List Int} (L : Lev xs) (hs : sizeL xs ≤ 30) (hq : 5 ≤ q) (hm : xs.length * q ≤ 40) : goodB (kL q xs) = true := by
  have h2 := L.lo
  have hq0 : ∀ i, i < xs.length → 0 ≤ (q : Int) + xs.getD i 0 := fun i hi => by have := lev_small L hs i hi; omega
  have hl := kL_len L hq0
  have hsum := kL_sum L hq0
  have hl2 : (kL q xs).length = xs.length * q := by
    have : ((xs.length * q : Nat) : Int) = xs.length * q := by simp
    omega
  have hq20 : q ≤ 20 := by
    have := Nat.mul_le_mul_right q h2
    omega
  refine goodB_of (by omega) (pw_rises (kL_pw q xs) (kL_bd L hq20)) (by rw [hl2, hsum]; omega)
/-- The rows that the program lays. -/
def clR (q : Nat) (xs : List Int) (k : Nat) : List (List Int) := (List.range k).map (fillR q xs)
theorem clR_len (q : Nat) (xs : List Int) (k : Nat) : (clR q xs k).length = k := by simp [clR]
theorem clR_succ (q : Nat) (xs : List Int) (k : Nat) : clR q xs (k + 1) = clR q xs k ++ [fillR q xs k] := by simp [clR, List.range_succ]
theorem clR_get (q : Nat) (xs : List Int) {k i : Nat} (h : i < k) : (clR q xs k).getD i [] = fillR q xs i := by
  simp [clR, List.getD, h]
theorem upTo_rw {n : Nat} (h : n ≤ 36) : rwOk (upTo n) = true := by
  refine rises_Rises.2 ⟨fun j hj => ?_, fun j hj => ?_⟩
  · rw [upTo_len] at hj; unfold upTo; rw [fnRow_get _ _ _ hj]; omega
  · rw [upTo_len] at hj; unfold upTo; rw [fnRow_get _ _ _ (by omega), fnRow_get _ _ _ hj]; omega
theorem clR_frL (q : Nat) (xs : List Int) : frL (clR q xs xs.length) = kL q xs := by
  unfold frL kL
  rw [clR_len]
  congr 1
  have key : ∀ k, k ≤ xs.length → abfL xs.length (rowsR (clR q xs xs.length)) k = abfL xs.length (fillR q xs) k := by
    intro k
    induction k with
    | zero => intro _; rfl
    | succ k ih =>
      intro hk
      rw [abfL, abfL, ih (by omega)]
      unfold rowsR
      rw [clR_get q xs (show k < xs.length by omega)]
  exact key _ (Nat.le_refl _)
theorem clR_ok {q : Nat} {xs : List Int} (L : Lev xs) (hs : sizeL xs ≤ 30) (hq : 5 ≤ q) (hm : xs.length * q ≤ 40) : frOk (clR q xs xs.length) = true := by
  have h2 := L.lo
  have h6 := L.hi
  have h20 : q ≤ 20 := by have := Nat.mul_le_mul_right q h2; omega
  have hin : inB 2 6 ((clR q xs xs.length).length : Int) = true := by rw [clR_len]; exact inB_iff.2 (by omega)
  rw [fr_ok hin ?_, clR_frL, clR_len]
  · rw [clR_len] at hin
    simp [isAba, hin, kL_good L hs hq hm]
  · intro i hi
    rw [clR_len] at hi
    unfold rowsR
    rw [clR_get q xs hi]
    have := lev_small L hs i hi
    exact upTo_rw (by omega)
theorem clR_tot {q : Nat} {xs : List Int} (L : Lev xs) (hs : sizeL xs ≤ 30) (hq : 5 ≤ q) (hm : xs.length * q ≤ 40) : tot (clR q xs xs.length) ≤ 1048576 := by
  have h2 := L.lo
  have h6 := L.hi
  have h20 : q ≤ 20 := by have := Nat.mul_le_mul_right q h2; omega
  have key : ∀ k, k ≤ xs.length → tot (clR q xs k) ≤ k * 40 := by
    intro k
    induction k with
    | zero => intro _; simp [clR, tot]
    | succ k ih =>
      intro hk
      have := ih (by omega)
      have := lev_small L hs k (by omega)
      rw [clR_succ, tot_append]
      have e : tot [fillR q xs k] = (fillR q xs k).length := by simp [tot]
      rw [e]
      unfold fillR
      rw [upTo_len]; omega
  have := key _ (Nat.le_refl _)
  omega
def clOk (xs : List Int) : Bool := levB xs && decide (sizeL xs ≤ 30)
def clF (xs : List Int) : List Int := if clOk xs then partsL (kL 11 xs) else []
theorem cl_no {xs : List Int} (h : clOk xs = false) : clF xs = [] := by simp [clF, h]
theorem cl_yes {xs : List Int} (h : clOk xs = true) : clF xs = partsL (kL 11 xs) := by simp [clF, h]
theorem cl_at {q : Nat} {xs : List Int} (L : Lev xs) (hs : sizeL xs ≤ 30) (hq : 5 ≤ q) : partsL (kL q xs) = partsL (kL 5 xs) := by
  have h2 := L.lo
  obtain ⟨d, rfl⟩ : ∃ d, q = 5 + d := ⟨q - 5, by omega⟩
  exact kL_parts (by omega) (fun i hi => by have := lev_small L hs i hi; omega) d
def qR (t : Nat) : Nat := (30 + t - 1) / t
theorem qR_bd {t : Nat} (ht : 2 ≤ t ∧ t ≤ 6) : 5 ≤ qR t ∧ qR t ≤ 15 ∧ t * qR t ≤ 40 ∧ mulN t 30 = qR t * t := by
  refine ⟨?_, ?_, ?_, rfl⟩ <;> (have : t = 2 ∨ t = 3 ∨ t = 4 ∨ t = 5 ∨ t = 6 := by omega) <;> rcases this with rfl | rfl | rfl | rfl | rfl <;> decide
end Go.Proofs.Ytiebnnchaopbkaa
/-
  Plain facts: the levels of all cores of so many cells, listed in two ways. No program in this text.
-/
namespace Go.Proofs.Ytiebnnchaopbkaa
open Go.RowKit

/-- The shares of levels from a runner on. -/
def shW (t : Nat) : Nat → List Int → Int
  | _, [] => 0
  | i, x :: r => shr t i x + shW t (i + 1) r
theorem shW_app (t : Nat) (ys : List Int) : ∀ (xs : List Int) (i : Nat), shW t i (xs ++ ys) = shW t i xs + shW t (i + xs.length) ys
  | [], i => by simp [shW]
  | x :: r, i => by
    rw [List.cons_append, shW, shW, shW_app t ys r (i + 1), List.length_cons, show i + 1 + r.length = i + (r.length + 1) by omega]; omega
theorem shW_one (t i : Nat) (x : Int) : shW t i [x] = shr t i x := by simp [shW]
theorem shW_sum (t : Nat) (xs : List Int) : ∀ k, k ≤ xs.length → shW t 0 (xs.take k) = sumN (fun i => shr t i (xs.getD i 0)) k
  | 0, _ => by simp [shW, sumN]
  | k + 1, h => by
    rw [take_snoc xs k (by omega) _ rfl, shW_app, shW_sum t xs k (by omega), shW_one, sumN, List.length_take, show 0 + min k xs.length = k by omega]
theorem two_size' {xs : List Int} (L : Lev xs) : 2 * sizeL xs = shW xs.length 0 xs := by
  rw [two_size L, ← shW_sum _ _ _ (Nat.le_refl _), List.take_of_length_le (Nat.le_refl _)]
theorem shW_pos {t : Nat} (ht : 2 ≤ t ∧ t ≤ 6) : ∀ (xs : List Int) (i : Nat), i + xs.length ≤ t → 0 ≤ shW t i xs
  | [], _, _ => Int.le_refl 0
  | x :: r, i, h => by
    rw [List.length_cons] at h
    have h1 := (shr_ge ht (show i < t by omega) x).1
    have h2 := shW_pos ht r (i + 1) (by omega)
    rw [shW]; omega
/-- The levels of a small core are smaller yet. -/
theorem shr_ge5 {t i : Nat} (ht : 3 ≤ t ∧ t ≤ 6) (hi : i < t) (x : Int) (hx : 5 ≤ x ∨ x ≤ -5) : 61 ≤ shr t i x := by
  have g : (5 ≤ x → 5 * x ≤ x * x) ∧ (x ≤ -5 → -(5 * x) ≤ x * x) := by
    refine ⟨fun h => Int.mul_le_mul_of_nonneg_right h (by omega), fun h => ?_⟩
    have := Int.mul_le_mul_of_nonneg_right (show (5 : Int) ≤ -x by omega) (show 0 ≤ -x by omega)
    rw [Int.neg_mul_neg] at this; omega
  obtain ⟨g3, g4⟩ := g
  have ht6 : t = 3 ∨ t = 4 ∨ t = 5 ∨ t = 6 := by omega
  have hi6 : i = 0 ∨ i = 1 ∨ i = 2 ∨ i = 3 ∨ i = 4 ∨ i = 5 := by omega
  unfold shr
  generalize x * x = y at *
  rcases ht6 with rfl | rfl | rfl | rfl <;> (rcases hi6 with rfl | rfl | rfl | rfl | rfl | rfl <;> first | omega | (simp; omega))
theorem lev_small4 {xs : List Int} (L : Lev xs) (h : sizeL xs ≤ 30) (i : Nat) (hi : i < xs.length) : -4 ≤ xs.getD i 0 ∧ xs.getD i 0 ≤ 4 := by
  have h1 := two_size L
  have h2 := sumN_one_le (f := fun i => shr xs.length i (xs.getD i 0)) xs.length (fun j hj => (shr_ge ⟨L.lo, L.hi⟩ hj _).1) i hi
  have h4 : shr xs.length i (xs.getD i 0) ≤ 2 * sizeL xs := by rw [h1]; exact h2
  by_cases h3 : 3 ≤ xs.length
  · have h5 := shr_ge5 ⟨h3, L.hi⟩ hi (xs.getD i 0)
    omega
  · have hl := L.lo
    have e2 : xs.length = 2 := by omega
    have h0 := lev_sumN L
    rw [e2] at h0 h1 hi
    simp only [sumN] at h0 h1
    have e1 : xs.getD 1 0 = -xs.getD 0 0 := by omega
    rw [e1] at h1
    unfold shr at h1
    rw [Int.neg_mul_neg] at h1
    have g := sq_ge (xs.getD 0 0)
    have g5 : (5 ≤ xs.getD 0 0 → 5 * xs.getD 0 0 ≤ xs.getD 0 0 * xs.getD 0 0) ∧ (xs.getD 0 0 ≤ -5 → -(5 * xs.getD 0 0) ≤ xs.getD 0 0 * xs.getD 0 0) := by
      refine ⟨fun h => Int.mul_le_mul_of_nonneg_right h (by omega), fun h => ?_⟩
      have := Int.mul_le_mul_of_nonneg_right (show (5 : Int) ≤ -xs.getD 0 0 by omega) (show 0 ≤ -xs.getD 0 0 by omega)
      rw [Int.neg_mul_neg] at this; omega
    have hx : -4 ≤ xs.getD 0 0 ∧ xs.getD 0 0 ≤ 4 := by
      generalize xs.getD 0 0 * xs.getD 0 0 = y at *
      omega
    rcases (show i = 0 ∨ i = 1 by omega) with rfl | rfl
    · exact hx
    · omega

def lvl (b : Int) (k : Nat) : List Int := (List.range k).map fun (j : Nat) => (j : Int) - b
theorem lvl_succ (b : Int) (k : Nat) : lvl b (k + 1) = lvl b k ++ [(k : Int) - b] := by simp [lvl, List.range_succ]
theorem mem_lvl {b : Int} {k : Nat} {x : Int} : x ∈ lvl b k ↔ -b ≤ x ∧ x < k - b := by
  unfold lvl
  rw [List.mem_map]
  constructor
  · rintro ⟨j, hj, rfl⟩; have := List.mem_range.1 hj; omega
  · rintro ⟨h1, h2⟩; exact ⟨(x + b).toNat, List.mem_range.2 (by omega), by omega⟩
theorem lvl_nodup (b : Int) (k : Nat) : (lvl b k).Nodup := by
  unfold lvl
  rw [List.nodup_iff_pairwise_ne, List.pairwise_map]
  exact List.Pairwise.imp (fun h e => h (by omega)) (List.nodup_iff_pairwise_ne.1 List.nodup_range)
theorem lvl_part : lvl 10 21 = [-10, -9, -8, -7, -6, -5] ++ lvl 4 9 ++ [5, 6, 7, 8, 9, 10] := by decide
theorem flat_one {s : Int} {f : Int → List (List Int)} : ∀ L : List Int, L.Nodup → (∀ l ∈ L, l ≠ s → f l = []) → L.flatMap f = if s ∈ L then f s else []
  | [], _, _ => by simp
  | a :: r, nd, h => by
    obtain ⟨n1, n2⟩ := List.nodup_cons.1 nd
    rw [List.flatMap_cons, flat_one r n2 fun l hl => h l (List.mem_cons_of_mem _ hl)]
    by_cases e : a = s
    · subst e; rw [if_neg n1, if_pos (List.mem_cons_self ..), List.append_nil]
    · rw [h a (List.mem_cons_self ..) e, List.nil_append]
      by_cases hs : s ∈ r
      · rw [if_pos hs, if_pos (List.mem_cons_of_mem _ hs)]
      · rw [if_neg hs, if_neg (by simp [hs]; omega)]

theorem flat_congr {f g : Int → List (List Int)} : ∀ L : List Int, (∀ l ∈ L, f l = g l) → L.flatMap f = L.flatMap g
  | [], _ => rfl
  | a :: r, h => by rw [List.flatMap_cons, List.flatMap_cons, h a (List.mem_cons_self ..), flat_congr r fun l hl => h l (List.mem_cons_of_mem _ hl)]

/-- The program's list: so many runners left, the sum and the shares that are left. -/
def lf (t : Nat) : Nat → Int → Int → List (List Int)
  | 0, s, h => if s = 0 ∧ h = 0 then [[]] else []
  | r + 1, s, h => (lvl 10 21).flatMap fun l => if h - shr t (t - (r + 1)) l < 0 then [] else (lf t r (s - l) (h - shr t (t - (r + 1)) l)).map (l :: ·)
theorem lf_zero (t : Nat) (s h : Int) : lf t 0 s h = if s = 0 ∧ h = 0 then [[]] else [] := rfl
/-- The model's list: levels that go on a list. -/
def chL (n : Int) : Nat → List Int → List (List Int)
  | 0, P => if levB (P ++ [-P.sum]) && decide (sizeL (P ++ [-P.sum]) = n) then [P ++ [-P.sum]] else []
  | r + 1, P => (lvl 4 9).flatMap fun c => chL n r (P ++ [c])
theorem mem_chL {n : Int} {v : List Int} : ∀ (r : Nat) (P : List Int), v ∈ chL n r P → Lev v ∧ sizeL v = n ∧ v.length = P.length + r + 1 ∧ ∃ x, v = P ++ x
  | 0, P, h => by
    rw [chL] at h
    split at h
    · rename_i hh
      rw [List.mem_singleton] at h
      subst h
      simp only [Bool.and_eq_true, decide_eq_true_eq] at hh
      exact ⟨levB_iff.1 hh.1, hh.2, by simp, _, rfl⟩
    · cases h
  | r + 1, P, h => by
    rw [chL, List.mem_flatMap] at h
    obtain ⟨c, _, hc⟩ := h
    obtain ⟨h1, h2, h3, x, h4⟩ := mem_chL r (P ++ [c]) hc
    refine ⟨h1, h2, by rw [h3, List.length_append, List.length_singleton]; omega, c :: x, by rw [h4]; simp⟩
theorem mem_lf {t : Nat} {x : List Int} : ∀ (r : Nat) (s h : Int), r ≤ t → x ∈ lf t r s h → x.length = r ∧ (∀ y ∈ x, -10 ≤ y ∧ y ≤ 10) ∧ x.sum = s ∧ shW t (t - r) x = h
  | 0, s, h, _, hx => by
    rw [lf] at hx
    split at hx
    · rename_i hh
      rw [List.mem_singleton] at hx
      subst hx
      exact ⟨rfl, (fun y hy => by cases hy), by simp [hh.1], by simp [shW, hh.2]⟩
    · cases hx
  | r + 1, s, h, hr, hx => by
    rw [lf, List.mem_flatMap] at hx
    obtain ⟨l, hl, hx⟩ := hx
    split at hx
    · cases hx
    · obtain ⟨y, hy, rfl⟩ := List.mem_map.1 hx
      obtain ⟨h1, h2, h3, h4⟩ := mem_lf r _ _ (by omega) hy
      have hb := mem_lvl.1 hl
      refine ⟨by simp [h1], fun z hz => ?_, by rw [List.sum_cons, h3]; omega, ?_⟩
      · rcases List.mem_cons.1 hz with rfl | hz
        · omega
        · exact h2 z hz
      · rw [shW, show t - (r + 1) + 1 = t - r by omega, h4]; omega
theorem lev_of {P : List Int} {v : List Int} (h26 : 2 ≤ v.length ∧ v.length ≤ 6) (hb : ∀ y ∈ v, -10 ≤ y ∧ y ≤ 10) (hs : v.sum = 0) (_ : P = P) : Lev v :=
  ⟨h26.1, h26.2, fun j hj => hb _ (by rw [List.getD_eq_getElem?_getD, List.getElem?_eq_getElem hj]; exact List.getElem_mem hj), hs⟩
theorem lw_eq {t : Nat} {n : Int} (ht : 2 ≤ t ∧ t ≤ 6) (hn : n ≤ 30) : ∀ (r : Nat) (P : List Int), P.length + r + 1 = t → (∀ y ∈ P, -10 ≤ y ∧ y ≤ 10) →
    (lf t (r + 1) (-P.sum) (2 * n - shW t 0 P)).map (P ++ ·) = chL n r P
  | 0, P, hl, hP => by
    obtain ⟨s, hs⟩ : ∃ s, s = -P.sum := ⟨_, rfl⟩
    rw [chL, lf, ← hs, List.map_flatMap]
    rw [flat_one (s := s) _ (lvl_nodup _ _) fun l _ hne => by
      split
      · rfl
      · rw [lf_zero, if_neg (by omega)]; rfl]
    have hlen : (P ++ [s]).length = t := by rw [List.length_append, List.length_singleton]; omega
    have hsum : (P ++ [s]).sum = 0 := by rw [List.sum_append, List.sum_singleton]; omega
    by_cases hb : -10 ≤ s ∧ s ≤ 10
    · have L : Lev (P ++ [s]) := lev_of (P := P) (by omega) (fun y hy => by
        rcases List.mem_append.1 hy with h | h
        · exact hP y h
        · rw [List.mem_singleton] at h; omega) hsum rfl
      have h2 := two_size' L
      rw [hlen, shW_app, shW_one, show 0 + P.length = t - (0 + 1) by omega] at h2
      rw [if_pos (mem_lvl.2 (by omega)), levB_iff.2 L, Bool.true_and]
      by_cases hz : sizeL (P ++ [s]) = n
      · rw [if_neg (show ¬ (2 * n - shW t 0 P - shr t (t - (0 + 1)) s < 0) by omega), lf_zero, if_pos (show s - s = 0 ∧ 2 * n - shW t 0 P - shr t (t - (0 + 1)) s = 0 by omega), if_pos (decide_eq_true hz)]; rfl
      · rw [if_neg (show ¬ (decide (sizeL (P ++ [s]) = n) = true) by rw [decide_eq_false hz]; decide)]
        split
        · rfl
        · rw [lf_zero, if_neg (by omega)]; rfl
    · rw [if_neg (fun h => hb (by have := mem_lvl.1 h; omega))]
      have : levB (P ++ [s]) = false := Bool.eq_false_iff.2 fun h => by
        have := (levB_iff.1 h).bd P.length (by rw [hlen]; omega)
        simp [List.getD] at this
        omega
      rw [this]; rfl
  | r + 1, P, hl, hP => by
    have hpt : ∀ l, -10 ≤ l ∧ l ≤ 10 → (if 2 * n - shW t 0 P - shr t (t - (r + 1 + 1)) l < 0 then [] else (lf t (r + 1) (-P.sum - l) (2 * n - shW t 0 P - shr t (t - (r + 1 + 1)) l)).map (l :: ·)).map (P ++ ·) = chL n r (P ++ [l]) := fun l hb => by
      have hP2 : ∀ y ∈ P ++ [l], -10 ≤ y ∧ y ≤ 10 := fun y hy => by
        rcases List.mem_append.1 hy with h | h
        · exact hP y h
        · rw [List.mem_singleton] at h; omega
      have hsh : shW t 0 (P ++ [l]) = shW t 0 P + shr t (t - (r + 1 + 1)) l := by
        rw [shW_app, shW_one, show 0 + P.length = t - (r + 1 + 1) by omega]
      by_cases hneg : 2 * n - shW t 0 P - shr t (t - (r + 1 + 1)) l < 0
      · rw [if_pos hneg, List.map_nil]
        symm
        rw [List.eq_nil_iff_forall_not_mem]
        intro v hv
        obtain ⟨L, h2, h3, x, rfl⟩ := mem_chL r _ hv
        have h4 := two_size' L
        rw [h3, show (P ++ [l]).length + r + 1 = t by simp; omega, shW_app, hsh] at h4
        have h5 := shW_pos ht x (0 + (P ++ [l]).length) (by simp only [List.length_append, List.length_singleton] at h3 ⊢; omega)
        omega
      · rw [if_neg hneg]
        have ih := lw_eq ht hn r (P ++ [l]) (by rw [List.length_append, List.length_singleton]; omega) hP2
        rw [hsh, List.sum_append, List.sum_singleton] at ih
        rw [← ih, List.map_map, show -P.sum - l = -(P.sum + l) by omega, show 2 * n - shW t 0 P - shr t (t - (r + 1 + 1)) l = 2 * n - (shW t 0 P + shr t (t - (r + 1 + 1)) l) by omega]
        exact List.map_congr_left fun y _ => by simp
    have hout : ∀ l, -10 ≤ l ∧ l ≤ 10 → ¬ (-4 ≤ l ∧ l ≤ 4) → chL n r (P ++ [l]) = [] := fun l hb h4 => by
      rw [List.eq_nil_iff_forall_not_mem]
      intro v hv
      obtain ⟨L, h2, h3, x, rfl⟩ := mem_chL r _ hv
      have := lev_small4 L (by omega) P.length (by simp)
      rw [List.append_assoc] at this
      simp [List.getD] at this
      omega
    rw [lf, chL, List.map_flatMap, lvl_part, List.flatMap_append, List.flatMap_append]
    have nilA : ∀ A : List Int, (∀ l ∈ A, (-10 ≤ l ∧ l ≤ 10) ∧ ¬ (-4 ≤ l ∧ l ≤ 4)) → A.flatMap (fun l => (if 2 * n - shW t 0 P - shr t (t - (r + 1 + 1)) l < 0 then [] else (lf t (r + 1) (-P.sum - l) (2 * n - shW t 0 P - shr t (t - (r + 1 + 1)) l)).map (l :: ·)).map (P ++ ·)) = [] := fun A hA => by
      rw [List.flatMap_eq_nil_iff]
      intro l hl
      rw [hpt l (hA l hl).1, hout l (hA l hl).1 (hA l hl).2]
    rw [nilA [-10, -9, -8, -7, -6, -5] (by decide), nilA [5, 6, 7, 8, 9, 10] (by decide), List.nil_append, List.append_nil]
    exact flat_congr _ fun l hl => hpt l (by have := mem_lvl.1 hl; omega)
theorem lw_main {t : Nat} {n : Int} (ht : 2 ≤ t ∧ t ≤ 6) (hn : n ≤ 30) : lf t t 0 (2 * n) = chL n (t - 1) [] := by
  have := lw_eq ht hn (t - 1) [] (by simp; omega) (fun y hy => by cases hy)
  rw [show t - 1 + 1 = t by omega] at this
  simpa [shW] using this
theorem chL_len {n : Int} : ∀ (r : Nat) (P : List Int), (chL n r P).length ≤ 9 ^ r
  | 0, P => by rw [chL]; split <;> simp
  | r + 1, P => by
    rw [chL, List.length_flatMap]
    have : ∀ L : List Int, (L.map fun c => (chL n r (P ++ [c])).length).sum ≤ L.length * 9 ^ r := fun L => by
      induction L with
      | nil => simp
      | cons a l ih =>
        have := chL_len (n := n) r (P ++ [a])
        rw [List.map_cons, List.sum_cons, List.length_cons, Nat.add_mul]; omega
    have h2 := this (lvl 4 9)
    rw [show (lvl 4 9).length = 9 from rfl] at h2
    rw [Nat.pow_succ]; omega
end Go.Proofs.Ytiebnnchaopbkaa
/-
  Contracts: levelsFrom and its users of the program; slices.Concat at rows that may be empty.
-/
namespace Go.Proofs.Ytiebnnchaopbkaa
open Go.RowKit

set_option maxRecDepth 100000 in
set_option maxHeartbeats 2000000 in
theorem concat_opt (A : Option Addr) (c : Nat) (rows : List (List Int)) (w : World) (hr : rows.length ≤ 1000) (ht : tot rows ≤ 1000) (P : Nat → Option Addr) (C : Nat → Nat)
    (hA1 : 0 < rows.length → ∃ b o, A = some ⟨b, o, none⟩ ∧ ∀ j, j < rows.length → w.cell? ⟨b, o + j, none⟩ = some (.slice (P j) (rows.getD j []).length (C j))) (hA2 : ∀ j, j < rows.length → Cells w (P j) (rows.getD j [])) (hp : ∀ j, j < rows.length → P j = none → C j = 0) :
    Calls Try.prog 52 #[.slice A rows.length c] w fun e w' => ∃ A' c', e = .returned (.slice A' rows.flatten.length c') ∧ Own w' w.heap.size A' c' rows.flatten ∧ Below w.heap.size w w' := by
  obtain ⟨i0, hi, hz0, hz1, hz2⟩ := info_parts Try.infoInt
  have HP := hid hp; have HA1 := hid hA1; have HA2 := hid hA2
  clear hp hA1 hA2
  go_enter Try.func52, Try.ntmps52
  go_wp2_with fail
  go_loop [3, 11] (fun s i => ∃ k : Nat, k ≤ rows.length ∧ i = .int .i64 k ∧ s = .int .i64 (tot (rows.take k) : Int)) (fun _ i => rows.length - (intOf i).toNat)
  case atStart => exact ⟨0, Nat.zero_le _, rfl, by simp [tot]⟩
  case round =>
    obtain ⟨k, hk, rfl, rfl⟩ := hrel
    by_cases hlt : k < rows.length
    · obtain ⟨b, o, rfl, hcc⟩ := HA1.out (by omega)
      have hck := hcc k hlt
      have hts := tot_take_succ rows k hlt
      have htl := tot_take_le rows (k + 1)
      obtain ⟨m, hm⟩ : ∃ m, m = (rows.getD k []).length := ⟨_, rfl⟩
      obtain ⟨s, hs⟩ : ∃ s, s = tot (rows.take k) := ⟨_, rfl⟩
      rw [← hm] at hck hts
      rw [← hs] at hts ⊢
      have HTS := hid hts
      have hmb : s + m ≤ 1000 := by omega
      clear hcc hm hs htl hts
      go_wp2_with fail
      go_round
      case rel => exact ⟨k + 1, by omega, by go_num, by rw [HTS.out]; go_num⟩
      case measure => simp [intOf]; omega
    · have hkn : k = rows.length := by omega
      subst hkn
      have e : rows.take rows.length = rows := List.take_of_length_le (Nat.le_refl _)
      rw [e]
      clear e
      obtain ⟨T, hT⟩ : ∃ T, T = tot rows := ⟨_, rfl⟩
      rw [← hT] at ht ⊢
      have HT := hid hT
      clear hT
      go_wp2_with (go_at_call 72; refine (grow0_any T _ (by omega)).mono ?_; rintro e w1 ⟨v1, rfl, o1, b1⟩)
      go_loopw [6, 27] (fun v i wr => ∃ k : Nat, k ≤ rows.length ∧ i = .int .i64 k ∧ wr.ownsRow w.heap.size 3 1 v (rows.take k).flatten.length (IL (rows.take k).flatten) ∧ Below w.heap.size w wr) (fun _ i _ => rows.length - (intOf i).toNat)
      case atStart => exact ⟨0, Nat.zero_le _, rfl, by simpa [IL] using o1, b1⟩
      case round =>
        obtain ⟨k, hk, rfl, hown, hbel⟩ := hrel
        by_cases hlt : k < rows.length
        · obtain ⟨b, o, rfl, hcc⟩ := HA1.out (by omega)
          have hck0 := hcc k hlt
          have hck := (hbel.cell (World.block_lt_of_cell? w _ hck0)).trans hck0
          have hpk := HP.out k hlt
          have hr3 := HA2.out k hlt
          have hfs := flat_succ rows k hlt
          have hfl := flat_len (rows.take k)
          have hts := tot_take_succ rows k hlt
          have htl := tot_take_le rows (k + 1)
          obtain ⟨r, hre⟩ : ∃ r, r = rows.getD k [] := ⟨_, rfl⟩
          rw [← hre] at hck hfs hr3 hts
          have hrl : (rows.take k).flatten.length + r.length ≤ 1000 := by have := HT.out; omega
          have HFS := hid hfs
          have hnone : P k = none → r.length = 0 ∧ C k = 0 := fun e => by
            refine ⟨?_, hpk e⟩
            rcases Nat.eq_zero_or_pos r.length with h | h
            · exact h
            · rw [e] at hr3; obtain ⟨b, o, h1, _⟩ := hr3 h; cases h1
          have hnews : ∀ W, Below w.heap.size w W → ∀ ad, P k = some ad → ∀ j u, (IL r)[j]? = some u → W.cell? (ad.add j) = some u := by
            intro W hW ad had j u hu
            have hj : j < r.length := by
              have := (List.getElem?_eq_some_iff.1 hu).1
              simpa [IL] using this
            rw [had] at hr3
            obtain ⟨b3, o3, h1, h2⟩ := hr3 (by omega)
            cases h1
            have h := h2 j hj
            rw [IL_get r j hj] at hu
            have e : (⟨b3, o3, none⟩ : Addr).add j = ⟨b3, o3 + j, none⟩ := by unfold Addr.add; split <;> simp_all
            rw [e, hW.cell (World.block_lt_of_cell? w _ h), h, ← hu]
          obtain ⟨PA, hPA⟩ : ∃ PA, PA = P k := ⟨_, rfl⟩
          obtain ⟨CA, hCA⟩ : ∃ CA, CA = C k := ⟨_, rfl⟩
          rw [← hPA] at hnone hnews hck
          rw [← hCA] at hnone hck
          have HNN := hid hnone
          have HN := hid hnews
          have HOW := hid hown
          have hrn : (IL r).length = r.length * 1 := by simp [IL]
          have HRN := hid hrn
          clear hcc hck0 hr3 hre hfs hfl hts htl hnews hown hrn hnone hPA hCA hpk
          obtain ⟨f, hf⟩ : ∃ f, f = (rows.take k).flatten := ⟨_, rfl⟩
          rw [← hf] at HOW HFS hrl
          have HF := hid hf
          clear hf
          go_wp2_with (at_builtin; refine wpList_append_opt _ rfl _ _ 28 rfl w.heap.size 3 i0 (.int .i64 0) 1 8 Try.underlying28 hi hz0 hz1 hz2 rfl (by decide) _ _ _ rfl HOW.out PA r.length CA (IL r) rfl HRN.out HNN.out (HN.out _ hbel) (IL_oneX r) (by unfold maxLen; omega) (by omega) hbel.size ?_)
          intro v' w2 hown' hgrow
          have hb1 : Below w.heap.size w w2 := hbel.grown hgrow hbel.size (fun q hq => (HOW.out.lt q hq).1)
          have hown2 : w2.ownsRow w.heap.size 3 1 v' (f ++ r).length (IL (f ++ r)) := by rw [IL_app, List.length_append]; exact hown'
          rw [← HFS.out] at hown2
          have HO2 := hid hown2
          clear hown' hgrow hown2
          go_wp2_with fail
          go_roundw
          case rel => exact ⟨k + 1, by omega, by go_num, HO2.out, hb1⟩
          case measure => simp [intOf]; omega
        · have hkn : k = rows.length := by omega
          subst hkn
          rw [List.take_of_length_le (Nat.le_refl _)] at hown
          obtain ⟨A', c', rfl, ho'⟩ := own_form hown rfl
          clear hown
          go_wp2_with fail
          go_ret
          exact ⟨A', c', rfl, ho', hbel⟩

theorem mul3_bd {t : Nat} {x : Int} (ht : 2 ≤ t ∧ t ≤ 6) (hx : -10 ≤ x ∧ x ≤ 10) : -60 ≤ (t : Int) * x ∧ (t : Int) * x ≤ 60 ∧ 0 ≤ (t : Int) * x * x ∧ (t : Int) * x * x ≤ 600 := by
  have h := sq_bd hx
  rw [Int.mul_assoc]
  generalize x * x = y at *
  have : t = 2 ∨ t = 3 ∨ t = 4 ∨ t = 5 ∨ t = 6 := by omega
  rcases this with rfl | rfl | rfl | rfl | rfl <;> simp <;> omega
theorem mul4_bd {a x : Int} (ha : -10 ≤ a ∧ a ≤ 10) (hx : -10 ≤ x ∧ x ≤ 10) : -100 ≤ a * x ∧ a * x ≤ 100 := by
  have : a = -10 ∨ a = -9 ∨ a = -8 ∨ a = -7 ∨ a = -6 ∨ a = -5 ∨ a = -4 ∨ a = -3 ∨ a = -2 ∨ a = -1 ∨ a = 0 ∨ a = 1 ∨ a = 2 ∨ a = 3 ∨ a = 4 ∨ a = 5 ∨ a = 6 ∨ a = 7 ∨ a = 8 ∨ a = 9 ∨ a = 10 := by omega
  rcases this with rfl | rfl | rfl | rfl | rfl | rfl | rfl | rfl | rfl | rfl | rfl | rfl | rfl | rfl | rfl | rfl | rfl | rfl | rfl | rfl | rfl <;> omega
theorem shr_alt (t i : Nat) (x : Int) : shr t i x = (t : Int) * x * x + (2 * (i : Int) - ((t : Int) - 1)) * x := by unfold shr; grind
theorem shareOf_any (t i : Nat) (x : Int) (w : World) (ht : 2 ≤ t ∧ t ≤ 6) (hi : i < t) (hx : -10 ≤ x ∧ x ≤ 10) :
    Calls Try.prog 51 #[.int .i64 x, .int .i64 i, .int .i64 t] w fun e w' => e = .returned (.int .i64 (shr t i x)) ∧ w = w' := by
  obtain ⟨b1, b2, b3, b4⟩ := mul3_bd ht hx
  have b5 := mul4_bd (a := 2 * (i : Int) - ((t : Int) - 1)) (by omega) hx
  have HE := hid (shr_alt t i x)
  go_enter Try.func51, Try.ntmps51
  go_wp2_with fail
  go_ret
  exact ⟨ret_int HE.out.symm, rfl⟩

theorem concat_pair (w : World) (x : Int) (rr : List Int) (PA : Option Addr) (CA : Nat) (hrr : Cells w PA rr) (hn : PA = none → CA = 0) (hl : rr.length ≤ 900) :
    Calls Try.prog 52 #[.slice (some ⟨w.heap.size + 1, 0, none⟩) 2 2] ((w.alloc (.cells #[.int .i64 x] 3)).alloc (.cells #[.slice (some ⟨w.heap.size, 0, none⟩) 1 1, .slice PA rr.length CA] 28)) fun e w' => ∃ A' c', e = .returned (.slice A' (x :: rr).length c') ∧ Own w' w.heap.size A' c' (x :: rr) ∧ Below w.heap.size w w' := by
  have b1 : Below w.heap.size w ((w.alloc (.cells #[.int .i64 x] 3)).alloc (.cells #[.slice (some ⟨w.heap.size, 0, none⟩) 1 1, .slice PA rr.length CA] 28)) := ((Below.refl _ _).alloc (Nat.le_refl _) _).alloc (by simp) _
  have k1 := World.ownsRow.alloc (World.ownsRow_lit (base := w.heap.size) (e := 3) (size := 1) w #[.int .i64 x] 1 (Nat.le_refl _) (by unfold maxLen; omega) rfl) (.cells #[.slice (some ⟨w.heap.size, 0, none⟩) 1 1, .slice PA rr.length CA] 28)
  have k2 := World.ownsRow_lit (base := w.heap.size) (e := 28) (size := 1) (w.alloc (.cells #[.int .i64 x] 3)) #[.slice (some ⟨w.heap.size, 0, none⟩) 1 1, .slice PA rr.length CA] 2 (by simp) (by unfold maxLen; omega) rfl
  have hsz : (w.alloc (.cells #[.int .i64 x] 3)).heap.size = w.heap.size + 1 := by simp
  rw [hsz] at k2
  have h := concat_opt (some ⟨w.heap.size + 1, 0, none⟩) 2 [[x], rr] ((w.alloc (.cells #[.int .i64 x] 3)).alloc (.cells #[.slice (some ⟨w.heap.size, 0, none⟩) 1 1, .slice PA rr.length CA] 28)) (by simp) (by simp [tot]; omega)
    (fun j => if j = 0 then some ⟨w.heap.size, 0, none⟩ else PA) (fun j => if j = 0 then 1 else CA)
    (fun _ => ⟨w.heap.size + 1, 0, rfl, fun j hj => by
      rw [Nat.zero_add, World.ownsRow.cellAt k2 j (by simpa using hj)]
      rcases (show j = 0 ∨ j = 1 by simp at hj; omega) with rfl | rfl <;> rfl⟩)
    (fun j hj => by
      rcases (show j = 0 ∨ j = 1 by simp at hj; omega) with rfl | rfl
      · intro _
        refine ⟨w.heap.size, 0, rfl, fun k hk => ?_⟩
        have : k = 0 := by simpa using hk
        subst this
        rw [Nat.zero_add, World.ownsRow.cellAt k1 0 (by omega)]; rfl
      · exact hrr.later b1)
    (fun j hj e => by
      rcases (show j = 0 ∨ j = 1 by simp at hj; omega) with rfl | rfl
      · cases e
      · exact hn e)
  refine h.mono ?_
  rintro e w' ⟨A', c', rfl, o1, b2⟩
  have e1 : [[x], rr].flatten = x :: rr := by simp
  rw [e1] at o1 ⊢
  exact ⟨A', c', rfl, o1.more b1.size, Below.next b1 b2⟩

def lfr (t r : Nat) (s h l : Int) : List (List Int) := if h - shr t (t - (r + 1)) l < 0 then [] else (lf t r (s - l) (h - shr t (t - (r + 1)) l)).map (l :: ·)
def lfK (t r : Nat) (s h : Int) (K : Nat) : List (List Int) := (lvl 10 K).flatMap (lfr t r s h)
theorem lfK_succ (t r : Nat) (s h : Int) (K : Nat) : lfK t r s h (K + 1) = lfK t r s h K ++ lfr t r s h ((K : Int) - 10) := by
  unfold lfK; rw [lvl_succ, List.flatMap_append]; simp
theorem lfK_all (t r : Nat) (s h : Int) : lfK t r s h 21 = lf t (r + 1) s h := rfl
def lfJ (M : List (List Int)) (l : Int) (j : Nat) : List (List Int) := (M.take j).map (l :: ·)
theorem lfJ_succ {M : List (List Int)} {l : Int} {j : Nat} (hj : j < M.length) : lfJ M l (j + 1) = lfJ M l j ++ [l :: M.getD j []] := by
  unfold lfJ
  rw [List.take_succ_eq_append_getElem hj, List.map_append]; simp [List.getD, hj]
theorem lfJ_len {M : List (List Int)} {l : Int} {j : Nat} (hj : j ≤ M.length) : (lfJ M l j).length = j := by simp [lfJ]; omega
theorem lf_len {t : Nat} : ∀ (r : Nat) (s h : Int), (lf t r s h).length ≤ 21 ^ r
  | 0, s, h => by rw [lf_zero]; split <;> simp
  | r + 1, s, h => by
    rw [lf, List.length_flatMap]
    have : ∀ L : List Int, (L.map fun l => (if h - shr t (t - (r + 1)) l < 0 then [] else (lf t r (s - l) (h - shr t (t - (r + 1)) l)).map (l :: ·)).length).sum ≤ L.length * 21 ^ r := fun L => by
      induction L with
      | nil => simp
      | cons a l ih =>
        rw [List.map_cons, List.sum_cons, List.length_cons, Nat.add_mul]
        have h1 : (if h - shr t (t - (r + 1)) a < 0 then [] else (lf t r (s - a) (h - shr t (t - (r + 1)) a)).map (a :: ·)).length ≤ 21 ^ r := by
          split
          · simp
          · rw [List.length_map]; exact lf_len r _ _
        omega
    have h2 := this (lvl 10 21)
    rw [show (lvl 10 21).length = 21 from rfl] at h2
    rw [Nat.pow_succ]; omega
theorem lfK_len {t : Nat} (r : Nat) (s h : Int) (K : Nat) (hK : K ≤ 21) : (lfK t r s h K).length ≤ 21 ^ (r + 1) := by
  have h1 := lf_len (t := t) (r + 1) s h
  rw [← lfK_all] at h1
  have key : ∀ d, K + d ≤ 21 → (lfK t r s h K).length ≤ (lfK t r s h (K + d)).length := fun d => by
    induction d with
    | zero => intro _; exact Nat.le_refl _
    | succ d ih => intro hd; have := ih (by omega); rw [show K + (d + 1) = K + d + 1 by omega, lfK_succ, List.length_append]; omega
  have := key (21 - K) (by omega)
  rw [show K + (21 - K) = 21 by omega] at this
  omega
theorem pow21 {r : Nat} (h : r ≤ 6) : 21 ^ r ≤ 100000000 := by
  have : r = 0 ∨ r = 1 ∨ r = 2 ∨ r = 3 ∨ r = 4 ∨ r = 5 ∨ r = 6 := by omega
  rcases this with rfl | rfl | rfl | rfl | rfl | rfl | rfl <;> decide
end Go.Proofs.Ytiebnnchaopbkaa
/-
  Contracts: levelsFrom, LevelsWith and CountCores of the program.
-/
namespace Go.Proofs.Ytiebnnchaopbkaa
open Go.RowKit

set_option maxHeartbeats 1000000 in
theorem levelsFrom_zero (t : Nat) (s h : Int) (w : World) (_ht : 2 ≤ t ∧ t ≤ 6) (hs : -100 ≤ s ∧ s ≤ 100) (hh : 0 ≤ h ∧ h ≤ 60) :
    Calls Try.prog 28 #[.int .i64 (t : Nat), .int .i64 t, .int .i64 s, .int .i64 h] w fun e w' => ∃ A' c', e = .returned (.slice A' (lf t 0 s h).length c') ∧ Own2 w' w.heap.size w'.heap.size A' c' (lf t 0 s h) ∧ Below w.heap.size w w' := by
  rw [lf_zero]
  by_cases h1 : s = 0
  · by_cases h2 : h = 0
    · rw [if_pos ⟨h1, h2⟩]
      subst h1 h2
      go_enter Try.func28, Try.ntmps28
      go_wp2_with fail
      go_ret
      refine ⟨some ⟨w.heap.size, 0, none⟩, 1, rfl, ⟨fun _ => none, fun _ => 0, ?_, fun b hb => ?_, fun j hj => own_nil_at j hj, fun j hj b hb => by simp at hb, fun i j hij hj => ?_⟩, (Below.refl _ _).alloc (Nat.le_refl _) _⟩
      · exact World.ownsRow_lit (base := w.heap.size) (e := 28) (size := 1) w #[.slice none 0 0] 1 (Nat.le_refl _) (by unfold maxLen; omega) rfl
      · have : w.heap.size = b := by simpa using hb
        simp; omega
      · simp at hj; omega
    · rw [if_neg (fun hh => h2 hh.2)]
      subst h1
      go_enter Try.func28, Try.ntmps28
      go_wp2_with fail
      go_ret
      exact ⟨none, 0, rfl, own2_nil _ _ _, Below.refl _ _⟩
  · rw [if_neg (fun hh => h1 hh.1)]
    go_enter Try.func28, Try.ntmps28
    go_wp2_with fail
    go_ret
    exact ⟨none, 0, rfl, own2_nil _ _ _, Below.refl _ _⟩

set_option maxRecDepth 100000 in
set_option maxHeartbeats 8000000 in
theorem levelsFrom_any (t : Nat) (ht : 2 ≤ t ∧ t ≤ 6) : ∀ (r i : Nat) (s h : Int) (w : World), i + r = t → -(10 * (i : Int)) ≤ s ∧ s ≤ 10 * i → 0 ≤ h ∧ h ≤ 60 →
    Calls Try.prog 28 #[.int .i64 i, .int .i64 t, .int .i64 s, .int .i64 h] w fun e w' => ∃ A' c', e = .returned (.slice A' (lf t r s h).length c') ∧ Own2 w' w.heap.size w'.heap.size A' c' (lf t r s h) ∧ Below w.heap.size w w' := by
  obtain ⟨i1, hj, hy0, hy1, hy2⟩ := info_parts Try.infoInts
  intro r
  induction r with
  | zero =>
    intro i s h w hi hs hh
    have : i = t := by omega
    subst this
    exact levelsFrom_zero i s h w ht (by omega) hh
  | succ r ih =>
    intro i s h w hit hs hh
    have IH := hid ih; clear ih
    have hi6 : i < t := by omega
    have hti : t - (r + 1) = i := by omega
    have HSH := hid fun x (hx : -10 ≤ x ∧ x ≤ 10) W => shareOf_any t i x W ht hi6 hx
    have HSP := hid fun x => (shr_ge ht hi6 x).1
    have HSB := hid fun x (hx : -10 ≤ x ∧ x ≤ 10) => (show shr t i x ≤ 1000 by
      obtain ⟨b1, b2, b3, b4⟩ := mul3_bd ht hx
      have b5 := mul4_bd (a := 2 * (i : Int) - ((t : Int) - 1)) (by omega) hx
      rw [shr_alt]; omega)
    have HKS := hid fun K => lfK_succ t r s h K
    have HKA := hid (lfK_all t r s h)
    have HK0 := hid (show lfK t r s h 0 = [] from rfl)
    have HKL := hid fun K (hK : K ≤ 21) => (Nat.le_trans (lfK_len (t := t) r s h K hK) (pow21 (by omega)) : (lfK t r s h K).length ≤ 100000000)
    have HFN := hid fun l (hl : h - shr t i l < 0) => (show lfr t r s h l = [] by unfold lfr; rw [hti, if_pos hl])
    have HFY := hid fun l (hl : ¬ h - shr t i l < 0) => (show lfr t r s h l = lfJ (lf t r (s - l) (h - shr t i l)) l (lf t r (s - l) (h - shr t i l)).length by unfold lfr lfJ; rw [hti, if_neg hl, List.take_of_length_le (Nat.le_refl _)])
    have HML := hid fun s' h' => (Nat.le_trans (lf_len (t := t) r s' h') (pow21 (by omega)) : (lf t r s' h').length ≤ 100000000)
    have HMR := hid fun s' h' j (hj : j < (lf t r s' h').length) => (show ((lf t r s' h').getD j []).length ≤ 6 by
      have := (mem_lf (t := t) r s' h' (by omega) (show (lf t r s' h').getD j [] ∈ lf t r s' h' by rw [List.getD_eq_getElem?_getD, List.getElem?_eq_getElem hj]; exact List.getElem_mem hj)).1
      omega)
    obtain ⟨Z, hZ⟩ : ∃ Z, Z = lfK t r s h := ⟨_, rfl⟩
    rw [← hZ] at HKS HKA HK0 HKL
    rw [← HKA.out]
    obtain ⟨Y, hY⟩ : ∃ Y, Y = lfr t r s h := ⟨_, rfl⟩
    rw [← hY] at HKS HFN HFY
    obtain ⟨M, hM⟩ : ∃ M, M = lf t r := ⟨_, rfl⟩
    rw [← hM] at HFY HML HMR IH
    obtain ⟨S, hS⟩ : ∃ S, S = shr t i := ⟨_, rfl⟩
    rw [← hS] at HSH HSP HSB HFN HFY
    have hne : ¬ ((i : Int) = (t : Int)) := by omega
    clear hZ hY hM hS HKA hti
    go_enter Try.func28, Try.ntmps28
    go_wp2_with fail
    go_loopw [9, 10] (fun v xv wr => ∃ (K : Nat) (x : Int), K ≤ 21 ∧ x = (K : Int) - 10 ∧ xv = .int .i64 x ∧ (∃ P C, Push wr w.heap.size v (Z K) P C) ∧ Below w.heap.size w wr) (fun _ xv _ => (11 - intOf xv).toNat)
    case atStart => exact ⟨0, -10, by omega, by omega, rfl, by rw [HK0.out]; exact ⟨_, _, push_nil _ _⟩, Below.refl _ _⟩
    case round =>
      obtain ⟨K, x, hK, hx, rfl, ⟨P, C, hpush⟩, hbel⟩ := hrel
      obtain ⟨wo, rfl⟩ : ∃ wo : World, wo = wr := ⟨_, rfl⟩
      have HP := hid hpush; clear hpush
      have HB := hid hbel; clear hbel
      by_cases h1 : x ≤ 10
      · have hxb : -10 ≤ x ∧ x ≤ 10 := by omega
        have hsp := HSP.out x
        have hsb := HSB.out x hxb
        have HSX := hid (HSH.out x hxb)
        have HK1 := hid (show Z (K + 1) = Z K ++ Y x by rw [HKS.out, hx])
        obtain ⟨u, hu⟩ : ∃ u, u = S x := ⟨_, rfl⟩
        rw [← hu] at hsp hsb HSX
        by_cases hneg : h - u < 0
        · have HN := hid (show Z (K + 1) = Z K by rw [HK1.out, HFN.out x (by rw [← hu]; exact hneg), List.append_nil])
          have HX := hid hx
          clear hu hx
          go_wp2_with fail
          refine (HSX.out _).mono ?_
          rintro e w' ⟨rfl, rfl⟩
          go_wp2_with fail
          go_roundw
          case rel => exact ⟨K + 1, x + 1, by have := HX.out; omega, by have := HX.out; omega, by go_num, by rw [HN.out]; exact ⟨_, _, HP.out⟩, HB.out⟩
          case measure => simp [intOf]; omega
        · have hcall := IH.out (i + 1) (s - x) (h - u) wo (by omega) (by omega) ⟨by omega, by omega⟩
          rw [show ((i + 1 : Nat) : Int) = (i : Int) + 1 by omega] at hcall
          have HC := hid hcall; clear hcall
          have HY := hid (show Z (K + 1) = Z K ++ lfJ (M (s - x) (h - u)) x (M (s - x) (h - u)).length by rw [HK1.out, HFY.out x (by rw [← hu]; omega), ← hu])
          have hML := HML.out (s - x) (h - u)
          have HMX := hid (HMR.out (s - x) (h - u))
          have hKL := HKL.out K hK
          have hX := hx
          have HX := hid hX
          clear hu hx hX
          go_wp2_with fail
          refine (HSX.out _).mono ?_
          rintro e w' ⟨rfl, rfl⟩
          go_wp2_with fail
          refine HC.out.mono ?_
          rintro e wc ⟨Ac, cc, rfl, oc, bc⟩
          obtain ⟨N, hN⟩ : ∃ N, N = M (s - x) (h - u) := ⟨_, rfl⟩
          rw [← hN] at oc HY hML HMX ⊢
          obtain ⟨L, hL⟩ : ∃ L, L = N.length := ⟨_, rfl⟩
          rw [← hL] at HY hML HMX ⊢
          have HL := hid hL
          have OC := hid oc; clear oc
          have BC := hid bc; clear bc
          have HJS := hid fun j (hj : j < L) => lfJ_succ (M := N) (l := x) (j := j) (by rw [← hL]; exact hj)
          have HJL := hid fun j (hj : j ≤ L) => lfJ_len (M := N) (l := x) (j := j) (by rw [← hL]; exact hj)
          have HJ0 := hid (show lfJ N x 0 = [] from rfl)
          obtain ⟨J, hJ⟩ : ∃ J, J = lfJ N x := ⟨_, rfl⟩
          rw [← hJ] at HY HJS HJL HJ0
          clear hN hL hJ HK1
          go_wp2_with fail
          go_loopw [9, 45] (fun v jv wr => ∃ j : Nat, j ≤ L ∧ jv = .int .i64 j ∧ (∃ P C, Push wr w.heap.size v (Z K ++ J j) P C) ∧ Hid (Below w.heap.size w wr ∧ wc.heap.size ≤ wr.heap.size ∧ (∀ b, wo.heap.size ≤ b → b < wc.heap.size → wr.heap[b]? = wc.heap[b]?) ∧ ∀ q, v.ownBlock = some q → q < wo.heap.size ∨ wc.heap.size ≤ q)) (fun _ jv _ => L - (intOf jv).toNat)
          case atStart => exact ⟨0, Nat.zero_le _, rfl, ⟨_, _, by rw [HJ0.out, List.append_nil]; exact HP.out.below BC.out⟩, ⟨HB.out.trans (BC.out.mono HB.out.size), Nat.le_refl _, fun _ _ _ => rfl, fun q hq => .inl (HP.out.out.lt q hq).2⟩⟩
          case round =>
            obtain ⟨j, hjL, rfl, ⟨P2, C2, hpush⟩, HK⟩ := hrel
            have HP2 := hid hpush; clear hpush
            by_cases hlt : j < L
            · have hjl2 : (j : Int) < L := by omega
              obtain ⟨b1, b2, b3, b4⟩ := HK.out
              obtain ⟨Pc, Cc, H⟩ := OC.out.keep fun b _ hb1 hb2 => b3 b hb1 hb2
              have hll := HL.out
              obtain ⟨rr, hrr⟩ : ∃ rr, rr = N.getD j [] := ⟨_, rfl⟩
              have hrl : rr.length ≤ 6 := by rw [hrr]; exact HMX.out j hlt
              obtain ⟨tb, tof, rfl, hckr⟩ := H.top (j := j) (by omega)
              rw [← hrr] at hckr
              have hrow2 := H.row j (by omega)
              rw [← hrr] at hrow2
              obtain ⟨PA, hPA⟩ : ∃ PA, PA = Pc j := ⟨_, rfl⟩
              obtain ⟨CA, hCA⟩ : ∃ CA, CA = Cc j := ⟨_, rfl⟩
              rw [← hPA, ← hCA] at hckr hrow2
              have HCP := hid (concat_pair wr x rr PA CA hrow2.cells (fun e => (own_none (by rw [← e]; exact hrow2)).2) (by omega))
              have hsz0 := HB.out.size
              have hsz1 := b1.size
              have hlst := HJL.out j hjL
              have hlz : (Z K ++ J j).length ≤ 200000000 := by rw [List.length_append]; omega
              have HRW := hid (HJS.out j hlt)
              rw [← hrr] at HRW
              have HK2 := hid (show Below w.heap.size w wr ∧ wc.heap.size ≤ wr.heap.size ∧ (∀ b, wo.heap.size ≤ b → b < wc.heap.size → wr.heap[b]? = wc.heap[b]?) from ⟨b1, b2, b3⟩)
              have HK4 := hid b4
              clear hrr hrow2 hPA hCA H hll b1 b2 b3 b4 hlst HK
              go_wp2_with fail
              refine HCP.out.mono ?_
              rintro e w1 ⟨Ar, cr, rfl, ho1, hb1⟩
              have HO1 := hid ho1
              have HB1 := hid hb1
              have hs1 := hb1.size
              obtain ⟨r1, hr1⟩ : ∃ r1, r1 = x :: rr := ⟨_, rfl⟩
              rw [← hr1] at HRW HO1 ⊢
              obtain ⟨ZJ, hZJ⟩ : ∃ ZJ, ZJ = Z K ++ J j := ⟨_, rfl⟩
              rw [← hZJ] at HP2 hlz
              have HZJ := hid (show Z K ++ J (j + 1) = ZJ ++ [r1] by rw [HRW.out, hZJ, List.append_assoc])
              clear ho1 hb1 hr1 hckr hZJ
              go_wp2_with (at_builtin; refine wpList_append_own_at _ rfl _ _ 22 rfl w.heap.size 28 i1 (.slice none 0 0) 1 24 Try.underlying22 hj hy0 hy1 hy2 rfl (by decide) _ _ _ rfl ((HP2.out.below HB1.out).out.alloc _) ⟨w1.heap.size, 0, none⟩ 1 1 [.slice Ar r1.length cr] rfl rfl one_at (one_cellS _ _ _) (by unfold maxLen; omega) (by omega) (by simp; omega) ?_)
              intro v2 w2 hown2 hgrow2 _ hat
              have hp3 := HP2.out.push HB1.out HO1.out (by omega) hown2 hgrow2
              rw [← HZJ.out] at hp3
              have hgs := hgrow2.size
              obtain ⟨k1, k2, k3⟩ := HK2.out
              have hal : ∀ o : Obj, (w1.alloc o).heap.size = w1.heap.size + 1 := fun o => by simp
              have hb2 : Below w.heap.size w w2 := ((k1.trans (HB1.out.mono k1.size)).alloc (by omega) _).grown hgrow2 (by simp; omega) (fun q hq => (HP2.out.out.lt q hq).1)
              have HN := hid (show Below w.heap.size w w2 ∧ wc.heap.size ≤ w2.heap.size ∧ (∀ b, wo.heap.size ≤ b → b < wc.heap.size → w2.heap[b]? = wc.heap[b]?) ∧ ∀ q, v2.ownBlock = some q → q < wo.heap.size ∨ wc.heap.size ≤ q from by
                refine ⟨hb2, by rw [hal] at hgs; omega, fun b hb1 hb2 => ?_, fun q hq => ?_⟩
                · rw [hgrow2.block b (by rw [hal]; omega) (fun e => by have := HK4.out b e.symm; omega), Below.heap_alloc _ _ _ (by omega), HB1.out.block b (by omega)]
                  exact k3 b hb1 hb2
                · rcases hat with h | h
                  · exact HK4.out q (by rw [← h]; exact hq)
                  · rw [h] at hq
                    have : (w1.alloc (Obj.cells #[.slice Ar r1.length cr] 28)).heap.size = q := by simpa using hq
                    rw [hal] at this
                    omega)
              have HP3 := hid hp3
              clear hown2 hgrow2 hat hp3 hgs k1 k2 k3 hb2 hal
              go_wp2_with fail
              go_roundw
              case rel => exact ⟨j + 1, by omega, by go_num, ⟨_, _, HP3.out⟩, HN.out⟩
              case measure => simp [intOf]; omega
            · have hjl : j = L := by omega
              subst hjl
              have hnx := HP2.out
              rw [← HY.out] at hnx
              have HNX := hid hnx
              have hbr := hid HK.out.1
              clear hnx
              go_wp2_with fail
              go_roundw
              case rel => exact ⟨K + 1, x + 1, by have := HX.out; omega, by have := HX.out; omega, by go_num, ⟨_, _, HNX.out⟩, hbr.out⟩
              case measure => simp [intOf]; omega
      · have hK21 : K = 21 := by omega
        subst hK21
        have hpp := HP.out
        obtain ⟨A', c', rfl, ho⟩ := hpp.own2
        have HO := hid ho
        clear ho hpp
        go_wp2_with fail
        go_ret
        exact ⟨A', c', rfl, HO.out, HB.out⟩

def lwOk (t n : Int) : Bool := inB 2 6 t && okN n
def lwF (t n : Int) : List (List Int) := if lwOk t n then chL n (t.toNat - 1) [] else []
def lwN (t n : Int) : Int := (lwF t n).length
theorem lw_no {t n : Int} (h : lwOk t n = false) : lwF t n = [] := by simp [lwF, h]
theorem lw_yes {t n : Int} (h : lwOk t n = true) : lwF t n = chL n (t.toNat - 1) [] := by simp [lwF, h]
theorem bound_LevelsWith (t n : Int) : (lwF t n).length ≤ 1048576 ∧ tot (lwF t n) ≤ 1048576 := by
  cases h : lwOk t n
  · rw [lw_no h]; simp [tot]
  · rw [lw_yes h]
    simp only [lwOk, Bool.and_eq_true] at h
    have hin := inB_iff.1 h.1
    have h1 := chL_len (n := n) (t.toNat - 1) []
    have h2 : 9 ^ (t.toNat - 1) ≤ 59049 := by
      have : t.toNat - 1 = 1 ∨ t.toNat - 1 = 2 ∨ t.toNat - 1 = 3 ∨ t.toNat - 1 = 4 ∨ t.toNat - 1 = 5 := by omega
      rcases this with e | e | e | e | e <;> rw [e] <;> decide
    have h3 := tot_le (chL n (t.toNat - 1) []) 6 fun r hr => by
      have := (mem_chL _ _ hr).2.2.1
      simp at this; omega
    omega

set_option maxHeartbeats 1000000 in
theorem impl_LevelsWith (t n : Int) (w : World) (_ht : I64 t) (_hn : I64 n) :
    Calls Try.prog 6 #[.int .i64 t, .int .i64 n] w fun e w' => ∃ A' c', e = .returned (.tuple #[.slice A' (lwF t n).length c', .bool (lwOk t n)]) ∧ Own2 w' w.heap.size w'.heap.size A' c' (lwF t n) ∧ Below w.heap.size w w' := by
  cases h1 : inB 2 6 t
  · have h : lwOk t n = false := by simp [lwOk, h1]
    rw [lw_no h, h]
    have H1 := hid h1; clear h h1
    go_enter Try.func6, Try.ntmps6
    go_wp2_with (go_at_call 26; refine (hasRunners_b _ _ _ H1.out).mono ?_; rintro e w' ⟨rfl, rfl⟩)
    go_ret2
    exact ⟨none, 0, rfl, own2_nil _ _ _, Below.refl _ _⟩
  cases h2 : okN n
  · have h : lwOk t n = false := by simp [lwOk, h2]
    rw [lw_no h, h]
    have H1 := hid h1
    have H2 := hid h2; clear h h1 h2
    go_enter Try.func6, Try.ntmps6
    go_wp2_with (first | (go_at_call 26; refine (hasRunners_b _ _ _ H1.out).mono ?_; rintro e w' ⟨rfl, rfl⟩) | (go_at_call 27; refine (isCellNumber_b _ _ _ H2.out).mono ?_; rintro e w' ⟨rfl, rfl⟩))
    go_ret2
    exact ⟨none, 0, rfl, own2_nil _ _ _, Below.refl _ _⟩
  have h : lwOk t n = true := by simp [lwOk, h1, h2]
  have i1 := inB_iff.1 h1
  have i2 := inB_iff.1 h2
  obtain ⟨t, rfl⟩ : ∃ m : Nat, t = m := ⟨t.toNat, by omega⟩
  have hm := lw_main (t := t) (n := n) (by omega) (by omega)
  rw [lw_yes h, h, Int.toNat_natCast, ← hm]
  have HLF := hid fun W => levelsFrom_any t (by omega) t 0 0 (2 * n) W (by omega) (by omega) (by omega)
  rw [show ((0 : Nat) : Int) = 0 from rfl] at HLF
  obtain ⟨R, hR⟩ : ∃ R, R = lf t t 0 (2 * n) := ⟨_, rfl⟩
  rw [← hR] at HLF ⊢
  have H1 := hid h1
  have H2 := hid h2
  clear h h1 h2 hm hR
  go_enter Try.func6, Try.ntmps6
  go_wp2_with (first | (go_at_call 26; refine (hasRunners_b _ _ _ H1.out).mono ?_; rintro e w' ⟨rfl, rfl⟩) | (go_at_call 27; refine (isCellNumber_b _ _ _ H2.out).mono ?_; rintro e w' ⟨rfl, rfl⟩) | (go_at_call 28; refine (HLF.out _).mono ?_; rintro e w' ⟨A', c', rfl, ho, hb⟩))
  go_ret2
  exact ⟨A', c', rfl, ho, hb⟩

set_option maxHeartbeats 1000000 in
theorem impl_CountCores (t n : Int) (w : World) (ht : I64 t) (hn : I64 n) :
    Calls Try.prog 8 #[.int .i64 t, .int .i64 n] w fun e w' => e = .returned (.tuple #[.int .i64 (lwN t n), .bool (lwOk t n)]) ∧ Below w.heap.size w w' := by
  have HL := hid (impl_LevelsWith t n w ht hn)
  have HN := hid (show lwN t n = (lwF t n).length from rfl)
  obtain ⟨F, hF⟩ : ∃ F, F = lwF t n := ⟨_, rfl⟩
  obtain ⟨b, hb⟩ : ∃ b, b = lwOk t n := ⟨_, rfl⟩
  rw [← hF, ← hb] at HL
  rw [← hF] at HN
  rw [← hb, HN.out]
  clear hF hb HN
  go_enter Try.func8, Try.ntmps8
  go_wp2_with fail
  refine HL.out.mono ?_
  rintro e w1 ⟨A1, c1, rfl, o1, b1⟩
  go_wp2_with fail
  go_ret2
  exact ⟨rfl, b1⟩
end Go.Proofs.Ytiebnnchaopbkaa
/-
  Contracts: chAll, LevelsWith and CountCores of the model.
-/
namespace Go.Proofs.Ytiebnnchaopbkaa
open Go.RowKit

def chK (n : Int) (r : Nat) (P : List Int) (K : Nat) : List (List Int) := (lvl 4 K).flatMap fun c => chL n r (P ++ [c])
theorem chK_succ (n : Int) (r : Nat) (P : List Int) (K : Nat) : chK n r P (K + 1) = chK n r P K ++ chL n r (P ++ [(K : Int) - 4]) := by
  unfold chK; rw [lvl_succ, List.flatMap_append]; simp
theorem chK_len {n : Int} (r : Nat) (P : List Int) (K : Nat) (hK : K ≤ 9) : (chK n r P K).length ≤ 9 ^ (r + 1) := by
  have h1 := chL_len (n := n) (r + 1) P
  have e : chL n (r + 1) P = chK n r P 9 := rfl
  rw [e] at h1
  have key : ∀ d, K + d ≤ 9 → (chK n r P K).length ≤ (chK n r P (K + d)).length := fun d => by
    induction d with
    | zero => intro _; exact Nat.le_refl _
    | succ d ih => intro hd; have := ih (by omega); rw [show K + (d + 1) = K + d + 1 by omega, chK_succ, List.length_append]; omega
  have := key (9 - K) (by omega)
  rw [show K + (9 - K) = 9 by omega] at this
  omega
theorem pow9 {r : Nat} (h : r ≤ 6) : 9 ^ r ≤ 1000000 := by
  have : r = 0 ∨ r = 1 ∨ r = 2 ∨ r = 3 ∨ r = 4 ∨ r = 5 ∨ r = 6 := by omega
  rcases this with rfl | rfl | rfl | rfl | rfl | rfl | rfl <;> decide

set_option maxRecDepth 100000 in
set_option maxHeartbeats 4000000 in
theorem chAll_zero {B : Nat} (t : Nat) (n : Int) (A : Option Addr) (c : Nat) (P : List Int) (w : World) (ht : 2 ≤ t ∧ t ≤ 6) (hP : P.length + 1 = t) (hb : ∀ y ∈ P, -10 ≤ y ∧ y ≤ 10) (ho : Own w B A c P) :
    Calls Try.prog 23 #[.slice A P.length c, .int .i64 t, .int .i64 n] w fun e w' => ∃ A' c', e = .returned (.slice A' (chL n 0 P).length c') ∧ Own2 w' w.heap.size w'.heap.size A' c' (chL n 0 P) ∧ Below w.heap.size w w' := by
  obtain ⟨i0, hi, hz0, hz1, hz2⟩ := info_parts Try.infoInt
  rw [chL]
  have hbd : ∀ j, j < P.length → -1000 ≤ P.getD j 0 ∧ P.getD j 0 ≤ 1000 := fun j hj => by
    have := hb (P.getD j 0) (by rw [List.getD_eq_getElem?_getD, List.getElem?_eq_getElem hj]; exact List.getElem_mem hj)
    omega
  have HSU := hid fun W (h : Cells W A P) => ptSum_abs A P c W (by omega) hbd h
  have HOW := hid fun W (h : Own W B A c P) => l1Own_any A c P W (by omega) h
  have hsb : -60 ≤ P.sum ∧ P.sum ≤ 60 := by
    have key : ∀ L : List Int, (∀ y ∈ L, -10 ≤ y ∧ y ≤ 10) → -(10 * (L.length : Int)) ≤ L.sum ∧ L.sum ≤ 10 * L.length := fun L => by
      induction L with
      | nil => intro _; simp
      | cons a l ih =>
        intro h
        have h1 := h a (List.mem_cons_self ..)
        have h2 := ih fun y hy => h y (List.mem_cons_of_mem _ hy)
        rw [List.sum_cons, List.length_cons]; omega
    have := key P hb
    omega
  obtain ⟨S, hS⟩ : ∃ S, S = P.sum := ⟨_, rfl⟩
  rw [← hS] at HSU hsb ⊢
  obtain ⟨V, hV⟩ : ∃ V, V = P ++ [-S] := ⟨_, rfl⟩
  have hVl : V.length = t := by rw [hV]; simp; omega
  have HIL := hid (show IL V = IL P ++ [.int .i64 (-S)] by rw [hV, IL_app]; rfl)
  have HGO := hid fun A' c' W (h : Cells W A' V) b (hb : levB V = b) => chGood_b A' c' V W (by omega) h b hb
  have HSZ := hid fun A' c' W (h : Cells W A' V) (hb : levB V = true) => chSize_any A' c' V W (levB_iff.1 hb) h
  have HVL := hid (show P.length + 1 = V.length by omega)
  have HO := hid ho
  have HC := hid ho.cells
  have heq : (P.length : Int) = (t : Int) - 1 := by omega
  have hPb : P.length ≤ 6 := by omega
  rw [← hV]
  clear hS hV hbd hb ho hVl hP
  have walk : ∀ (b g : Bool), levB V = b → (b = true → decide (sizeL V = n) = g) → Calls Try.prog 23 #[.slice A P.length c, .int .i64 t, .int .i64 n] w fun e w' => ∃ A' c', e = .returned (.slice A' (if (b && g) = true then [V] else []).length c') ∧ Own2 w' w.heap.size w'.heap.size A' c' (if (b && g) = true then [V] else []) ∧ Below w.heap.size w w' := by
    intro b g hb hg
    have HB := hid hb
    have HG := hid hg
    clear hb hg
    go_enter Try.func23, Try.ntmps23
    go_wp2_with fail
    refine (HOW.out _ HO.out).mono ?_
    rintro e w1 ⟨A1, c1, rfl, o1, b1⟩
    have hc1 := hid (HC.out.later b1)
    have O1 := hid o1
    have B1 := hid b1
    have hs1 := b1.size
    clear o1 b1
    go_wp2_with fail
    refine (HSU.out _ hc1.out).mono ?_
    rintro e w' ⟨rfl, rfl⟩
    go_wp2_with (at_builtin; refine wpList_append_own _ rfl _ _ 28 rfl w.heap.size 3 i0 (.int .i64 0) 1 8 Try.underlying28 hi hz0 hz1 hz2 rfl (by decide) _ _ _ rfl (O1.out.alloc _) ⟨w1.heap.size, 0, none⟩ 1 1 [.int .i64 (-S)] rfl rfl one_at (one_cell _) (by unfold maxLen; omega) (by omega) (by simp; omega) ?_)
    intro v' w2 hown' hgrow _
    have hb2 : Below w.heap.size w w2 := (B1.out.alloc B1.out.size _).grown hgrow (by simp; omega) (fun q hq => (O1.out.lt q hq).1)
    rw [← HIL.out] at hown'
    obtain ⟨A2, c2, rfl, o2⟩ := own_form hown' HVL.out
    have O2 := hid o2
    have B2 := hid hb2
    have hs2 := hb2.size
    clear hown' hgrow o2 hb2
    cases b
    · go_wp2_with (go_at_call 48; refine (HGO.out _ _ _ O2.out.cells _ HB.out).mono ?_; rintro e w' ⟨rfl, rfl⟩)
      go_ret
      exact ⟨none, 0, rfl, own2_nil _ _ _, B2.out⟩
    · have hgd := HG.out rfl
      obtain ⟨z, hz⟩ : ∃ z, z = sizeL V := ⟨_, rfl⟩
      have HS2 := hid (HSZ.out A2 c2 w2 O2.out.cells HB.out)
      rw [← hz] at HS2 hgd
      clear hz
      cases g
      · have hne := of_decide_eq_false hgd
        clear hgd
        go_wp2_with (first | (go_at_call 48; refine (HGO.out _ _ _ O2.out.cells _ HB.out).mono ?_; rintro e w' ⟨rfl, rfl⟩) | (go_at_call 49; refine HS2.out.mono ?_; rintro e w' ⟨rfl, rfl⟩))
        go_ret
        exact ⟨none, 0, rfl, own2_nil _ _ _, B2.out⟩
      · have hze := of_decide_eq_true hgd
        subst hze
        clear hgd
        go_wp2_with (first | (go_at_call 48; refine (HGO.out _ _ _ O2.out.cells _ HB.out).mono ?_; rintro e w' ⟨rfl, rfl⟩) | (go_at_call 49; refine HS2.out.mono ?_; rintro e w' ⟨rfl, rfl⟩))
        go_ret
        exact ⟨some ⟨w2.heap.size, 0, none⟩, 1, rfl, own2_one hs2 O2.out, B2.out.alloc hs2 _⟩
  have := walk (levB V) (decide (sizeL V = n)) rfl (fun _ => rfl)
  exact this

set_option maxRecDepth 100000 in
set_option maxHeartbeats 8000000 in
theorem chAll_any (t : Nat) (n : Int) (ht : 2 ≤ t ∧ t ≤ 6) : ∀ (r B : Nat) (A : Option Addr) (c : Nat) (P : List Int) (w : World), P.length + r + 1 = t → (∀ y ∈ P, -10 ≤ y ∧ y ≤ 10) → Own w B A c P →
    Calls Try.prog 23 #[.slice A P.length c, .int .i64 t, .int .i64 n] w fun e w' => ∃ A' c', e = .returned (.slice A' (chL n r P).length c') ∧ Own2 w' w.heap.size w'.heap.size A' c' (chL n r P) ∧ Below w.heap.size w w' := by
  obtain ⟨i0, hi, hz0, hz1, hz2⟩ := info_parts Try.infoInt
  obtain ⟨i1, hj, hy0, hy1, hy2⟩ := info_parts Try.infoInts
  intro r
  induction r with
  | zero =>
    intro B A c P w hl hb ho
    exact chAll_zero t n A c P w ht (by omega) hb ho
  | succ r ih =>
    intro B A c P w hl hb ho
    have IH := hid ih; clear ih
    have HOW := hid fun W (h : Own W B A c P) => l1Own_any A c P W (by omega) h
    have HKS := hid fun K => chK_succ n r P K
    have HKA := hid (show chK n r P 9 = chL n (r + 1) P from rfl)
    have HK0 := hid (show chK n r P 0 = [] from rfl)
    have HKL := hid fun K (hK : K ≤ 9) => (Nat.le_trans (chK_len (n := n) r P K hK) (pow9 (by omega)) : (chK n r P K).length ≤ 1000000)
    have HCL := hid fun Q => (Nat.le_trans (chL_len (n := n) r Q) (pow9 (by omega)) : (chL n r Q).length ≤ 1000000)
    have HIL := hid fun x => (show IL (P ++ [x]) = IL P ++ [.int .i64 x] by rw [IL_app]; rfl)
    have HBP := hid fun x (hx : -10 ≤ x ∧ x ≤ 10) => (show ∀ y ∈ P ++ [x], -10 ≤ y ∧ y ≤ 10 from fun y hy => by
      rcases List.mem_append.1 hy with h | h
      · exact hb y h
      · rw [List.mem_singleton] at h; omega)
    have HLP := hid fun x => (show P.length + 1 = (P ++ [x]).length by simp)
    obtain ⟨Z, hZ⟩ : ∃ Z, Z = chK n r P := ⟨_, rfl⟩
    rw [← hZ] at HKS HKA HK0 HKL
    rw [← HKA.out]
    obtain ⟨M, hM⟩ : ∃ M, M = chL n r := ⟨_, rfl⟩
    rw [← hM] at HKS HCL IH
    have HO := hid ho
    have hne : ¬ ((P.length : Int) = (t : Int) - 1) := by omega
    have hPb : P.length ≤ 6 := by omega
    have HHL := hid hl
    clear hZ hM HKA hb ho hl
    go_enter Try.func23, Try.ntmps23
    go_wp2_with fail
    rw [show ((P.length : Int) == (t : Int) - 1) = false from beq_eq_false_iff_ne.2 hne]
    go_loopw [8, 9] (fun v xv wr => ∃ (K : Nat) (x : Int), K ≤ 9 ∧ x = (K : Int) - 4 ∧ xv = .int .i64 x ∧ (∃ P C, Push wr w.heap.size v (Z K) P C) ∧ Below w.heap.size w wr) (fun _ xv _ => (5 - intOf xv).toNat)
    case atStart => exact ⟨0, -4, by omega, by omega, rfl, by rw [HK0.out]; exact ⟨_, _, push_nil _ _⟩, Below.refl _ _⟩
    case round =>
      obtain ⟨K, x, hK, hx, rfl, ⟨PP, C, hpush⟩, hbel⟩ := hrel
      obtain ⟨wo, rfl⟩ : ∃ wo : World, wo = wr := ⟨_, rfl⟩
      have HP := hid hpush; clear hpush
      have HB := hid hbel; clear hbel
      by_cases h1 : x ≤ 4
      · have hxb : -10 ≤ x ∧ x ≤ 10 := by omega
        have HK1 := hid (show Z (K + 1) = Z K ++ M (P ++ [x]) by rw [HKS.out, hx])
        have hKL := HKL.out K hK
        have hCL := HCL.out (P ++ [x])
        have HQB := hid (HBP.out x hxb)
        have HIX := hid (HIL.out x)
        have hQL := HLP.out x
        have hs0 := HB.out.size
        obtain ⟨Q, hQ⟩ : ∃ Q, Q = P ++ [x] := ⟨_, rfl⟩
        rw [← hQ] at HK1 hCL HQB HIX hQL
        have HQL := hid hQL
        have HX := hid hx
        clear hQ hx hQL
        go_wp2_with fail
        refine (HOW.out _ (HO.out.below HB.out)).mono ?_
        rintro e w1 ⟨A1, c1, rfl, o1, b1⟩
        have O1 := hid o1
        have B1 := hid b1
        have hs1 := b1.size
        clear o1 b1
        go_wp2_with (at_builtin; refine wpList_append_own _ rfl _ _ 28 rfl wo.heap.size 3 i0 (.int .i64 0) 1 8 Try.underlying28 hi hz0 hz1 hz2 rfl (by decide) _ _ _ rfl (O1.out.alloc _) ⟨w1.heap.size, 0, none⟩ 1 1 [.int .i64 x] rfl rfl one_at (one_cell _) (by unfold maxLen; omega) (by omega) (by simp; omega) ?_)
        intro v' w2 hown' hgrow _
        have hb2 : Below wo.heap.size wo w2 := (B1.out.alloc B1.out.size _).grown hgrow (by simp; omega) (fun q hq => (O1.out.lt q hq).1)
        rw [← HIX.out] at hown'
        obtain ⟨A2, c2, rfl, o2⟩ := own_form hown' HQL.out
        have HCA := hid (IH.out wo.heap.size A2 c2 Q w2 (by have := HHL.out; have := HQL.out; omega) HQB.out o2)
        have B2 := hid hb2
        clear hown' hgrow o2 hb2
        go_wp2_with fail
        refine HCA.out.mono ?_
        rintro e w3 ⟨A3, c3, rfl, ⟨P3, C3, H3⟩, b3⟩
        obtain ⟨N, hN⟩ : ∃ N, N = M Q := ⟨_, rfl⟩
        rw [← hN] at HK1 hCL H3 ⊢
        have hs2 := B2.out.size
        have hB3 : Below wo.heap.size wo w3 := Below.next B2.out b3
        have hH4 : Own2At w3 wo.heap.size w3.heap.size A3 c3 N P3 C3 := by
          refine ⟨⟨H3.out.1, ?_⟩, H3.outS, fun j hj => (H3.row j hj).more hs2, H3.rowS, H3.apart⟩
          rcases H3.out.2 with hn | ⟨g, cap, cur, hv, hb, rest⟩
          · exact .inl hn
          · exact .inr ⟨g, cap, cur, hv, Nat.le_trans hs2 hb, rest⟩
        have H4 := hid hH4
        have B3 := hid hB3
        have hs3 := hB3.size
        have HZ := hid (show (Z K).length ≤ 1000000 from hKL)
        clear H3 b3 hB3 hH4 hN
        go_wp2_with (at_builtin; refine wpList_append_opt _ rfl _ _ 22 rfl w.heap.size 28 i1 (.slice none 0 0) 1 24 Try.underlying22 hj hy0 hy1 hy2 rfl (by decide) _ _ _ rfl (HP.out.below B3.out).out A3 N.length c3 (RL P3 C3 N) rfl (by rw [RL_len]; omega) (fun e => own2_none (by rw [← e]; exact H4.out)) (fun ad e => own2_news (by rw [← e]; exact H4.out)) (RL_one _ _ _) (by unfold maxLen; omega) (by omega) (by omega) ?_)
        intro v4 w4 hown4 hgrow4
        have hp4 := HP.out.pushAll B3.out H4.out hs0 hown4 hgrow4
        rw [← HK1.out] at hp4
        have HP4 := hid hp4
        have HB4 := hid (show Below w.heap.size w w4 from (HB.out.trans (B3.out.mono hs0)).grown hgrow4 (by omega) (fun q hq => (HP.out.out.lt q hq).1))
        clear hown4 hgrow4 hp4
        go_wp2_with fail
        go_roundw
        case rel => exact ⟨K + 1, x + 1, by have := HX.out; omega, by have := HX.out; omega, by go_num, ⟨_, _, HP4.out⟩, HB4.out⟩
        case measure => simp [intOf]; omega
      · have hK9 : K = 9 := by omega
        subst hK9
        have hpp := HP.out
        obtain ⟨A', c', rfl, ho⟩ := hpp.own2
        have HO2 := hid ho
        clear ho hpp
        go_wp2_with fail
        go_ret
        exact ⟨A', c', rfl, HO2.out, HB.out⟩

theorem chAsked_any (t n : Int) (w : World) : Calls Try.prog 22 #[.int .i64 t, .int .i64 n] w fun e w' => e = .returned (.bool (lwOk t n)) ∧ w = w' := by
  cases h1 : inB 2 6 t
  · have h : lwOk t n = false := by simp [lwOk, h1]
    rw [h]
    have H1 := hid h1; clear h h1
    go_enter Try.func22, Try.ntmps22
    go_wp2_with (go_at_call 44; refine (chRunners_b _ _ _ H1.out).mono ?_; rintro e w' ⟨rfl, rfl⟩)
    go_ret
    exact ⟨rfl, rfl⟩
  · have HE := hid (show okN n = lwOk t n by simp [lwOk, h1])
    have H1 := hid h1; clear h1
    obtain ⟨b, hb⟩ : ∃ b, b = lwOk t n := ⟨_, rfl⟩
    rw [← hb] at HE ⊢
    clear hb
    go_enter Try.func22, Try.ntmps22
    go_wp2_with (first | (go_at_call 44; refine (chRunners_b _ _ _ H1.out).mono ?_; rintro e w' ⟨rfl, rfl⟩) | (go_at_call 45; refine (ptCells_b _ _ _ HE.out).mono ?_; rintro e w' ⟨rfl, rfl⟩))
    go_ret
    exact ⟨rfl, rfl⟩
theorem chAsked_b (t n : Int) (w : World) (b : Bool) (h : lwOk t n = b) : Calls Try.prog 22 #[.int .i64 t, .int .i64 n] w fun e w' => e = .returned (.bool b) ∧ w = w' := by
  subst h; exact chAsked_any t n w

set_option maxHeartbeats 1000000 in
theorem spec_LevelsWith (t n : Int) (w : World) (_ht : I64 t) (_hn : I64 n) :
    Calls Try.prog 7 #[.int .i64 t, .int .i64 n] w fun e w' => ∃ A' c', e = .returned (.tuple #[.slice A' (lwF t n).length c', .bool (lwOk t n)]) ∧ Own2 w' w.heap.size w'.heap.size A' c' (lwF t n) ∧ Below w.heap.size w w' := by
  cases h : lwOk t n
  · rw [lw_no h]
    have H := hid h; clear h
    go_enter Try.func7, Try.ntmps7
    go_wp2_with (go_at_call 22; refine (chAsked_b _ _ _ _ H.out).mono ?_; rintro e w' ⟨rfl, rfl⟩)
    go_ret2
    exact ⟨none, 0, rfl, own2_nil _ _ _, Below.refl _ _⟩
  have h' := h
  simp only [lwOk, Bool.and_eq_true] at h'
  have i1 := inB_iff.1 h'.1
  obtain ⟨t, rfl⟩ : ∃ m : Nat, t = m := ⟨t.toNat, by omega⟩
  rw [lw_yes h, Int.toNat_natCast]
  have HCA := hid fun W => chAll_any t n (by omega) (t - 1) W.heap.size none 0 [] W (by simp; omega) (fun y hy => by cases hy) (own_nil _ _)
  rw [show ([] : List Int).length = 0 from rfl] at HCA
  obtain ⟨R, hR⟩ : ∃ R, R = chL n (t - 1) [] := ⟨_, rfl⟩
  rw [← hR] at HCA ⊢
  have H := hid h; clear h h' hR
  go_enter Try.func7, Try.ntmps7
  go_wp2_with (first | (go_at_call 22; refine (chAsked_b _ _ _ _ H.out).mono ?_; rintro e w' ⟨rfl, rfl⟩) | (go_at_call 23; refine (HCA.out _).mono ?_; rintro e w' ⟨A', c', rfl, ho, hb⟩))
  go_ret2
  exact ⟨A', c', rfl, ho, hb⟩

end Go.Proofs.Ytiebnnchaopbkaa
/-
  Contracts: CoreOfLevels of the program.
-/
namespace Go.Proofs.Ytiebnnchaopbkaa
open Go.RowKit

set_option maxRecDepth 100000 in
set_option maxHeartbeats 2000000 in
theorem impl_CoreOfLevels (A : Option Addr) (c : Nat) (xs : List Int) (w : World) (hl : xs.length ≤ 1048576) (hc : Cells w A xs) :
    Calls Try.prog 19 #[.slice A xs.length c] w fun e w' => ∃ A' c', e = .returned (.tuple #[.slice A' (clF xs).length c', .bool (clOk xs)]) ∧ Own w' w.heap.size A' c' (clF xs) ∧ Below w.heap.size w w' := by
  have HS := hid (SizeOfLevels_any A c xs w hl hc)
  cases hg : levB xs
  · have hk : clOk xs = false := by simp [clOk, hg]
    rw [cl_no hk, hk]
    rw [hg] at HS
    clear hg hk
    obtain ⟨z, hz⟩ : ∃ z, z = sizeF xs := ⟨_, rfl⟩
    rw [← hz] at HS
    clear hz
    go_enter Try.func19, Try.ntmps19
    go_wp2_with fail
    refine HS.out.mono ?_
    rintro e w1 ⟨rfl, rfl⟩
    go_wp2_with fail
    go_ret2
    exact ⟨none, 0, rfl, own_nil _ _, Below.refl _ _⟩
  have L := levB_iff.1 hg
  rw [hg, sizeF_t hg] at HS
  by_cases hs : 30 < sizeL xs
  · have hk : clOk xs = false := by simp [clOk, hg]; omega
    rw [cl_no hk, hk]
    obtain ⟨z, hz⟩ : ∃ z, z = sizeL xs := ⟨_, rfl⟩
    rw [← hz] at HS hs
    clear hz hg hk L
    go_enter Try.func19, Try.ntmps19
    go_wp2_with fail
    refine HS.out.mono ?_
    rintro e w1 ⟨rfl, rfl⟩
    go_wp2_with fail
    go_ret2
    exact ⟨none, 0, rfl, own_nil _ _, Below.refl _ _⟩
  have hs30 : sizeL xs ≤ 30 := by omega
  have hk : clOk xs = true := by simp [clOk, hg, hs30]
  obtain ⟨t, ht⟩ : ∃ t, t = xs.length := ⟨_, rfl⟩
  have h26 : 2 ≤ t ∧ t ≤ 6 := by rw [ht]; exact ⟨L.lo, L.hi⟩
  obtain ⟨q1, q2, q3, q4⟩ := qR_bd h26
  have hok := clR_ok L hs30 q1 (by rw [← ht]; exact q3)
  have htot := clR_tot L hs30 q1 (by rw [← ht]; exact q3)
  have hgd := goodB_iff.1 (kL_good L hs30 q1 (by rw [← ht]; exact q3))
  have hpe : clF xs = partsL (kL (qR t) xs) := by rw [cl_yes hk, cl_at L hs30 (by omega), cl_at L hs30 q1]
  rw [hpe, hk]
  have hFR := fun A1 c1 W (h : Cells2 W A1 (clR (qR t) xs xs.length)) => impl_FromRunners A1 c1 _ W (by rw [clR_len]; exact ⟨hl, htot⟩) h
  rw [(fr_yes hok).1, (fr_yes hok).2, hok, clR_frL, clR_len, ← ht] at hFR
  have HFR := hid hFR; clear hFR
  have hD40 := hgd.len
  have HPA := hid fun A1 c1 W (h : Cells W A1 (kL (qR t) xs)) => partsOf_any A1 c1 _ W (by omega) hgd.rise.bd h
  have hfl : ∀ i, i < t → ∃ n : Nat, n ≤ 36 ∧ fillR (qR t) xs i = upTo n ∧ (n : Int) = (qR t : Int) + xs.getD i 0 := fun i hi => by
    have := lev_small L hs30 i (by rw [← ht]; exact hi)
    exact ⟨((qR t : Int) + xs.getD i 0).toNat, by omega, rfl, by omega⟩
  have HFL := hid hfl
  have HRL := hid fun k => clR_len (qR t) xs k
  have HRS := hid fun k => clR_succ (qR t) xs k
  have HMU := hid fun W => multipleFrom_any t 30 h26 (by omega) W
  have htd : Int.tdiv (mulN t 30 : Int) (t : Int) = (qR t : Int) := by
    rw [q4]
    show (((qR t * t) / t : Nat) : Int) = qR t
    rw [Nat.mul_div_cancel _ (by omega)]
  rw [show ((30 : Nat) : Int) = 30 from rfl] at HMU
  obtain ⟨m, hm⟩ : ∃ m, m = mulN t 30 := ⟨_, rfl⟩
  have hmb : m ≤ 40 := by rw [hm, q4, Nat.mul_comm]; exact q3
  rw [← hm] at HMU htd
  obtain ⟨K, hK⟩ : ∃ K, K = kL (qR t) xs := ⟨_, rfl⟩
  rw [← hK] at HFR HPA ⊢
  obtain ⟨R, hR⟩ : ∃ R, R = clR (qR t) xs := ⟨_, rfl⟩
  rw [← hR] at HFR HRL HRS
  have HR0 := hid (show R 0 = [] by rw [hR]; rfl)
  obtain ⟨f, hf⟩ : ∃ f, f = fillR (qR t) xs := ⟨_, rfl⟩
  rw [← hf] at HFL HRS
  obtain ⟨q, hq⟩ : ∃ q, q = qR t := ⟨_, rfl⟩
  rw [← hq] at HFL htd q2
  obtain ⟨z, hz⟩ : ∃ z, z = sizeL xs := ⟨_, rfl⟩
  rw [← hz] at HS hs
  have hlvb : ∀ j, j < t → -10 ≤ xs.getD j 0 ∧ xs.getD j 0 ≤ 10 := fun j hj => L.bd j (by rw [← ht]; exact hj)
  have HLV := hid hlvb
  have hne : ¬ ((t : Int) = 0) := by omega
  have hmkO := run_make_row' (P := Try.prog) 22 28 (.slice none 0 0) 24 Try.underlying22 Try.infoInts rfl .i64 .i64 t (by omega) (by omega)
  clear hz hm hK hR hf hfl hq q1 q3 q4 hok htot hgd hpe hk hs30 hg L hD40 hlvb
  rw [← ht] at HS ⊢
  have hc' : ∀ W, Below w.heap.size w W → ∀ k, k < t → ∃ b o, A = some ⟨b, o, none⟩ ∧ W.cell? ⟨b, o + k, none⟩ = some (.int .i64 (xs.getD k 0)) := fun W h k hk => by
    obtain ⟨b, o, e, hcc⟩ := (hc.later h) (by omega)
    exact ⟨b, o, e, hcc k (by omega)⟩
  have HC := hid hc'
  clear hc hc' hl ht
  go_enter Try.func19, Try.ntmps19
  go_wp2_with fail
  refine HS.out.mono ?_
  rintro e w1 ⟨rfl, rfl⟩
  go_wp2_with fail
  clear hmkO
  go_loopw [28] (fun i wr => ∃ k : Nat, k ≤ t ∧ i = .int .i64 k ∧ (∃ P C, Fill wr w.heap.size w.heap.size t (R k) P C) ∧ Below w.heap.size w wr) (fun i _ => t - (intOf i).toNat)
  case atStart => exact ⟨0, Nat.zero_le _, rfl, ⟨_, _, by rw [HR0.out]; exact fill_start w t (by unfold maxLen; omega)⟩, (Below.refl _ _).alloc (Nat.le_refl _) _⟩
  case round =>
    obtain ⟨k, hk, rfl, ⟨P, C, hfill⟩, hbel⟩ := hrel
    obtain ⟨wo, rfl⟩ : ∃ wo : World, wo = wr := ⟨_, rfl⟩
    have HF := hid hfill; clear hfill
    by_cases hlt : k < t
    · obtain ⟨b, o, rfl, hck⟩ := HC.out _ hbel k hlt
      obtain ⟨n, hn, hfn, hnq⟩ := HFL.out k hlt
      have hlk := HLV.out k hlt
      obtain ⟨l, hle⟩ : ∃ l, l = xs.getD k 0 := ⟨_, rfl⟩
      rw [← hle] at hck hnq hlk
      have HCU := hid fun W => countUp_any n W (by omega)
      have HB := hid hbel
      have HFN := hid hfn
      clear hbel hle hfn
      go_wp2_with fail
      refine (HMU.out _).mono ?_
      rintro e w4 ⟨rfl, rfl⟩
      go_wp2_with fail
      rw [← hnq]
      refine (HCU.out _).mono ?_
      rintro e w4 ⟨A', c', rfl, ho, hb⟩
      have hput := HF.out.put (by rw [HRL.out]; exact hlt) hb ho
      rw [HRL.out, ← HFN.out, ← HRS.out, HFN.out, upTo_len] at hput
      obtain ⟨⟨uo, huo⟩, hfz, hf2, hbb⟩ := hput
      have HF2 := hid hf2
      have hb3 := hid (HB.out.trans hbb)
      clear hf2 hbb ho hb
      go_wp2_with fail
      go_roundw
      case rel => exact ⟨k + 1, by omega, by go_num, ⟨_, _, HF2.out⟩, hb3.out⟩
      case measure => simp [intOf]; omega
    · have hku : k = t := by omega
      subst hku
      have HO := hid (Own2.cells (HF.out.own2 (HRL.out k)))
      have HB := hid hbel; clear hbel
      go_wp2_with fail
      refine (HFR.out _ _ _ HO.out).mono ?_
      rintro e w2 ⟨A2, c2, rfl, o3, b2⟩
      have B2 := Below.next HB.out b2
      have y2 := Box2.new w2 49 (.int .i64 k) (.slice A2 K.length c2)
      have hb2 : Below w.heap.size w (w2.alloc (.cells #[.int .i64 k, .slice A2 K.length c2] 49)) := B2.alloc B2.size _
      have f3 := y2.cell1
      have O3 := hid (o3.cells.below (w' := w2.alloc (.cells #[.int .i64 k, .slice A2 K.length c2] 49)) ((Below.refl _ _).alloc (Nat.le_refl _) _))
      have hsz2 := hb2.size
      have HB2 := hid hb2
      clear o3 y2 hb2 b2 B2
      go_wp2_with fail
      refine (HPA.out _ _ _ O3.out).mono ?_
      rintro e w3 ⟨A3, c3, rfl, o4, b3⟩
      have HO4 := hid (o4.more hsz2)
      have HB4 := hid (Below.next HB2.out b3)
      clear o4 b3
      go_wp2_with fail
      go_ret2
      exact ⟨A3, c3, rfl, HO4.out, HB4.out⟩
end Go.Proofs.Ytiebnnchaopbkaa
/-
  Contracts: CoreOfLevels of the model.
-/
namespace Go.Proofs.Ytiebnnchaopbkaa
open Go.RowKit

theorem bpk_snoc (L : List Int) (y : Int) : ∀ k, k ≤ L.length → bpk (L ++ [y]) (k + 1) = (if (L.length : Int) < y then [y - L.length] else []) ++ bpk L k
  | 0, _ => by
    have hi : L.length = (L ++ [y]).length - 1 - 0 := by simp
    have hx : y = (L ++ [y]).getD L.length 0 := by simp [List.getD]
    by_cases c : (L.length : Int) < y
    · rw [bpk_yes hi hx c, if_pos c]; simp [bpk]
    · rw [bpk_no hi hx c, if_neg c]; simp [bpk]
  | k + 1, h => by
    have ih := bpk_snoc L y k (by omega)
    have hi : L.length - 1 - k = (L ++ [y]).length - 1 - (k + 1) := by simp; omega
    have hx : L.getD (L.length - 1 - k) 0 = (L ++ [y]).getD (L.length - 1 - k) 0 := by
      rw [List.getD_eq_getElem?_getD, List.getD_eq_getElem?_getD, List.getElem?_append_left (by omega)]
    by_cases c : ((L.length - 1 - k : Nat) : Int) < L.getD (L.length - 1 - k) 0
    · rw [bpk_yes hi hx c, ih, bpk_yes rfl rfl c, List.append_assoc]
    · rw [bpk_no hi hx c, ih, bpk_no rfl rfl c]
theorem parts_snoc (L : List Int) (y : Int) : partsL (L ++ [y]) = (if (L.length : Int) < y then [y - L.length] else []) ++ partsL L := by
  unfold partsL
  rw [List.length_append, List.length_singleton, bpk_snoc L y _ (Nat.le_refl _)]
/-- Whether the number m, counted from the least one, is a bead. -/
def hB (xs : List Int) (m : Nat) : Bool := decide (((m / xs.length : Nat) : Int) < 11 + xs.getD (m % xs.length) 0)
def kP (xs : List Int) : Nat → List Int
  | 0 => []
  | m + 1 => kP xs m ++ if hB xs m then [(m : Int)] else []
theorem own_drewN' {w : World} {B c : Nat} {A : Option Addr} {xs : List Int} (h : Own w B A c xs) (n : Nat) : Own (w.drewN n) B A c xs := h
def oL (xs : List Int) (m : Nat) : List Int := partsL (kP xs m)
def frN (xs : List Int) (m : Nat) : Nat := m - (kP xs m).length
theorem kP_len (xs : List Int) : ∀ m, (kP xs m).length ≤ m
  | 0 => Nat.le_refl 0
  | m + 1 => by have := kP_len xs m; rw [kP]; split <;> simp <;> omega
theorem mem_kP {xs : List Int} {x : Int} : ∀ m : Nat, x ∈ kP xs m ↔ 0 ≤ x ∧ x < m ∧ hB xs x.toNat = true
  | 0 => by simp [kP]; omega
  | m + 1 => by
    rw [kP, List.mem_append, mem_kP m]
    by_cases h : hB xs m = true
    · rw [if_pos h, List.mem_singleton]
      constructor
      · rintro (⟨a, b, c⟩ | rfl)
        · exact ⟨a, by omega, c⟩
        · exact ⟨by omega, by omega, by rw [Int.toNat_natCast]; exact h⟩
      · rintro ⟨a, b, c⟩
        by_cases e : x = m
        · exact .inr e
        · exact .inl ⟨a, by omega, c⟩
    · rw [if_neg h]
      constructor
      · rintro (⟨a, b, c⟩ | hh)
        · exact ⟨a, by omega, c⟩
        · cases hh
      · rintro ⟨a, b, c⟩
        by_cases e : x = m
        · subst e; rw [Int.toNat_natCast] at c; exact absurd c h
        · exact .inl ⟨a, by omega, c⟩
theorem kP_pw (xs : List Int) : ∀ m, (kP xs m).Pairwise (· < ·)
  | 0 => List.Pairwise.nil
  | m + 1 => by
    rw [kP, List.pairwise_append]
    refine ⟨kP_pw xs m, by split <;> simp, fun a ha b hb => ?_⟩
    have := ((mem_kP m).1 ha).2.1
    split at hb
    · rw [List.mem_singleton] at hb; omega
    · cases hb
theorem kP_all {xs : List Int} (L : Lev xs) : kP xs (22 * xs.length) = kL 11 xs := by
  have h2 := L.lo
  refine pw_ext (kP_pw _ _) (kL_pw _ _) fun x => ?_
  rw [mem_kP, mem_kL (by omega)]
  constructor
  · rintro ⟨h1, _, h3⟩
    obtain ⟨m, rfl⟩ : ∃ m : Nat, x = m := ⟨x.toNat, by omega⟩
    rw [Int.toNat_natCast] at h3
    refine ⟨h1, ?_⟩
    have := of_decide_eq_true h3
    rw [← Int.natCast_ediv, ← Int.natCast_emod, Int.toNat_natCast]
    exact this
  · rintro ⟨h1, h3⟩
    obtain ⟨m, rfl⟩ : ∃ m : Nat, x = m := ⟨x.toNat, by omega⟩
    rw [← Int.natCast_ediv, ← Int.natCast_emod, Int.toNat_natCast] at h3
    refine ⟨h1, ?_, ?_⟩
    · have hb := L.bd (m % xs.length) (Nat.mod_lt _ (by omega))
      have hd : m / xs.length < 22 := by omega
      rw [Nat.div_lt_iff_lt_mul (by omega)] at hd
      omega
    · rw [Int.toNat_natCast]; exact decide_eq_true h3
theorem o_yes {xs : List Int} {m : Nat} (h : hB xs m = true) (hf : 0 < frN xs m) : oL xs (m + 1) = (frN xs m : Int) :: oL xs m := by
  have := kP_len xs m
  unfold frN at hf
  unfold oL frN
  rw [kP, if_pos h, parts_snoc, if_pos (by omega), show (m : Int) - ((kP xs m).length : Int) = ((m - (kP xs m).length : Nat) : Int) by omega]; rfl
theorem o_zero {xs : List Int} {m : Nat} (h : hB xs m = true) (hf : frN xs m = 0) : oL xs (m + 1) = oL xs m := by
  unfold frN at hf
  unfold oL
  rw [kP, if_pos h, parts_snoc, if_neg (by omega)]; rfl
theorem o_no {xs : List Int} {m : Nat} (h : hB xs m = false) : oL xs (m + 1) = oL xs m := by
  unfold oL
  rw [kP, h]; simp
theorem f_yes {xs : List Int} {m : Nat} (h : hB xs m = true) : frN xs (m + 1) = frN xs m := by
  unfold frN
  rw [kP, if_pos h]; simp
theorem f_no {xs : List Int} {m : Nat} (h : hB xs m = false) : frN xs (m + 1) = frN xs m + 1 := by
  have := kP_len xs m
  unfold frN
  rw [kP, h]; simp; omega
theorem o_len (xs : List Int) (m : Nat) : (oL xs m).length ≤ m := Nat.le_trans (pk_len _ _) (kP_len xs m)

/-- The numbers of a round: the runner and the row. -/
theorem round_nums {t m : Nat} (ht : 2 ≤ t ∧ t ≤ 6) {x : Int} (hx : x = (m : Int) - 11 * t) :
    x % (t : Int) = (m % t : Nat) ∧ Int.tdiv (x - (m % t : Nat)) (t : Int) = (m / t : Nat) - 11 := by
  have h1 := Nat.div_add_mod m t
  have h2 : (m : Int) = (t : Int) * ((m / t : Nat) : Int) + ((m % t : Nat) : Int) := by rw [← Int.natCast_mul, ← Int.natCast_add]; omega
  constructor
  · have := Int.add_mul_emod_self_right (a := (m : Int)) (b := -11) (c := (t : Int))
    rw [hx, show (m : Int) - 11 * t = m + -11 * t by omega, this]; rfl
  · have e : x - (m % t : Nat) = (t : Int) * (((m / t : Nat) : Int) - 11) := by
      rw [hx, Int.mul_sub]; omega
    rw [e, Int.mul_tdiv_cancel_left _ (by omega)]

set_option maxRecDepth 100000 in
set_option maxHeartbeats 4000000 in
theorem chCore_any (A : Option Addr) (c : Nat) (xs : List Int) (w : World) (L : Lev xs) (hc : Cells w A xs) :
    Calls Try.prog 25 #[.slice A xs.length c] w fun e w' => ∃ A' c', e = .returned (.slice A' (partsL (kL 11 xs)).length c') ∧ Own w' w.heap.size A' c' (partsL (kL 11 xs)) ∧ Below w.heap.size w w' := by
  obtain ⟨i0, hi, hz0, hz1, hz2⟩ := info_parts Try.infoInt
  have hfin : oL xs (22 * xs.length) = partsL (kL 11 xs) := by unfold oL; rw [kP_all L]
  rw [← hfin]
  obtain ⟨t, ht⟩ : ∃ t, t = xs.length := ⟨_, rfl⟩
  have h26 : 2 ≤ t ∧ t ≤ 6 := by rw [ht]; exact ⟨L.lo, L.hi⟩
  have hc' : ∀ W, Below w.heap.size w W → ∀ k, k < t → ∃ b o, A = some ⟨b, o, none⟩ ∧ W.cell? ⟨b, o + k, none⟩ = some (.int .i64 (xs.getD k 0)) := fun W h k hk => by
    obtain ⟨b, o, e, hcc⟩ := (hc.later h) (by omega)
    exact ⟨b, o, e, hcc k (by omega)⟩
  have HC := hid hc'
  have hlvb : ∀ j, j < t → -10 ≤ xs.getD j 0 ∧ xs.getD j 0 ≤ 10 := fun j hj => L.bd j (by rw [← ht]; exact hj)
  have HLV := hid hlvb
  have HBY := hid fun m => (show hB xs m = decide (((m / t : Nat) : Int) < 11 + xs.getD (m % t) 0) by unfold hB; rw [← ht])
  have HOY := hid fun m => o_yes (xs := xs) (m := m)
  have HOZ := hid fun m => o_zero (xs := xs) (m := m)
  have HON := hid fun m => o_no (xs := xs) (m := m)
  have HFY := hid fun m => f_yes (xs := xs) (m := m)
  have HFN := hid fun m => f_no (xs := xs) (m := m)
  have HOL := hid (o_len xs)
  have HFL := hid fun m => (show frN xs m ≤ m from Nat.sub_le _ _)
  have hO0 : oL xs 0 = [] := rfl
  have hF0 : frN xs 0 = 0 := rfl
  rw [← ht]
  obtain ⟨O, hO⟩ : ∃ O, O = oL xs := ⟨_, rfl⟩
  obtain ⟨F, hF⟩ : ∃ F, F = frN xs := ⟨_, rfl⟩
  obtain ⟨H, hH⟩ : ∃ H, H = hB xs := ⟨_, rfl⟩
  rw [← hO, ← hF, ← hH] at HOY
  rw [← hO, ← hF, ← hH] at HOZ
  rw [← hO, ← hH] at HON
  rw [← hF, ← hH] at HFY HFN
  rw [← hH] at HBY
  rw [← hO] at HOL hO0 ⊢
  rw [← hF] at HFL hF0
  have HO0 := hid hO0
  have HF0 := hid hF0
  have hne : ¬ ((t : Int) = 0) := by omega
  clear hO hF hH hO0 hF0 hfin hlvb hc' hc ht L
  go_enter Try.func25, Try.ntmps25
  go_wp2_with fail
  go_loopw [4, 5, 6] (fun v f i wr => ∃ (m : Nat) (x : Int) (A' : Option Addr) (c' : Nat), m ≤ 22 * t ∧ x = (m : Int) - 11 * t ∧ i = .int .i64 x ∧ f = .int .i64 (F m : Nat) ∧ v = .slice A' (O m).length c' ∧ Own wr w.heap.size A' c' (O m) ∧ Below w.heap.size w wr) (fun _ _ i _ => (11 * (t : Int) - intOf i).toNat)
  case atStart =>
    refine ⟨0, _, none, 0, Nat.zero_le _, rfl, ?_, by rw [HF0.out]; rfl, by rw [HO0.out]; rfl, by rw [HO0.out]; exact own_nil _ _, Below.refl _ _⟩
    congr 1; omega
  case round =>
    obtain ⟨m, x, A', c', hm, hx, rfl, rfl, rfl, hown, hbel⟩ := hrel
    obtain ⟨wo, rfl⟩ : ∃ wo : World, wo = wr := ⟨_, rfl⟩
    have HX := hid hx
    have HO := hid hown
    have HB := hid hbel
    by_cases hlt : x < 11 * t
    · have hm2 : m < 22 * t := by omega
      have hm132 : m < 132 := by omega
      obtain ⟨r1, r2⟩ := round_nums h26 hx
      obtain ⟨h1, h2, h3⟩ := tmod_resid (x := x) (t := (t : Int)) (by omega)
      rw [r1] at h3
      obtain ⟨b, o, rfl, hck⟩ := HC.out _ hbel (m % t) (Nat.mod_lt _ (by omega))
      have hlk := HLV.out (m % t) (Nat.mod_lt _ (by omega))
      have hby := HBY.out m
      have hit : m % t < t := Nat.mod_lt _ (by omega)
      have hdm : m / t ≤ m := Nat.div_le_self _ _
      obtain ⟨l, hle⟩ : ∃ l, l = xs.getD (m % t) 0 := ⟨_, rfl⟩
      rw [← hle] at hck hlk hby
      obtain ⟨i, hie⟩ : ∃ i, i = m % t := ⟨_, rfl⟩
      obtain ⟨d, hde⟩ : ∃ d, d = m / t := ⟨_, rfl⟩
      rw [← hie] at h3 r2 hck hit
      rw [← hde] at r2 hby hdm
      obtain ⟨y, hy⟩ : ∃ y, y = Int.tmod x (t : Int) := ⟨_, rfl⟩
      rw [← hy] at h1 h2 h3
      have hyy : Int.tmod x (t : Int) = y := hy.symm
      have hxb : -66 ≤ x ∧ x < 66 := by omega
      have hdb : d ≤ 132 := by omega
      have hfl := HFL.out m
      have hol := HOL.out m
      obtain ⟨e, he⟩ : ∃ e, e = (d : Int) - 11 := ⟨_, rfl⟩
      rw [← he] at r2
      have heb : -11 ≤ e ∧ e ≤ 132 := by omega
      clear hy hle hie hde r1 hown hbel hx
      have HBY2 := hid hby
      have HEE := hid he
      clear hby he
      go_wp2_with fail
      go_quiet (fail)
      obtain ⟨wd, hwd⟩ : ∃ wd, wd = wo.drewN nq := ⟨_, rfl⟩
      rw [← hwd]
      have hO2 : Own wd w.heap.size A' c' (O m) := by rw [hwd]; exact own_drewN' HO.out _
      have hB2 : Below w.heap.size w wd := by rw [hwd]; exact below_drewN HB.out _
      clear hwd HO HB hck
      have HO := hid hO2
      have HB := hid hB2
      clear hO2 hB2
      have hby := HBY2.out
      have he := HEE.out
      by_cases hcmp : e < l
      · have hh : H m = true := by rw [hby]; exact decide_eq_true (by omega)
        have HFE := hid (HFY.out m hh)
        by_cases hf : 0 < F m
        · have HOE := hid (HOY.out m hh hf)
          obtain ⟨f, hfe⟩ : ∃ f, f = F m := ⟨_, rfl⟩
          rw [← hfe] at HOE HFE hf hfl ⊢
          obtain ⟨rr, hrr⟩ : ∃ rr, rr = O m := ⟨_, rfl⟩
          rw [← hrr] at HOE HO hol ⊢
          have hnone : A' = none → rr.length = 0 ∧ c' = 0 := fun e => own_none (by rw [← e]; exact HO.out)
          have hnews : ∀ ad, A' = some ad → ∀ k u, (IL rr)[k]? = some u → (wd.alloc (.cells #[.int .i64 f] 3)).cell? (ad.add k) = some u := fun ad e => own_news (by rw [← e]; exact HO.out) _
          have HNN := hid hnone
          have HNW := hid hnews
          clear hh hby he hfe hrr hnone hnews
          go_wp2_with (at_builtin; refine wpList_append_opt _ rfl _ _ 28 rfl wd.heap.size 3 i0 (.int .i64 0) 1 8 Try.underlying28 hi hz0 hz1 hz2 rfl (by decide) _ 1 [.int .i64 (f : Int)] rfl (World.ownsRow_lit (base := wd.heap.size) (e := 3) (size := 1) wd #[.int .i64 (f : Int)] 1 (Nat.le_refl _) (by unfold maxLen; omega) rfl) A' rr.length c' (IL rr) rfl (by simp [IL]) HNN.out HNW.out (IL_oneX rr) (by unfold maxLen; omega) (by omega) (by simp) ?_)
          intro v1 w1 hown1 hgrow1
          obtain ⟨r1, hr1⟩ : ∃ r1, r1 = (f : Int) :: rr := ⟨_, rfl⟩
          have hown2 : w1.ownsRow wd.heap.size 3 1 v1 (1 + rr.length) (IL r1) := by rw [hr1]; exact hown1
          obtain ⟨Ar, cr, rfl, ho1⟩ := own_form hown2 (by rw [hr1]; simp; omega)
          have hb1 : Below wd.heap.size wd w1 := ((Below.refl _ _).alloc (Nat.le_refl _) _).grown hgrow1 (by simp) (fun q hq => Nat.le_of_eq (by simpa [Value.ownBlock] using hq))
          rw [← hr1] at HOE
          have HO1 := hid (ho1.more HB.out.size)
          have HB1 := hid (Below.next HB.out hb1)
          clear hown1 hown2 hgrow1 ho1 hb1 hr1
          go_wp2_with fail
          go_roundw
          case rel => exact ⟨m + 1, x + 1, Ar, cr, by omega, by have := HX.out; omega, by go_num, by rw [HFE.out], by rw [HOE.out], by rw [HOE.out]; exact HO1.out, HB1.out⟩
          case measure => simp [intOf]; omega
        · have HOE := hid (HOZ.out m hh (by omega))
          have hf0 : F m = 0 := by omega
          clear hh hby he hf
          rw [hf0]
          have HF0 := hid hf0; clear hf0
          go_wp2_with fail
          go_roundw
          case rel => exact ⟨m + 1, x + 1, A', c', by omega, by have := HX.out; omega, by go_num, by rw [HFE.out, HF0.out], by rw [HOE.out], by rw [HOE.out]; exact HO.out, HB.out⟩
          case measure => simp [intOf]; omega
      · have hh : H m = false := by rw [hby]; exact decide_eq_false (by omega)
        have HFE := hid (HFN.out m hh)
        have HOE := hid (HON.out m hh)
        clear hh hby he
        go_wp2_with fail
        go_roundw
        case rel => exact ⟨m + 1, x + 1, A', c', by omega, by have := HX.out; omega, by go_num, by rw [HFE.out]; go_num, by rw [HOE.out], by rw [HOE.out]; exact HO.out, HB.out⟩
        case measure => simp [intOf]; omega
    · have hme : m = 22 * t := by omega
      subst hme
      clear hown hbel
      go_wp2_with fail
      go_ret
      exact ⟨A', c', rfl, HO.out, HB.out⟩

theorem bound_CoreOfLevels (xs : List Int) : (clF xs).length ≤ 1048576 := by
  unfold clF; split
  · rename_i h
    simp only [clOk, Bool.and_eq_true, decide_eq_true_eq] at h
    have L := levB_iff.1 h.1
    have h2 := L.lo
    have h6 := L.hi
    have := kL_len (q := 11) L fun i hi => by have := L.bd i hi; omega
    have := pk_len (kL 11 xs) (kL 11 xs).length
    unfold partsL
    omega
  · simp
end Go.Proofs.Ytiebnnchaopbkaa
