/-
  Several texts in one.
-/
import Derived.Test.YtmjncedijddmmaaR03
import Derived.Test.YtmjncedijddmmaaCA
import Derived.Test.YtmjncedijddmmaaR04
import Derived.Test.YtmjncedijddmmaaCC
import Derived.Test.YtmjncedijddmmaaCB
/-
  Plain facts: the beads of levels, their sum, their partition. No program in this text.
-/
namespace Go.Proofs.Ytmjncedijddmmaa
open Go.RowKit

/-- Runner i with its first q and level i rows. -/
def fillR (q : Nat) (xs : List Int) (i : Nat) : List Int := upTo ((q : Int) + xs.getD i 0).toNat
def kL (q : Nat) (xs : List Int) : List Int := insF (abfL xs.length (fillR q xs) xs.length)
theorem kL_nodup (q : Nat) (xs : List Int) : (abfL xs.length (fillR q xs) xs.length).Nodup := abfL_nodup _ (Nat.le_refl _) fun _ _ => pw_nodup (upTo_pw _)
theorem kL_pw (q : Nat) (xs : List Int) : (kL q xs).Pairwise (· < ·) := (insF_all (kL_nodup q xs)).1
theorem mem_kL {q : Nat} {xs : List Int} (ht : 0 < xs.length) {x : Int} : x ∈ kL q xs ↔ 0 ≤ x ∧ x / (xs.length : Int) < q + xs.getD (x % (xs.length : Int)).toNat 0 := by
  obtain ⟨t, hte⟩ : ∃ t, t = xs.length := ⟨_, rfl⟩
  unfold kL
  rw [(insF_all (kL_nodup q xs)).2.1 x, mem_abfL]
  rw [← hte] at ht ⊢
  constructor
  · rintro ⟨i, y, h1, h2, rfl⟩
    unfold fillR at h2
    have h3 := mem_upTo.1 h2
    obtain ⟨e1, e2⟩ := lay_div (y := y) h1
    rw [e1, e2, Int.toNat_natCast]
    refine ⟨?_, by omega⟩
    have := Int.mul_nonneg h3.1 (show (0 : Int) ≤ t by omega)
    omega
  · rintro ⟨h1, h2⟩
    have h4 := Int.emod_nonneg x (show (t : Int) ≠ 0 by omega)
    have h5 := Int.emod_lt_of_pos x (show 0 < (t : Int) by omega)
    have h6 := Int.mul_ediv_add_emod x t
    have h7 := Int.ediv_nonneg h1 (show (0 : Int) ≤ t by omega)
    refine ⟨(x % (t : Int)).toNat, x / (t : Int), by omega, mem_upTo.2 ⟨h7, by omega⟩, ?_⟩
    rw [Int.mul_comm]; omega
theorem parts_shift (L : List Int) : ∀ k, partsL (shiftL L k) = partsL L
  | 0 => by unfold shiftL; simp [upTo, fnRow]
  | k + 1 => by
    have e : shiftL L (k + 1) = shL (shiftL L k) := by
      unfold shiftL shL
      rw [List.map_append, List.map_map]
      have e1 : upTo (k + 1) = 0 :: (upTo k).map fun x => x + 1 := by
        unfold upTo fnRow
        rw [List.range_succ_eq_map, List.map_cons, List.map_map, List.map_map]
        rfl
      rw [e1, List.cons_append]
      congr 2
      exact List.map_congr_left fun x _ => by simp; omega
    rw [e, parts_sh, parts_shift L k]
theorem kL_up {q : Nat} {xs : List Int} (ht : 0 < xs.length) (h : ∀ i, i < xs.length → 0 ≤ (q : Int) + xs.getD i 0) : kL (q + 1) xs = shiftL (kL q xs) xs.length := by
  have hp : (shiftL (kL q xs) xs.length).Pairwise (· < ·) := by
    unfold shiftL
    rw [List.pairwise_append]
    refine ⟨upTo_pw _, ?_, fun a ha b hb => ?_⟩
    · rw [List.pairwise_map]
      refine List.Pairwise.imp ?_ (kL_pw q xs)
      intro a b hab; omega
    · have h1 := mem_upTo.1 ha
      obtain ⟨z, hz, rfl⟩ := List.mem_map.1 hb
      have := ((mem_kL ht).1 hz).1
      omega
  refine pw_ext (kL_pw _ _) hp fun x => ?_
  have hm : x ∈ shiftL (kL q xs) xs.length ↔ (0 ≤ x ∧ x < xs.length) ∨ x - xs.length ∈ kL q xs := by
    unfold shiftL
    rw [List.mem_append, mem_upTo, List.mem_map]
    constructor
    · rintro (h1 | ⟨y, hy, rfl⟩)
      · exact .inl h1
      · exact .inr (by rw [show y + (xs.length : Int) - xs.length = y by omega]; exact hy)
    · rintro (h1 | h1)
      · exact .inl h1
      · exact .inr ⟨_, h1, by omega⟩
  rw [hm, mem_kL ht, mem_kL ht]
  obtain ⟨t, hte⟩ : ∃ t, t = xs.length := ⟨_, rfl⟩
  rw [← hte] at ht h ⊢
  have e1 : (x - (t : Int)) % (t : Int) = x % (t : Int) := by
    have := Int.add_mul_emod_self_right (a := x) (b := -1) (c := (t : Int))
    rw [show x + -1 * (t : Int) = x - t by omega] at this; exact this
  have e2 : (x - (t : Int)) / (t : Int) = x / (t : Int) - 1 := by
    have := Int.add_mul_ediv_right x (-1) (show (t : Int) ≠ 0 by omega)
    rw [show x + -1 * (t : Int) = x - t by omega] at this; omega
  rw [e1, e2]
  have h4 := Int.emod_nonneg x (show (t : Int) ≠ 0 by omega)
  have h5 := Int.emod_lt_of_pos x (show 0 < (t : Int) by omega)
  have h6 := Int.mul_ediv_add_emod x t
  have hq := h (x % (t : Int)).toNat (by omega)
  constructor
  · rintro ⟨h1, h2⟩
    by_cases hx : x < t
    · exact .inl ⟨h1, hx⟩
    · exact .inr ⟨by omega, by omega⟩
  · rintro (⟨h1, h2⟩ | ⟨h1, h2⟩)
    · have : x / (t : Int) = 0 := Int.ediv_eq_zero_of_lt h1 h2
      refine ⟨h1, by rw [this]; omega⟩
    · exact ⟨by omega, by omega⟩
theorem kL_parts {q : Nat} {xs : List Int} (ht : 0 < xs.length) (h : ∀ i, i < xs.length → 0 ≤ (q : Int) + xs.getD i 0) : ∀ d, partsL (kL (q + d) xs) = partsL (kL q xs)
  | 0 => rfl
  | d + 1 => by
    rw [show q + (d + 1) = q + d + 1 by omega, kL_up ht fun i hi => by have := h i hi; omega, parts_shift, kL_parts ht h d]
theorem sq_exp (a b : Int) : (a + b) * (a + b) = a * a + 2 * (a * b) + b * b := by
  rw [Int.add_mul, Int.mul_add, Int.mul_add, Int.mul_comm b a]; omega
theorem tri_sq : ∀ n : Nat, 2 * tri n = (n : Int) * n - n
  | 0 => by simp [tri]
  | n + 1 => by
    have := tri_sq n
    rw [tri, show ((n + 1 : Nat) : Int) = (n : Int) + 1 by omega, sq_exp]; omega
theorem sq_ge (x : Int) : x ≤ x * x ∧ -x ≤ x * x ∧ (6 ≤ x → 6 * x ≤ x * x) ∧ (x ≤ -6 → -(6 * x) ≤ x * x) := by
  have key : ∀ y : Int, 0 ≤ y → y ≤ y * y := fun y hy => by
    rcases Int.lt_or_le 0 y with h | h
    · have := Int.mul_le_mul_of_nonneg_right (show (1 : Int) ≤ y by omega) hy
      omega
    · have : y = 0 := by omega
      subst this; simp
  have hn : (-x) * (-x) = x * x := Int.neg_mul_neg x x
  rcases Int.lt_or_le x 0 with h | h
  · have h1 := key (-x) (by omega)
    rw [hn] at h1
    refine ⟨by omega, by omega, fun h2 => by omega, fun h2 => ?_⟩
    have := Int.mul_le_mul_of_nonneg_right (show (6 : Int) ≤ -x by omega) (show 0 ≤ -x by omega)
    rw [hn] at this; omega
  · have h1 := key x h
    refine ⟨h1, by omega, fun h2 => ?_, fun h2 => by omega⟩
    exact Int.mul_le_mul_of_nonneg_right h2 h
theorem list_of {xs : List Int} {t : Nat} (h : xs.length = t) : xs = (List.range t).map fun i => xs.getD i 0 := by
  apply List.ext_getElem
  · simp [h]
  · intro j h1 h2
    simp [List.getD, h1]
theorem sum_of (xs : List Int) : ∀ k, k ≤ xs.length → (xs.take k).sum = sumN (fun i => xs.getD i 0) k
  | 0, _ => by simp [sumN]
  | k + 1, h => by rw [take_snoc xs k (by omega) _ rfl, List.sum_append, sum_of xs k (by omega), sumN]; simp
theorem sq_sumN (xs : List Int) : ∀ n, sqSum xs n = sumN (fun i => xs.getD i 0 * xs.getD i 0) n
  | 0 => rfl
  | n + 1 => by rw [sqSum, sumN, sq_sumN xs n]
theorem ix_sumN (xs : List Int) : ∀ n, ixSum xs n = sumN (fun i => (i : Int) * xs.getD i 0) n
  | 0 => rfl
  | n + 1 => by rw [ixSum, sumN, ix_sumN xs n]
theorem lev_sumN {xs : List Int} (L : Lev xs) : sumN (fun i => xs.getD i 0) xs.length = 0 := by
  have hs := sum_of xs xs.length (Nat.le_refl _)
  rw [List.take_of_length_le (Nat.le_refl _), L.sum] at hs
  exact hs.symm
theorem sumN_pos {f : Nat → Int} : ∀ n, (∀ i, i < n → 0 ≤ f i) → 0 ≤ sumN f n
  | 0, _ => Int.le_refl 0
  | n + 1, h => by rw [sumN]; have := sumN_pos n fun i hi => h i (by omega); have := h n (by omega); omega
theorem sumN_one_le {f : Nat → Int} : ∀ n, (∀ i, i < n → 0 ≤ f i) → ∀ i, i < n → f i ≤ sumN f n
  | n + 1, h, i, hi => by
    rw [sumN]
    have h1 := h n (by omega)
    by_cases e : i = n
    · subst e; have := sumN_pos i fun j hj => h j (by omega); omega
    · have := sumN_one_le n (fun j hj => h j (by omega)) i (by omega); omega
/-- Twice the share of a level in the size. -/
def shr (t i : Nat) (x : Int) : Int := t * (x * x) + (2 * (i : Int) - t + 1) * x
theorem shr_ge {t i : Nat} (ht : 2 ≤ t ∧ t ≤ 6) (hi : i < t) (x : Int) : 0 ≤ shr t i x ∧ (6 ≤ x ∨ x ≤ -6 → 61 ≤ shr t i x) := by
  obtain ⟨g1, g2, g3, g4⟩ := sq_ge x
  have ht6 : t = 2 ∨ t = 3 ∨ t = 4 ∨ t = 5 ∨ t = 6 := by omega
  have hi6 : i = 0 ∨ i = 1 ∨ i = 2 ∨ i = 3 ∨ i = 4 ∨ i = 5 := by omega
  unfold shr
  generalize x * x = y at *
  rcases ht6 with rfl | rfl | rfl | rfl | rfl <;> (rcases hi6 with rfl | rfl | rfl | rfl | rfl | rfl <;> first | omega | (simp; omega))
theorem two_size {xs : List Int} (L : Lev xs) : 2 * sizeL xs = sumN (fun i => shr xs.length i (xs.getD i 0)) xs.length := by
  have h0 := lev_sumN L
  have he := sqSum_even L
  obtain ⟨m, hm⟩ : ∃ m, sqSum xs xs.length = 2 * m := ⟨sqSum xs xs.length / 2, by omega⟩
  have hz : 2 * sizeL xs = xs.length * sqSum xs xs.length + 2 * ixSum xs xs.length := by
    unfold sizeL
    rw [hm, Int.mul_ediv_cancel_left _ (by decide)]; grind
  rw [hz, sq_sumN, ix_sumN]
  obtain ⟨t, ht⟩ : ∃ t, t = xs.length := ⟨_, rfl⟩
  rw [← ht] at h0 ⊢
  have key : ∀ n, sumN (fun i => shr t i (xs.getD i 0)) n = t * sumN (fun i => xs.getD i 0 * xs.getD i 0) n + 2 * sumN (fun i => (i : Int) * xs.getD i 0) n + (1 - (t : Int)) * sumN (fun i => xs.getD i 0) n := by
    intro n
    induction n with
    | zero => simp [sumN]
    | succ n ih => rw [sumN, ih, sumN, sumN, sumN]; unfold shr; grind
  rw [key, h0]; omega
/-- The levels of a small core are small. -/
theorem lev_small {xs : List Int} (L : Lev xs) (h : sizeL xs ≤ 30) (i : Nat) (hi : i < xs.length) : -5 ≤ xs.getD i 0 ∧ xs.getD i 0 ≤ 5 := by
  have h1 := two_size L
  have h2 := sumN_one_le (f := fun i => shr xs.length i (xs.getD i 0)) xs.length (fun j hj => (shr_ge ⟨L.lo, L.hi⟩ hj _).1) i hi
  have h3 := (shr_ge ⟨L.lo, L.hi⟩ hi (xs.getD i 0)).2
  have h4 : shr xs.length i (xs.getD i 0) ≤ 2 * sizeL xs := by rw [h1]; exact h2
  omega
theorem kL_len {q : Nat} {xs : List Int} (L : Lev xs) (h : ∀ i, i < xs.length → 0 ≤ (q : Int) + xs.getD i 0) : ((kL q xs).length : Int) = xs.length * q := by
  have h0 := lev_sumN L
  unfold kL
  rw [(insF_all (kL_nodup q xs)).2.2, abfL_len]
  have e : sumN (fun i => ((fillR q xs i).length : Int)) xs.length = sumN (fun i => (q : Int) + xs.getD i 0) xs.length :=
    sumN_congr _ fun i hi => by have := h i hi; unfold fillR; rw [upTo_len]; omega
  rw [e]
  have key : ∀ n : Nat, sumN (fun i => (q : Int) + xs.getD i 0) n = n * q + sumN (fun i => xs.getD i 0) n := by
    intro n
    induction n with
    | zero => simp [sumN]
    | succ n ih => rw [sumN, ih, sumN]; grind
  rw [key, h0]; omega
theorem kL_sum {q : Nat} {xs : List Int} (L : Lev xs) (h : ∀ i, i < xs.length → 0 ≤ (q : Int) + xs.getD i 0) : (kL q xs).sum = sizeL xs + tri (xs.length * q) := by
  have h0 := lev_sumN L
  have h1 := two_size L
  have h2 := tri_sq (xs.length * q)
  unfold kL
  rw [insF_sum, abfL_sum]
  obtain ⟨t, ht⟩ : ∃ t, t = xs.length := ⟨_, rfl⟩
  rw [← ht] at h0 h1 h2 h ⊢
  have e : ∀ i, i < t → 2 * ((t : Int) * (fillR q xs i).sum + i * (fillR q xs i).length) = shr t i (xs.getD i 0) + (2 * (t : Int) * q - 1) * xs.getD i 0 + (t * (q * q - q) + 2 * i * q) := by
    intro i hi
    have := h i hi
    obtain ⟨n, hn⟩ : ∃ n : Nat, (n : Int) = (q : Int) + xs.getD i 0 := ⟨((q : Int) + xs.getD i 0).toNat, by omega⟩
    have h3 := tri_sq n
    have e1 : (fillR q xs i) = upTo n := by unfold fillR; rw [← hn]; simp
    rw [e1, upTo_sum, upTo_len]
    have e2 : xs.getD i 0 = (n : Int) - q := by omega
    rw [e2]; unfold shr; grind
  have key : ∀ n, n ≤ t → 2 * sumN (fun i => (t : Int) * (fillR q xs i).sum + i * (fillR q xs i).length) n = sumN (fun i => shr t i (xs.getD i 0)) n + (2 * (t : Int) * q - 1) * sumN (fun i => xs.getD i 0) n + ((n : Int) * (t * (q * q - q)) + (n * n - n) * q) := by
    intro n
    induction n with
    | zero => intro _; simp [sumN]
    | succ n ih =>
      intro hn
      have a := ih (by omega)
      have b := e n (by omega)
      simp only [sumN]
      rw [show ((n + 1 : Nat) : Int) = (n : Int) + 1 by omega]
      grind
  have := key t (Nat.le_refl _)
  rw [h0] at this
  rw [show ((t * q : Nat) : Int) = (t : Int) * q by simp] at h2
  have h3 : 2 * sumN (fun i => (t : Int) * (fillR q xs i).sum + i * (fillR q xs i).length) t = 2 * (sizeL xs + tri (t * q)) := by grind
  omega
theorem kL_bd {q : Nat} {xs : List Int} (L : Lev xs) (hq : q ≤ 20) : ∀ x ∈ kL q xs, 0 ≤ x ∧ x ≤ 1000 := fun x hx => by
  have h2 := L.lo
  have h6 := L.hi
  obtain ⟨h3, h4⟩ := (mem_kL (by omega)).1 hx
  obtain ⟨t, ht⟩ : ∃ t, t = xs.length := ⟨_, rfl⟩
  have h5 := Int.mul_ediv_add_emod x t
  have h7 := Int.emod_lt_of_pos x (show 0 < (t : Int) by omega)
  have h8 := Int.emod_nonneg x (show (t : Int) ≠ 0 by omega)
  have h9 := L.bd (x % (xs.length : Int)).toNat (by rw [← ht]; omega)
  rw [← ht] at h4 h9 h2 h6
  have h10 : (t : Int) * (x / (t : Int)) ≤ 6 * 40 := Int.mul_le_mul (by omega) (by omega) (Int.ediv_nonneg h3 (by omega)) (by omega)
  exact ⟨h3, by omega⟩
theorem kL_good {q : Nat} {xs : List Int} (L : Lev xs) (hs : sizeL xs ≤ 30) (hq : 5 ≤ q) (hm : xs.length * q ≤ 40) : goodB (kL q xs) = true := by
  have h2 := L.lo
  have hq0 : ∀ i, i < xs.length → 0 ≤ (q : Int) + xs.getD i 0 := fun i hi => by have := lev_small L hs i hi; omega
  have hl := kL_len L hq0
  have hsum := kL_sum L hq0
  have hl2 : (kL q xs).length = xs.length * q := by
    have : ((xs.length * q : Nat) : Int) = xs.length * q := by simp
    omega
  have hq20 : q ≤ 20 := by
    have := Nat.mul_le_mul_right q h2
    omega
  refine goodB_of (by omega) (pw_rises (kL_pw q xs) (kL_bd L hq20)) (by rw [hl2, hsum]; omega)
/-- The rows that the program lays. -/
def clR (q : Nat) (xs : List Int) (k : Nat) : List (List Int) := (List.range k).map (fillR q xs)
theorem clR_len (q : Nat) (xs : List Int) (k : Nat) : (clR q xs k).length = k := by simp [clR]
theorem clR_succ (q : Nat) (xs : List Int) (k : Nat) : clR q xs (k + 1) = clR q xs k ++ [fillR q xs k] := by simp [clR, List.range_succ]
theorem clR_get (q : Nat) (xs : List Int) {k i : Nat} (h : i < k) : (clR q xs k).getD i [] = fillR q xs i := by
  simp [clR, List.getD, h]
theorem upTo_rw {n : Nat} (h : n ≤ 36) : rwOk (upTo n) = true := by
  refine rises_Rises.2 ⟨fun j hj => ?_, fun j hj => ?_⟩
  · rw [upTo_len] at hj; unfold upTo; rw [fnRow_get _ _ _ hj]; omega
  · rw [upTo_len] at hj; unfold upTo; rw [fnRow_get _ _ _ (by omega), fnRow_get _ _ _ hj]; omega
theorem clR_frL (q : Nat) (xs : List Int) : frL (clR q xs xs.length) = kL q xs := by
  unfold frL kL
  rw [clR_len]
  congr 1
  have key : ∀ k, k ≤ xs.length → abfL xs.length (rowsR (clR q xs xs.length)) k = abfL xs.length (fillR q xs) k := by
    intro k
    induction k with
    | zero => intro _; rfl
    | succ k ih =>
      intro hk
      rw [abfL, abfL, ih (by omega)]
      unfold rowsR
      rw [clR_get q xs (show k < xs.length by omega)]
  exact key _ (Nat.le_refl _)
theorem clR_ok {q : Nat} {xs : List Int} (L : Lev xs) (hs : sizeL xs ≤ 30) (hq : 5 ≤ q) (hm : xs.length * q ≤ 40) : frOk (clR q xs xs.length) = true := by
  have h2 := L.lo
  have h6 := L.hi
  have h20 : q ≤ 20 := by have := Nat.mul_le_mul_right q h2; omega
  have hin : inB 2 6 ((clR q xs xs.length).length : Int) = true := by rw [clR_len]; exact inB_iff.2 (by omega)
  rw [fr_ok hin ?_, clR_frL, clR_len]
  · rw [clR_len] at hin
    simp [isAba, hin, kL_good L hs hq hm]
  · intro i hi
    rw [clR_len] at hi
    unfold rowsR
    rw [clR_get q xs hi]
    have := lev_small L hs i hi
    exact upTo_rw (by omega)
theorem clR_tot {q : Nat} {xs : List Int} (L : Lev xs) (hs : sizeL xs ≤ 30) (hq : 5 ≤ q) (hm : xs.length * q ≤ 40) : tot (clR q xs xs.length) ≤ 1048576 := by
  have h2 := L.lo
  have h6 := L.hi
  have h20 : q ≤ 20 := by have := Nat.mul_le_mul_right q h2; omega
  have key : ∀ k, k ≤ xs.length → tot (clR q xs k) ≤ k * 40 := by
    intro k
    induction k with
    | zero => intro _; simp [clR, tot]
    | succ k ih =>
      intro hk
      have := ih (by omega)
      have := lev_small L hs k (by omega)
      rw [clR_succ, tot_append]
      have e : tot [fillR q xs k] = (fillR q xs k).length := by simp [tot]
      rw [e]
      unfold fillR
      rw [upTo_len]; omega
  have := key _ (Nat.le_refl _)
  omega
def clOk (xs : List Int) : Bool := levB xs && decide (sizeL xs ≤ 30)
def clF (xs : List Int) : List Int := if clOk xs then partsL (kL 11 xs) else []
theorem cl_no {xs : List Int} (h : clOk xs = false) : clF xs = [] := by simp [clF, h]
theorem cl_yes {xs : List Int} (h : clOk xs = true) : clF xs = partsL (kL 11 xs) := by simp [clF, h]
theorem cl_at {q : Nat} {xs : List Int} (L : Lev xs) (hs : sizeL xs ≤ 30) (hq : 5 ≤ q) : partsL (kL q xs) = partsL (kL 5 xs) := by
  have h2 := L.lo
  obtain ⟨d, rfl⟩ : ∃ d, q = 5 + d := ⟨q - 5, by omega⟩
  exact kL_parts (by omega) (fun i hi => by have := lev_small L hs i hi; omega) d
def qR (t : Nat) : Nat := (30 + t - 1) / t
theorem qR_bd {t : Nat} (ht : 2 ≤ t ∧ t ≤ 6) : 5 ≤ qR t ∧ qR t ≤ 15 ∧ t * qR t ≤ 40 ∧ mulN t 30 = qR t * t := by
  refine ⟨?_, ?_, ?_, rfl⟩ <;> (have : t = 2 ∨ t = 3 ∨ t = 4 ∨ t = 5 ∨ t = 6 := by omega) <;> rcases this with rfl | rfl | rfl | rfl | rfl <;> decide
end Go.Proofs.Ytmjncedijddmmaa
/-
  Contracts: what tells whether a list is levels (both sides), the size of their core, turned levels.
-/
namespace Go.Proofs.Ytmjncedijddmmaa
open Go.RowKit

set_option maxHeartbeats 400000 in
theorem ptSum_abs (A : Option Addr) (xs : List Int) (c : Nat) (w : World) (hl : xs.length ≤ 100) (hb : ∀ j, j < xs.length → -1000 ≤ xs.getD j 0 ∧ xs.getD j 0 ≤ 1000) (hc : Cells w A xs) :
    Calls Try.prog 40 #[.slice A xs.length c] w fun e w' => e = .returned (.int .i64 xs.sum) ∧ w = w' := by
  have HB := hid hb; clear hb
  go_enter Try.func40, Try.ntmps40
  go_wp2
  go_loop [3, 8] (fun s i => ∃ k : Nat, k ≤ xs.length ∧ i = .int .i64 k ∧ s = .int .i64 (xs.take k).sum) (fun _ i => xs.length - (intOf i).toNat)
  case atStart => exact ⟨0, Nat.zero_le _, rfl, by simp⟩
  case round =>
    obtain ⟨k, hk, rfl, rfl⟩ := hrel
    have hsb := sum_take_abs xs 1000 HB.out (by omega) k
    obtain ⟨s, hs⟩ : ∃ s, s = (xs.take k).sum := ⟨_, rfl⟩
    rw [← hs] at hsb ⊢
    have HS := hid hs; clear hs
    by_cases hlt : k < xs.length
    · obtain ⟨b, o, rfl, hcc⟩ := hc (by omega)
      have hck := hcc k hlt
      have hxb := HB.out k hlt
      clear hcc hc
      obtain ⟨x, hx⟩ : ∃ x, x = xs.getD k 0 := ⟨_, rfl⟩
      rw [← hx] at hck hxb
      have HX := hid hx; clear hx
      go_wp2
      go_round
      case rel => exact ⟨k + 1, by omega, by go_num, by rw [sum_take_succ xs k hlt, ← HS.out, ← HX.out]⟩
      case measure => simp [intOf]; omega
    · go_wp2
      go_ret
      exact ⟨ret_int (by rw [HS.out, List.take_of_length_le (by omega)]), rfl⟩

end Go.Proofs.Ytmjncedijddmmaa
/-
  Contracts: the size of the core with levels, and levels turned (both sides).
-/
namespace Go.Proofs.Ytmjncedijddmmaa
open Go.RowKit

theorem sizeF_f {xs : List Int} (h : levB xs = false) : sizeF xs = 0 := by simp [sizeF, h]
theorem sizeF_t {xs : List Int} (h : levB xs = true) : sizeF xs = sizeL xs := by simp [sizeF, h]

end Go.Proofs.Ytmjncedijddmmaa
