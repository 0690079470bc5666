/-
  Plain facts: partitions into different parts and into odd parts, counted alike up to 200. No program in this text.
-/
import Derived.Test.YtalmeamgnmboiaaCA
namespace Go.Proofs.Ytalmeamgnmboiaa

def dfT : List Int := [
  1, 1, 1, 2, 2, 3, 4, 5, 6, 8,
  10, 12, 15, 18, 22, 27, 32, 38, 46, 54,
  64, 76, 89, 104, 122, 142, 165, 192, 222, 256,
  296, 340, 390, 448, 512, 585, 668, 760, 864, 982,
  1113, 1260, 1426, 1610, 1816, 2048, 2304, 2590, 2910, 3264,
  3658, 4097, 4582, 5120, 5718, 6378, 7108, 7917, 8808, 9792,
  10880, 12076, 13394, 14848, 16444, 18200, 20132, 22250, 24576, 27130,
  29927, 32992, 36352, 40026, 44046, 48446, 53250, 58499, 64234, 70488,
  77312, 84756, 92864, 101698, 111322, 121792, 133184, 145578, 159046, 173682,
  189586, 206848, 225585, 245920, 267968, 291874, 317788, 345856, 376256, 409174,
  444793, 483330, 525016, 570078, 618784, 671418, 728260, 789640, 855906, 927406,
  1004544, 1087744, 1177438, 1274118, 1378304, 1490528, 1611388, 1741521, 1881578, 2032290,
  2194432, 2368800, 2556284, 2757826, 2974400, 3207086, 3457027, 3725410, 4013544, 4322816,
  4654670, 5010688, 5392550, 5802008, 6240974, 6711480, 7215644, 7755776, 8334326, 8953856,
  9617150, 10327156, 11086968, 11899934, 12769602, 13699699, 14694244, 15757502, 16893952, 18108418,
  19406016, 20792120, 22272512, 23853318, 25540982, 27342421, 29264960, 31316314, 33504746, 35839008,
  38328320, 40982540, 43812110, 46828032, 50042056, 53466624, 57114844, 61000704, 65139008, 69545358,
  74236384, 79229676, 84543782, 90198446, 96214550, 102614114, 109420549, 116658616, 124354422, 132535702,
  141231780, 150473568, 160293888, 170727424, 181810744, 193582642, 206084096, 219358315, 233451098, 248410816,
  264288462, 281138048, 299016608, 317984256, 338104630, 359444904, 382075868, 406072422, 431513602, 458482688,
  487067746]
theorem dfT_len : dfT.length = 201 := by decide +kernel
/-- A row that is shifted by d. -/
def shR (d : Nat) (L : List Int) : List Int := List.replicate d 0 ++ L
def dfR : Nat → List Int
  | 0 => 1 :: List.replicate 200 0
  | x + 1 => List.zipWith (· + ·) (dfR x) (shR (x + 1) (dfR x))
/-- Downwards: the part 199 - 2 c is taken out. -/
def odR : Nat → List Int
  | 0 => dfT
  | c + 1 => List.zipWith (· - ·) (odR c) (shR (199 - 2 * c) (odR c))
theorem dfR_end : dfR 200 = dfT := by decide +kernel
theorem odR_end : odR 100 = 1 :: List.replicate 200 0 := by decide +kernel
theorem shR_get (d : Nat) (L : List Int) (j : Nat) : (shR d L).getD j 0 = if d ≤ j then L.getD (j - d) 0 else 0 := by
  unfold shR
  rw [List.getD_eq_getElem?_getD]
  by_cases h : d ≤ j
  · rw [if_pos h, List.getElem?_append_right (by simpa using h), List.length_replicate, ← List.getD_eq_getElem?_getD]
  · rw [if_neg h, List.getElem?_append_left (by simp; omega), List.getElem?_replicate]
    split <;> rfl
theorem dfR_len : ∀ x, (dfR x).length = 201
  | 0 => rfl
  | x + 1 => by rw [dfR, List.length_zipWith, dfR_len x, shR, List.length_append, dfR_len x]; simp
theorem odR_len : ∀ c, (odR c).length = 201
  | 0 => dfT_len
  | c + 1 => by rw [odR, List.length_zipWith, odR_len c, shR, List.length_append, odR_len c]; simp
theorem zip_get (f : Int → Int → Int) (A B : List Int) (j : Nat) (ha : j < A.length) (hb : j < B.length) : (List.zipWith f A B).getD j 0 = f (A.getD j 0) (B.getD j 0) := by
  simp [List.getD, List.getElem?_zipWith, ha, hb]
theorem dfR_get (x j : Nat) (h : j < 201) : (dfR (x + 1)).getD j 0 = (dfR x).getD j 0 + if x + 1 ≤ j then (dfR x).getD (j - (x + 1)) 0 else 0 := by
  rw [dfR, zip_get _ _ _ _ (by rw [dfR_len]; exact h) (by rw [shR, List.length_append, dfR_len]; omega), shR_get]
theorem odR_get (c j : Nat) (h : j < 201) : (odR (c + 1)).getD j 0 = (odR c).getD j 0 - if 199 - 2 * c ≤ j then (odR c).getD (j - (199 - 2 * c)) 0 else 0 := by
  rw [odR, zip_get _ _ _ _ (by rw [odR_len]; exact h) (by rw [shR, List.length_append, odR_len]; omega), shR_get]
theorem dfR_pos : ∀ x j, 0 ≤ (dfR x).getD j 0
  | 0, j => by
    rw [dfR]
    cases j with
    | zero => exact Int.le_of_lt Int.zero_lt_one
    | succ j => rw [List.getD_cons_succ, List.getD_eq_getElem?_getD, List.getElem?_replicate]; split <;> exact Int.le_refl 0
  | x + 1, j => by
    by_cases h : j < 201
    · rw [dfR_get x j h]
      have h1 := dfR_pos x j
      split
      · have := dfR_pos x (j - (x + 1)); omega
      · omega
    · rw [List.getD_eq_getElem?_getD, List.getElem?_eq_none (by rw [dfR_len]; omega)]; exact Int.le_refl 0
theorem dfR_up (x d : Nat) (j : Nat) (h : j < 201) : (dfR x).getD j 0 ≤ (dfR (x + d)).getD j 0 := by
  induction d with
  | zero => exact Int.le_refl _
  | succ d ih =>
    rw [← Nat.add_assoc, dfR_get (x + d) j h]
    split
    · have := dfR_pos (x + d) (j - (x + d + 1)); omega
    · omega
theorem dfR_same (x d : Nat) (j : Nat) (h : j < 201) (hj : j ≤ x) : (dfR (x + d)).getD j 0 = (dfR x).getD j 0 := by
  induction d with
  | zero => rfl
  | succ d ih => rw [← Nat.add_assoc, dfR_get (x + d) j h, if_neg (by omega), ih]; omega
theorem dfT_bd : ∀ j, j < 201 → dfT.getD j 0 ≤ 1000000000000 := by decide +kernel
theorem dfR_bd {x : Nat} (hx : x ≤ 200) (j : Nat) (h : j < 201) : 0 ≤ (dfR x).getD j 0 ∧ (dfR x).getD j 0 ≤ 1000000000000 := by
  have h1 := dfR_up x (200 - x) j h
  rw [show x + (200 - x) = 200 by omega, dfR_end] at h1
  have := dfT_bd j h
  exact ⟨dfR_pos x j, by omega⟩
theorem dfR_at {n : Nat} (h : n < 201) : (dfR n).getD n 0 = dfT.getD n 0 := by
  rw [← dfR_end, ← dfR_same n (200 - n) n h (Nat.le_refl _), show n + (200 - n) = 200 by omega]
theorem odR_bd : ∀ c, c < 101 → (odR c).all (fun v => decide (0 ≤ v) && decide (v ≤ 1000000000000)) = true := by decide +kernel
theorem odR_bd1 {c : Nat} (hc : c < 101) (j : Nat) : 0 ≤ (odR c).getD j 0 ∧ (odR c).getD j 0 ≤ 1000000000000 := by
  by_cases h : j < (odR c).length
  · have h1 := odR_bd c hc
    rw [List.all_eq_true] at h1
    have h2 := h1 _ (List.getElem_mem h)
    rw [List.getD_eq_getElem?_getD, List.getElem?_eq_getElem h]
    simpa using h2
  · rw [List.getD_eq_getElem?_getD, List.getElem?_eq_none (by omega)]; exact ⟨Int.le_refl 0, by decide⟩
theorem odR_at (c d : Nat) (j : Nat) (h : j < 201) (hj : ∀ e, c ≤ e → e < c + d → j < 199 - 2 * e) : (odR (c + d)).getD j 0 = (odR c).getD j 0 := by
  induction d with
  | zero => rfl
  | succ d ih =>
    rw [← Nat.add_assoc, odR_get (c + d) j h, if_neg (by have := hj (c + d) (by omega) (by omega); omega), ih (fun e h1 h2 => hj e h1 (by omega))]
    omega
end Go.Proofs.Ytalmeamgnmboiaa
