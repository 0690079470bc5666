/-
  Bars: candidates of the parts, those that are bars, and how they are listed.
-/
import Derived.Test.YtcgoiddghenkmaaBrMath
namespace Go.Proofs.Ytcgoiddghenkmaa

def isB (xs : List Int) (t : Int) (r : List Int) : Bool :=
  decide (r.sum - t = 0) || (decide (0 < r.sum - t) && (decide (r.length = 1) && decide (¬ (r.sum - t) ∈ xs)))
def cand (x : Int) (ys : List Int) : List (List Int) := [x] :: ys.map fun y => [x, y]
theorem cand_len (x : Int) (ys : List Int) : (cand x ys).length = ys.length + 1 := by simp [cand]
theorem cand_zero (x : Int) (ys : List Int) : (cand x ys).getD 0 [] = [x] := rfl
theorem cand_get (x : Int) (ys : List Int) (j : Nat) (h : j < ys.length) : (cand x ys).getD (j + 1) [] = [x, ys.getD j 0] := by
  simp [cand, List.getD, h]
theorem cand_take (x : Int) (ys : List Int) (j : Nat) (h : j < ys.length) : cand x (ys.take (j + 1)) = cand x (ys.take j) ++ [[x, ys.getD j 0]] := by
  unfold cand
  rw [List.take_succ_eq_append_getElem h, List.map_append, List.getD_eq_getElem?_getD, List.getElem?_eq_getElem h]; rfl
def candA (xs : List Int) (i : Nat) : List (List Int) := cand (xs.getD i 0) (xs.drop (i + 1))
def brs (xs : List Int) (t : Int) : Nat → List (List Int)
  | 0 => []
  | i + 1 => brs xs t i ++ (candA xs i).filter (isB xs t)
def brK (xs : List Int) (t : Int) (i c : Nat) : List (List Int) := brs xs t i ++ ((candA xs i).take c).filter (isB xs t)
theorem brK_zero (xs : List Int) (t : Int) (i : Nat) : brK xs t i 0 = brs xs t i := by simp [brK]
theorem brK_full (xs : List Int) (t : Int) (i : Nat) : brK xs t i (candA xs i).length = brs xs t (i + 1) := by unfold brK; rw [List.take_length]; rfl
theorem brK_succ (xs : List Int) (t : Int) (i c : Nat) (h : c < (candA xs i).length) : brK xs t i (c + 1) = brK xs t i c ++ [(candA xs i).getD c []].filter (isB xs t) := by
  unfold brK
  rw [List.take_succ_eq_append_getElem h, List.filter_append, ← List.append_assoc, List.getD_eq_getElem?_getD, List.getElem?_eq_getElem h]; rfl
theorem brK_yes {xs : List Int} {t : Int} {i c : Nat} (h : c < (candA xs i).length) (hb : isB xs t ((candA xs i).getD c []) = true) : brK xs t i (c + 1) = brK xs t i c ++ [(candA xs i).getD c []] := by
  rw [brK_succ _ _ _ _ h, List.filter_cons_of_pos hb]; rfl
theorem brK_no {xs : List Int} {t : Int} {i c : Nat} (h : c < (candA xs i).length) (hb : isB xs t ((candA xs i).getD c []) = false) : brK xs t i (c + 1) = brK xs t i c := by
  rw [brK_succ _ _ _ _ h, List.filter_cons_of_neg (by rw [hb]; decide)]; simp
theorem candA_len (xs : List Int) (i : Nat) (h : i < xs.length) : (candA xs i).length = xs.length - i := by unfold candA; rw [cand_len, List.length_drop]; omega
theorem brs_len (xs : List Int) (t : Int) (hl : xs.length ≤ 30) : ∀ i, i ≤ xs.length → (brs xs t i).length ≤ i * 30
  | 0, _ => by simp [brs]
  | i + 1, h => by
    have := brs_len xs t hl i (by omega)
    have h2 := List.length_filter_le (isB xs t) (candA xs i)
    rw [candA_len xs i (by omega)] at h2
    rw [brs, List.length_append, Nat.add_mul]; omega
theorem brK_len (xs : List Int) (t : Int) (hl : xs.length ≤ 30) (i c : Nat) (h : i < xs.length) : (brK xs t i c).length ≤ 930 := by
  have h1 := brs_len xs t hl i (by omega)
  have h2 := List.length_filter_le (isB xs t) ((candA xs i).take c)
  have h3 : ((candA xs i).take c).length ≤ (candA xs i).length := by rw [List.length_take]; omega
  rw [candA_len xs i h] at h3
  have h4 : i * 30 ≤ 30 * 30 := Nat.mul_le_mul_right _ (by omega)
  unfold brK
  rw [List.length_append]; omega
theorem brs_more (xs : List Int) (t : Int) (i : Nat) : ∀ d, ∃ rest, brs xs t (i + d) = brs xs t i ++ rest
  | 0 => ⟨[], by simp⟩
  | d + 1 => by
    obtain ⟨rest, h⟩ := brs_more xs t i d
    exact ⟨rest ++ (candA xs (i + d)).filter (isB xs t), by rw [← Nat.add_assoc, brs, h, List.append_assoc]⟩
theorem brK_more (xs : List Int) (t : Int) {i n : Nat} (c : Nat) (h : i < n) : ∃ rest, brs xs t n = brK xs t i c ++ rest := by
  obtain ⟨rest, h1⟩ := brs_more xs t (i + 1) (n - (i + 1))
  rw [show i + 1 + (n - (i + 1)) = n by omega] at h1
  refine ⟨((candA xs i).drop c).filter (isB xs t) ++ rest, ?_⟩
  rw [h1]
  unfold brK
  rw [brs, List.append_assoc, List.append_assoc, ← List.append_assoc (List.filter _ _) (List.filter _ _) rest, ← List.filter_append, List.take_append_drop]
theorem brK_prefix (xs : List Int) (t : Int) {i n : Nat} (c : Nat) (h : i < n) : (brs xs t n).take (brK xs t i c).length = brK xs t i c := by
  obtain ⟨rest, h1⟩ := brK_more xs t c h
  rw [h1, List.take_left']
  rfl
theorem isB_one {xs : List Int} {t x : Int} : isB xs t [x] = (decide (x = t) || (decide (t < x) && decide (¬ (x - t) ∈ xs))) := by
  unfold isB
  simp only [List.sum_cons, List.sum_nil, Int.add_zero, List.length_cons, List.length_nil]
  rw [show decide (x - t = 0) = decide (x = t) from decide_eq_decide.2 (by omega), show decide (0 < x - t) = decide (t < x) from decide_eq_decide.2 (by omega)]
  simp
theorem isB_two {xs : List Int} {t x y : Int} : isB xs t [x, y] = decide (x + y = t) := by
  unfold isB
  simp only [List.sum_cons, List.sum_nil, Int.add_zero, List.length_cons, List.length_nil]
  rw [show decide (x + y - t = 0) = decide (x + y = t) from decide_eq_decide.2 (by omega)]
  simp
def brtB (xs : List Int) (t : Int) : Bool := (decide (t = 3) || decide (t = 5)) && strB xs
theorem brtB_t {xs : List Int} {t : Int} (h : brtB xs t = true) : (t = 3 ∨ t = 5) ∧ strB xs = true := by
  simpa [brtB] using h
def barF (xs : List Int) (t : Int) : List (List Int) := if brtB xs t then brs xs t xs.length else []
theorem barF_t {xs : List Int} {t : Int} (h : brtB xs t = true) : barF xs t = brs xs t xs.length := by simp [barF, h]
theorem barF_f {xs : List Int} {t : Int} (h : brtB xs t = false) : barF xs t = [] := by simp [barF, h]
theorem candA_mem {xs : List Int} {i : Nat} (h : i < xs.length) {r : List Int} (hr : r ∈ candA xs i) : (r.length = 1 ∨ r.length = 2) ∧ ∀ z ∈ r, z ∈ xs := by
  unfold candA cand at hr
  have hx : xs.getD i 0 ∈ xs := by rw [List.getD_eq_getElem?_getD, List.getElem?_eq_getElem h]; exact List.getElem_mem h
  rcases List.mem_cons.1 hr with rfl | hr
  · exact ⟨.inl rfl, fun z hz => by rw [List.mem_singleton.1 hz]; exact hx⟩
  · obtain ⟨y, hy, rfl⟩ := List.mem_map.1 hr
    refine ⟨.inr rfl, fun z hz => ?_⟩
    rcases List.mem_cons.1 hz with rfl | hz
    · exact hx
    · rw [List.mem_singleton.1 hz]; exact List.mem_of_mem_drop hy
theorem brs_mem {xs : List Int} {t : Int} {r : List Int} : ∀ n, n ≤ xs.length → r ∈ brs xs t n → ∃ i, i < n ∧ r ∈ candA xs i ∧ isB xs t r = true
  | 0, _, h => by simp [brs] at h
  | n + 1, hn, h => by
    rcases List.mem_append.1 h with h | h
    · obtain ⟨i, hi, hh⟩ := brs_mem n (by omega) h
      exact ⟨i, by omega, hh⟩
    · have := List.mem_filter.1 h
      exact ⟨n, by omega, this.1, this.2⟩
end Go.Proofs.Ytcgoiddghenkmaa
