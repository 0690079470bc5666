/-
  Several texts in one.
-/
import Derived.Test.YtmjncedijddmmaaR05
import Derived.Test.YtmjncedijddmmaaCH
/-
  Plain facts: the levels of all cores of so many cells, listed in two ways. No program in this text.
-/
namespace Go.Proofs.Ytmjncedijddmmaa
open Go.RowKit

/-- The shares of levels from a runner on. -/
def shW (t : Nat) : Nat → List Int → Int
  | _, [] => 0
  | i, x :: r => shr t i x + shW t (i + 1) r
theorem shW_app (t : Nat) (ys : List Int) : ∀ (xs : List Int) (i : Nat), shW t i (xs ++ ys) = shW t i xs + shW t (i + xs.length) ys
  | [], i => by simp [shW]
  | x :: r, i => by
    rw [List.cons_append, shW, shW, shW_app t ys r (i + 1), List.length_cons, show i + 1 + r.length = i + (r.length + 1) by omega]; omega
theorem shW_one (t i : Nat) (x : Int) : shW t i [x] = shr t i x := by simp [shW]
theorem shW_sum (t : Nat) (xs : List Int) : ∀ k, k ≤ xs.length → shW t 0 (xs.take k) = sumN (fun i => shr t i (xs.getD i 0)) k
  | 0, _ => by simp [shW, sumN]
  | k + 1, h => by
    rw [take_snoc xs k (by omega) _ rfl, shW_app, shW_sum t xs k (by omega), shW_one, sumN, List.length_take, show 0 + min k xs.length = k by omega]
theorem two_size' {xs : List Int} (L : Lev xs) : 2 * sizeL xs = shW xs.length 0 xs := by
  rw [two_size L, ← shW_sum _ _ _ (Nat.le_refl _), List.take_of_length_le (Nat.le_refl _)]
theorem shW_pos {t : Nat} (ht : 2 ≤ t ∧ t ≤ 6) : ∀ (xs : List Int) (i : Nat), i + xs.length ≤ t → 0 ≤ shW t i xs
  | [], _, _ => Int.le_refl 0
  | x :: r, i, h => by
    rw [List.length_cons] at h
    have h1 := (shr_ge ht (show i < t by omega) x).1
    have h2 := shW_pos ht r (i + 1) (by omega)
    rw [shW]; omega
/-- The levels of a small core are smaller yet. -/
theorem shr_ge5 {t i : Nat} (ht : 3 ≤ t ∧ t ≤ 6) (hi : i < t) (x : Int) (hx : 5 ≤ x ∨ x ≤ -5) : 61 ≤ shr t i x := by
  have g : (5 ≤ x → 5 * x ≤ x * x) ∧ (x ≤ -5 → -(5 * x) ≤ x * x) := by
    refine ⟨fun h => Int.mul_le_mul_of_nonneg_right h (by omega), fun h => ?_⟩
    have := Int.mul_le_mul_of_nonneg_right (show (5 : Int) ≤ -x by omega) (show 0 ≤ -x by omega)
    rw [Int.neg_mul_neg] at this; omega
  obtain ⟨g3, g4⟩ := g
  have ht6 : t = 3 ∨ t = 4 ∨ t = 5 ∨ t = 6 := by omega
  have hi6 : i = 0 ∨ i = 1 ∨ i = 2 ∨ i = 3 ∨ i = 4 ∨ i = 5 := by omega
  unfold shr
  generalize x * x = y at *
  rcases ht6 with rfl | rfl | rfl | rfl <;> (rcases hi6 with rfl | rfl | rfl | rfl | rfl | rfl <;> first | omega | (simp; omega))
theorem lev_small4 {xs : List Int} (L : Lev xs) (h : sizeL xs ≤ 30) (i : Nat) (hi : i < xs.length) : -4 ≤ xs.getD i 0 ∧ xs.getD i 0 ≤ 4 := by
  have h1 := two_size L
  have h2 := sumN_one_le (f := fun i => shr xs.length i (xs.getD i 0)) xs.length (fun j hj => (shr_ge ⟨L.lo, L.hi⟩ hj _).1) i hi
  have h4 : shr xs.length i (xs.getD i 0) ≤ 2 * sizeL xs := by rw [h1]; exact h2
  by_cases h3 : 3 ≤ xs.length
  · have h5 := shr_ge5 ⟨h3, L.hi⟩ hi (xs.getD i 0)
    omega
  · have hl := L.lo
    have e2 : xs.length = 2 := by omega
    have h0 := lev_sumN L
    rw [e2] at h0 h1 hi
    simp only [sumN] at h0 h1
    have e1 : xs.getD 1 0 = -xs.getD 0 0 := by omega
    rw [e1] at h1
    unfold shr at h1
    rw [Int.neg_mul_neg] at h1
    have g := sq_ge (xs.getD 0 0)
    have g5 : (5 ≤ xs.getD 0 0 → 5 * xs.getD 0 0 ≤ xs.getD 0 0 * xs.getD 0 0) ∧ (xs.getD 0 0 ≤ -5 → -(5 * xs.getD 0 0) ≤ xs.getD 0 0 * xs.getD 0 0) := by
      refine ⟨fun h => Int.mul_le_mul_of_nonneg_right h (by omega), fun h => ?_⟩
      have := Int.mul_le_mul_of_nonneg_right (show (5 : Int) ≤ -xs.getD 0 0 by omega) (show 0 ≤ -xs.getD 0 0 by omega)
      rw [Int.neg_mul_neg] at this; omega
    have hx : -4 ≤ xs.getD 0 0 ∧ xs.getD 0 0 ≤ 4 := by
      generalize xs.getD 0 0 * xs.getD 0 0 = y at *
      omega
    rcases (show i = 0 ∨ i = 1 by omega) with rfl | rfl
    · exact hx
    · omega

def lvl (b : Int) (k : Nat) : List Int := (List.range k).map fun (j : Nat) => (j : Int) - b
theorem lvl_succ (b : Int) (k : Nat) : lvl b (k + 1) = lvl b k ++ [(k : Int) - b] := by simp [lvl, List.range_succ]
theorem mem_lvl {b : Int} {k : Nat} {x : Int} : x ∈ lvl b k ↔ -b ≤ x ∧ x < k - b := by
  unfold lvl
  rw [List.mem_map]
  constructor
  · rintro ⟨j, hj, rfl⟩; have := List.mem_range.1 hj; omega
  · rintro ⟨h1, h2⟩; exact ⟨(x + b).toNat, List.mem_range.2 (by omega), by omega⟩
theorem lvl_nodup (b : Int) (k : Nat) : (lvl b k).Nodup := by
  unfold lvl
  rw [List.nodup_iff_pairwise_ne, List.pairwise_map]
  exact List.Pairwise.imp (fun h e => h (by omega)) (List.nodup_iff_pairwise_ne.1 List.nodup_range)
theorem lvl_part : lvl 10 21 = [-10, -9, -8, -7, -6, -5] ++ lvl 4 9 ++ [5, 6, 7, 8, 9, 10] := by decide
theorem flat_one {s : Int} {f : Int → List (List Int)} : ∀ L : List Int, L.Nodup → (∀ l ∈ L, l ≠ s → f l = []) → L.flatMap f = if s ∈ L then f s else []
  | [], _, _ => by simp
  | a :: r, nd, h => by
    obtain ⟨n1, n2⟩ := List.nodup_cons.1 nd
    rw [List.flatMap_cons, flat_one r n2 fun l hl => h l (List.mem_cons_of_mem _ hl)]
    by_cases e : a = s
    · subst e; rw [if_neg n1, if_pos (List.mem_cons_self ..), List.append_nil]
    · rw [h a (List.mem_cons_self ..) e, List.nil_append]
      by_cases hs : s ∈ r
      · rw [if_pos hs, if_pos (List.mem_cons_of_mem _ hs)]
      · rw [if_neg hs, if_neg (by simp [hs]; omega)]

theorem flat_congr {f g : Int → List (List Int)} : ∀ L : List Int, (∀ l ∈ L, f l = g l) → L.flatMap f = L.flatMap g
  | [], _ => rfl
  | a :: r, h => by rw [List.flatMap_cons, List.flatMap_cons, h a (List.mem_cons_self ..), flat_congr r fun l hl => h l (List.mem_cons_of_mem _ hl)]

/-- The program's list: so many runners left, the sum and the shares that are left. -/
def lf (t : Nat) : Nat → Int → Int → List (List Int)
  | 0, s, h => if s = 0 ∧ h = 0 then [[]] else []
  | r + 1, s, h => (lvl 10 21).flatMap fun l => if h - shr t (t - (r + 1)) l < 0 then [] else (lf t r (s - l) (h - shr t (t - (r + 1)) l)).map (l :: ·)
theorem lf_zero (t : Nat) (s h : Int) : lf t 0 s h = if s = 0 ∧ h = 0 then [[]] else [] := rfl
/-- The model's list: levels that go on a list. -/
def chL (n : Int) : Nat → List Int → List (List Int)
  | 0, P => if levB (P ++ [-P.sum]) && decide (sizeL (P ++ [-P.sum]) = n) then [P ++ [-P.sum]] else []
  | r + 1, P => (lvl 4 9).flatMap fun c => chL n r (P ++ [c])
theorem mem_chL {n : Int} {v : List Int} : ∀ (r : Nat) (P : List Int), v ∈ chL n r P → Lev v ∧ sizeL v = n ∧ v.length = P.length + r + 1 ∧ ∃ x, v = P ++ x
  | 0, P, h => by
    rw [chL] at h
    split at h
    · rename_i hh
      rw [List.mem_singleton] at h
      subst h
      simp only [Bool.and_eq_true, decide_eq_true_eq] at hh
      exact ⟨levB_iff.1 hh.1, hh.2, by simp, _, rfl⟩
    · cases h
  | r + 1, P, h => by
    rw [chL, List.mem_flatMap] at h
    obtain ⟨c, _, hc⟩ := h
    obtain ⟨h1, h2, h3, x, h4⟩ := mem_chL r (P ++ [c]) hc
    refine ⟨h1, h2, by rw [h3, List.length_append, List.length_singleton]; omega, c :: x, by rw [h4]; simp⟩
theorem mem_lf {t : Nat} {x : List Int} : ∀ (r : Nat) (s h : Int), r ≤ t → x ∈ lf t r s h → x.length = r ∧ (∀ y ∈ x, -10 ≤ y ∧ y ≤ 10) ∧ x.sum = s ∧ shW t (t - r) x = h
  | 0, s, h, _, hx => by
    rw [lf] at hx
    split at hx
    · rename_i hh
      rw [List.mem_singleton] at hx
      subst hx
      exact ⟨rfl, (fun y hy => by cases hy), by simp [hh.1], by simp [shW, hh.2]⟩
    · cases hx
  | r + 1, s, h, hr, hx => by
    rw [lf, List.mem_flatMap] at hx
    obtain ⟨l, hl, hx⟩ := hx
    split at hx
    · cases hx
    · obtain ⟨y, hy, rfl⟩ := List.mem_map.1 hx
      obtain ⟨h1, h2, h3, h4⟩ := mem_lf r _ _ (by omega) hy
      have hb := mem_lvl.1 hl
      refine ⟨by simp [h1], fun z hz => ?_, by rw [List.sum_cons, h3]; omega, ?_⟩
      · rcases List.mem_cons.1 hz with rfl | hz
        · omega
        · exact h2 z hz
      · rw [shW, show t - (r + 1) + 1 = t - r by omega, h4]; omega
theorem lev_of {P : List Int} {v : List Int} (h26 : 2 ≤ v.length ∧ v.length ≤ 6) (hb : ∀ y ∈ v, -10 ≤ y ∧ y ≤ 10) (hs : v.sum = 0) (_ : P = P) : Lev v :=
  ⟨h26.1, h26.2, fun j hj => hb _ (by rw [List.getD_eq_getElem?_getD, List.getElem?_eq_getElem hj]; exact List.getElem_mem hj), hs⟩
theorem lw_eq {t : Nat} {n : Int} (ht : 2 ≤ t ∧ t ≤ 6) (hn : n ≤ 30) : ∀ (r : Nat) (P : List Int), P.length + r + 1 = t → (∀ y ∈ P, -10 ≤ y ∧ y ≤ 10) →
    (lf t (r + 1) (-P.sum) (2 * n - shW t 0 P)).map (P ++ ·) = chL n r P
  | 0, P, hl, hP => by
    obtain ⟨s, hs⟩ : ∃ s, s = -P.sum := ⟨_, rfl⟩
    rw [chL, lf, ← hs, List.map_flatMap]
    rw [flat_one (s := s) _ (lvl_nodup _ _) fun l _ hne => by
      split
      · rfl
      · rw [lf_zero, if_neg (by omega)]; rfl]
    have hlen : (P ++ [s]).length = t := by rw [List.length_append, List.length_singleton]; omega
    have hsum : (P ++ [s]).sum = 0 := by rw [List.sum_append, List.sum_singleton]; omega
    by_cases hb : -10 ≤ s ∧ s ≤ 10
    · have L : Lev (P ++ [s]) := lev_of (P := P) (by omega) (fun y hy => by
        rcases List.mem_append.1 hy with h | h
        · exact hP y h
        · rw [List.mem_singleton] at h; omega) hsum rfl
      have h2 := two_size' L
      rw [hlen, shW_app, shW_one, show 0 + P.length = t - (0 + 1) by omega] at h2
      rw [if_pos (mem_lvl.2 (by omega)), levB_iff.2 L, Bool.true_and]
      by_cases hz : sizeL (P ++ [s]) = n
      · rw [if_neg (show ¬ (2 * n - shW t 0 P - shr t (t - (0 + 1)) s < 0) by omega), lf_zero, if_pos (show s - s = 0 ∧ 2 * n - shW t 0 P - shr t (t - (0 + 1)) s = 0 by omega), if_pos (decide_eq_true hz)]; rfl
      · rw [if_neg (show ¬ (decide (sizeL (P ++ [s]) = n) = true) by rw [decide_eq_false hz]; decide)]
        split
        · rfl
        · rw [lf_zero, if_neg (by omega)]; rfl
    · rw [if_neg (fun h => hb (by have := mem_lvl.1 h; omega))]
      have : levB (P ++ [s]) = false := Bool.eq_false_iff.2 fun h => by
        have := (levB_iff.1 h).bd P.length (by rw [hlen]; omega)
        simp [List.getD] at this
        omega
      rw [this]; rfl
  | r + 1, P, hl, hP => by
    have hpt : ∀ l, -10 ≤ l ∧ l ≤ 10 → (if 2 * n - shW t 0 P - shr t (t - (r + 1 + 1)) l < 0 then [] else (lf t (r + 1) (-P.sum - l) (2 * n - shW t 0 P - shr t (t - (r + 1 + 1)) l)).map (l :: ·)).map (P ++ ·) = chL n r (P ++ [l]) := fun l hb => by
      have hP2 : ∀ y ∈ P ++ [l], -10 ≤ y ∧ y ≤ 10 := fun y hy => by
        rcases List.mem_append.1 hy with h | h
        · exact hP y h
        · rw [List.mem_singleton] at h; omega
      have hsh : shW t 0 (P ++ [l]) = shW t 0 P + shr t (t - (r + 1 + 1)) l := by
        rw [shW_app, shW_one, show 0 + P.length = t - (r + 1 + 1) by omega]
      by_cases hneg : 2 * n - shW t 0 P - shr t (t - (r + 1 + 1)) l < 0
      · rw [if_pos hneg, List.map_nil]
        symm
        rw [List.eq_nil_iff_forall_not_mem]
        intro v hv
        obtain ⟨L, h2, h3, x, rfl⟩ := mem_chL r _ hv
        have h4 := two_size' L
        rw [h3, show (P ++ [l]).length + r + 1 = t by simp; omega, shW_app, hsh] at h4
        have h5 := shW_pos ht x (0 + (P ++ [l]).length) (by simp only [List.length_append, List.length_singleton] at h3 ⊢; omega)
        omega
      · rw [if_neg hneg]
        have ih := lw_eq ht hn r (P ++ [l]) (by rw [List.length_append, List.length_singleton]; omega) hP2
        rw [hsh, List.sum_append, List.sum_singleton] at ih
        rw [← ih, List.map_map, show -P.sum - l = -(P.sum + l) by omega, show 2 * n - shW t 0 P - shr t (t - (r + 1 + 1)) l = 2 * n - (shW t 0 P + shr t (t - (r + 1 + 1)) l) by omega]
        exact List.map_congr_left fun y _ => by simp
    have hout : ∀ l, -10 ≤ l ∧ l ≤ 10 → ¬ (-4 ≤ l ∧ l ≤ 4) → chL n r (P ++ [l]) = [] := fun l hb h4 => by
      rw [List.eq_nil_iff_forall_not_mem]
      intro v hv
      obtain ⟨L, h2, h3, x, rfl⟩ := mem_chL r _ hv
      have := lev_small4 L (by omega) P.length (by simp)
      rw [List.append_assoc] at this
      simp [List.getD] at this
      omega
    rw [lf, chL, List.map_flatMap, lvl_part, List.flatMap_append, List.flatMap_append]
    have nilA : ∀ A : List Int, (∀ l ∈ A, (-10 ≤ l ∧ l ≤ 10) ∧ ¬ (-4 ≤ l ∧ l ≤ 4)) → A.flatMap (fun l => (if 2 * n - shW t 0 P - shr t (t - (r + 1 + 1)) l < 0 then [] else (lf t (r + 1) (-P.sum - l) (2 * n - shW t 0 P - shr t (t - (r + 1 + 1)) l)).map (l :: ·)).map (P ++ ·)) = [] := fun A hA => by
      rw [List.flatMap_eq_nil_iff]
      intro l hl
      rw [hpt l (hA l hl).1, hout l (hA l hl).1 (hA l hl).2]
    rw [nilA [-10, -9, -8, -7, -6, -5] (by decide), nilA [5, 6, 7, 8, 9, 10] (by decide), List.nil_append, List.append_nil]
    exact flat_congr _ fun l hl => hpt l (by have := mem_lvl.1 hl; omega)
theorem lw_main {t : Nat} {n : Int} (ht : 2 ≤ t ∧ t ≤ 6) (hn : n ≤ 30) : lf t t 0 (2 * n) = chL n (t - 1) [] := by
  have := lw_eq ht hn (t - 1) [] (by simp; omega) (fun y hy => by cases hy)
  rw [show t - 1 + 1 = t by omega] at this
  simpa [shW] using this
theorem chL_len {n : Int} : ∀ (r : Nat) (P : List Int), (chL n r P).length ≤ 9 ^ r
  | 0, P => by rw [chL]; split <;> simp
  | r + 1, P => by
    rw [chL, List.length_flatMap]
    have : ∀ L : List Int, (L.map fun c => (chL n r (P ++ [c])).length).sum ≤ L.length * 9 ^ r := fun L => by
      induction L with
      | nil => simp
      | cons a l ih =>
        have := chL_len (n := n) r (P ++ [a])
        rw [List.map_cons, List.sum_cons, List.length_cons, Nat.add_mul]; omega
    have h2 := this (lvl 4 9)
    rw [show (lvl 4 9).length = 9 from rfl] at h2
    rw [Nat.pow_succ]; omega
end Go.Proofs.Ytmjncedijddmmaa
/-
  Plain facts: all partitions in their order, by ranks and by the greatest part. No program in this text.
-/
namespace Go.Proofs.Ytmjncedijddmmaa
theorem T_le {n : Nat} (hn : n < 31) {p : Nat} : ∀ m, m ≤ 30 → p ≤ m → T n p ≤ T n m := by
  intro m
  induction m with
  | zero => intro _ h; rw [Nat.le_zero.1 h]; exact Nat.le_refl _
  | succ m ih =>
    intro hm h
    rcases Nat.eq_or_lt_of_le h with h | h
    · rw [h]; exact Nat.le_refl _
    · exact Nat.le_trans (ih (by omega) (by omega)) (T_up n hn m (by omega))
/-- The rank of a partition with greatest part p. -/
theorem pk_at {n p j : Nat} (hn : n < 31) (h1 : 1 ≤ p) (hp : p ≤ n) (hj : j < T (n - p) p) : ∀ m, m ≤ 30 → p ≤ m → pk n m (T n m - T n p + j) = (p, j) := by
  intro m
  induction m with
  | zero => intro _ h; omega
  | succ m ih =>
    intro hm h
    rcases Nat.eq_or_lt_of_le h with h | h
    · subst h
      have := T_step (n := n) (k := m) hn (by omega) hp
      rw [Nat.sub_self, Nat.zero_add, pk_no (by omega)]
    · have hm' : p ≤ m := by omega
      have h2 := T_le hn m (by omega) hm'
      have h3 := T_up n hn m (by omega)
      rw [pk_yes (by omega), show T n (m + 1) - T n p + j - (T n (m + 1) - T n m) = T n m - T n p + j by omega]
      exact ih (by omega) hm'
/-- What a search finds is a part. -/
theorem pk_ok {n : Nat} (hn : n < 31) (h1 : 1 ≤ n) : ∀ m, m ≤ 30 → ∀ r, r < T n m → ∃ p q, pk n m r = (p, q) ∧ 1 ≤ p ∧ p ≤ m ∧ p ≤ n ∧ q < T (n - p) p := by
  intro m
  induction m with
  | zero => intro _ r h; rw [T_none n hn h1] at h; omega
  | succ m ih =>
    intro hm r h
    by_cases hc : T n (m + 1) - T n m ≤ r
    · obtain ⟨p, q, e, a, b, c, d⟩ := ih (by omega) (r - (T n (m + 1) - T n m)) (by have := T_up n hn m (by omega); omega)
      exact ⟨p, q, by rw [pk_yes hc]; exact e, a, by omega, c, d⟩
    · obtain ⟨c, d⟩ := pick_last (q := r) hn hm (by omega) (by rw [Nat.add_sub_cancel]; exact hc)
      exact ⟨m + 1, r, pk_no hc, by omega, Nat.le_refl _, c, d⟩
/-- How much fuel is there does not matter. -/
theorem pa_fuel2 : ∀ f g n m r, n ≤ f → n ≤ g → n < 31 → m ≤ 30 → r < T n m → pa f n m r = pa g n m r := by
  intro f
  induction f with
  | zero => intro g n m r h _ _ _ _; rw [Nat.le_zero.1 h, pa_zero, pa_zero]
  | succ f ih =>
    intro g n m r h hg hn hm hr
    rcases Nat.eq_zero_or_pos n with h0 | h0
    · subst h0; rw [pa_zero, pa_zero]
    · obtain ⟨p, q, e, a, b, c, d⟩ := pk_ok hn h0 m hm r hr
      obtain ⟨f1, hf1, e1⟩ := pa_next h h0 e
      obtain ⟨g1, hg1, e2⟩ := pa_next hg h0 e
      cases hf1
      rw [e1, e2, ih g1 (n - p) p q (by omega) (by omega) (by omega) (by omega) d]
/-- The first k partitions of n with parts up to m. -/
def lst (n m k : Nat) : List (List Int) := (List.range k).map fun r => pa n n m r
theorem lst_len (n m k : Nat) : (lst n m k).length = k := by simp [lst]
theorem lst_succ (n m k : Nat) : lst n m (k + 1) = lst n m k ++ [pa n n m k] := by simp [lst, List.range_succ]
theorem lst_get (n m k j : Nat) (h : j < k) : (lst n m k).getD j [] = pa n n m j := by
  rw [List.getD_eq_getElem?_getD, lst, List.getElem?_map, List.getElem?_range h]; rfl
theorem lst_zero (m : Nat) : lst 0 m 1 = [[]] := by simp [lst, List.range_succ, pa]
theorem pa_at {n m p j : Nat} (hn : n < 31) (h1 : 1 ≤ p) (hp : p ≤ n) (hm : m ≤ 30) (hpm : p ≤ m) (hj : j < T (n - p) p) : pa n n m (T n m - T n p + j) = (p : Int) :: pa (n - p) (n - p) p j := by
  obtain ⟨f, hf, e⟩ := pa_next (Nat.le_refl n) (by omega) (pk_at hn h1 hp hj m hm hpm)
  rw [e, pa_fuel2 f (n - p) (n - p) p j (by omega) (Nat.le_refl _) (by omega) (by omega) hj]
/-- One row more behind the rows whose greatest part is above p and j of those with p. -/
theorem lst_row {n m p j : Nat} (hn : n < 31) (h1 : 1 ≤ p) (hp : p ≤ n) (hm : m ≤ 30) (hpm : p ≤ m) (hj : j < T (n - p) p) :
    lst n m (T n m - T n p + (j + 1)) = lst n m (T n m - T n p + j) ++ [(p : Int) :: (lst (n - p) p (T (n - p) p)).getD j []] := by
  rw [← Nat.add_assoc, lst_succ, pa_at hn h1 hp hm hpm hj, lst_get _ _ _ _ hj]
/-- The rows of p are done. -/
theorem lst_next {n m p : Nat} (hn : n < 31) (h1 : 1 ≤ p) (hp : p ≤ n) (hm : m ≤ 30) (hpm : p ≤ m) : lst n m (T n m - T n p + T (n - p) p) = lst n m (T n m - T n (p - 1)) := by
  have h2 := T_le hn m hm hpm
  have h3 := T_step (n := n) (k := p - 1) hn (by omega) (by omega)
  rw [show p - 1 + 1 = p by omega] at h3
  congr 1; omega
end Go.Proofs.Ytmjncedijddmmaa
/-
  Contracts: PartitionWith of the model.
-/
namespace Go.Proofs.Ytmjncedijddmmaa
open Go.RowKit

theorem l1Least_s (a b : Nat) (w : World) :
    Calls Try.prog 106 #[.int .i64 a, .int .i64 b] w fun e w' => e = .returned (.int .i64 ((min a b : Nat) : Int)) ∧ w = w' :=
  (l1Least_any a b w).mono fun _ _ h => ⟨h.1, h.2.symm⟩

theorem bound_PartitionWith (n r : Int) : (withF n r).length ≤ 1048576 := by have := withF_len n r; omega
end Go.Proofs.Ytmjncedijddmmaa
