/-
  Several texts in one.
-/
import Derived.Test.YtiebnnchaopbkaaCH
import Derived.Test.YtiebnnchaopbkaaR14
import Derived.Test.YtiebnnchaopbkaaCA
/-
  Plain facts: all partitions in their order, by ranks and by the greatest part. No program in this text.
-/
namespace Go.Proofs.Ytiebnnchaopbkaa
theorem T_le {n : Nat} (hn : n < 31) {p : Nat} : ∀ m, m ≤ 30 → p ≤ m → T n p ≤ T n m := by
  intro m
  induction m with
  | zero => intro _ h; rw [Nat.le_zero.1 h]; exact Nat.le_refl _
  | succ m ih =>
    intro hm h
    rcases Nat.eq_or_lt_of_le h with h | h
    · rw [h]; exact Nat.le_refl _
    · exact Nat.le_trans (ih (by omega) (by omega)) (T_up n hn m (by omega))
/-- The rank of a partition with greatest part p. -/
theorem pk_at {n p j : Nat} (hn : n < 31) (h1 : 1 ≤ p) (hp : p ≤ n) (hj : j < T (n - p) p) : ∀ m, m ≤ 30 → p ≤ m → pk n m (T n m - T n p + j) = (p, j) := by
  intro m
  induction m with
  | zero => intro _ h; omega
  | succ m ih =>
    intro hm h
    rcases Nat.eq_or_lt_of_le h with h | h
    · subst h
      have := T_step (n := n) (k := m) hn (by omega) hp
      rw [Nat.sub_self, Nat.zero_add, pk_no (by omega)]
    · have hm' : p ≤ m := by omega
      have h2 := T_le hn m (by omega) hm'
      have h3 := T_up n hn m (by omega)
      rw [pk_yes (by omega), show T n (m + 1) - T n p + j - (T n (m + 1) - T n m) = T n m - T n p + j by omega]
      exact ih (by omega) hm'
/-- What a search finds is a part. -/
theorem pk_ok {n : Nat} (hn : n < 31) (h1 : 1 ≤ n) : ∀ m, m ≤ 30 → ∀ r, r < T n m → ∃ p q, pk n m r = (p, q) ∧ 1 ≤ p ∧ p ≤ m ∧ p ≤ n ∧ q < T (n - p) p := by
  intro m
  induction m with
  | zero => intro _ r h; rw [T_none n hn h1] at h; omega
  | succ m ih =>
    intro hm r h
    by_cases hc : T n (m + 1) - T n m ≤ r
    · obtain ⟨p, q, e, a, b, c, d⟩ := ih (by omega) (r - (T n (m + 1) - T n m)) (by have := T_up n hn m (by omega); omega)
      exact ⟨p, q, by rw [pk_yes hc]; exact e, a, by omega, c, d⟩
    · obtain ⟨c, d⟩ := pick_last (q := r) hn hm (by omega) (by rw [Nat.add_sub_cancel]; exact hc)
      exact ⟨m + 1, r, pk_no hc, by omega, Nat.le_refl _, c, d⟩
/-- How much fuel is there does not matter. -/
theorem pa_fuel2 : ∀ f g n m r, n ≤ f → n ≤ g → n < 31 → m ≤ 30 → r < T n m → pa f n m r = pa g n m r := by
  intro f
  induction f with
  | zero => intro g n m r h _ _ _ _; rw [Nat.le_zero.1 h, pa_zero, pa_zero]
  | succ f ih =>
    intro g n m r h hg hn hm hr
    rcases Nat.eq_zero_or_pos n with h0 | h0
    · subst h0; rw [pa_zero, pa_zero]
    · obtain ⟨p, q, e, a, b, c, d⟩ := pk_ok hn h0 m hm r hr
      obtain ⟨f1, hf1, e1⟩ := pa_next h h0 e
      obtain ⟨g1, hg1, e2⟩ := pa_next hg h0 e
      cases hf1
      rw [e1, e2, ih g1 (n - p) p q (by omega) (by omega) (by omega) (by omega) d]
/-- The first k partitions of n with parts up to m. -/
def lst (n m k : Nat) : List (List Int) := (List.range k).map fun r => pa n n m r
theorem lst_len (n m k : Nat) : (lst n m k).length = k := by simp [lst]
theorem lst_succ (n m k : Nat) : lst n m (k + 1) = lst n m k ++ [pa n n m k] := by simp [lst, List.range_succ]
theorem lst_get (n m k j : Nat) (h : j < k) : (lst n m k).getD j [] = pa n n m j := by
  rw [List.getD_eq_getElem?_getD, lst, List.getElem?_map, List.getElem?_range h]; rfl
theorem lst_zero (m : Nat) : lst 0 m 1 = [[]] := by simp [lst, List.range_succ, pa]
theorem pa_at {n m p j : Nat} (hn : n < 31) (h1 : 1 ≤ p) (hp : p ≤ n) (hm : m ≤ 30) (hpm : p ≤ m) (hj : j < T (n - p) p) : pa n n m (T n m - T n p + j) = (p : Int) :: pa (n - p) (n - p) p j := by
  obtain ⟨f, hf, e⟩ := pa_next (Nat.le_refl n) (by omega) (pk_at hn h1 hp hj m hm hpm)
  rw [e, pa_fuel2 f (n - p) (n - p) p j (by omega) (Nat.le_refl _) (by omega) (by omega) hj]
/-- One row more behind the rows whose greatest part is above p and j of those with p. -/
theorem lst_row {n m p j : Nat} (hn : n < 31) (h1 : 1 ≤ p) (hp : p ≤ n) (hm : m ≤ 30) (hpm : p ≤ m) (hj : j < T (n - p) p) :
    lst n m (T n m - T n p + (j + 1)) = lst n m (T n m - T n p + j) ++ [(p : Int) :: (lst (n - p) p (T (n - p) p)).getD j []] := by
  rw [← Nat.add_assoc, lst_succ, pa_at hn h1 hp hm hpm hj, lst_get _ _ _ _ hj]
/-- The rows of p are done. -/
theorem lst_next {n m p : Nat} (hn : n < 31) (h1 : 1 ≤ p) (hp : p ≤ n) (hm : m ≤ 30) (hpm : p ≤ m) : lst n m (T n m - T n p + T (n - p) p) = lst n m (T n m - T n (p - 1)) := by
  have h2 := T_le hn m hm hpm
  have h3 := T_step (n := n) (k := p - 1) hn (by omega) (by omega)
  rw [show p - 1 + 1 = p by omega] at h3
  congr 1; omega
end Go.Proofs.Ytiebnnchaopbkaa
/-
  Plain facts: what is listed by rank are the partitions, and all of them. No program in this text.
-/
namespace Go.Proofs.Ytiebnnchaopbkaa

theorem pa_chk : ∀ (f n m r : Nat), n ≤ f → n < 31 → m ≤ 30 → r < T n m → chk m (pa f n m r) = true ∧ (pa f n m r).sum = n
  | f, 0, m, r, _, _, _, _ => by rw [pa_zero]; simp [chk]
  | 0, n + 1, m, r, h, _, _, _ => absurd h (by omega)
  | f + 1, n + 1, m, r, hf, hn, hm, hr => by
    obtain ⟨p, q, h1, h2, h3, h4, h5⟩ := pk_ok hn (by omega) m hm r hr
    obtain ⟨f', hf', e⟩ := pa_next hf (by omega) h1
    have hff : f' = f := by omega
    subst hff
    obtain ⟨i1, i2⟩ := pa_chk f' (n + 1 - p) p q (by omega) (by omega) (by omega) h5
    rw [e]
    constructor
    · rw [chk, i1]
      simp only [Bool.and_true, Bool.and_eq_true, decide_eq_true_eq]
      omega
    · rw [List.sum_cons, i2]; omega
theorem pa_good {n r : Nat} (hn : n ≤ 30) (hr : r < T n n) : Good (pa n n n r) ∧ (pa n n n r).sum = n := by
  obtain ⟨h1, h2⟩ := pa_chk n n n r (Nat.le_refl _) (by omega) hn hr
  obtain ⟨c1, c2, c3⟩ := (chk_iff _ _).1 h1
  have hl := len_sum _ c1
  have hle : ∀ j, j < (pa n n n r).length → (pa n n n r).getD j 0 ≤ 30 := fun j hj => by
    have := part_sum _ (fun i hi => by have := c1 i hi; omega) j hj
    omega
  exact ⟨⟨by omega, c1, hle, c3, by omega, by omega⟩, h2⟩
theorem pa_all : ∀ (n m : Nat) (p : List Int), n < 31 → m ≤ 30 → chk m p = true → p.sum = n → ∃ r, r < T n m ∧ p = pa n n m r := by
  intro n
  induction n using Nat.strongRecOn with
  | _ n ih =>
    intro m p hn hm hc hs
    cases p with
    | nil =>
      simp at hs
      have h0 : n = 0 := by omega
      subst h0
      exact ⟨0, by rw [T_top m (by omega)]; omega, by rw [pa_zero]⟩
    | cons x t =>
      rw [chk] at hc
      simp only [Bool.and_eq_true, decide_eq_true_eq] at hc
      obtain ⟨h1, h2, h3⟩ := hc
      have ht := (chk_iff _ _).1 h3
      have hl := len_sum t ht.1
      rw [List.sum_cons] at hs
      obtain ⟨y, rfl⟩ : ∃ y : Nat, x = y := ⟨x.toNat, by omega⟩
      obtain ⟨j, hj, e⟩ := ih (n - y) (by omega) y t (by omega) (by omega) h3 (by omega)
      have hT := T_le hn m hm (show y ≤ m by omega)
      have hst : T n y = T n (y - 1) + T (n - y) y := by
        have := T_step (n := n) (k := y - 1) hn (by omega) (by omega)
        rw [show y - 1 + 1 = y by omega] at this; exact this
      refine ⟨T n m - T n y + j, by omega, ?_⟩
      rw [pa_at hn (by omega) (by omega) hm (by omega) hj, ← e]
theorem good_pa {p : List Int} (G : Good p) : ∃ r, r < T p.sum.toNat p.sum.toNat ∧ p = pa p.sum.toNat p.sum.toNat p.sum.toNat r := by
  have hs := G.sum0
  have hs2 := G.sum
  refine pa_all p.sum.toNat p.sum.toNat p (by omega) (by omega) ?_ (by omega)
  refine (chk_iff _ _).2 ⟨G.pos, fun h0 => ?_, G.down⟩
  have := part_sum p (fun i hi => by have := G.pos i hi; omega) 0 h0
  omega
end Go.Proofs.Ytiebnnchaopbkaa
/-
  Plain facts on the formula of hooks: factorials divided by products. No program in this text.
-/
namespace Go.Proofs.Ytiebnnchaopbkaa

def facN : Nat → Nat
  | 0 => 1
  | n + 1 => facN n * (n + 1)
def prN (L : List Int) : Nat → Nat
  | 0 => 1
  | k + 1 => prN L k * (L.getD k 0).toNat
/-- What is left of the factorial when k numbers have divided it. -/
def wyN (L : List Int) (k : Nat) : Nat := facN L.length / prN L k
theorem wy_zero (L : List Int) : wyN L 0 = facN L.length := by simp [wyN, prN]
theorem wy_succ (L : List Int) (k : Nat) : wyN L (k + 1) = wyN L k / (L.getD k 0).toNat := by
  unfold wyN; rw [prN, Nat.div_div_eq_div_mul]
theorem wy_le (L : List Int) (k : Nat) : wyN L k ≤ facN L.length := Nat.div_le_self _ _
theorem facN_bd : ∀ n < 21, 1 ≤ facN n ∧ facN n ≤ 2432902008176640000 := by decide +kernel

/-- The fraction that the model holds after k cells, numerator and denominator without common divisors. -/
def nd (L : List Int) : Nat → Nat × Nat
  | 0 => (1, 1)
  | k + 1 => (((nd L k).1 * (k + 1)) / Nat.gcd ((nd L k).1 * (k + 1)) ((nd L k).2 * (L.getD k 0).toNat), ((nd L k).2 * (L.getD k 0).toNat) / Nat.gcd ((nd L k).1 * (k + 1)) ((nd L k).2 * (L.getD k 0).toNat))
structure NdOK (L : List Int) (k : Nat) : Prop where
  num1 : 1 ≤ (nd L k).1
  den1 : 1 ≤ (nd L k).2
  eq : (nd L k).1 * prN L k = (nd L k).2 * facN k
  num : (nd L k).1 ≤ facN k
  den : (nd L k).2 ≤ prN L k
theorem nd_ok (L : List Int) : ∀ k, (∀ j, j < k → 1 ≤ L.getD j 0) → NdOK L k
  | 0, _ => ⟨by simp [nd], by simp [nd], by simp [nd, prN, facN], by simp [nd, facN], by simp [nd, prN]⟩
  | k + 1, h => by
    have ih := nd_ok L k fun j hj => h j (by omega)
    have hk := h k (by omega)
    obtain ⟨h1, h2, h3, h4, h5⟩ := ih
    have e1 : (nd L (k + 1)).1 = ((nd L k).1 * (k + 1)) / Nat.gcd ((nd L k).1 * (k + 1)) ((nd L k).2 * (L.getD k 0).toNat) := rfl
    have e2 : (nd L (k + 1)).2 = ((nd L k).2 * (L.getD k 0).toNat) / Nat.gcd ((nd L k).1 * (k + 1)) ((nd L k).2 * (L.getD k 0).toNat) := rfl
    obtain ⟨n, hn⟩ : ∃ n, n = (nd L k).1 := ⟨_, rfl⟩
    obtain ⟨d, hd⟩ : ∃ d, d = (nd L k).2 := ⟨_, rfl⟩
    obtain ⟨x, hx⟩ : ∃ x, x = (L.getD k 0).toNat := ⟨_, rfl⟩
    have hx1 : 1 ≤ x := by omega
    rw [← hn, ← hd, ← hx] at e1 e2
    rw [← hn] at h1 h3 h4
    rw [← hd] at h2 h3 h5
    have ha : 0 < n * (k + 1) := Nat.mul_pos h1 (by omega)
    have hb : 0 < d * x := Nat.mul_pos h2 hx1
    obtain ⟨a', ha'⟩ := Nat.gcd_dvd_left (n * (k + 1)) (d * x)
    obtain ⟨b', hb'⟩ := Nat.gcd_dvd_right (n * (k + 1)) (d * x)
    have hg := Nat.gcd_pos_of_pos_left (d * x) ha
    obtain ⟨g, hgg⟩ : ∃ g, g = Nat.gcd (n * (k + 1)) (d * x) := ⟨_, rfl⟩
    rw [← hgg] at e1 e2 ha' hb' hg
    have q1 : (nd L (k + 1)).1 = a' := by rw [e1, ha', Nat.mul_div_cancel_left _ hg]
    have q2 : (nd L (k + 1)).2 = b' := by rw [e2, hb', Nat.mul_div_cancel_left _ hg]
    have hpa : 0 < a' := by rcases Nat.eq_zero_or_pos a' with h | h
                            · subst h; simp at ha'; omega
                            · exact h
    have hpb : 0 < b' := by rcases Nat.eq_zero_or_pos b' with h | h
                            · subst h; simp at hb'; omega
                            · exact h
    have la : a' ≤ n * (k + 1) := by rw [ha']; exact Nat.le_mul_of_pos_left _ hg
    have lb : b' ≤ d * x := by rw [hb']; exact Nat.le_mul_of_pos_left _ hg
    have ep : prN L (k + 1) = prN L k * x := by rw [prN, hx]
    have ef : facN (k + 1) = facN k * (k + 1) := rfl
    refine ⟨by rw [q1]; exact hpa, by rw [q2]; exact hpb, ?_, ?_, ?_⟩
    · rw [q1, q2, ep, ef]
      refine Nat.eq_of_mul_eq_mul_left hg ?_
      calc g * (a' * (prN L k * x)) = (g * a') * (prN L k * x) := by rw [Nat.mul_assoc]
        _ = (n * (k + 1)) * (prN L k * x) := by rw [← ha']
        _ = (n * prN L k) * ((k + 1) * x) := by simp only [Nat.mul_assoc, Nat.mul_left_comm, Nat.mul_comm]
        _ = (d * facN k) * ((k + 1) * x) := by rw [h3]
        _ = (d * x) * (facN k * (k + 1)) := by simp only [Nat.mul_assoc, Nat.mul_left_comm, Nat.mul_comm]
        _ = (g * b') * (facN k * (k + 1)) := by rw [← hb']
        _ = g * (b' * (facN k * (k + 1))) := by rw [Nat.mul_assoc]
    · rw [q1, ef]; exact Nat.le_trans la (Nat.mul_le_mul_right _ h4)
    · rw [q2, ep]; exact Nat.le_trans lb (Nat.mul_le_mul_right _ h5)
theorem prN_pos (L : List Int) : ∀ k, (∀ j, j < k → 1 ≤ L.getD j 0) → 1 ≤ prN L k
  | 0, _ => by simp [prN]
  | k + 1, h => by
    have := prN_pos L k fun j hj => h j (by omega)
    have := h k (by omega)
    rw [prN]; exact Nat.mul_pos (by omega) (by omega)
theorem nd_quo (L : List Int) (h : ∀ j, j < L.length → 1 ≤ L.getD j 0) : (nd L L.length).1 / (nd L L.length).2 = wyN L L.length := by
  have o := nd_ok L L.length h
  have hp := prN_pos L L.length h
  unfold wyN
  rw [← Nat.mul_div_mul_right _ _ hp, o.eq, Nat.mul_div_mul_left _ _ o.den1]

/-- The numbers do not grow beyond those of a single row. -/
def dscN (n : Nat) : Nat → Nat
  | 0 => 1
  | j + 1 => dscN n j * (n - j)
theorem dscAll : ((List.range 21).all fun n => (List.range 21).all fun j => decide (dscN n j ≤ 2432902008176640000)) = true := by decide +kernel
theorem dsc_bd (n : Nat) (hn : n ≤ 20) (j : Nat) (hj : j ≤ 20) : dscN n j ≤ 2432902008176640000 := by
  have h1 := List.all_eq_true.1 dscAll n (List.mem_range.2 (by omega))
  have h2 := List.all_eq_true.1 h1 j (List.mem_range.2 (by omega))
  simpa using h2
def HkB (L : List Int) (n : Nat) : Prop := ∀ k, k < L.length → 1 ≤ L.getD k 0 ∧ L.getD k 0 ≤ (n : Int) - k
theorem prN_le {L : List Int} {n : Nat} (h : HkB L n) : ∀ k, k ≤ L.length → prN L k ≤ dscN n k
  | 0, _ => Nat.le_refl _
  | k + 1, hk => by
    have := prN_le h k (by omega)
    have := h k (by omega)
    rw [prN, dscN]
    exact Nat.mul_le_mul (by omega) (by omega)
theorem prN_bd {L : List Int} {n : Nat} (h : HkB L n) (hn : n ≤ 20) (hl : L.length ≤ 20) (k : Nat) (hk : k ≤ L.length) : prN L k ≤ 2432902008176640000 :=
  Nat.le_trans (prN_le h k hk) (dsc_bd n hn k (by omega))
theorem flat_bd : ∀ (R : List (List Int)) (n : Int), (∀ r c, r < R.length → c < (R.getD r []).length → 1 ≤ (R.getD r []).getD c 0 ∧ (R.getD r []).getD c 0 ≤ n - (((R.take r).flatten.length : Nat) : Int) - c) →
    ∀ k, k < R.flatten.length → 1 ≤ R.flatten.getD k 0 ∧ R.flatten.getD k 0 ≤ n - k
  | [], _, _, k, hk => by simp at hk
  | a :: t, n, h, k, hk => by
    rw [List.flatten_cons] at hk ⊢
    by_cases hka : k < a.length
    · have := h 0 k (by simp) (by simpa using hka)
      simp only [List.getD_cons_zero, List.take_zero, List.flatten_nil, List.length_nil] at this
      rw [List.getD_eq_getElem?_getD, List.getElem?_append_left hka, ← List.getD_eq_getElem?_getD]
      omega
    · have ih := flat_bd t (n - a.length) (fun r c hr hc => by
        have := h (r + 1) c (by simp; omega) (by simpa using hc)
        simp only [List.getD_cons_succ, List.take_succ_cons, List.flatten_cons, List.length_append] at this
        omega) (k - a.length) (by rw [List.length_append] at hk; omega)
      rw [List.getD_eq_getElem?_getD, List.getElem?_append_right (by omega), ← List.getD_eq_getElem?_getD]
      omega
/-- A place in the flat list. -/
theorem flat_at : ∀ (R : List (List Int)) (r c : Nat), r < R.length → c < (R.getD r []).length → R.flatten.getD ((R.take r).flatten.length + c) 0 = (R.getD r []).getD c 0
  | [], r, _, hr, _ => by simp at hr
  | a :: t, 0, c, _, hc => by
    simp only [List.take_zero, List.flatten_nil, List.length_nil, Nat.zero_add, List.getD_cons_zero, List.flatten_cons] at hc ⊢
    rw [List.getD_eq_getElem?_getD, List.getElem?_append_left hc, ← List.getD_eq_getElem?_getD]
  | a :: t, r + 1, c, hr, hc => by
    simp only [List.getD_cons_succ, List.take_succ_cons, List.flatten_cons, List.length_append] at hc ⊢
    have ih := flat_at t r c (by simpa using hr) hc
    rw [List.getD_eq_getElem?_getD, List.getElem?_append_right (by omega), ← List.getD_eq_getElem?_getD, ← ih]
    congr 1; omega
end Go.Proofs.Ytiebnnchaopbkaa
