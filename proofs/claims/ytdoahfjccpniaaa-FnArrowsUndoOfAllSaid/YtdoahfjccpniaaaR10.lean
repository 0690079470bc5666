/-
  Several texts in one.
-/
import Derived.Test.YtdoahfjccpniaaaR09
/-
  Regular partitions; partitions above others. No program in this text.
-/
namespace Go.Proofs.Ytdoahfjccpniaaa

/-- The first k places at which s + 1 parts could be equal hold no such parts. -/
def regTo (xs : List Int) (s : Nat) : Nat → Bool
  | 0 => true
  | k + 1 => regTo xs s k && decide (¬ xs.getD k 0 = xs.getD (k + s) 0)
def regB (xs : List Int) (t : Nat) : Bool := regTo xs (t - 1) (xs.length + 1 - t)
theorem regTo_le {xs : List Int} {s : Nat} : ∀ {k j : Nat}, regTo xs s k = true → j ≤ k → regTo xs s j = true
  | 0, j, h, hj => by rw [show j = 0 by omega]; exact h
  | k + 1, j, h, hj => by
    by_cases e : j = k + 1
    · subst e; exact h
    · simp only [regTo, Bool.and_eq_true] at h
      exact regTo_le h.1 (by omega)
theorem regTo_no {xs : List Int} {s k n : Nat} (h : xs.getD k 0 = xs.getD (k + s) 0) (hk : k < n) : regTo xs s n = false := by
  cases hd : regTo xs s n
  · rfl
  · have := regTo_le hd (show k + 1 ≤ n by omega)
    simp only [regTo, Bool.and_eq_true, decide_eq_true_eq] at this
    exact absurd h this.2
theorem regTo_ne {xs : List Int} {s k n : Nat} (h : regTo xs s n = true) (hk : k < n) : xs.getD k 0 ≠ xs.getD (k + s) 0 := by
  have := regTo_le h (show k + 1 ≤ n by omega)
  simp only [regTo, Bool.and_eq_true, decide_eq_true_eq] at this
  exact this.2
theorem regB_ne {xs : List Int} {t : Nat} (h : regB xs t = true) {k : Nat} (hk : k + t ≤ xs.length) : xs.getD k 0 ≠ xs.getD (k + (t - 1)) 0 := regTo_ne h (by omega)
theorem regB_of {xs : List Int} {t : Nat} (h : ∀ k, k + t ≤ xs.length → xs.getD k 0 ≠ xs.getD (k + (t - 1)) 0) : regB xs t = true := by
  unfold regB
  have : ∀ n, n ≤ xs.length + 1 - t → regTo xs (t - 1) n = true := by
    intro n
    induction n with
    | zero => intro _; rfl
    | succ n ih =>
      intro hn
      simp only [regTo, Bool.and_eq_true, decide_eq_true_eq]
      exact ⟨ih (by omega), h n (by omega)⟩
  exact this _ (Nat.le_refl _)
def giB (xs : List Int) (t : Int) : Bool := good xs && inB 2 6 t
def rgB (xs : List Int) (t : Int) : Bool := giB xs t && regB xs t.toNat
theorem giB_t {xs : List Int} {t : Int} (h : giB xs t = true) : good xs = true ∧ inB 2 6 t = true := by
  simpa only [giB, Bool.and_eq_true] using h

/-! Partitions above others. -/
theorem sum_take_any (xs : List Int) (k : Nat) : (xs.take (k + 1)).sum = (xs.take k).sum + xs.getD k 0 := by
  by_cases h : k < xs.length
  · exact sum_take_succ xs k h
  · rw [List.take_of_length_le (by omega), List.take_of_length_le (by omega), getD_beyond (by omega)]; omega
def abTo (p q : List Int) : Nat → Bool
  | 0 => true
  | k + 1 => abTo p q k && decide ((q.take (k + 1)).sum ≤ (p.take (k + 1)).sum)
theorem abTo_le {p q : List Int} : ∀ {k j : Nat}, abTo p q k = true → j ≤ k → abTo p q j = true
  | 0, j, h, hj => by rw [show j = 0 by omega]; exact h
  | k + 1, j, h, hj => by
    by_cases e : j = k + 1
    · subst e; exact h
    · simp only [abTo, Bool.and_eq_true] at h
      exact abTo_le h.1 (by omega)
theorem abTo_no {p q : List Int} {k n : Nat} (h : ¬ (q.take (k + 1)).sum ≤ (p.take (k + 1)).sum) (hk : k < n) : abTo p q n = false := by
  cases hd : abTo p q n
  · rfl
  · have := abTo_le hd (show k + 1 ≤ n by omega)
    simp only [abTo, Bool.and_eq_true, decide_eq_true_eq] at this
    exact absurd this.2 h
theorem abTo_at {p q : List Int} {k n : Nat} (h : abTo p q n = true) (hk : k ≤ n) : (q.take k).sum ≤ (p.take k).sum := by
  cases k with
  | zero => simp
  | succ k =>
    have := abTo_le h hk
    simp only [abTo, Bool.and_eq_true, decide_eq_true_eq] at this
    exact this.2
theorem abTo_of {p q : List Int} {n : Nat} (h : ∀ k, k ≤ n → (q.take k).sum ≤ (p.take k).sum) : abTo p q n = true := by
  induction n with
  | zero => rfl
  | succ n ih =>
    simp only [abTo, Bool.and_eq_true, decide_eq_true_eq]
    exact ⟨ih fun k hk => h k (by omega), h (n + 1) (Nat.le_refl _)⟩
def abB (p q : List Int) : Bool := abTo p q (max p.length q.length) && decide (p.sum = q.sum)
theorem take_le_sum {p : List Int} (hp : ∀ j, j < p.length → 1 ≤ p.getD j 0) (k : Nat) : (p.take k).sum ≤ p.sum ∧ (k < p.length → (p.take k).sum < p.sum) := by
  have step : ∀ d, k + d ≤ p.length → (p.take k).sum + d ≤ (p.take (k + d)).sum := by
    intro d
    induction d with
    | zero => intro _; simp
    | succ d ih =>
      intro h
      have := ih (by omega)
      have h1 := sum_take_succ p (k + d) (by omega)
      have h2 := hp (k + d) (by omega)
      rw [show k + (d + 1) = k + d + 1 by omega]; omega
  by_cases h : k ≤ p.length
  · have := step (p.length - k) (by omega)
    rw [show k + (p.length - k) = p.length by omega, List.take_of_length_le (Nat.le_refl _)] at this
    exact ⟨by omega, fun _ => by omega⟩
  · rw [List.take_of_length_le (by omega)]
    exact ⟨Int.le_refl _, fun h2 => by omega⟩
/-- As the program asks it. -/
theorem ab_impl {p q : List Int} (Gp : Good p) (Gq : Good q) (hs : p.sum = q.sum) : abB p q = (decide (p.length ≤ q.length) && abTo p q p.length) := by
  unfold abB
  rw [decide_eq_true hs, Bool.and_true]
  cases hb : (decide (p.length ≤ q.length) && abTo p q p.length)
  · cases ha : abTo p q (max p.length q.length)
    · rfl
    · exfalso
      have h1 := abTo_le ha (show p.length ≤ max p.length q.length by omega)
      rw [h1, Bool.and_true, decide_eq_false_iff_not] at hb
      have h2 := abTo_at ha (show q.length ≤ max p.length q.length by omega)
      rw [List.take_of_length_le (l := q) (Nat.le_refl _)] at h2
      exact hb (by
        apply Classical.byContradiction
        intro hlt
        have := (take_le_sum Gp.pos q.length).2 (by omega)
        omega)
  · simp only [Bool.and_eq_true, decide_eq_true_eq] at hb
    refine abTo_of fun k hk => ?_
    by_cases h : k ≤ p.length
    · exact abTo_at hb.2 h
    · rw [List.take_of_length_le (l := p) (by omega), hs]
      exact (take_le_sum Gq.pos k).1
theorem ab_sum {p q : List Int} (hs : ¬ p.sum = q.sum) : abB p q = false := by unfold abB; rw [decide_eq_false hs, Bool.and_false]
def aaB (p q : List Int) : Bool := good p && (good q && abB p q)
end Go.Proofs.Ytdoahfjccpniaaa
/-
  Words of arrows: a regular partition with cells has an arrow down, and it stays regular. No program in this text.
-/
namespace Go.Proofs.Ytdoahfjccpniaaa

theorem red_app_mem {M K : List (Nat × Nat)} {m : Nat × Nat} (h : m ∈ red (M ++ K)) : m ∈ red M ∨ m ∈ K := by
  induction K using snoc_ind generalizing m with
  | h0 => rw [List.append_nil] at h; exact .inl h
  | h1 l a ih =>
    rw [← List.append_assoc, red_snoc] at h
    unfold redS at h
    split at h
    · rcases ih (List.mem_of_mem_take h) with e | e
      · exact .inl e
      · exact .inr (List.mem_append_left _ e)
    · rcases List.mem_append.1 h with h | h
      · rcases ih h with e | e
        · exact .inl e
        · exact .inr (List.mem_append_left _ e)
      · exact .inr (List.mem_append_right _ h)
theorem snoc_or {α : Type} (l : List α) : l = [] ∨ ∃ k a, l = k ++ [a] := by
  induction l using snoc_ind with
  | h0 => exact .inl rfl
  | h1 k a _ => exact .inr ⟨k, a, rfl⟩
/-- What ends with an R stays in front. -/
theorem red_keep {M st : List (Nat × Nat)} {m : Nat × Nat} (hM : red M = st ++ [m]) (hm : m.1 = 82) (K : List (Nat × Nat)) : ∃ K', red (M ++ K) = st ++ [m] ++ K' ∧ ∀ x ∈ K', x ∈ K := by
  induction K using snoc_ind with
  | h0 => exact ⟨[], by rw [List.append_nil, hM, List.append_nil], fun x hx => absurd hx (by simp)⟩
  | h1 l a ih =>
    obtain ⟨K', h1, h2⟩ := ih
    rw [← List.append_assoc, red_snoc, h1]
    unfold redS
    split
    · rename_i hh
      rcases snoc_or K' with hk | ⟨K2, b, hk⟩
      · subst hk
        exfalso
        have e := hh.2.2
        simp only [List.append_nil, List.length_append, List.length_singleton, Nat.add_sub_cancel] at e
        simp [List.getD] at e
        omega
      · subst hk
        refine ⟨K2, ?_, fun x hx => List.mem_append_left _ (h2 x (List.mem_append_left _ hx))⟩
        have hl : (st ++ [m] ++ (K2 ++ [b])).length - 1 = (st ++ [m] ++ K2).length := by simp
        rw [hl, ← List.append_assoc, List.take_left']
        rfl
    · exact ⟨K' ++ [a], by simp, fun x hx => by
        rcases List.mem_append.1 hx with h | h
        · exact List.mem_append_left _ (h2 x h)
        · exact List.mem_append_right _ h⟩
theorem sgM_split (xs : List Int) (t : Nat) (i : Int) (a : Nat) : ∀ d, ∃ K, sgM xs t i (a + d) = sgM xs t i a ++ K ∧ ∀ m ∈ K, a ≤ m.2
  | 0 => ⟨[], by simp, fun m hm => absurd hm (by simp)⟩
  | d + 1 => by
    obtain ⟨K, h1, h2⟩ := sgM_split xs t i a d
    rw [show a + (d + 1) = a + d + 1 by omega]
    by_cases h : sgB xs t i (a + d) = 0
    · exact ⟨K, by rw [sgM_no h, h1], h2⟩
    · refine ⟨K ++ [(sgB xs t i (a + d), a + d)], by rw [sgM_yes h, h1, List.append_assoc], fun m hm => ?_⟩
      rcases List.mem_append.1 hm with h | h
      · exact h2 m h
      · simp at h; subst h; simp
theorem sgM_none {xs : List Int} {t : Nat} {i : Int} {a : Nat} : ∀ {d : Nat}, (∀ j, a ≤ j → j < a + d → sgB xs t i j = 0) → sgM xs t i (a + d) = sgM xs t i a
  | 0, _ => rfl
  | d + 1, h => by
    rw [show a + (d + 1) = a + d + 1 by omega, sgM_no (h (a + d) (by omega) (by omega))]
    exact sgM_none fun j h1 h2 => h j h1 (by omega)
theorem mod_ne {a b : Int} {t : Nat} (h : a % (t : Int) = b % (t : Int)) : (t : Int) ∣ a - b := by
  have e1 := Int.mul_ediv_add_emod a t
  have e2 := Int.mul_ediv_add_emod b t
  refine ⟨a / t - b / t, ?_⟩
  rw [Int.mul_sub]; omega
theorem mod_sub {a b : Int} {t : Nat} (h : a - b = t) : a % (t : Int) = b % (t : Int) := by
  rw [show a = b + t by omega, Int.add_emod_right]
theorem down_all {xs : List Int} (G : Good xs) {i j : Nat} (h : i ≤ j) : xs.getD j 0 ≤ xs.getD i 0 := by
  by_cases hj : j < xs.length
  · have := down_le xs G.down i (j - i) (by omega)
    rwa [show i + (j - i) = j by omega] at this
  · rw [getD_beyond (show xs.length ≤ j by omega)]; exact (G.part i).1
/-- The last row that is as long as the first. -/
theorem top_end {xs : List Int} (G : Good xs) (h0 : 0 < xs.length) : ∃ r, r < xs.length ∧ xs.getD r 0 = xs.getD 0 0 ∧ xs.getD (r + 1) 0 < xs.getD r 0 := by
  have step : ∀ d r, r + d = xs.length → 0 < d → xs.getD r 0 = xs.getD 0 0 → ∃ r, r < xs.length ∧ xs.getD r 0 = xs.getD 0 0 ∧ xs.getD (r + 1) 0 < xs.getD r 0 := by
    intro d
    induction d with
    | zero => intro r _ h; omega
    | succ d ih =>
      intro r hr _ he
      by_cases h : xs.getD (r + 1) 0 < xs.getD r 0
      · exact ⟨r, by omega, he, h⟩
      · by_cases hd : d = 0
        · exfalso
          have := G.pos r (by omega)
          rw [getD_beyond (show xs.length ≤ r + 1 by omega)] at h
          omega
        · have := down_all G (show r ≤ r + 1 by omega)
          exact ih (r + 1) (by omega) (by omega) (by omega)
  exact step xs.length 0 (by omega) h0 rfl
theorem fl_pos {L : List (Nat × Nat)} {l r : Nat} (h : (l, r) ∈ L) : r ∈ fl L l := by
  simp only [fl, List.mem_map, List.mem_filter, beq_iff_eq]
  exact ⟨(l, r), ⟨h, rfl⟩, rfl⟩
theorem dnR_some {L : List (Nat × Nat)} {r : Nat} (h : (82, r) ∈ L) : (dnRr L).isSome = true := by
  unfold dnRr
  cases hl : (fl L 82).getLast? with
  | some _ => rfl
  | none =>
    have := List.getLast?_eq_none_iff.1 hl
    have h2 := fl_pos h
    rw [this] at h2
    cases h2
/-- A regular partition with cells has an arrow down. -/
theorem has_down {xs : List Int} (G : Good xs) (h0 : 0 < xs.length) {t : Nat} (ht : 2 ≤ t) (hr : regB xs t = true) : ∃ i, i < t ∧ adB xs t i = true := by
  obtain ⟨r, hrl, he, hd⟩ := top_end G h0
  have heq : ∀ j, j ≤ r → xs.getD j 0 = xs.getD 0 0 := fun j hj => by
    have h1 := down_all G (Nat.zero_le j)
    have h2 := down_all G hj
    omega
  have hrt : r + 1 < t := by
    apply Classical.byContradiction
    intro hh
    have hne := regB_ne hr (k := 0) (by omega)
    rw [Nat.zero_add, heq (t - 1) (by omega)] at hne
    exact hne rfl
  have hm0 := Int.emod_nonneg (xs.getD r 0 - 1 - r) (show (t : Int) ≠ 0 by omega)
  have hm1 := Int.emod_lt_of_pos (xs.getD r 0 - 1 - r) (show (0 : Int) < t by omega)
  obtain ⟨i, hi⟩ : ∃ i : Nat, (xs.getD r 0 - 1 - r) % (t : Int) = i := ⟨((xs.getD r 0 - 1 - r) % (t : Int)).toNat, by omega⟩
  refine ⟨i, by omega, ?_⟩
  have hz : ∀ j, j < r + 1 → (j = 0 ∨ xs.getD j 0 < xs.getD (j - 1) 0) → (xs.getD j 0 - j) % (t : Int) ≠ i := by
    intro j hj hh e
    have hj0 : j = 0 := by
      rcases hh with h | h
      · exact h
      · rw [heq j (by omega), heq (j - 1) (by omega)] at h; omega
    subst hj0
    have hdv := mod_ne (e.trans hi.symm)
    have hle := Int.le_of_dvd (show 0 < xs.getD 0 0 - ((0 : Nat) : Int) - (xs.getD r 0 - 1 - r) by omega) hdv
    omega
  have hsr : sgB xs t i r = 82 := by
    rw [sgB_eq G, if_neg (fun h => hz r (by omega) h.1 h.2), if_pos ⟨hd, hi⟩]
  have hs0 : ∀ j, j < r → sgB xs t i j = 0 := by
    intro j hj
    rw [sgB_eq G, if_neg (fun h => hz j (by omega) h.1 h.2), if_neg (fun h => by rw [heq (j + 1) (by omega), heq j (by omega)] at h; omega)]
  have hM0 : sgM xs t i r = [] := by
    have := sgM_none (xs := xs) (t := t) (i := (i : Int)) (a := 0) (d := r) (fun j _ h => hs0 j (by omega))
    rw [Nat.zero_add] at this
    exact this
  have hM1 : sgM xs t i (r + 1) = [(82, r)] := by rw [sgM_yes (by omega), hM0, hsr]; rfl
  obtain ⟨K, hK, _⟩ := sgM_split xs t i (r + 1) (xs.length - r)
  rw [show r + 1 + (xs.length - r) = xs.length + 1 by omega] at hK
  obtain ⟨K', hK', _⟩ := red_keep (M := [(82, r)]) (st := []) (m := (82, r)) rfl rfl K
  have : red (sig xs t i) = [] ++ [(82, r)] ++ K' := by rw [← hK', ← hM1, ← hK]; rfl
  unfold adB
  rw [this]
  exact dnR_some (r := r) (by simp)
theorem fl_cons82 (r : Nat) (K : List (Nat × Nat)) : fl ((82, r) :: K) 82 = r :: fl K 82 := by simp [fl]
/-- An arrow down leaves a regular partition regular. -/
theorem down_reg {xs : List Int} (G : Good xs) {t : Nat} {i : Int} (ht : 2 ≤ t) (hr : regB xs t = true) {r : Nat} (h : dnRr (red (sig xs t i)) = some r) : regB (decL xs r) t = true := by
  obtain ⟨hrl, hcor, hsr⟩ := dn_ok G h
  have hres := (sg82 G hsr).2
  have hget := dec_get G hrl hcor
  have GD := dec_good G hrl hcor
  refine regB_of fun k hk heq => ?_
  have hne := regB_ne hr (k := k) (by have := dec_len xs r; omega)
  rw [hget, hget] at heq
  have hkd := down_all G (show k ≤ k + (t - 1) by omega)
  have hkr : k = r := by
    apply Classical.byContradiction
    intro hh
    rw [if_neg hh] at heq
    split at heq <;> omega
  subst hkr
  rw [if_pos rfl, if_neg (by omega)] at heq
  obtain ⟨q, hq⟩ : ∃ q, q = k + (t - 1) := ⟨_, rfl⟩
  rw [← hq] at heq hne
  have hv : 1 ≤ xs.getD q 0 := by
    have := GD.pos q (by omega)
    rw [hget, if_neg (by omega)] at this
    omega
  have hqx : q < xs.length := by have := dec_len xs k; omega
  have hmid : ∀ j, k < j → j ≤ q → xs.getD j 0 = xs.getD q 0 := fun j h1 h2 => by
    have a := down_all G h2
    have b := down_all G (show k + 1 ≤ j by omega)
    omega
  have hqc : xs.getD (q + 1) 0 < xs.getD q 0 := by
    by_cases hl : q + 1 < xs.length
    · have hn := regB_ne hr (k := k + 1) (by omega)
      rw [show k + 1 + (t - 1) = q + 1 by omega, hmid (k + 1) (by omega) (by omega)] at hn
      have := down_all G (show q ≤ q + 1 by omega)
      omega
    · rw [getD_beyond (by omega)]; omega
  have hqres : (xs.getD q 0 - 1 - q) % (t : Int) = i := by
    rw [← hres]
    exact (mod_sub (by omega)).symm
  have hk1 : ∀ j, k < j → j ≤ q → ¬ ((j = 0 ∨ xs.getD j 0 < xs.getD (j - 1) 0) ∧ (xs.getD j 0 - j) % (t : Int) = i) := by
    intro j h1 h2 hh
    have hj : j = k + 1 := by
      apply Classical.byContradiction
      intro hne
      rcases hh.1 with e | e
      · omega
      · rw [hmid j h1 h2, hmid (j - 1) (by omega) (by omega)] at e; omega
    have e1 := hh.2
    rw [hmid j h1 h2, hj] at e1
    have hdv := mod_ne (hres.trans e1.symm)
    have hle := Int.le_of_dvd (by omega) hdv
    omega
  have hsq : sgB xs t i q = 82 := by rw [sgB_eq G, if_neg (hk1 q (by omega) (Nat.le_refl _)), if_pos ⟨hqc, hqres⟩]
  have hs0 : ∀ j, k + 1 ≤ j → j < k + 1 + (q - k - 1) → sgB xs t i j = 0 := by
    intro j h1 h2
    rw [sgB_eq G, if_neg (hk1 j (by omega) (by omega)), if_neg (fun hh => by
      have := hh.1
      rw [hmid (j + 1) (by omega) (by omega), hmid j (by omega) (by omega)] at this
      omega)]
  have hM2 := sgM_none hs0
  rw [show k + 1 + (q - k - 1) = q by omega] at hM2
  have hM3 : sgM xs t i (q + 1) = sgM xs t i (k + 1) ++ [(82, q)] := by rw [sgM_yes (by omega), hM2, hsq]
  have hM1 : sgM xs t i (k + 1) = sgM xs t i k ++ [(82, k)] := by rw [sgM_yes (by omega), hsr]
  obtain ⟨K, hK, hK2⟩ := sgM_split xs t i (q + 1) (xs.length - q)
  rw [show q + 1 + (xs.length - q) = xs.length + 1 by omega] at hK
  have hin := dnR_mem h
  have hr1 : red (sgM xs t i (k + 1)) = redS (red (sgM xs t i k)) (82, k) := by rw [hM1, red_snoc]
  unfold redS at hr1
  split at hr1
  · have hin2 : (82, k) ∈ red (sgM xs t i (k + 1) ++ ([(82, q)] ++ K)) := by
      rw [← List.append_assoc, ← hM3, ← hK]; exact hin
    rcases red_app_mem hin2 with e | e
    · rw [hr1] at e
      have := sgM_mem (red_mem _ _ (List.mem_of_mem_take e))
      omega
    · rcases List.mem_append.1 e with e | e
      · simp at e; omega
      · have := hK2 _ e; simp at this; omega
  · have hr2 : red (sgM xs t i (q + 1)) = red (sgM xs t i k) ++ [(82, k)] ++ [(82, q)] := by
      rw [hM3, red_snoc, hr1]
      unfold redS
      rw [if_neg (fun hh => by
        have e := hh.2.2
        simp only [List.length_append, List.length_singleton, Nat.add_sub_cancel] at e
        simp [List.getD] at e)]
    obtain ⟨K', h1, h2⟩ := red_keep hr2 rfl K
    rw [← hK] at h1
    have h3 : dnRr (red (sig xs t i)) = (q :: fl K' 82).getLast? := by
      unfold dnRr
      rw [show sig xs t i = sgM xs t i (xs.length + 1) from rfl, h1]
      rw [List.append_assoc, List.singleton_append, fl_app, fl_cons82, List.getLast?_append]
      simp [List.getLast?_cons]
    rw [h3] at h
    have hl := List.mem_of_getLast? h
    rcases List.mem_cons.1 hl with e | e
    · omega
    · have := hK2 _ (h2 _ (fl_mem e)); simp at this; omega

/-! The word of a regular partition. -/
def firstD (xs : List Int) (t : Nat) : Nat := ((List.range t).find? fun i : Nat => adB xs t i).getD 0
theorem firstD_eq {xs : List Int} {t k : Nat} (hk : k < t) (hb : ∀ j, j < k → adB xs t (j : Nat) = false) (h : adB xs t (k : Nat) = true) : firstD xs t = k := by
  unfold firstD
  have : (List.range t).find? (fun i : Nat => adB xs t i) = some k := by
    rw [List.find?_eq_some_iff_getElem]
    refine ⟨h, k, by rw [List.length_range]; exact hk, by simp, fun j hj => ?_⟩
    rw [List.getElem_range]; rw [hb j hj]; rfl
  rw [this]; rfl
theorem firstD_lt {xs : List Int} {t : Nat} (h : ∃ i, i < t ∧ adB xs t (i : Nat) = true) : firstD xs t < t ∧ adB xs t (firstD xs t : Nat) = true := by
  obtain ⟨i, hi, ha⟩ := h
  unfold firstD
  cases hf : (List.range t).find? (fun i : Nat => adB xs t i) with
  | none => exact absurd ha (by have := List.find?_eq_none.1 hf i (List.mem_range.2 hi); simpa using this)
  | some k => exact ⟨List.mem_range.1 (List.mem_of_find?_eq_some hf), by have := List.find?_some hf; exact this⟩
def nextD (t : Nat) (xs : List Int) : List Int := adL xs t (firstD xs t)
def dwn (t : Nat) (xs : List Int) : Nat → List Int
  | 0 => xs
  | k + 1 => nextD t (dwn t xs k)
def aw (t : Nat) (xs : List Int) (k : Nat) : List Int := (List.range k).map fun j => ((firstD (dwn t xs j) t : Nat) : Int)
theorem aw_len (t : Nat) (xs : List Int) (k : Nat) : (aw t xs k).length = k := by simp [aw]
theorem aw_succ (t : Nat) (xs : List Int) (k : Nat) : aw t xs (k + 1) = aw t xs k ++ [((firstD (dwn t xs k) t : Nat) : Int)] := by simp [aw, List.range_succ]
theorem next_ok {xs : List Int} (G : Good xs) (h0 : 0 < xs.length) {t : Nat} (ht : 2 ≤ t) (hr : regB xs t = true) : Good (nextD t xs) ∧ regB (nextD t xs) t = true ∧ (nextD t xs).sum = xs.sum - 1 := by
  obtain ⟨_, ha⟩ := firstD_lt (has_down G h0 ht hr)
  unfold nextD
  cases hd : dnRr (red (sig xs t (firstD xs t : Nat))) with
  | none => unfold adB at ha; rw [hd] at ha; cases ha
  | some r =>
    obtain ⟨k1, k2, _⟩ := dn_ok G hd
    rw [(ad_some hd).1]
    exact ⟨dec_good G k1 k2, down_reg G ht hr hd, dec_sum G k1 k2⟩
theorem sum_pos {xs : List Int} (_ : Good xs) (h : 0 < xs.sum) : 0 < xs.length := by
  rcases Nat.eq_zero_or_pos xs.length with e | e
  · rw [List.eq_nil_of_length_eq_zero e] at h; simp at h
  · exact e
theorem sum_zero {xs : List Int} (G : Good xs) (h : xs.sum = 0) : xs.length = 0 := by
  have := len_sum xs G.pos
  omega
theorem dwn_ok {xs : List Int} (G : Good xs) {t : Nat} (ht : 2 ≤ t) (hr : regB xs t = true) : ∀ k : Nat, (k : Int) ≤ xs.sum → Good (dwn t xs k) ∧ regB (dwn t xs k) t = true ∧ (dwn t xs k).sum = xs.sum - k
  | 0, _ => ⟨G, hr, by simp [dwn]⟩
  | k + 1, hk => by
    obtain ⟨g, r, s⟩ := dwn_ok G ht hr k (by omega)
    obtain ⟨a, b, c⟩ := next_ok g (sum_pos g (by omega)) ht r
    exact ⟨a, b, by show (nextD t (dwn t xs k)).sum = _; rw [c, s]; omega⟩
def awL (t : Nat) (xs : List Int) : List Int := aw t xs xs.sum.toNat
def awF (xs : List Int) (t : Int) : List Int := if rgB xs t then awL t.toNat xs else []
theorem rgB_t {xs : List Int} {t : Int} (h : rgB xs t = true) : good xs = true ∧ Good xs ∧ (2 ≤ t ∧ t ≤ 6) ∧ regB xs t.toNat = true ∧ giB xs t = true := by
  simp only [rgB, Bool.and_eq_true] at h
  have h2 := giB_t h.1
  exact ⟨h2.1, (good_iff xs).1 h2.1, inB_iff.1 h2.2, h.2, h.1⟩
theorem awL_len (t : Nat) {xs : List Int} (G : Good xs) : (awL t xs).length ≤ 30 := by
  unfold awL; rw [aw_len]; have := G.sum; omega
theorem bound_ArrowWord (xs : List Int) (t : Int) : (awF xs t).length ≤ 1048576 := by
  unfold awF; split
  · rename_i h
    have := awL_len t.toNat (rgB_t h).2.1; omega
  · simp
theorem awL_mem {t : Nat} {xs : List Int} (G : Good xs) (ht : 2 ≤ t) (hr : regB xs t = true) : ∀ x ∈ awL t xs, 0 ≤ x ∧ x < t := by
  intro x hx
  simp only [awL, aw, List.mem_map, List.mem_range] at hx
  obtain ⟨j, hj, rfl⟩ := hx
  have := G.sum0
  obtain ⟨g, r, s⟩ := dwn_ok G ht hr j (by omega)
  have := (firstD_lt (has_down g (sum_pos g (by omega)) ht r)).1
  omega
end Go.Proofs.Ytdoahfjccpniaaa
