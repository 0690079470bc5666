/-
  Several texts in one.
-/
import Derived.Test.YtkbdlhmkiolegaaR01
import Derived.Test.YtkbdlhmkiolegaaR11
import Derived.Test.YtkbdlhmkiolegaaCW
/-
  Words of arrows: a regular partition with cells has an arrow down, and it stays regular. No program in this text.
-/
namespace Go.Proofs.Ytkbdlhmkiolegaa

theorem red_app_mem {M K : List (Nat × Nat)} {m : Nat × Nat} (h : m ∈ red (M ++ K)) : m ∈ red M ∨ m ∈ K := by
  induction K using snoc_ind generalizing m with
  | h0 => rw [List.append_nil] at h; exact .inl h
  | h1 l a ih =>
    rw [← List.append_assoc, red_snoc] at h
    unfold redS at h
    split at h
    · rcases ih (List.mem_of_mem_take h) with e | e
      · exact .inl e
      · exact .inr (List.mem_append_left _ e)
    · rcases List.mem_append.1 h with h | h
      · rcases ih h with e | e
        · exact .inl e
        · exact .inr (List.mem_append_left _ e)
      · exact .inr (List.mem_append_right _ h)
theorem snoc_or {α : Type} (l : List α) : l = [] ∨ ∃ k a, l = k ++ [a] := by
  induction l using snoc_ind with
  | h0 => exact .inl rfl
  | h1 k a _ => exact .inr ⟨k, a, rfl⟩
/-- What ends with an R stays in front. -/
theorem red_keep {M st : List (Nat × Nat)} {m : Nat × Nat} (hM : red M = st ++ [m]) (hm : m.1 = 82) (K : List (Nat × Nat)) : ∃ K', red (M ++ K) = st ++ [m] ++ K' ∧ ∀ x ∈ K', x ∈ K := by
  induction K using snoc_ind with
  | h0 => exact ⟨[], by rw [List.append_nil, hM, List.append_nil], fun x hx => absurd hx (by simp)⟩
  | h1 l a ih =>
    obtain ⟨K', h1, h2⟩ := ih
    rw [← List.append_assoc, red_snoc, h1]
    unfold redS
    split
    · rename_i hh
      rcases snoc_or K' with hk | ⟨K2, b, hk⟩
      · subst hk
        exfalso
        have e := hh.2.2
        simp only [List.append_nil, List.length_append, List.length_singleton, Nat.add_sub_cancel] at e
        simp [List.getD] at e
        omega
      · subst hk
        refine ⟨K2, ?_, fun x hx => List.mem_append_left _ (h2 x (List.mem_append_left _ hx))⟩
        have hl : (st ++ [m] ++ (K2 ++ [b])).length - 1 = (st ++ [m] ++ K2).length := by simp
        rw [hl, ← List.append_assoc, List.take_left']
        rfl
    · exact ⟨K' ++ [a], by simp, fun x hx => by
        rcases List.mem_append.1 hx with h | h
        · exact List.mem_append_left _ (h2 x h)
        · exact List.mem_append_right _ h⟩
theorem sgM_split (xs : List Int) (t : Nat) (i : Int) (a : Nat) : ∀ d, ∃ K, sgM xs t i (a + d) = sgM xs t i a ++ K ∧ ∀ m ∈ K, a ≤ m.2
  | 0 => ⟨[], by simp, fun m hm => absurd hm (by simp)⟩
  | d + 1 => by
    obtain ⟨K, h1, h2⟩ := sgM_split xs t i a d
    rw [show a + (d + 1) = a + d + 1 by omega]
    by_cases h : sgB xs t i (a + d) = 0
    · exact ⟨K, by rw [sgM_no h, h1], h2⟩
    · refine ⟨K ++ [(sgB xs t i (a + d), a + d)], by rw [sgM_yes h, h1, List.append_assoc], fun m hm => ?_⟩
      rcases List.mem_append.1 hm with h | h
      · exact h2 m h
      · simp at h; subst h; simp
theorem sgM_none {xs : List Int} {t : Nat} {i : Int} {a : Nat} : ∀ {d : Nat}, (∀ j, a ≤ j → j < a + d → sgB xs t i j = 0) → sgM xs t i (a + d) = sgM xs t i a
  | 0, _ => rfl
  | d + 1, h => by
    rw [show a + (d + 1) = a + d + 1 by omega, sgM_no (h (a + d) (by omega) (by omega))]
    exact sgM_none fun j h1 h2 => h j h1 (by omega)
theorem mod_ne {a b : Int} {t : Nat} (h : a % (t : Int) = b % (t : Int)) : (t : Int) ∣ a - b := by
  have e1 := Int.mul_ediv_add_emod a t
  have e2 := Int.mul_ediv_add_emod b t
  refine ⟨a / t - b / t, ?_⟩
  rw [Int.mul_sub]; omega
theorem mod_sub {a b : Int} {t : Nat} (h : a - b = t) : a % (t : Int) = b % (t : Int) := by
  rw [show a = b + t by omega, Int.add_emod_right]
theorem down_all {xs : List Int} (G : Good xs) {i j : Nat} (h : i ≤ j) : xs.getD j 0 ≤ xs.getD i 0 := by
  by_cases hj : j < xs.length
  · have := down_le xs G.down i (j - i) (by omega)
    rwa [show i + (j - i) = j by omega] at this
  · rw [getD_beyond (show xs.length ≤ j by omega)]; exact (G.part i).1
/-- The last row that is as long as the first. -/
theorem top_end {xs : List Int} (G : Good xs) (h0 : 0 < xs.length) : ∃ r, r < xs.length ∧ xs.getD r 0 = xs.getD 0 0 ∧ xs.getD (r + 1) 0 < xs.getD r 0 := by
  have step : ∀ d r, r + d = xs.length → 0 < d → xs.getD r 0 = xs.getD 0 0 → ∃ r, r < xs.length ∧ xs.getD r 0 = xs.getD 0 0 ∧ xs.getD (r + 1) 0 < xs.getD r 0 := by
    intro d
    induction d with
    | zero => intro r _ h; omega
    | succ d ih =>
      intro r hr _ he
      by_cases h : xs.getD (r + 1) 0 < xs.getD r 0
      · exact ⟨r, by omega, he, h⟩
      · by_cases hd : d = 0
        · exfalso
          have := G.pos r (by omega)
          rw [getD_beyond (show xs.length ≤ r + 1 by omega)] at h
          omega
        · have := down_all G (show r ≤ r + 1 by omega)
          exact ih (r + 1) (by omega) (by omega) (by omega)
  exact step xs.length 0 (by omega) h0 rfl
theorem fl_pos {L : List (Nat × Nat)} {l r : Nat} (h : (l, r) ∈ L) : r ∈ fl L l := by
  simp only [fl, List.mem_map, List.mem_filter, beq_iff_eq]
  exact ⟨(l, r), ⟨h, rfl⟩, rfl⟩
theorem dnR_some {L : List (Nat × Nat)} {r : Nat} (h : (82, r) ∈ L) : (dnRr L).isSome = true := by
  unfold dnRr
  cases hl : (fl L 82).getLast? with
  | some _ => rfl
  | none =>
    have := List.getLast?_eq_none_iff.1 hl
    have h2 := fl_pos h
    rw [this] at h2
    cases h2
/-- A regular partition with cells has an arrow down. -/
theorem has_down {xs : List Int} (G : Good xs) (h0 : 0 < xs.length) {t : Nat} (ht : 2 ≤ t) (hr : regB xs t = true) : ∃ i, i < t ∧ adB xs t i = true := by
  obtain ⟨r, hrl, he, hd⟩ := top_end G h0
  have heq : ∀ j, j ≤ r → xs.getD j 0 = xs.getD 0 0 := fun j hj => by
    have h1 := down_all G (Nat.zero_le j)
    have h2 := down_all G hj
    omega
  have hrt : r + 1 < t := by
    apply Classical.byContradiction
    intro hh
    have hne := regB_ne hr (k := 0) (by omega)
    rw [Nat.zero_add, heq (t - 1) (by omega)] at hne
    exact hne rfl
  have hm0 := Int.emod_nonneg (xs.getD r 0 - 1 - r) (show (t : Int) ≠ 0 by omega)
  have hm1 := Int.emod_lt_of_pos (xs.getD r 0 - 1 - r) (show (0 : Int) < t by omega)
  obtain ⟨i, hi⟩ : ∃ i : Nat, (xs.getD r 0 - 1 - r) % (t : Int) = i := ⟨((xs.getD r 0 - 1 - r) % (t : Int)).toNat, by omega⟩
  refine ⟨i, by omega, ?_⟩
  have hz : ∀ j, j < r + 1 → (j = 0 ∨ xs.getD j 0 < xs.getD (j - 1) 0) → (xs.getD j 0 - j) % (t : Int) ≠ i := by
    intro j hj hh e
    have hj0 : j = 0 := by
      rcases hh with h | h
      · exact h
      · rw [heq j (by omega), heq (j - 1) (by omega)] at h; omega
    subst hj0
    have hdv := mod_ne (e.trans hi.symm)
    have hle := Int.le_of_dvd (show 0 < xs.getD 0 0 - ((0 : Nat) : Int) - (xs.getD r 0 - 1 - r) by omega) hdv
    omega
  have hsr : sgB xs t i r = 82 := by
    rw [sgB_eq G, if_neg (fun h => hz r (by omega) h.1 h.2), if_pos ⟨hd, hi⟩]
  have hs0 : ∀ j, j < r → sgB xs t i j = 0 := by
    intro j hj
    rw [sgB_eq G, if_neg (fun h => hz j (by omega) h.1 h.2), if_neg (fun h => by rw [heq (j + 1) (by omega), heq j (by omega)] at h; omega)]
  have hM0 : sgM xs t i r = [] := by
    have := sgM_none (xs := xs) (t := t) (i := (i : Int)) (a := 0) (d := r) (fun j _ h => hs0 j (by omega))
    rw [Nat.zero_add] at this
    exact this
  have hM1 : sgM xs t i (r + 1) = [(82, r)] := by rw [sgM_yes (by omega), hM0, hsr]; rfl
  obtain ⟨K, hK, _⟩ := sgM_split xs t i (r + 1) (xs.length - r)
  rw [show r + 1 + (xs.length - r) = xs.length + 1 by omega] at hK
  obtain ⟨K', hK', _⟩ := red_keep (M := [(82, r)]) (st := []) (m := (82, r)) rfl rfl K
  have : red (sig xs t i) = [] ++ [(82, r)] ++ K' := by rw [← hK', ← hM1, ← hK]; rfl
  unfold adB
  rw [this]
  exact dnR_some (r := r) (by simp)
theorem fl_cons82 (r : Nat) (K : List (Nat × Nat)) : fl ((82, r) :: K) 82 = r :: fl K 82 := by simp [fl]
/-- An arrow down leaves a regular partition regular. -/
theorem down_reg {xs : List Int} (G : Good xs) {t : Nat} {i : Int} (ht : 2 ≤ t) (hr : regB xs t = true) {r : Nat} (h : dnRr (red (sig xs t i)) = some r) : regB (decL xs r) t = true := by
  obtain ⟨hrl, hcor, hsr⟩ := dn_ok G h
  have hres := (sg82 G hsr).2
  have hget := dec_get G hrl hcor
  have GD := dec_good G hrl hcor
  refine regB_of fun k hk heq => ?_
  have hne := regB_ne hr (k := k) (by have := dec_len xs r; omega)
  rw [hget, hget] at heq
  have hkd := down_all G (show k ≤ k + (t - 1) by omega)
  have hkr : k = r := by
    apply Classical.byContradiction
    intro hh
    rw [if_neg hh] at heq
    split at heq <;> omega
  subst hkr
  rw [if_pos rfl, if_neg (by omega)] at heq
  obtain ⟨q, hq⟩ : ∃ q, q = k + (t - 1) := ⟨_, rfl⟩
  rw [← hq] at heq hne
  have hv : 1 ≤ xs.getD q 0 := by
    have := GD.pos q (by omega)
    rw [hget, if_neg (by omega)] at this
    omega
  have hqx : q < xs.length := by have := dec_len xs k; omega
  have hmid : ∀ j, k < j → j ≤ q → xs.getD j 0 = xs.getD q 0 := fun j h1 h2 => by
    have a := down_all G h2
    have b := down_all G (show k + 1 ≤ j by omega)
    omega
  have hqc : xs.getD (q + 1) 0 < xs.getD q 0 := by
    by_cases hl : q + 1 < xs.length
    · have hn := regB_ne hr (k := k + 1) (by omega)
      rw [show k + 1 + (t - 1) = q + 1 by omega, hmid (k + 1) (by omega) (by omega)] at hn
      have := down_all G (show q ≤ q + 1 by omega)
      omega
    · rw [getD_beyond (by omega)]; omega
  have hqres : (xs.getD q 0 - 1 - q) % (t : Int) = i := by
    rw [← hres]
    exact (mod_sub (by omega)).symm
  have hk1 : ∀ j, k < j → j ≤ q → ¬ ((j = 0 ∨ xs.getD j 0 < xs.getD (j - 1) 0) ∧ (xs.getD j 0 - j) % (t : Int) = i) := by
    intro j h1 h2 hh
    have hj : j = k + 1 := by
      apply Classical.byContradiction
      intro hne
      rcases hh.1 with e | e
      · omega
      · rw [hmid j h1 h2, hmid (j - 1) (by omega) (by omega)] at e; omega
    have e1 := hh.2
    rw [hmid j h1 h2, hj] at e1
    have hdv := mod_ne (hres.trans e1.symm)
    have hle := Int.le_of_dvd (by omega) hdv
    omega
  have hsq : sgB xs t i q = 82 := by rw [sgB_eq G, if_neg (hk1 q (by omega) (Nat.le_refl _)), if_pos ⟨hqc, hqres⟩]
  have hs0 : ∀ j, k + 1 ≤ j → j < k + 1 + (q - k - 1) → sgB xs t i j = 0 := by
    intro j h1 h2
    rw [sgB_eq G, if_neg (hk1 j (by omega) (by omega)), if_neg (fun hh => by
      have := hh.1
      rw [hmid (j + 1) (by omega) (by omega), hmid j (by omega) (by omega)] at this
      omega)]
  have hM2 := sgM_none hs0
  rw [show k + 1 + (q - k - 1) = q by omega] at hM2
  have hM3 : sgM xs t i (q + 1) = sgM xs t i (k + 1) ++ [(82, q)] := by rw [sgM_yes (by omega), hM2, hsq]
  have hM1 : sgM xs t i (k + 1) = sgM xs t i k ++ [(82, k)] := by rw [sgM_yes (by omega), hsr]
  obtain ⟨K, hK, hK2⟩ := sgM_split xs t i (q + 1) (xs.length - q)
  rw [show q + 1 + (xs.length - q) = xs.length + 1 by omega] at hK
  have hin := dnR_mem h
  have hr1 : red (sgM xs t i (k + 1)) = redS (red (sgM xs t i k)) (82, k) := by rw [hM1, red_snoc]
  unfold redS at hr1
  split at hr1
  · have hin2 : (82, k) ∈ red (sgM xs t i (k + 1) ++ ([(82, q)] ++ K)) := by
      rw [← List.append_assoc, ← hM3, ← hK]; exact hin
    rcases red_app_mem hin2 with e | e
    · rw [hr1] at e
      have := sgM_mem (red_mem _ _ (List.mem_of_mem_take e))
      omega
    · rcases List.mem_append.1 e with e | e
      · simp at e; omega
      · have := hK2 _ e; simp at this; omega
  · have hr2 : red (sgM xs t i (q + 1)) = red (sgM xs t i k) ++ [(82, k)] ++ [(82, q)] := by
      rw [hM3, red_snoc, hr1]
      unfold redS
      rw [if_neg (fun hh => by
        have e := hh.2.2
        simp only [List.length_append, List.length_singleton, Nat.add_sub_cancel] at e
        simp [List.getD] at e)]
    obtain ⟨K', h1, h2⟩ := red_keep hr2 rfl K
    rw [← hK] at h1
    have h3 : dnRr (red (sig xs t i)) = (q :: fl K' 82).getLast? := by
      unfold dnRr
      rw [show sig xs t i = sgM xs t i (xs.length + 1) from rfl, h1]
      rw [List.append_assoc, List.singleton_append, fl_app, fl_cons82, List.getLast?_append]
      simp [List.getLast?_cons]
    rw [h3] at h
    have hl := List.mem_of_getLast? h
    rcases List.mem_cons.1 hl with e | e
    · omega
    · have := hK2 _ (h2 _ (fl_mem e)); simp at this; omega

/-! The word of a regular partition. -/
def firstD (xs : List Int) (t : Nat) : Nat := ((List.range t).find? fun i : Nat => adB xs t i).getD 0
theorem firstD_eq {xs : List Int} {t k : Nat} (hk : k < t) (hb : ∀ j, j < k → adB xs t (j : Nat) = false) (h : adB xs t (k : Nat) = true) : firstD xs t = k := by
  unfold firstD
  have : (List.range t).find? (fun i : Nat => adB xs t i) = some k := by
    rw [List.find?_eq_some_iff_getElem]
    refine ⟨h, k, by rw [List.length_range]; exact hk, by simp, fun j hj => ?_⟩
    rw [List.getElem_range]; rw [hb j hj]; rfl
  rw [this]; rfl
theorem firstD_lt {xs : List Int} {t : Nat} (h : ∃ i, i < t ∧ adB xs t (i : Nat) = true) : firstD xs t < t ∧ adB xs t (firstD xs t : Nat) = true := by
  obtain ⟨i, hi, ha⟩ := h
  unfold firstD
  cases hf : (List.range t).find? (fun i : Nat => adB xs t i) with
  | none => exact absurd ha (by have := List.find?_eq_none.1 hf i (List.mem_range.2 hi); simpa using this)
  | some k => exact ⟨List.mem_range.1 (List.mem_of_find?_eq_some hf), by have := List.find?_some hf; exact this⟩
def nextD (t : Nat) (xs : List Int) : List Int := adL xs t (firstD xs t)
def dwn (t : Nat) (xs : List Int) : Nat → List Int
  | 0 => xs
  | k + 1 => nextD t (dwn t xs k)
def aw (t : Nat) (xs : List Int) (k : Nat) : List Int := (List.range k).map fun j => ((firstD (dwn t xs j) t : Nat) : Int)
theorem aw_len (t : Nat) (xs : List Int) (k : Nat) : (aw t xs k).length = k := by simp [aw]
theorem aw_succ (t : Nat) (xs : List Int) (k : Nat) : aw t xs (k + 1) = aw t xs k ++ [((firstD (dwn t xs k) t : Nat) : Int)] := by simp [aw, List.range_succ]
theorem next_ok {xs : List Int} (G : Good xs) (h0 : 0 < xs.length) {t : Nat} (ht : 2 ≤ t) (hr : regB xs t = true) : Good (nextD t xs) ∧ regB (nextD t xs) t = true ∧ (nextD t xs).sum = xs.sum - 1 := by
  obtain ⟨_, ha⟩ := firstD_lt (has_down G h0 ht hr)
  unfold nextD
  cases hd : dnRr (red (sig xs t (firstD xs t : Nat))) with
  | none => unfold adB at ha; rw [hd] at ha; cases ha
  | some r =>
    obtain ⟨k1, k2, _⟩ := dn_ok G hd
    rw [(ad_some hd).1]
    exact ⟨dec_good G k1 k2, down_reg G ht hr hd, dec_sum G k1 k2⟩
theorem sum_pos {xs : List Int} (_ : Good xs) (h : 0 < xs.sum) : 0 < xs.length := by
  rcases Nat.eq_zero_or_pos xs.length with e | e
  · rw [List.eq_nil_of_length_eq_zero e] at h; simp at h
  · exact e
theorem sum_zero {xs : List Int} (G : Good xs) (h : xs.sum = 0) : xs.length = 0 := by
  have := len_sum xs G.pos
  omega
theorem dwn_ok {xs : List Int} (G : Good xs) {t : Nat} (ht : 2 ≤ t) (hr : regB xs t = true) : ∀ k : Nat, (k : Int) ≤ xs.sum → Good (dwn t xs k) ∧ regB (dwn t xs k) t = true ∧ (dwn t xs k).sum = xs.sum - k
  | 0, _ => ⟨G, hr, by simp [dwn]⟩
  | k + 1, hk => by
    obtain ⟨g, r, s⟩ := dwn_ok G ht hr k (by omega)
    obtain ⟨a, b, c⟩ := next_ok g (sum_pos g (by omega)) ht r
    exact ⟨a, b, by show (nextD t (dwn t xs k)).sum = _; rw [c, s]; omega⟩
def awL (t : Nat) (xs : List Int) : List Int := aw t xs xs.sum.toNat
def awF (xs : List Int) (t : Int) : List Int := if rgB xs t then awL t.toNat xs else []
theorem rgB_t {xs : List Int} {t : Int} (h : rgB xs t = true) : good xs = true ∧ Good xs ∧ (2 ≤ t ∧ t ≤ 6) ∧ regB xs t.toNat = true ∧ giB xs t = true := by
  simp only [rgB, Bool.and_eq_true] at h
  have h2 := giB_t h.1
  exact ⟨h2.1, (good_iff xs).1 h2.1, inB_iff.1 h2.2, h.2, h.1⟩
theorem awL_len (t : Nat) {xs : List Int} (G : Good xs) : (awL t xs).length ≤ 30 := by
  unfold awL; rw [aw_len]; have := G.sum; omega
theorem bound_ArrowWord (xs : List Int) (t : Int) : (awF xs t).length ≤ 1048576 := by
  unfold awF; split
  · rename_i h
    have := awL_len t.toNat (rgB_t h).2.1; omega
  · simp
theorem awL_mem {t : Nat} {xs : List Int} (G : Good xs) (ht : 2 ≤ t) (hr : regB xs t = true) : ∀ x ∈ awL t xs, 0 ≤ x ∧ x < t := by
  intro x hx
  simp only [awL, aw, List.mem_map, List.mem_range] at hx
  obtain ⟨j, hj, rfl⟩ := hx
  have := G.sum0
  obtain ⟨g, r, s⟩ := dwn_ok G ht hr j (by omega)
  have := (firstD_lt (has_down g (sum_pos g (by omega)) ht r)).1
  omega
end Go.Proofs.Ytkbdlhmkiolegaa
/-
  Contracts: words of arrows down: ArrowWord of the program and of the model.
-/
namespace Go.Proofs.Ytkbdlhmkiolegaa
open Go.RowKit

set_option maxRecDepth 100000 in
set_option maxHeartbeats 2000000 in
theorem firstArrowDown_any (A : Option Addr) (c : Nat) (xs : List Int) (t : Nat) (w : World) (G : Good xs) (h0 : 0 < xs.length) (hr : regB xs t = true) (ht : 2 ≤ t ∧ t ≤ 6) (hno : A = none → xs.length = 0 ∧ c = 0) (hc : Cells w A xs) :
    Calls Try.prog 27 #[.slice A xs.length c, .int .i64 t] w fun e w' => ∃ A' c', e = .returned (.tuple #[.int .i64 (firstD xs t : Nat), .slice A' (nextD t xs).length c']) ∧ Own w' w.heap.size A' c' (nextD t xs) ∧ Below w.heap.size w w' := by
  have hg := (good_iff xs).2 G
  have hlen := G.len
  have hex := has_down G h0 ht.1 hr
  have HX := hid hex
  have HF := hid fun k (hk : k < t) (hb : ∀ j, j < k → adB xs t (j : Nat) = false) (h : adB xs t (k : Nat) = true) => firstD_eq hk hb h
  have has : ∀ k : Nat, k < t → asB xs t (k : Int) = true := fun k hk => by
    unfold asB
    rw [hg, inB_iff.2 (show (2 : Int) ≤ (t : Int) ∧ (t : Int) ≤ 6 by omega), inB_iff.2 (show (0 : Int) ≤ (k : Int) ∧ (k : Int) ≤ (t : Int) - 1 by omega)]; rfl
  have HC := hid fun W (h : Cells W A xs) (k : Nat) (hk : k < t) => (by
    have h1 := impl_ArrowDownC A c xs t k W (by omega) hno h
    rw [show dnF xs t k = adL xs t k by simp [dnF, has k hk], show dnOk8 xs t k = adB xs t k by simp [dnOk8, has k hk]] at h1
    exact h1 : Calls Try.prog 15 #[.slice A xs.length c, .int .i64 t, .int .i64 k] W fun e w' => ∃ A' c', e = .returned (.tuple #[.slice A' (adL xs t k).length c', .bool (adB xs t k)]) ∧ Own w' W.heap.size A' c' (adL xs t k) ∧ Below W.heap.size W w')
  have HCC := hid hc
  clear hg hex has hr G h0 hno hc
  go_enter Try.func27, Try.ntmps27
  go_wp2_with fail
  go_loopw [10] (fun kv wr => ∃ k : Nat, k ≤ t ∧ kv = .int .i64 k ∧ Hid (∀ j, j < k → adB xs t (j : Nat) = false) ∧ Below w.heap.size w wr) (fun kv _ => t - (intOf kv).toNat)
  case atStart => exact ⟨0, Nat.zero_le _, rfl, hid fun j hj => absurd hj (by omega), Below.refl _ _⟩
  case round =>
    obtain ⟨k, hk, rfl, HB, hbel⟩ := hrel
    by_cases hlt : k < t
    · have hcall := HC.out wr (HCC.out.later hbel) k hlt
      cases ha : adB xs t (k : Nat)
      · rw [ha] at hcall
        have HCA := hid hcall
        have HN := hid (show ∀ j, j < k + 1 → adB xs t (j : Nat) = false from fun j hj => by
          by_cases e : j = k
          · subst e; exact ha
          · exact HB.out j (by omega))
        obtain ⟨R, hR⟩ : ∃ R, R = adL xs t (k : Nat) := ⟨_, rfl⟩
        rw [← hR] at HCA
        clear hcall ha hR
        go_wp2_with fail
        refine HCA.out.mono ?_
        rintro e w1 ⟨A1, c1, rfl, o1, b1⟩
        have HB1 := hid (Below.next hbel b1)
        clear o1 b1
        go_wp2_with fail
        go_roundw
        case rel => exact ⟨k + 1, by omega, by go_num, HN, HB1.out⟩
        case measure => simp [intOf]; omega
      · have hf := HF.out k hlt HB.out ha
        have hn : nextD t xs = adL xs t (k : Nat) := by unfold nextD; rw [hf]
        rw [ha] at hcall
        have HCA := hid hcall
        have HE := hid hf
        have HNE := hid hn
        obtain ⟨R, hR⟩ : ∃ R, R = adL xs t (k : Nat) := ⟨_, rfl⟩
        rw [← hR] at HCA HNE
        clear hcall ha hR hf hn
        go_wp2_with fail
        refine HCA.out.mono ?_
        rintro e w1 ⟨A1, c1, rfl, o1, b1⟩
        have HO1 := hid (o1.more hbel.size)
        have HB1 := hid (Below.next hbel b1)
        clear o1 b1
        go_wp2_with fail
        go_ret2
        exact ⟨A1, c1, by rw [HE.out, HNE.out]; rfl, by rw [HNE.out]; exact HO1.out, HB1.out⟩
    · exfalso
      obtain ⟨i, h1, h2⟩ := HX.out
      rw [HB.out i (by omega)] at h2
      cases h2

theorem cells_apart {w w1 : World} {A : Option Addr} {B c : Nat} {xs : List Int} {row : Option Nat} (h : Own w B A c xs) (hg : w.grownBy w1 row) (hne : ∀ b, row = some b → b < B) : Cells w1 A xs :=
  h.cells.keep fun b hb hlt => hg.block b hlt (fun e => by have := (h.block b hb).1; have := hne b e.symm; omega)

set_option maxRecDepth 100000 in
set_option maxHeartbeats 4000000 in
theorem impl_ArrowWordC (A : Option Addr) (c : Nat) (xs : List Int) (t : Int) (w : World) (hl : xs.length ≤ 1048576) (hno : A = none → xs.length = 0 ∧ c = 0) (hc : Cells w A xs) (h64 : I64 t) :
    Calls Try.prog 11 #[.slice A xs.length c, .int .i64 t] w fun e w' => ∃ A' c', e = .returned (.tuple #[.slice A' (awF xs t).length c', .bool (rgB xs t)]) ∧ Own w' w.heap.size A' c' (awF xs t) ∧ Below w.heap.size w w' := by
  obtain ⟨i0, hi, hz0, hz1, hz2⟩ := info_parts Try.infoInt
  have HR := hid (impl_IsRegular A c xs t w hl hc h64)
  cases hg : rgB xs t
  · rw [show awF xs t = [] by simp [awF, hg]]
    rw [hg] at HR
    clear hg
    go_enter Try.func11, Try.ntmps11
    go_wp2_with fail
    refine HR.out.mono ?_
    rintro e w1 ⟨rfl, b1⟩
    go_wp2_with fail
    go_ret2
    exact ⟨none, 0, rfl, own_nil _ _, b1⟩
  · rw [show awF xs t = awL t.toNat xs by simp [awF, hg]]
    rw [hg] at HR
    obtain ⟨_, G, ht, hrg, hgi⟩ := rgB_t hg
    rw [hgi] at HR
    obtain ⟨n, rfl⟩ : ∃ n : Nat, t = n := ⟨t.toNat, by omega⟩
    rw [Int.toNat_natCast] at hrg ⊢
    have hs0 := G.sum0
    have hs30 := G.sum
    obtain ⟨K, hK⟩ : ∃ K : Nat, xs.sum = K := ⟨xs.sum.toNat, by omega⟩
    have HD := hid fun (k : Nat) (h : k ≤ K) => dwn_ok G (t := n) (by omega) hrg k (by omega)
    have HEND := hid (show awL n xs = aw n xs K by unfold awL; rw [show xs.sum.toNat = K by omega])
    have hK30 : K ≤ 30 := by omega
    have HK := hid hK
    have HCC := hid hc
    clear hg hgi hrg G hs0 hs30 hK hc
    go_enter Try.func11, Try.ntmps11
    go_wp2_with fail
    refine HR.out.mono ?_
    rintro e w1 ⟨rfl, b1⟩
    have HC1 := hid (HCC.out.later b1)
    have hbs1 := b1.size
    go_wp2_with fail
    go_loopw [8, 9] (fun wv lv wr => ∃ (k : Nat) (Aw : Option Addr) (cw : Nat) (Al : Option Addr) (cl : Nat), k ≤ K ∧ wv = .slice Aw k cw ∧ lv = .slice Al (dwn n xs k).length cl ∧ Hid (Own wr w1.heap.size Aw cw (aw n xs k)) ∧ Hid (Cells wr Al (dwn n xs k)) ∧ Hid (Al = none → (dwn n xs k).length = 0 ∧ cl = 0) ∧ Below w1.heap.size w1 wr) (fun wv _ _ => 31 - (match wv with | .slice _ m _ => m | _ => 0))
    case atStart => exact ⟨0, none, 0, A, c, Nat.zero_le _, rfl, rfl, hid (own_nil _ _), hid HC1.out, hid hno, Below.refl _ _⟩
    case round =>
      obtain ⟨k, Aw, cw, Al, cl, hk, rfl, rfl, HO, HCL, HNO, hbel⟩ := hrel
      obtain ⟨g, r, s⟩ := HD.out k hk
      by_cases hlt : k < K
      · have hp := sum_pos g (by rw [s, HK.out]; omega)
        have HFA := hid (firstArrowDown_any Al cl (dwn n xs k) n wr g hp r (by omega) HNO.out HCL.out)
        have hdl := g.len
        have hfd : firstD (dwn n xs k) n < n := (firstD_lt (has_down g hp (by omega) r)).1
        have HAW := hid (aw_succ n xs k)
        have HAL := hid (aw_len n xs k)
        have HAL2 := hid (aw_len n xs (k + 1))
        have HNX := hid (show nextD n (dwn n xs k) = dwn n xs (k + 1) from rfl)
        rw [HNX.out] at HFA
        obtain ⟨L, hL⟩ : ∃ L, L = dwn n xs k := ⟨_, rfl⟩
        obtain ⟨R, hR⟩ : ∃ R, R = dwn n xs (k + 1) := ⟨_, rfl⟩
        obtain ⟨f, hf⟩ : ∃ f, f = firstD (dwn n xs k) n := ⟨_, rfl⟩
        rw [← hf] at HFA hfd HAW
        rw [← hL, ← hR] at HFA
        rw [← hL] at hp hdl ⊢
        have HRE := hid hR
        clear g r s hL hf hR
        have hl0 : (0 : Int) < (L.length : Int) := by omega
        go_wp2_with fail
        refine HFA.out.mono ?_
        rintro e w2 ⟨A2, c2, rfl, o2, b2⟩
        have HO2 := hid o2
        have HB2 := hid (Below.next hbel b2)
        have hown0 := HO.out.below b2
        unfold Own at hown0
        rw [HAL.out] at hown0
        have HOW := hid hown0
        have hblk := hid (show ∀ b, (Value.slice Aw k cw).ownBlock = some b → b < wr.heap.size from fun b hb => by
          have h1 := HO.out
          unfold Own at h1
          rw [HAL.out] at h1
          exact (World.ownsRow.lt h1 b hb).2)
        have hsz2 := HB2.out.size
        clear o2 b2 hown0
        go_wp2_with (at_builtin; refine wpList_append_own _ rfl _ _ 22 rfl w1.heap.size 3 i0 (.int .i64 0) 1 8 Try.underlying22 hi hz0 hz1 hz2 rfl (by decide) _ _ _ rfl (HOW.out.alloc _) ⟨w2.heap.size, 0, none⟩ 1 1 [.int .i64 (f : Nat)] rfl rfl one_at (one_cell _) (by unfold maxLen; omega) (by omega) (by simp; omega) ?_)
        intro v3 w3 hown3 hgrow3 _
        have hb3 : Below w1.heap.size w1 w3 := (HB2.out.alloc HB2.out.size _).grown hgrow3 (by simp; omega) (fun q hq => (HOW.out.lt q hq).1)
        have hown4 : w3.ownsRow w1.heap.size 3 1 v3 (aw n xs (k + 1)).length (IL (aw n xs (k + 1))) := own_snoc HAW.out (by rw [HAL.out]; exact hown3)
        obtain ⟨A3, c3, e3, o3⟩ := own_form hown4 rfl
        rw [HAL2.out] at e3
        subst e3
        have hcl : Cells w3 A2 R := by
          have ho2 := HO2.out.below ((Below.refl _ _).alloc (Nat.le_refl _) (.cells #[.int .i64 (f : Nat)] 3) : Below w2.heap.size w2 (w2.alloc _))
          exact cells_apart ho2 hgrow3 hblk.out
        have HO3 := hid o3
        have HB3 := hid hb3
        have HC3 := hid hcl
        have HN3 := hid (show A2 = none → R.length = 0 ∧ c2 = 0 from own_hno HO2.out)
        clear hown3 hgrow3 hown4 o3 hb3 hcl
        go_wp2_with fail
        go_roundw
        case rel => exact ⟨k + 1, A3, c3, A2, c2, by omega, rfl, by rw [HRE.out], HO3, by rw [← HRE.out]; exact HC3, by rw [← HRE.out]; exact HN3, HB3.out⟩
        case measure => show 31 - (k + 1) < 31 - k; omega
      · have hkK : k = K := by omega
        have hz := sum_zero g (by rw [s, HK.out]; omega)
        have hO := HO.out
        rw [hkK, ← HEND.out] at hO
        have HO5 := hid (hO.more hbs1)
        have HAL := hid (show (awL n xs).length = k by rw [HEND.out, aw_len, hkK])
        rw [hz]
        have HBB := hid (Below.next b1 hbel)
        clear hkK g r s hO hz
        go_wp2_with fail
        go_ret2
        exact ⟨Aw, cw, by rw [HAL.out]; rfl, HO5.out, HBB.out⟩
end Go.Proofs.Ytkbdlhmkiolegaa
/-
  Contracts: ArrowWord of the model.
-/
namespace Go.Proofs.Ytkbdlhmkiolegaa
open Go.RowKit

set_option maxHeartbeats 1000000 in
theorem arGiven_any (A : Option Addr) (c : Nat) (xs : List Int) (t : Int) (w : World) (hl : xs.length ≤ 1048576) (hc : Cells w A xs) :
    Calls Try.prog 28 #[.slice A xs.length c, .int .i64 t] w fun e w' => e = .returned (.bool (rgB xs t)) ∧ ∃ n, w' = w.drewN n := by
  cases hg : good xs
  · rw [show rgB xs t = false by simp [rgB, giB, hg]]
    have H := hid hg
    clear hg
    go_enter Try.func28, Try.ntmps28
    go_wp2_with (go_at_call 37; refine (ptGood_b _ _ _ _ hl hc _ H.out).mono ?_; rintro e w' ⟨rfl, n, rfl⟩)
    go_ret
    exact ⟨rfl, n, rfl⟩
  cases ht : inB 2 6 t
  · rw [show rgB xs t = false by simp [rgB, giB, ht]]
    have H := hid hg
    have HT := hid ht
    clear hg ht
    go_enter Try.func28, Try.ntmps28
    go_wp2_with (first | (go_at_call 37; refine (ptGood_b _ _ _ _ hl hc _ H.out).mono ?_; rintro e w' ⟨rfl, n, rfl⟩) | (go_at_call 33; refine (chRunners_b _ _ _ HT.out).mono ?_; rintro e w' ⟨rfl, rfl⟩))
    go_ret
    exact ⟨rfl, n, rfl⟩
  · have htb := inB_iff.1 ht
    obtain ⟨m, rfl⟩ : ∃ m : Nat, t = m := ⟨t.toNat, by omega⟩
    rw [show rgB xs m = regB xs m by simp [rgB, giB, hg, ht]]
    have H := hid hg
    have HT := hid ht
    have HR := hid fun W (h : Cells W A xs) => arRegular_any A c xs m W (good_len hg) (by omega) h
    obtain ⟨R, hR⟩ : ∃ R, R = regB xs m := ⟨_, rfl⟩
    rw [← hR] at HR ⊢
    clear hg ht hR
    go_enter Try.func28, Try.ntmps28
    go_wp2_with (first | (go_at_call 37; refine (ptGood_b _ _ _ _ hl hc _ H.out).mono ?_; rintro e w' ⟨rfl, n, rfl⟩) | (go_at_call 33; refine (chRunners_b _ _ _ HT.out).mono ?_; rintro e w' ⟨rfl, rfl⟩) | (go_at_call 25; refine (HR.out _ (by exact hc)).mono ?_; rintro e w' ⟨rfl, q, rfl⟩))
    go_ret
    exact ⟨rfl, _, rfl⟩
theorem arGiven_b (A : Option Addr) (c : Nat) (xs : List Int) (t : Int) (w : World) (hl : xs.length ≤ 1048576) (hc : Cells w A xs) (b : Bool) (h : rgB xs t = b) :
    Calls Try.prog 28 #[.slice A xs.length c, .int .i64 t] w fun e w' => e = .returned (.bool b) ∧ ∃ n, w' = w.drewN n := by
  subst h; exact arGiven_any A c xs t w hl hc

set_option maxRecDepth 100000 in
set_option maxHeartbeats 4000000 in
theorem arWord_any (A : Option Addr) (c : Nat) (xs : List Int) (n : Nat) (w : World) (G : Good xs) (ht : 2 ≤ n ∧ n ≤ 6) (hrg : regB xs n = true) (hno : A = none → xs.length = 0 ∧ c = 0) (hc : Cells w A xs) :
    Calls Try.prog 29 #[.slice A xs.length c, .int .i64 n] w fun e w' => ∃ A' c', e = .returned (.slice A' (awL n xs).length c') ∧ Own w' w.heap.size A' c' (awL n xs) ∧ Below w.heap.size w w' := by
  obtain ⟨i0, hi, hz0, hz1, hz2⟩ := info_parts Try.infoInt
  have hs0 := G.sum0
  have hs30 := G.sum
  obtain ⟨K, hK⟩ : ∃ K : Nat, xs.sum = K := ⟨xs.sum.toNat, by omega⟩
  have HD := hid fun (k : Nat) (h : k ≤ K) => dwn_ok G (t := n) (by omega) hrg k (by omega)
  have HEND := hid (show awL n xs = aw n xs K by unfold awL; rw [show xs.sum.toNat = K by omega])
  have hK30 : K ≤ 30 := by omega
  have HK := hid hK
  have HCC := hid hc
  clear hrg G hs0 hs30 hK hc
  go_enter Try.func29, Try.ntmps29
  go_wp2_with fail
  go_loopw [5, 6] (fun wv lv wr => ∃ (k : Nat) (Aw : Option Addr) (cw : Nat) (Al : Option Addr) (cl : Nat), k ≤ K ∧ wv = .slice Aw k cw ∧ lv = .slice Al (dwn n xs k).length cl ∧ Hid (Own wr w.heap.size Aw cw (aw n xs k)) ∧ Hid (Cells wr Al (dwn n xs k)) ∧ Hid (Al = none → (dwn n xs k).length = 0 ∧ cl = 0) ∧ Below w.heap.size w wr) (fun wv _ _ => 31 - (match wv with | .slice _ m _ => m | _ => 0))
  case atStart => exact ⟨0, none, 0, A, c, Nat.zero_le _, rfl, rfl, hid (own_nil _ _), HCC, hid hno, Below.refl _ _⟩
  case round =>
    obtain ⟨k, Aw, cw, Al, cl, hk, rfl, rfl, HO, HCL, HNO, hbel⟩ := hrel
    obtain ⟨wo, rfl⟩ : ∃ wo : World, wo = wr := ⟨_, rfl⟩
    obtain ⟨g, r, s⟩ := HD.out k hk
    by_cases hlt : k < K
    · have hp := sum_pos g (by rw [s, HK.out]; omega)
      have HCALL := hid fun W (h : Cells W Al (dwn n xs k)) i => arDown_any Al cl (dwn n xs k) n i W g ht HNO.out h
      have HEX := hid (has_down g hp (by omega) r)
      have HF := hid fun j (hj : j < n) (hb : ∀ i, i < j → adB (dwn n xs k) n (i : Nat) = false) (h : adB (dwn n xs k) n (j : Nat) = true) => firstD_eq hj hb h
      have hdl := g.len
      have HAW := hid (aw_succ n xs k)
      have HAL := hid (aw_len n xs k)
      have HAL2 := hid (aw_len n xs (k + 1))
      have HNX := hid (show dwn n xs (k + 1) = adL (dwn n xs k) n (firstD (dwn n xs k) n : Nat) from rfl)
      have HCK := hid HCL.out
      obtain ⟨L, hL⟩ : ∃ L, L = dwn n xs k := ⟨_, rfl⟩
      rw [← hL] at HCALL HEX HF HAW HNX HCK hp hdl ⊢
      obtain ⟨f, hf⟩ : ∃ f, f = firstD L n := ⟨_, rfl⟩
      rw [← hf] at HF HAW HNX
      have HLE := hid hL
      have HNO2 := hid (show Al = none → L.length = 0 ∧ cl = 0 by rw [hL]; exact HNO.out)
      clear g r s hL hf HNO HCL
      have hl0 : (0 : Int) < (L.length : Int) := by omega
      have hown0 := HO.out
      unfold Own at hown0
      rw [HAL.out] at hown0
      have HOW0 := hid hown0
      clear hown0
      go_wp2_with fail
      go_loopw [5, 6, 7] (fun wv lv iv wr => ∃ i : Nat, i ≤ n ∧ iv = .int .i64 i ∧ wv = .slice Aw k cw ∧ lv = .slice Al L.length cl ∧ Hid (∀ j, j < i → adB L n (j : Nat) = false) ∧ Below wo.heap.size wo wr) (fun _ _ iv _ => n - (intOf iv).toNat)
      case atStart => exact ⟨0, Nat.zero_le _, rfl, rfl, rfl, hid fun j hj => absurd hj (by omega), Below.refl _ _⟩
      case round =>
        obtain ⟨i, hin, rfl, rfl, rfl, HB, hbel2⟩ := hrel
        by_cases hil : i < n
        · have hcall := HCALL.out wr (HCK.out.later hbel2) (i : Int)
          cases ha : adB L n (i : Nat)
          · rw [ha] at hcall
            have HCA := hid hcall
            have HN := hid (show ∀ j, j < i + 1 → adB L n (j : Nat) = false from fun j hj => by
              by_cases e : j = i
              · subst e; exact ha
              · exact HB.out j (by omega))
            obtain ⟨R, hR⟩ : ∃ R, R = adL L n (i : Nat) := ⟨_, rfl⟩
            rw [← hR] at HCA
            clear hcall ha hR
            go_wp2_with fail
            refine HCA.out.mono ?_
            rintro e w1 ⟨A1, c1, rfl, o1, b1⟩
            have HB1 := hid (Below.next hbel2 b1)
            clear o1 b1
            go_wp2_with fail
            go_roundw
            case rel => exact ⟨i + 1, by omega, by go_num, rfl, rfl, HN, HB1.out⟩
            case measure => simp [intOf]; omega
          · have hf := HF.out i hil HB.out ha
            rw [ha] at hcall
            have HCA := hid hcall
            have hn2 := HNX.out
            rw [hf] at hn2
            have HNE := hid hn2
            have haw := HAW.out
            rw [hf] at haw
            have HAW2 := hid haw
            obtain ⟨R, hR⟩ : ∃ R, R = adL L n (i : Nat) := ⟨_, rfl⟩
            rw [← hR] at HCA HNE
            clear hcall ha hR hf hn2 haw
            go_wp2_with fail
            refine HCA.out.mono ?_
            rintro e w2 ⟨A2, c2, rfl, o2, b2⟩
            have HO2 := hid o2
            have HB02 := hid (Below.next hbel2 b2)
            have HB2 := hid (Below.next hbel (Below.next hbel2 b2))
            have hown1 := HO.out.below HB02.out
            unfold Own at hown1
            rw [HAL.out] at hown1
            have HOW := hid hown1
            have hblk := hid (show ∀ b, (Value.slice Aw k cw).ownBlock = some b → b < wr.heap.size from fun b hb => Nat.lt_of_lt_of_le (World.ownsRow.lt HOW0.out b hb).2 hbel2.size)
            have hsz2 := HB2.out.size
            clear o2 b2 hown1
            go_wp2_with (at_builtin; refine wpList_append_own _ rfl _ _ 22 rfl w.heap.size 3 i0 (.int .i64 0) 1 8 Try.underlying22 hi hz0 hz1 hz2 rfl (by decide) _ _ _ rfl (HOW.out.alloc _) ⟨w2.heap.size, 0, none⟩ 1 1 [.int .i64 (i : Nat)] rfl rfl one_at (one_cell _) (by unfold maxLen; omega) (by omega) (by simp; omega) ?_)
            intro v3 w3 hown3 hgrow3 _
            have hb3 : Below w.heap.size w w3 := (HB2.out.alloc HB2.out.size _).grown hgrow3 (by simp; omega) (fun q hq => (HOW.out.lt q hq).1)
            have hown4 : w3.ownsRow w.heap.size 3 1 v3 (aw n xs (k + 1)).length (IL (aw n xs (k + 1))) := own_snoc HAW2.out (by rw [HAL.out]; exact hown3)
            obtain ⟨A3, c3, e3, o3⟩ := own_form hown4 rfl
            rw [HAL2.out] at e3
            subst e3
            have hcl : Cells w3 A2 R := by
              have ho2 := HO2.out.below ((Below.refl _ _).alloc (Nat.le_refl _) (.cells #[.int .i64 (i : Nat)] 3) : Below w2.heap.size w2 (w2.alloc _))
              exact cells_apart ho2 hgrow3 hblk.out
            have HO3 := hid o3
            have HB3 := hid hb3
            have HC3 := hid hcl
            have HN3 := hid (show A2 = none → R.length = 0 ∧ c2 = 0 from own_hno HO2.out)
            clear hown3 hgrow3 hown4 o3 hb3 hcl
            go_wp2_with fail
            go_roundw
            case rel => exact ⟨k + 1, A3, c3, A2, c2, by omega, rfl, by rw [HNE.out], HO3, by rw [HNE.out]; exact HC3, by rw [HNE.out]; exact HN3, HB3.out⟩
            case measure => show 31 - (k + 1) < 31 - k; omega
        · exfalso
          obtain ⟨j, h1, h2⟩ := HEX.out
          rw [HB.out j (by omega)] at h2
          cases h2
    · have hkK : k = K := by omega
      have hz := sum_zero g (by rw [s, HK.out]; omega)
      have hO := HO.out
      rw [hkK, ← HEND.out] at hO
      have HO5 := hid hO
      have HAL := hid (show (awL n xs).length = k by rw [HEND.out, aw_len, hkK])
      rw [hz]
      clear hkK g r s hO hz
      go_wp2_with fail
      go_ret
      exact ⟨Aw, cw, by rw [HAL.out]; rfl, HO5.out, hbel⟩

set_option maxRecDepth 100000 in
set_option maxHeartbeats 1000000 in
theorem spec_ArrowWordC (A : Option Addr) (c : Nat) (xs : List Int) (t : Int) (w : World) (hl : xs.length ≤ 1048576) (hno : A = none → xs.length = 0 ∧ c = 0) (hc : Cells w A xs) (_ : I64 t) :
    Calls Try.prog 12 #[.slice A xs.length c, .int .i64 t] w fun e w' => ∃ A' c', e = .returned (.tuple #[.slice A' (awF xs t).length c', .bool (rgB xs t)]) ∧ Own w' w.heap.size A' c' (awF xs t) ∧ Below w.heap.size w w' := by
  have HGI := hid fun b hb => arGiven_b A c xs t w hl hc b hb
  cases hg : rgB xs t
  · rw [show awF xs t = [] by simp [awF, hg]]
    have H := hid hg
    clear hg
    go_enter Try.func12, Try.ntmps12
    go_wp2_with (go_at_call 28; refine (HGI.out _ H.out).mono ?_; rintro e w' ⟨rfl, n, rfl⟩)
    go_ret2
    exact ⟨none, 0, rfl, own_nil _ _, below_drew' _ _⟩
  · rw [show awF xs t = awL t.toNat xs by simp [awF, hg]]
    obtain ⟨_, G, ht, hrg, _⟩ := rgB_t hg
    obtain ⟨n, rfl⟩ : ∃ n : Nat, t = n := ⟨t.toNat, by omega⟩
    rw [Int.toNat_natCast] at hrg ⊢
    have HW := hid fun W (h : Cells W A xs) => arWord_any A c xs n W G (by omega) hrg hno h
    have H := hid hg
    obtain ⟨R, hR⟩ : ∃ R, R = awL n xs := ⟨_, rfl⟩
    rw [← hR] at HW ⊢
    clear hg G hrg hR
    go_enter Try.func12, Try.ntmps12
    go_wp2_with (go_at_call 28; refine (HGI.out _ H.out).mono ?_; rintro e w' ⟨rfl, m, rfl⟩)
    refine (HW.out _ (by exact hc)).mono ?_
    rintro e w2 ⟨A2, c2, rfl, o2, b2⟩
    have HO := hid o2
    have HB := hid (Below.next (below_drew' w m) b2)
    clear o2 b2
    go_wp2_with fail
    go_ret2
    exact ⟨A2, c2, rfl, HO.out, HB.out⟩
theorem spec_ArrowWord {B : Nat} (A : Option Addr) (c : Nat) (xs : List Int) (t : Int) (w : World) (hl : xs.length ≤ 1048576) (ho : Own w B A c xs) (h : I64 t) :
    Calls Try.prog 12 #[.slice A xs.length c, .int .i64 t] w fun e w' => ∃ A' c', e = .returned (.tuple #[.slice A' (awF xs t).length c', .bool (rgB xs t)]) ∧ Own w' w.heap.size A' c' (awF xs t) ∧ Below w.heap.size w w' :=
  spec_ArrowWordC A c xs t w hl (own_hno ho) ho.cells h
theorem impl_ArrowWord {B : Nat} (A : Option Addr) (c : Nat) (xs : List Int) (t : Int) (w : World) (hl : xs.length ≤ 1048576) (ho : Own w B A c xs) (h : I64 t) :
    Calls Try.prog 11 #[.slice A xs.length c, .int .i64 t] w fun e w' => ∃ A' c', e = .returned (.tuple #[.slice A' (awF xs t).length c', .bool (rgB xs t)]) ∧ Own w' w.heap.size A' c' (awF xs t) ∧ Below w.heap.size w w' :=
  impl_ArrowWordC A c xs t w hl (own_hno ho) ho.cells h
end Go.Proofs.Ytkbdlhmkiolegaa
