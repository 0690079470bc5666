/-
  A bar taken away: the parts left, in order.
-/
import Derived.Test.YtcgoiddghenkmaaBarMath
import Derived.Test.YtcgoiddghenkmaaBlMath
namespace Go.Proofs.Ytcgoiddghenkmaa

/-- The row with one number more, ahead of the first one that is not greater. -/
def insD : List Int → Int → List Int
  | [], x => [x]
  | y :: r, x => if x < y then y :: insD r x else x :: y :: r
theorem insD_len (xs : List Int) (x : Int) : (insD xs x).length = xs.length + 1 := by
  induction xs with
  | nil => rfl
  | cons y r ih => unfold insD; split <;> simp [ih]
theorem insD_at (xs : List Int) (x : Int) (k : Nat) (hk : k ≤ xs.length) (h1 : ∀ j, j < k → x < xs.getD j 0) (h2 : k < xs.length → ¬ x < xs.getD k 0) : xs.take k ++ x :: xs.drop k = insD xs x := by
  induction xs generalizing k with
  | nil => simp at hk; subst hk; rfl
  | cons y r ih =>
    cases k with
    | zero =>
      have := h2 (by simp)
      rw [List.getD_cons_zero] at this
      unfold insD
      rw [if_neg this]; rfl
    | succ k =>
      have h0 := h1 0 (by omega)
      rw [List.getD_cons_zero] at h0
      unfold insD
      rw [if_pos h0, ← ih k (by simpa using hk) (fun j hj => by simpa using h1 (j + 1) (by omega)) (fun hj => by simpa using h2 (by simp; omega))]
      rfl
theorem insD_perm (xs : List Int) (x : Int) : (insD xs x).Perm (x :: xs) := by
  induction xs with
  | nil => exact List.Perm.refl _
  | cons y r ih =>
    unfold insD
    split
    · exact (ih.cons y).trans (List.Perm.swap x y r)
    · exact List.Perm.refl _
theorem insD_desc {xs : List Int} {x : Int} (h : xs.Pairwise (· ≥ ·)) : (insD xs x).Pairwise (· ≥ ·) := by
  induction xs with
  | nil => simp [insD]
  | cons y r ih =>
    have h' := List.pairwise_cons.1 h
    unfold insD
    split
    · rename_i hlt
      refine List.pairwise_cons.2 ⟨fun z hz => ?_, ih h'.2⟩
      rcases List.mem_cons.1 ((insD_perm r x).mem_iff.1 hz) with rfl | hz
      · omega
      · exact h'.1 z hz
    · rename_i hlt
      refine List.pairwise_cons.2 ⟨fun z hz => ?_, h⟩
      rcases List.mem_cons.1 hz with rfl | hz
      · omega
      · have := h'.1 z hz; omega
theorem insD_strict {xs : List Int} {x : Int} (h : xs.Pairwise (· > ·)) (hx : ¬ x ∈ xs) : (insD xs x).Pairwise (· > ·) := by
  induction xs with
  | nil => simp [insD]
  | cons y r ih =>
    have h' := List.pairwise_cons.1 h
    unfold insD
    split
    · rename_i hlt
      refine List.pairwise_cons.2 ⟨fun z hz => ?_, ih h'.2 (fun hm => hx (List.mem_cons_of_mem _ hm))⟩
      rcases List.mem_cons.1 ((insD_perm r x).mem_iff.1 hz) with rfl | hz
      · omega
      · exact h'.1 z hz
    · rename_i hlt
      have hne : x ≠ y := fun e => hx (by rw [e]; exact List.mem_cons_self ..)
      refine List.pairwise_cons.2 ⟨fun z hz => ?_, h⟩
      rcases List.mem_cons.1 hz with rfl | hz
      · omega
      · have := h'.1 z hz; omega
theorem desc_eq : ∀ {L M : List Int}, L.Perm M → L.Pairwise (· ≥ ·) → M.Pairwise (· ≥ ·) → L = M
  | [], M, h, _, _ => by rw [List.nil_perm.1 h]
  | x :: L, [], h, _, _ => by have := h.length_eq; simp at this
  | x :: L, y :: M, h, h1, h2 => by
    have hxm : x ∈ y :: M := h.mem_iff.1 (List.mem_cons_self ..)
    have hym : y ∈ x :: L := h.mem_iff.2 (List.mem_cons_self ..)
    have e : x = y := by
      rcases List.mem_cons.1 hxm with e | hx
      · exact e
      · rcases List.mem_cons.1 hym with e | hy
        · exact e.symm
        · have a1 := List.rel_of_pairwise_cons h1 hy
          have a2 := List.rel_of_pairwise_cons h2 hx
          omega
    subst e
    rw [desc_eq (List.perm_cons x |>.1 h) (List.pairwise_cons.1 h1).2 (List.pairwise_cons.1 h2).2]
def sortD (M : List Int) : List Int := (M.mergeSort fun x y => decide (x ≤ y)).reverse
theorem sortD_perm (M : List Int) : (sortD M).Perm M := (List.reverse_perm _).trans (List.mergeSort_perm _ _)
theorem sortD_len (M : List Int) : (sortD M).length = M.length := (sortD_perm M).length_eq
theorem sortD_desc (M : List Int) : (sortD M).Pairwise (· ≥ ·) := by
  unfold sortD
  rw [List.pairwise_reverse]
  have h2 := List.pairwise_mergeSort (le := fun x y : Int => decide (x ≤ y)) (fun x y z h1 h2 => by simp at *; omega) (fun x y => by simp; omega) M
  exact h2.imp fun h => by simpa using h
theorem sortD_of {M L : List Int} (hp : L.Perm M) (hs : L.Pairwise (· ≥ ·)) : sortD M = L := desc_eq ((sortD_perm M).trans hp.symm) (sortD_desc M) hs

def barRest (xs bar : List Int) : List Int := xs.filter fun x => decide (¬ x ∈ bar)
def tkL (xs : List Int) (t : Int) (bar : List Int) : List Int := if 0 < bar.sum - t then insD (barRest xs bar) (bar.sum - t) else barRest xs bar
theorem barRest_snoc_no {xs bar : List Int} {x : Int} (h : x ∈ bar) : barRest (xs ++ [x]) bar = barRest xs bar := by
  unfold barRest; rw [List.filter_append, List.filter_cons_of_neg (by simpa using h)]; simp
theorem barRest_snoc_yes {xs bar : List Int} {x : Int} (h : ¬ x ∈ bar) : barRest (xs ++ [x]) bar = barRest xs bar ++ [x] := by
  unfold barRest; rw [List.filter_append, List.filter_cons_of_pos (by simpa using h)]; simp
theorem barRest_len (xs bar : List Int) : (barRest xs bar).length ≤ xs.length := List.length_filter_le _ _
theorem barRest_pw {xs bar : List Int} (h : xs.Pairwise (· > ·)) : (barRest xs bar).Pairwise (· > ·) := h.sublist List.filter_sublist
theorem gt_ge {xs : List Int} (h : xs.Pairwise (· > ·)) : xs.Pairwise (· ≥ ·) := h.imp fun h => by omega
theorem strB_mem {xs : List Int} (h : strB xs = true) : ∀ y ∈ xs, 1 ≤ y ∧ y ≤ 30 := fun y hy => by
  obtain ⟨j, hj, rfl⟩ := List.mem_iff_getElem.1 hy
  have h1 := (strB_good h).pos j hj
  have h2 := (strB_good h).le j hj
  rw [List.getD_eq_getElem?_getD, List.getElem?_eq_getElem hj] at h1 h2
  exact ⟨h1, h2⟩
/-- What the program sorts: the rest and what is left of the bar. -/
theorem prog_left {xs : List Int} {t : Int} {bar : List Int} (hs : strB xs = true) (hb : isB xs t bar = true) :
    ∃ K, K ≤ ((bar.sum - t) :: barRest xs bar).length ∧ (sortD ((bar.sum - t) :: barRest xs bar)).take K = tkL xs t bar ∧ (tkL xs t bar).length = K ∧
      (∀ j, K ≤ j → j < (sortD ((bar.sum - t) :: barRest xs bar)).length → (sortD ((bar.sum - t) :: barRest xs bar)).getD j 0 = 0) ∧ (0 < K → (sortD ((bar.sum - t) :: barRest xs bar)).getD (K - 1) 0 ≠ 0) := by
  have hpw := barRest_pw (bar := bar) (strB_pairwise hs)
  have hpos : ∀ y ∈ barRest xs bar, 1 ≤ y := fun y hy => (strB_mem hs y ((List.mem_filter.1 hy).1)).1
  by_cases h0 : 0 < bar.sum - t
  · have e : sortD ((bar.sum - t) :: barRest xs bar) = insD (barRest xs bar) (bar.sum - t) := sortD_of (insD_perm _ _) (insD_desc (gt_ge hpw))
    have et : tkL xs t bar = insD (barRest xs bar) (bar.sum - t) := if_pos h0
    rw [e, et]
    refine ⟨(barRest xs bar).length + 1, by simp, List.take_of_length_le (by rw [insD_len]; omega), insD_len _ _, fun j h1 h2 => by rw [insD_len] at h2; omega, fun _ => ?_⟩
    have hm : (insD (barRest xs bar) (bar.sum - t)).getD ((barRest xs bar).length + 1 - 1) 0 ∈ insD (barRest xs bar) (bar.sum - t) := by
      rw [List.getD_eq_getElem?_getD, List.getElem?_eq_getElem (by rw [insD_len]; omega)]; exact List.getElem_mem _
    rcases List.mem_cons.1 ((insD_perm _ _).mem_iff.1 hm) with h | h
    · omega
    · have := hpos _ h; omega
  · have hz : bar.sum - t = 0 := by
      simp only [isB, Bool.or_eq_true, Bool.and_eq_true, decide_eq_true_eq] at hb
      omega
    have hp2 : (barRest xs bar ++ [0]).Pairwise (· ≥ ·) := by
      rw [List.pairwise_append]
      refine ⟨gt_ge hpw, by simp, fun a ha b hb => ?_⟩
      rw [List.mem_singleton.1 hb]
      have := hpos a ha; omega
    have e : sortD ((bar.sum - t) :: barRest xs bar) = barRest xs bar ++ [0] := by
      rw [hz]; exact sortD_of (List.perm_append_comm (l₁ := barRest xs bar) (l₂ := [0])) hp2
    have et : tkL xs t bar = barRest xs bar := if_neg h0
    rw [e, et]
    refine ⟨(barRest xs bar).length, by simp, List.take_left' rfl, rfl, fun j h1 h2 => ?_, fun hp => ?_⟩
    · rw [List.length_append, List.length_singleton] at h2
      rw [show j = (barRest xs bar).length by omega, List.getD_eq_getElem?_getD, List.getElem?_append_right (by omega), Nat.sub_self]; rfl
    · rw [List.getD_eq_getElem?_getD, List.getElem?_append_left (by omega), List.getElem?_eq_getElem (by omega), Option.getD_some]
      have := hpos _ (List.getElem_mem (show (barRest xs bar).length - 1 < (barRest xs bar).length by omega)); omega

theorem sum_filter_le : ∀ (xs : List Int) (p : Int → Bool) (x : Int), (∀ y ∈ xs, 0 ≤ y) → x ∈ xs → p x = false → (xs.filter p).sum + x ≤ xs.sum
  | [], _, _, _, h, _ => by simp at h
  | y :: r, p, x, h0, hx, hp => by
    have hr : ∀ z ∈ r, 0 ≤ z := fun z hz => h0 z (List.mem_cons_of_mem _ hz)
    have hy := h0 y (List.mem_cons_self ..)
    have mono : (r.filter p).sum ≤ r.sum := by
      clear hx h0
      induction r with
      | nil => simp
      | cons z r ih =>
        have hz := hr z (List.mem_cons_self ..)
        have := ih fun a ha => hr a (List.mem_cons_of_mem _ ha)
        rw [List.filter_cons]
        split <;> simp only [List.sum_cons] <;> omega
    rcases List.mem_cons.1 hx with rfl | hx
    · rw [List.filter_cons_of_neg (by rw [hp]; decide), List.sum_cons]; omega
    · have := sum_filter_le r p x hr hx hp
      rw [List.filter_cons]
      split <;> simp only [List.sum_cons] <;> omega
theorem insD_sum (xs : List Int) (x : Int) : (insD xs x).sum = xs.sum + x := by
  induction xs with
  | nil => simp [insD]
  | cons y r ih => unfold insD; split <;> simp only [List.sum_cons, ih] <;> omega
/-- A strict partition without a bar is one again, of fewer cells. -/
theorem tkL_str {xs : List Int} {t : Int} {bar : List Int} {i : Nat} (hs : strB xs = true) (ht : 1 ≤ t) (hi : i < xs.length) (hm : bar ∈ candA xs i) (hb : isB xs t bar = true) :
    strB (tkL xs t bar) = true ∧ (tkL xs t bar).sum < xs.sum := by
  have hpw := strB_pairwise hs
  have hmem := strB_mem hs
  have G := strB_good hs
  have hc := candA_mem hi hm
  obtain ⟨x, hx⟩ : ∃ x, x = xs.getD i 0 := ⟨_, rfl⟩
  have hxm : x ∈ bar := by
    unfold candA cand at hm
    rw [← hx] at hm
    rcases List.mem_cons.1 hm with rfl | hm
    · simp
    · obtain ⟨y, _, rfl⟩ := List.mem_map.1 hm; simp
  have hxs := hc.2 x hxm
  have hx1 := hmem x hxs
  have hsum := sum_filter_le xs (fun x => decide (¬ x ∈ bar)) x (fun y hy => by have := hmem y hy; omega) hxs (by simpa using hxm)
  change (barRest xs bar).sum + x ≤ xs.sum at hsum
  have hpwr := barRest_pw (bar := bar) hpw
  have hmr : ∀ y ∈ barRest xs bar, 1 ≤ y ∧ y ≤ 30 := fun y hy => hmem y ((List.mem_filter.1 hy).1)
  have mk : ∀ L : List Int, L.Pairwise (· > ·) → (∀ y ∈ L, 1 ≤ y ∧ y ≤ 30) → L.sum ≤ 30 → strB L = true := by
    intro L h1 h2 h3
    have g : ∀ j (hj : j < L.length), L.getD j 0 = L[j] := fun j hj => by rw [List.getD_eq_getElem?_getD, List.getElem?_eq_getElem hj]; rfl
    have hlt : ∀ j, j + 1 < L.length → L.getD (j + 1) 0 < L.getD j 0 := fun j hj => by
      rw [g _ hj, g j (by omega)]
      exact (List.pairwise_iff_getElem.1 h1) j (j + 1) (by omega) hj (by omega)
    have hb0 : ∀ j, j < L.length → 1 ≤ L.getD j 0 ∧ L.getD j 0 ≤ 30 := fun j hj => by rw [g j hj]; exact h2 _ (List.getElem_mem hj)
    have hs0 := sum_bound L 30 fun j hj => by have := hb0 j hj; omega
    have hlen : (L.length : Int) ≤ L.sum := by
      clear h1 h3 hlt hb0 hs0 g
      induction L with
      | nil => simp
      | cons z r ih =>
        have := ih fun a ha => h2 a (List.mem_cons_of_mem _ ha)
        have hz := h2 z (List.mem_cons_self ..)
        simp only [List.length_cons, List.sum_cons]; omega
    have G : Good L := ⟨by omega, fun j hj => (hb0 j hj).1, fun j hj => (hb0 j hj).2, fun j hj => by have := hlt j hj; omega, hs0.1, h3⟩
    have hd : ∀ n, n + 1 ≤ L.length → dcrTo L n = true := by
      intro n
      induction n with
      | zero => intro _; rfl
      | succ n ih => intro hn; simp only [dcrTo, ih (by omega), Bool.true_and, decide_eq_true_eq]; exact hlt n (by omega)
    unfold strB dcr
    rw [(good_iff L).2 G, Bool.true_and]
    rcases Nat.eq_zero_or_pos L.length with h0 | h0
    · rw [h0]; rfl
    · exact hd _ (by omega)
  have G30 := G.sum
  by_cases h0 : 0 < bar.sum - t
  · have et : tkL xs t bar = insD (barRest xs bar) (bar.sum - t) := if_pos h0
    have hb' := hb
    simp only [isB, Bool.or_eq_true, Bool.and_eq_true, decide_eq_true_eq] at hb'
    have hb2 : bar.length = 1 ∧ ¬ (bar.sum - t) ∈ xs := by
      rcases hb' with h | h
      · omega
      · exact h.2
    have hbar : bar = [x] := by
      match bar, hb2.1, hxm with
      | [z], _, hz => rw [List.mem_singleton.1 hz]
    have hsx : bar.sum = x := by rw [hbar]; simp
    rw [et]
    have hss := insD_sum (barRest xs bar) (bar.sum - t)
    refine ⟨mk _ (insD_strict hpwr fun hm => hb2.2 ((List.mem_filter.1 hm).1)) (fun y hy => ?_) (by omega), by omega⟩
    rcases List.mem_cons.1 ((insD_perm _ _).mem_iff.1 hy) with h | h
    · omega
    · exact hmr y h
  · have et : tkL xs t bar = barRest xs bar := if_neg h0
    rw [et]
    exact ⟨mk _ hpwr hmr (by omega), by omega⟩
end Go.Proofs.Ytcgoiddghenkmaa
