/-
  Several texts in one.
-/
import Derived.Test.YtnjaoaamcdohoaaR12
import Derived.Test.YtnjaoaamcdohoaaCB
/-
  Plain facts: rows of beads are good as soon as their sum is small enough; moved beads keep them so. No program in this text.
-/
namespace Go.Proofs.Ytnjaoaamcdohoaa
open Go.RowKit

theorem insL_sum (xs : List Int) (x : Int) : (insL xs x).sum = xs.sum + x := by
  induction xs with
  | nil => simp [insL]
  | cons y r ih => unfold insL; split <;> simp only [List.sum_cons, ih] <;> omega
theorem insF_sum (ys : List Int) : (insF ys).sum = ys.sum := by
  have key : ∀ (ys L : List Int), (ys.foldl insL L).sum = L.sum + ys.sum := by
    intro ys
    induction ys with
    | nil => intro L; simp
    | cons y r ih => intro L; rw [List.foldl_cons, ih, insL_sum, List.sum_cons]; omega
  unfold insF; rw [key]; simp
theorem mvL_sum {a b : Int} {xs : List Int} (h : xs.Nodup) (ha : a ∈ xs) : (mvL a b xs).sum = xs.sum - a + b := by
  have no : ∀ r : List Int, a ∉ r → (mvL a b r).sum = r.sum := by
    intro r
    induction r with
    | nil => intro _; rfl
    | cons y r ih =>
      intro hm
      rw [List.mem_cons] at hm
      have := ih (fun hh => hm (.inr hh))
      unfold mvL at this ⊢
      rw [List.map_cons, List.sum_cons, List.sum_cons, this]
      unfold mvB
      rw [if_neg (fun e => hm (.inl e.symm))]
  induction xs with
  | nil => simp at ha
  | cons x r ih =>
    rw [List.nodup_cons] at h
    by_cases e : x = a
    · subst e
      have := no r h.1
      unfold mvL at this ⊢
      rw [List.map_cons, List.sum_cons, List.sum_cons, this]
      unfold mvB
      rw [if_pos rfl]; omega
    · rw [List.mem_cons] at ha
      have hr : a ∈ r := by rcases ha with rfl | ha; exact absurd rfl e; exact ha
      have := ih h.2 hr
      unfold mvL at this ⊢
      rw [List.map_cons, List.sum_cons, List.sum_cons, this]
      unfold mvB
      rw [if_neg e]; omega

theorem rise_ge {xs : List Int} (R : Rises 0 1000 xs) : ∀ j, j < xs.length → (j : Int) ≤ xs.getD j 0
  | 0, h => by have := (R.bd 0 h).1; simpa using this
  | j + 1, h => by have := rise_ge R j (by omega); have := R.up j h; omega
theorem gap_up {xs : List Int} (R : Rises 0 1000 xs) (i : Nat) : ∀ d, i + d < xs.length → xs.getD i 0 - i ≤ xs.getD (i + d) 0 - ((i + d : Nat) : Int)
  | 0, _ => by simp
  | d + 1, h => by
    have h1 := gap_up R i d (by omega)
    have h2 := R.up (i + d) (by omega)
    rw [show i + (d + 1) = i + d + 1 by omega]
    omega
def tri : Nat → Int
  | 0 => 0
  | n + 1 => tri n + n
theorem bpk_facts {xs : List Int} (R : Rises 0 1000 xs) : ∀ k, k ≤ xs.length →
    (∀ x ∈ bpk xs k, 1 ≤ x) ∧ (bpk xs k).Pairwise (fun a b => b ≤ a) ∧ (∀ x ∈ bpk xs k, ∀ i, i < xs.length - k → xs.getD i 0 - i ≤ x) ∧ (bpk xs k).sum = (xs.drop (xs.length - k)).sum - (tri xs.length - tri (xs.length - k))
  | 0, _ => by refine ⟨fun x h => by simp [bpk] at h, by simp [bpk], fun x h => by simp [bpk] at h, by simp [bpk]⟩
  | k + 1, hk => by
    obtain ⟨h1, h2, h3, h4⟩ := bpk_facts R k (by omega)
    obtain ⟨i, hi⟩ : ∃ i, i = xs.length - 1 - k := ⟨_, rfl⟩
    have hge := rise_ge R i (by omega)
    have hd := drop_cons xs i (by omega)
    have e1 : xs.length - (k + 1) = i := by omega
    have e2 : xs.length - k = i + 1 := by omega
    rw [e2] at h3 h4
    rw [e1]
    have ht : tri (i + 1) = tri i + i := rfl
    by_cases hq : (i : Int) < xs.getD i 0
    · rw [bpk_yes hi rfl hq]
      refine ⟨fun x hx => ?_, ?_, fun x hx j hj => ?_, ?_⟩
      · rw [List.mem_append, List.mem_singleton] at hx
        rcases hx with hx | rfl
        · exact h1 x hx
        · omega
      · rw [List.pairwise_append]
        refine ⟨h2, by simp, fun a ha b hb => ?_⟩
        rw [List.mem_singleton] at hb
        subst hb
        exact h3 a ha i (by omega)
      · rw [List.mem_append, List.mem_singleton] at hx
        rcases hx with hx | rfl
        · exact h3 x hx j (by omega)
        · have := gap_up R j (i - j) (by omega)
          rw [show j + (i - j) = i by omega] at this
          exact this
      · rw [List.sum_append, h4, hd, ht]
        simp only [List.sum_cons, List.sum_nil]
        omega
    · rw [bpk_no hi rfl hq]
      have hz : xs.getD i 0 - i = 0 := by omega
      refine ⟨h1, h2, fun x hx j hj => ?_, ?_⟩
      · exact h3 x hx j (by omega)
      · rw [h4, hd, ht, List.sum_cons]; omega
theorem good_of {p : List Int} (h1 : ∀ x ∈ p, 1 ≤ x) (h2 : p.Pairwise (fun a b => b ≤ a)) (h3 : p.sum ≤ 30) : Good p := by
  have hb : ∀ q : List Int, (∀ x ∈ q, 1 ≤ x) → (q.length : Int) ≤ q.sum ∧ ∀ x ∈ q, x ≤ q.sum := by
    intro q
    induction q with
    | nil => intro _; exact ⟨by simp, fun x h => by simp at h⟩
    | cons y r ih =>
      intro h
      obtain ⟨i1, i2⟩ := ih (fun x hx => h x (by simp [hx]))
      have hy := h y (by simp)
      refine ⟨by simp only [List.length_cons, List.sum_cons]; omega, fun x hx => ?_⟩
      rw [List.mem_cons] at hx
      rw [List.sum_cons]
      rcases hx with rfl | hx
      · omega
      · have := i2 x hx; omega
  obtain ⟨l1, l2⟩ := hb p h1
  have gm : ∀ j, j < p.length → p.getD j 0 ∈ p := fun j hj => mem_getD.2 ⟨j, hj, rfl⟩
  refine ⟨by omega, fun j hj => h1 _ (gm j hj), fun j hj => by have := l2 _ (gm j hj); omega, fun j hj => ?_, by omega, h3⟩
  rw [List.pairwise_iff_getElem] at h2
  have := h2 j (j + 1) (by omega) hj (by omega)
  rw [List.getD_eq_getElem?_getD, List.getD_eq_getElem?_getD, List.getElem?_eq_getElem hj, List.getElem?_eq_getElem (show j < p.length by omega)]
  exact this
theorem beads_sum {xs : List Int} (R : Rises 0 1000 xs) : (partsL xs).sum = xs.sum - tri xs.length := by
  have h := (bpk_facts R xs.length (Nat.le_refl _)).2.2.2
  unfold partsL
  rw [h, Nat.sub_self]
  simp [tri]
theorem goodB_of {xs : List Int} (hl : xs.length ≤ 40) (R : Rises 0 1000 xs) (hs : xs.sum ≤ 30 + tri xs.length) : goodB xs = true := by
  obtain ⟨h1, h2, _, _⟩ := bpk_facts R xs.length (Nat.le_refl _)
  refine goodB_iff.2 ⟨hl, R, good_of h1 h2 ?_⟩
  show (partsL xs).sum ≤ 30
  rw [beads_sum R]; omega
theorem goodB_sum {xs : List Int} (G : GoodB xs) : xs.sum ≤ 30 + tri xs.length := by
  have h1 := G.parts.sum
  rw [beads_sum G.rise] at h1
  omega
theorem pw_rises {xs : List Int} (h : xs.Pairwise (· < ·)) (hb : ∀ x ∈ xs, 0 ≤ x ∧ x ≤ 1000) : Rises 0 1000 xs := by
  refine ⟨fun j hj => hb _ (mem_getD.2 ⟨j, hj, rfl⟩), fun j hj => ?_⟩
  rw [List.pairwise_iff_getElem] at h
  have := h j (j + 1) (by omega) hj (by omega)
  rw [List.getD_eq_getElem?_getD, List.getD_eq_getElem?_getD, List.getElem?_eq_getElem hj, List.getElem?_eq_getElem (show j < xs.length by omega)]
  exact this
/-- A bead moved down keeps an abacus one. -/
theorem down_good {t : Nat} {xs : List Int} (ht : 2 ≤ t ∧ t ≤ 6) (G : GoodB xs) {a b : Int} (hg : canGo xs a b = true) (hba : b ≤ a) : isAba t (insF (mvL a b xs)) = true := by
  simp only [canGo, Bool.and_eq_true, decide_eq_true_eq, Bool.not_eq_true', decide_eq_false_iff_not] at hg
  obtain ⟨ha, hb0, hb⟩ := hg
  have hnx := pw_nodup (rise_pw G.rise.up)
  have hnd := mvL_nodup (a := a) hnx hb
  obtain ⟨q1, q2, q3⟩ := insF_all hnd
  have hlen : (insF (mvL a b xs)).length = xs.length := by rw [q3]; simp [mvL]
  have hbd : ∀ x ∈ xs, 0 ≤ x ∧ x ≤ 1000 := fun x hx => by obtain ⟨j, hj, rfl⟩ := mem_getD.1 hx; exact G.rise.bd j hj
  have h2 : goodB (insF (mvL a b xs)) = true := by
    refine goodB_of (by rw [hlen]; exact G.len) (pw_rises q1 fun x hx => ?_) ?_
    · rw [q2 x, mem_mvL ha] at hx
      rcases hx with rfl | ⟨_, hx⟩
      · have := hbd a ha; omega
      · exact hbd x hx
    · rw [hlen, insF_sum, mvL_sum hnx ha]
      have := goodB_sum G
      omega
  unfold isAba
  rw [h2, inB_iff.2 (show (2 : Int) ≤ (t : Int) ∧ (t : Int) ≤ 6 by omega)]; rfl
end Go.Proofs.Ytnjaoaamcdohoaa
/-
  Contracts: LiftBead of the program.
-/
namespace Go.Proofs.Ytnjaoaamcdohoaa
open Go.RowKit

def lfB (r : Int) (xs : List Int) (a : Int) : Bool := isAba r xs && (canGo xs a (a + r) && isAba r (insF (mvL a (a + r) xs)))
def lfR (r : Int) (xs : List Int) (a : Int) : Int := if lfB r xs a then r else 0
def lfF (r : Int) (xs : List Int) (a : Int) : List Int := if lfB r xs a then insF (mvL a (a + r) xs) else []
theorem lf_no {r : Int} {xs : List Int} {a : Int} (h : lfB r xs a = false) : lfR r xs a = 0 ∧ lfF r xs a = [] := by simp [lfR, lfF, h]
theorem lf_yes {r : Int} {xs : List Int} {a : Int} (h : lfB r xs a = true) : lfR r xs a = r ∧ lfF r xs a = insF (mvL a (a + r) xs) := by simp [lfR, lfF, h]

theorem bound_LiftBead (r : Int) (xs : List Int) (a : Int) : (lfF r xs a).length ≤ 1048576 := by
  cases h : lfB r xs a
  · rw [(lf_no h).2]; simp
  · rw [(lf_yes h).2]
    simp only [lfB, Bool.and_eq_true] at h
    have h2 := h.2.2
    simp only [isAba, Bool.and_eq_true] at h2
    have := (goodB_iff.1 h2.2).len; omega

end Go.Proofs.Ytnjaoaamcdohoaa
