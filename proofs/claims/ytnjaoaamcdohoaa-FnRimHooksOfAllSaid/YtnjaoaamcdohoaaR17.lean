/-
  Several texts in one.
-/
import Derived.Test.YtnjaoaamcdohoaaR16
import Derived.Test.YtnjaoaamcdohoaaCB
import Derived.Test.YtnjaoaamcdohoaaR02
/-
  Plain facts: the beads behind a move, in order, are those of the partition without the rim hook; its sign and its cells.
-/
namespace Go.Proofs.Ytnjaoaamcdohoaa

/-- What the program appends for the bead with the index i, if it can be moved. -/
def tkTo (p : List Int) (t : Int) (i : Nat) : Int := (beadsL p p.length).getD i 0 - t
def tkB (p : List Int) (t : Int) (i : Nat) : Bool := decide (0 ≤ tkTo p t i) && !decide (tkTo p t i ∈ beadsL p p.length)
def tkM (p : List Int) (t : Int) (i : Nat) : List Int := ((beadsL p p.length).set i (tkTo p t i)).mergeSort fun x y => decide (x ≤ y)
def tkS (p : List Int) (t : Int) (i : Nat) : Int := sgn (btN (beadsL p p.length) (tkTo p t i) ((beadsL p p.length).getD i 0) p.length)

theorem bead_num {p : List Int} {i : Nat} (hi : i < p.length) : (beadsL p p.length).getD i 0 = num p (p.length - 1 - i) + p.length := by
  unfold beadsL
  rw [fnRow_get _ _ _ hi]
  unfold bead num
  omega
theorem num_past {p : List Int} {s : Nat} (h : p.length ≤ s) : num p s = -(s : Int) - 1 := by unfold num; rw [getD_past p s h]; omega
/-- Where no bead is, there is a gap of a column. -/
theorem mv_no {p : List Int} (G : Good p) {t : Int} {i : Nat} (hi : i < p.length) (h : tkB p t i = false) : rowHits p t (p.length - 1 - i) = [] := by
  have hr : p.length - 1 - i < p.length := by omega
  match hh : rowHits p t (p.length - 1 - i) with
  | [] => rfl
  | q :: l =>
    exfalso
    have hq : q ∈ rowHits p t (p.length - 1 - i) := by rw [hh]; simp
    obtain ⟨_, h2, h3⟩ := (rowHits_iff hr).1 hq
    rw [hook_gap G hr h2] at h3
    have hto : tkTo p t i = gapN p q.2 + p.length := by unfold tkTo; rw [bead_num hi]; omega
    have hb := (colH_bound p (q.2 : Int)).2
    unfold tkB at h
    rw [hto] at h
    have h0 : (0 : Int) ≤ gapN p q.2 + p.length := by unfold gapN; omega
    rw [decide_eq_true h0, Bool.true_and, Bool.not_eq_false', decide_eq_true_eq, mem_beadsL] at h
    obtain ⟨s, _, hs⟩ := h
    exact (gap_lt G (c := (q.2 : Int)) (by omega) s).1 (by omega)
structure MvOK (p : List Int) (t : Int) (i c : Nat) : Prop where
  col : (c : Int) < p.getD (p.length - 1 - i) 0
  gap : gapN p c = num p (p.length - 1 - i) - t
  hits : rowHits p t (p.length - 1 - i) = [(p.length - 1 - i, c)]
  too : tkTo p t i = gapN p c + p.length
theorem mv_yes {p : List Int} (G : Good p) {t : Int} (ht : 0 < t) {i : Nat} (hi : i < p.length) (h : tkB p t i = true) : ∃ c, MvOK p t i c := by
  have hr : p.length - 1 - i < p.length := by omega
  simp only [tkB, Bool.and_eq_true, decide_eq_true_eq, Bool.not_eq_true', decide_eq_false_iff_not] at h
  obtain ⟨h0, hn⟩ := h
  have hto : tkTo p t i = num p (p.length - 1 - i) - t + p.length := by unfold tkTo; rw [bead_num hi]; omega
  have hne : ∀ s, num p s ≠ num p (p.length - 1 - i) - t := by
    intro s e
    by_cases hs : s < p.length
    · exact hn (mem_beadsL.2 ⟨s, hs, by rw [hto]; omega⟩)
    · rw [num_past (by omega)] at e; omega
  obtain ⟨c, hc0, hc⟩ := gap_of G hne
  obtain ⟨c', rfl⟩ : ∃ c' : Nat, c = c' := ⟨c.toNat, by omega⟩
  have hcol := (gap_lt G hc0 (p.length - 1 - i)).2.1 (by omega)
  exact ⟨c', hcol, hc, rowHits_one G hr hcol (by rw [hook_gap G hr hcol]; omega), by omega⟩
theorem outL_get {p : List Int} {r c low : Nat} (R : RimOK p r c low) (j : Nat) (hj : j < p.length) : (outL p r c low).getD j 0 = rest p r c low j := by
  obtain ⟨m, h1, h2⟩ := out_ex R p.length (Nat.le_refl _) (fun j h1 h2 => by omega)
  rw [← h2]
  by_cases h : j < m
  · rw [List.getD_eq_getElem?_getD, List.getElem?_take, if_pos h, ← List.getD_eq_getElem?_getD, restL_get _ _ _ _ _ hj]
  · have hz : (outL p r c low).length ≤ j := by rw [← h2, List.length_take]; omega
    have e : ((restL p r c low).take m).getD j 0 = 0 := getD_past _ _ (by rw [List.length_take]; omega)
    rw [e]
    -- what is left out is nothing
    have hs := sum_filter_pos (restL p r c low) (fun x hx => by
      obtain ⟨k, hk, rfl⟩ := List.getElem_of_mem hx
      rw [restL_len] at hk
      have := (R.rest_pos hk).1
      rw [← restL_get p r c low k hk, List.getD_eq_getElem?_getD, List.getElem?_eq_getElem (by rw [restL_len]; exact hk)] at this
      exact this)
    have he : (outL p r c low).sum = (restL p r c low).sum := hs
    rw [← h2] at he
    have e2 := congrArg List.sum (List.take_append_drop m (restL p r c low))
    rw [List.sum_append] at e2
    have hd0 : ((restL p r c low).drop m).sum = 0 := by omega
    have hpj := part_sum ((restL p r c low).drop m) (fun i hi => by
      rw [List.length_drop, restL_len] at hi
      rw [List.getD_eq_getElem?_getD, List.getElem?_drop, ← List.getD_eq_getElem?_getD, restL_get _ _ _ _ _ (by omega)]
      exact (R.rest_pos (by omega)).1) (j - m) (by rw [List.length_drop, restL_len]; omega)
    rw [List.getD_eq_getElem?_getD, List.getElem?_drop, ← List.getD_eq_getElem?_getD, show m + (j - m) = j by omega, restL_get _ _ _ _ _ hj] at hpj
    have := (R.rest_pos hj).1
    omega
theorem out_num {p : List Int} {r c low : Nat} (R : RimOK p r c low) (s : Nat) (hs : s < p.length) :
    num (outL p r c low) s = if r ≤ s ∧ s < low then num p (s + 1) else if s = low then gapN p c else num p s := by
  have hc := R.col
  unfold num
  rw [outL_get R s hs]
  unfold rest
  by_cases h1 : r ≤ s ∧ s ≤ low
  · rw [if_pos h1]
    by_cases h2 : s < low
    · rw [if_pos ⟨h1.1, h2⟩, R.fr_up (by omega)]; omega
    · have : s = low := by omega
      subst this
      rw [if_neg (by omega), if_pos rfl, R.fr_low]
      unfold gapN
      omega
  · rw [if_neg h1, if_neg (by omega)]
    by_cases e : s = low
    · have := R.r_le; omega
    · rw [if_neg e]
theorem lt_le {L : List Int} (h : L.Pairwise (· < ·)) : L.Pairwise (fun x y => x ≤ y) := h.imp fun h => by omega
theorem lt_nodup {L : List Int} (h : L.Pairwise (· < ·)) : L.Nodup := h.imp fun h => by omega
theorem perm_sumI {L M : List Int} (h : L.Perm M) : L.sum = M.sum := by
  induction h with
  | nil => rfl
  | cons x _ ih => simp [ih]
  | swap x y l => simp; omega
  | trans _ _ h1 h2 => exact h1.trans h2
theorem nodup_inj {L : List Int} (hn : L.Nodup) {a b : Nat} (ha : a < L.length) (hb : b < L.length) (e : L[a] = L[b]) : a = b := by
  have h := List.pairwise_iff_getElem.1 (List.nodup_iff_pairwise_ne.1 hn)
  rcases Nat.lt_trichotomy a b with h1 | h1 | h1
  · exact absurd e (h a b ha hb h1)
  · exact h1
  · exact absurd e.symm (h b a hb ha h1)
theorem set_mem_nodup {L : List Int} {i : Nat} {v : Int} (hn : L.Nodup) (hi : i < L.length) (y : Int) : y ∈ L.set i v ↔ y = v ∨ (y ∈ L ∧ y ≠ L.getD i 0) := by
  rw [List.mem_iff_getElem]
  simp only [List.length_set, List.getElem_set]
  have hgi : L.getD i 0 = L[i] := by rw [List.getD_eq_getElem?_getD, List.getElem?_eq_getElem hi]; rfl
  rw [hgi]
  constructor
  · rintro ⟨j, hj, e⟩
    by_cases h : i = j
    · rw [if_pos h] at e; exact .inl e.symm
    · rw [if_neg h] at e
      refine .inr ⟨e ▸ List.getElem_mem hj, fun e2 => h ?_⟩
      exact (nodup_inj hn _ hi (e.trans e2)).symm
  · rintro (rfl | ⟨h1, h2⟩)
    · exact ⟨i, hi, by rw [if_pos rfl]⟩
    · obtain ⟨j, hj, rfl⟩ := List.getElem_of_mem h1
      exact ⟨j, hj, by rw [if_neg (fun e => h2 (by subst e; rfl))]⟩
theorem set_nodup {L : List Int} {i : Nat} {v : Int} (hn : L.Nodup) (_hi : i < L.length) (hv : v ∉ L) : (L.set i v).Nodup := by
  rw [List.nodup_iff_pairwise_ne, List.pairwise_iff_getElem]
  intro a b ha hb hab
  simp only [List.length_set] at ha hb
  simp only [List.getElem_set]
  by_cases h1 : i = a
  · rw [if_pos h1, if_neg (by omega)]
    exact fun e => hv (e ▸ List.getElem_mem hb)
  · rw [if_neg h1]
    by_cases h2 : i = b
    · rw [if_pos h2]; exact fun e => hv (e ▸ List.getElem_mem ha)
    · rw [if_neg h2]
      exact fun e => by have := nodup_inj hn ha hb e; omega
theorem sum_set' (p : List Int) (r : Nat) (h : r < p.length) (x : Int) : (p.set r x).sum = p.sum + x - p.getD r 0 := sum_set p r h x

theorem mv_sorted {p : List Int} (G : Good p) {t : Int} (_ht : 0 < t) {i c : Nat} (hi : i < p.length) (M : MvOK p t i c) (hm : tkB p t i = true) :
    tkM p t i = beadsL (takeL p (p.length - 1 - i, c)) p.length ∧ (takeL p (p.length - 1 - i, c)).sum = p.sum - t ∧ Good (takeL p (p.length - 1 - i, c)) ∧ (takeL p (p.length - 1 - i, c)).length ≤ p.length := by
  have hr : p.length - 1 - i < p.length := by omega
  have R := rim_ok G hr M.col
  change RimOK p (p.length - 1 - i) c (lowN p c) at R
  obtain ⟨Gq, _⟩ := out_good R
  have hql := outL_len p (p.length - 1 - i) c (lowN p c)
  have e : takeL p (p.length - 1 - i, c) = outL p (p.length - 1 - i) c (lowN p c) := rfl
  rw [e]
  have h40 : p.length ≤ 40 := by have := G.len; omega
  have hX := beads_pw G (Nat.le_refl p.length) h40
  have hZ := beads_pw Gq hql h40
  have hXl := beadsL_len p p.length
  simp only [tkB, Bool.and_eq_true, decide_eq_true_eq, Bool.not_eq_true', decide_eq_false_iff_not] at hm
  obtain ⟨h0, hn⟩ := hm
  have hbi := bead_num hi
  have hperm : ((beadsL p p.length).set i (tkTo p t i)).Perm (beadsL (outL p (p.length - 1 - i) c (lowN p c)) p.length) := by
    refine (List.perm_ext_iff_of_nodup (set_nodup (lt_nodup hX) (by omega) hn) (lt_nodup hZ)).2 fun y => ?_
    rw [set_mem_nodup (lt_nodup hX) (by omega), mem_beadsL, mem_beadsL, hbi, M.too]
    have hlow := R.low_lt
    have hrl := R.r_le
    constructor
    · rintro (rfl | ⟨⟨s, hs, e1⟩, e2⟩)
      · exact ⟨lowN p c, hlow, by rw [out_num R _ hlow, if_neg (by omega), if_pos rfl]; omega⟩
      · -- a row that is not r
        by_cases h1 : p.length - 1 - i < s ∧ s ≤ lowN p c
        · refine ⟨s - 1, by omega, ?_⟩
          rw [out_num R _ (by omega), if_pos (by omega), show s - 1 + 1 = s by omega]; exact e1
        · refine ⟨s, hs, ?_⟩
          have hsr : s ≠ p.length - 1 - i := fun h => e2 (by rw [h] at e1; omega)
          rw [out_num R _ hs, if_neg (by omega), if_neg (by omega)]; exact e1
    · rintro ⟨s, hs, e1⟩
      rw [out_num R _ hs] at e1
      by_cases h1 : p.length - 1 - i ≤ s ∧ s < lowN p c
      · rw [if_pos h1] at e1
        refine .inr ⟨⟨s + 1, by omega, e1⟩, fun h => ?_⟩
        have : num p (s + 1) < num p (p.length - 1 - i) := by
          have := down_le p G.down (p.length - 1 - i) (s + 1 - (p.length - 1 - i)) (by omega)
          rw [show p.length - 1 - i + (s + 1 - (p.length - 1 - i)) = s + 1 by omega] at this
          unfold num; omega
        omega
      · rw [if_neg h1] at e1
        by_cases h2 : s = lowN p c
        · rw [if_pos h2] at e1; left; omega
        · rw [if_neg h2] at e1
          refine .inr ⟨⟨s, hs, e1⟩, fun h => ?_⟩
          have hne : s < p.length - 1 - i ∨ lowN p c < s := by omega
          rcases hne with h3 | h3
          · have := down_le p G.down s (p.length - 1 - i - s) (by omega)
            rw [show s + (p.length - 1 - i - s) = p.length - 1 - i by omega] at this
            unfold num at e1 h; omega
          · have := down_le p G.down (p.length - 1 - i) (s - (p.length - 1 - i)) (by omega)
            rw [show p.length - 1 - i + (s - (p.length - 1 - i)) = s by omega] at this
            unfold num at e1 h; omega
  refine ⟨?_, ?_, Gq, hql⟩
  · unfold tkM
    refine asc_eq ((List.mergeSort_perm _ _).trans hperm) ?_ (lt_le hZ)
    have hs := List.pairwise_mergeSort (le := fun x y : Int => decide (x ≤ y)) (fun a b c h1 h2 => by simp at h1 h2 ⊢; omega) (fun a b => by simp; omega) ((beadsL p p.length).set i (tkTo p t i))
    exact hs.imp fun h => by simpa using h
  · have h1 := perm_sumI hperm
    rw [sum_set' _ _ (by omega), sum_beadsL p _ (Nat.le_refl _), sum_beadsL _ _ hql] at h1
    unfold tkTo at h1
    omega
theorem mv_bt {p : List Int} (G : Good p) {t : Int} (_ht : 0 < t) {i c : Nat} (hi : i < p.length) (M : MvOK p t i c) :
    btN (beadsL p p.length) (tkTo p t i) ((beadsL p p.length).getD i 0) p.length = (lowN p c : Int) - (p.length - 1 - i : Nat) := by
  have hr : p.length - 1 - i < p.length := by omega
  have R := rim_ok G hr M.col
  change RimOK p (p.length - 1 - i) c (lowN p c) at R
  have hlow := R.low_lt
  have hrl := R.r_le
  have key : ∀ k, k ≤ p.length → btN (beadsL p p.length) (tkTo p t i) ((beadsL p p.length).getD i 0) k = (min k i : Nat) - (min k (p.length - 1 - lowN p c) : Nat) := by
    intro k
    induction k with
    | zero => intro _; simp [btN]
    | succ k ih =>
      intro hk
      rw [btN_succ _ _ _ _ (by rw [beadsL_len]; omega), ih (by omega), bead_num (by omega : k < p.length), bead_num hi, M.too]
      have hgk := (gap_lt G (c := (c : Int)) (by omega) (p.length - 1 - k)).2
      have hck := colH_iff G (c : Int) (by omega) (p.length - 1 - k)
      rw [R.col] at hck
      have hlt : num p (p.length - 1 - k) < num p (p.length - 1 - i) ↔ k < i := by
        constructor
        · intro h
          rcases Nat.lt_or_ge k i with h2 | h2
          · exact h2
          · have := down_le p G.down (p.length - 1 - k) (k - i) (by omega)
            rw [show p.length - 1 - k + (k - i) = p.length - 1 - i by omega] at this
            unfold num at h; omega
        · intro h
          have := down_le p G.down (p.length - 1 - i) (i - k) (by omega)
          rw [show p.length - 1 - i + (i - k) = p.length - 1 - k by omega] at this
          unfold num; omega
      unfold btV btB
      by_cases a : p.length - 1 - lowN p c ≤ k
      · have hg : gapN p (c : Int) < num p (p.length - 1 - k) := hgk.2 (hck.1 (by omega))
        by_cases b : k < i
        · have := hlt.2 b
          rw [if_pos (by simp; omega)]; omega
        · have hnb : ¬ num p (p.length - 1 - k) < num p (p.length - 1 - i) := fun h => b (hlt.1 h)
          rw [if_neg (by simp; omega)]; omega
      · have hg : ¬ gapN p (c : Int) < num p (p.length - 1 - k) := fun h => a (by have := hck.2 (hgk.1 h); omega)
        rw [if_neg (by simp; omega)]; omega
  rw [key p.length (Nat.le_refl _)]
  omega
theorem mv_sign {p : List Int} (G : Good p) {t : Int} (ht : 0 < t) {i c : Nat} (hi : i < p.length) (M : MvOK p t i c) : tkS p t i = takeSg p (p.length - 1 - i, c) := by
  unfold tkS takeSg
  rw [mv_bt G ht hi M]
/-- The rims that the program takes, as it finds them. -/
def tkK (p : List Int) (t : Int) : Nat → List (List Int × Int)
  | 0 => []
  | k + 1 => tkK p t k ++ (rowHits p t (p.length - 1 - k)).map fun q => (takeL p q, takeSg p q)
def tkL (p : List Int) (t : Int) : List (List Int × Int) := tkK p t p.length
end Go.Proofs.Ytnjaoaamcdohoaa
/-
  Contracts: IsInside of the program and of the model.
-/
namespace Go.Proofs.Ytnjaoaamcdohoaa
open Go.RowKit

def insideF (xs ys : List Int) : Bool := (good xs && good ys) && insideB xs ys
theorem insideF_t {xs ys : List Int} (h1 : good xs = true) (h2 : good ys = true) : insideF xs ys = insideB xs ys := by simp [insideF, h1, h2]
theorem insideF_f {xs ys : List Int} (h : (good xs && good ys) = false) : insideF xs ys = false := by simp [insideF, h]

set_option maxHeartbeats 1000000 in
theorem spec_IsInside (A : Option Addr) (c : Nat) (xs : List Int) (B : Option Addr) (d : Nat) (ys : List Int) (w : World) (hl : xs.length ≤ 1048576) (hc : Cells w A xs) (hl2 : ys.length ≤ 1048576) (hd : Cells w B ys) :
    Calls Try.prog 17 #[.slice A xs.length c, .slice B ys.length d] w fun e w' => e = .returned (.tuple #[.bool (insideF xs ys), .bool (good xs && good ys)]) ∧ Below w.heap.size w w' := by
  cases hg : good xs
  · have hb : (good xs && good ys) = false := by rw [hg]; rfl
    rw [insideF_f hb, Bool.false_and]
    have HG := hid hg; clear hg hb
    go_enter Try.func17, Try.ntmps17
    go_wp2_with (go_at_call 20; refine (ptGood_b _ _ _ _ hl hc _ HG.out).mono ?_; rintro e w' ⟨rfl, n, rfl⟩)
    go_ret2
    exact ⟨rfl, below_drew' _ _⟩
  cases hh : good ys
  · have hb : (good xs && good ys) = false := by rw [hh, Bool.and_false]
    rw [insideF_f hb, Bool.and_false]
    have HG := hid hg; clear hg hb
    have HH := hid hh; clear hh
    go_enter Try.func17, Try.ntmps17
    go_wp2_with fail
    refine (ptGood_b _ _ _ _ hl hc _ HG.out).mono ?_
    rintro e w' ⟨rfl, n, rfl⟩
    go_wp2_with fail
    refine (ptGood_b _ _ _ _ hl2 (by exact hd) _ HH.out).mono ?_
    rintro e w' ⟨rfl, n2, rfl⟩
    go_wp2_with fail
    go_ret2
    exact ⟨rfl, below_drew' _ _⟩
  rw [insideF_t hg hh, Bool.and_true]
  have G := (good_iff xs).1 hg
  have hn := G.len
  have HG := hid hg; clear hg G
  have HH := hid hh; clear hh
  have hB : Below w.heap.size w w := Below.refl _ _
  by_cases hlen : ys.length < xs.length
  · rw [inside_no_len hlen]
    go_enter Try.func17, Try.ntmps17
    go_wp2_with fail
    refine (ptGood_b _ _ _ _ hl hc _ HG.out).mono ?_
    rintro e w' ⟨rfl, n, rfl⟩
    go_wp2_with fail
    refine (ptGood_b _ _ _ _ hl2 (by exact hd) _ HH.out).mono ?_
    rintro e w' ⟨rfl, n2, rfl⟩
    go_wp2_with fail
    go_ret2
    exact ⟨rfl, below_drew' _ _⟩
  go_enter Try.func17, Try.ntmps17
  go_wp2_with fail
  refine (ptGood_b _ _ _ _ hl hc _ HG.out).mono ?_
  rintro e w' ⟨rfl, n, rfl⟩
  go_wp2_with fail
  refine (ptGood_b _ _ _ _ hl2 (by exact hd) _ HH.out).mono ?_
  rintro e w' ⟨rfl, n2, rfl⟩
  go_wp2_with fail
  go_loop [23] (fun i => ∃ k : Nat, k ≤ xs.length ∧ i = .int .i64 k ∧ Hid (∀ j, j < k → xs.getD j 0 ≤ ys.getD j 0)) (fun i => xs.length - (intOf i).toNat)
  case atStart => exact ⟨0, Nat.zero_le _, rfl, hid fun j hj => absurd hj (by omega)⟩
  case round =>
    obtain ⟨k, hk, rfl, HK⟩ := hrel
    by_cases hlt : k < xs.length
    · obtain ⟨b, o, rfl, hcc⟩ := hc (by omega)
      obtain ⟨b2, o2, rfl, hdd⟩ := hd (by omega)
      have hck := hcc k hlt
      have hdk := hdd k (by omega)
      clear hcc hdd
      obtain ⟨x, hx⟩ : ∃ x, x = xs.getD k 0 := ⟨_, rfl⟩
      obtain ⟨y, hy⟩ : ∃ y, y = ys.getD k 0 := ⟨_, rfl⟩
      rw [← hx] at hck
      rw [← hy] at hdk
      have HX := hid hx; clear hx
      have HY := hid hy; clear hy
      have hk2 : (k : Int) < ys.length := by omega
      by_cases hxy : x ≤ y
      · go_wp2_with fail
        go_round
        case rel =>
          refine ⟨k + 1, by omega, by go_num, hid fun j hj => ?_⟩
          by_cases hjk : j < k
          · exact HK.out j hjk
          · have : j = k := by omega
            subst this; rw [← HX.out, ← HY.out]; exact hxy
        case measure => simp [intOf]; omega
      · go_wp2_with fail
        go_ret2
        exact ⟨ret_two (congrArg Value.bool (inside_no hlt (by rw [← HX.out, ← HY.out]; omega)).symm) rfl, below_drew' _ _⟩
    · go_wp2_with fail
      go_ret2
      exact ⟨ret_two (congrArg Value.bool (inside_yes (by omega) fun j hj => HK.out j (by omega)).symm) rfl, below_drew' _ _⟩

set_option maxHeartbeats 1000000 in
theorem impl_IsInside (A : Option Addr) (c : Nat) (xs : List Int) (B : Option Addr) (d : Nat) (ys : List Int) (w : World) (hl : xs.length ≤ 1048576) (hc : Cells w A xs) (hl2 : ys.length ≤ 1048576) (hd : Cells w B ys) :
    Calls Try.prog 11 #[.slice A xs.length c, .slice B ys.length d] w fun e w' => e = .returned (.tuple #[.bool (insideF xs ys), .bool (good xs && good ys)]) ∧ Below w.heap.size w w' := by
  cases hg : good xs
  · have hb : (good xs && good ys) = false := by rw [hg]; rfl
    rw [insideF_f hb, Bool.false_and]
    have HG := hid hg; clear hg hb
    go_enter Try.func11, Try.ntmps11
    go_wp2_with (go_at_call 29; refine (IsPartition_b _ _ _ _ hl hc _ HG.out).mono ?_; rintro e w' ⟨rfl, rfl⟩)
    go_ret2
    exact ⟨rfl, Below.refl _ _⟩
  cases hh : good ys
  · have hb : (good xs && good ys) = false := by rw [hh, Bool.and_false]
    rw [insideF_f hb, Bool.and_false]
    have HG := hid hg; clear hg hb
    have HH := hid hh; clear hh
    go_enter Try.func11, Try.ntmps11
    go_wp2_with fail
    refine (IsPartition_b _ _ _ _ hl hc _ HG.out).mono ?_
    rintro e w' ⟨rfl, rfl⟩
    go_wp2_with fail
    refine (IsPartition_b _ _ _ _ hl2 (by exact hd) _ HH.out).mono ?_
    rintro e w' ⟨rfl, rfl⟩
    go_wp2_with fail
    go_ret2
    exact ⟨rfl, Below.refl _ _⟩
  rw [insideF_t hg hh, Bool.and_true]
  have G := (good_iff xs).1 hg
  have hn := G.len
  have HG := hid hg; clear hg G
  have HH := hid hh; clear hh
  have hB : Below w.heap.size w w := Below.refl _ _
  by_cases hlen : ys.length < xs.length
  · rw [inside_no_len hlen]
    go_enter Try.func11, Try.ntmps11
    go_wp2_with fail
    refine (IsPartition_b _ _ _ _ hl hc _ HG.out).mono ?_
    rintro e w' ⟨rfl, rfl⟩
    go_wp2_with fail
    refine (IsPartition_b _ _ _ _ hl2 (by exact hd) _ HH.out).mono ?_
    rintro e w' ⟨rfl, rfl⟩
    go_wp2_with fail
    go_ret2
    exact ⟨rfl, Below.refl _ _⟩
  go_enter Try.func11, Try.ntmps11
  go_wp2_with fail
  refine (IsPartition_b _ _ _ _ hl hc _ HG.out).mono ?_
  rintro e w' ⟨rfl, rfl⟩
  go_wp2_with fail
  refine (IsPartition_b _ _ _ _ hl2 (by exact hd) _ HH.out).mono ?_
  rintro e w' ⟨rfl, rfl⟩
  go_wp2_with fail
  go_loop [23] (fun i => ∃ k : Nat, k ≤ xs.length ∧ i = .int .i64 k ∧ Hid (∀ j, j < k → xs.getD j 0 ≤ ys.getD j 0)) (fun i => xs.length - (intOf i).toNat)
  case atStart => exact ⟨0, Nat.zero_le _, rfl, hid fun j hj => absurd hj (by omega)⟩
  case round =>
    obtain ⟨k, hk, rfl, HK⟩ := hrel
    by_cases hlt : k < xs.length
    · obtain ⟨b, o, rfl, hcc⟩ := hc (by omega)
      obtain ⟨b2, o2, rfl, hdd⟩ := hd (by omega)
      have hck := hcc k hlt
      have hdk := hdd k (by omega)
      clear hcc hdd
      obtain ⟨x, hx⟩ : ∃ x, x = xs.getD k 0 := ⟨_, rfl⟩
      obtain ⟨y, hy⟩ : ∃ y, y = ys.getD k 0 := ⟨_, rfl⟩
      rw [← hx] at hck
      rw [← hy] at hdk
      have HX := hid hx; clear hx
      have HY := hid hy; clear hy
      have hk2 : (k : Int) < ys.length := by omega
      by_cases hxy : x ≤ y
      · go_wp2_with fail
        go_round
        case rel =>
          refine ⟨k + 1, by omega, by go_num, hid fun j hj => ?_⟩
          by_cases hjk : j < k
          · exact HK.out j hjk
          · have : j = k := by omega
            subst this; rw [← HX.out, ← HY.out]; exact hxy
        case measure => simp [intOf]; omega
      · go_wp2_with fail
        go_ret2
        exact ⟨ret_two (congrArg Value.bool (inside_no hlt (by rw [← HX.out, ← HY.out]; omega)).symm) rfl, Below.refl _ _⟩
    · go_wp2_with fail
      go_ret2
      exact ⟨ret_two (congrArg Value.bool (inside_yes (by omega) fun j hj => HK.out j (by omega)).symm) rfl, Below.refl _ _⟩

end Go.Proofs.Ytnjaoaamcdohoaa
