/-
  Several texts in one.
-/
import Derived.Test.YtmbfobcbnnalbaaCP
import Derived.Test.YtmbfobcbnnalbaaHkMath
import Derived.Test.YtmbfobcbnnalbaaBetw
import Derived.Test.YtmbfobcbnnalbaaChnMath
import Derived.Test.YtmbfobcbnnalbaaOwnCopy
import Derived.Test.YtmbfobcbnnalbaaCB
import Derived.Test.YtmbfobcbnnalbaaHas
/-
  Plain facts: a bead that is moved down to a gap takes the rim hook of a cell away.
-/
namespace Go.Proofs.Ytmbfobcbnnalbaa

theorem asc_eq : ∀ {L M : List Int}, L.Perm M → L.Pairwise (fun x y => x ≤ y) → M.Pairwise (fun x y => x ≤ y) → L = M
  | [], M, h, _, _ => by rw [List.nil_perm.1 h]
  | x :: L, [], h, _, _ => by have := h.length_eq; simp at this
  | x :: L, y :: M, h, h1, h2 => by
    have hxm : x ∈ y :: M := h.mem_iff.1 (List.mem_cons_self ..)
    have hym : y ∈ x :: L := h.mem_iff.2 (List.mem_cons_self ..)
    have e : x = y := by
      rcases List.mem_cons.1 hxm with e | hx
      · exact e
      · rcases List.mem_cons.1 hym with e | hy
        · exact e.symm
        · have := (List.pairwise_cons.1 h1).1 y hy
          have := (List.pairwise_cons.1 h2).1 x hx
          omega
    subst e
    rw [asc_eq (List.Perm.cons_inv h) (List.pairwise_cons.1 h1).2 (List.pairwise_cons.1 h2).2]

/-! Sums of beads. -/
theorem sum_fn_add (f g : Nat → Int) : ∀ n, (fnRow n fun j => f j + g j).sum = (fnRow n f).sum + (fnRow n g).sum
  | 0 => by simp [fnRow]
  | n + 1 => by
    have := sum_fn_add f g n
    simp only [fnRow, List.range_succ, List.map_append, List.map_cons, List.map_nil, List.sum_append, List.sum_cons, List.sum_nil] at this ⊢
    omega
theorem sum_fn_rev (h : Nat → Int) : ∀ n, (fnRow n fun j => h (n - 1 - j)).sum = (fnRow n h).sum
  | 0 => by simp [fnRow]
  | n + 1 => by
    have ih := sum_fn_rev h n
    have e1 : (fnRow (n + 1) fun j => h (n + 1 - 1 - j)).sum = h n + (fnRow n fun j => h (n - 1 - j)).sum := by
      simp only [fnRow, List.range_succ_eq_map, List.map_cons, List.map_map, List.sum_cons]
      congr 2
      apply List.map_congr_left
      intro j _
      simp only [Function.comp]
      congr 1; omega
    have e2 : (fnRow (n + 1) h).sum = (fnRow n h).sum + h n := by
      simp [fnRow, List.range_succ, List.sum_append]
    rw [e1, e2, ih]; omega
theorem sum_fn_getD : ∀ (p : List Int) (n : Nat), p.length ≤ n → (fnRow n fun j => p.getD j 0).sum = p.sum
  | [], n, _ => by
    have : (fnRow n fun j => ([] : List Int).getD j 0) = List.replicate n 0 := by rw [← rowF_zero n]; exact rowF_ext _ _ _ fun j _ => by simp
    rw [this]; simp
  | x :: t, 0, h => absurd h (by simp)
  | x :: t, n + 1, h => by
    have ih := sum_fn_getD t n (by simpa using h)
    simp only [fnRow, List.range_succ_eq_map, List.map_cons, List.map_map, List.sum_cons] at ih ⊢
    rw [← ih]
    simp [Function.comp_def]
theorem sum_beadsL (p : List Int) (n : Nat) (h : p.length ≤ n) : (beadsL p n).sum = (upTo n).sum + p.sum := by
  have e : beadsL p n = fnRow n fun j => ((j : Nat) : Int) + (fun i => p.getD i 0) (n - 1 - j) := rfl
  rw [e, sum_fn_add (fun j => (j : Int)) (fun j => (fun i => p.getD i 0) (n - 1 - j)), sum_fn_rev (fun i => p.getD i 0), sum_fn_getD p n h]
  rfl

/-! The hits of a row. -/
def rowHits (p : List Int) (t : Int) (r : Nat) : List (Nat × Nat) := hitRow ((hooksR p).getD r []) t r ((hooksR p).getD r []).length
theorem row_of {p : List Int} {r : Nat} (hr : r < p.length) : (hooksR p).getD r [] = rowF (hookN p) r (p.getD r 0).toNat := by unfold hooksR; rw [rowsF_get p _ _ _ hr]
theorem hitRow_iff {row : List Int} {t : Int} {r : Nat} {q : Nat × Nat} : ∀ {m : Nat}, q ∈ hitRow row t r m ↔ q.1 = r ∧ q.2 < m ∧ row.getD q.2 0 = t
  | 0 => by simp [hitRow]
  | m + 1 => by
    have ih := hitRow_iff (row := row) (t := t) (r := r) (q := q) (m := m)
    unfold hitRow
    split
    · rename_i h
      rw [List.mem_append, ih, List.mem_singleton]
      constructor
      · rintro (h1 | h1)
        · exact ⟨h1.1, by omega, h1.2.2⟩
        · subst h1; exact ⟨rfl, by simp, h⟩
      · rintro ⟨h1, h2, h3⟩
        by_cases e : q.2 = m
        · right; exact Prod.ext h1 e
        · left; exact ⟨h1, by omega, h3⟩
    · rename_i h
      rw [ih]
      constructor
      · rintro ⟨h1, h2, h3⟩; exact ⟨h1, by omega, h3⟩
      · rintro ⟨h1, h2, h3⟩
        refine ⟨h1, ?_, h3⟩
        by_cases e : q.2 = m
        · rw [e] at h3; exact absurd h3 h
        · omega
theorem hitRow_nodup (row : List Int) (t : Int) (r : Nat) : ∀ m, (hitRow row t r m).Nodup
  | 0 => by simp [hitRow]
  | m + 1 => by
    have ih := hitRow_nodup row t r m
    unfold hitRow
    split
    · rw [List.nodup_append]
      refine ⟨ih, by simp, ?_⟩
      intro a ha b hb e
      rw [List.mem_singleton] at hb
      subst hb
      subst e
      have := (hitRow_iff.1 ha).2.1
      simp at this
    · exact ih
theorem rowHits_iff {p : List Int} {t : Int} {r : Nat} (hr : r < p.length) {q : Nat × Nat} : q ∈ rowHits p t r ↔ q.1 = r ∧ (q.2 : Int) < p.getD r 0 ∧ hookN p r q.2 = t := by
  unfold rowHits
  rw [hitRow_iff, row_of hr, rowF_len]
  constructor
  · rintro ⟨h1, h2, h3⟩
    rw [rowF_get _ _ _ _ h2] at h3
    exact ⟨h1, by omega, h3⟩
  · rintro ⟨h1, h2, h3⟩
    have : q.2 < (p.getD r 0).toNat := by omega
    exact ⟨h1, this, by rw [rowF_get _ _ _ _ this]; exact h3⟩
theorem gap_mono {p : List Int} (G : Good p) {c d : Int} (hc : 0 ≤ c) (h : c < d) : gapN p c < gapN p d := by
  have h1 : colH p d ≤ colH p c := by
    rcases Int.lt_or_le (colH p c) (colH p d) with hlt | hle
    · exfalso
      have b1 := (colH_bound p c).1
      obtain ⟨r, hr⟩ : ∃ r : Nat, (r : Int) = colH p c := ⟨(colH p c).toNat, by omega⟩
      have := (colH_iff G d (by omega) r).1 (by omega)
      have h2 := (colH_iff G c hc r).2 (by omega)
      omega
    · exact hle
  unfold gapN; omega
theorem rowHits_one {p : List Int} (G : Good p) {t : Int} {r c : Nat} (hr : r < p.length) (hc : (c : Int) < p.getD r 0) (hh : hookN p r c = t) : rowHits p t r = [(r, c)] := by
  have hm : (r, c) ∈ rowHits p t r := (rowHits_iff hr).2 ⟨rfl, hc, hh⟩
  have hall : ∀ q ∈ rowHits p t r, q = (r, c) := by
    intro q hq
    obtain ⟨h1, h2, h3⟩ := (rowHits_iff hr).1 hq
    rw [hook_gap G hr h2] at h3
    rw [hook_gap G hr hc] at hh
    refine Prod.ext h1 ?_
    rcases Nat.lt_trichotomy q.2 c with h | h | h
    · have := gap_mono G (c := (q.2 : Int)) (d := (c : Int)) (by omega) (by omega); omega
    · exact h
    · have := gap_mono G (c := (c : Int)) (d := (q.2 : Int)) (by omega) (by omega); omega
  have hnd : (rowHits p t r).Nodup := hitRow_nodup _ _ _ _
  match hrh : rowHits p t r, hm, hall, hnd with
  | [], hm, _, _ => simp at hm
  | [a], _, hall, _ => rw [hall a (by simp)]
  | a :: b :: l, _, hall, hnd =>
    have ha := hall a (by simp)
    have hb := hall b (by simp)
    rw [ha, hb] at hnd
    simp at hnd
end Go.Proofs.Ytmbfobcbnnalbaa
/-
  Plain facts: the beads behind a move, in order, are those of the partition without the rim hook; its sign and its cells.
-/
namespace Go.Proofs.Ytmbfobcbnnalbaa

/-- What the program appends for the bead with the index i, if it can be moved. -/
def tkTo (p : List Int) (t : Int) (i : Nat) : Int := (beadsL p p.length).getD i 0 - t
def tkB (p : List Int) (t : Int) (i : Nat) : Bool := decide (0 ≤ tkTo p t i) && !decide (tkTo p t i ∈ beadsL p p.length)
def tkM (p : List Int) (t : Int) (i : Nat) : List Int := ((beadsL p p.length).set i (tkTo p t i)).mergeSort fun x y => decide (x ≤ y)
def tkS (p : List Int) (t : Int) (i : Nat) : Int := sgn (btN (beadsL p p.length) (tkTo p t i) ((beadsL p p.length).getD i 0) p.length)

theorem bead_num {p : List Int} {i : Nat} (hi : i < p.length) : (beadsL p p.length).getD i 0 = num p (p.length - 1 - i) + p.length := by
  unfold beadsL
  rw [fnRow_get _ _ _ hi]
  unfold bead num
  omega
theorem num_past {p : List Int} {s : Nat} (h : p.length ≤ s) : num p s = -(s : Int) - 1 := by unfold num; rw [getD_past p s h]; omega
/-- Where no bead is, there is a gap of a column. -/
theorem mv_no {p : List Int} (G : Good p) {t : Int} {i : Nat} (hi : i < p.length) (h : tkB p t i = false) : rowHits p t (p.length - 1 - i) = [] := by
  have hr : p.length - 1 - i < p.length := by omega
  match hh : rowHits p t (p.length - 1 - i) with
  | [] => rfl
  | q :: l =>
    exfalso
    have hq : q ∈ rowHits p t (p.length - 1 - i) := by rw [hh]; simp
    obtain ⟨_, h2, h3⟩ := (rowHits_iff hr).1 hq
    rw [hook_gap G hr h2] at h3
    have hto : tkTo p t i = gapN p q.2 + p.length := by unfold tkTo; rw [bead_num hi]; omega
    have hb := (colH_bound p (q.2 : Int)).2
    unfold tkB at h
    rw [hto] at h
    have h0 : (0 : Int) ≤ gapN p q.2 + p.length := by unfold gapN; omega
    rw [decide_eq_true h0, Bool.true_and, Bool.not_eq_false', decide_eq_true_eq, mem_beadsL] at h
    obtain ⟨s, _, hs⟩ := h
    exact (gap_lt G (c := (q.2 : Int)) (by omega) s).1 (by omega)
structure MvOK (p : List Int) (t : Int) (i c : Nat) : Prop where
  col : (c : Int) < p.getD (p.length - 1 - i) 0
  gap : gapN p c = num p (p.length - 1 - i) - t
  hits : rowHits p t (p.length - 1 - i) = [(p.length - 1 - i, c)]
  too : tkTo p t i = gapN p c + p.length
theorem mv_yes {p : List Int} (G : Good p) {t : Int} (ht : 0 < t) {i : Nat} (hi : i < p.length) (h : tkB p t i = true) : ∃ c, MvOK p t i c := by
  have hr : p.length - 1 - i < p.length := by omega
  simp only [tkB, Bool.and_eq_true, decide_eq_true_eq, Bool.not_eq_true', decide_eq_false_iff_not] at h
  obtain ⟨h0, hn⟩ := h
  have hto : tkTo p t i = num p (p.length - 1 - i) - t + p.length := by unfold tkTo; rw [bead_num hi]; omega
  have hne : ∀ s, num p s ≠ num p (p.length - 1 - i) - t := by
    intro s e
    by_cases hs : s < p.length
    · exact hn (mem_beadsL.2 ⟨s, hs, by rw [hto]; omega⟩)
    · rw [num_past (by omega)] at e; omega
  obtain ⟨c, hc0, hc⟩ := gap_of G hne
  obtain ⟨c', rfl⟩ : ∃ c' : Nat, c = c' := ⟨c.toNat, by omega⟩
  have hcol := (gap_lt G hc0 (p.length - 1 - i)).2.1 (by omega)
  exact ⟨c', hcol, hc, rowHits_one G hr hcol (by rw [hook_gap G hr hcol]; omega), by omega⟩
theorem outL_get {p : List Int} {r c low : Nat} (R : RimOK p r c low) (j : Nat) (hj : j < p.length) : (outL p r c low).getD j 0 = rest p r c low j := by
  obtain ⟨m, h1, h2⟩ := out_ex R p.length (Nat.le_refl _) (fun j h1 h2 => by omega)
  rw [← h2]
  by_cases h : j < m
  · rw [List.getD_eq_getElem?_getD, List.getElem?_take, if_pos h, ← List.getD_eq_getElem?_getD, restL_get _ _ _ _ _ hj]
  · have hz : (outL p r c low).length ≤ j := by rw [← h2, List.length_take]; omega
    have e : ((restL p r c low).take m).getD j 0 = 0 := getD_past _ _ (by rw [List.length_take]; omega)
    rw [e]
    -- what is left out is nothing
    have hs := sum_filter_pos (restL p r c low) (fun x hx => by
      obtain ⟨k, hk, rfl⟩ := List.getElem_of_mem hx
      rw [restL_len] at hk
      have := (R.rest_pos hk).1
      rw [← restL_get p r c low k hk, List.getD_eq_getElem?_getD, List.getElem?_eq_getElem (by rw [restL_len]; exact hk)] at this
      exact this)
    have he : (outL p r c low).sum = (restL p r c low).sum := hs
    rw [← h2] at he
    have e2 := congrArg List.sum (List.take_append_drop m (restL p r c low))
    rw [List.sum_append] at e2
    have hd0 : ((restL p r c low).drop m).sum = 0 := by omega
    have hpj := part_sum ((restL p r c low).drop m) (fun i hi => by
      rw [List.length_drop, restL_len] at hi
      rw [List.getD_eq_getElem?_getD, List.getElem?_drop, ← List.getD_eq_getElem?_getD, restL_get _ _ _ _ _ (by omega)]
      exact (R.rest_pos (by omega)).1) (j - m) (by rw [List.length_drop, restL_len]; omega)
    rw [List.getD_eq_getElem?_getD, List.getElem?_drop, ← List.getD_eq_getElem?_getD, show m + (j - m) = j by omega, restL_get _ _ _ _ _ hj] at hpj
    have := (R.rest_pos hj).1
    omega
theorem out_num {p : List Int} {r c low : Nat} (R : RimOK p r c low) (s : Nat) (hs : s < p.length) :
    num (outL p r c low) s = if r ≤ s ∧ s < low then num p (s + 1) else if s = low then gapN p c else num p s := by
  have hc := R.col
  unfold num
  rw [outL_get R s hs]
  unfold rest
  by_cases h1 : r ≤ s ∧ s ≤ low
  · rw [if_pos h1]
    by_cases h2 : s < low
    · rw [if_pos ⟨h1.1, h2⟩, R.fr_up (by omega)]; omega
    · have : s = low := by omega
      subst this
      rw [if_neg (by omega), if_pos rfl, R.fr_low]
      unfold gapN
      omega
  · rw [if_neg h1, if_neg (by omega)]
    by_cases e : s = low
    · have := R.r_le; omega
    · rw [if_neg e]
theorem lt_le {L : List Int} (h : L.Pairwise (· < ·)) : L.Pairwise (fun x y => x ≤ y) := h.imp fun h => by omega
theorem lt_nodup {L : List Int} (h : L.Pairwise (· < ·)) : L.Nodup := h.imp fun h => by omega
theorem perm_sumI {L M : List Int} (h : L.Perm M) : L.sum = M.sum := by
  induction h with
  | nil => rfl
  | cons x _ ih => simp [ih]
  | swap x y l => simp; omega
  | trans _ _ h1 h2 => exact h1.trans h2
theorem nodup_inj {L : List Int} (hn : L.Nodup) {a b : Nat} (ha : a < L.length) (hb : b < L.length) (e : L[a] = L[b]) : a = b := by
  have h := List.pairwise_iff_getElem.1 (List.nodup_iff_pairwise_ne.1 hn)
  rcases Nat.lt_trichotomy a b with h1 | h1 | h1
  · exact absurd e (h a b ha hb h1)
  · exact h1
  · exact absurd e.symm (h b a hb ha h1)
theorem set_mem_nodup {L : List Int} {i : Nat} {v : Int} (hn : L.Nodup) (hi : i < L.length) (y : Int) : y ∈ L.set i v ↔ y = v ∨ (y ∈ L ∧ y ≠ L.getD i 0) := by
  rw [List.mem_iff_getElem]
  simp only [List.length_set, List.getElem_set]
  have hgi : L.getD i 0 = L[i] := by rw [List.getD_eq_getElem?_getD, List.getElem?_eq_getElem hi]; rfl
  rw [hgi]
  constructor
  · rintro ⟨j, hj, e⟩
    by_cases h : i = j
    · rw [if_pos h] at e; exact .inl e.symm
    · rw [if_neg h] at e
      refine .inr ⟨e ▸ List.getElem_mem hj, fun e2 => h ?_⟩
      exact (nodup_inj hn _ hi (e.trans e2)).symm
  · rintro (rfl | ⟨h1, h2⟩)
    · exact ⟨i, hi, by rw [if_pos rfl]⟩
    · obtain ⟨j, hj, rfl⟩ := List.getElem_of_mem h1
      exact ⟨j, hj, by rw [if_neg (fun e => h2 (by subst e; rfl))]⟩
theorem set_nodup {L : List Int} {i : Nat} {v : Int} (hn : L.Nodup) (_hi : i < L.length) (hv : v ∉ L) : (L.set i v).Nodup := by
  rw [List.nodup_iff_pairwise_ne, List.pairwise_iff_getElem]
  intro a b ha hb hab
  simp only [List.length_set] at ha hb
  simp only [List.getElem_set]
  by_cases h1 : i = a
  · rw [if_pos h1, if_neg (by omega)]
    exact fun e => hv (e ▸ List.getElem_mem hb)
  · rw [if_neg h1]
    by_cases h2 : i = b
    · rw [if_pos h2]; exact fun e => hv (e ▸ List.getElem_mem ha)
    · rw [if_neg h2]
      exact fun e => by have := nodup_inj hn ha hb e; omega
theorem sum_set' (p : List Int) (r : Nat) (h : r < p.length) (x : Int) : (p.set r x).sum = p.sum + x - p.getD r 0 := sum_set p r h x

theorem mv_sorted {p : List Int} (G : Good p) {t : Int} (_ht : 0 < t) {i c : Nat} (hi : i < p.length) (M : MvOK p t i c) (hm : tkB p t i = true) :
    tkM p t i = beadsL (takeL p (p.length - 1 - i, c)) p.length ∧ (takeL p (p.length - 1 - i, c)).sum = p.sum - t ∧ Good (takeL p (p.length - 1 - i, c)) ∧ (takeL p (p.length - 1 - i, c)).length ≤ p.length := by
  have hr : p.length - 1 - i < p.length := by omega
  have R := rim_ok G hr M.col
  change RimOK p (p.length - 1 - i) c (lowN p c) at R
  obtain ⟨Gq, _⟩ := out_good R
  have hql := outL_len p (p.length - 1 - i) c (lowN p c)
  have e : takeL p (p.length - 1 - i, c) = outL p (p.length - 1 - i) c (lowN p c) := rfl
  rw [e]
  have h40 : p.length ≤ 40 := by have := G.len; omega
  have hX := beads_pw G (Nat.le_refl p.length) h40
  have hZ := beads_pw Gq hql h40
  have hXl := beadsL_len p p.length
  simp only [tkB, Bool.and_eq_true, decide_eq_true_eq, Bool.not_eq_true', decide_eq_false_iff_not] at hm
  obtain ⟨h0, hn⟩ := hm
  have hbi := bead_num hi
  have hperm : ((beadsL p p.length).set i (tkTo p t i)).Perm (beadsL (outL p (p.length - 1 - i) c (lowN p c)) p.length) := by
    refine (List.perm_ext_iff_of_nodup (set_nodup (lt_nodup hX) (by omega) hn) (lt_nodup hZ)).2 fun y => ?_
    rw [set_mem_nodup (lt_nodup hX) (by omega), mem_beadsL, mem_beadsL, hbi, M.too]
    have hlow := R.low_lt
    have hrl := R.r_le
    constructor
    · rintro (rfl | ⟨⟨s, hs, e1⟩, e2⟩)
      · exact ⟨lowN p c, hlow, by rw [out_num R _ hlow, if_neg (by omega), if_pos rfl]; omega⟩
      · -- a row that is not r
        by_cases h1 : p.length - 1 - i < s ∧ s ≤ lowN p c
        · refine ⟨s - 1, by omega, ?_⟩
          rw [out_num R _ (by omega), if_pos (by omega), show s - 1 + 1 = s by omega]; exact e1
        · refine ⟨s, hs, ?_⟩
          have hsr : s ≠ p.length - 1 - i := fun h => e2 (by rw [h] at e1; omega)
          rw [out_num R _ hs, if_neg (by omega), if_neg (by omega)]; exact e1
    · rintro ⟨s, hs, e1⟩
      rw [out_num R _ hs] at e1
      by_cases h1 : p.length - 1 - i ≤ s ∧ s < lowN p c
      · rw [if_pos h1] at e1
        refine .inr ⟨⟨s + 1, by omega, e1⟩, fun h => ?_⟩
        have : num p (s + 1) < num p (p.length - 1 - i) := by
          have := down_le p G.down (p.length - 1 - i) (s + 1 - (p.length - 1 - i)) (by omega)
          rw [show p.length - 1 - i + (s + 1 - (p.length - 1 - i)) = s + 1 by omega] at this
          unfold num; omega
        omega
      · rw [if_neg h1] at e1
        by_cases h2 : s = lowN p c
        · rw [if_pos h2] at e1; left; omega
        · rw [if_neg h2] at e1
          refine .inr ⟨⟨s, hs, e1⟩, fun h => ?_⟩
          have hne : s < p.length - 1 - i ∨ lowN p c < s := by omega
          rcases hne with h3 | h3
          · have := down_le p G.down s (p.length - 1 - i - s) (by omega)
            rw [show s + (p.length - 1 - i - s) = p.length - 1 - i by omega] at this
            unfold num at e1 h; omega
          · have := down_le p G.down (p.length - 1 - i) (s - (p.length - 1 - i)) (by omega)
            rw [show p.length - 1 - i + (s - (p.length - 1 - i)) = s by omega] at this
            unfold num at e1 h; omega
  refine ⟨?_, ?_, Gq, hql⟩
  · unfold tkM
    refine asc_eq ((List.mergeSort_perm _ _).trans hperm) ?_ (lt_le hZ)
    have hs := List.pairwise_mergeSort (le := fun x y : Int => decide (x ≤ y)) (fun a b c h1 h2 => by simp at h1 h2 ⊢; omega) (fun a b => by simp; omega) ((beadsL p p.length).set i (tkTo p t i))
    exact hs.imp fun h => by simpa using h
  · have h1 := perm_sumI hperm
    rw [sum_set' _ _ (by omega), sum_beadsL p _ (Nat.le_refl _), sum_beadsL _ _ hql] at h1
    unfold tkTo at h1
    omega
theorem mv_bt {p : List Int} (G : Good p) {t : Int} (_ht : 0 < t) {i c : Nat} (hi : i < p.length) (M : MvOK p t i c) :
    btN (beadsL p p.length) (tkTo p t i) ((beadsL p p.length).getD i 0) p.length = (lowN p c : Int) - (p.length - 1 - i : Nat) := by
  have hr : p.length - 1 - i < p.length := by omega
  have R := rim_ok G hr M.col
  change RimOK p (p.length - 1 - i) c (lowN p c) at R
  have hlow := R.low_lt
  have hrl := R.r_le
  have key : ∀ k, k ≤ p.length → btN (beadsL p p.length) (tkTo p t i) ((beadsL p p.length).getD i 0) k = (min k i : Nat) - (min k (p.length - 1 - lowN p c) : Nat) := by
    intro k
    induction k with
    | zero => intro _; simp [btN]
    | succ k ih =>
      intro hk
      rw [btN_succ _ _ _ _ (by rw [beadsL_len]; omega), ih (by omega), bead_num (by omega : k < p.length), bead_num hi, M.too]
      have hgk := (gap_lt G (c := (c : Int)) (by omega) (p.length - 1 - k)).2
      have hck := colH_iff G (c : Int) (by omega) (p.length - 1 - k)
      rw [R.col] at hck
      have hlt : num p (p.length - 1 - k) < num p (p.length - 1 - i) ↔ k < i := by
        constructor
        · intro h
          rcases Nat.lt_or_ge k i with h2 | h2
          · exact h2
          · have := down_le p G.down (p.length - 1 - k) (k - i) (by omega)
            rw [show p.length - 1 - k + (k - i) = p.length - 1 - i by omega] at this
            unfold num at h; omega
        · intro h
          have := down_le p G.down (p.length - 1 - i) (i - k) (by omega)
          rw [show p.length - 1 - i + (i - k) = p.length - 1 - k by omega] at this
          unfold num; omega
      unfold btV btB
      by_cases a : p.length - 1 - lowN p c ≤ k
      · have hg : gapN p (c : Int) < num p (p.length - 1 - k) := hgk.2 (hck.1 (by omega))
        by_cases b : k < i
        · have := hlt.2 b
          rw [if_pos (by simp; omega)]; omega
        · have hnb : ¬ num p (p.length - 1 - k) < num p (p.length - 1 - i) := fun h => b (hlt.1 h)
          rw [if_neg (by simp; omega)]; omega
      · have hg : ¬ gapN p (c : Int) < num p (p.length - 1 - k) := fun h => a (by have := hck.2 (hgk.1 h); omega)
        rw [if_neg (by simp; omega)]; omega
  rw [key p.length (Nat.le_refl _)]
  omega
theorem mv_sign {p : List Int} (G : Good p) {t : Int} (ht : 0 < t) {i c : Nat} (hi : i < p.length) (M : MvOK p t i c) : tkS p t i = takeSg p (p.length - 1 - i, c) := by
  unfold tkS takeSg
  rw [mv_bt G ht hi M]
/-- The rims that the program takes, as it finds them. -/
def tkK (p : List Int) (t : Int) : Nat → List (List Int × Int)
  | 0 => []
  | k + 1 => tkK p t k ++ (rowHits p t (p.length - 1 - k)).map fun q => (takeL p q, takeSg p q)
def tkL (p : List Int) (t : Int) : List (List Int × Int) := tkK p t p.length
end Go.Proofs.Ytmbfobcbnnalbaa
/-
  Contract: the rims that the program takes from a partition, each with its sign.
-/
namespace Go.Proofs.Ytmbfobcbnnalbaa
open Go.RowKit

theorem Try.infoTkn : (Try.prog.info? 143).map (fun i => (i.zero, i.size, i.bytes)) = some (some (.agg #[.slice none 0 0, .int .i64 0]), 2, 32) := by kernel_rfl
def tnil : List Int × Int := ([], 0)
/-- The cells of a row of rims. -/
def TB (P : Nat → Option Addr) (C : Nat → Nat) (L : List (List Int × Int)) : List Value := (List.range L.length).flatMap fun j => [.slice (P j) (L.getD j tnil).1.length (C j), .int .i64 (L.getD j tnil).2]
theorem flat2_len (f : Nat → List Value) (hf : ∀ j, (f j).length = 2) : ∀ n, ((List.range n).flatMap f).length = n * 2
  | 0 => rfl
  | n + 1 => by rw [List.range_succ, List.flatMap_append, List.length_append, flat2_len f hf n]; simp [hf]; omega
theorem flat2_at (f : Nat → List Value) (hf : ∀ j, (f j).length = 2) : ∀ n j t, j < n → t < 2 → ((List.range n).flatMap f)[j * 2 + t]? = (f j)[t]?
  | 0, j, _, h, _ => absurd h (by omega)
  | n + 1, j, t, hj, ht => by
    rw [List.range_succ, List.flatMap_append]
    by_cases h : j < n
    · rw [List.getElem?_append_left (by rw [flat2_len f hf]; omega)]
      exact flat2_at f hf n j t h ht
    · have e : j = n := by omega
      subst e
      rw [List.getElem?_append_right (by rw [flat2_len f hf]; omega), flat2_len f hf, Nat.add_sub_cancel_left]
      simp
theorem TB_at {P : Nat → Option Addr} {C : Nat → Nat} {L : List (List Int × Int)} {j t : Nat} (hj : j < L.length) (ht : t < 2) : (TB P C L)[j * 2 + t]? = [Value.slice (P j) (L.getD j tnil).1.length (C j), .int .i64 (L.getD j tnil).2][t]? := flat2_at _ (fun _ => rfl) _ _ _ hj ht
theorem snoc_lt {α : Type} (L : List α) (r d : α) (j : Nat) (h : j < L.length) : (L ++ [r]).getD j d = L.getD j d := by
  rw [List.getD_eq_getElem?_getD, List.getElem?_append_left h, ← List.getD_eq_getElem?_getD]
theorem snoc_at {α : Type} (L : List α) (r d : α) : (L ++ [r]).getD L.length d = r := by simp [List.getD]
theorem flatMap_eqL {l : List Nat} {f g : Nat → List Value} (h : ∀ x ∈ l, f x = g x) : l.flatMap f = l.flatMap g := by rw [List.flatMap_def, List.flatMap_def, List.map_congr_left h]
theorem TB_snoc (P : Nat → Option Addr) (C : Nat → Nat) (L : List (List Int × Int)) (r : List Int) (s : Int) (A : Option Addr) (c : Nat) :
    TB (setAt P L.length A) (setAt C L.length c) (L ++ [(r, s)]) = TB P C L ++ [.slice A r.length c, .int .i64 s] := by
  unfold TB
  rw [List.length_append, List.length_singleton, List.range_succ, List.flatMap_append]
  congr 1
  · refine flatMap_eqL fun j hj => ?_
    have hj' : j < L.length := List.mem_range.1 hj
    rw [setAt_ne P A (by omega), setAt_ne C c (by omega), snoc_lt L _ _ j hj']
  · simp [setAt_eq]

structure Tks (w : World) (B : Nat) (v : Value) (L : List (List Int × Int)) (P : Nat → Option Addr) (C : Nat → Nat) : Prop where
  out : w.ownsRow B 143 2 v L.length (TB P C L)
  row : ∀ j, j < L.length → Own w B (P j) (C j) (L.getD j tnil).1
theorem Tks.below {w w' : World} {B : Nat} {v : Value} {L : List (List Int × Int)} {P : Nat → Option Addr} {C : Nat → Nat} (h : Tks w B v L P C) (hb : Below w.heap.size w w') : Tks w' B v L P C := by
  refine ⟨?_, fun j hj => (h.row j hj).below hb⟩
  have ho := h.out
  refine ⟨ho.1, ?_⟩
  rcases ho.2 with hn | ⟨g, cap, cur, hv, hbb, hgg, rest⟩
  · exact .inl hn
  · exact .inr ⟨g, cap, cur, hv, hbb, by rw [hb.block g (Array.getElem?_eq_some_iff.1 hgg).1]; exact hgg, rest⟩
theorem Tks.more {w : World} {B B' : Nat} {v : Value} {L : List (List Int × Int)} {P : Nat → Option Addr} {C : Nat → Nat} (h : Tks w B v L P C) (hB : B' ≤ B) : Tks w B' v L P C := by
  refine ⟨⟨h.out.1, ?_⟩, fun j hj => (h.row j hj).more hB⟩
  rcases h.out.2 with hn | ⟨g, cap, cur, hv, hbb, rest⟩
  · exact .inl hn
  · exact .inr ⟨g, cap, cur, hv, Nat.le_trans hB hbb, rest⟩
theorem tkn_ne {w : World} {B B' : Nat} {n : Nat} {v : Value} {vs : List Value} {A : Option Addr} {c' : Nat} {r : List Int} (h : w.ownsRow B 143 2 v n vs) (hr : Own w B' A c' r) : ∀ b, A.map Addr.block = some b → v.ownBlock ≠ some b := by
  intro b hb e
  rcases h.2 with ⟨rfl, _⟩ | ⟨g1, cap, cur1, rfl, hb1, hg1, rest⟩
  · simp [Value.ownBlock] at e
  · have e1 : g1 = b := by simpa [Value.ownBlock] using e
    subst e1
    rcases hr.2 with ⟨h2, _⟩ | ⟨g2, _, cur2, hv2, _, hg2, _⟩
    · have hA : A = none := by injection h2
      rw [hA] at hb; simp at hb
    · have hA : A = some ⟨g2, 0, none⟩ := by injection hv2
      rw [hA] at hb
      have e2 : g2 = g1 := by simpa using hb
      subst e2
      rw [hg1] at hg2
      injection hg2 with hg2
      injection hg2 with _ ht
      exact absurd ht (by decide)
theorem Tks.push {w0 w1 w2 : World} {B : Nat} {v v' : Value} {L : List (List Int × Int)} {P : Nat → Option Addr} {C : Nat → Nat} {A : Option Addr} {c : Nat} {r : List Int} {s : Int} {o : Obj}
    (h : Tks w0 B v L P C) (hb : Below w0.heap.size w0 w1) (hr : Own w1 w0.heap.size A c r) (hB : B ≤ w0.heap.size)
    (ho : w2.ownsRow B 143 2 v' (L.length + 1) (TB P C L ++ [.slice A r.length c, .int .i64 s])) (hg : (w1.alloc o).grownBy w2 v.ownBlock) :
    Tks w2 B v' (L ++ [(r, s)]) (setAt P L.length A) (setAt C L.length c) := by
  have h1 := h.below hb
  have keep : ∀ {A' : Option Addr} {c' : Nat} {r' : List Int}, Own w1 B A' c' r' → Own w2 B A' c' r' := fun {A' c' r'} hx => by
    refine hx.keep fun b hbb hlt => ?_
    have e1 : (w1.alloc o).heap[b]? = w1.heap[b]? := Below.heap_alloc _ _ _ hlt
    rw [← e1]
    exact hg.block b (by simp; omega) (fun e => tkn_ne h1.out hx b hbb e.symm)
  refine ⟨by rw [TB_snoc, List.length_append]; exact ho, fun j hj => ?_⟩
  rw [List.length_append, List.length_singleton] at hj
  by_cases e : j = L.length
  · subst e
    rw [setAt_eq, setAt_eq, snoc_at]
    exact keep (hr.more hB)
  · rw [setAt_ne P A e, setAt_ne C c e, snoc_lt L _ _ j (by omega)]
    exact keep (h1.row j (by omega))
theorem Tks.nil (w : World) (B : Nat) : Tks w B (.slice none 0 0) [] (fun _ => none) (fun _ => 0) := ⟨World.ownsRow_nil _ _ _ _, fun j hj => by simp at hj⟩

theorem Good.bd' {p : List Int} (G : Good p) : ∀ j, j < p.length → 0 ≤ p.getD j 0 ∧ p.getD j 0 ≤ 1000 := fun j hj => by have := G.pos j hj; have := G.le j hj; omega
theorem tkK_no {p : List Int} (G : Good p) {t : Int} {k : Nat} (hk : k < p.length) (h : tkB p t k = false) : tkK p t (k + 1) = tkK p t k := by
  rw [tkK, mv_no G hk h]; simp
theorem tkK_yes {p : List Int} (G : Good p) {t : Int} (ht : 0 < t) {k : Nat} (hk : k < p.length) (h : tkB p t k = true) : ∃ q, tkK p t (k + 1) = tkK p t k ++ [(q, tkS p t k)] ∧ tkM p t k = beadsL q p.length ∧ Good q ∧ q.length ≤ p.length ∧ q.sum = p.sum - t ∧ 0 ≤ btN (beadsL p p.length) (tkTo p t k) ((beadsL p p.length).getD k 0) p.length := by
  obtain ⟨c, M⟩ := mv_yes G ht hk h
  obtain ⟨h1, h2, h3, h4⟩ := mv_sorted G ht hk M h
  exact ⟨takeL p (p.length - 1 - k, c), by rw [tkK, M.hits, mv_sign G ht hk M]; rfl, h1, h3, h4, h2, (btN_bd _ _ _ _).1⟩
theorem tkK_len {p : List Int} (G : Good p) {t : Int} (ht : 0 < t) : ∀ k, k ≤ p.length → (tkK p t k).length ≤ k
  | 0, _ => by simp [tkK]
  | k + 1, hk => by
    have ih := tkK_len G ht k (by omega)
    cases h : tkB p t k
    · rw [tkK_no G (by omega) h]; omega
    · obtain ⟨q, e, _⟩ := tkK_yes G ht (by omega) h
      rw [e, List.length_append]; simp; omega

set_option maxRecDepth 100000 in
set_option maxHeartbeats 8000000 in
theorem takenRims_any (A : Option Addr) (c : Nat) (p : List Int) (t : Int) (w : World) (G : Good p) (ht : 1 ≤ t ∧ t ≤ 100) (hc : Cells w A p) :
    Calls Try.prog 208 #[.slice A p.length c, .int .i64 t] w fun e w' => ∃ v P C, e = .returned v ∧ Tks w' w.heap.size v (tkL p t) P C ∧ Below w.heap.size w w' := by
  obtain ⟨i0, hi, hz0, hz1, hz2⟩ := info_parts Try.infoTkn
  have hlen := G.len
  have HBF := hid (beadsFor_any A c p p.length w (by omega) (Nat.le_refl _) G.bd' hc)
  have HB := hid fun j (hj : j < p.length) => bead_bd G p.length j hj (by omega)
  have hXl := beadsL_len p p.length
  have HXG := hid fun j (hj : j < p.length) => (show (beadsL p p.length).getD j 0 = bead p p.length j by unfold beadsL; rw [fnRow_get _ _ _ hj])
  have HNO := hid fun k (hk : k < p.length) h => tkK_no G (t := t) hk h
  have HYES := hid fun k (hk : k < p.length) h => tkK_yes G (t := t) (by omega) hk h
  have HLEN := hid fun k (hk : k ≤ p.length) => tkK_len G (t := t) (by omega) k hk
  have HB1 := hid fun k => (show tkB p t k = (decide (0 ≤ (beadsL p p.length).getD k 0 - t) && !decide ((beadsL p p.length).getD k 0 - t ∈ beadsL p p.length)) from rfl)
  have HM1 := hid fun k => (show tkM p t k = ((beadsL p p.length).set k ((beadsL p p.length).getD k 0 - t)).mergeSort fun x y => decide (x ≤ y) from rfl)
  have HS1 := hid fun k => (show tkS p t k = sgn (btN (beadsL p p.length) ((beadsL p p.length).getD k 0 - t) ((beadsL p p.length).getD k 0) p.length) from rfl)
  have HT1 := hid fun k => (show tkTo p t k = (beadsL p p.length).getD k 0 - t from rfl)
  have HPB := hid fun q (Gq : Good q) (hq : q.length ≤ p.length) => (show partsL (beadsL q p.length) = q from partsL_beads Gq hq)
  have HQB := hid fun q (Gq : Good q) j (hj : j < p.length) => (show 0 ≤ (beadsL q p.length).getD j 0 ∧ (beadsL q p.length).getD j 0 ≤ 1000 by
    have := bead_bd Gq p.length j hj (by omega)
    unfold beadsL; rw [fnRow_get _ _ _ hj]; omega)
  obtain ⟨X, hX⟩ : ∃ X, X = beadsL p p.length := ⟨_, rfl⟩
  rw [← hX] at HBF hXl HXG HYES HB1 HM1 HS1 HT1
  unfold tkL
  obtain ⟨K, hK⟩ : ∃ K, K = tkK p t := ⟨_, rfl⟩
  rw [← hK] at HNO HYES HLEN ⊢
  have HK0 := hid (show K 0 = [] by rw [hK]; rfl)
  clear hX hK
  go_enter Try.func208, Try.ntmps208
  go_wp2_with (go_at_call 194; refine HBF.out.mono ?_; rintro e w1 ⟨A1, c1, rfl, o1, b1⟩)
  have O1 := hid o1
  have B1 := hid b1
  have hs1 := b1.size
  clear o1 b1
  go_loopw [6, 17] (fun v i wr => ∃ (k : Nat) (P : Nat → Option Addr) (C : Nat → Nat), k ≤ p.length ∧ i = .int .i64 k ∧ Hid (Tks wr w1.heap.size v (K k) P C) ∧ Below w1.heap.size w1 wr) (fun _ i _ => p.length - (intOf i).toNat)
  case atStart => exact ⟨0, _, _, Nat.zero_le _, rfl, hid (by rw [HK0.out]; exact Tks.nil _ _), Below.refl _ _⟩
  case round =>
    obtain ⟨k, P, C, hk, rfl, HT, hbel⟩ := hrel
    obtain ⟨wo, rfl⟩ : ∃ wo : World, wo = wr := ⟨_, rfl⟩
    have O1r := hid (O1.out.below hbel)
    by_cases hlt : k < p.length
    · obtain ⟨b, o, rfl, hck⟩ := O1r.out.cells.get (show k < X.length by omega)
      have hxb := HB.out k hlt
      have hxg := HXG.out k hlt
      rw [← hxg] at hxb
      have hb1 := HB1.out k
      have hm1 := HM1.out k
      have hs1' := HS1.out k
      have HNO' := hid (HNO.out k hlt)
      have HYE' := hid (HYES.out k hlt)
      have ht1 := HT1.out k
      rw [ht1] at HYE'
      obtain ⟨x, hx⟩ : ∃ x, x = X.getD k 0 := ⟨_, rfl⟩
      rw [← hx] at hck hxb hb1 hm1 hs1' HYE'
      obtain ⟨y, hy⟩ : ∃ y, y = x - t := ⟨_, rfl⟩
      have hyy : x - t = y := hy.symm
      rw [← hy] at hb1 hm1 hs1' HYE'
      have hyb : -100 ≤ y ∧ y ≤ 100 := by omega
      have HB1' := hid hb1; have HM1' := hid hm1; have HS1' := hid hs1'
      have HIN := hid fun W (h : Cells W (some ⟨b, o, none⟩) X) bb hbb => Contains2_b (some ⟨b, o, none⟩) X c1 y W (by omega) h bb hbb
      rw [hXl] at HIN
      clear hx hxg hb1 hm1 hs1' ht1 hy
      by_cases h0 : y < 0
      · have HBF' := hid (show tkB p t k = false by rw [HB1'.out, decide_eq_false (by omega)]; rfl)
        go_wp2_with fail
        go_roundw
        case rel => exact ⟨k + 1, P, C, by omega, by go_num, hid (by rw [HNO'.out HBF'.out]; exact HT.out), hbel⟩
        case measure => simp [intOf]; omega
      cases hin : decide (y ∈ X)
      · have HBT' := hid (show tkB p t k = true by rw [HB1'.out, hin, decide_eq_true (by omega)]; rfl)
        obtain ⟨q, hq1, hq2, Gq, hq3, hq4, hq5⟩ := HYE'.out HBT'.out
        have HIN' := hid (HIN.out _ O1r.out.cells _ hin)
        have HCL := hid fun W (h : Own W w.heap.size (some ⟨b, o, none⟩) c1 X) => cloneOwn_any (some ⟨b, o, none⟩) c1 X W (by omega) h
        rw [hXl] at HCL
        have hSL : (X.set k y).length = p.length := by rw [List.length_set, hXl]
        have HSO := hid fun W A2 c2 (h : Own W wo.heap.size A2 c2 (X.set k y)) => sortI_any A2 c2 (X.set k y) W wo.heap.size h (by omega)
        rw [HM1'.out] at hq2
        rw [hq2, hSL] at HSO
        have hQL := beadsL_len q p.length
        have HPO := hid fun W A2 c2 (h : Cells W A2 (beadsL q p.length)) => partsOf_any A2 c2 (beadsL q p.length) W (by omega) (fun j hj => HQB.out q Gq j (by omega)) h
        rw [hQL, HPB.out q Gq hq3] at HPO
        have HBB := hid fun W (h : Cells W (some ⟨b, o, none⟩) X) => beadsBetween_any (some ⟨b, o, none⟩) X c1 y x W (by omega) h
        rw [hXl] at HBB
        have hq6 : btN X y x p.length ≤ p.length := (btN_bd X y x p.length).2
        have HEV := hid fun W => evenSign_any (btN X y x p.length) W hq5 (by omega)
        rw [← HS1'.out] at HEV
        obtain ⟨bt, hbt⟩ : ∃ bt, bt = btN X y x p.length := ⟨_, rfl⟩
        rw [← hbt] at HBB HEV
        obtain ⟨s, hs⟩ : ∃ s, s = tkS p t k := ⟨_, rfl⟩
        rw [← hs] at HEV hq1
        have HQ1 := hid hq1
        have hKL := HLEN.out k (by omega)
        have hkX : k < X.length := by omega
        clear hin hq1 hq2 hq4 hq5 hq6 hbt hs HYE' HNO' HIN
        go_wp2_with (go_at_call 227; refine HIN'.out.mono ?_; rintro e w' ⟨rfl, rfl⟩)
        refine (HCL.out _ O1r.out).mono ?_
        rintro e w2 ⟨A2, c2, rfl, o2, b2⟩
        obtain ⟨g, rfl, hg1, hg2⟩ := o2.at_ (by omega)
        have hcg := own_get o2 hkX
        have hfg := own_froz o2 k
        have O3 := hid (own_set o2 k y)
        have B3 := hid (b2.setCell (p := ⟨g, k, none⟩) hg1 (.int .i64 y))
        clear o2 b2
        go_wp2_with fail
        refine (HSO.out _ _ _ O3.out).mono ?_
        rintro e w4 ⟨rfl, o4, b4⟩
        have B4 := hid (b4 wo.heap.size wo (Nat.le_refl _) B3.out)
        have O4 := hid o4
        clear o4 b4
        go_wp2_with fail
        refine (HPO.out _ _ _ O4.out.cells).mono ?_
        rintro e w5 ⟨A5, c5, rfl, o5, b5⟩
        have O5 := hid o5
        have B5 := hid (Below.next B4.out b5)
        clear o5 b5
        go_wp2_with fail
        refine (HBB.out _ (O1r.out.cells.later B5.out)).mono ?_
        rintro e w6 ⟨rfl, b6⟩
        have O6 := hid (O5.out.below b6)
        have B6 := hid (Below.next B5.out b6)
        clear b6
        have HT6 := hid (HT.out.below B6.out)
        have hs4 := B4.out.size
        have hsz6 := B6.out.size
        go_wp2_with (first | (go_at_call 124; refine (HEV.out _).mono ?_; rintro e w' ⟨rfl, rfl⟩) | (at_builtin; refine wpList_append_own _ rfl _ _ 139 rfl w1.heap.size 143 i0 (.agg #[.slice none 0 0, .int .i64 0]) 2 32 Try.underlying139 hi hz0 hz1 hz2 rfl (by decide) _ _ _ rfl (HT6.out.out.alloc _) ⟨w6.heap.size, 0, none⟩ 1 1 [.slice A5 q.length c5, .int .i64 s] rfl rfl two_at (by simp [Value.oneCell']) (by unfold maxLen; omega) (by omega) (by have := hbel.size; simp; omega) ?_))
        intro v' w7 hown' hgrow _
        have HPU := hid (Tks.push HT.out B6.out (O6.out.more hs4) hbel.size hown' hgrow)
        have HB6 := hbel.trans (B6.out.mono hbel.size)
        have HB7 := hid ((HB6.alloc HB6.size (.cells #[.slice A5 q.length c5, .int .i64 s] 143)).grown hgrow (by have := HB6.size; simp; omega) (fun b' hb' => (HT6.out.out.lt b' hb').1))
        clear hown' hgrow HB6
        go_wp2_with fail
        go_roundw
        case rel => exact ⟨k + 1, _, _, by omega, by go_num, hid (by rw [HQ1.out]; exact HPU.out), HB7.out⟩
        case measure => simp [intOf]; omega
      · have HBF' := hid (show tkB p t k = false by rw [HB1'.out, hin]; simp)
        have HIN' := hid (HIN.out _ O1r.out.cells _ hin)
        have h0' : 0 ≤ y := by omega
        clear hin
        go_wp2_with (go_at_call 227; refine HIN'.out.mono ?_; rintro e w' ⟨rfl, rfl⟩)
        go_roundw
        case rel => exact ⟨k + 1, P, C, by omega, by go_num, hid (by rw [HNO'.out HBF'.out]; exact HT.out), hbel⟩
        case measure => simp [intOf]; omega
    · have hkl : k = p.length := by omega
      subst hkl
      go_wp2_with fail
      go_ret
      exact ⟨_, P, C, rfl, HT.out.more hs1, B1.out.trans (hbel.mono hs1)⟩
end Go.Proofs.Ytmbfobcbnnalbaa
