/-
  Plain facts: a bead that is moved down to a gap takes the rim hook of a cell away.
-/
import Derived.Test.YtmbfobcbnnalbaaRunMath
import Derived.Test.YtmbfobcbnnalbaaHkMath
import Derived.Test.YtmbfobcbnnalbaaBetw
import Derived.Test.YtmbfobcbnnalbaaChnMath
namespace Go.Proofs.Ytmbfobcbnnalbaa

theorem asc_eq : ∀ {L M : List Int}, L.Perm M → L.Pairwise (fun x y => x ≤ y) → M.Pairwise (fun x y => x ≤ y) → L = M
  | [], M, h, _, _ => by rw [List.nil_perm.1 h]
  | x :: L, [], h, _, _ => by have := h.length_eq; simp at this
  | x :: L, y :: M, h, h1, h2 => by
    have hxm : x ∈ y :: M := h.mem_iff.1 (List.mem_cons_self ..)
    have hym : y ∈ x :: L := h.mem_iff.2 (List.mem_cons_self ..)
    have e : x = y := by
      rcases List.mem_cons.1 hxm with e | hx
      · exact e
      · rcases List.mem_cons.1 hym with e | hy
        · exact e.symm
        · have := (List.pairwise_cons.1 h1).1 y hy
          have := (List.pairwise_cons.1 h2).1 x hx
          omega
    subst e
    rw [asc_eq (List.Perm.cons_inv h) (List.pairwise_cons.1 h1).2 (List.pairwise_cons.1 h2).2]

/-! Sums of beads. -/
theorem sum_fn_add (f g : Nat → Int) : ∀ n, (fnRow n fun j => f j + g j).sum = (fnRow n f).sum + (fnRow n g).sum
  | 0 => by simp [fnRow]
  | n + 1 => by
    have := sum_fn_add f g n
    simp only [fnRow, List.range_succ, List.map_append, List.map_cons, List.map_nil, List.sum_append, List.sum_cons, List.sum_nil] at this ⊢
    omega
theorem sum_fn_rev (h : Nat → Int) : ∀ n, (fnRow n fun j => h (n - 1 - j)).sum = (fnRow n h).sum
  | 0 => by simp [fnRow]
  | n + 1 => by
    have ih := sum_fn_rev h n
    have e1 : (fnRow (n + 1) fun j => h (n + 1 - 1 - j)).sum = h n + (fnRow n fun j => h (n - 1 - j)).sum := by
      simp only [fnRow, List.range_succ_eq_map, List.map_cons, List.map_map, List.sum_cons]
      congr 2
      apply List.map_congr_left
      intro j _
      simp only [Function.comp]
      congr 1; omega
    have e2 : (fnRow (n + 1) h).sum = (fnRow n h).sum + h n := by
      simp [fnRow, List.range_succ, List.sum_append]
    rw [e1, e2, ih]; omega
theorem sum_fn_getD : ∀ (p : List Int) (n : Nat), p.length ≤ n → (fnRow n fun j => p.getD j 0).sum = p.sum
  | [], n, _ => by
    have : (fnRow n fun j => ([] : List Int).getD j 0) = List.replicate n 0 := by rw [← rowF_zero n]; exact rowF_ext _ _ _ fun j _ => by simp
    rw [this]; simp
  | x :: t, 0, h => absurd h (by simp)
  | x :: t, n + 1, h => by
    have ih := sum_fn_getD t n (by simpa using h)
    simp only [fnRow, List.range_succ_eq_map, List.map_cons, List.map_map, List.sum_cons] at ih ⊢
    rw [← ih]
    simp [Function.comp_def]
theorem sum_beadsL (p : List Int) (n : Nat) (h : p.length ≤ n) : (beadsL p n).sum = (upTo n).sum + p.sum := by
  have e : beadsL p n = fnRow n fun j => ((j : Nat) : Int) + (fun i => p.getD i 0) (n - 1 - j) := rfl
  rw [e, sum_fn_add (fun j => (j : Int)) (fun j => (fun i => p.getD i 0) (n - 1 - j)), sum_fn_rev (fun i => p.getD i 0), sum_fn_getD p n h]
  rfl

/-! The hits of a row. -/
def rowHits (p : List Int) (t : Int) (r : Nat) : List (Nat × Nat) := hitRow ((hooksR p).getD r []) t r ((hooksR p).getD r []).length
theorem row_of {p : List Int} {r : Nat} (hr : r < p.length) : (hooksR p).getD r [] = rowF (hookN p) r (p.getD r 0).toNat := by unfold hooksR; rw [rowsF_get p _ _ _ hr]
theorem hitRow_iff {row : List Int} {t : Int} {r : Nat} {q : Nat × Nat} : ∀ {m : Nat}, q ∈ hitRow row t r m ↔ q.1 = r ∧ q.2 < m ∧ row.getD q.2 0 = t
  | 0 => by simp [hitRow]
  | m + 1 => by
    have ih := hitRow_iff (row := row) (t := t) (r := r) (q := q) (m := m)
    unfold hitRow
    split
    · rename_i h
      rw [List.mem_append, ih, List.mem_singleton]
      constructor
      · rintro (h1 | h1)
        · exact ⟨h1.1, by omega, h1.2.2⟩
        · subst h1; exact ⟨rfl, by simp, h⟩
      · rintro ⟨h1, h2, h3⟩
        by_cases e : q.2 = m
        · right; exact Prod.ext h1 e
        · left; exact ⟨h1, by omega, h3⟩
    · rename_i h
      rw [ih]
      constructor
      · rintro ⟨h1, h2, h3⟩; exact ⟨h1, by omega, h3⟩
      · rintro ⟨h1, h2, h3⟩
        refine ⟨h1, ?_, h3⟩
        by_cases e : q.2 = m
        · rw [e] at h3; exact absurd h3 h
        · omega
theorem hitRow_nodup (row : List Int) (t : Int) (r : Nat) : ∀ m, (hitRow row t r m).Nodup
  | 0 => by simp [hitRow]
  | m + 1 => by
    have ih := hitRow_nodup row t r m
    unfold hitRow
    split
    · rw [List.nodup_append]
      refine ⟨ih, by simp, ?_⟩
      intro a ha b hb e
      rw [List.mem_singleton] at hb
      subst hb
      subst e
      have := (hitRow_iff.1 ha).2.1
      simp at this
    · exact ih
theorem rowHits_iff {p : List Int} {t : Int} {r : Nat} (hr : r < p.length) {q : Nat × Nat} : q ∈ rowHits p t r ↔ q.1 = r ∧ (q.2 : Int) < p.getD r 0 ∧ hookN p r q.2 = t := by
  unfold rowHits
  rw [hitRow_iff, row_of hr, rowF_len]
  constructor
  · rintro ⟨h1, h2, h3⟩
    rw [rowF_get _ _ _ _ h2] at h3
    exact ⟨h1, by omega, h3⟩
  · rintro ⟨h1, h2, h3⟩
    have : q.2 < (p.getD r 0).toNat := by omega
    exact ⟨h1, this, by rw [rowF_get _ _ _ _ this]; exact h3⟩
theorem gap_mono {p : List Int} (G : Good p) {c d : Int} (hc : 0 ≤ c) (h : c < d) : gapN p c < gapN p d := by
  have h1 : colH p d ≤ colH p c := by
    rcases Int.lt_or_le (colH p c) (colH p d) with hlt | hle
    · exfalso
      have b1 := (colH_bound p c).1
      obtain ⟨r, hr⟩ : ∃ r : Nat, (r : Int) = colH p c := ⟨(colH p c).toNat, by omega⟩
      have := (colH_iff G d (by omega) r).1 (by omega)
      have h2 := (colH_iff G c hc r).2 (by omega)
      omega
    · exact hle
  unfold gapN; omega
theorem rowHits_one {p : List Int} (G : Good p) {t : Int} {r c : Nat} (hr : r < p.length) (hc : (c : Int) < p.getD r 0) (hh : hookN p r c = t) : rowHits p t r = [(r, c)] := by
  have hm : (r, c) ∈ rowHits p t r := (rowHits_iff hr).2 ⟨rfl, hc, hh⟩
  have hall : ∀ q ∈ rowHits p t r, q = (r, c) := by
    intro q hq
    obtain ⟨h1, h2, h3⟩ := (rowHits_iff hr).1 hq
    rw [hook_gap G hr h2] at h3
    rw [hook_gap G hr hc] at hh
    refine Prod.ext h1 ?_
    rcases Nat.lt_trichotomy q.2 c with h | h | h
    · have := gap_mono G (c := (q.2 : Int)) (d := (c : Int)) (by omega) (by omega); omega
    · exact h
    · have := gap_mono G (c := (c : Int)) (d := (q.2 : Int)) (by omega) (by omega); omega
  have hnd : (rowHits p t r).Nodup := hitRow_nodup _ _ _ _
  match hrh : rowHits p t r, hm, hall, hnd with
  | [], hm, _, _ => simp at hm
  | [a], _, hall, _ => rw [hall a (by simp)]
  | a :: b :: l, _, hall, hnd =>
    have ha := hall a (by simp)
    have hb := hall b (by simp)
    rw [ha, hb] at hnd
    simp at hnd
end Go.Proofs.Ytmbfobcbnnalbaa
