/-
  Several texts in one.
-/
import Derived.Test.YthkkiakfmbnfeaaR25
import Derived.Test.YthkkiakfmbnfeaaCB
import Derived.Test.YthkkiakfmbnfeaaR01
import Derived.Test.YthkkiakfmbnfeaaR23
import Derived.Test.YthkkiakfmbnfeaaR28
import Derived.Test.YthkkiakfmbnfeaaR24
import Derived.Test.YthkkiakfmbnfeaaR12
/-
  Contracts: FromCore of the program.
-/
namespace Go.Proofs.Ythkkiakfmbnfeaa
open Go.RowKit

def fcOk (p : List Int) (rows : List (List Int)) : Bool := isCoreF p rows.length && (rows.all good && decide (p.sum + rows.length * sumN (fun i => (rowsR rows i).sum) rows.length ≤ 30))
def fcF (p : List Int) (rows : List (List Int)) : List Int := if fcOk p rows then fcP rows.length p (mulN rows.length 30) (rowsR rows) else []
def fcB (p : List Int) (rows : List (List Int)) (i : Nat) : List Int := beadsF (rowsR rows i) (ctN rows.length p (mulN rows.length 30) i)
def fcBk (p : List Int) (rows : List (List Int)) (i : Nat) : Bool := beadsOk (rowsR rows i) (ctN rows.length p (mulN rows.length 30) i)
theorem all_rows {rows : List (List Int)} : rows.all good = true ↔ ∀ i, i < rows.length → good (rowsR rows i) = true := by
  rw [List.all_eq_true]
  constructor
  · intro h i hi
    unfold rowsR
    rw [List.getD_eq_getElem?_getD, List.getElem?_eq_getElem hi]
    exact h _ (List.getElem_mem hi)
  · intro h x hx
    obtain ⟨i, hi, rfl⟩ := List.getElem_of_mem hx
    have := h i hi
    unfold rowsR at this
    rw [List.getD_eq_getElem?_getD, List.getElem?_eq_getElem hi] at this
    exact this
theorem fc_bad {p : List Int} {rows : List (List Int)} {k : Nat} (hk : k < rows.length) (h : fcBk p rows k = false) : fcOk p rows = false := by
  cases hf : fcOk p rows
  · rfl
  · exfalso
    unfold fcOk at hf
    rw [Bool.and_eq_true, Bool.and_eq_true, decide_eq_true_eq] at hf
    obtain ⟨h1, h2, h3⟩ := hf
    have hg := all_rows.1 h2
    have hcr : crB p rows.length = true := by unfold isCoreF at h1; exact (Bool.and_eq_true _ _ ▸ h1).1
    have hin := inB_iff.1 (crB_good hcr).2
    have hb := mulN_bd (t := rows.length) (n := 30) (by omega)
    have he := fc_enough h1 (n := mulN rows.length 30) (by omega) (fun i hi => (good_iff _).1 (hg i hi)) h3 k hk
    have hc := ct_le rows.length p (mulN rows.length 30) k
    unfold fcBk beadsOk at h
    rw [hg k hk, inB_iff.2 ⟨by omega, by omega⟩] at h
    cases h
theorem fc_all {p : List Int} {rows : List (List Int)} (hc : isCoreF p rows.length = true) (h : ∀ k, k < rows.length → fcBk p rows k = true) :
    frOk ((List.range rows.length).map (fcB p rows)) = fcOk p rows ∧ partsL (frF ((List.range rows.length).map (fcB p rows))) = fcF p rows ∧ (frF ((List.range rows.length).map (fcB p rows))).length ≤ 1000 ∧ ∀ j, j < (frF ((List.range rows.length).map (fcB p rows))).length → 0 ≤ (frF ((List.range rows.length).map (fcB p rows))).getD j 0 ∧ (frF ((List.range rows.length).map (fcB p rows))).getD j 0 ≤ 1000 := by
  have hcr : crB p rows.length = true := by unfold isCoreF at hc; exact (Bool.and_eq_true _ _ ▸ hc).1
  have hin := inB_iff.1 (crB_good hcr).2
  have hb := mulN_bd (t := rows.length) (n := 30) (by omega)
  have Gp := ((good_iff p).1 (crB_good hcr).1)
  have hpl := Gp.len
  have hg : ∀ i, i < rows.length → good (rowsR rows i) = true ∧ (rowsR rows i).length ≤ ctN rows.length p (mulN rows.length 30) i := fun i hi => by
    have := h i hi
    unfold fcBk beadsOk at this
    rw [Bool.and_eq_true] at this
    exact ⟨this.1, by have := inB_iff.1 this.2; omega⟩
  have hrow : ∀ i, i < rows.length → fcB p rows i = fcR rows.length p (mulN rows.length 30) (rowsR rows) i := fun i hi => by
    have hc := ct_le rows.length p (mulN rows.length 30) i
    unfold fcB beadsF fcR
    rw [if_pos ⟨(hg i hi).1, by have := (hg i hi).2; omega, by omega⟩, Int.toNat_natCast]
  have hl : ((List.range rows.length).map (fcB p rows)).length = rows.length := by simp
  have hrr : ∀ i, i < rows.length → rowsR ((List.range rows.length).map (fcB p rows)) i = fcB p rows i := fun i hi => by simp [rowsR, List.getD, hi]
  have hfl : frL ((List.range rows.length).map (fcB p rows)) = fcA rows.length p (mulN rows.length 30) (rowsR rows) := by
    unfold frL fcA
    rw [hl]
    congr 1
    have : ∀ n, n ≤ rows.length → abfL rows.length (rowsR ((List.range rows.length).map (fcB p rows))) n = abfL rows.length (fcR rows.length p (mulN rows.length 30) (rowsR rows)) n := by
      intro n
      induction n with
      | zero => intro _; rfl
      | succ n ih => intro hn; rw [abfL, abfL, ih (by omega), hrr n (by omega), hrow n (by omega)]
    exact this _ (Nat.le_refl _)
  obtain ⟨R, pw, pos, len, sum⟩ := fc_facts hc (n := mulN rows.length 30) (by omega) (by omega) (q := rowsR rows) (fun i hi => (good_iff _).1 (hg i hi).1) (fun i hi => (hg i hi).2)
  have e1 : frOk ((List.range rows.length).map (fcB p rows)) = isAba rows.length (fcA rows.length p (mulN rows.length 30) (rowsR rows)) := by
    have := fr_full (rows := (List.range rows.length).map (fcB p rows)) (by rw [hl]; exact (crB_good hcr).2) fun i hi => by
      rw [hl] at hi
      rw [hrr i hi, hrow i hi]
      exact rises_Rises.2 (beads_rise ((good_iff _).1 (hg i hi).1) (by have := ct_le rows.length p (mulN rows.length 30) i; omega))
    rw [this, hl, hfl]
  have e2 : isAba rows.length (fcA rows.length p (mulN rows.length 30) (rowsR rows)) = fcOk p rows := by
    have hall : rows.all good = true := all_rows.2 fun i hi => (hg i hi).1
    unfold isAba fcOk
    rw [(crB_good hcr).2, hc, hall, Bool.true_and, Bool.true_and, Bool.true_and]
    by_cases hs : p.sum + rows.length * sumN (fun i => (rowsR rows i).sum) rows.length ≤ 30
    · rw [decide_eq_true hs]
      exact goodB_of (by rw [len]; omega) R (by rw [sum, len]; omega)
    · rw [decide_eq_false hs]
      cases hgb : goodB (fcA rows.length p (mulN rows.length 30) (rowsR rows))
      · rfl
      · exfalso
        have := goodB_sum (goodB_iff.1 hgb)
        rw [sum, len] at this; omega
  have e3 : frOk ((List.range rows.length).map (fcB p rows)) = fcOk p rows := by rw [e1, e2]
  refine ⟨e3, ?_, ?_⟩
  · unfold frF fcF
    rw [e3, hfl]
    split <;> rfl
  · unfold frF
    rw [hfl]
    split
    · exact ⟨by rw [len]; omega, R.bd⟩
    · exact ⟨by simp, fun j hj => absurd hj (by simp)⟩

theorem tot_map (f : Nat → List Int) (m : Nat) (h : ∀ i, (f i).length ≤ m) : ∀ n, tot ((List.range n).map f) ≤ n * m
  | 0 => by simp [tot]
  | n + 1 => by
    rw [List.range_succ, List.map_append, tot_append, Nat.succ_mul]
    have := tot_map f m h n
    have := h n
    simp only [List.map_cons, List.map_nil, tot]; omega

end Go.Proofs.Ythkkiakfmbnfeaa
/-
  Contracts: all beads of a board moved down.
-/
namespace Go.Proofs.Ythkkiakfmbnfeaa
open Go.RowKit

end Go.Proofs.Ythkkiakfmbnfeaa
