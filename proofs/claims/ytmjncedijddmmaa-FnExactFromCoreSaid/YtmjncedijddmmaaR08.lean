/-
  Several texts in one.
-/
import Derived.Test.YtmjncedijddmmaaCellMath
import Derived.Test.YtmjncedijddmmaaCE
/-
  Plain facts: the rows that meet a test, in order. No program in this text.
-/
namespace Go.Proofs.Ytmjncedijddmmaa

def filt (p : Nat → Bool) (k : Nat) : List Int := ((List.range k).filter p).map fun i : Nat => (i : Int)
theorem filt_yes {p : Nat → Bool} {k : Nat} (h : p k = true) : filt p (k + 1) = filt p k ++ [(k : Int)] := by simp [filt, List.range_succ, List.filter_append, h]
theorem filt_no {p : Nat → Bool} {k : Nat} (h : p k = false) : filt p (k + 1) = filt p k := by simp [filt, List.range_succ, List.filter_append, h]
theorem filt_len (p : Nat → Bool) (k : Nat) : (filt p k).length ≤ k := by
  unfold filt; rw [List.length_map]
  have := List.length_filter_le p (List.range k)
  rw [List.length_range] at this; exact this
theorem filt_zero (p : Nat → Bool) : filt p 0 = [] := rfl
def corB (xs : List Int) (r : Nat) : Bool := decide (r + 1 = xs.length) || decide (xs.getD (r + 1) 0 < xs.getD r 0)
def addB (xs : List Int) (r : Nat) : Bool := decide (r = 0) || (decide (r = xs.length) || decide (xs.getD r 0 < xs.getD (r - 1) 0))
def corF (xs : List Int) : List Int := if good xs then filt (corB xs) xs.length else []
def addF (xs : List Int) : List Int := if good xs then filt (addB xs) (xs.length + 1) else []
theorem corF_t {xs : List Int} (h : good xs = true) : corF xs = filt (corB xs) xs.length := by simp [corF, h]
theorem corF_f {xs : List Int} (h : good xs = false) : corF xs = [] := by simp [corF, h]
theorem addF_t {xs : List Int} (h : good xs = true) : addF xs = filt (addB xs) (xs.length + 1) := by simp [addF, h]
theorem addF_f {xs : List Int} (h : good xs = false) : addF xs = [] := by simp [addF, h]
theorem bound_CornersOf (xs : List Int) : (corF xs).length ≤ 1048576 := by
  unfold corF
  split
  · rename_i h
    have := filt_len (corB xs) xs.length
    have := ((good_iff xs).1 h).len
    omega
  · simp
theorem bound_AddableOf (xs : List Int) : (addF xs).length ≤ 1048576 := by
  unfold addF
  split
  · rename_i h
    have := filt_len (addB xs) (xs.length + 1)
    have := ((good_iff xs).1 h).len
    omega
  · simp
theorem cor_last {xs : List Int} {r : Nat} (h : r + 1 = xs.length) : corB xs r = true := by simp [corB, h]
theorem cor_lt {xs : List Int} {r : Nat} (h : xs.getD (r + 1) 0 < xs.getD r 0) : corB xs r = true := by
  unfold corB; rw [decide_eq_true h, Bool.or_true]
theorem cor_no {xs : List Int} {r : Nat} (h : r + 1 ≠ xs.length) (h2 : ¬ xs.getD (r + 1) 0 < xs.getD r 0) : corB xs r = false := by
  unfold corB; rw [decide_eq_false h, decide_eq_false h2]; rfl
theorem add_zero (xs : List Int) : addB xs 0 = true := by simp [addB]
theorem add_last (xs : List Int) : addB xs xs.length = true := by
  unfold addB; rw [decide_eq_true (p := xs.length = xs.length) rfl, Bool.true_or, Bool.or_true]
theorem add_lt {xs : List Int} {r : Nat} (h : xs.getD r 0 < xs.getD (r - 1) 0) : addB xs r = true := by
  unfold addB; rw [decide_eq_true h, Bool.or_true, Bool.or_true]
theorem add_no {xs : List Int} {r : Nat} (h : r ≠ 0) (h1 : r ≠ xs.length) (h2 : ¬ xs.getD r 0 < xs.getD (r - 1) 0) : addB xs r = false := by
  unfold addB; rw [decide_eq_false h, decide_eq_false h1, decide_eq_false h2]; rfl
end Go.Proofs.Ytmjncedijddmmaa
/-
  Contracts: one bead of a board moved down (the first one that can be), and all of them.
-/
namespace Go.Proofs.Ytmjncedijddmmaa
open Go.RowKit

/-- Whether a bead of a line can be moved down by a row. -/
def dnOk (f : Nat → Bool) (r : Nat) : Bool := canPut f r ((r : Int) - 1)
def dnR (f : Nat → Bool) (r : Nat) : Nat → Bool := putR f r ((r : Int) - 1)
theorem dnR_no {f : Nat → Bool} {r : Nat} (h : dnOk f r = false) : dnR f r = f := by unfold dnR putR; unfold dnOk at h; rw [h]; simp
theorem dnOk_iff {f : Nat → Bool} {r : Nat} (hr : r < 36) : dnOk f r = true ↔ 0 < r ∧ f r = true ∧ f (r - 1) = false := by
  unfold dnOk canPut
  simp only [Bool.and_eq_true, decide_eq_true_eq, Int.toNat_natCast, Bool.not_eq_true']
  rw [show ((r : Int) - 1).toNat = r - 1 by omega]
  constructor
  · rintro ⟨h1, h2, h3, h4⟩; exact ⟨by omega, h3, h4⟩
  · rintro ⟨h1, h2, h3⟩; exact ⟨by omega, by omega, h2, h3⟩
theorem dnR_yes {f : Nat → Bool} {r : Nat} (h : dnOk f r = true) : dnR f r = updB (updB f r false) (r - 1) true := by
  unfold dnR putR; unfold dnOk at h; rw [h]
  simp only [if_true, Int.toNat_natCast]
  rw [show ((r : Int) - 1).toNat = r - 1 by omega]
/-- A board lowered: the same if no bead can go down, or one of them down. -/
def Low (t : Nat) (F G : Nat → Bool) : Prop :=
  (G = F ∧ ∀ i, i < t → ∀ r, r < 36 → dnOk (lnB F i) r = false) ∨ ∃ i r, i < t ∧ r < 36 ∧ dnOk (lnB F i) r = true ∧ G = setLn F i (dnR (lnB F i) r)

/-- A part of a block loaded at once, its cells told by a function. -/
theorem wpList_load_midc {P : Program} {ops : Array Oper} {rest : List Oper} {op : Oper} {a : Act} {w : World} {Q : Exit → Act → World → Prop} (hgd : op.guard = none) (ty : TypeId) (x : Operand) (ho : op.op = .load ty x)
    (b o : Nat) (hx : a.eval x = .pointer (some ⟨b, o, none⟩)) (n : Nat) (c : Nat → Value) (d : TypeDesc) (hc : w.rangeAt b o (caL n c))
    (hu : P.underlying ty = some d) (hd : d.isRow = true) (hi : (P.info? ty).map (·.size) = some (caL n c).length)
    (h : wpList P ops Q rest (a.put op.dst (.agg (ca n c))) w) : wpList P ops Q (op :: rest) a w :=
  wpList_load_mid hgd ty x ho b o hx (caL n c) d hc hu hd hi h

end Go.Proofs.Ytmjncedijddmmaa
