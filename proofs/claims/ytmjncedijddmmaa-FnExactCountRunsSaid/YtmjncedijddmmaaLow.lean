/-
  Contracts: one bead of a board moved down (the first one that can be), and all of them.
-/
import Derived.Test.YtmjncedijddmmaaCE
namespace Go.Proofs.Ytmjncedijddmmaa
open Go.RowKit

/-- Whether a bead of a line can be moved down by a row. -/
def dnOk (f : Nat → Bool) (r : Nat) : Bool := canPut f r ((r : Int) - 1)
def dnR (f : Nat → Bool) (r : Nat) : Nat → Bool := putR f r ((r : Int) - 1)
theorem dnR_no {f : Nat → Bool} {r : Nat} (h : dnOk f r = false) : dnR f r = f := by unfold dnR putR; unfold dnOk at h; rw [h]; simp
theorem dnOk_iff {f : Nat → Bool} {r : Nat} (hr : r < 36) : dnOk f r = true ↔ 0 < r ∧ f r = true ∧ f (r - 1) = false := by
  unfold dnOk canPut
  simp only [Bool.and_eq_true, decide_eq_true_eq, Int.toNat_natCast, Bool.not_eq_true']
  rw [show ((r : Int) - 1).toNat = r - 1 by omega]
  constructor
  · rintro ⟨h1, h2, h3, h4⟩; exact ⟨by omega, h3, h4⟩
  · rintro ⟨h1, h2, h3⟩; exact ⟨by omega, by omega, h2, h3⟩
theorem dnR_yes {f : Nat → Bool} {r : Nat} (h : dnOk f r = true) : dnR f r = updB (updB f r false) (r - 1) true := by
  unfold dnR putR; unfold dnOk at h; rw [h]
  simp only [if_true, Int.toNat_natCast]
  rw [show ((r : Int) - 1).toNat = r - 1 by omega]
/-- A board lowered: the same if no bead can go down, or one of them down. -/
def Low (t : Nat) (F G : Nat → Bool) : Prop :=
  (G = F ∧ ∀ i, i < t → ∀ r, r < 36 → dnOk (lnB F i) r = false) ∨ ∃ i r, i < t ∧ r < 36 ∧ dnOk (lnB F i) r = true ∧ G = setLn F i (dnR (lnB F i) r)

/-- A part of a block loaded at once, its cells told by a function. -/
theorem wpList_load_midc {P : Program} {ops : Array Oper} {rest : List Oper} {op : Oper} {a : Act} {w : World} {Q : Exit → Act → World → Prop} (hgd : op.guard = none) (ty : TypeId) (x : Operand) (ho : op.op = .load ty x)
    (b o : Nat) (hx : a.eval x = .pointer (some ⟨b, o, none⟩)) (n : Nat) (c : Nat → Value) (d : TypeDesc) (hc : w.rangeAt b o (caL n c))
    (hu : P.underlying ty = some d) (hd : d.isRow = true) (hi : (P.info? ty).map (·.size) = some (caL n c).length)
    (h : wpList P ops Q rest (a.put op.dst (.agg (ca n c))) w) : wpList P ops Q (op :: rest) a w :=
  wpList_load_mid hgd ty x ho b o hx (caL n c) d hc hu hd hi h

end Go.Proofs.Ytmjncedijddmmaa
