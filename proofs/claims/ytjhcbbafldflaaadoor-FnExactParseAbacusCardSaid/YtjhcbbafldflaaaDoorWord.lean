/-
  Contracts: the border word, the model's side; and plain facts on the word.
-/
import Derived.Test.YtjhcbbafldflaaaDoorCB
import Derived.Lib.FrozenHead
namespace Go.Proofs.YtjhcbbafldflaaaDoor
open Go.RowKit

def pn (p : List Int) (j : Nat) : Nat := (p.getD j 0).toNat
/-- The columns that the border has passed before row number d from below. -/
def prevN (p : List Int) (d : Nat) : Nat := if d = 0 then 0 else pn p (p.length - d)
def wordUp (p : List Int) : Nat → List UInt8
  | 0 => []
  | d + 1 => wordUp p d ++ (List.replicate (pn p (p.length - 1 - d) - prevN p d) 82 ++ [85])
def wordS (p : List Int) (d a : Nat) : List UInt8 := wordUp p d ++ List.replicate (a - prevN p d) 82
theorem prev_le {p : List Int} (G : Good p) {d : Nat} (h : d < p.length) : prevN p d ≤ pn p (p.length - 1 - d) := by
  unfold prevN pn
  split
  · omega
  · have := G.down (p.length - 1 - d) (by omega)
    rw [show p.length - 1 - d + 1 = p.length - d by omega] at this
    omega
theorem prev_succ (p : List Int) (d : Nat) : prevN p (d + 1) = pn p (p.length - 1 - d) := by
  unfold prevN; rw [if_neg (by omega), show p.length - (d + 1) = p.length - 1 - d by omega]
theorem wordS_zero (p : List Int) (d : Nat) : wordS p d (prevN p d) = wordUp p d := by simp [wordS]
theorem wordS_R (p : List Int) (d a : Nat) (h : prevN p d ≤ a) : wordS p d (a + 1) = wordS p d a ++ [82] := by
  unfold wordS
  rw [show a + 1 - prevN p d = (a - prevN p d) + 1 by omega, List.replicate_succ', List.append_assoc]
theorem wordS_U (p : List Int) (d : Nat) : wordS p d (pn p (p.length - 1 - d)) ++ [85] = wordUp p (d + 1) := by
  simp [wordS, wordUp]
theorem pn_le {p : List Int} (G : Good p) (j : Nat) : pn p j ≤ 30 := by
  unfold pn
  by_cases h : j < p.length
  · have := G.le j h; omega
  · rw [List.getD_eq_getElem?_getD, List.getElem?_eq_none (by omega)]; simp
theorem wordUp_len {p : List Int} (G : Good p) : ∀ d, (wordUp p d).length ≤ 31 * d
  | 0 => by simp [wordUp]
  | d + 1 => by
    have := wordUp_len G d
    have := pn_le G (p.length - 1 - d)
    simp only [wordUp, List.length_append, List.length_replicate, List.length_cons, List.length_nil]; omega
theorem wordS_len {p : List Int} (G : Good p) (d a : Nat) (ha : a ≤ 30) : (wordS p d a).length ≤ 31 * d + 30 := by
  have := wordUp_len G d
  simp only [wordS, List.length_append, List.length_replicate]; omega
def wordL (p : List Int) : List UInt8 := wordUp p p.length
def strOf (l : List UInt8) : ByteArray := ⟨l.toArray⟩
theorem strOf_app (l m : List UInt8) : strOf l ++ strOf m = strOf (l ++ m) := by
  apply ByteArray.ext
  simp [strOf]
theorem strOf_size (l : List UInt8) : (strOf l).size = l.length := by simp [strOf, ByteArray.size]
def wordF (p : List Int) : ByteArray := if good p then strOf (wordL p) else ByteArray.empty

end Go.Proofs.YtjhcbbafldflaaaDoor
