/-
  Bars taken away: what stays, checked over all strict partitions. No walk in this text.
-/
import Derived.Test.YtcgoiddghenkmaaDbMath
import Derived.Test.YtcgoiddghenkmaaDblD
namespace Go.Proofs.Ytcgoiddghenkmaa

/-- How many parts are r more than a multiple, less those that are r less than one. -/
def brI (t : Nat) (p : List Int) : List Int := [1, 2].map fun r : Nat => p.foldr (fun x a => if x.toNat % t = r then a + 1 else if x.toNat % t = t - r then a - 1 else a) 0
def brC : List (List Int) := [[], [1], [2], [4, 1], [5, 2], [7, 4, 1], [8, 5, 2], [10, 7, 4, 1], [11, 8, 5, 2]]
def brC5 : List (List Int) := [[], [1], [2], [3], [2, 1], [4], [3, 1], [4, 2], [6, 1], [4, 3], [7, 2], [6, 2, 1], [7, 2, 1], [6, 3, 1], [8, 3], [8, 3, 1], [9, 4], [7, 4, 2], [9, 4, 2], [8, 4, 3], [9, 4, 3], [7, 6, 2, 1], [11, 6, 1], [8, 6, 3, 1], [11, 6, 2, 1], [12, 7, 2], [11, 6, 3, 1], [12, 7, 2, 1], [9, 7, 4, 2], [13, 8, 3], [9, 8, 4, 3], [13, 8, 3, 1], [12, 7, 4, 2], [14, 9, 4], [11, 7, 6, 2, 1], [13, 8, 4, 3], [12, 7, 6, 2, 1], [14, 9, 4, 2], [11, 8, 6, 3, 1], [14, 9, 4, 3]]
def brK1 (t : Nat) (C : List (List Int)) (p : List Int) : Bool :=
  (brs p t p.length).all (fun b => decide (brI t (tkL p t b) = brI t p) && decide ((tkL p t b).sum = p.sum - t)) && (!(brs p t p.length).isEmpty || C.contains p)
theorem bars_chk3 : ((List.range 31).all fun n => (sA 30 n n).all (brK1 3 brC)) = true := by decide +kernel
theorem bars_chk5 : ((List.range 31).all fun n => (sA 30 n n).all (brK1 5 brC5)) = true := by decide +kernel
theorem bars_core3 : (brC.all fun a => brC.all fun b => decide (brI 3 a = brI 3 b → a = b)) = true := by decide +kernel
theorem bars_core5 : (brC5.all fun a => brC5.all fun b => decide (brI 5 a = brI 5 b → a = b)) = true := by decide +kernel
end Go.Proofs.Ytcgoiddghenkmaa
