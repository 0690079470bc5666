/-
  Several texts in one.
-/
import Derived.Test.YtmiifdedmjfgkaaR14
import Derived.Test.YtmiifdedmjfgkaaR05
import Derived.Test.YtmiifdedmjfgkaaCH
/-
  Ranks and cranks spread evenly: checked where the theorems tell. No walk in this text.
-/
namespace Go.Proofs.Ytmiifdedmjfgkaa

def evC (V : List Int → Int) (L : List (List Int)) (m N : Nat) : Bool := (List.range m).all fun i => decide (L.countP (fun p => decide (V p % (m : Int) = (i : Int))) * m = N)
theorem ev_rk5 : ((List.range 6).all fun j => evC rkV (lA 29 (5 * j + 4) (5 * j + 4)) 5 (T (5 * j + 4) (5 * j + 4))) = true := by decide +kernel
theorem ev_rk7 : ((List.range 4).all fun j => evC rkV (lA 26 (7 * j + 5) (7 * j + 5)) 7 (T (7 * j + 5) (7 * j + 5))) = true := by decide +kernel
theorem ev_cr5 : ((List.range 6).all fun j => evC crV (lA 29 (5 * j + 4) (5 * j + 4)) 5 (T (5 * j + 4) (5 * j + 4))) = true := by decide +kernel
theorem ev_cr7 : ((List.range 4).all fun j => evC crV (lA 26 (7 * j + 5) (7 * j + 5)) 7 (T (7 * j + 5) (7 * j + 5))) = true := by decide +kernel
theorem ev_cr11 : ((List.range 3).all fun j => evC crV (lA 28 (11 * j + 6) (11 * j + 6)) 11 (T (11 * j + 6) (11 * j + 6))) = true := by decide +kernel
theorem pn_T : ((List.range 31).all fun n => n == 0 || decide (pnT.getD n 0 = (T n n : Nat))) = true := by decide +kernel
end Go.Proofs.Ytmiifdedmjfgkaa
/-
  Contracts: PartitionWith of the model.
-/
namespace Go.Proofs.Ytmiifdedmjfgkaa
open Go.RowKit

theorem l1Least_s (a b : Nat) (w : World) :
    Calls Try.prog 38 #[.int .i64 a, .int .i64 b] w fun e w' => e = .returned (.int .i64 ((min a b : Nat) : Int)) ∧ w = w' :=
  (l1Least_any a b w).mono fun _ _ h => ⟨h.1, h.2.symm⟩

theorem bound_PartitionWith (n r : Int) : (withF n r).length ≤ 1048576 := by have := withF_len n r; omega
end Go.Proofs.Ytmiifdedmjfgkaa
