/-
  Contracts: PartitionWith of the model.
-/
import Derived.Test.YtphfmlfojebjkaaCH
namespace Go.Proofs.Ytphfmlfojebjkaa
open Go.RowKit

theorem l1Least_s (a b : Nat) (w : World) :
    Calls Try.prog 33 #[.int .i64 a, .int .i64 b] w fun e w' => e = .returned (.int .i64 ((min a b : Nat) : Int)) ∧ w = w' :=
  (l1Least_any a b w).mono fun _ _ h => ⟨h.1, h.2.symm⟩

theorem bound_PartitionWith (n r : Int) : (withF n r).length ≤ 1048576 := by have := withF_len n r; omega
end Go.Proofs.Ytphfmlfojebjkaa
