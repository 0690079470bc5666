/-
  Contracts: LiftBead of the model.
-/
import Derived.Test.YtnhjofcmaodamaaLiftS
namespace Go.Proofs.Ytnhjofcmaodamaa
open Go.RowKit

theorem abIs_n (r : Int) (A : Option Addr) (c n : Nat) (xs : List Int) (w : World) (hn : xs.length = n) (hl : n ≤ 1048576) (hc : Cells w A xs) (b : Bool) (h : isAba r xs = b) :
    Calls Try.prog 81 #[.agg #[.int .i64 r, .slice A n c]] w fun e w' => e = .returned (.bool b) ∧ Below w.heap.size w w' := by
  subst hn; exact abIs_b r A c xs w hl hc b h

end Go.Proofs.Ytnhjofcmaodamaa
