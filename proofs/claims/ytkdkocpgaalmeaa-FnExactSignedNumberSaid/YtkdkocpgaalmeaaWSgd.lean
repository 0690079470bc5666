/-
  Walks of the exact laws on SignedNumber (made by genlaw.py).
-/
import Derived.Test.YtkdkocpgaalmeaaSgd
import Derived.Test.YtkdkocpgaalmeaaCB
namespace Go.Proofs.Ytkdkocpgaalmeaa
open Go.RowKit
set_option maxRecDepth 100000 in
set_option maxHeartbeats 1000000 in
theorem walkSignedNumber (r0 : Int) (w : World) (hr0 : I64 r0) :
    Calls Try.prog 13 #[.int .i64 r0] w fun e w' => e = .returned (.bool true) ∧ Below w.heap.size w w' := by
  go_enter Try.func13, Try.ntmps13
  have B0 : Below w.heap.size w w := Below.refl _ _
  go_wp2_with fail
  refine (spec_SignedNumber _ _ hr0).mono ?_
  rintro e w1 ⟨rfl, b1⟩
  have z1 : w.heap.size ≤ w1.heap.size := b1.size
  have B1 : Below w.heap.size w w1 := Below.next B0 b1
  go_wp2_with fail
  refine (impl_SignedNumber _ _ hr0).mono ?_
  rintro e w2 ⟨rfl, b2⟩
  have z2 : w1.heap.size ≤ w2.heap.size := b2.size
  have B2 : Below w.heap.size w w2 := Below.next B1 b2
  go_wp2_with fail
  go_ret
  exact ⟨rfl, B2⟩
end Go.Proofs.Ytkdkocpgaalmeaa
