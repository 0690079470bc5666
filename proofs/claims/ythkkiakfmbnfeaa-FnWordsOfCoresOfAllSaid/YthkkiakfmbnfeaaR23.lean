/-
  Several texts in one.
-/
import Derived.Test.YthkkiakfmbnfeaaR21
import Derived.Test.YthkkiakfmbnfeaaR22
import Derived.Test.YthkkiakfmbnfeaaCF
/-
  Plain check: at all partitions of at most fifteen cells the product of the hooks divides the factorial. No program in this text.
-/
namespace Go.Proofs.Ythkkiakfmbnfeaa
def chkD (n : Nat) : Bool := (List.range (T n n)).all fun r => let L := hkL (pa n n n r); facN n % prN L L.length == 0
set_option maxRecDepth 100000 in
theorem div_chk : ∀ n, n < 16 → chkD n = true := by decide +kernel
end Go.Proofs.Ythkkiakfmbnfeaa
/-
  Contracts: RunnersOf of the program and of the model.
-/
namespace Go.Proofs.Ythkkiakfmbnfeaa
open Go.RowKit

theorem roF_f {r : Int} {xs : List Int} (h : isAba r xs = false) : roF r xs = [] := by simp [roF, h]
theorem roF_t {t : Nat} {xs : List Int} (h : isAba t xs = true) : roF t xs = rnS t xs := by simp [roF, h]

theorem Gr.base {w : World} {B B' g t : Nat} {rows : List (List Int)} {P : Nat → Option Addr} {C : Nat → Nat} (h : Gr w B g t rows P C) (hB : B' ≤ B) : Gr w B' g t rows P C := by
  refine ⟨h.len, ?_, fun j hj => (h.row j hj).more hB, h.apart⟩
  refine ⟨h.out.1, ?_⟩
  rcases h.out.2 with hn | ⟨g', cap, cur, hv, hb, rest⟩
  · exact .inl hn
  · exact .inr ⟨g', cap, cur, hv, Nat.le_trans hB hb, rest⟩

end Go.Proofs.Ythkkiakfmbnfeaa
