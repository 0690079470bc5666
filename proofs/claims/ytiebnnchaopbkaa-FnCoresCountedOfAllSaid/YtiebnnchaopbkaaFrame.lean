/-
  What the frames of the rows' proofs share: from an argument's reading to the facts that the walks ask.
-/
import Derived.Test.YtiebnnchaopbkaaRows
import Derived.Test.YtiebnnchaopbkaaCB
import Derived.ProofKit
import Derived.OpenShut
import Derived.ShutString
import Derived.ChangeOld
import Derived.Lib.SmallJoins
namespace Go.Proofs.Ytiebnnchaopbkaa
open Go.ChangeShapes Go.WideShapes Go.ChangeAt Go.RowKit

theorem Try.own : ownKnob Try.prog.godebug = none := by kernel_rfl
theorem Try.laidOut : laidOutB Try.prog = true := by kernel_rfl

theorem cells_of_ints {w : World} {x : Addr} {zs : List Int} {l : Nat} (h : ∀ i, i < zs.length → w.cell? (x.add i) = some (.int .i64 (zs.getD i 0))) (hl : l ≤ zs.length) :
    ∃ xs : List Int, xs.length = l ∧ Cells w (some x) xs := by
  refine ⟨zs.take l, by rw [List.length_take]; omega, fun hp => ?_⟩
  rw [List.length_take] at hp
  have h0 := h 0 (by omega)
  obtain ⟨b, o, spot⟩ := x
  have hspot : spot = none := by simpa [Addr.add] using World.cell?_spot h0
  subst hspot
  refine ⟨b, o, rfl, fun j hj => ?_⟩
  rw [List.length_take] at hj
  have := h j (by omega)
  rw [List.getD_eq_getElem?_getD, List.getElem?_take, if_pos (by omega), ← List.getD_eq_getElem?_getD, ← this]
  have hadd : (⟨b, o, none⟩ : Addr).add j = ⟨b, o + j, none⟩ := by unfold Addr.add; split <;> simp_all
  rw [hadd]
theorem i64_of_wf {n : Int} (h : (Lit.int .i64 n).wf = true) : I64 n := bounds_i64 h
end Go.Proofs.Ytiebnnchaopbkaa
