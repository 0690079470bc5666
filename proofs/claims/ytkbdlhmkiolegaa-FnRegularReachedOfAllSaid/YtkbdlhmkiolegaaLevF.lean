/-
  Contracts: the size of the core with levels, and levels turned (both sides).
-/
import Derived.Test.YtkbdlhmkiolegaaR08
namespace Go.Proofs.Ytkbdlhmkiolegaa
open Go.RowKit

theorem sizeF_f {xs : List Int} (h : levB xs = false) : sizeF xs = 0 := by simp [sizeF, h]
theorem sizeF_t {xs : List Int} (h : levB xs = true) : sizeF xs = sizeL xs := by simp [sizeF, h]

end Go.Proofs.Ytkbdlhmkiolegaa
