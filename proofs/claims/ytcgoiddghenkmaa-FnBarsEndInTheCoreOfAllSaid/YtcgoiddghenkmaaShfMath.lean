/-
  Bar lengths of strict partitions of at most 15 cells: as many as cells, and bounded like hooks. Checked for each one.
-/
import Derived.Test.YtcgoiddghenkmaaBlMath
import Derived.Test.YtcgoiddghenkmaaPaMath
import Derived.Test.YtcgoiddghenkmaaChsMath
namespace Go.Proofs.Ytcgoiddghenkmaa

def shfL (xs : List Int) : List Int := (blR xs xs.length).flatten
def shOk (n : Nat) (xs : List Int) : Bool :=
  decide ((shfL xs).length = n) && ((List.range (shfL xs).length).all (fun k => decide (1 ≤ (shfL xs).getD k 0) && decide ((shfL xs).getD k 0 ≤ (n : Int) - k)) && (blR xs xs.length).all (fun r => decide (0 < r.length)))
theorem sh_chk : ((List.range 16).all fun n => (List.range (T n n)).all fun r => !dcr (pa n n n r) || shOk n (pa n n n r)) = true := by decide +kernel
def shB (xs : List Int) : Bool := strB xs && decide (xs.sum ≤ 15)
theorem shB_t {xs : List Int} (h : shB xs = true) : strB xs = true ∧ xs.sum ≤ 15 := by simpa [shB] using h
theorem sh_ok {xs : List Int} (h : shB xs = true) : shOk xs.sum.toNat xs = true := by
  obtain ⟨hs, h15⟩ := shB_t h
  have G := strB_good hs
  obtain ⟨r, hr, e⟩ := good_pa G
  have h0 := G.sum0
  have h1 := List.all_eq_true.1 sh_chk xs.sum.toNat (List.mem_range.2 (by omega))
  have h2 := List.all_eq_true.1 h1 r (List.mem_range.2 hr)
  rw [← e] at h2
  have hd : dcr xs = true := by simp only [strB, Bool.and_eq_true] at hs; exact hs.2
  rw [hd] at h2
  simpa using h2
theorem sh_facts {xs : List Int} (h : shB xs = true) : (shfL xs).length = xs.sum.toNat ∧ HkB (shfL xs) (shfL xs).length ∧ ∀ j, j < (blR xs xs.length).length → 0 < ((blR xs xs.length).getD j []).length := by
  have h1 := sh_ok h
  simp only [shOk, Bool.and_eq_true, decide_eq_true_eq] at h1
  obtain ⟨h1, h2, h3⟩ := h1
  refine ⟨h1, fun k hk => ?_, fun j hj => ?_⟩
  · have := List.all_eq_true.1 h2 k (List.mem_range.2 hk)
    simp only [Bool.and_eq_true, decide_eq_true_eq] at this
    rw [h1]; exact this
  · have := List.all_eq_true.1 h3 ((blR xs xs.length).getD j []) (by rw [List.getD_eq_getElem?_getD, List.getElem?_eq_getElem hj]; exact List.getElem_mem hj)
    simpa using this
def shF (xs : List Int) : Int := if shB xs then (wyN (shfL xs) (shfL xs).length : Int) else 0
end Go.Proofs.Ytcgoiddghenkmaa
