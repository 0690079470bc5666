/-
  Maps that count ints.
-/
import Derived.Test.YtkdkocpgaalmeaaSpr
namespace Go.Proofs.Ytkdkocpgaalmeaa
open Go.RowKit Go.Maps

theorem grownBelowI {w w' : World} (hb : Below w.heap.size w w') : w.grownBy w' none := ⟨hb.os, hb.tape, hb.output, hb.size, fun i h _ => hb.block i h⟩

theorem Try.spILaw : Keyed Try.prog 3 := int_keyed Try.underlying3
theorem Try.spIZero (w : World) : (zeroValue 3).run Try.prog w = .ok (.int .i64 0) w := by kernel_rfl
/-- Block b is a map that tells how often each value is met among the first k. -/
def SpI (w : World) (b k : Nat) (V : Nat → Int) : Prop := ∃ D : DataW Unit, w.ownsMap Try.prog 3 (plainElem Try.prog 3) b k D ∧ ∀ x, (Lit.int .i64 x).wf = true → D.atKey (.int .i64 x) (.lit (.int .i64 0)) = .lit (.int .i64 (cntV V x k))
theorem SpI.below {w w' : World} {b k : Nat} {V : Nat → Int} (h : SpI w b k V) (hb : Below w.heap.size w w') : SpI w' b k V := by
  obtain ⟨D, h1, h2⟩ := h
  exact ⟨D, h1.kept (grownBelowI hb) (by simp), h2⟩
theorem SpI.look {w : World} {b k : Nat} {V : Nat → Int} (h : SpI w b k V) (x : Int) (hx : (Lit.int .i64 x).wf = true) :
    (Instr.lookup 81 (.map (some b)) (.int .i64 x) false).run Try.prog w = .ok (.int .i64 (cntV V x k)) w := by
  obtain ⟨D, h1, h2⟩ := h
  obtain ⟨c, hrun, hat, _⟩ := h1.lookup_int Try.spILaw Try.underlying81 Try.underlying3 (Try.spIZero _) (keyOf_int_mk Try.underlying3 hx)
  rw [h2 x hx] at hat
  have e : ((cntV V x k : Nat) : Int) = c := lit_injI hat
  rw [e]; exact hrun
theorem SpI.put {w : World} {b k : Nat} {V : Nat → Int} {x : Int} {D : DataW Unit} (hat : ∀ x, (Lit.int .i64 x).wf = true → D.atKey (.int .i64 x) (.lit (.int .i64 0)) = .lit (.int .i64 (cntV V x k))) (hD : IsMap D) (hx : (Lit.int .i64 x).wf = true) (hv : V k = x)
    (h : w.ownsMap Try.prog 3 (plainElem Try.prog 3) b (k + 1) (D.put (.int .i64 x) (.lit (.int .i64 ((cntV V x k : Nat) + 1))))) : SpI w b (k + 1) V := by
  refine ⟨_, h, fun y hy => ?_⟩
  by_cases e : y = x
  · subst e
    rw [atKey_put_same hD (Try.spILaw.key (keyOf_int_mk Try.underlying3 hx)), cntV_yes hv]
    rfl
  · rw [atKey_put_other (fun h => e (by injection h)), hat y hy, cntV_no (fun h => e (h.symm.trans hv))]
end Go.Proofs.Ytkdkocpgaalmeaa
