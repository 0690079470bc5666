/-
  Maps that count bools.
-/
import Derived.Test.YtphfmlfojebjkaaSpr
namespace Go.Proofs.Ytphfmlfojebjkaa
open Go.RowKit Go.Maps

theorem grownBelowB {w w' : World} (hb : Below w.heap.size w w') : w.grownBy w' none := ⟨hb.os, hb.tape, hb.output, hb.size, fun i h _ => hb.block i h⟩

theorem Try.spBLaw : Keyed Try.prog 4 := bool_keyed Try.underlying4
theorem Try.spBZero (w : World) : (zeroValue 3).run Try.prog w = .ok (.int .i64 0) w := by kernel_rfl
/-- Block b is a map that tells how often each value is met among the first k. -/
def SpB (w : World) (b k : Nat) (V : Nat → Bool) : Prop := ∃ D : DataW Unit, w.ownsMap Try.prog 4 (plainElem Try.prog 3) b k D ∧ ∀ x, True → D.atKey (.bool x) (.lit (.int .i64 0)) = .lit (.int .i64 (cntV V x k))
theorem SpB.below {w w' : World} {b k : Nat} {V : Nat → Bool} (h : SpB w b k V) (hb : Below w.heap.size w w') : SpB w' b k V := by
  obtain ⟨D, h1, h2⟩ := h
  exact ⟨D, h1.kept (grownBelowB hb) (by simp), h2⟩
theorem SpB.look {w : World} {b k : Nat} {V : Nat → Bool} (h : SpB w b k V) (x : Bool) (hx : True) :
    (Instr.lookup 35 (.map (some b)) (.bool x) false).run Try.prog w = .ok (.int .i64 (cntV V x k)) w := by
  obtain ⟨D, h1, h2⟩ := h
  obtain ⟨c, hrun, hat, _⟩ := h1.lookup_int Try.spBLaw Try.underlying35 Try.underlying3 (Try.spBZero _) (keyOf_bool_mk Try.underlying4 _)
  rw [h2 x hx] at hat
  have e : ((cntV V x k : Nat) : Int) = c := lit_injI hat
  rw [e]; exact hrun
theorem SpB.put {w : World} {b k : Nat} {V : Nat → Bool} {x : Bool} {D : DataW Unit} (hat : ∀ x, True → D.atKey (.bool x) (.lit (.int .i64 0)) = .lit (.int .i64 (cntV V x k))) (hD : IsMap D) (_hx : True) (hv : V k = x)
    (h : w.ownsMap Try.prog 4 (plainElem Try.prog 3) b (k + 1) (D.put (.bool x) (.lit (.int .i64 ((cntV V x k : Nat) + 1))))) : SpB w b (k + 1) V := by
  refine ⟨_, h, fun y hy => ?_⟩
  by_cases e : y = x
  · subst e
    rw [atKey_put_same hD (Try.spBLaw.key (keyOf_bool_mk Try.underlying4 _)), cntV_yes hv]
    rfl
  · rw [atKey_put_other (fun h => e (by injection h)), hat y hy, cntV_no (fun h => e (h.symm.trans hv))]
end Go.Proofs.Ytphfmlfojebjkaa
