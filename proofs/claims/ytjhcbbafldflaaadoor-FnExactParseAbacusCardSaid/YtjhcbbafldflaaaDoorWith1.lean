/-
  A Go call as one step of a region that draws its order.
-/
import Derived.Test.YtjhcbbafldflaaaDoorCB
import Derived.Deep.RegionLaw
namespace Go.Proofs.YtjhcbbafldflaaaDoor
open Go.RowKit

theorem exec_call1 {P : Program} (w : World) {o : Oper} {a : Act} (f : Nat) (x : Operand) (t : TypeId) (ho : o.op = .call { callee := .value (.func f), args := #[x], argTypes := #[t] }) (v : Value) (hx : a.eval x = v)
    (eg : (callFunc f #[v]).run P w = .ok (.enter f #[v]) w) : (execOp a.eval o).run P w = .ok (.enter f #[v]) w := by
  subst hx
  simp [execOp, ho, resolve, invoke, Result.andThen, Deferred.ofValue]
  exact eg
theorem step_call {P : Program} (w : World) {ops : Array Oper} {o : Oper} {a : Act} {K : Act → World → Prop} {Q : Exit → Act → World → Prop} {E : Prop} (hgd : o.guard = none) (f : Nat) (args : Array Value)
    (he : (execOp a.eval o).run P w = .ok (.enter f args) w) (post : Value → World → Prop) (hc : Calls P f args w fun e w' => ∃ v, e = .returned v ∧ post v w')
    (h : ∀ v w', post v w' → K (a.put o.dst v) w') : if Region.wanted o (yielded ops a.tmps) = true then Oper.wp P o a w K Q else E := by
  have hw : Region.wanted o (yielded ops a.tmps) = true := by simp [Region.wanted, hgd]
  rw [if_pos hw]
  unfold Oper.wp
  rw [he]
  refine hc.mono ?_
  rintro e w' ⟨v, rfl, hp⟩
  exact h v w' hp
end Go.Proofs.YtjhcbbafldflaaaDoor
