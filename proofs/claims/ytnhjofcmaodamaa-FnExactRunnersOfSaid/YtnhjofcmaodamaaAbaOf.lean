/-
  Contracts: AbacusOf of the program and of the model.
-/
import Derived.Test.YtnhjofcmaodamaaAba2
namespace Go.Proofs.Ytnhjofcmaodamaa
open Go.RowKit

theorem results_cell2 {fn : Func} {p u : Tmp} {ty : TypeId} (h : fn.results = #[.cell p ty, .tmp u]) (tmps : Array Value) (P : Program) (w : World) (g : Nat) (t : TypeId) (cs : Array Value) (fr : Nat × Nat) (d : TypeDesc)
    (hp : tmps.getD p undef = .pointer (some ⟨g, 0, none⟩)) (hg : w.heap[g]? = some (.cells cs t fr))
    (hu : P.underlying ty = some d) (hd : (match d with | .struct _ | .array _ _ => true | _ => false) = true) (hi : (P.info? ty).map (·.size) = some cs.size) :
    (results fn tmps).run P w = .ok (.tuple #[.agg cs, tmps.getD u undef]) w := by
  have hp' : tmps[p]?.getD undef = .pointer (some ⟨g, 0, none⟩) := by simpa using hp
  simp [results, h, hp', asAddr, run_loadVar_row w g t ty cs fr d hg hu (by cases d <;> simp_all) hi]
theorem results_cell3 {fn : Func} {p u v : Tmp} {ty : TypeId} (h : fn.results = #[.cell p ty, .tmp u, .tmp v]) (tmps : Array Value) (P : Program) (w : World) (g : Nat) (t : TypeId) (cs : Array Value) (fr : Nat × Nat) (d : TypeDesc)
    (hp : tmps.getD p undef = .pointer (some ⟨g, 0, none⟩)) (hg : w.heap[g]? = some (.cells cs t fr))
    (hu : P.underlying ty = some d) (hd : (match d with | .struct _ | .array _ _ => true | _ => false) = true) (hi : (P.info? ty).map (·.size) = some cs.size) :
    (results fn tmps).run P w = .ok (.tuple #[.agg cs, tmps.getD u undef, tmps.getD v undef]) w := by
  have hp' : tmps[p]?.getD undef = .pointer (some ⟨g, 0, none⟩) := by simpa using hp
  simp [results, h, hp', asAddr, run_loadVar_row w g t ty cs fr d hg hu (by cases d <;> simp_all) hi]

def abaOk (p : List Int) (t n : Int) : Bool := beadsOk p n && inB 2 6 t
def abaR (p : List Int) (t n : Int) : Int := if abaOk p t n then t else 0
def abaF (p : List Int) (t n : Int) : List Int := if abaOk p t n then beadsF p n else []
theorem bound_AbacusOf (xs : List Int) (t n : Int) : (abaF xs t n).length ≤ 1048576 := by
  unfold abaF; split
  · exact bound_BeadsOf xs n
  · simp

set_option maxHeartbeats 1000000 in
theorem impl_AbacusOf (A : Option Addr) (c : Nat) (xs : List Int) (t n : Int) (w : World) (hl : xs.length ≤ 1048576) (hc : Cells w A xs) (_ : I64 t) (hn : I64 n) :
    Calls Try.prog 99 #[.slice A xs.length c, .int .i64 t, .int .i64 n] w fun e w' => ∃ A' c', e = .returned (.tuple #[.agg #[.int .i64 (abaR xs t n), .slice A' (abaF xs t n).length c'], .bool (abaOk xs t n)]) ∧ Own w' w.heap.size A' c' (abaF xs t n) ∧ Below w.heap.size w w' := by
  have y0 := Box2.new w 26 (.int .i64 0) (.slice none 0 0)
  have b0 : Below w.heap.size w (w.alloc (.cells #[.int .i64 0, .slice none 0 0] 26)) := (Below.refl _ _).alloc (Nat.le_refl _) _
  have z0 := b0.size
  cases hok : beadsOk xs n
  · have e1 : abaOk xs t n = false := by simp [abaOk, hok]
    have e2 : abaR xs t n = 0 := by simp [abaR, e1]
    have e3 : abaF xs t n = [] := by simp [abaF, e1]
    rw [e1, e2, e3]; clear e1 e2 e3
    have HOK := hid hok; clear hok
    go_enter Try.func99, Try.ntmps99
    go_wp2_with fail
    refine (impl_BeadsOf _ _ _ _ _ hl (hc.below b0) hn).mono ?_
    rw [HOK.out]
    rintro e w1 ⟨A1, c1, rfl, o1, b1⟩
    have y1 := y0.next b1
    have f1 := y1.cell0
    have f2 := y1.froz 0
    have y2 := y1.set0 (.int .i64 0)
    have f3 := y2.cell1
    have f4 := y2.froz 1
    have y3 := y2.set1 (.slice none 0 0)
    clear y0 y1 y2
    go_wp2_with fail
    refine bodyPost_ret (results_cell2 rfl _ _ _ w.heap.size 26 #[.int .i64 0, .slice none 0 0] (0, 0) _ rfl y3 Try.underlying26 rfl (by kernel_rfl)) rfl ⟨none, 0, rfl, own_nil _ _, ((Below.next b0 b1).setCell (Nat.le_refl _) _).setCell (Nat.le_refl _) _⟩
  have HOK := hid hok
  cases ht : inB 2 6 t
  · have e1 : abaOk xs t n = false := by simp [abaOk, ht]
    have e2 : abaR xs t n = 0 := by simp [abaR, e1]
    have e3 : abaF xs t n = [] := by simp [abaF, e1]
    rw [e1, e2, e3]; clear e1 e2 e3
    have HT := hid ht; clear ht hok
    go_enter Try.func99, Try.ntmps99
    go_wp2_with fail
    refine (impl_BeadsOf _ _ _ _ _ hl (hc.below b0) hn).mono ?_
    rw [HOK.out]
    rintro e w1 ⟨A1, c1, rfl, o1, b1⟩
    have y1 := y0.next b1
    have f1 := y1.cell0
    have f2 := y1.froz 0
    have y2 := y1.set0 (.int .i64 0)
    have f3 := y2.cell1
    have f4 := y2.froz 1
    have y3 := y2.set1 (.slice none 0 0)
    clear y0 y1 y2
    go_wp2_with (go_at_call 119; refine (hasRunners_b _ _ _ HT.out).mono ?_; rintro e w' ⟨rfl, rfl⟩)
    refine bodyPost_ret (results_cell2 rfl _ _ _ w.heap.size 26 #[.int .i64 0, .slice none 0 0] (0, 0) _ rfl y3 Try.underlying26 rfl (by kernel_rfl)) rfl ⟨none, 0, rfl, own_nil _ _, ((Below.next b0 b1).setCell (Nat.le_refl _) _).setCell (Nat.le_refl _) _⟩
  · have e1 : abaOk xs t n = true := by simp [abaOk, ht, hok]
    have e2 : abaR xs t n = t := by simp [abaR, e1]
    have e3 : abaF xs t n = beadsF xs n := by simp [abaF, e1]
    rw [e1, e2, e3]; clear e1 e2 e3
    have HT := hid ht; clear ht hok
    go_enter Try.func99, Try.ntmps99
    go_wp2_with fail
    refine (impl_BeadsOf _ _ _ _ _ hl (hc.below b0) hn).mono ?_
    rw [HOK.out]
    rintro e w1 ⟨A1, c1, rfl, o1, b1⟩
    have y1 := y0.next b1
    have f1 := y1.cell0
    have f2 := y1.froz 0
    have y2 := y1.set0 (.int .i64 t)
    have f3 := y2.cell1
    have f4 := y2.froz 1
    have y3 := y2.set1 (.slice A1 (beadsF xs n).length c1)
    have hok := o1.block
    clear y0 y1 y2
    go_wp2_with (go_at_call 119; refine (hasRunners_b _ _ _ HT.out).mono ?_; rintro e w' ⟨rfl, rfl⟩)
    refine bodyPost_ret (results_cell2 rfl _ _ _ w.heap.size 26 #[.int .i64 t, .slice A1 (beadsF xs n).length c1] (0, 0) _ rfl y3 Try.underlying26 rfl (by kernel_rfl)) rfl ⟨A1, c1, rfl, (o1.keep fun b hbk _ => ?_).more (by simp), ((Below.next b0 b1).setCell (Nat.le_refl _) _).setCell (Nat.le_refl _) _⟩
    have := (hok b hbk).1
    simp at this
    exact (Below.heap_setCell _ _ _ b (by simp; omega)).trans (Below.heap_setCell _ _ _ b (by simp; omega))

end Go.Proofs.Ytnhjofcmaodamaa
