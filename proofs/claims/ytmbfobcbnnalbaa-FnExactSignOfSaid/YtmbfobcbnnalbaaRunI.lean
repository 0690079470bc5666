/-
  Contracts: what a run of the program is asked: whether it is over, and its choice.
-/
import Derived.Test.YtmbfobcbnnalbaaRunMath
namespace Go.Proofs.Ytmbfobcbnnalbaa
open Go.RowKit

theorem as_c (v : Value) (w : World) : (Instr.typeAssert (.iface 121 v) 119 121 true).run Try.prog w = .ok (.tuple #[v, .bool true]) w := by kernel_rfl
theorem as_f (v : Value) (w : World) : (Instr.typeAssert (.iface 77 v) 119 121 true).run Try.prog w = .ok (.tuple #[.slice none 0 0, .bool false]) w := by kernel_rfl
theorem call_c (v x : Value) (w : World) : (callMethod (.iface 121 v) "loop.example/g01136/impl.choice" #[x]).run Try.prog w = .ok (.enter 282 #[v, x]) w := by kernel_rfl
theorem call_f (v x : Value) (w : World) : (callMethod (.iface 77 v) "loop.example/g01136/impl.choice" #[x]).run Try.prog w = .ok (.enter 281 #[v, x]) w := by kernel_rfl
theorem mk_c (x : Value) (w : World) : (Instr.makeInterface 121 x).run Try.prog w = .ok (.iface 121 x) w := run_makeInterface w 121 x (by kernel_rfl)
theorem mk_f (x : Value) (w : World) : (Instr.makeInterface 77 x).run Try.prog w = .ok (.iface 77 x) w := run_makeInterface w 77 x (by kernel_rfl)

set_option maxRecDepth 100000 in
theorem isOver_c (A : Option Addr) (n c : Nat) (k m : Int) (w : World) (_ : n ≤ 1000) :
    Calls Try.prog 185 #[.iface 121 (.slice A n c), .int .i64 k, .int .i64 m] w fun e w' => e = .returned (.bool (k == (n : Int))) ∧ w = w' := by
  have h1 := as_c
  go_enter Try.func185, Try.ntmps185
  go_wp2
  go_ret
  exact ⟨rfl, rfl⟩
theorem isOver_b (A : Option Addr) (n c : Nat) (k m : Int) (w : World) (hn : n ≤ 1000) (b : Bool) (h : (k == (n : Int)) = b) :
    Calls Try.prog 185 #[.iface 121 (.slice A n c), .int .i64 k, .int .i64 m] w fun e w' => e = .returned (.bool b) ∧ w = w' := by
  subst h; exact isOver_c A n c k m w hn
set_option maxRecDepth 100000 in
theorem isOver_f (k m : Int) (w : World) :
    Calls Try.prog 185 #[.iface 77 (.agg #[]), .int .i64 k, .int .i64 m] w fun e w' => e = .returned (.bool (m == 0)) ∧ w = w' := by
  have h1 := as_f
  go_enter Try.func185, Try.ntmps185
  go_wp2
  go_ret
  exact ⟨rfl, rfl⟩
theorem isOver_fb (k m : Int) (w : World) (b : Bool) (h : (m == 0) = b) :
    Calls Try.prog 185 #[.iface 77 (.agg #[]), .int .i64 k, .int .i64 m] w fun e w' => e = .returned (.bool b) ∧ w = w' := by
  subst h; exact isOver_f k m w
theorem choice_c (b o n c : Nat) (k : Nat) (x : Int) (w : World) (hk : k < n) (h : w.cell? ⟨b, o + k, none⟩ = some (.int .i64 x)) :
    Calls Try.prog 282 #[.slice (some ⟨b, o, none⟩) n c, .int .i64 k] w fun e w' => e = .returned (.int .i64 x) ∧ w = w' := by
  go_enter Try.func282, Try.ntmps282
  go_wp2
  go_ret
  exact ⟨rfl, rfl⟩
theorem choice_i (b o n c : Nat) (kI : Int) (k : Nat) (x : Int) (w : World) (hk : k < n) (he : kI = k) (h : w.cell? ⟨b, o + k, none⟩ = some (.int .i64 x)) :
    Calls Try.prog 282 #[.slice (some ⟨b, o, none⟩) n c, .int .i64 kI] w fun e w' => e = .returned (.int .i64 x) ∧ w = w' := by
  subst he; exact choice_c b o n c k x w hk h
theorem choice_f (k : Int) (w : World) :
    Calls Try.prog 281 #[.agg #[], .int .i64 k] w fun e w' => e = .returned (.int .i64 0) ∧ Below w.heap.size w w' := by
  go_enter Try.func281, Try.ntmps281
  go_wp2
  go_ret
  exact ⟨rfl, (Below.refl _ _).alloc (Nat.le_refl _) _⟩
end Go.Proofs.Ytmbfobcbnnalbaa
