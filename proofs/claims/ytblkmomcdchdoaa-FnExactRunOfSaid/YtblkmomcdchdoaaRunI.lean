/-
  Contracts: what a run of the program is asked: whether it is over, and its choice.
-/
import Derived.Test.YtblkmomcdchdoaaRunMath
namespace Go.Proofs.Ytblkmomcdchdoaa
open Go.RowKit

theorem as_c (v : Value) (w : World) : (Instr.typeAssert (.iface 93 v) 91 93 true).run Try.prog w = .ok (.tuple #[v, .bool true]) w := by kernel_rfl
theorem as_f (v : Value) (w : World) : (Instr.typeAssert (.iface 75 v) 91 93 true).run Try.prog w = .ok (.tuple #[.slice none 0 0, .bool false]) w := by kernel_rfl
theorem call_c (v x : Value) (w : World) : (callMethod (.iface 93 v) "loop.example/g01136/impl.choice" #[x]).run Try.prog w = .ok (.enter 156 #[v, x]) w := by kernel_rfl
theorem call_f (v x : Value) (w : World) : (callMethod (.iface 75 v) "loop.example/g01136/impl.choice" #[x]).run Try.prog w = .ok (.enter 155 #[v, x]) w := by kernel_rfl
theorem mk_c (x : Value) (w : World) : (Instr.makeInterface 93 x).run Try.prog w = .ok (.iface 93 x) w := run_makeInterface w 93 x (by kernel_rfl)
theorem mk_f (x : Value) (w : World) : (Instr.makeInterface 75 x).run Try.prog w = .ok (.iface 75 x) w := run_makeInterface w 75 x (by kernel_rfl)

set_option maxRecDepth 100000 in
theorem isOver_c (A : Option Addr) (n c : Nat) (k m : Int) (w : World) (_ : n ≤ 1000) :
    Calls Try.prog 115 #[.iface 93 (.slice A n c), .int .i64 k, .int .i64 m] w fun e w' => e = .returned (.bool (k == (n : Int))) ∧ w = w' := by
  have h1 := as_c
  go_enter Try.func115, Try.ntmps115
  go_wp2
  go_ret
  exact ⟨rfl, rfl⟩
theorem isOver_b (A : Option Addr) (n c : Nat) (k m : Int) (w : World) (hn : n ≤ 1000) (b : Bool) (h : (k == (n : Int)) = b) :
    Calls Try.prog 115 #[.iface 93 (.slice A n c), .int .i64 k, .int .i64 m] w fun e w' => e = .returned (.bool b) ∧ w = w' := by
  subst h; exact isOver_c A n c k m w hn
set_option maxRecDepth 100000 in
theorem isOver_f (k m : Int) (w : World) :
    Calls Try.prog 115 #[.iface 75 (.agg #[]), .int .i64 k, .int .i64 m] w fun e w' => e = .returned (.bool (m == 0)) ∧ w = w' := by
  have h1 := as_f
  go_enter Try.func115, Try.ntmps115
  go_wp2
  go_ret
  exact ⟨rfl, rfl⟩
theorem isOver_fb (k m : Int) (w : World) (b : Bool) (h : (m == 0) = b) :
    Calls Try.prog 115 #[.iface 75 (.agg #[]), .int .i64 k, .int .i64 m] w fun e w' => e = .returned (.bool b) ∧ w = w' := by
  subst h; exact isOver_f k m w
theorem choice_c (b o n c : Nat) (k : Nat) (x : Int) (w : World) (hk : k < n) (h : w.cell? ⟨b, o + k, none⟩ = some (.int .i64 x)) :
    Calls Try.prog 156 #[.slice (some ⟨b, o, none⟩) n c, .int .i64 k] w fun e w' => e = .returned (.int .i64 x) ∧ w = w' := by
  go_enter Try.func156, Try.ntmps156
  go_wp2
  go_ret
  exact ⟨rfl, rfl⟩
theorem choice_i (b o n c : Nat) (kI : Int) (k : Nat) (x : Int) (w : World) (hk : k < n) (he : kI = k) (h : w.cell? ⟨b, o + k, none⟩ = some (.int .i64 x)) :
    Calls Try.prog 156 #[.slice (some ⟨b, o, none⟩) n c, .int .i64 kI] w fun e w' => e = .returned (.int .i64 x) ∧ w = w' := by
  subst he; exact choice_c b o n c k x w hk h
theorem choice_f (k : Int) (w : World) :
    Calls Try.prog 155 #[.agg #[], .int .i64 k] w fun e w' => e = .returned (.int .i64 0) ∧ Below w.heap.size w w' := by
  go_enter Try.func155, Try.ntmps155
  go_wp2
  go_ret
  exact ⟨rfl, (Below.refl _ _).alloc (Nat.le_refl _) _⟩
end Go.Proofs.Ytblkmomcdchdoaa
