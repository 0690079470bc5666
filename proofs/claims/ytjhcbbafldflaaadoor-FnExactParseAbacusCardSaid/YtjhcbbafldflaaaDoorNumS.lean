/-
  Contract: numbers as texts, of the model, below 100.
-/
import Derived.Test.YtjhcbbafldflaaaDoorCB
import Derived.Laws.BytesArg
import Derived.Test.YtjhcbbafldflaaaDoorWith1
import Derived.Shelf.Abstract
import Derived.WalkMore
import Derived.Deep.Cut
import Derived.Deep.CutRange
namespace Go.Proofs.YtjhcbbafldflaaaDoor
open Go.RowKit

def digT (n : Nat) : ByteArray := strOfNums [48 + (n : Int)]
theorem digT_size (n : Nat) : (digT n).size = 1 := rfl
def numT (n : Nat) : ByteArray := if n < 10 then digT n else digT (n / 10) ++ digT (n % 10)
theorem dig_conv (n : Nat) (w : World) (_ : n < 10) : (convert 65 9 (.slice (some ⟨w.heap.size, 0, none⟩) 1 1)).run Tryd.prog (w.alloc (.cells #[.int .u8 (48 + (n : Int))] 5)) = .ok (.string (digT n)) (w.alloc (.cells #[.int .u8 (48 + (n : Int))] 5)) :=
  run_convert_bytes_arg (w := w.alloc (.cells #[.int .u8 (48 + (n : Int))] 5)) 65 5 Tryd.underlying65 Tryd.underlying5 w.heap.size 0 1 1 [48 + (n : Int)] rfl (fun j hj => by
    have : j = 0 := by omega
    subst this
    exact one_at (w := w) (t := 5) 0 (.int .u8 (48 + (n : Int))) rfl) 9 Tryd.underlying9

theorem dig_conv2 (n : Nat) (W : World) (g : Nat) (hc : W.cell? ⟨g, 0, none⟩ = some (.int .u8 (48 + (n : Int)))) : (convert 65 9 (.slice (some ⟨g, 0, none⟩) 1 1)).run Tryd.prog W = .ok (.string (digT n)) W :=
  run_convert_bytes_arg (w := W) 65 5 Tryd.underlying65 Tryd.underlying5 g 0 1 1 [48 + (n : Int)] rfl (fun j hj => by
    have : j = 0 := by omega
    subst this
    exact hc) 9 Tryd.underlying9

set_option maxHeartbeats 1000000 in
theorem l1Num_1 (n : Nat) (w : World) (h : n < 10) :
    Calls Tryd.prog 41 #[.int .i64 n] w fun e w' => e = .returned (.string (digT n)) ∧ Below w.heap.size w w' := by
  have hlt : (n : Int) < 10 := by omega
  have hcv := fun W => dig_conv n W h
  go_enter Tryd.func41, Tryd.ntmps41
  go_wp2_with fail
  go_ret
  exact ⟨rfl, (Below.refl _ _).alloc (Nat.le_refl _) _⟩
set_option maxRecDepth 100000 in
set_option maxHeartbeats 2000000 in
theorem l1Num_any (n : Nat) (w : World) (h : n < 100) :
    Calls Tryd.prog 41 #[.int .i64 n] w fun e w' => e = .returned (.string (numT n)) ∧ Below w.heap.size w w' := by
  by_cases h1 : n < 10
  · have e : numT n = digT n := by simp [numT, h1]
    rw [e]; exact l1Num_1 n w h1
  have e : numT n = digT (n / 10) ++ digT (n % 10) := by simp [numT, h1]
  rw [e]
  have hlt : ¬ (n : Int) < 10 := by omega
  have hcv := fun W => dig_conv (n % 10) W (by omega)
  have HN := hid (fun W => l1Num_1 (n / 10) W (by omega))
  obtain ⟨q, hq⟩ : ∃ q, q = n / 10 := ⟨_, rfl⟩
  obtain ⟨r, hr⟩ : ∃ r, r = n % 10 := ⟨_, rfl⟩
  have hqi : Int.tdiv (n : Int) 10 = (q : Int) := by rw [Int.tdiv_eq_ediv_of_nonneg (by omega)]; omega
  have hri : Int.tmod (n : Int) 10 = (r : Int) := by rw [Int.tmod_eq_emod_of_nonneg (by omega)]; omega
  have hrb : r < 10 := by omega
  have hw1 : IntKind.i64.wrap (q : Int) = (q : Int) := IntWalk.i64_in _ (by omega)
  have hw2 : IntKind.i64.wrap (48 + (r : Int)) = 48 + (r : Int) := IntWalk.i64_in _ (by omega)
  have hw3 : IntKind.u8.wrap (48 + (r : Int)) = 48 + (r : Int) := IntWalk.u8_in _ (by omega)
  have hsz : ¬ 9223372036854775807 < (digT q).size + (digT r).size := by rw [digT_size, digT_size]; omega
  rw [← hq] at HN ⊢
  rw [← hr] at hcv ⊢
  clear hq hr e h h1
  have eg : ∀ args w, (callFunc 41 args).run Tryd.prog w = .ok (.enter 41 args) w := enters_of Tryd.func41 (by kernel_rfl) rfl
  have EG := hid eg
  have BD := hid (below_drew' w 1)
  have HC2 := hid (dig_conv2 r)
  have hcvC := dig_conv2 r (w.alloc (.cells #[.int .u8 (48 + (r : Int))] 5)).drew w.heap.size (one_at (w := w) (t := 5) 0 (.int .u8 (48 + (r : Int))) rfl)
  clear eg
  go_enter Tryd.func41, Tryd.ntmps41
  go_upto_region 3 with fail
  go_region_law (first | (refine step_call _ rfl 41 #[.int .i64 q] (exec_call1 _ _ (.tmp 11) 3 rfl _ (by first | (simp [Act.eval]; done) | (simp [Act.eval, Act.put]; done)) (EG.out _ _)) (fun v w' => v = .string (digT q) ∧ Below w.drew.heap.size w.drew w') ((HN.out _).mono (by rintro e w' ⟨rfl, b⟩; exact ⟨_, rfl, rfl, b⟩)) ?_; rintro _ w5 ⟨rfl, b5⟩; have B5 := hid (Below.next BD.out b5); clear b5) | (refine step_call _ rfl 41 #[.int .i64 q] (exec_call1 _ _ (.tmp 11) 3 rfl _ (by first | (simp [Act.eval]; done) | (simp [Act.eval, Act.put]; done)) (EG.out _ _)) (fun v w' => v = .string (digT q) ∧ Below (w.drew.alloc (.cells #[.int .u8 (48 + (r : Int))] 5)).heap.size (w.drew.alloc (.cells #[.int .u8 (48 + (r : Int))] 5)) w') ((HN.out _).mono (by rintro e w' ⟨rfl, b⟩; exact ⟨_, rfl, rfl, b⟩)) ?_; rintro _ w5 ⟨rfl, b5⟩; have hcvB := HC2.out w5 w.heap.size ((b5.cell (by simp)).trans (one_at (w := w.drew) (t := 5) 0 (.int .u8 (48 + (r : Int))) rfl)); have B5 := hid (Below.next (BD.out.alloc (Nat.le_refl _) _) b5); clear b5))
  all_goals go_wp2_with fail
  all_goals go_ret
  all_goals first | exact ⟨rfl, B5.out⟩ | exact ⟨rfl, B5.out.alloc B5.out.size _⟩
end Go.Proofs.YtjhcbbafldflaaaDoor
