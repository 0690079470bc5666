/-
  A row that lies apart from those that are pushed already is pushed.
-/
import Derived.Test.YtphfmlfojebjkaaCB
namespace Go.Proofs.Ytphfmlfojebjkaa
open Go.RowKit

theorem Push.pushAp {w1 w2 : World} {B : Nat} {v v' : Value} {rows : List (List Int)} {P : Nat → Option Addr} {C : Nat → Nat} {A : Option Addr} {c : Nat} {r : List Int} {o : Obj}
    (h1 : Push w1 B v rows P C) (hr : Own w1 B A c r) (hap : ∀ i, i < rows.length → ∀ b, (P i).map Addr.block = some b → A.map Addr.block ≠ some b)
    (ho : w2.ownsRow B 22 1 v' (rows.length + 1) (RL P C rows ++ [.slice A r.length c])) (hg : (w1.alloc o).grownBy w2 v.ownBlock) :
    Push w2 B v' (rows ++ [r]) (setAt P rows.length A) (setAt C rows.length c) := by
  have keep : ∀ {A' : Option Addr} {c' : Nat} {r' : List Int}, Own w1 B A' c' r' → Own w2 B A' c' r' := fun {A' c' r'} hx => by
    refine hx.keep fun b hbb hlt => ?_
    have e1 : (w1.alloc o).heap[b]? = w1.heap[b]? := Below.heap_alloc _ _ _ hlt
    rw [← e1]
    exact hg.block b (by simp; omega) (fun e => row_ne' h1.out hx b hbb e.symm)
  refine ⟨by rw [RL_snoc, List.length_append]; exact ho, fun j hj => ?_, fun i j hij hj b hbi => ?_⟩
  · rw [List.length_append, List.length_singleton] at hj
    by_cases e : j = rows.length
    · subst e
      rw [setAt_eq, setAt_eq, getD_snoc_eq]
      exact keep hr
    · rw [setAt_ne P A e, setAt_ne C c e, getD_snoc_lt rows r j (by omega)]
      exact keep (h1.row j (by omega))
  · rw [List.length_append, List.length_singleton] at hj
    rw [setAt_ne P A (show i ≠ rows.length by omega)] at hbi
    by_cases e : j = rows.length
    · subst e
      rw [setAt_eq]
      exact hap i (by omega) b hbi
    · rw [setAt_ne P A e]
      exact h1.apart i j hij (by omega) b hbi
theorem push_lit1 {w : World} {B : Nat} {A : Option Addr} {c : Nat} {r : List Int} (h : Own w B A c r) (hB : B ≤ w.heap.size) :
    Push (w.alloc (.cells #[.slice A r.length c] 22)) B (.slice (some ⟨w.heap.size, 0, none⟩) 1 1) [r] (fun _ => A) (fun _ => c) := by
  refine ⟨?_, fun j hj => ?_, fun i j hij hj => by simp at hj; omega⟩
  · have h2 := World.ownsRow_lit (base := B) (e := 22) (size := 1) w #[.slice A r.length c] 1 hB (by unfold maxLen; omega) rfl
    exact h2
  · have hj0 : j = 0 := by simp at hj; omega
    subst hj0
    exact h.below ((Below.refl _ _).alloc (Nat.le_refl _) _)
end Go.Proofs.Ytphfmlfojebjkaa
