/-
  Several texts in one.
-/
import Derived.Test.YtmjncedijddmmaaR11
import Derived.Test.YtmjncedijddmmaaR27
import Derived.Test.YtmjncedijddmmaaR17
import Derived.Test.YtmjncedijddmmaaCB
import Derived.Test.YtmjncedijddmmaaR10
import Derived.Test.YtmjncedijddmmaaR26
/-
  Contract: rows without cells left out.
-/
namespace Go.Proofs.Ytmjncedijddmmaa
open Go.RowKit

end Go.Proofs.Ytmjncedijddmmaa
/-
  Contracts: a partition with a cell more, and rows that are a chain: IsChain and ShapeOf of the program and of the model.
-/
namespace Go.Proofs.Ytmjncedijddmmaa
open Go.RowKit

theorem Good.bd {p : List Int} (G : Good p) : ∀ j, j < p.length → 1 ≤ p.getD j 0 ∧ p.getD j 0 ≤ 30 := fun j h => ⟨G.pos j h, G.le j h⟩

/-- What a walk over rows knows: what is made of the first k is a partition of k cells. -/
structure Made (p : List Int) (k : Nat) : Prop where
  good : Good p
  sum : p.sum = k
theorem Made.nil : Made [] 0 := ⟨good_nil, by simp⟩
theorem Made.step {p : List Int} {k r : Nat} (m : Made p k) (hk : k ≤ 29) (hr : r ≤ p.length) (h : addB p r = true) : Made (incL p r) (k + 1) :=
  ⟨inc_Good m.good (by rw [m.sum]; omega) hr h, by rw [inc_sum p r hr, m.sum]; omega⟩
theorem Made.len {p : List Int} {k : Nat} (m : Made p k) : p.length ≤ k := by have := m.good.len_le; rw [m.sum] at this; omega

theorem rowsB_len {xs : List Int} (h : rowsB xs = true) : xs.length ≤ 12 ∧ ∀ j, j < xs.length → 0 ≤ xs.getD j 0 := by
  simp only [rowsB, Bool.and_eq_true, decide_eq_true_eq, List.all_eq_true] at h
  refine ⟨h.1, fun j hj => ?_⟩
  rw [List.getD_eq_getElem?_getD, List.getElem?_eq_getElem hj]
  exact (inB_iff.1 (h.2 _ (List.getElem_mem hj))).1

end Go.Proofs.Ytmjncedijddmmaa
/-
  Contracts: a partition with a cell more or a cell less, whatever row of ints the caller has.
-/
namespace Go.Proofs.Ytmjncedijddmmaa
open Go.RowKit

theorem dec_take {p : List Int} {r : Nat} (hr : r < p.length) : (decL p r).length ≤ p.length ∧ (p.set r (p.getD r 0 - 1)).take (decL p r).length = decL p r := by
  unfold decL
  split
  · rename_i h
    refine ⟨by rw [List.length_take]; omega, ?_⟩
    rw [List.length_take, Nat.min_eq_left (by omega)]
    apply List.ext_getElem?
    intro j
    rw [List.getElem?_take, List.getElem?_take]
    split
    · rw [List.getElem?_set_ne (by omega)]
    · rfl
  · exact ⟨by simp, List.take_of_length_le (Nat.le_refl _)⟩
end Go.Proofs.Ytmjncedijddmmaa
