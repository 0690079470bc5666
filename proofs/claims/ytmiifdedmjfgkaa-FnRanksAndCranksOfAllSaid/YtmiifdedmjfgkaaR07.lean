/-
  Several texts in one.
-/
import Derived.Test.YtmiifdedmjfgkaaR03
import Derived.Test.YtmiifdedmjfgkaaR04
/-
  Contracts: IsPartition, CellsOf, IsInside, of the program and of the model.
-/
namespace Go.Proofs.Ytmiifdedmjfgkaa
open Go.RowKit

theorem impl_IsPartition (A : Option Addr) (c : Nat) (xs : List Int) (w : World) (hl : xs.length ≤ 1048576) (hc : Cells w A xs) :
    Calls Try.prog 28 #[.slice A xs.length c] w fun e w' => e = .returned (.bool (good xs)) ∧ Below w.heap.size w w' :=
  (IsPartition_any A xs c w hl hc).mono fun _ _ ⟨he, hw⟩ => ⟨he, by rw [hw]; exact Below.refl _ _⟩

theorem Good.b1000 {xs : List Int} (h : Good xs) : ∀ j, j < xs.length → 0 ≤ xs.getD j 0 ∧ xs.getD j 0 ≤ 1000 := fun j hj => by have := h.pos j hj; have := h.le j hj; omega

def cellsF (xs : List Int) : Int := if good xs then xs.sum else 0
theorem cellsF_t {xs : List Int} (h : good xs = true) : cellsF xs = xs.sum := by simp [cellsF, h]
theorem cellsF_f {xs : List Int} (h : good xs = false) : cellsF xs = 0 := by simp [cellsF, h]

end Go.Proofs.Ytmiifdedmjfgkaa
/-
  Plain facts: lists inside each other, cells and their hooks. No program in this text.
-/
namespace Go.Proofs.Ytmiifdedmjfgkaa

def insideB (xs ys : List Int) : Bool := decide (xs.length ≤ ys.length) && (List.range xs.length).all (fun r => decide (xs.getD r 0 ≤ ys.getD r 0))
theorem inside_no_len {xs ys : List Int} (h : ys.length < xs.length) : insideB xs ys = false := by
  unfold insideB; rw [decide_eq_false (by omega)]; rfl
theorem inside_no {xs ys : List Int} {k : Nat} (hk : k < xs.length) (h : ys.getD k 0 < xs.getD k 0) : insideB xs ys = false := by
  unfold insideB
  rw [Bool.and_eq_false_iff]
  right
  rw [List.all_eq_false]
  exact ⟨k, List.mem_range.2 hk, by simp only [decide_eq_true_eq]; omega⟩
theorem inside_yes {xs ys : List Int} (h1 : xs.length ≤ ys.length) (h : ∀ k, k < xs.length → xs.getD k 0 ≤ ys.getD k 0) : insideB xs ys = true := by
  unfold insideB
  rw [Bool.and_eq_true, List.all_eq_true]
  exact ⟨by simpa using h1, fun k hk => by simpa using h k (List.mem_range.1 hk)⟩

/-- Is r, c a cell of the rows xs? -/
def cellB (xs : List Int) (r c : Int) : Bool := decide (0 ≤ r) && (decide (r < xs.length) && (decide (0 ≤ c) && decide (c < xs.getD r.toNat 0)))
theorem cellB_iff {xs : List Int} {r c : Int} : cellB xs r c = true ↔ 0 ≤ r ∧ r < xs.length ∧ 0 ≤ c ∧ c < xs.getD r.toNat 0 := by simp [cellB]
theorem cellB_nat {xs : List Int} {r c : Int} (h : cellB xs r c = true) : ∃ r' c' : Nat, r = r' ∧ c = c' ∧ r' < xs.length ∧ (c' : Int) < xs.getD r' 0 := by
  obtain ⟨h1, h2, h3, h4⟩ := cellB_iff.1 h
  exact ⟨r.toNat, c.toNat, by omega, by omega, by omega, by omega⟩
def atB (xs : List Int) (r c : Int) : Bool := good xs && cellB xs r c
def hookN (xs : List Int) (r c : Nat) : Int := xs.getD r 0 - c + (cols xs).getD c 0 - r - 1
def hookF (xs : List Int) (r c : Int) : Int := if atB xs r c then hookN xs r.toNat c.toNat else 0
theorem hookF_t {xs : List Int} {r c : Int} (h : atB xs r c = true) : hookF xs r c = hookN xs r.toNat c.toNat := by simp [hookF, h]
theorem hookF_f {xs : List Int} {r c : Int} (h : atB xs r c = false) : hookF xs r c = 0 := by simp [hookF, h]
theorem le_first {xs : List Int} (G : Good xs) {r : Nat} (h : r < xs.length) : xs.getD r 0 ≤ xs.getD 0 0 := by
  have := down_le xs G.down 0 r (by omega)
  rw [Nat.zero_add] at this; exact this
theorem col_lt {xs : List Int} (G : Good xs) {r c : Nat} (h : r < xs.length) (hc : (c : Int) < xs.getD r 0) : c < (cols xs).length := by
  rw [cols_len]; have := le_first G h; omega
theorem col_bound (xs : List Int) (G : Good xs) (c : Nat) : 0 ≤ (cols xs).getD c 0 ∧ (cols xs).getD c 0 ≤ 30 := by
  by_cases h : c < (xs.getD 0 0).toNat
  · rw [cols_get xs c h]; have := colH_bound xs c; have := G.len; omega
  · rw [List.getD_eq_getElem?_getD, List.getElem?_eq_none (by rw [cols_len]; omega)]; simp
end Go.Proofs.Ytmiifdedmjfgkaa
