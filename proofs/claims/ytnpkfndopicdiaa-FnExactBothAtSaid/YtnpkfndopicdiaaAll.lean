/-
  Contracts: AllPartitions of the program.
-/
import Derived.Test.YtnpkfndopicdiaaTake
import Derived.Test.YtnpkfndopicdiaaCC
namespace Go.Proofs.Ytnpkfndopicdiaa
open Go.RowKit

/-- A row that a call made is laid into the outer row. -/
theorem Fill.put {w : World} {B g n : Nat} {rows : List (List Int)} {P : Nat → Option Addr} {C : Nat → Nat} (h : Fill w B g n rows P C) (hlt : rows.length < n) {w2 : World} (hb : Below w.heap.size w w2) {A : Option Addr} {c : Nat} {r : List Int} (hr : Own w2 w.heap.size A c r) :
    (∃ u, w2.cell? ⟨g, rows.length, none⟩ = some u) ∧ w2.frozen? ⟨g, rows.length, none⟩ = false ∧ Fill (w2.setCell ⟨g, rows.length, none⟩ (.slice A r.length c)) B g n (rows ++ [r]) (setAt P rows.length A) (setAt C rows.length c) ∧ Below B w (w2.setCell ⟨g, rows.length, none⟩ (.slice A r.length c)) := by
  have hg := h.out.lt g rfl
  have h2 := h.keep hb
  have ho := h2.out
  have hst := (ho.stored rows.length (.slice A r.length c)).1
  have hne : ∀ b, A.map Addr.block = some b → b ≠ g := fun b hbb => by have := (hr.block b hbb).1; omega
  refine ⟨cells_some ho hlt, World.ownsRow.frozenAt ho _, ⟨?_, fun j hj => ?_, fun i j hij hj b hbb => ?_⟩, ((hb.mono (by omega)).setCell hg.1 _)⟩
  · rw [RL_snoc, List.length_append, List.length_singleton]
    have e2 : (RL P C rows ++ List.replicate (n - rows.length) (Value.slice none 0 0)).set rows.length (.slice A r.length c) = RL P C rows ++ [.slice A r.length c] ++ List.replicate (n - (rows.length + 1)) (Value.slice none 0 0) := by
      rw [List.set_append_right _ _ (by rw [RL_len]; exact Nat.le_refl _), RL_len, Nat.sub_self]
      obtain ⟨d, hd⟩ : ∃ d, n - rows.length = d + 1 := ⟨n - rows.length - 1, by omega⟩
      rw [hd, List.replicate_succ, List.set_cons_zero, show n - (rows.length + 1) = d by omega, List.append_assoc]; rfl
    rw [e2] at hst
    exact hst
  · rw [List.length_append, List.length_singleton] at hj
    by_cases e : j = rows.length
    · subst e
      rw [setAt_eq, setAt_eq, getD_snoc_eq]
      refine (hr.more (show B ≤ w.heap.size by omega)).keep fun b hbb _ => Below.heap_setCell _ _ _ _ (hne b hbb)
    · rw [setAt_ne P _ e, setAt_ne C _ e, getD_snoc_lt rows r j (by omega)]
      have hx := h2.row j (by omega)
      exact hx.keep fun b hbb _ => Below.heap_setCell _ _ _ _ (fun e => row_ne' ho hx b hbb (by simp only [Value.ownBlock]; rw [e]))
  · rw [List.length_append, List.length_singleton] at hj
    rw [setAt_ne P _ (show i ≠ rows.length by omega)] at hbb
    by_cases e : j = rows.length
    · subst e
      rw [setAt_eq]
      intro he
      have := ((h.row i (by omega)).block b hbb).2
      have := (hr.block b he).1
      omega
    · rw [setAt_ne P _ e]
      exact h.apart i j hij (by omega) b hbb

def allR (n k : Nat) : List (List Int) := (List.range k).map fun r => pa n n n r
theorem allR_len (n k : Nat) : (allR n k).length = k := by simp [allR]
theorem allR_succ (n k : Nat) : allR n (k + 1) = allR n k ++ [pa n n n k] := by simp [allR, List.range_succ]

def allF (n : Int) : List (List Int) := if inB 0 14 n then allR n.toNat (T n.toNat n.toNat) else []
theorem allF_f {n : Int} (h : inB 0 14 n = false) : allF n = [] := by simp [allF, h]
theorem allF_t (m : Nat) (h : m ≤ 14) : allF m = allR m (T m m) := by
  have e : inB 0 14 (m : Int) = true := inB_iff.2 (by omega)
  simp [allF, e]

end Go.Proofs.Ytnpkfndopicdiaa
