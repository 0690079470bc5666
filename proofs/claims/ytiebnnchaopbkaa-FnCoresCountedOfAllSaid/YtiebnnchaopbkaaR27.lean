/-
  Several texts in one.
-/
import Derived.Test.YtiebnnchaopbkaaCH
import Derived.Test.YtiebnnchaopbkaaR15
import Derived.Test.YtiebnnchaopbkaaCB
import Derived.Maps.AppendAt
/-
  Contracts: PartitionWith of the model.
-/
namespace Go.Proofs.Ytiebnnchaopbkaa
open Go.RowKit

theorem bound_PartitionWith (n r : Int) : (withF n r).length ≤ 1048576 := by have := withF_len n r; omega
end Go.Proofs.Ytiebnnchaopbkaa
/-
  Contracts: AllPartitions of the model.
-/
namespace Go.Proofs.Ytiebnnchaopbkaa
open Go.RowKit


theorem Own2At.top {w : World} {B S : Nat} {A : Option Addr} {c : Nat} {rows : List (List Int)} {P : Nat → Option Addr} {C : Nat → Nat} (h : Own2At w B S A c rows P C) {j : Nat} (hj : j < rows.length) :
    ∃ b o, A = some ⟨b, o, none⟩ ∧ w.cell? ⟨b, o + j, none⟩ = some (.slice (P j) (rows.getD j []).length (C j)) := by
  rcases h.out.2 with ⟨_, h0⟩ | ⟨g, cap, cur, hv, _⟩
  · omega
  · have hA : A = some ⟨g, 0, none⟩ := by injection hv
    subst hA
    refine ⟨g, 0, rfl, ?_⟩
    rw [Nat.zero_add, World.ownsRow.cellAt h.out j (by omega), RL_get P C rows j hj]
theorem own_nil_at {w : World} {B : Nat} (j : Nat) (hj : j < ([[]] : List (List Int)).length) : Own w B none 0 (([[]] : List (List Int)).getD j []) := by
  have : j = 0 := by simpa using hj
  subst this
  exact own_nil _ _
theorem IL_one (xs : List Int) : ∀ u ∈ IL xs, u.oneCell' = true := by
  intro u hu
  obtain ⟨x, _, rfl⟩ := List.mem_map.1 hu
  rfl

theorem tot_le (rows : List (List Int)) (B : Nat) (h : ∀ r ∈ rows, r.length ≤ B) : tot rows ≤ rows.length * B := by
  induction rows with
  | nil => simp [tot]
  | cons r t ih =>
    have h1 := h r (List.mem_cons_self ..)
    have h2 := ih fun x hx => h x (List.mem_cons_of_mem _ hx)
    rw [tot, List.length_cons, Nat.add_mul]; omega
theorem bound_AllPartitions (n : Int) : (allF n).length ≤ 1048576 ∧ tot (allF n) ≤ 1048576 := by
  cases h : inB 0 14 n
  · rw [allF_f h]; simp [tot]
  · have hh := inB_iff.1 h
    obtain ⟨m, rfl⟩ : ∃ m : Nat, n = m := ⟨n.toNat, by omega⟩
    rw [allF_t m (by omega)]
    have h1 := T_bound m (by omega) m (by omega)
    have h2 := tot_le (allR m (T m m)) 14 fun r hr => by
      obtain ⟨q, _, rfl⟩ := List.mem_map.1 hr
      have := pa_len m m m q; omega
    rw [allR_len] at h2 ⊢
    omega
end Go.Proofs.Ytiebnnchaopbkaa
