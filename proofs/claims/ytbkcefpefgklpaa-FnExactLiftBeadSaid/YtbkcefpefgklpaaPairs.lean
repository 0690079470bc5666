/-
  Rows of two numbers each.
-/
import Derived.Test.YtbkcefpefgklpaaGrow
import Derived.Test.YtbkcefpefgklpaaSmall
namespace Go.Proofs.Ytbkcefpefgklpaa
open Go.RowKit

theorem ownsRow_slice {w : World} {B e s n : Nat} {v : Value} {xs : List Value} (h : w.ownsRow B e s v n xs) : ∃ A c, v = .slice A n c := by
  rcases h.2 with ⟨rfl, rfl⟩ | ⟨g, cap, cur, rfl, _⟩
  · exact ⟨none, 0, rfl⟩
  · exact ⟨_, _, rfl⟩
def pairs (L : List (Nat × Nat)) : List (List Int) := L.map fun q => [(q.1 : Int), (q.2 : Int)]
theorem pairs_len (L : List (Nat × Nat)) : (pairs L).length = L.length := by simp [pairs]
theorem pairs_snoc (L : List (Nat × Nat)) (a b : Nat) : pairs (L ++ [(a, b)]) = pairs L ++ [[(a : Int), (b : Int)]] := by simp [pairs]
theorem tot_pairs (L : List (Nat × Nat)) : tot (pairs L) = 2 * L.length := by
  induction L with
  | nil => rfl
  | cons q t ih => simp only [pairs, List.map_cons, tot, List.length_cons, List.length_nil] at ih ⊢; omega
theorem own_two (w : World) (B : Nat) (hB : B ≤ w.heap.size) (a b : Int) : Own (w.alloc (.cells #[.int .i64 a, .int .i64 b] 3)) B (some ⟨w.heap.size, 0, none⟩) 2 [a, b] :=
  World.ownsRow_lit (base := B) (e := 3) (size := 1) w #[.int .i64 a, .int .i64 b] 2 hB (by unfold maxLen; omega) rfl
theorem one_at_n {w : World} {n : Nat} {x : Value} {t : TypeId} (hn : w.heap.size = n) (j : Nat) (u : Value) (h : [x][j]? = some u) : (w.alloc (.cells #[x] t)).cell? ((⟨n, 0, none⟩ : Addr).add j) = some u := by
  subst hn; exact one_at j u h
end Go.Proofs.Ytbkcefpefgklpaa
