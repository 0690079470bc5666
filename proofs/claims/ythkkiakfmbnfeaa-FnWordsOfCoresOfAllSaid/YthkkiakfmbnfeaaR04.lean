/-
  Several texts in one.
-/
import Derived.Test.YthkkiakfmbnfeaaCB
import Derived.Deep.RegionHeld3
import Derived.Laws.Rows
import Derived.Test.YthkkiakfmbnfeaaCC
import Derived.Test.YthkkiakfmbnfeaaCA
import Derived.Deep.RegionWith
import Derived.Deep.CutRange
/-
  Contracts: steps along the border (places, letters).
-/
namespace Go.Proofs.Ythkkiakfmbnfeaa
open Go.RowKit

end Go.Proofs.Ythkkiakfmbnfeaa
/-
  Contract: the program's walk along the rim of a cell.
-/
namespace Go.Proofs.Ythkkiakfmbnfeaa
open Go.RowKit

def PL (L : List (Nat × Nat)) : List Value := L.flatMap fun q => [.int .i64 (q.1 : Int), .int .i64 (q.2 : Int)]
theorem PL_snoc (L : List (Nat × Nat)) (a b : Nat) : PL L ++ [.int .i64 (a : Int), .int .i64 (b : Int)] = PL (L ++ [(a, b)]) := by simp [PL]
theorem PL_len (L : List (Nat × Nat)) : (PL L).length = L.length * 2 := by
  induction L with
  | nil => rfl
  | cons q t ih => simp only [PL, List.flatMap_cons, List.length_append, List.length_cons, List.length_nil] at ih ⊢; omega
theorem PL_get : ∀ (L : List (Nat × Nat)) (j : Nat), j < L.length → (PL L)[2 * j]? = some (.int .i64 ((L.getD j (0, 0)).1 : Int)) ∧ (PL L)[2 * j + 1]? = some (.int .i64 ((L.getD j (0, 0)).2 : Int))
  | [], j, h => absurd h (by simp)
  | q :: t, 0, _ => by simp [PL]
  | q :: t, j + 1, h => by
    have := PL_get t j (by simpa using h)
    have e : PL (q :: t) = [.int .i64 (q.1 : Int), .int .i64 (q.2 : Int)] ++ PL t := by simp [PL]
    rw [e, List.getElem?_append_right (by simp; omega), List.getElem?_append_right (by simp; omega)]
    simp only [List.length_cons, List.length_nil, List.getD_cons_succ]
    rw [show 2 * (j + 1) - (0 + 1 + 1) = 2 * j by omega, show 2 * (j + 1) + 1 - (0 + 1 + 1) = 2 * j + 1 by omega]
    exact this
theorem Try.infoPlace : (Try.prog.info? 61).map (fun i => (i.zero, i.size, i.bytes)) = some (some (.agg #[.int .i64 0, .int .i64 0]), 2, 16) := by kernel_rfl
theorem two_at {w : World} {x y : Value} {t : TypeId} (j : Nat) (u : Value) (h : [x, y][j]? = some u) : (w.alloc (.cells #[x, y] t)).cell? ((⟨w.heap.size, 0, none⟩ : Addr).add j) = some u := by
  match j, h with
  | 0, h => simp at h; subst h; simp [Addr.add]
  | 1, h => simp at h; subst h; simp [Addr.add]
theorem two_cell (x y : Int) : ∀ u ∈ [Value.int .i64 x, .int .i64 y], u.oneCell' = true := by
  intro u hu; simp at hu; rcases hu with rfl | rfl <;> rfl
def slen : Value → Nat
  | .slice _ n _ => n
  | _ => 0
theorem slen_row {w : World} {B e s n : Nat} {v : Value} {xs : List Value} (h : w.ownsRow B e s v n xs) : slen v = n := by
  rcases h.2 with ⟨rfl, rfl⟩ | ⟨g, cap, cur, rfl, _⟩ <;> rfl

theorem ownsRow_next {w w' : World} {B e s n : Nat} {v : Value} {xs : List Value} (h : w.ownsRow B e s v n xs) (hb : Below w.heap.size w w') : w'.ownsRow B e s v n xs := by
  refine ⟨h.1, ?_⟩
  rcases h.2 with hn | ⟨g, cap, cur, hv, hbg, hgg, rest⟩
  · exact .inl hn
  · exact .inr ⟨g, cap, cur, hv, hbg, by rw [hb.block g (Array.getElem?_eq_some_iff.1 hgg).1]; exact hgg, rest⟩
theorem ownsRow_set2 {w : World} {B e s n g : Nat} {v : Value} {xs : List Value} (h : w.ownsRow B e s v n xs) (hg : g < B) (a b : Value) : ((w.setCell ⟨g, 0, none⟩ a).setCell ⟨g, 1, none⟩ b).ownsRow B e s v n xs := by
  refine ⟨h.1, ?_⟩
  rcases h.2 with hn | ⟨g', cap, cur, hv, hbg, hgg, rest⟩
  · exact .inl hn
  · exact .inr ⟨g', cap, cur, hv, hbg, by rw [Below.heap_setCell _ _ _ g' (by simp; omega), Below.heap_setCell _ _ _ g' (by simp; omega)]; exact hgg, rest⟩
theorem ownsRow_more {w : World} {B B' e s n : Nat} {v : Value} {xs : List Value} (h : w.ownsRow B e s v n xs) (hB : B' ≤ B) : w.ownsRow B' e s v n xs := by
  refine ⟨h.1, ?_⟩
  rcases h.2 with hn | ⟨g, cap, cur, hv, hb, rest⟩
  · exact .inl hn
  · exact .inr ⟨g, cap, cur, hv, Nat.le_trans hB hb, rest⟩

end Go.Proofs.Ythkkiakfmbnfeaa
