/-
  Small facts on rows of ints of the call's own.
-/
import Derived.Test.YtnhjofcmaodamaaBase
namespace Go.Proofs.Ytnhjofcmaodamaa
open Go.RowKit

theorem own_form {w : World} {B : Nat} {v : Value} {n : Nat} {xs : List Int} (h : w.ownsRow B 3 1 v n (IL xs)) (hn : n = xs.length) : ∃ A c, v = .slice A xs.length c ∧ Own w B A c xs := by
  subst hn
  rcases h.2 with ⟨hv, h0⟩ | ⟨g, cap, cur, hv, _⟩
  · refine ⟨none, 0, by rw [hv, h0], ?_⟩
    unfold Own; rw [h0]; rw [h0] at h; rw [← hv]; exact h
  · exact ⟨some ⟨g, 0, none⟩, cap, hv, by unfold Own; rw [← hv]; exact h⟩

theorem own_nil (w : World) (B : Nat) : Own w B none 0 [] := World.ownsRow_nil w B _ _

theorem IL_snoc (ys : List Int) (k : Nat) (h : k < ys.length) : IL (ys.take k) ++ [Value.int .i64 (ys.getD k 0)] = IL (ys.take (k + 1)) := by
  rw [List.take_succ_eq_append_getElem h]
  simp only [IL, List.map_append, List.map_cons, List.map_nil]
  rw [List.getD_eq_getElem?_getD, List.getElem?_eq_getElem h]; rfl

theorem one_at {w : World} {x : Value} {t : TypeId} (j : Nat) (u : Value) (h : [x][j]? = some u) : (w.alloc (.cells #[x] t)).cell? ((⟨w.heap.size, 0, none⟩ : Addr).add j) = some u := by
  match j, h with
  | 0, h => simp at h; subst h; simp [Addr.add]

theorem one_cell (x : Int) : ∀ u ∈ [Value.int .i64 x], u.oneCell' = true := by
  intro u hu; simp at hu; subst hu; rfl

theorem own_snoc {w : World} {B : Nat} {v : Value} {ys zs : List Int} {x : Int} (h : zs = ys ++ [x]) (ho : w.ownsRow B 3 1 v (ys.length + 1) (IL ys ++ [.int .i64 x])) : w.ownsRow B 3 1 v zs.length (IL zs) := by
  subst h
  have e : IL (ys ++ [x]) = IL ys ++ [.int .i64 x] := by simp [IL]
  rw [e, List.length_append]; exact ho
theorem IL_set' (xs : List Int) (k : Nat) (v : Int) : (IL xs).set k (.int .i64 v) = IL (xs.set k v) := by simp [IL, List.map_set]
theorem own_set {w : World} {B g c : Nat} {xs : List Int} (h : Own w B (some ⟨g, 0, none⟩) c xs) (k : Nat) (v : Int) : Own (w.setCell ⟨g, k, none⟩ (.int .i64 v)) B (some ⟨g, 0, none⟩) c (xs.set k v) := by
  have h2 := (World.ownsRow.stored h k (.int .i64 v)).1
  rw [IL_set'] at h2
  unfold Own
  rw [List.length_set]
  exact h2
theorem own_get {w : World} {B g c : Nat} {xs : List Int} (h : Own w B (some ⟨g, 0, none⟩) c xs) {k : Nat} (hk : k < xs.length) : w.cell? ⟨g, k, none⟩ = some (.int .i64 (xs.getD k 0)) := by
  rw [World.ownsRow.cellAt h k (by omega), IL_get xs k hk]
theorem own_froz {w : World} {B g c : Nat} {xs : List Int} (h : Own w B (some ⟨g, 0, none⟩) c xs) (k : Nat) : w.frozen? ⟨g, k, none⟩ = false := World.ownsRow.frozenAt h k
theorem own_len {w : World} {B c : Nat} {A : Option Addr} {xs ys : List Int} (h : Own w B A c xs) (e : xs = ys) : Own w B A c ys := e ▸ h
end Go.Proofs.Ytnhjofcmaodamaa
