/-
  Rows that a call made are appended to rows that grow, all of them.
-/
import Derived.Test.YtnjhjdidohdkmaaCB
namespace Go.Proofs.Ytnjhjdidohdkmaa
open Go.RowKit

def glue {α : Type} (P : Nat → α) (k : Nat) (P2 : Nat → α) : Nat → α := fun j => if j < k then P j else P2 (j - k)
theorem glue_lt {α : Type} (P : Nat → α) {k j : Nat} (P2 : Nat → α) (h : j < k) : glue P k P2 j = P j := if_pos h
theorem glue_ge {α : Type} (P : Nat → α) (k j : Nat) (P2 : Nat → α) : glue P k P2 (k + j) = P2 j := by
  unfold glue; rw [if_neg (by omega)]; congr 1; omega
theorem getD_app_lt (a b : List (List Int)) {j : Nat} (h : j < a.length) : (a ++ b).getD j [] = a.getD j [] := by
  rw [List.getD_eq_getElem?_getD, List.getElem?_append_left h, ← List.getD_eq_getElem?_getD]
theorem getD_app_ge (a b : List (List Int)) (j : Nat) : (a ++ b).getD (a.length + j) [] = b.getD j [] := by
  rw [List.getD_eq_getElem?_getD, List.getElem?_append_right (by omega), List.getD_eq_getElem?_getD]; congr 2; omega
theorem RL_app (P P2 : Nat → Option Addr) (C C2 : Nat → Nat) (a b : List (List Int)) : RL (glue P a.length P2) (glue C a.length C2) (a ++ b) = RL P C a ++ RL P2 C2 b := by
  unfold RL
  rw [List.length_append, List.range_add, List.map_append, List.map_map]
  congr 1
  · refine List.map_congr_left fun j hj => ?_
    have hj' : j < a.length := List.mem_range.1 hj
    rw [glue_lt P P2 hj', glue_lt C C2 hj', getD_app_lt a b hj']
  · refine List.map_congr_left fun j _ => ?_
    simp only [Function.comp]
    rw [glue_ge, glue_ge, getD_app_ge]
/-- Rows that a call made are appended, all of them. -/
theorem Push.pushAll {w0 w1 w2 : World} {B S : Nat} {v v' : Value} {rows rows2 : List (List Int)} {P P2 : Nat → Option Addr} {C C2 : Nat → Nat} {A : Option Addr} {c : Nat}
    (h : Push w0 B v rows P C) (hb : Below w0.heap.size w0 w1) (H : Own2At w1 w0.heap.size S A c rows2 P2 C2) (hB : B ≤ w0.heap.size)
    (ho : w2.ownsRow B 27 1 v' (rows.length + rows2.length) (RL P C rows ++ RL P2 C2 rows2)) (hg : w1.grownBy w2 v.ownBlock) :
    Push w2 B v' (rows ++ rows2) (glue P rows.length P2) (glue C rows.length C2) := by
  have h1 := h.below hb
  have keep : ∀ {A' : Option Addr} {c' : Nat} {r' : List Int}, Own w1 B A' c' r' → Own w2 B A' c' r' := fun {A' c' r'} hx =>
    hx.keep fun b hbb hlt => hg.block b hlt (fun e => row_ne' h1.out hx b hbb e.symm)
  refine ⟨by rw [RL_app, List.length_append]; exact ho, fun j hj => ?_, fun i j hij hj b hbi => ?_⟩
  · rw [List.length_append] at hj
    by_cases e : j < rows.length
    · rw [glue_lt P P2 e, glue_lt C C2 e, getD_app_lt _ _ e]
      exact keep (h1.row j e)
    · obtain ⟨d, rfl⟩ : ∃ d, j = rows.length + d := ⟨j - rows.length, by omega⟩
      rw [glue_ge, glue_ge, getD_app_ge]
      exact keep ((H.row d (by omega)).more hB)
  · rw [List.length_append] at hj
    by_cases e : j < rows.length
    · rw [glue_lt P P2 (show i < rows.length by omega)] at hbi
      rw [glue_lt P P2 e]
      exact h.apart i j hij e b hbi
    · obtain ⟨d, rfl⟩ : ∃ d, j = rows.length + d := ⟨j - rows.length, by omega⟩
      rw [glue_ge]
      by_cases e2 : i < rows.length
      · rw [glue_lt P P2 e2] at hbi
        intro he
        have := ((H.row d (by omega)).block b he).1
        have := ((h.row i e2).block b hbi).2
        omega
      · obtain ⟨d2, rfl⟩ : ∃ d2, i = rows.length + d2 := ⟨i - rows.length, by omega⟩
        rw [glue_ge] at hbi
        exact H.apart d2 d (by omega) (by omega) b hbi
theorem RL_one (P : Nat → Option Addr) (C : Nat → Nat) (rows : List (List Int)) : ∀ u ∈ RL P C rows, u.oneCell' = true := by
  intro u hu
  obtain ⟨j, _, rfl⟩ := List.mem_map.1 hu
  rfl
theorem own2_none {w : World} {B S c : Nat} {rows : List (List Int)} {P : Nat → Option Addr} {C : Nat → Nat} (h : Own2At w B S none c rows P C) : rows.length = 0 ∧ c = 0 := by
  rcases h.out.2 with ⟨hv, h0⟩ | ⟨g, cap, cur, hv, _⟩
  · injection hv with _ _ h3; exact ⟨h0, h3⟩
  · injection hv with h1; cases h1
theorem own2_news {w : World} {B S c : Nat} {ad : Addr} {rows : List (List Int)} {P : Nat → Option Addr} {C : Nat → Nat} (h : Own2At w B S (some ad) c rows P C) : ∀ k u, (RL P C rows)[k]? = some u → w.cell? (ad.add k) = some u := by
  rcases h.out.2 with ⟨hv, h0⟩ | ⟨g, cap, cur, hv, _⟩
  · injection hv with h1; cases h1
  · injection hv with h1
    cases h1
    intro k u hk
    exact World.ownsRow.cells h.out (g := g) rfl k u hk
theorem own2_one {w : World} {B c : Nat} {A : Option Addr} {V : List Int} (hB : B ≤ w.heap.size) (h : Own w B A c V) :
    Own2 (w.alloc (.cells #[.slice A V.length c] 27)) B (w.alloc (.cells #[.slice A V.length c] 27)).heap.size (some ⟨w.heap.size, 0, none⟩) 1 [V] := by
  have hz : (w.alloc (.cells #[.slice A V.length c] 27)).heap.size = w.heap.size + 1 := by simp
  refine ⟨fun _ => A, fun _ => c, World.ownsRow_lit (base := B) (e := 27) (size := 1) w #[.slice A V.length c] 1 hB (by unfold maxLen; omega) rfl, fun b hb => ?_, fun j hj => ?_, fun j _ b hb => ?_, fun i j hij hj => ?_⟩
  · have : w.heap.size = b := by simpa using hb
    omega
  · have : j = 0 := by simpa using hj
    subst this
    exact h.below ((Below.refl _ _).alloc (Nat.le_refl _) _)
  · have := (h.block b hb).2
    omega
  · simp at hj; omega
end Go.Proofs.Ytnjhjdidohdkmaa
