/-
  Several texts in one.
-/
import Derived.Test.YtelfapheigobeaaCB
import Derived.RegionTactic
import Derived.ChangeAlike
import Derived.Test.YtelfapheigobeaaR07
import Derived.Test.YtelfapheigobeaaR36
import Derived.Test.YtelfapheigobeaaR37
import Derived.Test.YtelfapheigobeaaR38
/-
  Small facts on a row that the call has made, its first number 1.
-/
namespace Go.Proofs.Ytelfapheigobeaa
open Go.RowKit

theorem own_drew {w : World} {B : Nat} {A : Option Addr} {c : Nat} {xs : List Int} (h : Own w B A c xs) : Own w.drew B A c xs := h
theorem below_drew {B : Nat} {a w : World} (h : Below B a w) : Below B a w.drew := ⟨h.os, h.tape, h.output, h.size, h.block⟩

theorem own_made1 (w : World) (n : Nat) (hn : n ≤ 1048576) : Own (w.alloc (.cells ((madeCells #[.int .i64 0] n).setIfInBounds 0 (.int .i64 1)) 3)) w.heap.size (some ⟨w.heap.size, 0, none⟩) n ((fnRow n (fun _ => 0)).set 0 1) := by
  have h := World.ownsRow_lit (base := w.heap.size) (e := 3) (size := 1) w ((madeCells #[.int .i64 0] n).setIfInBounds 0 (.int .i64 1)) n (Nat.le_refl _) (by unfold maxLen; omega) (by rw [Array.size_setIfInBounds, size_madeCells]; simp)
  rw [Array.toList_setIfInBounds, toList_madeCells_one] at h
  unfold Own
  rw [List.length_set, fnRow_len, ← IL_set', rowF_zero]
  have e : IL (List.replicate n 0) = List.replicate n (.int .i64 0) := by simp [IL]
  rw [e]
  exact h

theorem own_at_len {w : World} {B : Nat} {A : Option Addr} {c n : Nat} {xs : List Int} (h : Own w B A c xs) (e : xs.length = n) : w.ownsRow B 3 1 (.slice A n c) n (IL xs) := by subst e; exact h
theorem own_of_len {w : World} {B : Nat} {A : Option Addr} {c n : Nat} {xs : List Int} (h : w.ownsRow B 3 1 (.slice A n c) n (IL xs)) (e : xs.length = n) : Own w B A c xs := by subst e; exact h
end Go.Proofs.Ytelfapheigobeaa
/-
  Contracts: the model's insertion into a row that falls; a bar taken away on both sides.
-/
namespace Go.Proofs.Ytelfapheigobeaa
open Go.RowKit

theorem own_take {w : World} {B : Nat} {A : Option Addr} {c : Nat} {xs : List Int} (h : Own w B A c xs) (k : Nat) : Own w B A c (xs.take k) := by
  unfold Own
  refine ⟨by simp [IL], ?_⟩
  rcases h.2 with ⟨hv, h0⟩ | ⟨g', cap, cur, hv, hB, hh, hn, hmx, hcs, htk⟩
  · injection hv with h1 h2 h3
    refine .inl ⟨?_, by rw [List.length_take]; omega⟩
    rw [h1, h3, List.length_take]
    congr 1
    omega
  · injection hv with h1 h2 h3
    subst h1; subst h3
    refine .inr ⟨g', c, cur, rfl, hB, hh, by rw [List.length_take]; omega, hmx, hcs, ?_⟩
    have e3 : IL (xs.take k) = (IL xs).take k := by simp [IL, List.map_take]
    rw [e3, ← htk, List.take_take, List.length_take]
    congr 1
    omega
theorem cutI_nn {A : Option Addr} {c k : Nat} (h : cutI A c k = none) : A = none := by
  cases A with
  | none => rfl
  | some a => unfold cutI at h; split at h <;> cases h
theorem cells_news {w : World} {ad : Addr} {xs : List Int} (hc : Cells w (some ad) xs) : ∀ k u, (IL xs)[k]? = some u → w.cell? (ad.add k) = some u := by
  intro k u hu
  have hk : k < xs.length := by
    have := (List.getElem?_eq_some_iff.1 hu).1
    simpa [IL] using this
  obtain ⟨b, o', he, hcc⟩ := hc (by omega)
  have h := hcc k hk
  rw [IL_get xs k hk] at hu
  injection he with he
  subst he
  have e : (⟨b, o', none⟩ : Addr).add k = ⟨b, o' + k, none⟩ := by unfold Addr.add; split <;> simp_all
  rw [e, h, hu]
theorem IL_oneD (xs : List Int) : ∀ u ∈ IL xs, u.oneCell' = true := by
  intro u hu
  obtain ⟨x, _, rfl⟩ := List.mem_map.1 hu
  rfl

end Go.Proofs.Ytelfapheigobeaa
