/-
  The library's sort of a row of ints.
-/
import Derived.Test.YtmbfobcbnnalbaaCB
import Derived.Test.YtmbfobcbnnalbaaLaySortI
import Derived.Shelf.SortM.SortNone
import Derived.Lib.OwnBridge
namespace Go.Proofs.Ytmbfobcbnnalbaa
open Go.RowKit Go.Shelf Go.Sort

theorem sortI_any (A : Option Addr) (c : Nat) (xs : List Int) (w : World) (B : Nat) (ho : Own w B A c xs) (hl : xs.length ≤ 1000) :
    Calls Try.prog 228 #[.slice A xs.length c] w fun e w' => e = .returned (.tuple #[]) ∧ Own w' B A c (xs.mergeSort fun x y => decide (x ≤ y)) ∧ ∀ B0 w0, B0 ≤ B → Below B0 w0 w → Below B0 w0 w' := by
  rcases ho.2 with ⟨hv, h0⟩ | ⟨g, cap, cur, hv, hbg, hgg, hrest⟩
  · injection hv with h1 h2 h3
    subst h1; subst h3
    have e : xs = [] := List.eq_nil_of_length_eq_zero h0
    subst e
    have hcall := AnyM.slices_Sort_int_none sortILays none 0 w
    change Calls Try.prog 228 #[.slice none 0 0] w _ at hcall
    refine hcall.mono ?_
    rintro e w' ⟨rfl, rfl⟩
    exact ⟨rfl, by simpa using ho, fun _ _ _ h => h⟩
  · injection hv with h1 h2 h3
    subst h1; subst h3
    have hout : w.ownsRow B 3 1 (.slice (some ⟨g, 0, none⟩) xs.length c) xs.length (xs.map (Value.int .i64)) := ho
    obtain ⟨g', cap', hv', -, hgw, -, -, -, hH⟩ := Lib.holds_of_ownsRow hout (fun e => by injection e with h1; cases h1)
    injection hv' with h1 h2 h3
    injection h1 with h1
    injection h1 with h1
    subst h1; subst h3
    have hcall := AnyM.slices_Sort_int sortILays g 0 c xs w hH hgw (by omega)
    refine hcall.mono ?_
    rintro e w' ⟨rfl, n, os, rfl⟩
    have hml : (xs.mergeSort fun x y => decide (x ≤ y)).length = xs.length := List.length_mergeSort _
    refine ⟨rfl, ?_, ?_⟩
    · have h2 := Lib.ownsRow_putRow (q := n) (k := xs.length) hout hml (Nat.le_refl _)
      rw [List.take_of_length_le (by omega)] at h2
      have h3 := ownsRow_keep (w' := grow (putRow (Value.int .i64) (Sort.ahead w n) g 0 (xs.mergeSort fun x y => decide (x ≤ y)).toArray) os) h2 fun b _ hb => heap_grow_old _ _ hb
      unfold Own
      rw [hml]
      exact h3
    · intro B0 w0 hB0 hbel
      have h3 := Lib.below_putRow (enc := Value.int .i64) (q := n) (d := (xs.mergeSort fun x y => decide (x ≤ y)).toArray) hbel (Nat.le_trans hB0 hbg)
      refine ⟨h3.os, h3.tape, h3.output, ?_, fun k hk => ?_⟩
      · rw [size_grow]; have := h3.size; omega
      · by_cases hks : k < (putRow (Value.int .i64) (Sort.ahead w n) g 0 (xs.mergeSort fun x y => decide (x ≤ y)).toArray).heap.size
        · rw [heap_grow_old _ _ hks]; exact h3.block k hk
        · rw [size_putRow] at hks
          exact absurd (show k < w.heap.size by have := hbel.size; omega) hks
end Go.Proofs.Ytmbfobcbnnalbaa
