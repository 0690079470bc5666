/-
  Contracts: the reflection of cores of the program.
-/
import Derived.Test.YtblkmomcdchdoaaRfMath
import Derived.Test.YtblkmomcdchdoaaRfCore
import Derived.Test.YtblkmomcdchdoaaOutF
import Derived.Test.YtblkmomcdchdoaaResid
import Derived.Test.YtblkmomcdchdoaaOwnCopy
import Derived.Test.YtblkmomcdchdoaaAddable
import Derived.Test.YtblkmomcdchdoaaStrip
import Derived.Test.YtblkmomcdchdoaaRefl
namespace Go.Proofs.Ytblkmomcdchdoaa
open Go.RowKit

set_option maxHeartbeats 400000 in
theorem content_at (r k : Nat) (w : World) (hr : r ≤ 1000) (hk : k ≤ 1000) : Calls Try.prog 122 #[.agg #[.int .i64 r, .int .i64 k]] w fun e w' => e = .returned (.int .i64 (contN r k)) ∧ Below w.heap.size w w' := by
  go_enter Try.func122, Try.ntmps122
  go_wp2
  go_ret
  exact ⟨rfl, (Below.refl _ _).alloc (Nat.le_refl _) _⟩
set_option maxHeartbeats 1000000 in
theorem hasRes_any (T I : Nat) (t : Nat) (i : Int) (r k : Nat) (w : World) (ht : 2 ≤ t ∧ t ≤ 6) (hr : r ≤ 1000) (hk : k ≤ 1000) (h1 : w.cell? ⟨T, 0, none⟩ = some (.int .i64 t)) (h2 : w.cell? ⟨I, 0, none⟩ = some (.int .i64 i)) :
    Calls Try.prog 120 #[.agg #[.int .i64 r, .int .i64 k], .pointer (some ⟨T, 0, none⟩), .pointer (some ⟨I, 0, none⟩)] w fun e w' => e = .returned (.bool (decide (((k : Int) - r) % (t : Int) = i))) ∧ Below w.heap.size w w' := by
  have hb1 : T < w.heap.size := World.block_lt_of_cell? w _ h1
  have hb2 : I < w.heap.size := World.block_lt_of_cell? w _ h2
  obtain ⟨wb, hwb⟩ : ∃ wb, wb = w.alloc (.cells #[.int .i64 r, .int .i64 k] 59) := ⟨_, rfl⟩
  have y0 : Box2 wb w.heap.size 59 (.int .i64 r) (.int .i64 k) := by rw [hwb]; exact Box2.new _ _ _ _
  have B0 : Below w.heap.size w wb := by rw [hwb]; exact (Below.refl _ _).alloc (Nat.le_refl _) _
  have hsz : wb.heap.size = w.heap.size + 1 := by rw [hwb]; simp
  have c1 : wb.drew.cell? ⟨T, 0, none⟩ = some (.int .i64 t) := (B0.cell hb1).trans h1
  have c2 : wb.drew.cell? ⟨I, 0, none⟩ = some (.int .i64 i) := (B0.cell hb2).trans h2
  have p0 : wb.drew.cell? ⟨w.heap.size, 0, none⟩ = some (.int .i64 r) := y0.cell0
  have p1 : wb.drew.cell? ⟨w.heap.size, 1, none⟩ = some (.int .i64 k) := y0.cell1
  have hcn : contN r k = (k : Int) - r := rfl
  have hl1 : T < wb.drew.heap.size := by show T < wb.heap.size; omega
  have hl2 : I < wb.drew.heap.size := by show I < wb.heap.size; omega
  have HB0 := hid (show Below w.heap.size w wb.drew from B0.drew)
  have hwb' := hwb
  clear y0 B0 hwb
  obtain ⟨z, hz⟩ : ∃ z, z = (k : Int) - r := ⟨_, rfl⟩
  rw [← hz] at hcn ⊢
  have HCO := hid fun W => content_at r k W hr hk
  rw [hcn] at HCO
  have HRE := hid fun W => residueOf_any z t W ht
  obtain ⟨y, hy⟩ : ∃ y, y = z % (t : Int) := ⟨_, rfl⟩
  rw [← hy] at HRE ⊢
  clear hy hz hcn
  have HSZ := hid hsz
  go_enter Try.func120, Try.ntmps120
  clear hsz
  go_wp2_with fail
  rw [← hwb']
  clear hwb'
  go_region_with (first | (go_at_call 122; refine (HCO.out _).mono ?_; rintro e w3 ⟨rfl, b3⟩; have t3 := (b3.cell hl1).trans c1; have i3 := (b3.cell hl2).trans c2; have B3 := hid (Below.next HB0.out b3)) | (go_at_call 121; refine (HRE.out _).mono ?_; rintro e w4 ⟨rfl, rfl⟩))
  all_goals
    go_wp2_with fail
    go_ret
    exact ⟨ret_bool rfl, B3.out⟩
end Go.Proofs.Ytblkmomcdchdoaa
