/-
  Several texts in one.
-/
import Derived.Shelf.SortM.Plain
import Derived.Shelf.SlGeneric
import Derived.Test.YtcgoiddghenkmaaCB
import Derived.Shelf.SortM.SortNone
import Derived.Lib.OwnBridge
/-
  The library's contract laid at this program: sortI.
-/
namespace Go.Proofs.Ytcgoiddghenkmaa
open Go.RowKit Go.Shelf Go.Sort

def sortIRen : Go.Shelf.Ren := ⟨fun | 5 => 48 | 8 => 53 | 7 => 52 | 19 => 63 | 20 => 64 | 10 => 54 | 11 => 55 | 12 => 56 | 13 => 57 | 14 => 58 | 15 => 59 | 16 => 60 | 17 => 61 | 18 => 62 | 30 => 65 | 31 => 66 | 32 => 67 | 33 => 68 | 34 => 69 | 35 => 70 | 40 => 71 | n => n, fun | 23 => 22 | 25 => 3 | 3 => 3 | 32 => 63 | 22 => 22 | 0 => 0 | 44 => 72 | 46 => 74 | 4 => 4 | 36 => 66 | 35 => 65 | 41 => 25 | 5 => 5 | 9 => 9 | 53 => 75 | 57 => 79 | 63 => 82 | 64 => 83 | n => n, fun | n => n⟩
theorem sortILays : Go.Proofs.SlLaysM.n5 Try.prog sortIRen := {
  mixed := by kernel_rfl
  f5 := ⟨Try.f48.name, by decide, Try.func48.trans (congrArg some (by kernel_rfl))⟩
  f7 := ⟨Try.f52.name, by decide, Try.func52.trans (congrArg some (by kernel_rfl))⟩
  f8 := Try.func53.trans (congrArg some (by kernel_rfl))
  f10 := ⟨Try.f54.name, by decide, Try.func54.trans (congrArg some (by kernel_rfl))⟩
  f11 := ⟨Try.f55.name, by decide, Try.func55.trans (congrArg some (by kernel_rfl))⟩
  f12 := ⟨Try.f56.name, by decide, Try.func56.trans (congrArg some (by kernel_rfl))⟩
  f13 := ⟨Try.f57.name, by decide, Try.func57.trans (congrArg some (by kernel_rfl))⟩
  f14 := ⟨Try.f58.name, by decide, Try.func58.trans (congrArg some (by kernel_rfl))⟩
  f15 := ⟨Try.f59.name, by decide, Try.func59.trans (congrArg some (by kernel_rfl))⟩
  f16 := ⟨Try.f60.name, by decide, Try.func60.trans (congrArg some (by kernel_rfl))⟩
  f17 := ⟨Try.f61.name, by decide, Try.func61.trans (congrArg some (by kernel_rfl))⟩
  f18 := ⟨Try.f62.name, by decide, Try.func62.trans (congrArg some (by kernel_rfl))⟩
  f19 := Try.func63.trans (congrArg some (by kernel_rfl))
  f20 := Try.func64.trans (congrArg some (by kernel_rfl))
  f30 := ⟨Try.f65.name, by decide, Try.func65.trans (congrArg some (by kernel_rfl))⟩
  f31 := Try.func66.trans (congrArg some (by kernel_rfl))
  f32 := Try.func67.trans (congrArg some (by kernel_rfl))
  f33 := ⟨Try.f68.name, by decide, Try.func68.trans (congrArg some (by kernel_rfl))⟩
  f34 := ⟨Try.f69.name, by decide, Try.func69.trans (congrArg some (by kernel_rfl))⟩
  f35 := ⟨Try.f70.name, by decide, Try.func70.trans (congrArg some (by kernel_rfl))⟩
  f40 := ⟨Try.f71.name, by decide, Try.func71.trans (congrArg some (by kernel_rfl))⟩
  t0 := Try.underlying0
  a0 := Try.isAgg0
  z0 := Try.sizeOf0
  v0 := Try.zeroValue0
  t3 := Try.underlying3
  a3 := Try.isAgg3
  z3 := Try.sizeOf3
  v3 := Try.zeroValue3
  t4 := Try.underlying4
  a4 := Try.isAgg4
  z4 := Try.sizeOf4
  v4 := Try.zeroValue4
  t5 := Try.underlying5
  a5 := Try.isAgg5
  z5 := Try.sizeOf5
  v5 := Try.zeroValue5
  t9 := Try.underlying9
  a9 := Try.isAgg9
  z9 := Try.sizeOf9
  v9 := Try.zeroValue9
  t22 := Try.underlying22
  a22 := Try.isAgg22
  z22 := Try.sizeOf22
  v22 := Try.zeroValue22
  t23 := Try.underlying22
  a23 := Try.isAgg22
  z23 := Try.sizeOf22
  v23 := Try.zeroValue22
  t25 := Try.underlying3
  a25 := Try.isAgg3
  z25 := Try.sizeOf3
  v25 := Try.zeroValue3
  t32 := Try.underlying63
  a32 := Try.isAgg63
  z32 := Try.sizeOf63
  v32 := Try.zeroValue63
  t35 := Try.underlying65
  a35 := Try.isAgg65
  z35 := Try.sizeOf65
  v35 := Try.zeroValue65
  t36 := Try.underlying66
  a36 := Try.isAgg66
  z36 := Try.sizeOf66
  v36 := Try.zeroValue66
  t41 := Try.underlying25
  a41 := Try.isAgg25
  z41 := Try.sizeOf25
  v41 := Try.zeroValue25
  t44 := Try.underlying72
  a44 := Try.isAgg72
  z44 := Try.sizeOf72
  v44 := Try.zeroValue72
  t46 := Try.underlying74
  a46 := Try.isAgg74
  z46 := Try.sizeOf74
  v46 := Try.zeroValue74
  t53 := Try.underlying75
  a53 := Try.isAgg75
  z53 := Try.sizeOf75
  v53 := Try.zeroValue75
  t57 := Try.underlying79
  a57 := Try.isAgg79
  z57 := Try.sizeOf79
  v57 := Try.zeroValue79
  t63 := Try.underlying82
  a63 := Try.isAgg82
  z63 := Try.sizeOf82
  v63 := Try.zeroValue82
  t64 := Try.underlying83
  a64 := Try.isAgg83
  z64 := Try.sizeOf83
  v64 := Try.zeroValue83 }
end Go.Proofs.Ytcgoiddghenkmaa
/-
  The library's sort of a row of ints.
-/
namespace Go.Proofs.Ytcgoiddghenkmaa
open Go.RowKit Go.Shelf Go.Sort

theorem sortI_any (A : Option Addr) (c : Nat) (xs : List Int) (w : World) (B : Nat) (ho : Own w B A c xs) (hl : xs.length ≤ 1000) :
    Calls Try.prog 48 #[.slice A xs.length c] w fun e w' => e = .returned (.tuple #[]) ∧ Own w' B A c (xs.mergeSort fun x y => decide (x ≤ y)) ∧ ∀ B0 w0, B0 ≤ B → Below B0 w0 w → Below B0 w0 w' := by
  rcases ho.2 with ⟨hv, h0⟩ | ⟨g, cap, cur, hv, hbg, hgg, hrest⟩
  · injection hv with h1 h2 h3
    subst h1; subst h3
    have e : xs = [] := List.eq_nil_of_length_eq_zero h0
    subst e
    have hcall := AnyM.slices_Sort_int_none sortILays none 0 w
    change Calls Try.prog 48 #[.slice none 0 0] w _ at hcall
    refine hcall.mono ?_
    rintro e w' ⟨rfl, rfl⟩
    exact ⟨rfl, by simpa using ho, fun _ _ _ h => h⟩
  · injection hv with h1 h2 h3
    subst h1; subst h3
    have hout : w.ownsRow B 3 1 (.slice (some ⟨g, 0, none⟩) xs.length c) xs.length (xs.map (Value.int .i64)) := ho
    obtain ⟨g', cap', hv', -, hgw, -, -, -, hH⟩ := Lib.holds_of_ownsRow hout (fun e => by injection e with h1; cases h1)
    injection hv' with h1 h2 h3
    injection h1 with h1
    injection h1 with h1
    subst h1; subst h3
    have hcall := AnyM.slices_Sort_int sortILays g 0 c xs w hH hgw (by omega)
    refine hcall.mono ?_
    rintro e w' ⟨rfl, n, os, rfl⟩
    have hml : (xs.mergeSort fun x y => decide (x ≤ y)).length = xs.length := List.length_mergeSort _
    refine ⟨rfl, ?_, ?_⟩
    · have h2 := Lib.ownsRow_putRow (q := n) (k := xs.length) hout hml (Nat.le_refl _)
      rw [List.take_of_length_le (by omega)] at h2
      have h3 := ownsRow_keep (w' := grow (putRow (Value.int .i64) (Sort.ahead w n) g 0 (xs.mergeSort fun x y => decide (x ≤ y)).toArray) os) h2 fun b _ hb => heap_grow_old _ _ hb
      unfold Own
      rw [hml]
      exact h3
    · intro B0 w0 hB0 hbel
      have h3 := Lib.below_putRow (enc := Value.int .i64) (q := n) (d := (xs.mergeSort fun x y => decide (x ≤ y)).toArray) hbel (Nat.le_trans hB0 hbg)
      refine ⟨h3.os, h3.tape, h3.output, ?_, fun k hk => ?_⟩
      · rw [size_grow]; have := h3.size; omega
      · by_cases hks : k < (putRow (Value.int .i64) (Sort.ahead w n) g 0 (xs.mergeSort fun x y => decide (x ≤ y)).toArray).heap.size
        · rw [heap_grow_old _ _ hks]; exact h3.block k hk
        · rw [size_putRow] at hks
          exact absurd (show k < w.heap.size by have := hbel.size; omega) hks
end Go.Proofs.Ytcgoiddghenkmaa
