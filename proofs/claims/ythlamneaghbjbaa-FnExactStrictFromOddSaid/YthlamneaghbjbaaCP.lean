/-
  Several texts in one.
-/
import Derived.Shelf.SortM.Plain
import Derived.Shelf.SlGeneric
import Derived.Test.YthlamneaghbjbaaCB
import Derived.Shelf.SortM.SortNone
import Derived.Lib.OwnBridge
/-
  The library's contract laid at this program: sortI.
-/
namespace Go.Proofs.Ythlamneaghbjbaa
open Go.RowKit Go.Shelf Go.Sort

def sortIRen : Go.Shelf.Ren := ⟨fun | 5 => 184 | 8 => 195 | 7 => 207 | 19 => 218 | 20 => 219 | 10 => 221 | 11 => 222 | 12 => 223 | 13 => 224 | 14 => 225 | 15 => 226 | 16 => 227 | 17 => 228 | 18 => 229 | 30 => 236 | 31 => 231 | 32 => 232 | 33 => 237 | 34 => 238 | 35 => 235 | 40 => 240 | n => n, fun | 23 => 22 | 25 => 3 | 3 => 3 | 32 => 115 | 22 => 22 | 0 => 0 | 44 => 134 | 46 => 137 | 4 => 4 | 36 => 143 | 35 => 142 | 41 => 36 | 5 => 5 | 9 => 9 | 53 => 154 | 57 => 158 | 63 => 162 | 64 => 163 | n => n, fun | n => n⟩
theorem sortILays : Go.Proofs.SlLaysM.n5 Try.prog sortIRen := {
  mixed := by kernel_rfl
  f5 := ⟨Try.f184.name, by decide, Try.func184.trans (congrArg some (by kernel_rfl))⟩
  f7 := ⟨Try.f207.name, by decide, Try.func207.trans (congrArg some (by kernel_rfl))⟩
  f8 := Try.func195.trans (congrArg some (by kernel_rfl))
  f10 := ⟨Try.f221.name, by decide, Try.func221.trans (congrArg some (by kernel_rfl))⟩
  f11 := ⟨Try.f222.name, by decide, Try.func222.trans (congrArg some (by kernel_rfl))⟩
  f12 := ⟨Try.f223.name, by decide, Try.func223.trans (congrArg some (by kernel_rfl))⟩
  f13 := ⟨Try.f224.name, by decide, Try.func224.trans (congrArg some (by kernel_rfl))⟩
  f14 := ⟨Try.f225.name, by decide, Try.func225.trans (congrArg some (by kernel_rfl))⟩
  f15 := ⟨Try.f226.name, by decide, Try.func226.trans (congrArg some (by kernel_rfl))⟩
  f16 := ⟨Try.f227.name, by decide, Try.func227.trans (congrArg some (by kernel_rfl))⟩
  f17 := ⟨Try.f228.name, by decide, Try.func228.trans (congrArg some (by kernel_rfl))⟩
  f18 := ⟨Try.f229.name, by decide, Try.func229.trans (congrArg some (by kernel_rfl))⟩
  f19 := Try.func218.trans (congrArg some (by kernel_rfl))
  f20 := Try.func219.trans (congrArg some (by kernel_rfl))
  f30 := ⟨Try.f236.name, by decide, Try.func236.trans (congrArg some (by kernel_rfl))⟩
  f31 := Try.func231.trans (congrArg some (by kernel_rfl))
  f32 := Try.func232.trans (congrArg some (by kernel_rfl))
  f33 := ⟨Try.f237.name, by decide, Try.func237.trans (congrArg some (by kernel_rfl))⟩
  f34 := ⟨Try.f238.name, by decide, Try.func238.trans (congrArg some (by kernel_rfl))⟩
  f35 := ⟨Try.f235.name, by decide, Try.func235.trans (congrArg some (by kernel_rfl))⟩
  f40 := ⟨Try.f240.name, by decide, Try.func240.trans (congrArg some (by kernel_rfl))⟩
  t0 := Try.underlying0
  a0 := Try.isAgg0
  z0 := Try.sizeOf0
  v0 := Try.zeroValue0
  t3 := Try.underlying3
  a3 := Try.isAgg3
  z3 := Try.sizeOf3
  v3 := Try.zeroValue3
  t4 := Try.underlying4
  a4 := Try.isAgg4
  z4 := Try.sizeOf4
  v4 := Try.zeroValue4
  t5 := Try.underlying5
  a5 := Try.isAgg5
  z5 := Try.sizeOf5
  v5 := Try.zeroValue5
  t9 := Try.underlying9
  a9 := Try.isAgg9
  z9 := Try.sizeOf9
  v9 := Try.zeroValue9
  t22 := Try.underlying22
  a22 := Try.isAgg22
  z22 := Try.sizeOf22
  v22 := Try.zeroValue22
  t23 := Try.underlying22
  a23 := Try.isAgg22
  z23 := Try.sizeOf22
  v23 := Try.zeroValue22
  t25 := Try.underlying3
  a25 := Try.isAgg3
  z25 := Try.sizeOf3
  v25 := Try.zeroValue3
  t32 := Try.underlying115
  a32 := Try.isAgg115
  z32 := Try.sizeOf115
  v32 := Try.zeroValue115
  t35 := Try.underlying142
  a35 := Try.isAgg142
  z35 := Try.sizeOf142
  v35 := Try.zeroValue142
  t36 := Try.underlying143
  a36 := Try.isAgg143
  z36 := Try.sizeOf143
  v36 := Try.zeroValue143
  t41 := Try.underlying36
  a41 := Try.isAgg36
  z41 := Try.sizeOf36
  v41 := Try.zeroValue36
  t44 := Try.underlying134
  a44 := Try.isAgg134
  z44 := Try.sizeOf134
  v44 := Try.zeroValue134
  t46 := Try.underlying137
  a46 := Try.isAgg137
  z46 := Try.sizeOf137
  v46 := Try.zeroValue137
  t53 := Try.underlying154
  a53 := Try.isAgg154
  z53 := Try.sizeOf154
  v53 := Try.zeroValue154
  t57 := Try.underlying158
  a57 := Try.isAgg158
  z57 := Try.sizeOf158
  v57 := Try.zeroValue158
  t63 := Try.underlying162
  a63 := Try.isAgg162
  z63 := Try.sizeOf162
  v63 := Try.zeroValue162
  t64 := Try.underlying163
  a64 := Try.isAgg163
  z64 := Try.sizeOf163
  v64 := Try.zeroValue163 }
end Go.Proofs.Ythlamneaghbjbaa
/-
  The library's sort of a row of ints.
-/
namespace Go.Proofs.Ythlamneaghbjbaa
open Go.RowKit Go.Shelf Go.Sort

theorem sortI_any (A : Option Addr) (c : Nat) (xs : List Int) (w : World) (B : Nat) (ho : Own w B A c xs) (hl : xs.length ≤ 1000) :
    Calls Try.prog 184 #[.slice A xs.length c] w fun e w' => e = .returned (.tuple #[]) ∧ Own w' B A c (xs.mergeSort fun x y => decide (x ≤ y)) ∧ ∀ B0 w0, B0 ≤ B → Below B0 w0 w → Below B0 w0 w' := by
  rcases ho.2 with ⟨hv, h0⟩ | ⟨g, cap, cur, hv, hbg, hgg, hrest⟩
  · injection hv with h1 h2 h3
    subst h1; subst h3
    have e : xs = [] := List.eq_nil_of_length_eq_zero h0
    subst e
    have hcall := AnyM.slices_Sort_int_none sortILays none 0 w
    change Calls Try.prog 184 #[.slice none 0 0] w _ at hcall
    refine hcall.mono ?_
    rintro e w' ⟨rfl, rfl⟩
    exact ⟨rfl, by simpa using ho, fun _ _ _ h => h⟩
  · injection hv with h1 h2 h3
    subst h1; subst h3
    have hout : w.ownsRow B 3 1 (.slice (some ⟨g, 0, none⟩) xs.length c) xs.length (xs.map (Value.int .i64)) := ho
    obtain ⟨g', cap', hv', -, hgw, -, -, -, hH⟩ := Lib.holds_of_ownsRow hout (fun e => by injection e with h1; cases h1)
    injection hv' with h1 h2 h3
    injection h1 with h1
    injection h1 with h1
    subst h1; subst h3
    have hcall := AnyM.slices_Sort_int sortILays g 0 c xs w hH hgw (by omega)
    refine hcall.mono ?_
    rintro e w' ⟨rfl, n, os, rfl⟩
    have hml : (xs.mergeSort fun x y => decide (x ≤ y)).length = xs.length := List.length_mergeSort _
    refine ⟨rfl, ?_, ?_⟩
    · have h2 := Lib.ownsRow_putRow (q := n) (k := xs.length) hout hml (Nat.le_refl _)
      rw [List.take_of_length_le (by omega)] at h2
      have h3 := ownsRow_keep (w' := grow (putRow (Value.int .i64) (Sort.ahead w n) g 0 (xs.mergeSort fun x y => decide (x ≤ y)).toArray) os) h2 fun b _ hb => heap_grow_old _ _ hb
      unfold Own
      rw [hml]
      exact h3
    · intro B0 w0 hB0 hbel
      have h3 := Lib.below_putRow (enc := Value.int .i64) (q := n) (d := (xs.mergeSort fun x y => decide (x ≤ y)).toArray) hbel (Nat.le_trans hB0 hbg)
      refine ⟨h3.os, h3.tape, h3.output, ?_, fun k hk => ?_⟩
      · rw [size_grow]; have := h3.size; omega
      · by_cases hks : k < (putRow (Value.int .i64) (Sort.ahead w n) g 0 (xs.mergeSort fun x y => decide (x ≤ y)).toArray).heap.size
        · rw [heap_grow_old _ _ hks]; exact h3.block k hk
        · rw [size_putRow] at hks
          exact absurd (show k < w.heap.size by have := hbel.size; omega) hks
end Go.Proofs.Ythlamneaghbjbaa
