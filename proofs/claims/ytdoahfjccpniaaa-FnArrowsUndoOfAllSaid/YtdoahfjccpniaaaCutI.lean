/-
  Slices of ints cut at a place.
-/
import Derived.Test.YtdoahfjccpniaaaCB
namespace Go.Proofs.Ytdoahfjccpniaaa
open Go.RowKit

def cutI (A : Option Addr) (c k : Nat) : Option Addr := if c = k then A else A.map (·.add (k * 1))
theorem cutI_zero (A : Option Addr) : A.map (·.add (0 * 1)) = A := by cases A <;> rfl
theorem sizeIntI (w : World) : (sizeOf (Try.prog.elem 22)).run Try.prog w = .ok 1 w := by
  obtain ⟨i1, hj, hy0, hy1, hy2⟩ := info_parts Try.infoInt
  have e : Try.prog.elem 22 = 3 := by kernel_rfl
  rw [e]
  simp [sizeOf, typeInfo, hj, hy1]
theorem undIntI : Try.prog.underlying 22 = some (.slice (Try.prog.elem 22)) := by kernel_rfl
theorem runI_cut_hi (A : Option Addr) (len c k : Nat) (hk : k ≤ c) (w : World) :
    (Instr.slice 22 (.slice A len c) none (some (.int .i64 k)) none).run Try.prog w = .ok (.slice A k c) w := by
  rw [run_slice_h (ht := undIntI) (kh := .i64) (h := (k : Int)) (h0 := by omega) (h2 := by omega), sizeIntI]
  simp only [Result.andThen, sliced, Int.toNat_natCast, Nat.sub_zero]
  congr 2
  split
  · rfl
  · exact cutI_zero A
theorem runI_cut_lo (A : Option Addr) (len c k : Nat) (hk : k ≤ len) (w : World) :
    (Instr.slice 22 (.slice A len c) (some (.int .i64 k)) none none).run Try.prog w = .ok (.slice (cutI A c k) (len - k) (c - k)) w := by
  rw [run_slice_l (ht := undIntI) (kl := .i64) (l := (k : Int)) (h0 := by omega) (h1 := by omega), sizeIntI]
  simp only [Result.andThen, sliced, Int.toNat_natCast]
  rfl
theorem runI_cut_lo1 (A : Option Addr) (len c k : Nat) (hk : k + 1 ≤ len) (w : World) :
    (Instr.slice 22 (.slice A len c) (some (.int .i64 ((k : Int) + 1))) none none).run Try.prog w = .ok (.slice (cutI A c (k + 1)) (len - (k + 1)) (c - (k + 1))) w := by
  have h := runI_cut_lo A len c (k + 1) hk w
  rwa [Int.natCast_add] at h
theorem Own.cap {w : World} {B : Nat} {A : Option Addr} {c : Nat} {xs : List Int} (h : Own w B A c xs) : xs.length ≤ c := by
  rcases h.2 with ⟨_, h0⟩ | ⟨g, cap, cur, hv, _, _, hcap, _⟩
  · omega
  · injection hv with h1 _ h3
    omega
theorem Cells.cut {w : World} {A : Option Addr} {xs : List Int} (h : Cells w A xs) (c k : Nat) (hc : xs.length ≤ c) : Cells w (cutI A c k) (xs.drop k) := by
  intro h0
  rw [List.length_drop] at h0
  obtain ⟨b, o, e, hh⟩ := h (by omega)
  refine ⟨b, o + k, ?_, fun j hj => ?_⟩
  · unfold cutI; rw [if_neg (by omega), e, Nat.mul_one, Option.map_some]; congr 1; unfold Addr.add; split <;> simp_all
  · rw [List.length_drop] at hj
    rw [Nat.add_assoc, hh (k + j) (by omega), List.getD_eq_getElem?_getD, List.getD_eq_getElem?_getD, List.getElem?_drop]
theorem Cells.cutHi {w : World} {A : Option Addr} {xs : List Int} (h : Cells w A xs) (k : Nat) : Cells w A (xs.take k) := by
  intro h0
  rw [List.length_take] at h0
  obtain ⟨b, o, e, hh⟩ := h (by omega)
  refine ⟨b, o, e, fun j hj => ?_⟩
  rw [List.length_take] at hj
  rw [hh j (by omega), List.getD_eq_getElem?_getD, List.getD_eq_getElem?_getD, List.getElem?_take, if_pos (by omega)]
end Go.Proofs.Ytdoahfjccpniaaa
