/-
  Several texts in one.
-/
import Derived.Test.YtelfapheigobeaaCB
import Derived.Test.YtelfapheigobeaaR26
import Derived.Test.YtelfapheigobeaaR04
import Derived.Test.YtelfapheigobeaaCC
import Derived.Test.YtelfapheigobeaaCH
import Derived.Test.YtelfapheigobeaaR20
import Derived.Test.YtelfapheigobeaaR12
/-
  Slices of ints cut at a place.
-/
namespace Go.Proofs.Ytelfapheigobeaa
open Go.RowKit

def cutI (A : Option Addr) (c k : Nat) : Option Addr := if c = k then A else A.map (·.add (k * 1))
theorem cutI_zero (A : Option Addr) : A.map (·.add (0 * 1)) = A := by cases A <;> rfl
theorem sizeIntI (w : World) : (sizeOf (Try.prog.elem 22)).run Try.prog w = .ok 1 w := by
  obtain ⟨i1, hj, hy0, hy1, hy2⟩ := info_parts Try.infoInt
  have e : Try.prog.elem 22 = 3 := by kernel_rfl
  rw [e]
  simp [sizeOf, typeInfo, hj, hy1]
theorem undIntI : Try.prog.underlying 22 = some (.slice (Try.prog.elem 22)) := by kernel_rfl
theorem runI_cut_hi (A : Option Addr) (len c k : Nat) (hk : k ≤ c) (w : World) :
    (Instr.slice 22 (.slice A len c) none (some (.int .i64 k)) none).run Try.prog w = .ok (.slice A k c) w := by
  rw [run_slice_h (ht := undIntI) (kh := .i64) (h := (k : Int)) (h0 := by omega) (h2 := by omega), sizeIntI]
  simp only [Result.andThen, sliced, Int.toNat_natCast, Nat.sub_zero]
  congr 2
  split
  · rfl
  · exact cutI_zero A
theorem runI_cut_lo (A : Option Addr) (len c k : Nat) (hk : k ≤ len) (w : World) :
    (Instr.slice 22 (.slice A len c) (some (.int .i64 k)) none none).run Try.prog w = .ok (.slice (cutI A c k) (len - k) (c - k)) w := by
  rw [run_slice_l (ht := undIntI) (kl := .i64) (l := (k : Int)) (h0 := by omega) (h1 := by omega), sizeIntI]
  simp only [Result.andThen, sliced, Int.toNat_natCast]
  rfl
theorem runI_cut_lo1 (A : Option Addr) (len c k : Nat) (hk : k + 1 ≤ len) (w : World) :
    (Instr.slice 22 (.slice A len c) (some (.int .i64 ((k : Int) + 1))) none none).run Try.prog w = .ok (.slice (cutI A c (k + 1)) (len - (k + 1)) (c - (k + 1))) w := by
  have h := runI_cut_lo A len c (k + 1) hk w
  rwa [Int.natCast_add] at h
theorem Own.cap {w : World} {B : Nat} {A : Option Addr} {c : Nat} {xs : List Int} (h : Own w B A c xs) : xs.length ≤ c := by
  rcases h.2 with ⟨_, h0⟩ | ⟨g, cap, cur, hv, _, _, hcap, _⟩
  · omega
  · injection hv with h1 _ h3
    omega
theorem Cells.cut {w : World} {A : Option Addr} {xs : List Int} (h : Cells w A xs) (c k : Nat) (hc : xs.length ≤ c) : Cells w (cutI A c k) (xs.drop k) := by
  intro h0
  rw [List.length_drop] at h0
  obtain ⟨b, o, e, hh⟩ := h (by omega)
  refine ⟨b, o + k, ?_, fun j hj => ?_⟩
  · unfold cutI; rw [if_neg (by omega), e, Nat.mul_one, Option.map_some]; congr 1; unfold Addr.add; split <;> simp_all
  · rw [List.length_drop] at hj
    rw [Nat.add_assoc, hh (k + j) (by omega), List.getD_eq_getElem?_getD, List.getD_eq_getElem?_getD, List.getElem?_drop]
theorem Cells.cutHi {w : World} {A : Option Addr} {xs : List Int} (h : Cells w A xs) (k : Nat) : Cells w A (xs.take k) := by
  intro h0
  rw [List.length_take] at h0
  obtain ⟨b, o, e, hh⟩ := h (by omega)
  refine ⟨b, o, e, fun j hj => ?_⟩
  rw [List.length_take] at hj
  rw [hh j (by omega), List.getD_eq_getElem?_getD, List.getD_eq_getElem?_getD, List.getElem?_take, if_pos (by omega)]
end Go.Proofs.Ytelfapheigobeaa
/-
  Contracts: BarLengths on both sides.
-/
namespace Go.Proofs.Ytelfapheigobeaa
open Go.RowKit

theorem blHi_succ (x : Nat) (ys : List Int) (k : Nat) (h : k < ys.length) : blHi x (ys.take (k + 1)) = blHi x (ys.take k) ++ [(x : Int) + ys.getD k 0] := by
  unfold blHi
  rw [List.take_succ_eq_append_getElem h, List.map_append, List.getD_eq_getElem?_getD, List.getElem?_eq_getElem h]; rfl

theorem blF_bound (xs : List Int) : (blF xs).length ≤ 1048576 ∧ tot (blF xs) ≤ 1048576 := by
  cases hs : strB xs
  · rw [blF_f hs]; simp [tot]
  · rw [blF_t hs]
    have G := strB_good hs
    have h1 := G.len
    have h2 : ∀ r ∈ blR xs xs.length, r.length ≤ 100 := fun r hr => by
      obtain ⟨i, hi, rfl⟩ := List.mem_map.1 hr
      have hi := List.mem_range.1 hi
      have := G.le i hi
      have a := blLo_len (xs.getD i 0).toNat (xs.drop (i + 1)) (xs.getD i 0).toNat
      have b := blHi_len (xs.getD i 0).toNat (xs.drop (i + 1))
      rw [List.length_drop] at b
      unfold blL
      rw [List.length_append]; omega
    have tle : ∀ rows : List (List Int), (∀ r ∈ rows, r.length ≤ 100) → tot rows ≤ rows.length * 100 := by
      intro rows h
      induction rows with
      | nil => simp [tot]
      | cons r t ih =>
        have h1 := h r (List.mem_cons_self ..)
        have h2 := ih fun x hx => h x (List.mem_cons_of_mem _ hx)
        rw [tot, List.length_cons, Nat.add_mul]; omega
    have := tle _ h2
    rw [blR_len] at this ⊢
    omega
theorem bound_BarLengths (xs : List Int) : (blF xs).length ≤ 1048576 ∧ tot (blF xs) ≤ 1048576 := blF_bound xs
end Go.Proofs.Ytelfapheigobeaa
