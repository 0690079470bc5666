/-
  Contracts: AreBeads, BeadsOf, FromBeads, LeastBeads, ShiftBeads of the program and of the model.
-/
import Derived.Test.YtnhjofcmaodamaaAre
namespace Go.Proofs.Ytnhjofcmaodamaa
open Go.RowKit

/-! AreBeads -/
theorem impl_AreBeads (A : Option Addr) (xs : List Int) (c : Nat) (w : World) (hl : xs.length ≤ 1048576) (hc : Cells w A xs) :
    Calls Try.prog 158 #[.slice A xs.length c] w fun e w' => e = .returned (.bool (goodB xs)) ∧ Below w.heap.size w w' := AreBeads_any A xs c w hl hc

/-! BeadsOf -/
theorem bound_BeadsOf (xs : List Int) (n : Int) : (beadsF xs n).length ≤ 1048576 := by
  unfold beadsF; split
  · rename_i h; rw [beadsL_len]; omega
  · simp
theorem parts_bd {xs : List Int} (G : Good xs) : ∀ j, j < xs.length → 0 ≤ xs.getD j 0 ∧ xs.getD j 0 ≤ 1000 := fun j hj => by have := G.pos j hj; have := G.le j hj; omega

set_option maxHeartbeats 800000 in
theorem impl_BeadsOf (A : Option Addr) (c : Nat) (xs : List Int) (n : Int) (w : World) (hl : xs.length ≤ 1048576) (hc : Cells w A xs) (_ : I64 n) :
    Calls Try.prog 110 #[.slice A xs.length c, .int .i64 n] w fun e w' => ∃ A' c', e = .returned (.tuple #[.slice A' (beadsF xs n).length c', .bool (beadsOk xs n)]) ∧ Own w' w.heap.size A' c' (beadsF xs n) ∧ Below w.heap.size w w' := by
  cases hg : good xs
  · have e1 : beadsF xs n = [] := by simp [beadsF, hg]
    have e2 : beadsOk xs n = false := by simp [beadsOk, hg]
    rw [e1, e2]; clear e1 e2
    have HG := hid hg; clear hg
    go_enter Try.func110, Try.ntmps110
    go_wp2_with (go_at_call 169; refine (IsPartition_b _ _ _ _ hl hc _ HG.out).mono ?_; rintro e w' ⟨rfl, rfl⟩)
    go_ret2
    exact ⟨none, 0, rfl, own_nil _ _, Below.refl _ _⟩
  · have G := (good_iff xs).1 hg
    cases hin : inB xs.length 40 n
    · have e1 : beadsF xs n = [] := by
        unfold beadsF; rw [if_neg]; rintro ⟨_, h⟩; rw [inB_iff.2 h] at hin; cases hin
      have e2 : beadsOk xs n = false := by simp [beadsOk, hin]
      rw [e1, e2]; clear e1 e2
      have HG := hid hg; clear hg
      have hno : ¬ ((xs.length : Int) ≤ n ∧ n ≤ 40) := fun h => by rw [inB_iff.2 h] at hin; cases hin
      clear hin
      by_cases h1 : n < 0
      · go_enter Try.func110, Try.ntmps110
        go_wp2_with (go_at_call 169; refine (IsPartition_b _ _ _ _ hl hc _ HG.out).mono ?_; rintro e w' ⟨rfl, rfl⟩)
        go_ret2
        exact ⟨none, 0, rfl, own_nil _ _, Below.refl _ _⟩
      by_cases h2 : 40 < n
      · go_enter Try.func110, Try.ntmps110
        go_wp2_with (go_at_call 169; refine (IsPartition_b _ _ _ _ hl hc _ HG.out).mono ?_; rintro e w' ⟨rfl, rfl⟩)
        go_ret2
        exact ⟨none, 0, rfl, own_nil _ _, Below.refl _ _⟩
      have h3 : n < (xs.length : Int) := by omega
      go_enter Try.func110, Try.ntmps110
      go_wp2_with (go_at_call 169; refine (IsPartition_b _ _ _ _ hl hc _ HG.out).mono ?_; rintro e w' ⟨rfl, rfl⟩)
      go_ret2
      exact ⟨none, 0, rfl, own_nil _ _, Below.refl _ _⟩
    · have hin2 := inB_iff.1 hin
      have e1 : beadsF xs n = beadsL xs n.toNat := by unfold beadsF; rw [if_pos ⟨hg, hin2⟩]
      have e2 : beadsOk xs n = true := by simp [beadsOk, hg, hin]
      rw [e1, e2, beadsL_len]; clear e1 e2
      obtain ⟨m, rfl⟩ : ∃ m : Nat, n = m := ⟨n.toNat, by omega⟩
      rw [Int.toNat_natCast]
      have HB := hid (parts_bd G)
      have HG := hid hg; clear hg
      have h1 : (xs.length : Int) ≤ m := hin2.1
      have h2 : (m : Int) ≤ 40 := hin2.2
      clear hin
      go_enter Try.func110, Try.ntmps110
      go_wp2_with (first | (go_at_call 169; refine (IsPartition_b _ _ _ _ hl hc _ HG.out).mono ?_; rintro e w' ⟨rfl, rfl⟩) | (go_at_call 170; refine (beadsFor_any _ _ _ m _ (by omega) (by omega) HB.out (by exact hc)).mono ?_; rintro e w2 ⟨A2, c2, rfl, o2, b2⟩))
      go_ret2
      exact ⟨A2, c2, rfl, o2, b2⟩

/-! FromBeads -/
theorem bound_FromBeads (xs : List Int) : (fromBeadsF xs).length ≤ 1048576 := by
  unfold fromBeadsF; split
  · rename_i h; have := (goodB_iff.1 h).len; have := partsL_len xs; omega
  · simp
set_option maxHeartbeats 800000 in
theorem impl_FromBeads (A : Option Addr) (c : Nat) (xs : List Int) (w : World) (hl : xs.length ≤ 1048576) (hc : Cells w A xs) :
    Calls Try.prog 149 #[.slice A xs.length c] w fun e w' => ∃ A' c', e = .returned (.tuple #[.slice A' (fromBeadsF xs).length c', .bool (goodB xs)]) ∧ Own w' w.heap.size A' c' (fromBeadsF xs) ∧ Below w.heap.size w w' := by
  cases hg : goodB xs
  · rw [show fromBeadsF xs = [] by simp [fromBeadsF, hg]]
    have HG := hid hg; clear hg
    go_enter Try.func149, Try.ntmps149
    go_wp2_with (go_at_call 158; refine (AreBeads_b _ _ _ _ hl hc _ HG.out).mono ?_; rintro e w' ⟨rfl, b1⟩)
    go_ret2
    exact ⟨none, 0, rfl, own_nil _ _, b1⟩
  · rw [show fromBeadsF xs = partsL xs by simp [fromBeadsF, hg]]
    have G := goodB_iff.1 hg
    have hlen := G.len
    have HB := hid G.rise.bd
    have HG := hid hg; clear hg
    go_enter Try.func149, Try.ntmps149
    go_wp2_with (first | (go_at_call 158; refine (AreBeads_b _ _ _ _ hl hc _ HG.out).mono ?_; rintro e w1 ⟨rfl, b1⟩) | (go_at_call 103; refine (partsOf_any _ _ _ _ (by omega) HB.out (hc.below b1)).mono ?_; rintro e w2 ⟨A2, c2, rfl, o2, b2⟩))
    go_ret2
    exact ⟨A2, c2, rfl, o2.more b1.size, Below.next b1 b2⟩

/-! LeastBeads -/
theorem bound_LeastBeads (xs : List Int) : (leastF xs).length ≤ 1048576 := by
  unfold leastF; split
  · rename_i h; have := (goodB_iff.1 h).len; have := partsL_len xs; rw [beadsL_len]; omega
  · simp
end Go.Proofs.Ytnhjofcmaodamaa
