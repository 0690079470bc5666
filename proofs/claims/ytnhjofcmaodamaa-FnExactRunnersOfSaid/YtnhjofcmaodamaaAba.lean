/-
  Contracts: the laws' own helpers on an abacus, and what tells whether it is one (both sides).
-/
import Derived.Test.YtnhjofcmaodamaaBeadsF
import Derived.Test.YtnhjofcmaodamaaBase2
import Derived.Laws.Rows
namespace Go.Proofs.Ytnhjofcmaodamaa
open Go.RowKit

def abaV (r : Int) (A : Option Addr) (n c : Nat) : Value := .agg #[.int .i64 r, .slice A n c]

theorem szIntS_any (A : Option Addr) (n c : Nat) (w : World) (hn : n ≤ 9223372036854775807) :
    Calls Try.prog 80 #[.slice A n c, .int .i64 1048576] w fun e w' => e = .returned (.int .i64 (if n ≤ 1048576 then (1048576 : Int) - n else -1)) ∧ w = w' := by
  by_cases h : n ≤ 1048576
  · rw [if_pos h]
    go_enter Try.func80, Try.ntmps80
    go_wp2
    go_ret
    exact ⟨rfl, rfl⟩
  · rw [if_neg h]
    go_enter Try.func80, Try.ntmps80
    go_wp2
    go_ret
    exact ⟨rfl, rfl⟩

set_option maxHeartbeats 400000 in
theorem szAbacus_any (r : Int) (A : Option Addr) (n c : Nat) (w : World) (hn : n ≤ 9223372036854775807) :
    Calls Try.prog 24 #[.agg #[.int .i64 r, .slice A n c], .int .i64 1048576] w fun e w' => e = .returned (.int .i64 (if n ≤ 1048576 then (1048576 : Int) - n else -1)) ∧ Below w.heap.size w w' := by
  have hb : Below w.heap.size w (w.alloc (.cells #[.int .i64 r, .slice A n c] 24)) := (Below.refl _ _).alloc (Nat.le_refl _) _
  by_cases h : n ≤ 1048576
  · rw [if_pos h]
    go_enter Try.func24, Try.ntmps24
    go_wp2_with (go_at_call 80; refine (szIntS_any A n c _ hn).mono ?_; rw [if_pos h]; rintro e w' ⟨rfl, rfl⟩)
    go_ret
    exact ⟨rfl, hb⟩
  · rw [if_neg h]
    go_enter Try.func24, Try.ntmps24
    go_wp2_with (go_at_call 80; refine (szIntS_any A n c _ hn).mono ?_; rw [if_neg h]; rintro e w' ⟨rfl, rfl⟩)
    go_ret
    exact ⟨rfl, hb⟩

set_option maxHeartbeats 400000 in
theorem hasRunners_any (r : Int) (w : World) : Calls Try.prog 119 #[.int .i64 r] w fun e w' => e = .returned (.bool (inB 2 6 r)) ∧ w = w' := by
  by_cases h1 : 2 ≤ r
  · by_cases h2 : r ≤ 6
    · go_enter Try.func119, Try.ntmps119
      go_wp2
      go_ret
      exact ⟨by simp [inB, h1, h2], rfl⟩
    · go_enter Try.func119, Try.ntmps119
      go_wp2
      go_ret
      exact ⟨by simp [inB]; omega, rfl⟩
  · go_enter Try.func119, Try.ntmps119
    go_wp2
    go_ret
    exact ⟨by simp [inB]; omega, rfl⟩
theorem hasRunners_b (r : Int) (w : World) (b : Bool) (h : inB 2 6 r = b) : Calls Try.prog 119 #[.int .i64 r] w fun e w' => e = .returned (.bool b) ∧ w = w' := by
  subst h; exact hasRunners_any r w
theorem abRunners_any (r : Int) (w : World) : Calls Try.prog 116 #[.int .i64 r] w fun e w' => e = .returned (.bool (inB 2 6 r)) ∧ w = w' := by
  go_enter Try.func116, Try.ntmps116
  go_wp2_with (go_at_call 82; refine (l1In_any _ _ _ _).mono ?_; rintro e w' ⟨rfl, rfl⟩)
  go_ret
  exact ⟨rfl, rfl⟩
theorem abRunners_b (r : Int) (w : World) (b : Bool) (h : inB 2 6 r = b) : Calls Try.prog 116 #[.int .i64 r] w fun e w' => e = .returned (.bool b) ∧ w = w' := by
  subst h; exact abRunners_any r w

def isAba (r : Int) (xs : List Int) : Bool := inB 2 6 r && goodB xs

set_option maxHeartbeats 400000 in
theorem IsAbacus_any (r : Int) (A : Option Addr) (c : Nat) (xs : List Int) (w : World) (hl : xs.length ≤ 1048576) (hc : Cells w A xs) :
    Calls Try.prog 86 #[.agg #[.int .i64 r, .slice A xs.length c]] w fun e w' => e = .returned (.bool (isAba r xs)) ∧ Below w.heap.size w w' := by
  have hb : Below w.heap.size w (w.alloc (.cells #[.int .i64 r, .slice A xs.length c] 26)) := (Below.refl _ _).alloc (Nat.le_refl _) _
  cases hi : inB 2 6 r
  · have HI := hid hi
    go_enter Try.func86, Try.ntmps86
    go_wp2_with (go_at_call 119; refine (hasRunners_b _ _ _ HI.out).mono ?_; rintro e w' ⟨rfl, rfl⟩)
    go_ret
    exact ⟨ret_bool (by simp [isAba, hi]), hb⟩
  · have HI := hid hi
    go_enter Try.func86, Try.ntmps86
    go_wp2_with (first | (go_at_call 119; refine (hasRunners_b _ _ _ HI.out).mono ?_; rintro e w' ⟨rfl, rfl⟩) | (go_at_call 158; refine (AreBeads_any _ _ _ _ hl (hc.below hb)).mono ?_; rintro e w' ⟨rfl, b1⟩))
    go_ret
    exact ⟨ret_bool (by simp [isAba, hi]), Below.next hb b1⟩
theorem IsAbacus_b (r : Int) (A : Option Addr) (c : Nat) (xs : List Int) (w : World) (hl : xs.length ≤ 1048576) (hc : Cells w A xs) (b : Bool) (h : isAba r xs = b) :
    Calls Try.prog 86 #[.agg #[.int .i64 r, .slice A xs.length c]] w fun e w' => e = .returned (.bool b) ∧ Below w.heap.size w w' := by
  subst h; exact IsAbacus_any r A c xs w hl hc

set_option maxHeartbeats 400000 in
theorem abIs_any (r : Int) (A : Option Addr) (c : Nat) (xs : List Int) (w : World) (hl : xs.length ≤ 1048576) (hc : Cells w A xs) :
    Calls Try.prog 81 #[.agg #[.int .i64 r, .slice A xs.length c]] w fun e w' => e = .returned (.bool (isAba r xs)) ∧ Below w.heap.size w w' := by
  have hb : Below w.heap.size w (w.alloc (.cells #[.int .i64 r, .slice A xs.length c] 26)) := (Below.refl _ _).alloc (Nat.le_refl _) _
  cases hi : inB 2 6 r
  · have HI := hid hi
    go_enter Try.func81, Try.ntmps81
    go_wp2_with (go_at_call 116; refine (abRunners_b _ _ _ HI.out).mono ?_; rintro e w' ⟨rfl, rfl⟩)
    go_ret
    exact ⟨ret_bool (by simp [isAba, hi]), hb⟩
  · have HI := hid hi
    go_enter Try.func81, Try.ntmps81
    go_wp2_with (first | (go_at_call 116; refine (abRunners_b _ _ _ HI.out).mono ?_; rintro e w' ⟨rfl, rfl⟩) | (go_at_call 156; refine (abGood_any _ _ _ _ hl (hc.below hb)).mono ?_; rintro e w' ⟨rfl, b1⟩))
    go_ret
    exact ⟨ret_bool (by simp [isAba, hi]), Below.next hb b1⟩
theorem abIs_b (r : Int) (A : Option Addr) (c : Nat) (xs : List Int) (w : World) (hl : xs.length ≤ 1048576) (hc : Cells w A xs) (b : Bool) (h : isAba r xs = b) :
    Calls Try.prog 81 #[.agg #[.int .i64 r, .slice A xs.length c]] w fun e w' => e = .returned (.bool b) ∧ Below w.heap.size w w' := by
  subst h; exact abIs_any r A c xs w hl hc

end Go.Proofs.Ytnhjofcmaodamaa
