/-
  Contracts: what tells whether a list is levels (both sides), the size of their core, turned levels.
-/
import Derived.Test.YtnpkfndopicdiaaCA
import Derived.Test.YtnpkfndopicdiaaCB
namespace Go.Proofs.Ytnpkfndopicdiaa
open Go.RowKit

set_option maxHeartbeats 400000 in
theorem chRunners_any (r : Int) (w : World) : Calls Try.prog 117 #[.int .i64 r] w fun e w' => e = .returned (.bool (inB 2 6 r)) ∧ w = w' := by
  go_enter Try.func117, Try.ntmps117
  go_wp2_with (go_at_call 106; refine (l1In_any _ _ _ _).mono ?_; rintro e w' ⟨rfl, rfl⟩)
  go_ret
  exact ⟨rfl, rfl⟩
theorem chRunners_b (r : Int) (w : World) (b : Bool) (h : inB 2 6 r = b) : Calls Try.prog 117 #[.int .i64 r] w fun e w' => e = .returned (.bool b) ∧ w = w' := by
  subst h; exact chRunners_any r w

set_option maxHeartbeats 400000 in
theorem IsLevels_any (A : Option Addr) (c : Nat) (xs : List Int) (w : World) (hl : xs.length ≤ 1048576) (hc : Cells w A xs) :
    Calls Try.prog 228 #[.slice A xs.length c] w fun e w' => e = .returned (.bool (levB xs)) ∧ w = w' := by
  cases hr : inB 2 6 (xs.length : Int)
  · rw [lev_no_len hr]
    have HR := hid hr; clear hr
    go_enter Try.func228, Try.ntmps228
    go_wp2_with (go_at_call 119; refine (hasRunners_b _ _ _ HR.out).mono ?_; rintro e w' ⟨rfl, rfl⟩)
    go_ret
    exact ⟨rfl, rfl⟩
  have h6 := (inB_iff.1 hr).2
  have HR := hid hr; clear hr
  go_enter Try.func228, Try.ntmps228
  go_wp2_with (go_at_call 119; refine (hasRunners_b _ _ _ HR.out).mono ?_; rintro e w' ⟨rfl, rfl⟩)
  go_loop [3, 12] (fun s i => ∃ k : Nat, k ≤ xs.length ∧ i = .int .i64 k ∧ s = .int .i64 (xs.take k).sum ∧ (xs.take k).all (inB (-10) 10) = true) (fun _ i => xs.length - (intOf i).toNat)
  case atStart => exact ⟨0, Nat.zero_le _, rfl, by simp, by simp⟩
  case round =>
    obtain ⟨k, hk, rfl, rfl, hall⟩ := hrel
    have HA := hid hall
    have hsb := sum_take_abs (xs.take k) 10 (fun j hj => by have := all_bd hall j hj; omega) (by omega) k
    rw [List.take_take, Nat.min_self, List.length_take, Nat.min_eq_left hk] at hsb
    obtain ⟨s, hs⟩ : ∃ s, s = (xs.take k).sum := ⟨_, rfl⟩
    rw [← hs] at hsb ⊢
    have HS := hid hs
    clear hall hs
    by_cases hlt : k < xs.length
    · obtain ⟨b, o, rfl, hcc⟩ := hc (by omega)
      have hck := hcc k hlt
      clear hcc hc
      obtain ⟨x, hx⟩ : ∃ x, x = xs.getD k 0 := ⟨_, rfl⟩
      rw [← hx] at hck
      have HX := hid hx; clear hx
      by_cases h1 : x < -10
      · go_wp2_with fail
        go_ret
        exact ⟨ret_bool (lev_no_all (all_take_false _ xs k hlt (by rw [← HX.out]; simp [inB]; omega))).symm, rfl⟩
      by_cases h2 : 10 < x
      · go_wp2_with fail
        go_ret
        exact ⟨ret_bool (lev_no_all (all_take_false _ xs k hlt (by rw [← HX.out]; simp [inB]; omega))).symm, rfl⟩
      have HI := hid (show inB (-10) 10 x = true from inB_iff.2 ⟨by omega, by omega⟩)
      go_wp2_with fail
      go_round
      case rel => exact ⟨k + 1, by omega, by go_num, by rw [sum_take_succ xs k hlt, ← HS.out, ← HX.out], by rw [all_take_succ _ _ _ hlt, HA.out, ← HX.out, HI.out]; rfl⟩
      case measure => simp [intOf]; omega
    · have hkl : k = xs.length := by omega
      subst hkl
      rw [List.take_of_length_le (Nat.le_refl _)] at HA HS
      go_wp2_with fail
      go_ret
      exact ⟨ret_bool (by rw [lev_sum HR.out HA.out, ← HS.out]; first | rfl | (simp; done)), rfl⟩
theorem IsLevels_b (A : Option Addr) (c : Nat) (xs : List Int) (w : World) (hl : xs.length ≤ 1048576) (hc : Cells w A xs) (b : Bool) (h : levB xs = b) :
    Calls Try.prog 228 #[.slice A xs.length c] w fun e w' => e = .returned (.bool b) ∧ w = w' := by
  subst h; exact IsLevels_any A c xs w hl hc

set_option maxHeartbeats 400000 in
theorem ptSum_abs (A : Option Addr) (xs : List Int) (c : Nat) (w : World) (hl : xs.length ≤ 100) (hb : ∀ j, j < xs.length → -1000 ≤ xs.getD j 0 ∧ xs.getD j 0 ≤ 1000) (hc : Cells w A xs) :
    Calls Try.prog 101 #[.slice A xs.length c] w fun e w' => e = .returned (.int .i64 xs.sum) ∧ w = w' := by
  have HB := hid hb; clear hb
  go_enter Try.func101, Try.ntmps101
  go_wp2
  go_loop [3, 8] (fun s i => ∃ k : Nat, k ≤ xs.length ∧ i = .int .i64 k ∧ s = .int .i64 (xs.take k).sum) (fun _ i => xs.length - (intOf i).toNat)
  case atStart => exact ⟨0, Nat.zero_le _, rfl, by simp⟩
  case round =>
    obtain ⟨k, hk, rfl, rfl⟩ := hrel
    have hsb := sum_take_abs xs 1000 HB.out (by omega) k
    obtain ⟨s, hs⟩ : ∃ s, s = (xs.take k).sum := ⟨_, rfl⟩
    rw [← hs] at hsb ⊢
    have HS := hid hs; clear hs
    by_cases hlt : k < xs.length
    · obtain ⟨b, o, rfl, hcc⟩ := hc (by omega)
      have hck := hcc k hlt
      have hxb := HB.out k hlt
      clear hcc hc
      obtain ⟨x, hx⟩ : ∃ x, x = xs.getD k 0 := ⟨_, rfl⟩
      rw [← hx] at hck hxb
      have HX := hid hx; clear hx
      go_wp2
      go_round
      case rel => exact ⟨k + 1, by omega, by go_num, by rw [sum_take_succ xs k hlt, ← HS.out, ← HX.out]⟩
      case measure => simp [intOf]; omega
    · go_wp2
      go_ret
      exact ⟨ret_int (by rw [HS.out, List.take_of_length_le (by omega)]), rfl⟩

set_option maxHeartbeats 400000 in
theorem chGood_any (A : Option Addr) (c : Nat) (xs : List Int) (w : World) (hl : xs.length ≤ 1048576) (hc : Cells w A xs) :
    Calls Try.prog 177 #[.slice A xs.length c] w fun e w' => e = .returned (.bool (levB xs)) ∧ w = w' := by
  cases hr : inB 2 6 (xs.length : Int)
  · rw [lev_no_len hr]
    have HR := hid hr; clear hr
    go_enter Try.func177, Try.ntmps177
    go_wp2_with (go_at_call 117; refine (chRunners_b _ _ _ HR.out).mono ?_; rintro e w' ⟨rfl, rfl⟩)
    go_ret
    exact ⟨rfl, rfl⟩
  have h6 := (inB_iff.1 hr).2
  cases ha : xs.all (inB (-10) 10)
  · rw [lev_no_all ha]
    have HR := hid hr; clear hr
    have HA := hid ha; clear ha
    go_enter Try.func177, Try.ntmps177
    go_wp2_with (first | (go_at_call 117; refine (chRunners_b _ _ _ HR.out).mono ?_; rintro e w' ⟨rfl, rfl⟩) | (go_at_call 118; refine (l1All_b _ _ _ _ _ _ hl hc _ HA.out).mono ?_; rintro e w' ⟨rfl, rfl⟩))
    go_ret
    exact ⟨rfl, rfl⟩
  rw [lev_sum hr ha]
  have HR := hid hr; clear hr
  have HA := hid ha; clear ha
  go_enter Try.func177, Try.ntmps177
  go_wp2_with (first | (go_at_call 117; refine (chRunners_b _ _ _ HR.out).mono ?_; rintro e w' ⟨rfl, rfl⟩) | (go_at_call 118; refine (l1All_b _ _ _ _ _ _ hl hc _ HA.out).mono ?_; rintro e w' ⟨rfl, rfl⟩) | (go_at_call 101; refine (ptSum_abs _ _ _ _ (by omega) (fun j hj => by have := all_bd HA.out j hj; omega) hc).mono ?_; rintro e w' ⟨rfl, rfl⟩))
  go_ret
  exact ⟨ret_bool (by first | rfl | (simp; done)), rfl⟩
theorem chGood_b (A : Option Addr) (c : Nat) (xs : List Int) (w : World) (hl : xs.length ≤ 1048576) (hc : Cells w A xs) (b : Bool) (h : levB xs = b) :
    Calls Try.prog 177 #[.slice A xs.length c] w fun e w' => e = .returned (.bool b) ∧ w = w' := by
  subst h; exact chGood_any A c xs w hl hc

theorem impl_IsLevels (A : Option Addr) (c : Nat) (xs : List Int) (w : World) (hl : xs.length ≤ 1048576) (hc : Cells w A xs) :
    Calls Try.prog 228 #[.slice A xs.length c] w fun e w' => e = .returned (.bool (levB xs)) ∧ Below w.heap.size w w' :=
  (IsLevels_any A c xs w hl hc).mono fun _ _ ⟨he, hw⟩ => ⟨he, by rw [hw]; exact Below.refl _ _⟩
end Go.Proofs.Ytnpkfndopicdiaa
