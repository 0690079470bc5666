/-
  The contracts of what tells whether a list is a partition: the program's IsPartition and the model's, with the sums that they make.
-/
import Derived.Test.YtnhjofcmaodamaaBase
import Derived.Test.YtnhjofcmaodamaaGoodMath
namespace Go.Proofs.Ytnhjofcmaodamaa
open Go.RowKit

set_option maxHeartbeats 400000 in
theorem l1In_any (n lo hi : Int) (w : World) :
    Calls Try.prog 82 #[.int .i64 n, .int .i64 lo, .int .i64 hi] w fun e w' => e = .returned (.bool (inB lo hi n)) ∧ w = w' := by
  by_cases h1 : lo ≤ n
  · by_cases h2 : n ≤ hi
    · go_enter Try.func82, Try.ntmps82
      go_wp2
      go_ret
      exact ⟨by simp [inB, h1, h2], rfl⟩
    · go_enter Try.func82, Try.ntmps82
      go_wp2
      go_ret
      exact ⟨by simp [inB]; omega, rfl⟩
  · go_enter Try.func82, Try.ntmps82
    go_wp2
    go_ret
    exact ⟨by simp [inB]; omega, rfl⟩
theorem l1In_b (n lo hi : Int) (w : World) (b : Bool) (h : inB lo hi n = b) :
    Calls Try.prog 82 #[.int .i64 n, .int .i64 lo, .int .i64 hi] w fun e w' => e = .returned (.bool b) ∧ w = w' := by
  subst h; exact l1In_any n lo hi w

set_option maxHeartbeats 400000 in
theorem l1All_any (A : Option Addr) (xs : List Int) (c : Nat) (lo hi : Int) (w : World) (hl : xs.length ≤ 1048576) (hc : Cells w A xs) :
    Calls Try.prog 144 #[.slice A xs.length c, .int .i64 lo, .int .i64 hi] w fun e w' => e = .returned (.bool (xs.all (inB lo hi))) ∧ w = w' := by
  go_enter Try.func144, Try.ntmps144
  go_wp2
  go_loop [11] (fun i => ∃ k : Nat, k ≤ xs.length ∧ i = .int .i64 k ∧ (xs.take k).all (inB lo hi) = true) (fun i => xs.length - (intOf i).toNat)
  case atStart => exact ⟨0, Nat.zero_le _, rfl, by simp⟩
  case round =>
    obtain ⟨k, hk, rfl, hall⟩ := hrel
    have HA := hid hall; clear hall
    by_cases hlt : k < xs.length
    · obtain ⟨b, o, rfl, hcc⟩ := hc (by omega)
      have hck := hcc k hlt
      clear hcc hc
      obtain ⟨x, hx⟩ : ∃ x, x = xs.getD k 0 := ⟨_, rfl⟩
      rw [← hx] at hck
      have HS := hid (all_take_succ (inB lo hi) xs k hlt)
      have HX := hid hx; clear hx
      cases hin : inB lo hi x
      · have HI := hid hin; clear hin
        go_wp2_with (go_at_call 82; refine (l1In_b _ _ _ _ _ HI.out).mono ?_; rintro e w' ⟨rfl, rfl⟩)
        go_ret
        exact ⟨ret_bool (all_take_false (inB lo hi) xs k hlt (by rw [← HX.out]; exact HI.out)).symm, rfl⟩
      · have HI := hid hin; clear hin
        go_wp2_with (go_at_call 82; refine (l1In_b _ _ _ _ _ HI.out).mono ?_; rintro e w' ⟨rfl, rfl⟩)
        go_round
        case rel => exact ⟨k + 1, by omega, by go_num, by rw [HS.out, HA.out, ← HX.out, HI.out]; rfl⟩
        case measure => simp [intOf]; omega
    · go_wp2
      go_ret
      exact ⟨ret_bool (by rw [← HA.out, List.take_of_length_le (by omega)]), rfl⟩
theorem l1All_b (A : Option Addr) (xs : List Int) (c : Nat) (lo hi : Int) (w : World) (hl : xs.length ≤ 1048576) (hc : Cells w A xs) (b : Bool) (h : xs.all (inB lo hi) = b) :
    Calls Try.prog 144 #[.slice A xs.length c, .int .i64 lo, .int .i64 hi] w fun e w' => e = .returned (.bool b) ∧ w = w' := by
  subst h; exact l1All_any A xs c lo hi w hl hc

set_option maxHeartbeats 400000 in
theorem ptSum_any (A : Option Addr) (xs : List Int) (c : Nat) (w : World) (hl : xs.length ≤ 30) (hb : ∀ j, j < xs.length → 0 ≤ xs.getD j 0 ∧ xs.getD j 0 ≤ 1000) (hc : Cells w A xs) :
    Calls Try.prog 94 #[.slice A xs.length c] w fun e w' => e = .returned (.int .i64 xs.sum) ∧ w = w' := by
  have HB := hid hb; clear hb
  go_enter Try.func94, Try.ntmps94
  go_wp2
  go_loop [3, 8] (fun s i => ∃ k : Nat, k ≤ xs.length ∧ i = .int .i64 k ∧ s = .int .i64 (xs.take k).sum) (fun _ i => xs.length - (intOf i).toNat)
  case atStart => exact ⟨0, Nat.zero_le _, rfl, by simp⟩
  case round =>
    obtain ⟨k, hk, rfl, rfl⟩ := hrel
    have hsb := sum_take_bound xs 1000 HB.out (by omega) k
    obtain ⟨s, hs⟩ : ∃ s, s = (xs.take k).sum := ⟨_, rfl⟩
    rw [← hs] at hsb ⊢
    have HS := hid hs; clear hs
    by_cases hlt : k < xs.length
    · obtain ⟨b, o, rfl, hcc⟩ := hc (by omega)
      have hck := hcc k hlt
      have hxb := HB.out k hlt
      clear hcc hc
      obtain ⟨x, hx⟩ : ∃ x, x = xs.getD k 0 := ⟨_, rfl⟩
      rw [← hx] at hck hxb
      have HX := hid hx; clear hx
      go_wp2
      go_round
      case rel => exact ⟨k + 1, by omega, by go_num, by rw [sum_take_succ xs k hlt, ← HS.out, ← HX.out]⟩
      case measure => simp [intOf]; omega
    · go_wp2
      go_ret
      exact ⟨ret_int (by rw [HS.out, List.take_of_length_le (by omega)]), rfl⟩

set_option maxHeartbeats 400000 in
theorem ptGood_any (A : Option Addr) (xs : List Int) (c : Nat) (w : World) (hl : xs.length ≤ 1048576) (hc : Cells w A xs) :
    Calls Try.prog 105 #[.slice A xs.length c] w fun e w' => e = .returned (.bool (good xs)) ∧ ∃ n, w' = w.drewN n := by
  by_cases h30 : 30 < xs.length
  · rw [good_no_len h30]
    go_enter Try.func105, Try.ntmps105
    go_wp2_with fail
    go_ret
    exact ⟨rfl, 0, rfl⟩
  cases ha : xs.all (inB 1 30)
  · rw [good_no_chk (not_all_chk ha)]
    have HA := hid ha; clear ha
    go_enter Try.func105, Try.ntmps105
    go_wp2_with (go_at_call 144; refine (l1All_b _ _ _ _ _ _ hl hc _ HA.out).mono ?_; rintro e w' ⟨rfl, rfl⟩)
    go_ret
    exact ⟨rfl, 0, rfl⟩
  · have HA := hid ha; clear ha
    go_enter Try.func105, Try.ntmps105
    go_wp2_with (go_at_call 144; refine (l1All_b _ _ _ _ _ _ hl hc _ HA.out).mono ?_; rintro e w' ⟨rfl, rfl⟩)
    go_loopw [3] (fun i wr => ∃ k : Nat, 1 ≤ k ∧ (k ≤ xs.length ∨ k = 1) ∧ i = .int .i64 k ∧ (∀ j, j + 1 < k → xs.getD (j + 1) 0 ≤ xs.getD j 0) ∧ ∃ n, wr = w.drewN n) (fun i _ => xs.length - (intOf i).toNat)
    case atStart => exact ⟨1, Nat.le_refl _, .inr rfl, rfl, fun j hj => by omega, 0, rfl⟩
    case round =>
      obtain ⟨k, hk1, hk, rfl, hdn, n, rfl⟩ := hrel
      have HK := hid hk; clear hk
      have HD := hid hdn; clear hdn
      by_cases hlt : k < xs.length
      · obtain ⟨b, o, rfl, hcc⟩ := hc (by omega)
        have hck := hcc k hlt
        have hck1 := hcc (k - 1) (by omega)
        have hek : ((k : Int) - 1).toNat = k - 1 := by omega
        clear hcc
        obtain ⟨x, hx⟩ : ∃ x, x = xs.getD k 0 := ⟨_, rfl⟩
        obtain ⟨y, hy⟩ : ∃ y, y = xs.getD (k - 1) 0 := ⟨_, rfl⟩
        rw [← hx] at hck
        rw [← hy] at hck1
        have HX := hid hx; clear hx
        have HY := hid hy; clear hy
        by_cases hle : x ≤ y
        · go_wp2_with fail
          go_quiet (fail)
          go_wp2_with fail
          go_roundw
          case rel =>
            refine ⟨k + 1, by omega, .inl (by omega), by go_num, fun j hj => ?_, _, rfl⟩
            by_cases hjk : j + 1 < k
            · exact HD.out j hjk
            · have : j = k - 1 := by omega
              subst this
              rw [show k - 1 + 1 = k by omega, ← HX.out, ← HY.out]; exact hle
          case measure => simp [intOf]; omega
        · go_wp2_with fail
          go_quiet (fail)
          go_wp2_with fail
          go_ret
          refine ⟨ret_bool (good_no_chk (not_down_chk (k := k - 1) (by omega) ?_)).symm, drew2 _ _⟩
          rw [show k - 1 + 1 = k by omega, ← HX.out, ← HY.out]; omega
      · go_wp2_with (go_at_call 94; refine (ptSum_any _ _ _ _ (by omega) (fun j hj => by have := all_bounds HA.out j hj; omega) (by exact hc)).mono ?_; rintro e w' ⟨rfl, rfl⟩)
        go_ret
        refine ⟨ret_bool ?_, n, rfl⟩
        rw [good_chk (by omega) (chk_of HA.out fun j hj => HD.out j (by rcases HK.out with h | h <;> omega))]
theorem ptGood_b (A : Option Addr) (xs : List Int) (c : Nat) (w : World) (hl : xs.length ≤ 1048576) (hc : Cells w A xs) (b : Bool) (h : good xs = b) :
    Calls Try.prog 105 #[.slice A xs.length c] w fun e w' => e = .returned (.bool b) ∧ ∃ n, w' = w.drewN n := by
  subst h; exact ptGood_any A xs c w hl hc
end Go.Proofs.Ytnhjofcmaodamaa
