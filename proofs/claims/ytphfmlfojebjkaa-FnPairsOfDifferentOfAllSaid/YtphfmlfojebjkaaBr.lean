/-
  Contracts: strict partitions on both sides.
-/
import Derived.Test.YtphfmlfojebjkaaCB
import Derived.Test.YtphfmlfojebjkaaBrMath
namespace Go.Proofs.Ytphfmlfojebjkaa
open Go.RowKit

set_option maxHeartbeats 400000 in
theorem areDifferent_any (A : Option Addr) (xs : List Int) (c : Nat) (w : World) (G : Good xs) (hc : Cells w A xs) :
    Calls Try.prog 19 #[.slice A xs.length c] w fun e w' => e = .returned (.bool (dcr xs)) ∧ w = w' := by
  have hlen := G.len
  have HG := hid G; clear G
  go_enter Try.func19, Try.ntmps19
  go_wp2_with fail
  go_loop [7] (fun i => ∃ k : Nat, k ≤ xs.length ∧ i = .int .i64 k ∧ Hid (dcrTo xs (k - 1) = true)) (fun i => xs.length - (intOf i).toNat)
  case atStart => exact ⟨0, Nat.zero_le _, rfl, hid rfl⟩
  case round =>
    obtain ⟨k, hk, rfl, HD⟩ := hrel
    by_cases hlt : k < xs.length
    · obtain ⟨b, o, rfl, hcc⟩ := hc (by omega)
      have hck := hcc k hlt
      by_cases h0 : k = 0
      · have hk0 : ¬ (0 : Int) < k := by omega
        have HK0 := hid h0
        clear hcc h0
        obtain ⟨x, hx⟩ : ∃ x, x = xs.getD k 0 := ⟨_, rfl⟩
        rw [← hx] at hck
        clear hx
        go_wp2_with fail
        go_round
        case rel => exact ⟨k + 1, by omega, by go_num, hid (by rw [HK0.out]; rfl)⟩
        case measure => simp [intOf]; omega
      · obtain ⟨j, rfl⟩ : ∃ j, k = j + 1 := ⟨k - 1, by omega⟩
        have hck1 := hcc j (by omega)
        have hw : IntKind.i64.wrap (((j + 1 : Nat) : Int) - 1) = (j : Int) := by rw [IntWalk.i64_in _ (by omega)]; omega
        have hle := HG.out.down j (by omega)
        clear hcc
        obtain ⟨x, hx⟩ : ∃ x, x = xs.getD (j + 1) 0 := ⟨_, rfl⟩
        obtain ⟨y, hy⟩ : ∃ y, y = xs.getD j 0 := ⟨_, rfl⟩
        rw [← hx] at hck hle
        rw [← hy] at hck1 hle
        have HX := hid hx; clear hx
        have HY := hid hy; clear hy
        have hj0 : (0 : Int) < ((j + 1 : Nat) : Int) := by omega
        by_cases he : x = y
        · have hr : dcr xs = false := dcrTo_no (k := j) (by rw [← HX.out, ← HY.out]; omega) (by omega)
          have HE := hid hr; clear hr
          go_wp2_with fail
          go_ret
          exact ⟨ret_bool HE.out.symm, rfl⟩
        · go_wp2_with fail
          go_round
          case rel => exact ⟨j + 1 + 1, by omega, by go_num, hid (by
            rw [show j + 1 + 1 - 1 = j + 1 by omega]
            have := HD.out
            rw [show j + 1 - 1 = j by omega] at this
            simp only [dcrTo, this, Bool.true_and, decide_eq_true_eq, ← HX.out, ← HY.out]; omega)⟩
          case measure => simp [intOf]; omega
    · have hkn : k = xs.length := by omega
      have hr : dcr xs = true := by rw [← HD.out, hkn]; rfl
      have HE := hid hr
      clear hkn hr
      go_wp2_with fail
      go_ret
      exact ⟨ret_bool HE.out.symm, rfl⟩

theorem isStrict_any (A : Option Addr) (xs : List Int) (c : Nat) (w : World) (hl : xs.length ≤ 1048576) (hc : Cells w A xs) :
    Calls Try.prog 12 #[.slice A xs.length c] w fun e w' => e = .returned (.bool (strB xs)) ∧ w = w' := by
  cases hg : good xs
  · rw [show strB xs = false by simp [strB, hg]]
    have H := hid hg; clear hg
    go_enter Try.func12, Try.ntmps12
    go_wp2_with (go_at_call 18; refine (IsPartition_b _ _ _ _ hl hc _ H.out).mono ?_; rintro e w' ⟨rfl, rfl⟩)
    go_ret
    exact ⟨rfl, rfl⟩
  · rw [show strB xs = dcr xs by simp [strB, hg]]
    have HD := hid (areDifferent_any A xs c w ((good_iff xs).1 hg) hc)
    have H := hid hg; clear hg
    go_enter Try.func12, Try.ntmps12
    go_wp2_with (first | (go_at_call 18; refine (IsPartition_b _ _ _ _ hl hc _ H.out).mono ?_; rintro e w' ⟨rfl, rfl⟩) | (go_at_call 19; refine HD.out.mono ?_; rintro e w' ⟨rfl, rfl⟩))
    go_ret
    exact ⟨rfl, rfl⟩
theorem isStrict_b (A : Option Addr) (xs : List Int) (c : Nat) (w : World) (hl : xs.length ≤ 1048576) (hc : Cells w A xs) (b : Bool) (h : strB xs = b) :
    Calls Try.prog 12 #[.slice A xs.length c] w fun e w' => e = .returned (.bool b) ∧ w = w' := by
  subst h; exact isStrict_any A xs c w hl hc

theorem impl_IsStrict (A : Option Addr) (c : Nat) (xs : List Int) (w : World) (hl : xs.length ≤ 1048576) (hc : Cells w A xs) :
    Calls Try.prog 7 #[.slice A xs.length c] w fun e w' => e = .returned (.tuple #[.bool (strB xs), .bool (good xs)]) ∧ Below w.heap.size w w' := by
  cases hg : good xs
  · rw [show strB xs = false by simp [strB, hg]]
    have H := hid hg; clear hg
    go_enter Try.func7, Try.ntmps7
    go_wp2_with (go_at_call 18; refine (IsPartition_b _ _ _ _ hl hc _ H.out).mono ?_; rintro e w' ⟨rfl, rfl⟩)
    go_ret2
    exact ⟨rfl, Below.refl _ _⟩
  · rw [show strB xs = dcr xs by simp [strB, hg]]
    have HD := hid (areDifferent_any A xs c w ((good_iff xs).1 hg) hc)
    have H := hid hg; clear hg
    go_enter Try.func7, Try.ntmps7
    go_wp2_with (first | (go_at_call 18; refine (IsPartition_b _ _ _ _ hl hc _ H.out).mono ?_; rintro e w' ⟨rfl, rfl⟩) | (go_at_call 19; refine HD.out.mono ?_; rintro e w' ⟨rfl, rfl⟩))
    go_ret2
    exact ⟨rfl, Below.refl _ _⟩

end Go.Proofs.Ytphfmlfojebjkaa
