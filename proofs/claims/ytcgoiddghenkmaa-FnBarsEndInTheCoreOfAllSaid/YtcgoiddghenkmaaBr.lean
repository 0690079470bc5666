/-
  Contracts: strict partitions on both sides.
-/
import Derived.Test.YtcgoiddghenkmaaCB
import Derived.Test.YtcgoiddghenkmaaBrMath
namespace Go.Proofs.Ytcgoiddghenkmaa
open Go.RowKit

set_option maxHeartbeats 400000 in
theorem areDifferent_any (A : Option Addr) (xs : List Int) (c : Nat) (w : World) (G : Good xs) (hc : Cells w A xs) :
    Calls Try.prog 29 #[.slice A xs.length c] w fun e w' => e = .returned (.bool (dcr xs)) ∧ w = w' := by
  have hlen := G.len
  have HG := hid G; clear G
  go_enter Try.func29, Try.ntmps29
  go_wp2_with fail
  go_loop [7] (fun i => ∃ k : Nat, k ≤ xs.length ∧ i = .int .i64 k ∧ Hid (dcrTo xs (k - 1) = true)) (fun i => xs.length - (intOf i).toNat)
  case atStart => exact ⟨0, Nat.zero_le _, rfl, hid rfl⟩
  case round =>
    obtain ⟨k, hk, rfl, HD⟩ := hrel
    by_cases hlt : k < xs.length
    · obtain ⟨b, o, rfl, hcc⟩ := hc (by omega)
      have hck := hcc k hlt
      by_cases h0 : k = 0
      · have hk0 : ¬ (0 : Int) < k := by omega
        have HK0 := hid h0
        clear hcc h0
        obtain ⟨x, hx⟩ : ∃ x, x = xs.getD k 0 := ⟨_, rfl⟩
        rw [← hx] at hck
        clear hx
        go_wp2_with fail
        go_round
        case rel => exact ⟨k + 1, by omega, by go_num, hid (by rw [HK0.out]; rfl)⟩
        case measure => simp [intOf]; omega
      · obtain ⟨j, rfl⟩ : ∃ j, k = j + 1 := ⟨k - 1, by omega⟩
        have hck1 := hcc j (by omega)
        have hw : IntKind.i64.wrap (((j + 1 : Nat) : Int) - 1) = (j : Int) := by rw [IntWalk.i64_in _ (by omega)]; omega
        have hle := HG.out.down j (by omega)
        clear hcc
        obtain ⟨x, hx⟩ : ∃ x, x = xs.getD (j + 1) 0 := ⟨_, rfl⟩
        obtain ⟨y, hy⟩ : ∃ y, y = xs.getD j 0 := ⟨_, rfl⟩
        rw [← hx] at hck hle
        rw [← hy] at hck1 hle
        have HX := hid hx; clear hx
        have HY := hid hy; clear hy
        have hj0 : (0 : Int) < ((j + 1 : Nat) : Int) := by omega
        by_cases he : x = y
        · have hr : dcr xs = false := dcrTo_no (k := j) (by rw [← HX.out, ← HY.out]; omega) (by omega)
          have HE := hid hr; clear hr
          go_wp2_with fail
          go_ret
          exact ⟨ret_bool HE.out.symm, rfl⟩
        · go_wp2_with fail
          go_round
          case rel => exact ⟨j + 1 + 1, by omega, by go_num, hid (by
            rw [show j + 1 + 1 - 1 = j + 1 by omega]
            have := HD.out
            rw [show j + 1 - 1 = j by omega] at this
            simp only [dcrTo, this, Bool.true_and, decide_eq_true_eq, ← HX.out, ← HY.out]; omega)⟩
          case measure => simp [intOf]; omega
    · have hkn : k = xs.length := by omega
      have hr : dcr xs = true := by rw [← HD.out, hkn]; rfl
      have HE := hid hr
      clear hkn hr
      go_wp2_with fail
      go_ret
      exact ⟨ret_bool HE.out.symm, rfl⟩

theorem isStrict_any (A : Option Addr) (xs : List Int) (c : Nat) (w : World) (hl : xs.length ≤ 1048576) (hc : Cells w A xs) :
    Calls Try.prog 35 #[.slice A xs.length c] w fun e w' => e = .returned (.bool (strB xs)) ∧ w = w' := by
  cases hg : good xs
  · rw [show strB xs = false by simp [strB, hg]]
    have H := hid hg; clear hg
    go_enter Try.func35, Try.ntmps35
    go_wp2_with (go_at_call 28; refine (IsPartition_b _ _ _ _ hl hc _ H.out).mono ?_; rintro e w' ⟨rfl, rfl⟩)
    go_ret
    exact ⟨rfl, rfl⟩
  · rw [show strB xs = dcr xs by simp [strB, hg]]
    have HD := hid (areDifferent_any A xs c w ((good_iff xs).1 hg) hc)
    have H := hid hg; clear hg
    go_enter Try.func35, Try.ntmps35
    go_wp2_with (first | (go_at_call 28; refine (IsPartition_b _ _ _ _ hl hc _ H.out).mono ?_; rintro e w' ⟨rfl, rfl⟩) | (go_at_call 29; refine HD.out.mono ?_; rintro e w' ⟨rfl, rfl⟩))
    go_ret
    exact ⟨rfl, rfl⟩
theorem isStrict_b (A : Option Addr) (xs : List Int) (c : Nat) (w : World) (hl : xs.length ≤ 1048576) (hc : Cells w A xs) (b : Bool) (h : strB xs = b) :
    Calls Try.prog 35 #[.slice A xs.length c] w fun e w' => e = .returned (.bool b) ∧ w = w' := by
  subst h; exact isStrict_any A xs c w hl hc

theorem impl_IsStrict (A : Option Addr) (c : Nat) (xs : List Int) (w : World) (hl : xs.length ≤ 1048576) (hc : Cells w A xs) :
    Calls Try.prog 15 #[.slice A xs.length c] w fun e w' => e = .returned (.tuple #[.bool (strB xs), .bool (good xs)]) ∧ Below w.heap.size w w' := by
  cases hg : good xs
  · rw [show strB xs = false by simp [strB, hg]]
    have H := hid hg; clear hg
    go_enter Try.func15, Try.ntmps15
    go_wp2_with (go_at_call 28; refine (IsPartition_b _ _ _ _ hl hc _ H.out).mono ?_; rintro e w' ⟨rfl, rfl⟩)
    go_ret2
    exact ⟨rfl, Below.refl _ _⟩
  · rw [show strB xs = dcr xs by simp [strB, hg]]
    have HD := hid (areDifferent_any A xs c w ((good_iff xs).1 hg) hc)
    have H := hid hg; clear hg
    go_enter Try.func15, Try.ntmps15
    go_wp2_with (first | (go_at_call 28; refine (IsPartition_b _ _ _ _ hl hc _ H.out).mono ?_; rintro e w' ⟨rfl, rfl⟩) | (go_at_call 29; refine HD.out.mono ?_; rintro e w' ⟨rfl, rfl⟩))
    go_ret2
    exact ⟨rfl, Below.refl _ _⟩

set_option maxHeartbeats 400000 in
theorem brIs_any (A : Option Addr) (xs : List Int) (c : Nat) (w : World) (hl : xs.length ≤ 1048576) (hc : Cells w A xs) :
    Calls Try.prog 33 #[.slice A xs.length c] w fun e w' => e = .returned (.bool (strB xs)) ∧ ∃ n, w' = w.drewN n := by
  have HG := hid fun W (h : Cells W A xs) => ptGood_any A xs c W hl h
  obtain ⟨g, hg⟩ : ∃ g, g = good xs := ⟨_, rfl⟩
  rw [← hg] at HG
  have HGG := hid hg; clear hg
  go_enter Try.func33, Try.ntmps33
  go_wp2_with fail
  go_loopw [3] (fun i wr => ∃ k : Nat, 1 ≤ k ∧ (k ≤ xs.length ∨ k = 1) ∧ i = .int .i64 k ∧ Hid (dcrTo xs (k - 1) = true) ∧ ∃ n, wr = w.drewN n) (fun i _ => xs.length - (intOf i).toNat)
  case atStart => exact ⟨1, Nat.le_refl _, .inr rfl, rfl, hid rfl, 0, rfl⟩
  case round =>
    obtain ⟨k, hk1, hk, rfl, HD, n, rfl⟩ := hrel
    have HK := hid hk; clear hk
    by_cases hlt : k < xs.length
    · obtain ⟨b, o, rfl, hcc⟩ := hc (by omega)
      have hck := hcc k hlt
      have hck1 := hcc (k - 1) (by omega)
      have hek : ((k : Int) - 1).toNat = k - 1 := by omega
      clear hcc
      obtain ⟨x, hx⟩ : ∃ x, x = xs.getD k 0 := ⟨_, rfl⟩
      obtain ⟨y, hy⟩ : ∃ y, y = xs.getD (k - 1) 0 := ⟨_, rfl⟩
      rw [← hx] at hck
      rw [← hy] at hck1
      have HX := hid hx; clear hx
      have HY := hid hy; clear hy
      by_cases hle : y ≤ x
      · have hr : strB xs = false := by
          have : dcr xs = false := dcrTo_no (k := k - 1) (by rw [show k - 1 + 1 = k by omega, ← HX.out, ← HY.out]; omega) (by omega)
          simp [strB, this]
        have HE := hid hr
        clear hr
        go_wp2_with fail
        go_quiet (fail)
        go_wp2_with fail
        go_ret
        exact ⟨ret_bool HE.out.symm, drew2 _ _⟩
      · go_wp2_with fail
        go_quiet (fail)
        go_wp2_with fail
        go_roundw
        case rel =>
          refine ⟨k + 1, by omega, .inl (by omega), by go_num, hid ?_, _, rfl⟩
          rw [show k + 1 - 1 = (k - 1) + 1 by omega]
          simp only [dcrTo, HD.out, Bool.true_and, decide_eq_true_eq]
          rw [show k - 1 + 1 = k by omega, ← HX.out, ← HY.out]; omega
        case measure => simp [intOf]; omega
    · have hr : strB xs = g := by
        have : dcr xs = true := by
          have := HD.out
          rwa [show k - 1 = xs.length - 1 by rcases HK.out with h | h <;> omega] at this
        simp [strB, this, HGG.out]
      have HE := hid hr
      clear hr
      go_wp2_with (go_at_call 44; refine (HG.out _ (by exact hc)).mono ?_; rintro e w' ⟨rfl, m, rfl⟩)
      go_ret
      exact ⟨ret_bool HE.out.symm, _, rfl⟩
theorem brIs_b (A : Option Addr) (xs : List Int) (c : Nat) (w : World) (hl : xs.length ≤ 1048576) (hc : Cells w A xs) (b : Bool) (h : strB xs = b) :
    Calls Try.prog 33 #[.slice A xs.length c] w fun e w' => e = .returned (.bool b) ∧ ∃ n, w' = w.drewN n := by
  subst h; exact brIs_any A xs c w hl hc

end Go.Proofs.Ytcgoiddghenkmaa
