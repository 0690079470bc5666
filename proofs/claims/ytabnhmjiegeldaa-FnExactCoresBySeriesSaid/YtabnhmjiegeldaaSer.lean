/-
  Contracts: CoresBySeries of the program and of the model.
-/
import Derived.Test.YtabnhmjiegeldaaSerMath
import Derived.Test.YtabnhmjiegeldaaCntLev
import Derived.RegionTactic
import Derived.ChangeAlike
namespace Go.Proofs.Ytabnhmjiegeldaa
open Go.RowKit

theorem chAsked_any (t n : Int) (w : World) : Calls Try.prog 101 #[.int .i64 t, .int .i64 n] w fun e w' => e = .returned (.bool (inB 2 6 t && okN n)) ∧ w = w' := by
  cases ht : inB 2 6 t
  · have HT := hid ht; clear ht
    go_enter Try.func101, Try.ntmps101
    go_wp2_with (go_at_call 89; refine (chRunners_b _ _ _ HT.out).mono ?_; rintro e w' ⟨rfl, rfl⟩)
    go_ret
    exact ⟨rfl, rfl⟩
  · have HT := hid ht; clear ht
    go_enter Try.func101, Try.ntmps101
    go_wp2_with (first | (go_at_call 89; refine (chRunners_b _ _ _ HT.out).mono ?_; rintro e w' ⟨rfl, rfl⟩) | (go_at_call 124; refine (ptCells_any _ _).mono ?_; rintro e w' ⟨rfl, rfl⟩))
    go_ret
    exact ⟨rfl, rfl⟩
def askB (t n : Int) : Bool := inB 2 6 t && okN n
theorem chAsked_b (t n : Int) (w : World) (b : Bool) (h : askB t n = b) : Calls Try.prog 101 #[.int .i64 t, .int .i64 n] w fun e w' => e = .returned (.bool b) ∧ w = w' := by
  subst h; exact chAsked_any t n w
theorem askB_iff {t n : Int} (h : askB t n = true) : ∃ a b : Nat, t = a ∧ n = b ∧ 2 ≤ a ∧ a ≤ 6 ∧ b ≤ 30 := by
  simp only [askB, Bool.and_eq_true] at h
  have h1 := inB_iff.1 h.1
  have h2 := inB_iff.1 h.2
  exact ⟨t.toNat, n.toNat, by omega, by omega, by omega, by omega, by omega⟩
def serF (t n : Int) : List Int := if askB t n then serI t.toNat n.toNat else []
theorem serF_f {t n : Int} (h : askB t n = false) : serF t n = [] := by simp [serF, h]
theorem serF_t {t n : Nat} (h : askB t n = true) : serF t n = serI t n := by simp [serF, h]
theorem bound_CoresBySeries (t n : Int) : (serF t n).length ≤ 1048576 := by
  cases h : askB t n
  · rw [serF_f h]; simp
  · obtain ⟨a, b, rfl, rfl, _, _, hb⟩ := askB_iff h
    rw [serF_t h, serI_len]; omega

set_option maxHeartbeats 1000000 in
theorem logarithmAt_any (t k : Nat) (w : World) (ht : 2 ≤ t ∧ t ≤ 6) (hk : k ≤ 30) :
    Calls Try.prog 108 #[.int .i64 t, .int .i64 k] w fun e w' => e = .returned (.int .i64 (lg t k)) ∧ w' = w := by
  go_enter Try.func108, Try.ntmps108
  go_wp2
  go_loop [5, 6] (fun s i => ∃ d : Nat, d ≤ k ∧ i = .int .i64 ((d : Int) + 1) ∧ s = .int .i64 (lgD t k d)) (fun _ i => k + 1 - (intOf i).toNat)
  case atStart => exact ⟨0, Nat.zero_le _, rfl, rfl⟩
  case round =>
    obtain ⟨d, hd, rfl, rfl⟩ := hrel
    by_cases hlt : d < k
    · have h1 : Int.tmod (k : Int) ((d : Int) + 1) = ((k % (d + 1) : Nat) : Int) := by rfl
      have h2 : Int.tmod ((d : Int) + 1) (t : Int) = (((d + 1) % t : Nat) : Int) := by rfl
      have hne : ¬ ((t : Int) = 0) := by omega
      have hne2 : ¬ ((d : Int) + 1 = 0) := by omega
      have HE := hid (show lgD t k (d + 1) = if k % (d + 1) = 0 then (if (d + 1) % t = 0 then IntKind.i64.wrap (IntKind.i64.wrap (lgD t k d + (d + 1 : Nat)) - IntKind.i64.wrap ((t : Int) * (d + 1 : Nat))) else IntKind.i64.wrap (lgD t k d + (d + 1 : Nat))) else lgD t k d from rfl)
      obtain ⟨s, hs⟩ : ∃ s, s = lgD t k d := ⟨_, rfl⟩
      rw [← hs] at HE ⊢
      obtain ⟨p, hp⟩ : ∃ p, p = k % (d + 1) := ⟨_, rfl⟩
      obtain ⟨q, hq⟩ : ∃ q, q = (d + 1) % t := ⟨_, rfl⟩
      rw [← hp] at HE h1
      rw [← hq] at HE h2
      clear hs hp hq
      by_cases hp0 : p = 0
      · have hpi : (p : Int) = 0 := by omega
        by_cases hq0 : q = 0
        · have hqi : (q : Int) = 0 := by omega
          rw [if_pos hp0, if_pos hq0, IntWalk.i64_left, IntWalk.i64_left, IntWalk.i64_left] at HE
          clear hp0 hq0
          go_wp2
          go_round
          case rel => exact ⟨d + 1, by omega, by go_num, by rw [HE.out]; go_num⟩
          case measure => simp [intOf]; omega
        · have hqi : ¬ ((q : Int) = 0) := by omega
          rw [if_pos hp0, if_neg hq0, IntWalk.i64_left] at HE
          clear hp0 hq0
          go_wp2
          go_round
          case rel => exact ⟨d + 1, by omega, by go_num, by rw [HE.out]; go_num⟩
          case measure => simp [intOf]; omega
      · have hpi : ¬ ((p : Int) = 0) := by omega
        rw [if_neg hp0] at HE
        clear hp0
        go_wp2
        go_round
        case rel => exact ⟨d + 1, by omega, by go_num, by rw [HE.out]⟩
        case measure => simp [intOf]; omega
    · have hkd : d = k := by omega
      subst hkd
      go_wp2
      go_ret
      exact ⟨rfl, rfl⟩
end Go.Proofs.Ytabnhmjiegeldaa
