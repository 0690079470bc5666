/-
  Factorials of the program and of the model.
-/
import Derived.Test.YtmjncedijddmmaaCB
namespace Go.Proofs.Ytmjncedijddmmaa
open Go.RowKit

def fac : Nat → Int
  | 0 => 1
  | n + 1 => fac n * ((n : Int) + 1)
theorem fac_step (k : Nat) : fac (k + 1) = fac k * ((k : Int) + 1) := rfl
theorem fac_bd20 : ∀ k < 21, 1 ≤ fac k ∧ fac k ≤ 2432902008176640000 := by decide +kernel

set_option maxRecDepth 100000 in
set_option maxHeartbeats 800000 in
theorem facto_any (n : Nat) (w : World) (h2 : n ≤ 20) :
    Calls Try.prog 81 #[.int .i64 n] w fun e w' => e = .returned (.int .i64 (fac n)) ∧ w = w' := by
  go_enter Try.func81, Try.ntmps81
  go_wp2_with fail
  go_loop [3, 4] (fun p i => ∃ k : Nat, 1 ≤ k ∧ (k ≤ n ∨ k = 1) ∧ i = .int .i64 ((k : Int) + 1) ∧ p = .int .i64 (fac k)) (fun _ i => 30 - (intOf i).toNat)
  case atStart => exact ⟨1, by omega, by omega, rfl, rfl⟩
  case round =>
    obtain ⟨k, hk1, hk, rfl, rfl⟩ := hrel
    have HK := hid hk
    clear hk
    by_cases hlt : k < n
    · have hb := fac_bd20 (k + 1) (by omega)
      have hb0 := fac_bd20 k (by omega)
      have HS := hid (fac_step k)
      rw [HS.out] at hb
      obtain ⟨f, hf⟩ : ∃ f, f = fac k := ⟨_, rfl⟩
      rw [← hf] at hb hb0 HS ⊢
      clear hf
      go_wp2_with fail
      go_round
      case rel => exact ⟨k + 1, by omega, by omega, by go_num, by rw [HS.out]⟩
      case measure => show 30 - ((k : Int) + 1 + 1).toNat < 30 - ((k : Int) + 1).toNat; omega
    · have HE := hid (show fac k = fac n by
        have := HK.out
        by_cases h : n = 0
        · rw [h, show k = 1 by omega]; rfl
        · rw [show k = n by omega])
      go_wp2_with fail
      go_ret
      exact ⟨by rw [← HE.out]; rfl, rfl⟩

/-- What the other side has multiplied when it has come down to m. -/
def facD (n : Nat) : Nat → Int
  | 0 => 1
  | j + 1 => facD n j * ((n : Int) - j)
theorem facDN : ((List.range 21).all fun n => (List.range 21).all fun j => decide (n < j) || (decide (1 ≤ facD n j ∨ j = n + 1) && decide (facD n j ≤ 2432902008176640000 ∧ 0 ≤ facD n j))) = true := by decide +kernel
theorem facD_bd (n : Nat) (hn : n ≤ 20) (j : Nat) (hj : j ≤ n) : 0 ≤ facD n j ∧ facD n j ≤ 2432902008176640000 := by
  have h1 := List.all_eq_true.1 facDN n (List.mem_range.2 (by omega))
  have h2 := List.all_eq_true.1 h1 j (List.mem_range.2 (by omega))
  simp only [Bool.or_eq_true, Bool.and_eq_true, decide_eq_true_eq] at h2
  omega
theorem facD_fac : ∀ n < 21, facD n (n - 1) = fac n := by decide +kernel

end Go.Proofs.Ytmjncedijddmmaa
