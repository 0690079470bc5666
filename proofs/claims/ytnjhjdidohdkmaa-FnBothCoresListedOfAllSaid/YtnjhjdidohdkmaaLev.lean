/-
  Contracts: what tells whether a list is levels (both sides), the size of their core, turned levels.
-/
import Derived.Test.YtnjhjdidohdkmaaCA
import Derived.Test.YtnjhjdidohdkmaaCB
namespace Go.Proofs.Ytnjhjdidohdkmaa
open Go.RowKit

set_option maxHeartbeats 400000 in
theorem ptSum_abs (A : Option Addr) (xs : List Int) (c : Nat) (w : World) (hl : xs.length ≤ 100) (hb : ∀ j, j < xs.length → -1000 ≤ xs.getD j 0 ∧ xs.getD j 0 ≤ 1000) (hc : Cells w A xs) :
    Calls Try.prog 34 #[.slice A xs.length c] w fun e w' => e = .returned (.int .i64 xs.sum) ∧ w = w' := by
  have HB := hid hb; clear hb
  go_enter Try.func34, Try.ntmps34
  go_wp2
  go_loop [3, 8] (fun s i => ∃ k : Nat, k ≤ xs.length ∧ i = .int .i64 k ∧ s = .int .i64 (xs.take k).sum) (fun _ i => xs.length - (intOf i).toNat)
  case atStart => exact ⟨0, Nat.zero_le _, rfl, by simp⟩
  case round =>
    obtain ⟨k, hk, rfl, rfl⟩ := hrel
    have hsb := sum_take_abs xs 1000 HB.out (by omega) k
    obtain ⟨s, hs⟩ : ∃ s, s = (xs.take k).sum := ⟨_, rfl⟩
    rw [← hs] at hsb ⊢
    have HS := hid hs; clear hs
    by_cases hlt : k < xs.length
    · obtain ⟨b, o, rfl, hcc⟩ := hc (by omega)
      have hck := hcc k hlt
      have hxb := HB.out k hlt
      clear hcc hc
      obtain ⟨x, hx⟩ : ∃ x, x = xs.getD k 0 := ⟨_, rfl⟩
      rw [← hx] at hck hxb
      have HX := hid hx; clear hx
      go_wp2
      go_round
      case rel => exact ⟨k + 1, by omega, by go_num, by rw [sum_take_succ xs k hlt, ← HS.out, ← HX.out]⟩
      case measure => simp [intOf]; omega
    · go_wp2
      go_ret
      exact ⟨ret_int (by rw [HS.out, List.take_of_length_le (by omega)]), rfl⟩

end Go.Proofs.Ytnjhjdidohdkmaa
