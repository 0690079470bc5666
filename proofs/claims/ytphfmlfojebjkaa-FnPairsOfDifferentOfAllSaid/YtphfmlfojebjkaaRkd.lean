/-
  Contract: rkDifferent of the model.
-/
import Derived.Test.YtphfmlfojebjkaaBr
namespace Go.Proofs.Ytphfmlfojebjkaa
open Go.RowKit

set_option maxHeartbeats 1000000 in
theorem rkDifferent_any (A : Option Addr) (xs : List Int) (c : Nat) (w : World) (G : Good xs) (h0 : 0 < xs.length) (hc : Cells w A xs) :
    Calls Try.prog 16 #[.slice A xs.length c] w fun e w' => e = .returned (.bool (dcr xs)) ∧ ∃ n, w' = w.drewN n := by
  have hlen := G.len
  have HG := hid G; clear G
  go_enter Try.func16, Try.ntmps16
  go_wp2_with fail
  go_loopw [3] (fun i wr => ∃ k : Nat, k + 1 ≤ xs.length ∧ i = .int .i64 ((k : Int) + 1) ∧ Hid (dcrTo xs k = true) ∧ ∃ n, wr = w.drewN n) (fun i _ => xs.length - (intOf i).toNat)
  case atStart => exact ⟨0, h0, rfl, hid rfl, 0, rfl⟩
  case round =>
    obtain ⟨p, hk, rfl, HD, n, rfl⟩ := hrel
    have hpi : (p : Int) + 1 = ((p + 1 : Nat) : Int) := by omega
    rw [hpi]
    obtain ⟨k, hkp⟩ : ∃ k, k = p + 1 := ⟨_, rfl⟩
    rw [← hkp] at hk ⊢
    have HKP := hid hkp
    clear hpi
    by_cases hlt : k < xs.length
    · obtain ⟨b, o, rfl, hcc⟩ := hc (by omega)
      have hck := hcc k hlt
      have hck1 := hcc p (by omega)
      have hw : IntKind.i64.wrap ((k : Int) - 1) = (p : Int) := by rw [IntWalk.i64_in _ (by omega)]; omega
      have hle := HG.out.down p (by omega)
      rw [← hkp] at hle
      clear hcc
      obtain ⟨x, hx⟩ : ∃ x, x = xs.getD k 0 := ⟨_, rfl⟩
      obtain ⟨y, hy⟩ : ∃ y, y = xs.getD p 0 := ⟨_, rfl⟩
      rw [← hx] at hck hle
      rw [← hy] at hck1 hle
      have HX := hid hx
      have HY := hid hy
      have hkl : (k : Int) < (xs.length : Int) := by omega
      have hpl : (p : Int) < (xs.length : Int) := by omega
      clear hx hy hkp
      by_cases he : x = y
      · have hr : dcr xs = false := dcrTo_no (k := p) (by rw [← HKP.out, ← HX.out, ← HY.out]; omega) (by have := HKP.out; omega)
        have HE := hid hr
        have hb : (x == y) = true := beq_iff_eq.2 he
        clear hr he
        go_wp2_with fail
        go_quiet (fail)
        go_wp2_with fail
        go_ret
        exact ⟨ret_bool HE.out.symm, drew2 _ _⟩
      · have hb : (x == y) = false := beq_eq_false_iff_ne.2 he
        have HE := hid he
        clear he
        go_wp2_with fail
        go_quiet (fail)
        go_wp2_with fail
        go_roundw
        case rel => exact ⟨p + 1, by have := HKP.out; omega, by have := HKP.out; congr 1; omega, hid (by
            simp only [dcrTo, HD.out, Bool.true_and, decide_eq_true_eq, ← HKP.out, ← HX.out, ← HY.out]; have := HE.out; omega), _, rfl⟩
        case measure => simp [intOf]; omega
    · have hr : dcr xs = true := by
        unfold dcr; rw [show xs.length - 1 = p by omega]; exact HD.out
      have HE := hid hr
      clear hr hkp
      go_wp2_with fail
      go_ret
      exact ⟨ret_bool HE.out.symm, _, rfl⟩

set_option maxHeartbeats 1000000 in
theorem rkDifferent_nil (A : Option Addr) (c : Nat) (w : World) :
    Calls Try.prog 16 #[.slice A 0 c] w fun e w' => e = .returned (.bool true) ∧ ∃ n, w' = w.drewN n := by
  go_enter Try.func16, Try.ntmps16
  go_wp2_with fail
  go_loopw [3] (fun i wr => i = .int .i64 1 ∧ wr = w) (fun _ _ => 0)
  case atStart => exact ⟨rfl, rfl⟩
  case round =>
    obtain ⟨rfl, rfl⟩ := hrel
    go_wp2_with fail
    go_ret
    exact ⟨rfl, 0, rfl⟩
theorem rkDifferent_all (A : Option Addr) (xs : List Int) (c : Nat) (w : World) (G : Good xs) (hc : Cells w A xs) :
    Calls Try.prog 16 #[.slice A xs.length c] w fun e w' => e = .returned (.bool (dcr xs)) ∧ ∃ n, w' = w.drewN n := by
  rcases Nat.eq_zero_or_pos xs.length with h | h
  · rw [List.eq_nil_of_length_eq_zero h]
    exact rkDifferent_nil A c w
  · exact rkDifferent_any A xs c w G h hc
end Go.Proofs.Ytphfmlfojebjkaa
