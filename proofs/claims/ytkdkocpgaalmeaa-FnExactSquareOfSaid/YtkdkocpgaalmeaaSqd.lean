/-
  Contracts: SquareOf, RankOf on both sides.
-/
import Derived.Test.YtkdkocpgaalmeaaCB
namespace Go.Proofs.Ytkdkocpgaalmeaa
open Go.RowKit

/-- The greatest k up to n with p[k - 1] > k - 1 for all before: the loop's own count. -/
def sqG (xs : List Int) : Nat → Nat → Nat
  | 0, k => k
  | f + 1, k => if k < xs.length ∧ (k : Int) < xs.getD k 0 then sqG xs f (k + 1) else k
theorem sqG_yes {xs : List Int} {f k : Nat} (h1 : k < xs.length) (h2 : (k : Int) < xs.getD k 0) : sqG xs (f + 1) k = sqG xs f (k + 1) := by rw [sqG, if_pos ⟨h1, h2⟩]
theorem sqG_no {xs : List Int} {f k : Nat} (h : ¬ (k < xs.length ∧ (k : Int) < xs.getD k 0)) : sqG xs f k = k := by
  cases f with
  | zero => rfl
  | succ f => rw [sqG, if_neg h]
def sqF (xs : List Int) : Int := if good xs then (sqG xs xs.length 0 : Int) else 0
theorem sqF_t {xs : List Int} (h : good xs = true) : sqF xs = (sqG xs xs.length 0 : Int) := by simp [sqF, h]
theorem sqF_f {xs : List Int} (h : good xs = false) : sqF xs = 0 := by simp [sqF, h]

set_option maxHeartbeats 1000000 in
theorem impl_SquareOf (A : Option Addr) (c : Nat) (xs : List Int) (w : World) (hl : xs.length ≤ 1048576) (hc : Cells w A xs) :
    Calls Try.prog 52 #[.slice A xs.length c] w fun e w' => e = .returned (.tuple #[.int .i64 (sqF xs), .bool (good xs)]) ∧ Below w.heap.size w w' := by
  cases hg : good xs
  · rw [sqF_f hg]
    have HG := hid hg; clear hg
    go_enter Try.func52, Try.ntmps52
    go_wp2_with (go_at_call 109; refine (IsPartition_b _ _ _ _ hl hc _ HG.out).mono ?_; rintro e w' ⟨rfl, rfl⟩)
    go_ret2
    exact ⟨rfl, Below.refl _ _⟩
  rw [sqF_t hg]
  have G := (good_iff xs).1 hg
  have hlen := G.len
  have HG := hid hg; clear hg G
  go_enter Try.func52, Try.ntmps52
  go_wp2_with (go_at_call 109; refine (IsPartition_b _ _ _ _ hl hc _ HG.out).mono ?_; rintro e w' ⟨rfl, rfl⟩)
  go_loop [4] (fun i => ∃ k : Nat, k ≤ xs.length ∧ i = .int .i64 k ∧ sqG xs (xs.length - k) k = sqG xs xs.length 0) (fun i => xs.length - (intOf i).toNat)
  case atStart => exact ⟨0, Nat.zero_le _, rfl, rfl⟩
  case round =>
    obtain ⟨k, hk, rfl, hs⟩ := hrel
    by_cases hlt : k < xs.length
    · obtain ⟨b, o, rfl, hcc⟩ := hc (by omega)
      have hck := hcc k hlt
      obtain ⟨x, hx⟩ : ∃ x, x = xs.getD k 0 := ⟨_, rfl⟩
      rw [← hx] at hck
      by_cases hgt : (k : Int) < x
      · have hn := sqG_yes (f := xs.length - (k + 1)) hlt (by rw [← hx]; exact hgt)
        rw [show xs.length - (k + 1) + 1 = xs.length - k by omega, hs] at hn
        have HN := hid hn
        clear hx hcc hc hs hn
        go_wp2_with fail
        go_round
        case rel => exact ⟨k + 1, by omega, by go_num, HN.out.symm⟩
        case measure => simp [intOf]; omega
      · have hn := sqG_no (xs := xs) (f := xs.length - k) (k := k) (by rw [← hx]; omega)
        have HN := hid (hn.symm.trans hs)
        clear hx hcc hc hs hn
        go_wp2_with fail
        go_ret2
        exact ⟨by rw [← HN.out]; rfl, Below.refl _ _⟩
    · have hn := sqG_no (xs := xs) (f := xs.length - k) (k := k) (by omega)
      have HN := hid (hn.symm.trans hs)
      clear hs hn
      go_wp2_with fail
      go_ret2
      exact ⟨by rw [← HN.out]; rfl, Below.refl _ _⟩
set_option maxHeartbeats 1000000 in
theorem spec_SquareOf (A : Option Addr) (c : Nat) (xs : List Int) (w : World) (hl : xs.length ≤ 1048576) (hc : Cells w A xs) :
    Calls Try.prog 51 #[.slice A xs.length c] w fun e w' => e = .returned (.tuple #[.int .i64 (sqF xs), .bool (good xs)]) ∧ Below w.heap.size w w' := by
  cases hg : good xs
  · rw [sqF_f hg]
    have HG := hid hg; clear hg
    go_enter Try.func51, Try.ntmps51
    go_wp2_with (go_at_call 77; refine (ptGood_b _ _ _ _ hl hc _ HG.out).mono ?_; rintro e w' ⟨rfl, n, rfl⟩)
    go_ret2
    exact ⟨rfl, below_drew' _ _⟩
  rw [sqF_t hg]
  have G := (good_iff xs).1 hg
  have hlen := G.len
  have HG := hid hg; clear hg G
  go_enter Try.func51, Try.ntmps51
  go_wp2_with (go_at_call 77; refine (ptGood_b _ _ _ _ hl hc _ HG.out).mono ?_; rintro e w' ⟨rfl, n, rfl⟩)
  go_loop [4] (fun i => ∃ k : Nat, k ≤ xs.length ∧ i = .int .i64 k ∧ sqG xs (xs.length - k) k = sqG xs xs.length 0) (fun i => xs.length - (intOf i).toNat)
  case atStart => exact ⟨0, Nat.zero_le _, rfl, rfl⟩
  case round =>
    obtain ⟨k, hk, rfl, hs⟩ := hrel
    by_cases hlt : k < xs.length
    · obtain ⟨b, o, rfl, hcc⟩ := hc (by omega)
      have hck := hcc k hlt
      obtain ⟨x, hx⟩ : ∃ x, x = xs.getD k 0 := ⟨_, rfl⟩
      rw [← hx] at hck
      by_cases hgt : (k : Int) < x
      · have hn := sqG_yes (f := xs.length - (k + 1)) hlt (by rw [← hx]; exact hgt)
        rw [show xs.length - (k + 1) + 1 = xs.length - k by omega, hs] at hn
        have HN := hid hn
        clear hx hcc hc hs hn
        go_wp2_with fail
        go_round
        case rel => exact ⟨k + 1, by omega, by go_num, HN.out.symm⟩
        case measure => simp [intOf]; omega
      · have hn := sqG_no (xs := xs) (f := xs.length - k) (k := k) (by rw [← hx]; omega)
        have HN := hid (hn.symm.trans hs)
        clear hx hcc hc hs hn
        go_wp2_with fail
        go_ret2
        exact ⟨by rw [← HN.out]; rfl, below_drew' _ _⟩
    · have hn := sqG_no (xs := xs) (f := xs.length - k) (k := k) (by omega)
      have HN := hid (hn.symm.trans hs)
      clear hs hn
      go_wp2_with fail
      go_ret2
      exact ⟨by rw [← HN.out]; rfl, below_drew' _ _⟩
end Go.Proofs.Ytkdkocpgaalmeaa
