/-
  Contracts: how many beads stand between two places (both sides).
-/
import Derived.Test.YtmbfobcbnnalbaaCF
import Derived.Test.YtmbfobcbnnalbaaLiftS
namespace Go.Proofs.Ytmbfobcbnnalbaa
open Go.RowKit

def btB (lo hi x : Int) : Bool := decide (lo < x) && decide (x < hi)
def btV (lo hi x : Int) : Int := if btB lo hi x then 1 else 0
def btN (xs : List Int) (lo hi : Int) (k : Nat) : Int := (((xs.take k).filter (btB lo hi)).length : Nat)
theorem btN_succ (xs : List Int) (lo hi : Int) (k : Nat) (h : k < xs.length) : btN xs lo hi (k + 1) = btN xs lo hi k + btV lo hi (xs.getD k 0) := by
  unfold btN btV
  cases hb : btB lo hi (xs.getD k 0)
  · rw [filt_f xs k h hb]; simp
  · rw [filt_t xs k h hb, List.length_append]; simp
theorem btN_bd (xs : List Int) (lo hi : Int) (k : Nat) : 0 ≤ btN xs lo hi k ∧ btN xs lo hi k ≤ k := by
  unfold btN
  have := List.length_filter_le (btB lo hi) (xs.take k)
  rw [List.length_take] at this
  omega

set_option maxHeartbeats 400000 in
theorem between1_any (x lo hi : Int) (g1 g2 : Nat) (w : World) (h1 : w.cell? ⟨g1, 0, none⟩ = some (.int .i64 lo)) (h2 : w.cell? ⟨g2, 0, none⟩ = some (.int .i64 hi)) :
    Calls Try.prog 245 #[.int .i64 x, .pointer (some ⟨g1, 0, none⟩), .pointer (some ⟨g2, 0, none⟩)] w fun e w' => e = .returned (.int .i64 (btV lo hi x)) ∧ w = w' := by
  by_cases ha : lo < x
  · by_cases hb : x < hi
    · rw [show btV lo hi x = 1 by simp [btV, btB, ha, hb]]
      go_enter Try.func245, Try.ntmps245
      go_wp2
      go_ret
      exact ⟨rfl, rfl⟩
    · rw [show btV lo hi x = 0 by unfold btV; rw [if_neg (by simp [btB]; omega)]]
      go_enter Try.func245, Try.ntmps245
      go_wp2
      go_ret
      exact ⟨rfl, rfl⟩
  · rw [show btV lo hi x = 0 by unfold btV; rw [if_neg (by simp [btB]; omega)]]
    go_enter Try.func245, Try.ntmps245
    go_wp2
    go_ret
    exact ⟨rfl, rfl⟩

set_option maxHeartbeats 1000000 in
theorem sumBetween_any (A : Option Addr) (xs : List Int) (c : Nat) (lo hi : Int) (g1 g2 : Nat) (w : World) (hl : xs.length ≤ 1000) (hc : Cells w A xs) (h1 : w.cell? ⟨g1, 0, none⟩ = some (.int .i64 lo)) (h2 : w.cell? ⟨g2, 0, none⟩ = some (.int .i64 hi)) :
    Calls Try.prog 168 #[.slice A xs.length c, .func (.func 245) #[] #[.pointer (some ⟨g1, 0, none⟩), .pointer (some ⟨g2, 0, none⟩)]] w fun e w' => e = .returned (.int .i64 (btN xs lo hi xs.length)) ∧ w = w' := by
  have H1 := hid h1; have H2 := hid h2
  clear h1 h2
  go_enter Try.func168, Try.ntmps168
  go_wp2_with fail
  go_loop [5, 10] (fun s i => ∃ k : Nat, k ≤ xs.length ∧ i = .int .i64 k ∧ s = .int .i64 (btN xs lo hi k)) (fun _ i => xs.length - (intOf i).toNat)
  case atStart => exact ⟨0, Nat.zero_le _, rfl, by simp [btN]⟩
  case round =>
    obtain ⟨k, hk, rfl, rfl⟩ := hrel
    have hsb := btN_bd xs lo hi k
    by_cases hlt : k < xs.length
    · obtain ⟨b, o, rfl, hcc⟩ := hc (by omega)
      have hck := hcc k hlt
      have HE := hid (btN_succ xs lo hi k hlt)
      clear hcc hc
      obtain ⟨x, hx⟩ : ∃ x, x = xs.getD k 0 := ⟨_, rfl⟩
      obtain ⟨s, hs⟩ : ∃ s, s = btN xs lo hi k := ⟨_, rfl⟩
      rw [← hx] at hck HE
      rw [← hs] at HE hsb ⊢
      obtain ⟨d, hd⟩ : ∃ d : Int, d = btV lo hi x := ⟨_, rfl⟩
      have hdb : 0 ≤ d ∧ d ≤ 1 := by rw [hd]; unfold btV; split <;> omega
      have hcall := between1_any x lo hi g1 g2 w H1.out H2.out
      rw [← hd] at hcall HE
      have HCA := hid hcall
      clear hx hs hd hcall
      go_wp2_with (go_at_call 245; refine HCA.out.mono ?_; rintro e w' ⟨rfl, rfl⟩)
      go_round
      case rel => exact ⟨k + 1, by omega, by go_num, by rw [HE.out]⟩
      case measure => simp [intOf]; omega
    · have hkl : k = xs.length := by omega
      subst hkl
      clear hsb
      go_wp2_with fail
      go_ret
      exact ⟨rfl, rfl⟩

set_option maxHeartbeats 1000000 in
theorem beadsBetween_any (A : Option Addr) (xs : List Int) (c : Nat) (lo hi : Int) (w : World) (hl : xs.length ≤ 1000) (hc : Cells w A xs) :
    Calls Try.prog 229 #[.slice A xs.length c, .int .i64 lo, .int .i64 hi] w fun e w' => e = .returned (.int .i64 (btN xs lo hi xs.length)) ∧ Below w.heap.size w w' := by
  obtain ⟨w2, hw2⟩ : ∃ w2, w2 = (w.alloc (.cells #[.int .i64 lo] 3)).alloc (.cells #[.int .i64 hi] 3) := ⟨_, rfl⟩
  have b2 : Below w.heap.size w w2 := by rw [hw2]; exact ((Below.refl _ _).alloc (Nat.le_refl _) _).alloc (by simp) _
  have h1 : w2.cell? ⟨w.heap.size, 0, none⟩ = some (.int .i64 lo) := by
    have h := one_at (w := w) (t := 3) 0 (.int .i64 lo) (x := .int .i64 lo) rfl
    rw [hw2, World.cell?_of_block (w := w.alloc (.cells #[.int .i64 lo] 3)) (Below.heap_alloc _ _ _ (by simp))]
    exact h
  have h2 : w2.cell? ⟨w.heap.size + 1, 0, none⟩ = some (.int .i64 hi) := by
    have h := one_at (w := w.alloc (.cells #[.int .i64 lo] 3)) (t := 3) 0 (.int .i64 hi) (x := .int .i64 hi) rfl
    rw [World.size_alloc] at h
    rw [hw2]; exact h
  have HS := hid (sumBetween_any A xs c lo hi w.heap.size (w.heap.size + 1) w2 hl (hc.below b2) h1 h2)
  have HW := hid hw2
  clear hw2 h1 h2
  go_enter Try.func229, Try.ntmps229
  go_wp2_with fail
  rw [← HW.out]
  refine HS.out.mono ?_
  rintro e w3 ⟨rfl, rfl⟩
  go_wp2_with fail
  go_ret
  exact ⟨rfl, b2⟩

end Go.Proofs.Ytmbfobcbnnalbaa
