/-
  Contracts: how many parts are greater than a number.
-/
import Derived.Test.YthkkiakfmbnfeaaCB
import Derived.Test.YthkkiakfmbnfeaaCA
namespace Go.Proofs.Ythkkiakfmbnfeaa
open Go.RowKit

def ind (c x : Int) : Int := if c < x then 1 else 0
theorem colH_ind (xs : List Int) (c : Int) : colH xs c = (xs.map (ind c)).sum := rfl

set_option maxHeartbeats 400000 in
theorem ind_any (x c : Int) (g : Nat) (w : World) (hg : w.cell? ⟨g, 0, none⟩ = some (.int .i64 c)) :
    Calls Try.prog 79 #[.int .i64 x, .pointer (some ⟨g, 0, none⟩)] w fun e w' => e = .returned (.int .i64 (ind c x)) ∧ w = w' := by
  by_cases h : c < x
  · have hi : ind c x = 1 := by simp [ind, h]
    rw [hi]; clear hi
    go_enter Try.func79, Try.ntmps79
    go_wp2
    go_ret
    exact ⟨rfl, rfl⟩
  · have hi : ind c x = 0 := by simp [ind, h]
    rw [hi]; clear hi
    go_enter Try.func79, Try.ntmps79
    go_wp2
    go_ret
    exact ⟨rfl, rfl⟩

theorem ind_bd (c x : Int) : 0 ≤ ind c x ∧ ind c x ≤ 1 := by unfold ind; split <;> omega
theorem map_get (xs : List Int) (f : Int → Int) (k : Nat) (h : k < xs.length) : (xs.map f).getD k 0 = f (xs.getD k 0) := by
  rw [List.getD_eq_getElem?_getD, List.getElem?_map, List.getD_eq_getElem?_getD, List.getElem?_eq_getElem h]; rfl

set_option maxHeartbeats 400000 in
theorem sumInd_any (A : Option Addr) (xs : List Int) (c : Nat) (cc : Int) (g : Nat) (w : World) (hl : xs.length ≤ 30) (hc : Cells w A xs) (hg : w.cell? ⟨g, 0, none⟩ = some (.int .i64 cc)) :
    Calls Try.prog 64 #[.slice A xs.length c, .func (.func 79) #[] #[.pointer (some ⟨g, 0, none⟩)]] w fun e w' => e = .returned (.int .i64 (colH xs cc)) ∧ w = w' := by
  go_enter Try.func64, Try.ntmps64
  go_wp2_with fail
  go_loop [5, 10] (fun s i => ∃ k : Nat, k ≤ xs.length ∧ i = .int .i64 k ∧ s = .int .i64 ((xs.map (ind cc)).take k).sum) (fun _ i => xs.length - (intOf i).toNat)
  case atStart => exact ⟨0, Nat.zero_le _, rfl, by simp⟩
  case round =>
    obtain ⟨k, hk, rfl, rfl⟩ := hrel
    have hsb := sum_take_bound (xs.map (ind cc)) 1000 (fun j hj => by
      rw [List.length_map] at hj
      rw [map_get xs (ind cc) j hj]
      have := ind_bd cc (xs.getD j 0); omega) (by omega) k
    rw [List.length_map] at hsb
    obtain ⟨s, hs⟩ : ∃ s, s = ((xs.map (ind cc)).take k).sum := ⟨_, rfl⟩
    rw [← hs] at hsb ⊢
    have HS := hid hs; clear hs
    by_cases hlt : k < xs.length
    · obtain ⟨b, o, rfl, hcc⟩ := hc (by omega)
      have hck := hcc k hlt
      have hxb := ind_bd cc (xs.getD k 0)
      clear hcc hc
      have HX := hid (map_get xs (ind cc) k hlt)
      obtain ⟨x, hx⟩ : ∃ x, x = xs.getD k 0 := ⟨_, rfl⟩
      rw [← hx] at hck hxb HX
      clear hx
      go_wp2_with (go_at_call 79; refine (ind_any _ _ _ _ hg).mono ?_; rintro e w' ⟨rfl, rfl⟩)
      go_round
      case rel => exact ⟨k + 1, by omega, by go_num, by rw [sum_take_succ (xs.map (ind cc)) k (by simpa using hlt), ← HS.out, HX.out]⟩
      case measure => simp [intOf]; omega
    · go_wp2_with fail
      go_ret
      exact ⟨ret_int (by rw [HS.out, List.take_of_length_le (by simp; omega), colH_ind]), rfl⟩

set_option maxHeartbeats 400000 in
theorem partsAbove_any (A : Option Addr) (c : Nat) (xs : List Int) (cc : Int) (w : World) (hl : xs.length ≤ 30) (hc : Cells w A xs) :
    Calls Try.prog 70 #[.slice A xs.length c, .int .i64 cc] w fun e w' => e = .returned (.int .i64 (colH xs cc)) ∧ Below w.heap.size w w' := by
  obtain ⟨w2, hw2⟩ : ∃ w2, w2 = w.alloc (.cells #[.int .i64 cc] 3) := ⟨_, rfl⟩
  have b2 : Below w.heap.size w w2 := by rw [hw2]; exact (Below.refl _ _).alloc (Nat.le_refl _) _
  have h1 : w2.cell? ⟨w.heap.size, 0, none⟩ = some (.int .i64 cc) := by
    rw [hw2]; exact cell_one_new w (.int .i64 cc) 3 0 (.int .i64 cc) rfl
  have HS := hid (sumInd_any A xs c cc w.heap.size w2 hl (hc.below b2) h1)
  have HW := hid hw2
  clear hw2 h1
  go_enter Try.func70, Try.ntmps70
  go_wp2_with fail
  rw [← HW.out]
  refine HS.out.mono ?_
  rintro e w3 ⟨rfl, rfl⟩
  go_wp2_with fail
  go_ret
  exact ⟨rfl, b2⟩
end Go.Proofs.Ythkkiakfmbnfeaa
