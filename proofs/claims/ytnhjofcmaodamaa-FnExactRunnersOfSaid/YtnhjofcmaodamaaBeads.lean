/-
  Contracts: counting up, the beads of parts (both sides).
-/
import Derived.Test.YtnhjofcmaodamaaIsPart
import Derived.Test.YtnhjofcmaodamaaParts
import Derived.Test.YtnhjofcmaodamaaSmall
namespace Go.Proofs.Ytnhjofcmaodamaa
open Go.RowKit

theorem own_made (w : World) (n : Nat) (hn : n ≤ 1048576) : Own (w.alloc (.cells (madeCells #[.int .i64 0] n) 3)) w.heap.size (some ⟨w.heap.size, 0, none⟩) n (fnRow n (fun _ => 0)) := by
  have h := World.ownsRow_lit (base := w.heap.size) (e := 3) (size := 1) w (madeCells #[.int .i64 0] n) n (Nat.le_refl _) (by unfold maxLen; omega) (by rw [size_madeCells]; omega)
  rw [toList_madeCells_one] at h
  unfold Own
  rw [fnRow_len, rowF_zero]
  have e : IL (List.replicate n 0) = List.replicate n (.int .i64 0) := by simp [IL]
  rw [e]; exact h





def upK (n k : Nat) : List Int := fnRow n (fun j => if j < k then (j : Int) else 0)
theorem upK_zero (n : Nat) : upK n 0 = fnRow n (fun _ => 0) := rowF_ext _ _ _ fun j _ => by simp
theorem upK_all (n : Nat) : upK n n = upTo n := rowF_ext _ _ _ fun j h => by simp [h]
theorem upK_succ (n k : Nat) : (upK n k).set k (k : Int) = upK n (k + 1) := by
  unfold upK; rw [fnRow_set]
  refine rowF_ext _ _ _ fun j _ => ?_
  by_cases e : j = k
  · subst e; simp
  · rw [if_neg e]
    by_cases h : j < k
    · rw [if_pos h, if_pos (by omega)]
    · rw [if_neg h, if_neg (by omega)]

set_option maxHeartbeats 400000 in
theorem countUp_any (n : Nat) (w : World) (hn : n ≤ 1000) :
    Calls Try.prog 131 #[.int .i64 n] w fun e w' => ∃ A' c', e = .returned (.slice A' n c') ∧ Own w' w.heap.size A' c' (upTo n) ∧ Below w.heap.size w w' := by
  have hmk := run_make_row' (P := Try.prog) 22 3 (.int .i64 0) 8 Try.underlying22 Try.infoInt rfl .i64 .i64 n (by omega) (by omega)
  go_enter Try.func131, Try.ntmps131
  go_wp2
  go_loopw [4, 9] (fun _ i wr => ∃ k : Nat, k ≤ n ∧ i = .int .i64 k ∧ Own wr w.heap.size (some ⟨w.heap.size, 0, none⟩) n (upK n k) ∧ Below w.heap.size w wr) (fun _ i _ => n - (intOf i).toNat)
  case atStart =>
    exact ⟨0, Nat.zero_le _, rfl, own_len (own_made w n (by omega)) (upK_zero n).symm, (Below.refl _ _).alloc (Nat.le_refl _) _⟩
  case round =>
    obtain ⟨k, hk, rfl, hown, hbel⟩ := hrel
    by_cases hlt : k < n
    · have hcur := own_get hown (k := k) (by rw [upK, fnRow_len]; exact hlt)
      have hfz := own_froz hown k
      have HS := hid (own_len (own_set hown k (k : Int)) (upK_succ n k))
      obtain ⟨u, hu⟩ : ∃ u, u = (upK n k).getD k 0 := ⟨_, rfl⟩
      rw [← hu] at hcur
      clear hown hu
      go_wp2
      go_roundw
      case rel => exact ⟨k + 1, by omega, by go_num, HS.out, hbel.setCell (Nat.le_refl _) _⟩
      case measure => simp [intOf]; omega
    · have hkl : k = n := by omega
      subst hkl
      have HO := hid hown; clear hown
      go_wp2
      go_ret
      exact ⟨_, _, rfl, own_len HO.out (upK_all k), hbel⟩

set_option maxHeartbeats 400000 in
theorem beadsFor_any (A : Option Addr) (c : Nat) (xs : List Int) (n : Nat) (w : World) (hn : n ≤ 40) (hl : xs.length ≤ n) (hb : ∀ j, j < xs.length → 0 ≤ xs.getD j 0 ∧ xs.getD j 0 ≤ 1000) (hc : Cells w A xs) :
    Calls Try.prog 170 #[.slice A xs.length c, .int .i64 n] w fun e w' => ∃ A' c', e = .returned (.slice A' n c') ∧ Own w' w.heap.size A' c' (beadsL xs n) ∧ Below w.heap.size w w' := by
  have HB := hid hb; clear hb
  go_enter Try.func170, Try.ntmps170
  go_wp2_with (go_at_call 131; refine (countUp_any n _ (by omega)).mono ?_; rintro e w1 ⟨A1, c1, rfl, o1, b1⟩)
  go_loopw [6, 7, 12] (fun _ _ i wr => ∃ k : Nat, k ≤ xs.length ∧ i = .int .i64 k ∧ Own wr w.heap.size A1 c1 (beadsK xs n k) ∧ Below w.heap.size w wr) (fun _ _ i _ => xs.length - (intOf i).toNat)
  case atStart => exact ⟨0, Nat.zero_le _, rfl, own_len o1 (beadsK_zero xs n).symm, b1⟩
  case round =>
    obtain ⟨k, hk, rfl, hown, hbel⟩ := hrel
    by_cases hlt : k < xs.length
    · obtain ⟨b, o, rfl, hcc⟩ := hc (by omega)
      have hck := hcc k hlt
      have hck' : wr.cell? ⟨b, o + k, none⟩ = some (.int .i64 (xs.getD k 0)) := by
        rw [← hck]; exact hbel.cell (World.block_lt_of_cell? w _ hck)
      have hxb := HB.out k hlt
      have hbl : (beadsK xs n k).length = n := by unfold beadsK; rw [fnRow_len]
      obtain ⟨g, hg, hg1, _⟩ := hown.at_ (by rw [hbl]; omega)
      subst hg
      have hcur := own_get hown (k := n - 1 - k) (by rw [hbl]; omega)
      rw [beadsK_get xs n k (by omega)] at hcur
      have hfz := own_froz hown (n - 1 - k)
      have hst := own_len (own_set hown (n - 1 - k) (((n - 1 - k : Nat) : Int) + xs.getD k 0)) (beadsK_succ xs n k (by omega))
      obtain ⟨x, hx⟩ : ∃ x, x = xs.getD k 0 := ⟨_, rfl⟩
      rw [← hx] at hck' hst hxb
      have HS := hid hst
      have hnk : (n : Int) - 1 - k = ((n - 1 - k : Nat) : Int) := by omega
      have hnk2 : ((n : Int) - 1 - k).toNat = n - 1 - k := by omega
      have hmn : n - 1 - k < n := by omega
      clear hcc hck hown hx hst hbl o1
      go_wp2
      go_roundw
      case rel => exact ⟨k + 1, by omega, by go_num, HS.out, hbel.setCell hg1 _⟩
      case measure => simp [intOf]; omega
    · have hkl : k = xs.length := by omega
      subst hkl
      have HO := hid hown; clear hown
      go_wp2
      go_ret
      exact ⟨_, _, rfl, own_len HO.out (beadsK_all xs n), hbel⟩

set_option maxHeartbeats 400000 in
theorem abBeads_any (A : Option Addr) (c : Nat) (xs : List Int) (n : Nat) (w : World) (hn : n ≤ 40) (hl : xs.length ≤ n) (hb : ∀ j, j < xs.length → 0 ≤ xs.getD j 0 ∧ xs.getD j 0 ≤ 1000) (hc : Cells w A xs) :
    Calls Try.prog 95 #[.slice A xs.length c, .int .i64 n] w fun e w' => ∃ A' c', e = .returned (.slice A' n c') ∧ Own w' w.heap.size A' c' (beadsL xs n) ∧ Below w.heap.size w w' := by
  have HB := hid hb; clear hb
  have hmk := run_make_row' (P := Try.prog) 22 3 (.int .i64 0) 8 Try.underlying22 Try.infoInt rfl .i64 .i64 n (by omega) (by omega)
  go_enter Try.func95, Try.ntmps95
  go_wp2
  go_loopw [6, 7, 12] (fun _ _ i wr => ∃ k : Nat, k ≤ n ∧ i = .int .i64 k ∧ Own wr w.heap.size (some ⟨w.heap.size, 0, none⟩) n (beadsD xs n k) ∧ Below w.heap.size w wr) (fun _ _ i _ => n - (intOf i).toNat)
  case atStart => exact ⟨0, Nat.zero_le _, rfl, own_len (own_made w n (by omega)) (by rw [beadsD_zero, rowF_zero]), (Below.refl _ _).alloc (Nat.le_refl _) _⟩
  case round =>
    obtain ⟨k, hk, rfl, hown, hbel⟩ := hrel
    by_cases hlt : k < n
    · have hbl : (beadsD xs n k).length = n := by unfold beadsD; rw [fnRow_len]
      have hcur := own_get hown (k := n - 1 - k) (by rw [hbl]; omega)
      have hfz := own_froz hown (n - 1 - k)
      have hst := own_len (own_set hown (n - 1 - k) (bead xs n (n - 1 - k))) (beadsD_succ xs n k (by omega))
      have hbe : bead xs n (n - 1 - k) = ((n - 1 - k : Nat) : Int) + xs.getD k 0 := by unfold bead; rw [show n - 1 - (n - 1 - k) = k by omega]
      rw [hbe] at hst
      obtain ⟨u, hu⟩ : ∃ u, u = (beadsD xs n k).getD (n - 1 - k) 0 := ⟨_, rfl⟩
      rw [← hu] at hcur
      have hnk : (n : Int) - 1 - k = ((n - 1 - k : Nat) : Int) := by omega
      have hnk2 : ((n : Int) - 1 - k).toNat = n - 1 - k := by omega
      have hmn : n - 1 - k < n := by omega
      by_cases hkx : k < xs.length
      · obtain ⟨b, o, rfl, hcc⟩ := hc (by omega)
        have hck := hcc k hkx
        have hck' : wr.cell? ⟨b, o + k, none⟩ = some (.int .i64 (xs.getD k 0)) := by
          rw [← hck]; exact hbel.cell (World.block_lt_of_cell? w _ hck)
        have hxb := HB.out k hkx
        obtain ⟨x, hx⟩ : ∃ x, x = xs.getD k 0 := ⟨_, rfl⟩
        rw [← hx] at hck' hst hxb
        have HS := hid hst
        clear hcc hck hown hx hst hbl hu hbe
        go_wp2
        go_roundw
        case rel => exact ⟨k + 1, by omega, by go_num, HS.out, hbel.setCell (Nat.le_refl _) _⟩
        case measure => simp [intOf]; omega
      · have e0 : xs.getD k 0 = 0 := by rw [List.getD_eq_getElem?_getD, List.getElem?_eq_none (by omega)]; rfl
        rw [e0, Int.add_zero] at hst
        have HS := hid hst
        clear hown hst hbl hu hbe e0
        go_wp2
        go_roundw
        case rel => exact ⟨k + 1, by omega, by go_num, HS.out, hbel.setCell (Nat.le_refl _) _⟩
        case measure => simp [intOf]; omega
    · have hkl : k = n := by omega
      subst hkl
      have HO := hid hown; clear hown
      go_wp2
      go_ret
      exact ⟨_, _, rfl, own_len HO.out (beadsD_all xs k), hbel⟩
end Go.Proofs.Ytnhjofcmaodamaa
