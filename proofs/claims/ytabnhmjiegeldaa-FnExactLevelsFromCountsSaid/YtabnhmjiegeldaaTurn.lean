/-
  Contracts: levels turned (both sides).
-/
import Derived.Test.YtabnhmjiegeldaaLevF
import Derived.Test.YtabnhmjiegeldaaOpt
namespace Go.Proofs.Ytabnhmjiegeldaa
open Go.RowKit

theorem turnF_f {xs : List Int} (h : levB xs = false) : turnF xs = [] := by simp [turnF, h]
theorem turnF_t {xs : List Int} (h : levB xs = true) : turnF xs = turnL xs := by simp [turnF, h]

set_option maxRecDepth 100000 in
set_option maxHeartbeats 1000000 in
theorem impl_TurnLevels (A : Option Addr) (c : Nat) (xs : List Int) (w : World) (hl : xs.length ≤ 1048576) (hc : Cells w A xs) :
    Calls Try.prog 54 #[.slice A xs.length c] w fun e w' => ∃ A' c', e = .returned (.tuple #[.slice A' (turnF xs).length c', .bool (levB xs)]) ∧ Own w' w.heap.size A' c' (turnF xs) ∧ Below w.heap.size w w' := by
  cases hg : levB xs
  · rw [turnF_f hg]
    have HG := hid hg; clear hg
    go_enter Try.func54, Try.ntmps54
    go_wp2_with (go_at_call 28; refine (IsLevels_b _ _ _ _ hl hc _ HG.out).mono ?_; rintro e w' ⟨rfl, rfl⟩)
    go_ret2
    exact ⟨none, 0, rfl, own_nil _ _, Below.refl _ _⟩
  rw [turnF_t hg, turnL_len]
  have L := levB_iff.1 hg
  have h6 := L.hi
  have HL := hid L
  have HG := hid hg; clear hg L
  have hmk := run_make_row' (P := Try.prog) 22 3 (.int .i64 0) 8 Try.underlying22 Try.infoInt rfl .i64 .i64 xs.length (by omega) (by omega)
  obtain ⟨w2, hw2⟩ : ∃ w2, w2 = w.alloc (.cells (madeCells #[.int .i64 0] xs.length) 3) := ⟨_, rfl⟩
  have o2 : Own w2 w.heap.size (some ⟨w.heap.size, 0, none⟩) xs.length (turnK xs 0) := by rw [hw2, turnK_zero]; exact own_made w xs.length (by omega)
  have b2 : Below w.heap.size w w2 := by rw [hw2]; exact (Below.refl _ _).alloc (Nat.le_refl _) _
  go_enter Try.func54, Try.ntmps54
  go_wp2_with (go_at_call 28; refine (IsLevels_b _ _ _ _ hl hc _ HG.out).mono ?_; rintro e w' ⟨rfl, rfl⟩)
  rw [← hw2]
  clear hw2
  go_loopw [15] (fun i wr => ∃ k : Nat, k ≤ xs.length ∧ i = .int .i64 k ∧ Own wr w.heap.size (some ⟨w.heap.size, 0, none⟩) xs.length (turnK xs k) ∧ Below w.heap.size w wr) (fun i _ => xs.length - (intOf i).toNat)
  case atStart => exact ⟨0, Nat.zero_le _, rfl, o2, b2⟩
  case round =>
    obtain ⟨k, hk, rfl, hown, hbel⟩ := hrel
    by_cases hlt : k < xs.length
    · obtain ⟨b, o, rfl, hcc⟩ := (hc.later hbel) (by omega)
      have hck := hcc k hlt
      have hxb := HL.out.bd k hlt
      have hcur := own_get hown (k := xs.length - 1 - k) (by rw [turnK_len]; omega)
      have hfz := own_froz hown (xs.length - 1 - k)
      have hst := own_len (own_set hown (xs.length - 1 - k) (-xs.getD k 0)) (turnK_succ xs k hlt)
      have hek : ((xs.length : Int) - 1 - (k : Int)).toNat = xs.length - 1 - k := by omega
      obtain ⟨u, hu⟩ : ∃ u, u = (turnK xs k).getD (xs.length - 1 - k) 0 := ⟨_, rfl⟩
      obtain ⟨x, hx⟩ : ∃ x, x = xs.getD k 0 := ⟨_, rfl⟩
      rw [← hu] at hcur
      rw [← hx] at hck hxb hst
      have HS := hid hst
      clear hcc hst hu hown hx hc o2
      go_wp2_with fail
      go_roundw
      case rel => exact ⟨k + 1, by omega, by go_num, HS.out, hbel.setCell (Nat.le_refl _) _⟩
      case measure => simp [intOf]; omega
    · have hkl : k = xs.length := by omega
      subst hkl
      have HO := hid hown; clear hown
      go_wp2_with fail
      go_ret2
      exact ⟨_, _, rfl, own_len HO.out (turnK_all xs), hbel⟩

set_option maxRecDepth 100000 in
set_option maxHeartbeats 1000000 in
theorem spec_TurnLevels (A : Option Addr) (c : Nat) (xs : List Int) (w : World) (hl : xs.length ≤ 1048576) (hc : Cells w A xs) :
    Calls Try.prog 53 #[.slice A xs.length c] w fun e w' => ∃ A' c', e = .returned (.tuple #[.slice A' (turnF xs).length c', .bool (levB xs)]) ∧ Own w' w.heap.size A' c' (turnF xs) ∧ Below w.heap.size w w' := by
  obtain ⟨i0, hi, hz0, hz1, hz2⟩ := info_parts Try.infoInt
  cases hg : levB xs
  · rw [turnF_f hg]
    have HG := hid hg; clear hg
    go_enter Try.func53, Try.ntmps53
    go_wp2_with (go_at_call 86; refine (chGood_b _ _ _ _ hl hc _ HG.out).mono ?_; rintro e w' ⟨rfl, rfl⟩)
    go_ret2
    exact ⟨none, 0, rfl, own_nil _ _, Below.refl _ _⟩
  rw [turnF_t hg]
  have L := levB_iff.1 hg
  have h6 := L.hi
  have HL := hid L
  have HG := hid hg; clear hg L
  go_enter Try.func53, Try.ntmps53
  go_wp2_with (go_at_call 86; refine (chGood_b _ _ _ _ hl hc _ HG.out).mono ?_; rintro e w' ⟨rfl, rfl⟩)
  go_loopw [4, 11] (fun v i wr => ∃ k : Nat, k ≤ xs.length ∧ i = .int .i64 k ∧ (∃ ys, ys = (turnL xs).take k ∧ ys.length = k ∧ wr.ownsRow w.heap.size 3 1 v ys.length (IL ys)) ∧ Below w.heap.size w wr) (fun _ i _ => xs.length - (intOf i).toNat)
  case atStart => exact ⟨0, Nat.zero_le _, rfl, ⟨[], rfl, rfl, World.ownsRow_nil _ _ _ _⟩, Below.refl _ _⟩
  case round =>
    obtain ⟨k, hk, rfl, ⟨ys, hys, hyl, hown⟩, hbel⟩ := hrel
    have HY := hid hys; clear hys
    have HYL := hid hyl
    by_cases hlt : k < xs.length
    · obtain ⟨b, o, rfl, hcc⟩ := (hc.later hbel) (by omega)
      have hck := hcc (xs.length - 1 - k) (by omega)
      have hxb := HL.out.bd (xs.length - 1 - k) (by omega)
      have HT := hid (take_snoc (turnL xs) k (by rw [turnL_len]; exact hlt) _ (fnRow_get _ _ k hlt))
      have hek : ((xs.length : Int) - 1 - (k : Int)).toNat = xs.length - 1 - k := by omega
      have hyk : ys.length ≤ 6 := by omega
      obtain ⟨x, hx⟩ : ∃ x, x = xs.getD (xs.length - 1 - k) 0 := ⟨_, rfl⟩
      rw [← hx, ← HY.out] at HT
      rw [← hx] at hck hxb
      clear hcc hx hc hyl
      go_wp2_with (at_builtin; refine wpList_append_own _ rfl _ _ 22 rfl w.heap.size 3 i0 (.int .i64 0) 1 8 Try.underlying22 hi hz0 hz1 hz2 rfl (by decide) _ _ _ rfl (hown.alloc _) ⟨wr.heap.size, 0, none⟩ 1 1 [.int .i64 (-x)] rfl rfl one_at (one_cell _) (by unfold maxLen; omega) (by omega) (by have := hbel.size; simp; omega) ?_)
      intro v' w1 hown' hgrow _
      have hb1 : Below w.heap.size w w1 := (hbel.alloc hbel.size _).grown hgrow (by have := hbel.size; simp; omega) (fun q hq => (hown.lt q hq).1)
      have hown2 := own_snoc HT.out hown'
      clear hgrow hown hown'
      go_wp2_with fail
      go_roundw
      case rel => exact ⟨k + 1, by omega, by go_num, ⟨_, rfl, by rw [List.length_take, turnL_len]; omega, hown2⟩, hb1⟩
      case measure => simp [intOf]; omega
    · have hkl : k = xs.length := by omega
      subst hkl
      have hyy : ys = turnL xs := by rw [HY.out, List.take_of_length_le (by rw [turnL_len]; exact Nat.le_refl _)]
      subst hyy
      obtain ⟨A', c', rfl, ho⟩ := own_form hown rfl
      clear hown hyl
      go_wp2_with fail
      go_ret2
      exact ⟨A', c', rfl, ho, hbel⟩
end Go.Proofs.Ytabnhmjiegeldaa
