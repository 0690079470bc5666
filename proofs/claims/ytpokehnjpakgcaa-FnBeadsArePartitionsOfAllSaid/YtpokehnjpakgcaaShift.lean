/-
  Contracts: ShiftBeads of the program and of the model.
-/
import Derived.Test.YtpokehnjpakgcaaCB
namespace Go.Proofs.Ytpokehnjpakgcaa
open Go.RowKit

theorem bound_ShiftBeads (xs : List Int) (b : Int) : (shiftF xs b).length ≤ 1048576 := by
  unfold shiftF; split
  · rename_i h
    simp only [shiftOk, Bool.and_eq_true, decide_eq_true_eq] at h
    have := (goodB_iff.1 h.1).len
    rw [shiftL_len]; omega
  · simp
theorem shift_no {xs : List Int} {b : Int} (h : shiftOk xs b = false) : shiftF xs b = [] := by simp [shiftF, h]

set_option maxRecDepth 100000 in
set_option maxHeartbeats 1000000 in
theorem impl_ShiftBeads (A : Option Addr) (c : Nat) (xs : List Int) (b : Int) (w : World) (hl : xs.length ≤ 1048576) (hc : Cells w A xs) (_ : I64 b) :
    Calls Try.prog 10 #[.slice A xs.length c, .int .i64 b] w fun e w' => ∃ A' c', e = .returned (.tuple #[.slice A' (shiftF xs b).length c', .bool (shiftOk xs b)]) ∧ Own w' w.heap.size A' c' (shiftF xs b) ∧ Below w.heap.size w w' := by
  obtain ⟨i0, hi, hz0, hz1, hz2⟩ := info_parts Try.infoInt
  cases hg : goodB xs
  · have e1 : shiftOk xs b = false := by simp [shiftOk, hg]
    rw [shift_no e1, e1]; clear e1
    have HG := hid hg; clear hg
    go_enter Try.func10, Try.ntmps10
    go_wp2_with (go_at_call 9; refine (AreBeads_b _ _ _ _ hl hc _ HG.out).mono ?_; rintro e w' ⟨rfl, b1⟩)
    go_ret2
    exact ⟨none, 0, rfl, own_nil _ _, b1⟩
  by_cases h1 : b < 0
  · have e1 : shiftOk xs b = false := by simp [shiftOk, hg]; omega
    rw [shift_no e1, e1]; clear e1
    have HG := hid hg; clear hg
    go_enter Try.func10, Try.ntmps10
    go_wp2_with (go_at_call 9; refine (AreBeads_b _ _ _ _ hl hc _ HG.out).mono ?_; rintro e w' ⟨rfl, b1⟩)
    go_ret2
    exact ⟨none, 0, rfl, own_nil _ _, b1⟩
  by_cases h2 : 40 < b
  · have e1 : shiftOk xs b = false := by simp [shiftOk, hg]; omega
    rw [shift_no e1, e1]; clear e1
    have HG := hid hg; clear hg
    go_enter Try.func10, Try.ntmps10
    go_wp2_with (go_at_call 9; refine (AreBeads_b _ _ _ _ hl hc _ HG.out).mono ?_; rintro e w' ⟨rfl, b1⟩)
    go_ret2
    exact ⟨none, 0, rfl, own_nil _ _, b1⟩
  obtain ⟨m, rfl⟩ : ∃ m : Nat, b = m := ⟨b.toNat, by omega⟩
  have e1 : shiftOk xs m = goodB (shiftL xs m) := by simp [shiftOk, hg]; intro; omega
  have e2 : shiftF xs m = if goodB (shiftL xs m) then shiftL xs m else [] := by unfold shiftF; rw [e1, Int.toNat_natCast]
  rw [e1, e2]; clear e1 e2
  obtain ⟨fx, hfx⟩ : ∃ fx, fx = if goodB (shiftL xs m) = true then shiftL xs m else [] := ⟨_, rfl⟩
  rw [← hfx]
  have HFX := hid hfx; clear hfx
  obtain ⟨okx, hokx⟩ : ∃ okx, okx = goodB (shiftL xs m) := ⟨_, rfl⟩
  rw [← hokx]
  have HOK := hid hokx; clear hokx
  have G := goodB_iff.1 hg
  have hlen := G.len
  have HB := hid G.rise.bd
  have HG := hid hg; clear hg G
  go_enter Try.func10, Try.ntmps10
  go_wp2_with (first | (go_at_call 9; refine (AreBeads_b _ _ _ _ hl hc _ HG.out).mono ?_; rintro e w1 ⟨rfl, b1⟩) | (go_at_call 25; refine (countUp_any m _ (by omega)).mono ?_; rintro e w2 ⟨A2, c2, rfl, o2, b2⟩))
  have hc2 : Cells w2 A xs := (hc.below b1).below b2
  have z1 := b1.size
  have o2' : w2.ownsRow w.heap.size 3 1 (.slice A2 m c2) (shiftK xs m 0).length (IL (shiftK xs m 0)) := by
    rw [shiftK_zero, upTo_len]
    have h := o2.more (B' := w.heap.size) z1
    unfold Own at h; rw [upTo_len] at h; exact h
  have b12 := Below.next b1 b2
  clear o2 b2 b1
  go_loopw [6, 8, 24] (fun v _ i wr => ∃ k : Nat, k ≤ xs.length ∧ i = .int .i64 k ∧ wr.ownsRow w.heap.size 3 1 v (shiftK xs m k).length (IL (shiftK xs m k)) ∧ Below w.heap.size w wr) (fun _ _ i _ => xs.length - (intOf i).toNat)
  case atStart => exact ⟨0, Nat.zero_le _, rfl, o2', b12⟩
  case round =>
    obtain ⟨k, hk, rfl, hown, hbel⟩ := hrel
    have hkl := shiftK_len xs m k hk
    have HKL := hid hkl
    by_cases hlt : k < xs.length
    · obtain ⟨b, o, rfl, hcc⟩ := hc (by omega)
      have hck := hcc k hlt
      have hck' : wr.cell? ⟨b, o + k, none⟩ = some (.int .i64 (xs.getD k 0)) := by
        rw [← hck]; exact hbel.cell (World.block_lt_of_cell? w _ hck)
      have hxb := HB.out k hlt
      have HY := hid (shiftK_succ xs m k hlt)
      obtain ⟨x, hx⟩ : ∃ x, x = xs.getD k 0 := ⟨_, rfl⟩
      rw [← hx] at hck' hxb HY
      clear hcc hck hx o2'
      go_wp2_with (at_builtin; refine wpList_append_own _ rfl _ _ 22 rfl w.heap.size 3 i0 (.int .i64 0) 1 8 Try.underlying22 hi hz0 hz1 hz2 rfl (by decide) _ _ _ rfl (hown.alloc _) ⟨wr.heap.size, 0, none⟩ 1 1 [.int .i64 (x + m)] rfl rfl one_at (one_cell _) (by unfold maxLen; omega) (by omega) (by have := hbel.size; simp; omega) ?_)
      intro v' w3 hown' hgrow _
      have hb1 : Below w.heap.size w w3 := (hbel.alloc hbel.size _).grown hgrow (by have := hbel.size; simp; omega) (fun q hq => (hown.lt q hq).1)
      have hown2 := own_snoc HY.out (by rw [HKL.out]; exact hown')
      clear hgrow hown hown'
      go_wp2_with fail
      go_roundw
      case rel => exact ⟨k + 1, by omega, by go_num, hown2, hb1⟩
      case measure => simp [intOf]; omega
    · have hkl2 : k = xs.length := by omega
      subst hkl2
      rw [shiftK_all] at hown
      obtain ⟨A3, c3, rfl, o3⟩ := own_form' hown
      have hsl : (shiftL xs m).length ≤ 1048576 := by rw [shiftL_len]; omega
      clear hown o2' hkl
      cases hg2 : goodB (shiftL xs m)
      · have hfx : fx = [] := by rw [HFX.out, hg2]; rfl
        subst hfx
        have hokx : okx = false := by rw [HOK.out, hg2]
        subst hokx
        have HG2 := hid hg2; clear hg2
        go_wp2_with (go_at_call 9; refine (AreBeads_b _ _ _ _ hsl o3.cells _ HG2.out).mono ?_; rintro e w4 ⟨rfl, b4⟩)
        go_ret2
        exact ⟨none, 0, rfl, own_nil _ _, Below.next hbel b4⟩
      · have hfx : fx = shiftL xs m := by rw [HFX.out, hg2]; rfl
        subst hfx
        have hokx : okx = true := by rw [HOK.out, hg2]
        subst hokx
        have HG2 := hid hg2; clear hg2
        go_wp2_with (go_at_call 9; refine (AreBeads_b _ _ _ _ hsl o3.cells _ HG2.out).mono ?_; rintro e w4 ⟨rfl, b4⟩)
        go_ret2
        exact ⟨A3, c3, rfl, o3.below b4, Below.next hbel b4⟩

set_option maxRecDepth 100000 in
set_option maxHeartbeats 1000000 in
theorem spec_ShiftBeads (A : Option Addr) (c : Nat) (xs : List Int) (b : Int) (w : World) (hl : xs.length ≤ 1048576) (hc : Cells w A xs) (_ : I64 b) :
    Calls Try.prog 11 #[.slice A xs.length c, .int .i64 b] w fun e w' => ∃ A' c', e = .returned (.tuple #[.slice A' (shiftF xs b).length c', .bool (shiftOk xs b)]) ∧ Own w' w.heap.size A' c' (shiftF xs b) ∧ Below w.heap.size w w' := by
  obtain ⟨i0, hi, hz0, hz1, hz2⟩ := info_parts Try.infoInt
  cases hg : goodB xs
  · have e1 : shiftOk xs b = false := by simp [shiftOk, hg]
    rw [shift_no e1, e1]; clear e1
    have HG := hid hg; clear hg
    go_enter Try.func11, Try.ntmps11
    go_wp2_with (go_at_call 26; refine (abGood_b _ _ _ _ hl hc _ HG.out).mono ?_; rintro e w' ⟨rfl, b1⟩)
    go_ret2
    exact ⟨none, 0, rfl, own_nil _ _, b1⟩
  have G := goodB_iff.1 hg
  have hlen := G.len
  cases hin : inB 0 (40 - xs.length) b
  · have e1 : shiftOk xs b = false := by
      cases h : shiftOk xs b
      · rfl
      · simp only [shiftOk, Bool.and_eq_true, decide_eq_true_eq] at h
        have h3 := (goodB_iff.1 h.2.2.2).len
        rw [shiftL_len] at h3
        rw [inB_iff.2 (by omega)] at hin; cases hin
    rw [shift_no e1, e1]; clear e1
    have HG := hid hg; clear hg
    have HI := hid hin; clear hin
    go_enter Try.func11, Try.ntmps11
    go_wp2_with (first | (go_at_call 26; refine (abGood_b _ _ _ _ hl hc _ HG.out).mono ?_; rintro e w' ⟨rfl, b1⟩) | (go_at_call 22; refine (l1In_b _ _ _ _ _ HI.out).mono ?_; rintro e w' ⟨rfl, rfl⟩))
    go_ret2
    exact ⟨none, 0, rfl, own_nil _ _, b1⟩
  have hin2 := inB_iff.1 hin
  obtain ⟨m, rfl⟩ : ∃ m : Nat, b = m := ⟨b.toNat, by omega⟩
  have e1 : shiftOk xs m = goodB (shiftL xs m) := by simp [shiftOk, hg]; intro; omega
  have e2 : shiftF xs m = if goodB (shiftL xs m) then shiftL xs m else [] := by unfold shiftF; rw [e1, Int.toNat_natCast]
  rw [e1, e2]; clear e1 e2
  obtain ⟨fx, hfx⟩ : ∃ fx, fx = if goodB (shiftL xs m) = true then shiftL xs m else [] := ⟨_, rfl⟩
  rw [← hfx]
  have HFX := hid hfx; clear hfx
  obtain ⟨okx, hokx⟩ : ∃ okx, okx = goodB (shiftL xs m) := ⟨_, rfl⟩
  rw [← hokx]
  have HOK := hid hokx; clear hokx
  have HB := hid G.rise.bd
  have HG := hid hg; clear hg G
  have HI := hid hin; clear hin
  have hm : m ≤ 40 := by omega
  go_enter Try.func11, Try.ntmps11
  go_wp2_with (first | (go_at_call 26; refine (abGood_b _ _ _ _ hl hc _ HG.out).mono ?_; rintro e w1 ⟨rfl, b1⟩) | (go_at_call 22; refine (l1In_b _ _ _ _ _ HI.out).mono ?_; rintro e w' ⟨rfl, rfl⟩))
  go_loopw [6, 7] (fun v i wr => ∃ k : Nat, k ≤ m ∧ i = .int .i64 k ∧ wr.ownsRow w.heap.size 3 1 v (upTo k).length (IL (upTo k)) ∧ Below w.heap.size w wr) (fun _ i _ => m - (intOf i).toNat)
  case atStart => exact ⟨0, Nat.zero_le _, rfl, World.ownsRow_nil _ _ _ _, b1⟩
  case round =>
    obtain ⟨k, hk, rfl, hown, hbel⟩ := hrel
    have hkl := upTo_len k
    have HKL := hid hkl
    by_cases hlt : k < m
    · have HY := hid (upTo_succ k)
      go_wp2_with (at_builtin; refine wpList_append_own _ rfl _ _ 22 rfl w.heap.size 3 i0 (.int .i64 0) 1 8 Try.underlying22 hi hz0 hz1 hz2 rfl (by decide) _ _ _ rfl (hown.alloc _) ⟨wr.heap.size, 0, none⟩ 1 1 [.int .i64 (k : Int)] rfl rfl one_at (one_cell _) (by unfold maxLen; omega) (by omega) (by have := hbel.size; simp; omega) ?_)
      intro v' w3 hown' hgrow _
      have hb1 : Below w.heap.size w w3 := (hbel.alloc hbel.size _).grown hgrow (by have := hbel.size; simp; omega) (fun q hq => (hown.lt q hq).1)
      have hown2 := own_snoc HY.out (by rw [HKL.out]; exact hown')
      clear hgrow hown hown'
      go_wp2_with fail
      go_roundw
      case rel => exact ⟨k + 1, by omega, by go_num, hown2, hb1⟩
      case measure => simp [intOf]; omega
    · have hkm : k = m := by omega
      subst hkm
      rw [← shiftK_zero xs k] at hown
      go_wp2_with fail
      obtain ⟨wo, rfl⟩ : ∃ wo : World, wo = wr := ⟨_, rfl⟩
      go_loopw [6, 9, 32] (fun v _ i wi => ∃ j : Nat, j ≤ xs.length ∧ i = .int .i64 j ∧ wi.ownsRow w.heap.size 3 1 v (shiftK xs k j).length (IL (shiftK xs k j)) ∧ Below w.heap.size w wi) (fun _ _ i _ => xs.length - (intOf i).toNat)
      case atStart => exact ⟨0, Nat.zero_le _, rfl, hown, hbel⟩
      case round =>
        obtain ⟨j, hj, rfl, hown, hbel⟩ := hrel
        have hjl := shiftK_len xs k j hj
        have HKL := hid hjl
        by_cases hlt : j < xs.length
        · obtain ⟨b, o, rfl, hcc⟩ := hc (by omega)
          have hck := hcc j hlt
          have hck' : wr.cell? ⟨b, o + j, none⟩ = some (.int .i64 (xs.getD j 0)) := by
            rw [← hck]; exact hbel.cell (World.block_lt_of_cell? w _ hck)
          have hxb := HB.out j hlt
          have HY := hid (shiftK_succ xs k j hlt)
          obtain ⟨x, hx⟩ : ∃ x, x = xs.getD j 0 := ⟨_, rfl⟩
          rw [← hx] at hck' hxb HY
          clear hcc hck hx
          go_wp2_with (at_builtin; refine wpList_append_own _ rfl _ _ 22 rfl w.heap.size 3 i0 (.int .i64 0) 1 8 Try.underlying22 hi hz0 hz1 hz2 rfl (by decide) _ _ _ rfl (hown.alloc _) ⟨wr.heap.size, 0, none⟩ 1 1 [.int .i64 (x + k)] rfl rfl one_at (one_cell _) (by unfold maxLen; omega) (by omega) (by have := hbel.size; simp; omega) ?_)
          intro v' w3 hown' hgrow _
          have hb1 : Below w.heap.size w w3 := (hbel.alloc hbel.size _).grown hgrow (by have := hbel.size; simp; omega) (fun q hq => (hown.lt q hq).1)
          have hown2 := own_snoc HY.out (by rw [HKL.out]; exact hown')
          clear hgrow hown hown'
          go_wp2_with fail
          go_roundw
          case rel => exact ⟨j + 1, by omega, by go_num, hown2, hb1⟩
          case measure => simp [intOf]; omega
        · have hjx : j = xs.length := by omega
          subst hjx
          rw [shiftK_all] at hown
          obtain ⟨A3, c3, rfl, o3⟩ := own_form' hown
          have hsl : (shiftL xs k).length ≤ 1048576 := by rw [shiftL_len]; omega
          clear hown hjl
          cases hg2 : goodB (shiftL xs k)
          · have hfx : fx = [] := by rw [HFX.out, hg2]; rfl
            subst hfx
            have hokx : okx = false := by rw [HOK.out, hg2]
            subst hokx
            have HG2 := hid hg2; clear hg2
            go_wp2_with (go_at_call 26; refine (abGood_b _ _ _ _ hsl o3.cells _ HG2.out).mono ?_; rintro e w4 ⟨rfl, b4⟩)
            go_ret2
            exact ⟨none, 0, rfl, own_nil _ _, Below.next hbel b4⟩
          · have hfx : fx = shiftL xs k := by rw [HFX.out, hg2]; rfl
            subst hfx
            have hokx : okx = true := by rw [HOK.out, hg2]
            subst hokx
            have HG2 := hid hg2; clear hg2
            go_wp2_with (go_at_call 26; refine (abGood_b _ _ _ _ hsl o3.cells _ HG2.out).mono ?_; rintro e w4 ⟨rfl, b4⟩)
            go_ret2
            exact ⟨A3, c3, rfl, o3.below b4, Below.next hbel b4⟩
end Go.Proofs.Ytpokehnjpakgcaa
