/-
  Contracts: levels told by counts (both sides).
-/
import Derived.Test.YtabnhmjiegeldaaLevMath2
import Derived.Test.YtabnhmjiegeldaaLev
import Derived.Test.YtabnhmjiegeldaaCountF
namespace Go.Proofs.Ytabnhmjiegeldaa
open Go.RowKit

theorem ifLevels_t (A : Option Addr) (c : Nat) (xs : List Int) (w : World) (hl : xs.length ≤ 1048576) (hc : Cells w A xs) (h : levB xs = true) :
    Calls Try.prog 93 #[.slice A xs.length c] w fun e w' => e = .returned (.tuple #[.slice A xs.length c, .bool true]) ∧ w = w' := by
  have H := hid h; clear h
  go_enter Try.func93, Try.ntmps93
  go_wp2_with (go_at_call 28; refine (IsLevels_b _ _ _ _ hl hc _ H.out).mono ?_; rintro e w' ⟨rfl, rfl⟩)
  go_ret2
  exact ⟨rfl, rfl⟩
theorem ifLevels_f (A : Option Addr) (c : Nat) (xs : List Int) (w : World) (hl : xs.length ≤ 1048576) (hc : Cells w A xs) (h : levB xs = false) :
    Calls Try.prog 93 #[.slice A xs.length c] w fun e w' => e = .returned (.tuple #[.slice none 0 0, .bool false]) ∧ w = w' := by
  have H := hid h; clear h
  go_enter Try.func93, Try.ntmps93
  go_wp2_with (go_at_call 28; refine (IsLevels_b _ _ _ _ hl hc _ H.out).mono ?_; rintro e w' ⟨rfl, rfl⟩)
  go_ret2
  exact ⟨rfl, rfl⟩
/-- ifLevels of a row of the call's own. -/
theorem ifLevels_own {B : Nat} (A : Option Addr) (c : Nat) (xs : List Int) (w : World) (hl : xs.length ≤ 1048576) (ho : Own w B A c xs) :
    Calls Try.prog 93 #[.slice A xs.length c] w fun e w' => (∃ A' c', e = .returned (.tuple #[.slice A' (if levB xs then xs else []).length c', .bool (levB xs)]) ∧ Own w B A' c' (if levB xs then xs else [])) ∧ w = w' := by
  cases h : levB xs
  · exact (ifLevels_f A c xs w hl ho.cells h).mono fun e w' ⟨he, hw⟩ => ⟨⟨none, 0, by simpa using he, by simpa using own_nil w B⟩, hw⟩
  · exact (ifLevels_t A c xs w hl ho.cells h).mono fun e w' ⟨he, hw⟩ => ⟨⟨A, c, by simpa using he, by simpa using ho⟩, hw⟩

set_option maxRecDepth 100000 in
set_option maxHeartbeats 1000000 in
theorem impl_LevelsFromCounts (A : Option Addr) (c : Nat) (xs : List Int) (w : World) (hl : xs.length ≤ 1048576) (hc : Cells w A xs) :
    Calls Try.prog 52 #[.slice A xs.length c] w fun e w' => ∃ A' c', e = .returned (.tuple #[.slice A' (fromCF xs).length c', .bool (fromB xs)]) ∧ Own w' w.heap.size A' c' (fromCF xs) ∧ Below w.heap.size w w' := by
  cases hr : inB 2 6 (xs.length : Int)
  · have hb := fromB_c (cntOk_len hr)
    rw [fromCF_f hb, hb]
    have HR := hid hr; clear hr hb
    go_enter Try.func52, Try.ntmps52
    go_wp2_with (go_at_call 87; refine (hasRunners_b _ _ _ HR.out).mono ?_; rintro e w' ⟨rfl, rfl⟩)
    go_ret2
    exact ⟨none, 0, rfl, own_nil _ _, Below.refl _ _⟩
  have h6 := (inB_iff.1 hr).2
  have h2 := (inB_iff.1 hr).1
  have HR := hid hr; clear hr
  have hmk := run_make_row' (P := Try.prog) 22 3 (.int .i64 0) 8 Try.underlying22 Try.infoInt rfl .i64 .i64 xs.length (by omega) (by omega)
  obtain ⟨w2, hw2⟩ : ∃ w2, w2 = w.alloc (.cells (madeCells #[.int .i64 0] xs.length) 3) := ⟨_, rfl⟩
  have o2 : Own w2 w.heap.size (some ⟨w.heap.size, 0, none⟩) xs.length (rowK xs.length (diffF xs) 0) := by rw [hw2, rowK_zero]; exact own_made w xs.length (by omega)
  have b2 : Below w.heap.size w w2 := by rw [hw2]; exact (Below.refl _ _).alloc (Nat.le_refl _) _
  have HW := hid hw2; clear hw2
  go_enter Try.func52, Try.ntmps52
  go_wp2_with (go_at_call 87; refine (hasRunners_b _ _ _ HR.out).mono ?_; rintro e w' ⟨rfl, rfl⟩)
  go_loop [17] (fun i => ∃ k : Nat, k ≤ xs.length ∧ i = .int .i64 k ∧ (xs.take k).all (inB 0 30) = true) (fun i => xs.length - (intOf i).toNat)
  case atStart => exact ⟨0, Nat.zero_le _, rfl, by simp⟩
  case round =>
    obtain ⟨k, hk, rfl, hall⟩ := hrel
    have HA := hid hall; clear hall
    by_cases hlt : k < xs.length
    · obtain ⟨b, o, rfl, hcc⟩ := hc (by omega)
      have hck := hcc k hlt
      clear hcc hc
      obtain ⟨x, hx⟩ : ∃ x, x = xs.getD k 0 := ⟨_, rfl⟩
      rw [← hx] at hck
      have HX := hid hx; clear hx
      cases hin : okN x
      · have HI := hid hin; clear hin
        have hb := fromB_c (cntOk_all (all_take_false (inB 0 30) xs k hlt (by rw [← HX.out]; exact HI.out)))
        have HB := hid hb
        clear hb
        go_wp2_with (go_at_call 103; refine (isCellNumber_b _ _ _ HI.out).mono ?_; rintro e w' ⟨rfl, rfl⟩)
        go_ret2
        exact ⟨none, 0, by rw [fromCF_f HB.out, HB.out]; rfl, by rw [fromCF_f HB.out]; exact own_nil _ _, Below.refl _ _⟩
      · have HI := hid hin; clear hin
        go_wp2_with (go_at_call 103; refine (isCellNumber_b _ _ _ HI.out).mono ?_; rintro e w' ⟨rfl, rfl⟩)
        go_round
        case rel => exact ⟨k + 1, by omega, by go_num, by rw [all_take_succ _ _ _ hlt, HA.out, ← HX.out]; exact HI.out⟩
        case measure => simp [intOf]; omega
    · have hkl : k = xs.length := by omega
      subst hkl
      rw [List.take_of_length_le (Nat.le_refl _)] at HA
      have hb := fromB_l HR.out HA.out
      have HB := hid hb; clear hb
      go_wp2_with fail
      rw [← HW.out]
      go_loopw [29] (fun i wr => ∃ k : Nat, k ≤ xs.length ∧ i = .int .i64 k ∧ Own wr w.heap.size (some ⟨w.heap.size, 0, none⟩) xs.length (rowK xs.length (diffF xs) k) ∧ Below w.heap.size w wr) (fun i _ => xs.length - (intOf i).toNat)
      case atStart => exact ⟨0, Nat.zero_le _, rfl, o2, b2⟩
      case round =>
        obtain ⟨k, hk, rfl, hown, hbel⟩ := hrel
        by_cases hlt : k < xs.length
        · obtain ⟨b, o, rfl, hcc⟩ := (hc.later hbel) (by omega)
          have hck := hcc k hlt
          have hmlt : (k + 1) % xs.length < xs.length := Nat.mod_lt _ (by omega)
          have hck1 := hcc ((k + 1) % xs.length) hmlt
          have hxb := all_bd HA.out k hlt
          have hyb := all_bd HA.out ((k + 1) % xs.length) hmlt
          have htm : Int.tmod ((k : Int) + 1) (xs.length : Int) = (((k + 1) % xs.length : Nat) : Int) := by rfl
          have hcur := own_get hown (k := k) (by rw [rowK_len]; exact hlt)
          have hfz := own_froz hown k
          have hst := own_len (own_set hown k (diffF xs k)) (rowK_succ xs.length (diffF xs) k)
          rw [show diffF xs k = xs.getD k 0 - xs.getD ((k + 1) % xs.length) 0 from rfl] at hst
          obtain ⟨u, hu⟩ : ∃ u, u = (rowK xs.length (diffF xs) k).getD k 0 := ⟨_, rfl⟩
          obtain ⟨x, hx⟩ : ∃ x, x = xs.getD k 0 := ⟨_, rfl⟩
          obtain ⟨m, hm⟩ : ∃ m, m = (k + 1) % xs.length := ⟨_, rfl⟩
          rw [← hm] at hck1 hyb htm hst hmlt
          obtain ⟨y, hy⟩ : ∃ y, y = xs.getD m 0 := ⟨_, rfl⟩
          rw [← hu] at hcur
          rw [← hx] at hck hxb hst
          rw [← hy] at hck1 hyb hst
          have HS := hid hst
          clear hcc hst hu hown hx hc o2 hm hy
          go_wp2_with fail
          go_roundw
          case rel => exact ⟨k + 1, by omega, by go_num, HS.out, hbel.setCell (Nat.le_refl _) _⟩
          case measure => simp [intOf]; omega
        · have hkl : k = xs.length := by omega
          subst hkl
          have ho := own_len hown (rowK_all xs.length (diffF xs))
          have hfc : fromCF xs = if levB (diffL xs) then diffL xs else [] := by unfold fromCF; rw [HB.out]
          have hfb := HB.out
          have hif := ifLevels_own (some ⟨w.heap.size, 0, none⟩) xs.length (diffL xs) wr (by rw [diffL_len]; omega) ho
          rw [diffL_len] at hif
          obtain ⟨r, hre⟩ : ∃ r, r = if levB (diffL xs) then diffL xs else [] := ⟨_, rfl⟩
          obtain ⟨q, hqe⟩ : ∃ q, q = levB (diffL xs) := ⟨_, rfl⟩
          rw [← hre] at hif hfc
          rw [← hqe] at hif hfb
          have HFC := hid hfc
          have HFB := hid hfb
          have HIF := hid hif
          clear hown ho hif hfc hre hqe hfb
          go_wp2_with (go_at_call 93; refine HIF.out.mono ?_; rintro e w' ⟨⟨A', c', rfl, ho⟩, rfl⟩)
          go_ret2
          exact ⟨A', c', by rw [HFC.out, HFB.out]; first | done | rfl, by rw [HFC.out]; exact ho, hbel⟩

set_option maxRecDepth 100000 in
set_option maxHeartbeats 1000000 in
theorem spec_LevelsFromCounts (A : Option Addr) (c : Nat) (xs : List Int) (w : World) (hl : xs.length ≤ 1048576) (hc : Cells w A xs) :
    Calls Try.prog 51 #[.slice A xs.length c] w fun e w' => ∃ A' c', e = .returned (.tuple #[.slice A' (fromCF xs).length c', .bool (fromB xs)]) ∧ Own w' w.heap.size A' c' (fromCF xs) ∧ Below w.heap.size w w' := by
  obtain ⟨i0, hi, hz0, hz1, hz2⟩ := info_parts Try.infoInt
  cases hr : inB 2 6 (xs.length : Int)
  · have hb := fromB_c (cntOk_len hr)
    rw [fromCF_f hb, hb]
    have HR := hid hr; clear hr hb
    go_enter Try.func51, Try.ntmps51
    go_wp2_with (go_at_call 89; refine (chRunners_b _ _ _ HR.out).mono ?_; rintro e w' ⟨rfl, rfl⟩)
    go_ret2
    exact ⟨none, 0, rfl, own_nil _ _, Below.refl _ _⟩
  have h6 := (inB_iff.1 hr).2
  have h2 := (inB_iff.1 hr).1
  cases ha : xs.all (inB 0 30)
  · have hb := fromB_c (cntOk_all ha)
    rw [fromCF_f hb, hb]
    have HR := hid hr; clear hr hb
    have HA := hid ha; clear ha
    go_enter Try.func51, Try.ntmps51
    go_wp2_with (first | (go_at_call 89; refine (chRunners_b _ _ _ HR.out).mono ?_; rintro e w' ⟨rfl, rfl⟩) | (go_at_call 114; refine (l1All_b _ _ _ _ _ _ hl hc _ HA.out).mono ?_; rintro e w' ⟨rfl, rfl⟩))
    go_ret2
    exact ⟨none, 0, rfl, own_nil _ _, Below.refl _ _⟩
  have HR := hid hr; clear hr
  have HA := hid ha; clear ha
  go_enter Try.func51, Try.ntmps51
  go_wp2_with (first | (go_at_call 89; refine (chRunners_b _ _ _ HR.out).mono ?_; rintro e w' ⟨rfl, rfl⟩) | (go_at_call 114; refine (l1All_b _ _ _ _ _ _ hl hc _ HA.out).mono ?_; rintro e w' ⟨rfl, rfl⟩))
  go_loopw [4, 18] (fun v i wr => ∃ k : Nat, k ≤ xs.length ∧ i = .int .i64 k ∧ (∃ ys, ys = (diffL xs).take k ∧ ys.length = k ∧ wr.ownsRow w.heap.size 3 1 v ys.length (IL ys)) ∧ Below w.heap.size w wr) (fun _ i _ => xs.length - (intOf i).toNat)
  case atStart => exact ⟨0, Nat.zero_le _, rfl, ⟨[], rfl, rfl, World.ownsRow_nil _ _ _ _⟩, Below.refl _ _⟩
  case round =>
    obtain ⟨k, hk, rfl, ⟨ys, hys, hyl, hown⟩, hbel⟩ := hrel
    have HY := hid hys; clear hys
    have HYL := hid hyl
    by_cases hlt : k < xs.length
    · obtain ⟨b, o, rfl, hcc⟩ := (hc.later hbel) (by omega)
      have hck := hcc k hlt
      have hmlt : (k + 1) % xs.length < xs.length := Nat.mod_lt _ (by omega)
      have hck1 := hcc ((k + 1) % xs.length) hmlt
      have hxb := all_bd HA.out k hlt
      have hyb := all_bd HA.out ((k + 1) % xs.length) hmlt
      have htm : Int.tmod ((k : Int) + 1) (xs.length : Int) = (((k + 1) % xs.length : Nat) : Int) := by rfl
      have HT := hid (take_snoc (diffL xs) k (by rw [diffL_len]; exact hlt) _ (fnRow_get _ _ k hlt))
      rw [show diffF xs k = xs.getD k 0 - xs.getD ((k + 1) % xs.length) 0 from rfl] at HT
      have hyk : ys.length ≤ 6 := by omega
      obtain ⟨x, hx⟩ : ∃ x, x = xs.getD k 0 := ⟨_, rfl⟩
      obtain ⟨m, hm⟩ : ∃ m, m = (k + 1) % xs.length := ⟨_, rfl⟩
      rw [← hm] at hck1 hyb htm HT hmlt
      obtain ⟨y, hy⟩ : ∃ y, y = xs.getD m 0 := ⟨_, rfl⟩
      rw [← hx, ← hy, ← HY.out] at HT
      rw [← hx] at hck hxb
      rw [← hy] at hck1 hyb
      clear hcc hx hc hyl hm hy
      go_wp2_with (at_builtin; refine wpList_append_own _ rfl _ _ 22 rfl w.heap.size 3 i0 (.int .i64 0) 1 8 Try.underlying22 hi hz0 hz1 hz2 rfl (by decide) _ _ _ rfl (hown.alloc _) ⟨wr.heap.size, 0, none⟩ 1 1 [.int .i64 (x - y)] rfl rfl one_at (one_cell _) (by unfold maxLen; omega) (by omega) (by have := hbel.size; simp; omega) ?_)
      intro v' w1 hown' hgrow _
      have hb1 : Below w.heap.size w w1 := (hbel.alloc hbel.size _).grown hgrow (by have := hbel.size; simp; omega) (fun q hq => (hown.lt q hq).1)
      have hown2 := own_snoc HT.out hown'
      clear hgrow hown hown'
      go_wp2_with fail
      go_roundw
      case rel => exact ⟨k + 1, by omega, by go_num, ⟨_, rfl, by rw [List.length_take, diffL_len]; omega, hown2⟩, hb1⟩
      case measure => simp [intOf]; omega
    · have hkl : k = xs.length := by omega
      subst hkl
      have hyy : ys = diffL xs := by rw [HY.out, List.take_of_length_le (by rw [diffL_len]; exact Nat.le_refl _)]
      subst hyy
      obtain ⟨A', c', rfl, ho⟩ := own_form hown rfl
      have hfb := fromB_l HR.out HA.out
      cases hg : levB (diffL xs)
      · have HG := hid hg
        have HF := hid (hfb.trans hg)
        clear hown hyl hg hfb
        go_wp2_with (go_at_call 86; refine (chGood_b _ _ _ _ (by rw [HYL.out]; omega) ho.cells _ HG.out).mono ?_; rintro e w' ⟨rfl, rfl⟩)
        go_ret2
        exact ⟨none, 0, by rw [fromCF_f HF.out, HF.out]; rfl, by rw [fromCF_f HF.out]; exact own_nil _ _, hbel⟩
      · have HG := hid hg
        have HF := hid (hfb.trans hg)
        clear hown hyl hg hfb
        go_wp2_with (go_at_call 86; refine (chGood_b _ _ _ _ (by rw [HYL.out]; omega) ho.cells _ HG.out).mono ?_; rintro e w' ⟨rfl, rfl⟩)
        go_ret2
        exact ⟨A', c', by rw [fromCF_t HF.out, HF.out]; first | done | rfl, by rw [fromCF_t HF.out]; exact ho, hbel⟩
end Go.Proofs.Ytabnhmjiegeldaa
