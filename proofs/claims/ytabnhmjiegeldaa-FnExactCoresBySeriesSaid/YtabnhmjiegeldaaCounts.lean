/-
  Contracts: the model's table of counted partitions.
-/
import Derived.Test.YtabnhmjiegeldaaCount
import Derived.Test.YtabnhmjiegeldaaRowsImpl
namespace Go.Proofs.Ytabnhmjiegeldaa
open Go.RowKit

def tF (m j : Nat) : Int := (T m j : Int)
def rowsT (n k : Nat) : List (List Int) := (List.range k).map fun m => rowF tF m (n + 1)
theorem rowsT_len (n k : Nat) : (rowsT n k).length = k := by simp [rowsT]
theorem rowsT_succ (n k : Nat) : rowsT n (k + 1) = rowsT n k ++ [rowF tF k (n + 1)] := by simp [rowsT, List.range_succ]
theorem rowsT_get (n k m : Nat) (h : m < k) : (rowsT n k).getD m [] = rowF tF m (n + 1) := by
  rw [List.getD_eq_getElem?_getD, rowsT, List.getElem?_map, List.getElem?_range h]; rfl
def part (ys : List Int) (k : Nat) : List Value := IL (ys.take k) ++ List.replicate (ys.length - k) (.int .i64 0)
theorem part_set (ys : List Int) (k : Nat) (hk : k < ys.length) : (part ys k).set k (.int .i64 (ys.getD k 0)) = part ys (k + 1) := by
  unfold part
  have hl : (IL (ys.take k)).length = k := by simp [IL]; omega
  rw [List.set_append_right _ _ (by omega), hl, Nat.sub_self]
  obtain ⟨m, hm⟩ : ∃ m, ys.length - k = m + 1 := ⟨ys.length - k - 1, by omega⟩
  rw [hm, show ys.length - (k + 1) = m by omega, List.replicate_succ, List.set_cons_zero, ← IL_snoc ys k hk, List.append_assoc]; rfl
theorem part_len (ys : List Int) (k : Nat) (hk : k ≤ ys.length) : (part ys k).length = ys.length := by simp [part, IL]; omega
theorem part_get (ys : List Int) (k j : Nat) (hj : j < k) (hk : k ≤ ys.length) : (part ys k)[j]? = some (.int .i64 (ys.getD j 0)) := by
  unfold part
  rw [List.getElem?_append_left (by simp [IL]; omega), IL_get _ j (by simp; omega), getD_take ys k j hj]
theorem part_full (ys : List Int) : part ys ys.length = IL ys := by simp [part]
theorem part_zero (ys : List Int) : part ys 0 = List.replicate ys.length (.int .i64 0) := by simp [part, IL]
theorem part_one (ys : List Int) (h : 0 < ys.length) (h0 : ys.getD 0 0 = 0) : part ys 1 = List.replicate ys.length (.int .i64 0) := by
  have := part_set ys 0 h
  rw [h0, part_zero] at this
  rw [← this]
  obtain ⟨m, hm⟩ : ∃ m, ys.length = m + 1 := ⟨ys.length - 1, by omega⟩
  rw [hm, List.replicate_succ, List.set_cons_zero]
theorem tF_get (m n j : Nat) (h : j < n + 1) : (rowF tF m (n + 1)).getD j 0 = T m j := rowF_get tF m (n + 1) j h

set_option maxRecDepth 100000 in
set_option maxHeartbeats 4000000 in
theorem ptCounts_any (n : Nat) (w : World) (hn : n ≤ 30) :
    Calls Try.prog 125 #[.int .i64 n] w fun e w' => ∃ A' c', e = .returned (.slice A' (rowsT n (n + 1)).length c') ∧ Own2 w' w.heap.size w'.heap.size A' c' (rowsT n (n + 1)) ∧ Below w.heap.size w w' := by
  obtain ⟨i1, hj, hy0, hy1, hy2⟩ := info_parts Try.infoInts
  have hmk := run_make_row' (P := Try.prog) 22 3 (.int .i64 0) 8 Try.underlying22 Try.infoInt rfl .i64 .i64 (n + 1) (by omega) (by omega)
  have ec : ((n + 1 : Nat) : Int) = (n : Int) + 1 := by omega
  rw [ec] at hmk
  clear ec
  go_enter Try.func125, Try.ntmps125
  go_wp2_with fail
  go_loopw [3, 4] (fun v i wr => ∃ m : Nat, m ≤ n + 1 ∧ i = .int .i64 m ∧ (∃ P C, Push wr w.heap.size v (rowsT n m) P C) ∧ Below w.heap.size w wr) (fun _ i _ => n + 1 - (intOf i).toNat)
  case atStart => exact ⟨0, Nat.zero_le _, rfl, ⟨_, _, push_nil _ _⟩, Below.refl _ _⟩
  case round =>
    obtain ⟨m, hm, rfl, ⟨P, C, hpush⟩, hbel⟩ := hrel
    obtain ⟨wo, rfl⟩ : ∃ wo : World, wo = wr := ⟨_, rfl⟩
    have HP := hid hpush; clear hpush
    have HRL := hid (rowsT_len n m)
    have hyl := rowF_len tF m (n + 1)
    have HYL := hid hyl; clear hyl
    by_cases hlt : m ≤ n
    · have hrow0 := World.ownsRow_lit (base := wo.heap.size) (e := 3) (size := 1) wo (madeCells #[.int .i64 0] (n + 1)) (n + 1) (Nat.le_refl _) (by unfold maxLen; omega) (by rw [size_madeCells]; omega)
      rw [toList_madeCells_one] at hrow0
      have hba : Below wo.heap.size wo (wo.alloc (.cells (madeCells #[.int .i64 0] (n + 1)) 3)) := (Below.refl _ _).alloc (Nat.le_refl _) _
      have HROW := hid hrow0; clear hrow0
      have HBA := hid hba; clear hba
      by_cases hz : m = 0
      · subst hz
        go_wp2_with fail
        go_loopw [20] (fun j wr => ∃ k : Nat, k ≤ n + 1 ∧ j = .int .i64 k ∧ wr.ownsRow wo.heap.size 3 1 (.slice (some ⟨wo.heap.size, 0, none⟩) (n + 1) (n + 1)) (n + 1) (part (rowF tF 0 (n + 1)) k) ∧ Below wo.heap.size wo wr) (fun j _ => n + 1 - (intOf j).toNat)
        case atStart => exact ⟨0, Nat.zero_le _, rfl, by rw [part_zero, HYL.out]; exact HROW.out, HBA.out⟩
        case round =>
          obtain ⟨k, hk, rfl, hown, hbi⟩ := hrel
          by_cases hkn : k < n + 1
          · obtain ⟨u, hu⟩ := cells_some hown hkn
            have hfz := World.ownsRow.frozenAt hown k
            have hst := (hown.stored k (.int .i64 1)).1
            have e := part_set (rowF tF 0 (n + 1)) k (by rw [HYL.out]; exact hkn)
            rw [tF_get 0 n k hkn, T_top k (by omega)] at e
            have e' : (part (rowF tF 0 (n + 1)) k).set k (Value.int .i64 1) = part (rowF tF 0 (n + 1)) (k + 1) := e
            rw [e'] at hst
            have HS := hid hst
            clear hst e e' hown
            go_wp2_with fail
            go_roundw
            case rel => exact ⟨k + 1, by omega, by go_num, HS.out, hbi.setCell (Nat.le_refl _) _⟩
            case measure => simp [intOf]; omega
          · have hkn2 : k = n + 1 := by omega
            subst hkn2
            have hfull : wr.ownsRow wo.heap.size 3 1 (.slice (some ⟨wo.heap.size, 0, none⟩) (n + 1) (n + 1)) (n + 1) (IL (rowF tF 0 (n + 1))) := by
              rw [← part_full, HYL.out]; exact hown
            have HFULL := hid hfull
            have HBI := hid hbi
            clear hfull hown hbi
            go_wp2_with fail
            obtain ⟨wq, rfl⟩ : ∃ wq : World, wq = wr := ⟨_, rfl⟩
            go_loopw [7] (fun j wr' => j = .int .i64 1 ∧ wq = wr') (fun _ _ => 0)
            case atStart => exact ⟨rfl, rfl⟩
            case round =>
              obtain ⟨rfl, rfl⟩ := hrel
              by_cases h1n : (1 : Int) ≤ (n : Int)
              · have hsz := HBI.out.size
                have hsz0 := hbel.size
                have hlen0 : (rowsT n 0).length = 0 := rowsT_len n 0
                have HL0 := hid hlen0; clear hlen0
                have hrl2 := rowF_len tF 0 (n + 1)
                have HR2 := hid hrl2; clear hrl2
                go_wp2_with (at_builtin; refine wpList_append_own _ rfl _ _ 33 rfl w.heap.size 22 i1 (.slice none 0 0) 1 24 Try.underlying33 hj hy0 hy1 hy2 rfl (by decide) _ _ _ rfl ((HP.out.below HBI.out).out.alloc _) ⟨wq.heap.size, 0, none⟩ 1 1 [.slice (some ⟨wo.heap.size, 0, none⟩) (n + 1) (n + 1)] rfl rfl one_at (one_cellS _ _ _) (by have := HL0.out; unfold maxLen; omega) (by have := HL0.out; omega) (by simp; omega) ?_)
                intro v' w1 hown' hgrow _
                have hb1 : Below w.heap.size w w1 := ((hbel.trans (HBI.out.mono hsz0)).alloc (by omega) _).grown hgrow (by simp; omega) (fun q hq => (HP.out.out.lt q hq).1)
                have hro : Own wq wo.heap.size (some ⟨wo.heap.size, 0, none⟩) (n + 1) (rowF tF 0 (n + 1)) := by unfold Own; rw [HR2.out]; exact HFULL.out
                have hp2 := HP.out.push HBI.out hro hsz0 (by rw [HR2.out]; exact hown') hgrow
                rw [← rowsT_succ n 0] at hp2
                have HP2 := hid hp2
                clear hown' hgrow hp2 hro
                go_wp2_with fail
                go_roundw
                case rel => exact ⟨0 + 1, by omega, by go_num, ⟨_, _, HP2.out⟩, hb1⟩
                case measure => first | (simp [intOf]; done) | (simp [intOf]; omega)
              · have hsz := HBI.out.size
                have hsz0 := hbel.size
                have hlen0 : (rowsT n 0).length = 0 := rowsT_len n 0
                have HL0 := hid hlen0; clear hlen0
                have hrl2 := rowF_len tF 0 (n + 1)
                have HR2 := hid hrl2; clear hrl2
                go_wp2_with (at_builtin; refine wpList_append_own _ rfl _ _ 33 rfl w.heap.size 22 i1 (.slice none 0 0) 1 24 Try.underlying33 hj hy0 hy1 hy2 rfl (by decide) _ _ _ rfl ((HP.out.below HBI.out).out.alloc _) ⟨wq.heap.size, 0, none⟩ 1 1 [.slice (some ⟨wo.heap.size, 0, none⟩) (n + 1) (n + 1)] rfl rfl one_at (one_cellS _ _ _) (by have := HL0.out; unfold maxLen; omega) (by have := HL0.out; omega) (by simp; omega) ?_)
                intro v' w1 hown' hgrow _
                have hb1 : Below w.heap.size w w1 := ((hbel.trans (HBI.out.mono hsz0)).alloc (by omega) _).grown hgrow (by simp; omega) (fun q hq => (HP.out.out.lt q hq).1)
                have hro : Own wq wo.heap.size (some ⟨wo.heap.size, 0, none⟩) (n + 1) (rowF tF 0 (n + 1)) := by unfold Own; rw [HR2.out]; exact HFULL.out
                have hp2 := HP.out.push HBI.out hro hsz0 (by rw [HR2.out]; exact hown') hgrow
                rw [← rowsT_succ n 0] at hp2
                have HP2 := hid hp2
                clear hown' hgrow hp2 hro
                go_wp2_with fail
                go_roundw
                case rel => exact ⟨0 + 1, by omega, by go_num, ⟨_, _, HP2.out⟩, hb1⟩
                case measure => first | (simp [intOf]; done) | (simp [intOf]; omega)
      · have hm1 : 1 ≤ m := by omega
        obtain ⟨gv, capv, hv3, hgvl⟩ : ∃ gv capv, u3 = .slice (some ⟨gv, 0, none⟩) m capv ∧ gv < wo.heap.size := by
          rcases HP.out.out.2 with ⟨_, h0⟩ | ⟨g, cap, cur, hv, _, hgg, _⟩
          · rw [HRL.out] at h0; omega
          · exact ⟨g, cap, by rw [hv, HRL.out], (Array.getElem?_eq_some_iff.1 hgg).1⟩
        subst hv3
        have hne : ((m : Int) == 0) = false := beq_eq_false_iff_ne.2 (by omega)
        have hgt : (0 : Int) < (m : Int) := by omega
        have hy0' : (rowF tF m (n + 1)).getD 0 0 = 0 := by rw [tF_get m n 0 (by omega), T_zero m (by omega), if_neg hz]; rfl
        have hp1 := part_one (rowF tF m (n + 1)) (by rw [HYL.out]; omega) hy0'
        have HP1 := hid hp1
        clear hp1 hy0'
        go_wp2_with fail
        go_loopw [7] (fun j wr => ∃ k : Nat, 1 ≤ k ∧ k ≤ n + 1 ∧ j = .int .i64 k ∧ wr.ownsRow wo.heap.size 3 1 (.slice (some ⟨wo.heap.size, 0, none⟩) (n + 1) (n + 1)) (n + 1) (part (rowF tF m (n + 1)) k) ∧ Below wo.heap.size wo wr) (fun j _ => n + 1 - (intOf j).toNat)
        case atStart => exact ⟨1, Nat.le_refl _, by omega, rfl, by rw [HP1.out, HYL.out]; exact HROW.out, HBA.out⟩
        case round =>
          obtain ⟨k, hk1, hk, rfl, hown, hbi⟩ := hrel
          by_cases hkn : k ≤ n
          · have hy := tF_get m n (k - 1) (by omega)
            have hc1 := World.ownsRow.cellAt hown (k - 1) (by omega)
            rw [part_get _ k (k - 1) (by omega) (by rw [HYL.out]; omega), hy] at hc1
            obtain ⟨u, hu⟩ := cells_some hown (show k < n + 1 by omega)
            have hfz := World.ownsRow.frozenAt hown k
            have hvb := T_bound m (by omega) (k - 1) (by omega)
            have hrec := T_rec m (by omega) (k - 1) (by omega)
            rw [show k - 1 + 1 = k by omega] at hrec
            have hset := part_set (rowF tF m (n + 1)) k (by rw [HYL.out]; omega)
            rw [tF_get m n k (by omega)] at hset
            obtain ⟨v0, hv0⟩ : ∃ v0, v0 = T m (k - 1) := ⟨_, rfl⟩
            rw [← hv0] at hc1 hvb hrec
            have hst1 := (hown.stored k (.int .i64 (v0 : Int))).1
            have hcur1 := World.ownsRow.cellAt hst1 k (by omega)
            rw [List.getElem?_set_self (by rw [part_len _ _ (by rw [HYL.out]; omega), HYL.out]; omega)] at hcur1
            have hfz1 := World.ownsRow.frozenAt hst1 k
            have hkt : ((k : Int) - 1).toNat = k - 1 := by omega
            have HST1 := hid hst1
            have HSET := hid hset
            have HREC := hid hrec
            clear hst1 hset hrec hy hv0 hown
            rcases Nat.lt_trichotomy k m with hkm | hkm | hkm
            · have hkeq : ((k : Int) == (m : Int)) = false := beq_eq_false_iff_ne.2 (by omega)
              have hklt : (k : Int) < (m : Int) := by omega
              have hmk0 : (0 : Int) ≤ (m : Int) - k := by omega
              have hmkl : (m : Int) - k < (m : Int) := by omega
              have hmkt : ((m : Int) - k).toNat = m - k := by omega
              have hwm : IntKind.i64.wrap ((m : Int) - k) = (m : Int) - k := IntWalk.i64_in _ (by omega)
              have hjl : m - k < (rowsT n m).length := by rw [HRL.out]; omega
              have hrl3 : ((rowsT n m).getD (m - k) []).length = n + 1 := by rw [rowsT_get n m (m - k) (by omega), rowF_len]
              have hpw := HP.out.below hbi
              have ho1 := hpw.out
              rw [HRL.out] at ho1
              have hoc := World.ownsRow.cellAt ho1 (m - k) (by omega)
              rw [RL_get P C _ _ hjl, hrl3] at hoc
              obtain ⟨gr, hgr, _, hgrl⟩ := (HP.out.row (m - k) hjl).at_ (by rw [hrl3]; omega)
              obtain ⟨b4, o4, e4, hc4⟩ := (hpw.row (m - k) hjl).cells.get (j := k) (by rw [hrl3]; omega)
              rw [hgr] at hoc e4
              have hbe : b4 = gr ∧ o4 = 0 := by injection e4 with e4; injection e4 with ea eb _; exact ⟨ea.symm, eb.symm⟩
              rw [hbe.1, hbe.2, Nat.zero_add, rowsT_get n m (m - k) (by omega), tF_get (m - k) n k (by omega)] at hc4
              have hxb := T_bound (m - k) (by omega) k (by omega)
              obtain ⟨x, hx⟩ : ∃ x, x = T (m - k) k := ⟨_, rfl⟩
              rw [← hx] at hc4 hxb
              have hoc1 : (wr.setCell ⟨wo.heap.size, k, none⟩ (.int .i64 (v0 : Int))).cell? ⟨gv, m - k, none⟩ = some (.slice (some ⟨gr, 0, none⟩) (n + 1) (C (m - k))) := (World.cell?_setCell_other wr _ _ _ (fun e => by injection e; omega)).trans hoc
              have hc41 : (wr.setCell ⟨wo.heap.size, k, none⟩ (.int .i64 (v0 : Int))).cell? ⟨gr, k, none⟩ = some (.int .i64 (x : Int)) := (World.cell?_setCell_other wr _ _ _ (fun e => by injection e; omega)).trans hc4
              have hwx : IntKind.i64.wrap ((v0 : Int) + x) = (v0 : Int) + x := IntWalk.i64_in _ (by omega)
              have hkn1 : (k : Int) < (n : Int) + 1 := by omega
              have hHX := hid hx
              have hsx := (HST1.out.stored k (.int .i64 ((v0 : Int) + x))).1
              rw [List.set_set] at hsx
              have hev : ((v0 : Int) + x) = ((T m k : Nat) : Int) := by have := HREC.out; rw [if_pos (show k ≤ m by omega)] at this; rw [this, ← hHX.out]; omega
              have hs2 := HSET.out
              rw [← hev] at hs2
              rw [hs2] at hsx
              have HS := hid hsx
              clear hsx hev hs2
              clear hpw ho1 hjl hrl3 hgr e4 hbe hx hc4 hoc
              go_wp2_with fail
              go_region
              all_goals go_wp2_with fail
              all_goals go_roundw
              case rel => exact ⟨k + 1, by omega, by omega, by go_num, HS.out, ((hbi.setCell (Nat.le_refl _) _).setCell (Nat.le_refl _) _).drew⟩
              case measure => simp [intOf]; omega
            · have hkeq : ((k : Int) == (m : Int)) = true := beq_iff_eq.2 (by omega)
              have HKM := hid hkm
              have hklt : (m : Int) ≤ (k : Int) := by omega
              have hwx : IntKind.i64.wrap ((v0 : Int) + 1) = (v0 : Int) + 1 := IntWalk.i64_in _ (by omega)
              have hsx := (HST1.out.stored k (.int .i64 ((v0 : Int) + 1))).1
              rw [List.set_set] at hsx
              have hev : ((v0 : Int) + 1) = ((T m k : Nat) : Int) := by have := HREC.out; rw [if_pos (show k ≤ m by omega), show m - k = 0 by omega, T_top k (by omega)] at this; rw [this]; omega
              have hs2 := HSET.out
              rw [← hev] at hs2
              rw [hs2] at hsx
              have HS := hid hsx
              clear hsx hev hs2
              clear hkm
              go_wp2_with fail
              go_roundw
              case rel => exact ⟨k + 1, by omega, by omega, by go_num, HS.out, (hbi.setCell (Nat.le_refl _) _).setCell (Nat.le_refl _) _⟩
              case measure => simp [intOf]; omega
            · have hkeq : ((k : Int) == (m : Int)) = false := beq_eq_false_iff_ne.2 (by omega)
              have hklt : (m : Int) ≤ (k : Int) := by omega
              have hsx := HST1.out
              have hev : (v0 : Int) = ((T m k : Nat) : Int) := by have := HREC.out; rw [if_neg (show ¬ k ≤ m by omega)] at this; rw [this]; omega
              have hsz1 := HSET.out
              rw [← hev] at hsz1
              rw [hsz1] at hsx
              have HS := hid hsx
              clear hsx hev hsz1
              go_wp2_with fail
              go_roundw
              case rel => exact ⟨k + 1, by omega, by omega, by go_num, HS.out, hbi.setCell (Nat.le_refl _) _⟩
              case measure => simp [intOf]; omega
          · have hkn2 : k = n + 1 := by omega
            subst hkn2
            have hfull : wr.ownsRow wo.heap.size 3 1 (.slice (some ⟨wo.heap.size, 0, none⟩) (n + 1) (n + 1)) (n + 1) (IL (rowF tF m (n + 1))) := by
              rw [← part_full, HYL.out]; exact hown
            have HFULL := hid hfull
            have HBI := hid hbi
            clear hfull hown hbi
            have hsz := HBI.out.size
            have hsz0 := hbel.size
            have hlen0 : (rowsT n m).length = m := rowsT_len n m
            have HL0 := hid hlen0; clear hlen0
            have hrl2 := rowF_len tF m (n + 1)
            have HR2 := hid hrl2; clear hrl2
            go_wp2_with (at_builtin; refine wpList_append_own _ rfl _ _ 33 rfl w.heap.size 22 i1 (.slice none 0 0) 1 24 Try.underlying33 hj hy0 hy1 hy2 rfl (by decide) _ _ _ rfl ((HP.out.below HBI.out).out.alloc _) ⟨wr.heap.size, 0, none⟩ 1 1 [.slice (some ⟨wo.heap.size, 0, none⟩) (n + 1) (n + 1)] rfl rfl one_at (one_cellS _ _ _) (by have := HL0.out; unfold maxLen; omega) (by have := HL0.out; omega) (by simp; omega) ?_)
            intro v' w1 hown' hgrow _
            have hb1 : Below w.heap.size w w1 := ((hbel.trans (HBI.out.mono hsz0)).alloc (by omega) _).grown hgrow (by simp; omega) (fun q hq => (HP.out.out.lt q hq).1)
            have hro : Own wr wo.heap.size (some ⟨wo.heap.size, 0, none⟩) (n + 1) (rowF tF m (n + 1)) := by unfold Own; rw [HR2.out]; exact HFULL.out
            have hp2 := HP.out.push HBI.out hro hsz0 (by rw [HR2.out]; exact hown') hgrow
            rw [← rowsT_succ n m] at hp2
            have HP2 := hid hp2
            clear hown' hgrow hp2 hro
            go_wp2_with fail
            go_roundw
            case rel => exact ⟨m + 1, by omega, by go_num, ⟨_, _, HP2.out⟩, hb1⟩
            case measure => first | (simp [intOf]; done) | (simp [intOf]; omega)
    · have hmn : m = n + 1 := by omega
      subst hmn
      obtain ⟨A', c', rfl, ho⟩ := HP.out.own2
      go_wp2_with fail
      go_ret
      exact ⟨A', c', rfl, ho, hbel⟩
end Go.Proofs.Ytabnhmjiegeldaa
