/-
  Contracts: what is left without a rim hook (the model's list; the program's rows without cells).
-/
import Derived.Test.YtblkmomcdchdoaaCC
import Derived.Test.YtblkmomcdchdoaaCB
import Derived.Test.YtblkmomcdchdoaaCA
namespace Go.Proofs.Ytblkmomcdchdoaa
open Go.RowKit

set_option maxRecDepth 100000 in
set_option maxHeartbeats 2000000 in
theorem ptWithout_any (A : Option Addr) (c : Nat) (xs : List Int) (r k low : Nat) (w : World) (R : RimOK xs r k low) (hc : Cells w A xs) :
    Calls Try.prog 77 #[.slice A xs.length c, .int .i64 r, .int .i64 k] w fun e w' => ∃ A' c', e = .returned (.slice A' (outL xs r k low).length c') ∧ Own w' w.heap.size A' c' (outL xs r k low) ∧ Below w.heap.size w w' := by
  obtain ⟨i0, hi, hz0, hz1, hz2⟩ := info_parts Try.infoInt
  have G := R.good
  have hlen := G.len
  have hlow := R.low_lt
  have hrl := R.r_le
  have hkl := R.tall r hrl
  have hkc : k < (cols xs).length := col_lt G (by omega) hkl
  have hck : (cols xs).getD k 0 = (low : Int) + 1 := by rw [cols_get xs k (by rw [cols_len] at hkc; exact hkc), R.col]
  have hx30 := R.le30 hrl
  have HR := hid R
  have HG := hid G
  clear R G
  have hw1 : IntKind.i64.wrap ((low : Int) + 1 - 1) = low := by rw [IntWalk.i64_in _ (by omega)]; omega
  go_enter Try.func77, Try.ntmps77
  go_wp2_with (go_at_call 65; refine (ptTurn_any _ _ _ _ HG.out hc).mono ?_; rintro e w1 ⟨A1, c1, rfl, o1, b1⟩; obtain ⟨b3, o3, rfl, hcol⟩ := o1.cells.get hkc; rw [hck] at hcol)
  go_loopw [8, 9, 10, 19, 24, 39] (fun v _ _ i _ _ wr => ∃ j : Nat, j ≤ xs.length ∧ i = .int .i64 j ∧ wr.ownsRow w.heap.size 3 1 v (outK xs r k low j).length (IL (outK xs r k low j)) ∧ Below w.heap.size w wr) (fun _ _ _ i _ _ _ => xs.length - (intOf i).toNat)
  case atStart => exact ⟨0, Nat.zero_le _, rfl, World.ownsRow_nil _ _ _ _, b1⟩
  case round =>
    obtain ⟨j, hj, rfl, hown, hbel⟩ := hrel
    have hol := outK_len xs r k low j
    by_cases hlt : j < xs.length
    · obtain ⟨b, o, rfl, hcc⟩ := hc.later hbel (by omega)
      have hcj := hcc j hlt
      have hxj := HG.out.pos j hlt
      have hxj2 := HG.out.le j hlt
      have hrp := HR.out.rest_pos hlt
      have HY := hid (outK_yes xs r k low j hlt)
      have HN := hid (outK_no xs r k low j hlt)
      by_cases h1 : r ≤ j ∧ j < low
      · have hn := hcc (j + 1) (by omega)
        have hv : rest xs r k low j = xs.getD (j + 1) 0 - 1 := by unfold rest; rw [if_pos (by omega), HR.out.fr_up (by omega)]
        have hnb := HG.out.pos (j + 1) (by omega)
        have hnb2 := HG.out.le (j + 1) (by omega)
        rw [hv] at HY HN hrp
        obtain ⟨h1a, h1b⟩ := h1
        obtain ⟨x, hx⟩ : ∃ x, x = xs.getD j 0 := ⟨_, rfl⟩
        obtain ⟨y, hy⟩ : ∃ y, y = xs.getD (j + 1) 0 := ⟨_, rfl⟩
        rw [← hx] at hcj hxj hxj2
        rw [← hy] at hn hnb hnb2 HY HN hrp
        have hn' : wr.cell? ⟨b, o + (j + 1), none⟩ = some (.int .i64 y) := hn
        clear hcc hx hy hv hcol o1
        by_cases hpos : 0 < y - 1
        · go_wp2_with (at_builtin; refine wpList_append_own _ rfl _ _ 22 rfl w.heap.size 3 i0 (.int .i64 0) 1 8 Try.underlying22 hi hz0 hz1 hz2 rfl (by decide) _ _ _ rfl (hown.alloc _) ⟨wr.heap.size, 0, none⟩ 1 1 [.int .i64 (y - 1)] rfl rfl one_at (one_cell _) (by unfold maxLen; omega) (by omega) (by have := hbel.size; simp; omega) ?_)
          intro v' w3 hown' hgrow _
          have hb1 : Below w.heap.size w w3 := (hbel.alloc hbel.size _).grown hgrow (by have := hbel.size; simp; omega) (fun q hq => (hown.lt q hq).1)
          have hown2 := own_snoc (HY.out hpos) hown'
          clear hgrow hown hown'
          go_wp2_with fail
          go_roundw
          case rel => exact ⟨j + 1, by omega, by go_num, hown2, hb1⟩
          case measure => simp [intOf]; omega
        · rw [← HN.out hpos] at hown
          go_wp2_with fail
          go_roundw
          case rel => exact ⟨j + 1, by omega, by go_num, hown, hbel⟩
          case measure => simp [intOf]; omega
      · by_cases h2 : j = low
        · have hv : rest xs r k low j = (k : Int) := by unfold rest; rw [if_pos (by omega), h2, HR.out.fr_low]
          rw [hv] at HY HN hrp
          have hnl : ¬ (low : Int) < (low : Int) := by omega
          have hlr2 : (r : Int) ≤ low := by omega
          obtain ⟨x, hx⟩ : ∃ x, x = xs.getD j 0 := ⟨_, rfl⟩
          rw [← hx] at hcj hxj hxj2
          clear hcc hx hv hcol o1 h1
          subst h2
          by_cases hpos : (0 : Int) < k
          · go_wp2_with (at_builtin; refine wpList_append_own _ rfl _ _ 22 rfl w.heap.size 3 i0 (.int .i64 0) 1 8 Try.underlying22 hi hz0 hz1 hz2 rfl (by decide) _ _ _ rfl (hown.alloc _) ⟨wr.heap.size, 0, none⟩ 1 1 [.int .i64 (k : Int)] rfl rfl one_at (one_cell _) (by unfold maxLen; omega) (by omega) (by have := hbel.size; simp; omega) ?_)
            intro v' w3 hown' hgrow _
            have hb1 : Below w.heap.size w w3 := (hbel.alloc hbel.size _).grown hgrow (by have := hbel.size; simp; omega) (fun q hq => (hown.lt q hq).1)
            have hown2 := own_snoc (HY.out hpos) hown'
            clear hgrow hown hown'
            go_wp2_with fail
            go_roundw
            case rel => exact ⟨j + 1, by omega, by go_num, hown2, hb1⟩
            case measure => simp [intOf]; omega
          · rw [← HN.out hpos] at hown
            go_wp2_with fail
            go_roundw
            case rel => exact ⟨j + 1, by omega, by go_num, hown, hbel⟩
            case measure => simp [intOf]; omega
        · have hv : rest xs r k low j = xs.getD j 0 := by unfold rest; rw [if_neg (by omega)]
          rw [hv] at HY HN hrp
          have hj2 : ((j : Int) == (low : Int)) = false := beq_eq_false_iff_ne.2 (by omega)
          obtain ⟨x, hx⟩ : ∃ x, x = xs.getD j 0 := ⟨_, rfl⟩
          rw [← hx] at hcj hxj hxj2 HY HN hrp
          have hpos : 0 < x := by omega
          clear hcc hx hv hcol o1
          by_cases hjr : j < r
          · go_wp2_with (at_builtin; refine wpList_append_own _ rfl _ _ 22 rfl w.heap.size 3 i0 (.int .i64 0) 1 8 Try.underlying22 hi hz0 hz1 hz2 rfl (by decide) _ _ _ rfl (hown.alloc _) ⟨wr.heap.size, 0, none⟩ 1 1 [.int .i64 x] rfl rfl one_at (one_cell _) (by unfold maxLen; omega) (by omega) (by have := hbel.size; simp; omega) ?_)
            intro v' w3 hown' hgrow _
            have hb1 : Below w.heap.size w w3 := (hbel.alloc hbel.size _).grown hgrow (by have := hbel.size; simp; omega) (fun q hq => (hown.lt q hq).1)
            have hown2 := own_snoc (HY.out hpos) hown'
            clear hgrow hown hown'
            go_wp2_with fail
            go_roundw
            case rel => exact ⟨j + 1, by omega, by go_num, hown2, hb1⟩
            case measure => simp [intOf]; omega
          · have hjl : low < j := by omega
            go_wp2_with (at_builtin; refine wpList_append_own _ rfl _ _ 22 rfl w.heap.size 3 i0 (.int .i64 0) 1 8 Try.underlying22 hi hz0 hz1 hz2 rfl (by decide) _ _ _ rfl (hown.alloc _) ⟨wr.heap.size, 0, none⟩ 1 1 [.int .i64 x] rfl rfl one_at (one_cell _) (by unfold maxLen; omega) (by omega) (by have := hbel.size; simp; omega) ?_)
            intro v' w3 hown' hgrow _
            have hb1 : Below w.heap.size w w3 := (hbel.alloc hbel.size _).grown hgrow (by have := hbel.size; simp; omega) (fun q hq => (hown.lt q hq).1)
            have hown2 := own_snoc (HY.out hpos) hown'
            clear hgrow hown hown'
            go_wp2_with fail
            go_roundw
            case rel => exact ⟨j + 1, by omega, by go_num, hown2, hb1⟩
            case measure => simp [intOf]; omega
    · have hjl : j = xs.length := by omega
      subst hjl
      rw [outK_all] at hown
      obtain ⟨A', c', rfl, ho⟩ := own_form hown rfl
      clear hown
      go_wp2_with fail
      go_ret
      exact ⟨A', c', rfl, ho, hbel⟩

set_option maxHeartbeats 400000 in
theorem noEmpty_any (g c : Nat) (B : Nat) (ys : List Int) (xs : List Int) (r k low : Nat) (w : World) (R : RimOK xs r k low) (hys : ys = restL xs r k low) (ho : Own w B (some ⟨g, 0, none⟩) c ys) :
    Calls Try.prog 79 #[.slice (some ⟨g, 0, none⟩) ys.length c] w fun e w' => e = .returned (.slice (some ⟨g, 0, none⟩) (outL xs r k low).length c) ∧ Own w B (some ⟨g, 0, none⟩) c (outL xs r k low) ∧ w = w' := by
  have hyl : ys.length = xs.length := by rw [hys, restL_len]
  have hlen := R.good.len
  have HR := hid R
  have hcap : ys.length ≤ c := by
    rcases ho.2 with ⟨hv, _⟩ | ⟨g', cap, cur, hv, _, _, hn, _⟩
    · simp at hv
    · have : c = cap := by injection hv
      omega
  have HYS := hid hys
  clear R hys
  go_enter Try.func79, Try.ntmps79
  go_wp2_with fail
  go_loop [3] (fun i => ∃ m : Nat, m ≤ xs.length ∧ i = .int .i64 m ∧ Hid (∀ j, m ≤ j → j < xs.length → rest xs r k low j = 0)) (fun i => (intOf i).toNat)
  case atStart => exact ⟨xs.length, Nat.le_refl _, rfl, hid fun j h1 h2 => by omega⟩
  case round =>
    obtain ⟨m, hm, rfl, HZ⟩ := hrel
    by_cases hgo : 0 < m ∧ rest xs r k low (m - 1) = 0
    · obtain ⟨hm0, hz⟩ := hgo
      have hcell := own_get ho (k := m - 1) (by omega)
      rw [HYS.out, restL_get _ _ _ _ _ (by omega), hz] at hcell
      have hek : ((m : Int) - 1).toNat = m - 1 := by omega
      have HZ2 := hid hz
      clear hz
      go_wp2_with fail
      go_round
      case rel =>
        refine ⟨m - 1, by omega, by go_num, hid fun j h1 h2 => ?_⟩
        by_cases h : m ≤ j
        · exact HZ.out j h h2
        · have : j = m - 1 := by omega
          subst this; exact HZ2.out
      case measure => simp [intOf]; omega
    · have ht := HR.out.out_take hm HZ.out (fun h0 hz => hgo ⟨h0, hz⟩)
      have hol : (outL xs r k low).length = m := by rw [← ht, List.length_take, restL_len]; omega
      have how : Own w B (some ⟨g, 0, none⟩) c (outL xs r k low) := by
        rw [← ht, ← HYS.out]
        unfold Own
        refine ⟨by simp [IL], ?_⟩
        rcases ho.2 with ⟨hv, _⟩ | ⟨g', cap, cur, hv, hB, hh, hn, hmx, hcs, htk⟩
        · simp at hv
        · have e1 : c = cap := by injection hv
          have e2 : g = g' := by injection hv with h1; injection h1 with h1; injection h1
          subst e1 e2
          refine .inr ⟨g, c, cur, rfl, hB, hh, by rw [List.length_take]; omega, hmx, hcs, ?_⟩
          have e3 : IL (ys.take m) = (IL ys).take m := by simp [IL, List.map_take]
          rw [e3, ← htk, List.take_take, List.length_take]
          congr 1
          omega
      have HOL := hid hol; clear hol
      by_cases hm0 : 0 < m
      · have hz : rest xs r k low (m - 1) ≠ 0 := fun h => hgo ⟨hm0, h⟩
        have hcell := own_get ho (k := m - 1) (by omega)
        rw [HYS.out, restL_get _ _ _ _ _ (by omega)] at hcell
        have hek : ((m : Int) - 1).toNat = m - 1 := by omega
        obtain ⟨x, hx⟩ : ∃ x, x = rest xs r k low (m - 1) := ⟨_, rfl⟩
        rw [← hx] at hcell hz
        have hx0 : (x == 0) = false := beq_eq_false_iff_ne.2 hz
        have HO := hid how
        clear hx how hgo ht
        go_wp2_with fail
        go_ret
        exact ⟨by rw [HOL.out]; rfl, HO.out, rfl⟩
      · have e0 : m = 0 := by omega
        subst e0
        have HO := hid how
        clear how hgo ht
        go_wp2_with fail
        go_ret
        exact ⟨by rw [HOL.out]; rfl, HO.out, rfl⟩
end Go.Proofs.Ytblkmomcdchdoaa
