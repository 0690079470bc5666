/-
  Several texts in one.
-/
import Derived.Test.YtnjaoaamcdohoaaR03
import Derived.Test.YtnjaoaamcdohoaaCC
import Derived.Test.YtnjaoaamcdohoaaCB
/-
  Plain facts: a partition without a rim hook, as the program takes it away cell by cell, and as the model tells it.
-/
namespace Go.Proofs.Ytnjaoaamcdohoaa

def decs (xs : List Int) (L : List (Nat × Nat)) : List Int := L.foldl (fun a q => a.set q.1 (a.getD q.1 0 - 1)) xs
theorem decs_nil (xs : List Int) : decs xs [] = xs := rfl
theorem decs_snoc (xs : List Int) (L : List (Nat × Nat)) (q : Nat × Nat) : decs xs (L ++ [q]) = (decs xs L).set q.1 ((decs xs L).getD q.1 0 - 1) := by simp [decs]
theorem getD_set (xs : List Int) (i j : Nat) (v : Int) (h : i < xs.length) : (xs.set i v).getD j 0 = if j = i then v else xs.getD j 0 := by
  simp only [List.getD_eq_getElem?_getD, List.getElem?_set]
  by_cases e : i = j
  · subst e; simp [h]
  · rw [if_neg e, if_neg (by omega)]
theorem snocInd {P : List (Nat × Nat) → Prop} (h0 : P []) (h1 : ∀ L q, P L → P (L ++ [q])) (L : List (Nat × Nat)) : P L := by
  have key : ∀ M : List (Nat × Nat), P M.reverse := by
    intro M
    induction M with
    | nil => exact h0
    | cons q t ih => rw [List.reverse_cons]; exact h1 _ _ ih
  have := key L.reverse
  rwa [List.reverse_reverse] at this
theorem decs_len (xs : List Int) (L : List (Nat × Nat)) : (decs xs L).length = xs.length := by
  refine snocInd (P := fun L => (decs xs L).length = xs.length) rfl (fun L q ih => ?_) L
  rw [decs_snoc, List.length_set, ih]
def cntR (L : List (Nat × Nat)) (row : Nat) : Nat := (L.filter fun q => decide (q.1 = row)).length
theorem decs_get (xs : List Int) (L : List (Nat × Nat)) (row : Nat) (h : ∀ q ∈ L, q.1 < xs.length) : (decs xs L).getD row 0 = xs.getD row 0 - cntR L row := by
  revert h
  refine snocInd (P := fun L => (∀ q ∈ L, q.1 < xs.length) → (decs xs L).getD row 0 = xs.getD row 0 - cntR L row) (fun _ => by simp [decs, cntR]) (fun L q ih h => ?_) L
  have ih := ih fun q' hq => h q' (List.mem_append_left _ hq)
  have hq := h q (List.mem_append_right _ (List.mem_singleton.2 rfl))
  rw [decs_snoc, getD_set _ _ _ _ (by rw [decs_len]; exact hq)]
  unfold cntR at ih ⊢
  rw [List.filter_append, List.length_append]
  by_cases e : row = q.1
  · subst e
    rw [if_pos rfl, ih]
    simp only [List.filter_cons, List.filter_nil, decide_true, if_true, List.length_singleton]
    omega
  · have e2 : ¬ q.1 = row := fun h => e h.symm
    rw [if_neg e, ih]
    simp only [List.filter_cons, List.filter_nil, e2, decide_false, Bool.false_eq_true, if_false, List.length_nil]
    omega
theorem rimUp_mem (xs : List Int) (k low : Nat) : ∀ d, ∀ q ∈ rimUp xs k low d, q.1 ≤ low
  | 0, q, h => by simp [rimUp] at h
  | d + 1, q, h => by
    simp only [rimUp, List.mem_append, rimRow, List.mem_map, List.mem_range] at h
    rcases h with h | ⟨i, _, rfl⟩
    · exact rimUp_mem xs k low d q h
    · simp
theorem cntR_rimUp (xs : List Int) (k low row : Nat) : ∀ d, d ≤ low + 1 → cntR (rimUp xs k low d) row = if row ≤ low ∧ low < row + d then cn xs k row else 0
  | 0, _ => by rw [if_neg (by omega)]; rfl
  | d + 1, hd => by
    have ih := cntR_rimUp xs k low row d (by omega)
    unfold cntR at ih ⊢
    simp only [rimUp, List.filter_append, List.length_append, ih]
    by_cases e : row = low - d
    · subst e
      rw [if_neg (by omega), if_pos (by omega)]
      have : (rimRow xs k (low - d) (cn xs k (low - d))).filter (fun q => decide (q.1 = low - d)) = rimRow xs k (low - d) (cn xs k (low - d)) := by
        rw [List.filter_eq_self]
        intro q hq
        simp only [rimRow, List.mem_map] at hq
        obtain ⟨i, _, rfl⟩ := hq
        simp
      rw [this, rimRow_len]; omega
    · have : (rimRow xs k (low - d) (cn xs k (low - d))).filter (fun q => decide (q.1 = row)) = [] := by
        rw [List.filter_eq_nil_iff]
        intro q hq
        simp only [rimRow, List.mem_map] at hq
        obtain ⟨i, _, rfl⟩ := hq
        simp; omega
      rw [this]
      by_cases h1 : row ≤ low ∧ low < row + d
      · rw [if_pos h1, if_pos (by omega)]; rfl
      · rw [if_neg h1, if_neg (by omega)]; rfl

/-- What is left of a row. -/
def rest (xs : List Int) (r k low row : Nat) : Int := if r ≤ row ∧ row ≤ low then (fr xs k row : Int) else xs.getD row 0
def restL (xs : List Int) (r k low : Nat) : List Int := (List.range xs.length).map (rest xs r k low)
def outL (xs : List Int) (r k low : Nat) : List Int := (restL xs r k low).filter fun n => decide (0 < n)
theorem restL_len (xs : List Int) (r k low : Nat) : (restL xs r k low).length = xs.length := by simp [restL]
theorem restL_get (xs : List Int) (r k low row : Nat) (h : row < xs.length) : (restL xs r k low).getD row 0 = rest xs r k low row := by simp [restL, List.getD, h]
theorem ext_getD {xs ys : List Int} (hl : xs.length = ys.length) (h : ∀ j, j < xs.length → xs.getD j 0 = ys.getD j 0) : xs = ys := by
  apply List.ext_getElem hl
  intro j h1 h2
  have := h j h1
  simpa [List.getD, h1, h2] using this
theorem RimOK.decs {xs : List Int} {r k low : Nat} (R : RimOK xs r k low) : decs xs (rimUp xs k low (low + 1 - r)) = restL xs r k low := by
  refine ext_getD (by rw [decs_len, restL_len]) fun j hj => ?_
  rw [decs_len] at hj
  rw [decs_get _ _ _ fun q hq => by have := rimUp_mem xs k low _ q hq; have := R.low_lt; omega, restL_get _ _ _ _ _ hj, cntR_rimUp _ _ _ _ _ (by have := R.r_le; omega)]
  have := R.r_le
  unfold rest
  by_cases h : r ≤ j ∧ j ≤ low
  · rw [if_pos (by omega), if_pos h]
    have := R.cn_pos h.2
    omega
  · rw [if_neg (by omega), if_neg h]; simp
theorem RimOK.rest_pos {xs : List Int} {r k low : Nat} (R : RimOK xs r k low) {j : Nat} (hj : j < xs.length) : 0 ≤ rest xs r k low j ∧ rest xs r k low j ≤ 30 := by
  have h1 := R.good.pos j hj
  have h2 := R.good.le j hj
  unfold rest
  split
  · rename_i h
    have := R.fr_lt h.2
    omega
  · omega
theorem RimOK.rest_down {xs : List Int} {r k low : Nat} (R : RimOK xs r k low) {j : Nat} (hj : j + 1 < xs.length) : rest xs r k low (j + 1) ≤ rest xs r k low j := by
  have hd := R.good.down j hj
  have hrl := R.r_le
  unfold rest
  by_cases h : r ≤ j ∧ j ≤ low
  · rw [if_pos h]
    by_cases h2 : j + 1 ≤ low
    · rw [if_pos (by omega), R.fr_up h2]
      have := R.fr_lt h2
      omega
    · rw [if_neg (by omega)]
      have e : j = low := by omega
      subst e
      rw [R.fr_low]
      exact R.short hj
  · rw [if_neg h]
    by_cases h2 : r ≤ j + 1 ∧ j + 1 ≤ low
    · rw [if_pos h2]
      have := R.fr_lt h2.2
      omega
    · rw [if_neg h2]; exact hd
/-- Where the rows without cells begin: all that is left stands ahead. -/
theorem RimOK.out_take {xs : List Int} {r k low : Nat} (R : RimOK xs r k low) {m : Nat} (hm : m ≤ xs.length) (hz : ∀ j, m ≤ j → j < xs.length → rest xs r k low j = 0) (hp : 0 < m → rest xs r k low (m - 1) ≠ 0) :
    (restL xs r k low).take m = outL xs r k low := by
  have hdown : ∀ d j, j + d < xs.length → rest xs r k low (j + d) ≤ rest xs r k low j := by
    intro d
    induction d with
    | zero => intro j _; exact Int.le_refl _
    | succ d ih => intro j h; have a := ih j (by omega); have b := R.rest_down (j := j + d) (by omega); rw [show j + (d + 1) = j + d + 1 by omega]; omega
  unfold outL
  conv => rhs; rw [← List.take_append_drop m (restL xs r k low)]
  rw [List.filter_append]
  have h1 : ((restL xs r k low).take m).filter (fun n => decide (0 < n)) = (restL xs r k low).take m := by
    rw [List.filter_eq_self]
    intro n hn
    obtain ⟨j, hj, rfl⟩ := List.getElem_of_mem hn
    rw [List.length_take, restL_len] at hj
    have e : ((restL xs r k low).take m)[j]'(by rw [List.length_take, restL_len]; omega) = rest xs r k low j := by simp [restL]
    rw [e]
    have a := hdown (m - 1 - j) j (by omega)
    rw [show j + (m - 1 - j) = m - 1 by omega] at a
    have b := hp (by omega)
    have c := R.rest_pos (j := m - 1) (by omega)
    simp; omega
  have h2 : ((restL xs r k low).drop m).filter (fun n => decide (0 < n)) = [] := by
    rw [List.filter_eq_nil_iff]
    intro n hn
    obtain ⟨j, hj, rfl⟩ := List.getElem_of_mem hn
    rw [List.length_drop, restL_len] at hj
    have e : ((restL xs r k low).drop m)[j]'(by rw [List.length_drop, restL_len]; omega) = rest xs r k low (m + j) := by simp [restL]
    rw [e, hz (m + j) (by omega) (by omega)]
    simp
  rw [h1, h2, List.append_nil]
/-- The model's list, when the first j rows are done. -/
def outK (xs : List Int) (r k low j : Nat) : List Int := ((restL xs r k low).take j).filter fun n => decide (0 < n)
theorem outK_all (xs : List Int) (r k low : Nat) : outK xs r k low xs.length = outL xs r k low := by unfold outK outL; rw [List.take_of_length_le (by rw [restL_len]; exact Nat.le_refl _)]
theorem outK_len (xs : List Int) (r k low j : Nat) : (outK xs r k low j).length ≤ j := by
  unfold outK
  refine Nat.le_trans (List.length_filter_le _ _) ?_
  rw [List.length_take]; omega
theorem outK_yes (xs : List Int) (r k low j : Nat) (h : j < xs.length) (hp : 0 < rest xs r k low j) : outK xs r k low (j + 1) = outK xs r k low j ++ [rest xs r k low j] := by
  unfold outK
  have e : (restL xs r k low)[j]'(by rw [restL_len]; exact h) = rest xs r k low j := by simp [restL]
  rw [List.take_succ_eq_append_getElem (by rw [restL_len]; exact h), e, List.filter_append]
  simp [hp]
theorem outK_no (xs : List Int) (r k low j : Nat) (h : j < xs.length) (hp : ¬ 0 < rest xs r k low j) : outK xs r k low (j + 1) = outK xs r k low j := by
  unfold outK
  have e : (restL xs r k low)[j]'(by rw [restL_len]; exact h) = rest xs r k low j := by simp [restL]
  rw [List.take_succ_eq_append_getElem (by rw [restL_len]; exact h), e, List.filter_append]
  simp [hp]
end Go.Proofs.Ytnjaoaamcdohoaa
namespace Go.Proofs.Ytnjaoaamcdohoaa
theorem rim_first {xs : List Int} {r k low : Nat} (R : RimOK xs r k low) : 0 < (rimUp xs k low (low + 1 - r)).length ∧ ((rimUp xs k low (low + 1 - r)).getD 0 (0, 0)).1 = low := by
  have key : ∀ d, 0 < (rimUp xs k low (d + 1)).length ∧ ((rimUp xs k low (d + 1)).getD 0 (0, 0)).1 = low := by
    intro d
    induction d with
    | zero =>
      have h := (R.cn_pos (Nat.le_refl low)).2
      simp only [rimUp, List.nil_append, Nat.sub_zero]
      refine ⟨by rw [rimRow_len]; exact h, ?_⟩
      rw [List.getD_eq_getElem?_getD, rimRow, List.getElem?_map, List.getElem?_range h]; rfl
    | succ d ih =>
      have e : rimUp xs k low (d + 1 + 1) = rimUp xs k low (d + 1) ++ rimRow xs k (low - (d + 1)) (cn xs k (low - (d + 1))) := rfl
      rw [e, List.length_append]
      refine ⟨by omega, ?_⟩
      rw [List.getD_eq_getElem?_getD, List.getElem?_append_left ih.1, ← List.getD_eq_getElem?_getD]
      exact ih.2
  have := R.r_le
  rw [show low + 1 - r = (low - r) + 1 by omega]
  exact key (low - r)
end Go.Proofs.Ytnjaoaamcdohoaa
/-
  Contracts: what is left without a rim hook (the model's list; the program's rows without cells).
-/
namespace Go.Proofs.Ytnjaoaamcdohoaa
open Go.RowKit

set_option maxRecDepth 100000 in
set_option maxHeartbeats 2000000 in
theorem ptWithout_any (A : Option Addr) (c : Nat) (xs : List Int) (r k low : Nat) (w : World) (R : RimOK xs r k low) (hc : Cells w A xs) :
    Calls Try.prog 26 #[.slice A xs.length c, .int .i64 r, .int .i64 k] w fun e w' => ∃ A' c', e = .returned (.slice A' (outL xs r k low).length c') ∧ Own w' w.heap.size A' c' (outL xs r k low) ∧ Below w.heap.size w w' := by
  obtain ⟨i0, hi, hz0, hz1, hz2⟩ := info_parts Try.infoInt
  have G := R.good
  have hlen := G.len
  have hlow := R.low_lt
  have hrl := R.r_le
  have hkl := R.tall r hrl
  have hkc : k < (cols xs).length := col_lt G (by omega) hkl
  have hck : (cols xs).getD k 0 = (low : Int) + 1 := by rw [cols_get xs k (by rw [cols_len] at hkc; exact hkc), R.col]
  have hx30 := R.le30 hrl
  have HR := hid R
  have HG := hid G
  clear R G
  have hw1 : IntKind.i64.wrap ((low : Int) + 1 - 1) = low := by rw [IntWalk.i64_in _ (by omega)]; omega
  go_enter Try.func26, Try.ntmps26
  go_wp2_with (go_at_call 22; refine (ptTurn_any _ _ _ _ HG.out hc).mono ?_; rintro e w1 ⟨A1, c1, rfl, o1, b1⟩; obtain ⟨b3, o3, rfl, hcol⟩ := o1.cells.get hkc; rw [hck] at hcol)
  go_loopw [8, 9, 10, 19, 24, 39] (fun v _ _ i _ _ wr => ∃ j : Nat, j ≤ xs.length ∧ i = .int .i64 j ∧ wr.ownsRow w.heap.size 3 1 v (outK xs r k low j).length (IL (outK xs r k low j)) ∧ Below w.heap.size w wr) (fun _ _ _ i _ _ _ => xs.length - (intOf i).toNat)
  case atStart => exact ⟨0, Nat.zero_le _, rfl, World.ownsRow_nil _ _ _ _, b1⟩
  case round =>
    obtain ⟨j, hj, rfl, hown, hbel⟩ := hrel
    have hol := outK_len xs r k low j
    by_cases hlt : j < xs.length
    · obtain ⟨b, o, rfl, hcc⟩ := hc.later hbel (by omega)
      have hcj := hcc j hlt
      have hxj := HG.out.pos j hlt
      have hxj2 := HG.out.le j hlt
      have hrp := HR.out.rest_pos hlt
      have HY := hid (outK_yes xs r k low j hlt)
      have HN := hid (outK_no xs r k low j hlt)
      by_cases h1 : r ≤ j ∧ j < low
      · have hn := hcc (j + 1) (by omega)
        have hv : rest xs r k low j = xs.getD (j + 1) 0 - 1 := by unfold rest; rw [if_pos (by omega), HR.out.fr_up (by omega)]
        have hnb := HG.out.pos (j + 1) (by omega)
        have hnb2 := HG.out.le (j + 1) (by omega)
        rw [hv] at HY HN hrp
        obtain ⟨h1a, h1b⟩ := h1
        obtain ⟨x, hx⟩ : ∃ x, x = xs.getD j 0 := ⟨_, rfl⟩
        obtain ⟨y, hy⟩ : ∃ y, y = xs.getD (j + 1) 0 := ⟨_, rfl⟩
        rw [← hx] at hcj hxj hxj2
        rw [← hy] at hn hnb hnb2 HY HN hrp
        have hn' : wr.cell? ⟨b, o + (j + 1), none⟩ = some (.int .i64 y) := hn
        clear hcc hx hy hv hcol o1
        by_cases hpos : 0 < y - 1
        · go_wp2_with (at_builtin; refine wpList_append_own _ rfl _ _ 22 rfl w.heap.size 3 i0 (.int .i64 0) 1 8 Try.underlying22 hi hz0 hz1 hz2 rfl (by decide) _ _ _ rfl (hown.alloc _) ⟨wr.heap.size, 0, none⟩ 1 1 [.int .i64 (y - 1)] rfl rfl one_at (one_cell _) (by unfold maxLen; omega) (by omega) (by have := hbel.size; simp; omega) ?_)
          intro v' w3 hown' hgrow _
          have hb1 : Below w.heap.size w w3 := (hbel.alloc hbel.size _).grown hgrow (by have := hbel.size; simp; omega) (fun q hq => (hown.lt q hq).1)
          have hown2 := own_snoc (HY.out hpos) hown'
          clear hgrow hown hown'
          go_wp2_with fail
          go_roundw
          case rel => exact ⟨j + 1, by omega, by go_num, hown2, hb1⟩
          case measure => simp [intOf]; omega
        · rw [← HN.out hpos] at hown
          go_wp2_with fail
          go_roundw
          case rel => exact ⟨j + 1, by omega, by go_num, hown, hbel⟩
          case measure => simp [intOf]; omega
      · by_cases h2 : j = low
        · have hv : rest xs r k low j = (k : Int) := by unfold rest; rw [if_pos (by omega), h2, HR.out.fr_low]
          rw [hv] at HY HN hrp
          have hnl : ¬ (low : Int) < (low : Int) := by omega
          have hlr2 : (r : Int) ≤ low := by omega
          obtain ⟨x, hx⟩ : ∃ x, x = xs.getD j 0 := ⟨_, rfl⟩
          rw [← hx] at hcj hxj hxj2
          clear hcc hx hv hcol o1 h1
          subst h2
          by_cases hpos : (0 : Int) < k
          · go_wp2_with (at_builtin; refine wpList_append_own _ rfl _ _ 22 rfl w.heap.size 3 i0 (.int .i64 0) 1 8 Try.underlying22 hi hz0 hz1 hz2 rfl (by decide) _ _ _ rfl (hown.alloc _) ⟨wr.heap.size, 0, none⟩ 1 1 [.int .i64 (k : Int)] rfl rfl one_at (one_cell _) (by unfold maxLen; omega) (by omega) (by have := hbel.size; simp; omega) ?_)
            intro v' w3 hown' hgrow _
            have hb1 : Below w.heap.size w w3 := (hbel.alloc hbel.size _).grown hgrow (by have := hbel.size; simp; omega) (fun q hq => (hown.lt q hq).1)
            have hown2 := own_snoc (HY.out hpos) hown'
            clear hgrow hown hown'
            go_wp2_with fail
            go_roundw
            case rel => exact ⟨j + 1, by omega, by go_num, hown2, hb1⟩
            case measure => simp [intOf]; omega
          · rw [← HN.out hpos] at hown
            go_wp2_with fail
            go_roundw
            case rel => exact ⟨j + 1, by omega, by go_num, hown, hbel⟩
            case measure => simp [intOf]; omega
        · have hv : rest xs r k low j = xs.getD j 0 := by unfold rest; rw [if_neg (by omega)]
          rw [hv] at HY HN hrp
          have hj2 : ((j : Int) == (low : Int)) = false := beq_eq_false_iff_ne.2 (by omega)
          obtain ⟨x, hx⟩ : ∃ x, x = xs.getD j 0 := ⟨_, rfl⟩
          rw [← hx] at hcj hxj hxj2 HY HN hrp
          have hpos : 0 < x := by omega
          clear hcc hx hv hcol o1
          by_cases hjr : j < r
          · go_wp2_with (at_builtin; refine wpList_append_own _ rfl _ _ 22 rfl w.heap.size 3 i0 (.int .i64 0) 1 8 Try.underlying22 hi hz0 hz1 hz2 rfl (by decide) _ _ _ rfl (hown.alloc _) ⟨wr.heap.size, 0, none⟩ 1 1 [.int .i64 x] rfl rfl one_at (one_cell _) (by unfold maxLen; omega) (by omega) (by have := hbel.size; simp; omega) ?_)
            intro v' w3 hown' hgrow _
            have hb1 : Below w.heap.size w w3 := (hbel.alloc hbel.size _).grown hgrow (by have := hbel.size; simp; omega) (fun q hq => (hown.lt q hq).1)
            have hown2 := own_snoc (HY.out hpos) hown'
            clear hgrow hown hown'
            go_wp2_with fail
            go_roundw
            case rel => exact ⟨j + 1, by omega, by go_num, hown2, hb1⟩
            case measure => simp [intOf]; omega
          · have hjl : low < j := by omega
            go_wp2_with (at_builtin; refine wpList_append_own _ rfl _ _ 22 rfl w.heap.size 3 i0 (.int .i64 0) 1 8 Try.underlying22 hi hz0 hz1 hz2 rfl (by decide) _ _ _ rfl (hown.alloc _) ⟨wr.heap.size, 0, none⟩ 1 1 [.int .i64 x] rfl rfl one_at (one_cell _) (by unfold maxLen; omega) (by omega) (by have := hbel.size; simp; omega) ?_)
            intro v' w3 hown' hgrow _
            have hb1 : Below w.heap.size w w3 := (hbel.alloc hbel.size _).grown hgrow (by have := hbel.size; simp; omega) (fun q hq => (hown.lt q hq).1)
            have hown2 := own_snoc (HY.out hpos) hown'
            clear hgrow hown hown'
            go_wp2_with fail
            go_roundw
            case rel => exact ⟨j + 1, by omega, by go_num, hown2, hb1⟩
            case measure => simp [intOf]; omega
    · have hjl : j = xs.length := by omega
      subst hjl
      rw [outK_all] at hown
      obtain ⟨A', c', rfl, ho⟩ := own_form hown rfl
      clear hown
      go_wp2_with fail
      go_ret
      exact ⟨A', c', rfl, ho, hbel⟩

set_option maxHeartbeats 400000 in
theorem noEmpty_any (g c : Nat) (B : Nat) (ys : List Int) (xs : List Int) (r k low : Nat) (w : World) (R : RimOK xs r k low) (hys : ys = restL xs r k low) (ho : Own w B (some ⟨g, 0, none⟩) c ys) :
    Calls Try.prog 25 #[.slice (some ⟨g, 0, none⟩) ys.length c] w fun e w' => e = .returned (.slice (some ⟨g, 0, none⟩) (outL xs r k low).length c) ∧ Own w B (some ⟨g, 0, none⟩) c (outL xs r k low) ∧ w = w' := by
  have hyl : ys.length = xs.length := by rw [hys, restL_len]
  have hlen := R.good.len
  have HR := hid R
  have hcap : ys.length ≤ c := by
    rcases ho.2 with ⟨hv, _⟩ | ⟨g', cap, cur, hv, _, _, hn, _⟩
    · simp at hv
    · have : c = cap := by injection hv
      omega
  have HYS := hid hys
  clear R hys
  go_enter Try.func25, Try.ntmps25
  go_wp2_with fail
  go_loop [3] (fun i => ∃ m : Nat, m ≤ xs.length ∧ i = .int .i64 m ∧ Hid (∀ j, m ≤ j → j < xs.length → rest xs r k low j = 0)) (fun i => (intOf i).toNat)
  case atStart => exact ⟨xs.length, Nat.le_refl _, rfl, hid fun j h1 h2 => by omega⟩
  case round =>
    obtain ⟨m, hm, rfl, HZ⟩ := hrel
    by_cases hgo : 0 < m ∧ rest xs r k low (m - 1) = 0
    · obtain ⟨hm0, hz⟩ := hgo
      have hcell := own_get ho (k := m - 1) (by omega)
      rw [HYS.out, restL_get _ _ _ _ _ (by omega), hz] at hcell
      have hek : ((m : Int) - 1).toNat = m - 1 := by omega
      have HZ2 := hid hz
      clear hz
      go_wp2_with fail
      go_round
      case rel =>
        refine ⟨m - 1, by omega, by go_num, hid fun j h1 h2 => ?_⟩
        by_cases h : m ≤ j
        · exact HZ.out j h h2
        · have : j = m - 1 := by omega
          subst this; exact HZ2.out
      case measure => simp [intOf]; omega
    · have ht := HR.out.out_take hm HZ.out (fun h0 hz => hgo ⟨h0, hz⟩)
      have hol : (outL xs r k low).length = m := by rw [← ht, List.length_take, restL_len]; omega
      have how : Own w B (some ⟨g, 0, none⟩) c (outL xs r k low) := by
        rw [← ht, ← HYS.out]
        unfold Own
        refine ⟨by simp [IL], ?_⟩
        rcases ho.2 with ⟨hv, _⟩ | ⟨g', cap, cur, hv, hB, hh, hn, hmx, hcs, htk⟩
        · simp at hv
        · have e1 : c = cap := by injection hv
          have e2 : g = g' := by injection hv with h1; injection h1 with h1; injection h1
          subst e1 e2
          refine .inr ⟨g, c, cur, rfl, hB, hh, by rw [List.length_take]; omega, hmx, hcs, ?_⟩
          have e3 : IL (ys.take m) = (IL ys).take m := by simp [IL, List.map_take]
          rw [e3, ← htk, List.take_take, List.length_take]
          congr 1
          omega
      have HOL := hid hol; clear hol
      by_cases hm0 : 0 < m
      · have hz : rest xs r k low (m - 1) ≠ 0 := fun h => hgo ⟨hm0, h⟩
        have hcell := own_get ho (k := m - 1) (by omega)
        rw [HYS.out, restL_get _ _ _ _ _ (by omega)] at hcell
        have hek : ((m : Int) - 1).toNat = m - 1 := by omega
        obtain ⟨x, hx⟩ : ∃ x, x = rest xs r k low (m - 1) := ⟨_, rfl⟩
        rw [← hx] at hcell hz
        have hx0 : (x == 0) = false := beq_eq_false_iff_ne.2 hz
        have HO := hid how
        clear hx how hgo ht
        go_wp2_with fail
        go_ret
        exact ⟨by rw [HOL.out]; rfl, HO.out, rfl⟩
      · have e0 : m = 0 := by omega
        subst e0
        have HO := hid how
        clear how hgo ht
        go_wp2_with fail
        go_ret
        exact ⟨by rw [HOL.out]; rfl, HO.out, rfl⟩
end Go.Proofs.Ytnjaoaamcdohoaa
