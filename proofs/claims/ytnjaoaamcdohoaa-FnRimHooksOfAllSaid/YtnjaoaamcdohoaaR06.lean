/-
  Several texts in one.
-/
import Derived.Test.YtnjaoaamcdohoaaR04
import Derived.Test.YtnjaoaamcdohoaaR05
import Derived.BigQuiet
import Derived.Test.YtnjaoaamcdohoaaCB
/-
  Contracts: WithoutRim of the program and of the model.
-/
namespace Go.Proofs.Ytnjaoaamcdohoaa
open Go.RowKit

def lowN (xs : List Int) (k : Nat) : Nat := (colH xs k).toNat - 1
def outF (xs : List Int) (r k : Int) : List Int := if atB xs r k then outL xs r.toNat k.toNat (lowN xs k.toNat) else []
def legF (xs : List Int) (r k : Int) : Int := if atB xs r k then (lowN xs k.toNat : Int) - r else 0
theorem outL_len (xs : List Int) (r k low : Nat) : (outL xs r k low).length ≤ xs.length := by
  unfold outL
  refine Nat.le_trans (List.length_filter_le _ _) ?_
  rw [restL_len]; exact Nat.le_refl _
theorem bound_WithoutRim (xs : List Int) (r k : Int) : (outF xs r k).length ≤ 1048576 := by
  unfold outF
  split
  · rename_i h
    simp only [atB, Bool.and_eq_true] at h
    have := ((good_iff xs).1 h.1).len
    have := outL_len xs r.toNat k.toNat (lowN xs k.toNat)
    omega
  · simp

theorem own_prefix {w : World} {B g c : Nat} {ys : List Int} (h : Own w B (some ⟨g, 0, none⟩) c ys) (m : Nat) (hm : m ≤ ys.length) : Own w B (some ⟨g, 0, none⟩) c (ys.take m) := by
  unfold Own
  refine ⟨by simp [IL], ?_⟩
  rcases h.2 with ⟨hv, _⟩ | ⟨g', cap, cur, hv, hB, hh, hn, hmx, hcs, htk⟩
  · simp at hv
  · have e1 : c = cap := by injection hv
    have e2 : g = g' := by injection hv with h1; injection h1 with h1; injection h1
    subst e1 e2
    refine .inr ⟨g, c, cur, rfl, hB, hh, by rw [List.length_take]; omega, hmx, hcs, ?_⟩
    have e3 : IL (ys.take m) = (IL ys).take m := by simp [IL, List.map_take]
    rw [e3, ← htk, List.take_take, List.length_take]
    congr 1
    omega
theorem out_ex {xs : List Int} {r k low : Nat} (R : RimOK xs r k low) : ∀ m, m ≤ xs.length → (∀ j, m ≤ j → j < xs.length → rest xs r k low j = 0) → ∃ m', m' ≤ m ∧ (restL xs r k low).take m' = outL xs r k low
  | 0, hm, hz => ⟨0, Nat.le_refl _, R.out_take hm hz (fun h => absurd h (by omega))⟩
  | m + 1, hm, hz => by
    by_cases h : rest xs r k low m = 0
    · obtain ⟨m', h1, h2⟩ := out_ex R m (by omega) (fun j h1 h2 => by
        by_cases e : m + 1 ≤ j
        · exact hz j e h2
        · have : j = m := by omega
          subst this; exact h)
      exact ⟨m', by omega, h2⟩
    · exact ⟨m + 1, Nat.le_refl _, R.out_take hm hz (fun _ => h)⟩
theorem own_out {w : World} {B g c : Nat} {xs : List Int} {r k low : Nat} (R : RimOK xs r k low) (h : Own w B (some ⟨g, 0, none⟩) c (restL xs r k low)) : Own w B (some ⟨g, 0, none⟩) c (outL xs r k low) := by
  obtain ⟨m, h1, h2⟩ := out_ex R xs.length (Nat.le_refl _) (fun j h1 h2 => by omega)
  rw [← h2]
  exact own_prefix h m (by rw [restL_len]; exact h1)
theorem IL_oneC (xs : List Int) : ∀ u ∈ IL xs, u.oneCell' = true := by
  intro u hu
  simp only [IL, List.mem_map] at hu
  obtain ⟨x, _, rfl⟩ := hu
  rfl
set_option maxRecDepth 100000 in
set_option maxHeartbeats 1000000 in
theorem clone_any (b o c : Nat) (xs : List Int) (w : World) (hl : xs.length ≤ 1000) (hp : 0 < xs.length) (hc : Cells w (some ⟨b, o, none⟩) xs) :
    Calls Try.prog 24 #[.slice (some ⟨b, o, none⟩) xs.length c] w fun e w' => ∃ g c', e = .returned (.slice (some ⟨g, 0, none⟩) xs.length c') ∧ Own w' w.heap.size (some ⟨g, 0, none⟩) c' xs ∧ Below w.heap.size w w' := by
  obtain ⟨i0, hi, hz0, hz1, hz2⟩ := info_parts Try.infoInt
  have hm0 := World.ownsRow_made (base := w.heap.size) (e := 3) (size := 1) w #[] 0 (Nat.le_refl _) (by unfold maxLen; omega) rfl
  have hb0 : Below w.heap.size w (w.alloc (.cells #[] 3)) := (Below.refl _ _).alloc (Nat.le_refl _) _
  have hcc := hc.below hb0
  have hat : ∀ j u, (IL xs)[j]? = some u → (w.alloc (.cells #[] 3)).cell? ((⟨b, o, none⟩ : Addr).add j) = some u := by
    intro j u hu
    have hj : j < xs.length := by
      have := (List.getElem?_eq_some_iff.1 hu).1
      simpa [IL] using this
    have h := hcc.at_row hj
    rw [IL_get xs j hj] at hu
    have e : (⟨b, o, none⟩ : Addr).add j = ⟨b, o + j, none⟩ := by unfold Addr.add; split <;> simp_all
    rw [e, h, ← hu]
  have hnil := fun w => Lib.run_eql_slice_nil (P := Try.prog) w 22 3 (some ⟨b, o, none⟩) xs.length c 0 0 Try.underlying22
  go_enter Try.func24, Try.ntmps24
  go_wp2_with (at_builtin; refine wpList_append_own _ rfl _ _ 22 rfl w.heap.size 3 i0 (.int .i64 0) 1 8 Try.underlying22 hi hz0 hz1 hz2 rfl (by decide) _ 0 [] rfl hm0 ⟨b, o, none⟩ xs.length c (IL xs) rfl (by simp [IL]) hat (IL_oneC xs) (by unfold maxLen; omega) (by omega) (by simp) ?_)
  intro v' w1 hown' hgrow _
  have hb1 : Below w.heap.size w w1 := hb0.grown hgrow (by simp) (fun q hq => (hm0.lt q hq).1)
  obtain ⟨g, c', rfl, ho⟩ : ∃ g c', v' = .slice (some ⟨g, 0, none⟩) xs.length c' ∧ Own w1 w.heap.size (some ⟨g, 0, none⟩) c' xs := by
    rcases hown'.2 with ⟨_, h0⟩ | ⟨g, cap, cur, rfl, _⟩
    · omega
    · exact ⟨g, cap, rfl, hown'⟩
  clear hown' hgrow
  go_wp2_with fail
  go_ret
  exact ⟨g, c', rfl, ho, hb1⟩

set_option maxRecDepth 100000 in
set_option maxHeartbeats 2000000 in
theorem impl_WithoutRim (A : Option Addr) (c : Nat) (xs : List Int) (r k : Int) (w : World) (hl : xs.length ≤ 1048576) (hc : Cells w A xs) (_ : I64 r) (_ : I64 k) :
    Calls Try.prog 6 #[.slice A xs.length c, .int .i64 r, .int .i64 k] w fun e w' => ∃ A' c', e = .returned (.tuple #[.slice A' (outF xs r k).length c', .int .i64 (legF xs r k), .bool (atB xs r k)]) ∧ Own w' w.heap.size A' c' (outF xs r k) ∧ Below w.heap.size w w' := by
  cases hat : atB xs r k
  · rw [show outF xs r k = [] by simp [outF, hat], show legF xs r k = 0 by simp [legF, hat]]
    have HA := hid hat; clear hat
    go_enter Try.func6, Try.ntmps6
    go_wp2_with (go_at_call 18; refine (isCell_b _ _ _ _ _ _ hl hc _ HA.out).mono ?_; rintro e w' ⟨rfl, rfl⟩)
    go_ret3
    exact ⟨none, 0, rfl, own_nil _ _, Below.refl _ _⟩
  have hat2 := hat
  simp only [atB, Bool.and_eq_true] at hat2
  obtain ⟨r', k', rfl, rfl, hr, hk⟩ := cellB_nat hat2.2
  have G := (good_iff xs).1 hat2.1
  have R := rim_ok G hr hk
  have hlen := G.len
  obtain ⟨low, hlow⟩ : ∃ low, low = lowN xs k' := ⟨_, rfl⟩
  rw [show outF xs r' k' = outL xs r' k' low by rw [hlow]; simp [outF, hat], show legF xs r' k' = (low : Int) - r' by rw [hlow]; simp [legF, hat]]
  have R : RimOK xs r' k' low := by rw [hlow]; exact R
  have hlt := R.low_lt
  have hrl := R.r_le
  have hdecs := R.decs
  have hbd : (rimUp xs k' low (low + 1 - r')).length ≤ 1000 := by
    have h := rimUp_len xs k' low G.le (low + 1 - r')
    omega
  have hmem := rimUp_mem xs k' low (low + 1 - r')
  have h0 : 0 < (rimUp xs k' low (low + 1 - r')).length ∧ ((rimUp xs k' low (low + 1 - r')).getD 0 (0, 0)).1 = low := rim_first R
  have hget : ∀ q ∈ rimUp xs k' low (low + 1 - r'), q.1 < xs.length := fun q hq => by have := hmem q hq; omega
  have hcnt : ∀ j row, row < xs.length → -1000 ≤ (decs xs ((rimUp xs k' low (low + 1 - r')).take j)).getD row 0 ∧ (decs xs ((rimUp xs k' low (low + 1 - r')).take j)).getD row 0 ≤ 30 := by
    intro j row hrow
    rw [decs_get _ _ _ fun q hq => hget q (List.mem_of_mem_take hq)]
    have a := G.pos row hrow
    have b := G.le row hrow
    have c1 : cntR ((rimUp xs k' low (low + 1 - r')).take j) row ≤ 1000 := by
      unfold cntR
      refine Nat.le_trans (List.length_filter_le _ _) ?_
      rw [List.length_take]; omega
    omega
  obtain ⟨L, hL⟩ : ∃ L, L = rimUp xs k' low (low + 1 - r') := ⟨_, rfl⟩
  rw [← hL] at hdecs hbd h0 hget hcnt
  have HA := hid hat; have HR := hid R; have HL := hid hL; have HD := hid hdecs; have HG := hid hget; have HC := hid hcnt
  obtain ⟨h0a, h0b⟩ := h0
  clear hat hat2 R hlow hL hdecs hget hcnt hmem G
  obtain ⟨b, o, rfl, _⟩ := hc (by omega)
  go_enter Try.func6, Try.ntmps6
  go_wp2_with (first | (go_at_call 18; refine (isCell_b _ _ _ _ _ _ hl hc _ HA.out).mono ?_; rintro e w' ⟨rfl, rfl⟩) | (go_at_call 19; refine (rimOf_any _ _ _ _ _ _ _ HR.out hc).mono ?_; rw [← HL.out]; rintro e w1 ⟨v, rfl, o1, b1⟩; obtain ⟨A1, c1, rfl⟩ := ownsRow_slice o1) | (go_at_call 24; refine (clone_any _ _ _ _ _ (by omega) (by omega) (hc.below b1)).mono ?_; rintro e w2 ⟨g2, c2, rfl, o2, b2⟩))
  have z1 := b1.size
  have z2 := b2.size
  obtain ⟨g, rfl⟩ : ∃ g, A1 = some ⟨g, 0, none⟩ := by
    rcases o1.2 with ⟨_, h0⟩ | ⟨g, cap, cur, hv, _⟩
    · omega
    · exact ⟨g, by injection hv⟩
  have hg1 : g < w1.heap.size := World.block_lt_of_cell? w1 _ (pl_cells o1 rfl 0 h0a).1
  have hg2 : w1.heap.size ≤ g2 ∧ g2 < w2.heap.size := by obtain ⟨g', e, h1, h2⟩ := o2.at_ (by omega); injection e with e; injection e with e; subst e; exact ⟨h1, h2⟩
  have HO1 := hid o1; clear o1
  go_loopw [12, 27] (fun _ i wr => ∃ j : Nat, j ≤ L.length ∧ i = .int .i64 j ∧ Own wr w1.heap.size (some ⟨g2, 0, none⟩) c2 (decs xs (L.take j)) ∧ Below w1.heap.size w1 wr) (fun _ i _ => L.length - (intOf i).toNat)
  case atStart => exact ⟨0, Nat.zero_le _, rfl, by simpa [decs] using o2, b2⟩
  case round =>
    obtain ⟨j, hj, rfl, hown, hbel⟩ := hrel
    have hdl : (decs xs (L.take j)).length = xs.length := decs_len _ _
    by_cases hlt2 : j < L.length
    · obtain ⟨h1, h2⟩ := pl_cells HO1.out rfl j hlt2
      have h1r := (hbel.cell (p := ⟨g, 2 * j, none⟩) hg1).trans h1
      have h2r := (hbel.cell (p := ⟨g, 2 * j + 1, none⟩) hg1).trans h2
      have hT := getD_take_succ L j hlt2
      have hqm : (L.getD j (0, 0)) ∈ L := by rw [List.getD_eq_getElem?_getD, List.getElem?_eq_getElem hlt2]; exact List.getElem_mem hlt2
      have hql := HG.out _ hqm
      obtain ⟨a, ha⟩ : ∃ a, a = (L.getD j (0, 0)).1 := ⟨_, rfl⟩
      obtain ⟨b', hb'⟩ : ∃ b, b = (L.getD j (0, 0)).2 := ⟨_, rfl⟩
      rw [← ha] at h1r hT hql
      rw [← hb'] at h2r hT
      rw [Nat.mul_comm 2 j] at h1r h2r
      have howa : Own (wr.alloc (.cells #[.int .i64 a, .int .i64 b'] 42)) w1.heap.size (some ⟨g2, 0, none⟩) c2 (decs xs (L.take j)) := hown.below ((Below.refl _ _).alloc (Nat.le_refl _) _)
      have hcur := own_get howa (k := a) (by omega)
      have hfz := own_froz howa a
      have hbd2 := HC.out j a hql
      have hst := own_len (own_set howa a ((decs xs (L.take j)).getD a 0 - 1)) (show _ = decs xs (L.take (j + 1)) by rw [hT, decs_snoc])
      obtain ⟨u, hu⟩ : ∃ u, u = (decs xs (L.take j)).getD a 0 := ⟨_, rfl⟩
      rw [← hu] at hcur hst hbd2
      have hdl2 : (a : Int) < xs.length := by omega
      have HS := hid hst
      clear h1 h2 ha hb' hu hown howa hT hqm hst
      go_wp2_with fail
      go_roundw
      case rel => exact ⟨j + 1, by omega, by go_num, HS.out, (hbel.alloc hbel.size _).setCell (Nat.le_of_lt_succ (Nat.lt_succ_of_le hg2.1)) _⟩
      case measure => simp [intOf]; omega
    · have hje : j = L.length := by omega
      subst hje
      rw [List.take_of_length_le (Nat.le_refl _), HD.out] at hown
      have hrl2 : (restL xs r' k' low).length = xs.length := restL_len _ _ _ _
      have hc0 := (hbel.cell (p := ⟨g, 2 * 0, none⟩) hg1).trans (pl_cells HO1.out rfl 0 h0a).1
      rw [h0b] at hc0
      have hw : ∀ W, Own W w1.heap.size (some ⟨g2, 0, none⟩) c2 (restL xs r' k' low) → Calls Try.prog 25 #[.slice (some ⟨g2, 0, none⟩) xs.length c2] W fun e w' => e = .returned (.slice (some ⟨g2, 0, none⟩) (outL xs r' k' low).length c2) ∧ w' = W := fun W h => by
        have := noEmpty_any g2 c2 w1.heap.size _ xs r' k' low W HR.out rfl h
        rw [hrl2] at this
        exact this.mono fun _ _ ⟨a, _, b⟩ => ⟨a, b.symm⟩
      have HW := hid hw; clear hw
      rw [Nat.mul_zero] at hc0
      have how := own_out HR.out hown
      have HOW := hid how; clear how
      have hL0 : (0 : Int) < (L.length : Int) := by omega
      have hlw : IntKind.i64.wrap ((low : Int) - r') = (low : Int) - r' := by rw [IntWalk.i64_in _ (by omega)]
      go_wp2_with fail
      go_quiet ((go_at_call 25; exact Calls.quiet_of_same (HW.out _ hown)))
      go_wp2_with fail
      go_ret3
      exact ⟨_, _, rfl, HOW.out.more z1, Below.next b1 (below_drewN hbel _)⟩

set_option maxRecDepth 100000 in
set_option maxHeartbeats 4000000 in
theorem spec_WithoutRim (A : Option Addr) (c : Nat) (xs : List Int) (r k : Int) (w : World) (hl : xs.length ≤ 1048576) (hc : Cells w A xs) (hr64 : I64 r) (hk64 : I64 k) :
    Calls Try.prog 7 #[.slice A xs.length c, .int .i64 r, .int .i64 k] w fun e w' => ∃ A' c', e = .returned (.tuple #[.slice A' (outF xs r k).length c', .int .i64 (legF xs r k), .bool (atB xs r k)]) ∧ Own w' w.heap.size A' c' (outF xs r k) ∧ Below w.heap.size w w' := by
  cases hg : good xs
  · have hat : atB xs r k = false := by simp [atB, hg]
    rw [show outF xs r k = [] by simp [outF, hat], show legF xs r k = 0 by simp [legF, hat], hat]
    have HG := hid hg; clear hg hat
    go_enter Try.func7, Try.ntmps7
    go_wp2_with (go_at_call 20; refine (ptGood_b _ _ _ _ hl hc _ HG.out).mono ?_; rintro e w' ⟨rfl, n, rfl⟩)
    go_ret3
    exact ⟨none, 0, rfl, own_nil _ _, below_drew' _ _⟩
  cases hb : cellB xs r k
  · have hat : atB xs r k = false := by simp [atB, hb]
    rw [show outF xs r k = [] by simp [outF, hat], show legF xs r k = 0 by simp [legF, hat], hat]
    have HG := hid hg; have HB := hid hb; clear hg hat hb
    go_enter Try.func7, Try.ntmps7
    go_wp2_with (first | (go_at_call 20; refine (ptGood_b _ _ _ _ hl hc _ HG.out).mono ?_; rintro e w' ⟨rfl, n, rfl⟩) | (go_at_call 21; refine (ptCell_b _ _ _ _ _ _ HG.out hr64 hk64 (by exact hc) _ HB.out).mono ?_; rintro e w' ⟨rfl, rfl⟩))
    go_ret3
    exact ⟨none, 0, rfl, own_nil _ _, below_drew' _ _⟩
  have hat : atB xs r k = true := by simp [atB, hg, hb]
  obtain ⟨r', k', rfl, rfl, hr, hk⟩ := cellB_nat hb
  have G := (good_iff xs).1 hg
  have R := rim_ok G hr hk
  obtain ⟨low, hlow⟩ : ∃ low, low = lowN xs k' := ⟨_, rfl⟩
  rw [show outF xs r' k' = outL xs r' k' low by rw [hlow]; simp [outF, hat], show legF xs r' k' = (low : Int) - r' by rw [hlow]; simp [legF, hat], hat]
  have R : RimOK xs r' k' low := by rw [hlow]; exact R
  have hlen := G.len
  have hlt := R.low_lt
  have hrl := R.r_le
  have hkc : k' < (cols xs).length := col_lt G hr hk
  have hck : (cols xs).getD k' 0 = (low : Int) + 1 := by rw [cols_get xs k' (by rw [cols_len] at hkc; exact hkc), R.col]
  have hk0 : (0 : Int) ≤ (k' : Int) := by omega
  have hkk : (k' : Int) < ((cols xs).length : Int) := by omega
  have hw1 : IntKind.i64.wrap ((low : Int) + 1 - 1) = low := by rw [IntWalk.i64_in _ (by omega)]; omega
  have hw2 : IntKind.i64.wrap (low : Int) = low := by rw [IntWalk.i64_in _ (by omega)]
  have hw3 : IntKind.i64.wrap ((low : Int) - r') = (low : Int) - r' := by rw [IntWalk.i64_in _ (by omega)]
  have HR := hid R; have HG2 := hid G; have HG := hid hg; have HB := hid hb
  clear hat G R hlow hg hb hk
  go_enter Try.func7, Try.ntmps7
  go_wp2_with (first | (go_at_call 20; refine (ptGood_b _ _ _ _ hl hc _ HG.out).mono ?_; rintro e w' ⟨rfl, n, rfl⟩) | (go_at_call 21; refine (ptCell_b _ _ _ _ _ _ HG.out hr64 hk64 (by exact hc) _ HB.out).mono ?_; rintro e w' ⟨rfl, rfl⟩))
  obtain ⟨wn, hwn⟩ : ∃ wn : World, wn = w.drewN n := ⟨_, rfl⟩
  have bn : Below w.heap.size w wn := by rw [hwn]; exact below_drew' w n
  have hcd : Cells wn.drew A xs := hc.later (below_drewN bn 1)
  have bnd : Below w.heap.size w wn.drew := below_drewN bn 1
  rw [← hwn]
  clear hwn
  go_region_with (first | (go_at_call 26; refine (ptWithout_any _ _ _ _ _ _ _ HR.out hcd).mono ?_; rintro e w1 ⟨A1, c1, rfl, o1, b1⟩; have B1 := Below.next bnd b1; have hc1 := hcd.below b1) | (go_at_call 26; refine (ptWithout_any _ _ _ _ _ _ _ HR.out hc2).mono ?_; rintro e w1 ⟨A1, c1, rfl, o1, b1⟩; have B1 := Below.next B2 b1; have hcol1 := (b1.cell (World.block_lt_of_cell? _ _ hcol)).trans hcol) | (go_at_call 22; refine (ptTurn_any _ _ _ _ HG2.out hcd).mono ?_; rintro e w2 ⟨A2, c2, rfl, o2, b2⟩; have B2 := Below.next bnd b2; have hc2 := hcd.below b2; obtain ⟨b3, o3, rfl, hcol⟩ := o2.cells.get hkc; rw [hck] at hcol) | (go_at_call 22; refine (ptTurn_any _ _ _ _ HG2.out hc1).mono ?_; rintro e w2 ⟨A2, c2, rfl, o2, b2⟩; have B2 := Below.next B1 b2; obtain ⟨b3, o3, rfl, hcol⟩ := o2.cells.get hkc; rw [hck] at hcol; have o1' := o1.below b2))
  all_goals go_wp2_with fail
  all_goals go_ret3
  all_goals first | exact ⟨_, _, rfl, o1'.more bnd.size, B2⟩ | exact ⟨_, _, rfl, o1.more B2.size, B1⟩
end Go.Proofs.Ytnjaoaamcdohoaa
/-
  Contract: the sign of a number.
-/
namespace Go.Proofs.Ytnjaoaamcdohoaa
open Go.RowKit

def sgn (n : Int) : Int := if n % 2 = 0 then 1 else -1
end Go.Proofs.Ytnjaoaamcdohoaa
