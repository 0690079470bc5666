/-
  Contracts: TakeBar, BarCore and BarWeight on both sides.
-/
import Derived.Test.YtcgoiddghenkmaaBarF
import Derived.Test.YtcgoiddghenkmaaTkb
namespace Go.Proofs.Ytcgoiddghenkmaa
open Go.RowKit

theorem barRest_snoc (xs bar : List Int) (k : Nat) (h : k < xs.length) : (xs.getD k 0 ∈ bar → barRest (xs.take (k + 1)) bar = barRest (xs.take k) bar) ∧ (¬ xs.getD k 0 ∈ bar → barRest (xs.take (k + 1)) bar = barRest (xs.take k) bar ++ [xs.getD k 0]) := by
  have e : xs.take (k + 1) = xs.take k ++ [xs.getD k 0] := by
    rw [List.take_succ_eq_append_getElem h, List.getD_eq_getElem?_getD, List.getElem?_eq_getElem h]; rfl
  rw [e]
  exact ⟨barRest_snoc_no, barRest_snoc_yes⟩

set_option maxRecDepth 100000 in
set_option maxHeartbeats 2000000 in
theorem withoutBar_any (A Ab : Option Addr) (c cb : Nat) (xs bar : List Int) (t : Int) (w : World) (hs : strB xs = true) (hbl : bar.length = 1 ∨ bar.length = 2) (hib : isB xs t bar = true) (hbb : ∀ j, j < bar.length → 0 ≤ bar.getD j 0 ∧ bar.getD j 0 ≤ 1000) (ht : 0 ≤ t ∧ t ≤ 1000) (hc : Cells w A xs) (hcb : Cells w Ab bar) :
    Calls Try.prog 27 #[.slice A xs.length c, .slice Ab bar.length cb, .int .i64 t] w fun e w' => ∃ A' c', e = .returned (.slice A' (tkL xs t bar).length c') ∧ Own w' w.heap.size A' c' (tkL xs t bar) ∧ Below w.heap.size w w' := by
  obtain ⟨i0, hi, hz0, hz1, hz2⟩ := info_parts Try.infoInt
  have hlen := (strB_good hs).len
  have HC := hid hc; have HCB := hid hcb; clear hc hcb
  have HH := hid fun W z (h : Cells W Ab bar) => Contains_any Ab bar cb z W (by omega) h
  have HSN := hid (barRest_snoc xs bar)
  have hsum := sum_bound bar 1000 hbb
  have HCC := hid (cellCount_any Ab bar cb w (by omega) (fun j hj => by have := hbb j hj; omega) HCB.out)
  obtain ⟨K, hK1, hK2, hK3, hK4, hK5⟩ := prog_left hs hib
  have HRLN := hid fun k => barRest_len (xs.take k) bar
  have hs3 : bar.sum ≤ 2000 := by have := hsum.2; omega
  have hs0 := hsum.1
  obtain ⟨s, hs'⟩ : ∃ s, s = bar.sum := ⟨_, rfl⟩
  rw [← hs'] at HCC hs3 hs0 hK1 hK2 hK4 hK5
  obtain ⟨d, hd⟩ : ∃ d, d = s - t := ⟨_, rfl⟩
  rw [← hd] at hK1 hK2 hK4 hK5
  obtain ⟨R, hR⟩ : ∃ R, R = tkL xs t bar := ⟨_, rfl⟩
  rw [← hR] at hK2 hK3 ⊢
  have HK1 := hid hK1; have HK2 := hid hK2; have HK3 := hid hK3; have HK4 := hid hK4; have HK5 := hid hK5
  have HD := hid hd
  have o1 : Own (w.alloc (.cells #[.int .i64 d] 3)) w.heap.size (some ⟨w.heap.size, 0, none⟩) 1 [d] :=
    World.ownsRow_lit (base := w.heap.size) (e := 3) (size := 1) w #[.int .i64 d] 1 (Nat.le_refl _) (by unfold maxLen; omega) rfl
  have b1 : Below w.heap.size w (w.alloc (.cells #[.int .i64 d] 3)) := (Below.refl _ _).alloc (Nat.le_refl _) _
  rw [hd] at o1 b1
  have HO1 := hid o1
  have HB1 := hid b1
  clear hK1 hK2 hK3 hK4 hK5 hR hs' hsum hbb hib o1 b1 hd hs
  go_enter Try.func27, Try.ntmps27
  go_wp2_with (go_at_call 37; refine HCC.out.mono ?_; rintro e w' ⟨rfl, rfl⟩)
  go_loopw [7, 17] (fun v i wr => ∃ k : Nat, k ≤ xs.length ∧ i = .int .i64 k ∧ wr.ownsRow w.heap.size 3 1 v (d :: barRest (xs.take k) bar).length (IL (d :: barRest (xs.take k) bar)) ∧ Below w.heap.size w wr) (fun _ i _ => xs.length - (intOf i).toNat)
  case atStart => exact ⟨0, Nat.zero_le _, rfl, by rw [HD.out]; exact HO1.out, HB1.out⟩
  case round =>
    obtain ⟨k, hk, rfl, hown, hbel⟩ := hrel
    have hRl := HRLN.out k
    rw [List.length_take] at hRl
    by_cases hlt : k < xs.length
    · obtain ⟨b, o, rfl, hcc⟩ := (HC.out.later hbel) (by omega)
      have hck := hcc k hlt
      have HSNk := hid (HSN.out k hlt)
      have HHk := hid fun z => HH.out wr z (HCB.out.later hbel)
      obtain ⟨y, hy⟩ : ∃ y, y = xs.getD k 0 := ⟨_, rfl⟩
      rw [← hy] at hck HSNk
      by_cases hm : y ∈ bar
      · have HE := hid (HSNk.out.1 hm)
        have HHz := hid (HHk.out y)
        rw [decide_eq_true hm] at HHz
        clear hm hcc hy
        go_wp2_with (go_at_call 38; refine HHz.out.mono ?_; rintro e w' ⟨rfl, rfl⟩)
        go_roundw
        case rel => exact ⟨k + 1, by omega, by go_num, by rw [HE.out]; exact hown, hbel⟩
        case measure => simp [intOf]; omega
      · have HE := hid (HSNk.out.2 hm)
        have HHz := hid (HHk.out y)
        rw [decide_eq_false hm] at HHz
        have hl0 : (d :: barRest (xs.take k) bar).length ≤ 31 := by rw [List.length_cons]; omega
        have HEC := hid (show d :: barRest (xs.take (k + 1)) bar = (d :: barRest (xs.take k) bar) ++ [y] by rw [HE.out]; rfl)
        obtain ⟨L, hL⟩ : ∃ L, L = d :: barRest (xs.take k) bar := ⟨_, rfl⟩
        rw [← hL] at hown hl0 HEC
        clear hm hcc hy hL hRl
        go_wp2_with (first | (go_at_call 38; refine HHz.out.mono ?_; rintro e w' ⟨rfl, rfl⟩) | (at_builtin; refine wpList_append_own _ rfl _ _ 22 rfl w.heap.size 3 i0 (.int .i64 0) 1 8 Try.underlying22 hi hz0 hz1 hz2 rfl (by decide) _ _ _ rfl (hown.alloc _) ⟨wr.heap.size, 0, none⟩ 1 1 [.int .i64 y] rfl rfl one_at (one_cell _) (by unfold maxLen; omega) (by omega) (by have := hbel.size; simp; omega) ?_))
        intro v' w1 hown' hgrow _
        have hb1 : Below w.heap.size w w1 := (hbel.alloc hbel.size _).grown hgrow (by have := hbel.size; simp; omega) (fun q hq => (hown.lt q hq).1)
        have hown2 := own_snoc HEC.out hown'
        clear hgrow hown hown'
        go_wp2_with fail
        go_roundw
        case rel => exact ⟨k + 1, by omega, by go_num, hown2, hb1⟩
        case measure => simp [intOf]; omega
    · have hke : k = xs.length := by omega
      subst hke
      rw [List.take_length] at hown hRl
      have hl0 : (d :: barRest xs bar).length ≤ 31 := by rw [List.length_cons]; omega
      have HML := hid (sortD_len (d :: barRest xs bar))
      obtain ⟨A1, c1, rfl, ho⟩ := own_form hown rfl
      obtain ⟨g1, hg1, _, _⟩ := ho.at_ (by simp)
      have HGP := hid (gpf_any A1 c1 (d :: barRest xs bar) wr (by omega) ho)
      rw [show ((d :: barRest xs bar).mergeSort fun x y => decide (x ≤ y)).reverse = sortD (d :: barRest xs bar) from rfl] at HGP
      obtain ⟨Z, hZ⟩ : ∃ Z, Z = sortD (d :: barRest xs bar) := ⟨_, rfl⟩
      rw [← hZ] at HGP HML HK2 HK4 HK5
      have HWE := hid fun B' W (h : Own W B' (some ⟨g1, 0, none⟩) c1 Z) => stripZ_any g1 c1 B' Z K W (by have := HML.out; omega) (by have := HML.out; have := HK1.out; omega) HK4.out HK5.out h
      rw [HML.out] at HWE
      rw [hg1] at HGP
      subst hg1
      have HBB := hid hbel
      have HHZ := hid (hbel.size)
      clear hown ho hZ hRl hl0 hbel
      go_wp2_with (first | (go_at_call 42; refine HGP.out.mono ?_; rintro e w3 ⟨rfl, o3, b3⟩) | (go_at_call 41; refine (HWE.out _ _ o3).mono ?_; rintro e w4 ⟨rfl, o4, rfl⟩))
      go_ret
      exact ⟨some ⟨g1, 0, none⟩, c1, by rw [HK3.out]; rfl, by rw [← HK2.out]; exact o4, b3 _ _ (Nat.le_refl _) HBB.out⟩

def tbB (xs : List Int) (t k : Int) : Bool := brtB xs t && (decide (0 ≤ k) && decide (k < ((brs xs t xs.length).length : Int)))
def tbF (xs : List Int) (t k : Int) : List Int := if tbB xs t k then tkL xs t ((brs xs t xs.length).getD k.toNat []) else []
theorem tbF_f {xs : List Int} {t k : Int} (h : tbB xs t k = false) : tbF xs t k = [] := by simp [tbF, h]
theorem tbF_t {xs : List Int} {t k : Int} (h : tbB xs t k = true) : tbF xs t k = tkL xs t ((brs xs t xs.length).getD k.toNat []) := by simp [tbF, h]
theorem bar_ok {xs : List Int} {t : Int} (hs : strB xs = true) {k : Nat} (hk : k < (brs xs t xs.length).length) :
    (((brs xs t xs.length).getD k []).length = 1 ∨ ((brs xs t xs.length).getD k []).length = 2) ∧ isB xs t ((brs xs t xs.length).getD k []) = true ∧ (∀ j, j < ((brs xs t xs.length).getD k []).length → 0 ≤ ((brs xs t xs.length).getD k []).getD j 0 ∧ ((brs xs t xs.length).getD k []).getD j 0 ≤ 1000) ∧ ∃ i, i < xs.length ∧ (brs xs t xs.length).getD k [] ∈ candA xs i := by
  have hm : (brs xs t xs.length).getD k [] ∈ brs xs t xs.length := by rw [List.getD_eq_getElem?_getD, List.getElem?_eq_getElem hk]; exact List.getElem_mem hk
  obtain ⟨i, hi, hc, hb⟩ := brs_mem xs.length (Nat.le_refl _) hm
  have h := candA_mem hi hc
  refine ⟨h.1, hb, fun j hj => ?_, i, hi, hc⟩
  have h3 := strB_mem hs _ (h.2 (((brs xs t xs.length).getD k []).getD j 0) (by rw [List.getD_eq_getElem?_getD (l := (brs xs t xs.length).getD k []), List.getElem?_eq_getElem hj]; exact List.getElem_mem hj))
  omega
theorem bound_TakeBar (xs : List Int) (t k : Int) : (tbF xs t k).length ≤ 1048576 := by
  cases h : tbB xs t k
  · rw [tbF_f h]; simp
  · rw [tbF_t h]
    simp only [tbB, Bool.and_eq_true, decide_eq_true_eq] at h
    have ht := brtB_t h.1
    have hk : k.toNat < (brs xs t xs.length).length := by omega
    obtain ⟨_, hb, _, i, hi, hc⟩ := bar_ok (t := t) ht.2 hk
    have := (strB_good (tkL_str ht.2 (by omega) hi hc hb).1).len
    omega

set_option maxRecDepth 100000 in
set_option maxHeartbeats 2000000 in
theorem impl_TakeBarC (A : Option Addr) (c : Nat) (xs : List Int) (t k : Int) (w : World) (hl : xs.length ≤ 1048576) (hlc : xs.length ≤ c) (hc0 : Cells w A xs) (_ : I64 t) (h64 : I64 k) :
    Calls Try.prog 14 #[.slice A xs.length c, .int .i64 t, .int .i64 k] w fun e w' => ∃ A' c', e = .returned (.tuple #[.slice A' (tbF xs t k).length c', .bool (tbB xs t k)]) ∧ Own w' w.heap.size A' c' (tbF xs t k) ∧ Below w.heap.size w w' := by
  obtain ⟨i1, hj, hy0, hy1, hy2⟩ := info_parts Try.infoInts
  have HC := hid hc0; clear hc0
  obtain ⟨w1, hw1⟩ : ∃ w1, w1 = w.alloc (.cells #[.int .i64 k] 3) := ⟨_, rfl⟩
  have k1 : w1.cell? ⟨w.heap.size, 0, none⟩ = some (.int .i64 k) := by
    rw [hw1]; exact World.ownsRow.cellAt (World.ownsRow_lit (base := w.heap.size) (e := 3) (size := 1) w #[.int .i64 k] 1 (Nat.le_refl _) (by unfold maxLen; omega) rfl) 0 (by omega)
  have B1 : Below w.heap.size w w1 := by rw [hw1]; exact (Below.refl _ _).alloc (Nat.le_refl _) _
  have hz1 : w1.heap.size = w.heap.size + 1 := by rw [hw1]; simp
  have HK := hid fun W (h : Below w1.heap.size w1 W) => (h.cell (p := ⟨w.heap.size, 0, none⟩) (by show w.heap.size < _; omega)).trans k1
  have HC1 := hid fun W (h : Below w1.heap.size w1 W) => HC.out.later (Below.next B1 h)
  have HB1 := hid B1
  have HW := hid hw1
  clear B1 hz1
  cases hb : brtB xs t
  · have hf : tbB xs t k = false := by simp [tbB, hb]
    rw [tbF_f hf, hf]
    have HB := hid hb
    clear hf hb
    subst hw1
    go_enter Try.func14, Try.ntmps14
    go_wp2_with (go_at_call 21; refine (canHaveBars_b _ _ _ _ _ hl (HC1.out _ (Below.refl _ _)) _ HB.out).mono ?_; rintro e w' ⟨rfl, rfl⟩)
    go_ret2
    exact ⟨none, 0, rfl, own_nil _ _, HB1.out⟩
  by_cases hk0 : k < 0
  · have hf : tbB xs t k = false := by
      have : decide (0 ≤ k) = false := decide_eq_false (by omega)
      simp [tbB, this]
    rw [tbF_f hf, hf]
    have HB := hid hb
    clear hf hb
    subst hw1
    go_enter Try.func14, Try.ntmps14
    go_wp2_with (go_at_call 21; refine (canHaveBars_b _ _ _ _ _ hl (HC1.out _ (Below.refl _ _)) _ HB.out).mono ?_; rintro e w' ⟨rfl, rfl⟩)
    go_ret2
    exact ⟨none, 0, rfl, own_nil _ _, HB1.out⟩
  obtain ⟨q, rfl⟩ : ∃ q : Nat, k = q := ⟨k.toNat, by omega⟩
  obtain ⟨ht, hs⟩ := brtB_t hb
  have hTB : tbB xs t q = decide (q < (brs xs t xs.length).length) := by
    simp only [tbB, hb, Bool.true_and]
    rw [decide_eq_true (show (0 : Int) ≤ (q : Int) by omega), Bool.true_and]
    exact decide_eq_decide.2 (by omega)
  have HB := hid hb; clear hb
  have HBT := hid fun W => barTest_any A c xs.length t W
  have HIN := hid fun T Q W (h : Below w1.heap.size w1 W) h1 h2 => barsUpto_any A c xs t T Q w.heap.size q W hs (t_small ht) hlc (HC1.out W h) h1 h2 (HK.out W h)
  have hbd := (brs_bd (t := t) (strB_good hs)).1
  have HOK := hid fun (h : q < (brs xs t xs.length).length) => bar_ok (t := t) hs h
  have HWB := hid fun (bar : List Int) (Ab : Option Addr) (cb : Nat) W (h1 : bar.length = 1 ∨ bar.length = 2) (h2 : isB xs t bar = true) h3 (h : Below w1.heap.size w1 W) (h4 : Cells W Ab bar) => withoutBar_any A Ab c cb xs bar t W hs h1 h2 h3 (t_small ht) (HC1.out W h) h4
  have HTF := hid fun (h : tbB xs t q = true) => tbF_t h
  have HTN := hid fun (h : tbB xs t q = false) => tbF_f h
  rw [Int.toNat_natCast] at HTF
  obtain ⟨F, hF⟩ : ∃ F, F = tbF xs t q := ⟨_, rfl⟩
  rw [← hF] at HTF HTN ⊢
  rw [hTB] at HTF HTN
  rw [hTB]
  obtain ⟨R, hR⟩ : ∃ R, R = brs xs t xs.length := ⟨_, rfl⟩
  rw [← hR] at HIN hbd HOK HTF HTN ⊢
  have hrl : (R.take (q + 1)).length = min (q + 1) R.length := List.length_take
  clear ht hs hTB hF hR hk0
  by_cases hq : q < R.length
  · have HF := hid (HTF.out (decide_eq_true hq))
    obtain ⟨h1, h2, h3, _⟩ := HOK.out hq
    rw [decide_eq_true hq]
    have hrl2 : (R.take (q + 1)).length = q + 1 := by omega
    have hg : (R.take (q + 1)).getD q [] = R.getD q [] := by
      rw [List.getD_eq_getElem?_getD, List.getD_eq_getElem?_getD, List.getElem?_take, if_pos (by omega)]
    have HG := hid hg
    obtain ⟨bar, hbar⟩ : ∃ bar, bar = R.getD q [] := ⟨_, rfl⟩
    rw [← hbar] at HG HF h1 h2 h3
    have HH1 := hid h1; have HH2 := hid h2; have HH3 := hid h3
    obtain ⟨L, hL⟩ : ∃ L, L = R.take (q + 1) := ⟨_, rfl⟩
    rw [← hL] at HIN hrl2 HG
    have HL := hid hrl2
    clear hrl hrl2 hg hbar h1 h2 h3 hL HTF HTN HOK
    have hqi : ¬ ((q : Int) + 1 ≤ (q : Int)) := by omega
    have hcq := HK.out w1 (Below.refl _ _)
    rw [HF.out]
    subst hw1
    go_enter Try.func14, Try.ntmps14
    go_wp2_with (first | (go_at_call 21; refine (canHaveBars_b _ _ _ _ _ hl (HC1.out _ (Below.refl _ _)) _ HB.out).mono ?_; rintro e w' ⟨rfl, rfl⟩) | (go_at_call 23; refine (HBT.out _).mono ?_; rintro e w2 ⟨T, Q, rfl, h1, h2, b2⟩))
    refine (HIN.out T Q w2 b2 h1 h2).mono ?_
    rintro e w3 ⟨A3, c3, rfl, ⟨P3, C3, o3⟩, b3⟩
    have B3 := Below.next b2 b3
    have hk3 := HK.out w3 B3
    obtain ⟨g3, rfl, hc3⟩ := o3.top1 (j := q) (by rw [HL.out]; omega)
    have hr3 := hid (o3.row q (by rw [HL.out]; omega)).cells
    rw [HG.out] at hc3
    rw [HL.out]
    have hq1 : (q : Int) < (q : Int) + 1 := by omega
    clear o3 h1 h2
    go_wp2_with (go_at_call 27; refine (HWB.out bar (P3 q) (C3 q) w3 HH1.out HH2.out HH3.out B3 (by rw [← HG.out]; exact hr3.out)).mono ?_; rintro e w4 ⟨A4, c4, rfl, o4, b4⟩)
    go_ret2
    exact ⟨A4, c4, rfl, o4.more (by have := HB1.out.size; have := B3.size; omega), Below.next (Below.next HB1.out B3) b4⟩
  · have HF := hid (HTN.out (decide_eq_false hq))
    rw [decide_eq_false hq]
    have hrl2 : (R.take (q + 1)).length = R.length := by omega
    obtain ⟨L, hL⟩ : ∃ L, L = R.take (q + 1) := ⟨_, rfl⟩
    rw [← hL] at HIN hrl2
    have HL := hid hrl2
    obtain ⟨N, hN⟩ : ∃ N, N = R.length := ⟨_, rfl⟩
    rw [← hN] at HL hq hbd
    have hqi : (N : Int) ≤ (q : Int) := by omega
    clear hrl hrl2 hL HTF HTN HOK hN hq
    rw [HF.out]
    subst hw1
    go_enter Try.func14, Try.ntmps14
    go_wp2_with (first | (go_at_call 21; refine (canHaveBars_b _ _ _ _ _ hl (HC1.out _ (Below.refl _ _)) _ HB.out).mono ?_; rintro e w' ⟨rfl, rfl⟩) | (go_at_call 23; refine (HBT.out _).mono ?_; rintro e w2 ⟨T, Q, rfl, h1, h2, b2⟩) | (go_at_call 24; refine (HIN.out T Q w2 b2 h1 h2).mono ?_; rintro e w3 ⟨A3, c3, rfl, o3, b3⟩; have B3 := Below.next b2 b3; have hk3 := HK.out w3 B3; rw [HL.out]))
    go_ret2
    exact ⟨none, 0, rfl, own_nil _ _, Below.next HB1.out B3⟩

theorem impl_TakeBar {B : Nat} (A : Option Addr) (c : Nat) (xs : List Int) (t k : Int) (w : World) (hl : xs.length ≤ 1048576) (ho : Own w B A c xs) (h61 : I64 t) (h62 : I64 k) :
    Calls Try.prog 14 #[.slice A xs.length c, .int .i64 t, .int .i64 k] w fun e w' => ∃ A' c', e = .returned (.tuple #[.slice A' (tbF xs t k).length c', .bool (tbB xs t k)]) ∧ Own w' w.heap.size A' c' (tbF xs t k) ∧ Below w.heap.size w w' := impl_TakeBarC A c xs t k w hl ho.cap ho.cells h61 h62

set_option maxRecDepth 100000 in
set_option maxHeartbeats 2000000 in
theorem spec_TakeBarC (A : Option Addr) (c : Nat) (xs : List Int) (t k : Int) (w : World) (hl : xs.length ≤ 1048576) (hlc : xs.length ≤ c) (hc0 : Cells w A xs) (_ : I64 t) (_ : I64 k) :
    Calls Try.prog 16 #[.slice A xs.length c, .int .i64 t, .int .i64 k] w fun e w' => ∃ A' c', e = .returned (.tuple #[.slice A' (tbF xs t k).length c', .bool (tbB xs t k)]) ∧ Own w' w.heap.size A' c' (tbF xs t k) ∧ Below w.heap.size w w' := by
  obtain ⟨i1, hj, hy0, hy1, hy2⟩ := info_parts Try.infoInts
  have HC := hid hc0; clear hc0
  cases hb : brtB xs t
  · have hf : tbB xs t k = false := by simp [tbB, hb]
    rw [tbF_f hf, hf]
    have HB := hid hb; clear hb hf
    go_enter Try.func16, Try.ntmps16
    go_wp2_with (go_at_call 19; refine (brT_b _ _ _ _ _ hl HC.out _ HB.out).mono ?_; rintro e w' ⟨rfl, n, rfl⟩)
    go_ret2
    exact ⟨none, 0, rfl, own_nil _ _, below_drew' _ _⟩
  obtain ⟨ht, hs⟩ := brtB_t hb
  have hTB : tbB xs t k = inB 0 (((brs xs t xs.length).length : Int) - 1) k := by
    simp only [tbB, hb, Bool.true_and, inB]
    congr 1
    exact decide_eq_decide.2 (by omega)
  have HB := hid hb; clear hb
  have HIN := hid fun W (h : Below w.heap.size w W) => brBars_any A c xs t W hs (t_small ht) hlc (HC.out.later h)
  have hbd := (brs_bd (t := t) (strB_good hs)).1
  have HOK := hid fun q (h : q < (brs xs t xs.length).length) => bar_ok (t := t) hs h
  have hlen := (strB_good hs).len
  have HWB := hid fun (bar : List Int) (Ab : Option Addr) (cb : Nat) W (h1 : bar.length = 1 ∨ bar.length = 2) (h2 : isB xs t bar = true) h3 (h : Below w.heap.size w W) (h4 : Cells W Ab bar) => brTake_any A Ab c cb xs bar t W hlen h1 h2 h3 (t_small ht) (HC.out.later h) h4
  have HTF := hid fun (h : tbB xs t k = true) => tbF_t h
  have HTN := hid fun (h : tbB xs t k = false) => tbF_f h
  obtain ⟨F, hF⟩ : ∃ F, F = tbF xs t k := ⟨_, rfl⟩
  rw [← hF] at HTF HTN ⊢
  rw [hTB] at HTF HTN
  rw [hTB]
  obtain ⟨R, hR⟩ : ∃ R, R = brs xs t xs.length := ⟨_, rfl⟩
  rw [← hR] at HIN hbd HOK HTF HTN ⊢
  clear ht hs hTB hF hR
  cases hq : inB 0 ((R.length : Int) - 1) k
  · have HF := hid (HTN.out hq)
    have HQ := hid hq
    rw [HF.out]
    clear hq HTF HTN
    go_enter Try.func16, Try.ntmps16
    go_wp2_with (first | (go_at_call 19; refine (brT_b _ _ _ _ _ hl HC.out _ HB.out).mono ?_; rintro e w' ⟨rfl, n, rfl⟩) | (go_at_call 25; refine (HIN.out _ (below_drew' w n)).mono ?_; rintro e w2 ⟨A2, c2, rfl, o2, b2⟩) | (go_at_call 30; refine (l1In_b _ _ _ _ _ HQ.out).mono ?_; rintro e w' ⟨rfl, rfl⟩))
    go_ret2
    exact ⟨none, 0, rfl, own_nil _ _, Below.next (below_drew' w n) b2⟩
  · have hq2 := inB_iff.1 hq
    obtain ⟨q, rfl⟩ : ∃ q : Nat, k = q := ⟨k.toNat, by omega⟩
    have HF := hid (HTF.out hq)
    rw [Int.toNat_natCast] at HF
    have HQ := hid hq
    obtain ⟨h1, h2, h3, _⟩ := HOK.out q (by omega)
    obtain ⟨bar, hbar⟩ : ∃ bar, bar = R.getD q [] := ⟨_, rfl⟩
    rw [← hbar] at HF h1 h2 h3
    have HG := hid hbar
    have HH1 := hid h1; have HH2 := hid h2; have HH3 := hid h3
    rw [HF.out]
    have hqi : (q : Int) < (R.length : Int) := by omega
    have hqn : q < R.length := by omega
    clear hq HTF HTN hbar h1 h2 h3
    go_enter Try.func16, Try.ntmps16
    go_wp2_with (first | (go_at_call 19; refine (brT_b _ _ _ _ _ hl HC.out _ HB.out).mono ?_; rintro e w' ⟨rfl, n, rfl⟩) | (go_at_call 25; refine (HIN.out _ (below_drew' w n)).mono ?_; rintro e w2 ⟨A2, c2, rfl, ⟨P3, C3, o3⟩, b2⟩; have B2 := Below.next (below_drew' w n) b2; obtain ⟨g3, rfl, hc3⟩ := o3.top1 (j := q) hqn; have hr3 := hid (o3.row q hqn).cells; rw [← HG.out] at hc3; clear o3) | (go_at_call 30; refine (l1In_b _ _ _ _ _ HQ.out).mono ?_; rintro e w' ⟨rfl, rfl⟩) | (go_at_call 31; refine (HWB.out bar (P3 q) (C3 q) w2 HH1.out HH2.out HH3.out B2 (by rw [HG.out]; exact hr3.out)).mono ?_; rintro e w4 ⟨A4, c4, rfl, o4, b4⟩))
    go_ret2
    exact ⟨A4, c4, rfl, o4.more B2.size, Below.next B2 b4⟩
theorem spec_TakeBar {B : Nat} (A : Option Addr) (c : Nat) (xs : List Int) (t k : Int) (w : World) (hl : xs.length ≤ 1048576) (ho : Own w B A c xs) (h61 : I64 t) (h62 : I64 k) :
    Calls Try.prog 16 #[.slice A xs.length c, .int .i64 t, .int .i64 k] w fun e w' => ∃ A' c', e = .returned (.tuple #[.slice A' (tbF xs t k).length c', .bool (tbB xs t k)]) ∧ Own w' w.heap.size A' c' (tbF xs t k) ∧ Below w.heap.size w w' := spec_TakeBarC A c xs t k w hl ho.cap ho.cells h61 h62

end Go.Proofs.Ytcgoiddghenkmaa
