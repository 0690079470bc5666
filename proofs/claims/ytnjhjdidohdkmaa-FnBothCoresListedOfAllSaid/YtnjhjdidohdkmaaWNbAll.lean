/-
  The walk of FnBothCoresListedOfAll (made by gennb.py).
-/
import Derived.Test.YtnjhjdidohdkmaaNbcMath
import Derived.Deep.CutRange
namespace Go.Proofs.Ytnjhjdidohdkmaa
open Go.RowKit

theorem sameB_any (A B : Option Addr) (c d : Nat) (xs ys : List Int) (w : World) (hl : xs.length ≤ 1048576) (hl2 : ys.length ≤ 1048576) (hA : Cells w A xs) (hB : Cells w B ys) :
    Calls Try.prog 17 #[.slice A xs.length c, .slice B ys.length d] w fun e w' => e = .returned (.bool (decide (xs = ys))) ∧ Below w.heap.size w w' :=
  (qSame_any A B c d xs ys w hl hl2 hA hB).mono (by rintro e w' ⟨rfl, n, rfl⟩; exact ⟨rfl, below_drew' _ _⟩)
theorem sameT_any (A B : Option Addr) (c d : Nat) (xs : List Int) (w : World) (hl : xs.length ≤ 1048576) (hA : Cells w A xs) (hB : Cells w B xs) :
    Calls Try.prog 17 #[.slice A xs.length c, .slice B xs.length d] w fun e w' => e = .returned (.bool true) ∧ Below w.heap.size w w' :=
  (sameB_any A B c d xs xs w hl hl hA hB).mono (by rintro e w' ⟨rfl, b⟩; exact ⟨by rw [decide_eq_true rfl], b⟩)

set_option maxRecDepth 100000 in
set_option maxHeartbeats 16000000 in
theorem walkBothCoresListedOfAll (a b : Int) (w : World) (ha : I64 a) (hb : I64 b) :
    Calls Try.prog 3 #[.int .i64 a, .int .i64 b] w fun e w' => e = .returned (.bool true) ∧ Below w.heap.size w w' := by
  have hrl : ∀ k, k < (abF a b).length → ((abF a b).getD k []).length ≤ 1048576 := by
    intro k hk
    unfold abF at hk ⊢
    split at hk
    · rename_i h
      rw [if_pos h]
      have := ((good_iff _).1 (boL_good a b ((boL a b).getD k []) (by rw [List.getD_eq_getElem?_getD, List.getElem?_eq_getElem hk]; exact List.getElem_mem _))).len
      omega
    · simp at hk
  have hal : (abF a b).length ≤ 10000 := by
    unfold abF
    split
    · rename_i h; have := boL_len30 h; omega
    · simp
  have HA1 := hid fun W => impl_AllBoth a b W ha hb
  have HA2 := hid fun W => spec_AllBoth a b W ha hb
  have HC1 := hid fun W => impl_CountBoth a b W ha hb
  have HC2 := hid fun W => spec_CountBoth a b W ha hb
  have HG1 := hid fun W => impl_GreatestBoth a b W ha hb
  have HG2 := hid fun W => spec_GreatestBoth a b W ha hb
  have HS1 := hid fun W => impl_CellsOfBoth a b W ha hb
  have HS2 := hid fun W => spec_CellsOfBoth a b W ha hb
  have HT1 := hid fun W => impl_CountTurned a b W ha hb
  have HT2 := hid fun W => spec_CountTurned a b W ha hb
  have HP1 := hid fun W => impl_GapsOf a b W ha hb
  have HP2 := hid fun W => spec_GapsOf a b W ha hb
  have HSZ := hid fun W => impl_AreSizes a b W ha hb
  have HQR := hid fun A B c d W (hA : Cells2 W A (abF a b)) (hB : Cells2 W B (abF a b)) => (qSameRows_t A B c d (abF a b) W hal hrl hA hB).mono (R' := fun e w' => e = .returned (.bool true) ∧ Below W.heap.size W w') (by rintro e w' ⟨rfl, n, rfl⟩; exact ⟨rfl, below_drew' _ _⟩)
  have HQG := hid fun A B c d W (hA : Cells W A (greatF a b)) (hB : Cells W B (greatF a b)) => sameT_any A B c d (greatF a b) W (bound_GreatestBoth a b) hA hB
  have HQP := hid fun A B c d W (hA : Cells W A (gapsF a b)) (hB : Cells W B (gapsF a b)) => sameT_any A B c d (gapsF a b) W (bound_GapsOf a b) hA hB
  cases hs : sz a b
  · rw [show abF a b = [] by simp [abF, hs]] at HA1 HA2 HQR
    rw [show greatF a b = [] by simp [greatF, hs]] at HG1 HG2 HQG
    rw [show gapsF a b = [] by simp [gapsF, hs]] at HP1 HP2 HQP
    rw [hs] at HA1 HA2 HC1 HC2 HG1 HG2 HS1 HS2 HT1 HT2 HP1 HP2 HSZ
    simp only [List.length_nil] at HA1 HA2 HQR HG1 HG2 HQG HP1 HP2 HQP
    obtain ⟨C, hC⟩ : ∃ C, C = cbF a b := ⟨_, rfl⟩
    obtain ⟨S, hS⟩ : ∃ S, S = cobF a b := ⟨_, rfl⟩
    obtain ⟨U, hU⟩ : ∃ U, U = ctuF a b := ⟨_, rfl⟩
    rw [← hC] at HC1 HC2
    rw [← hS] at HS1 HS2
    rw [← hU] at HT1 HT2
    clear hC hS hU hs hrl hal
    have B0 : Below w.heap.size w w := Below.refl _ _
    go_enter Try.func3, Try.ntmps3
    go_wp2_with fail
    refine (HA1.out _).mono ?_
    rintro e w1 ⟨Aa1, ca1, rfl, oa1, b1⟩
    have B1 : Below w.heap.size w w1 := Below.next B0 b1
    go_wp2_with fail
    refine (HA2.out _).mono ?_
    rintro e w2 ⟨Aa2, ca2, rfl, oa2, b2⟩
    have B2 : Below w.heap.size w w2 := Below.next B1 b2
    have oa1_2 := oa1.below b2
    clear oa1
    go_wp2_with fail
    refine (HC1.out _).mono ?_
    rintro e w3 ⟨rfl, b3⟩
    have B3 : Below w.heap.size w w3 := Below.next B2 b3
    have oa1_3 := oa1_2.below b3
    clear oa1_2
    have oa2_3 := oa2.below b3
    clear oa2
    go_wp2_with fail
    refine (HC2.out _).mono ?_
    rintro e w4 ⟨rfl, b4⟩
    have B4 : Below w.heap.size w w4 := Below.next B3 b4
    have oa1_4 := oa1_3.below b4
    clear oa1_3
    have oa2_4 := oa2_3.below b4
    clear oa2_3
    go_wp2_with fail
    refine (HG1.out _).mono ?_
    rintro e w5 ⟨Ag1, cg1, rfl, og1, b5⟩
    have B5 : Below w.heap.size w w5 := Below.next B4 b5
    have oa1_5 := oa1_4.below b5
    clear oa1_4
    have oa2_5 := oa2_4.below b5
    clear oa2_4
    go_wp2_with fail
    refine (HG2.out _).mono ?_
    rintro e w6 ⟨Ag2, cg2, rfl, og2, b6⟩
    have B6 : Below w.heap.size w w6 := Below.next B5 b6
    have oa1_6 := oa1_5.below b6
    clear oa1_5
    have oa2_6 := oa2_5.below b6
    clear oa2_5
    have og1_6 := og1.below b6
    clear og1
    go_wp2_with fail
    refine (HS1.out _).mono ?_
    rintro e w7 ⟨rfl, b7⟩
    have B7 : Below w.heap.size w w7 := Below.next B6 b7
    have oa1_7 := oa1_6.below b7
    clear oa1_6
    have oa2_7 := oa2_6.below b7
    clear oa2_6
    have og1_7 := og1_6.below b7
    clear og1_6
    have og2_7 := og2.below b7
    clear og2
    go_wp2_with fail
    refine (HS2.out _).mono ?_
    rintro e w8 ⟨rfl, b8⟩
    have B8 : Below w.heap.size w w8 := Below.next B7 b8
    have oa1_8 := oa1_7.below b8
    clear oa1_7
    have oa2_8 := oa2_7.below b8
    clear oa2_7
    have og1_8 := og1_7.below b8
    clear og1_7
    have og2_8 := og2_7.below b8
    clear og2_7
    go_wp2_with fail
    refine (HT1.out _).mono ?_
    rintro e w9 ⟨rfl, b9⟩
    have B9 : Below w.heap.size w w9 := Below.next B8 b9
    have oa1_9 := oa1_8.below b9
    clear oa1_8
    have oa2_9 := oa2_8.below b9
    clear oa2_8
    have og1_9 := og1_8.below b9
    clear og1_8
    have og2_9 := og2_8.below b9
    clear og2_8
    go_wp2_with fail
    refine (HT2.out _).mono ?_
    rintro e w10 ⟨rfl, b10⟩
    have B10 : Below w.heap.size w w10 := Below.next B9 b10
    have oa1_10 := oa1_9.below b10
    clear oa1_9
    have oa2_10 := oa2_9.below b10
    clear oa2_9
    have og1_10 := og1_9.below b10
    clear og1_9
    have og2_10 := og2_9.below b10
    clear og2_9
    go_wp2_with fail
    refine (HP1.out _).mono ?_
    rintro e w11 ⟨Ap1, cp1, rfl, op1, b11⟩
    have B11 : Below w.heap.size w w11 := Below.next B10 b11
    have oa1_11 := oa1_10.below b11
    clear oa1_10
    have oa2_11 := oa2_10.below b11
    clear oa2_10
    have og1_11 := og1_10.below b11
    clear og1_10
    have og2_11 := og2_10.below b11
    clear og2_10
    go_wp2_with fail
    refine (HP2.out _).mono ?_
    rintro e w12 ⟨Ap2, cp2, rfl, op2, b12⟩
    have B12 : Below w.heap.size w w12 := Below.next B11 b12
    have oa1_12 := oa1_11.below b12
    clear oa1_11
    have oa2_12 := oa2_11.below b12
    clear oa2_11
    have og1_12 := og1_11.below b12
    clear og1_11
    have og2_12 := og2_11.below b12
    clear og2_11
    have op1_12 := op1.below b12
    clear op1
    go_wp2_with fail
    refine (HQR.out _ _ _ _ _ oa1_12.cells oa2_12.cells).mono ?_
    rintro e w13 ⟨rfl, b13⟩
    have B13 : Below w.heap.size w w13 := Below.next B12 b13
    have oa1_13 := oa1_12.below b13
    clear oa1_12
    have oa2_13 := oa2_12.below b13
    clear oa2_12
    have og1_13 := og1_12.below b13
    clear og1_12
    have og2_13 := og2_12.below b13
    clear og2_12
    have op1_13 := op1_12.below b13
    clear op1_12
    have op2_13 := op2.below b13
    clear op2
    go_wp2_with fail
    refine (HQG.out _ _ _ _ _ og1_13.cells og2_13.cells).mono ?_
    rintro e w14 ⟨rfl, b14⟩
    have B14 : Below w.heap.size w w14 := Below.next B13 b14
    have oa1_14 := oa1_13.below b14
    clear oa1_13
    have og1_14 := og1_13.below b14
    clear og1_13
    have og2_14 := og2_13.below b14
    clear og2_13
    have op1_14 := op1_13.below b14
    clear op1_13
    have op2_14 := op2_13.below b14
    clear op2_13
    go_wp2_with fail
    refine (HQP.out _ _ _ _ _ op1_14.cells op2_14.cells).mono ?_
    rintro e w15 ⟨rfl, b15⟩
    have B15 : Below w.heap.size w w15 := Below.next B14 b15
    have oa1_15 := oa1_14.below b15
    clear oa1_14
    have og1_15 := og1_14.below b15
    clear og1_14
    have op1_15 := op1_14.below b15
    clear op1_14
    have op2_15 := op2_14.below b15
    clear op2_14
    go_wp2_with fail
    refine (HSZ.out _).mono ?_
    rintro e w16 ⟨rfl, b16⟩
    have B16 : Below w.heap.size w w16 := Below.next B15 b16
    have oa1_16 := oa1_15.below b16
    clear oa1_15
    have og1_16 := og1_15.below b16
    clear og1_15
    go_wp2_with fail
    go_ret
    exact ⟨rfl, B16⟩
  · have hrows := hid (List.all_eq_true.1 (nb_rows hs))
    have hord := hid (nb_ord hs)
    have hnum := nb_num hs
    have hbd := nb_bd hs
    simp only [nbNum, Bool.and_eq_true, decide_eq_true_eq] at hnum
    simp only [nbBd, Bool.and_eq_true, decide_eq_true_eq, List.all_eq_true, List.mem_range] at hbd
    obtain ⟨⟨n1, n2⟩, n3, n4, n5, n6, n7⟩ := hnum
    obtain ⟨d1, d2, d3, d4, d5, d6, d7, ⟨d8, d9, d10, d11⟩, d12⟩ := hbd
    have HGOOD := hid (boL_good a b)
    have h30 := boL_len30 hs
    have hsum := cob_sum hs
    have htc := ctu_sum hs
    have hgg : (partsL (gapsL a b)) ∈ boL a b := by rw [← n6, List.getD_eq_getElem?_getD, List.getElem?_eq_getElem (by omega)]; exact List.getElem_mem _
    have GG := (good_iff _).1 (boL_good a b _ hgg)
    rw [show abF a b = boL a b by simp [abF, hs]] at HA1 HA2 HQR
    rw [show greatF a b = partsL (gapsL a b) by simp [greatF, hs]] at HG1 HG2 HQG
    rw [show gapsF a b = gapsL a b by simp [gapsF, hs]] at HP1 HP2 HQP
    rw [hs] at HA1 HA2 HC1 HC2 HG1 HG2 HS1 HS2 HT1 HT2 HP1 HP2 HSZ
    have HIB := hid fun A c r W (h : r ∈ boL a b) (hc : Cells W A r) => (show Calls Try.prog 20 #[.slice A r.length c, .int .i64 a, .int .i64 b] W fun e w' => e = .returned (.tuple #[.bool true, .bool true]) ∧ Below W.heap.size W w' from by
      have hr := hrows.out r h
      simp only [nbRow, Bool.and_eq_true] at hr
      have := impl_IsBothCore A c r a b W (by have := ((good_iff r).1 (HGOOD.out r h)).len; omega) hc ha hb
      rw [hr.1, hr.2.1] at this
      exact this)
    have HCJ := hid fun A c r W (h : r ∈ boL a b) (hc : Cells W A r) => (show Calls Try.prog 21 #[.slice A r.length c] W fun e w' => ∃ A' c', e = .returned (.tuple #[.slice A' (cols r).length c', .bool true]) ∧ Own w' W.heap.size A' c' (cols r) ∧ Below W.heap.size W w' from by
      have hg := HGOOD.out r h
      have := impl_ConjugateOf A c r W (by have := ((good_iff r).1 hg).len; omega) hc
      rw [conjF_t hg, hg] at this
      exact this)
    have HMEM := hid fun r (h : r ∈ boL a b) => (show ∃ j, j < (boL a b).length ∧ (boL a b).getD j [] = cols r from by
      have hr := hrows.out r h
      simp only [nbRow, Bool.and_eq_true, List.any_eq_true, decide_eq_true_eq] at hr
      obtain ⟨q, hq, e⟩ := hr.2.2
      obtain ⟨j, hj, e2⟩ := List.getElem_of_mem hq
      exact ⟨j, hj, by rw [List.getD_eq_getElem?_getD, List.getElem?_eq_getElem hj, ← e, ← e2]; rfl⟩)
    have HCL := hid fun r (h : r ∈ boL a b) => (show (cols r).length ≤ 30 from by
      obtain ⟨j, hj, e⟩ := HMEM.out r h
      rw [← e]
      exact ((good_iff _).1 (HGOOD.out _ (by rw [List.getD_eq_getElem?_getD, List.getElem?_eq_getElem hj]; exact List.getElem_mem _))).len)
    have HORD := hid fun k (h : k + 1 < (boL a b).length) => (show ((boL a b).getD k []).sum ≤ ((boL a b).getD (k + 1) []).sum ∧ (((boL a b).getD k []).sum < ((boL a b).getD (k + 1) []).sum ∨ befB ((boL a b).getD k []) ((boL a b).getD (k + 1) []) = true) from by
      have := List.all_eq_true.1 hord.out k (List.mem_range.2 (by omega))
      simpa using this)
    have HSG := hid fun A c W (h : Cells W A (partsL (gapsL a b))) => qSum_any A (partsL (gapsL a b)) c W GG.len (fun j hj => by have := GG.pos j hj; have := GG.le j hj; omega) h
    rw [n4] at HSG
    have HTS := hid (tcK_t (boL a b))
    have HTF := hid (tcK_f (boL a b))
    have HSS := hid (sumK_succ (boL a b))
    have HSB := hid (sumK_bd (boL a b) (boL_good a b))
    obtain ⟨L, hL⟩ : ∃ L, L = boL a b := ⟨_, rfl⟩
    rw [← hL] at HA1 HA2 HQR HIB HCJ HMEM HCL HORD HTS HTF HSS HSB HGOOD n1 n2 n6 h30 hsum htc
    obtain ⟨GR, hGR⟩ : ∃ G, G = partsL (gapsL a b) := ⟨_, rfl⟩
    rw [← hGR] at HG1 HG2 HQG HSG n6 GG
    obtain ⟨GP, hGP⟩ : ∃ G, G = gapsL a b := ⟨_, rfl⟩
    rw [← hGP] at HP1 HP2 HQP n3
    obtain ⟨Cc, hC⟩ : ∃ C, C = cbF a b := ⟨_, rfl⟩
    rw [← hC] at HC1 HC2 n1 n5 d1 d3 d4 d5
    clear hC
    subst n1
    obtain ⟨Ss, hS⟩ : ∃ S, S = cobF a b := ⟨_, rfl⟩
    rw [← hS] at HS1 HS2 n5 d2 hsum
    obtain ⟨U, hU⟩ : ∃ U, U = ctuF a b := ⟨_, rfl⟩
    rw [← hU] at HT1 HT2 n7 htc
    obtain ⟨p1, e1⟩ : ∃ p, (a - 1) * (b - 1) = p := ⟨_, rfl⟩
    rw [e1] at n3 d7
    obtain ⟨p2, e2⟩ : ∃ p, a * a = p := ⟨_, rfl⟩
    obtain ⟨p3, e3⟩ : ∃ p, b * b = p := ⟨_, rfl⟩
    have q2 := sq7 (a := a) ⟨d8, d9⟩
    have q3 := sq7 (a := b) ⟨d10, d11⟩
    rw [e2] at q2 d6 HSG
    rw [e3] at q3 d6 HSG
    obtain ⟨p4, e4⟩ : ∃ p, (p2 - 1) * (p3 - 1) = p := ⟨_, rfl⟩
    rw [e4] at d6 HSG
    obtain ⟨p5, e5⟩ : ∃ p, (L.length : Int) * (a + b + 1) = p := ⟨_, rfl⟩
    rw [e5] at d3 d4 d5 n5
    obtain ⟨p6, e6⟩ : ∃ p, p5 * (a - 1) = p := ⟨_, rfl⟩
    rw [e6] at d4 d5 n5
    obtain ⟨p7, e7⟩ : ∃ p, p6 * (b - 1) = p := ⟨_, rfl⟩
    rw [e7] at d5 n5
    obtain ⟨l, hl⟩ : ∃ l, l = L.length - 1 := ⟨_, rfl⟩
    rw [← hl] at n6
    have hwl : IntKind.i64.wrap ((L.length : Int) - 1) = (l : Int) := by rw [IntWalk.i64_in _ (by omega)]; omega
    have hlL : l < L.length := by omega
    have t4 := Int.tdiv_eq_ediv_of_nonneg (b := 24) d6.1
    have t1 := Int.tdiv_eq_ediv_of_nonneg (b := 2) d7.1
    have E := hid (And.intro e1 (And.intro e2 (And.intro e3 (And.intro e4 (And.intro e5 (And.intro e6 e7))))))
    have N3 := hid n3
    have N5 := hid n5
    have N6 := hid n6
    have N7 := hid n7
    have D12 := hid d12
    have HSUM := hid hsum
    have HTC := hid htc
    clear e1 e2 e3 e4 e5 e6 e7 n3 n5 n6 n7 d12 hsum htc hL hGR hGP hS hU hs hrl hal hgg GG hrows hord hl
    have B0 : Below w.heap.size w w := Below.refl _ _
    go_enter Try.func3, Try.ntmps3
    go_wp2_with fail
    refine (HA1.out _).mono ?_
    rintro e w1 ⟨Aa1, ca1, rfl, oa1, b1⟩
    have B1 : Below w.heap.size w w1 := Below.next B0 b1
    go_wp2_with fail
    refine (HA2.out _).mono ?_
    rintro e w2 ⟨Aa2, ca2, rfl, oa2, b2⟩
    have B2 : Below w.heap.size w w2 := Below.next B1 b2
    have oa1_2 := oa1.below b2
    clear oa1
    go_wp2_with fail
    refine (HC1.out _).mono ?_
    rintro e w3 ⟨rfl, b3⟩
    have B3 : Below w.heap.size w w3 := Below.next B2 b3
    have oa1_3 := oa1_2.below b3
    clear oa1_2
    have oa2_3 := oa2.below b3
    clear oa2
    go_wp2_with fail
    refine (HC2.out _).mono ?_
    rintro e w4 ⟨rfl, b4⟩
    have B4 : Below w.heap.size w w4 := Below.next B3 b4
    have oa1_4 := oa1_3.below b4
    clear oa1_3
    have oa2_4 := oa2_3.below b4
    clear oa2_3
    go_wp2_with fail
    refine (HG1.out _).mono ?_
    rintro e w5 ⟨Ag1, cg1, rfl, og1, b5⟩
    have B5 : Below w.heap.size w w5 := Below.next B4 b5
    have oa1_5 := oa1_4.below b5
    clear oa1_4
    have oa2_5 := oa2_4.below b5
    clear oa2_4
    go_wp2_with fail
    refine (HG2.out _).mono ?_
    rintro e w6 ⟨Ag2, cg2, rfl, og2, b6⟩
    have B6 : Below w.heap.size w w6 := Below.next B5 b6
    have oa1_6 := oa1_5.below b6
    clear oa1_5
    have oa2_6 := oa2_5.below b6
    clear oa2_5
    have og1_6 := og1.below b6
    clear og1
    go_wp2_with fail
    refine (HS1.out _).mono ?_
    rintro e w7 ⟨rfl, b7⟩
    have B7 : Below w.heap.size w w7 := Below.next B6 b7
    have oa1_7 := oa1_6.below b7
    clear oa1_6
    have oa2_7 := oa2_6.below b7
    clear oa2_6
    have og1_7 := og1_6.below b7
    clear og1_6
    have og2_7 := og2.below b7
    clear og2
    go_wp2_with fail
    refine (HS2.out _).mono ?_
    rintro e w8 ⟨rfl, b8⟩
    have B8 : Below w.heap.size w w8 := Below.next B7 b8
    have oa1_8 := oa1_7.below b8
    clear oa1_7
    have oa2_8 := oa2_7.below b8
    clear oa2_7
    have og1_8 := og1_7.below b8
    clear og1_7
    have og2_8 := og2_7.below b8
    clear og2_7
    go_wp2_with fail
    refine (HT1.out _).mono ?_
    rintro e w9 ⟨rfl, b9⟩
    have B9 : Below w.heap.size w w9 := Below.next B8 b9
    have oa1_9 := oa1_8.below b9
    clear oa1_8
    have oa2_9 := oa2_8.below b9
    clear oa2_8
    have og1_9 := og1_8.below b9
    clear og1_8
    have og2_9 := og2_8.below b9
    clear og2_8
    go_wp2_with fail
    refine (HT2.out _).mono ?_
    rintro e w10 ⟨rfl, b10⟩
    have B10 : Below w.heap.size w w10 := Below.next B9 b10
    have oa1_10 := oa1_9.below b10
    clear oa1_9
    have oa2_10 := oa2_9.below b10
    clear oa2_9
    have og1_10 := og1_9.below b10
    clear og1_9
    have og2_10 := og2_9.below b10
    clear og2_9
    go_wp2_with fail
    refine (HP1.out _).mono ?_
    rintro e w11 ⟨Ap1, cp1, rfl, op1, b11⟩
    have B11 : Below w.heap.size w w11 := Below.next B10 b11
    have oa1_11 := oa1_10.below b11
    clear oa1_10
    have oa2_11 := oa2_10.below b11
    clear oa2_10
    have og1_11 := og1_10.below b11
    clear og1_10
    have og2_11 := og2_10.below b11
    clear og2_10
    go_wp2_with fail
    refine (HP2.out _).mono ?_
    rintro e w12 ⟨Ap2, cp2, rfl, op2, b12⟩
    have B12 : Below w.heap.size w w12 := Below.next B11 b12
    have oa1_12 := oa1_11.below b12
    clear oa1_11
    have oa2_12 := oa2_11.below b12
    clear oa2_11
    have og1_12 := og1_11.below b12
    clear og1_11
    have og2_12 := og2_11.below b12
    clear og2_11
    have op1_12 := op1.below b12
    clear op1
    go_wp2_with fail
    refine (HQR.out _ _ _ _ _ oa1_12.cells oa2_12.cells).mono ?_
    rintro e w13 ⟨rfl, b13⟩
    have B13 : Below w.heap.size w w13 := Below.next B12 b13
    have oa1_13 := oa1_12.below b13
    clear oa1_12
    have oa2_13 := oa2_12.below b13
    clear oa2_12
    have og1_13 := og1_12.below b13
    clear og1_12
    have og2_13 := og2_12.below b13
    clear og2_12
    have op1_13 := op1_12.below b13
    clear op1_12
    have op2_13 := op2.below b13
    clear op2
    go_wp2_with fail
    refine (HQG.out _ _ _ _ _ og1_13.cells og2_13.cells).mono ?_
    rintro e w14 ⟨rfl, b14⟩
    have B14 : Below w.heap.size w w14 := Below.next B13 b14
    have oa1_14 := oa1_13.below b14
    clear oa1_13
    have og1_14 := og1_13.below b14
    clear og1_13
    have og2_14 := og2_13.below b14
    clear og2_13
    have op1_14 := op1_13.below b14
    clear op1_13
    have op2_14 := op2_13.below b14
    clear op2_13
    go_wp2_with fail
    refine (HQP.out _ _ _ _ _ op1_14.cells op2_14.cells).mono ?_
    rintro e w15 ⟨rfl, b15⟩
    have B15 : Below w.heap.size w w15 := Below.next B14 b15
    have oa1_15 := oa1_14.below b15
    clear oa1_14
    have og1_15 := og1_14.below b15
    clear og1_14
    have op1_15 := op1_14.below b15
    clear op1_14
    have op2_15 := op2_14.below b15
    clear op2_14
    go_wp2_with fail
    refine (HSZ.out _).mono ?_
    rintro e w16 ⟨rfl, b16⟩
    have B16 : Below w.heap.size w w16 := Below.next B15 b16
    have oa1_16 := oa1_15.below b16
    clear oa1_15
    have og1_16 := og1_15.below b16
    clear og1_15
    obtain ⟨P, C, h1, h2⟩ := oa1_16.cells
    obtain ⟨b0, o0, rfl, hcc⟩ := h1 n2
    have HCC := hid fun W (hW : Below w16.heap.size w16 W) j (hj : j < L.length) => (hW.cell (World.block_lt_of_cell? _ _ (hcc j hj))).trans (hcc j hj)
    have HRW := hid fun W (hW : Below w16.heap.size w16 W) j (hj : j < L.length) => (h2 j hj).later hW
    have HAL := hid fun W (hW : Below w16.heap.size w16 W) => cells2_kept oa1_16.cells hW
    have HGC := hid fun W (hW : Below w16.heap.size w16 W) => (og1_16.cells).later hW
    have HBK := hid B16
    obtain ⟨e1, e2, e3, e4, e5, e6, e7⟩ := E.out
    have n3 := N3.out
    have n5 := N5.out
    clear hcc h1 h2
    go_wp2_with fail
    refine (HSG.out _ _ _ (HGC.out _ (Below.refl _ _))).mono ?_
    rintro e w30 ⟨rfl, rfl⟩
    have hck := HCC.out _ (Below.refl _ _) l hlL
    have hrw := HRW.out _ (Below.refl _ _) l hlL
    rw [N6.out] at hck hrw
    go_wp2_with fail
    refine (HQG.out _ _ _ _ _ hrw (HGC.out _ (Below.refl _ _))).mono ?_
    rintro e w31 ⟨rfl, b31⟩
    have HB31 := hid b31
    clear hck hrw n3 n5 e1 e2 e3 e4 e5 e6 e7 b31
    go_wp2_with fail
    go_loopw [29, 30, 266] (fun s t i wr => ∃ k : Nat, k ≤ L.length ∧ i = .int .i64 k ∧ s = .int .i64 (tcK L k : Nat) ∧ t = .int .i64 (sumK L k) ∧ Hid (Below w16.heap.size w16 wr)) (fun _ _ i _ => L.length - (intOf i).toNat)
    case atStart => exact ⟨0, Nat.zero_le _, rfl, rfl, rfl, HB31⟩
    case round =>
      obtain ⟨k, hk, rfl, rfl, rfl, HBR⟩ := hrel
      by_cases hlt : k < L.length
      · have hmem : L.getD k [] ∈ L := by rw [List.getD_eq_getElem?_getD, List.getElem?_eq_getElem hlt]; exact List.getElem_mem _
        have G := (good_iff _).1 (HGOOD.out _ hmem)
        have hck := HCC.out _ HBR.out k hlt
        have htb := tcK_le L k
        have hsb := HSB.out k (by omega)
        have hgs := G.sum
        have hg0 := G.sum0
        have HXS := hid (HSS.out k hlt)
        have HXT := hid (HTS.out k hlt)
        have HXF := hid (HTF.out k hlt)
        have HI := hid fun W c hc => HIB.out (P k) c (L.getD k []) W hmem hc
        have HJ := hid fun W c hc => HCJ.out (P k) c (L.getD k []) W hmem hc
        have hcl := HCL.out _ hmem
        have hrl := G.len
        have HH := hid fun A c d W (hA : Cells2 W (some ⟨b0, o0, none⟩) L) (hB : Cells W A (cols (L.getD k []))) => (qHas_t (some ⟨b0, o0, none⟩) A c d L (cols (L.getD k [])) W (by omega) (fun j hj => by
            have := ((good_iff _).1 (HGOOD.out (L.getD j []) (by rw [List.getD_eq_getElem?_getD, List.getElem?_eq_getElem hj]; exact List.getElem_mem _))).len
            omega) (by omega) (HMEM.out _ hmem) hA hB).mono (R' := fun e w' => e = .returned (.bool true) ∧ Below W.heap.size W w') (by rintro e w' ⟨rfl, n, rfl⟩; exact ⟨rfl, below_drew' _ _⟩)
        have HSR := hid fun A c W (h : Cells W A (L.getD k [])) => qSum_any A (L.getD k []) c W G.len (fun j hj => by have := G.pos j hj; have := G.le j hj; omega) h
        have HEQ := hid fun A B c d W (hA : Cells W A (cols (L.getD k []))) (hB : Cells W B (L.getD k [])) => sameB_any A B c d (cols (L.getD k [])) (L.getD k []) W (by omega) (by omega) hA hB
        have HRK := hid fun W hW => HRW.out W hW k hlt
        have HPV := hid fun (h0 : 1 ≤ k) => (show (∃ p : List Int, L.getD (k - 1) [] = p ∧ Good p ∧ p.sum ≤ (L.getD k []).sum ∧ (p.sum < (L.getD k []).sum ∨ befB p (L.getD k []) = true)) from by
          have := HORD.out (k - 1) (by omega)
          rw [show k - 1 + 1 = k by omega] at this
          exact ⟨_, rfl, (good_iff _).1 (HGOOD.out _ (by rw [List.getD_eq_getElem?_getD, List.getElem?_eq_getElem (by omega)]; exact List.getElem_mem _)), this⟩)
        obtain ⟨r, hr⟩ : ∃ r, r = L.getD k [] := ⟨_, rfl⟩
        rw [← hr] at hck hgs hg0 HXS HXT HXF HI HJ hcl hrl HH HSR HEQ HRK HPV G
        obtain ⟨t, ht⟩ : ∃ t : Nat, t = tcK L k := ⟨_, rfl⟩
        rw [← ht] at htb HXT HXF
        rw [← ht]
        obtain ⟨s, hs⟩ : ∃ s, s = sumK L k := ⟨_, rfl⟩
        rw [← hs] at hsb HXS
        rw [← hs]
        have HG := hid G
        clear hr ht hs hmem G
        go_wp2_with fail
        refine (HI.out _ _ (HRK.out _ HBR.out)).mono ?_
        rintro e w40 ⟨rfl, b40⟩
        have B40 := HBR.out.trans (b40.mono HBR.out.size)
        go_wp2_with fail
        refine (HJ.out _ _ (HRK.out _ B40)).mono ?_
        rintro e w41 ⟨A41, c41, rfl, o41, b41⟩
        have B41 := B40.trans (b41.mono B40.size)
        go_wp2_with fail
        refine (HH.out _ _ _ _ (HAL.out _ B41) o41.cells).mono ?_
        rintro e w42 ⟨rfl, b42⟩
        have B42 := B41.trans (b42.mono B41.size)
        have HO42 := hid (o41.cells.later b42)
        have HB42 := hid B42
        clear b40 B40 b41 B41 b42 B42 o41
        go_upto_region 27 with fail
        go_cut [266, 332] from 266 to 342 (fun i v wx => i = .int .i64 (k : Int) ∧ v = .bool false ∧ Below w42.heap.size w42 wx)
        case first =>
          by_cases h0 : 1 ≤ k
          · obtain ⟨p, hpe, Gp, hle, hor⟩ := HPV.out h0
            have hckp := HCC.out _ HB42.out (k - 1) (by omega)
            have hrp := HRW.out _ HB42.out (k - 1) (by omega)
            rw [hpe] at hckp hrp
            obtain ⟨q, hq⟩ : ∃ q, q = k - 1 := ⟨_, rfl⟩
            rw [← hq] at hckp hrp
            have hqi : IntKind.i64.wrap ((k : Int) - 1) = (q : Int) := by rw [IntWalk.i64_in _ (by omega)]; omega
            have hql : (q : Int) < (L.length : Int) := by omega
            have hk0 : (0 : Int) < (k : Int) := by omega
            have HS0 := hid (qSum_any (P q) p (C q) w42 Gp.len (fun j hj => by have := Gp.pos j hj; have := Gp.le j hj; omega) hrp)
            have HS1 := hid (HSR.out (P k) (C k) w42 (HRK.out _ HB42.out))
            have HBF := hid (qBefore_any (P q) (P k) (C q) (C k) p r w42 (by have := Gp.len; omega) (by omega) hrp (HRK.out _ HB42.out))
            have hps := Gp.sum
            have hp0 := Gp.sum0
            obtain ⟨s1, hs1⟩ : ∃ s1, s1 = p.sum := ⟨_, rfl⟩
            obtain ⟨s2, hs2⟩ : ∃ s2, s2 = r.sum := ⟨_, rfl⟩
            rw [← hs1] at HS0 hle hor hps hp0
            rw [← hs2] at HS1 hle hor hgs hg0
            clear hpe hs1 hs2 hq Gp hrp HPV HI HJ HH HEQ HXS HXT HXF
            by_cases hse : s1 = s2
            · have hbt : befB p r = true := by rcases hor with h | h; (· omega); (· exact h)
              rw [hbt] at HBF
              subst hse
              have hng : decide (s1 < s1) = false := decide_eq_false (by omega)
              have hbe : (s1 == s1) = true := beq_self_eq_true s1
              clear hor hbt hle
              go_wp2_with fail
              refine HS0.out.mono ?_
              rintro e wq0 ⟨rfl, rfl⟩
              go_wp2_with fail
              refine HS1.out.mono ?_
              rintro e wq1 ⟨rfl, rfl⟩
              go_wp2_with fail
              refine HS0.out.mono ?_
              rintro e wq2 ⟨rfl, rfl⟩
              go_wp2_with fail
              refine HS1.out.mono ?_
              rintro e wq3 ⟨rfl, rfl⟩
              go_wp2_with fail
              refine HBF.out.mono ?_
              rintro e wq9 ⟨rfl, z, rfl⟩
              go_wp2_with fail
              go_meet
              case rel => exact ⟨rfl, rfl, below_drew' _ _⟩
            · have hlt2 : s1 < s2 := by omega
              have hng : decide (s2 < s1) = false := decide_eq_false (by omega)
              have hbe : (s1 == s2) = false := beq_eq_false_iff_ne.2 hse
              clear hor hle hse
              go_wp2_with fail
              refine HS0.out.mono ?_
              rintro e wq0 ⟨rfl, rfl⟩
              go_wp2_with fail
              refine HS1.out.mono ?_
              rintro e wq1 ⟨rfl, rfl⟩
              go_wp2_with fail
              refine HS0.out.mono ?_
              rintro e wq2 ⟨rfl, rfl⟩
              go_wp2_with fail
              refine HS1.out.mono ?_
              rintro e wq3 ⟨rfl, rfl⟩
              go_wp2_with fail
              go_meet
              case rel => exact ⟨rfl, rfl, Below.refl _ _⟩
          · have hk0 : ¬ (0 : Int) < (k : Int) := by omega
            go_wp2_with fail
            go_meet
            case rel => exact ⟨rfl, rfl, Below.refl _ _⟩
        case rest =>
        obtain ⟨rfl, rfl, b43⟩ := hcut
        have B43 := HB42.out.trans (b43.mono HB42.out.size)
        have HEE := hid (HEQ.out _ _ c41 (C k) _ (HO42.out.later b43) (HRK.out _ B43))
        have HB43 := hid B43
        clear hck b43 B43 HPV HI HJ HH HEQ
        by_cases heq : cols r = r
        · have HX := hid (HXT.out (decide_eq_true heq))
          rw [decide_eq_true heq] at HEE
          clear heq
          go_wp2_with fail
          refine HEE.out.mono ?_
          rintro e w44 ⟨rfl, b44⟩
          have B44 := HB43.out.trans (b44.mono HB43.out.size)
          go_wp2_with fail
          refine (HSR.out _ _ _ (HRK.out _ B44)).mono ?_
          rintro e w45 ⟨rfl, rfl⟩
          have HB44 := hid B44
          clear b44 B44
          go_wp2_with fail
          go_roundw
          case rel => exact ⟨k + 1, by omega, by go_num, by rw [HX.out]; rfl, by rw [HXS.out], HB44⟩
          case measure => simp [intOf]; omega
        · have HX := hid (HXF.out (decide_eq_false heq))
          rw [decide_eq_false heq] at HEE
          clear heq
          go_wp2_with fail
          refine HEE.out.mono ?_
          rintro e w44 ⟨rfl, b44⟩
          have B44 := HB43.out.trans (b44.mono HB43.out.size)
          go_wp2_with fail
          refine (HSR.out _ _ _ (HRK.out _ B44)).mono ?_
          rintro e w45 ⟨rfl, rfl⟩
          have HB44 := hid B44
          clear b44 B44
          go_wp2_with fail
          go_roundw
          case rel => exact ⟨k + 1, by omega, by go_num, by rw [HX.out], by rw [HXS.out], HB44⟩
          case measure => simp [intOf]; omega
      · have hkl : k = L.length := by omega
        subst hkl
        rw [HSUM.out, HTC.out]
        obtain ⟨h, hh⟩ : ∃ h : Nat, Int.tdiv a 2 = h := ⟨(Int.tdiv a 2).toNat, by rw [Int.tdiv_eq_ediv_of_nonneg (by omega)]; omega⟩
        have hh3 : h ≤ 3 := by rw [Int.tdiv_eq_ediv_of_nonneg (by omega)] at hh; omega
        obtain ⟨v, hv⟩ : ∃ v : Int, Int.tdiv b 2 = v := ⟨_, rfl⟩
        have hvb : 0 ≤ v ∧ v ≤ 3 := by rw [Int.tdiv_eq_ediv_of_nonneg (by omega)] at hv; omega
        have hwe : wyK a b h = U := by have := N7.out; rw [hh, Int.toNat_natCast] at this; exact this
        have HWE := hid hwe
        have HBE := hid (HBK.out.trans (HBR.out.mono HBK.out.size))
        clear hwe
        go_wp2_with fail
        go_loop [37, 38] (fun s i => ∃ j : Nat, j ≤ h ∧ i = .int .i64 ((j : Int) + 1) ∧ s = .int .i64 (wyK a b j)) (fun _ i => 10 - (intOf i).toNat)
        case atStart => exact ⟨0, Nat.zero_le _, rfl, rfl⟩
        case round =>
          obtain ⟨j, hj, rfl, rfl⟩ := hrel
          obtain ⟨x1, x2, x3, x4⟩ := D12.out j (by omega)
          have hn : wyK a b (j + 1) = Int.tdiv (wyK a b j * (Int.tdiv b 2 + ((j : Int) + 1))) ((j : Int) + 1) := rfl
          rw [hv] at x3 x4 hn
          obtain ⟨m, hm⟩ : ∃ m, m = wyK a b j := ⟨_, rfl⟩
          rw [← hm] at x1 x2 x3 x4 hn
          rw [← hm]
          obtain ⟨p, hp⟩ : ∃ p, m * (v + ((j : Int) + 1)) = p := ⟨_, rfl⟩
          rw [hp] at x3 x4 hn
          have hne : ¬ (j : Int) + 1 = 0 := by omega
          have HM := hid hm
          have t5 := Int.tdiv_eq_ediv_of_nonneg (b := (j : Int) + 1) x3
          have t6 : 0 ≤ Int.tdiv p ((j : Int) + 1) ∧ Int.tdiv p ((j : Int) + 1) ≤ 10000 := by
            rw [t5]
            exact ⟨Int.ediv_nonneg x3 (by omega), Int.le_trans (Int.ediv_le_self _ x3) x4⟩
          have HN := hid hn
          clear hm hn t5
          by_cases hjh : j < h
          · go_wp2_with fail
            go_round
            case rel => exact ⟨j + 1, by omega, by go_num, by rw [HN.out]⟩
            case measure => simp [intOf]; omega
          · have hje : j = h := by omega
            subst hje
            have hmu : m = U := HM.out.trans HWE.out
            clear hp
            subst hmu
            go_wp2_with fail
            go_ret
            exact ⟨by first | rfl | exact ret_bool (by simp), HBE.out⟩
end Go.Proofs.Ytnjhjdidohdkmaa
