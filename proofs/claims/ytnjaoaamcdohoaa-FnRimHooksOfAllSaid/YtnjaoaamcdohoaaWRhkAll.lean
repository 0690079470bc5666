/-
  The walk of FnRimHooksOfAll (made by genrhk.py).
-/
import Derived.Test.YtnjaoaamcdohoaaR18
import Derived.Test.YtnjaoaamcdohoaaCB
import Derived.Test.YtnjaoaamcdohoaaCC
import Derived.Test.YtnjaoaamcdohoaaR17
import Derived.Test.YtnjaoaamcdohoaaR19
namespace Go.Proofs.Ytnjaoaamcdohoaa
open Go.RowKit

theorem two_cellsR {w : World} {A : Option Addr} {x y : Int} (h : Cells w A [x, y]) : ∃ b o, A = some ⟨b, o, none⟩ ∧ w.cell? ⟨b, o, none⟩ = some (.int .i64 x) ∧ w.cell? ⟨b, o + 1, none⟩ = some (.int .i64 y) := by
  obtain ⟨b, o, rfl, hc⟩ := h (by simp)
  exact ⟨b, o, rfl, by simpa using hc 0 (by simp), by simpa using hc 1 (by simp)⟩
theorem pair_atR {w : World} {A : Option Addr} {L : List (Nat × Nat)} (h : Cells2 w A (pairs L)) (k : Nat) (hk : k < L.length) :
    ∃ b o b2 o2 c2, A = some ⟨b, o, none⟩ ∧ w.cell? ⟨b, o + k, none⟩ = some (.slice (some ⟨b2, o2, none⟩) 2 c2) ∧ w.cell? ⟨b2, o2, none⟩ = some (.int .i64 ((L.getD k (0, 0)).1 : Int)) ∧ w.cell? ⟨b2, o2 + 1, none⟩ = some (.int .i64 ((L.getD k (0, 0)).2 : Int)) := by
  obtain ⟨P, C, h1, h2⟩ := h
  obtain ⟨b, o, rfl, hc⟩ := h1 (by rw [pairs_len]; omega)
  have hk' : k < (pairs L).length := by rw [pairs_len]; exact hk
  have hck := hc k hk'
  have hr := h2 k hk'
  rw [show (pairs L).getD k [] = [((L.getD k (0, 0)).1 : Int), ((L.getD k (0, 0)).2 : Int)] by simp [pairs, List.getD, hk]] at hck hr
  obtain ⟨b2, o2, e, x1, x2⟩ := two_cellsR hr
  rw [e] at hck
  exact ⟨b, o, b2, o2, C k, rfl, hck, x1, x2⟩
theorem eSame_rhk (A B : Option Addr) (c d : Nat) (xs : List Int) (w : World) (hl : xs.length ≤ 1048576) (hA : Cells w A xs) (hB : Cells w B xs) :
    Calls Try.prog 10 #[.slice A xs.length c, .slice B xs.length d] w fun e w' => e = .returned (.bool true) ∧ Below w.heap.size w w' :=
  (eSame_any A B c d xs xs w hl hl hA hB).mono (by rintro e w' ⟨rfl, n, rfl⟩; exact ⟨by rw [decide_eq_true rfl], below_drew' _ _⟩)
theorem eRows_rhk (A B : Option Addr) (c d : Nat) (L : List (List Int)) (w : World) (hL : L.length ≤ 10000) (hrow : ∀ k, k < L.length → (L.getD k []).length ≤ 1048576) (hA : Cells2 w A L) (hB : Cells2 w B L) :
    Calls Try.prog 9 #[.slice A L.length c, .slice B L.length d] w fun e w' => e = .returned (.bool true) ∧ Below w.heap.size w w' :=
  (eRows_t A B c d L w hL hrow hA hB).mono (by rintro e w' ⟨rfl, n, rfl⟩; exact ⟨rfl, below_drew' _ _⟩)
set_option maxRecDepth 100000 in
set_option maxHeartbeats 16000000 in
theorem walkRimHooksOfAll (A0 : Option Addr) (c0 : Nat) (p : List Int) (r c : Int) (A1 : Option Addr) (c1 : Nat) (q : List Int) (A2 : Option Addr) (c2 : Nat) (x : List Int) (A3 : Option Addr) (c3 : Nat) (y : List Int) (w : World)
    (h0 : Cells w A0 p) (hr64 : I64 r) (hc64 : I64 c) (h1 : Cells w A1 q) (h2 : Cells w A2 x) (h3 : Cells w A3 y) :
    Calls Try.prog 3 #[.slice A0 p.length c0, .int .i64 r, .int .i64 c, .slice A1 q.length c1, .slice A2 x.length c2, .slice A3 y.length c3] w fun e w' => e = .returned (.bool true) ∧ Below w.heap.size w w' := by
  by_cases hbig0 : 10000 < p.length
  · have hb : (10000 : Int) < (p.length : Int) := by omega
    go_enter Try.func3, Try.ntmps3
    go_wp2_with fail
    go_ret
    exact ⟨rfl, Below.refl _ _⟩
  have hz0 : (p.length : Int) ≤ 10000 := by omega
  by_cases hbig1 : 10000 < q.length
  · have hb : (10000 : Int) < (q.length : Int) := by omega
    go_enter Try.func3, Try.ntmps3
    go_wp2_with fail
    go_ret
    exact ⟨rfl, Below.refl _ _⟩
  have hz1 : (q.length : Int) ≤ 10000 := by omega
  by_cases hbig2 : 10000 < x.length
  · have hb : (10000 : Int) < (x.length : Int) := by omega
    go_enter Try.func3, Try.ntmps3
    go_wp2_with fail
    go_ret
    exact ⟨rfl, Below.refl _ _⟩
  have hz2 : (x.length : Int) ≤ 10000 := by omega
  by_cases hbig3 : 10000 < y.length
  · have hb : (10000 : Int) < (y.length : Int) := by omega
    go_enter Try.func3, Try.ntmps3
    go_wp2_with fail
    go_ret
    exact ⟨rfl, Below.refl _ _⟩
  have hz3 : (y.length : Int) ≤ 10000 := by omega
  clear hbig0 hbig1 hbig2 hbig3
  have HE := hid fun A B c d (xs : List Int) W (hl : xs.length ≤ 10000) (hA : Cells W A xs) (hB : Cells W B xs) => eSame_rhk A B c d xs W (by omega) hA hB
  have HR1 := hid fun W (h : Cells W A0 p) => impl_RimHook A0 c0 p r c W (by omega) h hr64 hc64
  have HR2 := hid fun W (h : Cells W A0 p) => spec_RimHook A0 c0 p r c W (by omega) h hr64 hc64
  have HW1 := hid fun W (h : Cells W A0 p) => impl_WithoutRim A0 c0 p r c W (by omega) h hr64 hc64
  have HW2 := hid fun W (h : Cells W A0 p) => spec_WithoutRim A0 c0 p r c W (by omega) h hr64 hc64
  have HK1 := hid fun W (h : Cells W A0 p) => impl_HookAt A0 c0 p r c W (by omega) h hr64 hc64
  have HC1 := hid fun W (h : Cells W A1 q) => impl_CornersOf A1 c1 q W (by omega) h
  have HC2 := hid fun W (h : Cells W A1 q) => spec_CornersOf A1 c1 q W (by omega) h
  have HA1 := hid fun W (h : Cells W A1 q) => impl_AddableOf A1 c1 q W (by omega) h
  have HA2 := hid fun W (h : Cells W A1 q) => spec_AddableOf A1 c1 q W (by omega) h
  have HN1 := hid fun W (h : Cells W A2 x) (h' : Cells W A3 y) => impl_IsInside A2 c2 x A3 c3 y W (by omega) h (by omega) h'
  have HN2 := hid fun W (h : Cells W A2 x) (h' : Cells W A3 y) => spec_IsInside A2 c2 x A3 c3 y W (by omega) h (by omega) h'
  obtain ⟨nb, hnb⟩ : ∃ b, b = insideF x y := ⟨_, rfl⟩
  obtain ⟨nk, hnk⟩ : ∃ b, b = (good x && good y) := ⟨_, rfl⟩
  rw [← hnb, ← hnk] at HN1 HN2
  have e1 : (nk == nk) = true := by simp
  clear hnb hnk
  have hcb : (corF q).length ≤ 30 ∧ (addF q).length ≤ 31 := by
    cases hgq : good q
    · rw [corF_f hgq, addF_f hgq]; simp
    · have h1 := filt_len (corB q) q.length; have h2 := ((good_iff q).1 hgq).len; have h3 := add_cor hgq; rw [corF_t hgq] at h3 ⊢; omega
  have HCL := hid (show (corF q).length ≤ 10000 by omega)
  have HAL := hid (show (addF q).length ≤ 10000 by omega)
  have HAC : Hid (good q = true → ((addF q).length : Int) = ((corF q).length : Int) + 1) := hid fun h => by have := add_cor h; omega
  obtain ⟨gb, hgb⟩ : ∃ x, x = good q := ⟨_, rfl⟩
  obtain ⟨CC, hCC⟩ : ∃ x, x = corF q := ⟨_, rfl⟩
  obtain ⟨AA, hAA⟩ : ∃ x, x = addF q := ⟨_, rfl⟩
  rw [← hgb, ← hCC] at HC1 HC2 HAC
  rw [← hgb, ← hAA] at HA1 HA2
  rw [← hAA] at HAC HAL hcb
  rw [← hCC] at HCL hcb
  clear hgb hCC hAA
  cases hok : atB p r c
  · have er : rimF p r c = [] := by unfold rimF; rw [if_neg (by rw [hok]; decide)]
    have eo : outF p r c = [] := by unfold outF; rw [if_neg (by rw [hok]; decide)]
    have eg : legF p r c = 0 := by unfold legF; rw [if_neg (by rw [hok]; decide)]
    rw [hok, er] at HR1 HR2
    rw [hok, eo, eg] at HW1 HW2
    rw [hok, hookF_f hok] at HK1
    have HXL := hid (show ([] : List Int).length ≤ 10000 by simp)
    have HER := hid fun A B c d W hA hB => eRows_rhk A B c d ([] : List (List Int)) W (by simp) (by simp) hA hB
    clear hok er eo eg
    have B0 : Below w.heap.size w w := Below.refl _ _
    go_enter Try.func3, Try.ntmps3
    go_wp2_with fail
    refine (HR1.out _ (h0.later B0)).mono ?_
    rintro e w1 ⟨Ar1, cr1, rfl, or1, b1⟩
    have B1 : Below w.heap.size w w1 := Below.next B0 b1
    go_wp2_with fail
    refine (HR2.out _ (h0.later B1)).mono ?_
    rintro e w2 ⟨Ar2, cr2, rfl, or2, b2⟩
    have B2 : Below w.heap.size w w2 := Below.next B1 b2
    have or1_2 := or1.below b2
    clear or1
    go_wp2_with fail
    refine (HW1.out _ (h0.later B2)).mono ?_
    rintro e w3 ⟨Ad1, cd1, rfl, od1, b3⟩
    have B3 : Below w.heap.size w w3 := Below.next B2 b3
    have or1_3 := or1_2.below b3
    clear or1_2
    have or2_3 := or2.below b3
    clear or2
    go_wp2_with fail
    refine (HW2.out _ (h0.later B3)).mono ?_
    rintro e w4 ⟨Ad2, cd2, rfl, od2, b4⟩
    have B4 : Below w.heap.size w w4 := Below.next B3 b4
    have or1_4 := or1_3.below b4
    clear or1_3
    have or2_4 := or2_3.below b4
    clear or2_3
    have od1_4 := od1.below b4
    clear od1
    go_wp2_with fail
    refine (HK1.out _ (h0.later B4)).mono ?_
    rintro e w5 ⟨rfl, b5⟩
    have B5 : Below w.heap.size w w5 := Below.next B4 b5
    have or1_5 := or1_4.below b5
    clear or1_4
    have or2_5 := or2_4.below b5
    clear or2_4
    have od1_5 := od1_4.below b5
    clear od1_4
    have od2_5 := od2.below b5
    clear od2
    go_wp2_with fail
    refine (HER.out _ _ _ _ _ or1_5.cells or2_5.cells).mono ?_
    rintro e w6 ⟨rfl, b6⟩
    have B6 : Below w.heap.size w w6 := Below.next B5 b6
    have or1_6 := or1_5.below b6
    clear or1_5
    have or2_6 := or2_5.below b6
    clear or2_5
    have od1_6 := od1_5.below b6
    clear od1_5
    have od2_6 := od2_5.below b6
    clear od2_5
    go_wp2_with fail
    refine (HE.out _ _ _ _ _ _ HXL.out od1_6.cells od2_6.cells).mono ?_
    rintro e w7 ⟨rfl, b7⟩
    have B7 : Below w.heap.size w w7 := Below.next B6 b7
    have or1_7 := or1_6.below b7
    clear or1_6
    have od1_7 := od1_6.below b7
    clear od1_6
    have od2_7 := od2_6.below b7
    clear od2_6
    go_wp2_with fail
    refine (HC1.out _ (h1.later B7)).mono ?_
    rintro e w8 ⟨Ag1, cg1, rfl, og1, b8⟩
    have B8 : Below w.heap.size w w8 := Below.next B7 b8
    go_wp2_with fail
    refine (HC2.out _ (h1.later B8)).mono ?_
    rintro e w9 ⟨Ag2, cg2, rfl, og2, b9⟩
    have B9 : Below w.heap.size w w9 := Below.next B8 b9
    have og1_9 := og1.below b9
    clear og1
    go_wp2_with fail
    refine (HA1.out _ (h1.later B9)).mono ?_
    rintro e w10 ⟨Aa1, ca1, rfl, oa1, b10⟩
    have B10 : Below w.heap.size w w10 := Below.next B9 b10
    have og1_10 := og1_9.below b10
    clear og1_9
    have og2_10 := og2.below b10
    clear og2
    go_wp2_with fail
    refine (HA2.out _ (h1.later B10)).mono ?_
    rintro e w11 ⟨Aa2, ca2, rfl, oa2, b11⟩
    have B11 : Below w.heap.size w w11 := Below.next B10 b11
    have og1_11 := og1_10.below b11
    clear og1_10
    have og2_11 := og2_10.below b11
    clear og2_10
    have oa1_11 := oa1.below b11
    clear oa1
    cases gb
    · skip
      go_wp2_with fail
      refine (HE.out _ _ _ _ _ _ HCL.out og1_11.cells og2_11.cells).mono ?_
      rintro e w12 ⟨rfl, b12⟩
      have B12 : Below w.heap.size w w12 := Below.next B11 b12
      have og1_12 := og1_11.below b12
      clear og1_11
      have og2_12 := og2_11.below b12
      clear og2_11
      have oa1_12 := oa1_11.below b12
      clear oa1_11
      have oa2_12 := oa2.below b12
      clear oa2
      go_wp2_with fail
      refine (HE.out _ _ _ _ _ _ HAL.out oa1_12.cells oa2_12.cells).mono ?_
      rintro e w13 ⟨rfl, b13⟩
      have B13 : Below w.heap.size w w13 := Below.next B12 b13
      have oa1_13 := oa1_12.below b13
      clear oa1_12
      have oa2_13 := oa2_12.below b13
      clear oa2_12
      go_wp2_with fail
      refine (HN1.out _ (h2.later B13) (h3.later B13)).mono ?_
      rintro e w14 ⟨rfl, b14⟩
      have B14 : Below w.heap.size w w14 := Below.next B13 b14
      go_wp2_with fail
      refine (HN2.out _ (h2.later B14) (h3.later B14)).mono ?_
      rintro e w15 ⟨rfl, b15⟩
      have B15 : Below w.heap.size w w15 := Below.next B14 b15
      go_wp2_with fail
      go_ret
      exact ⟨by first | rfl | exact ret_bool (by simp), B15⟩
    · have hai := HAC.out rfl
      go_wp2_with fail
      refine (HE.out _ _ _ _ _ _ HCL.out og1_11.cells og2_11.cells).mono ?_
      rintro e w12 ⟨rfl, b12⟩
      have B12 : Below w.heap.size w w12 := Below.next B11 b12
      have og1_12 := og1_11.below b12
      clear og1_11
      have og2_12 := og2_11.below b12
      clear og2_11
      have oa1_12 := oa1_11.below b12
      clear oa1_11
      have oa2_12 := oa2.below b12
      clear oa2
      go_wp2_with fail
      refine (HE.out _ _ _ _ _ _ HAL.out oa1_12.cells oa2_12.cells).mono ?_
      rintro e w13 ⟨rfl, b13⟩
      have B13 : Below w.heap.size w w13 := Below.next B12 b13
      have oa1_13 := oa1_12.below b13
      clear oa1_12
      have oa2_13 := oa2_12.below b13
      clear oa2_12
      go_wp2_with fail
      refine (HN1.out _ (h2.later B13) (h3.later B13)).mono ?_
      rintro e w14 ⟨rfl, b14⟩
      have B14 : Below w.heap.size w w14 := Below.next B13 b14
      go_wp2_with fail
      refine (HN2.out _ (h2.later B14) (h3.later B14)).mono ?_
      rintro e w15 ⟨rfl, b15⟩
      have B15 : Below w.heap.size w w15 := Below.next B14 b15
      go_wp2_with fail
      go_ret
      exact ⟨by first | rfl | exact ret_bool (by simp), B15⟩
  obtain ⟨L, eL, hlh, hlp, hlb, hbd, hct, hleg, hgo, hsm, hin, hlgb⟩ := rhk_all hok
  have hgp : good p = true := by have h := hok; unfold atB at h; rw [Bool.and_eq_true] at h; exact h.1
  have G := (good_iff p).1 hgp
  have GO := (good_iff _).1 hgo
  rw [hok, eL] at HR1 HR2
  rw [hok] at HW1 HW2 HK1
  have hol := GO.len
  have hpl := G.len
  have HXL := hid (show (outF p r c).length ≤ 10000 by omega)
  rw [pairs_len] at HR1 HR2
  have HER := hid fun A B c d W (hA : Cells2 W A (pairs L)) (hB : Cells2 W B (pairs L)) => eRows_rhk A B c d (pairs L) W (by rw [pairs_len]; omega) (fun k hk => by rw [pairs_len] at hk; simp [pairs, List.getD, hk]) hA hB
  rw [pairs_len] at HER
  have HI1 := hid fun A c9 W (h : Cells W A (outF p r c)) (h' : Cells W A0 p) => impl_IsInside A c9 (outF p r c) A0 c0 p W (by omega) h (by omega) h'
  rw [hin, hgo, hgp] at HI1
  have HS1 : Hid (∀ A c9 W, Cells W A (outF p r c) → Calls Try.prog 12 #[.slice A (outF p r c).length c9] W fun e w' => e = .returned (.int .i64 (outF p r c).sum) ∧ W = w') := hid fun A c9 W h => (eSum_any A (outF p r c) c9 W hol (fun j hj => by have := GO.pos j hj; have := GO.le j hj; omega) h).mono (by rintro e w' ⟨rfl, rfl⟩; exact ⟨rfl, rfl⟩)
  have HS2 : Hid (∀ W, Cells W A0 p → Calls Try.prog 12 #[.slice A0 p.length c0] W fun e w' => e = .returned (.int .i64 p.sum) ∧ W = w') := hid fun W h => (eSum_any A0 p c0 W hpl (fun j hj => by have := G.pos j hj; have := G.le j hj; omega) h).mono (by rintro e w' ⟨rfl, rfl⟩; exact ⟨rfl, rfl⟩)
  have hs1 := G.sum
  have hs0 := G.sum0
  have ht1 := GO.sum
  have ht0 := GO.sum0
  obtain ⟨OO, hOO⟩ : ∃ x, x = outF p r c := ⟨_, rfl⟩
  rw [← hOO] at HW1 HW2 HXL HI1 HS1 hsm ht1 ht0
  obtain ⟨LG, hLG⟩ : ∃ x, x = legF p r c := ⟨_, rfl⟩
  rw [← hLG] at HW1 HW2 hleg hlgb
  rw [← hlh] at HK1 hsm
  obtain ⟨S1, hS1⟩ : ∃ s, s = p.sum := ⟨_, rfl⟩
  obtain ⟨S2, hS2⟩ : ∃ s, s = OO.sum := ⟨_, rfl⟩
  rw [← hS1] at HS2 hsm hs1 hs0
  rw [← hS2] at HS1 hsm ht1 ht0
  have HLP := hid hlp
  have HLB := hid hlb
  have HBD := hid hbd
  have HCT := hid hct
  have HLEG := hid hleg
  have HSM := hid hsm
  clear hok eL hlp hlb hbd hct hleg hsm hgo hin hgp G GO hol hpl hOO hLG hS1 hS2 hlh
  have B0 : Below w.heap.size w w := Below.refl _ _
  go_enter Try.func3, Try.ntmps3
  go_wp2_with fail
  refine (HR1.out _ (h0.later B0)).mono ?_
  rintro e w1 ⟨Ar1, cr1, rfl, or1, b1⟩
  have B1 : Below w.heap.size w w1 := Below.next B0 b1
  go_wp2_with fail
  refine (HR2.out _ (h0.later B1)).mono ?_
  rintro e w2 ⟨Ar2, cr2, rfl, or2, b2⟩
  have B2 : Below w.heap.size w w2 := Below.next B1 b2
  have or1_2 := or1.below b2
  clear or1
  go_wp2_with fail
  refine (HW1.out _ (h0.later B2)).mono ?_
  rintro e w3 ⟨Ad1, cd1, rfl, od1, b3⟩
  have B3 : Below w.heap.size w w3 := Below.next B2 b3
  have or1_3 := or1_2.below b3
  clear or1_2
  have or2_3 := or2.below b3
  clear or2
  go_wp2_with fail
  refine (HW2.out _ (h0.later B3)).mono ?_
  rintro e w4 ⟨Ad2, cd2, rfl, od2, b4⟩
  have B4 : Below w.heap.size w w4 := Below.next B3 b4
  have or1_4 := or1_3.below b4
  clear or1_3
  have or2_4 := or2_3.below b4
  clear or2_3
  have od1_4 := od1.below b4
  clear od1
  go_wp2_with fail
  refine (HK1.out _ (h0.later B4)).mono ?_
  rintro e w5 ⟨rfl, b5⟩
  have B5 : Below w.heap.size w w5 := Below.next B4 b5
  have or1_5 := or1_4.below b5
  clear or1_4
  have or2_5 := or2_4.below b5
  clear or2_4
  have od1_5 := od1_4.below b5
  clear od1_4
  have od2_5 := od2.below b5
  clear od2
  go_wp2_with fail
  refine (HER.out _ _ _ _ _ or1_5.cells or2_5.cells).mono ?_
  rintro e w6 ⟨rfl, b6⟩
  have B6 : Below w.heap.size w w6 := Below.next B5 b6
  have or1_6 := or1_5.below b6
  clear or1_5
  have or2_6 := or2_5.below b6
  clear or2_5
  have od1_6 := od1_5.below b6
  clear od1_5
  have od2_6 := od2_5.below b6
  clear od2_5
  go_wp2_with fail
  refine (HE.out _ _ _ _ _ _ HXL.out od1_6.cells od2_6.cells).mono ?_
  rintro e w7 ⟨rfl, b7⟩
  have B7 : Below w.heap.size w w7 := Below.next B6 b7
  have or1_7 := or1_6.below b7
  clear or1_6
  have od1_7 := od1_6.below b7
  clear od1_6
  have od2_7 := od2_6.below b7
  clear od2_6
  go_wp2_with fail
  refine (HI1.out _ _ _ od1_7.cells (h0.later B7)).mono ?_
  rintro e w8 ⟨rfl, b8⟩
  have B8 : Below w.heap.size w w8 := Below.next B7 b8
  have or1_8 := or1_7.below b8
  clear or1_7
  have od1_8 := od1_7.below b8
  clear od1_7
  have HDR := hid or1_8.cells
  have HDL := hid od1_8.cells
  have h0k := hid (h0.later B8)
  obtain ⟨wl, hwl⟩ : ∃ x, x = w8 := ⟨_, rfl⟩
  rw [← hwl] at B8 HDR HDL h0k ⊢
  clear hwl or1_8 od1_8
  obtain ⟨b, o, b2, o2, c2, e, k0, k1, k2⟩ := pair_atR HDR.out 0 HLP.out
  subst e
  obtain ⟨b9, o9, b3, o3, c3, e, k3, k4, k5⟩ := pair_atR HDR.out (L.length - 1) (by have := HLP.out; omega)
  cases e
  rw [Nat.add_zero] at k0
  have hleg := HLEG.out
  obtain ⟨y0, hy0⟩ : ∃ y, y = (L.getD 0 (0, 0)).1 := ⟨_, rfl⟩
  obtain ⟨y1, hy1⟩ : ∃ y, y = (L.getD (L.length - 1) (0, 0)).1 := ⟨_, rfl⟩
  have hbd0 := (HBD.out 0 HLP.out).1
  have hbd1 := (HBD.out (L.length - 1) (by have := HLP.out; omega)).1
  rw [← hy0] at k1 hleg hbd0
  rw [← hy1] at k4 hleg hbd1
  have hwl1 : ((L.length : Int) - 1).toNat = L.length - 1 := by have := HLP.out; omega
  obtain ⟨m, hm⟩ : ∃ m, m = L.length - 1 := ⟨_, rfl⟩
  rw [← hm] at hwl1 k3
  have hml : (m : Int) < (L.length : Int) := by have := HLP.out; omega
  have hlp : (0 : Int) < (L.length : Int) := by have := HLP.out; omega
  have hsm := HSM.out
  clear hy0 hy1 hm k2 k5
  go_wp2_with fail
  refine wp_region_quiet_lit (by kernel_rfl) (by kernel_rfl) ?_
  iterate 14 (go_big_quiet_step (fail))
  go_big_quiet_step ((go_at_call 12; refine (HS2.out _ (h0k.out.later (below_drew' _ _))).mono ?_; rintro e w'' ⟨rfl, rfl⟩; exact ⟨rfl, _, rfl⟩))
  go_big_quiet_step (fail)
  go_big_quiet_step ((go_at_call 12; refine (HS1.out _ _ _ (HDL.out.later (below_drew' _ _))).mono ?_; rintro e w'' ⟨rfl, rfl⟩; exact ⟨rfl, _, rfl⟩))
  iterate 22 (go_big_quiet_step (fail))
  refine wpQuiet_nil ?_
  intro _ hw'
  obtain ⟨n8, hw''⟩ := hw'
  subst hw''
  clear k0 k1 k3 k4 hleg hwl1 hlp hml hsm hbd0 hbd1
  go_wp2_with fail
  go_loopw [27] (fun i wr => ∃ k : Nat, 1 ≤ k ∧ k ≤ L.length ∧ i = .int .i64 k ∧ ∃ n, wr = wl.drewN n) (fun i _ => L.length - (intOf i).toNat)
  case atStart => exact ⟨1, Nat.le_refl _, HLP.out, rfl, _, rfl⟩
  case round =>
    obtain ⟨k, hk1, hk, rfl, nn, rfl⟩ := hrel
    by_cases hlt : k < L.length
    · obtain ⟨b9, o9, b4, o4, c4, e, q0, q1, q2⟩ := pair_atR HDR.out k hlt
      cases e
      obtain ⟨b9, o9, b5, o5, c5, e, q3, q4, q5⟩ := pair_atR HDR.out (k - 1) (by omega)
      cases e
      have f1 := HCT.out k (by omega) hlt
      unfold cnt2 at f1
      have f2 := HBD.out k hlt
      have f3 := HBD.out (k - 1) (by omega)
      obtain ⟨x1, hx1⟩ : ∃ x, x = (L.getD k (0, 0)).1 := ⟨_, rfl⟩
      obtain ⟨y1, hy1⟩ : ∃ x, x = (L.getD k (0, 0)).2 := ⟨_, rfl⟩
      obtain ⟨x0, hx0⟩ : ∃ x, x = (L.getD (k - 1) (0, 0)).1 := ⟨_, rfl⟩
      obtain ⟨y0, hy0⟩ : ∃ x, x = (L.getD (k - 1) (0, 0)).2 := ⟨_, rfl⟩
      rw [← hx1] at q1 f1 f2
      rw [← hy1] at q2 f1 f2
      rw [← hx0] at q4 f1 f3
      rw [← hy0] at q5 f1 f3
      have hek : ((k : Int) - 1).toNat = k - 1 := by omega
      have hli : (k : Int) < (L.length : Int) := by omega
      have hlj : ((k - 1 : Nat) : Int) < (L.length : Int) := by omega
      have HJ := hid hlt
      have HK1 := hid hk1
      have hkz : (0 : Int) ≤ (k : Int) - 1 := by omega
      have hkl : (k : Int) - 1 < (L.length : Int) := by omega
      have hk1i : (1 : Int) ≤ (k : Int) := by omega
      have hk0i : (0 : Int) < (k : Int) := by omega
      have hk0n : 0 < k := by omega
      have hk1n : 1 ≤ k := hk1
      have hkLi : (k : Int) ≤ (L.length : Int) := by omega
      have hkLn : k ≤ L.length := hk
      have hkb : (k : Int) ≤ 1000 := by have := HLB.out; omega
      obtain ⟨j, hj⟩ : ∃ j, j = k - 1 := ⟨_, rfl⟩
      rw [← hj] at hek q3 hlj
      clear hlt hk1 hk hx1 hy1 hx0 hy0 hj
      go_wp2_with fail
      refine wp_region_quiet_lit (by kernel_rfl) (by kernel_rfl) ?_
      iterate 30 (go_big_quiet_step (fail))
      refine wpQuiet_nil ?_
      intro _ hw'
      obtain ⟨nz, hw''⟩ := hw'
      subst hw''
      go_wp2_with fail
      go_roundw
      case rel => exact ⟨k + 1, Nat.le_add_left 1 k, HJ.out, congrArg (Value.int .i64) (Int.natCast_succ k).symm, nn + nz, (by first | rfl | exact World.drewN_drewN ..)⟩
      case measure => have := HJ.out; simp [intOf]; omega
    · have hge : ¬ (k : Int) < (L.length : Int) := by omega
      clear hlt hk hk1
      have B9 : Below w.heap.size w (wl.drewN nn) := Below.next B8 (below_drew' _ _)
      obtain ⟨w9, hw9⟩ : ∃ x, x = wl.drewN nn := ⟨_, rfl⟩
      rw [← hw9] at B9 ⊢
      clear hw9
      go_wp2_with fail
      refine (HC1.out _ (h1.later B9)).mono ?_
      rintro e w10 ⟨Ag1, cg1, rfl, og1, b10⟩
      have B10 : Below w.heap.size w w10 := Below.next B9 b10
      go_wp2_with fail
      refine (HC2.out _ (h1.later B10)).mono ?_
      rintro e w11 ⟨Ag2, cg2, rfl, og2, b11⟩
      have B11 : Below w.heap.size w w11 := Below.next B10 b11
      have og1_11 := og1.below b11
      clear og1
      go_wp2_with fail
      refine (HA1.out _ (h1.later B11)).mono ?_
      rintro e w12 ⟨Aa1, ca1, rfl, oa1, b12⟩
      have B12 : Below w.heap.size w w12 := Below.next B11 b12
      have og1_12 := og1_11.below b12
      clear og1_11
      have og2_12 := og2.below b12
      clear og2
      go_wp2_with fail
      refine (HA2.out _ (h1.later B12)).mono ?_
      rintro e w13 ⟨Aa2, ca2, rfl, oa2, b13⟩
      have B13 : Below w.heap.size w w13 := Below.next B12 b13
      have og1_13 := og1_12.below b13
      clear og1_12
      have og2_13 := og2_12.below b13
      clear og2_12
      have oa1_13 := oa1.below b13
      clear oa1
      cases gb
      · skip
        go_wp2_with fail
        refine (HE.out _ _ _ _ _ _ HCL.out og1_13.cells og2_13.cells).mono ?_
        rintro e w14 ⟨rfl, b14⟩
        have B14 : Below w.heap.size w w14 := Below.next B13 b14
        have og1_14 := og1_13.below b14
        clear og1_13
        have og2_14 := og2_13.below b14
        clear og2_13
        have oa1_14 := oa1_13.below b14
        clear oa1_13
        have oa2_14 := oa2.below b14
        clear oa2
        go_wp2_with fail
        refine (HE.out _ _ _ _ _ _ HAL.out oa1_14.cells oa2_14.cells).mono ?_
        rintro e w15 ⟨rfl, b15⟩
        have B15 : Below w.heap.size w w15 := Below.next B14 b15
        have oa1_15 := oa1_14.below b15
        clear oa1_14
        have oa2_15 := oa2_14.below b15
        clear oa2_14
        go_wp2_with fail
        refine (HN1.out _ (h2.later B15) (h3.later B15)).mono ?_
        rintro e w16 ⟨rfl, b16⟩
        have B16 : Below w.heap.size w w16 := Below.next B15 b16
        go_wp2_with fail
        refine (HN2.out _ (h2.later B16) (h3.later B16)).mono ?_
        rintro e w17 ⟨rfl, b17⟩
        have B17 : Below w.heap.size w w17 := Below.next B16 b17
        go_wp2_with fail
        go_ret
        exact ⟨by first | rfl | exact ret_bool (by simp), B17⟩
      · have hai := HAC.out rfl
        go_wp2_with fail
        refine (HE.out _ _ _ _ _ _ HCL.out og1_13.cells og2_13.cells).mono ?_
        rintro e w14 ⟨rfl, b14⟩
        have B14 : Below w.heap.size w w14 := Below.next B13 b14
        have og1_14 := og1_13.below b14
        clear og1_13
        have og2_14 := og2_13.below b14
        clear og2_13
        have oa1_14 := oa1_13.below b14
        clear oa1_13
        have oa2_14 := oa2.below b14
        clear oa2
        go_wp2_with fail
        refine (HE.out _ _ _ _ _ _ HAL.out oa1_14.cells oa2_14.cells).mono ?_
        rintro e w15 ⟨rfl, b15⟩
        have B15 : Below w.heap.size w w15 := Below.next B14 b15
        have oa1_15 := oa1_14.below b15
        clear oa1_14
        have oa2_15 := oa2_14.below b15
        clear oa2_14
        go_wp2_with fail
        refine (HN1.out _ (h2.later B15) (h3.later B15)).mono ?_
        rintro e w16 ⟨rfl, b16⟩
        have B16 : Below w.heap.size w w16 := Below.next B15 b16
        go_wp2_with fail
        refine (HN2.out _ (h2.later B16) (h3.later B16)).mono ?_
        rintro e w17 ⟨rfl, b17⟩
        have B17 : Below w.heap.size w w17 := Below.next B16 b17
        go_wp2_with fail
        go_ret
        exact ⟨by first | rfl | exact ret_bool (by simp), B17⟩
end Go.Proofs.Ytnjaoaamcdohoaa
