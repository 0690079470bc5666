/-
  The walk of FnBordersAndHooksOfAll (made by genbhk.py).
-/
import Derived.Test.YtaonkebjakanjaaBhkFacts
import Derived.Test.YtaonkebjakanjaaWordF
import Derived.Test.YtaonkebjakanjaaFromF
import Derived.Test.YtaonkebjakanjaaCC
import Derived.Test.YtaonkebjakanjaaCB
import Derived.Test.YtaonkebjakanjaaEsr
import Derived.Deep.CutRange
import Derived.Deep.QuietTactic
import Derived.BigQuiet
namespace Go.Proofs.Ytaonkebjakanjaa
open Go.RowKit

theorem rowF_at {w : World} {A : Option Addr} {p : List Int} {f : Nat → Nat → Int} {K k : Nat} (h : Cells2 w A (rowsF p f K)) (hk : k < K) :
    ∃ b o B2 C2, A = some ⟨b, o, none⟩ ∧ w.cell? ⟨b, o + k, none⟩ = some (.slice B2 (p.getD k 0).toNat C2) ∧ Cells w B2 (rowF f k (p.getD k 0).toNat) := by
  obtain ⟨P, C, h1, h2⟩ := h
  have hk' : k < (rowsF p f K).length := by rw [rowsF_len]; exact hk
  obtain ⟨b, o, rfl, hc⟩ := h1 (by omega)
  have hck := hc k hk'
  have hr := h2 k hk'
  rw [rowsF_get p f K k hk] at hck hr
  rw [rowF_len] at hck
  exact ⟨b, o, P k, C k, rfl, hck, hr⟩
theorem rowC_at {w : World} {B : Option Addr} {f : Nat → Nat → Int} {k n j : Nat} (h : Cells w B (rowF f k n)) (hj : j < n) :
    ∃ b o, B = some ⟨b, o, none⟩ ∧ w.cell? ⟨b, o + j, none⟩ = some (.int .i64 (f k j)) := by
  obtain ⟨b, o, rfl, hc⟩ := h (by rw [rowF_len]; omega)
  have := hc j (by rw [rowF_len]; exact hj)
  rw [rowF_get f k n j hj] at this
  exact ⟨b, o, rfl, this⟩
theorem sqR_bound {p : List Int} (G : Good p) {f : Nat → Nat → Int} (hf : ∀ r c : Nat, r < p.length → (c : Int) < p.getD r 0 → -60 ≤ f r c ∧ f r c ≤ 60) {r : Nat} (hr : r ≤ p.length) :
    0 ≤ sqR p f r ∧ sqR p f r ≤ 4000000 := by
  have h2 := smr_bound (fun i => smr (p.getD i 0).toNat fun c => f i c * f i c) 108000 r (by
    intro i hi
    have := smr_bound (fun c => f i c * f i c) 3600 (p.getD i 0).toNat fun k hk => sq_range (hf i k (by omega) (by omega)).1 (hf i k (by omega) (by omega)).2
    have := G.le i (by omega)
    omega)
  have := G.len
  unfold sqR
  omega
theorem eSame_bhk (A B : Option Addr) (c d : Nat) (xs : List Int) (w : World) (hl : xs.length ≤ 1048576) (hA : Cells w A xs) (hB : Cells w B xs) :
    Calls Try.prog 11 #[.slice A xs.length c, .slice B xs.length d] w fun e w' => e = .returned (.bool true) ∧ Below w.heap.size w w' :=
  (eSame_any A B c d xs xs w hl hl hA hB).mono (by rintro e w' ⟨rfl, n, rfl⟩; exact ⟨by rw [decide_eq_true rfl], below_drew' _ _⟩)
theorem eRows_bhk (A B : Option Addr) (c d : Nat) (L : List (List Int)) (w : World) (hL : L.length ≤ 10000) (hrow : ∀ k, k < L.length → (L.getD k []).length ≤ 1048576) (hA : Cells2 w A L) (hB : Cells2 w B L) :
    Calls Try.prog 10 #[.slice A L.length c, .slice B L.length d] w fun e w' => e = .returned (.bool true) ∧ Below w.heap.size w w' :=
  (eRows_t A B c d L w hL hrow hA hB).mono (by rintro e w' ⟨rfl, n, rfl⟩; exact ⟨rfl, below_drew' _ _⟩)
theorem hooks_small (p : List Int) : (hooksF p).length ≤ 10000 ∧ ∀ k, k < (hooksF p).length → ((hooksF p).getD k []).length ≤ 1048576 := by
  cases h : good p
  · rw [hooksF_f h]; simp
  · have G := (good_iff p).1 h
    rw [hooksF_t h]
    refine ⟨by rw [rowsF_len]; have := G.len; omega, fun k hk => ?_⟩
    rw [rowsF_len] at hk
    rw [rowsF_get _ _ _ _ hk, rowF_len]
    have := G.le k hk; omega
set_option maxRecDepth 100000 in
set_option maxHeartbeats 16000000 in
theorem walkBordersAndHooksOfAll (A0 : Option Addr) (c0 : Nat) (p : List Int) (t : ByteArray) (A2 : Option Addr) (c2 : Nat) (x : List Int) (r c : Int) (w : World)
    (h0 : Cells w A0 p) (h2 : Cells w A2 x) (hr64 : I64 r) (hc64 : I64 c) :
    Calls Try.prog 3 #[.slice A0 p.length c0, .string t, .slice A2 x.length c2, .int .i64 r, .int .i64 c] w fun e w' => e = .returned (.bool true) ∧ Below w.heap.size w w' := by
  by_cases hbig0 : 10000 < p.length
  · have hb : (10000 : Int) < (p.length : Int) := by omega
    go_enter Try.func3, Try.ntmps3
    go_wp2_with fail
    go_ret
    exact ⟨rfl, Below.refl _ _⟩
  have hz0 : (p.length : Int) ≤ 10000 := by omega
  by_cases hbig1 : 1048576 < t.size
  · have hb : (1048576 : Int) < (t.size : Int) := by omega
    go_enter Try.func3, Try.ntmps3
    go_wp2_with fail
    go_ret
    exact ⟨rfl, Below.refl _ _⟩
  have hz1 : (t.size : Int) ≤ 1048576 := by omega
  by_cases hbig2 : 10000 < x.length
  · have hb : (10000 : Int) < (x.length : Int) := by omega
    go_enter Try.func3, Try.ntmps3
    go_wp2_with fail
    go_ret
    exact ⟨rfl, Below.refl _ _⟩
  have hz2 : (x.length : Int) ≤ 10000 := by omega
  clear hbig0 hbig1 hbig2
  have HE := hid fun A B c d (xs : List Int) W (hl : xs.length ≤ 10000) (hA : Cells W A xs) (hB : Cells W B xs) => eSame_bhk A B c d xs W (by omega) hA hB
  have HH1 := hid fun W (h : Cells W A0 p) => impl_HooksOf A0 c0 p W (by omega) h
  have HH2 := hid fun W (h : Cells W A0 p) => spec_HooksOf A0 c0 p W (by omega) h
  have HB1 := hid fun W (h : Cells W A0 p) => impl_BorderWord A0 c0 p W (by omega) h
  have HB2 := hid fun W (h : Cells W A0 p) => spec_BorderWord A0 c0 p W (by omega) h
  have HC1 := hid fun W (h : Cells W A0 p) => impl_ConjugateOf A0 c0 p W (by omega) h
  have HC2 := hid fun W (h : Cells W A0 p) => spec_ConjugateOf A0 c0 p W (by omega) h
  have HP1 := hid fun W (h : Cells W A0 p) => IsPartition_b A0 p c0 W (by omega) h (good p) rfl
  have hhs := hooks_small p
  have HER := hid fun A B c d W (hA : Cells2 W A (hooksF p)) (hB : Cells2 W B (hooksF p)) => eRows_bhk A B c d (hooksF p) W hhs.1 hhs.2 hA hB
  have HEC := hid fun A B c d W (hA : Cells W A (conjF p)) (hB : Cells W B (conjF p)) => eSame_bhk A B c d (conjF p) W (bound_ConjugateOf p) hA hB
  have HF1 := hid fun W => impl_FromBorder t W (by omega)
  have HF2 := hid fun W => spec_FromBorder t W (by omega)
  have HEQ := hid fun A B c d W (hA : Cells W A (fromF t)) (hB : Cells W B (fromF t)) => eSame_bhk A B c d (fromF t) W (bound_FromBorder t) hA hB
  have HK1 := hid fun W (h : Cells W A2 x) => impl_HookAt A2 c2 x r c W (by omega) h hr64 hc64
  have HK2 := hid fun W (h : Cells W A2 x) => spec_HookAt A2 c2 x r c W (by omega) h hr64 hc64
  have HFG : Hid (fromOK t = true → good (fromF t) = true ∧ wordF (fromF t) = t) := hid fun h => from_word h
  have HFL := hid (bound_FromBorder t)
  obtain ⟨nb, hnb⟩ : ∃ b, b = atB x r c := ⟨_, rfl⟩
  obtain ⟨nv, hnv⟩ : ∃ b, b = hookF x r c := ⟨_, rfl⟩
  rw [← hnb, ← hnv] at HK1 HK2
  obtain ⟨gb, hgb⟩ : ∃ b, b = good p := ⟨_, rfl⟩
  rw [← hgb] at HH1 HH2 HB1 HB2 HC1 HC2 HP1
  obtain ⟨HK, hHK⟩ : ∃ b, b = hooksF p := ⟨_, rfl⟩
  rw [← hHK] at HH1 HH2 HER
  obtain ⟨nl, hnl⟩ : ∃ b, b = HK.length := ⟨_, rfl⟩
  rw [← hnl] at HH1 HH2 HER
  obtain ⟨CJ, hCJ⟩ : ∃ b, b = conjF p := ⟨_, rfl⟩
  rw [← hCJ] at HC1 HC2 HEC
  obtain ⟨cl, hcl⟩ : ∃ b, b = CJ.length := ⟨_, rfl⟩
  rw [← hcl] at HC1 HC2 HEC
  obtain ⟨wd, hwd⟩ : ∃ b, b = wordF p := ⟨_, rfl⟩
  rw [← hwd] at HB1 HB2
  obtain ⟨fo, hfo⟩ : ∃ b, b = fromOK t := ⟨_, rfl⟩
  rw [← hfo] at HF1 HF2 HFG
  obtain ⟨FQ, hFQ⟩ : ∃ b, b = fromF t := ⟨_, rfl⟩
  rw [← hFQ] at HF1 HF2 HEQ HFG HFL
  obtain ⟨fl, hfl⟩ : ∃ b, b = FQ.length := ⟨_, rfl⟩
  rw [← hfl] at HF1 HF2 HEQ
  have Hgb := hid hgb
  have HHK := hid hHK
  have Hnl := hid hnl
  have HCJ := hid hCJ
  have Hcl := hid hcl
  have Hwd := hid hwd
  have Hfl := hid hfl
  have e1 : (nb == nb) = true := by simp
  have e2 : (gb == gb) = true := by simp
  have e3 : (gb != gb) = false := by simp
  have e4 : (fo == fo) = true := by simp
  have e5 : (fo != fo) = false := by simp
  clear hnb hnv hgb hHK hnl hCJ hcl hwd hfo hFQ hfl hhs
  have B0 : Below w.heap.size w w := Below.refl _ _
  go_enter Try.func3, Try.ntmps3
  go_wp2_with fail
  refine (HH1.out _ (h0.later B0)).mono ?_
  rintro e w1 ⟨Ar1, cr1, rfl, or1, b1⟩
  have B1 : Below w.heap.size w w1 := Below.next B0 b1
  go_wp2_with fail
  refine (HH2.out _ (h0.later B1)).mono ?_
  rintro e w2 ⟨Ar2, cr2, rfl, or2, b2⟩
  have B2 : Below w.heap.size w w2 := Below.next B1 b2
  have or1_2 := or1.below b2
  clear or1
  go_wp2_with fail
  refine (HB1.out _ (h0.later B2)).mono ?_
  rintro e w3 ⟨rfl, b3⟩
  have B3 : Below w.heap.size w w3 := Below.next B2 b3
  have or1_3 := or1_2.below b3
  clear or1_2
  have or2_3 := or2.below b3
  clear or2
  go_wp2_with fail
  refine (HB2.out _ (h0.later B3)).mono ?_
  rintro e w4 ⟨rfl, b4⟩
  have B4 : Below w.heap.size w w4 := Below.next B3 b4
  have or1_4 := or1_3.below b4
  clear or1_3
  have or2_4 := or2_3.below b4
  clear or2_3
  go_wp2_with fail
  refine (HC1.out _ (h0.later B4)).mono ?_
  rintro e w5 ⟨Ad1, cd1, rfl, od1, b5⟩
  have B5 : Below w.heap.size w w5 := Below.next B4 b5
  have or1_5 := or1_4.below b5
  clear or1_4
  have or2_5 := or2_4.below b5
  clear or2_4
  go_wp2_with fail
  refine (HC2.out _ (h0.later B5)).mono ?_
  rintro e w6 ⟨Ad2, cd2, rfl, od2, b6⟩
  have B6 : Below w.heap.size w w6 := Below.next B5 b6
  have or1_6 := or1_5.below b6
  clear or1_5
  have or2_6 := or2_5.below b6
  clear or2_5
  have od1_6 := od1.below b6
  clear od1
  go_wp2_with fail
  refine (HER.out _ _ _ _ _ or1_6.cells or2_6.cells).mono ?_
  rintro e w7 ⟨rfl, b7⟩
  have B7 : Below w.heap.size w w7 := Below.next B6 b7
  have or1_7 := or1_6.below b7
  clear or1_6
  have or2_7 := or2_6.below b7
  clear or2_6
  have od1_7 := od1_6.below b7
  clear od1_6
  have od2_7 := od2.below b7
  clear od2
  go_wp2_with fail
  refine (HEC.out _ _ _ _ _ od1_7.cells od2_7.cells).mono ?_
  rintro e w8 ⟨rfl, b8⟩
  have B8 : Below w.heap.size w w8 := Below.next B7 b8
  have or1_8 := or1_7.below b8
  clear or1_7
  have od1_8 := od1_7.below b8
  clear od1_7
  have od2_8 := od2_7.below b8
  clear od2_7
  go_wp2_with fail
  refine (HP1.out _ (h0.later B8)).mono ?_
  rintro e w' ⟨rfl, rfl⟩
  go_upto_if 138 with fail
  go_cut [] from 139 to 282 (fun wx => Below w8.heap.size w8 wx)
  case first =>
    cases gb
    · go_wp2_with fail
      go_meet
      case rel => exact Below.refl _ _
    · skip
      have hgp : good p = true := Hgb.out.symm
      have G : Good p := (good_iff p).1 hgp
      have eCJ : CJ = cols p := by rw [HCJ.out, conjF_t hgp]
      have ecl : cl = CJ.length := Hcl.out
      have G2 : Good CJ := by rw [eCJ]; exact cols_good G
      have hg2 : good CJ = true := (good_iff CJ).2 G2
      have eHK : HK = rowsF p (hookN p) p.length := by rw [HHK.out, hooksF_t hgp]
      have enl : nl = p.length := by rw [Hnl.out, eHK, rowsF_len]
      clear HHK Hnl
      subst nl
      subst HK
      obtain ⟨wf1, wf2, wf3, wf4⟩ := word_facts G
      have ewd : wd = strOf (wordL p) := by rw [Hwd.out]; unfold wordF; rw [hgp]; rfl
      rw [← ewd] at wf1 wf2 wf3 wf4
      have hpl := G.len
      have hcl2 := G2.len
      have eCC : conjF CJ = p := by rw [conjF_t hg2, eCJ]; exact cols_cols G
      have HS1 := hid fun W (h : Cells W A0 p) => impl_CellsOf A0 c0 p W (by omega) h
      rw [cellsF_t hgp, hgp] at HS1
      have HF1 := hid fun W => impl_FromBorder wd W (by omega)
      rw [wf1, wf2] at HF1
      have HV1 := hid fun A c W (h : Cells W A CJ) => impl_ConjugateOf A c CJ W (by omega) h
      rw [eCC, hg2, ← ecl] at HV1
      have HK3 := hid fun A c W (h : Cells W A CJ) => impl_HooksOf A c CJ W (by omega) h
      rw [hooksF_t hg2, rowsF_len, hg2, ← ecl] at HK3
      have HC4 := hid fun W (h : Cells W A0 p) => impl_ContentsOf A0 c0 p W (by omega) h
      rw [contF_t hgp, rowsF_len, hgp] at HC4
      have HSM := hid fun W (h : Cells W A0 p) => eSum_any A0 p c0 W hpl (fun j hj => by have := G.pos j hj; have := G.le j hj; omega) h
      have hs1 := G.sum
      have hs0 := G.sum0
      have HEND := hid (sqR_end G)
      have HX2 := hid (sqR_bound G (f := contN) (fun r c hr hc => cont_range G hr hc) (Nat.le_refl p.length))
      have HG := hid G
      have HCC := hid eCJ
      have HPE := hid (show p.length ≤ 10000 by omega)
      have HWS := hid wf3
      obtain ⟨S, hS⟩ : ∃ S, S = p.sum := ⟨_, rfl⟩
      rw [← hS] at HS1 HSM hs1 hs0 HEND
      have hss := sq_range (h := S) (by omega) (by omega)
      clear hgp G eCJ ecl G2 hg2 wf1 wf2 wf3 wf4 ewd hpl hcl2 eCC hS
      go_wp2_with fail
      refine (HS1.out _ (h0.later B8)).mono ?_
      rintro e w9 ⟨rfl, b9⟩
      have B9 : Below w.heap.size w w9 := Below.next B8 b9
      have or1_9 := or1_8.below b9
      clear or1_8
      have od1_9 := od1_8.below b9
      clear od1_8
      go_wp2_with fail
      refine (HF1.out _).mono ?_
      rintro e w10 ⟨Ay1, cy1, rfl, oy1, b10⟩
      have B10 : Below w.heap.size w w10 := Below.next B9 b10
      have or1_10 := or1_9.below b10
      clear or1_9
      have od1_10 := od1_9.below b10
      clear od1_9
      go_wp2_with fail
      refine (HV1.out _ _ _ od1_10.cells).mono ?_
      rintro e w11 ⟨Ay2, cy2, rfl, oy2, b11⟩
      have B11 : Below w.heap.size w w11 := Below.next B10 b11
      have or1_11 := or1_10.below b11
      clear or1_10
      have od1_11 := od1_10.below b11
      clear od1_10
      have oy1_11 := oy1.below b11
      clear oy1
      go_wp2_with fail
      refine (HK3.out _ _ _ od1_11.cells).mono ?_
      rintro e w12 ⟨Ar3, cr3, rfl, or3, b12⟩
      have B12 : Below w.heap.size w w12 := Below.next B11 b12
      have or1_12 := or1_11.below b12
      clear or1_11
      have od1_12 := od1_11.below b12
      clear od1_11
      have oy1_12 := oy1_11.below b12
      clear oy1_11
      have oy2_12 := oy2.below b12
      clear oy2
      go_wp2_with fail
      refine (HC4.out _ (h0.later B12)).mono ?_
      rintro e w13 ⟨Ar4, cr4, rfl, or4, b13⟩
      have B13 : Below w.heap.size w w13 := Below.next B12 b13
      have or1_13 := or1_12.below b13
      clear or1_12
      have od1_13 := od1_12.below b13
      clear od1_12
      have oy1_13 := oy1_12.below b13
      clear oy1_12
      have oy2_13 := oy2_12.below b13
      clear oy2_12
      have or3_13 := or3.below b13
      clear or3
      go_wp2_with fail
      refine (HSM.out _ (h0.later B13)).mono ?_
      rintro e w' ⟨rfl, rfl⟩
      go_wp2_with fail
      refine (HE.out _ _ _ _ _ _ HPE.out oy1_13.cells (h0.later B13)).mono ?_
      rintro e w14 ⟨rfl, b14⟩
      have B14 : Below w.heap.size w w14 := Below.next B13 b14
      have or1_14 := or1_13.below b14
      clear or1_13
      have od1_14 := od1_13.below b14
      clear od1_13
      have oy1_14 := oy1_13.below b14
      clear oy1_13
      have oy2_14 := oy2_13.below b14
      clear oy2_13
      have or3_14 := or3_13.below b14
      clear or3_13
      have or4_14 := or4.below b14
      clear or4
      go_wp2_with fail
      refine (HE.out _ _ _ _ _ _ HPE.out oy2_14.cells (h0.later B14)).mono ?_
      rintro e w15 ⟨rfl, b15⟩
      have B15 : Below w.heap.size w w15 := Below.next B14 b15
      have or1_15 := or1_14.below b15
      clear or1_14
      have od1_15 := od1_14.below b15
      clear od1_14
      have oy1_15 := oy1_14.below b15
      clear oy1_14
      have oy2_15 := oy2_14.below b15
      clear oy2_14
      have or3_15 := or3_14.below b15
      clear or3_14
      have or4_15 := or4_14.below b15
      clear or4_14
      have HR1 := hid or1_15.cells
      clear or1_15
      have HR3 := hid or3_15.cells
      clear or3_15
      have HR4 := hid or4_15.cells
      clear or4_15
      have HDN := hid (Below.next (Below.next (Below.next (Below.next (Below.next (Below.next (b9) b10) b11) b12) b13) b14) b15)
      have h0k := h0.later B15
      obtain ⟨wl, hwl⟩ : ∃ x, x = w15 := ⟨_, rfl⟩
      rw [← hwl] at HDN h0k HR1 HR3 HR4 ⊢
      clear hwl B15 b15
      by_cases hpe : p.length = 0
      · skip
        have hwe : (wd.size : Int) = 0 := by have e := HWS.out; have : p = [] := List.eq_nil_of_length_eq_zero hpe; rw [this] at e; simpa using e
        clear hpe
        go_wp2_with fail
        clear hwe
        clear h0k hs1 hs0
        go_loopw [33, 34, 218] (fun s t i wr => ∃ k : Nat, k ≤ p.length ∧ i = .int .i64 k ∧ s = .int .i64 (sqR p (hookN p) k) ∧ t = .int .i64 (sqR p contN k) ∧ ∃ n, wr = wl.drewN n) (fun _ _ i _ => p.length - (intOf i).toNat)
        case atStart => exact ⟨0, Nat.zero_le _, rfl, rfl, rfl, 0, rfl⟩
        case round =>
          obtain ⟨k, hk, rfl, rfl, rfl, nn, rfl⟩ := hrel
          by_cases hlt : k < p.length
          · obtain ⟨br, or, B2, C2, e, q0, R1⟩ := rowF_at HR1.out hlt
            cases e
            obtain ⟨b4, o4, B6, C6, e, q6, R4⟩ := rowF_at HR4.out hlt
            cases e
            have HRA := hid R1
            have HRB := hid R4
            have HLT := hid hlt
            have hli : (k : Int) < (p.length : Int) := by omega
            obtain ⟨n, hn⟩ : ∃ n, n = (p.getD k 0).toNat := ⟨_, rfl⟩
            rw [← hn] at q0 q6 HRA HRB
            have HN := hid hn
            have hn30 : (n : Int) ≤ 30 := by have := HG.out.le k hlt; omega
            clear R1 R4 hn hlt hk
            go_wp2_with fail
            go_loopw [33, 34, 225] (fun s t i wr => ∃ j : Nat, j ≤ n ∧ i = .int .i64 j ∧ s = .int .i64 (sqX p (hookN p) k j) ∧ t = .int .i64 (sqX p contN k j) ∧ ∃ q, wr = wl.drewN q) (fun _ _ i _ => n - (intOf i).toNat)
            case atStart => exact ⟨0, Nat.zero_le _, rfl, congrArg (Value.int .i64) (sqX_zero _ _ _).symm, congrArg (Value.int .i64) (sqX_zero _ _ _).symm, nn, rfl⟩
            case round =>
              obtain ⟨j, hj, rfl, rfl, rfl, mm, rfl⟩ := hrel
              by_cases hjl : j < n
              · have hcj : (j : Int) < p.getD k 0 := by have := HN.out; omega
                obtain ⟨m1, m2, m3⟩ := other_at HG.out HLT.out hcj
                rw [← HCC.out] at m1 m2
                obtain ⟨b3, o3, B5, C5, e, q3, R3⟩ := rowF_at (k := j) HR3.out (by rw [Hcl.out]; exact m1)
                cases e
                obtain ⟨b2, o2, e, q1⟩ := rowC_at HRA.out hjl
                cases e
                obtain ⟨b6, o6, e, q7⟩ := rowC_at HRB.out hjl
                cases e
                obtain ⟨b5, o5, e, q5⟩ := rowC_at R3 m2
                cases e
                have hdl : hookN CJ j k = hookN p k j := by rw [HCC.out]; exact hook_dual HG.out k j
                rw [hdl] at q5
                have hr := hook_range HG.out HLT.out hcj
                have hq1 := sqX_bound HG.out (f := hookN p) (fun r c hr hc => by have := hook_range HG.out hr hc; omega) HLT.out (Int.le_of_lt hcj)
                have hq2 := sqX_bound HG.out (f := contN) (fun r c hr hc => cont_range HG.out hr hc) HLT.out (Int.le_of_lt hcj)
                obtain ⟨h, hh⟩ : ∃ h, h = hookN p k j := ⟨_, rfl⟩
                obtain ⟨g, hgc⟩ : ∃ g, g = contN k j := ⟨_, rfl⟩
                have hgv : g = (j : Int) - k := hgc
                rw [← hh] at q1 q5 hr
                rw [← hgc] at q7
                obtain ⟨X, hX⟩ : ∃ X, X = sqX p (hookN p) k j := ⟨_, rfl⟩
                obtain ⟨Y, hY⟩ : ∃ Y, Y = sqX p contN k j := ⟨_, rfl⟩
                rw [← hX] at hq1
                rw [← hY] at hq2
                rw [← hX, ← hY]
                have hh2 := sq_range (h := h) (by omega) (by omega)
                have hk30 : (k : Int) ≤ 30 := by have := HG.out.len; have := HLT.out; omega
                have hg2 := sq_range (h := g) (by omega) (by omega)
                have EX := hid (show X + h * h = sqX p (hookN p) k (j + 1) by rw [sqX_succ, hX, hh])
                have EY := hid (show Y + g * g = sqX p contN k (j + 1) by rw [sqX_succ, hY, hgc])
                obtain ⟨m, hm⟩ : ∃ m, m = (CJ.getD j 0).toNat := ⟨_, rfl⟩
                rw [← hm] at q3 m2
                have hjm : (j : Int) < (cl : Int) := by have := Hcl.out; omega
                have hkm : (k : Int) < (m : Int) := by omega
                have hjn : (j : Int) < (n : Int) := by omega
                have HJL := hid hjl
                clear hdl hh hgc hX hY hm m1 m2 m3 R3 hjl hj hcj
                go_wp2_with fail
                clear hgv
                refine wp_region_quiet_lit (by kernel_rfl) (by kernel_rfl) ?_
                iterate 18 (go_big_quiet_step (fail))
                refine wpQuiet_nil ?_
                intro _ hw'
                obtain ⟨nz, hw''⟩ := hw'
                subst hw''
                go_wp2_with fail
                go_roundw
                case rel => exact ⟨j + 1, HJL.out, congrArg (Value.int .i64) (Int.natCast_succ j).symm, congrArg (Value.int .i64) EX.out, congrArg (Value.int .i64) EY.out, mm + nz, rfl⟩
                case measure => have := HJL.out; simp [intOf]; omega
              · have hjn : ¬ (j : Int) < (n : Int) := by omega
                have ejn : j = n := by omega
                clear hjl hj
                go_wp2_with fail
                go_roundw
                case rel =>
                  subst ejn
                  have := HLT.out
                  exact ⟨k + 1, by omega, congrArg (Value.int .i64) (Int.natCast_succ k).symm, congrArg (Value.int .i64) (by rw [HN.out]; exact sqX_all _ _ _), congrArg (Value.int .i64) (by rw [HN.out]; exact sqX_all _ _ _), mm, rfl⟩
                case measure => have := HLT.out; simp [intOf]; omega
          · have hge : ¬ (k : Int) < (p.length : Int) := by omega
            obtain rfl : k = p.length := by omega
            have hx2 := HX2.out
            rw [HEND.out]
            obtain ⟨Y, hY⟩ : ∃ Y, Y = sqR p contN p.length := ⟨_, rfl⟩
            rw [← hY] at hx2 ⊢
            have hyd : Y + S * S - Y = S * S := by omega
            clear hlt hk hY
            go_wp2_with fail
            go_meet
            case rel => exact Below.next HDN.out (below_drew' _ _)
      · skip
        obtain ⟨b0, o0, e, hcl0⟩ := h0k (by omega)
        cases e
        have hx0 := hcl0 0 (by omega)
        rw [Nat.add_zero] at hx0
        have hpp := HG.out.pos 0 (by omega)
        have hp30 := HG.out.le 0 (by omega)
        have hpl30 := HG.out.len
        have hzw : (wd.size : Int) = (p.length : Int) + p.getD 0 0 := by have := HWS.out; omega
        obtain ⟨x0, ex0⟩ : ∃ x, x = p.getD 0 0 := ⟨_, rfl⟩
        rw [← ex0] at hx0 hpp hp30 hzw
        have hzp : (0 : Int) < (p.length : Int) + x0 := by omega
        have hlp : (0 : Int) < (p.length : Int) := by omega
        clear hcl0 ex0 hpe
        go_wp2_with fail
        clear hx0 hpp hp30 hpl30 hzw hzp hlp
        clear h0k hs1 hs0
        go_loopw [33, 34, 218] (fun s t i wr => ∃ k : Nat, k ≤ p.length ∧ i = .int .i64 k ∧ s = .int .i64 (sqR p (hookN p) k) ∧ t = .int .i64 (sqR p contN k) ∧ ∃ n, wr = wl.drewN n) (fun _ _ i _ => p.length - (intOf i).toNat)
        case atStart => exact ⟨0, Nat.zero_le _, rfl, rfl, rfl, 0, rfl⟩
        case round =>
          obtain ⟨k, hk, rfl, rfl, rfl, nn, rfl⟩ := hrel
          by_cases hlt : k < p.length
          · obtain ⟨br, or, B2, C2, e, q0, R1⟩ := rowF_at HR1.out hlt
            cases e
            obtain ⟨b4, o4, B6, C6, e, q6, R4⟩ := rowF_at HR4.out hlt
            cases e
            have HRA := hid R1
            have HRB := hid R4
            have HLT := hid hlt
            have hli : (k : Int) < (p.length : Int) := by omega
            obtain ⟨n, hn⟩ : ∃ n, n = (p.getD k 0).toNat := ⟨_, rfl⟩
            rw [← hn] at q0 q6 HRA HRB
            have HN := hid hn
            have hn30 : (n : Int) ≤ 30 := by have := HG.out.le k hlt; omega
            clear R1 R4 hn hlt hk
            go_wp2_with fail
            go_loopw [33, 34, 225] (fun s t i wr => ∃ j : Nat, j ≤ n ∧ i = .int .i64 j ∧ s = .int .i64 (sqX p (hookN p) k j) ∧ t = .int .i64 (sqX p contN k j) ∧ ∃ q, wr = wl.drewN q) (fun _ _ i _ => n - (intOf i).toNat)
            case atStart => exact ⟨0, Nat.zero_le _, rfl, congrArg (Value.int .i64) (sqX_zero _ _ _).symm, congrArg (Value.int .i64) (sqX_zero _ _ _).symm, nn, rfl⟩
            case round =>
              obtain ⟨j, hj, rfl, rfl, rfl, mm, rfl⟩ := hrel
              by_cases hjl : j < n
              · have hcj : (j : Int) < p.getD k 0 := by have := HN.out; omega
                obtain ⟨m1, m2, m3⟩ := other_at HG.out HLT.out hcj
                rw [← HCC.out] at m1 m2
                obtain ⟨b3, o3, B5, C5, e, q3, R3⟩ := rowF_at (k := j) HR3.out (by rw [Hcl.out]; exact m1)
                cases e
                obtain ⟨b2, o2, e, q1⟩ := rowC_at HRA.out hjl
                cases e
                obtain ⟨b6, o6, e, q7⟩ := rowC_at HRB.out hjl
                cases e
                obtain ⟨b5, o5, e, q5⟩ := rowC_at R3 m2
                cases e
                have hdl : hookN CJ j k = hookN p k j := by rw [HCC.out]; exact hook_dual HG.out k j
                rw [hdl] at q5
                have hr := hook_range HG.out HLT.out hcj
                have hq1 := sqX_bound HG.out (f := hookN p) (fun r c hr hc => by have := hook_range HG.out hr hc; omega) HLT.out (Int.le_of_lt hcj)
                have hq2 := sqX_bound HG.out (f := contN) (fun r c hr hc => cont_range HG.out hr hc) HLT.out (Int.le_of_lt hcj)
                obtain ⟨h, hh⟩ : ∃ h, h = hookN p k j := ⟨_, rfl⟩
                obtain ⟨g, hgc⟩ : ∃ g, g = contN k j := ⟨_, rfl⟩
                have hgv : g = (j : Int) - k := hgc
                rw [← hh] at q1 q5 hr
                rw [← hgc] at q7
                obtain ⟨X, hX⟩ : ∃ X, X = sqX p (hookN p) k j := ⟨_, rfl⟩
                obtain ⟨Y, hY⟩ : ∃ Y, Y = sqX p contN k j := ⟨_, rfl⟩
                rw [← hX] at hq1
                rw [← hY] at hq2
                rw [← hX, ← hY]
                have hh2 := sq_range (h := h) (by omega) (by omega)
                have hk30 : (k : Int) ≤ 30 := by have := HG.out.len; have := HLT.out; omega
                have hg2 := sq_range (h := g) (by omega) (by omega)
                have EX := hid (show X + h * h = sqX p (hookN p) k (j + 1) by rw [sqX_succ, hX, hh])
                have EY := hid (show Y + g * g = sqX p contN k (j + 1) by rw [sqX_succ, hY, hgc])
                obtain ⟨m, hm⟩ : ∃ m, m = (CJ.getD j 0).toNat := ⟨_, rfl⟩
                rw [← hm] at q3 m2
                have hjm : (j : Int) < (cl : Int) := by have := Hcl.out; omega
                have hkm : (k : Int) < (m : Int) := by omega
                have hjn : (j : Int) < (n : Int) := by omega
                have HJL := hid hjl
                clear hdl hh hgc hX hY hm m1 m2 m3 R3 hjl hj hcj
                go_wp2_with fail
                clear hgv
                refine wp_region_quiet_lit (by kernel_rfl) (by kernel_rfl) ?_
                iterate 18 (go_big_quiet_step (fail))
                refine wpQuiet_nil ?_
                intro _ hw'
                obtain ⟨nz, hw''⟩ := hw'
                subst hw''
                go_wp2_with fail
                go_roundw
                case rel => exact ⟨j + 1, HJL.out, congrArg (Value.int .i64) (Int.natCast_succ j).symm, congrArg (Value.int .i64) EX.out, congrArg (Value.int .i64) EY.out, mm + nz, rfl⟩
                case measure => have := HJL.out; simp [intOf]; omega
              · have hjn : ¬ (j : Int) < (n : Int) := by omega
                have ejn : j = n := by omega
                clear hjl hj
                go_wp2_with fail
                go_roundw
                case rel =>
                  subst ejn
                  have := HLT.out
                  exact ⟨k + 1, by omega, congrArg (Value.int .i64) (Int.natCast_succ k).symm, congrArg (Value.int .i64) (by rw [HN.out]; exact sqX_all _ _ _), congrArg (Value.int .i64) (by rw [HN.out]; exact sqX_all _ _ _), mm, rfl⟩
                case measure => have := HLT.out; simp [intOf]; omega
          · have hge : ¬ (k : Int) < (p.length : Int) := by omega
            obtain rfl : k = p.length := by omega
            have hx2 := HX2.out
            rw [HEND.out]
            obtain ⟨Y, hY⟩ : ∃ Y, Y = sqR p contN p.length := ⟨_, rfl⟩
            rw [← hY] at hx2 ⊢
            have hyd : Y + S * S - Y = S * S := by omega
            clear hlt hk hY
            go_wp2_with fail
            go_meet
            case rel => exact Below.next HDN.out (below_drew' _ _)
  case rest =>
  obtain ⟨w9, hwc⟩ : ∃ x : World, x = wc := ⟨_, rfl⟩
  rw [← hwc] at hcut ⊢
  clear hwc
  have b9 := hcut
  clear hcut
  have B9 : Below w.heap.size w w9 := Below.next B8 b9
  have or1_9 := or1_8.below b9
  clear or1_8
  have od1_9 := od1_8.below b9
  clear od1_8
  go_wp2_with fail
  refine (HF1.out _).mono ?_
  rintro e w10 ⟨Aq1, cq1, rfl, oq1, b10⟩
  have B10 : Below w.heap.size w w10 := Below.next B9 b10
  go_wp2_with fail
  refine (HF2.out _).mono ?_
  rintro e w11 ⟨Aq2, cq2, rfl, oq2, b11⟩
  have B11 : Below w.heap.size w w11 := Below.next B10 b11
  have oq1_11 := oq1.below b11
  clear oq1
  go_wp2_with fail
  refine (HEQ.out _ _ _ _ _ oq1_11.cells oq2.cells).mono ?_
  rintro e w12 ⟨rfl, b12⟩
  have B12 : Below w.heap.size w w12 := Below.next B11 b12
  have oq1_12 := oq1_11.below b12
  clear oq1_11
  have oq2_12 := oq2.below b12
  clear oq2
  go_upto_if 302 with fail
  go_cut [] from 303 to 314 (fun wx => Below w12.heap.size w12 wx)
  case first =>
    cases fo
    · go_wp2_with fail
      go_meet
      case rel => exact Below.refl _ _
    · skip
      have HQ := HFG.out rfl
      have HB4 := hid fun A c W (h : Cells W A FQ) => impl_BorderWord A c FQ W HFL.out h
      rw [HQ.1, HQ.2, ← Hfl.out] at HB4
      clear HQ
      go_wp2_with fail
      refine (HB4.out _ _ _ oq1_12.cells).mono ?_
      rintro e w13 ⟨rfl, b13⟩
      have B13 : Below w.heap.size w w13 := Below.next B12 b13
      have oq1_13 := oq1_12.below b13
      clear oq1_12
      go_wp2_with fail
      go_meet
      case rel => exact b13
  case rest =>
  obtain ⟨w13, hwc⟩ : ∃ x : World, x = wc := ⟨_, rfl⟩
  rw [← hwc] at hcut ⊢
  clear hwc
  have b13 := hcut
  clear hcut
  have B13 : Below w.heap.size w w13 := Below.next B12 b13
  have oq1_13 := oq1_12.below b13
  clear oq1_12
  go_wp2_with fail
  refine (HK1.out _ (h2.later B13)).mono ?_
  rintro e w14 ⟨rfl, b14⟩
  have B14 : Below w.heap.size w w14 := Below.next B13 b14
  go_wp2_with fail
  refine (HK2.out _ (h2.later B14)).mono ?_
  rintro e w15 ⟨rfl, b15⟩
  have B15 : Below w.heap.size w w15 := Below.next B14 b15
  go_wp2_with fail
  go_ret
  exact ⟨by first | rfl | exact ret_bool (by simp), B15⟩
end Go.Proofs.Ytaonkebjakanjaa
