/-
  The walk of FnFirstHooksOfAll (made by genfh.py).
-/
import Derived.Test.YtbcecmokplameaaFhMath
import Derived.Test.YtbcecmokplameaaBothS
import Derived.Test.YtbcecmokplameaaCC
namespace Go.Proofs.Ytbcecmokplameaa
open Go.RowKit

set_option maxHeartbeats 1000000 in
theorem qSame_t (A B : Option Addr) (c d : Nat) (xs : List Int) (w : World) (hl : xs.length ≤ 1048576) (hA : Cells w A xs) (hB : Cells w B xs) :
    Calls Try.prog 6 #[.slice A xs.length c, .slice B xs.length d] w fun e w' => e = .returned (.bool true) ∧ Below w.heap.size w w' := by
  go_enter Try.func6, Try.ntmps6
  go_wp2_with fail
  go_loopw [13] (fun i wr => ∃ k : Nat, k ≤ xs.length ∧ i = .int .i64 k ∧ ∃ n, wr = w.drewN n) (fun i _ => xs.length - (intOf i).toNat)
  case atStart => exact ⟨0, Nat.zero_le _, rfl, 0, rfl⟩
  case round =>
    obtain ⟨k, hk, rfl, n, rfl⟩ := hrel
    by_cases hlt : k < xs.length
    · obtain ⟨b, o, rfl, hcc⟩ := hA (by omega)
      obtain ⟨b2, o2, rfl, hcc2⟩ := hB (by omega)
      have hck := hcc k hlt
      have hck2 := hcc2 k hlt
      clear hcc hcc2
      obtain ⟨x, hx⟩ : ∃ x, x = xs.getD k 0 := ⟨_, rfl⟩
      rw [← hx] at hck hck2
      clear hx
      go_wp2_with fail
      go_quiet (fail)
      go_wp2_with fail
      go_roundw
      case rel => exact ⟨k + 1, by omega, by go_num, _, rfl⟩
      case measure => simp [intOf]; omega
    · go_wp2_with fail
      go_ret
      exact ⟨rfl, below_drew' _ _⟩
theorem free_step {r : List Int} {a b : Int} {v u : Bool} {m : Nat} (h : u = true ↔ v = true ∧ ∀ c, c < m → ¬ Int.tmod (r.getD c 0) a = 0 ∧ ¬ Int.tmod (r.getD c 0) b = 0) :
    ∀ u' : Bool, (u' = true ↔ u = true ∧ ¬ Int.tmod (r.getD m 0) a = 0 ∧ ¬ Int.tmod (r.getD m 0) b = 0) → (u' = true ↔ v = true ∧ ∀ c, c < m + 1 → ¬ Int.tmod (r.getD c 0) a = 0 ∧ ¬ Int.tmod (r.getD c 0) b = 0) := by
  intro u' hu
  rw [hu, h]
  constructor
  · rintro ⟨⟨h1, h2⟩, h3⟩
    refine ⟨h1, fun c hc => ?_⟩
    by_cases e : c = m
    · rw [e]; exact h3
    · exact h2 c (by omega)
  · rintro ⟨h1, h2⟩
    exact ⟨⟨h1, fun c hc => h2 c (by omega)⟩, h2 m (by omega)⟩
theorem free_row {R : List (List Int)} {a b : Int} {v u : Bool} {k : Nat} (h : u = true ↔ v = true ∧ ∀ c, c < (R.getD k []).length → ¬ Int.tmod ((R.getD k []).getD c 0) a = 0 ∧ ¬ Int.tmod ((R.getD k []).getD c 0) b = 0)
    (hv : v = true ↔ ∀ r, r < k → ∀ c, c < (R.getD r []).length → ¬ Int.tmod ((R.getD r []).getD c 0) a = 0 ∧ ¬ Int.tmod ((R.getD r []).getD c 0) b = 0) :
    u = true ↔ ∀ r, r < k + 1 → ∀ c, c < (R.getD r []).length → ¬ Int.tmod ((R.getD r []).getD c 0) a = 0 ∧ ¬ Int.tmod ((R.getD r []).getD c 0) b = 0 := by
  rw [h, hv]
  constructor
  · rintro ⟨h1, h2⟩ r hr c hc
    by_cases e : r = k
    · subst e; exact h2 c hc
    · exact h1 r (by omega) c hc
  · intro h1
    exact ⟨fun r hr => h1 r (by omega), h1 k (by omega)⟩
theorem free_is {q : List Int} {a b : Int} (G : Good q) (hs : sz a b = true) (v : Bool) (hv : v = true ↔ ∀ r, r < (hooksR q).length → ∀ c, c < ((hooksR q).getD r []).length → ¬ Int.tmod (((hooksR q).getD r []).getD c 0) a = 0 ∧ ¬ Int.tmod (((hooksR q).getD r []).getD c 0) b = 0) : v = ibB q a b := by
  obtain ⟨ha, hb, -⟩ := sz_iff.1 hs
  have hl := hooksR_len q
  rw [hl] at hv
  have e : ibB q a b = (dnB q a && dnB q b) := by simp [ibB, (good_iff q).2 G, hs]
  rw [e, Bool.eq_iff_iff, hv, Bool.and_eq_true]
  constructor
  · intro h
    exact ⟨hook_dvd_yes G (by omega) fun r hr c hc => (h r hr c hc).1, hook_dvd_yes G (by omega) fun r hr c hc => (h r hr c hc).2⟩
  · rintro ⟨h1, h2⟩ r hr c hc
    exact ⟨hook_dvd_no G (by omega) h1 hr hc, hook_dvd_no G (by omega) h2 hr hc⟩
theorem acB_first {q : List Int} {a b : Int} (hg : good q = true) (hs : sz a b = true) : acB (firstF q) a b = ibB q a b := by
  rw [show firstF q = beadsL q q.length by simp [firstF, hg], show acB (beadsL q q.length) a b = clB a b (beadsL q q.length) by simp [acB, hs], both_eq ((good_iff q).1 hg) hs]
  simp [ibB, hg, hs]
theorem ff_first {p : List Int} (hg : good p = true) : ffOk (firstF p) = true ∧ ffF (firstF p) = p ∧ (firstF p).length = p.length := by
  have G := (good_iff p).1 hg
  rw [show firstF p = beadsL p p.length by simp [firstF, hg]]
  exact ⟨ff_beads G, by rw [ff_t (ff_beads G), parts_beads_id G], beadsL_len _ _⟩

set_option maxRecDepth 100000 in
set_option maxHeartbeats 16000000 in
theorem walkFirstHooksOfAll (A0 : Option Addr) (c0 : Nat) (p : List Int) (A1 : Option Addr) (c1 : Nat) (list : List Int) (A2 : Option Addr) (c2 : Nat) (q : List Int) (a b : Int) (A5 : Option Addr) (c5 : Nat) (gaps : List Int) (c d : Int) (w : World)
    (h0 : Cells w A0 p) (h1 : Cells w A1 list) (h2 : Cells w A2 q) (ha : I64 a) (hb : I64 b) (h5 : Cells w A5 gaps) (hc : I64 c) (hd : I64 d) :
    Calls Try.prog 3 #[.slice A0 p.length c0, .slice A1 list.length c1, .slice A2 q.length c2, .int .i64 a, .int .i64 b, .slice A5 gaps.length c5, .int .i64 c, .int .i64 d] w fun e w' => e = .returned (.bool true) ∧ Below w.heap.size w w' := by
  by_cases hbigp : 10000 < p.length
  · go_enter Try.func3, Try.ntmps3
    go_wp2_with fail
    go_ret
    exact ⟨rfl, Below.refl _ _⟩
  have hlp : p.length ≤ 10000 := by omega
  clear hbigp
  by_cases hbiglist : 10000 < list.length
  · go_enter Try.func3, Try.ntmps3
    go_wp2_with fail
    go_ret
    exact ⟨rfl, Below.refl _ _⟩
  have hllist : list.length ≤ 10000 := by omega
  clear hbiglist
  by_cases hbigq : 10000 < q.length
  · go_enter Try.func3, Try.ntmps3
    go_wp2_with fail
    go_ret
    exact ⟨rfl, Below.refl _ _⟩
  have hlq : q.length ≤ 10000 := by omega
  clear hbigq
  by_cases hbiggaps : 10000 < gaps.length
  · go_enter Try.func3, Try.ntmps3
    go_wp2_with fail
    go_ret
    exact ⟨rfl, Below.refl _ _⟩
  have hlgaps : gaps.length ≤ 10000 := by omega
  clear hbiggaps
  have HP := hid fun W (h : Cells W A0 p) => IsPartition_any A0 p c0 W (by omega) h
  have HF1 := hid fun W (h : Cells W A0 p) => impl_FirstHooks A0 c0 p W (by omega) h
  have HF2 := hid fun W (h : Cells W A0 p) => spec_FirstHooks A0 c0 p W (by omega) h
  have HQ1 := hid fun A B c d W (hA : Cells W A (firstF p)) (hB : Cells W B (firstF p)) => qSame_t A B c d (firstF p) W (bound_FirstHooks p) hA hB
  have HM1 := hid fun W (h : Cells W A1 list) => impl_FromFirstHooks A1 c1 list W (by omega) h
  have HM2 := hid fun W (h : Cells W A1 list) => spec_FromFirstHooks A1 c1 list W (by omega) h
  have HQ2 := hid fun A B c d W (hA : Cells W A (ffF list)) (hB : Cells W B (ffF list)) => qSame_t A B c d (ffF list) W (bound_FromFirstHooks list) hA hB
  have HB1 := hid fun A c W (h : Cells W A (ffF list)) => impl_FirstHooks A c (ffF list) W (bound_FromFirstHooks list) h
  have HI1 := hid fun W (h : Cells W A2 q) => impl_IsBothCore A2 c2 q a b W (by omega) h ha hb
  have HI2 := hid fun W (h : Cells W A2 q) => spec_IsBothCore A2 c2 q a b W (by omega) h ha hb
  have HC1 := hid fun W (h : Cells W A5 gaps) => impl_AreClosedHooks A5 c5 gaps c d W (by omega) h hc hd
  have HC2 := hid fun W (h : Cells W A5 gaps) => spec_AreClosedHooks A5 c5 gaps c d W (by omega) h hc hd
  have HSZ := hid fun W => impl_AreSizes c d W hc hd
  have HT1 := hid fun W (h : Cells W A2 q) => impl_FirstHooks A2 c2 q W (by omega) h
  have HT2 := hid fun A cc W (h : Cells W A (firstF q)) => impl_AreClosedHooks A cc (firstF q) a b W (bound_FirstHooks q) h ha hb
  have HT3 := hid fun W (h : Cells W A2 q) => impl_HooksOf A2 c2 q W (by omega) h
  have HQ3 := hid fun A B c d W (hA : Cells W A list) (hB : Cells W B list) => qSame_t A B c d list W (by omega) hA hB
  have HF3 := hid fun A c W (h : Cells W A (firstF p)) => impl_FromFirstHooks A c (firstF p) W (bound_FirstHooks p) h
  have HQ4 := hid fun A B c d W (hA : Cells W A p) (hB : Cells W B p) => qSame_t A B c d p W (by omega) hA hB
  obtain ⟨ac, hac⟩ : ∃ x, x = acB gaps c d := ⟨_, rfl⟩
  obtain ⟨sc, hsc⟩ : ∃ x, x = sz c d := ⟨_, rfl⟩
  rw [← hac, ← hsc] at HC1 HC2
  rw [← hsc] at HSZ
  clear hac hsc
  cases hgp : good p
  · rw [hgp] at HP HF1 HF2
    obtain ⟨fp, hfp⟩ : ∃ x, x = firstF p := ⟨_, rfl⟩
    rw [← hfp] at HF1 HF2 HQ1 HF3
    clear hfp hgp
    cases htl : ffOk list
    · rw [htl] at HM1 HM2
      clear htl
      obtain ⟨fm, hfm⟩ : ∃ x, x = ffF list := ⟨_, rfl⟩
      rw [← hfm] at HM1 HM2 HQ2 HB1
      clear hfm
      cases htw : ibOk q a b
      · rw [htw] at HI1 HI2
        obtain ⟨is, his⟩ : ∃ x, x = ibB q a b := ⟨_, rfl⟩
        rw [← his] at HI1 HI2
        clear his htw HT1 HT2 HT3
        have B0 : Below w.heap.size w w := Below.refl _ _
        go_enter Try.func3, Try.ntmps3
        go_wp2_with fail
        refine (HF1.out _ (h0.later B0)).mono ?_
        rintro e w1 ⟨Af1, cf1, rfl, of1, b1⟩
        have B1 : Below w.heap.size w w1 := Below.next B0 b1
        go_wp2_with fail
        refine (HF2.out _ (h0.later B1)).mono ?_
        rintro e w2 ⟨Af2, cf2, rfl, of2, b2⟩
        have B2 : Below w.heap.size w w2 := Below.next B1 b2
        have of1_2 := of1.below b2
        go_wp2_with fail
        refine (HQ1.out _ _ _ _ _ of1_2.cells of2.cells).mono ?_
        rintro e w3 ⟨rfl, b3⟩
        have B3 : Below w.heap.size w w3 := Below.next B2 b3
        have of1_3 := of1_2.below b3
        have of2_3 := of2.below b3
        go_wp2_with fail
        refine (HP.out _ (h0.later B3)).mono ?_
        rintro e w' ⟨rfl, rfl⟩
        go_wp2_with fail
        refine (HM1.out _ (h1.later B3)).mono ?_
        rintro e w4 ⟨Am1, cm1, rfl, om1, b4⟩
        have B4 : Below w.heap.size w w4 := Below.next B3 b4
        have of1_4 := of1_3.below b4
        go_wp2_with fail
        refine (HM2.out _ (h1.later B4)).mono ?_
        rintro e w5 ⟨Am2, cm2, rfl, om2, b5⟩
        have B5 : Below w.heap.size w w5 := Below.next B4 b5
        have of1_5 := of1_4.below b5
        have om1_5 := om1.below b5
        go_wp2_with fail
        refine (HQ2.out _ _ _ _ _ om1_5.cells om2.cells).mono ?_
        rintro e w6 ⟨rfl, b6⟩
        have B6 : Below w.heap.size w w6 := Below.next B5 b6
        have of1_6 := of1_5.below b6
        have om1_6 := om1_5.below b6
        have om2_6 := om2.below b6
        go_wp2_with fail
        refine (HI1.out _ (h2.later B6)).mono ?_
        rintro e w7 ⟨rfl, b7⟩
        have B7 : Below w.heap.size w w7 := Below.next B6 b7
        have of1_7 := of1_6.below b7
        go_wp2_with fail
        refine (HI2.out _ (h2.later B7)).mono ?_
        rintro e w8 ⟨rfl, b8⟩
        have B8 : Below w.heap.size w w8 := Below.next B7 b8
        have of1_8 := of1_7.below b8
        go_wp2_with fail
        refine (HC1.out _ (h5.later B8)).mono ?_
        rintro e w9 ⟨rfl, b9⟩
        have B9 : Below w.heap.size w w9 := Below.next B8 b9
        have of1_9 := of1_8.below b9
        go_wp2_with fail
        refine (HC2.out _ (h5.later B9)).mono ?_
        rintro e w10 ⟨rfl, b10⟩
        have B10 : Below w.heap.size w w10 := Below.next B9 b10
        have of1_10 := of1_9.below b10
        go_wp2_with fail
        refine (HSZ.out _).mono ?_
        rintro e w11 ⟨rfl, b11⟩
        have B11 : Below w.heap.size w w11 := Below.next B10 b11
        have of1_11 := of1_10.below b11
        go_wp2_with fail
        go_ret
        exact ⟨rfl, B11⟩
      · have hgq : good q = true := by unfold ibOk at htw; exact (Bool.and_eq_true_iff.1 htw).1
        have hsq : sz a b = true := by unfold ibOk at htw; exact (Bool.and_eq_true_iff.1 htw).2
        have haf := acB_first hgq hsq
        have Gq := (good_iff q).1 hgq
        have hfr := free_is Gq hsq
        have hhf : hooksF q = hooksR q := hooksF_t hgq
        obtain ⟨ha7, hb7, -⟩ := sz_iff.1 hsq
        have hna : ¬ a = 0 := by omega
        have hnb : ¬ b = 0 := by omega
        have HTOT := hid (hooksR_tot Gq)
        rw [haf, hsq] at HT2
        rw [hgq] at HT1
        rw [hgq, hhf] at HT3
        rw [htw] at HI1 HI2
        obtain ⟨is, his⟩ : ∃ x, x = ibB q a b := ⟨_, rfl⟩
        rw [← his] at HI1 HI2 HT2 hfr
        obtain ⟨R, hR⟩ : ∃ x, x = hooksR q := ⟨_, rfl⟩
        have hR30 : (hooksR q).length ≤ 30 := by rw [hooksR_len]; exact Gq.len
        rw [← hR] at HT3 hfr HTOT hR30
        have HFREE := hid hfr
        obtain ⟨fq, hfq⟩ : ∃ x, x = firstF q := ⟨_, rfl⟩
        rw [← hfq] at HT1 HT2
        clear hfr hhf hgq hsq haf Gq his hR hfq htw
        have B0 : Below w.heap.size w w := Below.refl _ _
        go_enter Try.func3, Try.ntmps3
        go_wp2_with fail
        refine (HF1.out _ (h0.later B0)).mono ?_
        rintro e w1 ⟨Af1, cf1, rfl, of1, b1⟩
        have B1 : Below w.heap.size w w1 := Below.next B0 b1
        go_wp2_with fail
        refine (HF2.out _ (h0.later B1)).mono ?_
        rintro e w2 ⟨Af2, cf2, rfl, of2, b2⟩
        have B2 : Below w.heap.size w w2 := Below.next B1 b2
        have of1_2 := of1.below b2
        go_wp2_with fail
        refine (HQ1.out _ _ _ _ _ of1_2.cells of2.cells).mono ?_
        rintro e w3 ⟨rfl, b3⟩
        have B3 : Below w.heap.size w w3 := Below.next B2 b3
        have of1_3 := of1_2.below b3
        have of2_3 := of2.below b3
        go_wp2_with fail
        refine (HP.out _ (h0.later B3)).mono ?_
        rintro e w' ⟨rfl, rfl⟩
        go_wp2_with fail
        refine (HM1.out _ (h1.later B3)).mono ?_
        rintro e w4 ⟨Am1, cm1, rfl, om1, b4⟩
        have B4 : Below w.heap.size w w4 := Below.next B3 b4
        have of1_4 := of1_3.below b4
        go_wp2_with fail
        refine (HM2.out _ (h1.later B4)).mono ?_
        rintro e w5 ⟨Am2, cm2, rfl, om2, b5⟩
        have B5 : Below w.heap.size w w5 := Below.next B4 b5
        have of1_5 := of1_4.below b5
        have om1_5 := om1.below b5
        go_wp2_with fail
        refine (HQ2.out _ _ _ _ _ om1_5.cells om2.cells).mono ?_
        rintro e w6 ⟨rfl, b6⟩
        have B6 : Below w.heap.size w w6 := Below.next B5 b6
        have of1_6 := of1_5.below b6
        have om1_6 := om1_5.below b6
        have om2_6 := om2.below b6
        go_wp2_with fail
        refine (HI1.out _ (h2.later B6)).mono ?_
        rintro e w7 ⟨rfl, b7⟩
        have B7 : Below w.heap.size w w7 := Below.next B6 b7
        have of1_7 := of1_6.below b7
        go_wp2_with fail
        refine (HI2.out _ (h2.later B7)).mono ?_
        rintro e w8 ⟨rfl, b8⟩
        have B8 : Below w.heap.size w w8 := Below.next B7 b8
        have of1_8 := of1_7.below b8
        go_wp2_with fail
        refine (HT1.out _ (h2.later B8)).mono ?_
        rintro e w9 ⟨At1, ct1, rfl, ot1, b9⟩
        have B9 : Below w.heap.size w w9 := Below.next B8 b9
        have of1_9 := of1_8.below b9
        go_wp2_with fail
        refine (HT2.out _ _ _ ot1.cells).mono ?_
        rintro e w10 ⟨rfl, b10⟩
        have B10 : Below w.heap.size w w10 := Below.next B9 b10
        have of1_10 := of1_9.below b10
        have ot1_10 := ot1.below b10
        go_wp2_with fail
        refine (HT3.out _ (h2.later B10)).mono ?_
        rintro e w11 ⟨Ar1, cr1, rfl, or1, b11⟩
        have B11 : Below w.heap.size w w11 := Below.next B10 b11
        have of1_11 := of1_10.below b11
        obtain ⟨Pt, Ct, hA1, hA2⟩ := or1.cells
        have HA1 := hid hA1; have HA2 := hid hA2
        clear hA1 hA2 or1
        go_wp2_with fail
        go_loop [37, 166] (fun f i => ∃ (k : Nat) (v : Bool), k ≤ R.length ∧ i = .int .i64 k ∧ f = .bool v ∧ Hid (v = true ↔ ∀ r, r < k → ∀ c, c < (R.getD r []).length → ¬ Int.tmod ((R.getD r []).getD c 0) a = 0 ∧ ¬ Int.tmod ((R.getD r []).getD c 0) b = 0)) (fun _ i => R.length - (intOf i).toNat)
        case atStart => exact ⟨0, true, Nat.zero_le _, rfl, rfl, hid ⟨fun _ r hr => absurd hr (Nat.not_lt_zero _), fun _ => rfl⟩⟩
        case round =>
          obtain ⟨k, v, hk, rfl, rfl, HV⟩ := hrel
          by_cases hlt : k < R.length
          · obtain ⟨b0, o, rfl, hcc⟩ := HA1.out (by omega)
            have hck := hcc k hlt
            have HR0 := hid (HA2.out k hlt)
            have hrl : (R.getD k []).length ≤ 900 := by have := tot_take_succ R k hlt; have := tot_take_le R (k + 1); have := HTOT.out; omega
            obtain ⟨r, hre⟩ : ∃ r, r = R.getD k [] := ⟨_, rfl⟩
            obtain ⟨Ar, hAr⟩ : ∃ Ar, Ar = Pt k := ⟨_, rfl⟩
            obtain ⟨Cr, hCr⟩ : ∃ Cr, Cr = Ct k := ⟨_, rfl⟩
            have HRE := hid hre
            rw [← hre] at hck HR0 hrl
            rw [← hAr, ← hCr] at hck
            rw [← hAr] at HR0
            clear hcc hre hAr hCr HA1
            go_wp2_with fail
            go_loop [37, 172] (fun f j => ∃ (m : Nat) (u : Bool), m ≤ r.length ∧ j = .int .i64 m ∧ f = .bool u ∧ Hid (u = true ↔ v = true ∧ ∀ c, c < m → ¬ Int.tmod (r.getD c 0) a = 0 ∧ ¬ Int.tmod (r.getD c 0) b = 0)) (fun _ j => r.length - (intOf j).toNat)
            case atStart => exact ⟨0, v, Nat.zero_le _, rfl, rfl, hid ⟨fun h => ⟨h, fun c hc => absurd hc (Nat.not_lt_zero _)⟩, fun h => h.1⟩⟩
            case round =>
              obtain ⟨m, u, hm, rfl, rfl, HU⟩ := hrel
              by_cases hml : m < r.length
              · obtain ⟨b3, o3, rfl, hcr⟩ := HR0.out (by omega)
                have hcm := hcr m hml
                have HS := hid (free_step (a := a) (b := b) (v := v) HU.out)
                obtain ⟨x, hx⟩ : ∃ x, x = r.getD m 0 := ⟨_, rfl⟩
                rw [← hx] at hcm HS
                clear hcr hx
                cases u
                · have HN := hid (HS.out false (by simp))
                  go_wp2_with fail
                  go_round
                  case rel => exact ⟨m + 1, false, by omega, by go_num, rfl, HN⟩
                  case measure => simp [intOf]; omega
                · by_cases hxa : Int.tmod x a = 0
                  · have HN := hid (HS.out false (by simp [hxa]))
                    go_wp2_with fail
                    go_round
                    case rel => exact ⟨m + 1, false, by omega, by go_num, rfl, HN⟩
                    case measure => simp [intOf]; omega
                  · by_cases hxb : Int.tmod x b = 0
                    · have HN := hid (HS.out false (by simp [hxb]))
                      go_wp2_with fail
                      go_round
                      case rel => exact ⟨m + 1, false, by omega, by go_num, rfl, HN⟩
                      case measure => simp [intOf]; omega
                    · have HN := hid (HS.out true (by simp [hxa, hxb]))
                      go_wp2_with fail
                      go_round
                      case rel => exact ⟨m + 1, true, by omega, by go_num, by simp [hxa, hxb], HN⟩
                      case measure => simp [intOf]; omega
              · have HN := hid (free_row (R := R) (k := k) (by
                  have := HU.out
                  rw [show m = r.length by omega, HRE.out] at this
                  exact this) HV.out)
                go_wp2_with fail
                go_round
                case rel => exact ⟨k + 1, u, by omega, by go_num, rfl, HN⟩
                case measure => simp [intOf]; omega
          · have HVI := hid (show v = is by
              have := HV.out
              rw [show k = R.length by omega] at this
              exact HFREE.out v this)
            have hvi := HVI.out
            subst hvi
            go_wp2_with fail
            refine (HC1.out _ (h5.later B11)).mono ?_
            rintro e w12 ⟨rfl, b12⟩
            have B12 : Below w.heap.size w w12 := Below.next B11 b12
            have of1_12 := of1_11.below b12
            go_wp2_with fail
            refine (HC2.out _ (h5.later B12)).mono ?_
            rintro e w13 ⟨rfl, b13⟩
            have B13 : Below w.heap.size w w13 := Below.next B12 b13
            have of1_13 := of1_12.below b13
            go_wp2_with fail
            refine (HSZ.out _).mono ?_
            rintro e w14 ⟨rfl, b14⟩
            have B14 : Below w.heap.size w w14 := Below.next B13 b14
            have of1_14 := of1_13.below b14
            go_wp2_with fail
            go_ret
            exact ⟨rfl, B14⟩
    · have hbp := beads_parts_id htl
      have hgf : good (ffF list) = true := by unfold ffF; rw [if_pos htl]; simp only [ffOk, Bool.and_eq_true] at htl; exact htl.2.2
      rw [hbp, hgf] at HB1
      rw [htl] at HM1 HM2
      clear hbp hgf htl
      obtain ⟨fm, hfm⟩ : ∃ x, x = ffF list := ⟨_, rfl⟩
      rw [← hfm] at HM1 HM2 HQ2 HB1
      clear hfm
      cases htw : ibOk q a b
      · rw [htw] at HI1 HI2
        obtain ⟨is, his⟩ : ∃ x, x = ibB q a b := ⟨_, rfl⟩
        rw [← his] at HI1 HI2
        clear his htw HT1 HT2 HT3
        have B0 : Below w.heap.size w w := Below.refl _ _
        go_enter Try.func3, Try.ntmps3
        go_wp2_with fail
        refine (HF1.out _ (h0.later B0)).mono ?_
        rintro e w1 ⟨Af1, cf1, rfl, of1, b1⟩
        have B1 : Below w.heap.size w w1 := Below.next B0 b1
        go_wp2_with fail
        refine (HF2.out _ (h0.later B1)).mono ?_
        rintro e w2 ⟨Af2, cf2, rfl, of2, b2⟩
        have B2 : Below w.heap.size w w2 := Below.next B1 b2
        have of1_2 := of1.below b2
        go_wp2_with fail
        refine (HQ1.out _ _ _ _ _ of1_2.cells of2.cells).mono ?_
        rintro e w3 ⟨rfl, b3⟩
        have B3 : Below w.heap.size w w3 := Below.next B2 b3
        have of1_3 := of1_2.below b3
        have of2_3 := of2.below b3
        go_wp2_with fail
        refine (HP.out _ (h0.later B3)).mono ?_
        rintro e w' ⟨rfl, rfl⟩
        go_wp2_with fail
        refine (HM1.out _ (h1.later B3)).mono ?_
        rintro e w4 ⟨Am1, cm1, rfl, om1, b4⟩
        have B4 : Below w.heap.size w w4 := Below.next B3 b4
        have of1_4 := of1_3.below b4
        go_wp2_with fail
        refine (HM2.out _ (h1.later B4)).mono ?_
        rintro e w5 ⟨Am2, cm2, rfl, om2, b5⟩
        have B5 : Below w.heap.size w w5 := Below.next B4 b5
        have of1_5 := of1_4.below b5
        have om1_5 := om1.below b5
        go_wp2_with fail
        refine (HQ2.out _ _ _ _ _ om1_5.cells om2.cells).mono ?_
        rintro e w6 ⟨rfl, b6⟩
        have B6 : Below w.heap.size w w6 := Below.next B5 b6
        have of1_6 := of1_5.below b6
        have om1_6 := om1_5.below b6
        have om2_6 := om2.below b6
        go_wp2_with fail
        refine (HB1.out _ _ _ om1_6.cells).mono ?_
        rintro e w7 ⟨Ak1, ck1, rfl, ok1, b7⟩
        have B7 : Below w.heap.size w w7 := Below.next B6 b7
        have of1_7 := of1_6.below b7
        have om1_7 := om1_6.below b7
        go_wp2_with fail
        refine (HQ3.out _ _ _ _ _ ok1.cells (h1.later B7)).mono ?_
        rintro e w8 ⟨rfl, b8⟩
        have B8 : Below w.heap.size w w8 := Below.next B7 b8
        have of1_8 := of1_7.below b8
        have om1_8 := om1_7.below b8
        have ok1_8 := ok1.below b8
        go_wp2_with fail
        refine (HI1.out _ (h2.later B8)).mono ?_
        rintro e w9 ⟨rfl, b9⟩
        have B9 : Below w.heap.size w w9 := Below.next B8 b9
        have of1_9 := of1_8.below b9
        go_wp2_with fail
        refine (HI2.out _ (h2.later B9)).mono ?_
        rintro e w10 ⟨rfl, b10⟩
        have B10 : Below w.heap.size w w10 := Below.next B9 b10
        have of1_10 := of1_9.below b10
        go_wp2_with fail
        refine (HC1.out _ (h5.later B10)).mono ?_
        rintro e w11 ⟨rfl, b11⟩
        have B11 : Below w.heap.size w w11 := Below.next B10 b11
        have of1_11 := of1_10.below b11
        go_wp2_with fail
        refine (HC2.out _ (h5.later B11)).mono ?_
        rintro e w12 ⟨rfl, b12⟩
        have B12 : Below w.heap.size w w12 := Below.next B11 b12
        have of1_12 := of1_11.below b12
        go_wp2_with fail
        refine (HSZ.out _).mono ?_
        rintro e w13 ⟨rfl, b13⟩
        have B13 : Below w.heap.size w w13 := Below.next B12 b13
        have of1_13 := of1_12.below b13
        go_wp2_with fail
        go_ret
        exact ⟨rfl, B13⟩
      · have hgq : good q = true := by unfold ibOk at htw; exact (Bool.and_eq_true_iff.1 htw).1
        have hsq : sz a b = true := by unfold ibOk at htw; exact (Bool.and_eq_true_iff.1 htw).2
        have haf := acB_first hgq hsq
        have Gq := (good_iff q).1 hgq
        have hfr := free_is Gq hsq
        have hhf : hooksF q = hooksR q := hooksF_t hgq
        obtain ⟨ha7, hb7, -⟩ := sz_iff.1 hsq
        have hna : ¬ a = 0 := by omega
        have hnb : ¬ b = 0 := by omega
        have HTOT := hid (hooksR_tot Gq)
        rw [haf, hsq] at HT2
        rw [hgq] at HT1
        rw [hgq, hhf] at HT3
        rw [htw] at HI1 HI2
        obtain ⟨is, his⟩ : ∃ x, x = ibB q a b := ⟨_, rfl⟩
        rw [← his] at HI1 HI2 HT2 hfr
        obtain ⟨R, hR⟩ : ∃ x, x = hooksR q := ⟨_, rfl⟩
        have hR30 : (hooksR q).length ≤ 30 := by rw [hooksR_len]; exact Gq.len
        rw [← hR] at HT3 hfr HTOT hR30
        have HFREE := hid hfr
        obtain ⟨fq, hfq⟩ : ∃ x, x = firstF q := ⟨_, rfl⟩
        rw [← hfq] at HT1 HT2
        clear hfr hhf hgq hsq haf Gq his hR hfq htw
        have B0 : Below w.heap.size w w := Below.refl _ _
        go_enter Try.func3, Try.ntmps3
        go_wp2_with fail
        refine (HF1.out _ (h0.later B0)).mono ?_
        rintro e w1 ⟨Af1, cf1, rfl, of1, b1⟩
        have B1 : Below w.heap.size w w1 := Below.next B0 b1
        go_wp2_with fail
        refine (HF2.out _ (h0.later B1)).mono ?_
        rintro e w2 ⟨Af2, cf2, rfl, of2, b2⟩
        have B2 : Below w.heap.size w w2 := Below.next B1 b2
        have of1_2 := of1.below b2
        go_wp2_with fail
        refine (HQ1.out _ _ _ _ _ of1_2.cells of2.cells).mono ?_
        rintro e w3 ⟨rfl, b3⟩
        have B3 : Below w.heap.size w w3 := Below.next B2 b3
        have of1_3 := of1_2.below b3
        have of2_3 := of2.below b3
        go_wp2_with fail
        refine (HP.out _ (h0.later B3)).mono ?_
        rintro e w' ⟨rfl, rfl⟩
        go_wp2_with fail
        refine (HM1.out _ (h1.later B3)).mono ?_
        rintro e w4 ⟨Am1, cm1, rfl, om1, b4⟩
        have B4 : Below w.heap.size w w4 := Below.next B3 b4
        have of1_4 := of1_3.below b4
        go_wp2_with fail
        refine (HM2.out _ (h1.later B4)).mono ?_
        rintro e w5 ⟨Am2, cm2, rfl, om2, b5⟩
        have B5 : Below w.heap.size w w5 := Below.next B4 b5
        have of1_5 := of1_4.below b5
        have om1_5 := om1.below b5
        go_wp2_with fail
        refine (HQ2.out _ _ _ _ _ om1_5.cells om2.cells).mono ?_
        rintro e w6 ⟨rfl, b6⟩
        have B6 : Below w.heap.size w w6 := Below.next B5 b6
        have of1_6 := of1_5.below b6
        have om1_6 := om1_5.below b6
        have om2_6 := om2.below b6
        go_wp2_with fail
        refine (HB1.out _ _ _ om1_6.cells).mono ?_
        rintro e w7 ⟨Ak1, ck1, rfl, ok1, b7⟩
        have B7 : Below w.heap.size w w7 := Below.next B6 b7
        have of1_7 := of1_6.below b7
        have om1_7 := om1_6.below b7
        go_wp2_with fail
        refine (HQ3.out _ _ _ _ _ ok1.cells (h1.later B7)).mono ?_
        rintro e w8 ⟨rfl, b8⟩
        have B8 : Below w.heap.size w w8 := Below.next B7 b8
        have of1_8 := of1_7.below b8
        have om1_8 := om1_7.below b8
        have ok1_8 := ok1.below b8
        go_wp2_with fail
        refine (HI1.out _ (h2.later B8)).mono ?_
        rintro e w9 ⟨rfl, b9⟩
        have B9 : Below w.heap.size w w9 := Below.next B8 b9
        have of1_9 := of1_8.below b9
        go_wp2_with fail
        refine (HI2.out _ (h2.later B9)).mono ?_
        rintro e w10 ⟨rfl, b10⟩
        have B10 : Below w.heap.size w w10 := Below.next B9 b10
        have of1_10 := of1_9.below b10
        go_wp2_with fail
        refine (HT1.out _ (h2.later B10)).mono ?_
        rintro e w11 ⟨At1, ct1, rfl, ot1, b11⟩
        have B11 : Below w.heap.size w w11 := Below.next B10 b11
        have of1_11 := of1_10.below b11
        go_wp2_with fail
        refine (HT2.out _ _ _ ot1.cells).mono ?_
        rintro e w12 ⟨rfl, b12⟩
        have B12 : Below w.heap.size w w12 := Below.next B11 b12
        have of1_12 := of1_11.below b12
        have ot1_12 := ot1.below b12
        go_wp2_with fail
        refine (HT3.out _ (h2.later B12)).mono ?_
        rintro e w13 ⟨Ar1, cr1, rfl, or1, b13⟩
        have B13 : Below w.heap.size w w13 := Below.next B12 b13
        have of1_13 := of1_12.below b13
        obtain ⟨Pt, Ct, hA1, hA2⟩ := or1.cells
        have HA1 := hid hA1; have HA2 := hid hA2
        clear hA1 hA2 or1
        go_wp2_with fail
        go_loop [37, 166] (fun f i => ∃ (k : Nat) (v : Bool), k ≤ R.length ∧ i = .int .i64 k ∧ f = .bool v ∧ Hid (v = true ↔ ∀ r, r < k → ∀ c, c < (R.getD r []).length → ¬ Int.tmod ((R.getD r []).getD c 0) a = 0 ∧ ¬ Int.tmod ((R.getD r []).getD c 0) b = 0)) (fun _ i => R.length - (intOf i).toNat)
        case atStart => exact ⟨0, true, Nat.zero_le _, rfl, rfl, hid ⟨fun _ r hr => absurd hr (Nat.not_lt_zero _), fun _ => rfl⟩⟩
        case round =>
          obtain ⟨k, v, hk, rfl, rfl, HV⟩ := hrel
          by_cases hlt : k < R.length
          · obtain ⟨b0, o, rfl, hcc⟩ := HA1.out (by omega)
            have hck := hcc k hlt
            have HR0 := hid (HA2.out k hlt)
            have hrl : (R.getD k []).length ≤ 900 := by have := tot_take_succ R k hlt; have := tot_take_le R (k + 1); have := HTOT.out; omega
            obtain ⟨r, hre⟩ : ∃ r, r = R.getD k [] := ⟨_, rfl⟩
            obtain ⟨Ar, hAr⟩ : ∃ Ar, Ar = Pt k := ⟨_, rfl⟩
            obtain ⟨Cr, hCr⟩ : ∃ Cr, Cr = Ct k := ⟨_, rfl⟩
            have HRE := hid hre
            rw [← hre] at hck HR0 hrl
            rw [← hAr, ← hCr] at hck
            rw [← hAr] at HR0
            clear hcc hre hAr hCr HA1
            go_wp2_with fail
            go_loop [37, 172] (fun f j => ∃ (m : Nat) (u : Bool), m ≤ r.length ∧ j = .int .i64 m ∧ f = .bool u ∧ Hid (u = true ↔ v = true ∧ ∀ c, c < m → ¬ Int.tmod (r.getD c 0) a = 0 ∧ ¬ Int.tmod (r.getD c 0) b = 0)) (fun _ j => r.length - (intOf j).toNat)
            case atStart => exact ⟨0, v, Nat.zero_le _, rfl, rfl, hid ⟨fun h => ⟨h, fun c hc => absurd hc (Nat.not_lt_zero _)⟩, fun h => h.1⟩⟩
            case round =>
              obtain ⟨m, u, hm, rfl, rfl, HU⟩ := hrel
              by_cases hml : m < r.length
              · obtain ⟨b3, o3, rfl, hcr⟩ := HR0.out (by omega)
                have hcm := hcr m hml
                have HS := hid (free_step (a := a) (b := b) (v := v) HU.out)
                obtain ⟨x, hx⟩ : ∃ x, x = r.getD m 0 := ⟨_, rfl⟩
                rw [← hx] at hcm HS
                clear hcr hx
                cases u
                · have HN := hid (HS.out false (by simp))
                  go_wp2_with fail
                  go_round
                  case rel => exact ⟨m + 1, false, by omega, by go_num, rfl, HN⟩
                  case measure => simp [intOf]; omega
                · by_cases hxa : Int.tmod x a = 0
                  · have HN := hid (HS.out false (by simp [hxa]))
                    go_wp2_with fail
                    go_round
                    case rel => exact ⟨m + 1, false, by omega, by go_num, rfl, HN⟩
                    case measure => simp [intOf]; omega
                  · by_cases hxb : Int.tmod x b = 0
                    · have HN := hid (HS.out false (by simp [hxb]))
                      go_wp2_with fail
                      go_round
                      case rel => exact ⟨m + 1, false, by omega, by go_num, rfl, HN⟩
                      case measure => simp [intOf]; omega
                    · have HN := hid (HS.out true (by simp [hxa, hxb]))
                      go_wp2_with fail
                      go_round
                      case rel => exact ⟨m + 1, true, by omega, by go_num, by simp [hxa, hxb], HN⟩
                      case measure => simp [intOf]; omega
              · have HN := hid (free_row (R := R) (k := k) (by
                  have := HU.out
                  rw [show m = r.length by omega, HRE.out] at this
                  exact this) HV.out)
                go_wp2_with fail
                go_round
                case rel => exact ⟨k + 1, u, by omega, by go_num, rfl, HN⟩
                case measure => simp [intOf]; omega
          · have HVI := hid (show v = is by
              have := HV.out
              rw [show k = R.length by omega] at this
              exact HFREE.out v this)
            have hvi := HVI.out
            subst hvi
            go_wp2_with fail
            refine (HC1.out _ (h5.later B13)).mono ?_
            rintro e w14 ⟨rfl, b14⟩
            have B14 : Below w.heap.size w w14 := Below.next B13 b14
            have of1_14 := of1_13.below b14
            go_wp2_with fail
            refine (HC2.out _ (h5.later B14)).mono ?_
            rintro e w15 ⟨rfl, b15⟩
            have B15 : Below w.heap.size w w15 := Below.next B14 b15
            have of1_15 := of1_14.below b15
            go_wp2_with fail
            refine (HSZ.out _).mono ?_
            rintro e w16 ⟨rfl, b16⟩
            have B16 : Below w.heap.size w w16 := Below.next B15 b16
            have of1_16 := of1_15.below b16
            go_wp2_with fail
            go_ret
            exact ⟨rfl, B16⟩
  · have hff := ff_first hgp
    rw [hff.1, hff.2.1] at HF3
    have HFL := hid hff.2.2
    rw [hgp] at HP HF1 HF2
    clear hff
    obtain ⟨fp, hfp⟩ : ∃ x, x = firstF p := ⟨_, rfl⟩
    rw [← hfp] at HF1 HF2 HQ1 HF3
    rw [← hfp] at HFL
    clear hfp hgp
    cases htl : ffOk list
    · rw [htl] at HM1 HM2
      clear htl
      obtain ⟨fm, hfm⟩ : ∃ x, x = ffF list := ⟨_, rfl⟩
      rw [← hfm] at HM1 HM2 HQ2 HB1
      clear hfm
      cases htw : ibOk q a b
      · rw [htw] at HI1 HI2
        obtain ⟨is, his⟩ : ∃ x, x = ibB q a b := ⟨_, rfl⟩
        rw [← his] at HI1 HI2
        clear his htw HT1 HT2 HT3
        have B0 : Below w.heap.size w w := Below.refl _ _
        go_enter Try.func3, Try.ntmps3
        go_wp2_with fail
        refine (HF1.out _ (h0.later B0)).mono ?_
        rintro e w1 ⟨Af1, cf1, rfl, of1, b1⟩
        have B1 : Below w.heap.size w w1 := Below.next B0 b1
        go_wp2_with fail
        refine (HF2.out _ (h0.later B1)).mono ?_
        rintro e w2 ⟨Af2, cf2, rfl, of2, b2⟩
        have B2 : Below w.heap.size w w2 := Below.next B1 b2
        have of1_2 := of1.below b2
        go_wp2_with fail
        refine (HQ1.out _ _ _ _ _ of1_2.cells of2.cells).mono ?_
        rintro e w3 ⟨rfl, b3⟩
        have B3 : Below w.heap.size w w3 := Below.next B2 b3
        have of1_3 := of1_2.below b3
        have of2_3 := of2.below b3
        go_wp2_with fail
        refine (HP.out _ (h0.later B3)).mono ?_
        rintro e w' ⟨rfl, rfl⟩
        go_wp2_with fail
        refine (HM1.out _ (h1.later B3)).mono ?_
        rintro e w4 ⟨Am1, cm1, rfl, om1, b4⟩
        have B4 : Below w.heap.size w w4 := Below.next B3 b4
        have of1_4 := of1_3.below b4
        go_wp2_with fail
        refine (HM2.out _ (h1.later B4)).mono ?_
        rintro e w5 ⟨Am2, cm2, rfl, om2, b5⟩
        have B5 : Below w.heap.size w w5 := Below.next B4 b5
        have of1_5 := of1_4.below b5
        have om1_5 := om1.below b5
        go_wp2_with fail
        refine (HQ2.out _ _ _ _ _ om1_5.cells om2.cells).mono ?_
        rintro e w6 ⟨rfl, b6⟩
        have B6 : Below w.heap.size w w6 := Below.next B5 b6
        have of1_6 := of1_5.below b6
        have om1_6 := om1_5.below b6
        have om2_6 := om2.below b6
        go_wp2_with fail
        refine (HI1.out _ (h2.later B6)).mono ?_
        rintro e w7 ⟨rfl, b7⟩
        have B7 : Below w.heap.size w w7 := Below.next B6 b7
        have of1_7 := of1_6.below b7
        go_wp2_with fail
        refine (HI2.out _ (h2.later B7)).mono ?_
        rintro e w8 ⟨rfl, b8⟩
        have B8 : Below w.heap.size w w8 := Below.next B7 b8
        have of1_8 := of1_7.below b8
        go_wp2_with fail
        refine (HC1.out _ (h5.later B8)).mono ?_
        rintro e w9 ⟨rfl, b9⟩
        have B9 : Below w.heap.size w w9 := Below.next B8 b9
        have of1_9 := of1_8.below b9
        go_wp2_with fail
        refine (HC2.out _ (h5.later B9)).mono ?_
        rintro e w10 ⟨rfl, b10⟩
        have B10 : Below w.heap.size w w10 := Below.next B9 b10
        have of1_10 := of1_9.below b10
        go_wp2_with fail
        refine (HSZ.out _).mono ?_
        rintro e w11 ⟨rfl, b11⟩
        have B11 : Below w.heap.size w w11 := Below.next B10 b11
        have of1_11 := of1_10.below b11
        go_wp2_with fail
        refine (HF3.out _ _ _ of1_11.cells).mono ?_
        rintro e w12 ⟨Az1, cz1, rfl, oz1, b12⟩
        have B12 : Below w.heap.size w w12 := Below.next B11 b12
        have of1_12 := of1_11.below b12
        go_wp2_with fail
        refine (HQ4.out _ _ _ _ _ oz1.cells (h0.later B12)).mono ?_
        rintro e w13 ⟨rfl, b13⟩
        have B13 : Below w.heap.size w w13 := Below.next B12 b13
        have of1_13 := of1_12.below b13
        have oz1_13 := oz1.below b13
        go_wp2_with fail
        go_ret
        exact ⟨ret_bool (by simp [HFL.out]), B13⟩
      · have hgq : good q = true := by unfold ibOk at htw; exact (Bool.and_eq_true_iff.1 htw).1
        have hsq : sz a b = true := by unfold ibOk at htw; exact (Bool.and_eq_true_iff.1 htw).2
        have haf := acB_first hgq hsq
        have Gq := (good_iff q).1 hgq
        have hfr := free_is Gq hsq
        have hhf : hooksF q = hooksR q := hooksF_t hgq
        obtain ⟨ha7, hb7, -⟩ := sz_iff.1 hsq
        have hna : ¬ a = 0 := by omega
        have hnb : ¬ b = 0 := by omega
        have HTOT := hid (hooksR_tot Gq)
        rw [haf, hsq] at HT2
        rw [hgq] at HT1
        rw [hgq, hhf] at HT3
        rw [htw] at HI1 HI2
        obtain ⟨is, his⟩ : ∃ x, x = ibB q a b := ⟨_, rfl⟩
        rw [← his] at HI1 HI2 HT2 hfr
        obtain ⟨R, hR⟩ : ∃ x, x = hooksR q := ⟨_, rfl⟩
        have hR30 : (hooksR q).length ≤ 30 := by rw [hooksR_len]; exact Gq.len
        rw [← hR] at HT3 hfr HTOT hR30
        have HFREE := hid hfr
        obtain ⟨fq, hfq⟩ : ∃ x, x = firstF q := ⟨_, rfl⟩
        rw [← hfq] at HT1 HT2
        clear hfr hhf hgq hsq haf Gq his hR hfq htw
        have B0 : Below w.heap.size w w := Below.refl _ _
        go_enter Try.func3, Try.ntmps3
        go_wp2_with fail
        refine (HF1.out _ (h0.later B0)).mono ?_
        rintro e w1 ⟨Af1, cf1, rfl, of1, b1⟩
        have B1 : Below w.heap.size w w1 := Below.next B0 b1
        go_wp2_with fail
        refine (HF2.out _ (h0.later B1)).mono ?_
        rintro e w2 ⟨Af2, cf2, rfl, of2, b2⟩
        have B2 : Below w.heap.size w w2 := Below.next B1 b2
        have of1_2 := of1.below b2
        go_wp2_with fail
        refine (HQ1.out _ _ _ _ _ of1_2.cells of2.cells).mono ?_
        rintro e w3 ⟨rfl, b3⟩
        have B3 : Below w.heap.size w w3 := Below.next B2 b3
        have of1_3 := of1_2.below b3
        have of2_3 := of2.below b3
        go_wp2_with fail
        refine (HP.out _ (h0.later B3)).mono ?_
        rintro e w' ⟨rfl, rfl⟩
        go_wp2_with fail
        refine (HM1.out _ (h1.later B3)).mono ?_
        rintro e w4 ⟨Am1, cm1, rfl, om1, b4⟩
        have B4 : Below w.heap.size w w4 := Below.next B3 b4
        have of1_4 := of1_3.below b4
        go_wp2_with fail
        refine (HM2.out _ (h1.later B4)).mono ?_
        rintro e w5 ⟨Am2, cm2, rfl, om2, b5⟩
        have B5 : Below w.heap.size w w5 := Below.next B4 b5
        have of1_5 := of1_4.below b5
        have om1_5 := om1.below b5
        go_wp2_with fail
        refine (HQ2.out _ _ _ _ _ om1_5.cells om2.cells).mono ?_
        rintro e w6 ⟨rfl, b6⟩
        have B6 : Below w.heap.size w w6 := Below.next B5 b6
        have of1_6 := of1_5.below b6
        have om1_6 := om1_5.below b6
        have om2_6 := om2.below b6
        go_wp2_with fail
        refine (HI1.out _ (h2.later B6)).mono ?_
        rintro e w7 ⟨rfl, b7⟩
        have B7 : Below w.heap.size w w7 := Below.next B6 b7
        have of1_7 := of1_6.below b7
        go_wp2_with fail
        refine (HI2.out _ (h2.later B7)).mono ?_
        rintro e w8 ⟨rfl, b8⟩
        have B8 : Below w.heap.size w w8 := Below.next B7 b8
        have of1_8 := of1_7.below b8
        go_wp2_with fail
        refine (HT1.out _ (h2.later B8)).mono ?_
        rintro e w9 ⟨At1, ct1, rfl, ot1, b9⟩
        have B9 : Below w.heap.size w w9 := Below.next B8 b9
        have of1_9 := of1_8.below b9
        go_wp2_with fail
        refine (HT2.out _ _ _ ot1.cells).mono ?_
        rintro e w10 ⟨rfl, b10⟩
        have B10 : Below w.heap.size w w10 := Below.next B9 b10
        have of1_10 := of1_9.below b10
        have ot1_10 := ot1.below b10
        go_wp2_with fail
        refine (HT3.out _ (h2.later B10)).mono ?_
        rintro e w11 ⟨Ar1, cr1, rfl, or1, b11⟩
        have B11 : Below w.heap.size w w11 := Below.next B10 b11
        have of1_11 := of1_10.below b11
        obtain ⟨Pt, Ct, hA1, hA2⟩ := or1.cells
        have HA1 := hid hA1; have HA2 := hid hA2
        clear hA1 hA2 or1
        go_wp2_with fail
        go_loop [37, 166] (fun f i => ∃ (k : Nat) (v : Bool), k ≤ R.length ∧ i = .int .i64 k ∧ f = .bool v ∧ Hid (v = true ↔ ∀ r, r < k → ∀ c, c < (R.getD r []).length → ¬ Int.tmod ((R.getD r []).getD c 0) a = 0 ∧ ¬ Int.tmod ((R.getD r []).getD c 0) b = 0)) (fun _ i => R.length - (intOf i).toNat)
        case atStart => exact ⟨0, true, Nat.zero_le _, rfl, rfl, hid ⟨fun _ r hr => absurd hr (Nat.not_lt_zero _), fun _ => rfl⟩⟩
        case round =>
          obtain ⟨k, v, hk, rfl, rfl, HV⟩ := hrel
          by_cases hlt : k < R.length
          · obtain ⟨b0, o, rfl, hcc⟩ := HA1.out (by omega)
            have hck := hcc k hlt
            have HR0 := hid (HA2.out k hlt)
            have hrl : (R.getD k []).length ≤ 900 := by have := tot_take_succ R k hlt; have := tot_take_le R (k + 1); have := HTOT.out; omega
            obtain ⟨r, hre⟩ : ∃ r, r = R.getD k [] := ⟨_, rfl⟩
            obtain ⟨Ar, hAr⟩ : ∃ Ar, Ar = Pt k := ⟨_, rfl⟩
            obtain ⟨Cr, hCr⟩ : ∃ Cr, Cr = Ct k := ⟨_, rfl⟩
            have HRE := hid hre
            rw [← hre] at hck HR0 hrl
            rw [← hAr, ← hCr] at hck
            rw [← hAr] at HR0
            clear hcc hre hAr hCr HA1
            go_wp2_with fail
            go_loop [37, 172] (fun f j => ∃ (m : Nat) (u : Bool), m ≤ r.length ∧ j = .int .i64 m ∧ f = .bool u ∧ Hid (u = true ↔ v = true ∧ ∀ c, c < m → ¬ Int.tmod (r.getD c 0) a = 0 ∧ ¬ Int.tmod (r.getD c 0) b = 0)) (fun _ j => r.length - (intOf j).toNat)
            case atStart => exact ⟨0, v, Nat.zero_le _, rfl, rfl, hid ⟨fun h => ⟨h, fun c hc => absurd hc (Nat.not_lt_zero _)⟩, fun h => h.1⟩⟩
            case round =>
              obtain ⟨m, u, hm, rfl, rfl, HU⟩ := hrel
              by_cases hml : m < r.length
              · obtain ⟨b3, o3, rfl, hcr⟩ := HR0.out (by omega)
                have hcm := hcr m hml
                have HS := hid (free_step (a := a) (b := b) (v := v) HU.out)
                obtain ⟨x, hx⟩ : ∃ x, x = r.getD m 0 := ⟨_, rfl⟩
                rw [← hx] at hcm HS
                clear hcr hx
                cases u
                · have HN := hid (HS.out false (by simp))
                  go_wp2_with fail
                  go_round
                  case rel => exact ⟨m + 1, false, by omega, by go_num, rfl, HN⟩
                  case measure => simp [intOf]; omega
                · by_cases hxa : Int.tmod x a = 0
                  · have HN := hid (HS.out false (by simp [hxa]))
                    go_wp2_with fail
                    go_round
                    case rel => exact ⟨m + 1, false, by omega, by go_num, rfl, HN⟩
                    case measure => simp [intOf]; omega
                  · by_cases hxb : Int.tmod x b = 0
                    · have HN := hid (HS.out false (by simp [hxb]))
                      go_wp2_with fail
                      go_round
                      case rel => exact ⟨m + 1, false, by omega, by go_num, rfl, HN⟩
                      case measure => simp [intOf]; omega
                    · have HN := hid (HS.out true (by simp [hxa, hxb]))
                      go_wp2_with fail
                      go_round
                      case rel => exact ⟨m + 1, true, by omega, by go_num, by simp [hxa, hxb], HN⟩
                      case measure => simp [intOf]; omega
              · have HN := hid (free_row (R := R) (k := k) (by
                  have := HU.out
                  rw [show m = r.length by omega, HRE.out] at this
                  exact this) HV.out)
                go_wp2_with fail
                go_round
                case rel => exact ⟨k + 1, u, by omega, by go_num, rfl, HN⟩
                case measure => simp [intOf]; omega
          · have HVI := hid (show v = is by
              have := HV.out
              rw [show k = R.length by omega] at this
              exact HFREE.out v this)
            have hvi := HVI.out
            subst hvi
            go_wp2_with fail
            refine (HC1.out _ (h5.later B11)).mono ?_
            rintro e w12 ⟨rfl, b12⟩
            have B12 : Below w.heap.size w w12 := Below.next B11 b12
            have of1_12 := of1_11.below b12
            go_wp2_with fail
            refine (HC2.out _ (h5.later B12)).mono ?_
            rintro e w13 ⟨rfl, b13⟩
            have B13 : Below w.heap.size w w13 := Below.next B12 b13
            have of1_13 := of1_12.below b13
            go_wp2_with fail
            refine (HSZ.out _).mono ?_
            rintro e w14 ⟨rfl, b14⟩
            have B14 : Below w.heap.size w w14 := Below.next B13 b14
            have of1_14 := of1_13.below b14
            go_wp2_with fail
            refine (HF3.out _ _ _ of1_14.cells).mono ?_
            rintro e w15 ⟨Az1, cz1, rfl, oz1, b15⟩
            have B15 : Below w.heap.size w w15 := Below.next B14 b15
            have of1_15 := of1_14.below b15
            go_wp2_with fail
            refine (HQ4.out _ _ _ _ _ oz1.cells (h0.later B15)).mono ?_
            rintro e w16 ⟨rfl, b16⟩
            have B16 : Below w.heap.size w w16 := Below.next B15 b16
            have of1_16 := of1_15.below b16
            have oz1_16 := oz1.below b16
            go_wp2_with fail
            go_ret
            exact ⟨ret_bool (by simp [HFL.out]), B16⟩
    · have hbp := beads_parts_id htl
      have hgf : good (ffF list) = true := by unfold ffF; rw [if_pos htl]; simp only [ffOk, Bool.and_eq_true] at htl; exact htl.2.2
      rw [hbp, hgf] at HB1
      rw [htl] at HM1 HM2
      clear hbp hgf htl
      obtain ⟨fm, hfm⟩ : ∃ x, x = ffF list := ⟨_, rfl⟩
      rw [← hfm] at HM1 HM2 HQ2 HB1
      clear hfm
      cases htw : ibOk q a b
      · rw [htw] at HI1 HI2
        obtain ⟨is, his⟩ : ∃ x, x = ibB q a b := ⟨_, rfl⟩
        rw [← his] at HI1 HI2
        clear his htw HT1 HT2 HT3
        have B0 : Below w.heap.size w w := Below.refl _ _
        go_enter Try.func3, Try.ntmps3
        go_wp2_with fail
        refine (HF1.out _ (h0.later B0)).mono ?_
        rintro e w1 ⟨Af1, cf1, rfl, of1, b1⟩
        have B1 : Below w.heap.size w w1 := Below.next B0 b1
        go_wp2_with fail
        refine (HF2.out _ (h0.later B1)).mono ?_
        rintro e w2 ⟨Af2, cf2, rfl, of2, b2⟩
        have B2 : Below w.heap.size w w2 := Below.next B1 b2
        have of1_2 := of1.below b2
        go_wp2_with fail
        refine (HQ1.out _ _ _ _ _ of1_2.cells of2.cells).mono ?_
        rintro e w3 ⟨rfl, b3⟩
        have B3 : Below w.heap.size w w3 := Below.next B2 b3
        have of1_3 := of1_2.below b3
        have of2_3 := of2.below b3
        go_wp2_with fail
        refine (HP.out _ (h0.later B3)).mono ?_
        rintro e w' ⟨rfl, rfl⟩
        go_wp2_with fail
        refine (HM1.out _ (h1.later B3)).mono ?_
        rintro e w4 ⟨Am1, cm1, rfl, om1, b4⟩
        have B4 : Below w.heap.size w w4 := Below.next B3 b4
        have of1_4 := of1_3.below b4
        go_wp2_with fail
        refine (HM2.out _ (h1.later B4)).mono ?_
        rintro e w5 ⟨Am2, cm2, rfl, om2, b5⟩
        have B5 : Below w.heap.size w w5 := Below.next B4 b5
        have of1_5 := of1_4.below b5
        have om1_5 := om1.below b5
        go_wp2_with fail
        refine (HQ2.out _ _ _ _ _ om1_5.cells om2.cells).mono ?_
        rintro e w6 ⟨rfl, b6⟩
        have B6 : Below w.heap.size w w6 := Below.next B5 b6
        have of1_6 := of1_5.below b6
        have om1_6 := om1_5.below b6
        have om2_6 := om2.below b6
        go_wp2_with fail
        refine (HB1.out _ _ _ om1_6.cells).mono ?_
        rintro e w7 ⟨Ak1, ck1, rfl, ok1, b7⟩
        have B7 : Below w.heap.size w w7 := Below.next B6 b7
        have of1_7 := of1_6.below b7
        have om1_7 := om1_6.below b7
        go_wp2_with fail
        refine (HQ3.out _ _ _ _ _ ok1.cells (h1.later B7)).mono ?_
        rintro e w8 ⟨rfl, b8⟩
        have B8 : Below w.heap.size w w8 := Below.next B7 b8
        have of1_8 := of1_7.below b8
        have om1_8 := om1_7.below b8
        have ok1_8 := ok1.below b8
        go_wp2_with fail
        refine (HI1.out _ (h2.later B8)).mono ?_
        rintro e w9 ⟨rfl, b9⟩
        have B9 : Below w.heap.size w w9 := Below.next B8 b9
        have of1_9 := of1_8.below b9
        go_wp2_with fail
        refine (HI2.out _ (h2.later B9)).mono ?_
        rintro e w10 ⟨rfl, b10⟩
        have B10 : Below w.heap.size w w10 := Below.next B9 b10
        have of1_10 := of1_9.below b10
        go_wp2_with fail
        refine (HC1.out _ (h5.later B10)).mono ?_
        rintro e w11 ⟨rfl, b11⟩
        have B11 : Below w.heap.size w w11 := Below.next B10 b11
        have of1_11 := of1_10.below b11
        go_wp2_with fail
        refine (HC2.out _ (h5.later B11)).mono ?_
        rintro e w12 ⟨rfl, b12⟩
        have B12 : Below w.heap.size w w12 := Below.next B11 b12
        have of1_12 := of1_11.below b12
        go_wp2_with fail
        refine (HSZ.out _).mono ?_
        rintro e w13 ⟨rfl, b13⟩
        have B13 : Below w.heap.size w w13 := Below.next B12 b13
        have of1_13 := of1_12.below b13
        go_wp2_with fail
        refine (HF3.out _ _ _ of1_13.cells).mono ?_
        rintro e w14 ⟨Az1, cz1, rfl, oz1, b14⟩
        have B14 : Below w.heap.size w w14 := Below.next B13 b14
        have of1_14 := of1_13.below b14
        go_wp2_with fail
        refine (HQ4.out _ _ _ _ _ oz1.cells (h0.later B14)).mono ?_
        rintro e w15 ⟨rfl, b15⟩
        have B15 : Below w.heap.size w w15 := Below.next B14 b15
        have of1_15 := of1_14.below b15
        have oz1_15 := oz1.below b15
        go_wp2_with fail
        go_ret
        exact ⟨ret_bool (by simp [HFL.out]), B15⟩
      · have hgq : good q = true := by unfold ibOk at htw; exact (Bool.and_eq_true_iff.1 htw).1
        have hsq : sz a b = true := by unfold ibOk at htw; exact (Bool.and_eq_true_iff.1 htw).2
        have haf := acB_first hgq hsq
        have Gq := (good_iff q).1 hgq
        have hfr := free_is Gq hsq
        have hhf : hooksF q = hooksR q := hooksF_t hgq
        obtain ⟨ha7, hb7, -⟩ := sz_iff.1 hsq
        have hna : ¬ a = 0 := by omega
        have hnb : ¬ b = 0 := by omega
        have HTOT := hid (hooksR_tot Gq)
        rw [haf, hsq] at HT2
        rw [hgq] at HT1
        rw [hgq, hhf] at HT3
        rw [htw] at HI1 HI2
        obtain ⟨is, his⟩ : ∃ x, x = ibB q a b := ⟨_, rfl⟩
        rw [← his] at HI1 HI2 HT2 hfr
        obtain ⟨R, hR⟩ : ∃ x, x = hooksR q := ⟨_, rfl⟩
        have hR30 : (hooksR q).length ≤ 30 := by rw [hooksR_len]; exact Gq.len
        rw [← hR] at HT3 hfr HTOT hR30
        have HFREE := hid hfr
        obtain ⟨fq, hfq⟩ : ∃ x, x = firstF q := ⟨_, rfl⟩
        rw [← hfq] at HT1 HT2
        clear hfr hhf hgq hsq haf Gq his hR hfq htw
        have B0 : Below w.heap.size w w := Below.refl _ _
        go_enter Try.func3, Try.ntmps3
        go_wp2_with fail
        refine (HF1.out _ (h0.later B0)).mono ?_
        rintro e w1 ⟨Af1, cf1, rfl, of1, b1⟩
        have B1 : Below w.heap.size w w1 := Below.next B0 b1
        go_wp2_with fail
        refine (HF2.out _ (h0.later B1)).mono ?_
        rintro e w2 ⟨Af2, cf2, rfl, of2, b2⟩
        have B2 : Below w.heap.size w w2 := Below.next B1 b2
        have of1_2 := of1.below b2
        go_wp2_with fail
        refine (HQ1.out _ _ _ _ _ of1_2.cells of2.cells).mono ?_
        rintro e w3 ⟨rfl, b3⟩
        have B3 : Below w.heap.size w w3 := Below.next B2 b3
        have of1_3 := of1_2.below b3
        have of2_3 := of2.below b3
        go_wp2_with fail
        refine (HP.out _ (h0.later B3)).mono ?_
        rintro e w' ⟨rfl, rfl⟩
        go_wp2_with fail
        refine (HM1.out _ (h1.later B3)).mono ?_
        rintro e w4 ⟨Am1, cm1, rfl, om1, b4⟩
        have B4 : Below w.heap.size w w4 := Below.next B3 b4
        have of1_4 := of1_3.below b4
        go_wp2_with fail
        refine (HM2.out _ (h1.later B4)).mono ?_
        rintro e w5 ⟨Am2, cm2, rfl, om2, b5⟩
        have B5 : Below w.heap.size w w5 := Below.next B4 b5
        have of1_5 := of1_4.below b5
        have om1_5 := om1.below b5
        go_wp2_with fail
        refine (HQ2.out _ _ _ _ _ om1_5.cells om2.cells).mono ?_
        rintro e w6 ⟨rfl, b6⟩
        have B6 : Below w.heap.size w w6 := Below.next B5 b6
        have of1_6 := of1_5.below b6
        have om1_6 := om1_5.below b6
        have om2_6 := om2.below b6
        go_wp2_with fail
        refine (HB1.out _ _ _ om1_6.cells).mono ?_
        rintro e w7 ⟨Ak1, ck1, rfl, ok1, b7⟩
        have B7 : Below w.heap.size w w7 := Below.next B6 b7
        have of1_7 := of1_6.below b7
        have om1_7 := om1_6.below b7
        go_wp2_with fail
        refine (HQ3.out _ _ _ _ _ ok1.cells (h1.later B7)).mono ?_
        rintro e w8 ⟨rfl, b8⟩
        have B8 : Below w.heap.size w w8 := Below.next B7 b8
        have of1_8 := of1_7.below b8
        have om1_8 := om1_7.below b8
        have ok1_8 := ok1.below b8
        go_wp2_with fail
        refine (HI1.out _ (h2.later B8)).mono ?_
        rintro e w9 ⟨rfl, b9⟩
        have B9 : Below w.heap.size w w9 := Below.next B8 b9
        have of1_9 := of1_8.below b9
        go_wp2_with fail
        refine (HI2.out _ (h2.later B9)).mono ?_
        rintro e w10 ⟨rfl, b10⟩
        have B10 : Below w.heap.size w w10 := Below.next B9 b10
        have of1_10 := of1_9.below b10
        go_wp2_with fail
        refine (HT1.out _ (h2.later B10)).mono ?_
        rintro e w11 ⟨At1, ct1, rfl, ot1, b11⟩
        have B11 : Below w.heap.size w w11 := Below.next B10 b11
        have of1_11 := of1_10.below b11
        go_wp2_with fail
        refine (HT2.out _ _ _ ot1.cells).mono ?_
        rintro e w12 ⟨rfl, b12⟩
        have B12 : Below w.heap.size w w12 := Below.next B11 b12
        have of1_12 := of1_11.below b12
        have ot1_12 := ot1.below b12
        go_wp2_with fail
        refine (HT3.out _ (h2.later B12)).mono ?_
        rintro e w13 ⟨Ar1, cr1, rfl, or1, b13⟩
        have B13 : Below w.heap.size w w13 := Below.next B12 b13
        have of1_13 := of1_12.below b13
        obtain ⟨Pt, Ct, hA1, hA2⟩ := or1.cells
        have HA1 := hid hA1; have HA2 := hid hA2
        clear hA1 hA2 or1
        go_wp2_with fail
        go_loop [37, 166] (fun f i => ∃ (k : Nat) (v : Bool), k ≤ R.length ∧ i = .int .i64 k ∧ f = .bool v ∧ Hid (v = true ↔ ∀ r, r < k → ∀ c, c < (R.getD r []).length → ¬ Int.tmod ((R.getD r []).getD c 0) a = 0 ∧ ¬ Int.tmod ((R.getD r []).getD c 0) b = 0)) (fun _ i => R.length - (intOf i).toNat)
        case atStart => exact ⟨0, true, Nat.zero_le _, rfl, rfl, hid ⟨fun _ r hr => absurd hr (Nat.not_lt_zero _), fun _ => rfl⟩⟩
        case round =>
          obtain ⟨k, v, hk, rfl, rfl, HV⟩ := hrel
          by_cases hlt : k < R.length
          · obtain ⟨b0, o, rfl, hcc⟩ := HA1.out (by omega)
            have hck := hcc k hlt
            have HR0 := hid (HA2.out k hlt)
            have hrl : (R.getD k []).length ≤ 900 := by have := tot_take_succ R k hlt; have := tot_take_le R (k + 1); have := HTOT.out; omega
            obtain ⟨r, hre⟩ : ∃ r, r = R.getD k [] := ⟨_, rfl⟩
            obtain ⟨Ar, hAr⟩ : ∃ Ar, Ar = Pt k := ⟨_, rfl⟩
            obtain ⟨Cr, hCr⟩ : ∃ Cr, Cr = Ct k := ⟨_, rfl⟩
            have HRE := hid hre
            rw [← hre] at hck HR0 hrl
            rw [← hAr, ← hCr] at hck
            rw [← hAr] at HR0
            clear hcc hre hAr hCr HA1
            go_wp2_with fail
            go_loop [37, 172] (fun f j => ∃ (m : Nat) (u : Bool), m ≤ r.length ∧ j = .int .i64 m ∧ f = .bool u ∧ Hid (u = true ↔ v = true ∧ ∀ c, c < m → ¬ Int.tmod (r.getD c 0) a = 0 ∧ ¬ Int.tmod (r.getD c 0) b = 0)) (fun _ j => r.length - (intOf j).toNat)
            case atStart => exact ⟨0, v, Nat.zero_le _, rfl, rfl, hid ⟨fun h => ⟨h, fun c hc => absurd hc (Nat.not_lt_zero _)⟩, fun h => h.1⟩⟩
            case round =>
              obtain ⟨m, u, hm, rfl, rfl, HU⟩ := hrel
              by_cases hml : m < r.length
              · obtain ⟨b3, o3, rfl, hcr⟩ := HR0.out (by omega)
                have hcm := hcr m hml
                have HS := hid (free_step (a := a) (b := b) (v := v) HU.out)
                obtain ⟨x, hx⟩ : ∃ x, x = r.getD m 0 := ⟨_, rfl⟩
                rw [← hx] at hcm HS
                clear hcr hx
                cases u
                · have HN := hid (HS.out false (by simp))
                  go_wp2_with fail
                  go_round
                  case rel => exact ⟨m + 1, false, by omega, by go_num, rfl, HN⟩
                  case measure => simp [intOf]; omega
                · by_cases hxa : Int.tmod x a = 0
                  · have HN := hid (HS.out false (by simp [hxa]))
                    go_wp2_with fail
                    go_round
                    case rel => exact ⟨m + 1, false, by omega, by go_num, rfl, HN⟩
                    case measure => simp [intOf]; omega
                  · by_cases hxb : Int.tmod x b = 0
                    · have HN := hid (HS.out false (by simp [hxb]))
                      go_wp2_with fail
                      go_round
                      case rel => exact ⟨m + 1, false, by omega, by go_num, rfl, HN⟩
                      case measure => simp [intOf]; omega
                    · have HN := hid (HS.out true (by simp [hxa, hxb]))
                      go_wp2_with fail
                      go_round
                      case rel => exact ⟨m + 1, true, by omega, by go_num, by simp [hxa, hxb], HN⟩
                      case measure => simp [intOf]; omega
              · have HN := hid (free_row (R := R) (k := k) (by
                  have := HU.out
                  rw [show m = r.length by omega, HRE.out] at this
                  exact this) HV.out)
                go_wp2_with fail
                go_round
                case rel => exact ⟨k + 1, u, by omega, by go_num, rfl, HN⟩
                case measure => simp [intOf]; omega
          · have HVI := hid (show v = is by
              have := HV.out
              rw [show k = R.length by omega] at this
              exact HFREE.out v this)
            have hvi := HVI.out
            subst hvi
            go_wp2_with fail
            refine (HC1.out _ (h5.later B13)).mono ?_
            rintro e w14 ⟨rfl, b14⟩
            have B14 : Below w.heap.size w w14 := Below.next B13 b14
            have of1_14 := of1_13.below b14
            go_wp2_with fail
            refine (HC2.out _ (h5.later B14)).mono ?_
            rintro e w15 ⟨rfl, b15⟩
            have B15 : Below w.heap.size w w15 := Below.next B14 b15
            have of1_15 := of1_14.below b15
            go_wp2_with fail
            refine (HSZ.out _).mono ?_
            rintro e w16 ⟨rfl, b16⟩
            have B16 : Below w.heap.size w w16 := Below.next B15 b16
            have of1_16 := of1_15.below b16
            go_wp2_with fail
            refine (HF3.out _ _ _ of1_16.cells).mono ?_
            rintro e w17 ⟨Az1, cz1, rfl, oz1, b17⟩
            have B17 : Below w.heap.size w w17 := Below.next B16 b17
            have of1_17 := of1_16.below b17
            go_wp2_with fail
            refine (HQ4.out _ _ _ _ _ oz1.cells (h0.later B17)).mono ?_
            rintro e w18 ⟨rfl, b18⟩
            have B18 : Below w.heap.size w w18 := Below.next B17 b18
            have of1_18 := of1_17.below b18
            have oz1_18 := oz1.below b18
            go_wp2_with fail
            go_ret
            exact ⟨ret_bool (by simp [HFL.out]), B18⟩
end Go.Proofs.Ytbcecmokplameaa
