/-
  The walk of FnArrowsUndoOfAll (made by genaru.py).
-/
import Derived.Test.YtdoahfjccpniaaaR20
import Derived.Test.YtdoahfjccpniaaaR24
import Derived.Test.YtdoahfjccpniaaaResid
import Derived.Test.YtdoahfjccpniaaaR25
import Derived.Deep.CutRange
import Derived.Deep.QuietTactic
import Derived.BigQuiet
namespace Go.Proofs.Ytdoahfjccpniaaa
open Go.RowKit

theorem own_hnoA {w : World} {B c : Nat} {A : Option Addr} {xs : List Int} (h : Own w B A c xs) : A = none → xs.length = 0 ∧ c = 0 := by
  rintro rfl; exact own_none h
theorem nil_len {w : World} {A : Option Addr} {xs : List Int} (h : Cells w A xs) (e : A = none) : xs.length = 0 := by
  rcases Nat.eq_zero_or_pos xs.length with h0 | h0
  · exact h0
  · obtain ⟨b, o, h1, _⟩ := h h0
    rw [e] at h1
    cases h1
theorem qSame_aru (A B : Option Addr) (c d : Nat) (xs : List Int) (w : World) (hl : xs.length ≤ 1048576) (hA : Cells w A xs) (hB : Cells w B xs) :
    Calls Try.prog 10 #[.slice A xs.length c, .slice B xs.length d] w fun e w' => e = .returned (.bool true) ∧ Below w.heap.size w w' :=
  (qSame_d A B c d xs xs w hl hl hA hB).mono (by rintro e w' ⟨rfl, n, rfl⟩; exact ⟨by rw [decide_eq_true rfl], below_drew' _ _⟩)
set_option maxRecDepth 100000 in
set_option maxHeartbeats 16000000 in
theorem walkArrowsUndoOfAll (A0 : Option Addr) (c0 : Nat) (p : List Int) (t i : Int) (s : ByteArray) (w : World)
    (h0 : Cells w A0 p) (_hu0 : p.length ≤ c0) (hn0 : A0 = none → c0 = 0) (ht64 : I64 t) (hi64 : I64 i) :
    Calls Try.prog 3 #[.slice A0 p.length c0, .int .i64 t, .int .i64 i, .string s] w fun e w' => e = .returned (.bool true) ∧ Below w.heap.size w w' := by
  have h0n : A0 = none → p.length = 0 ∧ c0 = 0 := fun e => ⟨nil_len h0 e, hn0 e⟩
  clear _hu0 hn0
  by_cases hbig0 : 10000 < p.length
  · have hb : (10000 : Int) < (p.length : Int) := by omega
    go_enter Try.func3, Try.ntmps3
    go_wp2_with fail
    go_ret
    exact ⟨rfl, Below.refl _ _⟩
  have hz0 : (p.length : Int) ≤ 10000 := by omega
  by_cases hbig1 : 1048576 < s.size
  · have hb : (1048576 : Int) < (s.size : Int) := by omega
    go_enter Try.func3, Try.ntmps3
    go_wp2_with fail
    go_ret
    exact ⟨rfl, Below.refl _ _⟩
  have hz1 : (s.size : Int) ≤ 1048576 := by omega
  clear hbig0 hbig1
  have HE := hid fun A B c d (xs : List Int) W (hl : xs.length ≤ 1048576) (hA : Cells W A xs) (hB : Cells W B xs) => qSame_aru A B c d xs W hl hA hB
  have HPL := hid (show p.length ≤ 1048576 by omega)
  have HU1 := hid fun W (h : Cells W A0 p) => impl_ArrowUpC A0 c0 p t i W (by omega) h0n h
  have HU2 := hid fun W (h : Cells W A0 p) => spec_ArrowUpC A0 c0 p t i W (by omega) ht64 hi64 h0n h
  have HD1 := hid fun W (h : Cells W A0 p) => impl_ArrowDownC A0 c0 p t i W (by omega) h0n h
  have HD2 := hid fun W (h : Cells W A0 p) => spec_ArrowDownC A0 c0 p t i W (by omega) ht64 hi64 h0n h
  have HC1 := hid fun W (h : Cells W A0 p) => impl_ArrowCountsC A0 c0 p t i W (by omega) h0n h
  have HC2 := hid fun W (h : Cells W A0 p) => spec_ArrowCountsC A0 c0 p t i W (by omega) ht64 hi64 h
  have HUU := hid fun A B c d W (hA : Cells W A (upF p t i)) (hB : Cells W B (upF p t i)) => qSame_aru A B c d (upF p t i) W (bound_ArrowUp p t i) hA hB
  have HDD := hid fun A B c d W (hA : Cells W A (dnF p t i)) (hB : Cells W B (dnF p t i)) => qSame_aru A B c d (dnF p t i) W (bound_ArrowDown p t i) hA hB
  have HS1 := hid fun W => impl_ReducedSignature s W (by omega)
  have HS2 := hid fun W => spec_ReducedSignature s W (by omega)
  obtain ⟨ub, hub⟩ : ∃ b, b = upOk p t i := ⟨_, rfl⟩
  rw [← hub] at HU1 HU2
  obtain ⟨U, hU⟩ : ∃ b, b = upF p t i := ⟨_, rfl⟩
  rw [← hU] at HU1 HU2 HUU
  obtain ⟨db, hdb⟩ : ∃ b, b = dnOk8 p t i := ⟨_, rfl⟩
  rw [← hdb] at HD1 HD2
  obtain ⟨D, hD⟩ : ∃ b, b = dnF p t i := ⟨_, rfl⟩
  rw [← hD] at HD1 HD2 HDD
  obtain ⟨ab, hab⟩ : ∃ b, b = asB p t i := ⟨_, rfl⟩
  rw [← hab] at HC1 HC2
  obtain ⟨cD, hcD⟩ : ∃ b, b = ctD p t i := ⟨_, rfl⟩
  rw [← hcD] at HC1 HC2
  obtain ⟨cU, hcU⟩ : ∃ b, b = ctU p t i := ⟨_, rfl⟩
  rw [← hcU] at HC1 HC2
  obtain ⟨rb, hrb⟩ : ∃ b, b = rdOk s := ⟨_, rfl⟩
  rw [← hrb] at HS1 HS2
  obtain ⟨RD, hRD⟩ : ∃ b, b = rdF s := ⟨_, rfl⟩
  rw [← hRD] at HS1 HS2
  have Hub := hid hub
  have HU := hid hU
  have Hdb := hid hdb
  have HD := hid hD
  have Hab := hid hab
  have HcD := hid hcD
  have HcU := hid hcU
  have Hrb := hid hrb
  have HRD := hid hRD
  have e1 : (ub != ub) = false := by simp
  have e2 : (db != db) = false := by simp
  have e3 : (ab != ab) = false := by simp
  have e4 : (rb != rb) = false := by simp
  clear hub hU hdb hD hab hcD hcU hrb hRD
  have B0 : Below w.heap.size w w := Below.refl _ _
  go_enter Try.func3, Try.ntmps3
  go_wp2_with fail
  refine (HU1.out _ (h0.later B0)).mono ?_
  rintro e w1 ⟨Au1, cu1, rfl, ou1, b1⟩
  have B1 : Below w.heap.size w w1 := Below.next B0 b1
  go_wp2_with fail
  refine (HU2.out _ (h0.later B1)).mono ?_
  rintro e w2 ⟨Au2, cu2, rfl, ou2, b2⟩
  have B2 : Below w.heap.size w w2 := Below.next B1 b2
  have ou1_2 := ou1.below b2
  clear ou1
  go_wp2_with fail
  refine (HD1.out _ (h0.later B2)).mono ?_
  rintro e w3 ⟨Ad1, cd1, rfl, od1, b3⟩
  have B3 : Below w.heap.size w w3 := Below.next B2 b3
  have ou1_3 := ou1_2.below b3
  clear ou1_2
  have ou2_3 := ou2.below b3
  clear ou2
  go_wp2_with fail
  refine (HD2.out _ (h0.later B3)).mono ?_
  rintro e w4 ⟨Ad2, cd2, rfl, od2, b4⟩
  have B4 : Below w.heap.size w w4 := Below.next B3 b4
  have ou1_4 := ou1_3.below b4
  clear ou1_3
  have ou2_4 := ou2_3.below b4
  clear ou2_3
  have od1_4 := od1.below b4
  clear od1
  go_wp2_with fail
  refine (HC1.out _ (h0.later B4)).mono ?_
  rintro e w5 ⟨rfl, b5⟩
  have B5 : Below w.heap.size w w5 := Below.next B4 b5
  have ou1_5 := ou1_4.below b5
  clear ou1_4
  have ou2_5 := ou2_4.below b5
  clear ou2_4
  have od1_5 := od1_4.below b5
  clear od1_4
  have od2_5 := od2.below b5
  clear od2
  go_wp2_with fail
  refine (HC2.out _ (h0.later B5)).mono ?_
  rintro e w6 ⟨rfl, b6⟩
  have B6 : Below w.heap.size w w6 := Below.next B5 b6
  have ou1_6 := ou1_5.below b6
  clear ou1_5
  have ou2_6 := ou2_5.below b6
  clear ou2_5
  have od1_6 := od1_5.below b6
  clear od1_5
  have od2_6 := od2_5.below b6
  clear od2_5
  go_wp2_with fail
  refine (HUU.out _ _ _ _ _ ou1_6.cells ou2_6.cells).mono ?_
  rintro e w7 ⟨rfl, b7⟩
  have B7 : Below w.heap.size w w7 := Below.next B6 b7
  have ou1_7 := ou1_6.below b7
  clear ou1_6
  have ou2_7 := ou2_6.below b7
  clear ou2_6
  have od1_7 := od1_6.below b7
  clear od1_6
  have od2_7 := od2_6.below b7
  clear od2_6
  go_wp2_with fail
  refine (HDD.out _ _ _ _ _ od1_7.cells od2_7.cells).mono ?_
  rintro e w8 ⟨rfl, b8⟩
  have B8 : Below w.heap.size w w8 := Below.next B7 b8
  have ou1_8 := ou1_7.below b8
  clear ou1_7
  have od1_8 := od1_7.below b8
  clear od1_7
  have od2_8 := od2_7.below b8
  clear od2_7
  go_upto_if 130 with fail
  go_cut [] from 131 to 145 (fun wx => Below w8.heap.size w8 wx)
  case first =>
    cases ub
    · go_wp2_with fail
      go_meet
      case rel => exact Below.refl _ _
    · skip
      obtain ⟨f1, f2, f3⟩ := up_down Hub.out.symm
      have hql := f3.len
      have HB1 := hid fun B A c W (h : Own W B A c (upF p t i)) => impl_ArrowDownC A c (upF p t i) t i W (by omega) (own_hnoA h) h.cells
      rw [f2, f1, ← HU.out] at HB1
      clear f1 f2 f3 hql
      go_wp2_with fail
      refine (HB1.out _ _ _ _ ou1_8).mono ?_
      rintro e w9 ⟨Ay1, cy1, rfl, oy1, b9⟩
      have B9 : Below w.heap.size w w9 := Below.next B8 b9
      have ou1_9 := ou1_8.below b9
      clear ou1_8
      have od1_9 := od1_8.below b9
      clear od1_8
      go_wp2_with fail
      refine (HE.out _ _ _ _ _ _ HPL.out oy1.cells (h0.later B9)).mono ?_
      rintro e w10 ⟨rfl, b10⟩
      have B10 : Below w.heap.size w w10 := Below.next B9 b10
      have ou1_10 := ou1_9.below b10
      clear ou1_9
      have od1_10 := od1_9.below b10
      clear od1_9
      have oy1_10 := oy1.below b10
      clear oy1
      go_wp2_with fail
      go_meet
      case rel => exact Below.next (b9) b10
  case rest =>
  obtain ⟨w9, hwc⟩ : ∃ x : World, x = wc := ⟨_, rfl⟩
  rw [← hwc] at hcut ⊢
  clear hwc
  have b9 := hcut
  clear hcut
  have B9 : Below w.heap.size w w9 := Below.next B8 b9
  have ou1_9 := ou1_8.below b9
  clear ou1_8
  have od1_9 := od1_8.below b9
  clear od1_8
  go_upto_if 146 with fail
  go_cut [] from 147 to 161 (fun wx => Below w9.heap.size w9 wx)
  case first =>
    cases db
    · go_wp2_with fail
      go_meet
      case rel => exact Below.refl _ _
    · skip
      obtain ⟨f1, f2, f3⟩ := down_up Hdb.out.symm
      have hql := f3.len
      have HB1 := hid fun B A c W (h : Own W B A c (dnF p t i)) => impl_ArrowUpC A c (dnF p t i) t i W (by omega) (own_hnoA h) h.cells
      rw [f2, f1, ← HD.out] at HB1
      clear f1 f2 f3 hql
      go_wp2_with fail
      refine (HB1.out _ _ _ _ od1_9).mono ?_
      rintro e w10 ⟨Ay1, cy1, rfl, oy1, b10⟩
      have B10 : Below w.heap.size w w10 := Below.next B9 b10
      have od1_10 := od1_9.below b10
      clear od1_9
      go_wp2_with fail
      refine (HE.out _ _ _ _ _ _ HPL.out oy1.cells (h0.later B10)).mono ?_
      rintro e w11 ⟨rfl, b11⟩
      have B11 : Below w.heap.size w w11 := Below.next B10 b11
      have od1_11 := od1_10.below b11
      clear od1_10
      have oy1_11 := oy1.below b11
      clear oy1
      go_wp2_with fail
      go_meet
      case rel => exact Below.next (b10) b11
  case rest =>
  obtain ⟨w10, hwc⟩ : ∃ x : World, x = wc := ⟨_, rfl⟩
  rw [← hwc] at hcut ⊢
  clear hwc
  have b10 := hcut
  clear hcut
  have B10 : Below w.heap.size w w10 := Below.next B9 b10
  have od1_10 := od1_9.below b10
  clear od1_9
  go_wp2_with fail
  refine (HS1.out _).mono ?_
  rintro e w11 ⟨rfl, b11⟩
  have B11 : Below w.heap.size w w11 := Below.next B10 b11
  go_wp2_with fail
  refine (HS2.out _).mono ?_
  rintro e w12 ⟨rfl, b12⟩
  have B12 : Below w.heap.size w w12 := Below.next B11 b12
  go_upto_if 180 with fail
  go_cut [] from 181 to 209 (fun wx => Below w12.heap.size w12 wx)
  case first =>
    cases rb
    · go_wp2_with fail
      go_meet
      case rel => exact Below.refl _ _
    · skip
      have hrb : rdOk s = true := Hrb.out.symm
      obtain ⟨f1, f2, f3⟩ := rd_facts hrb
      have HB1 := hid fun W => impl_ReducedSignature (rdF s) W (by omega)
      rw [f2, f1, ← HRD.out] at HB1
      have HNA := hid fun (m k : Nat) (hm : m < (rdF s).size) (hk : k < (rdF s).size) => rd_noAR hrb hm hk
      have hr100 : (rdF s).size ≤ 100 := f3
      rw [← HRD.out] at HNA hr100
      clear hrb f1 f2 f3
      go_wp2_with fail
      refine (HB1.out _).mono ?_
      rintro e w13 ⟨rfl, b13⟩
      have B13 : Below w.heap.size w w13 := Below.next B12 b13
      go_wp2_with fail
      go_loop [33] (fun kv => ∃ k : Nat, 1 ≤ k ∧ k ≤ RD.size + 1 ∧ kv = .int .i64 k) (fun kv => RD.size + 1 - (intOf kv).toNat)
      case atStart => exact ⟨1, Nat.le_refl _, by omega, rfl⟩
      case round =>
        obtain ⟨k, hk1, hk, rfl⟩ := hrel
        by_cases hlt : k < RD.size
        · obtain ⟨m, hmk⟩ : ∃ m, m + 1 = k := ⟨k - 1, by omega⟩
          have hm : m < RD.size := by omega
          have hki : (k : Int) < (RD.size : Int) := by omega
          have hkm : (k : Int) - 1 = (m : Int) := by omega
          have hmb : (m : Int) ≤ 100 := by omega
          have hkb : (k : Int) ≤ 101 := by omega
          have HLT := hid hlt
          by_cases c1 : RD[m] = 65
          · have c2 : RD[k] ≠ 82 := fun e => HNA.out m k hm hlt hmk c1 e
            have hv1 : ((RD[m].toNat : Nat) : Int) = 65 := by rw [c1]; rfl
            have hv2 : ¬ ((RD[k].toNat : Nat) : Int) = 82 := fun e => c2 (UInt8.toNat_inj.1 (by have : (82 : UInt8).toNat = 82 := rfl; omega))
            clear c1 c2 hmk hk1 hk
            go_wp2_with fail
            go_round
            case rel => have := HLT.out; exact ⟨k + 1, by omega, by omega, congrArg (Value.int .i64) (Int.natCast_succ k).symm⟩
            case measure => have := HLT.out; simp [intOf]; omega
          · have hv1 : ¬ ((RD[m].toNat : Nat) : Int) = 65 := fun e => c1 (UInt8.toNat_inj.1 (by have : (65 : UInt8).toNat = 65 := rfl; omega))
            clear c1 hmk hk1 hk
            go_wp2_with fail
            go_round
            case rel => have := HLT.out; exact ⟨k + 1, by omega, by omega, congrArg (Value.int .i64) (Int.natCast_succ k).symm⟩
            case measure => have := HLT.out; simp [intOf]; omega
        · have hki : ¬ (k : Int) < (RD.size : Int) := by omega
          clear hlt hk hk1
          go_wp2_with fail
          go_meet
          case rel => exact b13
  case rest =>
  obtain ⟨w13, hwc⟩ : ∃ x : World, x = wc := ⟨_, rfl⟩
  rw [← hwc] at hcut ⊢
  clear hwc
  have b13 := hcut
  clear hcut
  have B13 : Below w.heap.size w w13 := Below.next B12 b13
  cases ab
  · go_wp2_with fail
    go_ret
    exact ⟨rfl, B13⟩
  have hab : asB p t i = true := Hab.out.symm
  obtain ⟨T, I, A, J, rfl, rfl, G, hT, hI, hA, hJ, mA, mJ, f1, f2, f3, f4, f5, f6, f7, f8, f9, f10, f11⟩ := as_facts hab
  have hpl := G.len
  have edb : db = decide (0 < cD) := by rw [Hdb.out, f1, HcD.out]
  subst edb
  have HG1 := hid fun W (h : Cells W A0 p) => impl_SignatureOfC A0 c0 p T I W (by omega) h0n h
  have HG2 := hid fun W (h : Cells W A0 p) => spec_SignatureOfC A0 c0 p T I W (by omega) ht64 hi64 h
  rw [hab] at HG1 HG2
  have HG3 := hid fun W => impl_ReducedSignature (sgF p T I) W (by omega)
  rw [f3] at HG3
  have HR1 := hid fun W (h : Cells W A0 p) => impl_ResidueCounts A0 c0 p T W (by omega) h ht64
  rw [f6] at HR1
  obtain ⟨SG, hSG⟩ : ∃ b, b = sgF p T I := ⟨_, rfl⟩
  rw [← hSG] at HG1 HG2 HG3 f4
  obtain ⟨RS, hRS⟩ : ∃ b, b = rdF SG := ⟨_, rfl⟩
  rw [← hRS] at HG3 f4
  obtain ⟨R, hR⟩ : ∃ b, b = resF p T := ⟨_, rfl⟩
  rw [← hR] at HR1 f9 f10 f11
  rw [← HcD.out] at f4 f7 f11
  rw [← HcU.out] at f2 f4 f8 f11
  have HF2 := hid f2
  have HF4 := hid f4
  have HF7 := hid f7
  have HF8 := hid f8
  have HF9 := hid f9
  have HF10 := hid f10
  have HF11 := hid f11
  have HmA := hid mA
  have HmJ := hid mJ
  have HTI := hid (show (2 ≤ T ∧ T ≤ 6) ∧ I < T ∧ A < T ∧ J < T from ⟨hT, hI, hA, hJ⟩)
  clear hab G hT hI hA hJ mA mJ f1 f2 f3 f4 f5 f6 f7 f8 f9 f10 f11 hpl hSG hRS hR
  go_wp2_with fail
  refine (HG1.out _ (h0.later B13)).mono ?_
  rintro e w14 ⟨rfl, b14⟩
  have B14 : Below w.heap.size w w14 := Below.next B13 b14
  go_wp2_with fail
  refine (HG2.out _ (h0.later B14)).mono ?_
  rintro e w15 ⟨rfl, b15⟩
  have B15 : Below w.heap.size w w15 := Below.next B14 b15
  go_wp2_with fail
  refine (HG3.out _).mono ?_
  rintro e w16 ⟨rfl, b16⟩
  have B16 : Below w.heap.size w w16 := Below.next B15 b16
  go_wp2_with fail
  refine (HR1.out _ (h0.later B16)).mono ?_
  rintro e w17 ⟨Ar1, cr1, rfl, or1, b17⟩
  have B17 : Below w.heap.size w w17 := Below.next B16 b17
  have HRC := hid or1.cells
  clear or1
  obtain ⟨wl, hwl⟩ : ∃ x, x = w17 := ⟨_, rfl⟩
  rw [← hwl] at HRC B17 ⊢
  clear hwl b17
  have hsz := HF4.out
  have hd7 := HF7.out
  have hu8 := HF8.out
  have HUB := hid Hub.out
  cases ub
  · skip
    go_wp2_with fail
    clear hsz
    obtain ⟨⟨t2, t6⟩, tI, tA, tJ⟩ := HTI.out
    have hRl := HF9.out
    obtain ⟨b0, o0, e, hc⟩ := HRC.out (by omega)
    cases e
    have qA := hc A (by omega)
    have qJ := hc J (by omega)
    have qI := hc I (by omega)
    have vA := HF10.out A tA
    have vJ := HF10.out J tJ
    have vI := HF10.out I tI
    have hdue := HF11.out
    obtain ⟨x, hx⟩ : ∃ x, x = R.getD A 0 := ⟨_, rfl⟩
    obtain ⟨y, hy⟩ : ∃ x, x = R.getD J 0 := ⟨_, rfl⟩
    obtain ⟨z, hz⟩ : ∃ x, x = R.getD I 0 := ⟨_, rfl⟩
    rw [← hx] at qA vA hdue
    rw [← hy] at qJ vJ hdue
    rw [← hz] at qI vI hdue
    have HDUE := hid hdue
    have mA := HmA.out
    have mJ := HmJ.out
    have tmA : Int.tmod ((I : Int) + 1) (T : Int) = (A : Int) := by rw [Int.tmod_eq_emod_of_nonneg (by omega)]; exact mA
    have tmJ : Int.tmod ((I : Int) + T - 1) (T : Int) = (J : Int) := by rw [Int.tmod_eq_emod_of_nonneg (by omega)]; exact mJ
    have hAl : (A : Int) < (R.length : Int) := by omega
    have hJl : (J : Int) < (R.length : Int) := by omega
    have hIl : (I : Int) < (R.length : Int) := by omega
    have hI6 : (I : Int) ≤ 6 := by omega
    have hT6 : (T : Int) ≤ 6 := by omega
    have hT2 : (2 : Int) ≤ T := by omega
    have hT0 : ¬ (T : Int) = 0 := by omega
    have hI1 : (0 : Int) ≤ (I : Int) + 1 := by omega
    have hI2 : (0 : Int) ≤ (I : Int) + T - 1 := by omega
    clear hc hx hy hz hdue t2 t6 tI tA tJ hRl
    refine wp_region_quiet_lit (by kernel_rfl) (by kernel_rfl) ?_
    iterate 24 (go_big_quiet_step (fail))
    refine wpQuiet_nil ?_
    intro _ hw'
    obtain ⟨nz, hw''⟩ := hw'
    subst hw''
    clear qA qJ qI mA mJ tmA tmJ
    have hdue := HDUE.out
    have HBN := hid (Below.next B17 (below_drew' wl nz))
    by_cases hI0 : I = 0
    · rw [if_pos hI0] at hdue
      have hI0i : (I : Int) = 0 := by omega
      clear hI0 hI1 hI2 hI6 hIl
      go_wp2_with fail
      go_ret
      exact ⟨by first | rfl | exact ret_bool (by simp [hdue]) | exact ret_bool (by simp; omega), HBN.out⟩
    · rw [if_neg hI0, Int.add_zero] at hdue
      have hI0i : ¬ (I : Int) = 0 := by omega
      have hI0b : ((I : Int) == 0) = false := by simpa using hI0i
      clear hI0 hI1 hI2
      go_wp2_with fail
      go_ret
      exact ⟨by first | rfl | exact ret_bool (by simp [hdue]) | exact ret_bool (by simp; omega), HBN.out⟩
  · skip
    have hadd : ¬ cU = 0 := by have := HF2.out HUB.out.symm; omega
    have hadd2 : (cU == 0) = false := by simpa using hadd
    go_wp2_with fail
    clear hsz hadd hadd2
    obtain ⟨⟨t2, t6⟩, tI, tA, tJ⟩ := HTI.out
    have hRl := HF9.out
    obtain ⟨b0, o0, e, hc⟩ := HRC.out (by omega)
    cases e
    have qA := hc A (by omega)
    have qJ := hc J (by omega)
    have qI := hc I (by omega)
    have vA := HF10.out A tA
    have vJ := HF10.out J tJ
    have vI := HF10.out I tI
    have hdue := HF11.out
    obtain ⟨x, hx⟩ : ∃ x, x = R.getD A 0 := ⟨_, rfl⟩
    obtain ⟨y, hy⟩ : ∃ x, x = R.getD J 0 := ⟨_, rfl⟩
    obtain ⟨z, hz⟩ : ∃ x, x = R.getD I 0 := ⟨_, rfl⟩
    rw [← hx] at qA vA hdue
    rw [← hy] at qJ vJ hdue
    rw [← hz] at qI vI hdue
    have HDUE := hid hdue
    have mA := HmA.out
    have mJ := HmJ.out
    have tmA : Int.tmod ((I : Int) + 1) (T : Int) = (A : Int) := by rw [Int.tmod_eq_emod_of_nonneg (by omega)]; exact mA
    have tmJ : Int.tmod ((I : Int) + T - 1) (T : Int) = (J : Int) := by rw [Int.tmod_eq_emod_of_nonneg (by omega)]; exact mJ
    have hAl : (A : Int) < (R.length : Int) := by omega
    have hJl : (J : Int) < (R.length : Int) := by omega
    have hIl : (I : Int) < (R.length : Int) := by omega
    have hI6 : (I : Int) ≤ 6 := by omega
    have hT6 : (T : Int) ≤ 6 := by omega
    have hT2 : (2 : Int) ≤ T := by omega
    have hT0 : ¬ (T : Int) = 0 := by omega
    have hI1 : (0 : Int) ≤ (I : Int) + 1 := by omega
    have hI2 : (0 : Int) ≤ (I : Int) + T - 1 := by omega
    clear hc hx hy hz hdue t2 t6 tI tA tJ hRl
    refine wp_region_quiet_lit (by kernel_rfl) (by kernel_rfl) ?_
    iterate 24 (go_big_quiet_step (fail))
    refine wpQuiet_nil ?_
    intro _ hw'
    obtain ⟨nz, hw''⟩ := hw'
    subst hw''
    clear qA qJ qI mA mJ tmA tmJ
    have hdue := HDUE.out
    have HBN := hid (Below.next B17 (below_drew' wl nz))
    by_cases hI0 : I = 0
    · rw [if_pos hI0] at hdue
      have hI0i : (I : Int) = 0 := by omega
      clear hI0 hI1 hI2 hI6 hIl
      go_wp2_with fail
      go_ret
      exact ⟨by first | rfl | exact ret_bool (by simp [hdue]) | exact ret_bool (by simp; omega), HBN.out⟩
    · rw [if_neg hI0, Int.add_zero] at hdue
      have hI0i : ¬ (I : Int) = 0 := by omega
      have hI0b : ((I : Int) == 0) = false := by simpa using hI0i
      clear hI0 hI1 hI2
      go_wp2_with fail
      go_ret
      exact ⟨by first | rfl | exact ret_bool (by simp [hdue]) | exact ret_bool (by simp; omega), HBN.out⟩
end Go.Proofs.Ytdoahfjccpniaaa
