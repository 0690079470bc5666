/-
  The walk of FnWalksOfBothOfAll (made by genwob.py).
-/
import Derived.Test.YtijfefahogcfmaaGreatR32
import Derived.Test.YtijfefahogcfmaaGreatR33
import Derived.Deep.CutRange
namespace Go.Proofs.YtijfefahogcfmaaGreat
open Go.RowKit

theorem qSame_wob (A B : Option Addr) (c d : Nat) (xs : List Int) (w : World) (hl : xs.length ≤ 1048576) (hA : Cells w A xs) (hB : Cells w B xs) :
    Calls Tryz.prog 8 #[.slice A xs.length c, .slice B xs.length d] w fun e w' => e = .returned (.bool true) ∧ Below w.heap.size w w' :=
  (qSame_d A B c d xs xs w hl hl hA hB).mono (by rintro e w' ⟨rfl, n, rfl⟩; exact ⟨by rw [decide_eq_true rfl], below_drew' _ _⟩)
set_option maxRecDepth 100000 in
set_option maxHeartbeats 16000000 in
theorem walkWalksOfBothOfAll (A0 : Option Addr) (c0 : Nat) (p : List Int) (a b : Int) (A1 : Option Addr) (c1 : Nat) (q : List Int) (c d e f k : Int) (w : World)
    (h0 : Cells w A0 p) (ha64 : I64 a) (hb64 : I64 b) (h1 : Cells w A1 q) (hc64 : I64 c) (hd64 : I64 d) (he64 : I64 e) (hf64 : I64 f) (hk64 : I64 k) :
    Calls Tryz.prog 3 #[.slice A0 p.length c0, .int .i64 a, .int .i64 b, .slice A1 q.length c1, .int .i64 c, .int .i64 d, .int .i64 e, .int .i64 f, .int .i64 k] w fun e w' => e = .returned (.bool true) ∧ Below w.heap.size w w' := by
  by_cases hbig : 10000 < p.length
  · have hb : (10000 : Int) < (p.length : Int) := by omega
    go_enter Tryz.func3, Tryz.ntmps3
    go_wp2_with fail
    go_ret
    exact ⟨rfl, Below.refl _ _⟩
  have hz0 : (p.length : Int) ≤ 10000 := by omega
  by_cases hbig1 : 10000 < q.length
  · have hb : (10000 : Int) < (q.length : Int) := by omega
    go_enter Tryz.func3, Tryz.ntmps3
    go_wp2_with fail
    go_ret
    exact ⟨rfl, Below.refl _ _⟩
  have hz1 : (q.length : Int) ≤ 10000 := by omega
  have hl0 : p.length ≤ 10000 := by omega
  have hl1 : q.length ≤ 10000 := by omega
  clear hbig hbig1
  have HE := hid fun A B c d (xs : List Int) W (hl : xs.length ≤ 10000) (hA : Cells W A xs) (hB : Cells W B xs) => qSame_wob A B c d xs W (by omega) hA hB
  have HA1 := hid fun W (h : Cells W A0 p) => impl_WalkOfBoth A0 c0 p a b W (by omega) h ha64 hb64
  have HA2 := hid fun W (h : Cells W A0 p) => spec_WalkOfBoth A0 c0 p a b W (by omega) h ha64 hb64
  have HR1 := hid fun W (h : Cells W A0 p) => impl_RankBoth A0 c0 p a b W (by omega) h ha64 hb64
  have HR2 := hid fun W (h : Cells W A0 p) => spec_RankBoth A0 c0 p a b W (by omega) h ha64 hb64
  have HG1 := hid fun W (h : Cells W A1 q) => impl_BothOfWalk A1 c1 q c d W (by omega) h hc64 hd64
  have HG2 := hid fun W (h : Cells W A1 q) => spec_BothOfWalk A1 c1 q c d W (by omega) h hc64 hd64
  have HN1 := hid fun W => impl_BothAt e f k W he64 hf64 hk64
  have HN2 := hid fun W => spec_BothAt e f k W he64 hf64 hk64
  rw [rbOk_ib] at HR1 HR2
  have HB1 : Hid (ibB p a b = true → ∀ A c9 W, Cells W A (wbF p a b) → Calls Tryz.prog 9 #[.slice A (wbF p a b).length c9, .int .i64 a, .int .i64 b] W fun e w' => ∃ A' c', e = .returned (.tuple #[.slice A' p.length c', .bool true]) ∧ Own w' W.heap.size A' c' p ∧ Below W.heap.size W w') := hid fun hok A c9 W h => by
    obtain ⟨m1, m2, m3, m4, m5⟩ := wob_one hok
    obtain ⟨hw6, -, -⟩ := wkOk_bd (ib_sz hok).1 m5
    have H := impl_BothOfWalk A c9 (wbF p a b) a b W (by omega) h ha64 hb64
    rw [m1, m2] at H; exact H
  have HT1 : Hid (ibB p a b = true → ∀ W, Calls Tryz.prog 10 #[.int .i64 a, .int .i64 b, .int .i64 (rbF p a b)] W fun e w' => ∃ A' c', e = .returned (.tuple #[.slice A' p.length c', .bool true]) ∧ Own w' W.heap.size A' c' p ∧ Below W.heap.size W w') := hid fun hok W => by
    obtain ⟨m1, m2, m3, m4, m5⟩ := wob_one hok
    have H := impl_BothAt a b (rbF p a b) W ha64 hb64 (by have h := m3; unfold baOk at h; rw [decide_eq_true_eq] at h; have := abF_len a b; exact ⟨by omega, by omega⟩)
    rw [m3, m4] at H; exact H
  have HWF0 : Hid (ibB p a b = true → (2 ≤ a ∧ a ≤ 7) ∧ ¬ a = 0 ∧ (wbF p a b).length ≤ 6 ∧ ((wbF p a b).length : Int) = a - 1 ∧ ∀ j, j < (wbF p a b).length → (0 ≤ (wbF p a b).getD j 0 ∧ (wbF p a b).getD j 0 ≤ b * (a - 1 - (j : Int)) / a) ∧ (0 ≤ b * (a - 1 - (j : Int)) ∧ b * (a - 1 - (j : Int)) ≤ 42) ∧ (0 < j → (wbF p a b).getD j 0 ≤ (wbF p a b).getD (j - 1) 0)) := hid fun hok => by
    obtain ⟨m1, m2, m3, m4, m5⟩ := wob_one hok
    obtain ⟨hw6, hla, hwb⟩ := wkOk_bd (ib_sz hok).1 m5
    obtain ⟨ha27, hb27, -⟩ := sz_iff.1 (ib_sz hok).1
    refine ⟨ha27, by omega, hw6, hla, fun j hj => ⟨(hwb j hj).1, (wk_bdN (ib_sz hok).1 j (by omega) (by omega)).1.2, fun h0 => ?_⟩⟩
    have h9 := (wkOk_iff.1 m5).2 j hj
    simp only [okW, Bool.and_eq_true, Bool.or_eq_true, decide_eq_true_eq] at h9
    rcases h9.2 with h8 | h8
    · omega
    · exact h8
  have HXL := hid (show (wbF p a b).length ≤ 10000 by
    cases hok : ibB p a b
    · unfold wbF; rw [if_neg (by rw [hok]; decide)]; simp
    · have := (HWF0.out hok).2.2.1; omega)
  have HK1 : Hid (bwOk q c d = true → ∀ A c9 W, Cells W A (bwF q c d) → Calls Tryz.prog 4 #[.slice A (bwF q c d).length c9, .int .i64 c, .int .i64 d] W fun e w' => ∃ A' c', e = .returned (.tuple #[.slice A' q.length c', .bool true]) ∧ Own w' W.heap.size A' c' q ∧ Below W.heap.size W w') := hid fun hto A c9 W h => by
    obtain ⟨t1, t2⟩ := wob_two hto
    have hql := ((good_iff _).1 (ib_sz t1).2).len
    have H := impl_WalkOfBoth A c9 (bwF q c d) c d W (by omega) h hc64 hd64
    rw [t1, t2] at H; exact H
  have HQL := hid (show (bwF q c d).length ≤ 10000 by
    cases hto : bwOk q c d
    · unfold bwF; rw [if_neg (by rw [hto]; decide)]; simp
    · have := ((good_iff _).1 (ib_sz (wob_two hto).1).2).len; omega)
  have HF1 : Hid (baOk e f k = true → ∀ A c9 W, Cells W A (baF e f k) → Calls Tryz.prog 6 #[.slice A (baF e f k).length c9, .int .i64 e, .int .i64 f] W fun e w' => e = .returned (.tuple #[.int .i64 k, .bool true]) ∧ Below W.heap.size W w') := hid fun hsix A c9 W h => by
    obtain ⟨s1, s2⟩ := wob_three hsix
    have hrl := ((good_iff _).1 (ib_sz s1).2).len
    have H := impl_RankBoth A c9 (baF e f k) e f W (by omega) h he64 hf64
    rw [rbOk_ib, s1, s2] at H; exact H
  have HRL := hid (show (baF e f k).length ≤ 10000 by
    cases hsix : baOk e f k
    · unfold baF; rw [if_neg (by rw [hsix]; decide)]; simp
    · have := ((good_iff _).1 (ib_sz (wob_three hsix).1).2).len; omega)
  have HC1 : Hid (baOk e f k = false → Hid (∀ W, Calls Tryz.prog 13 #[.int .i64 e, .int .i64 f] W fun e' w' => e' = .returned (.tuple #[.int .i64 (cbF e f), .bool false]) ∧ Below W.heap.size W w') ∨ (Hid (∀ W, Calls Tryz.prog 13 #[.int .i64 e, .int .i64 f] W fun e' w' => e' = .returned (.tuple #[.int .i64 (cbF e f), .bool true]) ∧ Below W.heap.size W w') ∧ k < 0) ∨ (Hid (∀ W, Calls Tryz.prog 13 #[.int .i64 e, .int .i64 f] W fun e' w' => e' = .returned (.tuple #[.int .i64 (cbF e f), .bool true]) ∧ Below W.heap.size W w') ∧ ¬ k < 0 ∧ cbF e f ≤ k)) := hid fun hsix => by
    have HH := fun W => impl_CountBoth e f W he64 hf64
    cases hs2 : sz e f
    · rw [hs2] at HH; exact .inl (hid HH)
    · rw [hs2] at HH
      rcases wob_no hsix hs2 with h9 | h9
      · exact .inr (.inl ⟨hid HH, h9⟩)
      · exact .inr (.inr ⟨hid HH, by have := (cb_bd hs2).1.1; omega, h9⟩)
  obtain ⟨ob, hob⟩ : ∃ x, x = ibB p a b := ⟨_, rfl⟩
  obtain ⟨tb, htb⟩ : ∃ x, x = bwOk q c d := ⟨_, rfl⟩
  obtain ⟨sb, hsb⟩ : ∃ x, x = baOk e f k := ⟨_, rfl⟩
  obtain ⟨WK, hWK⟩ : ∃ x, x = wbF p a b := ⟨_, rfl⟩
  obtain ⟨RK, hRK⟩ : ∃ x, x = rbF p a b := ⟨_, rfl⟩
  obtain ⟨QQ, hQQ⟩ : ∃ x, x = bwF q c d := ⟨_, rfl⟩
  obtain ⟨RR, hRR⟩ : ∃ x, x = baF e f k := ⟨_, rfl⟩
  obtain ⟨CN, hCN⟩ : ∃ x, x = cbF e f := ⟨_, rfl⟩
  rw [← hob, ← hWK] at HA1 HA2 HB1 HWF0
  rw [← hob, ← hRK] at HR1 HR2 HT1
  rw [← hWK] at HXL
  rw [← htb, ← hQQ] at HG1 HG2 HK1
  rw [← hQQ] at HQL
  rw [← hsb, ← hRR] at HN1 HN2 HF1
  rw [← hRR] at HRL
  rw [← hsb, ← hCN] at HC1
  have e1 : (ob == ob) = true := by simp
  have e2 : (tb == tb) = true := by simp
  have e3 : (sb == sb) = true := by simp
  have e4 : (ob != ob) = false := by simp
  have e5 : (tb != tb) = false := by simp
  have e6 : (sb != sb) = false := by simp
  clear hob htb hsb hWK hRK hQQ hRR hCN
  have B0 : Below w.heap.size w w := Below.refl _ _
  go_enter Tryz.func3, Tryz.ntmps3
  go_wp2_with fail
  refine (HA1.out _ (h0.later B0)).mono ?_
  rintro e w1 ⟨Ad1, cd1, rfl, od1, b1⟩
  have B1 : Below w.heap.size w w1 := Below.next B0 b1
  go_wp2_with fail
  refine (HA2.out _ (h0.later B1)).mono ?_
  rintro e w2 ⟨Ad2, cd2, rfl, od2, b2⟩
  have B2 : Below w.heap.size w w2 := Below.next B1 b2
  have od1_2 := od1.below b2
  clear od1
  go_wp2_with fail
  refine (HR1.out _ (h0.later B2)).mono ?_
  rintro e w3 ⟨rfl, b3⟩
  have B3 : Below w.heap.size w w3 := Below.next B2 b3
  have od1_3 := od1_2.below b3
  clear od1_2
  have od2_3 := od2.below b3
  clear od2
  go_wp2_with fail
  refine (HR2.out _ (h0.later B3)).mono ?_
  rintro e w4 ⟨rfl, b4⟩
  have B4 : Below w.heap.size w w4 := Below.next B3 b4
  have od1_4 := od1_3.below b4
  clear od1_3
  have od2_4 := od2_3.below b4
  clear od2_3
  go_wp2_with fail
  refine (HE.out _ _ _ _ _ _ HXL.out od1_4.cells od2_4.cells).mono ?_
  rintro e w5 ⟨rfl, b5⟩
  have B5 : Below w.heap.size w w5 := Below.next B4 b5
  have od1_5 := od1_4.below b5
  clear od1_4
  have od2_5 := od2_4.below b5
  clear od2_4
  go_upto_if 107 with fail
  go_cut [] from 108 to 181 (fun wx => Below w5.heap.size w5 wx)
  case first =>
    cases ob
    · go_wp2_with fail
      go_meet
      case rel => exact Below.refl _ _
    · skip
      have HBB := hid (HB1.out rfl)
      have HTT := hid (HT1.out rfl)
      obtain ⟨ha27, hane, hw6, hla, hwf⟩ := HWF0.out rfl
      have HWF := hid hwf
      have HLA := hid hla
      have HW6 := hid hw6
      have hla2 := hla
      clear hwf hw6 hla
      have D0 := hid od1_5
      clear od1_5
      go_wp2_with fail
      refine (HBB.out _ _ _ D0.out.cells).mono ?_
      rintro e v1 ⟨Ak, ck, rfl, ok1, g1⟩
      go_wp2_with fail
      refine (HTT.out _).mono ?_
      rintro e v2 ⟨Aj, cj, rfl, ok2, g2⟩
      go_wp2_with fail
      refine (HE.out _ _ _ _ _ _ hl0 (ok1.below g2).cells (h0.later (Below.next (Below.next B5 g1) g2))).mono ?_
      rintro e v3 ⟨rfl, g3⟩
      go_wp2_with fail
      refine (HE.out _ _ _ _ _ _ hl0 (ok2.below g3).cells (h0.later (Below.next (Below.next (Below.next B5 g1) g2) g3))).mono ?_
      rintro e v4 ⟨rfl, g4⟩
      have hG := Below.next (Below.next (Below.next g1 g2) g3) g4
      have HDO := hid (D0.out.below hG)
      go_wp2_with fail
      obtain ⟨wl, hwl⟩ : ∃ x, x = v4 := ⟨_, rfl⟩
      rw [← hwl] at hG HDO ⊢
      have HG := hid hG
      clear hwl g1 g2 g3 g4 ok1 ok2 hG
      go_loopw [149] (fun i wr => ∃ k : Nat, k ≤ WK.length ∧ i = .int .i64 k ∧ ∃ n, wr = wl.drewN n) (fun i _ => WK.length - (intOf i).toNat)
      case atStart => exact ⟨0, Nat.zero_le _, rfl, 0, rfl⟩
      case round =>
        obtain ⟨j, hj, rfl, nn, rfl⟩ := hrel
        by_cases hlt : j < WK.length
        · obtain ⟨⟨f1, f2⟩, ⟨f3, f4⟩, f5⟩ := HWF.out j hlt
          have hj6 := HW6.out
          obtain ⟨b5, o, e, hcc⟩ := HDO.out.cells (by omega)
          subst e
          have hcc0 := hcc j hlt
          have hcc1 := hcc (j - 1) (by omega)
          have hek : ((j : Int) - 1).toNat = j - 1 := by omega
          obtain ⟨x, hx⟩ : ∃ x, x = WK.getD j 0 := ⟨_, rfl⟩
          obtain ⟨y, hy⟩ : ∃ y, y = WK.getD (j - 1) 0 := ⟨_, rfl⟩
          rw [← hx] at f1 f2 f5 hcc0
          rw [← hy] at f5 hcc1
          have hlt2 : (j : Int) < (WK.length : Int) := by omega
          have HJ := hid hlt
          clear hcc hx hy hlt
          rcases Nat.eq_zero_or_pos j with hz | hz
          · have f7 : ¬ (0 : Int) < (j : Int) := by omega
            clear f5 hz
            go_wp2_with fail
            go_roundw
            case rel => exact ⟨j + 1, HJ.out, by go_num, nn, rfl⟩
            case measure => have := HJ.out; simp [intOf]; omega
          · have f6 : ¬ y < x := by have := f5 hz; omega
            have f7 : (0 : Int) < (j : Int) := by omega
            clear f5 hz
            go_wp2_with fail
            go_roundw
            case rel => exact ⟨j + 1, HJ.out, by go_num, nn, rfl⟩
            case measure => have := HJ.out; simp [intOf]; omega
        · have hge : ¬ (j : Int) < (WK.length : Int) := by omega
          clear hlt hj
          go_wp2_with fail
          go_meet
          case rel => exact Below.next HG.out (below_drew' _ _)
  case rest =>
  obtain ⟨w6, hwc⟩ : ∃ x : World, x = wc := ⟨_, rfl⟩
  rw [← hwc] at hcut ⊢
  clear hwc
  have b6 := hcut
  clear hcut
  have B6 : Below w.heap.size w w6 := Below.next B5 b6
  go_wp2_with fail
  refine (HG1.out _ (h1.later B6)).mono ?_
  rintro e w7 ⟨Ag1, cg1, rfl, og1, b7⟩
  have B7 : Below w.heap.size w w7 := Below.next B6 b7
  go_wp2_with fail
  refine (HG2.out _ (h1.later B7)).mono ?_
  rintro e w8 ⟨Ag2, cg2, rfl, og2, b8⟩
  have B8 : Below w.heap.size w w8 := Below.next B7 b8
  have og1_8 := og1.below b8
  clear og1
  go_wp2_with fail
  refine (HE.out _ _ _ _ _ _ HQL.out og1_8.cells og2.cells).mono ?_
  rintro e w9 ⟨rfl, b9⟩
  have B9 : Below w.heap.size w w9 := Below.next B8 b9
  have og1_9 := og1_8.below b9
  clear og1_8
  have og2_9 := og2.below b9
  clear og2
  go_upto_if 205 with fail
  go_cut [] from 206 to 220 (fun wx => Below w9.heap.size w9 wx)
  case first =>
    cases tb
    · go_wp2_with fail
      go_meet
      case rel => exact Below.refl _ _
    · skip
      have HKK := hid (HK1.out rfl)
      have D0 := hid og1_9
      clear og1_9
      go_wp2_with fail
      refine (HKK.out _ _ _ D0.out.cells).mono ?_
      rintro e v1 ⟨Ak, ck, rfl, ok1, g1⟩
      go_wp2_with fail
      refine (HE.out _ _ _ _ _ _ hl1 ok1.cells (h1.later (Below.next B9 g1))).mono ?_
      rintro e v2 ⟨rfl, g2⟩
      go_wp2_with fail
      go_meet
      case rel => exact Below.next g1 g2
  case rest =>
  obtain ⟨w10, hwc⟩ : ∃ x : World, x = wc := ⟨_, rfl⟩
  rw [← hwc] at hcut ⊢
  clear hwc
  have b10 := hcut
  clear hcut
  have B10 : Below w.heap.size w w10 := Below.next B9 b10
  go_wp2_with fail
  refine (HN1.out _).mono ?_
  rintro e w11 ⟨An1, cn1, rfl, on1, b11⟩
  have B11 : Below w.heap.size w w11 := Below.next B10 b11
  go_wp2_with fail
  refine (HN2.out _).mono ?_
  rintro e w12 ⟨An2, cn2, rfl, on2, b12⟩
  have B12 : Below w.heap.size w w12 := Below.next B11 b12
  have on1_12 := on1.below b12
  clear on1
  go_wp2_with fail
  refine (HE.out _ _ _ _ _ _ HRL.out on1_12.cells on2.cells).mono ?_
  rintro e w13 ⟨rfl, b13⟩
  have B13 : Below w.heap.size w w13 := Below.next B12 b13
  have on1_13 := on1_12.below b13
  clear on1_12
  have on2_13 := on2.below b13
  clear on2
  cases sb
  · skip
    clear HF1
    rcases HC1.out rfl with HCC | ⟨HCC, hk9⟩ | ⟨HCC, hk8, hk9⟩
    · skip
      go_wp2_with fail
      refine (HCC.out _).mono ?_
      rintro e w14 ⟨rfl, b14⟩
      have B14 : Below w.heap.size w w14 := Below.next B13 b14
      go_wp2_with fail
      go_ret
      exact ⟨by first | rfl | exact ret_bool (by simp), B14⟩
    · skip
      go_wp2_with fail
      refine (HCC.out _).mono ?_
      rintro e w14 ⟨rfl, b14⟩
      have B14 : Below w.heap.size w w14 := Below.next B13 b14
      go_wp2_with fail
      go_ret
      exact ⟨by first | rfl | exact ret_bool (by simp), B14⟩
    · skip
      go_wp2_with fail
      refine (HCC.out _).mono ?_
      rintro e w14 ⟨rfl, b14⟩
      have B14 : Below w.heap.size w w14 := Below.next B13 b14
      go_wp2_with fail
      go_ret
      exact ⟨by first | rfl | exact ret_bool (by simp), B14⟩
  · have HFF := hid (HF1.out rfl)
    clear HC1
    go_wp2_with fail
    refine (HFF.out _ _ _ on1_13.cells).mono ?_
    rintro e w14 ⟨rfl, b14⟩
    have B14 : Below w.heap.size w w14 := Below.next B13 b14
    go_wp2_with fail
    go_ret
    exact ⟨by first | rfl | exact ret_bool (by simp), B14⟩
end Go.Proofs.YtijfefahogcfmaaGreat
