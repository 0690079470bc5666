/-
  The walk of FnWalksOfBothOfAll (made by genwob.py).
-/
import Derived.Test.YtijfefahogcfmaaGreatR32
import Derived.Test.YtijfefahogcfmaaGreatR33
namespace Go.Proofs.YtijfefahogcfmaaGreat
open Go.RowKit

theorem qSame_wob (A B : Option Addr) (c d : Nat) (xs : List Int) (w : World) (hl : xs.length ≤ 1048576) (hA : Cells w A xs) (hB : Cells w B xs) :
    Calls Tryz.prog 8 #[.slice A xs.length c, .slice B xs.length d] w fun e w' => e = .returned (.bool true) ∧ Below w.heap.size w w' :=
  (qSame_d A B c d xs xs w hl hl hA hB).mono (by rintro e w' ⟨rfl, n, rfl⟩; exact ⟨by rw [decide_eq_true rfl], below_drew' _ _⟩)
set_option maxRecDepth 100000 in
set_option maxHeartbeats 16000000 in
theorem walkWalksOfBothOfAll (A0 : Option Addr) (c0 : Nat) (p : List Int) (a b : Int) (A1 : Option Addr) (c1 : Nat) (q : List Int) (c d e f k : Int) (w : World)
    (h0 : Cells w A0 p) (ha64 : I64 a) (hb64 : I64 b) (h1 : Cells w A1 q) (hc64 : I64 c) (hd64 : I64 d) (he64 : I64 e) (hf64 : I64 f) (hk64 : I64 k) :
    Calls Tryz.prog 3 #[.slice A0 p.length c0, .int .i64 a, .int .i64 b, .slice A1 q.length c1, .int .i64 c, .int .i64 d, .int .i64 e, .int .i64 f, .int .i64 k] w fun e w' => e = .returned (.bool true) ∧ Below w.heap.size w w' := by
  by_cases hbig : 10000 < p.length
  · have hb : (10000 : Int) < (p.length : Int) := by omega
    go_enter Tryz.func3, Tryz.ntmps3
    go_wp2_with fail
    go_ret
    exact ⟨rfl, Below.refl _ _⟩
  have hz0 : (p.length : Int) ≤ 10000 := by omega
  by_cases hbig1 : 10000 < q.length
  · have hb : (10000 : Int) < (q.length : Int) := by omega
    go_enter Tryz.func3, Tryz.ntmps3
    go_wp2_with fail
    go_ret
    exact ⟨rfl, Below.refl _ _⟩
  have hz1 : (q.length : Int) ≤ 10000 := by omega
  have hl0 : p.length ≤ 10000 := by omega
  have hl1 : q.length ≤ 10000 := by omega
  clear hbig hbig1
  have HE := hid fun A B c d (xs : List Int) W (hl : xs.length ≤ 10000) (hA : Cells W A xs) (hB : Cells W B xs) => qSame_wob A B c d xs W (by omega) hA hB
  have HA1 := hid fun W (h : Cells W A0 p) => impl_WalkOfBoth A0 c0 p a b W (by omega) h ha64 hb64
  have HA2 := hid fun W (h : Cells W A0 p) => spec_WalkOfBoth A0 c0 p a b W (by omega) h ha64 hb64
  have HR1 := hid fun W (h : Cells W A0 p) => impl_RankBoth A0 c0 p a b W (by omega) h ha64 hb64
  have HR2 := hid fun W (h : Cells W A0 p) => spec_RankBoth A0 c0 p a b W (by omega) h ha64 hb64
  have HG1 := hid fun W (h : Cells W A1 q) => impl_BothOfWalk A1 c1 q c d W (by omega) h hc64 hd64
  have HG2 := hid fun W (h : Cells W A1 q) => spec_BothOfWalk A1 c1 q c d W (by omega) h hc64 hd64
  have HN1 := hid fun W => impl_BothAt e f k W he64 hf64 hk64
  have HN2 := hid fun W => spec_BothAt e f k W he64 hf64 hk64
  rw [rbOk_ib] at HR1 HR2
  cases hok : ibB p a b
  · have ew : wbF p a b = [] := by unfold wbF; rw [if_neg (by rw [hok]; decide)]
    have ek : rbF p a b = 0 := by unfold rbF; rw [if_neg (by rw [rbOk_ib, hok]; decide)]
    rw [hok, ew] at HA1 HA2
    rw [hok, ek] at HR1 HR2
    have HXL := hid (show ([] : List Int).length ≤ 10000 by simp)
    clear hok ew ek
    cases htold : bwOk q c d
    · have eq : bwF q c d = [] := by unfold bwF; rw [if_neg (by rw [htold]; decide)]
      rw [htold, eq] at HG1 HG2
      have HQL := hid (show ([] : List Int).length ≤ 10000 by simp)
      clear htold eq
      cases hsix : baOk e f k
      · have er : baF e f k = [] := by unfold baF; rw [if_neg (by rw [hsix]; decide)]
        rw [hsix, er] at HN1 HN2
        have HRL := hid (show ([] : List Int).length ≤ 10000 by simp)
        have HC1 := hid fun W => impl_CountBoth e f W he64 hf64
        cases hs2 : sz e f
        · rw [hs2] at HC1
          clear hsix er hs2
          have B0 : Below w.heap.size w w := Below.refl _ _
          go_enter Tryz.func3, Tryz.ntmps3
          go_wp2_with fail
          refine (HA1.out _ (h0.later B0)).mono ?_
          rintro e w1 ⟨Ad1, cd1, rfl, od1, b1⟩
          have B1 : Below w.heap.size w w1 := Below.next B0 b1
          go_wp2_with fail
          refine (HA2.out _ (h0.later B1)).mono ?_
          rintro e w2 ⟨Ad2, cd2, rfl, od2, b2⟩
          have B2 : Below w.heap.size w w2 := Below.next B1 b2
          have od1_2 := od1.below b2
          clear od1
          go_wp2_with fail
          refine (HR1.out _ (h0.later B2)).mono ?_
          rintro e w3 ⟨rfl, b3⟩
          have B3 : Below w.heap.size w w3 := Below.next B2 b3
          have od1_3 := od1_2.below b3
          clear od1_2
          have od2_3 := od2.below b3
          clear od2
          go_wp2_with fail
          refine (HR2.out _ (h0.later B3)).mono ?_
          rintro e w4 ⟨rfl, b4⟩
          have B4 : Below w.heap.size w w4 := Below.next B3 b4
          have od1_4 := od1_3.below b4
          clear od1_3
          have od2_4 := od2_3.below b4
          clear od2_3
          go_wp2_with fail
          refine (HE.out _ _ _ _ _ _ HXL.out od1_4.cells od2_4.cells).mono ?_
          rintro e w5 ⟨rfl, b5⟩
          have B5 : Below w.heap.size w w5 := Below.next B4 b5
          have od1_5 := od1_4.below b5
          clear od1_4
          have od2_5 := od2_4.below b5
          clear od2_4
          go_wp2_with fail
          refine (HG1.out _ (h1.later B5)).mono ?_
          rintro e w6 ⟨Ag1, cg1, rfl, og1, b6⟩
          have B6 : Below w.heap.size w w6 := Below.next B5 b6
          go_wp2_with fail
          refine (HG2.out _ (h1.later B6)).mono ?_
          rintro e w7 ⟨Ag2, cg2, rfl, og2, b7⟩
          have B7 : Below w.heap.size w w7 := Below.next B6 b7
          have og1_7 := og1.below b7
          clear og1
          go_wp2_with fail
          refine (HE.out _ _ _ _ _ _ HQL.out og1_7.cells og2.cells).mono ?_
          rintro e w8 ⟨rfl, b8⟩
          have B8 : Below w.heap.size w w8 := Below.next B7 b8
          have og1_8 := og1_7.below b8
          clear og1_7
          have og2_8 := og2.below b8
          clear og2
          go_wp2_with fail
          refine (HN1.out _).mono ?_
          rintro e w9 ⟨An1, cn1, rfl, on1, b9⟩
          have B9 : Below w.heap.size w w9 := Below.next B8 b9
          go_wp2_with fail
          refine (HN2.out _).mono ?_
          rintro e w10 ⟨An2, cn2, rfl, on2, b10⟩
          have B10 : Below w.heap.size w w10 := Below.next B9 b10
          have on1_10 := on1.below b10
          clear on1
          go_wp2_with fail
          refine (HE.out _ _ _ _ _ _ HRL.out on1_10.cells on2.cells).mono ?_
          rintro e w11 ⟨rfl, b11⟩
          have B11 : Below w.heap.size w w11 := Below.next B10 b11
          have on1_11 := on1_10.below b11
          clear on1_10
          have on2_11 := on2.below b11
          clear on2
          go_wp2_with fail
          refine (HC1.out _).mono ?_
          rintro e w12 ⟨rfl, b12⟩
          have B12 : Below w.heap.size w w12 := Below.next B11 b12
          have on1_12 := on1_11.below b12
          clear on1_11
          go_wp2_with fail
          go_ret
          exact ⟨by first | rfl | exact ret_bool (by simp), B12⟩
        rcases wob_no hsix hs2 with hk0 | hk0
        · rw [hs2] at HC1
          obtain ⟨CN, hCN⟩ : ∃ x, x = cbF e f := ⟨_, rfl⟩
          rw [← hCN] at HC1
          clear hsix er hs2 hCN
          have B0 : Below w.heap.size w w := Below.refl _ _
          go_enter Tryz.func3, Tryz.ntmps3
          go_wp2_with fail
          refine (HA1.out _ (h0.later B0)).mono ?_
          rintro e w1 ⟨Ad1, cd1, rfl, od1, b1⟩
          have B1 : Below w.heap.size w w1 := Below.next B0 b1
          go_wp2_with fail
          refine (HA2.out _ (h0.later B1)).mono ?_
          rintro e w2 ⟨Ad2, cd2, rfl, od2, b2⟩
          have B2 : Below w.heap.size w w2 := Below.next B1 b2
          have od1_2 := od1.below b2
          clear od1
          go_wp2_with fail
          refine (HR1.out _ (h0.later B2)).mono ?_
          rintro e w3 ⟨rfl, b3⟩
          have B3 : Below w.heap.size w w3 := Below.next B2 b3
          have od1_3 := od1_2.below b3
          clear od1_2
          have od2_3 := od2.below b3
          clear od2
          go_wp2_with fail
          refine (HR2.out _ (h0.later B3)).mono ?_
          rintro e w4 ⟨rfl, b4⟩
          have B4 : Below w.heap.size w w4 := Below.next B3 b4
          have od1_4 := od1_3.below b4
          clear od1_3
          have od2_4 := od2_3.below b4
          clear od2_3
          go_wp2_with fail
          refine (HE.out _ _ _ _ _ _ HXL.out od1_4.cells od2_4.cells).mono ?_
          rintro e w5 ⟨rfl, b5⟩
          have B5 : Below w.heap.size w w5 := Below.next B4 b5
          have od1_5 := od1_4.below b5
          clear od1_4
          have od2_5 := od2_4.below b5
          clear od2_4
          go_wp2_with fail
          refine (HG1.out _ (h1.later B5)).mono ?_
          rintro e w6 ⟨Ag1, cg1, rfl, og1, b6⟩
          have B6 : Below w.heap.size w w6 := Below.next B5 b6
          go_wp2_with fail
          refine (HG2.out _ (h1.later B6)).mono ?_
          rintro e w7 ⟨Ag2, cg2, rfl, og2, b7⟩
          have B7 : Below w.heap.size w w7 := Below.next B6 b7
          have og1_7 := og1.below b7
          clear og1
          go_wp2_with fail
          refine (HE.out _ _ _ _ _ _ HQL.out og1_7.cells og2.cells).mono ?_
          rintro e w8 ⟨rfl, b8⟩
          have B8 : Below w.heap.size w w8 := Below.next B7 b8
          have og1_8 := og1_7.below b8
          clear og1_7
          have og2_8 := og2.below b8
          clear og2
          go_wp2_with fail
          refine (HN1.out _).mono ?_
          rintro e w9 ⟨An1, cn1, rfl, on1, b9⟩
          have B9 : Below w.heap.size w w9 := Below.next B8 b9
          go_wp2_with fail
          refine (HN2.out _).mono ?_
          rintro e w10 ⟨An2, cn2, rfl, on2, b10⟩
          have B10 : Below w.heap.size w w10 := Below.next B9 b10
          have on1_10 := on1.below b10
          clear on1
          go_wp2_with fail
          refine (HE.out _ _ _ _ _ _ HRL.out on1_10.cells on2.cells).mono ?_
          rintro e w11 ⟨rfl, b11⟩
          have B11 : Below w.heap.size w w11 := Below.next B10 b11
          have on1_11 := on1_10.below b11
          clear on1_10
          have on2_11 := on2.below b11
          clear on2
          go_wp2_with fail
          refine (HC1.out _).mono ?_
          rintro e w12 ⟨rfl, b12⟩
          have B12 : Below w.heap.size w w12 := Below.next B11 b12
          have on1_12 := on1_11.below b12
          clear on1_11
          go_wp2_with fail
          go_ret
          exact ⟨by first | rfl | exact ret_bool (by simp), B12⟩
        · rw [hs2] at HC1
          have hk1 : ¬ k < 0 := by have := (cb_bd hs2).1.1; omega
          obtain ⟨CN, hCN⟩ : ∃ x, x = cbF e f := ⟨_, rfl⟩
          rw [← hCN] at HC1 hk0
          clear hsix er hs2 hCN
          have B0 : Below w.heap.size w w := Below.refl _ _
          go_enter Tryz.func3, Tryz.ntmps3
          go_wp2_with fail
          refine (HA1.out _ (h0.later B0)).mono ?_
          rintro e w1 ⟨Ad1, cd1, rfl, od1, b1⟩
          have B1 : Below w.heap.size w w1 := Below.next B0 b1
          go_wp2_with fail
          refine (HA2.out _ (h0.later B1)).mono ?_
          rintro e w2 ⟨Ad2, cd2, rfl, od2, b2⟩
          have B2 : Below w.heap.size w w2 := Below.next B1 b2
          have od1_2 := od1.below b2
          clear od1
          go_wp2_with fail
          refine (HR1.out _ (h0.later B2)).mono ?_
          rintro e w3 ⟨rfl, b3⟩
          have B3 : Below w.heap.size w w3 := Below.next B2 b3
          have od1_3 := od1_2.below b3
          clear od1_2
          have od2_3 := od2.below b3
          clear od2
          go_wp2_with fail
          refine (HR2.out _ (h0.later B3)).mono ?_
          rintro e w4 ⟨rfl, b4⟩
          have B4 : Below w.heap.size w w4 := Below.next B3 b4
          have od1_4 := od1_3.below b4
          clear od1_3
          have od2_4 := od2_3.below b4
          clear od2_3
          go_wp2_with fail
          refine (HE.out _ _ _ _ _ _ HXL.out od1_4.cells od2_4.cells).mono ?_
          rintro e w5 ⟨rfl, b5⟩
          have B5 : Below w.heap.size w w5 := Below.next B4 b5
          have od1_5 := od1_4.below b5
          clear od1_4
          have od2_5 := od2_4.below b5
          clear od2_4
          go_wp2_with fail
          refine (HG1.out _ (h1.later B5)).mono ?_
          rintro e w6 ⟨Ag1, cg1, rfl, og1, b6⟩
          have B6 : Below w.heap.size w w6 := Below.next B5 b6
          go_wp2_with fail
          refine (HG2.out _ (h1.later B6)).mono ?_
          rintro e w7 ⟨Ag2, cg2, rfl, og2, b7⟩
          have B7 : Below w.heap.size w w7 := Below.next B6 b7
          have og1_7 := og1.below b7
          clear og1
          go_wp2_with fail
          refine (HE.out _ _ _ _ _ _ HQL.out og1_7.cells og2.cells).mono ?_
          rintro e w8 ⟨rfl, b8⟩
          have B8 : Below w.heap.size w w8 := Below.next B7 b8
          have og1_8 := og1_7.below b8
          clear og1_7
          have og2_8 := og2.below b8
          clear og2
          go_wp2_with fail
          refine (HN1.out _).mono ?_
          rintro e w9 ⟨An1, cn1, rfl, on1, b9⟩
          have B9 : Below w.heap.size w w9 := Below.next B8 b9
          go_wp2_with fail
          refine (HN2.out _).mono ?_
          rintro e w10 ⟨An2, cn2, rfl, on2, b10⟩
          have B10 : Below w.heap.size w w10 := Below.next B9 b10
          have on1_10 := on1.below b10
          clear on1
          go_wp2_with fail
          refine (HE.out _ _ _ _ _ _ HRL.out on1_10.cells on2.cells).mono ?_
          rintro e w11 ⟨rfl, b11⟩
          have B11 : Below w.heap.size w w11 := Below.next B10 b11
          have on1_11 := on1_10.below b11
          clear on1_10
          have on2_11 := on2.below b11
          clear on2
          go_wp2_with fail
          refine (HC1.out _).mono ?_
          rintro e w12 ⟨rfl, b12⟩
          have B12 : Below w.heap.size w w12 := Below.next B11 b12
          have on1_12 := on1_11.below b12
          clear on1_11
          go_wp2_with fail
          go_ret
          exact ⟨by first | rfl | exact ret_bool (by simp), B12⟩
      obtain ⟨s1, s2⟩ := wob_three hsix
      rw [hsix] at HN1 HN2
      have hrl := ((good_iff _).1 (ib_sz s1).2).len
      have HF1 := hid fun A c W (h : Cells W A (baF e f k)) => impl_RankBoth A c (baF e f k) e f W (by omega) h he64 hf64
      rw [rbOk_ib, s1, s2] at HF1
      have HRL := hid (show (baF e f k).length ≤ 10000 by omega)
      obtain ⟨RR, hRR⟩ : ∃ x, x = baF e f k := ⟨_, rfl⟩
      rw [← hRR] at HN1 HN2 HF1 HRL
      clear hsix s1 s2 hrl hRR
      have B0 : Below w.heap.size w w := Below.refl _ _
      go_enter Tryz.func3, Tryz.ntmps3
      go_wp2_with fail
      refine (HA1.out _ (h0.later B0)).mono ?_
      rintro e w1 ⟨Ad1, cd1, rfl, od1, b1⟩
      have B1 : Below w.heap.size w w1 := Below.next B0 b1
      go_wp2_with fail
      refine (HA2.out _ (h0.later B1)).mono ?_
      rintro e w2 ⟨Ad2, cd2, rfl, od2, b2⟩
      have B2 : Below w.heap.size w w2 := Below.next B1 b2
      have od1_2 := od1.below b2
      clear od1
      go_wp2_with fail
      refine (HR1.out _ (h0.later B2)).mono ?_
      rintro e w3 ⟨rfl, b3⟩
      have B3 : Below w.heap.size w w3 := Below.next B2 b3
      have od1_3 := od1_2.below b3
      clear od1_2
      have od2_3 := od2.below b3
      clear od2
      go_wp2_with fail
      refine (HR2.out _ (h0.later B3)).mono ?_
      rintro e w4 ⟨rfl, b4⟩
      have B4 : Below w.heap.size w w4 := Below.next B3 b4
      have od1_4 := od1_3.below b4
      clear od1_3
      have od2_4 := od2_3.below b4
      clear od2_3
      go_wp2_with fail
      refine (HE.out _ _ _ _ _ _ HXL.out od1_4.cells od2_4.cells).mono ?_
      rintro e w5 ⟨rfl, b5⟩
      have B5 : Below w.heap.size w w5 := Below.next B4 b5
      have od1_5 := od1_4.below b5
      clear od1_4
      have od2_5 := od2_4.below b5
      clear od2_4
      go_wp2_with fail
      refine (HG1.out _ (h1.later B5)).mono ?_
      rintro e w6 ⟨Ag1, cg1, rfl, og1, b6⟩
      have B6 : Below w.heap.size w w6 := Below.next B5 b6
      go_wp2_with fail
      refine (HG2.out _ (h1.later B6)).mono ?_
      rintro e w7 ⟨Ag2, cg2, rfl, og2, b7⟩
      have B7 : Below w.heap.size w w7 := Below.next B6 b7
      have og1_7 := og1.below b7
      clear og1
      go_wp2_with fail
      refine (HE.out _ _ _ _ _ _ HQL.out og1_7.cells og2.cells).mono ?_
      rintro e w8 ⟨rfl, b8⟩
      have B8 : Below w.heap.size w w8 := Below.next B7 b8
      have og1_8 := og1_7.below b8
      clear og1_7
      have og2_8 := og2.below b8
      clear og2
      go_wp2_with fail
      refine (HN1.out _).mono ?_
      rintro e w9 ⟨An1, cn1, rfl, on1, b9⟩
      have B9 : Below w.heap.size w w9 := Below.next B8 b9
      go_wp2_with fail
      refine (HN2.out _).mono ?_
      rintro e w10 ⟨An2, cn2, rfl, on2, b10⟩
      have B10 : Below w.heap.size w w10 := Below.next B9 b10
      have on1_10 := on1.below b10
      clear on1
      go_wp2_with fail
      refine (HE.out _ _ _ _ _ _ HRL.out on1_10.cells on2.cells).mono ?_
      rintro e w11 ⟨rfl, b11⟩
      have B11 : Below w.heap.size w w11 := Below.next B10 b11
      have on1_11 := on1_10.below b11
      clear on1_10
      have on2_11 := on2.below b11
      clear on2
      go_wp2_with fail
      refine (HF1.out _ _ _ on1_11.cells).mono ?_
      rintro e w12 ⟨rfl, b12⟩
      have B12 : Below w.heap.size w w12 := Below.next B11 b12
      have on1_12 := on1_11.below b12
      clear on1_11
      go_wp2_with fail
      go_ret
      exact ⟨by first | rfl | exact ret_bool (by simp), B12⟩
    obtain ⟨t1, t2⟩ := wob_two htold
    rw [htold] at HG1 HG2
    have hql := ((good_iff _).1 (ib_sz t1).2).len
    have HK1 := hid fun A c9 W (h : Cells W A (bwF q c d)) => impl_WalkOfBoth A c9 (bwF q c d) c d W (by omega) h hc64 hd64
    rw [t1, t2] at HK1
    have HQL := hid (show (bwF q c d).length ≤ 10000 by omega)
    obtain ⟨QQ, hQQ⟩ : ∃ x, x = bwF q c d := ⟨_, rfl⟩
    rw [← hQQ] at HG1 HG2 HK1 HQL
    clear htold t1 t2 hql hQQ
    cases hsix : baOk e f k
    · have er : baF e f k = [] := by unfold baF; rw [if_neg (by rw [hsix]; decide)]
      rw [hsix, er] at HN1 HN2
      have HRL := hid (show ([] : List Int).length ≤ 10000 by simp)
      have HC1 := hid fun W => impl_CountBoth e f W he64 hf64
      cases hs2 : sz e f
      · rw [hs2] at HC1
        clear hsix er hs2
        have B0 : Below w.heap.size w w := Below.refl _ _
        go_enter Tryz.func3, Tryz.ntmps3
        go_wp2_with fail
        refine (HA1.out _ (h0.later B0)).mono ?_
        rintro e w1 ⟨Ad1, cd1, rfl, od1, b1⟩
        have B1 : Below w.heap.size w w1 := Below.next B0 b1
        go_wp2_with fail
        refine (HA2.out _ (h0.later B1)).mono ?_
        rintro e w2 ⟨Ad2, cd2, rfl, od2, b2⟩
        have B2 : Below w.heap.size w w2 := Below.next B1 b2
        have od1_2 := od1.below b2
        clear od1
        go_wp2_with fail
        refine (HR1.out _ (h0.later B2)).mono ?_
        rintro e w3 ⟨rfl, b3⟩
        have B3 : Below w.heap.size w w3 := Below.next B2 b3
        have od1_3 := od1_2.below b3
        clear od1_2
        have od2_3 := od2.below b3
        clear od2
        go_wp2_with fail
        refine (HR2.out _ (h0.later B3)).mono ?_
        rintro e w4 ⟨rfl, b4⟩
        have B4 : Below w.heap.size w w4 := Below.next B3 b4
        have od1_4 := od1_3.below b4
        clear od1_3
        have od2_4 := od2_3.below b4
        clear od2_3
        go_wp2_with fail
        refine (HE.out _ _ _ _ _ _ HXL.out od1_4.cells od2_4.cells).mono ?_
        rintro e w5 ⟨rfl, b5⟩
        have B5 : Below w.heap.size w w5 := Below.next B4 b5
        have od1_5 := od1_4.below b5
        clear od1_4
        have od2_5 := od2_4.below b5
        clear od2_4
        go_wp2_with fail
        refine (HG1.out _ (h1.later B5)).mono ?_
        rintro e w6 ⟨Ag1, cg1, rfl, og1, b6⟩
        have B6 : Below w.heap.size w w6 := Below.next B5 b6
        go_wp2_with fail
        refine (HG2.out _ (h1.later B6)).mono ?_
        rintro e w7 ⟨Ag2, cg2, rfl, og2, b7⟩
        have B7 : Below w.heap.size w w7 := Below.next B6 b7
        have og1_7 := og1.below b7
        clear og1
        go_wp2_with fail
        refine (HE.out _ _ _ _ _ _ HQL.out og1_7.cells og2.cells).mono ?_
        rintro e w8 ⟨rfl, b8⟩
        have B8 : Below w.heap.size w w8 := Below.next B7 b8
        have og1_8 := og1_7.below b8
        clear og1_7
        have og2_8 := og2.below b8
        clear og2
        go_wp2_with fail
        refine (HK1.out _ _ _ og1_8.cells).mono ?_
        rintro e w9 ⟨Am1, cm1, rfl, om1, b9⟩
        have B9 : Below w.heap.size w w9 := Below.next B8 b9
        have og1_9 := og1_8.below b9
        clear og1_8
        go_wp2_with fail
        refine (HE.out _ _ _ _ _ _ hl1 om1.cells (h1.later B9)).mono ?_
        rintro e w10 ⟨rfl, b10⟩
        have B10 : Below w.heap.size w w10 := Below.next B9 b10
        have om1_10 := om1.below b10
        clear om1
        go_wp2_with fail
        refine (HN1.out _).mono ?_
        rintro e w11 ⟨An1, cn1, rfl, on1, b11⟩
        have B11 : Below w.heap.size w w11 := Below.next B10 b11
        go_wp2_with fail
        refine (HN2.out _).mono ?_
        rintro e w12 ⟨An2, cn2, rfl, on2, b12⟩
        have B12 : Below w.heap.size w w12 := Below.next B11 b12
        have on1_12 := on1.below b12
        clear on1
        go_wp2_with fail
        refine (HE.out _ _ _ _ _ _ HRL.out on1_12.cells on2.cells).mono ?_
        rintro e w13 ⟨rfl, b13⟩
        have B13 : Below w.heap.size w w13 := Below.next B12 b13
        have on1_13 := on1_12.below b13
        clear on1_12
        have on2_13 := on2.below b13
        clear on2
        go_wp2_with fail
        refine (HC1.out _).mono ?_
        rintro e w14 ⟨rfl, b14⟩
        have B14 : Below w.heap.size w w14 := Below.next B13 b14
        have on1_14 := on1_13.below b14
        clear on1_13
        go_wp2_with fail
        go_ret
        exact ⟨by first | rfl | exact ret_bool (by simp), B14⟩
      rcases wob_no hsix hs2 with hk0 | hk0
      · rw [hs2] at HC1
        obtain ⟨CN, hCN⟩ : ∃ x, x = cbF e f := ⟨_, rfl⟩
        rw [← hCN] at HC1
        clear hsix er hs2 hCN
        have B0 : Below w.heap.size w w := Below.refl _ _
        go_enter Tryz.func3, Tryz.ntmps3
        go_wp2_with fail
        refine (HA1.out _ (h0.later B0)).mono ?_
        rintro e w1 ⟨Ad1, cd1, rfl, od1, b1⟩
        have B1 : Below w.heap.size w w1 := Below.next B0 b1
        go_wp2_with fail
        refine (HA2.out _ (h0.later B1)).mono ?_
        rintro e w2 ⟨Ad2, cd2, rfl, od2, b2⟩
        have B2 : Below w.heap.size w w2 := Below.next B1 b2
        have od1_2 := od1.below b2
        clear od1
        go_wp2_with fail
        refine (HR1.out _ (h0.later B2)).mono ?_
        rintro e w3 ⟨rfl, b3⟩
        have B3 : Below w.heap.size w w3 := Below.next B2 b3
        have od1_3 := od1_2.below b3
        clear od1_2
        have od2_3 := od2.below b3
        clear od2
        go_wp2_with fail
        refine (HR2.out _ (h0.later B3)).mono ?_
        rintro e w4 ⟨rfl, b4⟩
        have B4 : Below w.heap.size w w4 := Below.next B3 b4
        have od1_4 := od1_3.below b4
        clear od1_3
        have od2_4 := od2_3.below b4
        clear od2_3
        go_wp2_with fail
        refine (HE.out _ _ _ _ _ _ HXL.out od1_4.cells od2_4.cells).mono ?_
        rintro e w5 ⟨rfl, b5⟩
        have B5 : Below w.heap.size w w5 := Below.next B4 b5
        have od1_5 := od1_4.below b5
        clear od1_4
        have od2_5 := od2_4.below b5
        clear od2_4
        go_wp2_with fail
        refine (HG1.out _ (h1.later B5)).mono ?_
        rintro e w6 ⟨Ag1, cg1, rfl, og1, b6⟩
        have B6 : Below w.heap.size w w6 := Below.next B5 b6
        go_wp2_with fail
        refine (HG2.out _ (h1.later B6)).mono ?_
        rintro e w7 ⟨Ag2, cg2, rfl, og2, b7⟩
        have B7 : Below w.heap.size w w7 := Below.next B6 b7
        have og1_7 := og1.below b7
        clear og1
        go_wp2_with fail
        refine (HE.out _ _ _ _ _ _ HQL.out og1_7.cells og2.cells).mono ?_
        rintro e w8 ⟨rfl, b8⟩
        have B8 : Below w.heap.size w w8 := Below.next B7 b8
        have og1_8 := og1_7.below b8
        clear og1_7
        have og2_8 := og2.below b8
        clear og2
        go_wp2_with fail
        refine (HK1.out _ _ _ og1_8.cells).mono ?_
        rintro e w9 ⟨Am1, cm1, rfl, om1, b9⟩
        have B9 : Below w.heap.size w w9 := Below.next B8 b9
        have og1_9 := og1_8.below b9
        clear og1_8
        go_wp2_with fail
        refine (HE.out _ _ _ _ _ _ hl1 om1.cells (h1.later B9)).mono ?_
        rintro e w10 ⟨rfl, b10⟩
        have B10 : Below w.heap.size w w10 := Below.next B9 b10
        have om1_10 := om1.below b10
        clear om1
        go_wp2_with fail
        refine (HN1.out _).mono ?_
        rintro e w11 ⟨An1, cn1, rfl, on1, b11⟩
        have B11 : Below w.heap.size w w11 := Below.next B10 b11
        go_wp2_with fail
        refine (HN2.out _).mono ?_
        rintro e w12 ⟨An2, cn2, rfl, on2, b12⟩
        have B12 : Below w.heap.size w w12 := Below.next B11 b12
        have on1_12 := on1.below b12
        clear on1
        go_wp2_with fail
        refine (HE.out _ _ _ _ _ _ HRL.out on1_12.cells on2.cells).mono ?_
        rintro e w13 ⟨rfl, b13⟩
        have B13 : Below w.heap.size w w13 := Below.next B12 b13
        have on1_13 := on1_12.below b13
        clear on1_12
        have on2_13 := on2.below b13
        clear on2
        go_wp2_with fail
        refine (HC1.out _).mono ?_
        rintro e w14 ⟨rfl, b14⟩
        have B14 : Below w.heap.size w w14 := Below.next B13 b14
        have on1_14 := on1_13.below b14
        clear on1_13
        go_wp2_with fail
        go_ret
        exact ⟨by first | rfl | exact ret_bool (by simp), B14⟩
      · rw [hs2] at HC1
        have hk1 : ¬ k < 0 := by have := (cb_bd hs2).1.1; omega
        obtain ⟨CN, hCN⟩ : ∃ x, x = cbF e f := ⟨_, rfl⟩
        rw [← hCN] at HC1 hk0
        clear hsix er hs2 hCN
        have B0 : Below w.heap.size w w := Below.refl _ _
        go_enter Tryz.func3, Tryz.ntmps3
        go_wp2_with fail
        refine (HA1.out _ (h0.later B0)).mono ?_
        rintro e w1 ⟨Ad1, cd1, rfl, od1, b1⟩
        have B1 : Below w.heap.size w w1 := Below.next B0 b1
        go_wp2_with fail
        refine (HA2.out _ (h0.later B1)).mono ?_
        rintro e w2 ⟨Ad2, cd2, rfl, od2, b2⟩
        have B2 : Below w.heap.size w w2 := Below.next B1 b2
        have od1_2 := od1.below b2
        clear od1
        go_wp2_with fail
        refine (HR1.out _ (h0.later B2)).mono ?_
        rintro e w3 ⟨rfl, b3⟩
        have B3 : Below w.heap.size w w3 := Below.next B2 b3
        have od1_3 := od1_2.below b3
        clear od1_2
        have od2_3 := od2.below b3
        clear od2
        go_wp2_with fail
        refine (HR2.out _ (h0.later B3)).mono ?_
        rintro e w4 ⟨rfl, b4⟩
        have B4 : Below w.heap.size w w4 := Below.next B3 b4
        have od1_4 := od1_3.below b4
        clear od1_3
        have od2_4 := od2_3.below b4
        clear od2_3
        go_wp2_with fail
        refine (HE.out _ _ _ _ _ _ HXL.out od1_4.cells od2_4.cells).mono ?_
        rintro e w5 ⟨rfl, b5⟩
        have B5 : Below w.heap.size w w5 := Below.next B4 b5
        have od1_5 := od1_4.below b5
        clear od1_4
        have od2_5 := od2_4.below b5
        clear od2_4
        go_wp2_with fail
        refine (HG1.out _ (h1.later B5)).mono ?_
        rintro e w6 ⟨Ag1, cg1, rfl, og1, b6⟩
        have B6 : Below w.heap.size w w6 := Below.next B5 b6
        go_wp2_with fail
        refine (HG2.out _ (h1.later B6)).mono ?_
        rintro e w7 ⟨Ag2, cg2, rfl, og2, b7⟩
        have B7 : Below w.heap.size w w7 := Below.next B6 b7
        have og1_7 := og1.below b7
        clear og1
        go_wp2_with fail
        refine (HE.out _ _ _ _ _ _ HQL.out og1_7.cells og2.cells).mono ?_
        rintro e w8 ⟨rfl, b8⟩
        have B8 : Below w.heap.size w w8 := Below.next B7 b8
        have og1_8 := og1_7.below b8
        clear og1_7
        have og2_8 := og2.below b8
        clear og2
        go_wp2_with fail
        refine (HK1.out _ _ _ og1_8.cells).mono ?_
        rintro e w9 ⟨Am1, cm1, rfl, om1, b9⟩
        have B9 : Below w.heap.size w w9 := Below.next B8 b9
        have og1_9 := og1_8.below b9
        clear og1_8
        go_wp2_with fail
        refine (HE.out _ _ _ _ _ _ hl1 om1.cells (h1.later B9)).mono ?_
        rintro e w10 ⟨rfl, b10⟩
        have B10 : Below w.heap.size w w10 := Below.next B9 b10
        have om1_10 := om1.below b10
        clear om1
        go_wp2_with fail
        refine (HN1.out _).mono ?_
        rintro e w11 ⟨An1, cn1, rfl, on1, b11⟩
        have B11 : Below w.heap.size w w11 := Below.next B10 b11
        go_wp2_with fail
        refine (HN2.out _).mono ?_
        rintro e w12 ⟨An2, cn2, rfl, on2, b12⟩
        have B12 : Below w.heap.size w w12 := Below.next B11 b12
        have on1_12 := on1.below b12
        clear on1
        go_wp2_with fail
        refine (HE.out _ _ _ _ _ _ HRL.out on1_12.cells on2.cells).mono ?_
        rintro e w13 ⟨rfl, b13⟩
        have B13 : Below w.heap.size w w13 := Below.next B12 b13
        have on1_13 := on1_12.below b13
        clear on1_12
        have on2_13 := on2.below b13
        clear on2
        go_wp2_with fail
        refine (HC1.out _).mono ?_
        rintro e w14 ⟨rfl, b14⟩
        have B14 : Below w.heap.size w w14 := Below.next B13 b14
        have on1_14 := on1_13.below b14
        clear on1_13
        go_wp2_with fail
        go_ret
        exact ⟨by first | rfl | exact ret_bool (by simp), B14⟩
    obtain ⟨s1, s2⟩ := wob_three hsix
    rw [hsix] at HN1 HN2
    have hrl := ((good_iff _).1 (ib_sz s1).2).len
    have HF1 := hid fun A c W (h : Cells W A (baF e f k)) => impl_RankBoth A c (baF e f k) e f W (by omega) h he64 hf64
    rw [rbOk_ib, s1, s2] at HF1
    have HRL := hid (show (baF e f k).length ≤ 10000 by omega)
    obtain ⟨RR, hRR⟩ : ∃ x, x = baF e f k := ⟨_, rfl⟩
    rw [← hRR] at HN1 HN2 HF1 HRL
    clear hsix s1 s2 hrl hRR
    have B0 : Below w.heap.size w w := Below.refl _ _
    go_enter Tryz.func3, Tryz.ntmps3
    go_wp2_with fail
    refine (HA1.out _ (h0.later B0)).mono ?_
    rintro e w1 ⟨Ad1, cd1, rfl, od1, b1⟩
    have B1 : Below w.heap.size w w1 := Below.next B0 b1
    go_wp2_with fail
    refine (HA2.out _ (h0.later B1)).mono ?_
    rintro e w2 ⟨Ad2, cd2, rfl, od2, b2⟩
    have B2 : Below w.heap.size w w2 := Below.next B1 b2
    have od1_2 := od1.below b2
    clear od1
    go_wp2_with fail
    refine (HR1.out _ (h0.later B2)).mono ?_
    rintro e w3 ⟨rfl, b3⟩
    have B3 : Below w.heap.size w w3 := Below.next B2 b3
    have od1_3 := od1_2.below b3
    clear od1_2
    have od2_3 := od2.below b3
    clear od2
    go_wp2_with fail
    refine (HR2.out _ (h0.later B3)).mono ?_
    rintro e w4 ⟨rfl, b4⟩
    have B4 : Below w.heap.size w w4 := Below.next B3 b4
    have od1_4 := od1_3.below b4
    clear od1_3
    have od2_4 := od2_3.below b4
    clear od2_3
    go_wp2_with fail
    refine (HE.out _ _ _ _ _ _ HXL.out od1_4.cells od2_4.cells).mono ?_
    rintro e w5 ⟨rfl, b5⟩
    have B5 : Below w.heap.size w w5 := Below.next B4 b5
    have od1_5 := od1_4.below b5
    clear od1_4
    have od2_5 := od2_4.below b5
    clear od2_4
    go_wp2_with fail
    refine (HG1.out _ (h1.later B5)).mono ?_
    rintro e w6 ⟨Ag1, cg1, rfl, og1, b6⟩
    have B6 : Below w.heap.size w w6 := Below.next B5 b6
    go_wp2_with fail
    refine (HG2.out _ (h1.later B6)).mono ?_
    rintro e w7 ⟨Ag2, cg2, rfl, og2, b7⟩
    have B7 : Below w.heap.size w w7 := Below.next B6 b7
    have og1_7 := og1.below b7
    clear og1
    go_wp2_with fail
    refine (HE.out _ _ _ _ _ _ HQL.out og1_7.cells og2.cells).mono ?_
    rintro e w8 ⟨rfl, b8⟩
    have B8 : Below w.heap.size w w8 := Below.next B7 b8
    have og1_8 := og1_7.below b8
    clear og1_7
    have og2_8 := og2.below b8
    clear og2
    go_wp2_with fail
    refine (HK1.out _ _ _ og1_8.cells).mono ?_
    rintro e w9 ⟨Am1, cm1, rfl, om1, b9⟩
    have B9 : Below w.heap.size w w9 := Below.next B8 b9
    have og1_9 := og1_8.below b9
    clear og1_8
    go_wp2_with fail
    refine (HE.out _ _ _ _ _ _ hl1 om1.cells (h1.later B9)).mono ?_
    rintro e w10 ⟨rfl, b10⟩
    have B10 : Below w.heap.size w w10 := Below.next B9 b10
    have om1_10 := om1.below b10
    clear om1
    go_wp2_with fail
    refine (HN1.out _).mono ?_
    rintro e w11 ⟨An1, cn1, rfl, on1, b11⟩
    have B11 : Below w.heap.size w w11 := Below.next B10 b11
    go_wp2_with fail
    refine (HN2.out _).mono ?_
    rintro e w12 ⟨An2, cn2, rfl, on2, b12⟩
    have B12 : Below w.heap.size w w12 := Below.next B11 b12
    have on1_12 := on1.below b12
    clear on1
    go_wp2_with fail
    refine (HE.out _ _ _ _ _ _ HRL.out on1_12.cells on2.cells).mono ?_
    rintro e w13 ⟨rfl, b13⟩
    have B13 : Below w.heap.size w w13 := Below.next B12 b13
    have on1_13 := on1_12.below b13
    clear on1_12
    have on2_13 := on2.below b13
    clear on2
    go_wp2_with fail
    refine (HF1.out _ _ _ on1_13.cells).mono ?_
    rintro e w14 ⟨rfl, b14⟩
    have B14 : Below w.heap.size w w14 := Below.next B13 b14
    have on1_14 := on1_13.below b14
    clear on1_13
    go_wp2_with fail
    go_ret
    exact ⟨by first | rfl | exact ret_bool (by simp), B14⟩
  obtain ⟨m1, m2, m3, m4, m5⟩ := wob_one hok
  have hsz := (ib_sz hok).1
  rw [hok] at HA1 HA2 HR1 HR2
  obtain ⟨hw6, hla, hwb⟩ := wkOk_bd hsz m5
  obtain ⟨ha27, hb27, -⟩ := sz_iff.1 hsz
  have hane : ¬ a = 0 := by omega
  have HWF : Hid (∀ j, j < (wbF p a b).length → (0 ≤ (wbF p a b).getD j 0 ∧ (wbF p a b).getD j 0 ≤ b * (a - 1 - (j : Int)) / a) ∧ (0 ≤ b * (a - 1 - (j : Int)) ∧ b * (a - 1 - (j : Int)) ≤ 42) ∧ (0 < j → (wbF p a b).getD j 0 ≤ (wbF p a b).getD (j - 1) 0)) := hid fun j hj => by
    refine ⟨(hwb j hj).1, (wk_bdN hsz j (by omega) (by omega)).1.2, fun h0 => ?_⟩
    have h9 := (wkOk_iff.1 m5).2 j hj
    simp only [okW, Bool.and_eq_true, Bool.or_eq_true, decide_eq_true_eq] at h9
    rcases h9.2 with h8 | h8
    · omega
    · exact h8
  have HB1 := hid fun A c9 W (h : Cells W A (wbF p a b)) => impl_BothOfWalk A c9 (wbF p a b) a b W (by omega) h ha64 hb64
  rw [m1, m2] at HB1
  have hr64 : I64 (rbF p a b) := by have h := m3; unfold baOk at h; rw [decide_eq_true_eq] at h; have := abF_len a b; exact ⟨by omega, by omega⟩
  have HT1 := hid fun W => impl_BothAt a b (rbF p a b) W ha64 hb64 hr64
  rw [m3, m4] at HT1
  have HXL := hid (show (wbF p a b).length ≤ 10000 by omega)
  obtain ⟨WK, hWK⟩ : ∃ x, x = wbF p a b := ⟨_, rfl⟩
  rw [← hWK] at HA1 HA2 HB1 HXL HWF hw6 hla
  obtain ⟨RK, hRK⟩ : ∃ x, x = rbF p a b := ⟨_, rfl⟩
  rw [← hRK] at HR1 HR2 HT1
  clear hok m1 m2 m3 m4 m5 hwb hWK hRK hr64
  cases htold : bwOk q c d
  · have eq : bwF q c d = [] := by unfold bwF; rw [if_neg (by rw [htold]; decide)]
    rw [htold, eq] at HG1 HG2
    have HQL := hid (show ([] : List Int).length ≤ 10000 by simp)
    clear htold eq
    cases hsix : baOk e f k
    · have er : baF e f k = [] := by unfold baF; rw [if_neg (by rw [hsix]; decide)]
      rw [hsix, er] at HN1 HN2
      have HRL := hid (show ([] : List Int).length ≤ 10000 by simp)
      have HC1 := hid fun W => impl_CountBoth e f W he64 hf64
      cases hs2 : sz e f
      · rw [hs2] at HC1
        clear hsix er hs2
        have B0 : Below w.heap.size w w := Below.refl _ _
        go_enter Tryz.func3, Tryz.ntmps3
        go_wp2_with fail
        refine (HA1.out _ (h0.later B0)).mono ?_
        rintro e w1 ⟨Ad1, cd1, rfl, od1, b1⟩
        have B1 : Below w.heap.size w w1 := Below.next B0 b1
        go_wp2_with fail
        refine (HA2.out _ (h0.later B1)).mono ?_
        rintro e w2 ⟨Ad2, cd2, rfl, od2, b2⟩
        have B2 : Below w.heap.size w w2 := Below.next B1 b2
        have od1_2 := od1.below b2
        clear od1
        go_wp2_with fail
        refine (HR1.out _ (h0.later B2)).mono ?_
        rintro e w3 ⟨rfl, b3⟩
        have B3 : Below w.heap.size w w3 := Below.next B2 b3
        have od1_3 := od1_2.below b3
        clear od1_2
        have od2_3 := od2.below b3
        clear od2
        go_wp2_with fail
        refine (HR2.out _ (h0.later B3)).mono ?_
        rintro e w4 ⟨rfl, b4⟩
        have B4 : Below w.heap.size w w4 := Below.next B3 b4
        have od1_4 := od1_3.below b4
        clear od1_3
        have od2_4 := od2_3.below b4
        clear od2_3
        go_wp2_with fail
        refine (HE.out _ _ _ _ _ _ HXL.out od1_4.cells od2_4.cells).mono ?_
        rintro e w5 ⟨rfl, b5⟩
        have B5 : Below w.heap.size w w5 := Below.next B4 b5
        have od1_5 := od1_4.below b5
        clear od1_4
        have od2_5 := od2_4.below b5
        clear od2_4
        go_wp2_with fail
        refine (HB1.out _ _ _ od1_5.cells).mono ?_
        rintro e w6 ⟨Ak1, ck1, rfl, ok1, b6⟩
        have B6 : Below w.heap.size w w6 := Below.next B5 b6
        have od1_6 := od1_5.below b6
        clear od1_5
        go_wp2_with fail
        refine (HT1.out _).mono ?_
        rintro e w7 ⟨Ak2, ck2, rfl, ok2, b7⟩
        have B7 : Below w.heap.size w w7 := Below.next B6 b7
        have od1_7 := od1_6.below b7
        clear od1_6
        have ok1_7 := ok1.below b7
        clear ok1
        go_wp2_with fail
        refine (HE.out _ _ _ _ _ _ hl0 ok1_7.cells (h0.later B7)).mono ?_
        rintro e w8 ⟨rfl, b8⟩
        have B8 : Below w.heap.size w w8 := Below.next B7 b8
        have od1_8 := od1_7.below b8
        clear od1_7
        have ok1_8 := ok1_7.below b8
        clear ok1_7
        have ok2_8 := ok2.below b8
        clear ok2
        go_wp2_with fail
        refine (HE.out _ _ _ _ _ _ hl0 ok2_8.cells (h0.later B8)).mono ?_
        rintro e w9 ⟨rfl, b9⟩
        have B9 : Below w.heap.size w w9 := Below.next B8 b9
        have od1_9 := od1_8.below b9
        clear od1_8
        have ok2_9 := ok2_8.below b9
        clear ok2_8
        go_wp2_with fail
        have HDO := hid (od1_9)
        obtain ⟨wl, hwl⟩ : ∃ x, x = w9 := ⟨_, rfl⟩
        rw [← hwl] at B9 HDO ⊢
        clear hwl
        go_loopw [149] (fun i wr => ∃ k : Nat, k ≤ WK.length ∧ i = .int .i64 k ∧ ∃ n, wr = wl.drewN n) (fun i _ => WK.length - (intOf i).toNat)
        case atStart => exact ⟨0, Nat.zero_le _, rfl, 0, rfl⟩
        case round =>
          obtain ⟨j, hj, rfl, nn, rfl⟩ := hrel
          by_cases hlt : j < WK.length
          · obtain ⟨⟨f1, f2⟩, ⟨f3, f4⟩, f5⟩ := HWF.out j hlt
            obtain ⟨b, o, e, hcc⟩ := HDO.out.cells (by omega)
            subst e
            have hcc0 := hcc j hlt
            have hcc1 := hcc (j - 1) (by omega)
            have hcc2 : (wl.drewN nn).cell? ⟨b, o + j, none⟩ = _ := hcc0
            have hcc3 : (wl.drewN nn).cell? ⟨b, o + (j - 1), none⟩ = _ := hcc1
            have hek : ((j : Int) - 1).toNat = j - 1 := by omega
            obtain ⟨x, hx⟩ : ∃ x, x = WK.getD j 0 := ⟨_, rfl⟩
            obtain ⟨y, hy⟩ : ∃ y, y = WK.getD (j - 1) 0 := ⟨_, rfl⟩
            rw [← hx] at f1 f2 f5 hcc0 hcc2
            rw [← hy] at f5 hcc1 hcc3
            have hlt2 : (j : Int) < (WK.length : Int) := by omega
            have HJ := hid hlt
            clear hcc hx hy hlt
            rcases Nat.eq_zero_or_pos j with hz | hz
            · have f7 : ¬ (0 : Int) < (j : Int) := by omega
              clear f5 hz
              go_wp2_with fail
              go_roundw
              case rel => exact ⟨j + 1, HJ.out, by go_num, nn, rfl⟩
              case measure => have := HJ.out; simp [intOf]; omega
            · have f6 : ¬ y < x := by have := f5 hz; omega
              have f7 : (0 : Int) < (j : Int) := by omega
              clear f5 hz
              go_wp2_with fail
              go_roundw
              case rel => exact ⟨j + 1, HJ.out, by go_num, nn, rfl⟩
              case measure => have := HJ.out; simp [intOf]; omega
          · have hge : ¬ (j : Int) < (WK.length : Int) := by omega
            clear hlt hj
            have B10 : Below w.heap.size w (wl.drewN nn) := Below.next B9 (below_drew' _ _)
            obtain ⟨w10, hw10⟩ : ∃ x, x = wl.drewN nn := ⟨_, rfl⟩
            rw [← hw10] at B10 ⊢
            clear hw10
            go_wp2_with fail
            refine (HG1.out _ (h1.later B10)).mono ?_
            rintro e w11 ⟨Ag1, cg1, rfl, og1, b11⟩
            have B11 : Below w.heap.size w w11 := Below.next B10 b11
            go_wp2_with fail
            refine (HG2.out _ (h1.later B11)).mono ?_
            rintro e w12 ⟨Ag2, cg2, rfl, og2, b12⟩
            have B12 : Below w.heap.size w w12 := Below.next B11 b12
            have og1_12 := og1.below b12
            clear og1
            go_wp2_with fail
            refine (HE.out _ _ _ _ _ _ HQL.out og1_12.cells og2.cells).mono ?_
            rintro e w13 ⟨rfl, b13⟩
            have B13 : Below w.heap.size w w13 := Below.next B12 b13
            have og1_13 := og1_12.below b13
            clear og1_12
            have og2_13 := og2.below b13
            clear og2
            go_wp2_with fail
            refine (HN1.out _).mono ?_
            rintro e w14 ⟨An1, cn1, rfl, on1, b14⟩
            have B14 : Below w.heap.size w w14 := Below.next B13 b14
            go_wp2_with fail
            refine (HN2.out _).mono ?_
            rintro e w15 ⟨An2, cn2, rfl, on2, b15⟩
            have B15 : Below w.heap.size w w15 := Below.next B14 b15
            have on1_15 := on1.below b15
            clear on1
            go_wp2_with fail
            refine (HE.out _ _ _ _ _ _ HRL.out on1_15.cells on2.cells).mono ?_
            rintro e w16 ⟨rfl, b16⟩
            have B16 : Below w.heap.size w w16 := Below.next B15 b16
            have on1_16 := on1_15.below b16
            clear on1_15
            have on2_16 := on2.below b16
            clear on2
            go_wp2_with fail
            refine (HC1.out _).mono ?_
            rintro e w17 ⟨rfl, b17⟩
            have B17 : Below w.heap.size w w17 := Below.next B16 b17
            have on1_17 := on1_16.below b17
            clear on1_16
            go_wp2_with fail
            go_ret
            exact ⟨by first | rfl | exact ret_bool (by simp), B17⟩
      rcases wob_no hsix hs2 with hk0 | hk0
      · rw [hs2] at HC1
        obtain ⟨CN, hCN⟩ : ∃ x, x = cbF e f := ⟨_, rfl⟩
        rw [← hCN] at HC1
        clear hsix er hs2 hCN
        have B0 : Below w.heap.size w w := Below.refl _ _
        go_enter Tryz.func3, Tryz.ntmps3
        go_wp2_with fail
        refine (HA1.out _ (h0.later B0)).mono ?_
        rintro e w1 ⟨Ad1, cd1, rfl, od1, b1⟩
        have B1 : Below w.heap.size w w1 := Below.next B0 b1
        go_wp2_with fail
        refine (HA2.out _ (h0.later B1)).mono ?_
        rintro e w2 ⟨Ad2, cd2, rfl, od2, b2⟩
        have B2 : Below w.heap.size w w2 := Below.next B1 b2
        have od1_2 := od1.below b2
        clear od1
        go_wp2_with fail
        refine (HR1.out _ (h0.later B2)).mono ?_
        rintro e w3 ⟨rfl, b3⟩
        have B3 : Below w.heap.size w w3 := Below.next B2 b3
        have od1_3 := od1_2.below b3
        clear od1_2
        have od2_3 := od2.below b3
        clear od2
        go_wp2_with fail
        refine (HR2.out _ (h0.later B3)).mono ?_
        rintro e w4 ⟨rfl, b4⟩
        have B4 : Below w.heap.size w w4 := Below.next B3 b4
        have od1_4 := od1_3.below b4
        clear od1_3
        have od2_4 := od2_3.below b4
        clear od2_3
        go_wp2_with fail
        refine (HE.out _ _ _ _ _ _ HXL.out od1_4.cells od2_4.cells).mono ?_
        rintro e w5 ⟨rfl, b5⟩
        have B5 : Below w.heap.size w w5 := Below.next B4 b5
        have od1_5 := od1_4.below b5
        clear od1_4
        have od2_5 := od2_4.below b5
        clear od2_4
        go_wp2_with fail
        refine (HB1.out _ _ _ od1_5.cells).mono ?_
        rintro e w6 ⟨Ak1, ck1, rfl, ok1, b6⟩
        have B6 : Below w.heap.size w w6 := Below.next B5 b6
        have od1_6 := od1_5.below b6
        clear od1_5
        go_wp2_with fail
        refine (HT1.out _).mono ?_
        rintro e w7 ⟨Ak2, ck2, rfl, ok2, b7⟩
        have B7 : Below w.heap.size w w7 := Below.next B6 b7
        have od1_7 := od1_6.below b7
        clear od1_6
        have ok1_7 := ok1.below b7
        clear ok1
        go_wp2_with fail
        refine (HE.out _ _ _ _ _ _ hl0 ok1_7.cells (h0.later B7)).mono ?_
        rintro e w8 ⟨rfl, b8⟩
        have B8 : Below w.heap.size w w8 := Below.next B7 b8
        have od1_8 := od1_7.below b8
        clear od1_7
        have ok1_8 := ok1_7.below b8
        clear ok1_7
        have ok2_8 := ok2.below b8
        clear ok2
        go_wp2_with fail
        refine (HE.out _ _ _ _ _ _ hl0 ok2_8.cells (h0.later B8)).mono ?_
        rintro e w9 ⟨rfl, b9⟩
        have B9 : Below w.heap.size w w9 := Below.next B8 b9
        have od1_9 := od1_8.below b9
        clear od1_8
        have ok2_9 := ok2_8.below b9
        clear ok2_8
        go_wp2_with fail
        have HDO := hid (od1_9)
        obtain ⟨wl, hwl⟩ : ∃ x, x = w9 := ⟨_, rfl⟩
        rw [← hwl] at B9 HDO ⊢
        clear hwl
        go_loopw [149] (fun i wr => ∃ k : Nat, k ≤ WK.length ∧ i = .int .i64 k ∧ ∃ n, wr = wl.drewN n) (fun i _ => WK.length - (intOf i).toNat)
        case atStart => exact ⟨0, Nat.zero_le _, rfl, 0, rfl⟩
        case round =>
          obtain ⟨j, hj, rfl, nn, rfl⟩ := hrel
          by_cases hlt : j < WK.length
          · obtain ⟨⟨f1, f2⟩, ⟨f3, f4⟩, f5⟩ := HWF.out j hlt
            obtain ⟨b, o, e, hcc⟩ := HDO.out.cells (by omega)
            subst e
            have hcc0 := hcc j hlt
            have hcc1 := hcc (j - 1) (by omega)
            have hcc2 : (wl.drewN nn).cell? ⟨b, o + j, none⟩ = _ := hcc0
            have hcc3 : (wl.drewN nn).cell? ⟨b, o + (j - 1), none⟩ = _ := hcc1
            have hek : ((j : Int) - 1).toNat = j - 1 := by omega
            obtain ⟨x, hx⟩ : ∃ x, x = WK.getD j 0 := ⟨_, rfl⟩
            obtain ⟨y, hy⟩ : ∃ y, y = WK.getD (j - 1) 0 := ⟨_, rfl⟩
            rw [← hx] at f1 f2 f5 hcc0 hcc2
            rw [← hy] at f5 hcc1 hcc3
            have hlt2 : (j : Int) < (WK.length : Int) := by omega
            have HJ := hid hlt
            clear hcc hx hy hlt
            rcases Nat.eq_zero_or_pos j with hz | hz
            · have f7 : ¬ (0 : Int) < (j : Int) := by omega
              clear f5 hz
              go_wp2_with fail
              go_roundw
              case rel => exact ⟨j + 1, HJ.out, by go_num, nn, rfl⟩
              case measure => have := HJ.out; simp [intOf]; omega
            · have f6 : ¬ y < x := by have := f5 hz; omega
              have f7 : (0 : Int) < (j : Int) := by omega
              clear f5 hz
              go_wp2_with fail
              go_roundw
              case rel => exact ⟨j + 1, HJ.out, by go_num, nn, rfl⟩
              case measure => have := HJ.out; simp [intOf]; omega
          · have hge : ¬ (j : Int) < (WK.length : Int) := by omega
            clear hlt hj
            have B10 : Below w.heap.size w (wl.drewN nn) := Below.next B9 (below_drew' _ _)
            obtain ⟨w10, hw10⟩ : ∃ x, x = wl.drewN nn := ⟨_, rfl⟩
            rw [← hw10] at B10 ⊢
            clear hw10
            go_wp2_with fail
            refine (HG1.out _ (h1.later B10)).mono ?_
            rintro e w11 ⟨Ag1, cg1, rfl, og1, b11⟩
            have B11 : Below w.heap.size w w11 := Below.next B10 b11
            go_wp2_with fail
            refine (HG2.out _ (h1.later B11)).mono ?_
            rintro e w12 ⟨Ag2, cg2, rfl, og2, b12⟩
            have B12 : Below w.heap.size w w12 := Below.next B11 b12
            have og1_12 := og1.below b12
            clear og1
            go_wp2_with fail
            refine (HE.out _ _ _ _ _ _ HQL.out og1_12.cells og2.cells).mono ?_
            rintro e w13 ⟨rfl, b13⟩
            have B13 : Below w.heap.size w w13 := Below.next B12 b13
            have og1_13 := og1_12.below b13
            clear og1_12
            have og2_13 := og2.below b13
            clear og2
            go_wp2_with fail
            refine (HN1.out _).mono ?_
            rintro e w14 ⟨An1, cn1, rfl, on1, b14⟩
            have B14 : Below w.heap.size w w14 := Below.next B13 b14
            go_wp2_with fail
            refine (HN2.out _).mono ?_
            rintro e w15 ⟨An2, cn2, rfl, on2, b15⟩
            have B15 : Below w.heap.size w w15 := Below.next B14 b15
            have on1_15 := on1.below b15
            clear on1
            go_wp2_with fail
            refine (HE.out _ _ _ _ _ _ HRL.out on1_15.cells on2.cells).mono ?_
            rintro e w16 ⟨rfl, b16⟩
            have B16 : Below w.heap.size w w16 := Below.next B15 b16
            have on1_16 := on1_15.below b16
            clear on1_15
            have on2_16 := on2.below b16
            clear on2
            go_wp2_with fail
            refine (HC1.out _).mono ?_
            rintro e w17 ⟨rfl, b17⟩
            have B17 : Below w.heap.size w w17 := Below.next B16 b17
            have on1_17 := on1_16.below b17
            clear on1_16
            go_wp2_with fail
            go_ret
            exact ⟨by first | rfl | exact ret_bool (by simp), B17⟩
      · rw [hs2] at HC1
        have hk1 : ¬ k < 0 := by have := (cb_bd hs2).1.1; omega
        obtain ⟨CN, hCN⟩ : ∃ x, x = cbF e f := ⟨_, rfl⟩
        rw [← hCN] at HC1 hk0
        clear hsix er hs2 hCN
        have B0 : Below w.heap.size w w := Below.refl _ _
        go_enter Tryz.func3, Tryz.ntmps3
        go_wp2_with fail
        refine (HA1.out _ (h0.later B0)).mono ?_
        rintro e w1 ⟨Ad1, cd1, rfl, od1, b1⟩
        have B1 : Below w.heap.size w w1 := Below.next B0 b1
        go_wp2_with fail
        refine (HA2.out _ (h0.later B1)).mono ?_
        rintro e w2 ⟨Ad2, cd2, rfl, od2, b2⟩
        have B2 : Below w.heap.size w w2 := Below.next B1 b2
        have od1_2 := od1.below b2
        clear od1
        go_wp2_with fail
        refine (HR1.out _ (h0.later B2)).mono ?_
        rintro e w3 ⟨rfl, b3⟩
        have B3 : Below w.heap.size w w3 := Below.next B2 b3
        have od1_3 := od1_2.below b3
        clear od1_2
        have od2_3 := od2.below b3
        clear od2
        go_wp2_with fail
        refine (HR2.out _ (h0.later B3)).mono ?_
        rintro e w4 ⟨rfl, b4⟩
        have B4 : Below w.heap.size w w4 := Below.next B3 b4
        have od1_4 := od1_3.below b4
        clear od1_3
        have od2_4 := od2_3.below b4
        clear od2_3
        go_wp2_with fail
        refine (HE.out _ _ _ _ _ _ HXL.out od1_4.cells od2_4.cells).mono ?_
        rintro e w5 ⟨rfl, b5⟩
        have B5 : Below w.heap.size w w5 := Below.next B4 b5
        have od1_5 := od1_4.below b5
        clear od1_4
        have od2_5 := od2_4.below b5
        clear od2_4
        go_wp2_with fail
        refine (HB1.out _ _ _ od1_5.cells).mono ?_
        rintro e w6 ⟨Ak1, ck1, rfl, ok1, b6⟩
        have B6 : Below w.heap.size w w6 := Below.next B5 b6
        have od1_6 := od1_5.below b6
        clear od1_5
        go_wp2_with fail
        refine (HT1.out _).mono ?_
        rintro e w7 ⟨Ak2, ck2, rfl, ok2, b7⟩
        have B7 : Below w.heap.size w w7 := Below.next B6 b7
        have od1_7 := od1_6.below b7
        clear od1_6
        have ok1_7 := ok1.below b7
        clear ok1
        go_wp2_with fail
        refine (HE.out _ _ _ _ _ _ hl0 ok1_7.cells (h0.later B7)).mono ?_
        rintro e w8 ⟨rfl, b8⟩
        have B8 : Below w.heap.size w w8 := Below.next B7 b8
        have od1_8 := od1_7.below b8
        clear od1_7
        have ok1_8 := ok1_7.below b8
        clear ok1_7
        have ok2_8 := ok2.below b8
        clear ok2
        go_wp2_with fail
        refine (HE.out _ _ _ _ _ _ hl0 ok2_8.cells (h0.later B8)).mono ?_
        rintro e w9 ⟨rfl, b9⟩
        have B9 : Below w.heap.size w w9 := Below.next B8 b9
        have od1_9 := od1_8.below b9
        clear od1_8
        have ok2_9 := ok2_8.below b9
        clear ok2_8
        go_wp2_with fail
        have HDO := hid (od1_9)
        obtain ⟨wl, hwl⟩ : ∃ x, x = w9 := ⟨_, rfl⟩
        rw [← hwl] at B9 HDO ⊢
        clear hwl
        go_loopw [149] (fun i wr => ∃ k : Nat, k ≤ WK.length ∧ i = .int .i64 k ∧ ∃ n, wr = wl.drewN n) (fun i _ => WK.length - (intOf i).toNat)
        case atStart => exact ⟨0, Nat.zero_le _, rfl, 0, rfl⟩
        case round =>
          obtain ⟨j, hj, rfl, nn, rfl⟩ := hrel
          by_cases hlt : j < WK.length
          · obtain ⟨⟨f1, f2⟩, ⟨f3, f4⟩, f5⟩ := HWF.out j hlt
            obtain ⟨b, o, e, hcc⟩ := HDO.out.cells (by omega)
            subst e
            have hcc0 := hcc j hlt
            have hcc1 := hcc (j - 1) (by omega)
            have hcc2 : (wl.drewN nn).cell? ⟨b, o + j, none⟩ = _ := hcc0
            have hcc3 : (wl.drewN nn).cell? ⟨b, o + (j - 1), none⟩ = _ := hcc1
            have hek : ((j : Int) - 1).toNat = j - 1 := by omega
            obtain ⟨x, hx⟩ : ∃ x, x = WK.getD j 0 := ⟨_, rfl⟩
            obtain ⟨y, hy⟩ : ∃ y, y = WK.getD (j - 1) 0 := ⟨_, rfl⟩
            rw [← hx] at f1 f2 f5 hcc0 hcc2
            rw [← hy] at f5 hcc1 hcc3
            have hlt2 : (j : Int) < (WK.length : Int) := by omega
            have HJ := hid hlt
            clear hcc hx hy hlt
            rcases Nat.eq_zero_or_pos j with hz | hz
            · have f7 : ¬ (0 : Int) < (j : Int) := by omega
              clear f5 hz
              go_wp2_with fail
              go_roundw
              case rel => exact ⟨j + 1, HJ.out, by go_num, nn, rfl⟩
              case measure => have := HJ.out; simp [intOf]; omega
            · have f6 : ¬ y < x := by have := f5 hz; omega
              have f7 : (0 : Int) < (j : Int) := by omega
              clear f5 hz
              go_wp2_with fail
              go_roundw
              case rel => exact ⟨j + 1, HJ.out, by go_num, nn, rfl⟩
              case measure => have := HJ.out; simp [intOf]; omega
          · have hge : ¬ (j : Int) < (WK.length : Int) := by omega
            clear hlt hj
            have B10 : Below w.heap.size w (wl.drewN nn) := Below.next B9 (below_drew' _ _)
            obtain ⟨w10, hw10⟩ : ∃ x, x = wl.drewN nn := ⟨_, rfl⟩
            rw [← hw10] at B10 ⊢
            clear hw10
            go_wp2_with fail
            refine (HG1.out _ (h1.later B10)).mono ?_
            rintro e w11 ⟨Ag1, cg1, rfl, og1, b11⟩
            have B11 : Below w.heap.size w w11 := Below.next B10 b11
            go_wp2_with fail
            refine (HG2.out _ (h1.later B11)).mono ?_
            rintro e w12 ⟨Ag2, cg2, rfl, og2, b12⟩
            have B12 : Below w.heap.size w w12 := Below.next B11 b12
            have og1_12 := og1.below b12
            clear og1
            go_wp2_with fail
            refine (HE.out _ _ _ _ _ _ HQL.out og1_12.cells og2.cells).mono ?_
            rintro e w13 ⟨rfl, b13⟩
            have B13 : Below w.heap.size w w13 := Below.next B12 b13
            have og1_13 := og1_12.below b13
            clear og1_12
            have og2_13 := og2.below b13
            clear og2
            go_wp2_with fail
            refine (HN1.out _).mono ?_
            rintro e w14 ⟨An1, cn1, rfl, on1, b14⟩
            have B14 : Below w.heap.size w w14 := Below.next B13 b14
            go_wp2_with fail
            refine (HN2.out _).mono ?_
            rintro e w15 ⟨An2, cn2, rfl, on2, b15⟩
            have B15 : Below w.heap.size w w15 := Below.next B14 b15
            have on1_15 := on1.below b15
            clear on1
            go_wp2_with fail
            refine (HE.out _ _ _ _ _ _ HRL.out on1_15.cells on2.cells).mono ?_
            rintro e w16 ⟨rfl, b16⟩
            have B16 : Below w.heap.size w w16 := Below.next B15 b16
            have on1_16 := on1_15.below b16
            clear on1_15
            have on2_16 := on2.below b16
            clear on2
            go_wp2_with fail
            refine (HC1.out _).mono ?_
            rintro e w17 ⟨rfl, b17⟩
            have B17 : Below w.heap.size w w17 := Below.next B16 b17
            have on1_17 := on1_16.below b17
            clear on1_16
            go_wp2_with fail
            go_ret
            exact ⟨by first | rfl | exact ret_bool (by simp), B17⟩
    obtain ⟨s1, s2⟩ := wob_three hsix
    rw [hsix] at HN1 HN2
    have hrl := ((good_iff _).1 (ib_sz s1).2).len
    have HF1 := hid fun A c W (h : Cells W A (baF e f k)) => impl_RankBoth A c (baF e f k) e f W (by omega) h he64 hf64
    rw [rbOk_ib, s1, s2] at HF1
    have HRL := hid (show (baF e f k).length ≤ 10000 by omega)
    obtain ⟨RR, hRR⟩ : ∃ x, x = baF e f k := ⟨_, rfl⟩
    rw [← hRR] at HN1 HN2 HF1 HRL
    clear hsix s1 s2 hrl hRR
    have B0 : Below w.heap.size w w := Below.refl _ _
    go_enter Tryz.func3, Tryz.ntmps3
    go_wp2_with fail
    refine (HA1.out _ (h0.later B0)).mono ?_
    rintro e w1 ⟨Ad1, cd1, rfl, od1, b1⟩
    have B1 : Below w.heap.size w w1 := Below.next B0 b1
    go_wp2_with fail
    refine (HA2.out _ (h0.later B1)).mono ?_
    rintro e w2 ⟨Ad2, cd2, rfl, od2, b2⟩
    have B2 : Below w.heap.size w w2 := Below.next B1 b2
    have od1_2 := od1.below b2
    clear od1
    go_wp2_with fail
    refine (HR1.out _ (h0.later B2)).mono ?_
    rintro e w3 ⟨rfl, b3⟩
    have B3 : Below w.heap.size w w3 := Below.next B2 b3
    have od1_3 := od1_2.below b3
    clear od1_2
    have od2_3 := od2.below b3
    clear od2
    go_wp2_with fail
    refine (HR2.out _ (h0.later B3)).mono ?_
    rintro e w4 ⟨rfl, b4⟩
    have B4 : Below w.heap.size w w4 := Below.next B3 b4
    have od1_4 := od1_3.below b4
    clear od1_3
    have od2_4 := od2_3.below b4
    clear od2_3
    go_wp2_with fail
    refine (HE.out _ _ _ _ _ _ HXL.out od1_4.cells od2_4.cells).mono ?_
    rintro e w5 ⟨rfl, b5⟩
    have B5 : Below w.heap.size w w5 := Below.next B4 b5
    have od1_5 := od1_4.below b5
    clear od1_4
    have od2_5 := od2_4.below b5
    clear od2_4
    go_wp2_with fail
    refine (HB1.out _ _ _ od1_5.cells).mono ?_
    rintro e w6 ⟨Ak1, ck1, rfl, ok1, b6⟩
    have B6 : Below w.heap.size w w6 := Below.next B5 b6
    have od1_6 := od1_5.below b6
    clear od1_5
    go_wp2_with fail
    refine (HT1.out _).mono ?_
    rintro e w7 ⟨Ak2, ck2, rfl, ok2, b7⟩
    have B7 : Below w.heap.size w w7 := Below.next B6 b7
    have od1_7 := od1_6.below b7
    clear od1_6
    have ok1_7 := ok1.below b7
    clear ok1
    go_wp2_with fail
    refine (HE.out _ _ _ _ _ _ hl0 ok1_7.cells (h0.later B7)).mono ?_
    rintro e w8 ⟨rfl, b8⟩
    have B8 : Below w.heap.size w w8 := Below.next B7 b8
    have od1_8 := od1_7.below b8
    clear od1_7
    have ok1_8 := ok1_7.below b8
    clear ok1_7
    have ok2_8 := ok2.below b8
    clear ok2
    go_wp2_with fail
    refine (HE.out _ _ _ _ _ _ hl0 ok2_8.cells (h0.later B8)).mono ?_
    rintro e w9 ⟨rfl, b9⟩
    have B9 : Below w.heap.size w w9 := Below.next B8 b9
    have od1_9 := od1_8.below b9
    clear od1_8
    have ok2_9 := ok2_8.below b9
    clear ok2_8
    go_wp2_with fail
    have HDO := hid (od1_9)
    obtain ⟨wl, hwl⟩ : ∃ x, x = w9 := ⟨_, rfl⟩
    rw [← hwl] at B9 HDO ⊢
    clear hwl
    go_loopw [149] (fun i wr => ∃ k : Nat, k ≤ WK.length ∧ i = .int .i64 k ∧ ∃ n, wr = wl.drewN n) (fun i _ => WK.length - (intOf i).toNat)
    case atStart => exact ⟨0, Nat.zero_le _, rfl, 0, rfl⟩
    case round =>
      obtain ⟨j, hj, rfl, nn, rfl⟩ := hrel
      by_cases hlt : j < WK.length
      · obtain ⟨⟨f1, f2⟩, ⟨f3, f4⟩, f5⟩ := HWF.out j hlt
        obtain ⟨b, o, e, hcc⟩ := HDO.out.cells (by omega)
        subst e
        have hcc0 := hcc j hlt
        have hcc1 := hcc (j - 1) (by omega)
        have hcc2 : (wl.drewN nn).cell? ⟨b, o + j, none⟩ = _ := hcc0
        have hcc3 : (wl.drewN nn).cell? ⟨b, o + (j - 1), none⟩ = _ := hcc1
        have hek : ((j : Int) - 1).toNat = j - 1 := by omega
        obtain ⟨x, hx⟩ : ∃ x, x = WK.getD j 0 := ⟨_, rfl⟩
        obtain ⟨y, hy⟩ : ∃ y, y = WK.getD (j - 1) 0 := ⟨_, rfl⟩
        rw [← hx] at f1 f2 f5 hcc0 hcc2
        rw [← hy] at f5 hcc1 hcc3
        have hlt2 : (j : Int) < (WK.length : Int) := by omega
        have HJ := hid hlt
        clear hcc hx hy hlt
        rcases Nat.eq_zero_or_pos j with hz | hz
        · have f7 : ¬ (0 : Int) < (j : Int) := by omega
          clear f5 hz
          go_wp2_with fail
          go_roundw
          case rel => exact ⟨j + 1, HJ.out, by go_num, nn, rfl⟩
          case measure => have := HJ.out; simp [intOf]; omega
        · have f6 : ¬ y < x := by have := f5 hz; omega
          have f7 : (0 : Int) < (j : Int) := by omega
          clear f5 hz
          go_wp2_with fail
          go_roundw
          case rel => exact ⟨j + 1, HJ.out, by go_num, nn, rfl⟩
          case measure => have := HJ.out; simp [intOf]; omega
      · have hge : ¬ (j : Int) < (WK.length : Int) := by omega
        clear hlt hj
        have B10 : Below w.heap.size w (wl.drewN nn) := Below.next B9 (below_drew' _ _)
        obtain ⟨w10, hw10⟩ : ∃ x, x = wl.drewN nn := ⟨_, rfl⟩
        rw [← hw10] at B10 ⊢
        clear hw10
        go_wp2_with fail
        refine (HG1.out _ (h1.later B10)).mono ?_
        rintro e w11 ⟨Ag1, cg1, rfl, og1, b11⟩
        have B11 : Below w.heap.size w w11 := Below.next B10 b11
        go_wp2_with fail
        refine (HG2.out _ (h1.later B11)).mono ?_
        rintro e w12 ⟨Ag2, cg2, rfl, og2, b12⟩
        have B12 : Below w.heap.size w w12 := Below.next B11 b12
        have og1_12 := og1.below b12
        clear og1
        go_wp2_with fail
        refine (HE.out _ _ _ _ _ _ HQL.out og1_12.cells og2.cells).mono ?_
        rintro e w13 ⟨rfl, b13⟩
        have B13 : Below w.heap.size w w13 := Below.next B12 b13
        have og1_13 := og1_12.below b13
        clear og1_12
        have og2_13 := og2.below b13
        clear og2
        go_wp2_with fail
        refine (HN1.out _).mono ?_
        rintro e w14 ⟨An1, cn1, rfl, on1, b14⟩
        have B14 : Below w.heap.size w w14 := Below.next B13 b14
        go_wp2_with fail
        refine (HN2.out _).mono ?_
        rintro e w15 ⟨An2, cn2, rfl, on2, b15⟩
        have B15 : Below w.heap.size w w15 := Below.next B14 b15
        have on1_15 := on1.below b15
        clear on1
        go_wp2_with fail
        refine (HE.out _ _ _ _ _ _ HRL.out on1_15.cells on2.cells).mono ?_
        rintro e w16 ⟨rfl, b16⟩
        have B16 : Below w.heap.size w w16 := Below.next B15 b16
        have on1_16 := on1_15.below b16
        clear on1_15
        have on2_16 := on2.below b16
        clear on2
        go_wp2_with fail
        refine (HF1.out _ _ _ on1_16.cells).mono ?_
        rintro e w17 ⟨rfl, b17⟩
        have B17 : Below w.heap.size w w17 := Below.next B16 b17
        have on1_17 := on1_16.below b17
        clear on1_16
        go_wp2_with fail
        go_ret
        exact ⟨by first | rfl | exact ret_bool (by simp), B17⟩
  obtain ⟨t1, t2⟩ := wob_two htold
  rw [htold] at HG1 HG2
  have hql := ((good_iff _).1 (ib_sz t1).2).len
  have HK1 := hid fun A c9 W (h : Cells W A (bwF q c d)) => impl_WalkOfBoth A c9 (bwF q c d) c d W (by omega) h hc64 hd64
  rw [t1, t2] at HK1
  have HQL := hid (show (bwF q c d).length ≤ 10000 by omega)
  obtain ⟨QQ, hQQ⟩ : ∃ x, x = bwF q c d := ⟨_, rfl⟩
  rw [← hQQ] at HG1 HG2 HK1 HQL
  clear htold t1 t2 hql hQQ
  cases hsix : baOk e f k
  · have er : baF e f k = [] := by unfold baF; rw [if_neg (by rw [hsix]; decide)]
    rw [hsix, er] at HN1 HN2
    have HRL := hid (show ([] : List Int).length ≤ 10000 by simp)
    have HC1 := hid fun W => impl_CountBoth e f W he64 hf64
    cases hs2 : sz e f
    · rw [hs2] at HC1
      clear hsix er hs2
      have B0 : Below w.heap.size w w := Below.refl _ _
      go_enter Tryz.func3, Tryz.ntmps3
      go_wp2_with fail
      refine (HA1.out _ (h0.later B0)).mono ?_
      rintro e w1 ⟨Ad1, cd1, rfl, od1, b1⟩
      have B1 : Below w.heap.size w w1 := Below.next B0 b1
      go_wp2_with fail
      refine (HA2.out _ (h0.later B1)).mono ?_
      rintro e w2 ⟨Ad2, cd2, rfl, od2, b2⟩
      have B2 : Below w.heap.size w w2 := Below.next B1 b2
      have od1_2 := od1.below b2
      clear od1
      go_wp2_with fail
      refine (HR1.out _ (h0.later B2)).mono ?_
      rintro e w3 ⟨rfl, b3⟩
      have B3 : Below w.heap.size w w3 := Below.next B2 b3
      have od1_3 := od1_2.below b3
      clear od1_2
      have od2_3 := od2.below b3
      clear od2
      go_wp2_with fail
      refine (HR2.out _ (h0.later B3)).mono ?_
      rintro e w4 ⟨rfl, b4⟩
      have B4 : Below w.heap.size w w4 := Below.next B3 b4
      have od1_4 := od1_3.below b4
      clear od1_3
      have od2_4 := od2_3.below b4
      clear od2_3
      go_wp2_with fail
      refine (HE.out _ _ _ _ _ _ HXL.out od1_4.cells od2_4.cells).mono ?_
      rintro e w5 ⟨rfl, b5⟩
      have B5 : Below w.heap.size w w5 := Below.next B4 b5
      have od1_5 := od1_4.below b5
      clear od1_4
      have od2_5 := od2_4.below b5
      clear od2_4
      go_wp2_with fail
      refine (HB1.out _ _ _ od1_5.cells).mono ?_
      rintro e w6 ⟨Ak1, ck1, rfl, ok1, b6⟩
      have B6 : Below w.heap.size w w6 := Below.next B5 b6
      have od1_6 := od1_5.below b6
      clear od1_5
      go_wp2_with fail
      refine (HT1.out _).mono ?_
      rintro e w7 ⟨Ak2, ck2, rfl, ok2, b7⟩
      have B7 : Below w.heap.size w w7 := Below.next B6 b7
      have od1_7 := od1_6.below b7
      clear od1_6
      have ok1_7 := ok1.below b7
      clear ok1
      go_wp2_with fail
      refine (HE.out _ _ _ _ _ _ hl0 ok1_7.cells (h0.later B7)).mono ?_
      rintro e w8 ⟨rfl, b8⟩
      have B8 : Below w.heap.size w w8 := Below.next B7 b8
      have od1_8 := od1_7.below b8
      clear od1_7
      have ok1_8 := ok1_7.below b8
      clear ok1_7
      have ok2_8 := ok2.below b8
      clear ok2
      go_wp2_with fail
      refine (HE.out _ _ _ _ _ _ hl0 ok2_8.cells (h0.later B8)).mono ?_
      rintro e w9 ⟨rfl, b9⟩
      have B9 : Below w.heap.size w w9 := Below.next B8 b9
      have od1_9 := od1_8.below b9
      clear od1_8
      have ok2_9 := ok2_8.below b9
      clear ok2_8
      go_wp2_with fail
      have HDO := hid (od1_9)
      obtain ⟨wl, hwl⟩ : ∃ x, x = w9 := ⟨_, rfl⟩
      rw [← hwl] at B9 HDO ⊢
      clear hwl
      go_loopw [149] (fun i wr => ∃ k : Nat, k ≤ WK.length ∧ i = .int .i64 k ∧ ∃ n, wr = wl.drewN n) (fun i _ => WK.length - (intOf i).toNat)
      case atStart => exact ⟨0, Nat.zero_le _, rfl, 0, rfl⟩
      case round =>
        obtain ⟨j, hj, rfl, nn, rfl⟩ := hrel
        by_cases hlt : j < WK.length
        · obtain ⟨⟨f1, f2⟩, ⟨f3, f4⟩, f5⟩ := HWF.out j hlt
          obtain ⟨b, o, e, hcc⟩ := HDO.out.cells (by omega)
          subst e
          have hcc0 := hcc j hlt
          have hcc1 := hcc (j - 1) (by omega)
          have hcc2 : (wl.drewN nn).cell? ⟨b, o + j, none⟩ = _ := hcc0
          have hcc3 : (wl.drewN nn).cell? ⟨b, o + (j - 1), none⟩ = _ := hcc1
          have hek : ((j : Int) - 1).toNat = j - 1 := by omega
          obtain ⟨x, hx⟩ : ∃ x, x = WK.getD j 0 := ⟨_, rfl⟩
          obtain ⟨y, hy⟩ : ∃ y, y = WK.getD (j - 1) 0 := ⟨_, rfl⟩
          rw [← hx] at f1 f2 f5 hcc0 hcc2
          rw [← hy] at f5 hcc1 hcc3
          have hlt2 : (j : Int) < (WK.length : Int) := by omega
          have HJ := hid hlt
          clear hcc hx hy hlt
          rcases Nat.eq_zero_or_pos j with hz | hz
          · have f7 : ¬ (0 : Int) < (j : Int) := by omega
            clear f5 hz
            go_wp2_with fail
            go_roundw
            case rel => exact ⟨j + 1, HJ.out, by go_num, nn, rfl⟩
            case measure => have := HJ.out; simp [intOf]; omega
          · have f6 : ¬ y < x := by have := f5 hz; omega
            have f7 : (0 : Int) < (j : Int) := by omega
            clear f5 hz
            go_wp2_with fail
            go_roundw
            case rel => exact ⟨j + 1, HJ.out, by go_num, nn, rfl⟩
            case measure => have := HJ.out; simp [intOf]; omega
        · have hge : ¬ (j : Int) < (WK.length : Int) := by omega
          clear hlt hj
          have B10 : Below w.heap.size w (wl.drewN nn) := Below.next B9 (below_drew' _ _)
          obtain ⟨w10, hw10⟩ : ∃ x, x = wl.drewN nn := ⟨_, rfl⟩
          rw [← hw10] at B10 ⊢
          clear hw10
          go_wp2_with fail
          refine (HG1.out _ (h1.later B10)).mono ?_
          rintro e w11 ⟨Ag1, cg1, rfl, og1, b11⟩
          have B11 : Below w.heap.size w w11 := Below.next B10 b11
          go_wp2_with fail
          refine (HG2.out _ (h1.later B11)).mono ?_
          rintro e w12 ⟨Ag2, cg2, rfl, og2, b12⟩
          have B12 : Below w.heap.size w w12 := Below.next B11 b12
          have og1_12 := og1.below b12
          clear og1
          go_wp2_with fail
          refine (HE.out _ _ _ _ _ _ HQL.out og1_12.cells og2.cells).mono ?_
          rintro e w13 ⟨rfl, b13⟩
          have B13 : Below w.heap.size w w13 := Below.next B12 b13
          have og1_13 := og1_12.below b13
          clear og1_12
          have og2_13 := og2.below b13
          clear og2
          go_wp2_with fail
          refine (HK1.out _ _ _ og1_13.cells).mono ?_
          rintro e w14 ⟨Am1, cm1, rfl, om1, b14⟩
          have B14 : Below w.heap.size w w14 := Below.next B13 b14
          have og1_14 := og1_13.below b14
          clear og1_13
          go_wp2_with fail
          refine (HE.out _ _ _ _ _ _ hl1 om1.cells (h1.later B14)).mono ?_
          rintro e w15 ⟨rfl, b15⟩
          have B15 : Below w.heap.size w w15 := Below.next B14 b15
          have om1_15 := om1.below b15
          clear om1
          go_wp2_with fail
          refine (HN1.out _).mono ?_
          rintro e w16 ⟨An1, cn1, rfl, on1, b16⟩
          have B16 : Below w.heap.size w w16 := Below.next B15 b16
          go_wp2_with fail
          refine (HN2.out _).mono ?_
          rintro e w17 ⟨An2, cn2, rfl, on2, b17⟩
          have B17 : Below w.heap.size w w17 := Below.next B16 b17
          have on1_17 := on1.below b17
          clear on1
          go_wp2_with fail
          refine (HE.out _ _ _ _ _ _ HRL.out on1_17.cells on2.cells).mono ?_
          rintro e w18 ⟨rfl, b18⟩
          have B18 : Below w.heap.size w w18 := Below.next B17 b18
          have on1_18 := on1_17.below b18
          clear on1_17
          have on2_18 := on2.below b18
          clear on2
          go_wp2_with fail
          refine (HC1.out _).mono ?_
          rintro e w19 ⟨rfl, b19⟩
          have B19 : Below w.heap.size w w19 := Below.next B18 b19
          have on1_19 := on1_18.below b19
          clear on1_18
          go_wp2_with fail
          go_ret
          exact ⟨by first | rfl | exact ret_bool (by simp), B19⟩
    rcases wob_no hsix hs2 with hk0 | hk0
    · rw [hs2] at HC1
      obtain ⟨CN, hCN⟩ : ∃ x, x = cbF e f := ⟨_, rfl⟩
      rw [← hCN] at HC1
      clear hsix er hs2 hCN
      have B0 : Below w.heap.size w w := Below.refl _ _
      go_enter Tryz.func3, Tryz.ntmps3
      go_wp2_with fail
      refine (HA1.out _ (h0.later B0)).mono ?_
      rintro e w1 ⟨Ad1, cd1, rfl, od1, b1⟩
      have B1 : Below w.heap.size w w1 := Below.next B0 b1
      go_wp2_with fail
      refine (HA2.out _ (h0.later B1)).mono ?_
      rintro e w2 ⟨Ad2, cd2, rfl, od2, b2⟩
      have B2 : Below w.heap.size w w2 := Below.next B1 b2
      have od1_2 := od1.below b2
      clear od1
      go_wp2_with fail
      refine (HR1.out _ (h0.later B2)).mono ?_
      rintro e w3 ⟨rfl, b3⟩
      have B3 : Below w.heap.size w w3 := Below.next B2 b3
      have od1_3 := od1_2.below b3
      clear od1_2
      have od2_3 := od2.below b3
      clear od2
      go_wp2_with fail
      refine (HR2.out _ (h0.later B3)).mono ?_
      rintro e w4 ⟨rfl, b4⟩
      have B4 : Below w.heap.size w w4 := Below.next B3 b4
      have od1_4 := od1_3.below b4
      clear od1_3
      have od2_4 := od2_3.below b4
      clear od2_3
      go_wp2_with fail
      refine (HE.out _ _ _ _ _ _ HXL.out od1_4.cells od2_4.cells).mono ?_
      rintro e w5 ⟨rfl, b5⟩
      have B5 : Below w.heap.size w w5 := Below.next B4 b5
      have od1_5 := od1_4.below b5
      clear od1_4
      have od2_5 := od2_4.below b5
      clear od2_4
      go_wp2_with fail
      refine (HB1.out _ _ _ od1_5.cells).mono ?_
      rintro e w6 ⟨Ak1, ck1, rfl, ok1, b6⟩
      have B6 : Below w.heap.size w w6 := Below.next B5 b6
      have od1_6 := od1_5.below b6
      clear od1_5
      go_wp2_with fail
      refine (HT1.out _).mono ?_
      rintro e w7 ⟨Ak2, ck2, rfl, ok2, b7⟩
      have B7 : Below w.heap.size w w7 := Below.next B6 b7
      have od1_7 := od1_6.below b7
      clear od1_6
      have ok1_7 := ok1.below b7
      clear ok1
      go_wp2_with fail
      refine (HE.out _ _ _ _ _ _ hl0 ok1_7.cells (h0.later B7)).mono ?_
      rintro e w8 ⟨rfl, b8⟩
      have B8 : Below w.heap.size w w8 := Below.next B7 b8
      have od1_8 := od1_7.below b8
      clear od1_7
      have ok1_8 := ok1_7.below b8
      clear ok1_7
      have ok2_8 := ok2.below b8
      clear ok2
      go_wp2_with fail
      refine (HE.out _ _ _ _ _ _ hl0 ok2_8.cells (h0.later B8)).mono ?_
      rintro e w9 ⟨rfl, b9⟩
      have B9 : Below w.heap.size w w9 := Below.next B8 b9
      have od1_9 := od1_8.below b9
      clear od1_8
      have ok2_9 := ok2_8.below b9
      clear ok2_8
      go_wp2_with fail
      have HDO := hid (od1_9)
      obtain ⟨wl, hwl⟩ : ∃ x, x = w9 := ⟨_, rfl⟩
      rw [← hwl] at B9 HDO ⊢
      clear hwl
      go_loopw [149] (fun i wr => ∃ k : Nat, k ≤ WK.length ∧ i = .int .i64 k ∧ ∃ n, wr = wl.drewN n) (fun i _ => WK.length - (intOf i).toNat)
      case atStart => exact ⟨0, Nat.zero_le _, rfl, 0, rfl⟩
      case round =>
        obtain ⟨j, hj, rfl, nn, rfl⟩ := hrel
        by_cases hlt : j < WK.length
        · obtain ⟨⟨f1, f2⟩, ⟨f3, f4⟩, f5⟩ := HWF.out j hlt
          obtain ⟨b, o, e, hcc⟩ := HDO.out.cells (by omega)
          subst e
          have hcc0 := hcc j hlt
          have hcc1 := hcc (j - 1) (by omega)
          have hcc2 : (wl.drewN nn).cell? ⟨b, o + j, none⟩ = _ := hcc0
          have hcc3 : (wl.drewN nn).cell? ⟨b, o + (j - 1), none⟩ = _ := hcc1
          have hek : ((j : Int) - 1).toNat = j - 1 := by omega
          obtain ⟨x, hx⟩ : ∃ x, x = WK.getD j 0 := ⟨_, rfl⟩
          obtain ⟨y, hy⟩ : ∃ y, y = WK.getD (j - 1) 0 := ⟨_, rfl⟩
          rw [← hx] at f1 f2 f5 hcc0 hcc2
          rw [← hy] at f5 hcc1 hcc3
          have hlt2 : (j : Int) < (WK.length : Int) := by omega
          have HJ := hid hlt
          clear hcc hx hy hlt
          rcases Nat.eq_zero_or_pos j with hz | hz
          · have f7 : ¬ (0 : Int) < (j : Int) := by omega
            clear f5 hz
            go_wp2_with fail
            go_roundw
            case rel => exact ⟨j + 1, HJ.out, by go_num, nn, rfl⟩
            case measure => have := HJ.out; simp [intOf]; omega
          · have f6 : ¬ y < x := by have := f5 hz; omega
            have f7 : (0 : Int) < (j : Int) := by omega
            clear f5 hz
            go_wp2_with fail
            go_roundw
            case rel => exact ⟨j + 1, HJ.out, by go_num, nn, rfl⟩
            case measure => have := HJ.out; simp [intOf]; omega
        · have hge : ¬ (j : Int) < (WK.length : Int) := by omega
          clear hlt hj
          have B10 : Below w.heap.size w (wl.drewN nn) := Below.next B9 (below_drew' _ _)
          obtain ⟨w10, hw10⟩ : ∃ x, x = wl.drewN nn := ⟨_, rfl⟩
          rw [← hw10] at B10 ⊢
          clear hw10
          go_wp2_with fail
          refine (HG1.out _ (h1.later B10)).mono ?_
          rintro e w11 ⟨Ag1, cg1, rfl, og1, b11⟩
          have B11 : Below w.heap.size w w11 := Below.next B10 b11
          go_wp2_with fail
          refine (HG2.out _ (h1.later B11)).mono ?_
          rintro e w12 ⟨Ag2, cg2, rfl, og2, b12⟩
          have B12 : Below w.heap.size w w12 := Below.next B11 b12
          have og1_12 := og1.below b12
          clear og1
          go_wp2_with fail
          refine (HE.out _ _ _ _ _ _ HQL.out og1_12.cells og2.cells).mono ?_
          rintro e w13 ⟨rfl, b13⟩
          have B13 : Below w.heap.size w w13 := Below.next B12 b13
          have og1_13 := og1_12.below b13
          clear og1_12
          have og2_13 := og2.below b13
          clear og2
          go_wp2_with fail
          refine (HK1.out _ _ _ og1_13.cells).mono ?_
          rintro e w14 ⟨Am1, cm1, rfl, om1, b14⟩
          have B14 : Below w.heap.size w w14 := Below.next B13 b14
          have og1_14 := og1_13.below b14
          clear og1_13
          go_wp2_with fail
          refine (HE.out _ _ _ _ _ _ hl1 om1.cells (h1.later B14)).mono ?_
          rintro e w15 ⟨rfl, b15⟩
          have B15 : Below w.heap.size w w15 := Below.next B14 b15
          have om1_15 := om1.below b15
          clear om1
          go_wp2_with fail
          refine (HN1.out _).mono ?_
          rintro e w16 ⟨An1, cn1, rfl, on1, b16⟩
          have B16 : Below w.heap.size w w16 := Below.next B15 b16
          go_wp2_with fail
          refine (HN2.out _).mono ?_
          rintro e w17 ⟨An2, cn2, rfl, on2, b17⟩
          have B17 : Below w.heap.size w w17 := Below.next B16 b17
          have on1_17 := on1.below b17
          clear on1
          go_wp2_with fail
          refine (HE.out _ _ _ _ _ _ HRL.out on1_17.cells on2.cells).mono ?_
          rintro e w18 ⟨rfl, b18⟩
          have B18 : Below w.heap.size w w18 := Below.next B17 b18
          have on1_18 := on1_17.below b18
          clear on1_17
          have on2_18 := on2.below b18
          clear on2
          go_wp2_with fail
          refine (HC1.out _).mono ?_
          rintro e w19 ⟨rfl, b19⟩
          have B19 : Below w.heap.size w w19 := Below.next B18 b19
          have on1_19 := on1_18.below b19
          clear on1_18
          go_wp2_with fail
          go_ret
          exact ⟨by first | rfl | exact ret_bool (by simp), B19⟩
    · rw [hs2] at HC1
      have hk1 : ¬ k < 0 := by have := (cb_bd hs2).1.1; omega
      obtain ⟨CN, hCN⟩ : ∃ x, x = cbF e f := ⟨_, rfl⟩
      rw [← hCN] at HC1 hk0
      clear hsix er hs2 hCN
      have B0 : Below w.heap.size w w := Below.refl _ _
      go_enter Tryz.func3, Tryz.ntmps3
      go_wp2_with fail
      refine (HA1.out _ (h0.later B0)).mono ?_
      rintro e w1 ⟨Ad1, cd1, rfl, od1, b1⟩
      have B1 : Below w.heap.size w w1 := Below.next B0 b1
      go_wp2_with fail
      refine (HA2.out _ (h0.later B1)).mono ?_
      rintro e w2 ⟨Ad2, cd2, rfl, od2, b2⟩
      have B2 : Below w.heap.size w w2 := Below.next B1 b2
      have od1_2 := od1.below b2
      clear od1
      go_wp2_with fail
      refine (HR1.out _ (h0.later B2)).mono ?_
      rintro e w3 ⟨rfl, b3⟩
      have B3 : Below w.heap.size w w3 := Below.next B2 b3
      have od1_3 := od1_2.below b3
      clear od1_2
      have od2_3 := od2.below b3
      clear od2
      go_wp2_with fail
      refine (HR2.out _ (h0.later B3)).mono ?_
      rintro e w4 ⟨rfl, b4⟩
      have B4 : Below w.heap.size w w4 := Below.next B3 b4
      have od1_4 := od1_3.below b4
      clear od1_3
      have od2_4 := od2_3.below b4
      clear od2_3
      go_wp2_with fail
      refine (HE.out _ _ _ _ _ _ HXL.out od1_4.cells od2_4.cells).mono ?_
      rintro e w5 ⟨rfl, b5⟩
      have B5 : Below w.heap.size w w5 := Below.next B4 b5
      have od1_5 := od1_4.below b5
      clear od1_4
      have od2_5 := od2_4.below b5
      clear od2_4
      go_wp2_with fail
      refine (HB1.out _ _ _ od1_5.cells).mono ?_
      rintro e w6 ⟨Ak1, ck1, rfl, ok1, b6⟩
      have B6 : Below w.heap.size w w6 := Below.next B5 b6
      have od1_6 := od1_5.below b6
      clear od1_5
      go_wp2_with fail
      refine (HT1.out _).mono ?_
      rintro e w7 ⟨Ak2, ck2, rfl, ok2, b7⟩
      have B7 : Below w.heap.size w w7 := Below.next B6 b7
      have od1_7 := od1_6.below b7
      clear od1_6
      have ok1_7 := ok1.below b7
      clear ok1
      go_wp2_with fail
      refine (HE.out _ _ _ _ _ _ hl0 ok1_7.cells (h0.later B7)).mono ?_
      rintro e w8 ⟨rfl, b8⟩
      have B8 : Below w.heap.size w w8 := Below.next B7 b8
      have od1_8 := od1_7.below b8
      clear od1_7
      have ok1_8 := ok1_7.below b8
      clear ok1_7
      have ok2_8 := ok2.below b8
      clear ok2
      go_wp2_with fail
      refine (HE.out _ _ _ _ _ _ hl0 ok2_8.cells (h0.later B8)).mono ?_
      rintro e w9 ⟨rfl, b9⟩
      have B9 : Below w.heap.size w w9 := Below.next B8 b9
      have od1_9 := od1_8.below b9
      clear od1_8
      have ok2_9 := ok2_8.below b9
      clear ok2_8
      go_wp2_with fail
      have HDO := hid (od1_9)
      obtain ⟨wl, hwl⟩ : ∃ x, x = w9 := ⟨_, rfl⟩
      rw [← hwl] at B9 HDO ⊢
      clear hwl
      go_loopw [149] (fun i wr => ∃ k : Nat, k ≤ WK.length ∧ i = .int .i64 k ∧ ∃ n, wr = wl.drewN n) (fun i _ => WK.length - (intOf i).toNat)
      case atStart => exact ⟨0, Nat.zero_le _, rfl, 0, rfl⟩
      case round =>
        obtain ⟨j, hj, rfl, nn, rfl⟩ := hrel
        by_cases hlt : j < WK.length
        · obtain ⟨⟨f1, f2⟩, ⟨f3, f4⟩, f5⟩ := HWF.out j hlt
          obtain ⟨b, o, e, hcc⟩ := HDO.out.cells (by omega)
          subst e
          have hcc0 := hcc j hlt
          have hcc1 := hcc (j - 1) (by omega)
          have hcc2 : (wl.drewN nn).cell? ⟨b, o + j, none⟩ = _ := hcc0
          have hcc3 : (wl.drewN nn).cell? ⟨b, o + (j - 1), none⟩ = _ := hcc1
          have hek : ((j : Int) - 1).toNat = j - 1 := by omega
          obtain ⟨x, hx⟩ : ∃ x, x = WK.getD j 0 := ⟨_, rfl⟩
          obtain ⟨y, hy⟩ : ∃ y, y = WK.getD (j - 1) 0 := ⟨_, rfl⟩
          rw [← hx] at f1 f2 f5 hcc0 hcc2
          rw [← hy] at f5 hcc1 hcc3
          have hlt2 : (j : Int) < (WK.length : Int) := by omega
          have HJ := hid hlt
          clear hcc hx hy hlt
          rcases Nat.eq_zero_or_pos j with hz | hz
          · have f7 : ¬ (0 : Int) < (j : Int) := by omega
            clear f5 hz
            go_wp2_with fail
            go_roundw
            case rel => exact ⟨j + 1, HJ.out, by go_num, nn, rfl⟩
            case measure => have := HJ.out; simp [intOf]; omega
          · have f6 : ¬ y < x := by have := f5 hz; omega
            have f7 : (0 : Int) < (j : Int) := by omega
            clear f5 hz
            go_wp2_with fail
            go_roundw
            case rel => exact ⟨j + 1, HJ.out, by go_num, nn, rfl⟩
            case measure => have := HJ.out; simp [intOf]; omega
        · have hge : ¬ (j : Int) < (WK.length : Int) := by omega
          clear hlt hj
          have B10 : Below w.heap.size w (wl.drewN nn) := Below.next B9 (below_drew' _ _)
          obtain ⟨w10, hw10⟩ : ∃ x, x = wl.drewN nn := ⟨_, rfl⟩
          rw [← hw10] at B10 ⊢
          clear hw10
          go_wp2_with fail
          refine (HG1.out _ (h1.later B10)).mono ?_
          rintro e w11 ⟨Ag1, cg1, rfl, og1, b11⟩
          have B11 : Below w.heap.size w w11 := Below.next B10 b11
          go_wp2_with fail
          refine (HG2.out _ (h1.later B11)).mono ?_
          rintro e w12 ⟨Ag2, cg2, rfl, og2, b12⟩
          have B12 : Below w.heap.size w w12 := Below.next B11 b12
          have og1_12 := og1.below b12
          clear og1
          go_wp2_with fail
          refine (HE.out _ _ _ _ _ _ HQL.out og1_12.cells og2.cells).mono ?_
          rintro e w13 ⟨rfl, b13⟩
          have B13 : Below w.heap.size w w13 := Below.next B12 b13
          have og1_13 := og1_12.below b13
          clear og1_12
          have og2_13 := og2.below b13
          clear og2
          go_wp2_with fail
          refine (HK1.out _ _ _ og1_13.cells).mono ?_
          rintro e w14 ⟨Am1, cm1, rfl, om1, b14⟩
          have B14 : Below w.heap.size w w14 := Below.next B13 b14
          have og1_14 := og1_13.below b14
          clear og1_13
          go_wp2_with fail
          refine (HE.out _ _ _ _ _ _ hl1 om1.cells (h1.later B14)).mono ?_
          rintro e w15 ⟨rfl, b15⟩
          have B15 : Below w.heap.size w w15 := Below.next B14 b15
          have om1_15 := om1.below b15
          clear om1
          go_wp2_with fail
          refine (HN1.out _).mono ?_
          rintro e w16 ⟨An1, cn1, rfl, on1, b16⟩
          have B16 : Below w.heap.size w w16 := Below.next B15 b16
          go_wp2_with fail
          refine (HN2.out _).mono ?_
          rintro e w17 ⟨An2, cn2, rfl, on2, b17⟩
          have B17 : Below w.heap.size w w17 := Below.next B16 b17
          have on1_17 := on1.below b17
          clear on1
          go_wp2_with fail
          refine (HE.out _ _ _ _ _ _ HRL.out on1_17.cells on2.cells).mono ?_
          rintro e w18 ⟨rfl, b18⟩
          have B18 : Below w.heap.size w w18 := Below.next B17 b18
          have on1_18 := on1_17.below b18
          clear on1_17
          have on2_18 := on2.below b18
          clear on2
          go_wp2_with fail
          refine (HC1.out _).mono ?_
          rintro e w19 ⟨rfl, b19⟩
          have B19 : Below w.heap.size w w19 := Below.next B18 b19
          have on1_19 := on1_18.below b19
          clear on1_18
          go_wp2_with fail
          go_ret
          exact ⟨by first | rfl | exact ret_bool (by simp), B19⟩
  obtain ⟨s1, s2⟩ := wob_three hsix
  rw [hsix] at HN1 HN2
  have hrl := ((good_iff _).1 (ib_sz s1).2).len
  have HF1 := hid fun A c W (h : Cells W A (baF e f k)) => impl_RankBoth A c (baF e f k) e f W (by omega) h he64 hf64
  rw [rbOk_ib, s1, s2] at HF1
  have HRL := hid (show (baF e f k).length ≤ 10000 by omega)
  obtain ⟨RR, hRR⟩ : ∃ x, x = baF e f k := ⟨_, rfl⟩
  rw [← hRR] at HN1 HN2 HF1 HRL
  clear hsix s1 s2 hrl hRR
  have B0 : Below w.heap.size w w := Below.refl _ _
  go_enter Tryz.func3, Tryz.ntmps3
  go_wp2_with fail
  refine (HA1.out _ (h0.later B0)).mono ?_
  rintro e w1 ⟨Ad1, cd1, rfl, od1, b1⟩
  have B1 : Below w.heap.size w w1 := Below.next B0 b1
  go_wp2_with fail
  refine (HA2.out _ (h0.later B1)).mono ?_
  rintro e w2 ⟨Ad2, cd2, rfl, od2, b2⟩
  have B2 : Below w.heap.size w w2 := Below.next B1 b2
  have od1_2 := od1.below b2
  clear od1
  go_wp2_with fail
  refine (HR1.out _ (h0.later B2)).mono ?_
  rintro e w3 ⟨rfl, b3⟩
  have B3 : Below w.heap.size w w3 := Below.next B2 b3
  have od1_3 := od1_2.below b3
  clear od1_2
  have od2_3 := od2.below b3
  clear od2
  go_wp2_with fail
  refine (HR2.out _ (h0.later B3)).mono ?_
  rintro e w4 ⟨rfl, b4⟩
  have B4 : Below w.heap.size w w4 := Below.next B3 b4
  have od1_4 := od1_3.below b4
  clear od1_3
  have od2_4 := od2_3.below b4
  clear od2_3
  go_wp2_with fail
  refine (HE.out _ _ _ _ _ _ HXL.out od1_4.cells od2_4.cells).mono ?_
  rintro e w5 ⟨rfl, b5⟩
  have B5 : Below w.heap.size w w5 := Below.next B4 b5
  have od1_5 := od1_4.below b5
  clear od1_4
  have od2_5 := od2_4.below b5
  clear od2_4
  go_wp2_with fail
  refine (HB1.out _ _ _ od1_5.cells).mono ?_
  rintro e w6 ⟨Ak1, ck1, rfl, ok1, b6⟩
  have B6 : Below w.heap.size w w6 := Below.next B5 b6
  have od1_6 := od1_5.below b6
  clear od1_5
  go_wp2_with fail
  refine (HT1.out _).mono ?_
  rintro e w7 ⟨Ak2, ck2, rfl, ok2, b7⟩
  have B7 : Below w.heap.size w w7 := Below.next B6 b7
  have od1_7 := od1_6.below b7
  clear od1_6
  have ok1_7 := ok1.below b7
  clear ok1
  go_wp2_with fail
  refine (HE.out _ _ _ _ _ _ hl0 ok1_7.cells (h0.later B7)).mono ?_
  rintro e w8 ⟨rfl, b8⟩
  have B8 : Below w.heap.size w w8 := Below.next B7 b8
  have od1_8 := od1_7.below b8
  clear od1_7
  have ok1_8 := ok1_7.below b8
  clear ok1_7
  have ok2_8 := ok2.below b8
  clear ok2
  go_wp2_with fail
  refine (HE.out _ _ _ _ _ _ hl0 ok2_8.cells (h0.later B8)).mono ?_
  rintro e w9 ⟨rfl, b9⟩
  have B9 : Below w.heap.size w w9 := Below.next B8 b9
  have od1_9 := od1_8.below b9
  clear od1_8
  have ok2_9 := ok2_8.below b9
  clear ok2_8
  go_wp2_with fail
  have HDO := hid (od1_9)
  obtain ⟨wl, hwl⟩ : ∃ x, x = w9 := ⟨_, rfl⟩
  rw [← hwl] at B9 HDO ⊢
  clear hwl
  go_loopw [149] (fun i wr => ∃ k : Nat, k ≤ WK.length ∧ i = .int .i64 k ∧ ∃ n, wr = wl.drewN n) (fun i _ => WK.length - (intOf i).toNat)
  case atStart => exact ⟨0, Nat.zero_le _, rfl, 0, rfl⟩
  case round =>
    obtain ⟨j, hj, rfl, nn, rfl⟩ := hrel
    by_cases hlt : j < WK.length
    · obtain ⟨⟨f1, f2⟩, ⟨f3, f4⟩, f5⟩ := HWF.out j hlt
      obtain ⟨b, o, e, hcc⟩ := HDO.out.cells (by omega)
      subst e
      have hcc0 := hcc j hlt
      have hcc1 := hcc (j - 1) (by omega)
      have hcc2 : (wl.drewN nn).cell? ⟨b, o + j, none⟩ = _ := hcc0
      have hcc3 : (wl.drewN nn).cell? ⟨b, o + (j - 1), none⟩ = _ := hcc1
      have hek : ((j : Int) - 1).toNat = j - 1 := by omega
      obtain ⟨x, hx⟩ : ∃ x, x = WK.getD j 0 := ⟨_, rfl⟩
      obtain ⟨y, hy⟩ : ∃ y, y = WK.getD (j - 1) 0 := ⟨_, rfl⟩
      rw [← hx] at f1 f2 f5 hcc0 hcc2
      rw [← hy] at f5 hcc1 hcc3
      have hlt2 : (j : Int) < (WK.length : Int) := by omega
      have HJ := hid hlt
      clear hcc hx hy hlt
      rcases Nat.eq_zero_or_pos j with hz | hz
      · have f7 : ¬ (0 : Int) < (j : Int) := by omega
        clear f5 hz
        go_wp2_with fail
        go_roundw
        case rel => exact ⟨j + 1, HJ.out, by go_num, nn, rfl⟩
        case measure => have := HJ.out; simp [intOf]; omega
      · have f6 : ¬ y < x := by have := f5 hz; omega
        have f7 : (0 : Int) < (j : Int) := by omega
        clear f5 hz
        go_wp2_with fail
        go_roundw
        case rel => exact ⟨j + 1, HJ.out, by go_num, nn, rfl⟩
        case measure => have := HJ.out; simp [intOf]; omega
    · have hge : ¬ (j : Int) < (WK.length : Int) := by omega
      clear hlt hj
      have B10 : Below w.heap.size w (wl.drewN nn) := Below.next B9 (below_drew' _ _)
      obtain ⟨w10, hw10⟩ : ∃ x, x = wl.drewN nn := ⟨_, rfl⟩
      rw [← hw10] at B10 ⊢
      clear hw10
      go_wp2_with fail
      refine (HG1.out _ (h1.later B10)).mono ?_
      rintro e w11 ⟨Ag1, cg1, rfl, og1, b11⟩
      have B11 : Below w.heap.size w w11 := Below.next B10 b11
      go_wp2_with fail
      refine (HG2.out _ (h1.later B11)).mono ?_
      rintro e w12 ⟨Ag2, cg2, rfl, og2, b12⟩
      have B12 : Below w.heap.size w w12 := Below.next B11 b12
      have og1_12 := og1.below b12
      clear og1
      go_wp2_with fail
      refine (HE.out _ _ _ _ _ _ HQL.out og1_12.cells og2.cells).mono ?_
      rintro e w13 ⟨rfl, b13⟩
      have B13 : Below w.heap.size w w13 := Below.next B12 b13
      have og1_13 := og1_12.below b13
      clear og1_12
      have og2_13 := og2.below b13
      clear og2
      go_wp2_with fail
      refine (HK1.out _ _ _ og1_13.cells).mono ?_
      rintro e w14 ⟨Am1, cm1, rfl, om1, b14⟩
      have B14 : Below w.heap.size w w14 := Below.next B13 b14
      have og1_14 := og1_13.below b14
      clear og1_13
      go_wp2_with fail
      refine (HE.out _ _ _ _ _ _ hl1 om1.cells (h1.later B14)).mono ?_
      rintro e w15 ⟨rfl, b15⟩
      have B15 : Below w.heap.size w w15 := Below.next B14 b15
      have om1_15 := om1.below b15
      clear om1
      go_wp2_with fail
      refine (HN1.out _).mono ?_
      rintro e w16 ⟨An1, cn1, rfl, on1, b16⟩
      have B16 : Below w.heap.size w w16 := Below.next B15 b16
      go_wp2_with fail
      refine (HN2.out _).mono ?_
      rintro e w17 ⟨An2, cn2, rfl, on2, b17⟩
      have B17 : Below w.heap.size w w17 := Below.next B16 b17
      have on1_17 := on1.below b17
      clear on1
      go_wp2_with fail
      refine (HE.out _ _ _ _ _ _ HRL.out on1_17.cells on2.cells).mono ?_
      rintro e w18 ⟨rfl, b18⟩
      have B18 : Below w.heap.size w w18 := Below.next B17 b18
      have on1_18 := on1_17.below b18
      clear on1_17
      have on2_18 := on2.below b18
      clear on2
      go_wp2_with fail
      refine (HF1.out _ _ _ on1_18.cells).mono ?_
      rintro e w19 ⟨rfl, b19⟩
      have B19 : Below w.heap.size w w19 := Below.next B18 b19
      have on1_19 := on1_18.below b19
      clear on1_18
      go_wp2_with fail
      go_ret
      exact ⟨by first | rfl | exact ret_bool (by simp), B19⟩
end Go.Proofs.YtijfefahogcfmaaGreat
