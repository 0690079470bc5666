/-
  The walk of FnDoublesOfAll (made by genqd.py).
-/
import Derived.Test.YtelfapheigobeaaR20
import Derived.Test.YtelfapheigobeaaR33
import Derived.Test.YtelfapheigobeaaR34
import Derived.Test.YtelfapheigobeaaR40
import Derived.Test.YtelfapheigobeaaR19
import Derived.Test.YtelfapheigobeaaEsr
namespace Go.Proofs.Ytelfapheigobeaa
open Go.RowKit

theorem eSame_e (A B : Option Addr) (c d : Nat) (xs : List Int) (w : World) (hl : xs.length ≤ 1048576) (hA : Cells w A xs) (hB : Cells w B xs) :
    Calls Try.prog 6 #[.slice A xs.length c, .slice B xs.length d] w fun e w' => e = .returned (.bool true) ∧ Below w.heap.size w w' :=
  (eSame_any A B c d xs xs w hl hl hA hB).mono (by rintro e w' ⟨rfl, n, rfl⟩; exact ⟨by rw [decide_eq_true rfl], below_drew' _ _⟩)
set_option maxRecDepth 100000 in
set_option maxHeartbeats 16000000 in
theorem walkDoublesOfAll (A0 : Option Addr) (c0 : Nat) (p : List Int) (A1 : Option Addr) (c1 : Nat) (q : List Int) (w : World)
    (h0 : Cells w A0 p) (hcap0 : p.length ≤ c0) (hno0 : A0 = none → c0 = 0) (h1 : Cells w A1 q) :
    Calls Try.prog 3 #[.slice A0 p.length c0, .slice A1 q.length c1] w fun e w' => e = .returned (.bool true) ∧ Below w.heap.size w w' := by
  by_cases hbig : 10000 < p.length
  · have hb : (10000 : Int) < (p.length : Int) := by omega
    go_enter Try.func3, Try.ntmps3
    go_wp2_with fail
    go_ret
    exact ⟨rfl, Below.refl _ _⟩
  by_cases hbig1 : 10000 < q.length
  · have hb : (10000 : Int) < (q.length : Int) := by omega
    have hs : (p.length : Int) ≤ 10000 := by omega
    go_enter Try.func3, Try.ntmps3
    go_wp2_with fail
    go_ret
    exact ⟨rfl, Below.refl _ _⟩
  have hl0 : p.length ≤ 10000 := by omega
  have hl1 : q.length ≤ 10000 := by omega
  have hz0 : (p.length : Int) ≤ 10000 := by omega
  have hz1 : (q.length : Int) ≤ 10000 := by omega
  have hnn : A0 = none → p.length = 0 ∧ c0 = 0 := fun e => by have := hno0 e; omega
  clear hbig hbig1 hcap0 hno0
  have HE := hid fun A B c d (xs : List Int) W (hl : xs.length ≤ 10000) (hA : Cells W A xs) (hB : Cells W B xs) => eSame_e A B c d xs W (by omega) hA hB
  have HD1 := hid fun W (h : Cells W A0 p) => impl_DoubleOfC A0 c0 p W (by omega) hnn h
  have HD2 := hid fun W (h : Cells W A0 p) => spec_DoubleOfC A0 c0 p W (by omega) h
  have HG1 := hid fun W (h : Cells W A1 q) => impl_FromDouble A1 c1 q W (by omega) h
  have HG2 := hid fun W (h : Cells W A1 q) => spec_FromDouble A1 c1 q W (by omega) h
  have HJ1 := hid fun W (h : Cells W A1 q) => impl_IsDouble A1 c1 q W (by omega) h
  have HJ2 := hid fun W (h : Cells W A1 q) => spec_IsDouble A1 c1 q W (by omega) h
  cases hok : shB p
  · rw [hok] at HD1 HD2
    have hdb : dbF p = [] := by unfold dbF; rw [if_neg (by rw [hok]; decide)]
    rw [hdb] at HD1 HD2
    have HDL := hid (show ([] : List Int).length ≤ 10000 by simp)
    clear hdb hok hnn
    cases hone : fdB q
    · rw [hone] at HG1 HG2 HJ1 HJ2
      have hfd : fdF q = [] := by unfold fdF; rw [if_neg (by rw [hone]; decide)]
      rw [hfd] at HG1 HG2
      have HFL := hid (show ([] : List Int).length ≤ 10000 by simp)
      clear hfd hone
      cases hgq : good q
      · rw [hgq] at HJ1 HJ2
        clear hgq
        have B0 : Below w.heap.size w w := Below.refl _ _
        go_enter Try.func3, Try.ntmps3
        go_wp2_with fail
        refine (HD1.out _ (h0.later B0)).mono ?_
        rintro e w1 ⟨Ad1, cd1, rfl, od1, b1⟩
        have B1 : Below w.heap.size w w1 := Below.next B0 b1
        go_wp2_with fail
        refine (HD2.out _ (h0.later B1)).mono ?_
        rintro e w2 ⟨Ad2, cd2, rfl, od2, b2⟩
        have B2 : Below w.heap.size w w2 := Below.next B1 b2
        have od1_2 := od1.below b2
        clear od1
        go_wp2_with fail
        refine (HE.out _ _ _ _ _ _ HDL.out od1_2.cells od2.cells).mono ?_
        rintro e w3 ⟨rfl, b3⟩
        have B3 : Below w.heap.size w w3 := Below.next B2 b3
        have od1_3 := od1_2.below b3
        clear od1_2
        have od2_3 := od2.below b3
        clear od2
        go_wp2_with fail
        refine (HG1.out _ (h1.later B3)).mono ?_
        rintro e w4 ⟨Ag1, cg1, rfl, og1, b4⟩
        have B4 : Below w.heap.size w w4 := Below.next B3 b4
        go_wp2_with fail
        refine (HG2.out _ (h1.later B4)).mono ?_
        rintro e w5 ⟨Ag2, cg2, rfl, og2, b5⟩
        have B5 : Below w.heap.size w w5 := Below.next B4 b5
        have og1_5 := og1.below b5
        clear og1
        go_wp2_with fail
        refine (HJ1.out _ (h1.later B5)).mono ?_
        rintro e w6 ⟨rfl, b6⟩
        have B6 : Below w.heap.size w w6 := Below.next B5 b6
        have og1_6 := og1_5.below b6
        clear og1_5
        have og2_6 := og2.below b6
        clear og2
        go_wp2_with fail
        refine (HJ2.out _ (h1.later B6)).mono ?_
        rintro e w7 ⟨rfl, b7⟩
        have B7 : Below w.heap.size w w7 := Below.next B6 b7
        have og1_7 := og1_6.below b7
        clear og1_6
        have og2_7 := og2_6.below b7
        clear og2_6
        go_wp2_with fail
        refine (HE.out _ _ _ _ _ _ HFL.out og1_7.cells og2_7.cells).mono ?_
        rintro e w8 ⟨rfl, b8⟩
        have B8 : Below w.heap.size w w8 := Below.next B7 b8
        have og1_8 := og1_7.below b8
        clear og1_7
        have og2_8 := og2_7.below b8
        clear og2_7
        go_wp2_with fail
        go_ret
        exact ⟨by first | rfl | exact ret_bool (by simp), B8⟩
      · rw [hgq] at HJ1 HJ2
        clear hgq
        have B0 : Below w.heap.size w w := Below.refl _ _
        go_enter Try.func3, Try.ntmps3
        go_wp2_with fail
        refine (HD1.out _ (h0.later B0)).mono ?_
        rintro e w1 ⟨Ad1, cd1, rfl, od1, b1⟩
        have B1 : Below w.heap.size w w1 := Below.next B0 b1
        go_wp2_with fail
        refine (HD2.out _ (h0.later B1)).mono ?_
        rintro e w2 ⟨Ad2, cd2, rfl, od2, b2⟩
        have B2 : Below w.heap.size w w2 := Below.next B1 b2
        have od1_2 := od1.below b2
        clear od1
        go_wp2_with fail
        refine (HE.out _ _ _ _ _ _ HDL.out od1_2.cells od2.cells).mono ?_
        rintro e w3 ⟨rfl, b3⟩
        have B3 : Below w.heap.size w w3 := Below.next B2 b3
        have od1_3 := od1_2.below b3
        clear od1_2
        have od2_3 := od2.below b3
        clear od2
        go_wp2_with fail
        refine (HG1.out _ (h1.later B3)).mono ?_
        rintro e w4 ⟨Ag1, cg1, rfl, og1, b4⟩
        have B4 : Below w.heap.size w w4 := Below.next B3 b4
        go_wp2_with fail
        refine (HG2.out _ (h1.later B4)).mono ?_
        rintro e w5 ⟨Ag2, cg2, rfl, og2, b5⟩
        have B5 : Below w.heap.size w w5 := Below.next B4 b5
        have og1_5 := og1.below b5
        clear og1
        go_wp2_with fail
        refine (HJ1.out _ (h1.later B5)).mono ?_
        rintro e w6 ⟨rfl, b6⟩
        have B6 : Below w.heap.size w w6 := Below.next B5 b6
        have og1_6 := og1_5.below b6
        clear og1_5
        have og2_6 := og2.below b6
        clear og2
        go_wp2_with fail
        refine (HJ2.out _ (h1.later B6)).mono ?_
        rintro e w7 ⟨rfl, b7⟩
        have B7 : Below w.heap.size w w7 := Below.next B6 b7
        have og1_7 := og1_6.below b7
        clear og1_6
        have og2_7 := og2_6.below b7
        clear og2_6
        go_wp2_with fail
        refine (HE.out _ _ _ _ _ _ HFL.out og1_7.cells og2_7.cells).mono ?_
        rintro e w8 ⟨rfl, b8⟩
        have B8 : Below w.heap.size w w8 := Below.next B7 b8
        have og1_8 := og1_7.below b8
        clear og1_7
        have og2_8 := og2_7.below b8
        clear og2_7
        go_wp2_with fail
        go_ret
        exact ⟨by first | rfl | exact ret_bool (by simp), B8⟩
    · rw [hone] at HG1 HG2 HJ1 HJ2
      obtain ⟨g1, g2⟩ := dbl_two hone
      have hgq : good q = true := by have h := hone; unfold fdB at h; rw [Bool.and_eq_true] at h; exact h.1
      rw [hgq] at HJ1 HJ2
      have gl := (strB_good (shB_t g1).1).len
      have HFL := hid (show (fdF q).length ≤ 10000 by omega)
      have HM1 := hid fun B A c W (h : Own W B A c (fdF q)) => impl_DoubleOf (B := B) A c (fdF q) W (by omega) h
      rw [g1, g2] at HM1
      obtain ⟨F, hF⟩ : ∃ x, x = fdF q := ⟨_, rfl⟩
      rw [← hF] at HG1 HG2 HFL HM1
      clear hone g1 g2 hgq gl hF
      have B0 : Below w.heap.size w w := Below.refl _ _
      go_enter Try.func3, Try.ntmps3
      go_wp2_with fail
      refine (HD1.out _ (h0.later B0)).mono ?_
      rintro e w1 ⟨Ad1, cd1, rfl, od1, b1⟩
      have B1 : Below w.heap.size w w1 := Below.next B0 b1
      go_wp2_with fail
      refine (HD2.out _ (h0.later B1)).mono ?_
      rintro e w2 ⟨Ad2, cd2, rfl, od2, b2⟩
      have B2 : Below w.heap.size w w2 := Below.next B1 b2
      have od1_2 := od1.below b2
      clear od1
      go_wp2_with fail
      refine (HE.out _ _ _ _ _ _ HDL.out od1_2.cells od2.cells).mono ?_
      rintro e w3 ⟨rfl, b3⟩
      have B3 : Below w.heap.size w w3 := Below.next B2 b3
      have od1_3 := od1_2.below b3
      clear od1_2
      have od2_3 := od2.below b3
      clear od2
      go_wp2_with fail
      refine (HG1.out _ (h1.later B3)).mono ?_
      rintro e w4 ⟨Ag1, cg1, rfl, og1, b4⟩
      have B4 : Below w.heap.size w w4 := Below.next B3 b4
      go_wp2_with fail
      refine (HG2.out _ (h1.later B4)).mono ?_
      rintro e w5 ⟨Ag2, cg2, rfl, og2, b5⟩
      have B5 : Below w.heap.size w w5 := Below.next B4 b5
      have og1_5 := og1.below b5
      clear og1
      go_wp2_with fail
      refine (HJ1.out _ (h1.later B5)).mono ?_
      rintro e w6 ⟨rfl, b6⟩
      have B6 : Below w.heap.size w w6 := Below.next B5 b6
      have og1_6 := og1_5.below b6
      clear og1_5
      have og2_6 := og2.below b6
      clear og2
      go_wp2_with fail
      refine (HJ2.out _ (h1.later B6)).mono ?_
      rintro e w7 ⟨rfl, b7⟩
      have B7 : Below w.heap.size w w7 := Below.next B6 b7
      have og1_7 := og1_6.below b7
      clear og1_6
      have og2_7 := og2_6.below b7
      clear og2_6
      go_wp2_with fail
      refine (HE.out _ _ _ _ _ _ HFL.out og1_7.cells og2_7.cells).mono ?_
      rintro e w8 ⟨rfl, b8⟩
      have B8 : Below w.heap.size w w8 := Below.next B7 b8
      have og1_8 := og1_7.below b8
      clear og1_7
      have og2_8 := og2_7.below b8
      clear og2_7
      go_wp2_with fail
      refine (HM1.out _ _ _ _ og1_8).mono ?_
      rintro e w9 ⟨Am1, cm1, rfl, om1, b9⟩
      have B9 : Below w.heap.size w w9 := Below.next B8 b9
      have og1_9 := og1_8.below b9
      clear og1_8
      go_wp2_with fail
      refine (HE.out _ _ _ _ _ _ hl1 om1.cells (h1.later B9)).mono ?_
      rintro e w10 ⟨rfl, b10⟩
      have B10 : Below w.heap.size w w10 := Below.next B9 b10
      have om1_10 := om1.below b10
      clear om1
      go_wp2_with fail
      go_ret
      exact ⟨by first | rfl | exact ret_bool (by simp), B10⟩
  · rw [hok] at HD1 HD2
    obtain ⟨e1, e2, e3, e4⟩ := dbl_one hok
    obtain ⟨hst, h15⟩ := shB_t hok
    have G := strB_good hst
    have hs0 := G.sum0
    have hpl := G.len
    have GD := (good_iff _).1 e1
    have hdl := GD.len
    have hdb : dbF p = dbL p := by unfold dbF; rw [if_pos hok]
    rw [hdb] at HD1 HD2
    have HDL := hid (show (dbL p).length ≤ 10000 by omega)
    have HF1 := hid fun A c W (h : Cells W A (dbL p)) => impl_FromDouble A c (dbL p) W (by omega) h
    rw [e2, e3] at HF1
    have HI1 := hid fun A c W (h : Cells W A (dbL p)) => impl_IsDouble A c (dbL p) W (by omega) h
    rw [e1, e2] at HI1
    have HS1 := hid fun A c W (h : Cells W A (dbL p)) => eSum_any A (dbL p) c W hdl (fun j hj => by have := GD.pos j hj; have := GD.le j hj; omega) h
    rw [e4] at HS1
    have HS2 := hid fun W (h : Cells W A0 p) => eSum_any A0 p c0 W hpl (fun j hj => by have := G.pos j hj; have := G.le j hj; omega) h
    obtain ⟨f1, f2, f3, f4⟩ := dbl_core hok (t := 3) (.inl rfl)
    have HC3 := hid fun A c W (h : Cells W A (dbL p)) => impl_CoreOf A c (dbL p) 3 W (by omega) h ⟨by omega, by omega⟩
    rw [show crB (dbL p) 3 = true from f1, show coF (dbL p) 3 = dbF (bcF p 3) from f4] at HC3
    have HB3 := hid fun W (h : Cells W A0 p) => impl_BarCoreC A0 c0 p 3 W (by omega) hnn h ⟨by omega, by omega⟩
    rw [show brtB p 3 = true from f2] at HB3
    have gb3 := (strB_good (shB_t f3).1).len
    have HK3 := hid fun B A c W (h : Own W B A c (bcF p 3)) => impl_DoubleOf (B := B) A c (bcF p 3) W (by have : (bcF p 3).length ≤ 30 := gb3; omega) h
    rw [show shB (bcF p 3) = true from f3] at HK3
    have HL3 := hid (show (dbF (bcF p 3)).length ≤ 10000 by have := bound_DoubleOf (bcF p 3); rw [← (show coF (dbL p) 3 = dbF (bcF p 3) from f4), show coF (dbL p) 3 = coreL 3 (dbL p) from (co_yes (t := 3) f1).1]; have := coreL_len (t := 3) (by omega) (dbL p); omega)
    obtain ⟨X3, hX3⟩ : ∃ x, x = bcF p 3 := ⟨_, rfl⟩
    rw [← hX3] at HC3 HB3 HK3 HL3
    obtain ⟨Y3, hY3⟩ : ∃ x, x = dbF X3 := ⟨_, rfl⟩
    rw [← hY3] at HC3 HK3 HL3
    clear f1 f2 f3 f4 gb3 hX3 hY3
    obtain ⟨f1, f2, f3, f4⟩ := dbl_core hok (t := 5) (.inr rfl)
    have HC5 := hid fun A c W (h : Cells W A (dbL p)) => impl_CoreOf A c (dbL p) 5 W (by omega) h ⟨by omega, by omega⟩
    rw [show crB (dbL p) 5 = true from f1, show coF (dbL p) 5 = dbF (bcF p 5) from f4] at HC5
    have HB5 := hid fun W (h : Cells W A0 p) => impl_BarCoreC A0 c0 p 5 W (by omega) hnn h ⟨by omega, by omega⟩
    rw [show brtB p 5 = true from f2] at HB5
    have gb5 := (strB_good (shB_t f3).1).len
    have HK5 := hid fun B A c W (h : Own W B A c (bcF p 5)) => impl_DoubleOf (B := B) A c (bcF p 5) W (by have : (bcF p 5).length ≤ 30 := gb5; omega) h
    rw [show shB (bcF p 5) = true from f3] at HK5
    have HL5 := hid (show (dbF (bcF p 5)).length ≤ 10000 by have := bound_DoubleOf (bcF p 5); rw [← (show coF (dbL p) 5 = dbF (bcF p 5) from f4), show coF (dbL p) 5 = coreL 5 (dbL p) from (co_yes (t := 5) f1).1]; have := coreL_len (t := 5) (by omega) (dbL p); omega)
    obtain ⟨X5, hX5⟩ : ∃ x, x = bcF p 5 := ⟨_, rfl⟩
    rw [← hX5] at HC5 HB5 HK5 HL5
    obtain ⟨Y5, hY5⟩ : ∃ x, x = dbF X5 := ⟨_, rfl⟩
    rw [← hY5] at HC5 HK5 HL5
    clear f1 f2 f3 f4 gb5 hX5 hY5
    obtain ⟨D, hD⟩ : ∃ x, x = dbL p := ⟨_, rfl⟩
    rw [← hD] at HD1 HD2 HDL HF1 HI1 HS1 HC3 HC5
    obtain ⟨s, hs⟩ : ∃ s : Nat, p.sum = s := ⟨p.sum.toNat, by omega⟩
    rw [hs] at HS1 HS2
    have hs15 : (s : Int) ≤ 15 := by omega
    clear e1 e2 e3 e4 hst h15 G hs0 hpl GD hdl hdb hD hs hok hnn
    cases hone : fdB q
    · rw [hone] at HG1 HG2 HJ1 HJ2
      have hfd : fdF q = [] := by unfold fdF; rw [if_neg (by rw [hone]; decide)]
      rw [hfd] at HG1 HG2
      have HFL := hid (show ([] : List Int).length ≤ 10000 by simp)
      clear hfd hone
      cases hgq : good q
      · rw [hgq] at HJ1 HJ2
        clear hgq
        have B0 : Below w.heap.size w w := Below.refl _ _
        go_enter Try.func3, Try.ntmps3
        go_wp2_with fail
        refine (HD1.out _ (h0.later B0)).mono ?_
        rintro e w1 ⟨Ad1, cd1, rfl, od1, b1⟩
        have B1 : Below w.heap.size w w1 := Below.next B0 b1
        go_wp2_with fail
        refine (HD2.out _ (h0.later B1)).mono ?_
        rintro e w2 ⟨Ad2, cd2, rfl, od2, b2⟩
        have B2 : Below w.heap.size w w2 := Below.next B1 b2
        have od1_2 := od1.below b2
        clear od1
        go_wp2_with fail
        refine (HE.out _ _ _ _ _ _ HDL.out od1_2.cells od2.cells).mono ?_
        rintro e w3 ⟨rfl, b3⟩
        have B3 : Below w.heap.size w w3 := Below.next B2 b3
        have od1_3 := od1_2.below b3
        clear od1_2
        have od2_3 := od2.below b3
        clear od2
        go_wp2_with fail
        refine (HF1.out _ _ _ od1_3.cells).mono ?_
        rintro e w4 ⟨Af1, cf1, rfl, of1, b4⟩
        have B4 : Below w.heap.size w w4 := Below.next B3 b4
        have od1_4 := od1_3.below b4
        clear od1_3
        go_wp2_with fail
        refine (HI1.out _ _ _ od1_4.cells).mono ?_
        rintro e w5 ⟨rfl, b5⟩
        have B5 : Below w.heap.size w w5 := Below.next B4 b5
        have od1_5 := od1_4.below b5
        clear od1_4
        have of1_5 := of1.below b5
        clear of1
        go_wp2_with fail
        refine (HE.out _ _ _ _ _ _ hl0 of1_5.cells (h0.later B5)).mono ?_
        rintro e w6 ⟨rfl, b6⟩
        have B6 : Below w.heap.size w w6 := Below.next B5 b6
        have od1_6 := od1_5.below b6
        clear od1_5
        have of1_6 := of1_5.below b6
        clear of1_5
        go_wp2_with fail
        refine (HS1.out _ _ _ od1_6.cells).mono ?_
        rintro e w' ⟨rfl, rfl⟩
        go_wp2_with fail
        refine (HS2.out _ (h0.later B6)).mono ?_
        rintro e w' ⟨rfl, rfl⟩
        go_wp2_with fail
        obtain ⟨wl, hwl⟩ : ∃ x, x = w6.alloc (.cells #[.int .i64 3, .int .i64 5] 3) := ⟨_, rfl⟩
        have bl : Below w6.heap.size w6 wl := by rw [hwl]; exact (Below.refl _ _).alloc (Nat.le_refl _) _
        have yl : Box2 wl w6.heap.size 3 (.int .i64 3) (.int .i64 5) := by rw [hwl]; exact Box2.new _ _ _ _
        have BL : Below w.heap.size w wl := Below.next B6 bl
        have HDO := hid (od1_6.below bl)
        obtain ⟨gl, hgl⟩ : ∃ g, g = w6.heap.size := ⟨_, rfl⟩
        rw [← hwl, ← hgl]
        rw [← hgl] at yl
        clear hwl hgl bl
        have HYL := hid yl
        clear yl
        go_loopw [95] (fun i wr => ∃ k : Nat, k ≤ 2 ∧ i = .int .i64 k ∧ Below wl.heap.size wl wr) (fun i _ => 2 - (intOf i).toNat)
        case atStart => exact ⟨0, by omega, rfl, Below.refl _ _⟩
        case round =>
          obtain ⟨k, hk, rfl, hbr⟩ := hrel
          have hy := HYL.out.next hbr
          have y0 := hy.cell0
          have y1 := hy.cell1
          have HBR := hid hbr
          have HOD := hid (HDO.out.below hbr)
          clear hbr hy
          by_cases hlt : k < 2
          · rcases Nat.lt_or_ge k 1 with hk0 | hk0
            · obtain rfl : k = 0 := by omega
              clear hk hlt hk0
              go_wp2_with fail
              refine (HC3.out _ _ _ HOD.out.cells).mono ?_
              rintro e v1 ⟨Ac, cc, rfl, oc, d1⟩
              go_wp2_with fail
              refine (HB3.out _ (h0.later (Below.next (Below.next BL HBR.out) d1))).mono ?_
              rintro e v2 ⟨Ab, cb, rfl, ob, d2⟩
              go_wp2_with fail
              refine (HK3.out _ _ _ _ ob).mono ?_
              rintro e v3 ⟨Ak, ck, rfl, ok, d3⟩
              go_wp2_with fail
              refine (HE.out _ _ _ _ _ _ HL3.out (((oc.below d2).below d3).cells) ok.cells).mono ?_
              rintro e v4 ⟨rfl, d4⟩
              have HD := hid (Below.next (Below.next (Below.next (Below.next HBR.out d1) d2) d3) d4)
              clear oc ob ok d1 d2 d3 d4
              go_wp2_with fail
              go_roundw
              case rel => exact ⟨1, by omega, by go_num, HD.out⟩
              case measure => simp [intOf]
            · obtain rfl : k = 1 := by omega
              clear hk hlt hk0
              go_wp2_with fail
              refine (HC5.out _ _ _ HOD.out.cells).mono ?_
              rintro e v1 ⟨Ac, cc, rfl, oc, d1⟩
              go_wp2_with fail
              refine (HB5.out _ (h0.later (Below.next (Below.next BL HBR.out) d1))).mono ?_
              rintro e v2 ⟨Ab, cb, rfl, ob, d2⟩
              go_wp2_with fail
              refine (HK5.out _ _ _ _ ob).mono ?_
              rintro e v3 ⟨Ak, ck, rfl, ok, d3⟩
              go_wp2_with fail
              refine (HE.out _ _ _ _ _ _ HL5.out (((oc.below d2).below d3).cells) ok.cells).mono ?_
              rintro e v4 ⟨rfl, d4⟩
              have HD := hid (Below.next (Below.next (Below.next (Below.next HBR.out d1) d2) d3) d4)
              clear oc ob ok d1 d2 d3 d4
              go_wp2_with fail
              go_roundw
              case rel => exact ⟨2, by omega, by go_num, HD.out⟩
              case measure => simp [intOf]
          · obtain rfl : k = 2 := by omega
            clear hk hlt y0 y1
            have B7 : Below w.heap.size w wr := Below.next BL HBR.out
            obtain ⟨w7, hw7⟩ : ∃ x, x = wr := ⟨_, rfl⟩
            rw [← hw7] at B7 ⊢
            clear hw7 HBR HOD
            go_wp2_with fail
            refine (HG1.out _ (h1.later B7)).mono ?_
            rintro e w8 ⟨Ag1, cg1, rfl, og1, b8⟩
            have B8 : Below w.heap.size w w8 := Below.next B7 b8
            go_wp2_with fail
            refine (HG2.out _ (h1.later B8)).mono ?_
            rintro e w9 ⟨Ag2, cg2, rfl, og2, b9⟩
            have B9 : Below w.heap.size w w9 := Below.next B8 b9
            have og1_9 := og1.below b9
            clear og1
            go_wp2_with fail
            refine (HJ1.out _ (h1.later B9)).mono ?_
            rintro e w10 ⟨rfl, b10⟩
            have B10 : Below w.heap.size w w10 := Below.next B9 b10
            have og1_10 := og1_9.below b10
            clear og1_9
            have og2_10 := og2.below b10
            clear og2
            go_wp2_with fail
            refine (HJ2.out _ (h1.later B10)).mono ?_
            rintro e w11 ⟨rfl, b11⟩
            have B11 : Below w.heap.size w w11 := Below.next B10 b11
            have og1_11 := og1_10.below b11
            clear og1_10
            have og2_11 := og2_10.below b11
            clear og2_10
            go_wp2_with fail
            refine (HE.out _ _ _ _ _ _ HFL.out og1_11.cells og2_11.cells).mono ?_
            rintro e w12 ⟨rfl, b12⟩
            have B12 : Below w.heap.size w w12 := Below.next B11 b12
            have og1_12 := og1_11.below b12
            clear og1_11
            have og2_12 := og2_11.below b12
            clear og2_11
            go_wp2_with fail
            go_ret
            exact ⟨by first | rfl | exact ret_bool (by simp), B12⟩
      · rw [hgq] at HJ1 HJ2
        clear hgq
        have B0 : Below w.heap.size w w := Below.refl _ _
        go_enter Try.func3, Try.ntmps3
        go_wp2_with fail
        refine (HD1.out _ (h0.later B0)).mono ?_
        rintro e w1 ⟨Ad1, cd1, rfl, od1, b1⟩
        have B1 : Below w.heap.size w w1 := Below.next B0 b1
        go_wp2_with fail
        refine (HD2.out _ (h0.later B1)).mono ?_
        rintro e w2 ⟨Ad2, cd2, rfl, od2, b2⟩
        have B2 : Below w.heap.size w w2 := Below.next B1 b2
        have od1_2 := od1.below b2
        clear od1
        go_wp2_with fail
        refine (HE.out _ _ _ _ _ _ HDL.out od1_2.cells od2.cells).mono ?_
        rintro e w3 ⟨rfl, b3⟩
        have B3 : Below w.heap.size w w3 := Below.next B2 b3
        have od1_3 := od1_2.below b3
        clear od1_2
        have od2_3 := od2.below b3
        clear od2
        go_wp2_with fail
        refine (HF1.out _ _ _ od1_3.cells).mono ?_
        rintro e w4 ⟨Af1, cf1, rfl, of1, b4⟩
        have B4 : Below w.heap.size w w4 := Below.next B3 b4
        have od1_4 := od1_3.below b4
        clear od1_3
        go_wp2_with fail
        refine (HI1.out _ _ _ od1_4.cells).mono ?_
        rintro e w5 ⟨rfl, b5⟩
        have B5 : Below w.heap.size w w5 := Below.next B4 b5
        have od1_5 := od1_4.below b5
        clear od1_4
        have of1_5 := of1.below b5
        clear of1
        go_wp2_with fail
        refine (HE.out _ _ _ _ _ _ hl0 of1_5.cells (h0.later B5)).mono ?_
        rintro e w6 ⟨rfl, b6⟩
        have B6 : Below w.heap.size w w6 := Below.next B5 b6
        have od1_6 := od1_5.below b6
        clear od1_5
        have of1_6 := of1_5.below b6
        clear of1_5
        go_wp2_with fail
        refine (HS1.out _ _ _ od1_6.cells).mono ?_
        rintro e w' ⟨rfl, rfl⟩
        go_wp2_with fail
        refine (HS2.out _ (h0.later B6)).mono ?_
        rintro e w' ⟨rfl, rfl⟩
        go_wp2_with fail
        obtain ⟨wl, hwl⟩ : ∃ x, x = w6.alloc (.cells #[.int .i64 3, .int .i64 5] 3) := ⟨_, rfl⟩
        have bl : Below w6.heap.size w6 wl := by rw [hwl]; exact (Below.refl _ _).alloc (Nat.le_refl _) _
        have yl : Box2 wl w6.heap.size 3 (.int .i64 3) (.int .i64 5) := by rw [hwl]; exact Box2.new _ _ _ _
        have BL : Below w.heap.size w wl := Below.next B6 bl
        have HDO := hid (od1_6.below bl)
        obtain ⟨gl, hgl⟩ : ∃ g, g = w6.heap.size := ⟨_, rfl⟩
        rw [← hwl, ← hgl]
        rw [← hgl] at yl
        clear hwl hgl bl
        have HYL := hid yl
        clear yl
        go_loopw [95] (fun i wr => ∃ k : Nat, k ≤ 2 ∧ i = .int .i64 k ∧ Below wl.heap.size wl wr) (fun i _ => 2 - (intOf i).toNat)
        case atStart => exact ⟨0, by omega, rfl, Below.refl _ _⟩
        case round =>
          obtain ⟨k, hk, rfl, hbr⟩ := hrel
          have hy := HYL.out.next hbr
          have y0 := hy.cell0
          have y1 := hy.cell1
          have HBR := hid hbr
          have HOD := hid (HDO.out.below hbr)
          clear hbr hy
          by_cases hlt : k < 2
          · rcases Nat.lt_or_ge k 1 with hk0 | hk0
            · obtain rfl : k = 0 := by omega
              clear hk hlt hk0
              go_wp2_with fail
              refine (HC3.out _ _ _ HOD.out.cells).mono ?_
              rintro e v1 ⟨Ac, cc, rfl, oc, d1⟩
              go_wp2_with fail
              refine (HB3.out _ (h0.later (Below.next (Below.next BL HBR.out) d1))).mono ?_
              rintro e v2 ⟨Ab, cb, rfl, ob, d2⟩
              go_wp2_with fail
              refine (HK3.out _ _ _ _ ob).mono ?_
              rintro e v3 ⟨Ak, ck, rfl, ok, d3⟩
              go_wp2_with fail
              refine (HE.out _ _ _ _ _ _ HL3.out (((oc.below d2).below d3).cells) ok.cells).mono ?_
              rintro e v4 ⟨rfl, d4⟩
              have HD := hid (Below.next (Below.next (Below.next (Below.next HBR.out d1) d2) d3) d4)
              clear oc ob ok d1 d2 d3 d4
              go_wp2_with fail
              go_roundw
              case rel => exact ⟨1, by omega, by go_num, HD.out⟩
              case measure => simp [intOf]
            · obtain rfl : k = 1 := by omega
              clear hk hlt hk0
              go_wp2_with fail
              refine (HC5.out _ _ _ HOD.out.cells).mono ?_
              rintro e v1 ⟨Ac, cc, rfl, oc, d1⟩
              go_wp2_with fail
              refine (HB5.out _ (h0.later (Below.next (Below.next BL HBR.out) d1))).mono ?_
              rintro e v2 ⟨Ab, cb, rfl, ob, d2⟩
              go_wp2_with fail
              refine (HK5.out _ _ _ _ ob).mono ?_
              rintro e v3 ⟨Ak, ck, rfl, ok, d3⟩
              go_wp2_with fail
              refine (HE.out _ _ _ _ _ _ HL5.out (((oc.below d2).below d3).cells) ok.cells).mono ?_
              rintro e v4 ⟨rfl, d4⟩
              have HD := hid (Below.next (Below.next (Below.next (Below.next HBR.out d1) d2) d3) d4)
              clear oc ob ok d1 d2 d3 d4
              go_wp2_with fail
              go_roundw
              case rel => exact ⟨2, by omega, by go_num, HD.out⟩
              case measure => simp [intOf]
          · obtain rfl : k = 2 := by omega
            clear hk hlt y0 y1
            have B7 : Below w.heap.size w wr := Below.next BL HBR.out
            obtain ⟨w7, hw7⟩ : ∃ x, x = wr := ⟨_, rfl⟩
            rw [← hw7] at B7 ⊢
            clear hw7 HBR HOD
            go_wp2_with fail
            refine (HG1.out _ (h1.later B7)).mono ?_
            rintro e w8 ⟨Ag1, cg1, rfl, og1, b8⟩
            have B8 : Below w.heap.size w w8 := Below.next B7 b8
            go_wp2_with fail
            refine (HG2.out _ (h1.later B8)).mono ?_
            rintro e w9 ⟨Ag2, cg2, rfl, og2, b9⟩
            have B9 : Below w.heap.size w w9 := Below.next B8 b9
            have og1_9 := og1.below b9
            clear og1
            go_wp2_with fail
            refine (HJ1.out _ (h1.later B9)).mono ?_
            rintro e w10 ⟨rfl, b10⟩
            have B10 : Below w.heap.size w w10 := Below.next B9 b10
            have og1_10 := og1_9.below b10
            clear og1_9
            have og2_10 := og2.below b10
            clear og2
            go_wp2_with fail
            refine (HJ2.out _ (h1.later B10)).mono ?_
            rintro e w11 ⟨rfl, b11⟩
            have B11 : Below w.heap.size w w11 := Below.next B10 b11
            have og1_11 := og1_10.below b11
            clear og1_10
            have og2_11 := og2_10.below b11
            clear og2_10
            go_wp2_with fail
            refine (HE.out _ _ _ _ _ _ HFL.out og1_11.cells og2_11.cells).mono ?_
            rintro e w12 ⟨rfl, b12⟩
            have B12 : Below w.heap.size w w12 := Below.next B11 b12
            have og1_12 := og1_11.below b12
            clear og1_11
            have og2_12 := og2_11.below b12
            clear og2_11
            go_wp2_with fail
            go_ret
            exact ⟨by first | rfl | exact ret_bool (by simp), B12⟩
    · rw [hone] at HG1 HG2 HJ1 HJ2
      obtain ⟨g1, g2⟩ := dbl_two hone
      have hgq : good q = true := by have h := hone; unfold fdB at h; rw [Bool.and_eq_true] at h; exact h.1
      rw [hgq] at HJ1 HJ2
      have gl := (strB_good (shB_t g1).1).len
      have HFL := hid (show (fdF q).length ≤ 10000 by omega)
      have HM1 := hid fun B A c W (h : Own W B A c (fdF q)) => impl_DoubleOf (B := B) A c (fdF q) W (by omega) h
      rw [g1, g2] at HM1
      obtain ⟨F, hF⟩ : ∃ x, x = fdF q := ⟨_, rfl⟩
      rw [← hF] at HG1 HG2 HFL HM1
      clear hone g1 g2 hgq gl hF
      have B0 : Below w.heap.size w w := Below.refl _ _
      go_enter Try.func3, Try.ntmps3
      go_wp2_with fail
      refine (HD1.out _ (h0.later B0)).mono ?_
      rintro e w1 ⟨Ad1, cd1, rfl, od1, b1⟩
      have B1 : Below w.heap.size w w1 := Below.next B0 b1
      go_wp2_with fail
      refine (HD2.out _ (h0.later B1)).mono ?_
      rintro e w2 ⟨Ad2, cd2, rfl, od2, b2⟩
      have B2 : Below w.heap.size w w2 := Below.next B1 b2
      have od1_2 := od1.below b2
      clear od1
      go_wp2_with fail
      refine (HE.out _ _ _ _ _ _ HDL.out od1_2.cells od2.cells).mono ?_
      rintro e w3 ⟨rfl, b3⟩
      have B3 : Below w.heap.size w w3 := Below.next B2 b3
      have od1_3 := od1_2.below b3
      clear od1_2
      have od2_3 := od2.below b3
      clear od2
      go_wp2_with fail
      refine (HF1.out _ _ _ od1_3.cells).mono ?_
      rintro e w4 ⟨Af1, cf1, rfl, of1, b4⟩
      have B4 : Below w.heap.size w w4 := Below.next B3 b4
      have od1_4 := od1_3.below b4
      clear od1_3
      go_wp2_with fail
      refine (HI1.out _ _ _ od1_4.cells).mono ?_
      rintro e w5 ⟨rfl, b5⟩
      have B5 : Below w.heap.size w w5 := Below.next B4 b5
      have od1_5 := od1_4.below b5
      clear od1_4
      have of1_5 := of1.below b5
      clear of1
      go_wp2_with fail
      refine (HE.out _ _ _ _ _ _ hl0 of1_5.cells (h0.later B5)).mono ?_
      rintro e w6 ⟨rfl, b6⟩
      have B6 : Below w.heap.size w w6 := Below.next B5 b6
      have od1_6 := od1_5.below b6
      clear od1_5
      have of1_6 := of1_5.below b6
      clear of1_5
      go_wp2_with fail
      refine (HS1.out _ _ _ od1_6.cells).mono ?_
      rintro e w' ⟨rfl, rfl⟩
      go_wp2_with fail
      refine (HS2.out _ (h0.later B6)).mono ?_
      rintro e w' ⟨rfl, rfl⟩
      go_wp2_with fail
      obtain ⟨wl, hwl⟩ : ∃ x, x = w6.alloc (.cells #[.int .i64 3, .int .i64 5] 3) := ⟨_, rfl⟩
      have bl : Below w6.heap.size w6 wl := by rw [hwl]; exact (Below.refl _ _).alloc (Nat.le_refl _) _
      have yl : Box2 wl w6.heap.size 3 (.int .i64 3) (.int .i64 5) := by rw [hwl]; exact Box2.new _ _ _ _
      have BL : Below w.heap.size w wl := Below.next B6 bl
      have HDO := hid (od1_6.below bl)
      obtain ⟨gl, hgl⟩ : ∃ g, g = w6.heap.size := ⟨_, rfl⟩
      rw [← hwl, ← hgl]
      rw [← hgl] at yl
      clear hwl hgl bl
      have HYL := hid yl
      clear yl
      go_loopw [95] (fun i wr => ∃ k : Nat, k ≤ 2 ∧ i = .int .i64 k ∧ Below wl.heap.size wl wr) (fun i _ => 2 - (intOf i).toNat)
      case atStart => exact ⟨0, by omega, rfl, Below.refl _ _⟩
      case round =>
        obtain ⟨k, hk, rfl, hbr⟩ := hrel
        have hy := HYL.out.next hbr
        have y0 := hy.cell0
        have y1 := hy.cell1
        have HBR := hid hbr
        have HOD := hid (HDO.out.below hbr)
        clear hbr hy
        by_cases hlt : k < 2
        · rcases Nat.lt_or_ge k 1 with hk0 | hk0
          · obtain rfl : k = 0 := by omega
            clear hk hlt hk0
            go_wp2_with fail
            refine (HC3.out _ _ _ HOD.out.cells).mono ?_
            rintro e v1 ⟨Ac, cc, rfl, oc, d1⟩
            go_wp2_with fail
            refine (HB3.out _ (h0.later (Below.next (Below.next BL HBR.out) d1))).mono ?_
            rintro e v2 ⟨Ab, cb, rfl, ob, d2⟩
            go_wp2_with fail
            refine (HK3.out _ _ _ _ ob).mono ?_
            rintro e v3 ⟨Ak, ck, rfl, ok, d3⟩
            go_wp2_with fail
            refine (HE.out _ _ _ _ _ _ HL3.out (((oc.below d2).below d3).cells) ok.cells).mono ?_
            rintro e v4 ⟨rfl, d4⟩
            have HD := hid (Below.next (Below.next (Below.next (Below.next HBR.out d1) d2) d3) d4)
            clear oc ob ok d1 d2 d3 d4
            go_wp2_with fail
            go_roundw
            case rel => exact ⟨1, by omega, by go_num, HD.out⟩
            case measure => simp [intOf]
          · obtain rfl : k = 1 := by omega
            clear hk hlt hk0
            go_wp2_with fail
            refine (HC5.out _ _ _ HOD.out.cells).mono ?_
            rintro e v1 ⟨Ac, cc, rfl, oc, d1⟩
            go_wp2_with fail
            refine (HB5.out _ (h0.later (Below.next (Below.next BL HBR.out) d1))).mono ?_
            rintro e v2 ⟨Ab, cb, rfl, ob, d2⟩
            go_wp2_with fail
            refine (HK5.out _ _ _ _ ob).mono ?_
            rintro e v3 ⟨Ak, ck, rfl, ok, d3⟩
            go_wp2_with fail
            refine (HE.out _ _ _ _ _ _ HL5.out (((oc.below d2).below d3).cells) ok.cells).mono ?_
            rintro e v4 ⟨rfl, d4⟩
            have HD := hid (Below.next (Below.next (Below.next (Below.next HBR.out d1) d2) d3) d4)
            clear oc ob ok d1 d2 d3 d4
            go_wp2_with fail
            go_roundw
            case rel => exact ⟨2, by omega, by go_num, HD.out⟩
            case measure => simp [intOf]
        · obtain rfl : k = 2 := by omega
          clear hk hlt y0 y1
          have B7 : Below w.heap.size w wr := Below.next BL HBR.out
          obtain ⟨w7, hw7⟩ : ∃ x, x = wr := ⟨_, rfl⟩
          rw [← hw7] at B7 ⊢
          clear hw7 HBR HOD
          go_wp2_with fail
          refine (HG1.out _ (h1.later B7)).mono ?_
          rintro e w8 ⟨Ag1, cg1, rfl, og1, b8⟩
          have B8 : Below w.heap.size w w8 := Below.next B7 b8
          go_wp2_with fail
          refine (HG2.out _ (h1.later B8)).mono ?_
          rintro e w9 ⟨Ag2, cg2, rfl, og2, b9⟩
          have B9 : Below w.heap.size w w9 := Below.next B8 b9
          have og1_9 := og1.below b9
          clear og1
          go_wp2_with fail
          refine (HJ1.out _ (h1.later B9)).mono ?_
          rintro e w10 ⟨rfl, b10⟩
          have B10 : Below w.heap.size w w10 := Below.next B9 b10
          have og1_10 := og1_9.below b10
          clear og1_9
          have og2_10 := og2.below b10
          clear og2
          go_wp2_with fail
          refine (HJ2.out _ (h1.later B10)).mono ?_
          rintro e w11 ⟨rfl, b11⟩
          have B11 : Below w.heap.size w w11 := Below.next B10 b11
          have og1_11 := og1_10.below b11
          clear og1_10
          have og2_11 := og2_10.below b11
          clear og2_10
          go_wp2_with fail
          refine (HE.out _ _ _ _ _ _ HFL.out og1_11.cells og2_11.cells).mono ?_
          rintro e w12 ⟨rfl, b12⟩
          have B12 : Below w.heap.size w w12 := Below.next B11 b12
          have og1_12 := og1_11.below b12
          clear og1_11
          have og2_12 := og2_11.below b12
          clear og2_11
          go_wp2_with fail
          refine (HM1.out _ _ _ _ og1_12).mono ?_
          rintro e w13 ⟨Am1, cm1, rfl, om1, b13⟩
          have B13 : Below w.heap.size w w13 := Below.next B12 b13
          have og1_13 := og1_12.below b13
          clear og1_12
          go_wp2_with fail
          refine (HE.out _ _ _ _ _ _ hl1 om1.cells (h1.later B13)).mono ?_
          rintro e w14 ⟨rfl, b14⟩
          have B14 : Below w.heap.size w w14 := Below.next B13 b14
          have om1_14 := om1.below b14
          clear om1
          go_wp2_with fail
          go_ret
          exact ⟨by first | rfl | exact ret_bool (by simp), B14⟩
end Go.Proofs.Ytelfapheigobeaa
