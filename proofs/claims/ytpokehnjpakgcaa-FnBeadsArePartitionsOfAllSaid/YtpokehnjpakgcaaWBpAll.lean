/-
  The walk of FnBeadsArePartitionsOfAll (made by genbp.py).
-/
import Derived.Test.YtpokehnjpakgcaaMyMath
import Derived.Test.YtpokehnjpakgcaaUnC
import Derived.Test.YtpokehnjpakgcaaShift
namespace Go.Proofs.Ytpokehnjpakgcaa
open Go.RowKit

set_option maxHeartbeats 1000000 in
theorem eSame_t (A B : Option Addr) (c d : Nat) (xs : List Int) (w : World) (hl : xs.length ≤ 1048576) (hA : Cells w A xs) (hB : Cells w B xs) :
    Calls Try.prog 6 #[.slice A xs.length c, .slice B xs.length d] w fun e w' => e = .returned (.bool true) ∧ Below w.heap.size w w' := by
  go_enter Try.func6, Try.ntmps6
  go_wp2_with fail
  go_loopw [13] (fun i wr => ∃ k : Nat, k ≤ xs.length ∧ i = .int .i64 k ∧ ∃ n, wr = w.drewN n) (fun i _ => xs.length - (intOf i).toNat)
  case atStart => exact ⟨0, Nat.zero_le _, rfl, 0, rfl⟩
  case round =>
    obtain ⟨k, hk, rfl, n, rfl⟩ := hrel
    by_cases hlt : k < xs.length
    · obtain ⟨b, o, rfl, hcc⟩ := hA (by omega)
      obtain ⟨b2, o2, rfl, hcc2⟩ := hB (by omega)
      have hck := hcc k hlt
      have hck2 := hcc2 k hlt
      clear hcc hcc2
      obtain ⟨x, hx⟩ : ∃ x, x = xs.getD k 0 := ⟨_, rfl⟩
      rw [← hx] at hck hck2
      clear hx
      go_wp2_with fail
      go_quiet (fail)
      go_wp2_with fail
      go_roundw
      case rel => exact ⟨k + 1, by omega, by go_num, _, rfl⟩
      case measure => simp [intOf]; omega
    · go_wp2_with fail
      go_ret
      exact ⟨rfl, below_drew' _ _⟩
set_option maxHeartbeats 400000 in
theorem eSum_any (A : Option Addr) (xs : List Int) (c : Nat) (w : World) (hl : xs.length ≤ 30) (hb : ∀ j, j < xs.length → 0 ≤ xs.getD j 0 ∧ xs.getD j 0 ≤ 1000) (hc : Cells w A xs) :
    Calls Try.prog 16 #[.slice A xs.length c] w fun e w' => e = .returned (.int .i64 xs.sum) ∧ w = w' := by
  have HB := hid hb; clear hb
  go_enter Try.func16, Try.ntmps16
  go_wp2
  go_loop [3, 8] (fun s i => ∃ k : Nat, k ≤ xs.length ∧ i = .int .i64 k ∧ s = .int .i64 (xs.take k).sum) (fun _ i => xs.length - (intOf i).toNat)
  case atStart => exact ⟨0, Nat.zero_le _, rfl, by simp⟩
  case round =>
    obtain ⟨k, hk, rfl, rfl⟩ := hrel
    have hsb := sum_take_bound xs 1000 HB.out (by omega) k
    obtain ⟨s, hs⟩ : ∃ s, s = (xs.take k).sum := ⟨_, rfl⟩
    rw [← hs] at hsb ⊢
    have HS := hid hs; clear hs
    by_cases hlt : k < xs.length
    · obtain ⟨b, o, rfl, hcc⟩ := hc (by omega)
      have hck := hcc k hlt
      have hxb := HB.out k hlt
      clear hcc hc
      obtain ⟨x, hx⟩ : ∃ x, x = xs.getD k 0 := ⟨_, rfl⟩
      rw [← hx] at hck hxb
      have HX := hid hx; clear hx
      go_wp2
      go_round
      case rel => exact ⟨k + 1, by omega, by go_num, by rw [sum_take_succ xs k hlt, ← HS.out, ← HX.out]⟩
      case measure => simp [intOf]; omega
    · go_wp2
      go_ret
      exact ⟨ret_int (by rw [HS.out, List.take_of_length_le (by omega)]), rfl⟩


set_option maxRecDepth 100000 in
set_option maxHeartbeats 16000000 in
theorem walkBeadsArePartitionsOfAll (A0 : Option Addr) (c0 : Nat) (p : List Int) (n : Int) (A2 : Option Addr) (c2 : Nat) (b : List Int) (s : Int) (A4 : Option Addr) (c4 : Nat) (x : List Int) (A5 : Option Addr) (c5 : Nat) (m : List Int) (A6 : Option Addr) (c6 : Nat) (z : List Int) (w : World)
    (h0 : Cells w A0 p) (hn : I64 n) (h2 : Cells w A2 b) (hs : I64 s) (h4 : Cells w A4 x) (h5 : Cells w A5 m) (hcap5 : m.length ≤ c5) (hno5 : A5 = none → c5 = 0) (h6 : Cells w A6 z) :
    Calls Try.prog 3 #[.slice A0 p.length c0, .int .i64 n, .slice A2 b.length c2, .int .i64 s, .slice A4 x.length c4, .slice A5 m.length c5, .slice A6 z.length c6] w fun e w' => e = .returned (.bool true) ∧ Below w.heap.size w w' := by
  by_cases hbigp : 10000 < p.length
  · go_enter Try.func3, Try.ntmps3
    go_wp2_with fail
    go_ret
    exact ⟨rfl, Below.refl _ _⟩
  have hlp : p.length ≤ 10000 := by omega
  clear hbigp
  by_cases hbigb : 10000 < b.length
  · go_enter Try.func3, Try.ntmps3
    go_wp2_with fail
    go_ret
    exact ⟨rfl, Below.refl _ _⟩
  have hlb : b.length ≤ 10000 := by omega
  clear hbigb
  by_cases hbigx : 10000 < x.length
  · go_enter Try.func3, Try.ntmps3
    go_wp2_with fail
    go_ret
    exact ⟨rfl, Below.refl _ _⟩
  have hlx : x.length ≤ 10000 := by omega
  clear hbigx
  by_cases hbigm : 10000 < m.length
  · go_enter Try.func3, Try.ntmps3
    go_wp2_with fail
    go_ret
    exact ⟨rfl, Below.refl _ _⟩
  have hlm : m.length ≤ 10000 := by omega
  clear hbigm
  by_cases hbigz : 10000 < z.length
  · go_enter Try.func3, Try.ntmps3
    go_wp2_with fail
    go_ret
    exact ⟨rfl, Below.refl _ _⟩
  have hlz : z.length ≤ 10000 := by omega
  clear hbigz
  have HB1 := hid fun W (h : Cells W A0 p) => impl_BeadsOf A0 c0 p n W (by omega) h hn
  have HB2 := hid fun W (h : Cells W A0 p) => spec_BeadsOf A0 c0 p n W (by omega) h hn
  have HQB := hid fun A B c d W (hA : Cells W A (beadsF p n)) (hB : Cells W B (beadsF p n)) => eSame_t A B c d (beadsF p n) W (bound_BeadsOf p n) hA hB
  have HF1 := hid fun A c W (h : Cells W A (beadsF p n)) => impl_FromBeads A c (beadsF p n) W (bound_BeadsOf p n) h
  have HL1 := hid fun A c W (h : Cells W A (beadsF p n)) => impl_LeastBeads A c (beadsF p n) W (bound_BeadsOf p n) h
  have HO1 := hid fun W (h : Cells W A0 p) => impl_BeadsOf A0 c0 p (p.length : Int) W (by omega) h ⟨by omega, by omega⟩
  have HAR := hid fun A c W (h : Cells W A (beadsF p n)) => impl_AreBeads A (beadsF p n) c W (bound_BeadsOf p n) h
  have HQP := hid fun A B c d W (hA : Cells W A p) (hB : Cells W B p) => eSame_t A B c d p W (by omega) hA hB
  have HQL := hid fun A B c d W (hA : Cells W A (beadsF p p.length)) (hB : Cells W B (beadsF p p.length)) => eSame_t A B c d (beadsF p p.length) W (bound_BeadsOf p p.length) hA hB
  have HS1 := hid fun W (h : Cells W A2 b) => impl_ShiftBeads A2 c2 b s W (by omega) h hs
  have HS2 := hid fun W (h : Cells W A2 b) => spec_ShiftBeads A2 c2 b s W (by omega) h hs
  have HG1 := hid fun W (h : Cells W A2 b) => impl_FromBeads A2 c2 b W (by omega) h
  have HG2 := hid fun W (h : Cells W A2 b) => spec_FromBeads A2 c2 b W (by omega) h
  have HQS := hid fun A B c d W (hA : Cells W A (shiftF b s)) (hB : Cells W B (shiftF b s)) => eSame_t A B c d (shiftF b s) W (bound_ShiftBeads b s) hA hB
  have HQG := hid fun A B c d W (hA : Cells W A (fromBeadsF b)) (hB : Cells W B (fromBeadsF b)) => eSame_t A B c d (fromBeadsF b) W (bound_FromBeads b) hA hB
  have HAB := hid fun W (h : Cells W A2 b) => impl_AreBeads A2 b c2 W (by omega) h
  have HK1 := hid fun A c W (h : Cells W A (shiftF b s)) => impl_FromBeads A c (shiftF b s) W (bound_ShiftBeads b s) h
  have HM1 := hid fun W (h : Cells W A4 x) => impl_MayaOf A4 c4 x W (by omega) h
  have HM2 := hid fun W (h : Cells W A4 x) => spec_MayaOf A4 c4 x W (by omega) h
  have HQM := hid fun A B c d W (hA : Cells W A (mayaF x)) (hB : Cells W B (mayaF x)) => eSame_t A B c d (mayaF x) W (bound_MayaOf x) hA hB
  have HX1 := hid fun A c W (h : Cells W A (mayaF x)) => impl_FromMaya_c A c (mayaF x) W (bound_MayaOf x) h
  have HQX := hid fun A B c d W (hA : Cells W A x) (hB : Cells W B x) => eSame_t A B c d x W (by omega) hA hB
  have HY1 := hid fun W (h : Cells W A5 m) => impl_FromMaya_c A5 c5 m W (by omega) h
  have HY2 := hid fun W (h : Cells W A5 m) => spec_FromMayaC A5 c5 m W (by omega) hcap5 hno5 h
  have HZ1 := hid fun W (h : Cells W A6 z) => impl_LeastBeads A6 c6 z W (by omega) h
  have HZ2 := hid fun W (h : Cells W A6 z) => spec_LeastBeads A6 c6 z W (by omega) h
  have HQY := hid fun A B c d W (hA : Cells W A (unF m)) (hB : Cells W B (unF m)) => eSame_t A B c d (unF m) W (bound_FromMaya m) hA hB
  have HQZ := hid fun A B c d W (hA : Cells W A (leastF z)) (hB : Cells W B (leastF z)) => eSame_t A B c d (leastF z) W (bound_LeastBeads z) hA hB
  clear hcap5 hno5
  obtain ⟨um, hum⟩ : ∃ y, y = unOk m := ⟨_, rfl⟩
  obtain ⟨U, hU⟩ : ∃ y, y = unF m := ⟨_, rfl⟩
  obtain ⟨gz, hgz⟩ : ∃ y, y = goodB z := ⟨_, rfl⟩
  obtain ⟨Z, hZ⟩ : ∃ y, y = leastF z := ⟨_, rfl⟩
  rw [← hum, ← hU] at HY1 HY2
  rw [← hU] at HQY
  rw [← hgz, ← hZ] at HZ1 HZ2
  rw [← hZ] at HQZ
  clear hum hU hgz hZ
  cases hop : beadsOk p n
  · rw [hop] at HB1 HB2
    obtain ⟨L, hL⟩ : ∃ y, y = beadsF p n := ⟨_, rfl⟩
    rw [← hL] at HB1 HB2 HQB
    clear hop hL HF1 HL1 HO1 HAR HQP HQL
    obtain ⟨gb, hgb⟩ : ∃ y, y = goodB b := ⟨_, rfl⟩
    obtain ⟨R, hR⟩ : ∃ y, y = fromBeadsF b := ⟨_, rfl⟩
    rw [← hgb, ← hR] at HG1 HG2
    rw [← hgb] at HAB
    rw [← hR] at HQG
    cases hob : shiftOk b s
    · rw [hob] at HS1 HS2
      obtain ⟨S, hS⟩ : ∃ y, y = shiftF b s := ⟨_, rfl⟩
      rw [← hS] at HS1 HS2 HQS
      clear hob hS hgb hR HK1
      cases hgx : good x
      · rw [hgx] at HM1 HM2
        obtain ⟨M, hM⟩ : ∃ y, y = mayaF x := ⟨_, rfl⟩
        rw [← hM] at HM1 HM2 HQM
        clear hM hgx HX1 HQX
        have B0 : Below w.heap.size w w := Below.refl _ _
        go_enter Try.func3, Try.ntmps3
        go_wp2_with fail
        refine (HB1.out _ (h0.later B0)).mono ?_
        rintro e w1 ⟨Ab1, cb1, rfl, ob1, b1⟩
        have B1 : Below w.heap.size w w1 := Below.next B0 b1
        go_wp2_with fail
        refine (HB2.out _ (h0.later B1)).mono ?_
        rintro e w2 ⟨Ab2, cb2, rfl, ob2, b2⟩
        have B2 : Below w.heap.size w w2 := Below.next B1 b2
        have ob1_2 := ob1.below b2
        clear ob1
        go_wp2_with fail
        refine (HQB.out _ _ _ _ _ ob1_2.cells ob2.cells).mono ?_
        rintro e w3 ⟨rfl, b3⟩
        have B3 : Below w.heap.size w w3 := Below.next B2 b3
        have ob1_3 := ob1_2.below b3
        clear ob1_2
        have ob2_3 := ob2.below b3
        clear ob2
        go_wp2_with fail
        refine (HS1.out _ (h2.later B3)).mono ?_
        rintro e w4 ⟨As1, cs1, rfl, os1, b4⟩
        have B4 : Below w.heap.size w w4 := Below.next B3 b4
        go_wp2_with fail
        refine (HS2.out _ (h2.later B4)).mono ?_
        rintro e w5 ⟨As2, cs2, rfl, os2, b5⟩
        have B5 : Below w.heap.size w w5 := Below.next B4 b5
        have os1_5 := os1.below b5
        clear os1
        go_wp2_with fail
        refine (HG1.out _ (h2.later B5)).mono ?_
        rintro e w6 ⟨Ag1, cg1, rfl, og1, b6⟩
        have B6 : Below w.heap.size w w6 := Below.next B5 b6
        have os1_6 := os1_5.below b6
        clear os1_5
        have os2_6 := os2.below b6
        clear os2
        go_wp2_with fail
        refine (HG2.out _ (h2.later B6)).mono ?_
        rintro e w7 ⟨Ag2, cg2, rfl, og2, b7⟩
        have B7 : Below w.heap.size w w7 := Below.next B6 b7
        have os1_7 := os1_6.below b7
        clear os1_6
        have os2_7 := os2_6.below b7
        clear os2_6
        have og1_7 := og1.below b7
        clear og1
        go_wp2_with fail
        refine (HQS.out _ _ _ _ _ os1_7.cells os2_7.cells).mono ?_
        rintro e w8 ⟨rfl, b8⟩
        have B8 : Below w.heap.size w w8 := Below.next B7 b8
        have os1_8 := os1_7.below b8
        clear os1_7
        have os2_8 := os2_7.below b8
        clear os2_7
        have og1_8 := og1_7.below b8
        clear og1_7
        have og2_8 := og2.below b8
        clear og2
        go_wp2_with fail
        refine (HQG.out _ _ _ _ _ og1_8.cells og2_8.cells).mono ?_
        rintro e w9 ⟨rfl, b9⟩
        have B9 : Below w.heap.size w w9 := Below.next B8 b9
        have os1_9 := os1_8.below b9
        clear os1_8
        have og1_9 := og1_8.below b9
        clear og1_8
        have og2_9 := og2_8.below b9
        clear og2_8
        go_wp2_with fail
        refine (HAB.out _ (h2.later B9)).mono ?_
        rintro e w10 ⟨rfl, b10⟩
        have B10 : Below w.heap.size w w10 := Below.next B9 b10
        have os1_10 := os1_9.below b10
        clear os1_9
        have og1_10 := og1_9.below b10
        clear og1_9
        go_wp2_with fail
        refine (HM1.out _ (h4.later B10)).mono ?_
        rintro e w11 ⟨Am1, cm1, rfl, om1, b11⟩
        have B11 : Below w.heap.size w w11 := Below.next B10 b11
        go_wp2_with fail
        refine (HM2.out _ (h4.later B11)).mono ?_
        rintro e w12 ⟨Am2, cm2, rfl, om2, b12⟩
        have B12 : Below w.heap.size w w12 := Below.next B11 b12
        have om1_12 := om1.below b12
        clear om1
        go_wp2_with fail
        refine (HQM.out _ _ _ _ _ om1_12.cells om2.cells).mono ?_
        rintro e w13 ⟨rfl, b13⟩
        have B13 : Below w.heap.size w w13 := Below.next B12 b13
        have om1_13 := om1_12.below b13
        clear om1_12
        have om2_13 := om2.below b13
        clear om2
        go_wp2_with fail
        refine (HY1.out _ (h5.later B13)).mono ?_
        rintro e w14 ⟨Ay1, cy1, rfl, oy1, b14⟩
        have B14 : Below w.heap.size w w14 := Below.next B13 b14
        go_wp2_with fail
        refine (HY2.out _ (h5.later B14)).mono ?_
        rintro e w15 ⟨Ay2, cy2, rfl, oy2, b15⟩
        have B15 : Below w.heap.size w w15 := Below.next B14 b15
        have oy1_15 := oy1.below b15
        clear oy1
        go_wp2_with fail
        refine (HZ1.out _ (h6.later B15)).mono ?_
        rintro e w16 ⟨Az1, cz1, rfl, oz1, b16⟩
        have B16 : Below w.heap.size w w16 := Below.next B15 b16
        have oy1_16 := oy1_15.below b16
        clear oy1_15
        have oy2_16 := oy2.below b16
        clear oy2
        go_wp2_with fail
        refine (HZ2.out _ (h6.later B16)).mono ?_
        rintro e w17 ⟨Az2, cz2, rfl, oz2, b17⟩
        have B17 : Below w.heap.size w w17 := Below.next B16 b17
        have oy1_17 := oy1_16.below b17
        clear oy1_16
        have oy2_17 := oy2_16.below b17
        clear oy2_16
        have oz1_17 := oz1.below b17
        clear oz1
        go_wp2_with fail
        refine (HQY.out _ _ _ _ _ oy1_17.cells oy2_17.cells).mono ?_
        rintro e w18 ⟨rfl, b18⟩
        have B18 : Below w.heap.size w w18 := Below.next B17 b18
        have oy1_18 := oy1_17.below b18
        clear oy1_17
        have oy2_18 := oy2_17.below b18
        clear oy2_17
        have oz1_18 := oz1_17.below b18
        clear oz1_17
        have oz2_18 := oz2.below b18
        clear oz2
        go_wp2_with fail
        refine (HQZ.out _ _ _ _ _ oz1_18.cells oz2_18.cells).mono ?_
        rintro e w19 ⟨rfl, b19⟩
        have B19 : Below w.heap.size w w19 := Below.next B18 b19
        have oy1_19 := oy1_18.below b19
        clear oy1_18
        have oy2_19 := oy2_18.below b19
        clear oy2_18
        have oz1_19 := oz1_18.below b19
        clear oz1_18
        have oz2_19 := oz2_18.below b19
        clear oz2_18
        go_wp2_with fail
        go_ret
        exact ⟨by first | rfl | exact ret_bool (by simp), B19⟩
      · have Gx := (good_iff x).1 hgx
        have eM : mayaF x = mayaL x := by simp [mayaF, hgx]
        obtain ⟨u1, u2⟩ := un_maya Gx
        rw [hgx, eM] at HM1 HM2
        rw [eM] at HQM HX1
        rw [u1, u2] at HX1
        have hM60 := (maya_MO Gx).len
        have HMB := hid fun k (hk : k < (mayaL x).length) => (show -1000 ≤ (mayaL x).getD k 0 ∧ (mayaL x).getD k 0 ≤ 1000 by
          have := (maya_MO Gx).lo ((mayaL x).getD k 0) (by rw [getD_in hk]; exact List.getElem_mem _)
          omega)
        have HSB := hid fun k (hk : k ≤ (mayaL x).length) => myS_bd HMB.out ((mayaL x).length / 2) k hk
        have HSUM := hid (myS_all Gx)
        have HES := hid fun W (h : Cells W A4 x) => eSum_any A4 x c4 W Gx.len (fun j hj => by have := Gx.pos j hj; have := Gx.le j hj; omega) h
        obtain ⟨M, hM⟩ : ∃ y, y = mayaL x := ⟨_, rfl⟩
        rw [← hM] at HM1 HM2 HQM HX1 hM60 HMB HSB HSUM
        obtain ⟨half, hh⟩ : ∃ y, y = M.length / 2 := ⟨_, rfl⟩
        have hqt : Int.tdiv (M.length : Int) 2 = (half : Int) := by rw [hh]; rfl
        have hhb : half ≤ 30 := by omega
        rw [← hh] at HSB HSUM
        obtain ⟨sx, hsx⟩ : ∃ y, y = x.sum := ⟨_, rfl⟩
        rw [← hsx] at HSUM HES
        clear hM hh hsx hgx Gx eM u1 u2
        have B0 : Below w.heap.size w w := Below.refl _ _
        go_enter Try.func3, Try.ntmps3
        go_wp2_with fail
        refine (HB1.out _ (h0.later B0)).mono ?_
        rintro e w1 ⟨Ab1, cb1, rfl, ob1, b1⟩
        have B1 : Below w.heap.size w w1 := Below.next B0 b1
        go_wp2_with fail
        refine (HB2.out _ (h0.later B1)).mono ?_
        rintro e w2 ⟨Ab2, cb2, rfl, ob2, b2⟩
        have B2 : Below w.heap.size w w2 := Below.next B1 b2
        have ob1_2 := ob1.below b2
        clear ob1
        go_wp2_with fail
        refine (HQB.out _ _ _ _ _ ob1_2.cells ob2.cells).mono ?_
        rintro e w3 ⟨rfl, b3⟩
        have B3 : Below w.heap.size w w3 := Below.next B2 b3
        have ob1_3 := ob1_2.below b3
        clear ob1_2
        have ob2_3 := ob2.below b3
        clear ob2
        go_wp2_with fail
        refine (HS1.out _ (h2.later B3)).mono ?_
        rintro e w4 ⟨As1, cs1, rfl, os1, b4⟩
        have B4 : Below w.heap.size w w4 := Below.next B3 b4
        go_wp2_with fail
        refine (HS2.out _ (h2.later B4)).mono ?_
        rintro e w5 ⟨As2, cs2, rfl, os2, b5⟩
        have B5 : Below w.heap.size w w5 := Below.next B4 b5
        have os1_5 := os1.below b5
        clear os1
        go_wp2_with fail
        refine (HG1.out _ (h2.later B5)).mono ?_
        rintro e w6 ⟨Ag1, cg1, rfl, og1, b6⟩
        have B6 : Below w.heap.size w w6 := Below.next B5 b6
        have os1_6 := os1_5.below b6
        clear os1_5
        have os2_6 := os2.below b6
        clear os2
        go_wp2_with fail
        refine (HG2.out _ (h2.later B6)).mono ?_
        rintro e w7 ⟨Ag2, cg2, rfl, og2, b7⟩
        have B7 : Below w.heap.size w w7 := Below.next B6 b7
        have os1_7 := os1_6.below b7
        clear os1_6
        have os2_7 := os2_6.below b7
        clear os2_6
        have og1_7 := og1.below b7
        clear og1
        go_wp2_with fail
        refine (HQS.out _ _ _ _ _ os1_7.cells os2_7.cells).mono ?_
        rintro e w8 ⟨rfl, b8⟩
        have B8 : Below w.heap.size w w8 := Below.next B7 b8
        have os1_8 := os1_7.below b8
        clear os1_7
        have os2_8 := os2_7.below b8
        clear os2_7
        have og1_8 := og1_7.below b8
        clear og1_7
        have og2_8 := og2.below b8
        clear og2
        go_wp2_with fail
        refine (HQG.out _ _ _ _ _ og1_8.cells og2_8.cells).mono ?_
        rintro e w9 ⟨rfl, b9⟩
        have B9 : Below w.heap.size w w9 := Below.next B8 b9
        have os1_9 := os1_8.below b9
        clear os1_8
        have og1_9 := og1_8.below b9
        clear og1_8
        have og2_9 := og2_8.below b9
        clear og2_8
        go_wp2_with fail
        refine (HAB.out _ (h2.later B9)).mono ?_
        rintro e w10 ⟨rfl, b10⟩
        have B10 : Below w.heap.size w w10 := Below.next B9 b10
        have os1_10 := os1_9.below b10
        clear os1_9
        have og1_10 := og1_9.below b10
        clear og1_9
        go_wp2_with fail
        refine (HM1.out _ (h4.later B10)).mono ?_
        rintro e w11 ⟨Am1, cm1, rfl, om1, b11⟩
        have B11 : Below w.heap.size w w11 := Below.next B10 b11
        go_wp2_with fail
        refine (HM2.out _ (h4.later B11)).mono ?_
        rintro e w12 ⟨Am2, cm2, rfl, om2, b12⟩
        have B12 : Below w.heap.size w w12 := Below.next B11 b12
        have om1_12 := om1.below b12
        clear om1
        go_wp2_with fail
        refine (HQM.out _ _ _ _ _ om1_12.cells om2.cells).mono ?_
        rintro e w13 ⟨rfl, b13⟩
        have B13 : Below w.heap.size w w13 := Below.next B12 b13
        have om1_13 := om1_12.below b13
        clear om1_12
        have om2_13 := om2.below b13
        clear om2
        go_wp2_with fail
        refine (HX1.out _ _ _ om1_13.cells).mono ?_
        rintro e w14 ⟨Ax1, cx1, rfl, ox1, b14⟩
        have B14 : Below w.heap.size w w14 := Below.next B13 b14
        have om1_14 := om1_13.below b14
        clear om1_13
        have hmc := hid om1_14.cells
        clear om1_14
        go_wp2_with fail
        go_loop [41, 236] (fun v i => ∃ k : Nat, k ≤ M.length ∧ i = .int .i64 k ∧ v = .int .i64 (myS M half k)) (fun _ i => M.length - (intOf i).toNat)
        case atStart => exact ⟨0, Nat.zero_le _, rfl, rfl⟩
        case round =>
          obtain ⟨k, hk, rfl, rfl⟩ := hrel
          by_cases hlt : k < M.length
          · obtain ⟨b0, o0, rfl, hcc⟩ := hmc.out (by omega)
            have hck := hcc k hlt
            have hxb := HMB.out k hlt
            have hsb := HSB.out k (by omega)
            have HN := hid (show myS M half (k + 1) = myS M half k + if k < half then M.getD k 0 else -M.getD k 0 from rfl)
            obtain ⟨y, hy⟩ : ∃ y, y = M.getD k 0 := ⟨_, rfl⟩
            rw [← hy] at hck hxb HN
            obtain ⟨t, ht⟩ : ∃ t, t = myS M half k := ⟨_, rfl⟩
            rw [← ht] at hsb HN
            rw [← ht]
            clear hcc hy ht hmc
            by_cases hkh : k < half
            · rw [if_pos hkh] at HN
              go_wp2_with fail
              go_round
              case rel => exact ⟨k + 1, by omega, by go_num, by rw [HN.out]⟩
              case measure => simp [intOf]; omega
            · rw [if_neg hkh] at HN
              go_wp2_with fail
              go_round
              case rel => exact ⟨k + 1, by omega, by go_num, by rw [HN.out]; go_num⟩
              case measure => simp [intOf]; omega
          · have hke : k = M.length := by omega
            subst hke
            rw [HSUM.out]
            go_wp2_with fail
            refine (HQX.out _ _ _ _ _ ox1.cells (h4.later B14)).mono ?_
            rintro e w15 ⟨rfl, b15⟩
            have B15 : Below w.heap.size w w15 := Below.next B14 b15
            have ox1_15 := ox1.below b15
            clear ox1
            go_wp2_with fail
            refine (HES.out _ (h4.later B15)).mono ?_
            rintro e w' ⟨rfl, rfl⟩
            go_wp2_with fail
            refine (HY1.out _ (h5.later B15)).mono ?_
            rintro e w16 ⟨Ay1, cy1, rfl, oy1, b16⟩
            have B16 : Below w.heap.size w w16 := Below.next B15 b16
            go_wp2_with fail
            refine (HY2.out _ (h5.later B16)).mono ?_
            rintro e w17 ⟨Ay2, cy2, rfl, oy2, b17⟩
            have B17 : Below w.heap.size w w17 := Below.next B16 b17
            have oy1_17 := oy1.below b17
            clear oy1
            go_wp2_with fail
            refine (HZ1.out _ (h6.later B17)).mono ?_
            rintro e w18 ⟨Az1, cz1, rfl, oz1, b18⟩
            have B18 : Below w.heap.size w w18 := Below.next B17 b18
            have oy1_18 := oy1_17.below b18
            clear oy1_17
            have oy2_18 := oy2.below b18
            clear oy2
            go_wp2_with fail
            refine (HZ2.out _ (h6.later B18)).mono ?_
            rintro e w19 ⟨Az2, cz2, rfl, oz2, b19⟩
            have B19 : Below w.heap.size w w19 := Below.next B18 b19
            have oy1_19 := oy1_18.below b19
            clear oy1_18
            have oy2_19 := oy2_18.below b19
            clear oy2_18
            have oz1_19 := oz1.below b19
            clear oz1
            go_wp2_with fail
            refine (HQY.out _ _ _ _ _ oy1_19.cells oy2_19.cells).mono ?_
            rintro e w20 ⟨rfl, b20⟩
            have B20 : Below w.heap.size w w20 := Below.next B19 b20
            have oy1_20 := oy1_19.below b20
            clear oy1_19
            have oy2_20 := oy2_19.below b20
            clear oy2_19
            have oz1_20 := oz1_19.below b20
            clear oz1_19
            have oz2_20 := oz2.below b20
            clear oz2
            go_wp2_with fail
            refine (HQZ.out _ _ _ _ _ oz1_20.cells oz2_20.cells).mono ?_
            rintro e w21 ⟨rfl, b21⟩
            have B21 : Below w.heap.size w w21 := Below.next B20 b21
            have oy1_21 := oy1_20.below b21
            clear oy1_20
            have oy2_21 := oy2_20.below b21
            clear oy2_20
            have oz1_21 := oz1_20.below b21
            clear oz1_20
            have oz2_21 := oz2_20.below b21
            clear oz2_20
            go_wp2_with fail
            go_ret
            exact ⟨by first | rfl | exact ret_bool (by simp), B21⟩
    · obtain ⟨g1, g2⟩ := shift_facts hob
      rw [g1, g2, ← hR] at HK1
      rw [hob] at HS1 HS2
      obtain ⟨S, hS⟩ : ∃ y, y = shiftF b s := ⟨_, rfl⟩
      rw [← hS] at HS1 HS2 HQS HK1
      clear hob hS hgb hR g1 g2
      cases hgx : good x
      · rw [hgx] at HM1 HM2
        obtain ⟨M, hM⟩ : ∃ y, y = mayaF x := ⟨_, rfl⟩
        rw [← hM] at HM1 HM2 HQM
        clear hM hgx HX1 HQX
        have B0 : Below w.heap.size w w := Below.refl _ _
        go_enter Try.func3, Try.ntmps3
        go_wp2_with fail
        refine (HB1.out _ (h0.later B0)).mono ?_
        rintro e w1 ⟨Ab1, cb1, rfl, ob1, b1⟩
        have B1 : Below w.heap.size w w1 := Below.next B0 b1
        go_wp2_with fail
        refine (HB2.out _ (h0.later B1)).mono ?_
        rintro e w2 ⟨Ab2, cb2, rfl, ob2, b2⟩
        have B2 : Below w.heap.size w w2 := Below.next B1 b2
        have ob1_2 := ob1.below b2
        clear ob1
        go_wp2_with fail
        refine (HQB.out _ _ _ _ _ ob1_2.cells ob2.cells).mono ?_
        rintro e w3 ⟨rfl, b3⟩
        have B3 : Below w.heap.size w w3 := Below.next B2 b3
        have ob1_3 := ob1_2.below b3
        clear ob1_2
        have ob2_3 := ob2.below b3
        clear ob2
        go_wp2_with fail
        refine (HS1.out _ (h2.later B3)).mono ?_
        rintro e w4 ⟨As1, cs1, rfl, os1, b4⟩
        have B4 : Below w.heap.size w w4 := Below.next B3 b4
        go_wp2_with fail
        refine (HS2.out _ (h2.later B4)).mono ?_
        rintro e w5 ⟨As2, cs2, rfl, os2, b5⟩
        have B5 : Below w.heap.size w w5 := Below.next B4 b5
        have os1_5 := os1.below b5
        clear os1
        go_wp2_with fail
        refine (HG1.out _ (h2.later B5)).mono ?_
        rintro e w6 ⟨Ag1, cg1, rfl, og1, b6⟩
        have B6 : Below w.heap.size w w6 := Below.next B5 b6
        have os1_6 := os1_5.below b6
        clear os1_5
        have os2_6 := os2.below b6
        clear os2
        go_wp2_with fail
        refine (HG2.out _ (h2.later B6)).mono ?_
        rintro e w7 ⟨Ag2, cg2, rfl, og2, b7⟩
        have B7 : Below w.heap.size w w7 := Below.next B6 b7
        have os1_7 := os1_6.below b7
        clear os1_6
        have os2_7 := os2_6.below b7
        clear os2_6
        have og1_7 := og1.below b7
        clear og1
        go_wp2_with fail
        refine (HQS.out _ _ _ _ _ os1_7.cells os2_7.cells).mono ?_
        rintro e w8 ⟨rfl, b8⟩
        have B8 : Below w.heap.size w w8 := Below.next B7 b8
        have os1_8 := os1_7.below b8
        clear os1_7
        have os2_8 := os2_7.below b8
        clear os2_7
        have og1_8 := og1_7.below b8
        clear og1_7
        have og2_8 := og2.below b8
        clear og2
        go_wp2_with fail
        refine (HQG.out _ _ _ _ _ og1_8.cells og2_8.cells).mono ?_
        rintro e w9 ⟨rfl, b9⟩
        have B9 : Below w.heap.size w w9 := Below.next B8 b9
        have os1_9 := os1_8.below b9
        clear os1_8
        have og1_9 := og1_8.below b9
        clear og1_8
        have og2_9 := og2_8.below b9
        clear og2_8
        go_wp2_with fail
        refine (HAB.out _ (h2.later B9)).mono ?_
        rintro e w10 ⟨rfl, b10⟩
        have B10 : Below w.heap.size w w10 := Below.next B9 b10
        have os1_10 := os1_9.below b10
        clear os1_9
        have og1_10 := og1_9.below b10
        clear og1_9
        go_wp2_with fail
        refine (HK1.out _ _ _ os1_10.cells).mono ?_
        rintro e w11 ⟨Ak1, ck1, rfl, ok1, b11⟩
        have B11 : Below w.heap.size w w11 := Below.next B10 b11
        have os1_11 := os1_10.below b11
        clear os1_10
        have og1_11 := og1_10.below b11
        clear og1_10
        go_wp2_with fail
        refine (HQG.out _ _ _ _ _ ok1.cells og1_11.cells).mono ?_
        rintro e w12 ⟨rfl, b12⟩
        have B12 : Below w.heap.size w w12 := Below.next B11 b12
        have os1_12 := os1_11.below b12
        clear os1_11
        have og1_12 := og1_11.below b12
        clear og1_11
        have ok1_12 := ok1.below b12
        clear ok1
        go_wp2_with fail
        refine (HM1.out _ (h4.later B12)).mono ?_
        rintro e w13 ⟨Am1, cm1, rfl, om1, b13⟩
        have B13 : Below w.heap.size w w13 := Below.next B12 b13
        go_wp2_with fail
        refine (HM2.out _ (h4.later B13)).mono ?_
        rintro e w14 ⟨Am2, cm2, rfl, om2, b14⟩
        have B14 : Below w.heap.size w w14 := Below.next B13 b14
        have om1_14 := om1.below b14
        clear om1
        go_wp2_with fail
        refine (HQM.out _ _ _ _ _ om1_14.cells om2.cells).mono ?_
        rintro e w15 ⟨rfl, b15⟩
        have B15 : Below w.heap.size w w15 := Below.next B14 b15
        have om1_15 := om1_14.below b15
        clear om1_14
        have om2_15 := om2.below b15
        clear om2
        go_wp2_with fail
        refine (HY1.out _ (h5.later B15)).mono ?_
        rintro e w16 ⟨Ay1, cy1, rfl, oy1, b16⟩
        have B16 : Below w.heap.size w w16 := Below.next B15 b16
        go_wp2_with fail
        refine (HY2.out _ (h5.later B16)).mono ?_
        rintro e w17 ⟨Ay2, cy2, rfl, oy2, b17⟩
        have B17 : Below w.heap.size w w17 := Below.next B16 b17
        have oy1_17 := oy1.below b17
        clear oy1
        go_wp2_with fail
        refine (HZ1.out _ (h6.later B17)).mono ?_
        rintro e w18 ⟨Az1, cz1, rfl, oz1, b18⟩
        have B18 : Below w.heap.size w w18 := Below.next B17 b18
        have oy1_18 := oy1_17.below b18
        clear oy1_17
        have oy2_18 := oy2.below b18
        clear oy2
        go_wp2_with fail
        refine (HZ2.out _ (h6.later B18)).mono ?_
        rintro e w19 ⟨Az2, cz2, rfl, oz2, b19⟩
        have B19 : Below w.heap.size w w19 := Below.next B18 b19
        have oy1_19 := oy1_18.below b19
        clear oy1_18
        have oy2_19 := oy2_18.below b19
        clear oy2_18
        have oz1_19 := oz1.below b19
        clear oz1
        go_wp2_with fail
        refine (HQY.out _ _ _ _ _ oy1_19.cells oy2_19.cells).mono ?_
        rintro e w20 ⟨rfl, b20⟩
        have B20 : Below w.heap.size w w20 := Below.next B19 b20
        have oy1_20 := oy1_19.below b20
        clear oy1_19
        have oy2_20 := oy2_19.below b20
        clear oy2_19
        have oz1_20 := oz1_19.below b20
        clear oz1_19
        have oz2_20 := oz2.below b20
        clear oz2
        go_wp2_with fail
        refine (HQZ.out _ _ _ _ _ oz1_20.cells oz2_20.cells).mono ?_
        rintro e w21 ⟨rfl, b21⟩
        have B21 : Below w.heap.size w w21 := Below.next B20 b21
        have oy1_21 := oy1_20.below b21
        clear oy1_20
        have oy2_21 := oy2_20.below b21
        clear oy2_20
        have oz1_21 := oz1_20.below b21
        clear oz1_20
        have oz2_21 := oz2_20.below b21
        clear oz2_20
        go_wp2_with fail
        go_ret
        exact ⟨by first | rfl | exact ret_bool (by simp), B21⟩
      · have Gx := (good_iff x).1 hgx
        have eM : mayaF x = mayaL x := by simp [mayaF, hgx]
        obtain ⟨u1, u2⟩ := un_maya Gx
        rw [hgx, eM] at HM1 HM2
        rw [eM] at HQM HX1
        rw [u1, u2] at HX1
        have hM60 := (maya_MO Gx).len
        have HMB := hid fun k (hk : k < (mayaL x).length) => (show -1000 ≤ (mayaL x).getD k 0 ∧ (mayaL x).getD k 0 ≤ 1000 by
          have := (maya_MO Gx).lo ((mayaL x).getD k 0) (by rw [getD_in hk]; exact List.getElem_mem _)
          omega)
        have HSB := hid fun k (hk : k ≤ (mayaL x).length) => myS_bd HMB.out ((mayaL x).length / 2) k hk
        have HSUM := hid (myS_all Gx)
        have HES := hid fun W (h : Cells W A4 x) => eSum_any A4 x c4 W Gx.len (fun j hj => by have := Gx.pos j hj; have := Gx.le j hj; omega) h
        obtain ⟨M, hM⟩ : ∃ y, y = mayaL x := ⟨_, rfl⟩
        rw [← hM] at HM1 HM2 HQM HX1 hM60 HMB HSB HSUM
        obtain ⟨half, hh⟩ : ∃ y, y = M.length / 2 := ⟨_, rfl⟩
        have hqt : Int.tdiv (M.length : Int) 2 = (half : Int) := by rw [hh]; rfl
        have hhb : half ≤ 30 := by omega
        rw [← hh] at HSB HSUM
        obtain ⟨sx, hsx⟩ : ∃ y, y = x.sum := ⟨_, rfl⟩
        rw [← hsx] at HSUM HES
        clear hM hh hsx hgx Gx eM u1 u2
        have B0 : Below w.heap.size w w := Below.refl _ _
        go_enter Try.func3, Try.ntmps3
        go_wp2_with fail
        refine (HB1.out _ (h0.later B0)).mono ?_
        rintro e w1 ⟨Ab1, cb1, rfl, ob1, b1⟩
        have B1 : Below w.heap.size w w1 := Below.next B0 b1
        go_wp2_with fail
        refine (HB2.out _ (h0.later B1)).mono ?_
        rintro e w2 ⟨Ab2, cb2, rfl, ob2, b2⟩
        have B2 : Below w.heap.size w w2 := Below.next B1 b2
        have ob1_2 := ob1.below b2
        clear ob1
        go_wp2_with fail
        refine (HQB.out _ _ _ _ _ ob1_2.cells ob2.cells).mono ?_
        rintro e w3 ⟨rfl, b3⟩
        have B3 : Below w.heap.size w w3 := Below.next B2 b3
        have ob1_3 := ob1_2.below b3
        clear ob1_2
        have ob2_3 := ob2.below b3
        clear ob2
        go_wp2_with fail
        refine (HS1.out _ (h2.later B3)).mono ?_
        rintro e w4 ⟨As1, cs1, rfl, os1, b4⟩
        have B4 : Below w.heap.size w w4 := Below.next B3 b4
        go_wp2_with fail
        refine (HS2.out _ (h2.later B4)).mono ?_
        rintro e w5 ⟨As2, cs2, rfl, os2, b5⟩
        have B5 : Below w.heap.size w w5 := Below.next B4 b5
        have os1_5 := os1.below b5
        clear os1
        go_wp2_with fail
        refine (HG1.out _ (h2.later B5)).mono ?_
        rintro e w6 ⟨Ag1, cg1, rfl, og1, b6⟩
        have B6 : Below w.heap.size w w6 := Below.next B5 b6
        have os1_6 := os1_5.below b6
        clear os1_5
        have os2_6 := os2.below b6
        clear os2
        go_wp2_with fail
        refine (HG2.out _ (h2.later B6)).mono ?_
        rintro e w7 ⟨Ag2, cg2, rfl, og2, b7⟩
        have B7 : Below w.heap.size w w7 := Below.next B6 b7
        have os1_7 := os1_6.below b7
        clear os1_6
        have os2_7 := os2_6.below b7
        clear os2_6
        have og1_7 := og1.below b7
        clear og1
        go_wp2_with fail
        refine (HQS.out _ _ _ _ _ os1_7.cells os2_7.cells).mono ?_
        rintro e w8 ⟨rfl, b8⟩
        have B8 : Below w.heap.size w w8 := Below.next B7 b8
        have os1_8 := os1_7.below b8
        clear os1_7
        have os2_8 := os2_7.below b8
        clear os2_7
        have og1_8 := og1_7.below b8
        clear og1_7
        have og2_8 := og2.below b8
        clear og2
        go_wp2_with fail
        refine (HQG.out _ _ _ _ _ og1_8.cells og2_8.cells).mono ?_
        rintro e w9 ⟨rfl, b9⟩
        have B9 : Below w.heap.size w w9 := Below.next B8 b9
        have os1_9 := os1_8.below b9
        clear os1_8
        have og1_9 := og1_8.below b9
        clear og1_8
        have og2_9 := og2_8.below b9
        clear og2_8
        go_wp2_with fail
        refine (HAB.out _ (h2.later B9)).mono ?_
        rintro e w10 ⟨rfl, b10⟩
        have B10 : Below w.heap.size w w10 := Below.next B9 b10
        have os1_10 := os1_9.below b10
        clear os1_9
        have og1_10 := og1_9.below b10
        clear og1_9
        go_wp2_with fail
        refine (HK1.out _ _ _ os1_10.cells).mono ?_
        rintro e w11 ⟨Ak1, ck1, rfl, ok1, b11⟩
        have B11 : Below w.heap.size w w11 := Below.next B10 b11
        have os1_11 := os1_10.below b11
        clear os1_10
        have og1_11 := og1_10.below b11
        clear og1_10
        go_wp2_with fail
        refine (HQG.out _ _ _ _ _ ok1.cells og1_11.cells).mono ?_
        rintro e w12 ⟨rfl, b12⟩
        have B12 : Below w.heap.size w w12 := Below.next B11 b12
        have os1_12 := os1_11.below b12
        clear os1_11
        have og1_12 := og1_11.below b12
        clear og1_11
        have ok1_12 := ok1.below b12
        clear ok1
        go_wp2_with fail
        refine (HM1.out _ (h4.later B12)).mono ?_
        rintro e w13 ⟨Am1, cm1, rfl, om1, b13⟩
        have B13 : Below w.heap.size w w13 := Below.next B12 b13
        go_wp2_with fail
        refine (HM2.out _ (h4.later B13)).mono ?_
        rintro e w14 ⟨Am2, cm2, rfl, om2, b14⟩
        have B14 : Below w.heap.size w w14 := Below.next B13 b14
        have om1_14 := om1.below b14
        clear om1
        go_wp2_with fail
        refine (HQM.out _ _ _ _ _ om1_14.cells om2.cells).mono ?_
        rintro e w15 ⟨rfl, b15⟩
        have B15 : Below w.heap.size w w15 := Below.next B14 b15
        have om1_15 := om1_14.below b15
        clear om1_14
        have om2_15 := om2.below b15
        clear om2
        go_wp2_with fail
        refine (HX1.out _ _ _ om1_15.cells).mono ?_
        rintro e w16 ⟨Ax1, cx1, rfl, ox1, b16⟩
        have B16 : Below w.heap.size w w16 := Below.next B15 b16
        have om1_16 := om1_15.below b16
        clear om1_15
        have hmc := hid om1_16.cells
        clear om1_16
        go_wp2_with fail
        go_loop [41, 236] (fun v i => ∃ k : Nat, k ≤ M.length ∧ i = .int .i64 k ∧ v = .int .i64 (myS M half k)) (fun _ i => M.length - (intOf i).toNat)
        case atStart => exact ⟨0, Nat.zero_le _, rfl, rfl⟩
        case round =>
          obtain ⟨k, hk, rfl, rfl⟩ := hrel
          by_cases hlt : k < M.length
          · obtain ⟨b0, o0, rfl, hcc⟩ := hmc.out (by omega)
            have hck := hcc k hlt
            have hxb := HMB.out k hlt
            have hsb := HSB.out k (by omega)
            have HN := hid (show myS M half (k + 1) = myS M half k + if k < half then M.getD k 0 else -M.getD k 0 from rfl)
            obtain ⟨y, hy⟩ : ∃ y, y = M.getD k 0 := ⟨_, rfl⟩
            rw [← hy] at hck hxb HN
            obtain ⟨t, ht⟩ : ∃ t, t = myS M half k := ⟨_, rfl⟩
            rw [← ht] at hsb HN
            rw [← ht]
            clear hcc hy ht hmc
            by_cases hkh : k < half
            · rw [if_pos hkh] at HN
              go_wp2_with fail
              go_round
              case rel => exact ⟨k + 1, by omega, by go_num, by rw [HN.out]⟩
              case measure => simp [intOf]; omega
            · rw [if_neg hkh] at HN
              go_wp2_with fail
              go_round
              case rel => exact ⟨k + 1, by omega, by go_num, by rw [HN.out]; go_num⟩
              case measure => simp [intOf]; omega
          · have hke : k = M.length := by omega
            subst hke
            rw [HSUM.out]
            go_wp2_with fail
            refine (HQX.out _ _ _ _ _ ox1.cells (h4.later B16)).mono ?_
            rintro e w17 ⟨rfl, b17⟩
            have B17 : Below w.heap.size w w17 := Below.next B16 b17
            have ox1_17 := ox1.below b17
            clear ox1
            go_wp2_with fail
            refine (HES.out _ (h4.later B17)).mono ?_
            rintro e w' ⟨rfl, rfl⟩
            go_wp2_with fail
            refine (HY1.out _ (h5.later B17)).mono ?_
            rintro e w18 ⟨Ay1, cy1, rfl, oy1, b18⟩
            have B18 : Below w.heap.size w w18 := Below.next B17 b18
            go_wp2_with fail
            refine (HY2.out _ (h5.later B18)).mono ?_
            rintro e w19 ⟨Ay2, cy2, rfl, oy2, b19⟩
            have B19 : Below w.heap.size w w19 := Below.next B18 b19
            have oy1_19 := oy1.below b19
            clear oy1
            go_wp2_with fail
            refine (HZ1.out _ (h6.later B19)).mono ?_
            rintro e w20 ⟨Az1, cz1, rfl, oz1, b20⟩
            have B20 : Below w.heap.size w w20 := Below.next B19 b20
            have oy1_20 := oy1_19.below b20
            clear oy1_19
            have oy2_20 := oy2.below b20
            clear oy2
            go_wp2_with fail
            refine (HZ2.out _ (h6.later B20)).mono ?_
            rintro e w21 ⟨Az2, cz2, rfl, oz2, b21⟩
            have B21 : Below w.heap.size w w21 := Below.next B20 b21
            have oy1_21 := oy1_20.below b21
            clear oy1_20
            have oy2_21 := oy2_20.below b21
            clear oy2_20
            have oz1_21 := oz1.below b21
            clear oz1
            go_wp2_with fail
            refine (HQY.out _ _ _ _ _ oy1_21.cells oy2_21.cells).mono ?_
            rintro e w22 ⟨rfl, b22⟩
            have B22 : Below w.heap.size w w22 := Below.next B21 b22
            have oy1_22 := oy1_21.below b22
            clear oy1_21
            have oy2_22 := oy2_21.below b22
            clear oy2_21
            have oz1_22 := oz1_21.below b22
            clear oz1_21
            have oz2_22 := oz2.below b22
            clear oz2
            go_wp2_with fail
            refine (HQZ.out _ _ _ _ _ oz1_22.cells oz2_22.cells).mono ?_
            rintro e w23 ⟨rfl, b23⟩
            have B23 : Below w.heap.size w w23 := Below.next B22 b23
            have oy1_23 := oy1_22.below b23
            clear oy1_22
            have oy2_23 := oy2_22.below b23
            clear oy2_22
            have oz1_23 := oz1_22.below b23
            clear oz1_22
            have oz2_23 := oz2_22.below b23
            clear oz2_22
            go_wp2_with fail
            go_ret
            exact ⟨by first | rfl | exact ret_bool (by simp), B23⟩
  · obtain ⟨f1, f2, f3, f4, f5⟩ := beads_facts hop
    rw [hop] at HB1 HB2
    rw [f1, f2] at HF1
    rw [f1, f3] at HL1
    rw [f4] at HO1
    rw [f1] at HAR
    obtain ⟨L, hL⟩ : ∃ y, y = beadsF p n := ⟨_, rfl⟩
    rw [← hL] at HB1 HB2 HQB HF1 HL1 HAR f5
    obtain ⟨L2, hL2⟩ : ∃ y, y = beadsF p p.length := ⟨_, rfl⟩
    rw [← hL2] at HL1 HO1 HQL
    clear hop hL hL2 f1 f2 f3 f4
    subst f5
    obtain ⟨gb, hgb⟩ : ∃ y, y = goodB b := ⟨_, rfl⟩
    obtain ⟨R, hR⟩ : ∃ y, y = fromBeadsF b := ⟨_, rfl⟩
    rw [← hgb, ← hR] at HG1 HG2
    rw [← hgb] at HAB
    rw [← hR] at HQG
    cases hob : shiftOk b s
    · rw [hob] at HS1 HS2
      obtain ⟨S, hS⟩ : ∃ y, y = shiftF b s := ⟨_, rfl⟩
      rw [← hS] at HS1 HS2 HQS
      clear hob hS hgb hR HK1
      cases hgx : good x
      · rw [hgx] at HM1 HM2
        obtain ⟨M, hM⟩ : ∃ y, y = mayaF x := ⟨_, rfl⟩
        rw [← hM] at HM1 HM2 HQM
        clear hM hgx HX1 HQX
        have B0 : Below w.heap.size w w := Below.refl _ _
        go_enter Try.func3, Try.ntmps3
        go_wp2_with fail
        refine (HB1.out _ (h0.later B0)).mono ?_
        rintro e w1 ⟨Ab1, cb1, rfl, ob1, b1⟩
        have B1 : Below w.heap.size w w1 := Below.next B0 b1
        go_wp2_with fail
        refine (HB2.out _ (h0.later B1)).mono ?_
        rintro e w2 ⟨Ab2, cb2, rfl, ob2, b2⟩
        have B2 : Below w.heap.size w w2 := Below.next B1 b2
        have ob1_2 := ob1.below b2
        clear ob1
        go_wp2_with fail
        refine (HQB.out _ _ _ _ _ ob1_2.cells ob2.cells).mono ?_
        rintro e w3 ⟨rfl, b3⟩
        have B3 : Below w.heap.size w w3 := Below.next B2 b3
        have ob1_3 := ob1_2.below b3
        clear ob1_2
        have ob2_3 := ob2.below b3
        clear ob2
        go_wp2_with fail
        refine (HF1.out _ _ _ ob1_3.cells).mono ?_
        rintro e w4 ⟨Af1, cf1, rfl, of1, b4⟩
        have B4 : Below w.heap.size w w4 := Below.next B3 b4
        have ob1_4 := ob1_3.below b4
        clear ob1_3
        go_wp2_with fail
        refine (HL1.out _ _ _ ob1_4.cells).mono ?_
        rintro e w5 ⟨Al1, cl1, rfl, ol1, b5⟩
        have B5 : Below w.heap.size w w5 := Below.next B4 b5
        have ob1_5 := ob1_4.below b5
        clear ob1_4
        have of1_5 := of1.below b5
        clear of1
        go_wp2_with fail
        refine (HO1.out _ (h0.later B5)).mono ?_
        rintro e w6 ⟨Ao1, co1, rfl, oo1, b6⟩
        have B6 : Below w.heap.size w w6 := Below.next B5 b6
        have ob1_6 := ob1_5.below b6
        clear ob1_5
        have of1_6 := of1_5.below b6
        clear of1_5
        have ol1_6 := ol1.below b6
        clear ol1
        go_wp2_with fail
        refine (HAR.out _ _ _ ob1_6.cells).mono ?_
        rintro e w7 ⟨rfl, b7⟩
        have B7 : Below w.heap.size w w7 := Below.next B6 b7
        have ob1_7 := ob1_6.below b7
        clear ob1_6
        have of1_7 := of1_6.below b7
        clear of1_6
        have ol1_7 := ol1_6.below b7
        clear ol1_6
        have oo1_7 := oo1.below b7
        clear oo1
        go_wp2_with fail
        refine (HQP.out _ _ _ _ _ of1_7.cells (h0.later B7)).mono ?_
        rintro e w8 ⟨rfl, b8⟩
        have B8 : Below w.heap.size w w8 := Below.next B7 b8
        have ob1_8 := ob1_7.below b8
        clear ob1_7
        have of1_8 := of1_7.below b8
        clear of1_7
        have ol1_8 := ol1_7.below b8
        clear ol1_7
        have oo1_8 := oo1_7.below b8
        clear oo1_7
        go_wp2_with fail
        refine (HQL.out _ _ _ _ _ ol1_8.cells oo1_8.cells).mono ?_
        rintro e w9 ⟨rfl, b9⟩
        have B9 : Below w.heap.size w w9 := Below.next B8 b9
        have ob1_9 := ob1_8.below b9
        clear ob1_8
        have ol1_9 := ol1_8.below b9
        clear ol1_8
        have oo1_9 := oo1_8.below b9
        clear oo1_8
        go_wp2_with fail
        refine (HS1.out _ (h2.later B9)).mono ?_
        rintro e w10 ⟨As1, cs1, rfl, os1, b10⟩
        have B10 : Below w.heap.size w w10 := Below.next B9 b10
        go_wp2_with fail
        refine (HS2.out _ (h2.later B10)).mono ?_
        rintro e w11 ⟨As2, cs2, rfl, os2, b11⟩
        have B11 : Below w.heap.size w w11 := Below.next B10 b11
        have os1_11 := os1.below b11
        clear os1
        go_wp2_with fail
        refine (HG1.out _ (h2.later B11)).mono ?_
        rintro e w12 ⟨Ag1, cg1, rfl, og1, b12⟩
        have B12 : Below w.heap.size w w12 := Below.next B11 b12
        have os1_12 := os1_11.below b12
        clear os1_11
        have os2_12 := os2.below b12
        clear os2
        go_wp2_with fail
        refine (HG2.out _ (h2.later B12)).mono ?_
        rintro e w13 ⟨Ag2, cg2, rfl, og2, b13⟩
        have B13 : Below w.heap.size w w13 := Below.next B12 b13
        have os1_13 := os1_12.below b13
        clear os1_12
        have os2_13 := os2_12.below b13
        clear os2_12
        have og1_13 := og1.below b13
        clear og1
        go_wp2_with fail
        refine (HQS.out _ _ _ _ _ os1_13.cells os2_13.cells).mono ?_
        rintro e w14 ⟨rfl, b14⟩
        have B14 : Below w.heap.size w w14 := Below.next B13 b14
        have os1_14 := os1_13.below b14
        clear os1_13
        have os2_14 := os2_13.below b14
        clear os2_13
        have og1_14 := og1_13.below b14
        clear og1_13
        have og2_14 := og2.below b14
        clear og2
        go_wp2_with fail
        refine (HQG.out _ _ _ _ _ og1_14.cells og2_14.cells).mono ?_
        rintro e w15 ⟨rfl, b15⟩
        have B15 : Below w.heap.size w w15 := Below.next B14 b15
        have os1_15 := os1_14.below b15
        clear os1_14
        have og1_15 := og1_14.below b15
        clear og1_14
        have og2_15 := og2_14.below b15
        clear og2_14
        go_wp2_with fail
        refine (HAB.out _ (h2.later B15)).mono ?_
        rintro e w16 ⟨rfl, b16⟩
        have B16 : Below w.heap.size w w16 := Below.next B15 b16
        have os1_16 := os1_15.below b16
        clear os1_15
        have og1_16 := og1_15.below b16
        clear og1_15
        go_wp2_with fail
        refine (HM1.out _ (h4.later B16)).mono ?_
        rintro e w17 ⟨Am1, cm1, rfl, om1, b17⟩
        have B17 : Below w.heap.size w w17 := Below.next B16 b17
        go_wp2_with fail
        refine (HM2.out _ (h4.later B17)).mono ?_
        rintro e w18 ⟨Am2, cm2, rfl, om2, b18⟩
        have B18 : Below w.heap.size w w18 := Below.next B17 b18
        have om1_18 := om1.below b18
        clear om1
        go_wp2_with fail
        refine (HQM.out _ _ _ _ _ om1_18.cells om2.cells).mono ?_
        rintro e w19 ⟨rfl, b19⟩
        have B19 : Below w.heap.size w w19 := Below.next B18 b19
        have om1_19 := om1_18.below b19
        clear om1_18
        have om2_19 := om2.below b19
        clear om2
        go_wp2_with fail
        refine (HY1.out _ (h5.later B19)).mono ?_
        rintro e w20 ⟨Ay1, cy1, rfl, oy1, b20⟩
        have B20 : Below w.heap.size w w20 := Below.next B19 b20
        go_wp2_with fail
        refine (HY2.out _ (h5.later B20)).mono ?_
        rintro e w21 ⟨Ay2, cy2, rfl, oy2, b21⟩
        have B21 : Below w.heap.size w w21 := Below.next B20 b21
        have oy1_21 := oy1.below b21
        clear oy1
        go_wp2_with fail
        refine (HZ1.out _ (h6.later B21)).mono ?_
        rintro e w22 ⟨Az1, cz1, rfl, oz1, b22⟩
        have B22 : Below w.heap.size w w22 := Below.next B21 b22
        have oy1_22 := oy1_21.below b22
        clear oy1_21
        have oy2_22 := oy2.below b22
        clear oy2
        go_wp2_with fail
        refine (HZ2.out _ (h6.later B22)).mono ?_
        rintro e w23 ⟨Az2, cz2, rfl, oz2, b23⟩
        have B23 : Below w.heap.size w w23 := Below.next B22 b23
        have oy1_23 := oy1_22.below b23
        clear oy1_22
        have oy2_23 := oy2_22.below b23
        clear oy2_22
        have oz1_23 := oz1.below b23
        clear oz1
        go_wp2_with fail
        refine (HQY.out _ _ _ _ _ oy1_23.cells oy2_23.cells).mono ?_
        rintro e w24 ⟨rfl, b24⟩
        have B24 : Below w.heap.size w w24 := Below.next B23 b24
        have oy1_24 := oy1_23.below b24
        clear oy1_23
        have oy2_24 := oy2_23.below b24
        clear oy2_23
        have oz1_24 := oz1_23.below b24
        clear oz1_23
        have oz2_24 := oz2.below b24
        clear oz2
        go_wp2_with fail
        refine (HQZ.out _ _ _ _ _ oz1_24.cells oz2_24.cells).mono ?_
        rintro e w25 ⟨rfl, b25⟩
        have B25 : Below w.heap.size w w25 := Below.next B24 b25
        have oy1_25 := oy1_24.below b25
        clear oy1_24
        have oy2_25 := oy2_24.below b25
        clear oy2_24
        have oz1_25 := oz1_24.below b25
        clear oz1_24
        have oz2_25 := oz2_24.below b25
        clear oz2_24
        go_wp2_with fail
        go_ret
        exact ⟨by first | rfl | exact ret_bool (by simp), B25⟩
      · have Gx := (good_iff x).1 hgx
        have eM : mayaF x = mayaL x := by simp [mayaF, hgx]
        obtain ⟨u1, u2⟩ := un_maya Gx
        rw [hgx, eM] at HM1 HM2
        rw [eM] at HQM HX1
        rw [u1, u2] at HX1
        have hM60 := (maya_MO Gx).len
        have HMB := hid fun k (hk : k < (mayaL x).length) => (show -1000 ≤ (mayaL x).getD k 0 ∧ (mayaL x).getD k 0 ≤ 1000 by
          have := (maya_MO Gx).lo ((mayaL x).getD k 0) (by rw [getD_in hk]; exact List.getElem_mem _)
          omega)
        have HSB := hid fun k (hk : k ≤ (mayaL x).length) => myS_bd HMB.out ((mayaL x).length / 2) k hk
        have HSUM := hid (myS_all Gx)
        have HES := hid fun W (h : Cells W A4 x) => eSum_any A4 x c4 W Gx.len (fun j hj => by have := Gx.pos j hj; have := Gx.le j hj; omega) h
        obtain ⟨M, hM⟩ : ∃ y, y = mayaL x := ⟨_, rfl⟩
        rw [← hM] at HM1 HM2 HQM HX1 hM60 HMB HSB HSUM
        obtain ⟨half, hh⟩ : ∃ y, y = M.length / 2 := ⟨_, rfl⟩
        have hqt : Int.tdiv (M.length : Int) 2 = (half : Int) := by rw [hh]; rfl
        have hhb : half ≤ 30 := by omega
        rw [← hh] at HSB HSUM
        obtain ⟨sx, hsx⟩ : ∃ y, y = x.sum := ⟨_, rfl⟩
        rw [← hsx] at HSUM HES
        clear hM hh hsx hgx Gx eM u1 u2
        have B0 : Below w.heap.size w w := Below.refl _ _
        go_enter Try.func3, Try.ntmps3
        go_wp2_with fail
        refine (HB1.out _ (h0.later B0)).mono ?_
        rintro e w1 ⟨Ab1, cb1, rfl, ob1, b1⟩
        have B1 : Below w.heap.size w w1 := Below.next B0 b1
        go_wp2_with fail
        refine (HB2.out _ (h0.later B1)).mono ?_
        rintro e w2 ⟨Ab2, cb2, rfl, ob2, b2⟩
        have B2 : Below w.heap.size w w2 := Below.next B1 b2
        have ob1_2 := ob1.below b2
        clear ob1
        go_wp2_with fail
        refine (HQB.out _ _ _ _ _ ob1_2.cells ob2.cells).mono ?_
        rintro e w3 ⟨rfl, b3⟩
        have B3 : Below w.heap.size w w3 := Below.next B2 b3
        have ob1_3 := ob1_2.below b3
        clear ob1_2
        have ob2_3 := ob2.below b3
        clear ob2
        go_wp2_with fail
        refine (HF1.out _ _ _ ob1_3.cells).mono ?_
        rintro e w4 ⟨Af1, cf1, rfl, of1, b4⟩
        have B4 : Below w.heap.size w w4 := Below.next B3 b4
        have ob1_4 := ob1_3.below b4
        clear ob1_3
        go_wp2_with fail
        refine (HL1.out _ _ _ ob1_4.cells).mono ?_
        rintro e w5 ⟨Al1, cl1, rfl, ol1, b5⟩
        have B5 : Below w.heap.size w w5 := Below.next B4 b5
        have ob1_5 := ob1_4.below b5
        clear ob1_4
        have of1_5 := of1.below b5
        clear of1
        go_wp2_with fail
        refine (HO1.out _ (h0.later B5)).mono ?_
        rintro e w6 ⟨Ao1, co1, rfl, oo1, b6⟩
        have B6 : Below w.heap.size w w6 := Below.next B5 b6
        have ob1_6 := ob1_5.below b6
        clear ob1_5
        have of1_6 := of1_5.below b6
        clear of1_5
        have ol1_6 := ol1.below b6
        clear ol1
        go_wp2_with fail
        refine (HAR.out _ _ _ ob1_6.cells).mono ?_
        rintro e w7 ⟨rfl, b7⟩
        have B7 : Below w.heap.size w w7 := Below.next B6 b7
        have ob1_7 := ob1_6.below b7
        clear ob1_6
        have of1_7 := of1_6.below b7
        clear of1_6
        have ol1_7 := ol1_6.below b7
        clear ol1_6
        have oo1_7 := oo1.below b7
        clear oo1
        go_wp2_with fail
        refine (HQP.out _ _ _ _ _ of1_7.cells (h0.later B7)).mono ?_
        rintro e w8 ⟨rfl, b8⟩
        have B8 : Below w.heap.size w w8 := Below.next B7 b8
        have ob1_8 := ob1_7.below b8
        clear ob1_7
        have of1_8 := of1_7.below b8
        clear of1_7
        have ol1_8 := ol1_7.below b8
        clear ol1_7
        have oo1_8 := oo1_7.below b8
        clear oo1_7
        go_wp2_with fail
        refine (HQL.out _ _ _ _ _ ol1_8.cells oo1_8.cells).mono ?_
        rintro e w9 ⟨rfl, b9⟩
        have B9 : Below w.heap.size w w9 := Below.next B8 b9
        have ob1_9 := ob1_8.below b9
        clear ob1_8
        have ol1_9 := ol1_8.below b9
        clear ol1_8
        have oo1_9 := oo1_8.below b9
        clear oo1_8
        go_wp2_with fail
        refine (HS1.out _ (h2.later B9)).mono ?_
        rintro e w10 ⟨As1, cs1, rfl, os1, b10⟩
        have B10 : Below w.heap.size w w10 := Below.next B9 b10
        go_wp2_with fail
        refine (HS2.out _ (h2.later B10)).mono ?_
        rintro e w11 ⟨As2, cs2, rfl, os2, b11⟩
        have B11 : Below w.heap.size w w11 := Below.next B10 b11
        have os1_11 := os1.below b11
        clear os1
        go_wp2_with fail
        refine (HG1.out _ (h2.later B11)).mono ?_
        rintro e w12 ⟨Ag1, cg1, rfl, og1, b12⟩
        have B12 : Below w.heap.size w w12 := Below.next B11 b12
        have os1_12 := os1_11.below b12
        clear os1_11
        have os2_12 := os2.below b12
        clear os2
        go_wp2_with fail
        refine (HG2.out _ (h2.later B12)).mono ?_
        rintro e w13 ⟨Ag2, cg2, rfl, og2, b13⟩
        have B13 : Below w.heap.size w w13 := Below.next B12 b13
        have os1_13 := os1_12.below b13
        clear os1_12
        have os2_13 := os2_12.below b13
        clear os2_12
        have og1_13 := og1.below b13
        clear og1
        go_wp2_with fail
        refine (HQS.out _ _ _ _ _ os1_13.cells os2_13.cells).mono ?_
        rintro e w14 ⟨rfl, b14⟩
        have B14 : Below w.heap.size w w14 := Below.next B13 b14
        have os1_14 := os1_13.below b14
        clear os1_13
        have os2_14 := os2_13.below b14
        clear os2_13
        have og1_14 := og1_13.below b14
        clear og1_13
        have og2_14 := og2.below b14
        clear og2
        go_wp2_with fail
        refine (HQG.out _ _ _ _ _ og1_14.cells og2_14.cells).mono ?_
        rintro e w15 ⟨rfl, b15⟩
        have B15 : Below w.heap.size w w15 := Below.next B14 b15
        have os1_15 := os1_14.below b15
        clear os1_14
        have og1_15 := og1_14.below b15
        clear og1_14
        have og2_15 := og2_14.below b15
        clear og2_14
        go_wp2_with fail
        refine (HAB.out _ (h2.later B15)).mono ?_
        rintro e w16 ⟨rfl, b16⟩
        have B16 : Below w.heap.size w w16 := Below.next B15 b16
        have os1_16 := os1_15.below b16
        clear os1_15
        have og1_16 := og1_15.below b16
        clear og1_15
        go_wp2_with fail
        refine (HM1.out _ (h4.later B16)).mono ?_
        rintro e w17 ⟨Am1, cm1, rfl, om1, b17⟩
        have B17 : Below w.heap.size w w17 := Below.next B16 b17
        go_wp2_with fail
        refine (HM2.out _ (h4.later B17)).mono ?_
        rintro e w18 ⟨Am2, cm2, rfl, om2, b18⟩
        have B18 : Below w.heap.size w w18 := Below.next B17 b18
        have om1_18 := om1.below b18
        clear om1
        go_wp2_with fail
        refine (HQM.out _ _ _ _ _ om1_18.cells om2.cells).mono ?_
        rintro e w19 ⟨rfl, b19⟩
        have B19 : Below w.heap.size w w19 := Below.next B18 b19
        have om1_19 := om1_18.below b19
        clear om1_18
        have om2_19 := om2.below b19
        clear om2
        go_wp2_with fail
        refine (HX1.out _ _ _ om1_19.cells).mono ?_
        rintro e w20 ⟨Ax1, cx1, rfl, ox1, b20⟩
        have B20 : Below w.heap.size w w20 := Below.next B19 b20
        have om1_20 := om1_19.below b20
        clear om1_19
        have hmc := hid om1_20.cells
        clear om1_20
        go_wp2_with fail
        go_loop [41, 236] (fun v i => ∃ k : Nat, k ≤ M.length ∧ i = .int .i64 k ∧ v = .int .i64 (myS M half k)) (fun _ i => M.length - (intOf i).toNat)
        case atStart => exact ⟨0, Nat.zero_le _, rfl, rfl⟩
        case round =>
          obtain ⟨k, hk, rfl, rfl⟩ := hrel
          by_cases hlt : k < M.length
          · obtain ⟨b0, o0, rfl, hcc⟩ := hmc.out (by omega)
            have hck := hcc k hlt
            have hxb := HMB.out k hlt
            have hsb := HSB.out k (by omega)
            have HN := hid (show myS M half (k + 1) = myS M half k + if k < half then M.getD k 0 else -M.getD k 0 from rfl)
            obtain ⟨y, hy⟩ : ∃ y, y = M.getD k 0 := ⟨_, rfl⟩
            rw [← hy] at hck hxb HN
            obtain ⟨t, ht⟩ : ∃ t, t = myS M half k := ⟨_, rfl⟩
            rw [← ht] at hsb HN
            rw [← ht]
            clear hcc hy ht hmc
            by_cases hkh : k < half
            · rw [if_pos hkh] at HN
              go_wp2_with fail
              go_round
              case rel => exact ⟨k + 1, by omega, by go_num, by rw [HN.out]⟩
              case measure => simp [intOf]; omega
            · rw [if_neg hkh] at HN
              go_wp2_with fail
              go_round
              case rel => exact ⟨k + 1, by omega, by go_num, by rw [HN.out]; go_num⟩
              case measure => simp [intOf]; omega
          · have hke : k = M.length := by omega
            subst hke
            rw [HSUM.out]
            go_wp2_with fail
            refine (HQX.out _ _ _ _ _ ox1.cells (h4.later B20)).mono ?_
            rintro e w21 ⟨rfl, b21⟩
            have B21 : Below w.heap.size w w21 := Below.next B20 b21
            have ox1_21 := ox1.below b21
            clear ox1
            go_wp2_with fail
            refine (HES.out _ (h4.later B21)).mono ?_
            rintro e w' ⟨rfl, rfl⟩
            go_wp2_with fail
            refine (HY1.out _ (h5.later B21)).mono ?_
            rintro e w22 ⟨Ay1, cy1, rfl, oy1, b22⟩
            have B22 : Below w.heap.size w w22 := Below.next B21 b22
            go_wp2_with fail
            refine (HY2.out _ (h5.later B22)).mono ?_
            rintro e w23 ⟨Ay2, cy2, rfl, oy2, b23⟩
            have B23 : Below w.heap.size w w23 := Below.next B22 b23
            have oy1_23 := oy1.below b23
            clear oy1
            go_wp2_with fail
            refine (HZ1.out _ (h6.later B23)).mono ?_
            rintro e w24 ⟨Az1, cz1, rfl, oz1, b24⟩
            have B24 : Below w.heap.size w w24 := Below.next B23 b24
            have oy1_24 := oy1_23.below b24
            clear oy1_23
            have oy2_24 := oy2.below b24
            clear oy2
            go_wp2_with fail
            refine (HZ2.out _ (h6.later B24)).mono ?_
            rintro e w25 ⟨Az2, cz2, rfl, oz2, b25⟩
            have B25 : Below w.heap.size w w25 := Below.next B24 b25
            have oy1_25 := oy1_24.below b25
            clear oy1_24
            have oy2_25 := oy2_24.below b25
            clear oy2_24
            have oz1_25 := oz1.below b25
            clear oz1
            go_wp2_with fail
            refine (HQY.out _ _ _ _ _ oy1_25.cells oy2_25.cells).mono ?_
            rintro e w26 ⟨rfl, b26⟩
            have B26 : Below w.heap.size w w26 := Below.next B25 b26
            have oy1_26 := oy1_25.below b26
            clear oy1_25
            have oy2_26 := oy2_25.below b26
            clear oy2_25
            have oz1_26 := oz1_25.below b26
            clear oz1_25
            have oz2_26 := oz2.below b26
            clear oz2
            go_wp2_with fail
            refine (HQZ.out _ _ _ _ _ oz1_26.cells oz2_26.cells).mono ?_
            rintro e w27 ⟨rfl, b27⟩
            have B27 : Below w.heap.size w w27 := Below.next B26 b27
            have oy1_27 := oy1_26.below b27
            clear oy1_26
            have oy2_27 := oy2_26.below b27
            clear oy2_26
            have oz1_27 := oz1_26.below b27
            clear oz1_26
            have oz2_27 := oz2_26.below b27
            clear oz2_26
            go_wp2_with fail
            go_ret
            exact ⟨by first | rfl | exact ret_bool (by simp), B27⟩
    · obtain ⟨g1, g2⟩ := shift_facts hob
      rw [g1, g2, ← hR] at HK1
      rw [hob] at HS1 HS2
      obtain ⟨S, hS⟩ : ∃ y, y = shiftF b s := ⟨_, rfl⟩
      rw [← hS] at HS1 HS2 HQS HK1
      clear hob hS hgb hR g1 g2
      cases hgx : good x
      · rw [hgx] at HM1 HM2
        obtain ⟨M, hM⟩ : ∃ y, y = mayaF x := ⟨_, rfl⟩
        rw [← hM] at HM1 HM2 HQM
        clear hM hgx HX1 HQX
        have B0 : Below w.heap.size w w := Below.refl _ _
        go_enter Try.func3, Try.ntmps3
        go_wp2_with fail
        refine (HB1.out _ (h0.later B0)).mono ?_
        rintro e w1 ⟨Ab1, cb1, rfl, ob1, b1⟩
        have B1 : Below w.heap.size w w1 := Below.next B0 b1
        go_wp2_with fail
        refine (HB2.out _ (h0.later B1)).mono ?_
        rintro e w2 ⟨Ab2, cb2, rfl, ob2, b2⟩
        have B2 : Below w.heap.size w w2 := Below.next B1 b2
        have ob1_2 := ob1.below b2
        clear ob1
        go_wp2_with fail
        refine (HQB.out _ _ _ _ _ ob1_2.cells ob2.cells).mono ?_
        rintro e w3 ⟨rfl, b3⟩
        have B3 : Below w.heap.size w w3 := Below.next B2 b3
        have ob1_3 := ob1_2.below b3
        clear ob1_2
        have ob2_3 := ob2.below b3
        clear ob2
        go_wp2_with fail
        refine (HF1.out _ _ _ ob1_3.cells).mono ?_
        rintro e w4 ⟨Af1, cf1, rfl, of1, b4⟩
        have B4 : Below w.heap.size w w4 := Below.next B3 b4
        have ob1_4 := ob1_3.below b4
        clear ob1_3
        go_wp2_with fail
        refine (HL1.out _ _ _ ob1_4.cells).mono ?_
        rintro e w5 ⟨Al1, cl1, rfl, ol1, b5⟩
        have B5 : Below w.heap.size w w5 := Below.next B4 b5
        have ob1_5 := ob1_4.below b5
        clear ob1_4
        have of1_5 := of1.below b5
        clear of1
        go_wp2_with fail
        refine (HO1.out _ (h0.later B5)).mono ?_
        rintro e w6 ⟨Ao1, co1, rfl, oo1, b6⟩
        have B6 : Below w.heap.size w w6 := Below.next B5 b6
        have ob1_6 := ob1_5.below b6
        clear ob1_5
        have of1_6 := of1_5.below b6
        clear of1_5
        have ol1_6 := ol1.below b6
        clear ol1
        go_wp2_with fail
        refine (HAR.out _ _ _ ob1_6.cells).mono ?_
        rintro e w7 ⟨rfl, b7⟩
        have B7 : Below w.heap.size w w7 := Below.next B6 b7
        have ob1_7 := ob1_6.below b7
        clear ob1_6
        have of1_7 := of1_6.below b7
        clear of1_6
        have ol1_7 := ol1_6.below b7
        clear ol1_6
        have oo1_7 := oo1.below b7
        clear oo1
        go_wp2_with fail
        refine (HQP.out _ _ _ _ _ of1_7.cells (h0.later B7)).mono ?_
        rintro e w8 ⟨rfl, b8⟩
        have B8 : Below w.heap.size w w8 := Below.next B7 b8
        have ob1_8 := ob1_7.below b8
        clear ob1_7
        have of1_8 := of1_7.below b8
        clear of1_7
        have ol1_8 := ol1_7.below b8
        clear ol1_7
        have oo1_8 := oo1_7.below b8
        clear oo1_7
        go_wp2_with fail
        refine (HQL.out _ _ _ _ _ ol1_8.cells oo1_8.cells).mono ?_
        rintro e w9 ⟨rfl, b9⟩
        have B9 : Below w.heap.size w w9 := Below.next B8 b9
        have ob1_9 := ob1_8.below b9
        clear ob1_8
        have ol1_9 := ol1_8.below b9
        clear ol1_8
        have oo1_9 := oo1_8.below b9
        clear oo1_8
        go_wp2_with fail
        refine (HS1.out _ (h2.later B9)).mono ?_
        rintro e w10 ⟨As1, cs1, rfl, os1, b10⟩
        have B10 : Below w.heap.size w w10 := Below.next B9 b10
        go_wp2_with fail
        refine (HS2.out _ (h2.later B10)).mono ?_
        rintro e w11 ⟨As2, cs2, rfl, os2, b11⟩
        have B11 : Below w.heap.size w w11 := Below.next B10 b11
        have os1_11 := os1.below b11
        clear os1
        go_wp2_with fail
        refine (HG1.out _ (h2.later B11)).mono ?_
        rintro e w12 ⟨Ag1, cg1, rfl, og1, b12⟩
        have B12 : Below w.heap.size w w12 := Below.next B11 b12
        have os1_12 := os1_11.below b12
        clear os1_11
        have os2_12 := os2.below b12
        clear os2
        go_wp2_with fail
        refine (HG2.out _ (h2.later B12)).mono ?_
        rintro e w13 ⟨Ag2, cg2, rfl, og2, b13⟩
        have B13 : Below w.heap.size w w13 := Below.next B12 b13
        have os1_13 := os1_12.below b13
        clear os1_12
        have os2_13 := os2_12.below b13
        clear os2_12
        have og1_13 := og1.below b13
        clear og1
        go_wp2_with fail
        refine (HQS.out _ _ _ _ _ os1_13.cells os2_13.cells).mono ?_
        rintro e w14 ⟨rfl, b14⟩
        have B14 : Below w.heap.size w w14 := Below.next B13 b14
        have os1_14 := os1_13.below b14
        clear os1_13
        have os2_14 := os2_13.below b14
        clear os2_13
        have og1_14 := og1_13.below b14
        clear og1_13
        have og2_14 := og2.below b14
        clear og2
        go_wp2_with fail
        refine (HQG.out _ _ _ _ _ og1_14.cells og2_14.cells).mono ?_
        rintro e w15 ⟨rfl, b15⟩
        have B15 : Below w.heap.size w w15 := Below.next B14 b15
        have os1_15 := os1_14.below b15
        clear os1_14
        have og1_15 := og1_14.below b15
        clear og1_14
        have og2_15 := og2_14.below b15
        clear og2_14
        go_wp2_with fail
        refine (HAB.out _ (h2.later B15)).mono ?_
        rintro e w16 ⟨rfl, b16⟩
        have B16 : Below w.heap.size w w16 := Below.next B15 b16
        have os1_16 := os1_15.below b16
        clear os1_15
        have og1_16 := og1_15.below b16
        clear og1_15
        go_wp2_with fail
        refine (HK1.out _ _ _ os1_16.cells).mono ?_
        rintro e w17 ⟨Ak1, ck1, rfl, ok1, b17⟩
        have B17 : Below w.heap.size w w17 := Below.next B16 b17
        have os1_17 := os1_16.below b17
        clear os1_16
        have og1_17 := og1_16.below b17
        clear og1_16
        go_wp2_with fail
        refine (HQG.out _ _ _ _ _ ok1.cells og1_17.cells).mono ?_
        rintro e w18 ⟨rfl, b18⟩
        have B18 : Below w.heap.size w w18 := Below.next B17 b18
        have os1_18 := os1_17.below b18
        clear os1_17
        have og1_18 := og1_17.below b18
        clear og1_17
        have ok1_18 := ok1.below b18
        clear ok1
        go_wp2_with fail
        refine (HM1.out _ (h4.later B18)).mono ?_
        rintro e w19 ⟨Am1, cm1, rfl, om1, b19⟩
        have B19 : Below w.heap.size w w19 := Below.next B18 b19
        go_wp2_with fail
        refine (HM2.out _ (h4.later B19)).mono ?_
        rintro e w20 ⟨Am2, cm2, rfl, om2, b20⟩
        have B20 : Below w.heap.size w w20 := Below.next B19 b20
        have om1_20 := om1.below b20
        clear om1
        go_wp2_with fail
        refine (HQM.out _ _ _ _ _ om1_20.cells om2.cells).mono ?_
        rintro e w21 ⟨rfl, b21⟩
        have B21 : Below w.heap.size w w21 := Below.next B20 b21
        have om1_21 := om1_20.below b21
        clear om1_20
        have om2_21 := om2.below b21
        clear om2
        go_wp2_with fail
        refine (HY1.out _ (h5.later B21)).mono ?_
        rintro e w22 ⟨Ay1, cy1, rfl, oy1, b22⟩
        have B22 : Below w.heap.size w w22 := Below.next B21 b22
        go_wp2_with fail
        refine (HY2.out _ (h5.later B22)).mono ?_
        rintro e w23 ⟨Ay2, cy2, rfl, oy2, b23⟩
        have B23 : Below w.heap.size w w23 := Below.next B22 b23
        have oy1_23 := oy1.below b23
        clear oy1
        go_wp2_with fail
        refine (HZ1.out _ (h6.later B23)).mono ?_
        rintro e w24 ⟨Az1, cz1, rfl, oz1, b24⟩
        have B24 : Below w.heap.size w w24 := Below.next B23 b24
        have oy1_24 := oy1_23.below b24
        clear oy1_23
        have oy2_24 := oy2.below b24
        clear oy2
        go_wp2_with fail
        refine (HZ2.out _ (h6.later B24)).mono ?_
        rintro e w25 ⟨Az2, cz2, rfl, oz2, b25⟩
        have B25 : Below w.heap.size w w25 := Below.next B24 b25
        have oy1_25 := oy1_24.below b25
        clear oy1_24
        have oy2_25 := oy2_24.below b25
        clear oy2_24
        have oz1_25 := oz1.below b25
        clear oz1
        go_wp2_with fail
        refine (HQY.out _ _ _ _ _ oy1_25.cells oy2_25.cells).mono ?_
        rintro e w26 ⟨rfl, b26⟩
        have B26 : Below w.heap.size w w26 := Below.next B25 b26
        have oy1_26 := oy1_25.below b26
        clear oy1_25
        have oy2_26 := oy2_25.below b26
        clear oy2_25
        have oz1_26 := oz1_25.below b26
        clear oz1_25
        have oz2_26 := oz2.below b26
        clear oz2
        go_wp2_with fail
        refine (HQZ.out _ _ _ _ _ oz1_26.cells oz2_26.cells).mono ?_
        rintro e w27 ⟨rfl, b27⟩
        have B27 : Below w.heap.size w w27 := Below.next B26 b27
        have oy1_27 := oy1_26.below b27
        clear oy1_26
        have oy2_27 := oy2_26.below b27
        clear oy2_26
        have oz1_27 := oz1_26.below b27
        clear oz1_26
        have oz2_27 := oz2_26.below b27
        clear oz2_26
        go_wp2_with fail
        go_ret
        exact ⟨by first | rfl | exact ret_bool (by simp), B27⟩
      · have Gx := (good_iff x).1 hgx
        have eM : mayaF x = mayaL x := by simp [mayaF, hgx]
        obtain ⟨u1, u2⟩ := un_maya Gx
        rw [hgx, eM] at HM1 HM2
        rw [eM] at HQM HX1
        rw [u1, u2] at HX1
        have hM60 := (maya_MO Gx).len
        have HMB := hid fun k (hk : k < (mayaL x).length) => (show -1000 ≤ (mayaL x).getD k 0 ∧ (mayaL x).getD k 0 ≤ 1000 by
          have := (maya_MO Gx).lo ((mayaL x).getD k 0) (by rw [getD_in hk]; exact List.getElem_mem _)
          omega)
        have HSB := hid fun k (hk : k ≤ (mayaL x).length) => myS_bd HMB.out ((mayaL x).length / 2) k hk
        have HSUM := hid (myS_all Gx)
        have HES := hid fun W (h : Cells W A4 x) => eSum_any A4 x c4 W Gx.len (fun j hj => by have := Gx.pos j hj; have := Gx.le j hj; omega) h
        obtain ⟨M, hM⟩ : ∃ y, y = mayaL x := ⟨_, rfl⟩
        rw [← hM] at HM1 HM2 HQM HX1 hM60 HMB HSB HSUM
        obtain ⟨half, hh⟩ : ∃ y, y = M.length / 2 := ⟨_, rfl⟩
        have hqt : Int.tdiv (M.length : Int) 2 = (half : Int) := by rw [hh]; rfl
        have hhb : half ≤ 30 := by omega
        rw [← hh] at HSB HSUM
        obtain ⟨sx, hsx⟩ : ∃ y, y = x.sum := ⟨_, rfl⟩
        rw [← hsx] at HSUM HES
        clear hM hh hsx hgx Gx eM u1 u2
        have B0 : Below w.heap.size w w := Below.refl _ _
        go_enter Try.func3, Try.ntmps3
        go_wp2_with fail
        refine (HB1.out _ (h0.later B0)).mono ?_
        rintro e w1 ⟨Ab1, cb1, rfl, ob1, b1⟩
        have B1 : Below w.heap.size w w1 := Below.next B0 b1
        go_wp2_with fail
        refine (HB2.out _ (h0.later B1)).mono ?_
        rintro e w2 ⟨Ab2, cb2, rfl, ob2, b2⟩
        have B2 : Below w.heap.size w w2 := Below.next B1 b2
        have ob1_2 := ob1.below b2
        clear ob1
        go_wp2_with fail
        refine (HQB.out _ _ _ _ _ ob1_2.cells ob2.cells).mono ?_
        rintro e w3 ⟨rfl, b3⟩
        have B3 : Below w.heap.size w w3 := Below.next B2 b3
        have ob1_3 := ob1_2.below b3
        clear ob1_2
        have ob2_3 := ob2.below b3
        clear ob2
        go_wp2_with fail
        refine (HF1.out _ _ _ ob1_3.cells).mono ?_
        rintro e w4 ⟨Af1, cf1, rfl, of1, b4⟩
        have B4 : Below w.heap.size w w4 := Below.next B3 b4
        have ob1_4 := ob1_3.below b4
        clear ob1_3
        go_wp2_with fail
        refine (HL1.out _ _ _ ob1_4.cells).mono ?_
        rintro e w5 ⟨Al1, cl1, rfl, ol1, b5⟩
        have B5 : Below w.heap.size w w5 := Below.next B4 b5
        have ob1_5 := ob1_4.below b5
        clear ob1_4
        have of1_5 := of1.below b5
        clear of1
        go_wp2_with fail
        refine (HO1.out _ (h0.later B5)).mono ?_
        rintro e w6 ⟨Ao1, co1, rfl, oo1, b6⟩
        have B6 : Below w.heap.size w w6 := Below.next B5 b6
        have ob1_6 := ob1_5.below b6
        clear ob1_5
        have of1_6 := of1_5.below b6
        clear of1_5
        have ol1_6 := ol1.below b6
        clear ol1
        go_wp2_with fail
        refine (HAR.out _ _ _ ob1_6.cells).mono ?_
        rintro e w7 ⟨rfl, b7⟩
        have B7 : Below w.heap.size w w7 := Below.next B6 b7
        have ob1_7 := ob1_6.below b7
        clear ob1_6
        have of1_7 := of1_6.below b7
        clear of1_6
        have ol1_7 := ol1_6.below b7
        clear ol1_6
        have oo1_7 := oo1.below b7
        clear oo1
        go_wp2_with fail
        refine (HQP.out _ _ _ _ _ of1_7.cells (h0.later B7)).mono ?_
        rintro e w8 ⟨rfl, b8⟩
        have B8 : Below w.heap.size w w8 := Below.next B7 b8
        have ob1_8 := ob1_7.below b8
        clear ob1_7
        have of1_8 := of1_7.below b8
        clear of1_7
        have ol1_8 := ol1_7.below b8
        clear ol1_7
        have oo1_8 := oo1_7.below b8
        clear oo1_7
        go_wp2_with fail
        refine (HQL.out _ _ _ _ _ ol1_8.cells oo1_8.cells).mono ?_
        rintro e w9 ⟨rfl, b9⟩
        have B9 : Below w.heap.size w w9 := Below.next B8 b9
        have ob1_9 := ob1_8.below b9
        clear ob1_8
        have ol1_9 := ol1_8.below b9
        clear ol1_8
        have oo1_9 := oo1_8.below b9
        clear oo1_8
        go_wp2_with fail
        refine (HS1.out _ (h2.later B9)).mono ?_
        rintro e w10 ⟨As1, cs1, rfl, os1, b10⟩
        have B10 : Below w.heap.size w w10 := Below.next B9 b10
        go_wp2_with fail
        refine (HS2.out _ (h2.later B10)).mono ?_
        rintro e w11 ⟨As2, cs2, rfl, os2, b11⟩
        have B11 : Below w.heap.size w w11 := Below.next B10 b11
        have os1_11 := os1.below b11
        clear os1
        go_wp2_with fail
        refine (HG1.out _ (h2.later B11)).mono ?_
        rintro e w12 ⟨Ag1, cg1, rfl, og1, b12⟩
        have B12 : Below w.heap.size w w12 := Below.next B11 b12
        have os1_12 := os1_11.below b12
        clear os1_11
        have os2_12 := os2.below b12
        clear os2
        go_wp2_with fail
        refine (HG2.out _ (h2.later B12)).mono ?_
        rintro e w13 ⟨Ag2, cg2, rfl, og2, b13⟩
        have B13 : Below w.heap.size w w13 := Below.next B12 b13
        have os1_13 := os1_12.below b13
        clear os1_12
        have os2_13 := os2_12.below b13
        clear os2_12
        have og1_13 := og1.below b13
        clear og1
        go_wp2_with fail
        refine (HQS.out _ _ _ _ _ os1_13.cells os2_13.cells).mono ?_
        rintro e w14 ⟨rfl, b14⟩
        have B14 : Below w.heap.size w w14 := Below.next B13 b14
        have os1_14 := os1_13.below b14
        clear os1_13
        have os2_14 := os2_13.below b14
        clear os2_13
        have og1_14 := og1_13.below b14
        clear og1_13
        have og2_14 := og2.below b14
        clear og2
        go_wp2_with fail
        refine (HQG.out _ _ _ _ _ og1_14.cells og2_14.cells).mono ?_
        rintro e w15 ⟨rfl, b15⟩
        have B15 : Below w.heap.size w w15 := Below.next B14 b15
        have os1_15 := os1_14.below b15
        clear os1_14
        have og1_15 := og1_14.below b15
        clear og1_14
        have og2_15 := og2_14.below b15
        clear og2_14
        go_wp2_with fail
        refine (HAB.out _ (h2.later B15)).mono ?_
        rintro e w16 ⟨rfl, b16⟩
        have B16 : Below w.heap.size w w16 := Below.next B15 b16
        have os1_16 := os1_15.below b16
        clear os1_15
        have og1_16 := og1_15.below b16
        clear og1_15
        go_wp2_with fail
        refine (HK1.out _ _ _ os1_16.cells).mono ?_
        rintro e w17 ⟨Ak1, ck1, rfl, ok1, b17⟩
        have B17 : Below w.heap.size w w17 := Below.next B16 b17
        have os1_17 := os1_16.below b17
        clear os1_16
        have og1_17 := og1_16.below b17
        clear og1_16
        go_wp2_with fail
        refine (HQG.out _ _ _ _ _ ok1.cells og1_17.cells).mono ?_
        rintro e w18 ⟨rfl, b18⟩
        have B18 : Below w.heap.size w w18 := Below.next B17 b18
        have os1_18 := os1_17.below b18
        clear os1_17
        have og1_18 := og1_17.below b18
        clear og1_17
        have ok1_18 := ok1.below b18
        clear ok1
        go_wp2_with fail
        refine (HM1.out _ (h4.later B18)).mono ?_
        rintro e w19 ⟨Am1, cm1, rfl, om1, b19⟩
        have B19 : Below w.heap.size w w19 := Below.next B18 b19
        go_wp2_with fail
        refine (HM2.out _ (h4.later B19)).mono ?_
        rintro e w20 ⟨Am2, cm2, rfl, om2, b20⟩
        have B20 : Below w.heap.size w w20 := Below.next B19 b20
        have om1_20 := om1.below b20
        clear om1
        go_wp2_with fail
        refine (HQM.out _ _ _ _ _ om1_20.cells om2.cells).mono ?_
        rintro e w21 ⟨rfl, b21⟩
        have B21 : Below w.heap.size w w21 := Below.next B20 b21
        have om1_21 := om1_20.below b21
        clear om1_20
        have om2_21 := om2.below b21
        clear om2
        go_wp2_with fail
        refine (HX1.out _ _ _ om1_21.cells).mono ?_
        rintro e w22 ⟨Ax1, cx1, rfl, ox1, b22⟩
        have B22 : Below w.heap.size w w22 := Below.next B21 b22
        have om1_22 := om1_21.below b22
        clear om1_21
        have hmc := hid om1_22.cells
        clear om1_22
        go_wp2_with fail
        go_loop [41, 236] (fun v i => ∃ k : Nat, k ≤ M.length ∧ i = .int .i64 k ∧ v = .int .i64 (myS M half k)) (fun _ i => M.length - (intOf i).toNat)
        case atStart => exact ⟨0, Nat.zero_le _, rfl, rfl⟩
        case round =>
          obtain ⟨k, hk, rfl, rfl⟩ := hrel
          by_cases hlt : k < M.length
          · obtain ⟨b0, o0, rfl, hcc⟩ := hmc.out (by omega)
            have hck := hcc k hlt
            have hxb := HMB.out k hlt
            have hsb := HSB.out k (by omega)
            have HN := hid (show myS M half (k + 1) = myS M half k + if k < half then M.getD k 0 else -M.getD k 0 from rfl)
            obtain ⟨y, hy⟩ : ∃ y, y = M.getD k 0 := ⟨_, rfl⟩
            rw [← hy] at hck hxb HN
            obtain ⟨t, ht⟩ : ∃ t, t = myS M half k := ⟨_, rfl⟩
            rw [← ht] at hsb HN
            rw [← ht]
            clear hcc hy ht hmc
            by_cases hkh : k < half
            · rw [if_pos hkh] at HN
              go_wp2_with fail
              go_round
              case rel => exact ⟨k + 1, by omega, by go_num, by rw [HN.out]⟩
              case measure => simp [intOf]; omega
            · rw [if_neg hkh] at HN
              go_wp2_with fail
              go_round
              case rel => exact ⟨k + 1, by omega, by go_num, by rw [HN.out]; go_num⟩
              case measure => simp [intOf]; omega
          · have hke : k = M.length := by omega
            subst hke
            rw [HSUM.out]
            go_wp2_with fail
            refine (HQX.out _ _ _ _ _ ox1.cells (h4.later B22)).mono ?_
            rintro e w23 ⟨rfl, b23⟩
            have B23 : Below w.heap.size w w23 := Below.next B22 b23
            have ox1_23 := ox1.below b23
            clear ox1
            go_wp2_with fail
            refine (HES.out _ (h4.later B23)).mono ?_
            rintro e w' ⟨rfl, rfl⟩
            go_wp2_with fail
            refine (HY1.out _ (h5.later B23)).mono ?_
            rintro e w24 ⟨Ay1, cy1, rfl, oy1, b24⟩
            have B24 : Below w.heap.size w w24 := Below.next B23 b24
            go_wp2_with fail
            refine (HY2.out _ (h5.later B24)).mono ?_
            rintro e w25 ⟨Ay2, cy2, rfl, oy2, b25⟩
            have B25 : Below w.heap.size w w25 := Below.next B24 b25
            have oy1_25 := oy1.below b25
            clear oy1
            go_wp2_with fail
            refine (HZ1.out _ (h6.later B25)).mono ?_
            rintro e w26 ⟨Az1, cz1, rfl, oz1, b26⟩
            have B26 : Below w.heap.size w w26 := Below.next B25 b26
            have oy1_26 := oy1_25.below b26
            clear oy1_25
            have oy2_26 := oy2.below b26
            clear oy2
            go_wp2_with fail
            refine (HZ2.out _ (h6.later B26)).mono ?_
            rintro e w27 ⟨Az2, cz2, rfl, oz2, b27⟩
            have B27 : Below w.heap.size w w27 := Below.next B26 b27
            have oy1_27 := oy1_26.below b27
            clear oy1_26
            have oy2_27 := oy2_26.below b27
            clear oy2_26
            have oz1_27 := oz1.below b27
            clear oz1
            go_wp2_with fail
            refine (HQY.out _ _ _ _ _ oy1_27.cells oy2_27.cells).mono ?_
            rintro e w28 ⟨rfl, b28⟩
            have B28 : Below w.heap.size w w28 := Below.next B27 b28
            have oy1_28 := oy1_27.below b28
            clear oy1_27
            have oy2_28 := oy2_27.below b28
            clear oy2_27
            have oz1_28 := oz1_27.below b28
            clear oz1_27
            have oz2_28 := oz2.below b28
            clear oz2
            go_wp2_with fail
            refine (HQZ.out _ _ _ _ _ oz1_28.cells oz2_28.cells).mono ?_
            rintro e w29 ⟨rfl, b29⟩
            have B29 : Below w.heap.size w w29 := Below.next B28 b29
            have oy1_29 := oy1_28.below b29
            clear oy1_28
            have oy2_29 := oy2_28.below b29
            clear oy2_28
            have oz1_29 := oz1_28.below b29
            clear oz1_28
            have oz2_29 := oz2_28.below b29
            clear oz2_28
            go_wp2_with fail
            go_ret
            exact ⟨by first | rfl | exact ret_bool (by simp), B29⟩
end Go.Proofs.Ytpokehnjpakgcaa
