/-
  The walk of FnBarsEndInTheCoreOfAll (made by genbars.py).
-/
import Derived.Test.YtcgoiddghenkmaaBarsMath
import Derived.Test.YtcgoiddghenkmaaBrw
import Derived.Test.YtcgoiddghenkmaaBr
import Derived.Test.YtcgoiddghenkmaaEsr
namespace Go.Proofs.Ytcgoiddghenkmaa
open Go.RowKit

theorem eSame_bar (A B : Option Addr) (c d : Nat) (xs : List Int) (w : World) (hl : xs.length ≤ 1048576) (hA : Cells w A xs) (hB : Cells w B xs) :
    Calls Try.prog 10 #[.slice A xs.length c, .slice B xs.length d] w fun e w' => e = .returned (.bool true) ∧ Below w.heap.size w w' :=
  (eSame_any A B c d xs xs w hl hl hA hB).mono (by rintro e w' ⟨rfl, n, rfl⟩; exact ⟨by rw [decide_eq_true rfl], below_drew' _ _⟩)
theorem eRows_bar (A B : Option Addr) (c d : Nat) (L : List (List Int)) (w : World) {a s a2 s2 : Nat} (hL : L.length ≤ 10000) (hrow : ∀ k, k < L.length → (L.getD k []).length ≤ 1048576) (hA : Own2 w a s A c L) (hB : Own2 w a2 s2 B d L) :
    Calls Try.prog 11 #[.slice A L.length c, .slice B L.length d] w fun e w' => e = .returned (.bool true) ∧ Below w.heap.size w w' :=
  (eRows_t A B c d L w hL hrow hA.cells hB.cells).mono (by rintro e w' ⟨rfl, n, rfl⟩; exact ⟨rfl, below_drew' _ _⟩)
def LessB (t : Int) (X : List Int) (M : Int) (L : List Int) : Prop := brtB L t = true ∧ bcF L t = X ∧ bwF L t = M - 1 ∧ strB L = true ∧ good L = true ∧ L.length ≤ 30
set_option maxRecDepth 100000 in
set_option maxHeartbeats 16000000 in
theorem walkBarsEndInTheCoreOfAll (A0 : Option Addr) (c0 : Nat) (p : List Int) (t : Int) (A1 : Option Addr) (c1 : Nat) (q : List Int) (u k : Int) (A2 : Option Addr) (c2 : Nat) (x : List Int) (v : Int) (w : World)
    (h0 : Cells w A0 p) (hcap0 : p.length ≤ c0) (hno0 : A0 = none → c0 = 0) (ht64 : I64 t) (h1 : Cells w A1 q) (hcap1 : q.length ≤ c1) (_ : A1 = none → c1 = 0) (hu64 : I64 u) (hk64 : I64 k) (h2 : Cells w A2 x) (hcap2 : x.length ≤ c2) (_ : A2 = none → c2 = 0) (hv64 : I64 v) :
    Calls Try.prog 3 #[.slice A0 p.length c0, .int .i64 t, .slice A1 q.length c1, .int .i64 u, .int .i64 k, .slice A2 x.length c2, .int .i64 v] w fun e w' => e = .returned (.bool true) ∧ Below w.heap.size w w' := by
  by_cases hbig : 10000 < p.length
  · have hb : (10000 : Int) < (p.length : Int) := by omega
    go_enter Try.func3, Try.ntmps3
    go_wp2_with fail
    go_ret
    exact ⟨rfl, Below.refl _ _⟩
  have hz0 : (p.length : Int) ≤ 10000 := by omega
  by_cases hbig1 : 10000 < q.length
  · have hb : (10000 : Int) < (q.length : Int) := by omega
    go_enter Try.func3, Try.ntmps3
    go_wp2_with fail
    go_ret
    exact ⟨rfl, Below.refl _ _⟩
  have hz1 : (q.length : Int) ≤ 10000 := by omega
  by_cases hbig2 : 10000 < x.length
  · have hb : (10000 : Int) < (x.length : Int) := by omega
    go_enter Try.func3, Try.ntmps3
    go_wp2_with fail
    go_ret
    exact ⟨rfl, Below.refl _ _⟩
  have hz2 : (x.length : Int) ≤ 10000 := by omega
  have hnn : A0 = none → p.length = 0 ∧ c0 = 0 := fun e => by have := hno0 e; omega
  clear hbig hbig1 hbig2 hno0
  have HE := hid fun A B c d (xs : List Int) W (hl : xs.length ≤ 10000) (hA : Cells W A xs) (hB : Cells W B xs) => eSame_bar A B c d xs W (by omega) hA hB
  have HA1 := hid fun W (h : Cells W A0 p) => impl_BarCoreC A0 c0 p t W (by omega) hnn h ht64
  have HA2 := hid fun W (h : Cells W A0 p) => spec_BarCoreC A0 c0 p t W (by omega) hnn h ht64
  have HW1 := hid fun W (h : Cells W A0 p) => impl_BarWeightC A0 c0 p t W (by omega) hnn h ht64
  have HW2 := hid fun W (h : Cells W A0 p) => spec_BarWeightC A0 c0 p t W (by omega) hnn h ht64
  have HR1 := hid fun W (h : Cells W A0 p) => impl_BarsOfC A0 c0 p t W (by omega) hcap0 h ht64
  have HR2 := hid fun W (h : Cells W A0 p) => spec_BarsOfC A0 c0 p t W (by omega) hcap0 h ht64
  have HG1 := hid fun W (h : Cells W A1 q) => impl_TakeBarC A1 c1 q u k W (by omega) hcap1 h hu64 hk64
  have HG2 := hid fun W (h : Cells W A1 q) => spec_TakeBarC A1 c1 q u k W (by omega) hcap1 h hu64 hk64
  have HJ1 := hid fun W (h : Cells W A2 x) => impl_IsBarCoreC A2 c2 x v W (by omega) hcap2 h hv64
  have HJ2 := hid fun W (h : Cells W A2 x) => spec_IsBarCoreC A2 c2 x v W (by omega) hcap2 h hv64
  have HFL := hid (show (tbF q u k).length ≤ 10000 from tbF_len q u k)
  obtain ⟨F, hF⟩ : ∃ F, F = tbF q u k := ⟨_, rfl⟩
  obtain ⟨fb, hfb⟩ : ∃ b, b = tbB q u k := ⟨_, rfl⟩
  obtain ⟨jb, hjb⟩ : ∃ b, b = brtB x v := ⟨_, rfl⟩
  obtain ⟨ji, hji⟩ : ∃ b, b = ibF x v := ⟨_, rfl⟩
  rw [← hF, ← hfb] at HG1 HG2
  rw [← hF] at HFL
  rw [← hjb, ← hji] at HJ1 HJ2
  have e1 : (fb == fb) = true := by simp
  have e2 : (jb == jb) = true := by simp
  have HTK0 := hid fun W (k : Nat) (hk : I64 (k : Int)) (h : Cells W A0 p) => impl_TakeBarC A0 c0 p t k W (by omega) hcap0 h ht64 hk
  clear hF hfb hjb hji hcap0 hcap1 hcap2
  cases hok : brtB p t
  · have ec : bcF p t = [] := by unfold bcF; rw [if_neg (by rw [hok]; decide)]
    have ew : bwF p t = 0 := by unfold bwF; rw [if_neg (by rw [hok]; decide)]
    rw [hok, ec] at HA1 HA2
    rw [hok, ew] at HW1 HW2
    rw [hok, barF_f hok] at HR1 HR2
    have HXL := hid (show ([] : List Int).length ≤ 10000 by simp)
    have HER := hid fun A B c d W {a s a2 s2 : Nat} hA hB => eRows_bar A B c d ([] : List (List Int)) W (a := a) (s := s) (a2 := a2) (s2 := s2) (by simp) (by simp) hA hB
    clear hok ec ew hnn HTK0
    have B0 : Below w.heap.size w w := Below.refl _ _
    go_enter Try.func3, Try.ntmps3
    go_wp2_with fail
    refine (HA1.out _ (h0.later B0)).mono ?_
    rintro e w1 ⟨Ad1, cd1, rfl, od1, b1⟩
    have B1 : Below w.heap.size w w1 := Below.next B0 b1
    go_wp2_with fail
    refine (HA2.out _ (h0.later B1)).mono ?_
    rintro e w2 ⟨Ad2, cd2, rfl, od2, b2⟩
    have B2 : Below w.heap.size w w2 := Below.next B1 b2
    have od1_2 := od1.below b2
    clear od1
    go_wp2_with fail
    refine (HW1.out _ (h0.later B2)).mono ?_
    rintro e w3 ⟨rfl, b3⟩
    have B3 : Below w.heap.size w w3 := Below.next B2 b3
    have od1_3 := od1_2.below b3
    clear od1_2
    have od2_3 := od2.below b3
    clear od2
    go_wp2_with fail
    refine (HW2.out _ (h0.later B3)).mono ?_
    rintro e w4 ⟨rfl, b4⟩
    have B4 : Below w.heap.size w w4 := Below.next B3 b4
    have od1_4 := od1_3.below b4
    clear od1_3
    have od2_4 := od2_3.below b4
    clear od2_3
    go_wp2_with fail
    refine (HR1.out _ (h0.later B4)).mono ?_
    rintro e w5 ⟨Ar1, cr1, rfl, or1, b5⟩
    have B5 : Below w.heap.size w w5 := Below.next B4 b5
    have od1_5 := od1_4.below b5
    clear od1_4
    have od2_5 := od2_4.below b5
    clear od2_4
    go_wp2_with fail
    refine (HR2.out _ (h0.later B5)).mono ?_
    rintro e w6 ⟨Ar2, cr2, rfl, or2, b6⟩
    have B6 : Below w.heap.size w w6 := Below.next B5 b6
    have od1_6 := od1_5.below b6
    clear od1_5
    have od2_6 := od2_5.below b6
    clear od2_5
    have or1_6 := or1.below b6
    clear or1
    go_wp2_with fail
    refine (HE.out _ _ _ _ _ _ HXL.out od1_6.cells od2_6.cells).mono ?_
    rintro e w7 ⟨rfl, b7⟩
    have B7 : Below w.heap.size w w7 := Below.next B6 b7
    have od1_7 := od1_6.below b7
    clear od1_6
    have od2_7 := od2_6.below b7
    clear od2_6
    have or1_7 := or1_6.below b7
    clear or1_6
    have or2_7 := or2.below b7
    clear or2
    go_wp2_with fail
    refine (HER.out _ _ _ _ _ or1_7 or2_7).mono ?_
    rintro e w8 ⟨rfl, b8⟩
    have B8 : Below w.heap.size w w8 := Below.next B7 b8
    have od1_8 := od1_7.below b8
    clear od1_7
    have or1_8 := or1_7.below b8
    clear or1_7
    have or2_8 := or2_7.below b8
    clear or2_7
    go_wp2_with fail
    refine (HG1.out _ (h1.later B8)).mono ?_
    rintro e w9 ⟨Ag1, cg1, rfl, og1, b9⟩
    have B9 : Below w.heap.size w w9 := Below.next B8 b9
    go_wp2_with fail
    refine (HG2.out _ (h1.later B9)).mono ?_
    rintro e w10 ⟨Ag2, cg2, rfl, og2, b10⟩
    have B10 : Below w.heap.size w w10 := Below.next B9 b10
    have og1_10 := og1.below b10
    clear og1
    go_wp2_with fail
    refine (HJ1.out _ (h2.later B10)).mono ?_
    rintro e w11 ⟨rfl, b11⟩
    have B11 : Below w.heap.size w w11 := Below.next B10 b11
    have og1_11 := og1_10.below b11
    clear og1_10
    have og2_11 := og2.below b11
    clear og2
    go_wp2_with fail
    refine (HJ2.out _ (h2.later B11)).mono ?_
    rintro e w12 ⟨rfl, b12⟩
    have B12 : Below w.heap.size w w12 := Below.next B11 b12
    have og1_12 := og1_11.below b12
    clear og1_11
    have og2_12 := og2_11.below b12
    clear og2_11
    go_wp2_with fail
    refine (HE.out _ _ _ _ _ _ HFL.out og1_12.cells og2_12.cells).mono ?_
    rintro e w13 ⟨rfl, b13⟩
    have B13 : Below w.heap.size w w13 := Below.next B12 b13
    have og1_13 := og1_12.below b13
    clear og1_12
    have og2_13 := og2_12.below b13
    clear og2_12
    go_wp2_with fail
    go_ret
    exact ⟨by first | rfl | exact ret_bool (by simp), B13⟩
  obtain ⟨m1, m2, m3, m4, m5, m6⟩ := bars_one hok
  have HTWO := hid (fun k hk => bars_two hok (k := k) hk)
  have hbl := (brs_bd (t := t) (strB_good (brtB_t hok).2)).1
  rw [← barF_t hok] at hbl
  have HRB := hid (bars_row hok)
  rw [hok] at HA1 HA2 HW1 HW2 HR1 HR2
  have G := strB_good (brtB_t hok).2
  have hpl := G.len
  have GC := strB_good (brtB_t m1).2
  have hcl := GC.len
  have HS2 := hid fun W (h : Cells W A0 p) => eSum_any A0 p c0 W hpl (fun j hj => by have := G.pos j hj; have := G.le j hj; omega) h
  have HS1 := hid fun A c W (h : Cells W A (bcF p t)) => eSum_any A (bcF p t) c W hcl (fun j hj => by have := GC.pos j hj; have := GC.le j hj; omega) h
  have HI1 := hid fun B A c W (h : Own W B A c (bcF p t)) => impl_IsBarCore (B := B) A c (bcF p t) t W (by omega) h ht64
  rw [m1, m3] at HI1
  have hsc := GC.sum
  have hsc0 := GC.sum0
  obtain ⟨X, hX⟩ : ∃ X, X = bcF p t := ⟨_, rfl⟩
  obtain ⟨M, hM⟩ : ∃ M, M = bwF p t := ⟨_, rfl⟩
  obtain ⟨RB, hRB⟩ : ∃ R, R = barF p t := ⟨_, rfl⟩
  rw [← hX] at HA1 HA2 HS1 HI1 HTWO m4 hsc hsc0 hcl
  rw [← hM] at HW1 HW2 HTWO m4 m5 m6
  rw [← hRB] at HR1 HR2 HTWO HRB hbl
  have HXL := hid (show X.length ≤ 10000 by omega)
  have HER := hid fun A B c d W {a s a2 s2 : Nat} hA hB => eRows_bar A B c d RB W (a := a) (s := s) (a2 := a2) (s2 := s2) (by omega) (fun k hk => by have := HRB.out k hk; omega) hA hB
  have HTK : Hid (∀ W (k : Nat), k < RB.length → Cells W A0 p → Calls Try.prog 14 #[.slice A0 p.length c0, .int .i64 t, .int .i64 (k : Int)] W fun e w' => ∃ L A' c', e = .returned (.tuple #[.slice A' L.length c', .bool true]) ∧ LessB t X M L ∧ Own w' W.heap.size A' c' L ∧ Below W.heap.size W w') := hid fun W k hk h => by
    obtain ⟨n1, n2, n3, n4, n5⟩ := HTWO.out k hk
    have H := HTK0.out W k (show I64 (k : Int) from ⟨by omega, by omega⟩) h
    rw [n1] at H
    refine H.mono ?_
    rintro e w' ⟨A', c', rfl, o, b⟩
    exact ⟨_, A', c', rfl, ⟨n3, n4, n5, n2, (by have := n2; unfold strB at this; rw [Bool.and_eq_true] at this; exact this.1), (strB_good n2).len⟩, o, b⟩
  have HTC := hid fun L B A c W (hL : LessB t X M L) (h : Own W B A c L) => (impl_BarCore (B := B) A c L t W (by have := hL.2.2.2.2.2; omega) h ht64).mono (R' := fun e w' => ∃ A' c', e = .returned (.tuple #[.slice A' X.length c', .bool true]) ∧ Own w' W.heap.size A' c' X ∧ Below W.heap.size W w') (by rw [hL.1, hL.2.1]; exact fun _ _ h => h)
  have HTW := hid fun L B A c W (hL : LessB t X M L) (h : Own W B A c L) => (impl_BarWeight (B := B) A c L t W (by have := hL.2.2.2.2.2; omega) h ht64).mono (R' := fun e w' => e = .returned (.tuple #[.int .i64 (M - 1), .bool true]) ∧ Below W.heap.size W w') (by rw [hL.1, hL.2.2.1]; exact fun _ _ h => h)
  have HTS := hid fun L B A c W (hL : LessB t X M L) (h : Own W B A c L) => (impl_IsStrict A c L W (by have := hL.2.2.2.2.2; omega) h.cells).mono (R' := fun e w' => e = .returned (.tuple #[.bool true, .bool true]) ∧ Below W.heap.size W w') (by rw [hL.2.2.2.1, hL.2.2.2.2.1]; exact fun _ _ h => h)
  have hsp := G.sum
  have hsp0 := G.sum0
  obtain ⟨S1, hS1⟩ : ∃ s, s = X.sum := ⟨_, rfl⟩
  obtain ⟨S2, hS2⟩ : ∃ s, s = p.sum := ⟨_, rfl⟩
  rw [← hS1] at HS1 m4 hsc hsc0
  rw [← hS2] at HS2 m4 hsp hsp0
  obtain ⟨ht, _⟩ := brtB_t hok
  clear hok m1 m2 m3 G GC hX hM hRB HTWO HRB HTK0 hS1 hS2 hnn hcl hpl
  rcases ht with rfl | rfl
  · have hsum : S1 + 3 * M = S2 := m4
    clear m4
    have B0 : Below w.heap.size w w := Below.refl _ _
    go_enter Try.func3, Try.ntmps3
    go_wp2_with fail
    refine (HA1.out _ (h0.later B0)).mono ?_
    rintro e w1 ⟨Ad1, cd1, rfl, od1, b1⟩
    have B1 : Below w.heap.size w w1 := Below.next B0 b1
    go_wp2_with fail
    refine (HA2.out _ (h0.later B1)).mono ?_
    rintro e w2 ⟨Ad2, cd2, rfl, od2, b2⟩
    have B2 : Below w.heap.size w w2 := Below.next B1 b2
    have od1_2 := od1.below b2
    clear od1
    go_wp2_with fail
    refine (HW1.out _ (h0.later B2)).mono ?_
    rintro e w3 ⟨rfl, b3⟩
    have B3 : Below w.heap.size w w3 := Below.next B2 b3
    have od1_3 := od1_2.below b3
    clear od1_2
    have od2_3 := od2.below b3
    clear od2
    go_wp2_with fail
    refine (HW2.out _ (h0.later B3)).mono ?_
    rintro e w4 ⟨rfl, b4⟩
    have B4 : Below w.heap.size w w4 := Below.next B3 b4
    have od1_4 := od1_3.below b4
    clear od1_3
    have od2_4 := od2_3.below b4
    clear od2_3
    go_wp2_with fail
    refine (HR1.out _ (h0.later B4)).mono ?_
    rintro e w5 ⟨Ar1, cr1, rfl, or1, b5⟩
    have B5 : Below w.heap.size w w5 := Below.next B4 b5
    have od1_5 := od1_4.below b5
    clear od1_4
    have od2_5 := od2_4.below b5
    clear od2_4
    go_wp2_with fail
    refine (HR2.out _ (h0.later B5)).mono ?_
    rintro e w6 ⟨Ar2, cr2, rfl, or2, b6⟩
    have B6 : Below w.heap.size w w6 := Below.next B5 b6
    have od1_6 := od1_5.below b6
    clear od1_5
    have od2_6 := od2_5.below b6
    clear od2_5
    have or1_6 := or1.below b6
    clear or1
    go_wp2_with fail
    refine (HE.out _ _ _ _ _ _ HXL.out od1_6.cells od2_6.cells).mono ?_
    rintro e w7 ⟨rfl, b7⟩
    have B7 : Below w.heap.size w w7 := Below.next B6 b7
    have od1_7 := od1_6.below b7
    clear od1_6
    have od2_7 := od2_6.below b7
    clear od2_6
    have or1_7 := or1_6.below b7
    clear or1_6
    have or2_7 := or2.below b7
    clear or2
    go_wp2_with fail
    refine (HER.out _ _ _ _ _ or1_7 or2_7).mono ?_
    rintro e w8 ⟨rfl, b8⟩
    have B8 : Below w.heap.size w w8 := Below.next B7 b8
    have od1_8 := od1_7.below b8
    clear od1_7
    have or1_8 := or1_7.below b8
    clear or1_7
    have or2_8 := or2_7.below b8
    clear or2_7
    go_wp2_with fail
    refine (HI1.out _ _ _ _ od1_8).mono ?_
    rintro e w9 ⟨rfl, b9⟩
    have B9 : Below w.heap.size w w9 := Below.next B8 b9
    have od1_9 := od1_8.below b9
    clear od1_8
    go_wp2_with fail
    refine (HS1.out _ _ _ od1_9.cells).mono ?_
    rintro e w' ⟨rfl, rfl⟩
    go_wp2_with fail
    refine (HS2.out _ (h0.later B9)).mono ?_
    rintro e w' ⟨rfl, rfl⟩
    go_wp2_with fail
    have HDO := hid (od1_9)
    go_loopw [161] (fun i wr => ∃ k : Nat, k ≤ RB.length ∧ i = .int .i64 k ∧ Below w9.heap.size w9 wr) (fun i _ => RB.length - (intOf i).toNat)
    case atStart => exact ⟨0, Nat.zero_le _, rfl, Below.refl _ _⟩
    case round =>
      obtain ⟨k, hk, rfl, hbr⟩ := hrel
      have HBR := hid hbr
      have HOD := hid (HDO.out.below hbr)
      clear hbr
      by_cases hlt : k < RB.length
      · have hlt2 : (k : Int) < (RB.length : Int) := by omega
        have HLT := hid hlt
        clear hlt
        go_wp2_with fail
        refine (HTK.out _ k HLT.out (h0.later (Below.next B9 HBR.out))).mono ?_
        rintro e v1 ⟨L, Ac, cc, rfl, hL, oc, d1⟩
        go_wp2_with fail
        refine (HTC.out _ _ _ _ _ hL oc).mono ?_
        rintro e v2 ⟨Ab, cb, rfl, ob, d2⟩
        go_wp2_with fail
        refine (HTW.out _ _ _ _ _ hL (oc.below d2)).mono ?_
        rintro e v3 ⟨rfl, d3⟩
        go_wp2_with fail
        refine (HTS.out _ _ _ _ _ hL ((oc.below d2).below d3)).mono ?_
        rintro e v4 ⟨rfl, d4⟩
        go_wp2_with fail
        refine (HE.out _ _ _ _ _ _ HXL.out (((ob.below d3).below d4).cells) ((((HOD.out.below d1).below d2).below d3).below d4).cells).mono ?_
        rintro e v5 ⟨rfl, d5⟩
        have HD := hid (Below.next (Below.next (Below.next (Below.next (Below.next HBR.out d1) d2) d3) d4) d5)
        clear oc ob d1 d2 d3 d4 d5 hL
        go_wp2_with fail
        go_roundw
        case rel => exact ⟨k + 1, by omega, by go_num, HD.out⟩
        case measure => simp [intOf]; omega
      · have hge : ¬ (k : Int) < (RB.length : Int) := by omega
        clear hlt hk
        have B10 : Below w.heap.size w wr := Below.next B9 HBR.out
        obtain ⟨w10, hw10⟩ : ∃ x, x = wr := ⟨_, rfl⟩
        rw [← hw10] at B10 ⊢
        clear hw10 HBR HOD
        go_wp2_with fail
        refine (HG1.out _ (h1.later B10)).mono ?_
        rintro e w11 ⟨Ag1, cg1, rfl, og1, b11⟩
        have B11 : Below w.heap.size w w11 := Below.next B10 b11
        go_wp2_with fail
        refine (HG2.out _ (h1.later B11)).mono ?_
        rintro e w12 ⟨Ag2, cg2, rfl, og2, b12⟩
        have B12 : Below w.heap.size w w12 := Below.next B11 b12
        have og1_12 := og1.below b12
        clear og1
        go_wp2_with fail
        refine (HJ1.out _ (h2.later B12)).mono ?_
        rintro e w13 ⟨rfl, b13⟩
        have B13 : Below w.heap.size w w13 := Below.next B12 b13
        have og1_13 := og1_12.below b13
        clear og1_12
        have og2_13 := og2.below b13
        clear og2
        go_wp2_with fail
        refine (HJ2.out _ (h2.later B13)).mono ?_
        rintro e w14 ⟨rfl, b14⟩
        have B14 : Below w.heap.size w w14 := Below.next B13 b14
        have og1_14 := og1_13.below b14
        clear og1_13
        have og2_14 := og2_13.below b14
        clear og2_13
        go_wp2_with fail
        refine (HE.out _ _ _ _ _ _ HFL.out og1_14.cells og2_14.cells).mono ?_
        rintro e w15 ⟨rfl, b15⟩
        have B15 : Below w.heap.size w w15 := Below.next B14 b15
        have og1_15 := og1_14.below b15
        clear og1_14
        have og2_15 := og2_14.below b15
        clear og2_14
        go_wp2_with fail
        go_ret
        exact ⟨by first | rfl | exact ret_bool (by simp), B15⟩
  · have hsum : S1 + 5 * M = S2 := m4
    clear m4
    have B0 : Below w.heap.size w w := Below.refl _ _
    go_enter Try.func3, Try.ntmps3
    go_wp2_with fail
    refine (HA1.out _ (h0.later B0)).mono ?_
    rintro e w1 ⟨Ad1, cd1, rfl, od1, b1⟩
    have B1 : Below w.heap.size w w1 := Below.next B0 b1
    go_wp2_with fail
    refine (HA2.out _ (h0.later B1)).mono ?_
    rintro e w2 ⟨Ad2, cd2, rfl, od2, b2⟩
    have B2 : Below w.heap.size w w2 := Below.next B1 b2
    have od1_2 := od1.below b2
    clear od1
    go_wp2_with fail
    refine (HW1.out _ (h0.later B2)).mono ?_
    rintro e w3 ⟨rfl, b3⟩
    have B3 : Below w.heap.size w w3 := Below.next B2 b3
    have od1_3 := od1_2.below b3
    clear od1_2
    have od2_3 := od2.below b3
    clear od2
    go_wp2_with fail
    refine (HW2.out _ (h0.later B3)).mono ?_
    rintro e w4 ⟨rfl, b4⟩
    have B4 : Below w.heap.size w w4 := Below.next B3 b4
    have od1_4 := od1_3.below b4
    clear od1_3
    have od2_4 := od2_3.below b4
    clear od2_3
    go_wp2_with fail
    refine (HR1.out _ (h0.later B4)).mono ?_
    rintro e w5 ⟨Ar1, cr1, rfl, or1, b5⟩
    have B5 : Below w.heap.size w w5 := Below.next B4 b5
    have od1_5 := od1_4.below b5
    clear od1_4
    have od2_5 := od2_4.below b5
    clear od2_4
    go_wp2_with fail
    refine (HR2.out _ (h0.later B5)).mono ?_
    rintro e w6 ⟨Ar2, cr2, rfl, or2, b6⟩
    have B6 : Below w.heap.size w w6 := Below.next B5 b6
    have od1_6 := od1_5.below b6
    clear od1_5
    have od2_6 := od2_5.below b6
    clear od2_5
    have or1_6 := or1.below b6
    clear or1
    go_wp2_with fail
    refine (HE.out _ _ _ _ _ _ HXL.out od1_6.cells od2_6.cells).mono ?_
    rintro e w7 ⟨rfl, b7⟩
    have B7 : Below w.heap.size w w7 := Below.next B6 b7
    have od1_7 := od1_6.below b7
    clear od1_6
    have od2_7 := od2_6.below b7
    clear od2_6
    have or1_7 := or1_6.below b7
    clear or1_6
    have or2_7 := or2.below b7
    clear or2
    go_wp2_with fail
    refine (HER.out _ _ _ _ _ or1_7 or2_7).mono ?_
    rintro e w8 ⟨rfl, b8⟩
    have B8 : Below w.heap.size w w8 := Below.next B7 b8
    have od1_8 := od1_7.below b8
    clear od1_7
    have or1_8 := or1_7.below b8
    clear or1_7
    have or2_8 := or2_7.below b8
    clear or2_7
    go_wp2_with fail
    refine (HI1.out _ _ _ _ od1_8).mono ?_
    rintro e w9 ⟨rfl, b9⟩
    have B9 : Below w.heap.size w w9 := Below.next B8 b9
    have od1_9 := od1_8.below b9
    clear od1_8
    go_wp2_with fail
    refine (HS1.out _ _ _ od1_9.cells).mono ?_
    rintro e w' ⟨rfl, rfl⟩
    go_wp2_with fail
    refine (HS2.out _ (h0.later B9)).mono ?_
    rintro e w' ⟨rfl, rfl⟩
    go_wp2_with fail
    have HDO := hid (od1_9)
    go_loopw [161] (fun i wr => ∃ k : Nat, k ≤ RB.length ∧ i = .int .i64 k ∧ Below w9.heap.size w9 wr) (fun i _ => RB.length - (intOf i).toNat)
    case atStart => exact ⟨0, Nat.zero_le _, rfl, Below.refl _ _⟩
    case round =>
      obtain ⟨k, hk, rfl, hbr⟩ := hrel
      have HBR := hid hbr
      have HOD := hid (HDO.out.below hbr)
      clear hbr
      by_cases hlt : k < RB.length
      · have hlt2 : (k : Int) < (RB.length : Int) := by omega
        have HLT := hid hlt
        clear hlt
        go_wp2_with fail
        refine (HTK.out _ k HLT.out (h0.later (Below.next B9 HBR.out))).mono ?_
        rintro e v1 ⟨L, Ac, cc, rfl, hL, oc, d1⟩
        go_wp2_with fail
        refine (HTC.out _ _ _ _ _ hL oc).mono ?_
        rintro e v2 ⟨Ab, cb, rfl, ob, d2⟩
        go_wp2_with fail
        refine (HTW.out _ _ _ _ _ hL (oc.below d2)).mono ?_
        rintro e v3 ⟨rfl, d3⟩
        go_wp2_with fail
        refine (HTS.out _ _ _ _ _ hL ((oc.below d2).below d3)).mono ?_
        rintro e v4 ⟨rfl, d4⟩
        go_wp2_with fail
        refine (HE.out _ _ _ _ _ _ HXL.out (((ob.below d3).below d4).cells) ((((HOD.out.below d1).below d2).below d3).below d4).cells).mono ?_
        rintro e v5 ⟨rfl, d5⟩
        have HD := hid (Below.next (Below.next (Below.next (Below.next (Below.next HBR.out d1) d2) d3) d4) d5)
        clear oc ob d1 d2 d3 d4 d5 hL
        go_wp2_with fail
        go_roundw
        case rel => exact ⟨k + 1, by omega, by go_num, HD.out⟩
        case measure => simp [intOf]; omega
      · have hge : ¬ (k : Int) < (RB.length : Int) := by omega
        clear hlt hk
        have B10 : Below w.heap.size w wr := Below.next B9 HBR.out
        obtain ⟨w10, hw10⟩ : ∃ x, x = wr := ⟨_, rfl⟩
        rw [← hw10] at B10 ⊢
        clear hw10 HBR HOD
        go_wp2_with fail
        refine (HG1.out _ (h1.later B10)).mono ?_
        rintro e w11 ⟨Ag1, cg1, rfl, og1, b11⟩
        have B11 : Below w.heap.size w w11 := Below.next B10 b11
        go_wp2_with fail
        refine (HG2.out _ (h1.later B11)).mono ?_
        rintro e w12 ⟨Ag2, cg2, rfl, og2, b12⟩
        have B12 : Below w.heap.size w w12 := Below.next B11 b12
        have og1_12 := og1.below b12
        clear og1
        go_wp2_with fail
        refine (HJ1.out _ (h2.later B12)).mono ?_
        rintro e w13 ⟨rfl, b13⟩
        have B13 : Below w.heap.size w w13 := Below.next B12 b13
        have og1_13 := og1_12.below b13
        clear og1_12
        have og2_13 := og2.below b13
        clear og2
        go_wp2_with fail
        refine (HJ2.out _ (h2.later B13)).mono ?_
        rintro e w14 ⟨rfl, b14⟩
        have B14 : Below w.heap.size w w14 := Below.next B13 b14
        have og1_14 := og1_13.below b14
        clear og1_13
        have og2_14 := og2_13.below b14
        clear og2_13
        go_wp2_with fail
        refine (HE.out _ _ _ _ _ _ HFL.out og1_14.cells og2_14.cells).mono ?_
        rintro e w15 ⟨rfl, b15⟩
        have B15 : Below w.heap.size w w15 := Below.next B14 b15
        have og1_15 := og1_14.below b15
        clear og1_14
        have og2_15 := og2_14.below b15
        clear og2_14
        go_wp2_with fail
        go_ret
        exact ⟨by first | rfl | exact ret_bool (by simp), B15⟩
end Go.Proofs.Ytcgoiddghenkmaa
