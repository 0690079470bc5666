/-
  The walk of FnRegularReachedOfAll (made by genrgr.py).
-/
import Derived.Test.YtkbdlhmkiolegaaR23
import Derived.Test.YtkbdlhmkiolegaaR12
import Derived.Test.YtkbdlhmkiolegaaR15
import Derived.Test.YtkbdlhmkiolegaaR24
import Derived.Test.YtkbdlhmkiolegaaR26
import Derived.Test.YtkbdlhmkiolegaaCW
import Derived.Test.YtkbdlhmkiolegaaCX
import Derived.Test.YtkbdlhmkiolegaaByS
import Derived.Deep.CutRange
namespace Go.Proofs.Ytkbdlhmkiolegaa
open Go.RowKit

def A9 (w : World) (A : Option Addr) (c : Nat) (xs : List Int) : Prop := (A = none → xs.length = 0 ∧ c = 0) ∧ Cells w A xs
theorem a9_below {w w' : World} {A : Option Addr} {c : Nat} {xs : List Int} (h : A9 w A c xs) (b : Below w.heap.size w w') : A9 w' A c xs := ⟨h.1, h.2.later b⟩
theorem a9_own {w : World} {B c : Nat} {A : Option Addr} {xs : List Int} (h : Own w B A c xs) : A9 w A c xs := ⟨by rintro rfl; exact own_none h, h.cells⟩
theorem nil_len9 {w : World} {A : Option Addr} {xs : List Int} (h : Cells w A xs) (e : A = none) : xs.length = 0 := by
  rcases Nat.eq_zero_or_pos xs.length with h0 | h0
  · exact h0
  · obtain ⟨b, o, h1, _⟩ := h h0
    rw [e] at h1
    cases h1
theorem row_at9 {w : World} {A : Option Addr} {L : List (List Int)} {k : Nat} (h : Cells2 w A L) (hk : k < L.length) :
    ∃ b o B2 C2, A = some ⟨b, o, none⟩ ∧ w.cell? ⟨b, o + k, none⟩ = some (.slice B2 (L.getD k []).length C2) ∧ Cells w B2 (L.getD k []) := by
  obtain ⟨P, C, h1, h2⟩ := h
  obtain ⟨b, o, rfl, hc⟩ := h1 (by omega)
  exact ⟨b, o, P k, C k, rfl, hc k hk, h2 k hk⟩
theorem cell_later {w w' : World} {ad : Addr} {v : Value} (h : w.cell? ad = some v) (b : Below w.heap.size w w') : w'.cell? ad = some v := by
  rw [← h]; exact World.cell?_of_block (w := w) (b.block _ (World.block_lt_of_cell? w _ h))
theorem qSame_rgr (A B : Option Addr) (c d : Nat) (xs : List Int) (w : World) (hl : xs.length ≤ 1048576) (hA : Cells w A xs) (hB : Cells w B xs) :
    Calls Try.prog 13 #[.slice A xs.length c, .slice B xs.length d] w fun e w' => e = .returned (.bool true) ∧ Below w.heap.size w w' :=
  (qSame_d A B c d xs xs w hl hl hA hB).mono (by rintro e w' ⟨rfl, n, rfl⟩; exact ⟨by rw [decide_eq_true rfl], below_drew' _ _⟩)
theorem qRows_rgr (A B : Option Addr) (c d : Nat) (L : List (List Int)) (w : World) (hL : L.length ≤ 10000) (hrow : ∀ k, k < L.length → (L.getD k []).length ≤ 1048576) (hA : Cells2 w A L) (hB : Cells2 w B L) :
    Calls Try.prog 7 #[.slice A L.length c, .slice B L.length d] w fun e w' => e = .returned (.bool true) ∧ Below w.heap.size w w' :=
  (qRows_e A B c d L w hL hrow hA hB).mono (by rintro e w' ⟨rfl, n, rfl⟩; exact ⟨rfl, below_drew' _ _⟩)
set_option maxRecDepth 100000 in
set_option maxHeartbeats 16000000 in
theorem walkRegularReachedOfAll (t n : Int) (A0 : Option Addr) (c0 : Nat) (p : List Int) (m9 q : Int) (A5 : Option Addr) (c5 : Nat) (ls : List Int) (A6 : Option Addr) (c6 : Nat) (r9 : List Int) (u : Int) (w : World)
    (ht64 : I64 t) (hn64 : I64 n) (h0 : Cells w A0 p) (_hu0 : p.length ≤ c0) (hn0 : A0 = none → c0 = 0) (hm64 : I64 m9) (hq64 : I64 q) (h5 : Cells w A5 ls) (h6 : Cells w A6 r9) (hu64 : I64 u) :
    Calls Try.prog 3 #[.int .i64 t, .int .i64 n, .slice A0 p.length c0, .int .i64 m9, .int .i64 q, .slice A5 ls.length c5, .slice A6 r9.length c6, .int .i64 u] w fun e w' => e = .returned (.bool true) ∧ Below w.heap.size w w' := by
  have h0n : A0 = none → p.length = 0 ∧ c0 = 0 := fun e => ⟨nil_len9 h0 e, hn0 e⟩
  clear _hu0 hn0
  by_cases hbig0 : 10000 < p.length
  · have hb : (10000 : Int) < (p.length : Int) := by omega
    go_enter Try.func3, Try.ntmps3
    go_wp2_with fail
    go_ret
    exact ⟨rfl, Below.refl _ _⟩
  have hz09 : (p.length : Int) ≤ 10000 := by omega
  by_cases hbig1 : 10000 < ls.length
  · have hb : (10000 : Int) < (ls.length : Int) := by omega
    go_enter Try.func3, Try.ntmps3
    go_wp2_with fail
    go_ret
    exact ⟨rfl, Below.refl _ _⟩
  have hz19 : (ls.length : Int) ≤ 10000 := by omega
  by_cases hbig2 : 10000 < r9.length
  · have hb : (10000 : Int) < (r9.length : Int) := by omega
    go_enter Try.func3, Try.ntmps3
    go_wp2_with fail
    go_ret
    exact ⟨rfl, Below.refl _ _⟩
  have hz29 : (r9.length : Int) ≤ 10000 := by omega
  clear hbig0 hbig1 hbig2
  obtain ⟨r1, r2, r3, r4⟩ := rg_rows t n
  have HE := hid fun A B c d (xs : List Int) W (hl : xs.length ≤ 1048576) (hA : Cells W A xs) (hB : Cells W B xs) => qSame_rgr A B c d xs W hl hA hB
  have HPL := hid (show p.length ≤ 1048576 by omega)
  have HA1 := hid fun W => impl_RegularWith t n W ht64 hn64
  have HA2 := hid fun W => spec_RegularWith t n W ht64 hn64
  have HA3 := hid fun W => impl_ReachedByArrows t n W ht64 hn64
  rw [r1, r2] at HA3
  have HRR := hid fun A B c d W (hA : Cells2 W A (rwF8 t n)) (hB : Cells2 W B (rwF8 t n)) => qRows_rgr A B c d (rwF8 t n) W r3 (fun k hk => by have := (r4 k hk).2.1.len; omega) hA hB
  have HROW := hid r4
  have HRL := hid (show ((rwF8 t n).length : Int) ≤ 10000 by omega)
  have HW1 := hid fun W (h : Cells W A0 p) => impl_ArrowWordC A0 c0 p m9 W (by omega) h0n h hm64
  have HW2 := hid fun W (h : Cells W A0 p) => spec_ArrowWordC A0 c0 p m9 W (by omega) h0n h hm64
  have HWW := hid fun A B c d W (hA : Cells W A (awF p m9)) (hB : Cells W B (awF p m9)) => qSame_rgr A B c d (awF p m9) W (bound_ArrowWord p m9) hA hB
  have HQ0 := hid fun W (h : Cells W A0 p) => qRegular_any A0 c0 p m9 W (by omega) h hm64
  have HM1 := hid fun W (h : Cells W A5 ls) => impl_ArrowByWord q A5 c5 ls W hq64 (by omega) h
  have HM2 := hid fun W (h : Cells W A5 ls) => spec_ArrowByWord q A5 c5 ls W hq64 (by omega) h
  have HMM := hid fun A B c d W (hA : Cells W A (abwF q ls)) (hB : Cells W B (abwF q ls)) => qSame_rgr A B c d (abwF q ls) W (bound_ArrowByWord q ls) hA hB
  have HI1 := hid fun W (h : Cells W A6 r9) => impl_IsRegular A6 c6 r9 u W (by omega) h hu64
  have HI2 := hid fun W (h : Cells W A6 r9) => spec_IsRegular A6 c6 r9 u W (by omega) h hu64
  clear r1 r2 r3 r4
  obtain ⟨ob, hob⟩ : ∃ b, b = rwB8 t n := ⟨_, rfl⟩
  rw [← hob] at HA1 HA2 HA3
  obtain ⟨RL, hRL⟩ : ∃ b, b = rwF8 t n := ⟨_, rfl⟩
  rw [← hRL] at HA1 HA2 HA3 HRR HROW HRL
  obtain ⟨wb, hwb⟩ : ∃ b, b = rgB p m9 := ⟨_, rfl⟩
  rw [← hwb] at HW1 HW2 HQ0
  obtain ⟨Wd, hWd⟩ : ∃ b, b = awF p m9 := ⟨_, rfl⟩
  rw [← hWd] at HW1 HW2 HWW
  obtain ⟨mb, hmb⟩ : ∃ b, b = abwB q ls := ⟨_, rfl⟩
  rw [← hmb] at HM1 HM2
  obtain ⟨MD, hMD⟩ : ∃ b, b = abwF q ls := ⟨_, rfl⟩
  rw [← hMD] at HM1 HM2 HMM
  obtain ⟨ib, hib⟩ : ∃ b, b = rgB r9 u := ⟨_, rfl⟩
  obtain ⟨jb, hjb⟩ : ∃ b, b = giB r9 u := ⟨_, rfl⟩
  rw [← hib, ← hjb] at HI1 HI2
  have Hwb := hid hwb
  have HWD := hid hWd
  have Hmb := hid hmb
  have HMD := hid hMD
  have e1 : (ob != ob) = false := by simp
  have e2 : (wb != wb) = false := by simp
  have e3 : (mb != mb) = false := by simp
  have e4 : (ib == ib) = true := by simp
  have e5 : (jb == jb) = true := by simp
  clear hob hRL hwb hWd hmb hMD hib hjb
  have B0 : Below w.heap.size w w := Below.refl _ _
  go_enter Try.func3, Try.ntmps3
  go_wp2_with fail
  refine (HA1.out _).mono ?_
  rintro e w1 ⟨Aa1, ca1, rfl, oa1, b1⟩
  have B1 : Below w.heap.size w w1 := Below.next B0 b1
  go_wp2_with fail
  refine (HA2.out _).mono ?_
  rintro e w2 ⟨Aa2, ca2, rfl, oa2, b2⟩
  have B2 : Below w.heap.size w w2 := Below.next B1 b2
  have oa1_2 := oa1.below b2
  clear oa1
  go_wp2_with fail
  refine (HA3.out _).mono ?_
  rintro e w3 ⟨Aa3, ca3, rfl, oa3, b3⟩
  have B3 : Below w.heap.size w w3 := Below.next B2 b3
  have oa1_3 := oa1_2.below b3
  clear oa1_2
  have oa2_3 := oa2.below b3
  clear oa2
  go_wp2_with fail
  refine (HRR.out _ _ _ _ _ oa1_3.cells oa2_3.cells).mono ?_
  rintro e w4 ⟨rfl, b4⟩
  have B4 : Below w.heap.size w w4 := Below.next B3 b4
  have oa1_4 := oa1_3.below b4
  clear oa1_3
  have oa2_4 := oa2_3.below b4
  clear oa2_3
  have oa3_4 := oa3.below b4
  clear oa3
  go_wp2_with fail
  refine (HRR.out _ _ _ _ _ oa1_4.cells oa3_4.cells).mono ?_
  rintro e w5 ⟨rfl, b5⟩
  have B5 : Below w.heap.size w w5 := Below.next B4 b5
  have oa1_5 := oa1_4.below b5
  clear oa1_4
  have oa3_5 := oa3_4.below b5
  clear oa3_4
  have HDA := hid oa1_5
  clear oa1_5
  go_wp2_with fail
  go_loopw [100] (fun iv wr => ∃ k : Nat, k ≤ RL.length ∧ iv = .int .i64 k ∧ Hid (Below w5.heap.size w5 wr)) (fun iv _ => RL.length - (intOf iv).toNat)
  case atStart => exact ⟨0, Nat.zero_le _, rfl, hid (Below.refl _ _)⟩
  case round =>
    obtain ⟨k, hk, rfl, HBL⟩ := hrel
    by_cases hlt : k < RL.length
    · obtain ⟨g1, g2, g3, g4⟩ := HROW.out k hlt
      have hgl := g2.len
      have HCA := hid (HDA.out.below HBL.out).cells
      obtain ⟨b, o, B2, C2, e, q0, R1⟩ := row_at9 HCA.out hlt
      cases e
      have hki : (k : Int) < (RL.length : Int) := by omega
      have hS := hid fun W (h : Cells W B2 (RL.getD k [])) => qSum_e B2 (RL.getD k []) C2 W hgl (fun j hj => by have := g2.pos j hj; have := g2.le j hj; omega) h
      rw [g3] at hS
      have hQ := hid fun W (h : Cells W B2 (RL.getD k [])) => qRegular_any B2 C2 (RL.getD k []) t W (by omega) h ht64
      rw [g1] at hQ
      have HR1 := hid R1
      have HLT := hid hlt
      have hb1000 : (RL.length : Int) ≤ 10000 := HRL.out
      by_cases hk0 : k = 0
      · obtain ⟨P, hP⟩ : ∃ P, P = RL.getD k [] := ⟨_, rfl⟩
        rw [← hP] at hS hQ HR1 q0
        subst hk0
        rw [Nat.add_zero] at q0
        clear g1 g2 g3 g4 hgl hP hlt hk R1
        go_wp2_with fail
        refine (hQ.out _ HR1.out).mono ?_
        rintro e x1 ⟨rfl, d1⟩
        go_wp2_with fail
        refine (hS.out _ (HR1.out.later d1)).mono ?_
        rintro e w' ⟨rfl, rfl⟩
        have HBN := hid (Below.next HBL.out d1)
        clear d1
        go_wp2_with fail
        go_roundw
        case rel => have := HLT.out; exact ⟨1, by omega, rfl, HBN⟩
        case measure => have := HLT.out; simp [intOf]; omega
      · obtain ⟨m, hmk⟩ : ∃ m, m + 1 = k := ⟨k - 1, by omega⟩
        have hmlt : m < RL.length := by omega
        have hbf := g4 m hmk
        obtain ⟨f1, f2, f3, f4⟩ := HROW.out m hmlt
        have hfl := f2.len
        obtain ⟨b', o', B3, C3, e, q1, R2⟩ := row_at9 HCA.out hmlt
        cases e
        have hkm : (k : Int) - 1 = (m : Int) := by omega
        have hmi : (m : Int) < (RL.length : Int) := by omega
        have hkp : (0 : Int) < (k : Int) := by omega
        have hBF := hid fun W (h : Cells W B3 (RL.getD m [])) (h' : Cells W B2 (RL.getD k [])) => qBefore_any B3 B2 C3 C2 (RL.getD m []) (RL.getD k []) W (by omega) (by omega) h h'
        rw [hbf] at hBF
        have HR2 := hid R2
        obtain ⟨P, hP⟩ : ∃ P, P = RL.getD k [] := ⟨_, rfl⟩
        obtain ⟨P', hP'⟩ : ∃ P, P = RL.getD m [] := ⟨_, rfl⟩
        rw [← hP] at hS hQ HR1 q0 hBF
        rw [← hP'] at HR2 q1 hBF
        clear g1 g2 g3 g4 f1 f2 f3 f4 hgl hfl hP hP' hlt hk R1 R2 hbf hmk hmlt hk0
        go_wp2_with fail
        refine (hQ.out _ HR1.out).mono ?_
        rintro e x1 ⟨rfl, d1⟩
        go_wp2_with fail
        refine (hS.out _ (HR1.out.later d1)).mono ?_
        rintro e w' ⟨rfl, rfl⟩
        have hq1 := cell_later q1 d1
        have HD1 := hid d1
        clear d1
        go_wp2_with fail
        refine (hBF.out _ (HR2.out.later HD1.out) (HR1.out.later HD1.out)).mono ?_
        rintro e x2 ⟨rfl, d2⟩
        have HBN := hid (Below.next (Below.next HBL.out HD1.out) d2)
        clear d2
        go_wp2_with fail
        go_roundw
        case rel => have := HLT.out; exact ⟨k + 1, by omega, congrArg (Value.int .i64) (Int.natCast_succ k).symm, HBN⟩
        case measure => have := HLT.out; simp [intOf]; omega
    · have hge : ¬ (k : Int) < (RL.length : Int) := by omega
      clear hlt hk
      have B6 : Below w.heap.size w wr := Below.next B5 HBL.out
      obtain ⟨w6, hw6⟩ : ∃ x, x = wr := ⟨_, rfl⟩
      rw [← hw6] at B6 ⊢
      clear hw6 HBL
      go_wp2_with fail
      refine (HW1.out _ (h0.later B6)).mono ?_
      rintro e w7 ⟨Ad1, cd1, rfl, od1, b7⟩
      have B7 : Below w.heap.size w w7 := Below.next B6 b7
      go_wp2_with fail
      refine (HW2.out _ (h0.later B7)).mono ?_
      rintro e w8 ⟨Ad2, cd2, rfl, od2, b8⟩
      have B8 : Below w.heap.size w w8 := Below.next B7 b8
      have od1_8 := od1.below b8
      clear od1
      go_wp2_with fail
      refine (HWW.out _ _ _ _ _ od1_8.cells od2.cells).mono ?_
      rintro e w9 ⟨rfl, b9⟩
      have B9 : Below w.heap.size w w9 := Below.next B8 b9
      have od1_9 := od1_8.below b9
      clear od1_8
      have od2_9 := od2.below b9
      clear od2
      go_wp2_with fail
      refine (HQ0.out _ (h0.later B9)).mono ?_
      rintro e w10 ⟨rfl, b10⟩
      have B10 : Below w.heap.size w w10 := Below.next B9 b10
      have od1_10 := od1_9.below b10
      clear od1_9
      go_upto_if 158 with fail
      go_cut [] from 159 to 216 (fun wx => Below w10.heap.size w10 wx)
      case first =>
        cases wb
        · go_wp2_with fail
          go_meet
          case rel => exact Below.refl _ _
        · skip
          obtain ⟨T, rfl, hT, G, hwl, hup, hupB, hrT, hgw⟩ := awd_all Hwb.out.symm
          have hpl := G.len
          have hs0 := G.sum0
          have hs1 := G.sum
          have HUP := hid fun A c W (h : Cells W A (awF p T)) => impl_ArrowByWord T A c (awF p T) W hm64 (by omega) h
          rw [hup, hupB] at HUP
          have HSP := hid fun W (h : Cells W A0 p) => qSum_e A0 p c0 W hpl (fun j hj => by have := G.pos j hj; have := G.le j hj; omega) h
          have hSl : p.sum = ((awF p T).length : Int) := by omega
          rw [hSl] at HSP
          have HST := hid fun j (hj : j < (awF p T).length) => awd_step hrT (j := j) (by omega)
          have HGW := hid fun j (hj : j < (awF p T).length) => hgw j (by omega)
          have hw30 : ((awF p T).length : Int) ≤ 30 := by omega
          rw [← HWD.out] at HUP HSP HST HGW hw30
          have HT := hid hT
          clear hT G hwl hup hupB hrT hgw hpl hs0 hs1 hSl
          go_wp2_with fail
          refine (HUP.out _ _ _ od1_10.cells).mono ?_
          rintro e w11 ⟨Ay1, cy1, rfl, oy1, b11⟩
          have B11 : Below w.heap.size w w11 := Below.next B10 b11
          have od1_11 := od1_10.below b11
          clear od1_10
          go_wp2_with fail
          refine (HE.out _ _ _ _ _ _ HPL.out oy1.cells (h0.later B11)).mono ?_
          rintro e w12 ⟨rfl, b12⟩
          have B12 : Below w.heap.size w w12 := Below.next B11 b12
          have od1_12 := od1_11.below b12
          clear od1_11
          have oy1_12 := oy1.below b12
          clear oy1
          go_wp2_with fail
          refine (HSP.out _ (h0.later B12)).mono ?_
          rintro e w' ⟨rfl, rfl⟩
          have HDW := hid od1_12
          clear od1_12
          go_wp2_with fail
          go_loopw [31, 183] (fun nv iv wr => ∃ (j : Nat) (An : Option Addr) (cn : Nat), j ≤ Wd.length ∧ iv = .int .i64 j ∧ nv = .slice An (dwn T p j).length cn ∧ Hid (A9 wr An cn (dwn T p j)) ∧ Hid (Below w12.heap.size w12 wr)) (fun _ iv _ => Wd.length - (intOf iv).toNat)
          case atStart => exact ⟨0, A0, c0, Nat.zero_le _, rfl, rfl, hid ⟨h0n, h0.later B12⟩, hid (Below.refl _ _)⟩
          case round =>
            obtain ⟨j, An, cn, hj, rfl, rfl, HRD, HBL⟩ := hrel
            by_cases hlt : j < Wd.length
            · obtain ⟨G, Gq, hok, hF, hrq, hft, hno, _, _⟩ := HST.out j hlt
              obtain ⟨bw, ow, e, hcw⟩ := (HDW.out.below HBL.out).cells (by omega)
              cases e
              have hwj := hcw j hlt
              rw [HGW.out j hlt] at hwj
              have hl1 := G.len
              have hl2 := Gq.len
              obtain ⟨f, hf⟩ : ∃ f, f = firstD (dwn T p j) T := ⟨_, rfl⟩
              rw [← hf] at hok hF hft hno hwj
              have hD1 := hid (impl_ArrowDownC An cn (dwn T p j) T (f : Int) wr (by omega) HRD.out.1 HRD.out.2)
              rw [hF, hok] at hD1
              have hQ1 := hid fun A c W (h : Cells W A (dwn T p (j + 1))) => qRegular_any A c (dwn T p (j + 1)) T W (by omega) h hm64
              rw [hrq] at hQ1
              have hD2 := hid fun (k : Nat) (hk : k < f) W (h : A9 W An cn (dwn T p j)) => (by
                have := impl_ArrowDownC An cn (dwn T p j) T (k : Int) W (by omega) h.1 h.2
                rw [hno k hk] at this; exact this : Calls Try.prog 15 #[.slice An (dwn T p j).length cn, .int .i64 T, .int .i64 k] W fun e w' => ∃ A' c', e = .returned (.tuple #[.slice A' (dnF (dwn T p j) T k).length c', .bool false]) ∧ Own w' W.heap.size A' c' (dnF (dwn T p j) T k) ∧ Below W.heap.size W w')
              obtain ⟨L, hL⟩ : ∃ L, L = dwn T p j := ⟨_, rfl⟩
              obtain ⟨R, hR⟩ : ∃ R, R = dwn T p (j + 1) := ⟨_, rfl⟩
              rw [← hL] at hD1 hD2 HRD ⊢
              rw [← hR] at hD1 hQ1
              have HRE := hid hR
              have HJL := hid hlt
              have hji : (j : Int) < (Wd.length : Int) := by omega
              have hf6 : (f : Int) ≤ 6 := by have := HT.out; omega
              clear G Gq hok hF hrq hft hno hcw hl1 hl2 hf hL hR hlt hj
              go_wp2_with fail
              refine hD1.out.mono ?_
              rintro e x1 ⟨A2, c2, rfl, o2, d1⟩
              have HO2 := hid o2
              clear o2
              go_wp2_with fail
              refine (hQ1.out _ _ _ HO2.out.cells).mono ?_
              rintro e x2 ⟨rfl, d2⟩
              have HN2 := hid (HO2.out.below d2)
              have HL2 := hid (a9_below (a9_below HRD.out d1) d2)
              have HBX := hid (Below.next (Below.next HBL.out d1) d2)
              clear d1 d2
              go_wp2_with fail
              go_loopw [36] (fun kv wr => ∃ k : Nat, k ≤ f ∧ kv = .int .i64 k ∧ Hid (Below x2.heap.size x2 wr)) (fun kv _ => f - (intOf kv).toNat)
              case atStart => exact ⟨0, Nat.zero_le _, rfl, hid (Below.refl _ _)⟩
              case round =>
                obtain ⟨k, hk, rfl, HBK⟩ := hrel
                by_cases hkf : k < f
                · have hki : (k : Int) < (f : Int) := by omega
                  have HKF := hid hkf
                  have hD3 := hid (hD2.out k hkf _ (a9_below HL2.out HBK.out))
                  clear hkf hk
                  go_wp2_with fail
                  refine hD3.out.mono ?_
                  rintro e x3 ⟨A3, c3, rfl, _, d3⟩
                  have HBN := hid (Below.next HBK.out d3)
                  clear d3
                  go_wp2_with fail
                  go_roundw
                  case rel => exact ⟨k + 1, HKF.out, congrArg (Value.int .i64) (Int.natCast_succ k).symm, HBN⟩
                  case measure => have := HKF.out; simp [intOf]; omega
                · have hki : ¬ (k : Int) < (f : Int) := by omega
                  clear hkf hk
                  go_wp2_with fail
                  go_roundw
                  case rel =>
                    have := HJL.out
                    exact ⟨j + 1, A2, c2, by omega, congrArg (Value.int .i64) (Int.natCast_succ j).symm, by rw [HRE.out], by rw [← HRE.out]; exact hid (a9_own (HN2.out.below HBK.out)), hid (Below.next HBX.out HBK.out)⟩
                  case measure => have := HJL.out; simp [intOf]; omega
            · have hge : ¬ (j : Int) < (Wd.length : Int) := by omega
              clear hlt hj
              go_wp2_with fail
              go_meet
              case rel => exact Below.next (Below.next (b11) b12) HBL.out
      case rest =>
      obtain ⟨w11, hwc⟩ : ∃ x : World, x = wc := ⟨_, rfl⟩
      rw [← hwc] at hcut ⊢
      clear hwc
      have b11 := hcut
      clear hcut
      have B11 : Below w.heap.size w w11 := Below.next B10 b11
      have od1_11 := od1_10.below b11
      clear od1_10
      go_wp2_with fail
      refine (HM1.out _ (h5.later B11)).mono ?_
      rintro e w12 ⟨Am1, cm1, rfl, om1, b12⟩
      have B12 : Below w.heap.size w w12 := Below.next B11 b12
      go_wp2_with fail
      refine (HM2.out _ (h5.later B12)).mono ?_
      rintro e w13 ⟨Am2, cm2, rfl, om2, b13⟩
      have B13 : Below w.heap.size w w13 := Below.next B12 b13
      have om1_13 := om1.below b13
      clear om1
      go_upto_region 39 with fail
      go_cut [253] from 229 to 253 (fun e wx => e = .bool false ∧ Below w13.heap.size w13 wx)
      case first =>
        cases mb
        · skip
          go_wp2_with fail
          refine (HMM.out _ _ _ _ _ om1_13.cells om2.cells).mono ?_
          rintro e w14 ⟨rfl, b14⟩
          have B14 : Below w.heap.size w w14 := Below.next B13 b14
          have om1_14 := om1_13.below b14
          clear om1_13
          have om2_14 := om2.below b14
          clear om2
          go_wp2_with fail
          go_meet
          case rel => exact ⟨rfl, b14⟩
        · skip
          go_wp2_with fail
          refine (HMM.out _ _ _ _ _ om1_13.cells om2.cells).mono ?_
          rintro e w14 ⟨rfl, b14⟩
          have B14 : Below w.heap.size w w14 := Below.next B13 b14
          have om1_14 := om1_13.below b14
          clear om1_13
          have om2_14 := om2.below b14
          clear om2
          obtain ⟨f1, f2, f3⟩ := made_reg Hmb.out.symm
          have hml := f3.len
          have HC1 := hid fun A c W (h : Cells W A (abwF q ls)) => qRegular_any A c (abwF q ls) q W (by omega) h hq64
          rw [f1] at HC1
          have HC2 := hid fun A c W (h : Cells W A (abwF q ls)) => qSum_e A (abwF q ls) c W hml (fun j hj => by have := f3.pos j hj; have := f3.le j hj; omega) h
          rw [f2] at HC2
          rw [← HMD.out] at HC1 HC2
          clear f1 f2 f3 hml
          go_wp2_with fail
          refine (HC1.out _ _ _ om1_14.cells).mono ?_
          rintro e w15 ⟨rfl, b15⟩
          have B15 : Below w.heap.size w w15 := Below.next B14 b15
          have om1_15 := om1_14.below b15
          clear om1_14
          have om2_15 := om2_14.below b15
          clear om2_14
          go_wp2_with fail
          refine (HC2.out _ _ _ om1_15.cells).mono ?_
          rintro e w' ⟨rfl, rfl⟩
          go_wp2_with fail
          go_meet
          case rel => exact ⟨rfl, Below.next (b14) b15⟩
      case rest =>
      obtain ⟨rfl, hcut⟩ := hcut
      obtain ⟨w14, hwc⟩ : ∃ x : World, x = wc := ⟨_, rfl⟩
      rw [← hwc] at hcut ⊢
      clear hwc
      have b14 := hcut
      clear hcut
      have B14 : Below w.heap.size w w14 := Below.next B13 b14
      go_wp2_with fail
      refine (HI1.out _ (h6.later B14)).mono ?_
      rintro e w15 ⟨rfl, b15⟩
      have B15 : Below w.heap.size w w15 := Below.next B14 b15
      go_wp2_with fail
      refine (HI2.out _ (h6.later B15)).mono ?_
      rintro e w16 ⟨rfl, b16⟩
      have B16 : Below w.heap.size w w16 := Below.next B15 b16
      go_wp2_with fail
      go_ret
      exact ⟨by first | rfl | exact ret_bool (by simp), B16⟩
end Go.Proofs.Ytkbdlhmkiolegaa
