/-
  Contracts: products of rows of characters on both sides.
-/
import Derived.Test.YtmbfobcbnnalbaaChTab
import Derived.Test.YtmbfobcbnnalbaaCycS
namespace Go.Proofs.Ytmbfobcbnnalbaa
open Go.RowKit

def rpT (p q cl : List Int) : Int := wrap64 (wrap64 (szF cl * wrap64 (chM cl p)) * wrap64 (chM cl q))
def rpB (p q : List Int) : Bool := rwB p && (rwB q && decide (p.sum = q.sum))
def rpF (p q : List Int) : Int := if rpB p q then swK (rpT p q) (clL p.sum.toNat) (clL p.sum.toNat).length else 0
theorem rwB_iff {p : List Int} : rwB p = true ↔ Good p ∧ p.sum ≤ 8 := by simp only [rwB, Bool.and_eq_true, decide_eq_true_eq, good_iff]
theorem chRwL_at {p : List Int} {n : Nat} (hn : p.sum = n) {k : Nat} (hk : k < (clL n).length) : (chRwL p).getD k 0 = wrap64 (chM ((clL n).getD k []) p) := by
  unfold chRwL
  rw [hn, Int.toNat_natCast, List.getD_eq_getElem?_getD, List.getElem?_map, List.getElem?_eq_getElem hk, List.getD_eq_getElem?_getD, List.getElem?_eq_getElem hk]; rfl
theorem chRwL_len {p : List Int} {n : Nat} (hn : p.sum = n) : (chRwL p).length = (clL n).length := by unfold chRwL; rw [hn, Int.toNat_natCast, List.length_map]

set_option maxRecDepth 100000 in
set_option maxHeartbeats 4000000 in
theorem impl_RowProduct (A : Option Addr) (c : Nat) (p : List Int) (A2 : Option Addr) (c2 : Nat) (q : List Int) (w : World) (hl : p.length ≤ 1048576) (hc : Cells w A p) (hl2 : q.length ≤ 1048576) (hc2 : Cells w A2 q) :
    Calls Try.prog 63 #[.slice A p.length c, .slice A2 q.length c2] w fun e w' => e = .returned (.tuple #[.int .i64 (rpF p q), .bool (rpB p q)]) ∧ Below w.heap.size w w' := by
  have HR1 := hid (impl_CharacterRow A c p w hl hc)
  have HR2 := hid fun W (h : Cells W A2 q) => impl_CharacterRow A2 c2 q W hl2 h
  cases hb1 : rwB p
  · have hb : rpB p q = false := by simp [rpB, hb1]
    rw [show rpF p q = 0 by simp [rpF, hb], hb]
    rw [hb1] at HR1
    obtain ⟨L1, h1⟩ : ∃ L1, L1 = rwF p := ⟨_, rfl⟩
    obtain ⟨L2, h2⟩ : ∃ L2, L2 = rwF q := ⟨_, rfl⟩
    obtain ⟨b2, h3⟩ : ∃ b2, b2 = rwB q := ⟨_, rfl⟩
    rw [← h1] at HR1
    rw [← h2, ← h3] at HR2
    clear hb1 hb h1 h2 h3
    go_enter Try.func63, Try.ntmps63
    go_wp2_with fail
    refine HR1.out.mono ?_
    rintro e w2 ⟨A3, c3, rfl, o3, b3⟩
    go_wp2_with fail
    refine (HR2.out _ (hc2.later b3)).mono ?_
    rintro e w4 ⟨A4, c4, rfl, o4, b4⟩
    go_wp2_with fail
    go_ret2
    exact ⟨rfl, Below.next b3 b4⟩
  cases hb2 : rwB q
  · have hb : rpB p q = false := by simp [rpB, hb2]
    rw [show rpF p q = 0 by simp [rpF, hb], hb]
    rw [hb1] at HR1
    rw [hb2] at HR2
    obtain ⟨L1, h1⟩ : ∃ L1, L1 = rwF p := ⟨_, rfl⟩
    obtain ⟨L2, h2⟩ : ∃ L2, L2 = rwF q := ⟨_, rfl⟩
    rw [← h1] at HR1
    rw [← h2] at HR2
    clear hb1 hb h1 h2 hb2
    go_enter Try.func63, Try.ntmps63
    go_wp2_with fail
    refine HR1.out.mono ?_
    rintro e w2 ⟨A3, c3, rfl, o3, b3⟩
    go_wp2_with fail
    refine (HR2.out _ (hc2.later b3)).mono ?_
    rintro e w4 ⟨A4, c4, rfl, o4, b4⟩
    go_wp2_with fail
    go_ret2
    exact ⟨rfl, Below.next b3 b4⟩
  obtain ⟨G1, h81⟩ := rwB_iff.1 hb1
  obtain ⟨G2, h82⟩ := rwB_iff.1 hb2
  have HC1 := hid fun W (h : Cells W A p) => cellCount_any A p c W G1.len G1.bd' h
  have HC2 := hid fun W (h : Cells W A2 q) => cellCount_any A2 q c2 W G2.len G2.bd' h
  rw [hb1, (rw_t G1 h81).2] at HR1
  rw [hb2, (rw_t G2 h82).2] at HR2
  by_cases hs : p.sum = q.sum
  · have hb : rpB p q = true := by simp [rpB, hb1, hb2, hs]
    have hps := G1.sum0
    obtain ⟨n, hn⟩ : ∃ n : Nat, p.sum = n := ⟨p.sum.toNat, by omega⟩
    have hn2 : q.sum = n := by omega
    rw [show rpF p q = swK (rpT p q) (clL n) (clL n).length by simp [rpF, hb, hn], hb]
    rw [hn] at HC1 h81
    rw [hn2] at HC2
    have HL := hid fun W => listPartitions_any n W (by omega)
    change Hid (∀ W : World, Calls Try.prog 113 #[.int .i64 n] W fun e w' => ∃ A' c', e = .returned (.slice A' (clL n).length c') ∧ Own2 w' W.heap.size w'.heap.size A' c' (clL n) ∧ Below W.heap.size W w') at HL
    have hrl := clL8 (n := n) (by omega)
    have HA1 := hid fun k hk => chRwL_at hn (k := k) hk
    have HA2 := hid fun k hk => chRwL_at hn2 (k := k) hk
    have HL1 := hid (chRwL_len hn)
    have HL2 := hid (chRwL_len hn2)
    have HSZ := hid fun k (hk : k < (clL n).length) A4 c4 W (h : Cells W A4 ((clL n).getD k [])) => (show Calls Try.prog 57 #[.slice A4 ((clL n).getD k []).length c4] W fun e w' => e = .returned (.tuple #[.int .i64 (szF ((clL n).getD k [])), .bool true]) ∧ Below W.heap.size W w' by
      have hy := (cl_cyc (n := n) (by omega) hk).1
      have := impl_ClassSize' A4 c4 ((clL n).getD k []) W (by have := (cyc_len hy).1; omega) h
      rw [hy] at this; exact this)
    have HSW := hid fun k => (show swK (rpT p q) (clL n) (k + 1) = wrap64 (swK (rpT p q) (clL n) k + wrap64 (wrap64 (szF ((clL n).getD k []) * wrap64 (chM ((clL n).getD k []) p)) * wrap64 (chM ((clL n).getD k []) q))) from rfl)
    obtain ⟨L1, h1⟩ : ∃ L1, L1 = chRwL p := ⟨_, rfl⟩
    obtain ⟨L2, h2⟩ : ∃ L2, L2 = chRwL q := ⟨_, rfl⟩
    rw [← h1] at HR1 HA1 HL1
    rw [← h2] at HR2 HA2 HL2
    obtain ⟨R, hR⟩ : ∃ R, R = clL n := ⟨_, rfl⟩
    rw [← hR] at HL HSZ HSW hrl HA1 HA2 HL1 HL2 ⊢
    obtain ⟨S, hS⟩ : ∃ S, S = swK (rpT p q) R := ⟨_, rfl⟩
    have HS0 := hid (show S 0 = 0 by rw [hS]; rfl)
    rw [← hS] at HSW ⊢
    clear hb1 hb2 hb h1 h2 hR hS hn hn2 hps hs G1 G2 h82
    go_enter Try.func63, Try.ntmps63
    go_wp2_with fail
    refine HR1.out.mono ?_
    rintro e w2 ⟨A3, c3, rfl, o3, b3⟩
    go_wp2_with fail
    refine (HR2.out _ (hc2.later b3)).mono ?_
    rintro e w4 ⟨A4, c4, rfl, o4, b4⟩
    have HB4 := hid (Below.next b3 b4)
    have HO3 := hid (o3.below b4)
    have HO4 := hid o4
    have hs2 := b3.size
    clear b3 b4 o3 o4
    go_wp2_with fail
    refine (HC1.out _ (hc.later HB4.out)).mono ?_
    rintro e w' ⟨rfl, rfl⟩
    go_wp2_with fail
    refine (HC2.out _ (hc2.later HB4.out)).mono ?_
    rintro e w' ⟨rfl, rfl⟩
    go_wp2_with fail
    refine (HC1.out _ (hc.later HB4.out)).mono ?_
    rintro e w' ⟨rfl, rfl⟩
    go_wp2_with (go_at_call 113; refine (HL.out _).mono ?_; rintro e w5 ⟨A5, c5, rfl, o5, b5⟩)
    have HB5 := hid (Below.next HB4.out b5)
    have HC5 := hid o5.cells
    have HO35 := hid (HO3.out.below b5).cells
    have HO45 := hid (HO4.out.below b5).cells
    clear b5 o5
    go_loopw [10, 42] (fun v i wr => ∃ k : Nat, k ≤ R.length ∧ i = .int .i64 k ∧ v = .int .i64 (S k) ∧ Hid (Below w5.heap.size w5 wr)) (fun _ i _ => R.length - (intOf i).toNat)
    case atStart => exact ⟨0, Nat.zero_le _, rfl, by rw [HS0.out], hid (Below.refl _ _)⟩
    case round =>
      obtain ⟨k, hk, rfl, rfl, HB⟩ := hrel
      by_cases hlt : k < R.length
      · obtain ⟨P, C, g1, g2⟩ := cells2_next HC5.out HB.out
        obtain ⟨b, o, rfl, hcc⟩ := g1 (by omega)
        have hck := hcc k hlt
        have HSZ' := hid (HSZ.out k hlt (P k) (C k) wr (g2 k hlt))
        have hs := HSW.out k
        have ha1 := HA1.out k hlt
        have ha2 := HA2.out k hlt
        have hl1 := HL1.out
        have hl2 := HL2.out
        have HX1 := hid (HO35.out.later HB.out)
        have HX2 := hid (HO45.out.later HB.out)
        obtain ⟨cl, hcl⟩ : ∃ cl, cl = R.getD k [] := ⟨_, rfl⟩
        rw [← hcl] at hck HSZ' hs ha1 ha2
        obtain ⟨z1, hz1⟩ : ∃ z1, z1 = wrap64 (chM cl p) := ⟨_, rfl⟩
        obtain ⟨z2, hz2⟩ : ∃ z2, z2 = wrap64 (chM cl q) := ⟨_, rfl⟩
        rw [← hz1] at hs ha1
        rw [← hz2] at hs ha2
        obtain ⟨sz, hsz⟩ : ∃ sz, sz = szF cl := ⟨_, rfl⟩
        rw [← hsz] at HSZ' hs
        obtain ⟨y1, hy1⟩ : ∃ y1, y1 = wrap64 (sz * z1) := ⟨_, rfl⟩
        rw [← hy1] at hs
        obtain ⟨y2, hy2⟩ : ∃ y2, y2 = wrap64 (y1 * z2) := ⟨_, rfl⟩
        rw [← hy2] at hs
        have e1 : IntKind.i64.wrap (sz * z1) = y1 := (IntWalk.i64_left _).trans hy1.symm
        have e2 : IntKind.i64.wrap (y1 * z2) = y2 := (IntWalk.i64_left _).trans hy2.symm
        have HS := hid hs
        have HA1' := hid ha1; have HA2' := hid ha2; have HL1' := hid hl1; have HL2' := hid hl2
        clear g1 g2 hcc hcl hz1 hz2 hsz hy1 hy2 hs ha1 ha2 hl1 hl2
        go_wp2_with fail
        refine HSZ'.out.mono ?_
        rintro e w7 ⟨rfl, b7⟩
        have HB7 := hid (HB.out.trans (b7.mono HB.out.size))
        obtain ⟨bx, ox, rfl, q1⟩ := (HX1.out.later b7) (by have := HL1'.out; omega)
        obtain ⟨by', oy, rfl, q2⟩ := (HX2.out.later b7) (by have := HL2'.out; omega)
        have q1k := q1 k (by have := HL1'.out; omega)
        have q2k := q2 k (by have := HL2'.out; omega)
        rw [HA1'.out] at q1k
        rw [HA2'.out] at q2k
        have hk1 : (k : Int) < (L1.length : Int) := by have := HL1'.out; omega
        have hk2 : (k : Int) < (L2.length : Int) := by have := HL2'.out; omega
        clear q1 q2 b7
        go_wp2_with fail
        go_quiet (fail)
        go_wp2_with fail
        go_roundw
        case rel => exact ⟨k + 1, by omega, by go_num, by rw [HS.out], hid (below_drewN HB7.out _)⟩
        case measure => simp [intOf]; omega
      · have hkl : k = R.length := by omega
        subst hkl
        have hbe := HB5.out.trans (HB.out.mono HB5.out.size)
        go_wp2_with fail
        go_ret2
        exact ⟨rfl, hbe⟩
  · have hb : rpB p q = false := by simp [rpB, hs]
    rw [show rpF p q = 0 by simp [rpF, hb], hb]
    obtain ⟨s1, h1⟩ : ∃ s1, s1 = p.sum := ⟨_, rfl⟩
    obtain ⟨s2, h2⟩ : ∃ s2, s2 = q.sum := ⟨_, rfl⟩
    rw [← h1] at HC1 hs
    rw [← h2] at HC2 hs
    obtain ⟨L1, h3⟩ : ∃ L1, L1 = chRwL p := ⟨_, rfl⟩
    obtain ⟨L2, h4⟩ : ∃ L2, L2 = chRwL q := ⟨_, rfl⟩
    rw [← h3] at HR1
    rw [← h4] at HR2
    have hne : (s1 == s2) = false := beq_eq_false_iff_ne.2 hs
    clear hb1 hb2 hb h1 h2 h3 h4 G1 G2 h81 h82
    go_enter Try.func63, Try.ntmps63
    go_wp2_with fail
    refine HR1.out.mono ?_
    rintro e w2 ⟨A3, c3, rfl, o3, b3⟩
    go_wp2_with fail
    refine (HR2.out _ (hc2.later b3)).mono ?_
    rintro e w4 ⟨A4, c4, rfl, o4, b4⟩
    have HB4 := hid (Below.next b3 b4)
    clear b3 b4 o3 o4
    go_wp2_with fail
    refine (HC1.out _ (hc.later HB4.out)).mono ?_
    rintro e w' ⟨rfl, rfl⟩
    go_wp2_with fail
    refine (HC2.out _ (hc2.later HB4.out)).mono ?_
    rintro e w' ⟨rfl, rfl⟩
    go_wp2_with fail
    go_ret2
    exact ⟨rfl, HB4.out⟩

set_option maxRecDepth 100000 in
set_option maxHeartbeats 4000000 in
theorem spec_RowProduct (A : Option Addr) (c : Nat) (p : List Int) (A2 : Option Addr) (c2 : Nat) (q : List Int) (w : World) (hl : p.length ≤ 1048576) (hc : Cells w A p) (hl2 : q.length ≤ 1048576) (hc2 : Cells w A2 q) :
    Calls Try.prog 62 #[.slice A p.length c, .slice A2 q.length c2] w fun e w' => e = .returned (.tuple #[.int .i64 (rpF p q), .bool (rpB p q)]) ∧ Below w.heap.size w w' := by
  cases hg : good p
  · have hb : rpB p q = false := by simp [rpB, rwB, hg]
    rw [show rpF p q = 0 by simp [rpF, hb], hb]
    have HG := hid hg
    clear hg hb
    go_enter Try.func62, Try.ntmps62
    go_wp2_with (go_at_call 90; refine (ptGood_b _ _ _ _ hl hc _ HG.out).mono ?_; rintro e w' ⟨rfl, n, rfl⟩)
    go_ret2
    exact ⟨rfl, below_drew' _ _⟩
  have HG := hid hg
  cases hg2 : good q
  · have hb : rpB p q = false := by simp [rpB, rwB, hg2]
    rw [show rpF p q = 0 by simp [rpF, hb], hb]
    have HG2 := hid hg2
    clear hg hg2 hb
    go_enter Try.func62, Try.ntmps62
    go_wp2_with fail
    refine (ptGood_b _ _ _ _ hl hc _ HG.out).mono ?_
    rintro e w' ⟨rfl, n1, rfl⟩
    go_wp2_with fail
    refine (ptGood_b _ _ _ _ hl2 (by exact hc2) _ HG2.out).mono ?_
    rintro e w' ⟨rfl, n2, rfl⟩
    go_wp2_with fail
    go_ret2
    exact ⟨rfl, below_drew' _ _⟩
  have HG2 := hid hg2
  have G := (good_iff p).1 hg
  have G2 := (good_iff q).1 hg2
  have HSU := hid fun W (h : Cells W A p) => ptSum_any A p c W G.len (fun j hj => by have := G.pos j hj; have := G.le j hj; omega) h
  have HSU2 := hid fun W (h : Cells W A2 q) => ptSum_any A2 q c2 W G2.len (fun j hj => by have := G2.pos j hj; have := G2.le j hj; omega) h
  have hps := G.sum0
  by_cases h8 : p.sum ≤ 8
  · by_cases hs : p.sum = q.sum
    · have hb : rpB p q = true := by simp [rpB, rwB, hg, hg2, hs]; omega
      obtain ⟨n, hn⟩ : ∃ n : Nat, p.sum = n := ⟨p.sum.toNat, by omega⟩
      have hn2 : q.sum = n := by omega
      rw [show rpF p q = swK (rpT p q) (clL n) (clL n).length by simp [rpF, hb, hn], hb]
      have HL := hid fun W => ptAll_any n n n W (Nat.le_refl _) (by omega) (by omega)
      change Hid (∀ W : World, Calls Try.prog 111 #[.int .i64 n, .int .i64 n] W fun e w' => ∃ A' c', e = .returned (.slice A' (clL n).length c') ∧ Own2 w' W.heap.size w'.heap.size A' c' (clL n) ∧ Below W.heap.size W w') at HL
      have hrl := clL8 (n := n) (by omega)
      have HCA := hid fun A4 c4 cl W (hy : cycB cl = true) (hcap : cl.length ≤ c4) (h : Cells W A p) (h2 : Cells W A4 cl) => cnCharacter_any cl p A A4 c c4 W G (by omega) (cyc_len hy).1 hcap (cyc_all hy) h h2
      have HCA2 := hid fun A4 c4 cl W (hy : cycB cl = true) (hcap : cl.length ≤ c4) (h : Cells W A2 q) (h2 : Cells W A4 cl) => cnCharacter_any cl q A2 A4 c2 c4 W G2 (by omega) (cyc_len hy).1 hcap (cyc_all hy) h h2
      have HF := hid fun W => cnFactorial_any n W (by omega)
      have hfb := hid (fac_bd20 n (by omega))
      have HCY := hid fun k hk => cl_cyc (n := n) (by omega) (k := k) hk
      have HSW := hid fun k => (show swK (rpT p q) (clL n) (k + 1) = wrap64 (swK (rpT p q) (clL n) k + rpT p q ((clL n).getD k [])) from rfl)
      have HRT := hid fun cl (hy : cycB cl = true) (hm : cl.sum = n) => (show rpT p q cl = wrap64 (wrap64 (fac n / wgt cl cl.length * wrap64 (chM cl p)) * wrap64 (chM cl q)) by
        simp only [rpT, szF, hy, if_true, hm, Int.toNat_natCast])
      rw [hn] at HSU h8
      rw [hn2] at HSU2
      obtain ⟨f, hf⟩ : ∃ f, f = fac n := ⟨_, rfl⟩
      rw [← hf] at HF hfb HRT
      obtain ⟨R, hR⟩ : ∃ R, R = clL n := ⟨_, rfl⟩
      rw [← hR] at HL HCY HSW hrl ⊢
      obtain ⟨S, hS⟩ : ∃ S, S = swK (rpT p q) R := ⟨_, rfl⟩
      have HS0 := hid (show S 0 = 0 by rw [hS]; rfl)
      rw [← hS] at HSW ⊢
      clear hg hg2 hb hf hR hS hn hn2 hps hs G G2
      go_enter Try.func62, Try.ntmps62
      go_wp2_with fail
      refine (ptGood_b _ _ _ _ hl hc _ HG.out).mono ?_
      rintro e w' ⟨rfl, n1, rfl⟩
      go_wp2_with fail
      refine (ptGood_b _ _ _ _ hl2 (by exact hc2) _ HG2.out).mono ?_
      rintro e w' ⟨rfl, n2, rfl⟩
      go_wp2_with fail
      refine (HSU.out _ (by exact hc)).mono ?_
      rintro e w' ⟨rfl, rfl⟩
      go_wp2_with fail
      refine (HSU2.out _ (by exact hc2)).mono ?_
      rintro e w' ⟨rfl, rfl⟩
      go_wp2_with fail
      refine (HSU.out _ (by exact hc)).mono ?_
      rintro e w' ⟨rfl, rfl⟩
      go_wp2_with fail
      refine (HSU.out _ (by exact hc)).mono ?_
      rintro e w' ⟨rfl, rfl⟩
      go_wp2_with (go_at_call 111; refine (HL.out _).mono ?_; rintro e w5 ⟨A5, c5, rfl, o5, b5⟩)
      have HB5 := hid (Below.next (below_drew' w (n1 + n2)) b5)
      obtain ⟨P5, C5, hat⟩ := o5
      have HAT := hid hat
      have hs5 := HB5.out.size
      clear b5 hat
      go_loopw [7, 36] (fun v i wr => ∃ k : Nat, k ≤ R.length ∧ i = .int .i64 k ∧ v = .int .i64 (S k) ∧ Hid (Below w5.heap.size w5 wr)) (fun _ i _ => R.length - (intOf i).toNat)
      case atStart => exact ⟨0, Nat.zero_le _, rfl, by rw [HS0.out], hid (Below.refl _ _)⟩
      case round =>
        obtain ⟨k, hk, rfl, rfl, HB⟩ := hrel
        by_cases hlt : k < R.length
        · have hrow := HAT.out.row k hlt
          have hcap := own_cap hrow
          have HGC := hid (hrow.below HB.out).cells
          obtain ⟨g, rfl, hck⟩ := own2_row (own2_bel HAT.out HB.out) hlt
          have HS := hid (HSW.out k)
          obtain ⟨hy, hsm⟩ := HCY.out k hlt
          have HCP := hid (hc.later (HB5.out.trans (HB.out.mono hs5)))
          have HCP2 := hid (hc2.later (HB5.out.trans (HB.out.mono hs5)))
          obtain ⟨cl, hcl⟩ : ∃ cl, cl = R.getD k [] := ⟨_, rfl⟩
          rw [← hcl] at hck hy hsm hcap HGC HS
          have HR1 := hid (HRT.out cl hy hsm)
          have HW := hid fun W (h : Cells W (P5 k) cl) => cnWeight_any (P5 k) (C5 k) cl W (by have := (cyc_len hy).1; omega) hcap h hy
          have HCA' := hid fun W => HCA.out (P5 k) (C5 k) cl W hy hcap
          have HCA2' := hid fun W => HCA2.out (P5 k) (C5 k) cl W hy hcap
          have hgb := wgt_le hy cl.length (Nat.le_refl _)
          rw [HR1.out] at HS
          obtain ⟨gw, hgw⟩ : ∃ gw, gw = wgt cl cl.length := ⟨_, rfl⟩
          rw [← hgw] at HW hgb HS
          obtain ⟨q1, q2⟩ := quo_fac hfb.out hgb.1
          have hne : ¬ gw = 0 := by omega
          obtain ⟨sz, hsz⟩ : ∃ sz, sz = f / gw := ⟨_, rfl⟩
          have hwr : IntKind.i64.wrap (f.tdiv gw) = sz := by rw [q1, q2, hsz]
          rw [← hsz] at HS
          obtain ⟨z1, hz1⟩ : ∃ z1, z1 = wrap64 (chM cl p) := ⟨_, rfl⟩
          obtain ⟨z2, hz2⟩ : ∃ z2, z2 = wrap64 (chM cl q) := ⟨_, rfl⟩
          rw [← hz1] at HS HCA'
          rw [← hz2] at HS HCA2'
          obtain ⟨y1, hy1⟩ : ∃ y1, y1 = wrap64 (sz * z1) := ⟨_, rfl⟩
          rw [← hy1] at HS
          obtain ⟨y2, hy2⟩ : ∃ y2, y2 = wrap64 (y1 * z2) := ⟨_, rfl⟩
          rw [← hy2] at HS
          have e1 : IntKind.i64.wrap (sz * z1) = y1 := (IntWalk.i64_left _).trans hy1.symm
          have e2 : IntKind.i64.wrap (y1 * z2) = y2 := (IntWalk.i64_left _).trans hy2.symm
          clear hrow hy hsm hcl hz1 hz2 hsz hy1 hy2 hgw hgb q1 q2 HR1 hcap
          go_wp2_with fail
          go_region_held3 (fun _ => True) (exact trivial) (first | (go_at_call 121; refine (HF.out _).mono ?_; rintro e w' ⟨rfl, rfl⟩) | (go_at_call 122; refine (HW.out _ (by exact HGC.out)).mono ?_; rintro e w' ⟨rfl, rfl⟩) | (go_at_call_of 116 (Value.slice A p.length c); refine (HCA'.out _ (by exact HCP.out) (by exact HGC.out)).mono ?_; rintro e w7 ⟨rfl, b7⟩; have k2 := Cells.later (by exact HCP2.out) b7; have k3 := Cells.later (by exact HGC.out) b7) | (go_at_call_of 116 (Value.slice A2 q.length c2); refine (HCA2'.out _ (by exact k2) (by exact k3)).mono ?_; rintro e w8 ⟨rfl, b8⟩))
          have hsum : IntKind.i64.wrap (S k + y2) = S (k + 1) := by rw [HS.out]; exact IntWalk.i64_left _
          have HB8 := hid (HB.out.trans (Below.mono (Below.next (Below.next (below_drew' wr 1) b7) b8) HB.out.size))
          clear b7 b8 k2 k3
          go_wp2_with fail
          go_roundw
          case rel => exact ⟨k + 1, by omega, by go_num, by rw [hsum], HB8.out⟩
          case measure => simp [intOf]; omega
        · have hkl : k = R.length := by omega
          subst hkl
          have hbe := HB5.out.trans (HB.out.mono HB5.out.size)
          go_wp2_with fail
          go_ret2
          exact ⟨rfl, hbe⟩
    · have hb : rpB p q = false := by simp [rpB, hs]
      rw [show rpF p q = 0 by simp [rpF, hb], hb]
      obtain ⟨s1, h1⟩ : ∃ s1, s1 = p.sum := ⟨_, rfl⟩
      obtain ⟨s2, h2⟩ : ∃ s2, s2 = q.sum := ⟨_, rfl⟩
      rw [← h1] at HSU h8 hs
      rw [← h2] at HSU2 hs
      have h8' : ¬ 8 < s1 := by omega
      have hne : (s2 != s1) = true := by simp; omega
      clear hg hg2 hb h1 h2 hps G G2
      go_enter Try.func62, Try.ntmps62
      go_wp2_with fail
      refine (ptGood_b _ _ _ _ hl hc _ HG.out).mono ?_
      rintro e w' ⟨rfl, n1, rfl⟩
      go_wp2_with fail
      refine (ptGood_b _ _ _ _ hl2 (by exact hc2) _ HG2.out).mono ?_
      rintro e w' ⟨rfl, n2, rfl⟩
      go_wp2_with fail
      refine (HSU.out _ (by exact hc)).mono ?_
      rintro e w' ⟨rfl, rfl⟩
      go_wp2_with fail
      refine (HSU2.out _ (by exact hc2)).mono ?_
      rintro e w' ⟨rfl, rfl⟩
      go_wp2_with fail
      refine (HSU.out _ (by exact hc)).mono ?_
      rintro e w' ⟨rfl, rfl⟩
      go_wp2_with fail
      go_ret2
      exact ⟨rfl, below_drew' _ _⟩
  · have hb : rpB p q = false := by simp [rpB, rwB, h8]
    rw [show rpF p q = 0 by simp [rpF, hb], hb]
    obtain ⟨s1, h1⟩ : ∃ s1, s1 = p.sum := ⟨_, rfl⟩
    rw [← h1] at HSU h8
    have h8' : 8 < s1 := by omega
    clear hg hg2 hb h1 hps G G2 HSU2
    go_enter Try.func62, Try.ntmps62
    go_wp2_with fail
    refine (ptGood_b _ _ _ _ hl hc _ HG.out).mono ?_
    rintro e w' ⟨rfl, n1, rfl⟩
    go_wp2_with fail
    refine (ptGood_b _ _ _ _ hl2 (by exact hc2) _ HG2.out).mono ?_
    rintro e w' ⟨rfl, n2, rfl⟩
    go_wp2_with fail
    refine (HSU.out _ (by exact hc)).mono ?_
    rintro e w' ⟨rfl, rfl⟩
    go_wp2_with fail
    go_ret2
    exact ⟨rfl, below_drew' _ _⟩
end Go.Proofs.Ytmbfobcbnnalbaa
