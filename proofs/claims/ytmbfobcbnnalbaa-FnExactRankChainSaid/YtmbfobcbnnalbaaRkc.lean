/-
  Contracts: RankChain on both sides.
-/
import Derived.Test.YtmbfobcbnnalbaaCbt
import Derived.Test.YtmbfobcbnnalbaaRkcMath
namespace Go.Proofs.Ytmbfobcbnnalbaa
open Go.RowKit

set_option maxRecDepth 100000 in
set_option maxHeartbeats 4000000 in
theorem impl_RankChain (A : Option Addr) (c : Nat) (xs : List Int) (w : World) (hl : xs.length ≤ 1048576) (hc : Cells w A xs) :
    Calls Try.prog 42 #[.slice A xs.length c] w fun e w' => e = .returned (.tuple #[.int .i64 (rkF xs), .bool (shpB xs)]) ∧ Below w.heap.size w w' := by
  have HSH := hid (impl_ShapeOf A c xs w hl hc)
  cases hb : shpB xs
  · rw [show rkF xs = 0 by simp [rkF, hb]]
    rw [hb] at HSH
    obtain ⟨S, hS⟩ : ∃ S, S = shpL xs := ⟨_, rfl⟩
    rw [← hS] at HSH
    clear hb hS
    go_enter Try.func42, Try.ntmps42
    go_wp2_with (go_at_call 38; refine HSH.out.mono ?_; rintro e w2 ⟨A2, c2, rfl, o2, b2⟩)
    go_ret2
    exact ⟨rfl, b2⟩
  · obtain ⟨h12, hsp⟩ := shp_some hb
    rw [show rkF xs = rkS xs (shpL xs) xs.length by simp [rkF, hb]]
    rw [hb] at HSH
    obtain ⟨q, hq⟩ : ∃ q, q = shpL xs := ⟨_, rfl⟩
    rw [← hq] at HSH hsp ⊢
    obtain ⟨Gq, hqs⟩ := shp_good [] xs q hsp good_nil (by simp; omega)
    simp only [List.sum_nil, Int.zero_add] at hqs
    obtain ⟨N, hN⟩ : ∃ N, N = xs.length := ⟨_, rfl⟩
    have hqN : q.sum = N := by omega
    have HWU := hid fun A2 c2 W (h : Cells W A2 q) => waysUpTo_any A2 c2 q W Gq (by omega) h
    rw [show q.sum.toNat = N by omega] at HWU
    have HAT := hid fun k (hk : k ≤ xs.length) => chain_at hsp h12 k hk
    have HRW := hid fun k (hk : k < xs.length) => chain_row hsp h12 hk
    have HFR := hid fun g A2 c2 (p : List Int) W (h1 : p.length ≤ 30) (h2 : ∀ j, j < p.length → 1 ≤ p.getD j 0 ∧ p.getD j 0 ≤ 30) (hU : UP W g N q) (h : Cells W A2 p) => from_any A2 c2 g N p q W hqN (by omega) h1 h2 hU h
    have HSU := hid fun k => (show rkS xs q (k + 1) = accR (rkT xs q k) (rkS xs q k) (xs.getD k 0).toNat from rfl)
    have HMK := hid fun k => (show mkP xs (k + 1) = incL (mkP xs k) (xs.getD k 0).toNat from rfl)
    have hN12 : N ≤ 12 := by omega
    obtain ⟨S, hS⟩ : ∃ S, S = rkS xs q := ⟨_, rfl⟩
    have HS0 := hid (show S 0 = 0 by rw [hS]; rfl)
    rw [← hS] at HSU ⊢
    obtain ⟨M, hM⟩ : ∃ M, M = mkP xs := ⟨_, rfl⟩
    have HM0 := hid (show M 0 = [] by rw [hM]; rfl)
    have HRT := hid fun k s => (show rkT xs q k s = nbF (incL (M k) s) q by rw [hM]; rfl)
    rw [← hM] at HAT HRW HMK
    obtain ⟨F, hF⟩ : ∃ F, F = rkT xs q := ⟨_, rfl⟩
    rw [← hF] at HSU HRT
    have HNx := hid hN
    clear hb hsp Gq hqs hqN hS hM hF hN hq
    go_enter Try.func42, Try.ntmps42
    go_wp2_with (first | (go_at_call 38; refine HSH.out.mono ?_; rintro e w2 ⟨A2, c2, rfl, o2, b2⟩) | (go_at_call 100; refine (HWU.out _ _ _ o2.cells).mono ?_; rintro e w3 ⟨rfl, u3, b3⟩))
    have HU3 := hid u3
    have HB3 := hid (Below.next b2 b3)
    have hs3 := HB3.out.size
    obtain ⟨g, hg⟩ : ∃ g, g = w2.heap.size := ⟨_, rfl⟩
    rw [← hg] at HU3 ⊢
    clear u3 b2 b3 o2 hg
    go_loopw [7, 8, 23] (fun v s i wr => ∃ (k : Nat) (A' : Option Addr) (c' : Nat), k ≤ xs.length ∧ i = .int .i64 k ∧ v = .int .i64 (S k) ∧ s = .slice A' (M k).length c' ∧ Hid (Own wr w3.heap.size A' c' (M k)) ∧ Hid (Below w3.heap.size w3 wr)) (fun _ _ i _ => xs.length - (intOf i).toNat)
    case atStart => exact ⟨0, none, 0, Nat.zero_le _, rfl, by rw [HS0.out], by rw [HM0.out]; rfl, hid (by rw [HM0.out]; exact own_nil _ _), hid (Below.refl _ _)⟩
    case round =>
      obtain ⟨k, A', c', hk, rfl, rfl, rfl, HO, HB⟩ := hrel
      obtain ⟨wo, rfl⟩ : ∃ wo : World, wo = wr := ⟨_, rfl⟩
      by_cases hlt : k < xs.length
      · obtain ⟨b, o, rfl, hcc⟩ := (hc.later (HB3.out.trans (HB.out.mono hs3))) (by omega)
        have hck := hcc k hlt
        obtain ⟨r, hr, hrl, hab, hst⟩ := HRW.out k hlt
        obtain ⟨G, hsm, _⟩ := HAT.out k (by omega)
        rw [hr] at hck
        have HSU' := hid (HSU.out k)
        have HMK' := hid (HMK.out k)
        rw [hr, Int.toNat_natCast] at HSU' HMK'
        have HRT' := hid (HRT.out k)
        have hr12 : r ≤ 12 := by have := G.len_le; omega
        have HWC := hid fun m (hm : m ≤ r) W B' (h : Own W B' A' c' (M k)) => withCell_any A' c' (M k) m W (by have := G.len; omega) G.bd (by omega) h
        have HIB := hid fun m (hm : m ≤ r) => inc_bd G (by omega) (m := m) (by omega)
        obtain ⟨p, hp⟩ : ∃ p, p = M k := ⟨_, rfl⟩
        rw [← hp] at HO HWC HIB HRT' HMK' ⊢
        obtain ⟨f, hf⟩ : ∃ f, f = F k := ⟨_, rfl⟩
        rw [← hf] at HSU' HRT'
        obtain ⟨x, hx⟩ : ∃ x, x = S k := ⟨_, rfl⟩
        rw [← hx] at HSU' ⊢
        have HAC := hid fun m => (show accR f x (m + 1) = wrap64 (accR f x m + f m) from rfl)
        obtain ⟨Q, hQ⟩ : ∃ Q, Q = accR f x := ⟨_, rfl⟩
        have HQ0 := hid (show Q 0 = x by rw [hQ]; rfl)
        rw [← hQ] at HSU' HAC
        clear hcc hr hrl hab hst G hsm hp hf hx hQ
        go_wp2_with fail
        go_loopw [7, 28] (fun v i wi => ∃ m : Nat, m ≤ r ∧ i = .int .i64 m ∧ v = .int .i64 (Q m) ∧ Hid (Below wo.heap.size wo wi)) (fun _ i _ => r - (intOf i).toNat)
        case atStart => exact ⟨0, Nat.zero_le _, rfl, by rw [HQ0.out], hid (Below.refl _ _)⟩
        case round =>
          obtain ⟨m, hm, rfl, rfl, HBi⟩ := hrel
          have hbw := HB.out.trans (HBi.out.mono HB.out.size)
          have HUi := hid (HU3.out.later hbw)
          have HOi := hid (HO.out.below HBi.out)
          have HBW := hid hbw
          clear hbw
          by_cases hml : m < r
          · have HWC' := hid (HWC.out m (by omega) wr _ HOi.out)
            obtain ⟨hz1, hz2⟩ := HIB.out m (by omega)
            have HAC' := hid (HAC.out m)
            have hrt := HRT'.out m
            have HFR' := hid fun A4 c4 W (hU : UP W g N q) (h : Cells W A4 (incL p m)) => HFR.out g A4 c4 (incL p m) W hz1 hz2 hU h
            rw [← hrt] at HFR'
            obtain ⟨z, hz⟩ : ∃ z, z = incL p m := ⟨_, rfl⟩
            rw [← hz] at HWC' HFR'
            obtain ⟨v, hv⟩ : ∃ v, v = f m := ⟨_, rfl⟩
            rw [← hv] at HFR' HAC'
            have hsum : IntKind.i64.wrap (Q m + v) = Q (m + 1) := by rw [HAC'.out]; exact IntWalk.i64_left _
            clear hz1 hz2 hrt hz hv
            go_wp2_with (first | (go_at_call 108; refine HWC'.out.mono ?_; rintro e w5 ⟨A5, c5, rfl, o5, b5⟩) | (go_at_call 101; refine (HFR'.out _ _ _ (HUi.out.later b5) o5.cells).mono ?_; rintro e w6 ⟨rfl, b6⟩))
            have HB6 := hid (HBi.out.trans (Below.mono (Below.next b5 b6) HBi.out.size))
            clear b5 b6 o5
            go_roundw
            case rel => exact ⟨m + 1, by omega, by go_num, by first | rw [HAC'.out] | rw [hsum], HB6⟩
            case measure => simp [intOf]; omega
          · have hmr : m = r := by omega
            subst hmr
            have HWC' := hid (HWC.out m (Nat.le_refl _) wr _ HOi.out)
            rw [← HMK'.out] at HWC'
            obtain ⟨z, hz⟩ : ∃ z, z = M (k + 1) := ⟨_, rfl⟩
            rw [← hz] at HWC'
            have HZ := hid hz
            clear hz
            go_wp2_with (go_at_call 108; refine HWC'.out.mono ?_; rintro e w5 ⟨A5, c5, rfl, o5, b5⟩)
            have HB5 := hid (HBW.out.trans (Below.mono b5 HBW.out.size))
            have HO5 := hid (o5.more HBW.out.size)
            clear b5 o5
            go_roundw
            case rel => exact ⟨k + 1, A5, c5, by omega, by go_num, by rw [HSU'.out], by rw [HZ.out], by rw [← HZ.out]; exact HO5, HB5⟩
            case measure => simp [intOf]; omega
      · have hkl : k = xs.length := by omega
        subst hkl
        have hbe := HB3.out.trans (HB.out.mono HB3.out.size)
        go_wp2_with fail
        go_ret2
        exact ⟨rfl, hbe⟩

set_option maxRecDepth 100000 in
set_option maxHeartbeats 4000000 in
theorem spec_RankChain (A : Option Addr) (c : Nat) (xs : List Int) (w : World) (hl : xs.length ≤ 1048576) (hc : Cells w A xs) :
    Calls Try.prog 41 #[.slice A xs.length c] w fun e w' => e = .returned (.tuple #[.int .i64 (rkF xs), .bool (shpB xs)]) ∧ Below w.heap.size w w' := by
  by_cases h12 : xs.length ≤ 12
  · have HSH := hid (cnShape_any A c xs w h12 hc)
    cases hb : shpB xs
    · rw [show rkF xs = 0 by simp [rkF, hb]]
      rw [hb] at HSH
      obtain ⟨S, hS⟩ : ∃ S, S = shpL xs := ⟨_, rfl⟩
      rw [← hS] at HSH
      clear hb hS
      go_enter Try.func41, Try.ntmps41
      go_wp2_with (go_at_call 103; refine HSH.out.mono ?_; rintro e w2 ⟨A2, c2, rfl, o2, b2⟩)
      go_ret2
      exact ⟨rfl, b2⟩
    · obtain ⟨_, hsp⟩ := shp_some hb
      rw [show rkF xs = rkS xs (shpL xs) xs.length by simp [rkF, hb]]
      rw [hb] at HSH
      obtain ⟨q, hq⟩ : ∃ q, q = shpL xs := ⟨_, rfl⟩
      rw [← hq] at HSH hsp ⊢
      obtain ⟨Gq, hqs⟩ := shp_good [] xs q hsp good_nil (by simp; omega)
      simp only [List.sum_nil, Int.zero_add] at hqs
      have HAT := hid fun k (hk : k ≤ xs.length) => chain_at hsp h12 k hk
      have HRW := hid fun k (hk : k < xs.length) => chain_row hsp h12 hk
      have HIN := hid fun k r (hk : k < xs.length) (hr : xs.getD k 0 = (r : Nat)) => rk_inner hsp h12 hk hr
      have HCB := hid fun A2 c2 A3 c3 (p : List Int) W B (G : Good p) (ho : Own W B A3 c3 p) (h : Cells W A2 q) => cnBetween_any A2 c2 q Gq (by omega) _ A3 c3 p W (Nat.lt_succ_self _) G ho h
      have HMK := hid fun k => (show mkP xs (k + 1) = incL (mkP xs k) (xs.getD k 0).toNat from rfl)
      obtain ⟨S, hS⟩ : ∃ S, S = rkS xs q := ⟨_, rfl⟩
      have HS0 := hid (show S 0 = 0 by rw [hS]; rfl)
      rw [← hS] at HIN ⊢
      obtain ⟨M, hM⟩ : ∃ M, M = mkP xs := ⟨_, rfl⟩
      have HM0 := hid (show M 0 = [] by rw [hM]; rfl)
      have HRT := hid fun k s => (show rkT xs q k s = nbF (incL (M k) s) q by rw [hM]; rfl)
      rw [← hM] at HAT HRW HMK HIN
      obtain ⟨F, hF⟩ : ∃ F, F = rkT xs q := ⟨_, rfl⟩
      rw [← hF] at HIN HRT
      clear hb hsp Gq hqs hS hM hF hq
      go_enter Try.func41, Try.ntmps41
      go_wp2_with (go_at_call 103; refine HSH.out.mono ?_; rintro e w3 ⟨A3, c3, rfl, o3, b3⟩)
      have HB3 := hid b3
      have HQ3 := hid o3.cells
      have hs3 := HB3.out.size
      clear b3 o3
      go_loopw [6, 7, 28] (fun v s i wr => ∃ (k : Nat) (A' : Option Addr) (c' : Nat), k ≤ xs.length ∧ i = .int .i64 k ∧ v = .int .i64 (S k) ∧ s = .slice A' (M k).length c' ∧ Hid (Own wr w3.heap.size A' c' (M k)) ∧ Hid (Below w3.heap.size w3 wr)) (fun _ _ i _ => xs.length - (intOf i).toNat)
      case atStart => exact ⟨0, none, 0, Nat.zero_le _, rfl, by rw [HS0.out], by rw [HM0.out]; rfl, hid (by rw [HM0.out]; exact own_nil _ _), hid (Below.refl _ _)⟩
      case round =>
        obtain ⟨k, A', c', hk, rfl, rfl, rfl, HO, HB⟩ := hrel
        obtain ⟨wo, rfl⟩ : ∃ wo : World, wo = wr := ⟨_, rfl⟩
        by_cases hlt : k < xs.length
        · obtain ⟨b, o, rfl, hcc⟩ := (hc.later (HB3.out.trans (HB.out.mono hs3))) (by omega)
          have hck := hcc k hlt
          obtain ⟨r, hr, hrl, hab, hst⟩ := HRW.out k hlt
          obtain ⟨G, hsm, _⟩ := HAT.out k (by omega)
          have HIN' := hid (HIN.out k r hlt hr)
          rw [hr] at hck hst
          have HMK' := hid (HMK.out k)
          rw [hr, Int.toNat_natCast] at HMK'
          have HRT' := hid (HRT.out k)
          have hll := G.len
          have HAD := hid fun W (h : Cells W A' (M k)) => ptAddable_any A' c' (M k) W hll h
          have HCA := hid fun (s : Int) W B' (h : Own W B' A' c' (M k)) => cnAdd_any A' c' (M k) s W hll G.bd h
          have hfl := filt_len (addB (M k)) ((M k).length + 1)
          have HST := hid fun i (hi : i < (filt (addB (M k)) ((M k).length + 1)).length) => (show stepB (M k) ((filt (addB (M k)) ((M k).length + 1)).getD i 0) = true ∧ Good (incL (M k) ((filt (addB (M k)) ((M k).length + 1)).getD i 0).toNat) by
            have hm : (filt (addB (M k)) ((M k).length + 1)).getD i 0 ∈ filt (addB (M k)) ((M k).length + 1) := by
              rw [List.getD_eq_getElem?_getD, List.getElem?_eq_getElem hi]; exact List.getElem_mem hi
            obtain ⟨r, e, hr, hb⟩ := add_at hm
            rw [e, Int.toNat_natCast]
            exact ⟨stepB_iff.2 ⟨r, rfl, hr, hb⟩, inc_Good G (by omega) hr hb⟩)
          obtain ⟨L, hL⟩ : ∃ L, L = filt (addB (M k)) ((M k).length + 1) := ⟨_, rfl⟩
          rw [← hL] at HAD hfl HST HIN'
          obtain ⟨p, hp⟩ : ∃ p, p = M k := ⟨_, rfl⟩
          rw [← hp] at HO HAD HCA HST HRT' HMK' hst hfl hll ⊢
          obtain ⟨f, hf⟩ : ∃ f, f = F k := ⟨_, rfl⟩
          rw [← hf] at HIN' HRT'
          obtain ⟨x, hx⟩ : ∃ x, x = S k := ⟨_, rfl⟩
          rw [← hx] at HIN' ⊢
          have HSC := hid fun i (hi : i < L.length) => swC_succ f r x L i hi
          obtain ⟨Q, hQ⟩ : ∃ Q, Q = swC f r x L := ⟨_, rfl⟩
          have HQ0 := hid (show Q 0 = x by rw [hQ]; rfl)
          rw [← hQ] at HIN' HSC
          have HSTr := hid hst
          clear hcc hr hrl hab hst G hsm hL hp hf hx hQ
          go_wp2_with (go_at_call 106; refine (HAD.out _ HO.out.cells).mono ?_; rintro e w4 ⟨A4, c4, rfl, o4, b4⟩)
          have HL4 := hid o4.cells
          have HB4 := hid b4
          have hs4 := b4.size
          clear o4 b4
          go_loopw [6, 35] (fun v i wi => ∃ m : Nat, m ≤ L.length ∧ i = .int .i64 m ∧ v = .int .i64 (Q m) ∧ Hid (Below w4.heap.size w4 wi)) (fun _ i _ => L.length - (intOf i).toNat)
          case atStart => exact ⟨0, Nat.zero_le _, rfl, by rw [HQ0.out], hid (Below.refl _ _)⟩
          case round =>
            obtain ⟨m, hm, rfl, rfl, HBi⟩ := hrel
            have HBo := hid (HB4.out.trans (HBi.out.mono hs4))
            have HOi := hid (HO.out.below HBo.out)
            have HBW := hid (HB.out.trans (HBo.out.mono HB.out.size))
            have HQi := hid (HQ3.out.later HBW.out)
            by_cases hml : m < L.length
            · obtain ⟨b4, o4, rfl, hll4⟩ := (HL4.out.later HBi.out) (by omega)
              have hlm := hll4 m hml
              have hsc := HSC.out m hml
              obtain ⟨hs1, hs2⟩ := HST.out m hml
              obtain ⟨s, hs⟩ : ∃ s, s = L.getD m 0 := ⟨_, rfl⟩
              rw [← hs] at hlm hsc hs1 hs2
              clear hll4 hs
              by_cases hsr : s < (r : Int)
              · have hsc2 : Q (m + 1) = wrap64 (Q m + f s.toNat) := by rw [hsc]; unfold lesG; rw [if_pos hsr]
                have hrt := HRT'.out s.toNat
                have hca := HCA.out s wr _ HOi.out
                rw [hs1] at hca
                simp only [if_true] at hca
                have HCB' := hid fun A5 c5 W B (ho : Own W B A5 c5 (incL p s.toNat)) (h : Cells W A3 q) => HCB.out A3 c3 A5 c5 (incL p s.toNat) W B hs2 ho h
                rw [← hrt] at HCB'
                obtain ⟨z, hz⟩ : ∃ z, z = incL p s.toNat := ⟨_, rfl⟩
                rw [← hz] at hca HCB'
                obtain ⟨v, hv⟩ : ∃ v, v = f s.toNat := ⟨_, rfl⟩
                rw [← hv] at HCB' hsc2
                have HSC2 := hid hsc2
                have HCA' := hid hca
                have hsum : IntKind.i64.wrap (Q m + v) = Q (m + 1) := by rw [HSC2.out]; exact IntWalk.i64_left _
                clear hsc hsc2 hrt hz hv hca hs1 hs2
                go_wp2_with (first | (go_at_call 107; refine HCA'.out.mono ?_; rintro e w5 ⟨A5, c5, rfl, o5, b5⟩) | (go_at_call 97; refine (HCB'.out _ _ _ _ o5 (HQi.out.later b5)).mono ?_; rintro e w6 ⟨rfl, b6⟩))
                have HB6 := hid (HBi.out.trans (Below.mono (Below.next b5 b6) HBi.out.size))
                clear b5 b6 o5
                go_roundw
                case rel => exact ⟨m + 1, by omega, by go_num, by first | rw [HSC2.out] | rw [hsum], HB6⟩
                case measure => simp [intOf]; omega
              · have hsc2 : Q (m + 1) = Q m := by rw [hsc]; unfold lesG; rw [if_neg hsr]
                have HSC2 := hid hsc2
                clear hsc hsc2 hs1 hs2
                go_wp2_with fail
                go_roundw
                case rel => exact ⟨m + 1, by omega, by go_num, by rw [HSC2.out], HBi⟩
                case measure => simp [intOf]; omega
            · have hmr : m = L.length := by omega
              subst hmr
              have hca := HCA.out (r : Int) wr _ HOi.out
              rw [HSTr.out, Int.toNat_natCast] at hca
              simp only [if_true] at hca
              rw [← HMK'.out] at hca
              obtain ⟨z, hz⟩ : ∃ z, z = M (k + 1) := ⟨_, rfl⟩
              rw [← hz] at hca
              have HZ := hid hz
              have HCA' := hid hca
              clear hz hca
              go_wp2_with (go_at_call 107; refine HCA'.out.mono ?_; rintro e w5 ⟨A5, c5, rfl, o5, b5⟩)
              have HB5 := hid (HBW.out.trans (Below.mono b5 HBW.out.size))
              have HO5 := hid (o5.more HBW.out.size)
              clear b5 o5
              go_roundw
              case rel => exact ⟨k + 1, A5, c5, by omega, by go_num, by rw [HIN'.out], by rw [HZ.out], by rw [← HZ.out]; exact HO5, HB5⟩
              case measure => simp [intOf]; omega
        · have hkl : k = xs.length := by omega
          subst hkl
          have hbe := HB3.out.trans (HB.out.mono HB3.out.size)
          go_wp2_with fail
          go_ret2
          exact ⟨rfl, hbe⟩
  · have hb : shpB xs = false := by simp [shpB, shpO, h12]
    rw [show rkF xs = 0 by simp [rkF, hb], hb]
    have h12' : 12 < xs.length := by omega
    clear hb
    go_enter Try.func41, Try.ntmps41
    go_wp2_with fail
    go_ret2
    exact ⟨rfl, Below.refl _ _⟩
end Go.Proofs.Ytmbfobcbnnalbaa
