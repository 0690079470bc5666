/-
  Contract: PairOf of the model.
-/
import Derived.Test.YtphfmlfojebjkaaPr
import Derived.Test.YtphfmlfojebjkaaRkd
namespace Go.Proofs.Ytphfmlfojebjkaa
open Go.RowKit

theorem own_takeP {w : World} {B : Nat} {A : Option Addr} {c : Nat} {xs : List Int} (h : Own w B A c xs) (k : Nat) : Own w B A c (xs.take k) := by
  unfold Own
  refine ⟨by simp [IL], ?_⟩
  rcases h.2 with ⟨hv, h0⟩ | ⟨g', cap, cur, hv, hB, hh, hn, hmx, hcs, htk⟩
  · injection hv with h1 h2 h3
    refine .inl ⟨?_, by rw [List.length_take]; omega⟩
    rw [h1, h3, List.length_take]
    congr 1
    omega
  · injection hv with h1 h2 h3
    subst h1; subst h3
    refine .inr ⟨g', c, cur, rfl, hB, hh, by rw [List.length_take]; omega, hmx, hcs, ?_⟩
    have e3 : IL (xs.take k) = (IL xs).take k := by simp [IL, List.map_take]
    rw [e3, ← htk, List.take_take, List.length_take]
    congr 1
    omega
set_option maxRecDepth 100000 in
set_option maxHeartbeats 4000000 in
theorem rkPair_any (A : Option Addr) (c : Nat) (xs : List Int) (w : World) (hg : strB xs = true) (h0 : 0 < xs.length) (hno : A = none → xs.length = 0 ∧ c = 0) (hc : Cells w A xs) :
    Calls Try.prog 17 #[.slice A xs.length c] w fun e w' => ∃ A' c', e = .returned (.tuple #[.slice A' (prF xs).length c', .bool (prB xs)]) ∧ Own w' w.heap.size A' c' (prF xs) ∧ Below w.heap.size w w' := by
  obtain ⟨i0, hi, hz0, hz1, hz2⟩ := info_parts Try.infoInt
  have G := strB_good hg
  have hlen := G.len
  obtain ⟨f1, f2, -⟩ := slN_facts h0
  have HOK := hid (dnL_ok hg h0)
  have HO := hid (prO_yes hg h0)
  have HLO := hid (fun (n : Nat) => l1OwnC_any A c xs (w.drewN n) (by omega) hno (by exact hc))
  have HPB := hid (fun j (h : j < xs.length) => (⟨G.pos j h, G.le j h⟩ : 1 ≤ xs.getD j 0 ∧ xs.getD j 0 ≤ 30))
  have HCS := hid hc
  obtain ⟨b, o, rfl, hcc⟩ := hc h0
  have hckl := hcc (xs.length - 1) (by omega)
  have hwl : IntKind.i64.wrap ((xs.length : Int) - 1) = ((xs.length - 1 : Nat) : Int) := by rw [IntWalk.i64_in _ (by omega)]; omega
  have hsb := HPB.out (xs.length - 1) (by omega)
  have HVD := hid (prV_dn (xs := xs))
  have HVF := hid (prV_full (xs := xs))
  have HVU := hid (prV_up (xs := xs))
  obtain ⟨s, hs⟩ : ∃ s, s = xs.getD (xs.length - 1) 0 := ⟨_, rfl⟩
  rw [← hs] at hckl hsb HVD HVF HVU
  have HDE := hid (show dnL xs = bmp xs (-1) (slN xs) ++ [(slN xs : Int)] from rfl)
  have HDL := hid (dnL_len xs)
  have HSS := hid (show slG xs (xs.length - 1) 1 = slN xs from rfl)
  obtain ⟨d, hd⟩ : ∃ d, d = slN xs := ⟨_, rfl⟩
  rw [← hd] at f1 f2 HVD HVF HVU HDE HOK HSS
  obtain ⟨l, hll⟩ : ∃ l, l = xs.length - 1 := ⟨_, rfl⟩
  have hlx : xs.length = l + 1 := by omega
  rw [← hll] at hckl hwl HVU HOK HSS
  have hli : (l : Int) < (xs.length : Int) := by omega
  have hx0 : ¬ ((xs.length : Int) = 0) := by omega
  have HCC := hid hcc
  have HLX := hid hlx
  clear hcc hs hg hno G hd hll hlx
  go_enter Try.func17, Try.ntmps17
  go_wp2_with fail
  go_loopw [6] (fun i wr => ∃ k : Nat, 1 ≤ k ∧ k ≤ xs.length ∧ i = .int .i64 k ∧ Hid (slG xs (xs.length - k) k = d) ∧ ∃ n, wr = w.drewN n) (fun i _ => xs.length - (intOf i).toNat)
  case atStart => exact ⟨1, Nat.le_refl _, h0, rfl, hid (by rw [show xs.length - 1 = l by have := HLX.out; omega]; exact HSS.out), 0, rfl⟩
  case round =>
    obtain ⟨k, hk1, hk, rfl, HS, n, rfl⟩ := hrel
    by_cases hlt : k < xs.length
    · have hck := HCC.out k hlt
      have hck1 := HCC.out (k - 1) (by omega)
      have hxb := HPB.out (k - 1) (by omega)
      have HY := hid (slG_yes (xs := xs) (f := xs.length - (k + 1)) (k := k) hlt)
      have HN := hid (slG_no (xs := xs) (f := xs.length - k) (k := k))
      obtain ⟨p, rfl⟩ : ∃ p, k = p + 1 := ⟨k - 1, by omega⟩
      rw [show p + 1 - 1 = p by omega] at hck1 hxb HY HN
      have hw : IntKind.i64.wrap (((p + 1 : Nat) : Int) - 1) = (p : Int) := by rw [IntWalk.i64_in _ (by omega)]; omega
      obtain ⟨x, hx⟩ : ∃ x, x = xs.getD (p + 1) 0 := ⟨_, rfl⟩
      obtain ⟨y, hy⟩ : ∃ y, y = xs.getD p 0 := ⟨_, rfl⟩
      rw [← hx] at hck HY HN
      rw [← hy] at hck1 hxb HY HN
      clear hx hy
      obtain ⟨m, hm⟩ : ∃ m, m = p + 1 := ⟨_, rfl⟩
      rw [← hm] at hck hw HY HN hlt HS hk ⊢
      have HM := hid hm
      have hll : (m : Int) < (xs.length : Int) := by omega
      have hdec : decide ((m : Int) < (xs.length : Int)) = true := decide_eq_true hll
      have hpl : (p : Int) < (xs.length : Int) := by omega
      clear hm
      by_cases he : x = y - 1
      · have hs := HY.out he
        rw [show xs.length - (m + 1) + 1 = xs.length - m by omega, HS.out] at hs
        have HE := hid hs.symm
        clear hs HY HN
        go_wp2_with fail
        go_quiet (fail)
        go_wp2_with fail
        go_roundw
        case rel => exact ⟨m + 1, by omega, by omega, by go_num, HE, _, rfl⟩
        case measure => simp [intOf]; omega
      · have hs := HN.out (fun h => he h.2)
        have hdm : d = m := HS.out.symm.trans hs
        subst hdm
        clear hs HY HN HS
        go_wp2_with fail
        go_quiet (fail)
        clear hck hck1 hdec hw hxb
        go_wp2_with fail
        refine (HLO.out _).mono ?_
        rintro e w5 ⟨A5, c5, rfl, o5', b5'⟩
        have o5 : Own w5 w.heap.size A5 c5 xs := o5'
        have B5 : Below w.heap.size w w5 := (below_drew' w _).trans b5'
        obtain ⟨g, rfl, hg1, hg2⟩ := o5.at_ h0
        have HO5 := hid o5
        have HB5 := hid B5
        clear o5 o5' b5' B5
        by_cases hsd : (d : Int) < s
        · have HPV := hid (HO.out.trans (HVD.out hsd))
          clear HVF HVU HVD
          go_wp2_with fail
          go_loopw [9] (fun i wr => ∃ j : Nat, j ≤ d ∧ i = .int .i64 j ∧ Hid (Own wr w.heap.size (some ⟨g, 0, none⟩) c5 (bmp xs (-1) j)) ∧ Hid (Below w.heap.size w wr)) (fun i _ => d - (intOf i).toNat)
          case atStart => exact ⟨0, Nat.zero_le _, rfl, hid HO5.out, HB5⟩
          case round =>
            obtain ⟨j, hj, rfl, HW, HBL⟩ := hrel
            by_cases hlt : j < d
            · have hck := own_get HW.out (k := j) (by rw [bmp_len]; omega)
              have hfz := own_froz HW.out j
              have hst := own_set HW.out j ((bmp xs (-1) j).getD j 0 + -1)
              rw [bmp_succ] at hst
              have hgt := bmp_get xs (-1) j (by have := HLX.out; omega) j
              rw [if_neg (Nat.lt_irrefl _)] at hgt
              have hxb := HPB.out j (by have := HLX.out; omega)
              rw [hgt] at hck hst
              obtain ⟨x, hx⟩ : ∃ x, x = xs.getD j 0 := ⟨_, rfl⟩
              rw [← hx] at hck hst hxb
              have hkL : (j : Int) < (xs.length : Int) := by have := HLX.out; omega
              rw [show x + -1 = x - 1 by have := HLX.out; omega] at hst
              have HST := hid hst
              have HBS := hid (HBL.out.setCell hg1 (p := ⟨g, j, none⟩) (.int .i64 (x - 1)))
              clear hst hgt hx HW
              go_wp2_with fail
              go_roundw
              case rel => exact ⟨j + 1, by have := HLX.out; omega, by go_num, HST, HBS⟩
              case measure => simp [intOf]; omega
            · have hje : j = d := by have := HLX.out; omega
              subst hje
              have hown3 : wr.ownsRow w.heap.size 3 1 (.slice (some ⟨g, 0, none⟩) xs.length c5) xs.length (IL (bmp xs (-1) j)) := by
                have := HW.out; unfold Own at this; rwa [bmp_len] at this
              obtain ⟨wo, rfl⟩ : ∃ wo : World, wo = wr := ⟨_, rfl⟩
              clear HW hj
              go_wp2_with (at_builtin; refine wpList_append_own _ rfl _ _ 22 rfl w.heap.size 3 i0 (.int .i64 0) 1 8 Try.underlying22 hi hz0 hz1 hz2 rfl (by decide) _ _ _ rfl (hown3.alloc _) ⟨wo.heap.size, 0, none⟩ 1 1 [.int .i64 (j : Int)] rfl rfl one_at (one_cell _) (by unfold maxLen; omega) (by have := HLX.out; omega) (by have := HBL.out.size; simp; omega) ?_)
              intro v' w4 hown' hgrow _
              have hb4 : Below w.heap.size w w4 := (HBL.out.alloc HBL.out.size _).grown hgrow (by have := HBL.out.size; simp; omega) (fun q hq => (hown3.lt q hq).1)
              have hs4 := own_snoc HDE.out (by rw [bmp_len]; exact hown')
              obtain ⟨A4, c4, rfl, o4⟩ := own_form hs4 rfl
              obtain ⟨g4, rfl, -, -⟩ := o4.at_ (by rw [HDL.out]; have := HLX.out; omega)
              have hcl := own_get o4 (k := l) (by rw [HDL.out]; have := HLX.out; omega)
              have hok2 := HOK.out
              obtain ⟨y, hy⟩ : ∃ y, y = (dnL xs).getD l 0 := ⟨_, rfl⟩
              rw [← hy] at hcl hok2
              have hld : (l : Int) < ((dnL xs).length : Int) := by rw [HDL.out]; have := HLX.out; omega
              have HO4 := hid o4
              have HB4 := hid hb4
              have hn := HPV.out
              rw [hok2] at hn
              obtain ⟨LD, hLD⟩ : ∃ LD, LD = (dnL xs).length := ⟨_, rfl⟩
              rw [← hLD] at hld ⊢
              have HLD := hid hLD
              clear hgrow hown' hown3 hs4 o4 hb4 hy hok2 hLD
              by_cases hyj : y ≤ (j : Int)
              · rw [decide_eq_false (by have := HLX.out; omega), if_neg (by simp)] at hn
                obtain ⟨e1, e2⟩ := prF_none hn
                have E1 := hid e1
                have E2 := hid e2
                clear HPV hn e1 e2
                go_wp2_with fail
                go_ret2
                exact ⟨none, 0, by rw [E1.out, E2.out]; rfl, by rw [E1.out]; exact own_nil _ _, HB4.out⟩
              · rw [decide_eq_true (by have := HLX.out; omega), if_pos rfl] at hn
                obtain ⟨e1, e2⟩ := prF_some hn
                have E1 := hid e1
                have E2 := hid e2
                clear HPV hn e1 e2
                go_wp2_with fail
                go_ret2
                exact ⟨some ⟨g4, 0, none⟩, c4, by rw [E1.out, E2.out, ← HLD.out]; rfl, by rw [E1.out]; exact HO4.out, HB4.out⟩
        · by_cases hsn : s = (xs.length : Int)
          · exact absurd hsn (by have := HLX.out; omega)
          · obtain ⟨e1, e2⟩ := prF_some (HO.out.trans (HVU.out (by have := HLX.out; omega) hsn))
            obtain ⟨m, rfl⟩ : ∃ m : Nat, s = m := ⟨s.toNat, by have := HLX.out; omega⟩
            rw [Int.toNat_natCast] at e1
            have htl : (xs.take l).length = l := by rw [List.length_take]; have := HLX.out; omega
            have hcap := HO5.out.cap
            have hcut := fun W => runI_cut_hi (some ⟨g, 0, none⟩) xs.length c5 l (by have := HLX.out; omega) W
            have HT5 := hid (own_takeP HO5.out l)
            have hml : m ≤ l := by have := HLX.out; omega
            have HTL := hid htl
            have E1 := hid e1
            have E2 := hid e2
            clear HVF HVU HVD htl hsn e1 e2
            go_wp2_with fail
            go_loopw [8] (fun i wr => ∃ j : Nat, j ≤ m ∧ i = .int .i64 j ∧ Hid (Own wr w.heap.size (some ⟨g, 0, none⟩) c5 (bmp (xs.take l) 1 j)) ∧ Hid (Below w.heap.size w wr)) (fun i _ => m - (intOf i).toNat)
            case atStart => exact ⟨0, Nat.zero_le _, rfl, hid HT5.out, HB5⟩
            case round =>
              obtain ⟨j, hj, rfl, HW, HBL⟩ := hrel
              by_cases hlt : j < m
              · have hck := own_get HW.out (k := j) (by rw [bmp_len, HTL.out]; omega)
                have hfz := own_froz HW.out j
                have hst := own_set HW.out j ((bmp (xs.take l) 1 j).getD j 0 + 1)
                rw [bmp_succ] at hst
                have hgt := bmp_get (xs.take l) 1 j (by rw [HTL.out]; omega) j
                rw [if_neg (Nat.lt_irrefl _)] at hgt
                have hgt2 : (xs.take l).getD j 0 = xs.getD j 0 := by rw [List.getD_eq_getElem?_getD, List.getElem?_take_of_lt (by have := HLX.out; omega), ← List.getD_eq_getElem?_getD]
                have hxb := HPB.out j (by have := HLX.out; omega)
                rw [hgt, hgt2] at hck hst
                obtain ⟨x, hx⟩ : ∃ x, x = xs.getD j 0 := ⟨_, rfl⟩
                rw [← hx] at hck hst hxb
                have hkL : (j : Int) < (l : Int) := by have := HLX.out; omega
                have HST := hid hst
                have HBS := hid (HBL.out.setCell hg1 (p := ⟨g, j, none⟩) (.int .i64 (x + 1)))
                clear hst hgt hgt2 hx HW
                go_wp2_with fail
                go_roundw
                case rel => exact ⟨j + 1, by have := HLX.out; omega, by go_num, HST, HBS⟩
                case measure => simp [intOf]; omega
              · have hje : j = m := by have := HLX.out; omega
                subst hje
                go_wp2_with fail
                go_ret2
                exact ⟨some ⟨g, 0, none⟩, c5, by rw [E1.out, E2.out, bmp_len, HTL.out]; rfl, by rw [E1.out]; exact HW.out, HBL.out⟩
    · have hs := slG_no (xs := xs) (f := xs.length - k) (k := k) (fun h => hlt h.1)
      have hdk : d = k := HS.out.symm.trans hs
      subst hdk
      clear hs HS
      have hll : ¬ ((d : Int) < (xs.length : Int)) := by have := HLX.out; omega
      have hdec : decide ((d : Int) < (xs.length : Int)) = false := decide_eq_false hll
      · go_wp2_with fail
        go_quiet (fail)
        clear hdec
        go_wp2_with fail
        refine (HLO.out _).mono ?_
        rintro e w5 ⟨A5, c5, rfl, o5', b5'⟩
        have o5 : Own w5 w.heap.size A5 c5 xs := o5'
        have B5 : Below w.heap.size w w5 := (below_drew' w _).trans b5'
        obtain ⟨g, rfl, hg1, hg2⟩ := o5.at_ h0
        have HO5 := hid o5
        have HB5 := hid B5
        clear o5 o5' b5' B5
        by_cases hsd : (d : Int) < s
        · have HPV := hid (HO.out.trans (HVD.out hsd))
          clear HVF HVU HVD
          go_wp2_with fail
          go_loopw [9] (fun i wr => ∃ j : Nat, j ≤ d ∧ i = .int .i64 j ∧ Hid (Own wr w.heap.size (some ⟨g, 0, none⟩) c5 (bmp xs (-1) j)) ∧ Hid (Below w.heap.size w wr)) (fun i _ => d - (intOf i).toNat)
          case atStart => exact ⟨0, Nat.zero_le _, rfl, hid HO5.out, HB5⟩
          case round =>
            obtain ⟨j, hj, rfl, HW, HBL⟩ := hrel
            by_cases hlt : j < d
            · have hck := own_get HW.out (k := j) (by rw [bmp_len]; omega)
              have hfz := own_froz HW.out j
              have hst := own_set HW.out j ((bmp xs (-1) j).getD j 0 + -1)
              rw [bmp_succ] at hst
              have hgt := bmp_get xs (-1) j (by have := HLX.out; omega) j
              rw [if_neg (Nat.lt_irrefl _)] at hgt
              have hxb := HPB.out j (by have := HLX.out; omega)
              rw [hgt] at hck hst
              obtain ⟨x, hx⟩ : ∃ x, x = xs.getD j 0 := ⟨_, rfl⟩
              rw [← hx] at hck hst hxb
              have hkL : (j : Int) < (xs.length : Int) := by have := HLX.out; omega
              rw [show x + -1 = x - 1 by have := HLX.out; omega] at hst
              have HST := hid hst
              have HBS := hid (HBL.out.setCell hg1 (p := ⟨g, j, none⟩) (.int .i64 (x - 1)))
              clear hst hgt hx HW
              go_wp2_with fail
              go_roundw
              case rel => exact ⟨j + 1, by have := HLX.out; omega, by go_num, HST, HBS⟩
              case measure => simp [intOf]; omega
            · have hje : j = d := by have := HLX.out; omega
              subst hje
              have hown3 : wr.ownsRow w.heap.size 3 1 (.slice (some ⟨g, 0, none⟩) xs.length c5) xs.length (IL (bmp xs (-1) j)) := by
                have := HW.out; unfold Own at this; rwa [bmp_len] at this
              obtain ⟨wo, rfl⟩ : ∃ wo : World, wo = wr := ⟨_, rfl⟩
              clear HW hj
              go_wp2_with (at_builtin; refine wpList_append_own _ rfl _ _ 22 rfl w.heap.size 3 i0 (.int .i64 0) 1 8 Try.underlying22 hi hz0 hz1 hz2 rfl (by decide) _ _ _ rfl (hown3.alloc _) ⟨wo.heap.size, 0, none⟩ 1 1 [.int .i64 (j : Int)] rfl rfl one_at (one_cell _) (by unfold maxLen; omega) (by have := HLX.out; omega) (by have := HBL.out.size; simp; omega) ?_)
              intro v' w4 hown' hgrow _
              have hb4 : Below w.heap.size w w4 := (HBL.out.alloc HBL.out.size _).grown hgrow (by have := HBL.out.size; simp; omega) (fun q hq => (hown3.lt q hq).1)
              have hs4 := own_snoc HDE.out (by rw [bmp_len]; exact hown')
              obtain ⟨A4, c4, rfl, o4⟩ := own_form hs4 rfl
              obtain ⟨g4, rfl, -, -⟩ := o4.at_ (by rw [HDL.out]; have := HLX.out; omega)
              have hcl := own_get o4 (k := l) (by rw [HDL.out]; have := HLX.out; omega)
              have hok2 := HOK.out
              obtain ⟨y, hy⟩ : ∃ y, y = (dnL xs).getD l 0 := ⟨_, rfl⟩
              rw [← hy] at hcl hok2
              have hld : (l : Int) < ((dnL xs).length : Int) := by rw [HDL.out]; have := HLX.out; omega
              have HO4 := hid o4
              have HB4 := hid hb4
              have hn := HPV.out
              rw [hok2] at hn
              obtain ⟨LD, hLD⟩ : ∃ LD, LD = (dnL xs).length := ⟨_, rfl⟩
              rw [← hLD] at hld ⊢
              have HLD := hid hLD
              clear hgrow hown' hown3 hs4 o4 hb4 hy hok2 hLD
              by_cases hyj : y ≤ (j : Int)
              · rw [decide_eq_false (by have := HLX.out; omega), if_neg (by simp)] at hn
                obtain ⟨e1, e2⟩ := prF_none hn
                have E1 := hid e1
                have E2 := hid e2
                clear HPV hn e1 e2
                go_wp2_with fail
                go_ret2
                exact ⟨none, 0, by rw [E1.out, E2.out]; rfl, by rw [E1.out]; exact own_nil _ _, HB4.out⟩
              · rw [decide_eq_true (by have := HLX.out; omega), if_pos rfl] at hn
                obtain ⟨e1, e2⟩ := prF_some hn
                have E1 := hid e1
                have E2 := hid e2
                clear HPV hn e1 e2
                go_wp2_with fail
                go_ret2
                exact ⟨some ⟨g4, 0, none⟩, c4, by rw [E1.out, E2.out, ← HLD.out]; rfl, by rw [E1.out]; exact HO4.out, HB4.out⟩
        · by_cases hsn : s = (xs.length : Int)
          · obtain ⟨e1, e2⟩ := prF_none (HO.out.trans (HVF.out (by have := HLX.out; omega) hsn))
            have E1 := hid e1
            have E2 := hid e2
            clear HVF HVU HVD e1 e2
            go_wp2_with fail
            go_ret2
            exact ⟨none, 0, by rw [E1.out, E2.out]; rfl, by rw [E1.out]; exact own_nil _ _, HB5.out⟩
          · obtain ⟨e1, e2⟩ := prF_some (HO.out.trans (HVU.out (by have := HLX.out; omega) hsn))
            obtain ⟨m, rfl⟩ : ∃ m : Nat, s = m := ⟨s.toNat, by have := HLX.out; omega⟩
            rw [Int.toNat_natCast] at e1
            have htl : (xs.take l).length = l := by rw [List.length_take]; have := HLX.out; omega
            have hcap := HO5.out.cap
            have hcut := fun W => runI_cut_hi (some ⟨g, 0, none⟩) xs.length c5 l (by have := HLX.out; omega) W
            have HT5 := hid (own_takeP HO5.out l)
            have hml : m ≤ l := by have := HLX.out; omega
            have HTL := hid htl
            have E1 := hid e1
            have E2 := hid e2
            clear HVF HVU HVD htl hsn e1 e2
            go_wp2_with fail
            go_loopw [8] (fun i wr => ∃ j : Nat, j ≤ m ∧ i = .int .i64 j ∧ Hid (Own wr w.heap.size (some ⟨g, 0, none⟩) c5 (bmp (xs.take l) 1 j)) ∧ Hid (Below w.heap.size w wr)) (fun i _ => m - (intOf i).toNat)
            case atStart => exact ⟨0, Nat.zero_le _, rfl, hid HT5.out, HB5⟩
            case round =>
              obtain ⟨j, hj, rfl, HW, HBL⟩ := hrel
              by_cases hlt : j < m
              · have hck := own_get HW.out (k := j) (by rw [bmp_len, HTL.out]; omega)
                have hfz := own_froz HW.out j
                have hst := own_set HW.out j ((bmp (xs.take l) 1 j).getD j 0 + 1)
                rw [bmp_succ] at hst
                have hgt := bmp_get (xs.take l) 1 j (by rw [HTL.out]; omega) j
                rw [if_neg (Nat.lt_irrefl _)] at hgt
                have hgt2 : (xs.take l).getD j 0 = xs.getD j 0 := by rw [List.getD_eq_getElem?_getD, List.getElem?_take_of_lt (by have := HLX.out; omega), ← List.getD_eq_getElem?_getD]
                have hxb := HPB.out j (by have := HLX.out; omega)
                rw [hgt, hgt2] at hck hst
                obtain ⟨x, hx⟩ : ∃ x, x = xs.getD j 0 := ⟨_, rfl⟩
                rw [← hx] at hck hst hxb
                have hkL : (j : Int) < (l : Int) := by have := HLX.out; omega
                have HST := hid hst
                have HBS := hid (HBL.out.setCell hg1 (p := ⟨g, j, none⟩) (.int .i64 (x + 1)))
                clear hst hgt hgt2 hx HW
                go_wp2_with fail
                go_roundw
                case rel => exact ⟨j + 1, by have := HLX.out; omega, by go_num, HST, HBS⟩
                case measure => simp [intOf]; omega
              · have hje : j = m := by have := HLX.out; omega
                subst hje
                go_wp2_with fail
                go_ret2
                exact ⟨some ⟨g, 0, none⟩, c5, by rw [E1.out, E2.out, bmp_len, HTL.out]; rfl, by rw [E1.out]; exact HW.out, HBL.out⟩

set_option maxHeartbeats 1000000 in
theorem spec_PairOfC (A : Option Addr) (c : Nat) (xs : List Int) (w : World) (hl : xs.length ≤ 1048576) (hno : A = none → xs.length = 0 ∧ c = 0) (hc : Cells w A xs) :
    Calls Try.prog 5 #[.slice A xs.length c] w fun e w' => ∃ A' c', e = .returned (.tuple #[.slice A' (prF xs).length c', .bool (prB xs)]) ∧ Own w' w.heap.size A' c' (prF xs) ∧ Below w.heap.size w w' := by
  have HPT := hid (fun (q : Bool) (hq : good xs = q) => ptGood_b A xs c w hl hc q hq)
  cases hg : good xs
  · obtain ⟨e1, e2⟩ := prF_none (prO_no (xs := xs) (by simp [strB, hg]))
    rw [e1, e2]
    have HG := hid (HPT.out _ hg); clear hg e1 e2
    go_enter Try.func5, Try.ntmps5
    go_wp2_with (go_at_call 15; refine HG.out.mono ?_; rintro e w' ⟨rfl, n, rfl⟩)
    go_ret2
    exact ⟨none, 0, rfl, own_nil _ _, below_drew' _ _⟩
  have HG := hid (HPT.out _ hg)
  by_cases h0 : 0 < xs.length
  case neg =>
    obtain ⟨e1, e2⟩ := prF_none (prO_nil (xs := xs) (by omega))
    rw [e1, e2]
    obtain ⟨L, hL⟩ : ∃ L, L = xs.length := ⟨_, rfl⟩
    rw [← hL] at HG ⊢
    have hL0 : L = 0 := by omega
    subst hL0
    clear hg e1 e2 hL h0 HPT hc hno hl
    go_enter Try.func5, Try.ntmps5
    go_wp2_with (go_at_call 15; refine HG.out.mono ?_; rintro e w' ⟨rfl, n, rfl⟩)
    go_ret2
    exact ⟨none, 0, rfl, own_nil _ _, below_drew' _ _⟩
  have G := (good_iff xs).1 hg
  have HD := hid (fun n : Nat => rkDifferent_any A xs c (w.drewN n) G h0 (by exact hc))
  have hbq : ((xs.length : Int) == 0) = false := beq_eq_false_iff_ne.2 (by omega)
  cases hd : dcr xs
  · obtain ⟨e1, e2⟩ := prF_none (prO_no (xs := xs) (by simp [strB, hd]))
    rw [e1, e2]
    rw [hd] at HD
    clear hg e1 e2 hd G HPT hc hno
    go_enter Try.func5, Try.ntmps5
    go_wp2_with (first | (go_at_call 15; refine HG.out.mono ?_; rintro e w' ⟨rfl, n, rfl⟩) | (go_at_call 16; refine (HD.out _).mono ?_; rintro e w' ⟨rfl, m, rfl⟩))
    go_ret2
    exact ⟨none, 0, rfl, own_nil _ _, below_drew' _ _⟩
  · have HR := hid (fun n : Nat => rkPair_any A c xs (w.drewN n) (by simp [strB, hg, hd]) h0 hno (by exact hc))
    rw [hd] at HD
    clear hg hd G HPT hc hno
    go_enter Try.func5, Try.ntmps5
    go_wp2_with (first | (go_at_call 15; refine HG.out.mono ?_; rintro e w' ⟨rfl, n, rfl⟩) | (go_at_call 16; refine (HD.out _).mono ?_; rintro e w' ⟨rfl, m, rfl⟩))
    refine (HR.out _).mono ?_
    rintro e w5 ⟨A5, c5, rfl, o5, b5⟩
    have o5' : Own w5 w.heap.size A5 c5 (prF xs) := o5
    have B5 : Below w.heap.size w w5 := (below_drew' w _).trans b5
    clear o5 b5
    go_wp2_with fail
    go_ret2
    exact ⟨A5, c5, rfl, o5', B5⟩
theorem spec_PairOf {B : Nat} (A : Option Addr) (c : Nat) (xs : List Int) (w : World) (hl : xs.length ≤ 1048576) (ho : Own w B A c xs) :
    Calls Try.prog 5 #[.slice A xs.length c] w fun e w' => ∃ A' c', e = .returned (.tuple #[.slice A' (prF xs).length c', .bool (prB xs)]) ∧ Own w' w.heap.size A' c' (prF xs) ∧ Below w.heap.size w w' := spec_PairOfC A c xs w hl (fun e => by subst e; exact own_none ho) ho.cells 

end Go.Proofs.Ytphfmlfojebjkaa
