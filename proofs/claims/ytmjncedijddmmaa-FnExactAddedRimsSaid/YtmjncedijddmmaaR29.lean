/-
  Several texts in one.
-/
import Derived.Test.YtmjncedijddmmaaR22
import Derived.Test.YtmjncedijddmmaaR25
import Derived.Test.YtmjncedijddmmaaR16
import Derived.Test.YtmjncedijddmmaaCU
import Derived.Test.YtmjncedijddmmaaCW
import Derived.Test.YtmjncedijddmmaaR17
import Derived.Test.YtmjncedijddmmaaR15
import Derived.Test.YtmjncedijddmmaaR14
import Derived.Test.YtmjncedijddmmaaR10
import Derived.Test.YtmjncedijddmmaaCA
import Derived.Test.YtmjncedijddmmaaCC
/-
  Contracts: ReachedByArrows of the model.
-/
namespace Go.Proofs.Ytmjncedijddmmaa
open Go.RowKit

theorem push_slice {w : World} {B : Nat} {v : Value} {rows : List (List Int)} {P : Nat → Option Addr} {C : Nat → Nat} (h : Push w B v rows P C) : ∃ A c, v = .slice A rows.length c := by
  obtain ⟨A, c, e, _⟩ := h.own2
  exact ⟨A, c, e⟩
theorem push_low {w : World} {B B' : Nat} {v : Value} {rows : List (List Int)} {P : Nat → Option Addr} {C : Nat → Nat} (h : Push w B v rows P C) (hB : B' ≤ B) : Push w B' v rows P C :=
  ⟨ownsRow_moreA h.out hB, fun j hj => (h.row j hj).more hB, h.apart⟩

end Go.Proofs.Ytmjncedijddmmaa
/-
  Contracts: AddedRims of the model.
-/
namespace Go.Proofs.Ytmjncedijddmmaa
open Go.RowKit

set_option maxRecDepth 100000 in
theorem fieldBeads (A : Option Addr) (n c : Nat) (t : Int) (W : World) : (Instr.field 56 (.agg #[.int .i64 t, .slice A n c]) 1).run Try.prog W = .ok (.slice A n c) W := by kernel_rfl
set_option maxRecDepth 100000 in
set_option maxHeartbeats 4000000 in
theorem spec_AddedRims (A : Option Addr) (c : Nat) (p : List Int) (t : Int) (w : World) (hl : p.length ≤ 1048576) (hc : Cells w A p) (_ : I64 t) :
    Calls Try.prog 18 #[.slice A p.length c, .int .i64 t] w fun e w' => ∃ A' c', e = .returned (.tuple #[.slice A' (arF p t).length c', .bool (arOk p t)]) ∧ Own2 w' w.heap.size w'.heap.size A' c' (arF p t) ∧ Below w.heap.size w w' := by
  have HCT := hid fun b h => crT_any A c p t w hl hc b h
  cases hcr : crB p t
  · rw [show arF p t = [] by simp [arF, arOk, hcr], show arOk p t = false by simp [arOk, hcr]]
    have H := hid (HCT.out _ hcr)
    clear hcr
    go_enter Try.func18, Try.ntmps18
    go_wp2_with fail
    refine H.out.mono ?_
    rintro e w' ⟨rfl, n, rfl⟩
    go_wp2_with fail
    go_ret2
    exact ⟨none, 0, rfl, own2_nil _ _ _, below_drew' _ _⟩
  have H := hid (HCT.out _ hcr)
  obtain ⟨hg, hti⟩ := crB_good hcr
  have ht := inB_iff.1 hti
  have G := (good_iff p).1 hg
  have hs0 := G.sum0
  have hs30 := G.sum
  have hlen := G.len
  have HPS := hid fun W (h : Cells W A p) => ptSum_any A p c W hlen (fun j hj => by have := G.pos j hj; have := G.le j hj; omega) h
  have HC := hid fun n => (show Cells (w.drewN n) A p from hc)
  obtain ⟨s, hs⟩ : ∃ s : Nat, p.sum = s := ⟨p.sum.toNat, by omega⟩
  obtain ⟨t, rfl⟩ : ∃ k : Nat, t = k := ⟨t.toNat, by omega⟩
  have hok : arOk p t = decide ((s : Int) + t ≤ 30) := by unfold arOk; rw [hcr, hs]; rfl
  rw [hs] at HPS
  by_cases hbig : (s : Int) + t ≤ 30
  · rw [show arF p t = arL t (beadsL p (p.length + t)) (p.length + t) by unfold arF; rw [hok, decide_eq_true hbig, if_pos rfl, Int.toNat_natCast], hok, decide_eq_true hbig]
    have hn36 : p.length + t ≤ 36 := by omega
    have HAB := hid fun W (h : Cells W A p) => abBeads_any A c p (p.length + t) W (by omega) (by omega) (fun j hj => by have := G.pos j hj; have := G.le j hj; omega) h
    have hpw := bead_pw G (n := p.length + t) (by omega) (by omega)
    have hbb := bead66 G (n := p.length + t) hn36
    have hxl := beadsL_len p (p.length + t)
    obtain ⟨n, hn⟩ : ∃ n, n = p.length + t := ⟨_, rfl⟩
    rw [← hn] at HAB hpw hbb hxl hn36 ⊢
    have hni : IntKind.i64.wrap ((p.length : Int) + (t : Int)) = (n : Int) := by rw [IntWalk.i64_in _ (by omega)]; omega
    obtain ⟨xs, hxs⟩ : ∃ xs, xs = beadsL p n := ⟨_, rfl⟩
    rw [← hxs] at HAB hpw hbb hxl ⊢
    have HPW := hid hpw
    have HBB := hid hbb
    have HXL := hid hxl
    have hgt : ¬ (30 : Int) < (s : Int) + t := by omega
    have htl : 2 ≤ t ∧ t ≤ 6 := by omega
    clear HCT hcr hg hti ht G hs0 hs30 hs hok hn hxs hpw hbb
    go_enter Try.func18, Try.ntmps18
    go_wp2_with fail
    refine H.out.mono ?_
    rintro e w' ⟨rfl, n0, rfl⟩
    obtain ⟨w1, hw1⟩ : ∃ w1, w1 = w.drewN n0 := ⟨_, rfl⟩
    have hc1 : Cells w1 A p := by rw [hw1]; exact HC.out n0
    have HB1 := hid (show Below w.heap.size w w1 by rw [hw1]; exact below_drew' w n0)
    rw [← hw1]
    clear hw1
    have HP1 := hid (HPS.out w1 hc1)
    have HA1 := hid (HAB.out w1 hc1)
    clear hc1
    go_wp2_with fail
    refine HP1.out.mono ?_
    rintro e w' ⟨rfl, rfl⟩
    go_wp2_with fail
    refine HA1.out.mono ?_
    rintro e w2 ⟨A2, c2, rfl, o2, b2⟩
    have HO2 := hid o2
    have HB2 := hid b2
    clear o2 b2
    go_wp2_with fail
    have HZ := hid (Box2.new w2 56 (.int .i64 t) (.slice A2 n c2))
    obtain ⟨W, hW⟩ : ∃ W, W = w2.alloc (.cells #[.int .i64 t, .slice A2 n c2] 56) := ⟨_, rfl⟩
    have HBW := hid (show Below w2.heap.size w2 W by rw [hW]; exact (Below.refl _ _).alloc (Nat.le_refl _) _)
    have HSW := hid (show W.heap.size = w2.heap.size + 1 by rw [hW]; simp)
    rw [← hW] at HZ
    rw [← hW]
    clear hW
    have HOW := hid (HO2.out.below HBW.out)
    have HB12 := hid (Below.next HB2.out HBW.out)
    obtain ⟨g, hg⟩ : ∃ g, g = w2.heap.size := ⟨_, rfl⟩
    rw [← hg] at HZ HSW ⊢
    clear hg
    go_loopw [7, 32] (fun av kv wr => ∃ k : Nat, k ≤ n ∧ kv = .int .i64 k ∧ Hid (∃ P C, Push wr W.heap.size av (arL t xs k) P C) ∧ Below W.heap.size W wr) (fun _ kv _ => n - (intOf kv).toNat)
    case atStart => exact ⟨0, Nat.zero_le _, rfl, hid ⟨_, _, push_nil _ _⟩, Below.refl _ _⟩
    case round =>
      obtain ⟨k, hk, rfl, HPP, hbk⟩ := hrel
      by_cases hkn : k < n
      · have ho := HOW.out.below hbk
        have hz := HZ.out.next hbk
        have hz0 := hz.cell0
        have hz1 := hz.cell1
        have hkx : k < xs.length := by rw [HXL.out]; exact hkn
        obtain ⟨b, o, rfl, hcc⟩ := ho.cells (by omega)
        have hck := hcc k hkx
        have hxm : xs.getD k 0 ∈ xs := by rw [List.getD_eq_getElem?_getD, List.getElem?_eq_getElem hkx]; exact List.getElem_mem hkx
        have hxb := HBB.out _ hxm
        have HNO := hid fun h => arL_no (t := (t : Int)) hkx h
        have HYE := hid fun h => arL_yes (t := (t : Int)) hkx h
        have HFR := hid fun h => arL_front (t := (t : Int)) HPW.out (fun x hx => (HBB.out x hx).1) (by omega) hkx h
        have hal := arL_len (t : Int) xs k
        obtain ⟨x, hx⟩ : ∃ x, x = xs.getD k 0 := ⟨_, rfl⟩
        rw [← hx] at hck hxm hxb HNO HYE HFR
        have HLH := hid fun b2 h => l1Has2_b (some ⟨b, o, none⟩) xs c2 (x + t) wr (by omega) ho.cells b2 h
        rw [HXL.out] at HLH
        have HXM := hid hxm
        have HOB := hid ho
        have HZB := hid hz
        obtain ⟨P, C, hpush⟩ := HPP.out
        obtain ⟨A5, c5, rfl⟩ := push_slice hpush
        have HP5 := hid hpush
        have HBK := hid hbk
        have HSK := hid hbk.size
        clear hcc hx hxm ho hz hpush HPP hbk
        by_cases hmem : x + t ∈ xs
        · have HL := hid (HLH.out true (decide_eq_true hmem))
          have HE := hid (HNO.out hmem)
          clear hmem
          go_wp2_with fail
          refine HL.out.mono ?_
          rintro e w' ⟨rfl, rfl⟩
          go_wp2_with fail
          go_roundw
          case rel => exact ⟨k + 1, by omega, by go_num, hid ⟨_, _, by rw [HE.out]; exact HP5.out⟩, HBK.out⟩
          case measure => simp [intOf]; omega
        · have HL := hid (HLH.out false (decide_eq_false hmem))
          have HE := hid (HYE.out hmem)
          have HF := hid (HFR.out hmem)
          have HPU := hid (abPut_any (t : Int) (some ⟨b, o, none⟩) c2 xs x (x + t) wr (by have := HXL.out; omega) HOB.out.cells (mvL_nodup (pw_nodup HPW.out) hmem))
          have hall := insF_all (ys := mvL x (x + t) xs) (mvL_nodup (pw_nodup HPW.out) hmem)
          have hil : (insF (mvL x (x + t) xs)).length = n := by rw [hall.2.2, mvL_len, HXL.out]
          have hib : ∀ j, j < (insF (mvL x (x + t) xs)).length → 0 ≤ (insF (mvL x (x + t) xs)).getD j 0 ∧ (insF (mvL x (x + t) xs)).getD j 0 ≤ 1000 := fun j hj => by
            have hm : (insF (mvL x (x + t) xs)).getD j 0 ∈ insF (mvL x (x + t) xs) := by rw [List.getD_eq_getElem?_getD, List.getElem?_eq_getElem hj]; exact List.getElem_mem hj
            rcases (mem_mvL HXM.out).1 ((hall.2.1 _).1 hm) with e | e
            · rw [e]; omega
            · have := HBB.out _ e.2; omega
          have HAP := hid fun A3 c3 W2 (h : Cells W2 A3 (insF (mvL x (x + t) xs))) => abParts_any A3 c3 (insF (mvL x (x + t) xs)) W2 (by omega) hib h
          have hql := lfP_len HPW.out hmem
          have HQ := hid (show partsL (insF (mvL x (x + t) xs)) = lfP t xs x from rfl)
          have HRR := hid fun j (hj : j < (arL (t : Int) xs k).length) => (by
            obtain ⟨b2, _, h2, e⟩ := arL_mem (r := (arL (t : Int) xs k).getD j []) (by rw [List.getD_eq_getElem?_getD, List.getElem?_eq_getElem hj]; exact List.getElem_mem hj)
            rw [e]
            have := lfP_len HPW.out h2
            have := HXL.out
            omega : ((arL (t : Int) xs k).getD j []).length ≤ 1048576)
          rw [HQ.out] at HAP
          rw [HXL.out] at HPU hql
          rw [hil] at HAP
          obtain ⟨q, hq⟩ : ∃ q, q = lfP t xs x := ⟨_, rfl⟩
          obtain ⟨I, hI⟩ : ∃ I, I = insF (mvL x (x + t) xs) := ⟨_, rfl⟩
          obtain ⟨R, hR⟩ : ∃ R, R = arL (t : Int) xs k := ⟨_, rfl⟩
          rw [← hq] at HAP HE HF hql
          rw [← hI] at HPU HAP
          rw [← hR] at HE HF HRR HP5 hal ⊢
          clear hmem hall hil hib HQ hq hI hR
          go_wp2_with fail
          refine HL.out.mono ?_
          rintro e w' ⟨rfl, rfl⟩
          go_wp2_with fail
          refine HPU.out.mono ?_
          rintro e w3 ⟨A3, c3, rfl, o3, b3⟩
          have HB3 := hid b3
          have HA3 := hid (HAP.out A3 c3 w3 o3.cells)
          have hfd := fieldBeads A3 n c3 t w3
          clear o3 b3
          go_wp2_with fail
          refine HA3.out.mono ?_
          rintro e w4 ⟨A4, c4, rfl, o4, b4⟩
          have HB4 := hid (Below.next HB3.out b4)
          have HCP := hid (crPutF_any A5 A4 c5 c4 R q P C w4 (by omega) HRR.out (by omega) HP5.out HB4.out (o4.more HB3.out.size) HSK.out HF.out)
          have HBK4 := hid (Below.next HBK.out HB4.out)
          clear o4 b4
          go_wp2_with fail
          refine HCP.out.mono ?_
          rintro e w5 ⟨v5, P5, C5, rfl, hp5, b5⟩
          have HPN := hid hp5
          have HBN := hid (Below.next HBK4.out b5)
          clear hp5 b5
          go_wp2_with fail
          go_roundw
          case rel => exact ⟨k + 1, by omega, by go_num, hid ⟨_, _, by rw [HE.out]; exact HPN.out⟩, HBN.out⟩
          case measure => simp [intOf]; omega
      · have hke : k = n := by omega
        obtain ⟨P, C, hp⟩ := HPP.out
        rw [hke] at hp
        have hp2 := push_low hp (show w.heap.size ≤ W.heap.size by have := HB1.out.size; have := HB12.out.size; omega)
        obtain ⟨A', c', rfl, ho⟩ := hp2.own2
        have HO := hid ho
        clear hke hp hp2 ho
        go_wp2_with fail
        go_ret2
        exact ⟨A', c', rfl, HO.out, Below.next HB1.out (Below.next HB12.out hbk)⟩
  · rw [show arF p t = [] by unfold arF; rw [hok, decide_eq_false hbig]; rfl, hok, decide_eq_false hbig]
    have hgt : (30 : Int) < (s : Int) + t := by omega
    have htl : 2 ≤ t ∧ t ≤ 6 := by omega
    have hsb : s ≤ 30 := by omega
    have hst : IntKind.i64.wrap ((s : Int) + (t : Int)) = (s : Int) + t := IntWalk.i64_in _ (by omega)
    clear HCT hcr hg hti ht G hs0 hs30 hs hok
    go_enter Try.func18, Try.ntmps18
    go_wp2_with fail
    refine H.out.mono ?_
    rintro e w' ⟨rfl, n0, rfl⟩
    have HP1 := hid (HPS.out _ (HC.out n0))
    go_wp2_with fail
    refine HP1.out.mono ?_
    rintro e w' ⟨rfl, rfl⟩
    go_wp2_with fail
    go_ret2
    exact ⟨none, 0, rfl, own2_nil _ _ _, below_drew' _ _⟩
end Go.Proofs.Ytmjncedijddmmaa
