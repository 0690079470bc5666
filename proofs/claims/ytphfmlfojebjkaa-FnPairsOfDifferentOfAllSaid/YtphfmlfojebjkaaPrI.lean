/-
  Contract: PairOf of the program.
-/
import Derived.Test.YtphfmlfojebjkaaPr
namespace Go.Proofs.Ytphfmlfojebjkaa
open Go.RowKit

set_option maxRecDepth 100000 in
set_option maxHeartbeats 2000000 in
theorem impl_PairOfC (A : Option Addr) (c : Nat) (xs : List Int) (w : World) (hl : xs.length ≤ 1048576) (hcapP : xs.length ≤ c) (hno : A = none → xs.length = 0 ∧ c = 0) (hc : Cells w A xs) :
    Calls Try.prog 4 #[.slice A xs.length c] w fun e w' => ∃ A' c', e = .returned (.tuple #[.slice A' (prF xs).length c', .bool (prB xs)]) ∧ Own w' w.heap.size A' c' (prF xs) ∧ Below w.heap.size w w' := by
  obtain ⟨i0, hi, hz0, hz1, hz2⟩ := info_parts Try.infoInt
  cases hg : strB xs
  · obtain ⟨e1, e2⟩ := prF_none (prO_no hg)
    rw [e1, e2]
    have HS := hid (isStrict_b A xs c w hl hc _ hg)
    clear hg e1 e2
    go_enter Try.func4, Try.ntmps4
    go_wp2_with (go_at_call 12; refine HS.out.mono ?_; rintro e w' ⟨rfl, rfl⟩)
    go_ret2
    exact ⟨none, 0, rfl, own_nil _ _, Below.refl _ _⟩
  by_cases h0 : 0 < xs.length
  case neg =>
    obtain ⟨e1, e2⟩ := prF_none (prO_nil (xs := xs) (by omega))
    rw [e1, e2]
    have HS := hid (isStrict_b A xs c w hl hc _ hg)
    obtain ⟨L, hL⟩ : ∃ L, L = xs.length := ⟨_, rfl⟩
    rw [← hL] at HS hl ⊢
    have hL0 : L = 0 := by omega
    subst hL0
    clear hg e1 e2 hL h0
    go_enter Try.func4, Try.ntmps4
    go_wp2_with (go_at_call 12; refine HS.out.mono ?_; rintro e w' ⟨rfl, rfl⟩)
    go_ret2
    exact ⟨none, 0, rfl, own_nil _ _, Below.refl _ _⟩
  have G := strB_good hg
  have hlen := G.len
  obtain ⟨f1, f2, -⟩ := slN_facts h0
  have hok := dnL_ok hg h0
  have HO := hid (prO_yes hg h0)
  have HST := hid (isStrict_b A xs c w hl hc _ hg)
  have HSL := hid (fun wx (h : Cells wx A xs) => slopeOf_any A xs c wx G h0 h)
  have HNO := hid hno
  have hcap := hcapP
  have HPB := hid (fun j (h : j < xs.length) => (⟨G.pos j h, G.le j h⟩ : 1 ≤ xs.getD j 0 ∧ xs.getD j 0 ≤ 30))
  have HCS := hid hc
  obtain ⟨b, o, rfl, hcc⟩ := hc h0
  have hck := hcc (xs.length - 1) (by omega)
  have hwl : IntKind.i64.wrap ((xs.length : Int) - 1) = ((xs.length - 1 : Nat) : Int) := by rw [IntWalk.i64_in _ (by omega)]; omega
  have hsb := HPB.out (xs.length - 1) (by omega)
  have HVD := hid (prV_dn (xs := xs))
  have HVF := hid (prV_full (xs := xs))
  have HVU := hid (prV_up (xs := xs))
  obtain ⟨s, hs⟩ : ∃ s, s = xs.getD (xs.length - 1) 0 := ⟨_, rfl⟩
  rw [← hs] at hck hsb HVD HVF HVU
  have HDE := hid (show dnL xs = bmp xs (-1) (slN xs) ++ [(slN xs : Int)] from rfl)
  have HDL := hid (dnL_len xs)
  obtain ⟨d, hd⟩ : ∃ d, d = slN xs := ⟨_, rfl⟩
  rw [← hd] at f1 f2 HSL HVD HVF HVU HDE
  obtain ⟨l, hll⟩ : ∃ l, l = xs.length - 1 := ⟨_, rfl⟩
  rw [← hll] at hck hwl HVU
  have hlx : xs.length = l + 1 := by omega
  have HLX := hid hlx
  have hli : (l : Int) < (xs.length : Int) := by omega
  have hx0 : ¬ ((xs.length : Int) = 0) := by omega
  clear hcc hs hg hno hc hcapP G hd hll hok hlx
  by_cases hsd : (d : Int) < s
  · have HPV := hid (HO.out.trans (HVD.out hsd))
    have HW := hid (withFirstParts_any (some ⟨b, o, none⟩) c xs d (-1) w hlen (fun e => by cases e) HCS.out f2 (.inr rfl) HPB.out)
    have HW2 := hid (fun n : Nat => withFirstParts_any (some ⟨b, o, none⟩) c xs d (-1) (w.drewN n) hlen (fun e => by cases e) HCS.out f2 (.inr rfl) HPB.out)
    clear HW HPB HVF HVU HNO
    go_enter Try.func4, Try.ntmps4
    go_wp2_with (go_at_call 12; refine HST.out.mono ?_; rintro e w' ⟨rfl, rfl⟩)
    go_quiet ((go_at_call 13; exact Calls.quiet_of (HSL.out _ (by exact HCS.out))))
    go_wp2_with fail
    refine (HW2.out nq).mono ?_
    rintro e w3 ⟨A3, c3, rfl, o3, b3⟩
    have o3' : Own w3 w.heap.size A3 c3 (bmp xs (-1) d) := o3
    have B3 : Below w.heap.size w w3 := (below_drew' w nq).trans b3
    have hown3 : w3.ownsRow w.heap.size 3 1 (.slice A3 xs.length c3) xs.length (IL (bmp xs (-1) d)) := by
      have := o3'; unfold Own at this; rwa [bmp_len] at this
    have HB3 := hid B3
    clear o3 o3' b3 B3
    go_wp2_with (at_builtin; refine wpList_append_own _ rfl _ _ 22 rfl w.heap.size 3 i0 (.int .i64 0) 1 8 Try.underlying22 hi hz0 hz1 hz2 rfl (by decide) _ _ _ rfl (hown3.alloc _) ⟨w3.heap.size, 0, none⟩ 1 1 [.int .i64 (d : Int)] rfl rfl one_at (one_cell _) (by unfold maxLen; omega) (by omega) (by have := HB3.out.size; simp; omega) ?_)
    intro v' w4 hown' hgrow _
    have hb4 : Below w.heap.size w w4 := (HB3.out.alloc HB3.out.size _).grown hgrow (by have := HB3.out.size; simp; omega) (fun q hq => (hown3.lt q hq).1)
    have hs := own_snoc HDE.out (by rw [bmp_len]; exact hown')
    obtain ⟨A4, c4, rfl, o4⟩ := own_form hs rfl
    have hlD : (dnL xs).length ≤ 1048576 := by rw [HDL.out]; omega
    have HIS := hid (fun (q : Bool) (hq : strB (dnL xs) = q) => isStrict_b A4 (dnL xs) c4 w4 hlD o4.cells q hq)
    have HO4 := hid o4
    have HB4 := hid hb4
    clear hgrow hown' hown3 hs o4 hb4
    cases hq : strB (dnL xs)
    · have HI := hid (HIS.out _ hq)
      have hn := HPV.out
      rw [hq, if_neg (by simp)] at hn
      obtain ⟨e1, e2⟩ := prF_none hn
      have E1 := hid e1
      have E2 := hid e2
      clear HIS HPV hn e1 e2 hq HVD
      go_wp2_with (go_at_call 12; refine HI.out.mono ?_; rintro e w' ⟨rfl, rfl⟩)
      go_ret2
      exact ⟨none, 0, by rw [E1.out, E2.out]; rfl, by rw [E1.out]; exact own_nil _ _, HB4.out⟩
    · have HI := hid (HIS.out _ hq)
      have hn := HPV.out
      rw [hq, if_pos rfl] at hn
      obtain ⟨e1, e2⟩ := prF_some hn
      have E1 := hid e1
      have E2 := hid e2
      clear HIS HPV hn e1 e2 hq HVD
      go_wp2_with (go_at_call 12; refine HI.out.mono ?_; rintro e w' ⟨rfl, rfl⟩)
      go_ret2
      exact ⟨A4, c4, by rw [E1.out, E2.out]; rfl, by rw [E1.out]; exact HO4.out, HB4.out⟩
  · have hcut := fun W => runI_cut_hi (some ⟨b, o, none⟩) xs.length c l (by omega) W
    have htl : (xs.take l).length = l := by rw [List.length_take]; omega
    by_cases hsn : s = (xs.length : Int)
    · obtain ⟨e1, e2⟩ := prF_none (HO.out.trans (HVF.out (by omega) hsn))
      rw [e1, e2]
      have hsl : (l : Int) < s := by omega
      clear HPB HVF HVU HNO HVD e1 e2 hsn
      go_enter Try.func4, Try.ntmps4
      go_wp2_with (go_at_call 12; refine HST.out.mono ?_; rintro e w' ⟨rfl, rfl⟩)
      go_quiet ((go_at_call 13; exact Calls.quiet_of (HSL.out _ (by exact HCS.out))))
      go_wp2_with fail
      go_ret2
      exact ⟨none, 0, rfl, own_nil _ _, below_drew' _ _⟩
    · obtain ⟨e1, e2⟩ := prF_some (HO.out.trans (HVU.out (by omega) hsn))
      rw [e1, e2, bmp_len, htl]
      obtain ⟨m, rfl⟩ : ∃ m : Nat, s = m := ⟨s.toNat, by omega⟩
      rw [Int.toNat_natCast]
      have HW2 := hid (fun n : Nat => withFirstParts_any (some ⟨b, o, none⟩) c (xs.take l) m 1 (w.drewN n) (by omega) (fun e => by cases e) (HCS.out.cutHi l) (by rw [htl]; have := HLX.out; omega) (.inl rfl) (fun j hj => by
        rw [htl] at hj
        have := HPB.out j (by omega)
        rwa [List.getD_eq_getElem?_getD, List.getElem?_take_of_lt hj, ← List.getD_eq_getElem?_getD]))
      rw [htl] at HW2
      have hml : ¬ ((l : Int) < (m : Int)) := by have := HLX.out; omega
      clear HPB HVF HVU HNO HVD e1 e2 hsn htl
      go_enter Try.func4, Try.ntmps4
      go_wp2_with (go_at_call 12; refine HST.out.mono ?_; rintro e w' ⟨rfl, rfl⟩)
      go_quiet ((go_at_call 13; exact Calls.quiet_of (HSL.out _ (by exact HCS.out))))
      go_wp2_with fail
      refine (HW2.out nq).mono ?_
      rintro e w3 ⟨A3, c3, rfl, o3, b3⟩
      have o3' : Own w3 w.heap.size A3 c3 (bmp (xs.take l) 1 m) := o3
      have B3 : Below w.heap.size w w3 := (below_drew' w nq).trans b3
      clear o3 b3
      go_wp2_with fail
      go_ret2
      exact ⟨A3, c3, rfl, o3', B3⟩
theorem impl_PairOf {B : Nat} (A : Option Addr) (c : Nat) (xs : List Int) (w : World) (hl : xs.length ≤ 1048576) (ho : Own w B A c xs) :
    Calls Try.prog 4 #[.slice A xs.length c] w fun e w' => ∃ A' c', e = .returned (.tuple #[.slice A' (prF xs).length c', .bool (prB xs)]) ∧ Own w' w.heap.size A' c' (prF xs) ∧ Below w.heap.size w w' := impl_PairOfC A c xs w hl ho.cap (fun e => by subst e; exact own_none ho) ho.cells 

end Go.Proofs.Ytphfmlfojebjkaa
