/-
  Several texts in one.
-/
import Derived.Test.YthkkiakfmbnfeaaR19
import Derived.Test.YthkkiakfmbnfeaaR32
import Derived.Test.YthkkiakfmbnfeaaCB
import Derived.Test.YthkkiakfmbnfeaaCH
import Derived.Test.YthkkiakfmbnfeaaR10
import Derived.Test.YthkkiakfmbnfeaaR03
/-
  Contracts: CoreOfLevels of the program.
-/
namespace Go.Proofs.Ythkkiakfmbnfeaa
open Go.RowKit

set_option maxRecDepth 100000 in
set_option maxHeartbeats 2000000 in
theorem impl_CoreOfLevels (A : Option Addr) (c : Nat) (xs : List Int) (w : World) (hl : xs.length ≤ 1048576) (hc : Cells w A xs) :
    Calls Try.prog 15 #[.slice A xs.length c] w fun e w' => ∃ A' c', e = .returned (.tuple #[.slice A' (clF xs).length c', .bool (clOk xs)]) ∧ Own w' w.heap.size A' c' (clF xs) ∧ Below w.heap.size w w' := by
  have HS := hid (SizeOfLevels_any A c xs w hl hc)
  cases hg : levB xs
  · have hk : clOk xs = false := by simp [clOk, hg]
    rw [cl_no hk, hk]
    rw [hg] at HS
    clear hg hk
    obtain ⟨z, hz⟩ : ∃ z, z = sizeF xs := ⟨_, rfl⟩
    rw [← hz] at HS
    clear hz
    go_enter Try.func15, Try.ntmps15
    go_wp2_with fail
    refine HS.out.mono ?_
    rintro e w1 ⟨rfl, rfl⟩
    go_wp2_with fail
    go_ret2
    exact ⟨none, 0, rfl, own_nil _ _, Below.refl _ _⟩
  have L := levB_iff.1 hg
  rw [hg, sizeF_t hg] at HS
  by_cases hs : 30 < sizeL xs
  · have hk : clOk xs = false := by simp [clOk, hg]; omega
    rw [cl_no hk, hk]
    obtain ⟨z, hz⟩ : ∃ z, z = sizeL xs := ⟨_, rfl⟩
    rw [← hz] at HS hs
    clear hz hg hk L
    go_enter Try.func15, Try.ntmps15
    go_wp2_with fail
    refine HS.out.mono ?_
    rintro e w1 ⟨rfl, rfl⟩
    go_wp2_with fail
    go_ret2
    exact ⟨none, 0, rfl, own_nil _ _, Below.refl _ _⟩
  have hs30 : sizeL xs ≤ 30 := by omega
  have hk : clOk xs = true := by simp [clOk, hg, hs30]
  obtain ⟨t, ht⟩ : ∃ t, t = xs.length := ⟨_, rfl⟩
  have h26 : 2 ≤ t ∧ t ≤ 6 := by rw [ht]; exact ⟨L.lo, L.hi⟩
  obtain ⟨q1, q2, q3, q4⟩ := qR_bd h26
  have hok := clR_ok L hs30 q1 (by rw [← ht]; exact q3)
  have htot := clR_tot L hs30 q1 (by rw [← ht]; exact q3)
  have hgd := goodB_iff.1 (kL_good L hs30 q1 (by rw [← ht]; exact q3))
  have hpe : clF xs = partsL (kL (qR t) xs) := by rw [cl_yes hk, cl_at L hs30 (by omega), cl_at L hs30 q1]
  rw [hpe, hk]
  have hFR := fun A1 c1 W (h : Cells2 W A1 (clR (qR t) xs xs.length)) => impl_FromRunners A1 c1 _ W (by rw [clR_len]; exact ⟨hl, htot⟩) h
  rw [(fr_yes hok).1, (fr_yes hok).2, hok, clR_frL, clR_len, ← ht] at hFR
  have HFR := hid hFR; clear hFR
  have hD40 := hgd.len
  have HPA := hid fun A1 c1 W (h : Cells W A1 (kL (qR t) xs)) => partsOf_any A1 c1 _ W (by omega) hgd.rise.bd h
  have hfl : ∀ i, i < t → ∃ n : Nat, n ≤ 36 ∧ fillR (qR t) xs i = upTo n ∧ (n : Int) = (qR t : Int) + xs.getD i 0 := fun i hi => by
    have := lev_small L hs30 i (by rw [← ht]; exact hi)
    exact ⟨((qR t : Int) + xs.getD i 0).toNat, by omega, rfl, by omega⟩
  have HFL := hid hfl
  have HRL := hid fun k => clR_len (qR t) xs k
  have HRS := hid fun k => clR_succ (qR t) xs k
  have HMU := hid fun W => multipleFrom_any t 30 h26 (by omega) W
  have htd : Int.tdiv (mulN t 30 : Int) (t : Int) = (qR t : Int) := by
    rw [q4]
    show (((qR t * t) / t : Nat) : Int) = qR t
    rw [Nat.mul_div_cancel _ (by omega)]
  rw [show ((30 : Nat) : Int) = 30 from rfl] at HMU
  obtain ⟨m, hm⟩ : ∃ m, m = mulN t 30 := ⟨_, rfl⟩
  have hmb : m ≤ 40 := by rw [hm, q4, Nat.mul_comm]; exact q3
  rw [← hm] at HMU htd
  obtain ⟨K, hK⟩ : ∃ K, K = kL (qR t) xs := ⟨_, rfl⟩
  rw [← hK] at HFR HPA ⊢
  obtain ⟨R, hR⟩ : ∃ R, R = clR (qR t) xs := ⟨_, rfl⟩
  rw [← hR] at HFR HRL HRS
  have HR0 := hid (show R 0 = [] by rw [hR]; rfl)
  obtain ⟨f, hf⟩ : ∃ f, f = fillR (qR t) xs := ⟨_, rfl⟩
  rw [← hf] at HFL HRS
  obtain ⟨q, hq⟩ : ∃ q, q = qR t := ⟨_, rfl⟩
  rw [← hq] at HFL htd q2
  obtain ⟨z, hz⟩ : ∃ z, z = sizeL xs := ⟨_, rfl⟩
  rw [← hz] at HS hs
  have hlvb : ∀ j, j < t → -10 ≤ xs.getD j 0 ∧ xs.getD j 0 ≤ 10 := fun j hj => L.bd j (by rw [← ht]; exact hj)
  have HLV := hid hlvb
  have hne : ¬ ((t : Int) = 0) := by omega
  have hmkO := run_make_row' (P := Try.prog) 48 22 (.slice none 0 0) 24 Try.underlying48 Try.infoInts rfl .i64 .i64 t (by omega) (by omega)
  clear hz hm hK hR hf hfl hq q1 q3 q4 hok htot hgd hpe hk hs30 hg L hD40 hlvb
  rw [← ht] at HS ⊢
  have hc' : ∀ W, Below w.heap.size w W → ∀ k, k < t → ∃ b o, A = some ⟨b, o, none⟩ ∧ W.cell? ⟨b, o + k, none⟩ = some (.int .i64 (xs.getD k 0)) := fun W h k hk => by
    obtain ⟨b, o, e, hcc⟩ := (hc.later h) (by omega)
    exact ⟨b, o, e, hcc k (by omega)⟩
  have HC := hid hc'
  clear hc hc' hl ht
  go_enter Try.func15, Try.ntmps15
  go_wp2_with fail
  refine HS.out.mono ?_
  rintro e w1 ⟨rfl, rfl⟩
  go_wp2_with fail
  clear hmkO
  go_loopw [28] (fun i wr => ∃ k : Nat, k ≤ t ∧ i = .int .i64 k ∧ (∃ P C, Fill wr w.heap.size w.heap.size t (R k) P C) ∧ Below w.heap.size w wr) (fun i _ => t - (intOf i).toNat)
  case atStart => exact ⟨0, Nat.zero_le _, rfl, ⟨_, _, by rw [HR0.out]; exact fill_start w t (by unfold maxLen; omega)⟩, (Below.refl _ _).alloc (Nat.le_refl _) _⟩
  case round =>
    obtain ⟨k, hk, rfl, ⟨P, C, hfill⟩, hbel⟩ := hrel
    obtain ⟨wo, rfl⟩ : ∃ wo : World, wo = wr := ⟨_, rfl⟩
    have HF := hid hfill; clear hfill
    by_cases hlt : k < t
    · obtain ⟨b, o, rfl, hck⟩ := HC.out _ hbel k hlt
      obtain ⟨n, hn, hfn, hnq⟩ := HFL.out k hlt
      have hlk := HLV.out k hlt
      obtain ⟨l, hle⟩ : ∃ l, l = xs.getD k 0 := ⟨_, rfl⟩
      rw [← hle] at hck hnq hlk
      have HCU := hid fun W => countUp_any n W (by omega)
      have HB := hid hbel
      have HFN := hid hfn
      clear hbel hle hfn
      go_wp2_with fail
      refine (HMU.out _).mono ?_
      rintro e w4 ⟨rfl, rfl⟩
      go_wp2_with fail
      rw [← hnq]
      refine (HCU.out _).mono ?_
      rintro e w4 ⟨A', c', rfl, ho, hb⟩
      have hput := HF.out.put (by rw [HRL.out]; exact hlt) hb ho
      rw [HRL.out, ← HFN.out, ← HRS.out, HFN.out, upTo_len] at hput
      obtain ⟨⟨uo, huo⟩, hfz, hf2, hbb⟩ := hput
      have HF2 := hid hf2
      have hb3 := hid (HB.out.trans hbb)
      clear hf2 hbb ho hb
      go_wp2_with fail
      go_roundw
      case rel => exact ⟨k + 1, by omega, by go_num, ⟨_, _, HF2.out⟩, hb3.out⟩
      case measure => simp [intOf]; omega
    · have hku : k = t := by omega
      subst hku
      have HO := hid (Own2.cells (HF.out.own2 (HRL.out k)))
      have HB := hid hbel; clear hbel
      go_wp2_with fail
      refine (HFR.out _ _ _ HO.out).mono ?_
      rintro e w2 ⟨A2, c2, rfl, o3, b2⟩
      have B2 := Below.next HB.out b2
      have y2 := Box2.new w2 42 (.int .i64 k) (.slice A2 K.length c2)
      have hb2 : Below w.heap.size w (w2.alloc (.cells #[.int .i64 k, .slice A2 K.length c2] 42)) := B2.alloc B2.size _
      have f3 := y2.cell1
      have O3 := hid (o3.cells.below (w' := w2.alloc (.cells #[.int .i64 k, .slice A2 K.length c2] 42)) ((Below.refl _ _).alloc (Nat.le_refl _) _))
      have hsz2 := hb2.size
      have HB2 := hid hb2
      clear o3 y2 hb2 b2 B2
      go_wp2_with fail
      refine (HPA.out _ _ _ O3.out).mono ?_
      rintro e w3 ⟨A3, c3, rfl, o4, b3⟩
      have HO4 := hid (o4.more hsz2)
      have HB4 := hid (Below.next HB2.out b3)
      clear o4 b3
      go_wp2_with fail
      go_ret2
      exact ⟨A3, c3, rfl, HO4.out, HB4.out⟩
end Go.Proofs.Ythkkiakfmbnfeaa
/-
  Contracts: LevelsOf of the program.
-/
namespace Go.Proofs.Ythkkiakfmbnfeaa
open Go.RowKit

def qN (t n : Nat) : Nat := (n + t - 1) / t
theorem lvL_eq {xs : List Int} {t : Nat} (ht : 2 ≤ t ∧ t ≤ 6) (G : Good xs) : lvL xs t = fnRow t fun i => cnt t (beadsL xs (mulN t xs.length)) i - (qN t xs.length : Nat) := by
  have hb := mulN_bd (t := t) (n := xs.length) ht
  have := G.len
  unfold lvL lvK
  refine rowF_ext _ _ _ fun j hj => ?_
  exact lv_main G hj rfl hb.1 (by omega)
def midI (f g : Nat → Int) (t k : Nat) : List Int := fnRow t fun j => if j < k then f j else g j
theorem midI_len (f g : Nat → Int) (t k : Nat) : (midI f g t k).length = t := fnRow_len _ _
theorem midI_zero (f g : Nat → Int) (t : Nat) : midI f g t 0 = fnRow t g := rowF_ext _ _ _ fun j _ => by simp
theorem midI_all (f g : Nat → Int) (t : Nat) : midI f g t t = fnRow t f := rowF_ext _ _ _ fun j hj => by rw [if_pos hj]
theorem midI_get (f g : Nat → Int) (t k : Nat) (h : k < t) : (midI f g t k).getD k 0 = g k := by unfold midI; rw [fnRow_get _ _ _ h]; simp
theorem midI_set (f g : Nat → Int) (t k : Nat) : (midI f g t k).set k (f k) = midI f g t (k + 1) := by
  unfold midI
  rw [fnRow_set]
  refine rowF_ext _ _ _ fun j _ => ?_
  by_cases e : j = k
  · subst e; simp
  · rw [if_neg e]
    by_cases h : j < k
    · rw [if_pos h, if_pos (by omega)]
    · rw [if_neg h, if_neg (by omega)]

set_option maxRecDepth 100000 in
set_option maxHeartbeats 2000000 in
theorem impl_LevelsOf (A : Option Addr) (c : Nat) (xs : List Int) (t : Int) (w : World) (hl : xs.length ≤ 1048576) (hc : Cells w A xs) (h64 : I64 t) :
    Calls Try.prog 11 #[.slice A xs.length c, .int .i64 t] w fun e w' => ∃ A' c', e = .returned (.tuple #[.slice A' (lvF xs t).length c', .bool (lvOk xs t)]) ∧ Own w' w.heap.size A' c' (lvF xs t) ∧ Below w.heap.size w w' := by
  have HE := hid fun W (h : Cells W A xs) => evenAbacus_any A c xs t W hl h h64
  cases hcr : crB xs t
  · have hg := lvOk_cr hcr
    rw [lvF_f hg, hg]
    rw [hcr] at HE
    clear hcr hg
    go_enter Try.func11, Try.ntmps11
    go_wp2_with fail
    refine (HE.out _ hc).mono ?_
    rintro e w1 ⟨A1, c1, rfl, o1, b1⟩
    go_wp2_with fail
    go_ret2
    exact ⟨none, 0, rfl, own_nil _ _, b1.alloc b1.size _⟩
  obtain ⟨hg, ht⟩ := crB_good hcr
  have hin := inB_iff.1 ht
  obtain ⟨t, rfl⟩ : ∃ m : Nat, t = m := ⟨t.toNat, by omega⟩
  have ht2 : 2 ≤ t ∧ t ≤ 6 := by omega
  have G := (good_iff xs).1 hg
  have hmb := mulN_bd (t := t) (n := xs.length) ht2
  have h30 := G.len
  have heq : evF xs t = beadsL xs (mulN t xs.length) := by simp [evF, hcr, evN]
  have hev : goodB (evF xs t) = true := by rw [heq]; exact beadsL_goodB G hmb.1 (by omega)
  have GB := goodB_iff.1 hev
  have hab : isAba t (evF xs t) = true := by simp [isAba, ht, hev]
  have hR : evR xs t = t := by simp [evR, hcr]
  rw [hR, hcr] at HE
  have hlv := lvL_eq ht2 G
  rw [← heq] at hlv
  have hnl : (evF xs t).length = qN t xs.length * t := by rw [heq, beadsL_len]; rfl
  obtain ⟨q, hq⟩ : ∃ q, q = qN t xs.length := ⟨_, rfl⟩
  rw [← hq] at hlv hnl
  have hok := lvOk_lev hcr
  have hF : lvF xs t = if levB (lvL xs t) then lvL xs t else [] := by
    cases h : levB (lvL xs t)
    · rw [h] at hok; rw [lvF_f hok]; simp
    · rw [h] at hok; rw [lvF_t hok]; simp
  rw [hok, hF, hlv]
  clear hok hF hlv hR heq hev hcr hg
  obtain ⟨L, hL⟩ : ∃ L, L = evF xs t := ⟨_, rfl⟩
  rw [← hL] at HE GB hab hnl
  rw [show evF xs t = L from hL.symm]
  have hL40 := GB.len
  have hCF : countsF t L = cntL t L := by simp [countsF, hab]
  have HCO := hid fun A1 c1 W (h : Cells W A1 L) => impl_CountsOf t A1 c1 L W (by omega) h
  rw [hab, hCF, show (cntL t L).length = t from fnRow_len _ _] at HCO
  have HCB := hid fun (i : Nat) (hi : i < t) => (cnt_bd t L i : 0 ≤ cnt t L i ∧ cnt t L i ≤ L.length)
  have hqb : q ≤ 40 := by
    have : q * 2 ≤ q * t := Nat.mul_le_mul_left _ ht2.1
    omega
  have htd : Int.tdiv (L.length : Int) (t : Int) = (q : Int) := by
    rw [hnl]
    show (((q * t) / t : Nat) : Int) = q
    rw [Nat.mul_div_cancel _ (by omega)]
  have hne : ¬ ((t : Int) = 0) := by omega
  have HIF := hid fun A1 c1 W B (h : Own W B A1 c1 (fnRow t fun i => cnt t L i - (q : Nat))) => ifLevels_own A1 c1 (fnRow t fun i => cnt t L i - (q : Nat)) W (by rw [fnRow_len]; omega) h
  rw [fnRow_len] at HIF
  have HMZ := hid (midI_zero (fun i => cnt t L i - (q : Nat)) (cnt t L) t)
  have HMA := hid (midI_all (fun i => cnt t L i - (q : Nat)) (cnt t L) t)
  have HMG := hid (midI_get (fun i => cnt t L i - (q : Nat)) (cnt t L) t)
  have HMS := hid (midI_set (fun i => cnt t L i - (q : Nat)) (cnt t L) t)
  have HML := hid (midI_len (fun i => cnt t L i - (q : Nat)) (cnt t L) t)
  obtain ⟨M, hM⟩ : ∃ M, M = midI (fun i => cnt t L i - (q : Nat)) (cnt t L) t := ⟨_, rfl⟩
  rw [← hM] at HMZ HMA HMG HMS HML
  obtain ⟨R, hRd⟩ : ∃ R, R = fnRow t fun i => cnt t L i - (q : Nat) := ⟨_, rfl⟩
  rw [← hRd] at HIF HMA ⊢
  obtain ⟨r, hr⟩ : ∃ r, r = if levB R then R else [] := ⟨_, rfl⟩
  obtain ⟨b, hbq⟩ : ∃ b, b = levB R := ⟨_, rfl⟩
  rw [← hr, ← hbq] at HIF
  rw [← hr, ← hbq]
  clear hr hbq
  clear hM hRd hL hab GB hin ht G hnl hq hCF hmb
  go_enter Try.func11, Try.ntmps11
  go_wp2_with fail
  refine (HE.out _ hc).mono ?_
  rintro e w1 ⟨A1, c1, rfl, o1, b1⟩
  have y1 := Box2.new w1 42 (.int .i64 t) (.slice A1 L.length c1)
  have hb1 : Below w.heap.size w (w1.alloc (.cells #[.int .i64 t, .slice A1 L.length c1] 42)) := b1.alloc b1.size _
  have f1 := y1.cell0
  have f2 := y1.cell1
  have hsz := hb1.size
  have o2 := o1.cells.below (w' := w1.alloc (.cells #[.int .i64 t, .slice A1 L.length c1] 42)) ((Below.refl _ _).alloc (Nat.le_refl _) _)
  have O2 := hid o2
  clear o1 o2
  go_wp2_with fail
  refine (HCO.out _ _ _ O2.out).mono ?_
  rintro e w2 ⟨A2, c2, rfl, o3, b2⟩
  obtain ⟨g, hg, hg1, _⟩ := o3.at_ (by rw [show (cntL t L).length = t from fnRow_len _ _]; omega)
  subst hg
  have Y2 := hid (y1.next b2)
  have HB2 := hid (Below.next hb1 b2)
  have hs2 := b2.size
  have hgl : w.heap.size ≤ g := by omega
  have O3 := hid (show Own w2 w.heap.size (some ⟨g, 0, none⟩) c2 (M 0) by rw [HMZ.out]; exact o3.more hsz)
  have hgne : w1.heap.size ≠ g := by simp at hg1; omega
  clear o3 f1 f2 y1
  go_wp2_with fail
  go_loopw [26] (fun i wr => ∃ k : Nat, k ≤ t ∧ i = .int .i64 k ∧ Hid (Own wr w.heap.size (some ⟨g, 0, none⟩) c2 (M k)) ∧ Hid (Box2 wr w1.heap.size 42 (.int .i64 t) (.slice A1 L.length c1)) ∧ Below w.heap.size w wr) (fun i _ => t - (intOf i).toNat)
  case atStart => exact ⟨0, Nat.zero_le _, rfl, O3, Y2, HB2.out⟩
  case round =>
    obtain ⟨k, hk, rfl, HO, HY, hbel⟩ := hrel
    clear O3 Y2 HB2
    by_cases hlt : k < t
    · have hub := HCB.out k hlt
      have hcur : wr.drew.cell? ⟨g, k, none⟩ = some (.int .i64 ((M k).getD k 0)) := own_get HO.out (k := k) (by rw [HML.out]; exact hlt)
      rw [HMG.out k hlt] at hcur
      have hfz : wr.drew.frozen? ⟨g, k, none⟩ = false := own_froz HO.out k
      have hfb : wr.drew.cell? ⟨w1.heap.size, 1, none⟩ = some (.slice A1 L.length c1) := HY.out.cell1
      have hst : Own (wr.drew.setCell ⟨g, k, none⟩ (.int .i64 (cnt t L k - q))) w.heap.size (some ⟨g, 0, none⟩) c2 (M (k + 1)) := own_len (own_set (show Own wr.drew w.heap.size (some ⟨g, 0, none⟩) c2 (M k) from HO.out) k (cnt t L k - q)) (HMS.out k)
      obtain ⟨u, hu⟩ : ∃ u, u = cnt t L k := ⟨_, rfl⟩
      rw [← hu] at hcur hub hst
      have HS := hid hst
      have HYS := hid ((show Box2 wr.drew _ _ _ _ from HY.out).other (g' := g) (k := k) hgne (.int .i64 (u - q)))
      have hb5 : Below w.heap.size w (wr.drew.setCell ⟨g, k, none⟩ (.int .i64 (u - q))) := (below_drewN hbel 1).setCell (by simp; omega) _
      clear hst hu
      go_wp2_with fail
      go_region
      go_wp2_with fail
      go_roundw
      case rel => exact ⟨k + 1, by omega, by go_num, HS, HYS, hb5⟩
      case measure => simp [intOf]; omega
    · have hkl : k = t := by omega
      subst hkl
      have HO2 := hid (own_len HO.out HMA.out)
      have hi := hid (HIF.out _ _ _ _ HO2.out)
      clear HO
      go_wp2_with (go_at_call 25; refine hi.out.mono ?_; rintro e w' ⟨⟨A', c', rfl, ho⟩, rfl⟩)
      go_ret2
      exact ⟨A', c', rfl, ho, hbel⟩
end Go.Proofs.Ythkkiakfmbnfeaa
