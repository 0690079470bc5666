/-
  Several texts in one.
-/
import Derived.Test.YtiebnnchaopbkaaR30
import Derived.Test.YtiebnnchaopbkaaR31
import Derived.Test.YtiebnnchaopbkaaR10
import Derived.Test.YtiebnnchaopbkaaR08
import Derived.Test.YtiebnnchaopbkaaCB
/-
  Contracts: CoresBySeries of the model.
-/
namespace Go.Proofs.Ytiebnnchaopbkaa
open Go.RowKit

set_option maxRecDepth 100000 in
set_option maxHeartbeats 4000000 in
theorem spec_CoresBySeries (t0 n0 : Int) (w : World) (_ : I64 t0) (_ : I64 n0) :
    Calls Try.prog 11 #[.int .i64 t0, .int .i64 n0] w fun e w' => ∃ A' c', e = .returned (.tuple #[.slice A' (serF t0 n0).length c', .bool (askB t0 n0)]) ∧ Own w' w.heap.size A' c' (serF t0 n0) ∧ Below w.heap.size w w' := by
  cases hb : askB t0 n0
  · rw [serF_f hb]
    have HB := hid hb; clear hb
    go_enter Try.func11, Try.ntmps11
    go_wp2_with (go_at_call 22; refine (chAskedS_b _ _ _ _ HB.out).mono ?_; rintro e w' ⟨rfl, rfl⟩)
    go_ret2
    exact ⟨none, 0, rfl, own_nil _ _, Below.refl _ _⟩
  obtain ⟨t, n, rfl, rfl, ht1, ht2, hn30⟩ := askB_iff hb
  rw [serF_t hb, ser_same ⟨ht1, ht2⟩ hn30, serS_len]
  have HB := hid hb; clear hb
  have hmk := run_make_row' (P := Try.prog) 28 3 (.int .i64 0) 8 Try.underlying28 Try.infoInt rfl .i64 .i64 (n + 1) (by omega) (by omega)
  obtain ⟨w2, hw2⟩ : ∃ w2, w2 = w.alloc (.cells ((madeCells #[.int .i64 0] (n + 1)).setIfInBounds 0 (.int .i64 1)) 3) := ⟨_, rfl⟩
  have o2 : Own w2 w.heap.size (some ⟨w.heap.size, 0, none⟩) (n + 1) (serS t n 0) := by rw [hw2]; exact own_made1 w (n + 1) (by omega)
  have b3 : Below w.heap.size w w2 := by rw [hw2]; exact (Below.refl _ _).alloc (Nat.le_refl _) _
  have hc0 := own_get (own_made w (n + 1) (by omega)) (k := 0) (by rw [fnRow_len]; omega)
  have hf0 := own_froz (own_made w (n + 1) (by omega)) 0
  rw [fnRow_get _ _ _ (by omega)] at hc0
  have hnn : ((n + 1 : Nat) : Int) = (n : Int) + 1 := by omega
  have HW := hid hw2
  rw [hnn] at hmk
  have hlt0 : (0 : Int) < (n : Int) + 1 := by omega
  clear hw2
  go_enter Try.func11, Try.ntmps11
  go_wp2_with (go_at_call 22; refine (chAskedS_b _ _ _ _ HB.out).mono ?_; rintro e w' ⟨rfl, rfl⟩)
  rw [← HW.out]
  have HN := hid hnn
  clear hmk HW hnn hlt0 hc0 hf0
  go_loopw [7] (fun i wr => ∃ K : Nat, K ≤ n ∧ i = .int .i64 ((K : Int) + 1) ∧ (∃ S, S = serS t n K ∧ S.length = n + 1 ∧ wr.ownsRow w.heap.size 3 1 (.slice (some ⟨w.heap.size, 0, none⟩) (n + 1) (n + 1)) (n + 1) (IL S)) ∧ Below w.heap.size w wr) (fun i _ => n + 1 - (intOf i).toNat)
  case atStart =>
    refine ⟨0, Nat.zero_le _, rfl, ⟨_, rfl, serS_len t n 0, ?_⟩, b3⟩
    have h := o2
    unfold Own at h
    rw [serS_len] at h
    exact h
  case round =>
    obtain ⟨K, hK, rfl, ⟨S, hS, hSl, hown⟩, hbel⟩ := hrel
    have HS := hid hS; clear hS o2 b3
    obtain ⟨wo, rfl⟩ : ∃ wo : World, wo = wr := ⟨_, rfl⟩
    by_cases hlt : K < n
    · go_wp2_with fail
      go_loopw [8] (fun i wr => ∃ c : Nat, c ≤ n - K ∧ i = .int .i64 ((K : Int) + 1 + c) ∧ (∃ R, R = addP S (K + 1) c ∧ R.length = n + 1 ∧ wr.ownsRow w.heap.size 3 1 (.slice (some ⟨w.heap.size, 0, none⟩) (n + 1) (n + 1)) (n + 1) (IL R)) ∧ Below w.heap.size w wr) (fun i _ => n + 1 - (intOf i).toNat)
      case atStart => exact ⟨0, Nat.zero_le _, by simp, ⟨_, rfl, hSl, hown⟩, hbel⟩
      case round =>
        obtain ⟨c, hcn, rfl, ⟨R, hR, hRl, hown⟩, hbel⟩ := hrel
        by_cases hcl : c < n - K
        · have ho : Own wr w.heap.size (some ⟨w.heap.size, 0, none⟩) (n + 1) R := by unfold Own; rw [hRl]; exact hown
          have hc1 := own_get ho (k := K + 1 + c) (by omega)
          have hc2 := own_get ho (k := c) (by omega)
          have hfz := own_froz ho (K + 1 + c)
          have hst := own_set ho (K + 1 + c) (IntKind.i64.wrap (R.getD (K + 1 + c) 0 + R.getD c 0))
          rw [IntWalk.i64_left] at hst
          have HAS := hid (addP_succ S (K + 1) c)
          rw [← hR, IntWalk.i64_left] at HAS
          have HR := hid hR
          have hk1 : IntKind.i64.wrap ((K : Int) + 1 + (c : Int) - ((K : Int) + 1)) = (c : Int) := by rw [IntWalk.i64_in _ (by omega)]; omega
          have hk2 : ((K : Int) + 1 + (c : Int)).toNat = K + 1 + c := by omega
          have hk3 : (K : Int) + 1 + (c : Int) < (n : Int) + 1 := by omega
          have hk4 : (0 : Int) ≤ (K : Int) + 1 + (c : Int) := by omega
          obtain ⟨x, hx⟩ : ∃ x, x = R.getD (K + 1 + c) 0 := ⟨_, rfl⟩
          obtain ⟨y, hy⟩ : ∃ y, y = R.getD c 0 := ⟨_, rfl⟩
          rw [← hx] at hc1 hst HAS
          rw [← hy] at hc2 hst HAS
          have HST := hid hst
          have HRL := hid hRl
          have HSL := hid hSl
          clear hR hRl hSl hown ho hx hy hst
          go_wp2_with fail
          go_region
          go_wp2_with fail
          go_roundw
          case rel => exact ⟨c + 1, by omega, by go_num, ⟨_, rfl, by rw [addP_len]; exact HSL.out, own_at_len (own_drew (own_len HST.out HAS.out.symm)) (by rw [addP_len]; exact HSL.out)⟩, below_drew (hbel.setCell (Nat.le_refl _) _)⟩
          case measure => simp [intOf]; omega
        · have hce : c = n - K := by omega
          subst hce
          obtain ⟨d, hd⟩ : ∃ d, d = t * (K + 1) := ⟨_, rfl⟩
          have hd1 : 1 ≤ d := by rw [hd]; exact Nat.mul_pos (by omega) (by omega)
          have hd2 : d ≤ 6 * (K + 1) := by rw [hd]; exact Nat.mul_le_mul_right _ ht2
          have hdi : (t : Int) * ((K : Int) + 1) = (d : Int) := by rw [hd, Int.natCast_mul]; rfl
          have HD := hid hd
          have HR := hid hR
          obtain ⟨wo, rfl⟩ : ∃ wo : World, wo = wr := ⟨_, rfl⟩
          clear hd hR
          go_wp2_with fail
          go_loopw [9] (fun i wr => ∃ j : Nat, j ≤ t ∧ i = .int .i64 j ∧ (∃ Q, Q = subT R d n j ∧ Q.length = n + 1 ∧ wr.ownsRow w.heap.size 3 1 (.slice (some ⟨w.heap.size, 0, none⟩) (n + 1) (n + 1)) (n + 1) (IL Q)) ∧ Below w.heap.size w wr) (fun i _ => t - (intOf i).toNat)
          case atStart => exact ⟨0, Nat.zero_le _, rfl, ⟨_, rfl, hRl, hown⟩, hbel⟩
          case round =>
            obtain ⟨j, hj, rfl, ⟨Q, hQ, hQl, hown⟩, hbel⟩ := hrel
            have HQ := hid hQ
            clear hQ
            by_cases hjl : j < t
            · obtain ⟨wo, rfl⟩ : ∃ wo : World, wo = wr := ⟨_, rfl⟩
              go_wp2_with fail
              go_loopw [10] (fun i wr => ∃ c : Nat, c ≤ n + 1 - d ∧ i = .int .i64 ((n : Int) - c) ∧ (∃ Z, Z = subP Q d n c ∧ Z.length = n + 1 ∧ wr.ownsRow w.heap.size 3 1 (.slice (some ⟨w.heap.size, 0, none⟩) (n + 1) (n + 1)) (n + 1) (IL Z)) ∧ Below w.heap.size w wr) (fun i _ => (intOf i).toNat)
              case atStart => exact ⟨0, Nat.zero_le _, by simp, ⟨_, rfl, hQl, hown⟩, hbel⟩
              case round =>
                obtain ⟨c, hc, rfl, ⟨Z, hZ, hZl, hown⟩, hbel⟩ := hrel
                by_cases hcl : c < n + 1 - d
                · have ho := own_of_len hown hZl
                  have hc1 := own_get ho (k := n - c) (by omega)
                  have hc2 := own_get ho (k := n - c - d) (by omega)
                  have hfz := own_froz ho (n - c)
                  have hst := own_set ho (n - c) (IntKind.i64.wrap (Z.getD (n - c) 0 - Z.getD (n - c - d) 0))
                  rw [IntWalk.i64_left] at hst
                  have HAS := hid (subP_succ Q d n c)
                  rw [← hZ, IntWalk.i64_left] at HAS
                  obtain ⟨p, hp⟩ : ∃ p, p = n - c := ⟨_, rfl⟩
                  obtain ⟨q, hq⟩ : ∃ q, q = n - c - d := ⟨_, rfl⟩
                  have hpi : (n : Int) - (c : Int) = p := by omega
                  rw [← hq, ← hp] at hst HAS
                  rw [← hp] at hc1 hfz
                  rw [← hq] at hc2
                  have hwd : IntKind.i64.wrap ((t : Int) * ((K : Int) + 1)) = (d : Int) := by rw [hdi]; exact IntWalk.i64_in _ (by omega)
                  have hwq : IntKind.i64.wrap ((p : Int) - (d : Int)) = (q : Int) := by rw [IntWalk.i64_in _ (by omega)]; omega
                  have hpn : (p : Int) < (n : Int) + 1 := by omega
                  have hqn : (q : Int) < (n : Int) + 1 := by omega
                  have hpd : (d : Int) ≤ (p : Int) := by omega
                  have hdp : d ≤ p := by omega
                  obtain ⟨x, hx⟩ : ∃ x, x = Z.getD p 0 := ⟨_, rfl⟩
                  obtain ⟨y, hy⟩ : ∃ y, y = Z.getD q 0 := ⟨_, rfl⟩
                  rw [← hx] at hc1 hst HAS
                  rw [← hy] at hc2 hst HAS
                  have HST := hid hst
                  have HZL := hid hZl
                  have HQL := hid hQl
                  have HPP := hid (show p = n - c from hp)
                  rw [hpi]
                  clear hZ hZl hQl hown ho hx hy hst hp hq hpi
                  go_wp2_with fail
                  go_region
                  go_wp2_with fail
                  go_roundw
                  case rel => exact ⟨c + 1, by omega, by have := HPP.out; congr 1; omega, ⟨_, rfl, by rw [subP_len]; exact HQL.out, own_at_len (own_drew (own_len HST.out HAS.out.symm)) (by rw [subP_len]; exact HQL.out)⟩, below_drew (hbel.setCell (Nat.le_refl _) _)⟩
                  case measure => simp [intOf]; omega
                · have hce : c = n + 1 - d := by omega
                  subst hce
                  have hnd : ¬ ((d : Int) ≤ (n : Int) - ((n + 1 - d : Nat) : Int)) := by omega
                  have HQT := hid (show subT R d n (j + 1) = subP (subT R d n j) d n (n + 1 - d) from rfl)
                  rw [← HQ.out, ← hZ] at HQT
                  have HZL := hid hZl
                  have HO := hid hown
                  obtain ⟨m, hm⟩ : ∃ m, m = ((n + 1 - d : Nat) : Int) := ⟨_, rfl⟩
                  rw [← hm] at hnd ⊢
                  have hmb : 0 ≤ m ∧ m ≤ 31 := by omega
                  clear hm hZ hZl hown hQl
                  go_wp2_with fail
                  go_roundw
                  case rel => exact ⟨j + 1, by omega, by go_num, ⟨_, rfl, by rw [HQT.out]; exact HZL.out, by rw [HQT.out]; exact HO.out⟩, hbel⟩
                  case measure => simp [intOf]; omega
            · have hje : j = t := by omega
              subst hje
              have HF := hid (show serS j n (K + 1) = subT (addP (serS j n K) (K + 1) (n - K)) (j * (K + 1)) n j from rfl)
              rw [← HS.out, ← HR.out, ← HD.out, ← HQ.out] at HF
              have HO := hid hown
              have HQL := hid hQl
              clear hown hQl hRl hSl hdi
              go_wp2_with fail
              go_roundw
              case rel => exact ⟨K + 1, by omega, by go_num, ⟨_, rfl, by rw [HF.out]; exact HQL.out, by rw [HF.out]; exact HO.out⟩, hbel⟩
              case measure => simp [intOf]; omega
    · have hke : K = n := by omega
      subst hke
      have ho := own_len (own_of_len hown hSl) HS.out
      have HO := hid ho
      clear hown ho hSl
      go_wp2_with fail
      go_ret2
      exact ⟨_, _, rfl, HO.out, hbel⟩
end Go.Proofs.Ytiebnnchaopbkaa
/-
  Contracts: LevelsOf of the program.
-/
namespace Go.Proofs.Ytiebnnchaopbkaa
open Go.RowKit

def qN (t n : Nat) : Nat := (n + t - 1) / t
theorem lvL_eq {xs : List Int} {t : Nat} (ht : 2 ≤ t ∧ t ≤ 6) (G : Good xs) : lvL xs t = fnRow t fun i => cnt t (beadsL xs (mulN t xs.length)) i - (qN t xs.length : Nat) := by
  have hb := mulN_bd (t := t) (n := xs.length) ht
  have := G.len
  unfold lvL lvK
  refine rowF_ext _ _ _ fun j hj => ?_
  exact lv_main G hj rfl hb.1 (by omega)
def midI (f g : Nat → Int) (t k : Nat) : List Int := fnRow t fun j => if j < k then f j else g j
theorem midI_len (f g : Nat → Int) (t k : Nat) : (midI f g t k).length = t := fnRow_len _ _
theorem midI_zero (f g : Nat → Int) (t : Nat) : midI f g t 0 = fnRow t g := rowF_ext _ _ _ fun j _ => by simp
theorem midI_all (f g : Nat → Int) (t : Nat) : midI f g t t = fnRow t f := rowF_ext _ _ _ fun j hj => by rw [if_pos hj]
theorem midI_get (f g : Nat → Int) (t k : Nat) (h : k < t) : (midI f g t k).getD k 0 = g k := by unfold midI; rw [fnRow_get _ _ _ h]; simp
theorem midI_set (f g : Nat → Int) (t k : Nat) : (midI f g t k).set k (f k) = midI f g t (k + 1) := by
  unfold midI
  rw [fnRow_set]
  refine rowF_ext _ _ _ fun j _ => ?_
  by_cases e : j = k
  · subst e; simp
  · rw [if_neg e]
    by_cases h : j < k
    · rw [if_pos h, if_pos (by omega)]
    · rw [if_neg h, if_neg (by omega)]

set_option maxRecDepth 100000 in
set_option maxHeartbeats 2000000 in
theorem impl_LevelsOf (A : Option Addr) (c : Nat) (xs : List Int) (t : Int) (w : World) (hl : xs.length ≤ 1048576) (hc : Cells w A xs) (h64 : I64 t) :
    Calls Try.prog 13 #[.slice A xs.length c, .int .i64 t] w fun e w' => ∃ A' c', e = .returned (.tuple #[.slice A' (lvF xs t).length c', .bool (lvOk xs t)]) ∧ Own w' w.heap.size A' c' (lvF xs t) ∧ Below w.heap.size w w' := by
  have HE := hid fun W (h : Cells W A xs) => evenAbacus_any A c xs t W hl h h64
  cases hcr : crB xs t
  · have hg := lvOk_cr hcr
    rw [lvF_f hg, hg]
    rw [hcr] at HE
    clear hcr hg
    go_enter Try.func13, Try.ntmps13
    go_wp2_with fail
    refine (HE.out _ hc).mono ?_
    rintro e w1 ⟨A1, c1, rfl, o1, b1⟩
    go_wp2_with fail
    go_ret2
    exact ⟨none, 0, rfl, own_nil _ _, b1.alloc b1.size _⟩
  obtain ⟨hg, ht⟩ := crB_good hcr
  have hin := inB_iff.1 ht
  obtain ⟨t, rfl⟩ : ∃ m : Nat, t = m := ⟨t.toNat, by omega⟩
  have ht2 : 2 ≤ t ∧ t ≤ 6 := by omega
  have G := (good_iff xs).1 hg
  have hmb := mulN_bd (t := t) (n := xs.length) ht2
  have h30 := G.len
  have heq : evF xs t = beadsL xs (mulN t xs.length) := by simp [evF, hcr, evN]
  have hev : goodB (evF xs t) = true := by rw [heq]; exact beadsL_goodB G hmb.1 (by omega)
  have GB := goodB_iff.1 hev
  have hab : isAba t (evF xs t) = true := by simp [isAba, ht, hev]
  have hR : evR xs t = t := by simp [evR, hcr]
  rw [hR, hcr] at HE
  have hlv := lvL_eq ht2 G
  rw [← heq] at hlv
  have hnl : (evF xs t).length = qN t xs.length * t := by rw [heq, beadsL_len]; rfl
  obtain ⟨q, hq⟩ : ∃ q, q = qN t xs.length := ⟨_, rfl⟩
  rw [← hq] at hlv hnl
  have hok := lvOk_lev hcr
  have hF : lvF xs t = if levB (lvL xs t) then lvL xs t else [] := by
    cases h : levB (lvL xs t)
    · rw [h] at hok; rw [lvF_f hok]; simp
    · rw [h] at hok; rw [lvF_t hok]; simp
  rw [hok, hF, hlv]
  clear hok hF hlv hR heq hev hcr hg
  obtain ⟨L, hL⟩ : ∃ L, L = evF xs t := ⟨_, rfl⟩
  rw [← hL] at HE GB hab hnl
  rw [show evF xs t = L from hL.symm]
  have hL40 := GB.len
  have hCF : countsF t L = cntL t L := by simp [countsF, hab]
  have HCO := hid fun A1 c1 W (h : Cells W A1 L) => impl_CountsOf t A1 c1 L W (by omega) h
  rw [hab, hCF, show (cntL t L).length = t from fnRow_len _ _] at HCO
  have HCB := hid fun (i : Nat) (hi : i < t) => (cnt_bd t L i : 0 ≤ cnt t L i ∧ cnt t L i ≤ L.length)
  have hqb : q ≤ 40 := by
    have : q * 2 ≤ q * t := Nat.mul_le_mul_left _ ht2.1
    omega
  have htd : Int.tdiv (L.length : Int) (t : Int) = (q : Int) := by
    rw [hnl]
    show (((q * t) / t : Nat) : Int) = q
    rw [Nat.mul_div_cancel _ (by omega)]
  have hne : ¬ ((t : Int) = 0) := by omega
  have HIF := hid fun A1 c1 W B (h : Own W B A1 c1 (fnRow t fun i => cnt t L i - (q : Nat))) => ifLevels_own A1 c1 (fnRow t fun i => cnt t L i - (q : Nat)) W (by rw [fnRow_len]; omega) h
  rw [fnRow_len] at HIF
  have HMZ := hid (midI_zero (fun i => cnt t L i - (q : Nat)) (cnt t L) t)
  have HMA := hid (midI_all (fun i => cnt t L i - (q : Nat)) (cnt t L) t)
  have HMG := hid (midI_get (fun i => cnt t L i - (q : Nat)) (cnt t L) t)
  have HMS := hid (midI_set (fun i => cnt t L i - (q : Nat)) (cnt t L) t)
  have HML := hid (midI_len (fun i => cnt t L i - (q : Nat)) (cnt t L) t)
  obtain ⟨M, hM⟩ : ∃ M, M = midI (fun i => cnt t L i - (q : Nat)) (cnt t L) t := ⟨_, rfl⟩
  rw [← hM] at HMZ HMA HMG HMS HML
  obtain ⟨R, hRd⟩ : ∃ R, R = fnRow t fun i => cnt t L i - (q : Nat) := ⟨_, rfl⟩
  rw [← hRd] at HIF HMA ⊢
  obtain ⟨r, hr⟩ : ∃ r, r = if levB R then R else [] := ⟨_, rfl⟩
  obtain ⟨b, hbq⟩ : ∃ b, b = levB R := ⟨_, rfl⟩
  rw [← hr, ← hbq] at HIF
  rw [← hr, ← hbq]
  clear hr hbq
  clear hM hRd hL hab GB hin ht G hnl hq hCF hmb
  go_enter Try.func13, Try.ntmps13
  go_wp2_with fail
  refine (HE.out _ hc).mono ?_
  rintro e w1 ⟨A1, c1, rfl, o1, b1⟩
  have y1 := Box2.new w1 49 (.int .i64 t) (.slice A1 L.length c1)
  have hb1 : Below w.heap.size w (w1.alloc (.cells #[.int .i64 t, .slice A1 L.length c1] 49)) := b1.alloc b1.size _
  have f1 := y1.cell0
  have f2 := y1.cell1
  have hsz := hb1.size
  have o2 := o1.cells.below (w' := w1.alloc (.cells #[.int .i64 t, .slice A1 L.length c1] 49)) ((Below.refl _ _).alloc (Nat.le_refl _) _)
  have O2 := hid o2
  clear o1 o2
  go_wp2_with fail
  refine (HCO.out _ _ _ O2.out).mono ?_
  rintro e w2 ⟨A2, c2, rfl, o3, b2⟩
  obtain ⟨g, hg, hg1, _⟩ := o3.at_ (by rw [show (cntL t L).length = t from fnRow_len _ _]; omega)
  subst hg
  have Y2 := hid (y1.next b2)
  have HB2 := hid (Below.next hb1 b2)
  have hs2 := b2.size
  have hgl : w.heap.size ≤ g := by omega
  have O3 := hid (show Own w2 w.heap.size (some ⟨g, 0, none⟩) c2 (M 0) by rw [HMZ.out]; exact o3.more hsz)
  have hgne : w1.heap.size ≠ g := by simp at hg1; omega
  clear o3 f1 f2 y1
  go_wp2_with fail
  go_loopw [26] (fun i wr => ∃ k : Nat, k ≤ t ∧ i = .int .i64 k ∧ Hid (Own wr w.heap.size (some ⟨g, 0, none⟩) c2 (M k)) ∧ Hid (Box2 wr w1.heap.size 49 (.int .i64 t) (.slice A1 L.length c1)) ∧ Below w.heap.size w wr) (fun i _ => t - (intOf i).toNat)
  case atStart => exact ⟨0, Nat.zero_le _, rfl, O3, Y2, HB2.out⟩
  case round =>
    obtain ⟨k, hk, rfl, HO, HY, hbel⟩ := hrel
    clear O3 Y2 HB2
    by_cases hlt : k < t
    · have hub := HCB.out k hlt
      have hcur : wr.drew.cell? ⟨g, k, none⟩ = some (.int .i64 ((M k).getD k 0)) := own_get HO.out (k := k) (by rw [HML.out]; exact hlt)
      rw [HMG.out k hlt] at hcur
      have hfz : wr.drew.frozen? ⟨g, k, none⟩ = false := own_froz HO.out k
      have hfb : wr.drew.cell? ⟨w1.heap.size, 1, none⟩ = some (.slice A1 L.length c1) := HY.out.cell1
      have hst : Own (wr.drew.setCell ⟨g, k, none⟩ (.int .i64 (cnt t L k - q))) w.heap.size (some ⟨g, 0, none⟩) c2 (M (k + 1)) := own_len (own_set (show Own wr.drew w.heap.size (some ⟨g, 0, none⟩) c2 (M k) from HO.out) k (cnt t L k - q)) (HMS.out k)
      obtain ⟨u, hu⟩ : ∃ u, u = cnt t L k := ⟨_, rfl⟩
      rw [← hu] at hcur hub hst
      have HS := hid hst
      have HYS := hid ((show Box2 wr.drew _ _ _ _ from HY.out).other (g' := g) (k := k) hgne (.int .i64 (u - q)))
      have hb5 : Below w.heap.size w (wr.drew.setCell ⟨g, k, none⟩ (.int .i64 (u - q))) := (below_drewN hbel 1).setCell (by simp; omega) _
      clear hst hu
      go_wp2_with fail
      go_region
      go_wp2_with fail
      go_roundw
      case rel => exact ⟨k + 1, by omega, by go_num, HS, HYS, hb5⟩
      case measure => simp [intOf]; omega
    · have hkl : k = t := by omega
      subst hkl
      have HO2 := hid (own_len HO.out HMA.out)
      have hi := hid (HIF.out _ _ _ _ HO2.out)
      clear HO
      go_wp2_with (go_at_call 32; refine hi.out.mono ?_; rintro e w' ⟨⟨A', c', rfl, ho⟩, rfl⟩)
      go_ret2
      exact ⟨A', c', rfl, ho, hbel⟩
end Go.Proofs.Ytiebnnchaopbkaa
/-
  Contracts: two rows of ints compared, by the program (Equal) and by the model (made by gensame.py).
-/
namespace Go.Proofs.Ytiebnnchaopbkaa
open Go.RowKit

theorem rows_ext {xs ys : List Int} (hl : xs.length = ys.length) (h : ∀ j, j < xs.length → xs.getD j 0 = ys.getD j 0) : xs = ys := by
  apply List.ext_getElem hl
  intro j h1 h2
  have := h j h1
  rw [List.getD_eq_getElem?_getD, List.getD_eq_getElem?_getD, List.getElem?_eq_getElem h1, List.getElem?_eq_getElem h2] at this
  exact this

end Go.Proofs.Ytiebnnchaopbkaa
