/-
  Contracts: CoreOfLevels of the program.
-/
import Derived.Test.YtnhjofcmaodamaaClMath
import Derived.Test.YtnhjofcmaodamaaLevF
import Derived.Test.YtnhjofcmaodamaaCB
import Derived.Test.YtnhjofcmaodamaaAll
namespace Go.Proofs.Ytnhjofcmaodamaa
open Go.RowKit

set_option maxRecDepth 100000 in
set_option maxHeartbeats 2000000 in
theorem impl_CoreOfLevels (A : Option Addr) (c : Nat) (xs : List Int) (w : World) (hl : xs.length ≤ 1048576) (hc : Cells w A xs) :
    Calls Try.prog 61 #[.slice A xs.length c] w fun e w' => ∃ A' c', e = .returned (.tuple #[.slice A' (clF xs).length c', .bool (clOk xs)]) ∧ Own w' w.heap.size A' c' (clF xs) ∧ Below w.heap.size w w' := by
  have HS := hid (SizeOfLevels_any A c xs w hl hc)
  cases hg : levB xs
  · have hk : clOk xs = false := by simp [clOk, hg]
    rw [cl_no hk, hk]
    rw [hg] at HS
    clear hg hk
    obtain ⟨z, hz⟩ : ∃ z, z = sizeF xs := ⟨_, rfl⟩
    rw [← hz] at HS
    clear hz
    go_enter Try.func61, Try.ntmps61
    go_wp2_with fail
    refine HS.out.mono ?_
    rintro e w1 ⟨rfl, rfl⟩
    go_wp2_with fail
    go_ret2
    exact ⟨none, 0, rfl, own_nil _ _, Below.refl _ _⟩
  have L := levB_iff.1 hg
  rw [hg, sizeF_t hg] at HS
  by_cases hs : 30 < sizeL xs
  · have hk : clOk xs = false := by simp [clOk, hg]; omega
    rw [cl_no hk, hk]
    obtain ⟨z, hz⟩ : ∃ z, z = sizeL xs := ⟨_, rfl⟩
    rw [← hz] at HS hs
    clear hz hg hk L
    go_enter Try.func61, Try.ntmps61
    go_wp2_with fail
    refine HS.out.mono ?_
    rintro e w1 ⟨rfl, rfl⟩
    go_wp2_with fail
    go_ret2
    exact ⟨none, 0, rfl, own_nil _ _, Below.refl _ _⟩
  have hs30 : sizeL xs ≤ 30 := by omega
  have hk : clOk xs = true := by simp [clOk, hg, hs30]
  obtain ⟨t, ht⟩ : ∃ t, t = xs.length := ⟨_, rfl⟩
  have h26 : 2 ≤ t ∧ t ≤ 6 := by rw [ht]; exact ⟨L.lo, L.hi⟩
  obtain ⟨q1, q2, q3, q4⟩ := qR_bd h26
  have hok := clR_ok L hs30 q1 (by rw [← ht]; exact q3)
  have htot := clR_tot L hs30 q1 (by rw [← ht]; exact q3)
  have hgd := goodB_iff.1 (kL_good L hs30 q1 (by rw [← ht]; exact q3))
  have hpe : clF xs = partsL (kL (qR t) xs) := by rw [cl_yes hk, cl_at L hs30 (by omega), cl_at L hs30 q1]
  rw [hpe, hk]
  have hFR := fun A1 c1 W (h : Cells2 W A1 (clR (qR t) xs xs.length)) => impl_FromRunners A1 c1 _ W (by rw [clR_len]; exact ⟨hl, htot⟩) h
  rw [(fr_yes hok).1, (fr_yes hok).2, hok, clR_frL, clR_len, ← ht] at hFR
  have HFR := hid hFR; clear hFR
  have hD40 := hgd.len
  have HPA := hid fun A1 c1 W (h : Cells W A1 (kL (qR t) xs)) => partsOf_any A1 c1 _ W (by omega) hgd.rise.bd h
  have hfl : ∀ i, i < t → ∃ n : Nat, n ≤ 36 ∧ fillR (qR t) xs i = upTo n ∧ (n : Int) = (qR t : Int) + xs.getD i 0 := fun i hi => by
    have := lev_small L hs30 i (by rw [← ht]; exact hi)
    exact ⟨((qR t : Int) + xs.getD i 0).toNat, by omega, rfl, by omega⟩
  have HFL := hid hfl
  have HRL := hid fun k => clR_len (qR t) xs k
  have HRS := hid fun k => clR_succ (qR t) xs k
  have HMU := hid fun W => multipleFrom_any t 30 h26 (by omega) W
  have htd : Int.tdiv (mulN t 30 : Int) (t : Int) = (qR t : Int) := by
    rw [q4]
    show (((qR t * t) / t : Nat) : Int) = qR t
    rw [Nat.mul_div_cancel _ (by omega)]
  rw [show ((30 : Nat) : Int) = 30 from rfl] at HMU
  obtain ⟨m, hm⟩ : ∃ m, m = mulN t 30 := ⟨_, rfl⟩
  have hmb : m ≤ 40 := by rw [hm, q4, Nat.mul_comm]; exact q3
  rw [← hm] at HMU htd
  obtain ⟨K, hK⟩ : ∃ K, K = kL (qR t) xs := ⟨_, rfl⟩
  rw [← hK] at HFR HPA ⊢
  obtain ⟨R, hR⟩ : ∃ R, R = clR (qR t) xs := ⟨_, rfl⟩
  rw [← hR] at HFR HRL HRS
  have HR0 := hid (show R 0 = [] by rw [hR]; rfl)
  obtain ⟨f, hf⟩ : ∃ f, f = fillR (qR t) xs := ⟨_, rfl⟩
  rw [← hf] at HFL HRS
  obtain ⟨q, hq⟩ : ∃ q, q = qR t := ⟨_, rfl⟩
  rw [← hq] at HFL htd q2
  obtain ⟨z, hz⟩ : ∃ z, z = sizeL xs := ⟨_, rfl⟩
  rw [← hz] at HS hs
  have hlvb : ∀ j, j < t → -10 ≤ xs.getD j 0 ∧ xs.getD j 0 ≤ 10 := fun j hj => L.bd j (by rw [← ht]; exact hj)
  have HLV := hid hlvb
  have hne : ¬ ((t : Int) = 0) := by omega
  have hmkO := run_make_row' (P := Try.prog) 35 22 (.slice none 0 0) 24 Try.underlying35 Try.infoInts rfl .i64 .i64 t (by omega) (by omega)
  clear hz hm hK hR hf hfl hq q1 q3 q4 hok htot hgd hpe hk hs30 hg L hD40 hlvb
  rw [← ht] at HS ⊢
  have hc' : ∀ W, Below w.heap.size w W → ∀ k, k < t → ∃ b o, A = some ⟨b, o, none⟩ ∧ W.cell? ⟨b, o + k, none⟩ = some (.int .i64 (xs.getD k 0)) := fun W h k hk => by
    obtain ⟨b, o, e, hcc⟩ := (hc.later h) (by omega)
    exact ⟨b, o, e, hcc k (by omega)⟩
  have HC := hid hc'
  clear hc hc' hl ht
  go_enter Try.func61, Try.ntmps61
  go_wp2_with fail
  refine HS.out.mono ?_
  rintro e w1 ⟨rfl, rfl⟩
  go_wp2_with fail
  clear hmkO
  go_loopw [28] (fun i wr => ∃ k : Nat, k ≤ t ∧ i = .int .i64 k ∧ (∃ P C, Fill wr w.heap.size w.heap.size t (R k) P C) ∧ Below w.heap.size w wr) (fun i _ => t - (intOf i).toNat)
  case atStart => exact ⟨0, Nat.zero_le _, rfl, ⟨_, _, by rw [HR0.out]; exact fill_start w t (by unfold maxLen; omega)⟩, (Below.refl _ _).alloc (Nat.le_refl _) _⟩
  case round =>
    obtain ⟨k, hk, rfl, ⟨P, C, hfill⟩, hbel⟩ := hrel
    obtain ⟨wo, rfl⟩ : ∃ wo : World, wo = wr := ⟨_, rfl⟩
    have HF := hid hfill; clear hfill
    by_cases hlt : k < t
    · obtain ⟨b, o, rfl, hck⟩ := HC.out _ hbel k hlt
      obtain ⟨n, hn, hfn, hnq⟩ := HFL.out k hlt
      have hlk := HLV.out k hlt
      obtain ⟨l, hle⟩ : ∃ l, l = xs.getD k 0 := ⟨_, rfl⟩
      rw [← hle] at hck hnq hlk
      have HCU := hid fun W => countUp_any n W (by omega)
      have HB := hid hbel
      have HFN := hid hfn
      clear hbel hle hfn
      go_wp2_with fail
      refine (HMU.out _).mono ?_
      rintro e w4 ⟨rfl, rfl⟩
      go_wp2_with fail
      rw [← hnq]
      refine (HCU.out _).mono ?_
      rintro e w4 ⟨A', c', rfl, ho, hb⟩
      have hput := HF.out.put (by rw [HRL.out]; exact hlt) hb ho
      rw [HRL.out, ← HFN.out, ← HRS.out, HFN.out, upTo_len] at hput
      obtain ⟨⟨uo, huo⟩, hfz, hf2, hbb⟩ := hput
      have HF2 := hid hf2
      have hb3 := hid (HB.out.trans hbb)
      clear hf2 hbb ho hb
      go_wp2_with fail
      go_roundw
      case rel => exact ⟨k + 1, by omega, by go_num, ⟨_, _, HF2.out⟩, hb3.out⟩
      case measure => simp [intOf]; omega
    · have hku : k = t := by omega
      subst hku
      have HO := hid (Own2.cells (HF.out.own2 (HRL.out k)))
      have HB := hid hbel; clear hbel
      go_wp2_with fail
      refine (HFR.out _ _ _ HO.out).mono ?_
      rintro e w2 ⟨A2, c2, rfl, o3, b2⟩
      have B2 := Below.next HB.out b2
      have y2 := Box2.new w2 26 (.int .i64 k) (.slice A2 K.length c2)
      have hb2 : Below w.heap.size w (w2.alloc (.cells #[.int .i64 k, .slice A2 K.length c2] 26)) := B2.alloc B2.size _
      have f3 := y2.cell1
      have O3 := hid (o3.cells.below (w' := w2.alloc (.cells #[.int .i64 k, .slice A2 K.length c2] 26)) ((Below.refl _ _).alloc (Nat.le_refl _) _))
      have hsz2 := hb2.size
      have HB2 := hid hb2
      clear o3 y2 hb2 b2 B2
      go_wp2_with fail
      refine (HPA.out _ _ _ O3.out).mono ?_
      rintro e w3 ⟨A3, c3, rfl, o4, b3⟩
      have HO4 := hid (o4.more hsz2)
      have HB4 := hid (Below.next HB2.out b3)
      clear o4 b3
      go_wp2_with fail
      go_ret2
      exact ⟨A3, c3, rfl, HO4.out, HB4.out⟩
end Go.Proofs.Ytnhjofcmaodamaa
