/-
  Several texts in one.
-/
import Derived.Test.YtndcegnlgdanmaaR12
import Derived.Test.YtndcegnlgdanmaaR30
import Derived.Test.YtndcegnlgdanmaaR14
import Derived.Test.YtndcegnlgdanmaaR31
import Derived.Test.YtndcegnlgdanmaaR18
import Derived.Test.YtndcegnlgdanmaaCB
import Derived.Test.YtndcegnlgdanmaaCH
/-
  Levels and cores: a partition has the levels of its core, and the levels make the core; what levels make is a core with these levels and as many cells as their form tells. No walk in this text.
-/
namespace Go.Proofs.Ytndcegnlgdanmaa
open Go.RowKit

theorem core_Good {p : List Int} (G : Good p) {t : Nat} (ht : 2 ≤ t ∧ t ≤ 6) : Good (coreL t p) :=
  (goodB_iff.1 (dw_good ht (goodB_iff.1 (beadsL_goodB G (Nat.le_refl _) (by have := G.len; omega))))).parts
theorem lvL_at {p : List Int} (G : Good p) {t : Nat} (ht : 2 ≤ t ∧ t ≤ 6) : lvL p t = fnRow t fun i => ((rnL t (beadsL p (mulN t 30)) i).length : Int) - (qR t : Nat) := by
  unfold lvL lvK lvN
  refine rowF_ext _ _ _ fun i hi => ?_
  obtain ⟨a, b, c, d⟩ := qR_bd ht
  have hb := mulN_bd (t := t) (n := 30) ht
  have := G.len
  rw [lv_main G (q := qR t) (n := mulN t 30) hi d (by omega) (by omega), rn_cnt]
theorem lv_core {p : List Int} (G : Good p) {t : Nat} (ht : 2 ≤ t ∧ t ≤ 6) : lvL (coreL t p) t = lvL p t := by
  rw [lvL_at (core_Good G ht) ht, lvL_at G ht]
  refine rowF_ext _ _ _ fun i hi => ?_
  have hb := mulN_bd (t := t) (n := 30) ht
  have := G.len
  have e := core_ct G (t := t) (N := mulN t 30) (by omega) (by omega) (by omega) i hi
  unfold ctN at e
  rw [e]
theorem lv_len (p : List Int) (t : Nat) : (lvL p t).length = t := lvK_len _ _ _
theorem kL_core {p : List Int} (G : Good p) {t : Nat} (ht : 2 ≤ t ∧ t ≤ 6) : kL (qR t) (lvL p t) = dwL t (beadsL p (mulN t 30)) := by
  refine pw_ext (kL_pw _ _) (dwL_pw _ _) fun x => ?_
  rw [mem_kL (by rw [lv_len]; omega), lv_len, mem_dwL (by omega)]
  obtain ⟨h1, _⟩ := split_at (t := t) (by omega) x
  rw [lvL_at G ht, fnRow_get _ _ _ h1]
  constructor
  · rintro ⟨a, b⟩; exact ⟨a, by omega⟩
  · rintro ⟨a, b⟩; exact ⟨a, by omega⟩
theorem lv_ge {p : List Int} (G : Good p) {t : Nat} (ht : 2 ≤ t ∧ t ≤ 6) : ∀ i, i < (lvL p t).length → 0 ≤ ((qR t : Nat) : Int) + (lvL p t).getD i 0 := fun i hi => by
  rw [lv_len] at hi
  rw [lvL_at G ht, fnRow_get _ _ _ hi]; omega
theorem cl_lv {p : List Int} (G : Good p) {t : Nat} (ht : 2 ≤ t ∧ t ≤ 6) (hL : levB (lvL p t) = true) : clOk (lvL p t) = true ∧ clF (lvL p t) = coreL t p := by
  have L := levB_iff.1 hL
  obtain ⟨a, b, c, d⟩ := qR_bd ht
  have hb := mulN_bd (t := t) (n := 30) ht
  have hl := G.len
  have hs := kL_sum L (lv_ge G ht)
  have hcg := core_Good G ht
  have hcc := core_cut (p := p) t (by omega)
  have hcs := beads_sumN hcg (n := mulN t 30) (by omega) (by omega)
  rw [core_beads G (by omega) (by omega) (by omega), ← kL_core G ht, hs, lv_len, show t * qR t = mulN t 30 by rw [d, Nat.mul_comm]] at hcs
  have hs30 : sizeL (lvL p t) ≤ 30 := by have := hcg.sum; omega
  have hok : clOk (lvL p t) = true := by unfold clOk; rw [hL, decide_eq_true hs30]; rfl
  refine ⟨hok, ?_⟩
  rw [cl_yes hok, cl_at L hs30 (q := 11) (by omega), ← cl_at L hs30 (q := qR t) a, kL_core G ht, (core_at (by omega) (by omega)).1]
/-- What levels make. -/
theorem lv_cl {xs : List Int} (h : clOk xs = true) : Good (clF xs) ∧ lvL (clF xs) xs.length = xs ∧ (clF xs).sum = sizeL xs ∧ coreL xs.length (clF xs) = clF xs ∧ isCoreF (clF xs) (xs.length : Int) = true ∧ lvOk (clF xs) (xs.length : Int) = true ∧ sizeL xs ≤ 30 := by
  have h' := h
  unfold clOk at h'
  rw [Bool.and_eq_true] at h'
  have hL := h'.1
  have hs : sizeL xs ≤ 30 := of_decide_eq_true h'.2
  have L := levB_iff.1 hL
  obtain ⟨t, et⟩ : ∃ t, t = xs.length := ⟨_, rfl⟩
  have ht : 2 ≤ t ∧ t ≤ 6 := by have := L.lo; have := L.hi; omega
  obtain ⟨a, b, c, d⟩ := qR_bd ht
  have hge : ∀ i, i < xs.length → 0 ≤ ((qR t : Nat) : Int) + xs.getD i 0 := fun i hi => by have := lev_small L hs i hi; omega
  have GB := goodB_iff.1 (kL_good L hs (q := qR t) a (by rw [← et]; exact c))
  have e : clF xs = partsL (kL (qR t) xs) := by rw [cl_yes h, cl_at L hs (q := 11) (by omega), ← cl_at L hs (q := qR t) a]
  have hlen : (kL (qR t) xs).length = mulN t 30 := by
    have := kL_len L hge
    rw [← et, ← Int.natCast_mul] at this
    rw [d, Nat.mul_comm]; omega
  have hb := mulN_bd (t := t) (n := 30) ht
  have hbe : beadsL (clF xs) (mulN t 30) = kL (qR t) xs := by
    have := beadsL_parts GB.rise
    rw [hlen] at this
    rw [e]; exact this
  have G : Good (clF xs) := by rw [e]; exact GB.parts
  have hl := G.len
  have hrn : ∀ i, i < t → (rnL t (kL (qR t) xs) i).length = ((qR t : Int) + xs.getD i 0).toNat := fun i hi => by
    have e2 : rnL t (kL (qR t) xs) i = upTo ((qR t : Int) + xs.getD i 0).toNat := by
      refine pw_ext (rnL_pw (by omega) (kL_pw _ _) i) (upTo_pw _) fun y => ?_
      rw [mem_rn hi, mem_kL (by omega), ← et, mem_upTo]
      have h := lay_div (t := t) (y := y) hi
      rw [h.1, h.2, Int.toNat_natCast]
      have := hge i (by omega)
      constructor
      · rintro ⟨h1, h2⟩
        refine ⟨?_, by omega⟩
        rcases Int.lt_or_le y 0 with h4 | h4
        · have := Int.mul_le_mul_of_nonneg_right (show y ≤ -1 by omega) (show (0 : Int) ≤ t by omega); omega
        · exact h4
      · rintro ⟨h1, h2⟩
        have := Int.mul_nonneg h1 (show (0 : Int) ≤ t by omega)
        exact ⟨by omega, by omega⟩
    rw [e2, upTo_len]
  have hlv : lvL (clF xs) t = xs := by
    rw [lvL_at G ht, hbe]
    have e3 : xs = fnRow t fun i => xs.getD i 0 := list_of et.symm
    conv => rhs; rw [e3]
    refine rowF_ext _ _ _ fun i hi => ?_
    have := hge i (by omega)
    rw [hrn i hi]; omega
  have hdw : dwL t (kL (qR t) xs) = kL (qR t) xs := by
    refine pw_ext (dwL_pw _ _) (kL_pw _ _) fun x => ?_
    obtain ⟨h1, _⟩ := split_at (t := t) (by omega) x
    rw [mem_dwL (by omega), mem_kL (by omega), ← et, hrn _ h1]
    have := hge (x % (t : Int)).toNat (by omega)
    constructor
    · rintro ⟨a, b⟩; exact ⟨a, by omega⟩
    · rintro ⟨a, b⟩; exact ⟨a, by omega⟩
  have hco : coreL t (clF xs) = clF xs := by
    rw [← (core_at (n := mulN t 30) (by omega) (by omega)).1, hbe, hdw, ← e]
  have hcr : crB (clF xs) (t : Int) = true := by
    unfold crB
    rw [(good_iff _).2 G, Bool.true_and]
    exact inB_iff.2 (by omega)
  have hsum : (clF xs).sum = sizeL xs := by
    have h1 := beads_sumN G (n := mulN t 30) (by omega) (by omega)
    have h2 := kL_sum L hge
    rw [hbe, h2, ← et, show t * qR t = mulN t 30 by rw [d, Nat.mul_comm]] at h1
    omega
  have his := core_is hcr (by rw [hco]; exact G)
  rw [hco] at his
  have hlo : lvOk (clF xs) (t : Int) = true := by
    unfold lvOk
    rw [hcr, Int.toNat_natCast, hlv, hL]; rfl
  rw [← et]
  exact ⟨G, hlv, hsum, hco, his, hlo, hs⟩
/-- A partition whose levels are told: its core has them, and they make the core. -/
theorem lac_told {p : List Int} {t : Int} (h : lvOk p t = true) : ∃ T : Nat, t = (T : Int) ∧ (2 ≤ T ∧ T ≤ 6) ∧ Good p ∧ Good (coF p t) ∧ lvOk (coF p t) t = true ∧ lvF (coF p t) t = lvF p t ∧ clOk (lvF p t) = true ∧ clF (lvF p t) = coF p t ∧ crB p t = true := by
  have h' := h
  unfold lvOk at h'
  rw [Bool.and_eq_true] at h'
  have hg := crB_good h'.1
  have G := (good_iff p).1 hg.1
  have hin := inB_iff.1 hg.2
  obtain ⟨T, rfl⟩ : ∃ T : Nat, t = (T : Int) := ⟨t.toNat, by omega⟩
  rw [Int.toNat_natCast] at h'
  have ht : 2 ≤ T ∧ T ≤ 6 := by omega
  have hc : coF p (T : Int) = coreL T p := (co_yes h'.1).1
  have Gc := core_Good G ht
  have hlo : lvOk (coreL T p) (T : Int) = true := by
    unfold lvOk crB
    rw [(good_iff _).2 Gc, hg.2, Int.toNat_natCast, lv_core G ht, h'.2]; rfl
  have h3 := cl_lv G ht h'.2
  rw [hc, lvF_t h, lvF_t hlo, lv_core G ht]
  exact ⟨T, rfl, ht, G, Gc, hlo, rfl, h3.1, h3.2, h'.1⟩
end Go.Proofs.Ytndcegnlgdanmaa
/-
  Contracts: CoreOfLevels of the program.
-/
namespace Go.Proofs.Ytndcegnlgdanmaa
open Go.RowKit

set_option maxRecDepth 100000 in
set_option maxHeartbeats 2000000 in
theorem impl_CoreOfLevels (A : Option Addr) (c : Nat) (xs : List Int) (w : World) (hl : xs.length ≤ 1048576) (hc : Cells w A xs) :
    Calls Try.prog 4 #[.slice A xs.length c] w fun e w' => ∃ A' c', e = .returned (.tuple #[.slice A' (clF xs).length c', .bool (clOk xs)]) ∧ Own w' w.heap.size A' c' (clF xs) ∧ Below w.heap.size w w' := by
  have HS := hid (SizeOfLevels_any A c xs w hl hc)
  cases hg : levB xs
  · have hk : clOk xs = false := by simp [clOk, hg]
    rw [cl_no hk, hk]
    rw [hg] at HS
    clear hg hk
    obtain ⟨z, hz⟩ : ∃ z, z = sizeF xs := ⟨_, rfl⟩
    rw [← hz] at HS
    clear hz
    go_enter Try.func4, Try.ntmps4
    go_wp2_with fail
    refine HS.out.mono ?_
    rintro e w1 ⟨rfl, rfl⟩
    go_wp2_with fail
    go_ret2
    exact ⟨none, 0, rfl, own_nil _ _, Below.refl _ _⟩
  have L := levB_iff.1 hg
  rw [hg, sizeF_t hg] at HS
  by_cases hs : 30 < sizeL xs
  · have hk : clOk xs = false := by simp [clOk, hg]; omega
    rw [cl_no hk, hk]
    obtain ⟨z, hz⟩ : ∃ z, z = sizeL xs := ⟨_, rfl⟩
    rw [← hz] at HS hs
    clear hz hg hk L
    go_enter Try.func4, Try.ntmps4
    go_wp2_with fail
    refine HS.out.mono ?_
    rintro e w1 ⟨rfl, rfl⟩
    go_wp2_with fail
    go_ret2
    exact ⟨none, 0, rfl, own_nil _ _, Below.refl _ _⟩
  have hs30 : sizeL xs ≤ 30 := by omega
  have hk : clOk xs = true := by simp [clOk, hg, hs30]
  obtain ⟨t, ht⟩ : ∃ t, t = xs.length := ⟨_, rfl⟩
  have h26 : 2 ≤ t ∧ t ≤ 6 := by rw [ht]; exact ⟨L.lo, L.hi⟩
  obtain ⟨q1, q2, q3, q4⟩ := qR_bd h26
  have hok := clR_ok L hs30 q1 (by rw [← ht]; exact q3)
  have htot := clR_tot L hs30 q1 (by rw [← ht]; exact q3)
  have hgd := goodB_iff.1 (kL_good L hs30 q1 (by rw [← ht]; exact q3))
  have hpe : clF xs = partsL (kL (qR t) xs) := by rw [cl_yes hk, cl_at L hs30 (by omega), cl_at L hs30 q1]
  rw [hpe, hk]
  have hFR := fun A1 c1 W (h : Cells2 W A1 (clR (qR t) xs xs.length)) => impl_FromRunners A1 c1 _ W (by rw [clR_len]; exact ⟨hl, htot⟩) h
  rw [(fr_yes hok).1, (fr_yes hok).2, hok, clR_frL, clR_len, ← ht] at hFR
  have HFR := hid hFR; clear hFR
  have hD40 := hgd.len
  have HPA := hid fun A1 c1 W (h : Cells W A1 (kL (qR t) xs)) => partsOf_any A1 c1 _ W (by omega) hgd.rise.bd h
  have hfl : ∀ i, i < t → ∃ n : Nat, n ≤ 36 ∧ fillR (qR t) xs i = upTo n ∧ (n : Int) = (qR t : Int) + xs.getD i 0 := fun i hi => by
    have := lev_small L hs30 i (by rw [← ht]; exact hi)
    exact ⟨((qR t : Int) + xs.getD i 0).toNat, by omega, rfl, by omega⟩
  have HFL := hid hfl
  have HRL := hid fun k => clR_len (qR t) xs k
  have HRS := hid fun k => clR_succ (qR t) xs k
  have HMU := hid fun W => multipleFrom_any t 30 h26 (by omega) W
  have htd : Int.tdiv (mulN t 30 : Int) (t : Int) = (qR t : Int) := by
    rw [q4]
    show (((qR t * t) / t : Nat) : Int) = qR t
    rw [Nat.mul_div_cancel _ (by omega)]
  rw [show ((30 : Nat) : Int) = 30 from rfl] at HMU
  obtain ⟨m, hm⟩ : ∃ m, m = mulN t 30 := ⟨_, rfl⟩
  have hmb : m ≤ 40 := by rw [hm, q4, Nat.mul_comm]; exact q3
  rw [← hm] at HMU htd
  obtain ⟨K, hK⟩ : ∃ K, K = kL (qR t) xs := ⟨_, rfl⟩
  rw [← hK] at HFR HPA ⊢
  obtain ⟨R, hR⟩ : ∃ R, R = clR (qR t) xs := ⟨_, rfl⟩
  rw [← hR] at HFR HRL HRS
  have HR0 := hid (show R 0 = [] by rw [hR]; rfl)
  obtain ⟨f, hf⟩ : ∃ f, f = fillR (qR t) xs := ⟨_, rfl⟩
  rw [← hf] at HFL HRS
  obtain ⟨q, hq⟩ : ∃ q, q = qR t := ⟨_, rfl⟩
  rw [← hq] at HFL htd q2
  obtain ⟨z, hz⟩ : ∃ z, z = sizeL xs := ⟨_, rfl⟩
  rw [← hz] at HS hs
  have hlvb : ∀ j, j < t → -10 ≤ xs.getD j 0 ∧ xs.getD j 0 ≤ 10 := fun j hj => L.bd j (by rw [← ht]; exact hj)
  have HLV := hid hlvb
  have hne : ¬ ((t : Int) = 0) := by omega
  have hmkO := run_make_row' (P := Try.prog) 33 22 (.slice none 0 0) 24 Try.underlying33 Try.infoInts rfl .i64 .i64 t (by omega) (by omega)
  clear hz hm hK hR hf hfl hq q1 q3 q4 hok htot hgd hpe hk hs30 hg L hD40 hlvb
  rw [← ht] at HS ⊢
  have hc' : ∀ W, Below w.heap.size w W → ∀ k, k < t → ∃ b o, A = some ⟨b, o, none⟩ ∧ W.cell? ⟨b, o + k, none⟩ = some (.int .i64 (xs.getD k 0)) := fun W h k hk => by
    obtain ⟨b, o, e, hcc⟩ := (hc.later h) (by omega)
    exact ⟨b, o, e, hcc k (by omega)⟩
  have HC := hid hc'
  clear hc hc' hl ht
  go_enter Try.func4, Try.ntmps4
  go_wp2_with fail
  refine HS.out.mono ?_
  rintro e w1 ⟨rfl, rfl⟩
  go_wp2_with fail
  clear hmkO
  go_loopw [28] (fun i wr => ∃ k : Nat, k ≤ t ∧ i = .int .i64 k ∧ (∃ P C, Fill wr w.heap.size w.heap.size t (R k) P C) ∧ Below w.heap.size w wr) (fun i _ => t - (intOf i).toNat)
  case atStart => exact ⟨0, Nat.zero_le _, rfl, ⟨_, _, by rw [HR0.out]; exact fill_start w t (by unfold maxLen; omega)⟩, (Below.refl _ _).alloc (Nat.le_refl _) _⟩
  case round =>
    obtain ⟨k, hk, rfl, ⟨P, C, hfill⟩, hbel⟩ := hrel
    obtain ⟨wo, rfl⟩ : ∃ wo : World, wo = wr := ⟨_, rfl⟩
    have HF := hid hfill; clear hfill
    by_cases hlt : k < t
    · obtain ⟨b, o, rfl, hck⟩ := HC.out _ hbel k hlt
      obtain ⟨n, hn, hfn, hnq⟩ := HFL.out k hlt
      have hlk := HLV.out k hlt
      obtain ⟨l, hle⟩ : ∃ l, l = xs.getD k 0 := ⟨_, rfl⟩
      rw [← hle] at hck hnq hlk
      have HCU := hid fun W => countUp_any n W (by omega)
      have HB := hid hbel
      have HFN := hid hfn
      clear hbel hle hfn
      go_wp2_with fail
      refine (HMU.out _).mono ?_
      rintro e w4 ⟨rfl, rfl⟩
      go_wp2_with fail
      rw [← hnq]
      refine (HCU.out _).mono ?_
      rintro e w4 ⟨A', c', rfl, ho, hb⟩
      have hput := HF.out.put (by rw [HRL.out]; exact hlt) hb ho
      rw [HRL.out, ← HFN.out, ← HRS.out, HFN.out, upTo_len] at hput
      obtain ⟨⟨uo, huo⟩, hfz, hf2, hbb⟩ := hput
      have HF2 := hid hf2
      have hb3 := hid (HB.out.trans hbb)
      clear hf2 hbb ho hb
      go_wp2_with fail
      go_roundw
      case rel => exact ⟨k + 1, by omega, by go_num, ⟨_, _, HF2.out⟩, hb3.out⟩
      case measure => simp [intOf]; omega
    · have hku : k = t := by omega
      subst hku
      have HO := hid (Own2.cells (HF.out.own2 (HRL.out k)))
      have HB := hid hbel; clear hbel
      go_wp2_with fail
      refine (HFR.out _ _ _ HO.out).mono ?_
      rintro e w2 ⟨A2, c2, rfl, o3, b2⟩
      have B2 := Below.next HB.out b2
      have y2 := Box2.new w2 37 (.int .i64 k) (.slice A2 K.length c2)
      have hb2 : Below w.heap.size w (w2.alloc (.cells #[.int .i64 k, .slice A2 K.length c2] 37)) := B2.alloc B2.size _
      have f3 := y2.cell1
      have O3 := hid (o3.cells.below (w' := w2.alloc (.cells #[.int .i64 k, .slice A2 K.length c2] 37)) ((Below.refl _ _).alloc (Nat.le_refl _) _))
      have hsz2 := hb2.size
      have HB2 := hid hb2
      clear o3 y2 hb2 b2 B2
      go_wp2_with fail
      refine (HPA.out _ _ _ O3.out).mono ?_
      rintro e w3 ⟨A3, c3, rfl, o4, b3⟩
      have HO4 := hid (o4.more hsz2)
      have HB4 := hid (Below.next HB2.out b3)
      clear o4 b3
      go_wp2_with fail
      go_ret2
      exact ⟨A3, c3, rfl, HO4.out, HB4.out⟩
end Go.Proofs.Ytndcegnlgdanmaa
