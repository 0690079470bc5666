/-
  CellsOfBoth and CountTurned on both sides.
-/
import Derived.Test.YtnjhjdidohdkmaaBoAll
import Derived.Test.YtnjhjdidohdkmaaCb
import Derived.Test.YtnjhjdidohdkmaaCC
import Derived.Test.YtnjhjdidohdkmaaSame
namespace Go.Proofs.Ytnjhjdidohdkmaa
open Go.RowKit

theorem boL_good (a b : Int) : ∀ r ∈ boL a b, good r = true := boK_good (boS a b) _ (Nat.le_refl _)
theorem boL_len30 {a b : Int} (hs : sz a b = true) : (boL a b).length ≤ 30 := sz_nat (p := fun a b => (boL a b).length ≤ 30) (by decide +kernel) hs
def cobF (a b : Int) : Int := if sz a b then cbF a b * (a + b + 1) * (a - 1) * (b - 1) / 24 else 0
def sumK (L : List (List Int)) (k : Nat) : Int := ((L.take k).map List.sum).sum
theorem sumK_succ (L : List (List Int)) (k : Nat) (h : k < L.length) : sumK L (k + 1) = sumK L k + (L.getD k []).sum := by
  unfold sumK
  rw [List.take_succ_eq_append_getElem h, List.map_append, List.sum_append, List.getD_eq_getElem?_getD, List.getElem?_eq_getElem h]; simp
theorem sumK_bd (L : List (List Int)) (h : ∀ r ∈ L, good r = true) : ∀ k, k ≤ L.length → 0 ≤ sumK L k ∧ sumK L k ≤ 30 * k
  | 0, _ => by simp [sumK]
  | k + 1, hk => by
    have h1 := sumK_bd L h k (by omega)
    have G := (good_iff _).1 (h (L.getD k []) (by rw [List.getD_eq_getElem?_getD, List.getElem?_eq_getElem (by omega)]; exact List.getElem_mem _))
    have h2 := G.sum
    have h3 := G.sum0
    rw [sumK_succ L k (by omega)]; omega
theorem cob_sum {a b : Int} (hs : sz a b = true) : sumK (boL a b) (boL a b).length = cobF a b := sz_nat (p := fun a b => sumK (boL a b) (boL a b).length = cobF a b) (by decide +kernel) hs
def cobChk (a b : Int) : Bool := decide (0 ≤ cbF a b * (a + b + 1) ∧ cbF a b * (a + b + 1) ≤ 10000) && (decide (0 ≤ cbF a b * (a + b + 1) * (a - 1) ∧ cbF a b * (a + b + 1) * (a - 1) ≤ 100000) && decide (0 ≤ cbF a b * (a + b + 1) * (a - 1) * (b - 1) ∧ cbF a b * (a + b + 1) * (a - 1) * (b - 1) ≤ 1000000))
theorem cob_chk {a b : Int} (hs : sz a b = true) : cobChk a b = true := sz_nat (p := fun a b => cobChk a b = true) (by decide +kernel) hs

set_option maxRecDepth 100000 in
set_option maxHeartbeats 800000 in
theorem impl_CellsOfBoth (a b : Int) (w : World) (_ : I64 a) (_ : I64 b) :
    Calls Try.prog 10 #[.int .i64 a, .int .i64 b] w fun e w' => e = .returned (.tuple #[.int .i64 (cobF a b), .bool (sz a b)]) ∧ Below w.heap.size w w' := by
  cases ht : sz a b
  · have HC := hid (CountBoth_b a b w _ ht)
    rw [show cobF a b = 0 by simp [cobF, ht]]
    obtain ⟨v, hv⟩ : ∃ v, v = cbF a b := ⟨_, rfl⟩
    rw [← hv] at HC
    clear ht hv
    go_enter Try.func10, Try.ntmps10
    go_wp2_with (go_at_call 6; refine HC.out.mono ?_; rintro e w1 ⟨rfl, b1⟩)
    go_ret2
    exact ⟨rfl, b1⟩
  · have HC := hid (CountBoth_b a b w _ ht)
    obtain ⟨ha, hb, -⟩ := sz_iff.1 ht
    have hk := cob_chk ht
    simp only [cobChk, Bool.and_eq_true, decide_eq_true_eq] at hk
    obtain ⟨hk1, hk2, hk3⟩ := hk
    have hcb := (cb_bd ht).1
    rw [show cobF a b = cbF a b * (a + b + 1) * (a - 1) * (b - 1) / 24 by simp [cobF, ht]]
    obtain ⟨v, hv⟩ : ∃ v, v = cbF a b := ⟨_, rfl⟩
    rw [← hv] at HC hk1 hk2 hk3 hcb ⊢
    clear ht hv
    go_enter Try.func10, Try.ntmps10
    go_wp2_with (go_at_call 6; refine HC.out.mono ?_; rintro e w1 ⟨rfl, b1⟩)
    go_ret2
    exact ⟨rfl, b1⟩

set_option maxRecDepth 100000 in
set_option maxHeartbeats 2000000 in
theorem spec_CellsOfBoth (a b : Int) (w : World) (_ : I64 a) (_ : I64 b) :
    Calls Try.prog 11 #[.int .i64 a, .int .i64 b] w fun e w' => e = .returned (.tuple #[.int .i64 (cobF a b), .bool (sz a b)]) ∧ Below w.heap.size w w' := by
  cases ht : sz a b
  · have HT := hid ht
    rw [show cobF a b = 0 by simp [cobF, ht]]
    clear ht
    go_enter Try.func11, Try.ntmps11
    go_wp2_with (go_at_call 28; refine (boSizes_b _ _ _ _ HT.out).mono ?_; rintro e w1 ⟨rfl, rfl⟩)
    go_ret2
    exact ⟨rfl, Below.refl _ _⟩
  · have HT := hid ht
    have HA := hid (boAll_any a b w ht)
    have h30 := boL_len30 ht
    have HG := hid (boL_good a b)
    have HS := hid (cob_sum ht)
    obtain ⟨R, hR⟩ : ∃ R, R = cobF a b := ⟨_, rfl⟩
    obtain ⟨L, hL⟩ : ∃ L, L = boL a b := ⟨_, rfl⟩
    rw [← hR] at HS ⊢
    rw [← hL] at HA h30 HG HS
    have HSS := hid (sumK_succ L)
    have HSB := hid (sumK_bd L HG.out)
    clear ht hR hL
    go_enter Try.func11, Try.ntmps11
    go_wp2_with (first | (go_at_call 28; refine (boSizes_b _ _ _ _ HT.out).mono ?_; rintro e w1 ⟨rfl, rfl⟩) | (go_at_call 29; refine HA.out.mono ?_; rintro e wt ⟨At, ct, rfl, ot, bt⟩))
    obtain ⟨Pt, Ct, hA1, hA2⟩ := ot.cells
    clear ot
    go_loop [6, 17] (fun s i => ∃ k : Nat, k ≤ L.length ∧ i = .int .i64 k ∧ s = .int .i64 (sumK L k)) (fun _ i => L.length - (intOf i).toNat)
    case atStart => exact ⟨0, Nat.zero_le _, rfl, rfl⟩
    case round =>
      obtain ⟨k, hk, rfl, rfl⟩ := hrel
      have hsb := HSB.out k hk
      by_cases hlt : k < L.length
      · obtain ⟨b0, o, rfl, hcc⟩ := hA1 (by omega)
        have hck := hcc k hlt
        have HR0 := hid (hA2 k hlt)
        have HN := hid (HSS.out k hlt)
        have HGR := hid (HG.out (L.getD k []) (by rw [List.getD_eq_getElem?_getD, List.getElem?_eq_getElem hlt]; exact List.getElem_mem hlt))
        obtain ⟨r, hr⟩ : ∃ r, r = L.getD k [] := ⟨_, rfl⟩
        obtain ⟨Ar, hAr⟩ : ∃ Ar, Ar = Pt k := ⟨_, rfl⟩
        obtain ⟨Cr, hCr⟩ : ∃ Cr, Cr = Ct k := ⟨_, rfl⟩
        rw [← hr, ← hAr, ← hCr] at hck
        rw [← hr] at HR0 HGR HN
        rw [← hAr] at HR0
        have hg1 := ((good_iff r).1 HGR.out).sum
        have hg2 := ((good_iff r).1 HGR.out).sum0
        obtain ⟨s, hs⟩ : ∃ s, s = sumK L k := ⟨_, rfl⟩
        rw [← hs] at hsb HN ⊢
        clear hcc hA1 hA2 hr hAr hCr hs
        go_wp2_with (go_at_call 34; refine (ptSum_g _ _ _ _ HGR.out HR0.out).mono ?_; rintro e w' ⟨rfl, rfl⟩)
        go_round
        case rel => exact ⟨k + 1, by omega, by go_num, by rw [HN.out]⟩
        case measure => simp [intOf]; omega
      · have hkl : k = L.length := by omega
        subst hkl
        rw [HS.out]
        go_wp2_with fail
        go_ret2
        exact ⟨rfl, bt⟩

/-! CountTurned -/
def ctuF (a b : Int) : Int := if sz a b then chs (a / 2).toNat (a / 2 + b / 2).toNat else 0
def tcK (L : List (List Int)) (k : Nat) : Nat := ((L.take k).filter fun p => decide (cols p = p)).length
theorem tcK_t (L : List (List Int)) (k : Nat) (h : k < L.length) (hp : decide (cols (L.getD k []) = L.getD k []) = true) : tcK L (k + 1) = tcK L k + 1 := by
  unfold tcK
  have e : L.getD k [] = L[k] := by rw [List.getD_eq_getElem?_getD, List.getElem?_eq_getElem h]; rfl
  rw [List.take_succ_eq_append_getElem h, List.filter_append, ← e, List.filter_cons_of_pos (by simpa using hp)]; simp
theorem tcK_f (L : List (List Int)) (k : Nat) (h : k < L.length) (hp : decide (cols (L.getD k []) = L.getD k []) = false) : tcK L (k + 1) = tcK L k := by
  unfold tcK
  have e : L.getD k [] = L[k] := by rw [List.getD_eq_getElem?_getD, List.getElem?_eq_getElem h]; rfl
  rw [List.take_succ_eq_append_getElem h, List.filter_append, ← e, List.filter_cons_of_neg (by rw [hp]; exact Bool.false_ne_true)]; simp
theorem tcK_le (L : List (List Int)) (k : Nat) : tcK L k ≤ k := by
  unfold tcK
  have := List.length_filter_le (fun p => decide (cols p = p)) (L.take k)
  rw [List.length_take] at this; omega
theorem ctu_sum {a b : Int} (hs : sz a b = true) : ((tcK (boL a b) (boL a b).length : Nat) : Int) = ctuF a b := sz_nat (p := fun a b => ((tcK (boL a b) (boL a b).length : Nat) : Int) = ctuF a b) (by decide +kernel) hs

set_option maxRecDepth 100000 in
set_option maxHeartbeats 800000 in
theorem impl_CountTurned (a b : Int) (w : World) (_ : I64 a) (_ : I64 b) :
    Calls Try.prog 12 #[.int .i64 a, .int .i64 b] w fun e w' => e = .returned (.tuple #[.int .i64 (ctuF a b), .bool (sz a b)]) ∧ Below w.heap.size w w' := by
  cases ht : sz a b
  · have HT := hid ht
    rw [show ctuF a b = 0 by simp [ctuF, ht]]
    clear ht
    go_enter Try.func12, Try.ntmps12
    go_wp2_with (go_at_call 18; refine (AreSizes_b _ _ _ _ HT.out).mono ?_; rintro e w1 ⟨rfl, b1⟩)
    go_ret2
    exact ⟨rfl, b1⟩
  · have HT := hid ht
    obtain ⟨ha, hb, -⟩ := sz_iff.1 ht
    rw [show ctuF a b = chs (a / 2).toNat (a / 2 + b / 2).toNat by simp [ctuF, ht]]
    have HC := hid fun W => choices_any (a / 2).toNat (a / 2 + b / 2).toNat W (by omega) (by omega) (by omega)
    rw [Int.toNat_of_nonneg (by omega), Int.toNat_of_nonneg (by omega)] at HC
    obtain ⟨v, hv⟩ : ∃ v, v = chs (a / 2).toNat (a / 2 + b / 2).toNat := ⟨_, rfl⟩
    rw [← hv] at HC ⊢
    clear hv ht
    go_enter Try.func12, Try.ntmps12
    go_wp2_with (first | (go_at_call 18; refine (AreSizes_b _ _ _ _ HT.out).mono ?_; rintro e w1 ⟨rfl, b1⟩) | (go_at_call 30; refine (HC.out _).mono ?_; rintro e w2 ⟨rfl, rfl⟩))
    go_ret2
    exact ⟨rfl, b1⟩

set_option maxRecDepth 100000 in
set_option maxHeartbeats 2000000 in
theorem spec_CountTurned (a b : Int) (w : World) (_ : I64 a) (_ : I64 b) :
    Calls Try.prog 13 #[.int .i64 a, .int .i64 b] w fun e w' => e = .returned (.tuple #[.int .i64 (ctuF a b), .bool (sz a b)]) ∧ Below w.heap.size w w' := by
  cases ht : sz a b
  · have HT := hid ht
    rw [show ctuF a b = 0 by simp [ctuF, ht]]
    clear ht
    go_enter Try.func13, Try.ntmps13
    go_wp2_with (go_at_call 28; refine (boSizes_b _ _ _ _ HT.out).mono ?_; rintro e w1 ⟨rfl, rfl⟩)
    go_ret2
    exact ⟨rfl, Below.refl _ _⟩
  · have HT := hid ht
    have HA := hid (boAll_any a b w ht)
    have h30 := boL_len30 ht
    have HG := hid (boL_good a b)
    have HS := hid (ctu_sum ht)
    obtain ⟨R, hR⟩ : ∃ R, R = ctuF a b := ⟨_, rfl⟩
    obtain ⟨L, hL⟩ : ∃ L, L = boL a b := ⟨_, rfl⟩
    rw [← hR] at HS ⊢
    rw [← hL] at HA h30 HG HS
    have HKT := hid (tcK_t L)
    have HKF := hid (tcK_f L)
    clear ht hR hL
    go_enter Try.func13, Try.ntmps13
    go_wp2_with (first | (go_at_call 28; refine (boSizes_b _ _ _ _ HT.out).mono ?_; rintro e w1 ⟨rfl, rfl⟩) | (go_at_call 29; refine HA.out.mono ?_; rintro e wt ⟨At, ct, rfl, ot, bt⟩))
    have OT := hid ot
    clear ot
    go_loopw [6, 17] (fun s i wr => ∃ k : Nat, k ≤ L.length ∧ i = .int .i64 k ∧ s = .int .i64 (tcK L k) ∧ Below wt.heap.size wt wr) (fun _ i _ => L.length - (intOf i).toNat)
    case atStart => exact ⟨0, Nat.zero_le _, rfl, rfl, Below.refl _ _⟩
    case round =>
      obtain ⟨k, hk, rfl, rfl, hbel⟩ := hrel
      have hsb := tcK_le L k
      by_cases hlt : k < L.length
      · obtain ⟨Pt, Ct, hA1, hA2⟩ := (OT.out.below hbel).cells
        obtain ⟨b0, o, rfl, hcc⟩ := hA1 (by omega)
        have hck := hcc k hlt
        have HR0 := hid (hA2 k hlt)
        have HN1 := hid (HKT.out k hlt); have HN2 := hid (HKF.out k hlt)
        have HGR := hid (HG.out (L.getD k []) (by rw [List.getD_eq_getElem?_getD, List.getElem?_eq_getElem hlt]; exact List.getElem_mem hlt))
        obtain ⟨r, hr⟩ : ∃ r, r = L.getD k [] := ⟨_, rfl⟩
        obtain ⟨Ar, hAr⟩ : ∃ Ar, Ar = Pt k := ⟨_, rfl⟩
        obtain ⟨Cr, hCr⟩ : ∃ Cr, Cr = Ct k := ⟨_, rfl⟩
        rw [← hr, ← hAr, ← hCr] at hck
        rw [← hr] at HR0 HGR HN1 HN2
        rw [← hAr] at HR0
        have G := (good_iff r).1 HGR.out
        have HTU := hid (ptTurn_any Ar Cr r wr G HR0.out)
        have hl1 : r.length ≤ 1048576 := by have := G.len; omega
        have hl2 : (cols r).length ≤ 1048576 := by
          unfold cols
          rw [List.length_map, List.length_range]
          by_cases e : 0 < r.length
          · have := G.le 0 e; omega
          · have : r = [] := List.eq_nil_of_length_eq_zero (by omega)
            subst this; simp
        obtain ⟨s, hs⟩ : ∃ s, s = tcK L k := ⟨_, rfl⟩
        rw [← hs] at hsb HN1 HN2 ⊢
        obtain ⟨q, hq⟩ : ∃ q, q = cols r := ⟨_, rfl⟩
        rw [← hq] at HTU HN1 HN2 hl2
        clear hcc hA1 hA2 hr hAr hCr hs hq G
        cases hd : decide (q = r)
        · have HD := hid hd
          have HN := hid (HN2.out hd)
          clear hd
          go_wp2_with (first | (go_at_call 36; refine HTU.out.mono ?_; rintro e w2 ⟨A2, c2, rfl, o2, b2⟩) | (go_at_call 35; refine (l1Same_b _ _ _ _ _ _ _ hl2 hl1 o2.cells (HR0.out.below b2) _ HD.out).mono ?_; rintro e w3 ⟨rfl, n, rfl⟩))
          go_roundw
          case rel => exact ⟨k + 1, by omega, by go_num, by rw [HN.out], Below.next hbel (below_drewN b2 n)⟩
          case measure => simp [intOf]; omega
        · have HD := hid hd
          have HN := hid (HN1.out hd)
          clear hd
          go_wp2_with (first | (go_at_call 36; refine HTU.out.mono ?_; rintro e w2 ⟨A2, c2, rfl, o2, b2⟩) | (go_at_call 35; refine (l1Same_b _ _ _ _ _ _ _ hl2 hl1 o2.cells (HR0.out.below b2) _ HD.out).mono ?_; rintro e w3 ⟨rfl, n, rfl⟩))
          go_roundw
          case rel => exact ⟨k + 1, by omega, by go_num, by rw [HN.out]; simp, Below.next hbel (below_drewN b2 n)⟩
          case measure => simp [intOf]; omega
      · have hkl : k = L.length := by omega
        subst hkl
        rw [HS.out]
        go_wp2_with fail
        go_ret2
        exact ⟨rfl, Below.next bt hbel⟩
end Go.Proofs.Ytnjhjdidohdkmaa
