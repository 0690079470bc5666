/-
  Contracts: CountShifted on both sides.
-/
import Derived.Test.YthlamneaghbjbaaShfMath
import Derived.Test.YthlamneaghbjbaaBl
import Derived.Test.YthlamneaghbjbaaChs
import Derived.Test.YthlamneaghbjbaaConcat
namespace Go.Proofs.Ythlamneaghbjbaa
open Go.RowKit

theorem isShifted_b (A : Option Addr) (c : Nat) (xs : List Int) (w : World) (hl : xs.length ≤ 1048576) (hc : Cells w A xs) (b : Bool) (h : shB xs = b) :
    Calls Try.prog 124 #[.slice A xs.length c] w fun e w' => e = .returned (.bool b) ∧ w = w' := by
  subst h
  cases hs : strB xs
  · rw [show shB xs = false by simp [shB, hs]]
    have HS := hid hs; clear hs
    go_enter Try.func124, Try.ntmps124
    go_wp2_with (go_at_call 131; refine (isStrict_b _ _ _ _ hl hc _ HS.out).mono ?_; rintro e w' ⟨rfl, rfl⟩)
    go_ret
    exact ⟨rfl, rfl⟩
  · have HE := hid (show shB xs = decide (xs.sum ≤ 15) by simp [shB, hs])
    have G := strB_good hs
    have HCC := hid (cellCount_any A xs c w G.len (fun j hj => by have := G.pos j hj; have := G.le j hj; omega) hc)
    have HS := hid hs; clear hs
    obtain ⟨s, hs⟩ : ∃ s, s = xs.sum := ⟨_, rfl⟩
    rw [← hs] at HE HCC
    rw [HE.out]
    clear hs HE G
    by_cases h15 : s ≤ 15
    · rw [decide_eq_true h15]
      go_enter Try.func124, Try.ntmps124
      go_wp2_with (first | (go_at_call 131; refine (isStrict_b _ _ _ _ hl hc _ HS.out).mono ?_; rintro e w' ⟨rfl, rfl⟩) | (go_at_call 80; refine HCC.out.mono ?_; rintro e w' ⟨rfl, rfl⟩))
      go_ret
      exact ⟨rfl, rfl⟩
    · rw [decide_eq_false h15]
      go_enter Try.func124, Try.ntmps124
      go_wp2_with (first | (go_at_call 131; refine (isStrict_b _ _ _ _ hl hc _ HS.out).mono ?_; rintro e w' ⟨rfl, rfl⟩) | (go_at_call 80; refine HCC.out.mono ?_; rintro e w' ⟨rfl, rfl⟩))
      go_ret
      exact ⟨by first | rfl | exact ret_bool (decide_eq_false (by omega)), rfl⟩

set_option maxHeartbeats 1000000 in
theorem impl_CountShifted {B : Nat} (A : Option Addr) (c : Nat) (xs : List Int) (w : World) (hl : xs.length ≤ 1048576) (ho : Own w B A c xs) :
    Calls Try.prog 67 #[.slice A xs.length c] w fun e w' => e = .returned (.tuple #[.int .i64 (shF xs), .bool (shB xs)]) ∧ Below w.heap.size w w' := by
  have HC := hid ho.cells
  cases hb : shB xs
  · rw [show shF xs = 0 by simp [shF, hb]]
    have HB := hid hb; clear hb ho
    go_enter Try.func67, Try.ntmps67
    go_wp2_with (go_at_call 124; refine (isShifted_b _ _ _ _ hl HC.out _ HB.out).mono ?_; rintro e w' ⟨rfl, rfl⟩)
    go_ret2
    exact ⟨rfl, Below.refl _ _⟩
  rw [show shF xs = (wyN (shL xs) (shL xs).length : Int) by simp [shF, hb]]
  obtain ⟨h1, h2, h3⟩ := sh_facts hb
  obtain ⟨hs, h15⟩ := shB_t hb
  have h0 := (strB_good hs).sum0
  have h30 := (strB_good hs).len
  have HBL := hid (impl_BarLengths A c xs w hl ho)
  rw [hs, blF_t hs] at HBL
  have hbl := blR_len xs xs.length
  have htot := flat_len (blR xs xs.length)
  change (shL xs).length = tot (blR xs xs.length) at htot
  have HCO := hid fun A2 c2 W (h : Cells2 W A2 (blR xs xs.length)) => concat_any A2 c2 (blR xs xs.length) W (by omega) (by omega) h3 h
  have HWY := hid fun A2 c2 W (h : Cells W A2 (shL xs)) => waysByHooks_any A2 c2 (shL xs) W (by omega) (fun j hj => (h2 j hj).1) h
  change Hid (∀ A2 c2 W, Cells2 W A2 (blR xs xs.length) → Calls Try.prog 134 #[.slice A2 (blR xs xs.length).length c2] W fun e w' => ∃ A' c', e = .returned (.slice A' (shL xs).length c') ∧ Own w' W.heap.size A' c' (shL xs) ∧ Below W.heap.size W w') at HCO
  obtain ⟨L, hL⟩ : ∃ L, L = shL xs := ⟨_, rfl⟩
  rw [← hL] at HCO HWY ⊢
  obtain ⟨R, hR⟩ : ∃ R, R = blR xs xs.length := ⟨_, rfl⟩
  rw [← hR] at HBL HCO
  have HB := hid hb
  clear hb ho h1 h2 h3 hs h15 h0 h30 hbl htot hL hR
  go_enter Try.func67, Try.ntmps67
  go_wp2_with (first | (go_at_call 124; refine (isShifted_b _ _ _ _ hl HC.out _ HB.out).mono ?_; rintro e w' ⟨rfl, rfl⟩) | (go_at_call 65; refine HBL.out.mono ?_; rintro e w2 ⟨A2, c2, rfl, o2, b2⟩) | (go_at_call 134; refine (HCO.out _ _ _ o2.cells).mono ?_; rintro e w3 ⟨A3, c3, rfl, o3, b3⟩) | (go_at_call 95; refine (HWY.out _ _ _ o3.cells).mono ?_; rintro e w4 ⟨rfl, rfl⟩))
  go_ret2
  exact ⟨rfl, Below.next b2 b3⟩

set_option maxRecDepth 100000 in
set_option maxHeartbeats 4000000 in
theorem spec_CountShifted {B : Nat} (A : Option Addr) (c : Nat) (xs : List Int) (w : World) (hl0 : xs.length ≤ 1048576) (ho : Own w B A c xs) :
    Calls Try.prog 66 #[.slice A xs.length c] w fun e w' => e = .returned (.tuple #[.int .i64 (shF xs), .bool (shB xs)]) ∧ Below w.heap.size w w' := by
  have hlc := ho.cap
  have HC := hid ho.cells; clear ho
  cases hs : strB xs
  · rw [show shF xs = 0 by simp [shF, shB, hs], show shB xs = false by simp [shB, hs]]
    have HS := hid hs; clear hs
    go_enter Try.func66, Try.ntmps66
    go_wp2_with (go_at_call 104; refine (brIs_b _ _ _ _ hl0 HC.out _ HS.out).mono ?_; rintro e w' ⟨rfl, n, rfl⟩)
    go_ret2
    exact ⟨rfl, below_drew' _ _⟩
  have G := strB_good hs
  have HPS := hid fun W (h : Cells W A xs) => ptSum_any A xs c W G.len (fun j hj => by have := G.pos j hj; have := G.le j hj; omega) h
  by_cases h15 : 15 < xs.sum
  · have hb : shB xs = false := by
      have : decide (xs.sum ≤ 15) = false := decide_eq_false (by omega)
      simp [shB, this]
    rw [show shF xs = 0 by simp [shF, hb], hb]
    have HS := hid hs; clear hs hb
    obtain ⟨s, hs⟩ : ∃ s, s = xs.sum := ⟨_, rfl⟩
    rw [← hs] at HPS h15
    clear hs G
    go_enter Try.func66, Try.ntmps66
    go_wp2_with (first | (go_at_call 104; refine (brIs_b _ _ _ _ hl0 HC.out _ HS.out).mono ?_; rintro e w' ⟨rfl, nd0, rfl⟩) | (go_at_call 73; refine (HPS.out _ (by exact HC.out)).mono ?_; rintro e w' ⟨rfl, rfl⟩))
    go_ret2
    exact ⟨rfl, below_drew' _ _⟩
  have hb : shB xs = true := by
    have : decide (xs.sum ≤ 15) = true := decide_eq_true (by omega)
    simp [shB, hs, this]
  rw [show shF xs = (wyN (shL xs) (shL xs).length : Int) by simp [shF, hb], hb]
  obtain ⟨hLl, hB, _⟩ := sh_facts hb
  have h0 := G.sum0
  have hl20 : (shL xs).length ≤ 20 := by omega
  have HND := hid fun j (hj : j < (shL xs).length) => nd_bds hB hl20 hj
  have HNF := hid (nd_ok (shL xs) (shL xs).length fun i hi => (hB i hi).1)
  have HQ := hid (nd_quo (shL xs) fun i hi => (hB i hi).1)
  have HPO := hid fun j (hj : j < (shL xs).length) => hB j hj
  have HS1 := hid fun j => (show (nd (shL xs) (j + 1)).1 = ((nd (shL xs) j).1 * (j + 1)) / Nat.gcd ((nd (shL xs) j).1 * (j + 1)) ((nd (shL xs) j).2 * ((shL xs).getD j 0).toNat) from rfl)
  have HS2 := hid fun j => (show (nd (shL xs) (j + 1)).2 = ((nd (shL xs) j).2 * ((shL xs).getD j 0).toNat) / Nat.gcd ((nd (shL xs) j).1 * (j + 1)) ((nd (shL xs) j).2 * ((shL xs).getD j 0).toNat) from rfl)
  have HAT := hid fun r c (hr : r < (blR xs xs.length).length) (hcc : c < ((blR xs xs.length).getD r []).length) => flat_at (blR xs xs.length) r c hr hcc
  have hwle := wy_le (shL xs) (shL xs).length
  have hfb := (facN_bd (shL xs).length (by omega)).2
  have HH := hid fun W (h : Cells W A xs) => brLengths_any A c xs W hs hlc h
  have hRl := blR_len xs xs.length
  have h30 := G.len
  have HFS := hid fun k (hk : k < (blR xs xs.length).length) => (show ((blR xs xs.length).take (k + 1)).flatten.length = ((blR xs xs.length).take k).flatten.length + ((blR xs xs.length).getD k []).length by rw [flat_succ _ k hk, List.length_append])
  have HFL := hid (show ((blR xs xs.length).take (blR xs xs.length).length).flatten.length = (shL xs).length by rw [List.take_of_length_le (Nat.le_refl _)]; rfl)
  have HFM := hid fun k (hk : k ≤ (blR xs xs.length).length) => (show ((blR xs xs.length).take k).flatten.length ≤ (shL xs).length by
    have e := congrArg (fun z => z.flatten.length) (List.take_append_drop k (blR xs xs.length))
    simp only [List.flatten_append, List.length_append] at e
    unfold shL; omega)
  change Hid (∀ r c, r < (blR xs xs.length).length → c < ((blR xs xs.length).getD r []).length → (shL xs).getD (((blR xs xs.length).take r).flatten.length + c) 0 = ((blR xs xs.length).getD r []).getD c 0) at HAT
  have HS := hid hs
  obtain ⟨L, hL⟩ : ∃ L, L = shL xs := ⟨_, rfl⟩
  rw [← hL] at HND HNF HQ HPO HS1 HS2 HAT hwle hfb HFL HFM hl20 ⊢
  obtain ⟨R, hR⟩ : ∃ R, R = blR xs xs.length := ⟨_, rfl⟩
  rw [← hR] at HH hRl HFS HFL HFM HAT
  obtain ⟨F, hF⟩ : ∃ F : Nat → Nat, F = fun k => (R.take k).flatten.length := ⟨_, rfl⟩
  have HF0 := hid (show F 0 = 0 by rw [hF]; simp)
  have HFS' := hid (show ∀ k, k < R.length → F (k + 1) = F k + (R.getD k []).length by rw [hF]; exact HFS.out)
  have HFL' := hid (show F R.length = L.length by rw [hF]; exact HFL.out)
  have HFM' := hid (show ∀ k, k ≤ R.length → F k ≤ L.length by rw [hF]; exact HFM.out)
  have HAT' := hid (show ∀ r c, r < R.length → c < (R.getD r []).length → L.getD (F r + c) 0 = (R.getD r []).getD c 0 by rw [hF]; exact HAT.out)
  have hR30 : R.length ≤ 30 := by omega
  obtain ⟨sm, hsm⟩ : ∃ s, s = xs.sum := ⟨_, rfl⟩
  rw [← hsm] at HPS h15
  clear hL hR hF hLl hB hRl HFS HFL HFM HAT hs hb G h0 hsm
  go_enter Try.func66, Try.ntmps66
  go_wp2_with (first | (go_at_call 104; refine (brIs_b _ _ _ _ hl0 HC.out _ HS.out).mono ?_; rintro e w' ⟨rfl, nd0, rfl⟩) | (go_at_call 73; refine (HPS.out _ (by exact HC.out)).mono ?_; rintro e w' ⟨rfl, rfl⟩) | (go_at_call 130; refine (HH.out _ (by exact HC.out)).mono ?_; rintro e wt ⟨At, ct, rfl, ot, bt⟩))
  obtain ⟨Pt, Ct, hA1, hA2⟩ := ot.cells
  clear ot
  go_loop [4, 5, 6, 23] (fun a b d i => ∃ k : Nat, k ≤ R.length ∧ i = .int .i64 k ∧ a = .int .i64 ((nd L (F k)).1 : Nat) ∧ b = .int .i64 ((nd L (F k)).2 : Nat) ∧ d = .int .i64 (F k : Nat)) (fun _ _ _ i => R.length - (intOf i).toNat)
  case atStart => exact ⟨0, Nat.zero_le _, rfl, by rw [HF0.out]; rfl, by rw [HF0.out]; rfl, by rw [HF0.out]; rfl⟩
  case round =>
    obtain ⟨k, hk, rfl, rfl, rfl, rfl⟩ := hrel
    by_cases hlt : k < R.length
    · obtain ⟨b, o, rfl, hcc⟩ := hA1 (by omega)
      have hck := hcc k hlt
      have hr0 := hA2 k hlt
      have HFS1 := hid (HFS'.out k hlt)
      have hfm := HFM'.out (k + 1) hlt
      rw [HFS1.out] at hfm
      have HAT1 := hid (HAT'.out k · hlt)
      obtain ⟨r, hre⟩ : ∃ r, r = R.getD k [] := ⟨_, rfl⟩
      obtain ⟨Ar, hAr⟩ : ∃ Ar, Ar = Pt k := ⟨_, rfl⟩
      obtain ⟨Cr, hCr⟩ : ∃ Cr, Cr = Ct k := ⟨_, rfl⟩
      obtain ⟨f, hf⟩ : ∃ f, f = F k := ⟨_, rfl⟩
      rw [← hre] at hck hr0 HFS1 HAT1 hfm
      rw [← hf] at HFS1 HAT1 hfm ⊢
      rw [← hAr, ← hCr] at hck
      rw [← hAr] at hr0
      have HR0 := hid hr0
      clear hcc hre hr0 hAr hCr hf
      go_wp2_with fail
      go_loop [4, 5, 6, 29] (fun a b d j => ∃ m : Nat, m ≤ r.length ∧ j = .int .i64 m ∧ a = .int .i64 ((nd L (f + m)).1 : Nat) ∧ b = .int .i64 ((nd L (f + m)).2 : Nat) ∧ d = .int .i64 ((f + m : Nat) : Int)) (fun _ _ _ j => r.length - (intOf j).toNat)
      case atStart => exact ⟨0, Nat.zero_le _, rfl, rfl, rfl, rfl⟩
      case round =>
        obtain ⟨m, hm, rfl, rfl, rfl, rfl⟩ := hrel
        by_cases hml : m < r.length
        · obtain ⟨b3, o3, rfl, hcr⟩ := HR0.out (by omega)
          have hcm := hcr m hml
          have hat := HAT1.out m hml
          rw [← hat] at hcm
          have hjl : f + m < L.length := by omega
          obtain ⟨n1, n2, n3, n4, n5⟩ := HND.out (f + m) hjl
          have hpo := (HPO.out (f + m) hjl).1
          have hs1 := HS1.out (f + m)
          have hs2 := HS2.out (f + m)
          have hm1 : f + m + 1 = f + (m + 1) := by omega
          obtain ⟨x, hx⟩ : ∃ x : Nat, L.getD (f + m) 0 = x := ⟨(L.getD (f + m) 0).toNat, by omega⟩
          rw [hx] at hcm hpo hs1 hs2 n2 n3
          rw [Int.toNat_natCast] at hs1 hs2 n2 n3
          obtain ⟨p, hp⟩ : ∃ p, p = (nd L (f + m)).1 := ⟨_, rfl⟩
          obtain ⟨q, hq⟩ : ∃ q, q = (nd L (f + m)).2 := ⟨_, rfl⟩
          rw [← hp] at n1 n3 n4 hs1 hs2
          rw [← hq] at n2 n3 n5 hs1 hs2
          rw [← hp, ← hq]
          obtain ⟨j, hj⟩ : ∃ j, j = f + m := ⟨_, rfl⟩
          rw [← hj] at hjl hs1 hs2 n1 n3 hm1 ⊢
          have HJ := hid hj
          obtain ⟨a1, ha1⟩ : ∃ a1, a1 = p * (j + 1) := ⟨_, rfl⟩
          obtain ⟨b1, hb1⟩ : ∃ b1, b1 = q * x := ⟨_, rfl⟩
          rw [← ha1] at n1 n3 hs1 hs2
          rw [← hb1] at n2 n3 hs1 hs2
          have e1 : (p : Int) * ((j : Int) + 1) = (a1 : Int) := by rw [ha1, Int.natCast_mul]; rfl
          have e2 : (q : Int) * (x : Int) = (b1 : Int) := by rw [hb1, Int.natCast_mul]
          have hw1 : IntKind.i64.wrap ((p : Int) * ((j : Int) + 1)) = (a1 : Int) := by rw [e1]; exact IntWalk.i64_in _ (by omega)
          have hw2 : IntKind.i64.wrap ((q : Int) * (x : Int)) = (b1 : Int) := by rw [e2]; exact IntWalk.i64_in _ (by omega)
          have HGC := hid fun W => crGcd_any b1 a1 b1 W (Nat.le_refl _) (by omega) (by omega)
          obtain ⟨g, hg⟩ : ∃ g, g = Nat.gcd a1 b1 := ⟨_, rfl⟩
          rw [← hg] at HGC n3 hs1 hs2
          have hg0 : ¬ (g : Int) = 0 := by omega
          have la : a1 / g ≤ a1 := Nat.div_le_self _ _
          have lb : b1 / g ≤ b1 := Nat.div_le_self _ _
          have HW1 := hid (show wrap64 ((a1 : Int) / (g : Int)) = ((a1 / g : Nat) : Int) from IntWalk.wrap64_in _ (by show (-9223372036854775808 : Int) ≤ ((a1 / g : Nat) : Int) ∧ ((a1 / g : Nat) : Int) ≤ 9223372036854775807; omega))
          have HW2 := hid (show wrap64 ((b1 : Int) / (g : Int)) = ((b1 / g : Nat) : Int) from IntWalk.wrap64_in _ (by show (-9223372036854775808 : Int) ≤ ((b1 / g : Nat) : Int) ∧ ((b1 / g : Nat) : Int) ≤ 9223372036854775807; omega))
          have HSA := hid hs1
          have HSB := hid hs2
          have HM1 := hid hm1
          clear hcr hat hx hp hq hj ha1 hb1 hg e1 e2 hs1 hs2 hm1 la lb
          go_wp2_with (go_at_call 133; refine (HGC.out _).mono ?_; rintro e w' ⟨rfl, rfl⟩)
          go_round
          case rel =>
            refine ⟨m + 1, by omega, by go_num, ?_, ?_, ?_⟩
            · rw [← HM1.out, HSA.out]; exact congrArg _ HW1.out
            · rw [← HM1.out, HSB.out]; exact congrArg _ HW2.out
            · rw [← HM1.out]; go_num
          case measure => simp [intOf]; omega
        · have hmr : m = r.length := by omega
          subst hmr
          have hfe := HFS1.out
          rw [← hfe]
          clear hfe
          go_wp2_with fail
          go_round
          case rel => exact ⟨k + 1, by omega, by go_num, rfl, rfl, rfl⟩
          case measure => simp [intOf]; omega
    · have hkl : k = R.length := by omega
      subst hkl
      have hfl := HFL'.out
      rw [hfl]
      obtain ⟨o1, o2, _, o4, o5⟩ := HNF.out
      have hq := HQ.out
      obtain ⟨p, hp⟩ : ∃ p, p = (nd L L.length).1 := ⟨_, rfl⟩
      obtain ⟨q, hqq⟩ : ∃ q, q = (nd L L.length).2 := ⟨_, rfl⟩
      rw [← hp] at o1 o4 hq
      rw [← hqq] at o2 o5 hq
      rw [← hp, ← hqq]
      have HQ2 := hid hq
      have HW1 := hid (show wrap64 ((p : Int) / (q : Int)) = ((p / q : Nat) : Int) from IntWalk.wrap64_in _ (by show (-9223372036854775808 : Int) ≤ ((p / q : Nat) : Int) ∧ ((p / q : Nat) : Int) ≤ 9223372036854775807; omega))
      have hq0 : ¬ (q : Int) = 0 := by omega
      clear hfl hq hp hqq o5
      go_wp2_with fail
      go_ret2
      refine ⟨?_, Below.next (below_drew' w nd0) (by first | exact bt | exact bt.trans (Below.refl _ _))⟩
      rw [← HQ2.out]; exact ret_two (congrArg _ HW1.out) rfl

end Go.Proofs.Ythlamneaghbjbaa
