/-
  Several texts in one.
-/
import Derived.Test.YtmjncedijddmmaaCB
import Derived.Test.YtmjncedijddmmaaR22
import Derived.Test.YtmjncedijddmmaaR20
import Derived.Test.YtmjncedijddmmaaR14
/-
  Factorials of the program and of the model.
-/
namespace Go.Proofs.Ytmjncedijddmmaa
open Go.RowKit

def fac : Nat → Int
  | 0 => 1
  | n + 1 => fac n * ((n : Int) + 1)
theorem fac_step (k : Nat) : fac (k + 1) = fac k * ((k : Int) + 1) := rfl
theorem fac_bd20 : ∀ k < 21, 1 ≤ fac k ∧ fac k ≤ 2432902008176640000 := by decide +kernel

set_option maxRecDepth 100000 in
set_option maxHeartbeats 800000 in
theorem facto_any (n : Nat) (w : World) (h2 : n ≤ 20) :
    Calls Try.prog 81 #[.int .i64 n] w fun e w' => e = .returned (.int .i64 (fac n)) ∧ w = w' := by
  go_enter Try.func81, Try.ntmps81
  go_wp2_with fail
  go_loop [3, 4] (fun p i => ∃ k : Nat, 1 ≤ k ∧ (k ≤ n ∨ k = 1) ∧ i = .int .i64 ((k : Int) + 1) ∧ p = .int .i64 (fac k)) (fun _ i => 30 - (intOf i).toNat)
  case atStart => exact ⟨1, by omega, by omega, rfl, rfl⟩
  case round =>
    obtain ⟨k, hk1, hk, rfl, rfl⟩ := hrel
    have HK := hid hk
    clear hk
    by_cases hlt : k < n
    · have hb := fac_bd20 (k + 1) (by omega)
      have hb0 := fac_bd20 k (by omega)
      have HS := hid (fac_step k)
      rw [HS.out] at hb
      obtain ⟨f, hf⟩ : ∃ f, f = fac k := ⟨_, rfl⟩
      rw [← hf] at hb hb0 HS ⊢
      clear hf
      go_wp2_with fail
      go_round
      case rel => exact ⟨k + 1, by omega, by omega, by go_num, by rw [HS.out]⟩
      case measure => show 30 - ((k : Int) + 1 + 1).toNat < 30 - ((k : Int) + 1).toNat; omega
    · have HE := hid (show fac k = fac n by
        have := HK.out
        by_cases h : n = 0
        · rw [h, show k = 1 by omega]; rfl
        · rw [show k = n by omega])
      go_wp2_with fail
      go_ret
      exact ⟨by rw [← HE.out]; rfl, rfl⟩

/-- What the other side has multiplied when it has come down to m. -/
def facD (n : Nat) : Nat → Int
  | 0 => 1
  | j + 1 => facD n j * ((n : Int) - j)
theorem facDN : ((List.range 21).all fun n => (List.range 21).all fun j => decide (n < j) || (decide (1 ≤ facD n j ∨ j = n + 1) && decide (facD n j ≤ 2432902008176640000 ∧ 0 ≤ facD n j))) = true := by decide +kernel
theorem facD_bd (n : Nat) (hn : n ≤ 20) (j : Nat) (hj : j ≤ n) : 0 ≤ facD n j ∧ facD n j ≤ 2432902008176640000 := by
  have h1 := List.all_eq_true.1 facDN n (List.mem_range.2 (by omega))
  have h2 := List.all_eq_true.1 h1 j (List.mem_range.2 (by omega))
  simp only [Bool.or_eq_true, Bool.and_eq_true, decide_eq_true_eq] at h2
  omega
theorem facD_fac : ∀ n < 21, facD n (n - 1) = fac n := by decide +kernel

end Go.Proofs.Ytmjncedijddmmaa
/-
  Contracts: chains counted by hooks, on both sides: CountChains.
-/
namespace Go.Proofs.Ytmjncedijddmmaa
open Go.RowKit

theorem fac_nat : ∀ n, fac n = (facN n : Int)
  | 0 => rfl
  | n + 1 => by rw [fac_step, fac_nat n, facN, Int.natCast_mul]; rfl
def hkL (xs : List Int) : List Int := (hooksR xs).flatten
theorem rows_flat_len (xs : List Int) (f : Nat → Nat → Int) (h : ∀ j, j < xs.length → 0 ≤ xs.getD j 0) : ∀ k, k ≤ xs.length → (((rowsF xs f k).flatten.length : Nat) : Int) = (xs.take k).sum
  | 0, _ => by simp [rowsF]
  | k + 1, hk => by
    have := rows_flat_len xs f h k (by omega)
    have := h k (by omega)
    rw [rowsF_succ, List.flatten_append, List.length_append, sum_take_succ xs k (by omega)]
    simp only [List.flatten_cons, List.flatten_nil, List.append_nil, rowF_len]
    omega
theorem rowsF_take (xs : List Int) (f : Nat → Nat → Int) (k m : Nat) (h : m ≤ k) : (rowsF xs f k).take m = rowsF xs f m := by
  unfold rowsF; rw [← List.map_take, List.take_range, Nat.min_eq_left h]
theorem hkL_len {xs : List Int} (G : Good xs) : (((hkL xs).length : Nat) : Int) = xs.sum := by
  have := rows_flat_len xs (hookN xs) (fun j hj => by have := G.pos j hj; omega) xs.length (Nat.le_refl _)
  rw [List.take_of_length_le (Nat.le_refl _)] at this
  exact this
theorem hkL_bd {xs : List Int} (G : Good xs) : HkB (hkL xs) xs.sum.toNat := by
  have hs := G.sum0
  have hpos := G.pos
  intro k hk
  rw [show ((xs.sum.toNat : Nat) : Int) = xs.sum by omega]
  refine flat_bd (hooksR xs) xs.sum (fun r c hr hc => ?_) k hk
  rw [hooksR_len] at hr
  have hrow : (hooksR xs).getD r [] = rowF (hookN xs) r (xs.getD r 0).toNat := by unfold hooksR; rw [rowsF_get xs _ _ _ hr]
  rw [hrow] at hc ⊢
  rw [rowF_len] at hc
  rw [rowF_get _ _ _ _ hc]
  have hp := hpos r hr
  have hx30 := G.le r hr
  have hcx : (c : Int) < xs.getD r 0 := by omega
  have h1 := (colH_iff G (c : Int) (by omega) r).2 hcx
  have h0 : c < (xs.getD 0 0).toNat := by have := down_le xs G.down 0 r (by omega); rw [Nat.zero_add] at this; omega
  have h2 := cols_get xs c h0
  have h3 := (colH_bound xs (c : Int)).2
  have ht : ((((hooksR xs).take r).flatten.length : Nat) : Int) = (xs.take r).sum := by
    unfold hooksR; rw [rowsF_take _ _ _ _ (by omega)]; exact rows_flat_len xs _ (fun j hj => by have := hpos j hj; omega) r (by omega)
  rw [ht]
  have e := congrArg List.sum (List.take_append_drop (r + 1) xs)
  rw [List.sum_append, sum_take_succ xs r hr] at e
  have hd := len_sum (xs.drop (r + 1)) (fun j hj => by
    rw [List.getD_eq_getElem?_getD, List.getElem?_drop, ← List.getD_eq_getElem?_getD]
    exact hpos _ (by simp at hj; omega))
  rw [List.length_drop] at hd
  unfold hookN
  rw [h2]
  omega
theorem fac_i64 {n : Nat} (h : n ≤ 20) : (facN n : Int) ≤ 2432902008176640000 := by have := (facN_bd n (by omega)).2; omega

set_option maxRecDepth 100000 in
set_option maxHeartbeats 800000 in
theorem waysByHooks_any (A : Option Addr) (c : Nat) (L : List Int) (w : World) (hl : L.length ≤ 20) (hb : ∀ j, j < L.length → 1 ≤ L.getD j 0) (hc : Cells w A L) :
    Calls Try.prog 53 #[.slice A L.length c] w fun e w' => e = .returned (.int .i64 (wyN L L.length : Nat)) ∧ w = w' := by
  have HF := hid fun W => facto_any L.length W hl
  rw [fac_nat, ← wy_zero L] at HF
  have hfb := fac_i64 hl
  have HB := hid hb
  go_enter Try.func53, Try.ntmps53
  go_wp2_with (go_at_call 81; refine (HF.out _).mono ?_; rintro e w' ⟨rfl, rfl⟩)
  go_loop [3, 11] (fun v i => ∃ k : Nat, k ≤ L.length ∧ i = .int .i64 k ∧ v = .int .i64 (wyN L k : Nat)) (fun _ i => L.length - (intOf i).toNat)
  case atStart => exact ⟨0, Nat.zero_le _, rfl, rfl⟩
  case round =>
    obtain ⟨k, hk, rfl, rfl⟩ := hrel
    by_cases hlt : k < L.length
    · obtain ⟨b, o, rfl, hcc⟩ := hc (by omega)
      have hck := hcc k hlt
      have hxb := HB.out k hlt
      have hws := wy_succ L k
      have hwl := wy_le L k
      obtain ⟨x, hx⟩ : ∃ x : Nat, L.getD k 0 = x := ⟨(L.getD k 0).toNat, by omega⟩
      rw [hx] at hck hxb hws
      rw [Int.toNat_natCast] at hws
      obtain ⟨v, hv⟩ : ∃ v, v = wyN L k := ⟨_, rfl⟩
      rw [← hv] at hws hwl ⊢
      have hq : ((v : Nat) : Int).tdiv (x : Int) = ((v / x : Nat) : Int) := by rw [Int.tdiv_eq_ediv_of_nonneg (by omega)]; rfl
      have hle : v / x ≤ v := Nat.div_le_self _ _
      have HW2 := hid (show wrap64 ((v : Int) / (x : Int)) = ((v / x : Nat) : Int) from IntWalk.wrap64_in _ (by show (-9223372036854775808 : Int) ≤ ((v / x : Nat) : Int) ∧ ((v / x : Nat) : Int) ≤ 9223372036854775807; omega))
      have HWS := hid hws
      have hne : ¬ (x : Int) = 0 := by omega
      clear hcc hx hv hq hws
      go_wp2_with fail
      go_round
      case rel => exact ⟨k + 1, by omega, by go_num, by rw [HWS.out]; exact congrArg _ HW2.out⟩
      case measure => simp [intOf]; omega
    · have hkl : k = L.length := by omega
      subst hkl
      go_wp2_with fail
      go_ret
      exact ⟨rfl, rfl⟩

set_option maxRecDepth 100000 in
set_option maxHeartbeats 800000 in
theorem crGcd_any : ∀ (n a b : Nat) (w : World), b ≤ n → a ≤ 9000000000000000000 → b ≤ 9000000000000000000 →
    Calls Try.prog 99 #[.int .i64 a, .int .i64 b] w fun e w' => e = .returned (.int .i64 (Nat.gcd a b : Nat)) ∧ w = w'
  | n, a, 0, w, _, ha, _ => by
    rw [Nat.gcd_zero_right]
    go_enter Try.func99, Try.ntmps99
    go_wp2_with fail
    go_ret
    exact ⟨rfl, rfl⟩
  | 0, a, b + 1, w, h, _, _ => absurd h (by omega)
  | n + 1, a, b + 1, w, h, ha, hb => by
    have hm : ((a : Nat) : Int).tmod ((b + 1 : Nat) : Int) = ((a % (b + 1) : Nat) : Int) := by rw [Int.tmod_eq_emod_of_nonneg (by omega)]; rfl
    have hlt : a % (b + 1) < b + 1 := Nat.mod_lt _ (by omega)
    have ih := crGcd_any n (b + 1) (a % (b + 1)) w (by omega) hb (by omega)
    rw [show Nat.gcd a (b + 1) = Nat.gcd (b + 1) (a % (b + 1)) by rw [Nat.gcd_comm a (b + 1), Nat.gcd_rec (b + 1) a, Nat.gcd_comm]]
    obtain ⟨g, hg⟩ : ∃ g, g = Nat.gcd (b + 1) (a % (b + 1)) := ⟨_, rfl⟩
    obtain ⟨r, hr⟩ : ∃ r, r = a % (b + 1) := ⟨_, rfl⟩
    obtain ⟨d, hd⟩ : ∃ d, d = b + 1 := ⟨_, rfl⟩
    rw [← hg]
    rw [← hg, ← hr, ← hd] at ih
    rw [← hr, ← hd] at hm hlt
    rw [← hd] at hb ⊢
    have HI := hid ih
    have hd0 : ¬ (d : Int) = 0 := by omega
    clear hg hr ih hd h
    go_enter Try.func99, Try.ntmps99
    go_wp2_with (go_at_call 99; refine HI.out.mono ?_; rintro e w' ⟨rfl, rfl⟩)
    go_ret
    exact ⟨rfl, rfl⟩

/-- How many chains a partition has. -/
def chN (xs : List Int) : Nat := wyN (hkL xs) (hkL xs).length
theorem nd_bds {L : List Int} (h : HkB L L.length) (hl : L.length ≤ 20) {j : Nat} (hj : j < L.length) :
    (nd L j).1 * (j + 1) ≤ 2432902008176640000 ∧ (nd L j).2 * (L.getD j 0).toNat ≤ 2432902008176640000 ∧ 1 ≤ Nat.gcd ((nd L j).1 * (j + 1)) ((nd L j).2 * (L.getD j 0).toNat) ∧ (nd L j).1 ≤ 2432902008176640000 ∧ (nd L j).2 ≤ 2432902008176640000 := by
  have o := nd_ok L j fun i hi => (h i (by omega)).1
  have hf := (facN_bd (j + 1) (by omega)).2
  have hp := prN_bd h hl hl (j + 1) (by omega)
  have hf0 := (facN_bd j (by omega)).2
  have hp0 := prN_bd h hl hl j (by omega)
  have h1 : (nd L j).1 * (j + 1) ≤ facN (j + 1) := Nat.mul_le_mul_right _ o.num
  have h2 : (nd L j).2 * (L.getD j 0).toNat ≤ prN L (j + 1) := Nat.mul_le_mul_right _ o.den
  have hg : 0 < (nd L j).1 * (j + 1) := Nat.mul_pos o.num1 (by omega)
  exact ⟨by omega, by omega, Nat.gcd_pos_of_pos_left _ hg, by have := o.num; omega, by have := o.den; omega⟩

set_option maxRecDepth 100000 in
set_option maxHeartbeats 4000000 in
theorem crChains_any (A : Option Addr) (c : Nat) (xs : List Int) (w : World) (G : Good xs) (hs : xs.sum ≤ 20) (hc : Cells w A xs) :
    Calls Try.prog 78 #[.slice A xs.length c] w fun e w' => e = .returned (.int .i64 (chN xs : Nat)) ∧ Below w.heap.size w w' := by
  have hLl := hkL_len G
  have hB : HkB (hkL xs) (hkL xs).length := by have := hkL_bd G; rw [← hLl] at this; simpa using this
  have hl20 : (hkL xs).length ≤ 20 := by omega
  have HND := hid fun j (hj : j < (hkL xs).length) => nd_bds hB hl20 hj
  have HNF := hid (nd_ok (hkL xs) (hkL xs).length fun i hi => (hB i hi).1)
  have HQ := hid (nd_quo (hkL xs) fun i hi => (hB i hi).1)
  have HPO := hid fun j (hj : j < (hkL xs).length) => hB j hj
  have HS1 := hid fun j => (show (nd (hkL xs) (j + 1)).1 = ((nd (hkL xs) j).1 * (j + 1)) / Nat.gcd ((nd (hkL xs) j).1 * (j + 1)) ((nd (hkL xs) j).2 * ((hkL xs).getD j 0).toNat) from rfl)
  have HS2 := hid fun j => (show (nd (hkL xs) (j + 1)).2 = ((nd (hkL xs) j).2 * ((hkL xs).getD j 0).toNat) / Nat.gcd ((nd (hkL xs) j).1 * (j + 1)) ((nd (hkL xs) j).2 * ((hkL xs).getD j 0).toNat) from rfl)
  have HAT := hid fun r c (hr : r < (hooksR xs).length) (hcc : c < ((hooksR xs).getD r []).length) => flat_at (hooksR xs) r c hr hcc
  have hwle := wy_le (hkL xs) (hkL xs).length
  have hfb := (facN_bd (hkL xs).length (by omega)).2
  have hptH := fun W h => ptHooks_any A c xs W G h
  change ∀ W, Cells W A xs → Calls Try.prog 98 #[.slice A xs.length c] W fun e w' => ∃ A' c', e = .returned (.slice A' (hooksR xs).length c') ∧ Own2 w' W.heap.size w'.heap.size A' c' (hooksR xs) ∧ Below W.heap.size W w' at hptH
  have HH := hid hptH
  have hRl := hooksR_len xs
  have h30 := G.len
  have HFS := hid fun k (hk : k < (hooksR xs).length) => (show ((hooksR xs).take (k + 1)).flatten.length = ((hooksR xs).take k).flatten.length + ((hooksR xs).getD k []).length by rw [flat_succ _ k hk, List.length_append])
  have HFL := hid (show ((hooksR xs).take (hooksR xs).length).flatten.length = (hkL xs).length by rw [List.take_of_length_le (Nat.le_refl _)]; rfl)
  have HFM := hid fun k (hk : k ≤ (hooksR xs).length) => (show ((hooksR xs).take k).flatten.length ≤ (hkL xs).length by
    have e := congrArg (fun z => z.flatten.length) (List.take_append_drop k (hooksR xs))
    simp only [List.flatten_append, List.length_append] at e
    unfold hkL; omega)
  change Hid (∀ r c, r < (hooksR xs).length → c < ((hooksR xs).getD r []).length → (hkL xs).getD (((hooksR xs).take r).flatten.length + c) 0 = ((hooksR xs).getD r []).getD c 0) at HAT
  unfold chN
  obtain ⟨L, hL⟩ : ∃ L, L = hkL xs := ⟨_, rfl⟩
  rw [← hL] at HND HNF HQ HPO HS1 HS2 HAT hwle hfb HFL HFM hl20 ⊢
  obtain ⟨R, hR⟩ : ∃ R, R = hooksR xs := ⟨_, rfl⟩
  rw [← hR] at HH hRl HFS HFL HFM HAT
  obtain ⟨F, hF⟩ : ∃ F : Nat → Nat, F = fun k => (R.take k).flatten.length := ⟨_, rfl⟩
  have HF0 := hid (show F 0 = 0 by rw [hF]; simp)
  have HFS' := hid (show ∀ k, k < R.length → F (k + 1) = F k + (R.getD k []).length by rw [hF]; exact HFS.out)
  have HFL' := hid (show F R.length = L.length by rw [hF]; exact HFL.out)
  have HFM' := hid (show ∀ k, k ≤ R.length → F k ≤ L.length by rw [hF]; exact HFM.out)
  have HAT' := hid (show ∀ r c, r < R.length → c < (R.getD r []).length → L.getD (F r + c) 0 = (R.getD r []).getD c 0 by rw [hF]; exact HAT.out)
  have hR30 : R.length ≤ 30 := by omega
  clear hL hR hF hLl hB hptH hRl HFS HFL HFM HAT
  go_enter Try.func78, Try.ntmps78
  go_wp2_with (go_at_call 98; refine (HH.out _ (by exact hc)).mono ?_; rintro e wt ⟨At, ct, rfl, ot, bt⟩)
  obtain ⟨Pt, Ct, hA1, hA2⟩ := ot.cells
  clear ot
  go_loop [3, 4, 5, 14] (fun a b d i => ∃ k : Nat, k ≤ R.length ∧ i = .int .i64 k ∧ a = .int .i64 ((nd L (F k)).1 : Nat) ∧ b = .int .i64 ((nd L (F k)).2 : Nat) ∧ d = .int .i64 (F k : Nat)) (fun _ _ _ i => R.length - (intOf i).toNat)
  case atStart => exact ⟨0, Nat.zero_le _, rfl, by rw [HF0.out]; rfl, by rw [HF0.out]; rfl, by rw [HF0.out]; rfl⟩
  case round =>
    obtain ⟨k, hk, rfl, rfl, rfl, rfl⟩ := hrel
    by_cases hlt : k < R.length
    · obtain ⟨b, o, rfl, hcc⟩ := hA1 (by omega)
      have hck := hcc k hlt
      have hr0 := hA2 k hlt
      have HFS1 := hid (HFS'.out k hlt)
      have hfm := HFM'.out (k + 1) hlt
      rw [HFS1.out] at hfm
      have HAT1 := hid (HAT'.out k · hlt)
      obtain ⟨r, hre⟩ : ∃ r, r = R.getD k [] := ⟨_, rfl⟩
      obtain ⟨Ar, hAr⟩ : ∃ Ar, Ar = Pt k := ⟨_, rfl⟩
      obtain ⟨Cr, hCr⟩ : ∃ Cr, Cr = Ct k := ⟨_, rfl⟩
      obtain ⟨f, hf⟩ : ∃ f, f = F k := ⟨_, rfl⟩
      rw [← hre] at hck hr0 HFS1 HAT1 hfm
      rw [← hf] at HFS1 HAT1 hfm ⊢
      rw [← hAr, ← hCr] at hck
      rw [← hAr] at hr0
      have HR0 := hid hr0
      clear hcc hre hr0 hAr hCr hf
      go_wp2_with fail
      go_loop [3, 4, 5, 20] (fun a b d j => ∃ m : Nat, m ≤ r.length ∧ j = .int .i64 m ∧ a = .int .i64 ((nd L (f + m)).1 : Nat) ∧ b = .int .i64 ((nd L (f + m)).2 : Nat) ∧ d = .int .i64 ((f + m : Nat) : Int)) (fun _ _ _ j => r.length - (intOf j).toNat)
      case atStart => exact ⟨0, Nat.zero_le _, rfl, rfl, rfl, rfl⟩
      case round =>
        obtain ⟨m, hm, rfl, rfl, rfl, rfl⟩ := hrel
        by_cases hml : m < r.length
        · obtain ⟨b3, o3, rfl, hcr⟩ := HR0.out (by omega)
          have hcm := hcr m hml
          have hat := HAT1.out m hml
          rw [← hat] at hcm
          have hjl : f + m < L.length := by omega
          obtain ⟨n1, n2, n3, n4, n5⟩ := HND.out (f + m) hjl
          have hpo := (HPO.out (f + m) hjl).1
          have hs1 := HS1.out (f + m)
          have hs2 := HS2.out (f + m)
          have hm1 : f + m + 1 = f + (m + 1) := by omega
          obtain ⟨x, hx⟩ : ∃ x : Nat, L.getD (f + m) 0 = x := ⟨(L.getD (f + m) 0).toNat, by omega⟩
          rw [hx] at hcm hpo hs1 hs2 n2 n3
          rw [Int.toNat_natCast] at hs1 hs2 n2 n3
          obtain ⟨p, hp⟩ : ∃ p, p = (nd L (f + m)).1 := ⟨_, rfl⟩
          obtain ⟨q, hq⟩ : ∃ q, q = (nd L (f + m)).2 := ⟨_, rfl⟩
          rw [← hp] at n1 n3 n4 hs1 hs2
          rw [← hq] at n2 n3 n5 hs1 hs2
          rw [← hp, ← hq]
          obtain ⟨j, hj⟩ : ∃ j, j = f + m := ⟨_, rfl⟩
          rw [← hj] at hjl hs1 hs2 n1 n3 hm1 ⊢
          have HJ := hid hj
          obtain ⟨a1, ha1⟩ : ∃ a1, a1 = p * (j + 1) := ⟨_, rfl⟩
          obtain ⟨b1, hb1⟩ : ∃ b1, b1 = q * x := ⟨_, rfl⟩
          rw [← ha1] at n1 n3 hs1 hs2
          rw [← hb1] at n2 n3 hs1 hs2
          have e1 : (p : Int) * ((j : Int) + 1) = (a1 : Int) := by rw [ha1, Int.natCast_mul]; rfl
          have e2 : (q : Int) * (x : Int) = (b1 : Int) := by rw [hb1, Int.natCast_mul]
          have hw1 : IntKind.i64.wrap ((p : Int) * ((j : Int) + 1)) = (a1 : Int) := by rw [e1]; exact IntWalk.i64_in _ (by omega)
          have hw2 : IntKind.i64.wrap ((q : Int) * (x : Int)) = (b1 : Int) := by rw [e2]; exact IntWalk.i64_in _ (by omega)
          have HGC := hid fun W => crGcd_any b1 a1 b1 W (Nat.le_refl _) (by omega) (by omega)
          obtain ⟨g, hg⟩ : ∃ g, g = Nat.gcd a1 b1 := ⟨_, rfl⟩
          rw [← hg] at HGC n3 hs1 hs2
          have hg0 : ¬ (g : Int) = 0 := by omega
          have la : a1 / g ≤ a1 := Nat.div_le_self _ _
          have lb : b1 / g ≤ b1 := Nat.div_le_self _ _
          have HW1 := hid (show wrap64 ((a1 : Int) / (g : Int)) = ((a1 / g : Nat) : Int) from IntWalk.wrap64_in _ (by show (-9223372036854775808 : Int) ≤ ((a1 / g : Nat) : Int) ∧ ((a1 / g : Nat) : Int) ≤ 9223372036854775807; omega))
          have HW2 := hid (show wrap64 ((b1 : Int) / (g : Int)) = ((b1 / g : Nat) : Int) from IntWalk.wrap64_in _ (by show (-9223372036854775808 : Int) ≤ ((b1 / g : Nat) : Int) ∧ ((b1 / g : Nat) : Int) ≤ 9223372036854775807; omega))
          have HSA := hid hs1
          have HSB := hid hs2
          have HM1 := hid hm1
          clear hcr hat hx hp hq hj ha1 hb1 hg e1 e2 hs1 hs2 hm1 la lb
          go_wp2_with (go_at_call 99; refine (HGC.out _).mono ?_; rintro e w' ⟨rfl, rfl⟩)
          go_round
          case rel =>
            refine ⟨m + 1, by omega, by go_num, ?_, ?_, ?_⟩
            · rw [← HM1.out, HSA.out]; exact congrArg _ HW1.out
            · rw [← HM1.out, HSB.out]; exact congrArg _ HW2.out
            · rw [← HM1.out]; go_num
          case measure => simp [intOf]; omega
        · have hmr : m = r.length := by omega
          subst hmr
          have hfe := HFS1.out
          rw [← hfe]
          clear hfe
          go_wp2_with fail
          go_round
          case rel => exact ⟨k + 1, by omega, by go_num, rfl, rfl, rfl⟩
          case measure => simp [intOf]; omega
    · have hkl : k = R.length := by omega
      subst hkl
      have hfl := HFL'.out
      rw [hfl]
      obtain ⟨o1, o2, _, o4, o5⟩ := HNF.out
      have hq := HQ.out
      obtain ⟨p, hp⟩ : ∃ p, p = (nd L L.length).1 := ⟨_, rfl⟩
      obtain ⟨q, hqq⟩ : ∃ q, q = (nd L L.length).2 := ⟨_, rfl⟩
      rw [← hp] at o1 o4 hq
      rw [← hqq] at o2 o5 hq
      rw [← hp, ← hqq]
      have HQ2 := hid hq
      have HW1 := hid (show wrap64 ((p : Int) / (q : Int)) = ((p / q : Nat) : Int) from IntWalk.wrap64_in _ (by show (-9223372036854775808 : Int) ≤ ((p / q : Nat) : Int) ∧ ((p / q : Nat) : Int) ≤ 9223372036854775807; omega))
      have hq0 : ¬ (q : Int) = 0 := by omega
      clear hfl hq hp hqq o5
      go_wp2_with fail
      go_ret
      refine ⟨?_, by first | exact bt | exact bt.trans (Below.refl _ _)⟩
      rw [← HQ2.out]; exact congrArg _ (congrArg _ HW1.out)

def ccB (xs : List Int) : Bool := good xs && decide (xs.sum ≤ 20)
def ccF (xs : List Int) : Int := if ccB xs then (chN xs : Int) else 0

end Go.Proofs.Ytmjncedijddmmaa
