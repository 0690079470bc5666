/-
  Contracts: FromCore of the model.
-/
import Derived.Test.YtmjncedijddmmaaR30
import Derived.Test.YtmjncedijddmmaaR28
namespace Go.Proofs.Ytmjncedijddmmaa
open Go.RowKit

def mostN (rows : List (List Int)) : Nat → Nat
  | 0 => 0
  | k + 1 => max (mostN rows k) (rowsR rows k).length
theorem mostN_ge (rows : List (List Int)) : ∀ k i, i < k → (rowsR rows i).length ≤ mostN rows k
  | 0, i, h => absurd h (Nat.not_lt_zero _)
  | k + 1, i, h => by
    rw [mostN]
    by_cases e : i = k
    · subst e; omega
    · have := mostN_ge rows k i (by omega); omega
theorem mostN_le (rows : List (List Int)) (m : Nat) : ∀ k, (∀ i, i < k → (rowsR rows i).length ≤ m) → mostN rows k ≤ m
  | 0, _ => Nat.zero_le _
  | k + 1, h => by
    have := mostN_le rows m k fun i hi => h i (by omega)
    have := h k (by omega)
    rw [mostN]; omega
/-- How many beads the model takes. -/
def moN (p : List Int) (rows : List (List Int)) : Nat := mulN rows.length p.length + rows.length * mostN rows rows.length
theorem mo_facts {p : List Int} {rows : List (List Int)} (h : fcOk p rows = true) :
    p.length ≤ moN p rows ∧ moN p rows ≤ 40 ∧ (∀ i, i < rows.length → (rowsR rows i).length ≤ ctN rows.length p (moN p rows) i) ∧ fcP rows.length p (moN p rows) (rowsR rows) = fcF p rows := by
  have h0 := h
  unfold fcOk at h
  rw [Bool.and_eq_true, Bool.and_eq_true, decide_eq_true_eq] at h
  obtain ⟨h1, h2, h3⟩ := h
  have hg := fun i hi => (good_iff _).1 (all_rows.1 h2 i hi)
  have hcr : crB p rows.length = true := by unfold isCoreF at h1; exact (Bool.and_eq_true _ _ ▸ h1).1
  have hin := inB_iff.1 (crB_good hcr).2
  have Gp := (good_iff p).1 (crB_good hcr).1
  have hpl := Gp.len
  have hps := Gp.sum0
  have hpls := len_sum p fun j hj => by have := Gp.pos j hj; omega
  have hb := mulN_bd (t := rows.length) (n := p.length) (by omega)
  have hb3 := mulN_bd (t := rows.length) (n := 30) (by omega)
  have hs0 := sumN_nn rows.length fun i hi => (hg i hi).sum0
  obtain ⟨S, hS⟩ : ∃ S : Nat, sumN (fun i => (rowsR rows i).sum) rows.length = S := ⟨(sumN (fun i => (rowsR rows i).sum) rows.length).toNat, by have := hs0.1; omega⟩
  have hmo : mostN rows rows.length ≤ S := mostN_le rows S _ fun i hi => by
    have h4 := len_sum (rowsR rows i) fun j hj => by have := (hg i hi).pos j hj; omega
    have := hs0.2 i hi
    rw [hS] at this; omega
  rw [hS] at h3
  have hts : rows.length * mostN rows rows.length ≤ rows.length * S := Nat.mul_le_mul_left _ hmo
  have hts2 : ((rows.length * S : Nat) : Int) = (rows.length : Int) * S := Int.natCast_mul _ _
  have h40 : moN p rows ≤ 40 := by unfold moN; omega
  have hct := ct_mul h1 (n := mulN rows.length p.length) hb.1 (mostN rows rows.length) (by unfold moN at h40; omega)
  have hlen : ∀ i, i < rows.length → (rowsR rows i).length ≤ ctN rows.length p (moN p rows) i := fun i hi => by
    have := mostN_ge rows rows.length i hi
    unfold moN; rw [hct i hi]; omega
  have hpm : p.length ≤ moN p rows := by unfold moN; omega
  refine ⟨hpm, h40, hlen, ?_⟩
  have hN : fcF p rows = fcP rows.length p (mulN rows.length 30) (rowsR rows) := by simp [fcF, h0]
  rw [hN]
  have henough := fc_enough h1 (n := mulN rows.length 30) (by omega) hg (by rw [hS]; exact h3)
  have d1 := Nat.dvd_of_mod_eq_zero (mulN_dvd rows.length 30)
  have d2 : rows.length ∣ moN p rows := Nat.dvd_add (Nat.dvd_of_mod_eq_zero (mulN_dvd rows.length p.length)) (Nat.dvd_mul_right _ _)
  rcases Nat.le_total (moN p rows) (mulN rows.length 30) with h5 | h5
  · obtain ⟨k, hk⟩ := Nat.dvd_sub d1 d2
    have e : mulN rows.length 30 = moN p rows + rows.length * k := by omega
    rw [e] at hb3 ⊢
    exact ((fc_mul h1 hpm hg hlen k (by omega)).1).symm
  · obtain ⟨k, hk⟩ := Nat.dvd_sub d2 d1
    have e : moN p rows = mulN rows.length 30 + rows.length * k := by omega
    rw [e]
    exact (fc_mul h1 (by omega) hg henough k (by omega)).1

theorem l1Most_any (a b : Nat) (w : World) :
    Calls Try.prog 84 #[.int .i64 a, .int .i64 b] w fun e w' => e = .returned (.int .i64 (max a b : Nat)) ∧ w = w' := by
  by_cases h : b < a
  · rw [Nat.max_eq_left (by omega)]
    go_enter Try.func84, Try.ntmps84
    go_wp2_with fail
    go_ret
    exact ⟨rfl, rfl⟩
  · rw [Nat.max_eq_right (by omega)]
    go_enter Try.func84, Try.ntmps84
    go_wp2_with fail
    go_ret
    exact ⟨rfl, rfl⟩

theorem mo_wrap {l t M : Nat} (ht : 2 ≤ t ∧ t ≤ 6) (hl : l ≤ 30) (hM : M ≤ 40) : wrap64 (wrap64 (((l : Int) + (t : Int) - 1) / (t : Int) + (M : Int)) * (t : Int)) = ((((l + t - 1) / t + M) * t : Nat) : Int) := by
  have h1 : ((l : Int) + (t : Int) - 1) / (t : Int) = (((l + t - 1) / t : Nat) : Int) := by
    rw [show (l : Int) + (t : Int) - 1 = ((l + t - 1 : Nat) : Int) by omega]; rfl
  have h2 : (l + t - 1) / t ≤ l + t - 1 := Nat.div_le_self _ _
  rw [h1]
  generalize (l + t - 1) / t = d at h2 ⊢
  have h3 : wrap64 ((d : Int) + (M : Int)) = ((d + M : Nat) : Int) := by
    rw [← Int.natCast_add]; exact IntWalk.wrap64_in _ (by omega)
  have h4 : (d + M) * t ≤ 80 * 6 := Nat.mul_le_mul (by omega) (by omega)
  rw [h3, ← Int.natCast_mul]
  exact IntWalk.wrap64_in _ (by omega)

theorem abf_map (f : Nat → List Int) (t : Nat) : ∀ n, n ≤ t → abfL t (fun i => ((List.range t).map f).getD i []) n = abfL t f n
  | 0, _ => rfl
  | n + 1, h => by rw [abfL, abfL, abf_map f t n (by omega), show ((List.range t).map f).getD n [] = f n by simp [List.getD, show n < t by omega]]
theorem fieldBeads2 (A : Option Addr) (n c : Nat) (t : Int) (W : World) : (Instr.field 56 (.agg #[.int .i64 t, .slice A n c]) 1).run Try.prog W = .ok (.slice A n c) W := by kernel_rfl
/-- The model's abacus from its rows. -/
theorem fcFrom_any (t : Nat) (p : List Int) (n : Nat) (q : Nat → List Int) (A : Option Addr) (c : Nat) (w : World) (ht : 2 ≤ t ∧ t ≤ 6) (hc : isCoreF p t = true) (hl : p.length ≤ n) (hn : n ≤ 40) (G : ∀ i, i < t → Good (q i)) (hq : ∀ i, i < t → (q i).length ≤ ctN t p n i) (h : Cells2 w A ((List.range t).map (fcR t p n q))) :
    Calls Try.prog 86 #[.slice A t c] w fun e w' => ∃ A' c', e = .returned (.agg #[.int .i64 t, .slice A' (fcA t p n q).length c']) ∧ Own w' w.heap.size A' c' (fcA t p n q) ∧ Below w.heap.size w w' := by
  obtain ⟨R, pw, pos, len, sum⟩ := fc_facts hc hl (by omega) G hq
  have hnd := fc_nodup (t := t) (p := p) (n := n) (by omega) G
  have e := abf_map (fcR t p n q) t t (Nat.le_refl _)
  have hil := (insF_all hnd).2.2
  have hle : (abfL t (fcR t p n q) t).length = n := by unfold fcA at len; rw [← hil]; exact len
  have hx := abFrom_any A c ((List.range t).map (fcR t p n q)) t w (by simp) (by omega) (by rw [e]; exact hnd) (by rw [e, hle]; omega) (fun i hi => by
    have hg : ((List.range t).map (fcR t p n q)).getD i [] = fcR t p n q i := by simp [List.getD, hi]
    rw [hg]
    have hct := ct_le t p n i
    refine ⟨by unfold fcR; rw [beadsL_len]; omega, fun j hj => (beads_rise (G i hi) (by omega)).bd j hj⟩) h
  rw [e] at hx
  rw [show (fcA t p n q).length = (abfL t (fcR t p n q) t).length from hil]
  exact hx

set_option maxRecDepth 100000 in
set_option maxHeartbeats 8000000 in
theorem crFrom_any (A : Option Addr) (c : Nat) (xs : List Int) (A2 : Option Addr) (c2 : Nat) (rows : List (List Int)) (w : World) (hco : isCoreF xs rows.length = true) (hg : rows.all good = true) (hc : Cells w A xs) (hc2 : Cells2 w A2 rows) :
    Calls Try.prog 56 #[.slice A xs.length c, .slice A2 rows.length c2] w fun e w' => ∃ A' c', e = .returned (.tuple #[.slice A' (fcF xs rows).length c', .bool (fcOk xs rows)]) ∧ Own w' w.heap.size A' c' (fcF xs rows) ∧ Below w.heap.size w w' := by
  obtain ⟨i1, hj, hy0, hy1, hy2⟩ := info_parts Try.infoInts
  have hgg := fun i hi => (good_iff _).1 (all_rows.1 hg i hi)
  have hcr : crB xs rows.length = true := by have := hco; unfold isCoreF at this; exact (Bool.and_eq_true _ _ ▸ this).1
  have hin := inB_iff.1 (crB_good hcr).2
  have Gp := (good_iff xs).1 (crB_good hcr).1
  have HN := hid (show 2 ≤ rows.length ∧ rows.length ≤ 6 by omega)
  have HPX := hid fun W (h : Cells W A xs) => ptSum_any A xs c W Gp.len (fun j hj => ⟨by have := Gp.pos j hj; omega, by have := Gp.le j hj; omega⟩) h
  have HPS := hid fun (i : Nat) (hi : i < rows.length) A1 c1 W (h : Cells W A1 (rowsR rows i)) => ptSum_any A1 (rowsR rows i) c1 W (hgg i hi).len (fun j hj => ⟨by have := (hgg i hi).pos j hj; omega, by have := (hgg i hi).le j hj; omega⟩) h
  have HSB := hid (show ∀ i, i < rows.length → 0 ≤ (rowsR rows i).sum ∧ (rowsR rows i).sum ≤ 30 ∧ (rowsR rows i).length ≤ 30 from fun i hi => ⟨(hgg i hi).sum0, (hgg i hi).sum, (hgg i hi).len⟩)
  have hx30 : 0 ≤ xs.sum ∧ xs.sum ≤ 30 := ⟨Gp.sum0, Gp.sum⟩
  have hxl := Gp.len
  have hok : fcOk xs rows = decide (xs.sum + rows.length * sumN (fun i => (rowsR rows i).sum) rows.length ≤ 30) := by unfold fcOk; rw [hco, hg, Bool.true_and, Bool.true_and]
  have HF0 := hid (show fcOk xs rows = false → fcF xs rows = [] from fun h => by simp [fcF, h])
  have HF1 := hid (fun h : fcOk xs rows = true => mo_facts h)
  obtain ⟨bb, hbb⟩ : ∃ bb, bb = fcOk xs rows := ⟨_, rfl⟩
  obtain ⟨F, hF⟩ : ∃ F, F = fcF xs rows := ⟨_, rfl⟩
  rw [← hbb, ← hF] at HF0 HF1
  rw [← hbb, ← hF]
  rw [← hbb] at hok
  have HOK := hid hok
  clear hbb hF hok
  obtain ⟨Pt, Ct, hA1, hA2⟩ := hc2
  have HA1 := hid hA1
  have HA2 := hid hA2
  clear hA1 hA2
  go_enter Try.func56, Try.ntmps56
  go_wp2_with fail
  refine (HPX.out _ hc).mono ?_
  rintro e w1 ⟨rfl, rfl⟩
  go_wp2_with fail
  go_loop [7, 23] (fun v i => ∃ k : Nat, k ≤ rows.length ∧ i = .int .i64 k ∧ ∃ s : Int, v = .int .i64 s ∧ Hid (s = xs.sum + rows.length * sumN (fun i => (rowsR rows i).sum) k ∧ 0 ≤ sumN (fun i => (rowsR rows i).sum) k ∧ sumN (fun i => (rowsR rows i).sum) k ≤ 30 * k)) (fun _ i => rows.length - (intOf i).toNat)
  case atStart => exact ⟨0, Nat.zero_le _, rfl, xs.sum, rfl, hid ⟨by simp [sumN], by simp [sumN], by simp [sumN]⟩⟩
  case round =>
    obtain ⟨k, hk, rfl, s, rfl, HS⟩ := hrel
    have hn6 := HN.out
    have hs1 := HS.out
    obtain ⟨S, hSS⟩ : ∃ S, S = sumN (fun i => (rowsR rows i).sum) k := ⟨_, rfl⟩
    rw [← hSS] at hs1
    by_cases hlt : k < rows.length
    · obtain ⟨b, o, rfl, hcc⟩ := HA1.out (by omega)
      have hck := hcc k hlt
      have hrow := HA2.out k hlt
      have hcall := HPS.out k hlt (Pt k) (Ct k) w hrow
      have hsb := HSB.out k hlt
      unfold rowsR at hcall
      obtain ⟨r, hr⟩ : ∃ r, r = rows.getD k [] := ⟨_, rfl⟩
      rw [← hr] at hck hcall
      have hrs : (rowsR rows k).sum = r.sum := by rw [hr]; rfl
      rw [hrs] at hsb
      have HCK := hid hcall
      obtain ⟨z, hz⟩ : ∃ z, z = r.sum := ⟨_, rfl⟩
      rw [← hz] at HCK hsb hrs
      have hm1 : (rows.length : Int) * S ≤ 6 * (30 * 6) := Int.mul_le_mul (by omega) (by omega) (by omega) (by omega)
      have hm2 : 0 ≤ (rows.length : Int) * S := Int.mul_nonneg (by omega) (by omega)
      have hm3 : (rows.length : Int) * z ≤ 6 * 30 := Int.mul_le_mul (by omega) (by omega) (by omega) (by omega)
      have hm4 : 0 ≤ (rows.length : Int) * z := Int.mul_nonneg (by omega) (by omega)
      have hw1 : wrap64 ((rows.length : Int) * z) = (rows.length : Int) * z := IntWalk.wrap64_in _ (by omega)
      have hw2 : wrap64 (s + (rows.length : Int) * z) = s + (rows.length : Int) * z := IntWalk.wrap64_in _ (by omega)
      have HNX := hid (show s + (rows.length : Int) * z = xs.sum + rows.length * sumN (fun i => (rowsR rows i).sum) (k + 1) ∧ 0 ≤ sumN (fun i => (rowsR rows i).sum) (k + 1) ∧ sumN (fun i => (rowsR rows i).sum) (k + 1) ≤ 30 * ((k + 1 : Nat) : Int) by
        rw [sumN, hrs, ← hSS, Int.mul_add]; omega)
      have HW := hid (show wrap64 (s + wrap64 ((rows.length : Int) * z)) = s + (rows.length : Int) * z by rw [hw1, hw2])
      clear hcc hrow hcall hr hz hm1 hm2 hm3 hm4 hw1 hw2 hrs hs1 hSS hsb HS
      go_wp2_with fail
      refine HCK.out.mono ?_
      rintro e w2 ⟨rfl, rfl⟩
      go_wp2_with fail
      go_round
      case rel => exact ⟨k + 1, by omega, by go_num, _, by rw [HW.out], HNX⟩
      case measure => simp [intOf]; omega
    · have hkl : k = rows.length := by omega
      subst hkl
      by_cases h30 : s ≤ 30
      case neg =>
        have e1 : bb = false := by rw [HOK.out, ← hSS, ← hs1.1]; exact decide_eq_false h30
        have e2 := HF0.out e1
        subst e1
        subst e2
        clear hSS hs1
        go_wp2_with fail
        go_ret2
        exact ⟨none, 0, rfl, own_nil _ _, Below.refl _ _⟩
      have e1 : bb = true := by rw [HOK.out, ← hSS, ← hs1.1]; exact decide_eq_true h30
      obtain ⟨m1, m2, m3, m4⟩ := HF1.out e1
      subst e1
      clear hSS hs1 HS HOK
      go_wp2_with fail
      go_loop [10, 38] (fun v i => ∃ j : Nat, j ≤ rows.length ∧ i = .int .i64 j ∧ v = .int .i64 (mostN rows j : Nat)) (fun _ i => rows.length - (intOf i).toNat)
      case atStart => exact ⟨0, Nat.zero_le _, rfl, rfl⟩
      case round =>
        obtain ⟨j, hj', rfl, rfl⟩ := hrel
        by_cases hlt2 : j < rows.length
        · obtain ⟨b, o, rfl, hcc⟩ := HA1.out (by omega)
          have hck := hcc j hlt2
          have HMX := hid fun W => l1Most_any (mostN rows j) (rowsR rows j).length W
          rw [show max (mostN rows j) (rowsR rows j).length = mostN rows (j + 1) from rfl] at HMX
          unfold rowsR at HMX
          obtain ⟨r, hr⟩ : ∃ r, r = (rows.getD j []).length := ⟨_, rfl⟩
          rw [← hr] at hck HMX
          clear hcc hr
          go_wp2_with fail
          refine (HMX.out _).mono ?_
          rintro e w2 ⟨rfl, rfl⟩
          go_wp2_with fail
          go_round
          case rel => exact ⟨j + 1, by omega, by go_num, rfl⟩
          case measure => simp [intOf]; omega
        · have hjl : j = rows.length := by omega
          subst hjl
          have HAB := hid fun W (h : Cells W A xs) => abBeads_any A c xs (moN xs rows) W m2 m1 (fun j hj => ⟨by have := Gp.pos j hj; omega, by have := Gp.le j hj; omega⟩) h
          have hM : mostN rows rows.length ≤ 40 := by
            have := m2
            unfold moN at this
            have h1 : 1 * mostN rows rows.length ≤ rows.length * mostN rows rows.length := Nat.mul_le_mul_right _ (by omega)
            omega
          have HMO := hid (show wrap64 (wrap64 (((xs.length : Int) + (rows.length : Int) - 1) / (rows.length : Int) + ((mostN rows rows.length : Nat) : Int)) * (rows.length : Int)) = (moN xs rows : Nat) by
            rw [mo_wrap HN.out hxl hM, show moN xs rows = ((xs.length + rows.length - 1) / rows.length + mostN rows rows.length) * rows.length by unfold moN mulN; rw [Nat.add_mul, Nat.mul_comm rows.length]])
          have hne : ¬ (rows.length : Int) = 0 := by omega
          have hgb := beadsL_goodB Gp m1 m2
          have GB := goodB_iff.1 hgb
          have HRN := hid fun A1 c1 W (h : Cells W A1 (beadsL xs (moN xs rows))) => abRows_any rows.length A1 c1 (beadsL xs (moN xs rows)) W HN.out (by rw [beadsL_len]; exact m2) GB.rise.bd h
          rw [beadsL_len] at HRN
          have hnq : ∀ i, i < rows.length → ctN rows.length xs (moN xs rows) i ≤ 40 := fun i _ => by have := ct_le rows.length xs (moN xs rows) i; omega
          have HBQ := hid fun (i : Nat) (hi : i < rows.length) A1 c1 W (h : Cells W A1 (rowsR rows i)) => abBeads_any A1 c1 (rowsR rows i) (ctN rows.length xs (moN xs rows) i) W (hnq i hi) (m3 i hi) (fun j hj => ⟨by have := (hgg i hi).pos j hj; omega, by have := (hgg i hi).le j hj; omega⟩) h
          have HRL := hid (show ∀ i, (rnL rows.length (beadsL xs (moN xs rows)) i).length = ctN rows.length xs (moN xs rows) i from fun _ => rfl)
          obtain ⟨R5, _, _, len5, _⟩ := fc_facts hco m1 (by omega) hgg m3
          have HAF := hid fun A1 c1 W (h : Cells2 W A1 ((List.range rows.length).map (fcR rows.length xs (moN xs rows) (rowsR rows)))) => fcFrom_any rows.length xs (moN xs rows) (rowsR rows) A1 c1 W HN.out hco m1 m2 hgg m3 h
          have HPP := hid fun A1 c1 W (h : Cells W A1 (fcA rows.length xs (moN xs rows) (rowsR rows))) => abParts_any A1 c1 (fcA rows.length xs (moN xs rows) (rowsR rows)) W (by rw [len5]; omega) R5.bd h
          change Hid (∀ A1 c1 W (h : Cells W A1 (fcA rows.length xs (moN xs rows) (rowsR rows))), Calls Try.prog 44 #[.slice A1 (fcA rows.length xs (moN xs rows) (rowsR rows)).length c1] W fun e w' => ∃ A' c', e = .returned (.slice A' (fcP rows.length xs (moN xs rows) (rowsR rows)).length c') ∧ Own w' W.heap.size A' c' (fcP rows.length xs (moN xs rows) (rowsR rows)) ∧ Below W.heap.size W w') at HPP
          rw [m4] at HPP
          change Hid (∀ (i : Nat) (hi : i < rows.length) A1 c1 W (h : Cells W A1 (rowsR rows i)), Calls Try.prog 41 #[.slice A1 (rowsR rows i).length c1, .int .i64 (ctN rows.length xs (moN xs rows) i : Nat)] W fun e w' => ∃ A' c', e = .returned (.slice A' (ctN rows.length xs (moN xs rows) i) c') ∧ Own w' W.heap.size A' c' (fcR rows.length xs (moN xs rows) (rowsR rows) i) ∧ Below W.heap.size W w') at HBQ
          have HFL := hid (show ∀ i, (fcR rows.length xs (moN xs rows) (rowsR rows) i).length = ctN rows.length xs (moN xs rows) i from fun i => by unfold fcR; rw [beadsL_len])
          generalize fcA rows.length xs (moN xs rows) (rowsR rows) = X at HAF HPP
          generalize fcR rows.length xs (moN xs rows) (rowsR rows) = f at HAF HBQ HFL
          generalize beadsL xs (moN xs rows) = L at HAB HRN HRL
          generalize ctN rows.length xs (moN xs rows) = ct at HBQ HRL HFL
          generalize moN xs rows = n1 at HAB HMO HRN
          have hrowl : ∀ k, ((List.range k).map f).length = k := fun k => by simp
          have HRW := hid hrowl
          clear m1 m2 m3 m4 hnq R5 len5 hgb GB hrowl hM
          go_wp2_with fail
          rw [HMO.out]
          refine (HAB.out _ hc).mono ?_
          rintro e w1 ⟨A1, c1, rfl, o1, b1⟩
          have y1 := Box2.new w1 56 (.int .i64 rows.length) (.slice A1 n1 c1)
          have hb1 : Below w.heap.size w (w1.alloc (.cells #[.int .i64 rows.length, .slice A1 n1 c1] 56)) := b1.alloc b1.size _
          have g1 := y1.cell0
          have g2 := y1.cell1
          have O2 := hid (o1.cells.below (w' := w1.alloc (.cells #[.int .i64 rows.length, .slice A1 n1 c1] 56)) ((Below.refl _ _).alloc (Nat.le_refl _) _))
          clear o1
          go_wp2_with fail
          refine (HRN.out _ _ _ O2.out).mono ?_
          rintro e w2 ⟨A3, c3, rfl, o3, b2⟩
          have HB2 := hid (Below.next hb1 b2)
          obtain ⟨Pr, Cr, hR1, hR2⟩ := o3.cells
          rw [rnS_len] at hR1 hR2
          have HR1 := hid hR1
          clear hR1 hR2 o3 g1 g2 y1
          go_wp2_with fail
          go_loopw [14, 65] (fun v i wr => ∃ k : Nat, k ≤ rows.length ∧ i = .int .i64 k ∧ (∃ P C, Hid (Push wr w2.heap.size v ((List.range k).map f) P C)) ∧ Below w2.heap.size w2 wr) (fun _ i _ => rows.length - (intOf i).toNat)
          case atStart => exact ⟨0, Nat.zero_le _, rfl, ⟨_, _, hid (push_nil _ _)⟩, Below.refl _ _⟩
          case round =>
            obtain ⟨k, hk, rfl, ⟨P, C, HP2⟩, hbel⟩ := hrel
            have hszr := hbel.size
            by_cases hlt : k < rows.length
            · obtain ⟨b, o, rfl, hcc⟩ := HA1.out (by omega)
              have hck := ((HB2.out.cell (World.block_lt_of_cell? w _ (hcc k hlt))).trans (hcc k hlt))
              have hck2 := (hbel.cell (World.block_lt_of_cell? w2 _ hck)).trans hck
              obtain ⟨b4, o4, rfl, hcr4⟩ := HR1.out (by omega)
              have hcr5 := (hbel.cell (World.block_lt_of_cell? w2 _ (hcr4 k hlt))).trans (hcr4 k hlt)
              rw [rnS_get _ _ _ hlt, HRL.out k] at hcr5
              have hrow := ((HA2.out k hlt).below HB2.out).below hbel
              have HCK := hid (HBQ.out k hlt (Pt k) (Ct k) wr hrow)
              unfold rowsR at HCK
              obtain ⟨r, hr⟩ : ∃ r, r = rows.getD k [] := ⟨_, rfl⟩
              rw [← hr] at hck2 HCK
              obtain ⟨m, hm⟩ : ∃ m, m = ct k := ⟨_, rfl⟩
              have hfm : (f k).length = m := by rw [hm]; exact HFL.out k
              have HFM := hid hfm
              rw [← hm] at HCK hcr5
              have HS := hid (show (List.range (k + 1)).map f = (List.range k).map f ++ [f k] by rw [List.range_succ, List.map_append]; rfl)
              have HKL := hid (HRW.out k)
              clear hcc hck hcr4 hrow hr hm hfm
              go_wp2_with fail
              refine HCK.out.mono ?_
              rintro e w3 ⟨A5, c5, rfl, o5, b5⟩
              have hsz5 := b5.size
              rw [← HFM.out]
              have HO5 := hid o5
              clear o5
              go_wp2_with (at_builtin; refine wpList_append_own _ rfl _ _ 34 rfl w2.heap.size 22 i1 (.slice none 0 0) 1 24 Try.underlying34 hj hy0 hy1 hy2 rfl (by decide) _ _ _ rfl ((HP2.out.below b5).out.alloc _) ⟨w3.heap.size, 0, none⟩ 1 1 [.slice A5 (f k).length c5] rfl rfl one_at (one_cellS _ _ _) (by rw [HKL.out]; unfold maxLen; omega) (by rw [HKL.out]; omega) (by simp; omega) ?_)
              intro v' w4 hown' hgrow _
              have hb1 : Below w2.heap.size w2 w4 := (((hbel.trans (b5.mono hszr))).alloc (by omega) _).grown hgrow (by simp; omega) (fun q hq => (HP2.out.out.lt q hq).1)
              have hp2 := HP2.out.push b5 HO5.out hszr (by rw [HKL.out]; exact hown') hgrow
              rw [← HS.out] at hp2
              have HP3 := hid hp2
              clear hown' hgrow hp2
              go_wp2_with fail
              go_roundw
              case rel => exact ⟨k + 1, by omega, by go_num, ⟨_, _, HP3⟩, hb1⟩
              case measure => simp [intOf]; omega
            · have hkl : k = rows.length := by omega
              subst hkl
              obtain ⟨A', c', rfl, ho⟩ := HP2.out.own2
              have hoc := ho.cells
              have HCA := hid (HAF.out A' c' wr hoc)
              clear ho hoc HP2
              rw [HRW.out]
              have hb2 := Below.next HB2.out hbel
              go_wp2_with fail
              refine HCA.out.mono ?_
              rintro e w5 ⟨A6, c6, rfl, o6, b6⟩
              have HCP := hid (HPP.out A6 c6 w5 o6.cells)
              have hb3 := Below.next hb2 b6
              have hs3 := hb3.size
              have hfd := fieldBeads2 A6 X.length c6 rows.length w5
              clear o6
              go_wp2_with fail
              refine HCP.out.mono ?_
              rintro e w6 ⟨A7, c7, rfl, o7, b7⟩
              go_wp2_with fail
              go_ret2
              exact ⟨A7, c7, rfl, o7.more hs3, Below.next hb3 b7⟩

set_option maxRecDepth 100000 in
set_option maxHeartbeats 8000000 in
theorem spec_FromCore (A : Option Addr) (c : Nat) (xs : List Int) (A2 : Option Addr) (c2 : Nat) (rows : List (List Int)) (w : World) (hl : xs.length ≤ 1048576) (hc : Cells w A xs) (hl2 : rows.length ≤ 1048576 ∧ tot rows ≤ 1048576) (hc2 : Cells2 w A2 rows) :
    Calls Try.prog 29 #[.slice A xs.length c, .slice A2 rows.length c2] w fun e w' => ∃ A' c', e = .returned (.tuple #[.slice A' (fcF xs rows).length c', .bool (fcOk xs rows)]) ∧ Own w' w.heap.size A' c' (fcF xs rows) ∧ Below w.heap.size w w' := by
  cases hg : crB xs rows.length
  · have e1 : fcOk xs rows = false := by simp [fcOk, isCoreF, hg]
    have e2 : fcF xs rows = [] := by simp [fcF, e1]
    rw [e1, e2]
    have HG := hid hg; clear hg e1 e2
    go_enter Try.func29, Try.ntmps29
    go_wp2_with (go_at_call 39; refine (crT_any _ _ _ _ _ hl hc _ HG.out).mono ?_; rintro e w' ⟨rfl, n, rfl⟩)
    go_ret2
    exact ⟨none, 0, rfl, own_nil _ _, below_drew' _ _⟩
  have G := (good_iff xs).1 (crB_good hg).1
  have hdi : isCoreF xs rows.length = decide ((rimCs xs rows.length).length = 0) := by
    rw [isCoreF_t hg, show rimCellsF xs rows.length = pairs (rimCs xs rows.length) by simp [rimCellsF, hg], pairs_len]
  have HI := hid fun W h => crIs_any A c xs rows.length W G h
  rw [← hdi] at HI
  have HG := hid hg
  cases hco : isCoreF xs rows.length
  · have e1 : fcOk xs rows = false := by simp [fcOk, hco]
    have e2 : fcF xs rows = [] := by simp [fcF, e1]
    rw [e1, e2]
    rw [hco] at HI
    clear hg hdi hco e1 e2
    go_enter Try.func29, Try.ntmps29
    go_wp2_with (first | (go_at_call 39; refine (crT_any _ _ _ _ _ hl hc _ HG.out).mono ?_; rintro e w' ⟨rfl, n, rfl⟩) | (go_at_call 54; refine (HI.out _ (by exact hc)).mono ?_; rintro e w2 ⟨rfl, b2⟩))
    go_ret2
    exact ⟨none, 0, rfl, own_nil _ _, Below.next (below_drew' w n) b2⟩
  rw [hco] at HI
  have HF := hid fun (hall : rows.all good = true) W (h : Cells W A xs) (h2 : Cells2 W A2 rows) => crFrom_any A c xs A2 c2 rows W hco hall h h2
  have HB := hid (show ∀ k, k < rows.length → good (rowsR rows k) = false → fcOk xs rows = false ∧ fcF xs rows = [] from fun k hk h => by
    have e1 : fcOk xs rows = false := by
      unfold fcOk
      cases ha : rows.all good
      · simp
      · rw [all_rows.1 ha k hk] at h; cases h
    exact ⟨e1, by simp [fcF, e1]⟩)
  have HAR := hid (fun h => (all_rows (rows := rows)).2 h)
  have HPG := hid fun (k : Nat) (hk : k < rows.length) A1 c1 W (h : Cells W A1 (rowsR rows k)) => ptGood_any A1 (rowsR rows k) c1 W (by have := tot_get_le rows k hk; unfold rowsR; omega) h
  obtain ⟨bb, hbb⟩ : ∃ bb, bb = fcOk xs rows := ⟨_, rfl⟩
  obtain ⟨F, hF⟩ : ∃ F, F = fcF xs rows := ⟨_, rfl⟩
  rw [← hbb, ← hF] at HF HB
  rw [← hbb, ← hF]
  have HC2 := hid hc2
  obtain ⟨Pt, Ct, hA1, hA2⟩ := hc2
  have HA1 := hid hA1
  have HA2 := hid hA2
  clear hA1 hA2 hbb hF hg hdi hco G
  go_enter Try.func29, Try.ntmps29
  go_wp2_with (first | (go_at_call 39; refine (crT_any _ _ _ _ _ hl hc _ HG.out).mono ?_; rintro e w' ⟨rfl, n, rfl⟩) | (go_at_call 54; refine (HI.out _ (by exact hc)).mono ?_; rintro e w2 ⟨rfl, b2⟩))
  have B2 := hid (Below.next (below_drew' w n) b2)
  go_loopw [23] (fun i wr => ∃ k : Nat, k ≤ rows.length ∧ i = .int .i64 k ∧ Hid (Below w.heap.size w wr) ∧ Hid (∀ j, j < k → good (rowsR rows j) = true)) (fun i _ => rows.length - (intOf i).toNat)
  case atStart => exact ⟨0, Nat.zero_le _, rfl, B2, hid fun j hj => absurd hj (Nat.not_lt_zero _)⟩
  case round =>
    obtain ⟨k, hk, rfl, HBE, HK⟩ := hrel
    by_cases hlt : k < rows.length
    · obtain ⟨b, o, rfl, hcc⟩ := HA1.out (by omega)
      have hck := (HBE.out.cell (World.block_lt_of_cell? w _ (hcc k hlt))).trans (hcc k hlt)
      have hrow := (HA2.out k hlt).below HBE.out
      have HCK := hid (HPG.out k hlt (Pt k) (Ct k) wr hrow)
      have HBK := hid (HB.out k hlt)
      obtain ⟨g, hg⟩ : ∃ g, g = good (rowsR rows k) := ⟨_, rfl⟩
      rw [← hg] at HCK HBK
      unfold rowsR at HCK
      obtain ⟨r, hr⟩ : ∃ r, r = rows.getD k [] := ⟨_, rfl⟩
      rw [← hr] at hck HCK
      have HGK := hid hg
      clear hcc hrow hr hg
      go_wp2_with fail
      refine HCK.out.mono ?_
      rintro e w3 ⟨rfl, n3, rfl⟩
      cases g
      · obtain ⟨q1, q2⟩ := HBK.out rfl
        subst q1
        subst q2
        go_wp2_with fail
        go_ret2
        exact ⟨none, 0, rfl, own_nil _ _, Below.next HBE.out (below_drew' _ _)⟩
      · have HBE2 := hid (Below.next HBE.out (below_drew' wr n3))
        go_wp2_with fail
        go_roundw
        case rel => exact ⟨k + 1, by omega, by go_num, HBE2, hid fun j hj => by
          by_cases e : j = k
          · subst e; exact HGK.out.symm
          · exact HK.out j (by omega)⟩
        case measure => simp [intOf]; omega
    · have hkl : k = rows.length := by omega
      subst hkl
      have HFF := hid (HF.out (HAR.out HK.out) wr (hc.below HBE.out) (HC2.out.later HBE.out))
      have hs := HBE.out.size
      go_wp2_with fail
      refine HFF.out.mono ?_
      rintro e w5 ⟨A5, c5, rfl, o5, b5⟩
      go_wp2_with fail
      go_ret2
      exact ⟨A5, c5, rfl, o5.more hs, Below.next HBE.out b5⟩
theorem bound_FromCore (xs : List Int) (rows : List (List Int)) : (fcF xs rows).length ≤ 1048576 := by
  cases h : fcOk xs rows
  · simp [fcF, h]
  · obtain ⟨m1, m2, m3, m4⟩ := mo_facts h
    have h0 := h
    unfold fcOk at h0
    rw [Bool.and_eq_true, Bool.and_eq_true] at h0
    have hg := fun i hi => (good_iff _).1 (all_rows.1 h0.2.1 i hi)
    obtain ⟨_, _, _, len, _⟩ := fc_facts h0.1 m1 (by omega) hg m3
    rw [← m4]
    have := partsL_len (fcA rows.length xs (moN xs rows) (rowsR rows))
    unfold fcP; omega
end Go.Proofs.Ytmjncedijddmmaa
